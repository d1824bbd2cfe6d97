/- What is proved here: cells and places of them that are drawn: at most sixty cells, a vector of few words, in new memory; nothing turns but the source's own block.
   What is proved here: the inputs that FnTurned draws: some cells, some vector and some byte, or what is none.
   What is proved here: the laws' comparison of two slices of the same numbers says that they are the same; nothing that was there turns.
   What is proved here: the laws' comparison of two vectors of the same bits and words says that they are the same; nothing that was there turns.
   What is proved here: the laws' comparison of two steps' answers says that they are the same; nothing that was there turns. -/
import Derived.Test.YtfeolbgenpknfaaGreatQDrawCellW
import Derived.Test.YtfeolbgenpknfaaGreatQDrawVecW
import Derived.Test.YtfeolbgenpknfaaGreatQSpecStepW
import Derived.Test.YtfeolbgenpknfaaGreatQSpecKRightWToIsW
import Derived.Deep.RegionHeld3
import Derived.Deep.RegionWith
import Derived.Test.YtfeolbgenpknfaaGreatQDrawPlainWToDrawTurnW
import Derived.Test.YtfeolbgenpknfaaGreatQRowsDToVecS
import Derived.Test.YtfeolbgenpknfaaGreatQSpecStartWToVecAddW
namespace Go.Proofs.YtfeolbgenpknfaaGreat
open Go.RowKit

/-- Some cells and some vector, in new memory. -/
def CelVec (w : World) (e : Ending) (w' : World) : Prop :=
  ∃ (s : Option Addr) (n cp : Nat) (f : Nat → Cel) (bv : Int) (sv : Option Addr) (m cv : Nat) (g : Nat → Int), e = .returned (.tuple #[.slice s n cp, .agg #[.int .i64 bv, .slice sv m cv]]) ∧ n ≤ 60 ∧ CSl w' w.heap.size w'.heap.size s n f ∧ (∀ i, i < n → (f i).c.size ≤ 256) ∧ m ≤ 1000 ∧ FarV w' w.heap.size sv m g
theorem CSl.keptC {W W' : World} {lo n : Nat} {s : Option Addr} {f : Nat → Cel} (h : CSl W lo W.heap.size s n f) (hb : Below W.heap.size W W') : CSl W' lo W'.heap.size s n f := by
  rcases h with h | ⟨g, h1, h2, h3, h4⟩
  · exact Or.inl h
  · exact Or.inr ⟨g, h1, h2, Nat.lt_of_lt_of_le h3 hb.size, h4.kept hb h3⟩
theorem CSl.setLow {W : World} {lo hi n : Nat} {s : Option Addr} {f : Nat → Cel} (h : CSl W lo hi s n f) (p : Addr) (v : Value) (hp : p.block < lo) : CSl (W.setCell p v) lo hi s n f := by
  rcases h with h | ⟨g, h1, h2, h3, h4⟩
  · exact Or.inl h
  · exact Or.inr ⟨g, h1, h2, h3, h4.other (row := some p.block) ⟨rfl, rfl, rfl, by simp [World.setCell], fun k _ hk => Below.heap_setCell _ _ _ _ (fun e => hk (by rw [e]))⟩ (fun e => by injection e with e; omega)⟩
theorem FarV.keptC {W W' : World} {lo n : Nat} {s : Option Addr} {f : Nat → Int} (h : FarV W lo s n f) (hb : Below W.heap.size W W') : FarV W' lo s n f := h.kept (row := none) (grown_call (World.grownBy.refl _ _) hb) (fun k hk => by cases hk)
theorem OwnS.farC {W : World} {lo n : Nat} {s : Option Addr} {f : Nat → Int} (h : OwnS W lo s n f) : FarV W lo s n f := by
  rcases h with h | ⟨g, rfl, h2, h3⟩
  · exact Or.inl h
  · exact h3.far h2
theorem FarV.lowC {w : World} {lo lo' n : Nat} {sa : Option Addr} {f : Nat → Int} (h : FarV w lo sa n f) (hl : lo' ≤ lo) : FarV w lo' sa n f := h.low hl
theorem boxed_storeC {W : World} {p : Nat} {t : TypeId} {b b' : Int} {s s' : Option Addr} {n n' c c' : Nat} (h : Boxed W p t b s n c) : Boxed ((W.setCell ⟨p, 0, none⟩ (.int .i64 b')).setCell ⟨p, 1, none⟩ (.slice s' n' c')) p t b' s' n' c' := by
  unfold Boxed at h ⊢
  have h1 := heap_setCell_same W p 0 _ _ (.int .i64 b') h
  have h2 := heap_setCell_same _ p 1 _ _ (.slice s' n' c') h1
  rw [h2]
  rfl
end Go.Proofs.YtfeolbgenpknfaaGreat
namespace Go.Proofs.YtfeolbgenpknfaaGreat
open Go.RowKit

/-- Some cells, some vector and some number. -/
def CelVecIntT (e : Ending) (w' : World) : Prop :=
  ∃ (s : Option Addr) (n cp : Nat) (f : Nat → Cel) (bv : Int) (sv : Option Addr) (m cv : Nat) (g : Nat → Int) (x : Int), e = .returned (.tuple #[.slice s n cp, .agg #[.int .i64 bv, .slice sv m cv], .int .i64 x]) ∧ n ≤ 60 ∧ CRow w' w'.heap.size s n f ∧ (∀ i, i < n → (f i).c.size ≤ 256) ∧ m ≤ 1000 ∧ Row w' w'.heap.size sv m g ∧ -1 ≤ x ∧ x ≤ 256
theorem eightS (k : Nat) (hk : k < 8) : ∃ x : Int, (#[Value.int .i64 97, .int .i64 98, .int .i64 97, .int .i64 98, .int .i64 99, .int .i64 65, .int .i64 0, .int .i64 256] : Array Value)[k]? = some (.int .i64 x) ∧ -1 ≤ x ∧ x ≤ 256 := by
  rcases (show k = 0 ∨ k = 1 ∨ k = 2 ∨ k = 3 ∨ k = 4 ∨ k = 5 ∨ k = 6 ∨ k = 7 from by omega) with rfl | rfl | rfl | rfl | rfl | rfl | rfl | rfl
  all_goals exact ⟨_, rfl, by decide, by decide⟩
theorem boxed_grownZ {W W' : World} {b p : Nat} {t : TypeId} {x : Int} {sa : Option Addr} {n cap : Nat} (h : Boxed W p t x sa n cap) (hg : W.grownBy W' (some b)) (hne : p ≠ b) : Boxed W' p t x sa n cap := by
  unfold Boxed
  rw [hg.block p h.lt (fun e => hne (by injection e))]
  exact h
/-- How far the drawing has come: the answer's box, the source, the cells. -/
structure TStepDr (w W : World) (lo : Nat) (sa : Option Addr) (len cap : Nat) (s : Option Addr) (n : Nat) (f : Nat → Cel) : Prop where
  below : Below w.heap.size w W
  box : Boxed W w.heap.size 29 0 none 0 0
  src : Src W (w.heap.size + 1) sa len cap
  cells : CSl W lo W.heap.size s n f
  lt : w.heap.size + 1 < lo
theorem TStepDr.grown {w W W' : World} {lo : Nat} {sa : Option Addr} {len cap : Nat} {s : Option Addr} {n : Nat} {f : Nat → Cel} (h : TStepDr w W lo sa len cap s n f) (hg : W.grownBy W' (some (w.heap.size + 1))) (hs : Src W' (w.heap.size + 1) sa len cap) : TStepDr w W' lo sa len cap s n f :=
  ⟨below_of_only h.below (by omega) h.below.size hg, boxed_grownZ h.box hg (by omega), hs, h.cells.src hg h.lt, h.lt⟩
theorem TStepDr.call {w W W' : World} {lo : Nat} {sa : Option Addr} {len cap : Nat} {s : Option Addr} {n : Nat} {f : Nat → Cel} (h : TStepDr w W lo sa len cap s n f) (hb : Below W.heap.size W W') : TStepDr w W' lo sa len cap s n f :=
  ⟨h.below.trans (hb.mono h.below.size), h.box.kept hb rfl, h.src.call hb, h.cells.keptC hb, h.lt⟩
theorem TStepDr.done {w W : World} {lo : Nat} {sa : Option Addr} {len cap : Nat} {s : Option Addr} {n cp : Nat} {f : Nat → Cel} {bv : Int} {sv : Option Addr} {m cv : Nat} {g : Nat → Int} {x : Int} (h : TStepDr w W lo sa len cap s n f) (hn : n ≤ 60) (hs : ∀ i, i < n → (f i).c.size ≤ 256) (hm : m ≤ 1000) (hx0 : -1 ≤ x) (hx1 : x ≤ 256) (hv : FarV W (w.heap.size + 1) sv m g) :
    CelVecIntT (.returned (.tuple #[.slice s n cp, .agg #[.int .i64 bv, .slice sv m cv], .int .i64 x])) ((W.setCell ⟨w.heap.size, 0, none⟩ (.int .i64 bv)).setCell ⟨w.heap.size, 1, none⟩ (.slice sv m cv)) ∧ Below w.heap.size w ((W.setCell ⟨w.heap.size, 0, none⟩ (.int .i64 bv)).setCell ⟨w.heap.size, 1, none⟩ (.slice sv m cv)) := by
  have hl9 : w.heap.size < lo := by have := h.lt; omega
  exact ⟨⟨s, n, cp, f, bv, sv, m, cv, g, x, rfl, hn, by have h9 := ((h.cells.setLow ⟨w.heap.size, 0, none⟩ (.int .i64 bv) hl9).setLow ⟨w.heap.size, 1, none⟩ (.slice sv m cv) hl9).row; simpa [World.setCell] using h9, hs, hm, ((hv.setLow _ _ (by show w.heap.size < w.heap.size + 1; omega)).setLow _ _ (by show w.heap.size < w.heap.size + 1; omega)).row, hx0, hx1⟩, (h.below.setCell (p := ⟨w.heap.size, 0, none⟩) (Nat.le_refl _) _).setCell (p := ⟨w.heap.size, 1, none⟩) (Nat.le_refl _) _⟩
open Classical in
set_option maxRecDepth 100000 in
set_option maxHeartbeats 4000000 in
theorem drawTurnStep_any (w : World) (sa : Option Addr) (len cap : Nat) (hl : len ≤ 1048576) (hby : Bytes8 w w.heap.size sa len) :
    Calls Tryz.prog 7 #[.slice sa len cap] w fun e w' => CelVecIntT e w' ∧ Below w.heap.size w w' := by
  have q0 := boxing w 29 0 none 0 0
  have HY : Hid (Bytes8 (w.alloc (.cells #[.int .i64 0, .slice none 0 0] 29)) (w.alloc (.cells #[.int .i64 0, .slice none 0 0] 29)).heap.size sa len) := by
    have h1 : Bytes8 (w.alloc (.cells #[.int .i64 0, .slice none 0 0] 29)) w.heap.size sa len := hby.kept (row := none) (grown_call (World.grownBy.refl _ _) q0.1) (fun k hk => by cases hk)
    rcases h1 with h | ⟨bb, off, zs, h1, h2, h3⟩
    · exact Or.inl h
    · exact Or.inr ⟨bb, off, zs, h1, Nat.lt_of_lt_of_le h2 q0.1.size, h3⟩
  clear hby
  go_enter Tryz.func7, Tryz.ntmps7
  go_wp2_with fail
  generalize w.alloc (.cells #[.int .i64 0, .slice none 0 0] 29) = v0 at *
  refine (source_any v0 sa len cap hl HY.out).mono ?_
  rintro e w1 ⟨rfl, hb1, hS1⟩
  have B1 : Hid (Below w.heap.size w w1) := q0.1.trans (hb1.mono q0.1.size)
  have X1 : Hid (Boxed w1 w.heap.size 29 0 none 0 0) := q0.2.1.kept hb1 rfl
  rw [q0.2.2] at hS1
  have S1 : Hid (Src w1 (w.heap.size + 1) sa len cap) := hS1
  have hv0 := q0.2.2
  rw [hv0]
  clear hb1 hS1 HY q0 hv0
  go_wp2_with fail
  refine (l08Cells_any w1 (w.heap.size + 1) sa len cap S1.out).mono ?_
  rintro e w2 ⟨⟨s, n, cp, f, rfl, hn, hsl, hsm⟩, hg2, hS2⟩
  have D2 : Hid (TStepDr w w2 w1.heap.size sa len cap s n f) := ⟨below_of_only B1.out (by omega) B1.out.size hg2, boxed_grownZ X1.out hg2 (by omega), hS2, hsl, S1.out.lt⟩
  have HSM : Hid (∀ i, i < n → (f i).c.size ≤ 256) := hsm
  generalize w1.heap.size = lo at *
  clear hsl hsm hg2 hS2 B1 X1 S1
  go_wp2_with fail
  have q3 : Below w2.heap.size w2 (w2.alloc (.cells #[.int .i64 97, .int .i64 98, .int .i64 97, .int .i64 98, .int .i64 99, .int .i64 65, .int .i64 0, .int .i64 256] 2)) := (Below.refl _ _).alloc (Nat.le_refl _) _
  have HQ3 : Hid (Below w2.heap.size w2 (w2.alloc (.cells #[.int .i64 97, .int .i64 98, .int .i64 97, .int .i64 98, .int .i64 99, .int .i64 65, .int .i64 0, .int .i64 256] 2))) := q3
  refine (n_any _ (w.heap.size + 1) sa len cap 8 (by decide) (D2.out.src.call q3)).mono ?_
  clear q3
  rintro e w3 ⟨⟨r, rfl, hr0, hr1, _⟩, hg3, hS3⟩
  have hr2 : r < 8 := hr1 (by decide)
  obtain ⟨k, rfl⟩ := Int.eq_ofNat_of_zero_le hr0
  obtain ⟨x, hx, hx0, hx1⟩ := eightS k (by omega)
  have hk8 : (k : Int) < 8 := by omega
  have D3 : Hid (TStepDr w w3 lo sa len cap s n f) := (D2.out.call HQ3.out).grown hg3 hS3
  have hw2 : w.heap.size + 1 < w2.heap.size := D2.out.src.lt
  have hcx : w3.cell? ⟨w2.heap.size, k, none⟩ = some (.int .i64 x) := hg3.cell (a := ⟨w2.heap.size, k, none⟩) (v := .int .i64 x) (by rw [World.cell?_alloc_mark]; exact hx) (fun e => by injection e with e; have h9 : w2.heap.size = w.heap.size + 1 := e; omega)
  clear hg3 hS3 hx hr1 hr2 D2 HQ3
  go_wp2_with fail
  refine (one_any w3 (w.heap.size + 1) sa len cap 10 (by decide) D3.out.src).mono ?_
  rintro e w4 ⟨⟨y, rfl⟩, hg4, hS4⟩
  have D4 : Hid (TStepDr w w4 lo sa len cap s n f) := D3.out.grown hg4 hS4
  clear hg4 hS4 D3 hcx
  have HX : Hid (-1 ≤ x ∧ x ≤ 256) := ⟨hx0, hx1⟩
  clear hx0 hx1
  have HKR : Hid (∀ W, TStepDr w W lo sa len cap s n f → Calls Tryz.prog 39 #[.slice s n cp] W fun e w' => e = .returned (.bool (decide (CellsOk n f))) ∧ Below W.heap.size W w') := fun W hW => specKRight_any s n cp f W (by unfold maxLen; omega) hW.cells.row (fun i hi => by have := HSM.out i hi; unfold maxLen; omega)
  have HVEC : Hid (∀ (W : World), TStepDr w W lo sa len cap s n f → Calls Tryz.prog 40 #[.pointer (some ⟨w.heap.size + 1, 0, none⟩)] W fun e w' => ∃ (bv : Int) (sv : Option Addr) (m cv : Nat) (g : Nat → Int), e = .returned (.agg #[.int .i64 bv, .slice sv m cv]) ∧ TStepDr w w' lo sa len cap s n f ∧ m ≤ 1000 ∧ FarV w' (w.heap.size + 1) sv m g) := fun W hW =>
    (vec_any W (w.heap.size + 1) sa len cap hW.src).mono (fun e w' h => by
      obtain ⟨bv, sv, m, cv, g, h1, _, _, h4, h5, h6, h7⟩ := h
      exact ⟨bv, sv, m, cv, g, h1, hW.grown h6 h7, h4, h5.low (by have := hW.src.lt; omega)⟩)
  have HOF : Hid (CellsOk n f → ∀ (W : World), TStepDr w W lo sa len cap s n f → Calls Tryz.prog 41 #[.pointer (some ⟨w.heap.size + 1, 0, none⟩), .int .i64 (n : Int)] W fun e w' => ∃ (bv : Int) (sv : Option Addr) (m cv : Nat) (g : Nat → Int), e = .returned (.agg #[.int .i64 bv, .slice sv m cv]) ∧ TStepDr w w' lo sa len cap s n f ∧ m ≤ 1000 ∧ FarV w' (w.heap.size + 1) sv m g) := fun hok W hW => by
    have h1 := hok.1
    refine (vecOf_any W (w.heap.size + 1) sa len cap (n : Int) ((n + 31) / 32) hW.src (by omega) (by omega) (by omega)).mono ?_
    rintro e w' ⟨g, co, h0, rfl, hgl, hown, _, _, hg4, hS4⟩
    exact ⟨_, _, _, _, h0, rfl, hW.grown hg4 hS4, by omega, (hown.far hgl).low (by have := hW.src.lt; omega)⟩
  cases y with
  | true =>
    go_wp2_with fail
    refine (HVEC.out w4 D4.out).mono ?_
    rintro e w5 ⟨bv, sv, m, cv, g, rfl, hD, hm, hfar⟩
    have HE : Hid (_ ∧ _) := hD.done (cp := cp) (bv := bv) (cv := cv) hn HSM.out hm HX.out.1 HX.out.2 hfar
    obtain ⟨a0, a1, a2, a3⟩ := hD.box.four
    have al := hD.box.lt
    clear hD hfar
    go_wp2_with fail
    refine bodyPost_ret (v := .tuple #[.slice s n cp, .agg #[.int .i64 bv, .slice sv m cv], .int .i64 x]) (by simp [results, Tryz.results7, go_sem, a0, a1]) rfl ?_
    exact HE.out
  | false =>
    have KR := HKR.out w4 D4.out
    by_cases hok : CellsOk n f
    · rw [decide_eq_true hok] at KR
      have HV := HOF.out hok
      have HVO : Hid (∀ (W : World), TStepDr w W lo sa len cap s n f → Calls Tryz.prog 41 #[.pointer (some ⟨w.heap.size + 1, 0, none⟩), .int .i64 (n : Int)] W fun e w' => ∃ (bv : Int) (sv : Option Addr) (m cv : Nat) (g : Nat → Int), e = .returned (.agg #[.int .i64 bv, .slice sv m cv]) ∧ TStepDr w w' lo sa len cap s n f ∧ m ≤ 1000 ∧ FarV w' (w.heap.size + 1) sv m g) := HV
      clear HV hok
      go_wp2_with fail
      refine KR.mono ?_
      rintro e w5 ⟨rfl, hb5⟩
      have D5 : Hid (TStepDr w w5 lo sa len cap s n f) := D4.out.call hb5
      clear hb5 KR
      go_wp2_with fail
      refine (HVO.out w5 D5.out).mono ?_
      rintro e w6 ⟨bv, sv, m, cv, g, rfl, hD, hm, hfar⟩
      have HE : Hid (_ ∧ _) := hD.done (cp := cp) (bv := bv) (cv := cv) hn HSM.out hm HX.out.1 HX.out.2 hfar
      obtain ⟨a0, a1, a2, a3⟩ := hD.box.four
      have al := hD.box.lt
      clear hD hfar
      go_wp2_with fail
      refine bodyPost_ret (v := .tuple #[.slice s n cp, .agg #[.int .i64 bv, .slice sv m cv], .int .i64 x]) (by simp [results, Tryz.results7, go_sem, a0, a1]) rfl ?_
      exact HE.out
    · rw [decide_eq_false hok] at KR
      clear hok
      go_wp2_with fail
      refine KR.mono ?_
      rintro e w5 ⟨rfl, hb5⟩
      have D5 : Hid (TStepDr w w5 lo sa len cap s n f) := D4.out.call hb5
      clear hb5 KR
      go_wp2_with fail
      refine (HVEC.out w5 D5.out).mono ?_
      rintro e w6 ⟨bv, sv, m, cv, g, rfl, hD, hm, hfar⟩
      have HE : Hid (_ ∧ _) := hD.done (cp := cp) (bv := bv) (cv := cv) hn HSM.out hm HX.out.1 HX.out.2 hfar
      obtain ⟨a0, a1, a2, a3⟩ := hD.box.four
      have al := hD.box.lt
      clear hD hfar
      go_wp2_with fail
      refine bodyPost_ret (v := .tuple #[.slice s n cp, .agg #[.int .i64 bv, .slice sv m cv], .int .i64 x]) (by simp [results, Tryz.results7, go_sem, a0, a1]) rfl ?_
      exact HE.out
end Go.Proofs.YtfeolbgenpknfaaGreat
namespace Go.Proofs.YtfeolbgenpknfaaGreat
open Go.RowKit

set_option maxHeartbeats 1000000 in
theorem lwRow_same (sa sb : Option Addr) (n ca cb : Nat) (f : Nat → Int) (w : World) (hn : n ≤ 1048576) (ha : Row w w.heap.size sa n f) (hb : Row w w.heap.size sb n f) :
    Calls Tryz.prog 13 #[.slice sa n ca, .slice sb n cb] w fun e w' => e = .returned (.bool true) ∧ Below w.heap.size w w' := by
  have HA : Hid (Row w w.heap.size sa n f) := ha
  have HB : Hid (Row w w.heap.size sb n f) := hb
  clear ha hb
  go_enter Tryz.func13, Tryz.ntmps13
  go_wp2
  go_loopw [5] (fun i wr => ∃ k : Nat, k ≤ n ∧ i = .int .i64 (k : Int) ∧ Below w.heap.size w wr) (fun i _ => n - (intOf i).toNat)
  case atStart => exact ⟨0, Nat.zero_le _, rfl, Below.refl _ _⟩
  case round =>
    obtain ⟨k, hk, rfl, hbel⟩ := hrel
    have HW : Hid (Below w.heap.size w wr) := hbel
    by_cases hkl : k < n
    · obtain ⟨ba, oa, rfl, hba, hca⟩ : ∃ bb off : Nat, sa = some ⟨bb, off, none⟩ ∧ bb < w.heap.size ∧ ∀ i, i < n → w.cell? ⟨bb, off + i, none⟩ = some (.int .i64 (f i)) := by
        rcases HA.out with h | h
        · omega
        · exact h
      obtain ⟨bb, ob, rfl, hbb, hcb⟩ : ∃ bb off : Nat, sb = some ⟨bb, off, none⟩ ∧ bb < w.heap.size ∧ ∀ i, i < n → w.cell? ⟨bb, off + i, none⟩ = some (.int .i64 (f i)) := by
        rcases HB.out with h | h
        · omega
        · exact h
      have cz : wr.cell? ⟨ba, oa + k, none⟩ = some (.int .i64 (f k)) := by rw [hbel.cell (p := ⟨ba, oa + k, none⟩) hba]; exact hca k hkl
      have cy : wr.cell? ⟨bb, ob + k, none⟩ = some (.int .i64 (f k)) := by rw [hbel.cell (p := ⟨bb, ob + k, none⟩) hbb]; exact hcb k hkl
      clear hca hcb hbel
      have hki : (k : Int) < (n : Int) := by omega
      have hk0 : (0 : Int) ≤ (k : Int) := by omega
      go_wp2
      go_region
      go_wp2
      go_roundw
      case rel => exact ⟨k + 1, by omega, by go_num, HW.out.drew⟩
      case measure => simp [intOf]; omega
    · have hki : ¬ (k : Int) < (n : Int) := by omega
      clear hbel
      go_wp2
      go_ret
      exact ⟨rfl, HW.out⟩

end Go.Proofs.YtfeolbgenpknfaaGreat
namespace Go.Proofs.YtfeolbgenpknfaaGreat
open Go.RowKit

set_option maxHeartbeats 1000000 in
theorem lwVec_same (b : Int) (sa sb : Option Addr) (n ca cb : Nat) (f : Nat → Int) (w : World) (hn : n ≤ 1048576) (ha : Row w w.heap.size sa n f) (hb : Row w w.heap.size sb n f) :
    Calls Tryz.prog 21 #[.agg #[.int .i64 b, .slice sa n ca], .agg #[.int .i64 b, .slice sb n cb]] w fun e w' => e = .returned (.bool true) ∧ Below w.heap.size w w' := by
  have HA : Hid (Row w w.heap.size sa n f) := ha
  have HB : Hid (Row w w.heap.size sb n f) := hb
  clear ha hb
  have hb0 : Below w.heap.size w ((w.alloc (.cells #[.int .i64 b, .slice sa n ca] 29)).alloc (.cells #[.int .i64 b, .slice sb n cb] 29)) :=
    ((Below.refl _ _).alloc (Nat.le_refl _) _).alloc (by simp) _
  have HB0 : Hid (Below w.heap.size w ((w.alloc (.cells #[.int .i64 b, .slice sa n ca] 29)).alloc (.cells #[.int .i64 b, .slice sb n cb] 29))) := hb0
  clear hb0
  go_enter Tryz.func21, Tryz.ntmps21
  go_wp2_with fail
  refine (lwRow_same sa sb n ca cb f _ hn ((HA.out.kept HB0.out).up HB0.out.size) ((HB.out.kept HB0.out).up HB0.out.size)).mono ?_
  rintro e w1 ⟨rfl, hb1⟩
  have HB1 : Hid (Below w.heap.size w w1) := HB0.out.trans (hb1.mono HB0.out.size)
  clear hb1 HB0
  go_wp2
  go_ret
  exact ⟨rfl, HB1.out⟩

end Go.Proofs.YtfeolbgenpknfaaGreat
namespace Go.Proofs.YtfeolbgenpknfaaGreat
open Go.RowKit

set_option maxHeartbeats 1000000 in
theorem lwStep_same (b : Int) (sa sb : Option Addr) (n ca cb : Nat) (t : Bool) (f : Nat → Int) (w : World) (hn : n ≤ 1048576) (ha : Row w w.heap.size sa n f) (hb : Row w w.heap.size sb n f) :
    Calls Tryz.prog 16 #[.agg #[.int .i64 b, .slice sa n ca, .bool t], .agg #[.int .i64 b, .slice sb n cb, .bool t]] w fun e w' => e = .returned (.bool true) ∧ Below w.heap.size w w' := by
  have hb0 : Below w.heap.size w ((w.alloc (.cells #[.int .i64 b, .slice sa n ca, .bool t] 39)).alloc (.cells #[.int .i64 b, .slice sb n cb, .bool t] 39)) :=
    ((Below.refl _ _).alloc (Nat.le_refl _) _).alloc (by simp) _
  have HB0 : Hid (Below w.heap.size w ((w.alloc (.cells #[.int .i64 b, .slice sa n ca, .bool t] 39)).alloc (.cells #[.int .i64 b, .slice sb n cb, .bool t] 39))) := hb0
  have C : Hid (∀ W, Below w.heap.size w W → Calls Tryz.prog 21 #[.agg #[.int .i64 b, .slice sa n ca], .agg #[.int .i64 b, .slice sb n cb]] W fun e w' => e = .returned (.bool true) ∧ Below W.heap.size W w') := fun W hW =>
    lwVec_same b sa sb n ca cb f W hn ((ha.kept hW).up hW.size) ((hb.kept hW).up hW.size)
  clear hb0 ha hb
  go_enter Tryz.func16, Tryz.ntmps16
  go_wp2_with fail
  refine (C.out _ HB0.out).mono ?_
  rintro e w1 ⟨rfl, hb1⟩
  have HB1 : Hid (Below w.heap.size w w1) := HB0.out.trans (hb1.mono HB0.out.size)
  clear hb1 HB0
  go_wp2
  go_ret
  exact ⟨rfl, HB1.out⟩
end Go.Proofs.YtfeolbgenpknfaaGreat
