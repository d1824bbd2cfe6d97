/- What is proved here: cells and places of them that are drawn: at most sixty cells, a vector of few words, in new memory; nothing turns but the source's own block.
   What is proved here: l07Some draws some cells and some vector, in new memory; nothing turns but the source's own block. -/
import Derived.Test.YtlgnplnmcdjbiaaGreatQDrawCellW
import Derived.Test.YtlgnplnmcdjbiaaGreatQDrawVecW
import Derived.Test.YtlgnplnmcdjbiaaGreatQSpecStepW
import Derived.Test.YtlgnplnmcdjbiaaGreatQSpecKRightWToIsW
import Derived.Deep.RegionHeld3
import Derived.Deep.RegionWith
namespace Go.Proofs.YtlgnplnmcdjbiaaGreat
open Go.RowKit

/-- Some cells and some vector, in new memory. -/
def CelVec (w : World) (e : Ending) (w' : World) : Prop :=
  ∃ (s : Option Addr) (n cp : Nat) (f : Nat → Cel) (bv : Int) (sv : Option Addr) (m cv : Nat) (g : Nat → Int), e = .returned (.tuple #[.slice s n cp, .agg #[.int .i64 bv, .slice sv m cv]]) ∧ n ≤ 60 ∧ CSl w' w.heap.size w'.heap.size s n f ∧ (∀ i, i < n → (f i).c.size ≤ 256) ∧ m ≤ 1000 ∧ FarV w' w.heap.size sv m g
theorem CSl.keptC {W W' : World} {lo n : Nat} {s : Option Addr} {f : Nat → Cel} (h : CSl W lo W.heap.size s n f) (hb : Below W.heap.size W W') : CSl W' lo W'.heap.size s n f := by
  rcases h with h | ⟨g, h1, h2, h3, h4⟩
  · exact Or.inl h
  · exact Or.inr ⟨g, h1, h2, Nat.lt_of_lt_of_le h3 hb.size, h4.kept hb h3⟩
theorem CSl.setLow {W : World} {lo hi n : Nat} {s : Option Addr} {f : Nat → Cel} (h : CSl W lo hi s n f) (p : Addr) (v : Value) (hp : p.block < lo) : CSl (W.setCell p v) lo hi s n f := by
  rcases h with h | ⟨g, h1, h2, h3, h4⟩
  · exact Or.inl h
  · exact Or.inr ⟨g, h1, h2, h3, h4.other (row := some p.block) ⟨rfl, rfl, rfl, by simp [World.setCell], fun k _ hk => Below.heap_setCell _ _ _ _ (fun e => hk (by rw [e]))⟩ (fun e => by injection e with e; omega)⟩
theorem FarV.keptC {W W' : World} {lo n : Nat} {s : Option Addr} {f : Nat → Int} (h : FarV W lo s n f) (hb : Below W.heap.size W W') : FarV W' lo s n f := h.kept (row := none) (grown_call (World.grownBy.refl _ _) hb) (fun k hk => by cases hk)
theorem OwnS.farC {W : World} {lo n : Nat} {s : Option Addr} {f : Nat → Int} (h : OwnS W lo s n f) : FarV W lo s n f := by
  rcases h with h | ⟨g, rfl, h2, h3⟩
  · exact Or.inl h
  · exact h3.far h2
theorem FarV.lowC {w : World} {lo lo' n : Nat} {sa : Option Addr} {f : Nat → Int} (h : FarV w lo sa n f) (hl : lo' ≤ lo) : FarV w lo' sa n f := h.low hl
theorem boxed_storeC {W : World} {p : Nat} {t : TypeId} {b b' : Int} {s s' : Option Addr} {n n' c c' : Nat} (h : Boxed W p t b s n c) : Boxed ((W.setCell ⟨p, 0, none⟩ (.int .i64 b')).setCell ⟨p, 1, none⟩ (.slice s' n' c')) p t b' s' n' c' := by
  unfold Boxed at h ⊢
  have h1 := heap_setCell_same W p 0 _ _ (.int .i64 b') h
  have h2 := heap_setCell_same _ p 1 _ _ (.slice s' n' c') h1
  rw [h2]
  rfl
end Go.Proofs.YtlgnplnmcdjbiaaGreat
namespace Go.Proofs.YtlgnplnmcdjbiaaGreat
open Go.RowKit

theorem sfield (b : Int) (s : Option Addr) (m c : Nat) (h : Bool) (w : World) : (Instr.field 30 (.agg #[.int .i64 b, .slice s m c, .bool h]) 0).run Tryz.prog w = .ok (.agg #[.int .i64 b, .slice s m c]) w := by kernel_rfl
theorem boxed_grownC {W W' : World} {b p : Nat} {t : TypeId} {x : Int} {sa : Option Addr} {n cap : Nat} (h : Boxed W p t x sa n cap) (hg : W.grownBy W' (some b)) (hne : p ≠ b) : Boxed W' p t x sa n cap := by
  unfold Boxed
  rw [hg.block p h.lt (fun e => hne (by injection e))]
  exact h
/-- How far the drawing has come: the answer's box, the cells. -/
structure SomeAt (w W : World) (b : Nat) (sa : Option Addr) (len cap : Nat) (s : Option Addr) (n : Nat) (f : Nat → Cel) : Prop where
  g : w.grownBy W (some b)
  r : Src W b sa len cap
  c : CSl W (w.heap.size + 1) W.heap.size s n f
  x : Boxed W w.heap.size 26 0 none 0 0
  lt : b < w.heap.size ∧ w.heap.size < W.heap.size
theorem SomeAt.src {w W W' : World} {b : Nat} {sa : Option Addr} {len cap : Nat} {s : Option Addr} {n : Nat} {f : Nat → Cel} (h : SomeAt w W b sa len cap s n f) (hg : W.grownBy W' (some b)) (hs : Src W' b sa len cap) : SomeAt w W' b sa len cap s n f :=
  ⟨h.g.trans hg, hs, h.c.src hg (by have := h.lt; omega), boxed_grownC h.x hg (by have := h.lt; omega), ⟨h.lt.1, Nat.lt_of_lt_of_le h.lt.2 hg.size⟩⟩
theorem SomeAt.call {w W W' : World} {b : Nat} {sa : Option Addr} {len cap : Nat} {s : Option Addr} {n : Nat} {f : Nat → Cel} (h : SomeAt w W b sa len cap s n f) (hb : Below W.heap.size W W') : SomeAt w W' b sa len cap s n f :=
  ⟨grown_call h.g hb, h.r.call hb, h.c.keptC hb, h.x.kept hb rfl, ⟨h.lt.1, Nat.lt_of_lt_of_le h.lt.2 hb.size⟩⟩
theorem SomeAt.set {w W : World} {b p i : Nat} {v : Value} {sa : Option Addr} {len cap : Nat} {s : Option Addr} {n : Nat} {f : Nat → Cel} (h : SomeAt w W b sa len cap s n f) (hp : w.heap.size < p) (hc : ∀ g o, s = some ⟨g, o, none⟩ → g ≠ p) : SomeAt w (W.setCell ⟨p, i, none⟩ v) b sa len cap s n f := by
  have hon : W.grownBy (W.setCell ⟨p, i, none⟩ v) (some p) := only_set (World.grownBy.refl _ _)
  refine ⟨grown_new h.g hon (Nat.le_of_lt hp), h.r.kept hon (fun k hk => by injection hk with hk; have := h.lt; omega), ?_, boxed_grownC h.x hon (by omega), ⟨h.lt.1, by simpa [World.setCell] using h.lt.2⟩⟩
  rcases h.c with h9 | ⟨g, h1, h2, h3, h4⟩
  · exact Or.inl h9
  · exact Or.inr ⟨g, h1, h2, Nat.lt_of_lt_of_le h3 hon.size, h4.other hon (fun e => hc g 0 h1 (by injection e with e; first | exact e | exact e.symm))⟩
/-- The answer. -/
theorem some_end {w W : World} {b : Nat} {sa : Option Addr} {len cap : Nat} {s : Option Addr} {n cp : Nat} {f : Nat → Cel} {bv : Int} {sv : Option Addr} {m cv : Nat} {g : Nat → Int} (h : SomeAt w W b sa len cap s n f) (hn : n ≤ 60) (hs : ∀ i, i < n → (f i).c.size ≤ 256) (hm : m ≤ 1000) (hv : FarV W (w.heap.size + 1) sv m g) :
    CelVec w (.returned (.tuple #[.slice s n cp, .agg #[.int .i64 bv, .slice sv m cv]])) ((W.setCell ⟨w.heap.size, 0, none⟩ (.int .i64 bv)).setCell ⟨w.heap.size, 1, none⟩ (.slice sv m cv)) ∧ w.grownBy ((W.setCell ⟨w.heap.size, 0, none⟩ (.int .i64 bv)).setCell ⟨w.heap.size, 1, none⟩ (.slice sv m cv)) (some b) ∧ Src ((W.setCell ⟨w.heap.size, 0, none⟩ (.int .i64 bv)).setCell ⟨w.heap.size, 1, none⟩ (.slice sv m cv)) b sa len cap := by
  have hon : W.grownBy ((W.setCell ⟨w.heap.size, 0, none⟩ (.int .i64 bv)).setCell ⟨w.heap.size, 1, none⟩ (.slice sv m cv)) (some w.heap.size) := only_set (only_set (World.grownBy.refl _ _))
  refine ⟨⟨s, n, cp, f, bv, sv, m, cv, g, rfl, hn, ?_, hs, hm, ?_⟩, grown_new h.g hon (Nat.le_refl _), h.r.kept hon (fun k hk => by injection hk with hk; have := h.lt; omega)⟩
  · rcases h.c with h9 | ⟨g, h1, h2, h3, h4⟩
    · exact Or.inl h9
    · exact Or.inr ⟨g, h1, by omega, Nat.lt_of_lt_of_le h3 hon.size, h4.other hon (fun e => by injection e with e; omega)⟩
  · exact ((hv.setLow _ _ (by show w.heap.size < w.heap.size + 1; omega)).setLow _ _ (by show w.heap.size < w.heap.size + 1; omega)).low (by omega)
theorem some_box {w W : World} {b : Nat} {sa : Option Addr} {len cap : Nat} {s : Option Addr} {n : Nat} {f : Nat → Cel} (h : SomeAt w W b sa len cap s n f) : ∀ p, W.heap.size ≤ p → w.heap.size < p ∧ ∀ g o, 0 < n → s = some ⟨g, o, none⟩ → g ≠ p := fun p hp => ⟨by have := h.lt; omega, fun g o hn e => by
  rcases h.c with h9 | ⟨g2, h1, h2, h3, h4⟩
  · omega
  · rw [h1] at e
    injection e with e
    injection e with e
    omega⟩
/-- What goes on while places are drawn step by step. -/
structure LoopSome (w W : World) (b : Nat) (sa : Option Addr) (len cap : Nat) (s : Option Addr) (n m : Nat) (f : Nat → Cel) (p : Nat) : Prop where
  at' : SomeAt w W b sa len cap s n f
  v : ∃ (sv : Option Addr) (cv : Nat) (A : Nat → Bool) (h : Nat → Int), Boxed W p 26 ((n : Int) + 1) sv m cv ∧ FarV W (w.heap.size + 1) sv m h ∧ VecIs h A m
theorem LoopSome.src {w W W' : World} {b : Nat} {sa : Option Addr} {len cap : Nat} {s : Option Addr} {n m : Nat} {f : Nat → Cel} {p : Nat} (h : LoopSome w W b sa len cap s n m f p) (hg : W.grownBy W' (some b)) (hs : Src W' b sa len cap) (hp : (w.heap.size < p ∧ ∀ g o, 0 < n → s = some ⟨g, o, none⟩ → g ≠ p) ∧ b < p) : LoopSome w W' b sa len cap s n m f p := by
  obtain ⟨h1, sv, cv, A, h9, hX, hF, hV⟩ := h
  exact ⟨h1.src hg hs, sv, cv, A, h9, boxed_grownC hX hg (by omega), hF.kept hg (fun k hk => by injection hk with hk; have := h1.lt; omega), hV⟩
theorem loop_store {w W : World} {b : Nat} {sa : Option Addr} {len cap : Nat} {s : Option Addr} {n m : Nat} {f : Nat → Cel} {p lo : Nat} {bv : Int} {s0 : Option Addr} {c0 : Nat} {s' : Option Addr} {c' : Nat} {h : Nat → Int} {A : Nat → Bool} (hA : SomeAt w W b sa len cap s n f) (hX : Boxed W p 26 bv s0 m c0) (ho : OwnS W lo s' m h) (hv : VecIs h A m) (hlo : p < lo) (_hn : n ≤ 60) (hn0 : 1 ≤ n) (hp : w.heap.size < p ∧ ∀ g o, 0 < n → s = some ⟨g, o, none⟩ → g ≠ p) :
    LoopSome w ((W.setCell ⟨p, 0, none⟩ (.int .i64 ((n : Int) + 1))).setCell ⟨p, 1, none⟩ (.slice s' m c')) b sa len cap s n m f p := by
  refine ⟨(hA.set hp.1 (fun g o e => hp.2 g o hn0 e)).set hp.1 (fun g o e => hp.2 g o hn0 e), s', c', A, h, boxed_storeC hX, ?_, hv⟩
  rcases ho with h9 | ⟨g, rfl, h2, h3⟩
  · exact Or.inl h9
  · exact ((h3.setOther _ _ (by show p ≠ g; omega)).setOther _ _ (by show p ≠ g; omega)).far (by omega)
open Classical in
set_option maxRecDepth 100000 in
set_option maxHeartbeats 8000000 in
theorem l07Some_any (w : World) (b : Nat) (sa : Option Addr) (len cap : Nat) (hs : Src w b sa len cap) :
    Calls Tryz.prog 27 #[.pointer (some ⟨b, 0, none⟩)] w fun e w' => CelVec w e w' ∧ w.grownBy w' (some b) ∧ Src w' b sa len cap := by
  have q0 := boxing w 26 0 none 0 0
  have HB : Hid (b < w.heap.size) := hs.lt
  have S0 : Hid (Src (w.alloc (.cells #[.int .i64 0, .slice none 0 0] 26)) b sa len cap) := hs.call q0.1
  have G0 : Hid (w.grownBy (w.alloc (.cells #[.int .i64 0, .slice none 0 0] 26)) (some b)) := grown_call (World.grownBy.refl _ _) q0.1
  clear hs
  go_enter Tryz.func27, Tryz.ntmps27
  go_wp2_with fail
  generalize w.alloc (.cells #[.int .i64 0, .slice none 0 0] 26) = v0 at *
  refine (l06Cells_any v0 b sa len cap S0.out).mono ?_
  rintro e w1 ⟨⟨s, n, cp, f, rfl, hn60, hsl, hsm⟩, hg1, hS1⟩
  have A1 : Hid (SomeAt w w1 b sa len cap s n f) := ⟨G0.out.trans hg1, hS1, hsl.low (Nat.le_of_eq q0.2.2.symm), boxed_grownC q0.2.1 hg1 (by have := HB.out; omega), HB.out, by have := hg1.size; have := q0.2.2; omega⟩
  have HSM : Hid (∀ i, i < n → (f i).c.size ≤ 256) := hsm
  clear hsl hsm hg1 hS1 q0 S0 G0
  go_wp2_with fail
  refine (one_any w1 b sa len cap 10 (by decide) A1.out.r).mono ?_
  rintro e w2 ⟨⟨x, rfl⟩, hg2, hS2⟩
  have A2 : Hid (SomeAt w w2 b sa len cap s n f) := A1.out.src hg2 hS2
  clear hg2 hS2 A1
  have HKR : Hid (∀ W, SomeAt w W b sa len cap s n f → Calls Tryz.prog 43 #[.slice s n cp] W fun e w' => e = .returned (.bool (decide (CellsOk n f))) ∧ Below W.heap.size W w') := fun W hW => specKRight_any s n cp f W (by unfold maxLen; omega) hW.c.row (fun i hi => by have := HSM.out i hi; unfold maxLen; omega)
  have VEC : ∀ (W : World), SomeAt w W b sa len cap s n f → Calls Tryz.prog 68 #[.pointer (some ⟨b, 0, none⟩)] W fun e w' => ∃ (bv : Int) (sv : Option Addr) (m cv : Nat) (g : Nat → Int), e = .returned (.agg #[.int .i64 bv, .slice sv m cv]) ∧ SomeAt w w' b sa len cap s n f ∧ m ≤ 1000 ∧ FarV w' (w.heap.size + 1) sv m g := fun W hW =>
    (vec_any W b sa len cap hW.r).mono (fun e w' h => by
      obtain ⟨bv, sv, m, cv, g, h1, _, _, h4, h5, h6, h7⟩ := h
      exact ⟨bv, sv, m, cv, g, h1, hW.src h6 h7, h4, h5.low (by have := hW.lt; omega)⟩)
  have HVEC : Hid (∀ (W : World), SomeAt w W b sa len cap s n f → Calls Tryz.prog 68 #[.pointer (some ⟨b, 0, none⟩)] W fun e w' => ∃ (bv : Int) (sv : Option Addr) (m cv : Nat) (g : Nat → Int), e = .returned (.agg #[.int .i64 bv, .slice sv m cv]) ∧ SomeAt w w' b sa len cap s n f ∧ m ≤ 1000 ∧ FarV w' (w.heap.size + 1) sv m g) := VEC
  clear VEC
  have early : Hid (x = true ∨ ¬ CellsOk n f → True) := fun _ => trivial
  cases x with
  | true =>
    clear early HKR
    go_wp2_with fail
    refine (HVEC.out w2 A2.out).mono ?_
    rintro e w3 ⟨bv, sv, m, cv, g, rfl, hA3, hm, hfar⟩
    have E3 := some_end (cp := cp) (bv := bv) (cv := cv) hA3 hn60 HSM.out hm hfar
    have HE : Hid (_ ∧ _ ∧ _) := E3
    obtain ⟨a0, a1, a2, a3⟩ := hA3.x.four
    have xl := hA3.lt.2
    clear hA3 hm hfar E3
    go_wp2_with fail
    refine bodyPost_ret (v := .tuple #[.slice s n cp, .agg #[.int .i64 bv, .slice sv m cv]]) (by simp [results, Tryz.results27, go_sem, a0, a1]) rfl ?_
    exact HE.out
  | false =>
    clear early
    have KR := HKR.out w2 A2.out
    by_cases hok : CellsOk n f
    · rw [decide_eq_true hok] at KR
      go_wp2_with fail
      refine KR.mono ?_
      rintro e w3 ⟨rfl, hb3⟩
      have A3 : Hid (SomeAt w w3 b sa len cap s n f) := A2.out.call hb3
      clear hb3 KR HKR HVEC A2
      obtain ⟨m, hm⟩ : ∃ m, m = (n + 1 + 31) / 32 := ⟨_, rfl⟩
      have VO := vecOf_any w3 b sa len cap ((n : Int) + 1) m A3.out.r (by omega) (by omega) (by omega)
      have HM : Hid (m = (n + 1 + 31) / 32) := hm
      have hm2 : m ≤ 2 := by omega
      clear hm
      go_wp2_with (first | (go_at_call 70; refine (bits_spec _ _ _ _ hn60).mono ?_; rintro e w9 ⟨rfl, hw9⟩; rw [hw9]; clear hw9 w9))
      refine VO.mono ?_
      rintro e w4 ⟨g, co, h0, rfl, hgl, hown, _, _, hg4, hS4⟩
      unfold vecV
      have A4 : Hid (SomeAt w w4 b sa len cap s n f) := A3.out.src hg4 hS4
      have O4 : Hid (FarV w4 (w.heap.size + 1) (some ⟨g, 0, none⟩) m h0 ∧ g < w4.heap.size) := ⟨(hown.far hgl).low (by have := A3.out.lt; omega), hown.1⟩
      have q5 := boxing w4 26 ((n : Int) + 1) (some ⟨g, 0, none⟩) m co
      clear VO hown hg4 hS4
      go_wp2_with fail
      generalize w4.alloc (.cells #[.int .i64 ((n : Int) + 1), .slice (some ⟨g, 0, none⟩) m co] 26) = v5 at *
      have A5 : Hid (SomeAt w v5 b sa len cap s n f) := A4.out.call q5.1
      have X5 : Hid (Boxed v5 w4.heap.size 26 ((n : Int) + 1) (some ⟨g, 0, none⟩) m co) := q5.2.1
      have F5 : Hid (FarV v5 (w.heap.size + 1) (some ⟨g, 0, none⟩) m h0) := O4.out.1.keptC q5.1
      have HP : Hid ((w.heap.size < w4.heap.size ∧ ∀ g o, 0 < n → s = some ⟨g, o, none⟩ → g ≠ w4.heap.size) ∧ b < w4.heap.size) := ⟨some_box A4.out _ (Nat.le_refl _), A4.out.r.lt⟩
      clear q5
      generalize w4.heap.size = p at *
      have HN0 : Hid (1 ≤ n) := hok.1
      refine (one_any v5 b sa len cap 2 (by decide) A5.out.r).mono ?_
      rintro e w6 ⟨⟨y, rfl⟩, hg6, hS6⟩
      have A6 : Hid (SomeAt w w6 b sa len cap s n f) := A5.out.src hg6 hS6
      have X6 : Hid (Boxed w6 p 26 ((n : Int) + 1) (some ⟨g, 0, none⟩) m co) := boxed_grownC X5.out hg6 (by have := HP.out.2; omega)
      have F6 : Hid (FarV w6 (w.heap.size + 1) (some ⟨g, 0, none⟩) m h0) := F5.out.kept hg6 (fun k hk => by injection hk with hk; have := HB.out; omega)
      clear hg6 hS6 A5 X5 F5
      cases y with
      | false =>
        obtain ⟨x0, x1⟩ := X6.out.cells
        have xl := X6.out.lt
        obtain ⟨a0, a1, a2, a3⟩ := A6.out.x.four
        have al := A6.out.lt.2
        have hne := Nat.ne_of_lt HP.out.1.1
        go_wp2_with fail
        go_region
        all_goals
          go_wp2_with fail
          refine bodyPost_ret (v := .tuple #[.slice s n cp, .agg #[.int .i64 ((n : Int) + 1), .slice (some ⟨g, 0, none⟩) m co]]) (by simp [results, Tryz.results27, go_sem, a0, a1]) rfl ?_
          have A7 : SomeAt w w6.drew b sa len cap s n f := A6.out.call ⟨rfl, rfl, rfl, Nat.le_refl _, fun _ _ => rfl⟩
          exact some_end (cp := cp) (bv := (n : Int) + 1) (cv := co) A7 hn60 HSM.out (by omega) F6.out
      | true =>
        have ST := l07Start_any s n cp m f w6 HN0.out hn60 A6.out.c.row HM.out
        have HSTEP : Hid (∀ (W : World) (c : Nat) (sv : Option Addr) (cv : Nat) (A : Nat → Bool), SomeAt w W b sa len cap s n f → c < 256 → BitsAt W sv m A → Calls Tryz.prog 42 #[.slice s n cp, .agg #[.int .i64 ((n : Int) + 1), .slice sv m cv], .int .i64 (c : Int)] W fun e w' => StepBits W ((n : Int) + 1) m (fun j => stepB f n A c j || cloB (skipB f n) (fun j => decide (0 = j)) j) (stepB f n A c n) e w') := fun W c sv cv A hW hc hA => l07Step_any s n cp c m f sv cv A W HN0.out hn60 hW.c.row HSM.out hc HM.out hA
        obtain ⟨x0, x1⟩ := X6.out.cells
        have xl := X6.out.lt
        go_wp2_with fail
        refine ST.mono ?_
        rintro e w7 ⟨h7, ⟨s7, c7, rfl, hb7, ho7⟩, hv7⟩
        unfold vecV
        have A7 : SomeAt w w7 b sa len cap s n f := A6.out.call hb7
        have X7 : Boxed w7 p 26 ((n : Int) + 1) (some ⟨g, 0, none⟩) m co := X6.out.kept hb7 rfl
        have F7 : OwnS w7 w6.heap.size s7 m h7 := ho7
        have hp6 := X6.out.lt
        have G8 : Hid (LoopSome w ((w7.setCell ⟨p, 0, none⟩ (.int .i64 ((n : Int) + 1))).setCell ⟨p, 1, none⟩ (.slice s7 m c7)) b sa len cap s n m f p) := loop_store A7 X7 F7 hv7 hp6 hn60 HN0.out HP.out.1
        obtain ⟨x0, x1, x2, x3⟩ := X7.four
        have xl := X7.lt
        clear ST hb7 ho7 hv7 A7 X7 F7 A6 X6 F6
        go_upto_region 7 with fail
        clear x0 x1 x2 x3 xl
        generalize (w7.setCell ⟨p, 0, none⟩ (.int .i64 ((n : Int) + 1))).setCell ⟨p, 1, none⟩ (.slice s7 m c7) = v8 at *
        go_wp2_with fail
        refine (n_any v8 b sa len cap 5 (by decide) G8.out.at'.r).mono ?_
        rintro e w9 ⟨⟨r, rfl, hr0, hr1, _⟩, hg9, hS9⟩
        have hr5 : r < 5 := hr1 (by decide)
        have G9 : Hid (LoopSome w w9 b sa len cap s n m f p) := G8.out.src hg9 hS9 HP.out
        clear hg9 hS9 G8 hr1
        go_wp2_with fail
        go_loopw [6] (fun iv wr => ∃ k : Nat, k ≤ 5 ∧ iv = .int .i64 (k : Int) ∧ LoopSome w wr b sa len cap s n m f p) (fun iv _ => (intOf iv).toNat)
        case atStart => exact ⟨r.toNat, by omega, by rw [Int.toNat_of_nonneg hr0], G9.out⟩
        case round =>
          obtain ⟨k, hk5, rfl, hgo⟩ := hrel
          have HG : Hid (LoopSome w wr b sa len cap s n m f p) := hgo
          obtain ⟨hA, ⟨sv, cv, A, h, hX, hF, hV⟩⟩ := hgo
          by_cases hk0 : k = 0
          · subst hk0
            have AR : Hid (SomeAt w wr b sa len cap s n f) := hA
            have FR : Hid (FarV wr (w.heap.size + 1) sv m h) := hF
            obtain ⟨x0, x1⟩ := hX.cells
            have xl := hX.lt
            obtain ⟨a0, a1, a2, a3⟩ := hA.x.four
            have al := hA.lt.2
            have hne := Nat.ne_of_lt HP.out.1.1
            clear hA hX hF hV
            go_wp2_with fail
            go_region
            all_goals
              go_wp2_with fail
              refine bodyPost_ret (v := .tuple #[.slice s n cp, .agg #[.int .i64 ((n : Int) + 1), .slice sv m cv]]) (by simp [results, Tryz.results27, go_sem, a0, a1]) rfl ?_
              have A7 : SomeAt w wr.drew b sa len cap s n f := AR.out.call ⟨rfl, rfl, rfl, Nat.le_refl _, fun _ _ => rfl⟩
              exact some_end (cp := cp) (bv := (n : Int) + 1) (cv := cv) A7 hn60 HSM.out (by omega) FR.out
          · have hki : (0 : Int) < (k : Int) := by omega
            have AR : Hid (SomeAt w wr b sa len cap s n f) := hA
            have XR : Hid (Boxed wr p 26 ((n : Int) + 1) sv m cv) := hX
            have FR : Hid (FarV wr (w.heap.size + 1) sv m h ∧ VecIs h A m) := ⟨hF, hV⟩
            obtain ⟨x0, x1, x2, x3⟩ := hX.four
            have xl := hX.lt
            have hfld := sfield
            clear hA hX hF hV
            go_wp2_with fail
            go_region_with (first
              | (go_at_call 28; (refine (n_any _ b sa len cap 3 (by decide) (by first | exact AR.out.r.drew | exact AR.out.r)).mono ?_); rintro e u1 ⟨⟨q, rfl, hq0, hq1, _⟩, hg, hS⟩; obtain ⟨c, rfl⟩ := Int.eq_ofNat_of_zero_le hq0; have hc3 : (c : Int) < 3 := hq1 (by decide); have hwc : IntKind.i64.wrap (97 + (c : Int)) = ((97 + c : Nat) : Int) := (by rw [IntKind.wrap_i64] <;> omega); have hg1 : wr.grownBy u1 (some b) := ⟨hg.os, hg.tape, hg.output, hg.size, hg.block⟩; have A8 : Hid (SomeAt w u1 b sa len cap s n f) := AR.out.src hg1 hS; have X8 : Hid (Boxed u1 p 26 ((n : Int) + 1) sv m cv) := boxed_grownC XR.out hg1 (by have := HP.out.2; omega); have B8 : Hid (BitsAt u1 sv m A) := ⟨h, (FR.out.1.kept hg1 (fun k hk => by injection hk with hk; have := HB.out; omega)).row, FR.out.2⟩; have hc256 : Hid (97 + c < 256) := (by show 97 + c < 256; omega); obtain ⟨x0, x1, x2, x3⟩ := X8.out.four; have xl := X8.out.lt; clear hg hS hg1)
              | (go_at_call 42; (refine (HSTEP.out _ (97 + c) sv cv A A8.out hc256.out B8.out).mono ?_); rintro e u2 ⟨h2, ⟨s2, c2, rfl, hb, ho⟩, hv⟩; unfold stepV; have A9 : Hid (SomeAt w u2 b sa len cap s n f) := A8.out.call hb; have X9 : Hid (Boxed u2 p 26 ((n : Int) + 1) sv m cv) := X8.out.kept hb rfl; have O9 : Hid (OwnS u2 u1.heap.size s2 m h2 ∧ VecIs h2 (fun j => stepB f n A (97 + c) j || cloB (skipB f n) (fun j => decide (0 = j)) j) m) := ⟨ho, hv⟩; have hp8 : Hid (p < u1.heap.size) := X8.out.lt; obtain ⟨x0, x1, x2, x3⟩ := X9.out.four; have xl := X9.out.lt; clear hb ho hv))
            all_goals
              go_wp2_with fail
              go_roundw
              case rel => exact ⟨k - 1, by omega, by go_num, loop_store A9.out X9.out O9.out.1 O9.out.2 hp8.out hn60 HN0.out HP.out.1⟩
              case measure => simp [intOf]; omega
    · rw [decide_eq_false hok] at KR
      clear HKR
      go_wp2_with fail
      refine KR.mono ?_
      rintro e w3 ⟨rfl, hb3⟩
      have A3 : Hid (SomeAt w w3 b sa len cap s n f) := A2.out.call hb3
      clear hb3 KR
      go_wp2_with fail
      refine (HVEC.out w3 A3.out).mono ?_
      rintro e w4 ⟨bv, sv, m, cv, g, rfl, hA3, hm, hfar⟩
      have E3 := some_end (cp := cp) (bv := bv) (cv := cv) hA3 hn60 HSM.out hm hfar
      have HE : Hid (_ ∧ _ ∧ _) := E3
      obtain ⟨a0, a1, a2, a3⟩ := hA3.x.four
      have xl := hA3.lt.2
      clear hA3 hm hfar E3
      go_wp2_with fail
      refine bodyPost_ret (v := .tuple #[.slice s n cp, .agg #[.int .i64 bv, .slice sv m cv]]) (by simp [results, Tryz.results27, go_sem, a0, a1]) rfl ?_
      exact HE.out
end Go.Proofs.YtlgnplnmcdjbiaaGreat
