/- What is proved here: the inputs that FnWalk draws: some cells, some vector and some byte, or what is none.
   What is proved here: the laws' comparison of two vectors of the same bits and words says that they are the same; nothing that was there turns.
   What is proved here: the laws' comparison of two steps' answers says that they are the same; nothing that was there turns. -/
import Derived.Test.YtlgnplnmcdjbiaaGreatQDrawCloWToDrawSomeW
import Derived.Test.YtlgnplnmcdjbiaaGreatQDrawWToBoolRowsW
import Derived.Deep.RegionHeld3
import Derived.Deep.RegionWith
import Derived.Test.YtlgnplnmcdjbiaaGreatQRowsDToVecS
import Derived.Test.YtlgnplnmcdjbiaaGreatQSpecStartWToVecAddW
namespace Go.Proofs.YtlgnplnmcdjbiaaGreat
open Go.RowKit

/-- Some cells, some vector and some number. -/
def CelVecInt (e : Ending) (w' : World) : Prop :=
  ∃ (s : Option Addr) (n cp : Nat) (f : Nat → Cel) (bv : Int) (sv : Option Addr) (m cv : Nat) (g : Nat → Int) (x : Int), e = .returned (.tuple #[.slice s n cp, .agg #[.int .i64 bv, .slice sv m cv], .int .i64 x]) ∧ n ≤ 60 ∧ CRow w' w'.heap.size s n f ∧ (∀ i, i < n → (f i).c.size ≤ 256) ∧ m ≤ 1000 ∧ Row w' w'.heap.size sv m g ∧ -1 ≤ x ∧ x ≤ 256
theorem nine (k : Nat) (hk : k < 9) : ∃ x : Int, (#[Value.int .i64 97, .int .i64 98, .int .i64 97, .int .i64 98, .int .i64 99, .int .i64 65, .int .i64 0, .int .i64 256, .int .i64 (-1)] : Array Value)[k]? = some (.int .i64 x) ∧ -1 ≤ x ∧ x ≤ 256 := by
  rcases (show k = 0 ∨ k = 1 ∨ k = 2 ∨ k = 3 ∨ k = 4 ∨ k = 5 ∨ k = 6 ∨ k = 7 ∨ k = 8 from by omega) with rfl | rfl | rfl | rfl | rfl | rfl | rfl | rfl | rfl
  all_goals exact ⟨_, rfl, by decide, by decide⟩
theorem grown_drawN {w W : World} {b : Nat} (hg : w.drew.grownBy W (some b)) : w.grownBy W (some b) := ⟨hg.os, hg.tape, hg.output, hg.size, hg.block⟩
theorem grown_lateN {w W : World} {b : Nat} {o : Obj} (hg : (w.alloc o).drew.grownBy W (some b)) : w.grownBy W (some b) := (World.grownBy_alloc w o _).trans (grown_drawN hg)
theorem celVec_late {w W : World} {e : Ending} (h : CelVecInt e W ∧ Below w.heap.size w W) (o : Obj) : CelVecInt e (W.alloc o) ∧ Below w.heap.size w (W.alloc o) := by
  obtain ⟨⟨s, n, cp, f, bv, sv, m, cv, g, x, rfl, hn, hc, hs, hm, hv, h0, h1⟩, hb⟩ := h
  have h9 : Below W.heap.size W (W.alloc o) := (Below.refl _ _).alloc (Nat.le_refl _) _
  exact ⟨⟨s, n, cp, f, bv, sv, m, cv, g, x, rfl, hn, (hc.kept h9).up h9.size, hs, hm, (hv.kept h9).up h9.size, h0, h1⟩, hb.alloc hb.size _⟩
/-- How far the drawing has come: the answer's box, the second one, the cells, the vector. -/
structure StepDr (w W : World) (lo q : Nat) (s : Option Addr) (n : Nat) (f : Nat → Cel) (bv : Int) (sv : Option Addr) (m cv : Nat) (g : Nat → Int) : Prop where
  below : Below w.heap.size w W
  box : Boxed W w.heap.size 26 0 none 0 0
  box2 : Boxed W q 26 bv sv m cv
  cells : CSl W lo W.heap.size s n f
  vec : FarV W lo sv m g
  lt : w.heap.size + 1 < lo ∧ lo ≤ q
theorem StepDr.src {w W W' : World} {lo q : Nat} {s : Option Addr} {n : Nat} {f : Nat → Cel} {bv : Int} {sv : Option Addr} {m cv : Nat} {g : Nat → Int} (h : StepDr w W lo q s n f bv sv m cv g) (hg : W.grownBy W' (some (w.heap.size + 1))) : StepDr w W' lo q s n f bv sv m cv g := by
  have := h.lt
  exact ⟨below_of_only h.below (by omega) h.below.size hg, boxed_grownC h.box hg (by omega), boxed_grownC h.box2 hg (by omega), h.cells.src hg (by omega), h.vec.kept hg (fun k hk => by injection hk with hk; omega), h.lt⟩
theorem StepDr.late {w W : World} {lo q : Nat} {s : Option Addr} {n : Nat} {f : Nat → Cel} {bv : Int} {sv : Option Addr} {m cv : Nat} {g : Nat → Int} (h : StepDr w W lo q s n f bv sv m cv g) (o : Obj) : StepDr w (W.alloc o) lo q s n f bv sv m cv g := by
  have hb : Below W.heap.size W (W.alloc o) := (Below.refl _ _).alloc (Nat.le_refl _) _
  exact ⟨h.below.alloc h.below.size _, h.box.kept hb rfl, h.box2.kept hb rfl, h.cells.keptC hb, h.vec.keptC hb, h.lt⟩
theorem StepDr.done {w W : World} {lo q : Nat} {s : Option Addr} {n cp : Nat} {f : Nat → Cel} {bv : Int} {sv : Option Addr} {m cv : Nat} {g : Nat → Int} {x : Int} (h : StepDr w W lo q s n f bv sv m cv g) (hn : n ≤ 60) (hs : ∀ i, i < n → (f i).c.size ≤ 256) (hm : m ≤ 1000) (hx0 : -1 ≤ x) (hx1 : x ≤ 256) :
    CelVecInt (.returned (.tuple #[.slice s n cp, .agg #[.int .i64 bv, .slice sv m cv], .int .i64 x])) ((W.setCell ⟨w.heap.size, 0, none⟩ (.int .i64 bv)).setCell ⟨w.heap.size, 1, none⟩ (.slice sv m cv)) ∧ Below w.heap.size w ((W.setCell ⟨w.heap.size, 0, none⟩ (.int .i64 bv)).setCell ⟨w.heap.size, 1, none⟩ (.slice sv m cv)) := by
  have hl9 : w.heap.size < lo := by have := h.lt; omega
  exact ⟨⟨s, n, cp, f, bv, sv, m, cv, g, x, rfl, hn, by have h9 := ((h.cells.setLow ⟨w.heap.size, 0, none⟩ (.int .i64 bv) hl9).setLow ⟨w.heap.size, 1, none⟩ (.slice sv m cv) hl9).row; simpa [World.setCell] using h9, hs, hm, ((h.vec.setLow _ _ (by show w.heap.size < lo; omega)).setLow _ _ (by show w.heap.size < lo; omega)).row, hx0, hx1⟩, (h.below.setCell (p := ⟨w.heap.size, 0, none⟩) (Nat.le_refl _) _).setCell (p := ⟨w.heap.size, 1, none⟩) (Nat.le_refl _) _⟩
set_option maxRecDepth 100000 in
set_option maxHeartbeats 4000000 in
theorem drawStepOn_any (w : World) (sa : Option Addr) (len cap : Nat) (hl : len ≤ 1048576) (hby : Bytes8 w w.heap.size sa len) :
    Calls Tryz.prog 4 #[.slice sa len cap] w fun e w' => CelVecInt e w' ∧ Below w.heap.size w w' := by
  have q0 := boxing w 26 0 none 0 0
  have HY : Hid (Bytes8 (w.alloc (.cells #[.int .i64 0, .slice none 0 0] 26)) (w.alloc (.cells #[.int .i64 0, .slice none 0 0] 26)).heap.size sa len) := by
    have h1 : Bytes8 (w.alloc (.cells #[.int .i64 0, .slice none 0 0] 26)) w.heap.size sa len := hby.kept (row := none) (grown_call (World.grownBy.refl _ _) q0.1) (fun k hk => by cases hk)
    rcases h1 with h | ⟨bb, off, zs, h1, h2, h3⟩
    · exact Or.inl h
    · exact Or.inr ⟨bb, off, zs, h1, Nat.lt_of_lt_of_le h2 q0.1.size, h3⟩
  clear hby
  go_enter Tryz.func4, Tryz.ntmps4
  go_wp2_with fail
  generalize w.alloc (.cells #[.int .i64 0, .slice none 0 0] 26) = v0 at *
  refine (source_any v0 sa len cap hl HY.out).mono ?_
  rintro e w1 ⟨rfl, hb1, hS1⟩
  have B1 : Hid (Below w.heap.size w w1) := q0.1.trans (hb1.mono q0.1.size)
  have X1 : Hid (Boxed w1 w.heap.size 26 0 none 0 0) := q0.2.1.kept hb1 rfl
  rw [q0.2.2] at hS1
  have S1 : Hid (Src w1 (w.heap.size + 1) sa len cap) := hS1
  have hv0 := q0.2.2
  rw [hv0]
  clear hb1 hS1 HY q0 hv0
  go_wp2_with fail
  refine (l07Some_any w1 (w.heap.size + 1) sa len cap S1.out).mono ?_
  rintro e w2 ⟨⟨s, n, cp, f, bv, sv, m, cv, g, rfl, hn, hsl, hsm, hm, hfar⟩, hg2, hS2⟩
  have hl1 := S1.out.lt
  have q2 := boxing w2 26 bv sv m cv
  have HD : Hid (StepDr w (w2.alloc (.cells #[.int .i64 bv, .slice sv m cv] 26)) w1.heap.size w2.heap.size s n f bv sv m cv g) :=
    ⟨(below_of_only B1.out (by omega) B1.out.size hg2).trans (q2.1.mono (below_of_only B1.out (by omega) B1.out.size hg2).size), (boxed_grownC X1.out hg2 (by omega)).kept q2.1 rfl, q2.2.1, hsl.keptC q2.1, hfar.keptC q2.1, hl1, hg2.size⟩
  have HS : Hid (Src (w2.alloc (.cells #[.int .i64 bv, .slice sv m cv] 26)) (w.heap.size + 1) sa len cap) := hS2.call q2.1
  have HP : Hid (n ≤ 60 ∧ (∀ i, i < n → (f i).c.size ≤ 256) ∧ m ≤ 1000) := ⟨hn, hsm, hm⟩
  have hl2 : w.heap.size + 1 < w2.heap.size := Nat.lt_of_lt_of_le hl1 hg2.size
  clear hn hsl hsm hm hfar hg2 hS2 q2 B1 X1 S1
  go_wp2_with fail
  generalize w2.alloc (.cells #[.int .i64 bv, .slice sv m cv] 26) = v2 at *
  obtain ⟨c0, c1⟩ := HD.out.box2.cells
  have cl := HD.out.box2.lt
  obtain ⟨b0, b1, b2, b3⟩ := HD.out.box.four
  have bl := HD.out.box.lt
  generalize w2.heap.size = q at *
  go_region_with (first
    | (go_at_call 28; (with_reducible refine (n_any _ (w.heap.size + 1) sa len cap 9 (by decide) (by first | exact HS.out.after ⟨rfl, rfl, rfl, Nat.le_refl _, fun _ _ => rfl⟩ | exact (HS.out.after ((Below.refl _ _).alloc (Nat.le_refl _) _)).after ⟨rfl, rfl, rfl, Nat.le_refl _, fun _ _ => rfl⟩)).mono ?_); rintro e w3 ⟨⟨r, rfl, hr0, hr1, _⟩, hg, hS⟩; have hr2 : r < 9 := hr1 (by decide); obtain ⟨k, rfl⟩ := Int.eq_ofNat_of_zero_le hr0; obtain ⟨x, hx, hx0, hx1⟩ := nine k (by omega); have hki : (k : Int) < 9 := (by omega); have hfut : (w3.alloc (.cells #[.int .i64 97, .int .i64 98, .int .i64 97, .int .i64 98, .int .i64 99, .int .i64 65, .int .i64 0, .int .i64 256, .int .i64 (-1)] 2)).cell? ⟨w3.heap.size, k, none⟩ = some (.int .i64 x) := (by rw [World.cell?_alloc_mark]; exact hx); have hfut2 : (((w3.setCell ⟨w.heap.size, 0, none⟩ (.int .i64 bv)).setCell ⟨w.heap.size, 1, none⟩ (.slice sv m cv)).alloc (.cells #[.int .i64 97, .int .i64 98, .int .i64 97, .int .i64 98, .int .i64 99, .int .i64 65, .int .i64 0, .int .i64 256, .int .i64 (-1)] 2)).cell? ⟨w3.heap.size, k, none⟩ = some (.int .i64 x) := (by rw [show w3.heap.size = ((w3.setCell ⟨w.heap.size, 0, none⟩ (.int .i64 bv)).setCell ⟨w.heap.size, 1, none⟩ (.slice sv m cv)).heap.size from (by simp [World.setCell])]; rw [World.cell?_alloc_mark]; exact hx); (try (have hpast := hg.cell (a := ⟨v2.heap.size, k, none⟩) (v := .int .i64 x) (by show (v2.alloc (.cells #[.int .i64 97, .int .i64 98, .int .i64 97, .int .i64 98, .int .i64 99, .int .i64 65, .int .i64 0, .int .i64 256, .int .i64 (-1)] 2)).cell? ⟨v2.heap.size, k, none⟩ = _; rw [World.cell?_alloc_mark]; exact hx) (by simp; omega))); have hg2 : v2.grownBy w3 (some (w.heap.size + 1)) := (by first | exact grown_drawN hg | exact grown_lateN hg); have HD3 : Hid (StepDr w w3 w1.heap.size q s n f bv sv m cv g) := HD.out.src hg2; obtain ⟨c0, c1⟩ := HD3.out.box2.cells; have cl := HD3.out.box2.lt; obtain ⟨b0, b1, b2, b3⟩ := HD3.out.box.four; have bl := HD3.out.box.lt; have nz1 : v2.heap.size ≠ w.heap.size := (by omega); have nz2 : w.heap.size ≠ v2.heap.size := (by omega); have nz3 : w3.heap.size ≠ w.heap.size := (by omega); have nz4 : w.heap.size ≠ w3.heap.size := (by omega); clear hr1 hg2 hg hS hx))
  all_goals
    go_wp2_with fail
    have t0 : ((w3.setCell ⟨w.heap.size, 0, none⟩ (.int .i64 bv)).setCell ⟨w.heap.size, 1, none⟩ (.slice sv m cv)).cell? ⟨w.heap.size, 0, none⟩ = some (.int .i64 bv) := by simp [go_sem, b0]
    have t1 : ((w3.setCell ⟨w.heap.size, 0, none⟩ (.int .i64 bv)).setCell ⟨w.heap.size, 1, none⟩ (.slice sv m cv)).cell? ⟨w.heap.size, 1, none⟩ = some (.slice sv m cv) := by simp [go_sem, b1]
    have t2 : (((w3.setCell ⟨w.heap.size, 0, none⟩ (.int .i64 bv)).setCell ⟨w.heap.size, 1, none⟩ (.slice sv m cv)).alloc (.cells #[.int .i64 97, .int .i64 98, .int .i64 97, .int .i64 98, .int .i64 99, .int .i64 65, .int .i64 0, .int .i64 256, .int .i64 (-1)] 2)).cell? ⟨w.heap.size, 0, none⟩ = some (.int .i64 bv) := by rw [World.cell?_alloc_some _ _ _ (by rw [t0]; rfl)]; exact t0
    have t3 : (((w3.setCell ⟨w.heap.size, 0, none⟩ (.int .i64 bv)).setCell ⟨w.heap.size, 1, none⟩ (.slice sv m cv)).alloc (.cells #[.int .i64 97, .int .i64 98, .int .i64 97, .int .i64 98, .int .i64 99, .int .i64 65, .int .i64 0, .int .i64 256, .int .i64 (-1)] 2)).cell? ⟨w.heap.size, 1, none⟩ = some (.slice sv m cv) := by rw [World.cell?_alloc_some _ _ _ (by rw [t1]; rfl)]; exact t1
    first
      | (refine bodyPost_ret (v := .tuple #[.slice s n cp, .agg #[.int .i64 bv, .slice sv m cv], .int .i64 x]) (by simp [results, Tryz.results4, go_sem, b0, b1]; done) rfl ?_
         first
           | exact HD3.out.done HP.out.1 HP.out.2.1 HP.out.2.2 hx0 hx1
           | exact (HD3.out.late _).done HP.out.1 HP.out.2.1 HP.out.2.2 hx0 hx1)
      | (obtain ⟨V, hV⟩ : ∃ V, ((w3.setCell ⟨w.heap.size, 0, none⟩ (.int .i64 bv)).setCell ⟨w.heap.size, 1, none⟩ (.slice sv m cv)).alloc (.cells #[.int .i64 97, .int .i64 98, .int .i64 97, .int .i64 98, .int .i64 99, .int .i64 65, .int .i64 0, .int .i64 256, .int .i64 (-1)] 2) = V := ⟨_, rfl⟩
         rw [hV] at t2 t3 ⊢
         refine bodyPost_ret (v := .tuple #[.slice s n cp, .agg #[.int .i64 bv, .slice sv m cv], .int .i64 x]) (by simp [results, Tryz.results4, go_sem, t2, t3]; done) rfl ?_
         rw [← hV]
         exact celVec_late (HD3.out.done HP.out.1 HP.out.2.1 HP.out.2.2 hx0 hx1) _)
end Go.Proofs.YtlgnplnmcdjbiaaGreat
namespace Go.Proofs.YtlgnplnmcdjbiaaGreat
open Go.RowKit

set_option maxHeartbeats 1000000 in
theorem lwRow_same (sa sb : Option Addr) (n ca cb : Nat) (f : Nat → Int) (w : World) (hn : n ≤ 1048576) (ha : Row w w.heap.size sa n f) (hb : Row w w.heap.size sb n f) :
    Calls Tryz.prog 11 #[.slice sa n ca, .slice sb n cb] w fun e w' => e = .returned (.bool true) ∧ Below w.heap.size w w' := by
  have HA : Hid (Row w w.heap.size sa n f) := ha
  have HB : Hid (Row w w.heap.size sb n f) := hb
  clear ha hb
  go_enter Tryz.func11, Tryz.ntmps11
  go_wp2
  go_loopw [5] (fun i wr => ∃ k : Nat, k ≤ n ∧ i = .int .i64 (k : Int) ∧ Below w.heap.size w wr) (fun i _ => n - (intOf i).toNat)
  case atStart => exact ⟨0, Nat.zero_le _, rfl, Below.refl _ _⟩
  case round =>
    obtain ⟨k, hk, rfl, hbel⟩ := hrel
    have HW : Hid (Below w.heap.size w wr) := hbel
    by_cases hkl : k < n
    · obtain ⟨ba, oa, rfl, hba, hca⟩ : ∃ bb off : Nat, sa = some ⟨bb, off, none⟩ ∧ bb < w.heap.size ∧ ∀ i, i < n → w.cell? ⟨bb, off + i, none⟩ = some (.int .i64 (f i)) := by
        rcases HA.out with h | h
        · omega
        · exact h
      obtain ⟨bb, ob, rfl, hbb, hcb⟩ : ∃ bb off : Nat, sb = some ⟨bb, off, none⟩ ∧ bb < w.heap.size ∧ ∀ i, i < n → w.cell? ⟨bb, off + i, none⟩ = some (.int .i64 (f i)) := by
        rcases HB.out with h | h
        · omega
        · exact h
      have cz : wr.cell? ⟨ba, oa + k, none⟩ = some (.int .i64 (f k)) := by rw [hbel.cell (p := ⟨ba, oa + k, none⟩) hba]; exact hca k hkl
      have cy : wr.cell? ⟨bb, ob + k, none⟩ = some (.int .i64 (f k)) := by rw [hbel.cell (p := ⟨bb, ob + k, none⟩) hbb]; exact hcb k hkl
      clear hca hcb hbel
      have hki : (k : Int) < (n : Int) := by omega
      have hk0 : (0 : Int) ≤ (k : Int) := by omega
      go_wp2
      go_region
      go_wp2
      go_roundw
      case rel => exact ⟨k + 1, by omega, by go_num, HW.out.drew⟩
      case measure => simp [intOf]; omega
    · have hki : ¬ (k : Int) < (n : Int) := by omega
      clear hbel
      go_wp2
      go_ret
      exact ⟨rfl, HW.out⟩

set_option maxHeartbeats 1000000 in
theorem lwVec_same (b : Int) (sa sb : Option Addr) (n ca cb : Nat) (f : Nat → Int) (w : World) (hn : n ≤ 1048576) (ha : Row w w.heap.size sa n f) (hb : Row w w.heap.size sb n f) :
    Calls Tryz.prog 24 #[.agg #[.int .i64 b, .slice sa n ca], .agg #[.int .i64 b, .slice sb n cb]] w fun e w' => e = .returned (.bool true) ∧ Below w.heap.size w w' := by
  have HA : Hid (Row w w.heap.size sa n f) := ha
  have HB : Hid (Row w w.heap.size sb n f) := hb
  clear ha hb
  have hb0 : Below w.heap.size w ((w.alloc (.cells #[.int .i64 b, .slice sa n ca] 26)).alloc (.cells #[.int .i64 b, .slice sb n cb] 26)) :=
    ((Below.refl _ _).alloc (Nat.le_refl _) _).alloc (by simp) _
  have HB0 : Hid (Below w.heap.size w ((w.alloc (.cells #[.int .i64 b, .slice sa n ca] 26)).alloc (.cells #[.int .i64 b, .slice sb n cb] 26))) := hb0
  clear hb0
  go_enter Tryz.func24, Tryz.ntmps24
  go_wp2_with fail
  refine (lwRow_same sa sb n ca cb f _ hn ((HA.out.kept HB0.out).up HB0.out.size) ((HB.out.kept HB0.out).up HB0.out.size)).mono ?_
  rintro e w1 ⟨rfl, hb1⟩
  have HB1 : Hid (Below w.heap.size w w1) := HB0.out.trans (hb1.mono HB0.out.size)
  clear hb1 HB0
  go_wp2
  go_ret
  exact ⟨rfl, HB1.out⟩

end Go.Proofs.YtlgnplnmcdjbiaaGreat
namespace Go.Proofs.YtlgnplnmcdjbiaaGreat
open Go.RowKit

set_option maxHeartbeats 1000000 in
theorem lwStep_same (b : Int) (sa sb : Option Addr) (n ca cb : Nat) (t : Bool) (f : Nat → Int) (w : World) (hn : n ≤ 1048576) (ha : Row w w.heap.size sa n f) (hb : Row w w.heap.size sb n f) :
    Calls Tryz.prog 9 #[.agg #[.int .i64 b, .slice sa n ca, .bool t], .agg #[.int .i64 b, .slice sb n cb, .bool t]] w fun e w' => e = .returned (.bool true) ∧ Below w.heap.size w w' := by
  have hb0 : Below w.heap.size w ((w.alloc (.cells #[.int .i64 b, .slice sa n ca, .bool t] 30)).alloc (.cells #[.int .i64 b, .slice sb n cb, .bool t] 30)) :=
    ((Below.refl _ _).alloc (Nat.le_refl _) _).alloc (by simp) _
  have HB0 : Hid (Below w.heap.size w ((w.alloc (.cells #[.int .i64 b, .slice sa n ca, .bool t] 30)).alloc (.cells #[.int .i64 b, .slice sb n cb, .bool t] 30))) := hb0
  have C : Hid (∀ W, Below w.heap.size w W → Calls Tryz.prog 24 #[.agg #[.int .i64 b, .slice sa n ca], .agg #[.int .i64 b, .slice sb n cb]] W fun e w' => e = .returned (.bool true) ∧ Below W.heap.size W w') := fun W hW =>
    lwVec_same b sa sb n ca cb f W hn ((ha.kept hW).up hW.size) ((hb.kept hW).up hW.size)
  clear hb0 ha hb
  go_enter Tryz.func9, Tryz.ntmps9
  go_wp2_with fail
  refine (C.out _ HB0.out).mono ?_
  rintro e w1 ⟨rfl, hb1⟩
  have HB1 : Hid (Below w.heap.size w w1) := HB0.out.trans (hb1.mono HB0.out.size)
  clear hb1 HB0
  go_wp2
  go_ret
  exact ⟨rfl, HB1.out⟩
end Go.Proofs.YtlgnplnmcdjbiaaGreat
