/- What is proved here: the law of GetNum walks to true; nothing that was there turns. Its condition: the variable errors.errorType holds what the program's text lays there. -/
import Derived.Test.YtpdedggnjcnpgadDoorSpecNumW
import Derived.Test.YtpdedggnjcnpgadDoorImplNumW
import Derived.OpenShut
namespace Go.Proofs.YtpdedggnjcnpgadDoor
open Go.RowKit

theorem eqNum_same (x a c : Int) (w : World) :
    Calls Tryd.prog 6 #[.agg #[.int .i64 x, .int .i64 a, .int .i64 c], .agg #[.int .i64 x, .int .i64 a, .int .i64 c]] w fun e w' => e = .returned (.bool true) ∧ Below w.heap.size w w' := by
  go_enter Tryd.func6, Tryd.ntmps6
  go_wp2
  go_ret
  exact ⟨rfl, ((Below.refl _ _).alloc (Nat.le_refl _) _).alloc (by simp) _⟩

set_option maxHeartbeats 1000000 in
theorem law_getNum (s : ByteArray) (a : Int) (w : World) (hs : s.size ≤ maxLen) (ha : (Lit.int .i64 a).wf = true) (hg : w.cell? ⟨0, 0, none⟩ = some (.iface 55 (.agg #[.pointer (some ⟨1, 30, none⟩)]))) :
    Calls Tryd.prog 3 #[.string s, .int .i64 a] w fun e w' => e = .returned (.bool true) ∧ Below w.heap.size w w' := by
  have hb := bounds_i64 ha
  clear ha
  have hs' := hs
  unfold maxLen at hs'
  have HG : Hid (w.cell? ⟨0, 0, none⟩ = some (.iface 55 (.agg #[.pointer (some ⟨1, 30, none⟩)]))) := hg
  have hlt : 0 < w.heap.size := by
    rcases Nat.eq_zero_or_pos w.heap.size with h0 | h
    · simp [World.cell?, h0] at hg
    · exact h
  clear hg
  by_cases hbig : 1048576 < (s.size : Int)
  · go_enter Tryd.func3, Tryd.ntmps3
    go_wp2
    go_ret
    exact ⟨rfl, Below.refl _ _⟩
  · have h1 := fun w => specGet_any s a w hs hb.2
    have h2 := fun w hg => implGetNum s a w hs hg
    generalize numOf s a = r at *
    obtain ⟨x, y, c⟩ := r
    have H1 : Hid (∀ w, Calls Tryd.prog 4 #[.string s, .int .i64 a] w fun e w' => e = .returned (numOut (x, y, c)) ∧ Below w.heap.size w w') := h1
    have H2 : Hid (∀ w : World, w.cell? ⟨0, 0, none⟩ = some (.iface 55 (.agg #[.pointer (some ⟨1, 30, none⟩)])) → Calls Tryd.prog 5 #[.string s, .int .i64 a] w fun e w' => e = .returned (numOut (x, y, c)) ∧ Below w.heap.size w w') := h2
    clear h1 h2
    go_enter Tryd.func3, Tryd.ntmps3
    go_wp2_with fail
    refine (H1.out _).mono ?_
    rintro e w1 ⟨rfl, hb1⟩
    have HB : Hid (Below w.heap.size w w1) := hb1
    clear hb1
    unfold numOut
    go_wp2_with fail
    have hz1 := HB.out.size
    have hg2 : (w1.alloc (.cells #[.int .i64 x, .int .i64 y, .int .i64 c] 23)).cell? ⟨0, 0, none⟩ = some (.iface 55 (.agg #[.pointer (some ⟨1, 30, none⟩)])) := by
      rw [World.cell?_alloc_lt _ _ ⟨0, 0, none⟩ (by show 0 < _; omega), HB.out.cell (p := ⟨0, 0, none⟩) hlt]
      exact HG.out
    refine (H2.out _ hg2).mono ?_
    clear hg2
    rintro e w2 ⟨rfl, hb2⟩
    obtain ⟨hc, hf⟩ := bcell hb2
    have hz2 : w1.heap.size < w2.heap.size := by have := hb2.size; simp at this; omega
    have HB2 : Hid (Below w.heap.size w w2) := (HB.out.alloc HB.out.size _).trans (hb2.mono (by have := HB.out.size; simp; omega))
    clear hb2
    unfold numOut
    go_wp2_with fail
    refine (eqNum_same x y c _).mono ?_
    rintro e w3 ⟨rfl, hb3⟩
    have HB3 : Hid (Below w.heap.size w w3) := (HB2.out.alloc HB2.out.size _).trans (hb3.mono (by have := HB2.out.size; simp; omega))
    clear hb3 hc hf
    go_wp2
    go_ret
    exact ⟨rfl, HB3.out⟩
end Go.Proofs.YtpdedggnjcnpgadDoor
