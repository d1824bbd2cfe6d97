/- What is proved here: spec.GetText hands back what textOf tells. -/
import Derived.Test.YtpdedggnjcnpgaeDoorSpecNumW
import Derived.Test.YtpdedggnjcnpgaeDoorImplTextW
import Derived.RegionTactic
import Derived.BigRegion
namespace Go.Proofs.YtpdedggnjcnpgaeDoor
open Go.RowKit

set_option maxHeartbeats 2000000 in
theorem specGetText (s : ByteArray) (a : Int) (w : World) (hs : s.size ≤ maxLen) (ha1 : a ≤ 9223372036854775807) :
    Calls Tryd.prog 4 #[.string s, .int .i64 a] w fun e w' => e = .returned (textOut (textOf s a)) ∧ Below w.heap.size w w' := by
  have hcr := specGet_any s a (w.alloc (.cells #[.string ⟨#[]⟩, .int .i64 0, .int .i64 0] 23)) hs ha1
  have hfine := numOf_fine s a
  obtain ⟨x, y, c, hn⟩ : ∃ x y c, numOf s a = (x, y, c) := ⟨_, _, _, rfl⟩
  have ht := textOf_eq s a x y c hn
  rw [hn] at hcr hfine
  rw [ht]
  clear ht hn
  have H1 : Hid (Calls Tryd.prog 7 #[.string s, .int .i64 a] (w.alloc (.cells #[.string ⟨#[]⟩, .int .i64 0, .int .i64 0] 23)) fun e w' => e = .returned (.agg #[.int .i64 x, .int .i64 y, .int .i64 c]) ∧ Below (w.alloc (.cells #[.string ⟨#[]⟩, .int .i64 0, .int .i64 0] 23)).heap.size (w.alloc (.cells #[.string ⟨#[]⟩, .int .i64 0, .int .i64 0] 23)) w') := hcr
  clear hcr
  rcases hfine with ⟨hc, _, _⟩ | ⟨hc, h8, hy0, hy1, hx0, hx1⟩
  · have hc' : c ≠ 0 := hc
    have hr : readTo s x y c = (⟨#[]⟩, 0, c) := by unfold readTo; rw [if_pos hc']
    rw [hr]
    have hcb : (c != 0) = true := by simpa using hc'
    clear hc hc' hr
    go_enter Tryd.func4, Tryd.ntmps4
    go_wp2_with fail
    refine H1.out.mono ?_
    rintro e w1 ⟨rfl, hb⟩
    obtain ⟨hc2, hf2⟩ := bcell hb
    have hz2 : w.heap.size < w1.heap.size := by have := hb.size; simp at this; omega
    have HB : Hid (Below w.heap.size w w1) := ((Below.refl _ _).alloc (Nat.le_refl _) _).trans (hb.mono (by simp))
    clear hb
    go_wp2
    exact bodyPost_ret (v := textOut (⟨#[]⟩, 0, c)) (by simp [results, Tryd.results4, go_sem, textOut, hc2, hz2]) rfl ⟨rfl, (((((HB.out.setCell (Nat.le_refl _) _).setCell (Nat.le_refl _) _).setCell (Nat.le_refl _) _)).alloc (by have := HB.out.size; simp [World.setCell]; omega) _)⟩
  · have hc' : c = 0 := hc
    subst hc'
    have hy0' : 0 ≤ y := hy0
    have hy1' : y ≤ (s.size : Int) := hy1
    have hx0' : -9223372036854775808 ≤ x := hx0
    have hx1' : x ≤ 9223372036854775807 := hx1
    clear hc hy0 hy1 hx0 hx1
    by_cases hx : x < 0
    · have hr : readTo s x y 0 = (⟨#[]⟩, 0, 3) := by unfold readTo; rw [if_neg (by decide), if_pos (Or.inl hx)]
      rw [hr]
      clear hr
      go_enter Tryd.func4, Tryd.ntmps4
      go_wp2_with fail
      refine H1.out.mono ?_
      rintro e w1 ⟨rfl, hb⟩
      obtain ⟨hc2, hf2⟩ := bcell hb
      have hz2 : w.heap.size < w1.heap.size := by have := hb.size; simp at this; omega
      have HB : Hid (Below w.heap.size w w1) := ((Below.refl _ _).alloc (Nat.le_refl _) _).trans (hb.mono (by simp))
      clear hb
      go_wp2
      exact bodyPost_ret (v := textOut (⟨#[]⟩, 0, 3)) (by simp [results, Tryd.results4, go_sem, textOut, hc2, hz2]) rfl ⟨rfl, (((((HB.out.setCell (Nat.le_refl _) _).setCell (Nat.le_refl _) _).setCell (Nat.le_refl _) _)).alloc (by have := HB.out.size; simp [World.setCell]; omega) _)⟩
    · by_cases hxb : 8000 < x
      · have hr : readTo s x y 0 = (⟨#[]⟩, 0, 3) := by unfold readTo; rw [if_neg (by decide), if_pos (Or.inr hxb)]
        rw [hr]
        clear hr
        go_enter Tryd.func4, Tryd.ntmps4
        go_wp2_with fail
        refine H1.out.mono ?_
        rintro e w1 ⟨rfl, hb⟩
        obtain ⟨hc2, hf2⟩ := bcell hb
        have hz2 : w.heap.size < w1.heap.size := by have := hb.size; simp at this; omega
        have HB : Hid (Below w.heap.size w w1) := ((Below.refl _ _).alloc (Nat.le_refl _) _).trans (hb.mono (by simp))
        clear hb
        go_wp2
        exact bodyPost_ret (v := textOut (⟨#[]⟩, 0, 3)) (by simp [results, Tryd.results4, go_sem, textOut, hc2, hz2]) rfl ⟨rfl, (((((HB.out.setCell (Nat.le_refl _) _).setCell (Nat.le_refl _) _).setCell (Nat.le_refl _) _)).alloc (by have := HB.out.size; simp [World.setCell]; omega) _)⟩
      · by_cases hsh : (s.size : Int) - y < x
        · have hr : readTo s x y 0 = (⟨#[]⟩, 0, 4) := by unfold readTo; rw [if_neg (by decide), if_neg (by omega), if_pos hsh]
          rw [hr]
          clear hr
          go_enter Tryd.func4, Tryd.ntmps4
          go_wp2_with fail
          refine H1.out.mono ?_
          rintro e w1 ⟨rfl, hb⟩
          obtain ⟨hc2, hf2⟩ := bcell hb
          have hz2 : w.heap.size < w1.heap.size := by have := hb.size; simp at this; omega
          have HB : Hid (Below w.heap.size w w1) := ((Below.refl _ _).alloc (Nat.le_refl _) _).trans (hb.mono (by simp))
          clear hb
          go_wp2
          exact bodyPost_ret (v := textOut (⟨#[]⟩, 0, 4)) (by simp [results, Tryd.results4, go_sem, textOut, hc2, hz2]) rfl ⟨rfl, (((((HB.out.setCell (Nat.le_refl _) _).setCell (Nat.le_refl _) _).setCell (Nat.le_refl _) _)).alloc (by have := HB.out.size; simp [World.setCell]; omega) _)⟩
        · obtain ⟨yn, rfl⟩ := Int.eq_ofNat_of_zero_le hy0'
          obtain ⟨xn, rfl⟩ := Int.eq_ofNat_of_zero_le (show 0 ≤ x by omega)
          have hr : readTo s (xn : Int) (yn : Int) 0 = (s.extract yn (yn + xn), (yn : Int) + xn, 0) := by unfold readTo; rw [if_neg (by decide), if_neg (by omega), if_neg hsh]; rfl
          rw [hr]
          clear hr
          have hsl : ∀ w : World, (Instr.slice 9 (.string s) (some (.int .i64 (yn : Int))) (some (.int .i64 ((yn : Int) + (xn : Int)))) none).run Tryd.prog w = .ok (.string (s.extract yn (yn + xn))) w := fun w => by
            have h := run_slice_string w 9 s .i64 .i64 (yn : Int) ((yn : Int) + (xn : Int)) Tryd.underlying9 (by omega) (by omega) (by omega)
            rw [h, show ((yn : Int) + (xn : Int)).toNat = yn + xn from by omega, Int.toNat_natCast]
          have hwr : IntKind.i64.wrap ((yn : Int) + (xn : Int)) = (yn : Int) + (xn : Int) := by rw [IntKind.wrap_i64]; omega
          go_enter Tryd.func4, Tryd.ntmps4
          go_wp2_with fail
          refine H1.out.mono ?_
          rintro e w1 ⟨rfl, hb⟩
          obtain ⟨hc2, hf2⟩ := bcell hb
          have hz2 : w.heap.size < w1.heap.size := by have := hb.size; simp at this; omega
          have HB : Hid (Below w.heap.size w w1) := ((Below.refl _ _).alloc (Nat.le_refl _) _).trans (hb.mono (by simp))
          clear hb
          go_wp2
          go_region
          go_wp2
          exact bodyPost_ret (v := textOut (s.extract yn (yn + xn), (yn : Int) + (xn : Int), 0)) (by simp [results, Tryd.results4, go_sem, textOut, hc2, hz2]) rfl ⟨rfl, (((((HB.out.setCell (Nat.le_refl _) _).setCell (Nat.le_refl _) _).setCell (Nat.le_refl _) _)).alloc (by have := HB.out.size; simp [World.setCell]; omega) _).drew⟩
end Go.Proofs.YtpdedggnjcnpgaeDoor
