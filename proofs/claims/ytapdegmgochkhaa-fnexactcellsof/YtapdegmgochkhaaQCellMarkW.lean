/- What is proved here: the laws' marks over slices of cells: what they hand back and what they leave as it was. -/
import Derived.Test.YtapdegmgochkhaaQCellMkW
namespace Go.Proofs.Ytapdegmgochkhaa
open Go.RowKit

set_option maxRecDepth 100000 in
set_option maxHeartbeats 2000000 in
theorem heldCells_any (sa : Option Addr) (n cap : Nat) (w : World) (hn : n ≤ 1048576) (hr : CRow w w.heap.size sa n markC) :
    Calls Try.prog 27 #[.slice sa n cap, .int .i64 1] w fun e w' => e = .returned (.int .i64 ((1 + n * 3 : Nat) : Int)) ∧ Below w.heap.size w w' := by
  have HR : Hid (CRow w w.heap.size sa n markC) := hr
  clear hr
  go_enter Try.func27, Try.ntmps27
  go_wp2
  go_loopw [1, 5] (fun kv i wr => ∃ j : Nat, j ≤ n ∧ kv = .int .i64 ((1 + j * 3 : Nat) : Int) ∧ i = .int .i64 (j : Int) ∧ Below w.heap.size w wr) (fun _ i _ => n - (intOf i).toNat)
  case atStart => exact ⟨0, Nat.zero_le _, rfl, rfl, Below.refl _ _⟩
  case round =>
    obtain ⟨j, hj, rfl, rfl, hbel⟩ := hrel
    have HB : Hid (Below w.heap.size w wr) := hbel
    by_cases hjl : j < n
    · obtain ⟨bb, off, rfl, hbb, hat⟩ := HR.out.at hbel hjl
      have hji : (j : Int) < (n : Int) := by omega
      have hj0 : (0 : Int) ≤ (j : Int) := by omega
      obtain ⟨q, hq⟩ : ∃ q, 1 + j * 3 = q := ⟨_, rfl⟩
      have HQ : Hid (1 + j * 3 = q) := hq
      have hq1 : 0 < q := by omega
      have hq2 : q ≤ 4000000 := by omega
      have hM : markC j = ⟨mtext q, false, true⟩ := by unfold markC; rw [hq]
      have hr1 : (((q : Int) + 1) % 3 == 0) = false := by simp; omega
      have hr2 : (((q : Int) + 1 + 1) % 3 == 0) = true := by simp; omega
      have hr3 : (Int.tmod ((q : Int) + 1) 3 == 0) = false := by rw [Int.tmod_eq_emod_of_nonneg (by omega)]; exact hr1
      have hr4 : (Int.tmod ((q : Int) + 1 + 1) 3 == 0) = true := by rw [Int.tmod_eq_emod_of_nonneg (by omega)]; exact hr2
      rw [hM] at hat
      obtain ⟨c0, c1, c2⟩ := hat
      simp only at c0 c1 c2
      have MT : Hid (∀ W, Calls Try.prog 83 #[.int .i64 (q : Int)] W fun e w' => e = .returned (.string (mtext q)) ∧ Below W.heap.size W w') := fun W => markText_any q W hq1 (by omega)
      generalize mtext q = tq at *
      rw [hq]
      have hlt : bb < wr.heap.size := Nat.lt_of_lt_of_le hbb hbel.size
      clear hq hM hbel
      go_wp2
      go_region_with (go_at_call 83; refine (MT.out _).mono ?_; rintro e w1 ⟨rfl, hb1⟩; have c3 := hb1.cell (p := ⟨bb, off + j * 3, none⟩) hlt; have c4 := hb1.cell (p := ⟨bb, off + j * 3 + 1, none⟩) hlt; have c5 := hb1.cell (p := ⟨bb, off + j * 3 + 2, none⟩) hlt; have HB1 : Hid (Below w.heap.size w w1) := HB.out.drew.trans (hb1.mono HB.out.size); simp [c0, c1, c2] at c3 c4 c5; clear hb1)
      all_goals
        go_wp2
        go_roundw
        case rel =>
          refine ⟨j + 1, by omega, ?_, by go_num, HB1.out⟩
          congr 1
          have := HQ.out
          omega
        case measure => simp [intOf]; omega
    · have hji : ¬ (j : Int) < (n : Int) := by omega
      obtain rfl : j = n := by omega
      clear hbel
      go_wp2
      go_ret
      exact ⟨rfl, HB.out⟩
end Go.Proofs.Ytapdegmgochkhaa
