/- What is proved here: the specification's CloseOver hands back the places of a right vector, closed, in new memory, or nothing; nothing that was there turns. -/
import Derived.Test.YthnnenbpbkmbhaaQSpecCloW
import Derived.Test.YthnnenbpbkmbhaaQPlacesW
import Derived.Test.YthnnenbpbkmbhaaQVecSpecW
import Derived.Deep.RegionHeld3
import Derived.Deep.RegionWith
namespace Go.Proofs.Ythnnenbpbkmbhaa
open Go.RowKit

open Classical in
set_option maxRecDepth 100000 in
set_option maxHeartbeats 4000000 in
theorem l07Vec_any (sa : Option Addr) (n cap : Nat) (f : Nat → Cel) (b : Int) (sv : Option Addr) (m cv : Nat) (g : Nat → Int) (w : World) (hn : n ≤ maxLen) (hr : CRow w w.heap.size sa n f) (hc : ∀ i, i < n → (f i).c.size ≤ maxLen) (hm : m ≤ 1048576) (hv : Row w w.heap.size sv m g) :
    Calls Try.prog 94 #[.slice sa n cap, .agg #[.int .i64 b, .slice sv m cv]] w fun e w' => e = .returned (.bool (decide (CellsOk n f ∧ OfRow b m g n))) ∧ Below w.heap.size w w' := by
  have q1 := boxing w 26 b sv m cv
  have HK : Hid (∀ W, Since w W → Calls Try.prog 78 #[.slice sa n cap] W fun e w' => e = .returned (.bool (decide (CellsOk n f))) ∧ Below W.heap.size W w') := fun W hW => specKRight_any sa n cap f W hn (hr.late hW.below) hc
  have HV : Hid (∀ W, Since w W → Calls Try.prog 139 #[.agg #[.int .i64 b, .slice sv m cv]] W fun e w' => e = .returned (.bool (decide (Right b m g))) ∧ Below W.heap.size W w') := fun W hW => specRight_any b sv m cv g W hm (row_since hv hW)
  clear hr hv hc hn
  by_cases h1 : CellsOk n f
  · have hn60 := h1.2.1
    by_cases h2 : Right b m g
    · have h3 : Hid ((b == (n : Int) + 1) = decide (CellsOk n f ∧ OfRow b m g n)) := by
        show (b == (n : Int) + 1) = _
        by_cases h4 : b = (n : Int) + 1
        · rw [decide_eq_true (show CellsOk n f ∧ OfRow b m g n from ⟨h1, h2, h4⟩)]; simpa using h4
        · rw [decide_eq_false (show ¬ (CellsOk n f ∧ OfRow b m g n) from fun h => h4 h.2.2)]; simpa using h4
      rw [decide_eq_true h1] at HK
      rw [decide_eq_true h2] at HV
      generalize decide (CellsOk n f ∧ OfRow b m g n) = r at *
      clear h1 h2
      go_enter Try.func94, Try.ntmps94
      go_wp2_with fail
      generalize w.alloc (.cells #[.int .i64 b, .slice sv m cv] 26) = v1 at *
      obtain ⟨y0, y1⟩ := q1.2.1.cells
      have ylt := q1.2.1.lt
      have S1 : Hid (Since w v1) := ⟨q1.1⟩
      have Y1 : Hid (Boxed v1 w.heap.size 26 b sv m cv) := q1.2.1
      clear q1
      first | (go_region_with (first | (go_at_call 78; refine (HK.out _ (since_drew S1.out)).mono ?_; rintro e w2 ⟨rfl, hb2⟩; have S2 : Hid (Since w w2) := since_call (since_drew S1.out) hb2; have Y2 : Hid (Boxed w2 w.heap.size 26 b sv m cv) := Y1.out.drew.kept hb2 rfl; obtain ⟨k0, k1⟩ := Y2.out.cells; have kl := Y2.out.lt; clear hb2) | (go_at_call 139; refine (HV.out _ S2.out).mono ?_; rintro e w3 ⟨rfl, hb3⟩; have S3 : Hid (Since w w3) := since_call S2.out hb3; obtain ⟨j0, j1⟩ := (Y2.out.kept hb3 rfl).cells; have jl := (Y2.out.kept hb3 rfl).lt; clear hb3) | (go_at_call 142; refine (bits_spec _ _ _ _ hn60).mono ?_; rintro e w9 ⟨rfl, hw9⟩; rw [hw9]; clear hw9 w9))) | fail
      all_goals
        go_wp2_with fail
        go_ret
        exact ⟨by rw [h3.out]; rfl, S3.out.below⟩
    · rw [decide_eq_false (show ¬ (CellsOk n f ∧ OfRow b m g n) from fun h => h2 h.2.1)]
      rw [decide_eq_true h1] at HK
      rw [decide_eq_false h2] at HV
      clear h1 h2
      go_enter Try.func94, Try.ntmps94
      go_wp2_with fail
      generalize w.alloc (.cells #[.int .i64 b, .slice sv m cv] 26) = v1 at *
      obtain ⟨y0, y1⟩ := q1.2.1.cells
      have ylt := q1.2.1.lt
      have S1 : Hid (Since w v1) := ⟨q1.1⟩
      have Y1 : Hid (Boxed v1 w.heap.size 26 b sv m cv) := q1.2.1
      clear q1
      first | (go_region_with (first | (go_at_call 78; refine (HK.out _ (since_drew S1.out)).mono ?_; rintro e w2 ⟨rfl, hb2⟩; have S2 : Hid (Since w w2) := since_call (since_drew S1.out) hb2; have Y2 : Hid (Boxed w2 w.heap.size 26 b sv m cv) := Y1.out.drew.kept hb2 rfl; obtain ⟨k0, k1⟩ := Y2.out.cells; have kl := Y2.out.lt; clear hb2) | (go_at_call 139; refine (HV.out _ S2.out).mono ?_; rintro e w3 ⟨rfl, hb3⟩; have S3 : Hid (Since w w3) := since_call S2.out hb3; obtain ⟨j0, j1⟩ := (Y2.out.kept hb3 rfl).cells; have jl := (Y2.out.kept hb3 rfl).lt; clear hb3) | (go_at_call 142; refine (bits_spec _ _ _ _ hn60).mono ?_; rintro e w9 ⟨rfl, hw9⟩; rw [hw9]; clear hw9 w9))) | fail
      all_goals
        go_wp2_with fail
        go_ret
        exact ⟨rfl, S3.out.below⟩
  · rw [decide_eq_false (show ¬ (CellsOk n f ∧ OfRow b m g n) from fun h => h1 h.1)]
    rw [decide_eq_false h1] at HK
    clear h1 HV
    go_enter Try.func94, Try.ntmps94
    go_wp2_with fail
    generalize w.alloc (.cells #[.int .i64 b, .slice sv m cv] 26) = v1 at *
    obtain ⟨y0, y1⟩ := q1.2.1.cells
    have ylt := q1.2.1.lt
    have S1 : Hid (Since w v1) := ⟨q1.1⟩
    have Y1 : Hid (Boxed v1 w.heap.size 26 b sv m cv) := q1.2.1
    clear q1
    first | (go_region_with (first | (go_at_call 78; refine (HK.out _ (since_drew S1.out)).mono ?_; rintro e w2 ⟨rfl, hb2⟩; have S2 : Hid (Since w w2) := since_call (since_drew S1.out) hb2; have Y2 : Hid (Boxed w2 w.heap.size 26 b sv m cv) := Y1.out.drew.kept hb2 rfl; obtain ⟨k0, k1⟩ := Y2.out.cells; have kl := Y2.out.lt; clear hb2))) | fail
    all_goals
      go_wp2_with fail
      go_ret
      exact ⟨rfl, S2.out.below⟩
end Go.Proofs.Ythnnenbpbkmbhaa
