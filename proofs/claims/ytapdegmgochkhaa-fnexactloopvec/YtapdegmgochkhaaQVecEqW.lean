/- What is proved here: the laws' comparison of vectors: what it hands back and what it leaves as it was. -/
import Derived.Test.YtapdegmgochkhaaQVecD
import Derived.Test.YtapdegmgochkhaaQRowsEqW
namespace Go.Proofs.Ytapdegmgochkhaa
open Go.RowKit

set_option maxHeartbeats 1000000 in
theorem eqVec_same (b : Int) (sa sb : Option Addr) (n ca cb : Nat) (f : Nat → Int) (w : World) (hn : n ≤ 1048576) (ha : Row w w.heap.size sa n f) (hb : Row w w.heap.size sb n f) :
    Calls Try.prog 39 #[.agg #[.int .i64 b, .slice sa n ca], .agg #[.int .i64 b, .slice sb n cb]] w fun e w' => e = .returned (.bool true) ∧ Below w.heap.size w w' := by
  have HA : Hid (Row w w.heap.size sa n f) := ha
  have HB : Hid (Row w w.heap.size sb n f) := hb
  clear ha hb
  have hb0 : Below w.heap.size w ((w.alloc (.cells #[.int .i64 b, .slice sa n ca] 42)).alloc (.cells #[.int .i64 b, .slice sb n cb] 42)) :=
    ((Below.refl _ _).alloc (Nat.le_refl _) _).alloc (by simp) _
  have HB0 : Hid (Below w.heap.size w ((w.alloc (.cells #[.int .i64 b, .slice sa n ca] 42)).alloc (.cells #[.int .i64 b, .slice sb n cb] 42))) := hb0
  clear hb0
  go_enter Try.func39, Try.ntmps39
  go_wp2_with fail
  refine (eqRow_same sa sb n ca cb f _ hn ((HA.out.kept HB0.out).up HB0.out.size) ((HB.out.kept HB0.out).up HB0.out.size)).mono ?_
  rintro e w1 ⟨rfl, hb1⟩
  have HB1 : Hid (Below w.heap.size w w1) := HB0.out.trans (hb1.mono HB0.out.size)
  clear hb1 HB0
  go_wp2
  go_ret
  exact ⟨rfl, HB1.out⟩
end Go.Proofs.Ytapdegmgochkhaa
