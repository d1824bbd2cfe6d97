/- What is proved here: the laws' marks over vectors: what they hand back and what they leave as it was. -/
import Derived.Test.YthnnenbpbkmbhaaQRowsDToVecS
import Derived.Test.YthnnenbpbkmbhaaQRowsMarkW
namespace Go.Proofs.Ythnnenbpbkmbhaa
open Go.RowKit

set_option maxHeartbeats 1000000 in
theorem markVec_any (b : Int) (sa : Option Addr) (n cap lo : Nat) (f : Nat → Int) (k : Int) (w : World) (hn : n ≤ 1048576) (h0 : 0 ≤ k) (h1 : k ≤ 1099511627776) (ho : OwnS w lo sa n f) :
    Calls Try.prog 35 #[.agg #[.int .i64 b, .slice sa n cap], .int .i64 k] w fun e w' => e = .returned (.int .i64 (k + n)) ∧ OnlyS w w' sa n ∧ OwnS w' lo sa n (fun i => k + i) := by
  have HO : Hid (OwnS w lo sa n f) := ho
  clear ho
  have hb0 : Below w.heap.size w (w.alloc (.cells #[.int .i64 b, .slice sa n cap] 26)) := (Below.refl _ _).alloc (Nat.le_refl _) _
  have HB0 : Hid (Below w.heap.size w (w.alloc (.cells #[.int .i64 b, .slice sa n cap] 26))) := hb0
  clear hb0
  go_enter Try.func35, Try.ntmps35
  go_wp2_with fail
  refine (markRow_any sa n cap lo f k _ hn h0 h1 (HO.out.kept HB0.out rfl)).mono ?_
  rintro e w1 ⟨rfl, hon, how⟩
  have HON : Hid (OnlyS w w1 sa n) := by
    obtain ⟨row, hg, hr⟩ := hon
    exact ⟨row, (World.grownBy_alloc w _ row).trans hg, hr⟩
  have HOW : Hid (OwnS w1 lo sa n (fun i => k + i)) := how
  clear hon how HB0 HO
  go_wp2
  go_ret
  exact ⟨rfl, HON.out, HOW.out⟩

set_option maxHeartbeats 1000000 in
theorem heldVec_any (b : Int) (sa : Option Addr) (n cap : Nat) (k : Int) (w : World) (hn : n ≤ 1048576) (h0 : 0 ≤ k) (h1 : k ≤ 1099511627776) (hr : Row w w.heap.size sa n (fun i => k + i)) :
    Calls Try.prog 36 #[.agg #[.int .i64 b, .slice sa n cap], .int .i64 k] w fun e w' => e = .returned (.int .i64 (k + n)) ∧ Below w.heap.size w w' := by
  have HR : Hid (Row w w.heap.size sa n (fun i => k + i)) := hr
  clear hr
  have hb0 : Below w.heap.size w (w.alloc (.cells #[.int .i64 b, .slice sa n cap] 26)) := (Below.refl _ _).alloc (Nat.le_refl _) _
  have HB0 : Hid (Below w.heap.size w (w.alloc (.cells #[.int .i64 b, .slice sa n cap] 26))) := hb0
  clear hb0
  go_enter Try.func36, Try.ntmps36
  go_wp2_with fail
  refine (heldRow_any sa n cap k _ hn h0 h1 ((HR.out.kept HB0.out).up HB0.out.size)).mono ?_
  rintro e w1 ⟨rfl, hb1⟩
  have HB1 : Hid (Below w.heap.size w w1) := HB0.out.trans (hb1.mono HB0.out.size)
  clear hb1 HB0
  have hk : ¬ k + (n : Int) < 0 := by omega
  go_wp2
  go_ret
  exact ⟨rfl, HB1.out⟩
end Go.Proofs.Ythnnenbpbkmbhaa
