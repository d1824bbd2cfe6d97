/- What is proved here: the program's bitsOn hands its bits out one by one, the lowest first, to whatever loop: its contract. -/
import Derived.Test.YtcmnmlginoojkagDoorTzW
import Derived.Test.YtcmnmlginoojkagDoorImplRightW
import Derived.RangeFuncNested
import Derived.RangeFuncBound
import Derived.RangeFuncCalls
import Derived.RangeFuncLeaves
import Derived.Shelf.Abstract
import Derived.Shelf.RegionOpen
import Derived.WalkKit
import Derived.OwnWalkIn
import Derived.TacticsInMore
import Derived.LoopNIn
import Derived.LoopIn
namespace Go.Proofs.YtcmnmlginoojkagDoor
open Go.RowKit Go.Shelf

attribute [local go_sem] Oper.semAt_some

theorem grown_of_below {w W : World} (h : Below w.heap.size w W) : w.grownBy W none := ⟨h.os, h.tape, h.output, h.size, fun k hk _ => h.block k hk⟩

set_option maxHeartbeats 1000000 in
/-- bitsOn(v): the vector is boxed; the function value captures the box. -/
theorem bitsOn_in (n : Nat) (b : Int) (sa : Option Addr) (m cap : Nat) (w : World) :
    CallsIn Fence.wide n Tryd.prog 13 #[.agg #[.int .i64 b, .slice sa m cap]] w fun e w' => e = .returned (.func (.func 17) #[] #[.pointer (some ⟨w.heap.size, 0, none⟩)]) ∧ w' = w.alloc (.cells #[.int .i64 b, .slice sa m cap] 27) := by
  refine callsIn_of_wp Tryd.func13 rfl trivial ?_ rfl
  simp only [Tryd.ntmps13, List.size_toArray, List.length_cons, List.length_nil, Nat.reduceAdd, Nat.reduceSub, Array.replicate_succ, Array.replicate_zero, List.push_toArray, List.append_toArray, List.nil_append, List.cons_append]
  gi_wp2
  go_ret
  exact ⟨rfl, rfl⟩

open Classical in
set_option maxRecDepth 100000 in
set_option maxHeartbeats 1000000 in
theorem bitsOn1_no (n l Bv : Nat) (b : Int) (sa : Option Addr) (m cap : Nat) (f : Nat → Int) (J : List Int → World → Prop) (W : World) (hJ : AbidesFrom W.heap.size J) (hn : 1 ≤ n) (hBx : Boxed W Bv 27 b sa m cap) (hm : m ≤ 1048576) (hR : ¬ Right b m f) (hr : Row W W.heap.size sa m f) (h0 : J [] W) :
    CallsIn Fence.wide n Tryd.prog 17 #[.func (.yield l) #[] #[], .pointer (some ⟨Bv, 0, none⟩)] W fun e W' => (∃ v, e = .returned v) ∧ J [] W' := by
  have C1 := fun W h => implRight_any b sa m cap f W hm h
  rw [decide_eq_false hR] at C1
  have R1 : Hid (∀ W, Row W W.heap.size sa m f → Calls Tryd.prog 18 #[.agg #[.int .i64 b, .slice sa m cap]] W fun e w' => e = .returned (.bool false) ∧ Below W.heap.size W w') := C1
  have HR : Hid (Row W W.heap.size sa m f) := hr
  have HJ : Hid (∀ w1, Below W.heap.size W w1 → J [] w1) := fun w1 hb => hJ [] W w1 none h0 (grown_of_below hb) (fun r e => by cases e)
  obtain ⟨cv0, cv1⟩ := hBx.cells
  clear C1 hr hJ h0
  refine callsIn_of_wp Tryd.func17 rfl trivial ?_ rfl
  simp only [Tryd.ntmps17, List.size_toArray, List.length_cons, List.length_nil, Nat.reduceAdd, Nat.reduceSub, Array.replicate_succ, Array.replicate_zero, List.push_toArray, List.append_toArray, List.nil_append, List.cons_append]
  gi_wp2_with (first | (gi_at_call 18; refine (callsIn_wide.2 (R1.out _ HR.out)).mono ?_; rintro e w1 ⟨rfl, hb1⟩) | (refine ⟨trivial, ?_⟩; gi_at_call 18; refine (callsIn_wide.2 (R1.out _ HR.out)).mono ?_; rintro e w1 ⟨rfl, hb1⟩))
  refine bodyPost_ret (results_none rfl _ _ _) rfl ?_
  exact ⟨⟨_, rfl⟩, HJ.out _ hb1⟩
end Go.Proofs.YtcmnmlginoojkagDoor
