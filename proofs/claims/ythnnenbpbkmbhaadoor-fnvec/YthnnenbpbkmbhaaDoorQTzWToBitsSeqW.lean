/- What is proved here: math/bits.TrailingZeros32 of a word that is not 0 is the number of its lowest bit, where the table of the library lies as its initialiser lays it; the world stays.
   What is proved here: the program's bitsOn hands its bits out one by one, the lowest first, to whatever loop: its contract.
   What is proved here: the program's bitsOn of a right vector hands out the bits that are on, the lowest first, to whatever loop that keeps what lay below a border; a loop that leaves has had the first of them.
   What is proved here: bitsOn's contract for whatever vector: all bits of a right one, none of another. -/
import Derived.Test.YthnnenbpbkmbhaaDoorQGetBWToFnVecM
import Derived.Shelf.Spec.TrailingZeros
import Derived.Test.YthnnenbpbkmbhaaDoorQImplRightWToVecM
import Derived.RangeFuncNested
import Derived.RangeFuncBound
import Derived.RangeFuncCalls
import Derived.RangeFuncLeaves
import Derived.Shelf.Abstract
import Derived.Shelf.RegionOpen
import Derived.WalkKit
import Derived.OwnWalkIn
import Derived.TacticsInMore
import Derived.LoopNIn
import Derived.LoopIn
namespace Go.Proofs.YthnnenbpbkmbhaaDoor
open Go.RowKit

/-- The library's table. -/
def Tab (w : World) : Prop := TabAt 0 Lib.deBruijn32tab w
theorem Tab.kept {w W : World} {B : Nat} (h : Tab w) (hb : Below B w W) (h0 : 0 < B) : Tab W := fun j hj => by
  rw [hb.cell (p := ⟨0, j, none⟩) h0]
  exact h j hj
set_option maxHeartbeats 1000000 in
theorem tz_core (x k idx : Nat) (w : World) (hx0 : ((x : Int) == 0) = false)
    (key : bits BinOp.and IntKind.u32 (x : Int) (-(x : Int) % 4294967296) * 125613361 % 4294967296 / 134217728 = (idx : Int))
    (hi : idx < 32) (hk : k < 32) (hcell : w.cell? ⟨0, idx, none⟩ = some (.int .u8 k)) :
    Calls Tryd.prog 89 #[.int .u32 x] w fun e w' => e = .returned (.int .i64 k) ∧ w' = w := by
  go_enter Tryd.func89, Tryd.ntmps89
  go_wp2_with (simp only [key])
  go_ret
  exact ⟨rfl, rfl⟩
theorem tz_any (x : Nat) (hx : x < 4294967296) (hx0 : x ≠ 0) (w : World) (hT : Tab w) :
    Calls Tryd.prog 89 #[.int .u32 x] w fun e w' => e = .returned (.int .i64 (Lib.ctz 32 x)) ∧ w' = w := by
  obtain ⟨hlow, hk⟩ := Lib.lowest_bit 32 x hx0 hx
  obtain ⟨hi, htab⟩ := Lib.deBruijn32_at _ hk
  have hcell := hT _ hi
  rw [htab] at hcell
  exact tz_core x _ _ w (by simp; omega) (tz32_key x _ hx hx0 hlow) hi hk hcell
end Go.Proofs.YthnnenbpbkmbhaaDoor
namespace Go.Proofs.YthnnenbpbkmbhaaDoor
open Go.RowKit Go.Shelf

attribute [local go_sem] Oper.semAt_some

theorem grown_of_below {w W : World} (h : Below w.heap.size w W) : w.grownBy W none := ⟨h.os, h.tape, h.output, h.size, fun k hk _ => h.block k hk⟩

set_option maxHeartbeats 1000000 in
/-- bitsOn(v): the vector is boxed; the function value captures the box. -/
theorem bitsOn_in (n : Nat) (b : Int) (sa : Option Addr) (m cap : Nat) (w : World) :
    CallsIn Fence.wide n Tryd.prog 70 #[.agg #[.int .i64 b, .slice sa m cap]] w fun e w' => e = .returned (.func (.func 88) #[] #[.pointer (some ⟨w.heap.size, 0, none⟩)]) ∧ w' = w.alloc (.cells #[.int .i64 b, .slice sa m cap] 25) := by
  refine callsIn_of_wp Tryd.func70 rfl trivial ?_ rfl
  simp only [Tryd.ntmps70, List.size_toArray, List.length_cons, List.length_nil, Nat.reduceAdd, Nat.reduceSub, Array.replicate_succ, Array.replicate_zero, List.push_toArray, List.append_toArray, List.nil_append, List.cons_append]
  gi_wp2
  go_ret
  exact ⟨rfl, rfl⟩

open Classical in
set_option maxRecDepth 100000 in
set_option maxHeartbeats 1000000 in
theorem bitsOn1_no (n l Bv : Nat) (b : Int) (sa : Option Addr) (m cap : Nat) (f : Nat → Int) (J : List Int → World → Prop) (W : World) (hJ : AbidesFrom W.heap.size J) (hn : 1 ≤ n) (hBx : Boxed W Bv 25 b sa m cap) (hm : m ≤ 1048576) (hR : ¬ Right b m f) (hr : Row W W.heap.size sa m f) (h0 : J [] W) :
    CallsIn Fence.wide n Tryd.prog 88 #[.func (.yield l) #[] #[], .pointer (some ⟨Bv, 0, none⟩)] W fun e W' => (∃ v, e = .returned v) ∧ J [] W' := by
  have C1 := fun W h => implRight_any b sa m cap f W hm h
  rw [decide_eq_false hR] at C1
  have R1 : Hid (∀ W, Row W W.heap.size sa m f → Calls Tryd.prog 32 #[.agg #[.int .i64 b, .slice sa m cap]] W fun e w' => e = .returned (.bool false) ∧ Below W.heap.size W w') := C1
  have HR : Hid (Row W W.heap.size sa m f) := hr
  have HJ : Hid (∀ w1, Below W.heap.size W w1 → J [] w1) := fun w1 hb => hJ [] W w1 none h0 (grown_of_below hb) (fun r e => by cases e)
  obtain ⟨cv0, cv1⟩ := hBx.cells
  clear C1 hr hJ h0
  refine callsIn_of_wp Tryd.func88 rfl trivial ?_ rfl
  simp only [Tryd.ntmps88, List.size_toArray, List.length_cons, List.length_nil, Nat.reduceAdd, Nat.reduceSub, Array.replicate_succ, Array.replicate_zero, List.push_toArray, List.append_toArray, List.nil_append, List.cons_append]
  gi_wp2_with (first | (gi_at_call 32; refine (callsIn_wide.2 (R1.out _ HR.out)).mono ?_; rintro e w1 ⟨rfl, hb1⟩) | (refine ⟨trivial, ?_⟩; gi_at_call 32; refine (callsIn_wide.2 (R1.out _ HR.out)).mono ?_; rintro e w1 ⟨rfl, hb1⟩))
  refine bodyPost_ret (results_none rfl _ _ _) rfl ?_
  exact ⟨⟨_, rfl⟩, HJ.out _ hb1⟩
end Go.Proofs.YthnnenbpbkmbhaaDoor
namespace Go.Proofs.YthnnenbpbkmbhaaDoor
open Go.RowKit Go.Shelf

attribute [local go_sem] Oper.semAt_some

theorem and_less (r : Nat) (h0 : r ≠ 0) : r &&& (r - 1) < r := by
  have h1 : r &&& (r - 1) ≤ r - 1 := Nat.and_le_right
  omega

open Classical in
set_option maxRecDepth 100000 in
set_option maxHeartbeats 4000000 in
theorem bitsOn1_in (n l Bv n₀ : Nat) (b : Int) (sa : Option Addr) (m cap : Nat) (f : Nat → Int) (J Jx : List Int → World → Prop) (W : World) (hJ : AbidesFrom W.heap.size J) (hn : 1 ≤ n)
    (hY : ∀ pre x W, J pre W → pre.length < 320 → YieldAt Fence.wide (n - 1) Tryd.prog l #[.int .i64 x] W fun e W' =>
      (e = .returned (.bool true) ∧ J (pre ++ [x]) W' ∧ Below n₀ W W') ∨ (e = .returned (.bool false) ∧ Jx (pre ++ [x]) W'))
    (hBx : Boxed W Bv 25 b sa m cap) (hm : m ≤ 1048576) (hR : Right b m f) (hr : Row W n₀ sa m f) (hp0 : 0 < n₀) (hle : n₀ ≤ W.heap.size) (hT : Tab W) (h0 : J [] W) :
    CallsIn Fence.wide n Tryd.prog 88 #[.func (.yield l) #[] #[], .pointer (some ⟨Bv, 0, none⟩)] W fun e W' => (∃ v, e = .returned v) ∧
      ((∃ ys, ys = bitsL f (32 * m) ∧ J ys W') ∨ (∃ pre, (∃ k, k ≤ 32 * m ∧ pre = bitsL f k) ∧ Jx pre W')) := by
  have hm10 : m ≤ 10 := by have := hR.2.2.1; have := hR.2.1; omega
  have hm1 : 0 < m := by have := hR.2.2.1; have := hR.1; omega
  have HF : Hid (∀ i, i < m → 0 ≤ f i ∧ f i ≤ 4294967295) := hR.2.2.2.1
  have C1 := fun W h => implRight_any b sa m cap f W hm h
  rw [decide_eq_true hR] at C1
  have R1 : Hid (∀ W, Row W W.heap.size sa m f → Calls Tryd.prog 32 #[.agg #[.int .i64 b, .slice sa m cap]] W fun e w' => e = .returned (.bool true) ∧ Below W.heap.size W w') := C1
  have HR : Hid (Row W W.heap.size sa m f) := hr.up hle
  have HJ : Hid (∀ w1, Below W.heap.size W w1 → J [] w1) := fun w1 hb => hJ [] W w1 none h0 (grown_of_below hb) (fun r e => by cases e)
  obtain ⟨bb, off, rfl, hbb, hca⟩ : ∃ bb off : Nat, sa = some ⟨bb, off, none⟩ ∧ bb < n₀ ∧ ∀ i, i < m → W.cell? ⟨bb, off + i, none⟩ = some (.int .i64 (f i)) := by
    rcases hr with h | h
    · omega
    · exact h
  have HC : Hid (∀ i, i < m → W.cell? ⟨bb, off + i, none⟩ = some (.int .i64 (f i))) := hca
  have HX : Hid (Boxed W Bv 25 b (some ⟨bb, off, none⟩) m cap) := hBx
  have HTB : Hid (Tab W) := hT
  have HY : Hid (∀ pre x W, J pre W → pre.length < 320 → YieldAt Fence.wide (n - 1) Tryd.prog l #[.int .i64 x] W fun e W' =>
      (e = .returned (.bool true) ∧ J (pre ++ [x]) W' ∧ Below n₀ W W') ∨ (e = .returned (.bool false) ∧ Jx (pre ++ [x]) W')) := hY
  obtain ⟨cv0, cv1⟩ := hBx.cells
  clear C1 hr hJ h0 hca hBx hT hR hY
  refine callsIn_of_wp Tryd.func88 rfl trivial ?_ rfl
  simp only [Tryd.ntmps88, List.size_toArray, List.length_cons, List.length_nil, Nat.reduceAdd, Nat.reduceSub, Array.replicate_succ, Array.replicate_zero, List.push_toArray, List.append_toArray, List.nil_append, List.cons_append]
  gi_wp2_with (first | (gi_at_call 32; refine (callsIn_wide.2 (R1.out _ HR.out)).mono ?_; rintro e w1 ⟨rfl, hb1⟩; clear cv0 cv1; obtain ⟨cv0, cv1⟩ := (HX.out.kept hb1 rfl).cells) | (refine ⟨trivial, ?_⟩; gi_at_call 32; refine (callsIn_wide.2 (R1.out _ HR.out)).mono ?_; rintro e w1 ⟨rfl, hb1⟩; clear cv0 cv1; obtain ⟨cv0, cv1⟩ := (HX.out.kept hb1 rfl).cells))
  have J1 : Hid (J [] w1) := HJ.out _ hb1
  have B1 : Hid (Below n₀ W w1) := hb1.mono hle
  clear hb1 cv0 cv1
  gi_loopw [3, 4, 5, 12] (fun _ _ _ i wr => ∃ k : Nat, k ≤ m ∧ i = .int .i64 (k : Int) ∧ J (bitsL f (32 * k)) wr ∧ Below n₀ W wr) (fun _ _ _ i _ => m - (intOf i).toNat)
  case atStart => exact ⟨0, Nat.zero_le _, rfl, by rw [Nat.mul_zero, bitsL_zero]; exact J1.out, B1.out⟩
  case round =>
    obtain ⟨k, hk, rfl, hJs, hbel⟩ := hrel
    have JS : Hid (J (bitsL f (32 * k)) wr) := hJs
    have HB : Hid (Below n₀ W wr) := hbel
    by_cases hkl : k < m
    · have cz : wr.cell? ⟨bb, off + k, none⟩ = some (.int .i64 (f k)) := by rw [hbel.cell (p := ⟨bb, off + k, none⟩) hbb]; exact HC.out k hkl
      clear hJs hbel
      obtain ⟨x0, x1⟩ := HF.out k hkl
      have hki : (k : Int) < (m : Int) := by omega
      have hk0 : (0 : Int) ≤ (k : Int) := by omega
      have hk10 : (k : Int) ≤ 9 := by omega
      gi_wp2
      gi_loopw [5] (fun rv wq => ∃ p r : Nat, p ≤ 32 ∧ Rest (f k).toNat p r ∧ rv = .int .u32 (r : Int) ∧ J (bitsL f (32 * k + p)) wq ∧ Below n₀ W wq) (fun rv _ => (intOf rv).toNat)
      case atStart => exact ⟨0, (f k).toNat, by omega, rest_start (by omega), by congr 1; omega, JS.out, HB.out⟩
      case round =>
        obtain ⟨p, r, hp, hrest, rfl, hJq, hbq⟩ := hrel
        have RS : Hid (Rest (f k).toNat p r) := hrest
        have JQ : Hid (J (bitsL f (32 * k + p)) wr) := hJq
        have BQ : Hid (Below n₀ W wr) := hbq
        have hr32 := hrest.1
        clear hrest hJq hbq
        by_cases hr0 : r = 0
        · subst hr0
          gi_wp2
          go_roundw
          case rel => exact ⟨k + 1, by omega, by go_num, by rw [come_end hp RS.out]; exact JQ.out, BQ.out⟩
          case measure => simp [intOf]; omega
        · obtain ⟨hc1, hc2, hc3, hc4⟩ := come_step RS.out hr0
          have hTZ := fun W h => tz_any r (by omega) hr0 W h
          have CL : Hid (r &&& (r - 1) < r) := and_less r hr0
          have RA : Hid (bits .and .u32 (r : Int) ((r : Int) - 1) = ((r &&& (r - 1) : Nat) : Int)) := rest_and r hr0 hr32
          obtain ⟨t, ht⟩ : ∃ t, Lib.ctz 32 r = t := ⟨_, rfl⟩
          rw [ht] at hc1 hc2 hc3 hc4 hTZ
          have TZ : Hid (∀ W, Tab W → Calls Tryd.prog 89 #[.int .u32 (r : Int)] W fun e w' => e = .returned (.int .i64 (t : Int)) ∧ w' = W) := hTZ
          have C1 : Hid (bitsL f (32 * k + (t + 1)) = bitsL f (32 * k + p) ++ [(k : Int) * 32 + (t : Int)]) := by
            show bitsL f (32 * k + (t + 1)) = bitsL f (32 * k + p) ++ [(k : Int) * 32 + (t : Int)]
            rw [hc1]
            congr 2
            omega
          have C4 : Hid (Rest (f k).toNat (t + 1) (r &&& (r - 1))) := hc4
          have TW : Hid (Tab wr) := HTB.out.kept BQ.out hp0
          clear hc1 hc4 hTZ ht
          have hlen : (bitsL f (32 * k + p)).length < 320 := by have := bitsL_len f (32 * k + p); omega
          obtain ⟨fn, tmps, assign, body, hy, hRd⟩ := HY.out _ ((k : Int) * 32 + (t : Int)) wr JQ.out hlen
          have HRD : Hid (RoundIn Fence.wide (n - 1) Tryd.prog l fn tmps assign body wr fun e W' =>
            (e = .returned (.bool true) ∧ J (bitsL f (32 * k + p) ++ [(k : Int) * 32 + (t : Int)]) W' ∧ Below n₀ wr W') ∨ (e = .returned (.bool false) ∧ Jx (bitsL f (32 * k + p) ++ [(k : Int) * 32 + (t : Int)]) W')) := hRd
          clear hRd hlen
          have hrne : ((r : Int) == 0) = false := by simp; omega
          have hri0 : (0 : Int) ≤ (r : Int) := by omega
          have hri1 : (r : Int) ≤ 4294967295 := by omega
          have hri2 : (1 : Int) ≤ (r : Int) := by omega
          have ht0 : (0 : Int) ≤ (t : Int) := by omega
          have ht1 : (t : Int) ≤ 31 := by omega
          gi_wp2_with (first | (gi_at_call 89; refine (callsIn_wide.2 (TZ.out _ TW.out)).mono ?_; rintro e w2 ⟨rfl, rfl⟩) | (refine ⟨trivial, ?_⟩; gi_at_call 89; refine (callsIn_wide.2 (TZ.out _ TW.out)).mono ?_; rintro e w2 ⟨rfl, rfl⟩))
          refine HRD.out.mono ?_
          rintro e W3 (⟨rfl, hJ3, hk3⟩ | ⟨rfl, hJx3⟩)
          · have J3 : Hid (J (bitsL f (32 * k + (t + 1))) W3) := by
              show J (bitsL f (32 * k + (t + 1))) W3
              rw [C1.out]
              exact hJ3
            have B3 : Hid (Below n₀ W W3) := BQ.out.trans hk3
            clear hJ3 hk3
            gi_wp2
            go_roundw
            case rel => exact ⟨t + 1, r &&& (r - 1), by omega, C4.out, by rw [← RA.out], J3.out, B3.out⟩
            case measure => rw [RA.out]; simp [intOf]; exact CL.out
          · have J3 : Hid (Jx (bitsL f (32 * k + (t + 1))) W3) := by
              show Jx (bitsL f (32 * k + (t + 1))) W3
              rw [C1.out]
              exact hJx3
            clear hJx3
            gi_wp2
            refine bodyPost_ret (results_none rfl _ _ _) rfl ?_
            exact ⟨⟨_, rfl⟩, .inr ⟨_, ⟨32 * k + (t + 1), by omega, rfl⟩, J3.out⟩⟩
    · obtain rfl : k = m := by omega
      have hki : ¬ (k : Int) < (k : Int) := by omega
      clear hJs hbel
      gi_wp2
      go_end0
      first | exact ⟨⟨_, rfl⟩, .inl JS.out⟩ | exact ⟨⟨_, rfl⟩, .inl ⟨_, rfl, JS.out⟩⟩
end Go.Proofs.YthnnenbpbkmbhaaDoor
namespace Go.Proofs.YthnnenbpbkmbhaaDoor
open Go.RowKit Go.Shelf

theorem bits_stops (n Bv n₀ : Nat) (hn : 1 ≤ n) (b : Int) (sa : Option Addr) (m cap : Nat) (f : Nat → Int) (L : List Int) (hL : Come b m f L) (w : World) (hBx : Boxed w Bv 25 b sa m cap) (hm : m ≤ 1048576) (hr : Row w n₀ sa m f) (hp0 : 0 < n₀) (hle : n₀ ≤ w.heap.size) (hT : Tab w) :
    SeqStopsK Fence.wide n Tryd.prog 88 #[.pointer (some ⟨Bv, 0, none⟩)] (fun x : Int => #[Value.int .i64 x]) (Below n₀) (fun ys => ys = L) (fun pre => ∃ r, L = pre ++ r) 320 w := fun l J Jx W hW hJ _ hY h0 => by
  have hBx' := hBx.kept hW rfl
  have hr' : Row W n₀ sa m f := hr.kept (hW.mono hle)
  have hT' := hT.kept (hW.mono hle) hp0
  have hle' : n₀ ≤ W.heap.size := Nat.le_trans hle hW.size
  by_cases h : Right b m f
  · obtain rfl := hL.1 h
    refine (bitsOn1_in n l Bv n₀ b sa m cap f J Jx W hJ hn hY hBx' hm h hr' hp0 hle' hT' h0).mono ?_
    rintro e W' ⟨he, ⟨ys, rfl, hj⟩ | ⟨pre, ⟨k, hk, rfl⟩, hj⟩⟩
    · exact ⟨he, .inl ⟨_, rfl, hj⟩⟩
    · exact ⟨he, .inr ⟨_, bitsL_pre f k _ hk, hj⟩⟩
  · obtain rfl := hL.2 h
    refine (bitsOn1_no n l Bv b sa m cap f J W hJ hn hBx' hm h (hr'.up hle') h0).mono ?_
    rintro e W' ⟨he, hj⟩
    exact ⟨he, .inl ⟨_, rfl, hj⟩⟩
end Go.Proofs.YthnnenbpbkmbhaaDoor
