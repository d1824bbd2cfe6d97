/- What is proved here: whether a byte is there and an atom stands for it, as the program says it; nothing that was there turns. -/
import Derived.Test.YtapdegmgochkhaaQClassMToFromM
import Derived.Test.YtapdegmgochkhaaQIndexByteW
import Derived.Test.YtapdegmgochkhaaQClassRightW
import Derived.Deep.QuietTactic
import Derived.BigQuiet
namespace Go.Proofs.Ytapdegmgochkhaa
open Go.RowKit

theorem idx_has (c : ByteArray) (b : UInt8) : decide (0 ≤ Lib.indexByte c.data.toList b) = hasByte c b.toNat := by
  by_cases h : b ∈ c.data.toList
  · rw [decide_eq_true (indexByte_pos h)]
    unfold hasByte
    symm
    rw [List.any_eq_true]
    exact ⟨b, h, by simp⟩
  · rw [indexByte_neg h]
    have : hasByte c b.toNat = false := by
      unfold hasByte
      rw [List.any_eq_false]
      intro x hx hxb
      rw [beq_iff_eq] at hxb
      have : x = b := UInt8.toNat_inj.1 hxb
      subst this
      exact h hx
    rw [this]
    rfl
theorem idx_nat (b : UInt8) : ((b.toNat : Nat) : Int).toNat.toUInt8 = b := by
  rw [Int.toNat_natCast]
  simp
set_option maxRecDepth 100000 in
set_option maxHeartbeats 2000000 in
theorem takes_any (sa : Option Addr) (n cap : Nat) (t : ByteArray) (mb : Option Nat) (c : ByteArray) (l m : Int) (s : Nat) (w : World) (hs0 : s ≤ 8000) :
    Calls Try.prog 150 #[.agg #[.slice sa n cap, .string t, .map mb], .agg #[.string c, .int .i64 l, .int .i64 m], .int .i64 (s : Int)] w fun e w' => e = .returned (.bool (takesB t c s)) ∧ Below w.heap.size w w' := by
  have BX : Hid (Below w.heap.size w ((w.alloc (.cells #[.slice sa n cap, .string t, .map mb] 129)).alloc (.cells #[.string c, .int .i64 l, .int .i64 m] 91))) := ((Below.refl _ _).alloc (Nat.le_refl _) _).alloc (by simp) _
  by_cases hs : s < t.size
  · have hd : decide ((s : Int) < (t.size : Int)) = true := by simp; omega
    have hi : (s : Int) < (t.size : Int) := by omega
    have hi0 : (0 : Int) ≤ (s : Int) := by omega
    have HT : Hid (takesB t c s = decide (0 ≤ Lib.indexByte c.data.toList t[s])) := by
      show takesB t c s = decide (0 ≤ Lib.indexByte c.data.toList t[s])
      rw [idx_has]
      unfold takesB
      rw [dif_pos hs]
    have HI : Hid (∀ W, Calls Try.prog 158 #[.string c, .int .u8 ((t[s].toNat : Nat) : Int)] W fun e w' => e = .returned (.int .i64 (Lib.indexByte c.data.toList t[s])) ∧ w' = W) := fun W => by
      have := indexByte_any c ((t[s].toNat : Nat) : Int) W
      rw [idx_nat] at this
      exact this
    generalize Lib.indexByte c.data.toList t[s] = r at HT HI
    go_enter Try.func150, Try.ntmps150
    go_wp2_with fail
    go_quiet (first | (go_at_call 158; exact Calls.quiet_of_same (HI.out _)))
    go_wp2
    go_ret
    exact ⟨by rw [HT.out]; rfl, below_drewC _ BX.out⟩
  · have hd : decide ((s : Int) < (t.size : Int)) = false := by simp; omega
    have hi : ¬ (s : Int) < (t.size : Int) := by omega
    have HT : Hid (takesB t c s = false) := by
      show takesB t c s = false
      unfold takesB
      rw [dif_neg hs]
    go_enter Try.func150, Try.ntmps150
    go_wp2_with fail
    go_quiet (fail)
    go_wp2
    go_ret
    exact ⟨by rw [HT.out]; rfl, below_drewC _ BX.out⟩
end Go.Proofs.Ytapdegmgochkhaa
