/- What is proved here: the specification's l01Dec of a number of one digit or two; nothing that was there turns. -/
import Derived.Test.YtkkijmbpcffadajDoorMdigM
namespace Go.Proofs.YtkkijmbpcffadajDoor
open Go.RowKit

set_option maxRecDepth 100000 in
set_option maxHeartbeats 1000000 in
theorem dec_any (k : Nat) (w : World) (hk : k < 100) : Calls Tryd.prog 38 #[.int .i64 (k : Int)] w fun e w' => e = .returned (.string (decT k)) ∧ Below w.heap.size w w' := by
  by_cases h0 : k = 0
  · subst h0
    go_enter Tryd.func38, Tryd.ntmps38
    go_wp2
    go_ret
    exact ⟨rfl, Below.refl _ _⟩
  have HD : Hid (mdig k ⟨#[]⟩ = decT k) := mdig_dec (by omega) hk
  have t1 : ((k : Int) == 0) = false := by simp; omega
  have t2 : ¬ (k : Int) < 0 := by omega
  go_enter Tryd.func38, Tryd.ntmps38
  go_wp2
  go_loopw [0, 4] (fun j o wr => ∃ (x : Nat) (t : ByteArray), j = .int .i64 (x : Int) ∧ o = .string t ∧ x + t.size ≤ k ∧ mdig x t = mdig k ⟨#[]⟩ ∧ Below w.heap.size w wr) (fun j _ _ => (intOf j).toNat)
  case atStart => exact ⟨k, ⟨#[]⟩, rfl, rfl, Nat.le_refl _, rfl, Below.refl _ _⟩
  case round =>
    obtain ⟨x, t, rfl, rfl, hx, hm, hbel⟩ := hrel
    have HB : Hid (Below w.heap.size w wr) := hbel
    have HM : Hid (mdig x t = mdig k ⟨#[]⟩) := hm
    clear hbel hm
    by_cases hx0 : x = 0
    · subst hx0
      go_wp2
      go_ret
      refine ⟨?_, HB.out⟩
      show Ending.returned (.string t) = _
      rw [← HD.out, ← HM.out, mdig_zero]
    · have hpos : ((x : Int) == 0) = false := by simp; omega
      have hpos2 : ((x : Int) != 0) = true := by simp; omega
      have hx1 : (x : Int) ≤ 1000 := by omega
      have hx2 : (0 : Int) ≤ (x : Int) := by omega
      have HN : Hid (mdig x t = mdig (x / 10) (one (48 + ((x % 10 : Nat) : Int)) ++ t)) := mdig_some hx0 t
      have hcv := fun v => conv_one v wr
      have hw : IntKind.u8.wrap (48 + (x : Int) % 10) = 48 + (x : Int) % 10 := by rw [IntKind.wrap_u8]; omega
      have hd0 : ¬ (x : Int) % 10 < 0 := by omega
      have hlen : ¬ 9223372036854775807 < (one (48 + (x : Int) % 10)).size + t.size := by rw [one_size]; omega
      go_wp2
      go_roundw
      case rel =>
        refine ⟨x / 10, one (48 + ((x % 10 : Nat) : Int)) ++ t, by go_num, ?_, ?_, by rw [← HN.out]; exact HM.out, HB.out.alloc HB.out.size _⟩
        · rw [show ((x % 10 : Nat) : Int) = (x : Int) % 10 by omega]
        · rw [ByteArray.size_append, one_size]
          have : x / 10 < x := by omega
          omega
      case measure => simp [intOf]; omega
end Go.Proofs.YtkkijmbpcffadajDoor
