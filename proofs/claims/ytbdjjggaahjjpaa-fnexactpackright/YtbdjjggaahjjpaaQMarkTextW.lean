/- What is proved here: the laws' markText hands back a text that hangs on its number alone; nothing that was there turns. -/
import Derived.Test.YtbdjjggaahjjpaaQOneWToMdigM
namespace Go.Proofs.Ytbdjjggaahjjpaa
open Go.RowKit

/-- The text of a mark. -/
def mtext (k : Nat) : ByteArray := (⟨#[109]⟩ : ByteArray) ++ mdig k ⟨#[]⟩
theorem app_size (a b : ByteArray) : (a ++ b).size = a.size + b.size := ByteArray.size_append

set_option maxHeartbeats 1000000 in
theorem markText_any (k : Nat) (w : World) (h0 : 0 < k) (h1 : k ≤ 1099511627776) :
    Calls Try.prog 77 #[.int .i64 (k : Int)] w fun e w' => e = .returned (.string (mtext k)) ∧ Below w.heap.size w w' := by
  have h2 : ¬ (k : Int) ≤ 0 := by omega
  go_enter Try.func77, Try.ntmps77
  go_wp2
  go_loopw [0, 3] (fun j o wr => ∃ (x : Nat) (t : ByteArray), j = .int .i64 (x : Int) ∧ o = .string t ∧ x + t.size ≤ k ∧ mdig x t = mdig k ⟨#[]⟩ ∧ Below w.heap.size w wr) (fun j _ _ => (intOf j).toNat)
  case atStart => exact ⟨k, ⟨#[]⟩, rfl, rfl, Nat.le_refl _, rfl, Below.refl _ _⟩
  case round =>
    obtain ⟨x, t, rfl, rfl, hx, hm, hbel⟩ := hrel
    have HB : Hid (Below w.heap.size w wr) := hbel
    have HM : Hid (mdig x t = mdig k ⟨#[]⟩) := hm
    clear hbel hm
    by_cases hx0 : x = 0
    · subst hx0
      have hle : ¬ (0 : Int) < ((0 : Nat) : Int) := by omega
      go_wp2
      go_ret
      refine ⟨?_, HB.out⟩
      show Ending.returned (.string ((⟨#[109]⟩ : ByteArray) ++ t)) = _
      unfold mtext
      rw [← HM.out, mdig_zero]
    · have hpos : (0 : Int) < (x : Int) := by omega
      have hx1 : (x : Int) ≤ 1099511627776 := by omega
      have HN : Hid (mdig x t = mdig (x / 10) (one (48 + ((x % 10 : Nat) : Int)) ++ t)) := mdig_some hx0 t
      have hcv := fun v => conv_one v wr
      have hw : IntKind.u8.wrap (48 + (x : Int) % 10) = 48 + (x : Int) % 10 := by rw [IntKind.wrap_u8]; omega
      have hlen : ¬ 9223372036854775807 < (one (48 + (x : Int) % 10)).size + t.size := by rw [one_size]; omega
      go_wp2
      go_roundw
      case rel =>
        refine ⟨x / 10, one (48 + ((x % 10 : Nat) : Int)) ++ t, by go_num, ?_, ?_, by rw [← HN.out]; exact HM.out, HB.out.alloc HB.out.size _⟩
        · rw [show ((x % 10 : Nat) : Int) = (x : Int) % 10 by omega]
        · rw [app_size, one_size]
          have : x / 10 < x := by omega
          omega
      case measure => simp [intOf]; omega
end Go.Proofs.Ytbdjjggaahjjpaa
