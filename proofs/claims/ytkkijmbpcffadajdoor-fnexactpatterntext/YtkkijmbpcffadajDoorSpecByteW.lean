/- What is proved here: the specification's l04Byte and l04Runs write a byte, and the runs of a class; nothing that was there turns. -/
import Derived.Test.YtkkijmbpcffadajDoorTextM
import Derived.Test.YtkkijmbpcffadajDoorOneW
import Derived.Test.YtkkijmbpcffadajDoorL03HasW
import Derived.Test.YtkkijmbpcffadajDoorClassRightW
import Derived.Deep.RegionWith
namespace Go.Proofs.YtkkijmbpcffadajDoor
open Go.RowKit

theorem hexs_0 (w : World) : (Instr.slice 9 (.string ⟨#[48, 49, 50, 51, 52, 53, 54, 55, 56, 57, 97, 98, 99, 100, 101, 102]⟩) (some (.int .u8 0)) (some (.int .u8 1)) none).run Tryd.prog w = .ok (.string (strOfNums [48])) w := by kernel_rfl
theorem hexs_1 (w : World) : (Instr.slice 9 (.string ⟨#[48, 49, 50, 51, 52, 53, 54, 55, 56, 57, 97, 98, 99, 100, 101, 102]⟩) (some (.int .u8 1)) (some (.int .u8 2)) none).run Tryd.prog w = .ok (.string (strOfNums [49])) w := by kernel_rfl
theorem hexs_2 (w : World) : (Instr.slice 9 (.string ⟨#[48, 49, 50, 51, 52, 53, 54, 55, 56, 57, 97, 98, 99, 100, 101, 102]⟩) (some (.int .u8 2)) (some (.int .u8 3)) none).run Tryd.prog w = .ok (.string (strOfNums [50])) w := by kernel_rfl
theorem hexs_3 (w : World) : (Instr.slice 9 (.string ⟨#[48, 49, 50, 51, 52, 53, 54, 55, 56, 57, 97, 98, 99, 100, 101, 102]⟩) (some (.int .u8 3)) (some (.int .u8 4)) none).run Tryd.prog w = .ok (.string (strOfNums [51])) w := by kernel_rfl
theorem hexs_4 (w : World) : (Instr.slice 9 (.string ⟨#[48, 49, 50, 51, 52, 53, 54, 55, 56, 57, 97, 98, 99, 100, 101, 102]⟩) (some (.int .u8 4)) (some (.int .u8 5)) none).run Tryd.prog w = .ok (.string (strOfNums [52])) w := by kernel_rfl
theorem hexs_5 (w : World) : (Instr.slice 9 (.string ⟨#[48, 49, 50, 51, 52, 53, 54, 55, 56, 57, 97, 98, 99, 100, 101, 102]⟩) (some (.int .u8 5)) (some (.int .u8 6)) none).run Tryd.prog w = .ok (.string (strOfNums [53])) w := by kernel_rfl
theorem hexs_6 (w : World) : (Instr.slice 9 (.string ⟨#[48, 49, 50, 51, 52, 53, 54, 55, 56, 57, 97, 98, 99, 100, 101, 102]⟩) (some (.int .u8 6)) (some (.int .u8 7)) none).run Tryd.prog w = .ok (.string (strOfNums [54])) w := by kernel_rfl
theorem hexs_7 (w : World) : (Instr.slice 9 (.string ⟨#[48, 49, 50, 51, 52, 53, 54, 55, 56, 57, 97, 98, 99, 100, 101, 102]⟩) (some (.int .u8 7)) (some (.int .u8 8)) none).run Tryd.prog w = .ok (.string (strOfNums [55])) w := by kernel_rfl
theorem hexs_8 (w : World) : (Instr.slice 9 (.string ⟨#[48, 49, 50, 51, 52, 53, 54, 55, 56, 57, 97, 98, 99, 100, 101, 102]⟩) (some (.int .u8 8)) (some (.int .u8 9)) none).run Tryd.prog w = .ok (.string (strOfNums [56])) w := by kernel_rfl
theorem hexs_9 (w : World) : (Instr.slice 9 (.string ⟨#[48, 49, 50, 51, 52, 53, 54, 55, 56, 57, 97, 98, 99, 100, 101, 102]⟩) (some (.int .u8 9)) (some (.int .u8 10)) none).run Tryd.prog w = .ok (.string (strOfNums [57])) w := by kernel_rfl
theorem hexs_10 (w : World) : (Instr.slice 9 (.string ⟨#[48, 49, 50, 51, 52, 53, 54, 55, 56, 57, 97, 98, 99, 100, 101, 102]⟩) (some (.int .u8 10)) (some (.int .u8 11)) none).run Tryd.prog w = .ok (.string (strOfNums [97])) w := by kernel_rfl
theorem hexs_11 (w : World) : (Instr.slice 9 (.string ⟨#[48, 49, 50, 51, 52, 53, 54, 55, 56, 57, 97, 98, 99, 100, 101, 102]⟩) (some (.int .u8 11)) (some (.int .u8 12)) none).run Tryd.prog w = .ok (.string (strOfNums [98])) w := by kernel_rfl
theorem hexs_12 (w : World) : (Instr.slice 9 (.string ⟨#[48, 49, 50, 51, 52, 53, 54, 55, 56, 57, 97, 98, 99, 100, 101, 102]⟩) (some (.int .u8 12)) (some (.int .u8 13)) none).run Tryd.prog w = .ok (.string (strOfNums [99])) w := by kernel_rfl
theorem hexs_13 (w : World) : (Instr.slice 9 (.string ⟨#[48, 49, 50, 51, 52, 53, 54, 55, 56, 57, 97, 98, 99, 100, 101, 102]⟩) (some (.int .u8 13)) (some (.int .u8 14)) none).run Tryd.prog w = .ok (.string (strOfNums [100])) w := by kernel_rfl
theorem hexs_14 (w : World) : (Instr.slice 9 (.string ⟨#[48, 49, 50, 51, 52, 53, 54, 55, 56, 57, 97, 98, 99, 100, 101, 102]⟩) (some (.int .u8 14)) (some (.int .u8 15)) none).run Tryd.prog w = .ok (.string (strOfNums [101])) w := by kernel_rfl
theorem hexs_15 (w : World) : (Instr.slice 9 (.string ⟨#[48, 49, 50, 51, 52, 53, 54, 55, 56, 57, 97, 98, 99, 100, 101, 102]⟩) (some (.int .u8 15)) (some (.int .u8 16)) none).run Tryd.prog w = .ok (.string (strOfNums [102])) w := by kernel_rfl
theorem hexs_at (d : Nat) (hd : d < 16) (w : World) : (Instr.slice 9 (.string ⟨#[48, 49, 50, 51, 52, 53, 54, 55, 56, 57, 97, 98, 99, 100, 101, 102]⟩) (some (.int .u8 (d : Int))) (some (.int .u8 ((d : Int) + 1))) none).run Tryd.prog w = .ok (.string (strOfNums [hexD d])) w := by
  have h : d = 0 ∨ d = 1 ∨ d = 2 ∨ d = 3 ∨ d = 4 ∨ d = 5 ∨ d = 6 ∨ d = 7 ∨ d = 8 ∨ d = 9 ∨ d = 10 ∨ d = 11 ∨ d = 12 ∨ d = 13 ∨ d = 14 ∨ d = 15 := by omega
  rcases h with rfl | rfl | rfl | rfl | rfl | rfl | rfl | rfl | rfl | rfl | rfl | rfl | rfl | rfl | rfl | rfl
  · exact hexs_0 w
  · exact hexs_1 w
  · exact hexs_2 w
  · exact hexs_3 w
  · exact hexs_4 w
  · exact hexs_5 w
  · exact hexs_6 w
  · exact hexs_7 w
  · exact hexs_8 w
  · exact hexs_9 w
  · exact hexs_10 w
  · exact hexs_11 w
  · exact hexs_12 w
  · exact hexs_13 w
  · exact hexs_14 w
  · exact hexs_15 w
/-- The bytes that stand behind a stroke. -/
def strokeT : ByteArray := ⟨#[46, 92, 91, 93, 63, 42, 43, 123, 125, 40, 41, 94, 45]⟩
theorem strokeT_has (b : Nat) (hb : b < 256) : hasByte strokeT b = stroke b := by
  have h : ∀ x : Fin 256, hasByte strokeT x.val = stroke x.val := by decide +kernel
  exact h ⟨b, hb⟩
theorem below_drewS {a w : World} {B : Nat} (h : Below B a w) : Below B a w.drew := ⟨h.os, h.tape, h.output, h.size, h.block⟩

set_option maxRecDepth 100000 in
set_option maxHeartbeats 2000000 in
theorem l04Byte_any (b : Nat) (w : World) (hb : b < 256) :
    Calls Tryd.prog 35 #[.int .u8 (b : Int)] w fun e w' => e = .returned (.string (strOfNums (byteL b))) ∧ Below w.heap.size w w' := by
  have hcv := conv_one (b : Int) w
  have HA : Hid (Below w.heap.size w (w.alloc (.cells #[.int .u8 (b : Int)] 5))) := (Below.refl _ _).alloc (Nat.le_refl _) _
  by_cases h1 : b < 32 ∨ 126 < b
  · have HL : Hid (byteL b = [92, 120, hexD (b / 16), hexD (b % 16)]) := byteL_hex h1
    have hd : ((b / 16 : Nat) : Int) = (b : Int) / 16 := by omega
    have hm : ((b % 16 : Nat) : Int) = (b : Int) % 16 := by omega
    have hx1 : ∀ W, (Instr.slice 9 (.string ⟨#[48, 49, 50, 51, 52, 53, 54, 55, 56, 57, 97, 98, 99, 100, 101, 102]⟩) (some (.int .u8 ((b : Int) / 16))) (some (.int .u8 ((b : Int) / 16 + 1))) none).run Tryd.prog W = .ok (.string (strOfNums [hexD (b / 16)])) W := fun W => by rw [← hd]; exact hexs_at (b / 16) (by omega) W
    have hx2 : ∀ W, (Instr.slice 9 (.string ⟨#[48, 49, 50, 51, 52, 53, 54, 55, 56, 57, 97, 98, 99, 100, 101, 102]⟩) (some (.int .u8 ((b : Int) % 16))) (some (.int .u8 ((b : Int) % 16 + 1))) none).run Tryd.prog W = .ok (.string (strOfNums [hexD (b % 16)])) W := fun W => by rw [← hm]; exact hexs_at (b % 16) (by omega) W
    have w1 : IntKind.u8.wrap ((b : Int) / 16) = (b : Int) / 16 := by rw [IntKind.wrap_u8]; omega
    have w2 : IntKind.u8.wrap ((b : Int) / 16 + 1) = (b : Int) / 16 + 1 := by rw [IntKind.wrap_u8]; omega
    have w3 : IntKind.u8.wrap ((b : Int) % 16) = (b : Int) % 16 := by rw [IntKind.wrap_u8]; omega
    have w4 : IntKind.u8.wrap ((b : Int) % 16 + 1) = (b : Int) % 16 + 1 := by rw [IntKind.wrap_u8]; omega
    have s1 : (strOfNums [hexD (b / 16)]).size = 1 := by rw [strOfNums_size]; rfl
    have s2 : (strOfNums [hexD (b % 16)]).size = 1 := by rw [strOfNums_size]; rfl
    have HE : Hid (((⟨#[92, 120]⟩ : ByteArray) ++ strOfNums [hexD (b / 16)]) ++ strOfNums [hexD (b % 16)] = strOfNums [92, 120, hexD (b / 16), hexD (b % 16)]) := by
      show ((⟨#[92, 120]⟩ : ByteArray) ++ strOfNums [hexD (b / 16)]) ++ strOfNums [hexD (b % 16)] = strOfNums ([92, 120] ++ [hexD (b / 16)] ++ [hexD (b % 16)])
      rw [strApp, strApp]
      rfl
    generalize strOfNums [hexD (b / 16)] = x1 at *
    generalize strOfNums [hexD (b % 16)] = x2 at *
    have s3 : ((⟨#[92, 120]⟩ : ByteArray) ++ x1).size = 3 := by rw [ByteArray.size_append, s1]; rfl
    clear hd hm hcv HA
    by_cases h2 : (b : Int) < 32
    · go_enter Tryd.func35, Tryd.ntmps35
      go_wp2
      go_region
      all_goals
        go_wp2
        go_ret
        exact ⟨by rw [HL.out, ← HE.out]; rfl, below_drewS (Below.refl _ _)⟩
    · have h3 : 126 < (b : Int) := by omega
      go_enter Tryd.func35, Tryd.ntmps35
      go_wp2
      go_region
      all_goals
        go_wp2
        go_ret
        exact ⟨by rw [HL.out, ← HE.out]; rfl, below_drewS (Below.refl _ _)⟩
  · have h2 : ¬ (b : Int) < 32 := by omega
    have h3 : ¬ 126 < (b : Int) := by omega
    have HS : Hid (∀ W, Calls Tryd.prog 55 #[.string strokeT, .int .u8 (b : Int)] W fun e w' => e = .returned (.bool (stroke b)) ∧ w' = W) := fun W => by rw [← strokeT_has b hb]; exact l03Has_any strokeT b W (by show 13 ≤ _; unfold maxLen; omega)
    have s1 : (one (b : Int)).size = 1 := one_size _
    by_cases h4 : stroke b = true
    · have HL : Hid (byteL b = [92, (b : Int)]) := byteL_stroke h1 h4
      have HE : Hid ((⟨#[92]⟩ : ByteArray) ++ one (b : Int) = strOfNums [92, (b : Int)]) := by
        show (⟨#[92]⟩ : ByteArray) ++ one (b : Int) = strOfNums ([92] ++ [(b : Int)])
        rw [strApp]
        rfl
      rw [h4] at HS
      clear h1 h4
      go_enter Tryd.func35, Tryd.ntmps35
      go_wp2_with (go_at_call 55; refine (HS.out _).mono ?_; rintro e w2 ⟨rfl, hw2⟩; rw [hw2]; clear hw2 w2)
      go_ret
      exact ⟨by rw [HL.out, ← HE.out]; rfl, HA.out⟩
    · have h5 : stroke b = false := by simpa using h4
      have HL : Hid (byteL b = [(b : Int)]) := byteL_plain h1 h5
      rw [h5] at HS
      clear h1 h4 h5
      go_enter Tryd.func35, Tryd.ntmps35
      go_wp2_with (go_at_call 55; refine (HS.out _).mono ?_; rintro e w2 ⟨rfl, hw2⟩; rw [hw2]; clear hw2 w2)
      go_ret
      exact ⟨by rw [HL.out]; rfl, HA.out⟩
end Go.Proofs.YtkkijmbpcffadajDoor
