/- What is proved here: the program's putByte writes a byte behind a row of bytes that the call owns; what lies below stays. -/
import Derived.Test.YtkkijmbpcffadajDoorTextM
import Derived.Test.YtkkijmbpcffadajDoorIndexByteW
import Derived.Test.YtkkijmbpcffadajDoorRow8W
import Derived.Deep.RegionWith
import Derived.Deep.RegionLaw
import Derived.Laws.AppendOwn
namespace Go.Proofs.YtkkijmbpcffadajDoor
open Go.RowKit

/-- The bytes that stand behind a stroke. -/
def strokes : ByteArray := ⟨#[46, 92, 91, 93, 63, 42, 43, 123, 125, 40, 41, 94, 45]⟩
theorem strokes_in (b : Nat) (hb : b < 256) : ((b : Int).toNat.toUInt8 ∈ strokes.data.toList) ↔ stroke b = true := by
  have h : ∀ x : Fin 256, ((x.val : Int).toNat.toUInt8 ∈ strokes.data.toList) ↔ stroke x.val = true := by decide +kernel
  exact h ⟨b, hb⟩
theorem stroke_pos {b : Nat} (hb : b < 256) (h : stroke b = true) : 0 ≤ Lib.indexByte strokes.data.toList (b : Int).toNat.toUInt8 := indexByte_pos ((strokes_in b hb).2 h)
theorem stroke_neg {b : Nat} (hb : b < 256) (h : stroke b = false) : Lib.indexByte strokes.data.toList (b : Int).toNat.toUInt8 = -1 := indexByte_neg (fun hm => by rw [(strokes_in b hb).1 hm] at h; cases h)

set_option maxHeartbeats 1000000 in
theorem stands_yes (b : Nat) (w : World) (hb : b < 256) (h : ¬ (b < 32 ∨ 126 < b)) (h2 : stroke b = false) :
    Calls Tryd.prog 57 #[.int .u8 (b : Int)] w fun e w' => e = .returned (.bool true) ∧ w' = w := by
  have h3 : 32 ≤ (b : Int) := by omega
  have h4 : (b : Int) ≤ 126 := by omega
  have h5 : Hid (Lib.indexByte strokes.data.toList (b : Int).toNat.toUInt8 = -1) := stroke_neg hb h2
  go_enter Tryd.func57, Tryd.ntmps57
  go_wp2_with (go_at_call 58; refine (indexByte_any strokes (b : Int) _).mono ?_; rintro e w' ⟨rfl, rfl⟩; rw [h5.out])
  go_ret
  exact ⟨rfl, rfl⟩
set_option maxHeartbeats 1000000 in
theorem stands_no (b : Nat) (w : World) (hb : b < 256) (h : (b < 32 ∨ 126 < b) ∨ stroke b = true) :
    Calls Tryd.prog 57 #[.int .u8 (b : Int)] w fun e w' => e = .returned (.bool false) ∧ w' = w := by
  by_cases h1 : b < 32
  · have h3 : ¬ 32 ≤ (b : Int) := by omega
    go_enter Tryd.func57, Tryd.ntmps57
    go_wp2_with fail
    go_ret
    exact ⟨rfl, rfl⟩
  · have h3 : 32 ≤ (b : Int) := by omega
    by_cases h2 : 126 < b
    · have h4 : ¬ (b : Int) ≤ 126 := by omega
      go_enter Tryd.func57, Tryd.ntmps57
      go_wp2_with fail
      go_ret
      refine ⟨?_, rfl⟩
      first | rfl | (show Ending.returned (.bool (decide ((b : Int) ≤ 126))) = _; rw [decide_eq_false (by omega)]) | (show Ending.returned (.bool (decide (b ≤ 126))) = _; rw [decide_eq_false (by omega)])
    · have h4 : (b : Int) ≤ 126 := by omega
      have h5 : stroke b = true := by rcases h with h | h
                                      · omega
                                      · exact h
      have h6 := stroke_pos hb h5
      have H6 : Hid (0 ≤ Lib.indexByte strokes.data.toList (b : Int).toNat.toUInt8) := h6
      clear h h5 h6
      go_enter Tryd.func57, Tryd.ntmps57
      go_wp2_with (go_at_call 58; refine (indexByte_any strokes (b : Int) _).mono ?_; rintro e w' ⟨rfl, rfl⟩; have h7 := H6.out; generalize Lib.indexByte strokes.data.toList (b : Int).toNat.toUInt8 = x at *; have h8 : decide (x < 0) = false := decide_eq_false (by omega))
      go_ret
      exact ⟨rfl, rfl⟩
theorem hex_0 (w : World) : (Instr.index 9 (.string ⟨#[48, 49, 50, 51, 52, 53, 54, 55, 56, 57, 97, 98, 99, 100, 101, 102]⟩) (.int .u8 0)).run Tryd.prog w = .ok (.int .u8 48) w := by kernel_rfl
theorem hex_1 (w : World) : (Instr.index 9 (.string ⟨#[48, 49, 50, 51, 52, 53, 54, 55, 56, 57, 97, 98, 99, 100, 101, 102]⟩) (.int .u8 1)).run Tryd.prog w = .ok (.int .u8 49) w := by kernel_rfl
theorem hex_2 (w : World) : (Instr.index 9 (.string ⟨#[48, 49, 50, 51, 52, 53, 54, 55, 56, 57, 97, 98, 99, 100, 101, 102]⟩) (.int .u8 2)).run Tryd.prog w = .ok (.int .u8 50) w := by kernel_rfl
theorem hex_3 (w : World) : (Instr.index 9 (.string ⟨#[48, 49, 50, 51, 52, 53, 54, 55, 56, 57, 97, 98, 99, 100, 101, 102]⟩) (.int .u8 3)).run Tryd.prog w = .ok (.int .u8 51) w := by kernel_rfl
theorem hex_4 (w : World) : (Instr.index 9 (.string ⟨#[48, 49, 50, 51, 52, 53, 54, 55, 56, 57, 97, 98, 99, 100, 101, 102]⟩) (.int .u8 4)).run Tryd.prog w = .ok (.int .u8 52) w := by kernel_rfl
theorem hex_5 (w : World) : (Instr.index 9 (.string ⟨#[48, 49, 50, 51, 52, 53, 54, 55, 56, 57, 97, 98, 99, 100, 101, 102]⟩) (.int .u8 5)).run Tryd.prog w = .ok (.int .u8 53) w := by kernel_rfl
theorem hex_6 (w : World) : (Instr.index 9 (.string ⟨#[48, 49, 50, 51, 52, 53, 54, 55, 56, 57, 97, 98, 99, 100, 101, 102]⟩) (.int .u8 6)).run Tryd.prog w = .ok (.int .u8 54) w := by kernel_rfl
theorem hex_7 (w : World) : (Instr.index 9 (.string ⟨#[48, 49, 50, 51, 52, 53, 54, 55, 56, 57, 97, 98, 99, 100, 101, 102]⟩) (.int .u8 7)).run Tryd.prog w = .ok (.int .u8 55) w := by kernel_rfl
theorem hex_8 (w : World) : (Instr.index 9 (.string ⟨#[48, 49, 50, 51, 52, 53, 54, 55, 56, 57, 97, 98, 99, 100, 101, 102]⟩) (.int .u8 8)).run Tryd.prog w = .ok (.int .u8 56) w := by kernel_rfl
theorem hex_9 (w : World) : (Instr.index 9 (.string ⟨#[48, 49, 50, 51, 52, 53, 54, 55, 56, 57, 97, 98, 99, 100, 101, 102]⟩) (.int .u8 9)).run Tryd.prog w = .ok (.int .u8 57) w := by kernel_rfl
theorem hex_10 (w : World) : (Instr.index 9 (.string ⟨#[48, 49, 50, 51, 52, 53, 54, 55, 56, 57, 97, 98, 99, 100, 101, 102]⟩) (.int .u8 10)).run Tryd.prog w = .ok (.int .u8 97) w := by kernel_rfl
theorem hex_11 (w : World) : (Instr.index 9 (.string ⟨#[48, 49, 50, 51, 52, 53, 54, 55, 56, 57, 97, 98, 99, 100, 101, 102]⟩) (.int .u8 11)).run Tryd.prog w = .ok (.int .u8 98) w := by kernel_rfl
theorem hex_12 (w : World) : (Instr.index 9 (.string ⟨#[48, 49, 50, 51, 52, 53, 54, 55, 56, 57, 97, 98, 99, 100, 101, 102]⟩) (.int .u8 12)).run Tryd.prog w = .ok (.int .u8 99) w := by kernel_rfl
theorem hex_13 (w : World) : (Instr.index 9 (.string ⟨#[48, 49, 50, 51, 52, 53, 54, 55, 56, 57, 97, 98, 99, 100, 101, 102]⟩) (.int .u8 13)).run Tryd.prog w = .ok (.int .u8 100) w := by kernel_rfl
theorem hex_14 (w : World) : (Instr.index 9 (.string ⟨#[48, 49, 50, 51, 52, 53, 54, 55, 56, 57, 97, 98, 99, 100, 101, 102]⟩) (.int .u8 14)).run Tryd.prog w = .ok (.int .u8 101) w := by kernel_rfl
theorem hex_15 (w : World) : (Instr.index 9 (.string ⟨#[48, 49, 50, 51, 52, 53, 54, 55, 56, 57, 97, 98, 99, 100, 101, 102]⟩) (.int .u8 15)).run Tryd.prog w = .ok (.int .u8 102) w := by kernel_rfl
theorem hex_at (d : Nat) (hd : d < 16) (w : World) : (Instr.index 9 (.string ⟨#[48, 49, 50, 51, 52, 53, 54, 55, 56, 57, 97, 98, 99, 100, 101, 102]⟩) (.int .u8 (d : Int))).run Tryd.prog w = .ok (.int .u8 (hexD d)) w := by
  have h : d = 0 ∨ d = 1 ∨ d = 2 ∨ d = 3 ∨ d = 4 ∨ d = 5 ∨ d = 6 ∨ d = 7 ∨ d = 8 ∨ d = 9 ∨ d = 10 ∨ d = 11 ∨ d = 12 ∨ d = 13 ∨ d = 14 ∨ d = 15 := by omega
  rcases h with rfl | rfl | rfl | rfl | rfl | rfl | rfl | rfl | rfl | rfl | rfl | rfl | rfl | rfl | rfl | rfl
  · exact hex_0 w
  · exact hex_1 w
  · exact hex_2 w
  · exact hex_3 w
  · exact hex_4 w
  · exact hex_5 w
  · exact hex_6 w
  · exact hex_7 w
  · exact hex_8 w
  · exact hex_9 w
  · exact hex_10 w
  · exact hex_11 w
  · exact hex_12 w
  · exact hex_13 w
  · exact hex_14 w
  · exact hex_15 w
theorem and15 (b : Nat) (hb : b < 256) : bits .and .u8 (b : Int) 15 = ((b % 16 : Nat) : Int) := by
  have h : ∀ x : Fin 256, bits .and .u8 (x.val : Int) 15 = ((x.val % 16 : Nat) : Int) := by decide +kernel
  exact h ⟨b, hb⟩

set_option maxRecDepth 100000 in
set_option maxHeartbeats 4000000 in
theorem putByte_any (b : Nat) (w : World) (B : Nat) (v : Value) (M : List Int) (hb : b < 256) (hB : B ≤ w.heap.size) (hl : M.length ≤ 1000000) (hr : RowX w B v M) :
    Calls Tryd.prog 42 #[v, .int .u8 (b : Int)] w fun e w' => ∃ v', e = .returned v' ∧ Row8 w' B v' (M ++ byteL b) ∧ Below B w w' := by
  have HR : Hid (RowX w B v M) := hr
  clear hr
  have BA : ∀ o, Below B w (w.alloc o) := fun o => (Below.refl _ _).alloc hB _
  have HBA : Hid (∀ o, Below B w (w.alloc o)) := BA
  clear BA
  by_cases h1 : b < 32 ∨ 126 < b
  · have h3 : stroke b = false := by
      cases h : stroke b
      · rfl
      · exact absurd h1 (stroke_in h)
    have HL : Hid (byteL b = [92, 120, hexD (b / 16), hexD (b % 16)]) := byteL_hex h1
    have HS : Hid (∀ W, Calls Tryd.prog 57 #[.int .u8 (b : Int)] W fun e w' => e = .returned (.bool false) ∧ w' = W) := fun W => stands_no b W hb (Or.inl h1)
    have H6 : Hid (Lib.indexByte strokes.data.toList (b : Int).toNat.toUInt8 = -1) := stroke_neg hb h3
    have hd : ((b / 16 : Nat) : Int) = (b : Int) / 16 := by omega
    have hm : ((b % 16 : Nat) : Int) = (b : Int) % 16 := by omega
    have a15 : bits .and .u8 (b : Int) 15 = (b : Int) % 16 := by rw [and15 b hb, hm]
    have hx1 : ∀ W, (Instr.index 9 (.string ⟨#[48, 49, 50, 51, 52, 53, 54, 55, 56, 57, 97, 98, 99, 100, 101, 102]⟩) (.int .u8 ((b : Int) / 16))).run Tryd.prog W = .ok (.int .u8 (hexD (b / 16))) W := fun W => by rw [← hd]; exact hex_at (b / 16) (by omega) W
    have hx2 : ∀ W, (Instr.index 9 (.string ⟨#[48, 49, 50, 51, 52, 53, 54, 55, 56, 57, 97, 98, 99, 100, 101, 102]⟩) (.int .u8 ((b : Int) % 16))).run Tryd.prog W = .ok (.int .u8 (hexD (b % 16))) W := fun W => by rw [← hm]; exact hex_at (b % 16) (by omega) W
    generalize hexD (b / 16) = d1 at *
    generalize hexD (b % 16) = d2 at *
    clear hd hm h1 h3
    go_enter Tryd.func42, Tryd.ntmps42
    go_wp2_with (first | (go_at_call 57; refine (HS.out _).mono ?_; rintro e w2 ⟨rfl, hw2⟩; rw [hw2]; clear hw2 w2) | (go_at_call 58; refine (indexByte_any strokes (b : Int) _).mono ?_; rintro e w2 ⟨rfl, hw2⟩; rw [hw2]; clear hw2 w2; rw [H6.out]))
    go_region_law (refine step_app8 rfl (.tmp 20) (.tmp 27) rfl B v M [92, 120, d1, d2] (by simp [Act.eval]) (HR.out.alloc _).drew (by simp; omega) ⟨w.heap.size, 0, none⟩ 4 (by simp [Act.eval]) (by simp) (by exact new_cells w [92, 120, d1, d2] _ _ rfl) (by simp; omega) ?_; intro v' w2 hrow2 hbel2)
    all_goals
      have HW2 : Hid (Below B w w2) := (HBA.out _).drew.trans hbel2
      have HO2 : Hid (Row8 w2 B v' (M ++ byteL b)) := by
        show Row8 w2 B v' (M ++ byteL b)
        rw [HL.out]
        exact hrow2
      clear hrow2 hbel2
      go_wp2_with fail
      go_ret
      exact ⟨v', rfl, HO2.out, HW2.out⟩
  · by_cases h2 : stroke b = true
    · have HL : Hid (byteL b = [92, (b : Int)]) := byteL_stroke h1 h2
      have HS : Hid (∀ W, Calls Tryd.prog 57 #[.int .u8 (b : Int)] W fun e w' => e = .returned (.bool false) ∧ w' = W) := fun W => stands_no b W hb (Or.inr h2)
      have H6 : Hid (0 ≤ Lib.indexByte strokes.data.toList (b : Int).toNat.toUInt8) := stroke_pos hb h2
      clear h1 h2
      go_enter Tryd.func42, Tryd.ntmps42
      go_wp2_with (first | (go_at_call 57; refine (HS.out _).mono ?_; rintro e w2 ⟨rfl, hw2⟩; rw [hw2]; clear hw2 w2) | (go_at_call 58; refine (indexByte_any strokes (b : Int) _).mono ?_; rintro e w2 ⟨rfl, hw2⟩; rw [hw2]; clear hw2 w2; have h7 := H6.out; generalize Lib.indexByte strokes.data.toList (b : Int).toNat.toUInt8 = x at *; have h8 : decide (0 ≤ x) = true := decide_eq_true h7) | (at_builtin; refine wpList_app8 rfl (.tmp 16) (.tmp 18) rfl B v M [92, (b : Int)] rfl (HR.out.alloc _) ?c1 ⟨w.heap.size, 0, none⟩ 2 rfl ?c2 ?c3 ?c4 ?_))
      case c1 => simp; omega
      case c2 => simp
      case c3 => exact new_cells w [92, (b : Int)] _ _ rfl
      case c4 => simp; omega
      intro v' w2 hrow2 hbel2
      have HW2 : Hid (Below B w w2) := (HBA.out _).trans hbel2
      have HO2 : Hid (Row8 w2 B v' (M ++ byteL b)) := by
        show Row8 w2 B v' (M ++ byteL b)
        rw [HL.out]
        exact hrow2
      clear hrow2 hbel2
      go_wp2_with fail
      go_ret
      exact ⟨v', rfl, HO2.out, HW2.out⟩
    · have h3 : stroke b = false := by simpa using h2
      have HL : Hid (byteL b = [(b : Int)]) := byteL_plain h1 h3
      have HS : Hid (∀ W, Calls Tryd.prog 57 #[.int .u8 (b : Int)] W fun e w' => e = .returned (.bool true) ∧ w' = W) := fun W => stands_yes b W hb h1 h3
      clear h1 h2 h3
      go_enter Tryd.func42, Tryd.ntmps42
      go_wp2_with (first | (go_at_call 57; refine (HS.out _).mono ?_; rintro e w2 ⟨rfl, hw2⟩; rw [hw2]; clear hw2 w2) | (at_builtin; refine wpList_app8 rfl (.tmp 8) (.tmp 10) rfl B v M [(b : Int)] rfl (HR.out.alloc _) ?c1 ⟨w.heap.size, 0, none⟩ 1 rfl ?c2 ?c3 ?c4 ?_))
      case c1 => simp; omega
      case c2 => simp
      case c3 => exact new_cells w [(b : Int)] _ _ rfl
      case c4 => simp; omega
      intro v' w2 hrow2 hbel2
      have HW2 : Hid (Below B w w2) := (HBA.out _).trans hbel2
      have HO2 : Hid (Row8 w2 B v' (M ++ byteL b)) := by
        show Row8 w2 B v' (M ++ byteL b)
        rw [HL.out]
        exact hrow2
      clear hrow2 hbel2
      go_wp2_with fail
      go_ret
      exact ⟨v', rfl, HO2.out, HW2.out⟩
end Go.Proofs.YtkkijmbpcffadajDoor
