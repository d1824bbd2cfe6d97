/- What is proved here: spec.Seal and impl.Seal hand back the same text (sealOf); nothing that was there turns. -/
import Derived.Test.YtpdedggnjcnpgaaCrcW
import Derived.Test.YtpdedggnjcnpgaaJoinW
import Derived.RegionTactic
import Derived.Deep.RegionWith
namespace Go.Proofs.Ytpdedggnjcnpgaa
open Go.RowKit Go.Lib

/-- The four bytes of a CRC, the lowest first. -/
def four (n : Int) : ByteArray := strOfNums [n % 256, n / 256 % 256, n / 65536 % 256, n / 16777216 % 256]
theorem four_size (n : Int) : (four n).size = 4 := by unfold four; rw [strOfNums_size]; rfl
def crcOf (s : ByteArray) : Int := crcTurn (crcTo s (crcTurn 0) s.size)
def sealOf (s : ByteArray) : ByteArray := s ++ four (crcOf s)

theorem conv_four (n : Int) (w : World) : (convert 22 9 (Value.slice (some ⟨w.heap.size, 0, none⟩) 4 4)).run Try.prog (w.alloc (.cells #[.int .u8 (n % 256), .int .u8 (n / 256 % 256), .int .u8 (n / 65536 % 256), .int .u8 (n / 16777216 % 256)] 5))
    = .ok (.string (four n)) (w.alloc (.cells #[.int .u8 (n % 256), .int .u8 (n / 256 % 256), .int .u8 (n / 65536 % 256), .int .u8 (n / 16777216 % 256)] 5)) :=
  run_convert_bytes_arg (P := Try.prog) _ 22 5 Try.underlying22 Try.underlying5 w.heap.size 0 4 4 [n % 256, n / 256 % 256, n / 65536 % 256, n / 16777216 % 256] rfl (fun i hi => by
    rw [Nat.zero_add, World.cell?_alloc_mark]
    match i, hi with
    | 0, _ => rfl
    | 1, _ => rfl
    | 2, _ => rfl
    | 3, _ => rfl) 9 Try.underlying9

set_option maxHeartbeats 1000000 in
theorem specFour_any (n : Int) (w : World) :
    Calls Try.prog 19 #[.int .i64 n] w fun e w' => e = .returned (.string (four n)) ∧ Below w.heap.size w w' := by
  have hcv := conv_four n w
  go_enter Try.func19, Try.ntmps19
  go_wp2
  go_ret
  exact ⟨rfl, (Below.refl _ _).alloc (Nat.le_refl _) _⟩

theorem specCrc0 (s : ByteArray) (w : World) (hs : s.size ≤ maxLen) :
    Calls Try.prog 20 #[.int .i64 0, .string s] w fun e w' => e = .returned (.int .i64 (crcOf s)) ∧ w' = w :=
  specCrc_any 0 s w hs (by decide) (by decide)
theorem implCrc0 (s : ByteArray) (w : World) (hs : s.size ≤ 8000) :
    Calls Try.prog 12 #[.string s] w fun e w' => e = .returned (.int .i64 (crcOf s)) ∧ w' = w :=
  implCrc_yes s w hs

set_option maxHeartbeats 1000000 in
theorem sealBytes_any (s : ByteArray) (w : World) (hs : s.size ≤ 8000) :
    Calls Try.prog 18 #[.string s] w fun e w' => e = .returned (.string (four (crcOf s))) ∧ Below w.heap.size w w' := by
  have hcv := conv_four (crcOf s) w
  go_enter Try.func18, Try.ntmps18
  go_wp2_with (go_at_call 12; refine (implCrc0 _ _ hs).mono ?_; rintro e w' ⟨rfl, rfl⟩)
  go_ret
  exact ⟨rfl, (Below.refl _ _).alloc (Nat.le_refl _) _⟩

set_option maxHeartbeats 1000000 in
theorem specSeal_yes (s : ByteArray) (w : World) (hs : s.size ≤ 7996) :
    Calls Try.prog 6 #[.string s] w fun e w' => e = .returned (.string (sealOf s)) ∧ Below w.heap.size w w' := by
  have hm : s.size ≤ maxLen := by unfold maxLen; omega
  have h4 : (four (crcOf s)).size ≤ 4 := Nat.le_of_eq (four_size (crcOf s))
  go_enter Try.func6, Try.ntmps6
  go_wp2_with (first | (go_at_call 20; refine (specCrc0 _ _ hm).mono ?_; rintro e w' ⟨rfl, rfl⟩) | (go_at_call 19; refine (specFour_any _ _).mono ?_; rintro e w' ⟨rfl, hbel⟩))
  go_ret
  exact ⟨rfl, hbel⟩
theorem specSeal_no (s : ByteArray) (w : World) (hs : s.size ≤ maxLen) (h : 7996 < s.size) :
    Calls Try.prog 6 #[.string s] w fun e w' => e = .returned (.string ⟨#[]⟩) ∧ w' = w := by
  unfold maxLen at hs
  go_enter Try.func6, Try.ntmps6
  go_wp2
  go_ret
  exact ⟨rfl, rfl⟩

set_option maxHeartbeats 1000000 in
theorem implSeal_yes (s : ByteArray) (w : World) (hs : s.size ≤ 7996) :
    Calls Try.prog 5 #[.string s] w fun e w' => e = .returned (.string (sealOf s)) ∧ Below w.heap.size w w' := by
  have h4 : (four (crcOf s)).size ≤ 4 := Nat.le_of_eq (four_size (crcOf s))
  have h8 : s.size ≤ 8000 := by omega
  go_enter Try.func5, Try.ntmps5
  go_wp2_with fail
  refine (sealBytes_any s _ h8).mono ?_
  rintro e w1 ⟨rfl, hb1⟩
  have HB : Hid (Below w.heap.size w w1) := hb1
  clear hb1
  go_wp2_with fail
  refine (joined_any s (four (crcOf s)) _ (by omega)).mono ?_
  rintro e w2 ⟨rfl, hb2⟩
  have HB2 : Hid (Below w.heap.size w w2) := HB.out.trans (hb2.mono HB.out.size)
  clear hb2
  go_wp2
  go_ret
  exact ⟨rfl, HB2.out⟩
theorem implSeal_no (s : ByteArray) (w : World) (hs : s.size ≤ maxLen) (h : 7996 < s.size) :
    Calls Try.prog 5 #[.string s] w fun e w' => e = .returned (.string ⟨#[]⟩) ∧ w' = w := by
  unfold maxLen at hs
  go_enter Try.func5, Try.ntmps5
  go_wp2
  go_ret
  exact ⟨rfl, rfl⟩

end Go.Proofs.Ytpdedggnjcnpgaa
