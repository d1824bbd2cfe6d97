/- What is proved here: spec.l01Crc and impl.crcByte, impl.CrcMore hand back the register reckoned bit by bit (crcTo); spec.Crc and impl.Crc, spec.CrcMore and impl.CrcMore answer the same; nothing in memory turns. -/
import Derived.Test.YtpdedggnjcnpgaaProg
import Derived.WalkKit
import Derived.Laws.BitsAllLaws
namespace Go.Proofs.Ytpdedggnjcnpgaa
open Go.RowKit

/-- One bit of the register's way down. -/
def crcBit (r : Int) : Int := if (bits .and .u32 r 1 == 1) = true then bits .xor .u32 (r / 2) 3988292384 else r / 2
def crcBits : Nat → Int → Int
  | 0, r => r
  | k + 1, r => crcBit (crcBits k r)
/-- One byte. -/
def crcStep (r b : Int) : Int := crcBits 8 (bits .xor .u32 r b)
/-- The first k bytes. -/
def crcTo (s : ByteArray) (r : Int) (k : Nat) : Int := (s.data.toList.take k).foldl (fun x c => crcStep x (c.toNat : Int)) r
theorem crcTo_zero (s : ByteArray) (r : Int) : crcTo s r 0 = r := rfl
theorem crcTo_succ (s : ByteArray) (r : Int) (k : Nat) (h : k < s.size) : crcTo s r (k + 1) = crcStep (crcTo s r k) (s[k].toNat : Int) := by
  unfold crcTo
  rw [List.take_succ_eq_append_getElem (by simpa using h), List.foldl_append]
  rfl
theorem crcBit_yes (r : Int) (h : (bits .and .u32 r 1 == 1) = true) : crcBit r = bits .xor .u32 (r / 2) 3988292384 := by unfold crcBit; rw [if_pos h]
theorem crcBit_no (r : Int) (h : ¬ (bits .and .u32 r 1 == 1) = true) : crcBit r = r / 2 := by unfold crcBit; rw [if_neg h]
theorem crcBits_succ (k : Nat) (r : Int) : crcBits (k + 1) r = crcBit (crcBits k r) := rfl
/-- The register ahead of all bytes, and behind them. -/
def crcTurn (x : Int) : Int := bits .xor .u32 x 4294967295
theorem crcTurn_other (x : Int) : bits .xor .u32 4294967295 x = crcTurn x := by
  show IntKind.u32.wrap ((BitVec.ofInt 32 4294967295 ^^^ BitVec.ofInt 32 x).toNat : Int) = IntKind.u32.wrap ((BitVec.ofInt 32 x ^^^ BitVec.ofInt 32 4294967295).toNat : Int)
  rw [BitVec.xor_comm]
theorem bits_range (op : BinOp) (x y : Int) : 0 ≤ bits op .u32 x y ∧ bits op .u32 x y ≤ 4294967295 := by
  show 0 ≤ IntKind.u32.wrap _ ∧ IntKind.u32.wrap _ ≤ 4294967295
  rw [IntKind.wrap_u32]
  omega

theorem wrap_turn (x : Int) : wrap64 (bits .xor .u32 x 4294967295) = crcTurn x := by
  have h := bits_range .xor x 4294967295
  unfold crcTurn wrap64
  omega
theorem wrap_turn_other (x : Int) : wrap64 (bits .xor .u32 4294967295 x) = crcTurn x := by
  rw [← wrap_turn, crcTurn_other]
  rfl
theorem ret_int {k : IntKind} {a b : Int} (h : a = b) : Ending.returned (.int k a) = .returned (.int k b) := by rw [h]
theorem val_int {k : IntKind} {a b : Int} (h : a = b) : Value.int k a = .int k b := by rw [h]

set_option maxHeartbeats 1000000 in
theorem crcByte_any (r c : Int) (w : World) (h0 : 0 ≤ c) (h1 : c < 256) :
    Calls Try.prog 23 #[.int .u32 r, .int .u8 c] w fun e w' => e = .returned (.int .u32 (crcStep r c)) ∧ w' = w := by
  go_enter Try.func23, Try.ntmps23
  go_wp2
  go_loop [0, 10] (fun x i => ∃ k : Nat, k ≤ 8 ∧ i = .int .i64 k ∧ x = .int .u32 (crcBits k (bits .xor .u32 r c))) (fun _ i => 8 - (intOf i).toNat)
  case atStart => exact ⟨0, Nat.zero_le _, rfl, rfl⟩
  case round =>
    obtain ⟨k, hk, rfl, rfl⟩ := hrel
    by_cases hlt : k < 8
    · have hy := crcBit_yes (crcBits k (bits .xor .u32 r c))
      have hn := crcBit_no (crcBits k (bits .xor .u32 r c))
      have hS := crcBits_succ k (bits .xor .u32 r c)
      generalize crcBits k (bits .xor .u32 r c) = x at *
      have HY : Hid ((bits .and .u32 x 1 == 1) = true → crcBit x = bits .xor .u32 (x / 2) 3988292384) := hy
      have HN : Hid (¬ (bits .and .u32 x 1 == 1) = true → crcBit x = x / 2) := hn
      have HS : Hid (crcBits (k + 1) (bits .xor .u32 r c) = crcBit x) := hS
      clear hy hn hS
      by_cases ht : (bits .and .u32 x 1 == 1) = true
      · go_wp2
        go_round
        case rel => exact ⟨k + 1, by omega, by go_num, val_int (by rw [HS.out, HY.out ht])⟩
        case measure => simp [intOf]; omega
      · have hf : (bits .and .u32 x 1 == 1) = false := by simpa using ht
        go_wp2
        go_round
        case rel => exact ⟨k + 1, by omega, by go_num, val_int (by rw [HS.out, HN.out ht])⟩
        case measure => simp [intOf]; omega
    · go_wp2
      go_ret
      obtain rfl : k = 8 := by omega
      exact ⟨rfl, rfl⟩

set_option maxHeartbeats 1000000 in
theorem specCrc_any (crc : Int) (s : ByteArray) (w : World) (hs : s.size ≤ maxLen) (h0 : 0 ≤ crc) (h1 : crc ≤ 4294967295) :
    Calls Try.prog 20 #[.int .i64 crc, .string s] w fun e w' => e = .returned (.int .i64 (crcTurn (crcTo s (crcTurn crc) s.size))) ∧ w' = w := by
  unfold maxLen at hs
  go_enter Try.func20, Try.ntmps20
  go_wp2
  go_loop [5, 6] (fun x i => ∃ k : Nat, k ≤ s.size ∧ i = .int .i64 k ∧ x = .int .u32 (crcTo s (crcTurn crc) k)) (fun _ i => s.size - (intOf i).toNat)
  case atStart => exact ⟨0, Nat.zero_le _, rfl, rfl⟩
  case round =>
    obtain ⟨k, hk, rfl, rfl⟩ := hrel
    by_cases hlt : k < s.size
    · have HS : Hid (crcTo s (crcTurn crc) (k + 1) = crcStep (crcTo s (crcTurn crc) k) (s[k].toNat : Int)) := crcTo_succ s (crcTurn crc) k hlt
      have hb : (s[k].toNat : Int) < 256 := by have := s[k].toNat_lt; omega
      generalize crcTo s (crcTurn crc) k = z at *
      go_wp2
      generalize (s[k].toNat : Int) = c at *
      go_loop [5, 7] (fun x j => ∃ m : Nat, m ≤ 8 ∧ j = .int .i64 m ∧ x = .int .u32 (crcBits m (bits .xor .u32 z c))) (fun _ j => 8 - (intOf j).toNat)
      case atStart => exact ⟨0, Nat.zero_le _, rfl, rfl⟩
      case round =>
        obtain ⟨m, hm, rfl, rfl⟩ := hrel
        by_cases hlm : m < 8
        · have hy := crcBit_yes (crcBits m (bits .xor .u32 z c))
          have hn := crcBit_no (crcBits m (bits .xor .u32 z c))
          have hT := crcBits_succ m (bits .xor .u32 z c)
          generalize crcBits m (bits .xor .u32 z c) = x at *
          have HY : Hid ((bits .and .u32 x 1 == 1) = true → crcBit x = bits .xor .u32 (x / 2) 3988292384) := hy
          have HN : Hid (¬ (bits .and .u32 x 1 == 1) = true → crcBit x = x / 2) := hn
          have HT : Hid (crcBits (m + 1) (bits .xor .u32 z c) = crcBit x) := hT
          clear hy hn hT
          by_cases ht : (bits .and .u32 x 1 == 1) = true
          · go_wp2
            go_round
            case rel => exact ⟨m + 1, by omega, by go_num, val_int (by rw [HT.out, HY.out ht])⟩
            case measure => simp [intOf]; omega
          · have hf : (bits .and .u32 x 1 == 1) = false := by simpa using ht
            go_wp2
            go_round
            case rel => exact ⟨m + 1, by omega, by go_num, val_int (by rw [HT.out, HN.out ht])⟩
            case measure => simp [intOf]; omega
        · go_wp2
          obtain rfl : m = 8 := by omega
          go_round
          case rel => exact ⟨k + 1, by omega, by go_num, val_int (by rw [HS.out]; rfl)⟩
          case measure => simp [intOf]; omega
    · go_wp2
      go_ret
      obtain rfl : k = s.size := by omega
      exact ⟨ret_int (wrap_turn _), rfl⟩

set_option maxHeartbeats 1000000 in
theorem implCrcMore_yes (crc : Int) (s : ByteArray) (w : World) (hs : s.size ≤ 8000) (h0 : 0 ≤ crc) (h1 : crc ≤ 4294967295) :
    Calls Try.prog 10 #[.int .i64 crc, .string s] w fun e w' => e = .returned (.int .i64 (crcTurn (crcTo s (crcTurn crc) s.size))) ∧ w' = w := by
  go_enter Try.func10, Try.ntmps10
  go_wp2_with fail
  go_loop [5, 6] (fun x i => ∃ k : Nat, k ≤ s.size ∧ i = .int .i64 k ∧ x = .int .u32 (crcTo s (crcTurn crc) k)) (fun _ i => s.size - (intOf i).toNat)
  case atStart => exact ⟨0, Nat.zero_le _, rfl, val_int (crcTurn_other crc)⟩
  case round =>
    obtain ⟨k, hk, rfl, rfl⟩ := hrel
    by_cases hlt : k < s.size
    · have HS : Hid (crcTo s (crcTurn crc) (k + 1) = crcStep (crcTo s (crcTurn crc) k) (s[k].toNat : Int)) := crcTo_succ s (crcTurn crc) k hlt
      have hb : (s[k].toNat : Int) < 256 := by have := s[k].toNat_lt; omega
      generalize crcTo s (crcTurn crc) k = z at *
      go_wp2_with (go_at_call 23; refine (crcByte_any _ _ _ (by omega) hb).mono ?_; rintro e w' ⟨rfl, rfl⟩)
      go_round
      case rel => exact ⟨k + 1, by omega, by go_num, val_int HS.out.symm⟩
      case measure => simp [intOf]; omega
    · go_wp2
      go_ret
      obtain rfl : k = s.size := by omega
      exact ⟨ret_int (wrap_turn_other _), rfl⟩

set_option maxHeartbeats 1000000 in
theorem implCrcMore_no (crc : Int) (s : ByteArray) (w : World) (hs : s.size ≤ maxLen) (h : 8000 < s.size ∨ crc < 0 ∨ 4294967295 < crc) :
    Calls Try.prog 10 #[.int .i64 crc, .string s] w fun e w' => e = .returned (.int .i64 0) ∧ w' = w := by
  unfold maxLen at hs
  by_cases a : 8000 < s.size
  · go_enter Try.func10, Try.ntmps10
    go_wp2
    go_ret
    exact ⟨rfl, rfl⟩
  · by_cases b : crc < 0
    · go_enter Try.func10, Try.ntmps10
      go_wp2
      go_ret
      exact ⟨rfl, rfl⟩
    · have c : 4294967295 < crc := by omega
      go_enter Try.func10, Try.ntmps10
      go_wp2
      go_ret
      exact ⟨rfl, rfl⟩

set_option maxHeartbeats 1000000 in
theorem specCrcMore_yes (crc : Int) (s : ByteArray) (w : World) (hs : s.size ≤ 8000) (h0 : 0 ≤ crc) (h1 : crc ≤ 4294967295) :
    Calls Try.prog 11 #[.int .i64 crc, .string s] w fun e w' => e = .returned (.int .i64 (crcTurn (crcTo s (crcTurn crc) s.size))) ∧ w' = w := by
  have hm : s.size ≤ maxLen := by unfold maxLen; omega
  go_enter Try.func11, Try.ntmps11
  go_wp2_with (go_at_call 20; refine (specCrc_any _ _ _ hm h0 h1).mono ?_; rintro e w' ⟨rfl, rfl⟩)
  go_ret
  exact ⟨rfl, rfl⟩

set_option maxHeartbeats 1000000 in
theorem specCrcMore_no (crc : Int) (s : ByteArray) (w : World) (hs : s.size ≤ maxLen) (h : 8000 < s.size ∨ crc < 0 ∨ 4294967295 < crc) :
    Calls Try.prog 11 #[.int .i64 crc, .string s] w fun e w' => e = .returned (.int .i64 0) ∧ w' = w := by
  unfold maxLen at hs
  by_cases a : 8000 < s.size
  · go_enter Try.func11, Try.ntmps11
    go_wp2
    go_ret
    exact ⟨rfl, rfl⟩
  · by_cases b : crc < 0
    · go_enter Try.func11, Try.ntmps11
      go_wp2
      go_ret
      exact ⟨rfl, rfl⟩
    · have c : 4294967295 < crc := by omega
      go_enter Try.func11, Try.ntmps11
      go_wp2
      go_ret
      exact ⟨rfl, rfl⟩

set_option maxHeartbeats 1000000 in
theorem specCrc_yes (s : ByteArray) (w : World) (hs : s.size ≤ 8000) :
    Calls Try.prog 22 #[.string s] w fun e w' => e = .returned (.int .i64 (crcTurn (crcTo s (crcTurn 0) s.size))) ∧ w' = w := by
  have hm : s.size ≤ maxLen := by unfold maxLen; omega
  go_enter Try.func22, Try.ntmps22
  go_wp2_with (go_at_call 20; refine (specCrc_any _ _ _ hm (by decide) (by decide)).mono ?_; rintro e w' ⟨rfl, rfl⟩)
  go_ret
  exact ⟨rfl, rfl⟩
theorem specCrc_no (s : ByteArray) (w : World) (hs : s.size ≤ maxLen) (h : 8000 < s.size) :
    Calls Try.prog 22 #[.string s] w fun e w' => e = .returned (.int .i64 0) ∧ w' = w := by
  unfold maxLen at hs
  go_enter Try.func22, Try.ntmps22
  go_wp2
  go_ret
  exact ⟨rfl, rfl⟩
theorem implCrc_yes (s : ByteArray) (w : World) (hs : s.size ≤ 8000) :
    Calls Try.prog 12 #[.string s] w fun e w' => e = .returned (.int .i64 (crcTurn (crcTo s (crcTurn 0) s.size))) ∧ w' = w := by
  go_enter Try.func12, Try.ntmps12
  go_wp2_with (go_at_call 10; refine (implCrcMore_yes _ _ _ hs (by decide) (by decide)).mono ?_; rintro e w' ⟨rfl, rfl⟩)
  go_ret
  exact ⟨rfl, rfl⟩
theorem implCrc_no (s : ByteArray) (w : World) (hs : s.size ≤ maxLen) (h : 8000 < s.size) :
    Calls Try.prog 12 #[.string s] w fun e w' => e = .returned (.int .i64 0) ∧ w' = w := by
  go_enter Try.func12, Try.ntmps12
  go_wp2_with (go_at_call 10; refine (implCrcMore_no _ _ _ hs (Or.inl h)).mono ?_; rintro e w' ⟨rfl, rfl⟩)
  go_ret
  exact ⟨rfl, rfl⟩
end Go.Proofs.Ytpdedggnjcnpgaa
