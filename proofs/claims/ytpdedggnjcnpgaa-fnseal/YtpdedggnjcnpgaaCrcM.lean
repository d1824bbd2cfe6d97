/- What is proved here: plain facts on the CRC: it goes on from text to text; with one byte turned it differs; its four bytes tell it. -/
import Derived.Test.YtpdedggnjcnpgaaUnsealI
namespace Go.Proofs.Ytpdedggnjcnpgaa
open Go.RowKit Go.Lib

/-- One bit, on numbers. -/
def cb (r : Nat) : Nat := if r % 2 = 1 then (r / 2) ^^^ 3988292384 else r / 2
theorem cb_lt (r : Nat) (h : r < 4294967296) : cb r < 4294967296 := by
  unfold cb
  split
  · exact Nat.xor_lt_two_pow (n := 32) (by omega) (by decide)
  · omega
theorem half_bit (r : Nat) (h : r < 4294967296) : (r / 2).testBit 31 = false := Nat.testBit_lt_two_pow (by omega)
theorem cb_bit (r : Nat) (h : r < 4294967296) : (cb r).testBit 31 = decide (r % 2 = 1) := by
  unfold cb
  have hp : Nat.testBit 3988292384 31 = true := by decide
  split
  · rename_i h1
    rw [Nat.testBit_xor, half_bit r h, hp, decide_eq_true h1]
    rfl
  · rename_i h1
    rw [half_bit r h, decide_eq_false h1]
theorem cb_inj (r r' : Nat) (h : r < 4294967296) (h' : r' < 4294967296) (e : cb r = cb r') : r = r' := by
  have hb : decide (r % 2 = 1) = decide (r' % 2 = 1) := by rw [← cb_bit r h, ← cb_bit r' h', e]
  have hd : r / 2 = r' / 2 := by
    unfold cb at e
    by_cases h1 : r % 2 = 1
    · have h2 : r' % 2 = 1 := by rw [decide_eq_true h1] at hb; exact of_decide_eq_true hb.symm
      rw [if_pos h1, if_pos h2] at e
      have := congrArg (· ^^^ 3988292384) e
      simpa [Nat.xor_assoc] using this
    · have h2 : ¬ r' % 2 = 1 := by rw [decide_eq_false h1] at hb; exact of_decide_eq_false hb.symm
      rw [if_neg h1, if_neg h2] at e
      exact e
  have hm : r % 2 = r' % 2 := by
    by_cases h1 : r % 2 = 1
    · have h2 : r' % 2 = 1 := by rw [decide_eq_true h1] at hb; exact of_decide_eq_true hb.symm
      omega
    · have h2 : ¬ r' % 2 = 1 := by rw [decide_eq_false h1] at hb; exact of_decide_eq_false hb.symm
      omega
  omega
def cbs : Nat → Nat → Nat
  | 0, r => r
  | k + 1, r => cb (cbs k r)
theorem cbs_lt : ∀ (k r : Nat), r < 4294967296 → cbs k r < 4294967296
  | 0, _, h => h
  | k + 1, r, h => cb_lt _ (cbs_lt k r h)
theorem cbs_inj : ∀ (k r r' : Nat), r < 4294967296 → r' < 4294967296 → cbs k r = cbs k r' → r = r'
  | 0, _, _, _, _, e => e
  | k + 1, r, r', h, h', e => cbs_inj k r r' h h' (cb_inj _ _ (cbs_lt k r h) (cbs_lt k r' h') e)
theorem crcBit_nat (r : Nat) (h : r < 4294967296) : crcBit (r : Int) = (cb r : Int) := by
  have ha : bits .and .u32 (r : Int) 1 = ((r % 2 : Nat) : Int) := by
    have := u32_and_nat r 1 h (by decide)
    rw [nat_mask1] at this
    exact this
  unfold crcBit cb
  by_cases h1 : r % 2 = 1
  · rw [if_pos h1, if_pos (by rw [ha, h1]; rfl)]
    have := u32_xor_nat (r / 2) 3988292384 (by omega) (by decide)
    rw [Int.natCast_ediv] at this
    exact this
  · rw [if_neg h1, if_neg (by rw [ha]; simp; omega), Int.natCast_ediv]
    rfl
theorem crcBits_nat : ∀ (k r : Nat), r < 4294967296 → crcBits k (r : Int) = (cbs k r : Int)
  | 0, _, _ => rfl
  | k + 1, r, h => by
    show crcBit (crcBits k (r : Int)) = _
    rw [crcBits_nat k r h, crcBit_nat _ (cbs_lt k r h)]
    rfl
/-- One byte, on numbers. -/
def stepN (r b : Nat) : Nat := cbs 8 (r ^^^ b)
theorem xor_lt32 (r b : Nat) (hr : r < 4294967296) (hb : b < 256) : r ^^^ b < 4294967296 := Nat.xor_lt_two_pow (n := 32) (by omega) (by omega)
theorem stepN_lt (r b : Nat) (hr : r < 4294967296) (hb : b < 256) : stepN r b < 4294967296 := cbs_lt 8 _ (xor_lt32 r b hr hb)
theorem crcStep_nat (r b : Nat) (hr : r < 4294967296) (hb : b < 256) : crcStep (r : Int) (b : Int) = (stepN r b : Int) := by
  unfold crcStep stepN
  rw [u32_xor_nat r b hr (by omega), crcBits_nat 8 _ (xor_lt32 r b hr hb)]
theorem xor_left (r b c : Nat) (h : r ^^^ b = r ^^^ c) : b = c := by
  have := congrArg (r ^^^ ·) h
  simpa [← Nat.xor_assoc] using this
theorem xor_right (r s b : Nat) (h : r ^^^ b = s ^^^ b) : r = s := by
  have := congrArg (· ^^^ b) h
  simpa [Nat.xor_assoc] using this
def foldN (l : List UInt8) (r : Nat) : Nat := l.foldl (fun x c => stepN x c.toNat) r
theorem foldN_lt : ∀ (l : List UInt8) (r : Nat), r < 4294967296 → foldN l r < 4294967296
  | [], _, h => h
  | c :: l, r, h => foldN_lt l (stepN r c.toNat) (stepN_lt r _ h c.toNat_lt)
theorem foldN_inj : ∀ (l : List UInt8) (r s : Nat), r < 4294967296 → s < 4294967296 → foldN l r = foldN l s → r = s
  | [], _, _, _, _, e => e
  | c :: l, r, s, hr, hs, e => by
    have h := foldN_inj l _ _ (stepN_lt r _ hr c.toNat_lt) (stepN_lt s _ hs c.toNat_lt) e
    exact xor_right _ _ _ (cbs_inj 8 _ _ (xor_lt32 r _ hr c.toNat_lt) (xor_lt32 s _ hs c.toNat_lt) h)
theorem foldN_turned (l1 l2 : List UInt8) (c d : UInt8) (r : Nat) (hr : r < 4294967296) (h : c ≠ d) : foldN (l1 ++ c :: l2) r ≠ foldN (l1 ++ d :: l2) r := by
  intro e
  unfold foldN at e
  rw [List.foldl_append, List.foldl_append] at e
  have hq := foldN_lt l1 r hr
  have h1 := foldN_inj l2 _ _ (stepN_lt _ _ hq c.toNat_lt) (stepN_lt _ _ hq d.toNat_lt) e
  have h2 := xor_left _ _ _ (cbs_inj 8 _ _ (xor_lt32 _ _ hq c.toNat_lt) (xor_lt32 _ _ hq d.toNat_lt) h1)
  exact h (UInt8.toNat_inj.1 h2)
theorem crcTo_list (s : ByteArray) (r : Nat) (hr : r < 4294967296) : crcTo s (r : Int) s.size = (foldN s.data.toList r : Int) := by
  unfold crcTo foldN
  rw [List.take_of_length_le (by rw [← size_eq]; exact Nat.le_refl _)]
  have key : ∀ (l : List UInt8) (r : Nat), r < 4294967296 → l.foldl (fun x c => crcStep x (c.toNat : Int)) (r : Int) = ((l.foldl (fun x c => stepN x c.toNat) r : Nat) : Int) := by
    intro l
    induction l with
    | nil => intro r _; rfl
    | cons c l ih =>
      intro r hr
      rw [List.foldl_cons, List.foldl_cons, crcStep_nat r _ hr c.toNat_lt]
      exact ih _ (stepN_lt r _ hr c.toNat_lt)
  exact key _ r hr
theorem crcTurn_nat (r : Nat) (hr : r < 4294967296) : crcTurn (r : Int) = ((r ^^^ 4294967295 : Nat) : Int) := by
  unfold crcTurn
  exact u32_xor_nat r 4294967295 hr (by decide)
theorem turn_lt (r : Nat) (hr : r < 4294967296) : r ^^^ 4294967295 < 4294967296 := Nat.xor_lt_two_pow (n := 32) (by omega) (by decide)
/-- The CRC as a number. -/
theorem crcOf_nat (s : ByteArray) : crcOf s = ((foldN s.data.toList 4294967295 ^^^ 4294967295 : Nat) : Int) := by
  unfold crcOf
  have h0 : crcTurn 0 = ((4294967295 : Nat) : Int) := by
    have := crcTurn_nat 0 (by decide)
    simpa using this
  rw [h0, crcTo_list s _ (by decide), crcTurn_nat _ (foldN_lt _ _ (by decide))]
theorem crcOf_range (s : ByteArray) : 0 ≤ crcOf s ∧ crcOf s ≤ 4294967295 := by
  rw [crcOf_nat]
  have := turn_lt _ (foldN_lt s.data.toList 4294967295 (by decide))
  omega
/-- It goes on from text to text. -/
theorem crc_goes_on (t u : ByteArray) : crcTurn (crcTo u (crcTurn (crcOf t)) u.size) = crcOf (t ++ u) := by
  have hf := foldN_lt t.data.toList 4294967295 (by decide)
  rw [crcOf_nat t, crcTurn_nat _ (turn_lt _ hf), Nat.xor_assoc, Nat.xor_self, Nat.xor_zero, crcTo_list u _ hf, crcTurn_nat _ (foldN_lt _ _ hf), crcOf_nat (t ++ u)]
  congr 2
  unfold foldN
  rw [show (t ++ u).data.toList = t.data.toList ++ u.data.toList from by simp, List.foldl_append]
/-- With one byte turned it differs. -/
theorem crc_turned (s s' : ByteArray) (l1 l2 : List UInt8) (c d : UInt8) (h : s.data.toList = l1 ++ c :: l2) (h' : s'.data.toList = l1 ++ d :: l2) (hne : c ≠ d) : crcOf s ≠ crcOf s' := by
  intro e
  rw [crcOf_nat, crcOf_nat, h, h'] at e
  exact foldN_turned l1 l2 c d _ (by decide) hne (xor_right _ _ _ (Int.ofNat.inj e))
/-- The four bytes tell the number. -/
theorem four_inj (x y : Int) (hx : 0 ≤ x ∧ x ≤ 4294967295) (hy : 0 ≤ y ∧ y ≤ 4294967295) (h : four x = four y) : x = y := by
  have hl : (four x).data.toList = (four y).data.toList := by rw [h]
  unfold four at hl
  rw [strOfNums_data, strOfNums_data] at hl
  simp only [List.map_cons, List.map_nil, List.cons.injEq, and_true] at hl
  obtain ⟨a, b, c, d⟩ := hl
  have key : ∀ p q : Int, 0 ≤ p → p < 256 → 0 ≤ q → q < 256 → UInt8.ofNat p.toNat = UInt8.ofNat q.toNat → p = q := by
    intro p q h1 h2 h3 h4 e
    have := congrArg UInt8.toNat e
    simp only [UInt8.toNat_ofNat'] at this
    omega
  have a' := key _ _ (by omega) (by omega) (by omega) (by omega) a
  have b' := key _ _ (by omega) (by omega) (by omega) (by omega) b
  have c' := key _ _ (by omega) (by omega) (by omega) (by omega) c
  have d' := key _ _ (by omega) (by omega) (by omega) (by omega) d
  omega
end Go.Proofs.Ytpdedggnjcnpgaa
