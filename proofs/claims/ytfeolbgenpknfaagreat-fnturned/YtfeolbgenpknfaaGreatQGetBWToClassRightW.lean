/- What is proved here: the specification's l02Get says whether a bit of a word is on; nothing that was there turns.
   What is proved here: plain arithmetic on one bit of a word: set, taken away, asked for.
   What is said here: places as bits of one number, and as words of 32 bits: they are the same.
   What is proved here: how many words so many bits want, as the specification says it; the world stays.
   What is proved here: a new slice of so many zeros, in a world and a block of which nothing more is said.
   What is proved here: the specification's l02New hands back so many bits, none of them on, in new memory; nothing that was there turns.
   What is proved here: the specification's l02Set turns one bit of the words that it is handed; nothing else that was there turns.
   What is proved here: the specification's ClassRight says whether a text is a right class; nothing that was there turns. -/
import Derived.Test.YtfeolbgenpknfaaGreatQRowsDToVecS
import Derived.Test.YtfeolbgenpknfaaGreatQCellMToWordM
import Derived.BigRegion
import Derived.Test.YtfeolbgenpknfaaGreatQClassMToCellD
import Derived.WalkSpells
import Derived.RegionTactic
import Derived.Deep.QuietTactic
import Derived.BigQuiet
namespace Go.Proofs.YtfeolbgenpknfaaGreat
open Go.RowKit

/-- Whether a bit of a word is on. -/
def getB (x : Int) (q : Nat) : Bool := bits .and .i64 (x / 2 ^ q) 1 == 1
set_option maxHeartbeats 1000000 in
theorem l02Get_any (b : Int) (sa : Option Addr) (n ka k q : Nat) (f : Nat → Int) (i : Int) (w : World) (hn : n ≤ 1048576) (hr : Row w w.heap.size sa n f) (h0 : 0 ≤ i) (h1 : i / 32 = (k : Int)) (h2 : i % 32 = (q : Int)) (hk : k < n) :
    Calls Tryz.prog 75 #[.agg #[.int .i64 b, .slice sa n ka], .int .i64 i] w fun e w' => e = .returned (.bool (getB (f k) q)) ∧ Below w.heap.size w w' := by
  obtain ⟨bb, off, rfl, hbb, hca⟩ : ∃ bb off : Nat, sa = some ⟨bb, off, none⟩ ∧ bb < w.heap.size ∧ ∀ i, i < n → w.cell? ⟨bb, off + i, none⟩ = some (.int .i64 (f i)) := by
    rcases hr with h | h
    · omega
    · exact h
  have cz0 := hca k hk
  clear hca hr
  have q1 := boxing w 29 b (some ⟨bb, off, none⟩) n ka
  have HB : Hid (Below w.heap.size w (w.alloc (.cells #[.int .i64 b, .slice (some ⟨bb, off, none⟩) n ka] 29))) := q1.1
  have cz : (w.alloc (.cells #[.int .i64 b, .slice (some ⟨bb, off, none⟩) n ka] 29)).cell? ⟨bb, off + k, none⟩ = some (.int .i64 (f k)) := by rw [q1.1.cell (p := ⟨bb, off + k, none⟩) hbb]; exact cz0
  clear q1
  have hki : (k : Int) < (n : Int) := by omega
  have hk0 : (0 : Int) ≤ (k : Int) := by omega
  have hq0 : (0 : Int) ≤ (q : Int) := by omega
  have hq1 : (q : Int) < 32 := by omega
  go_enter Tryz.func75, Tryz.ntmps75
  go_wp2
  go_ret
  exact ⟨rfl, HB.out⟩
end Go.Proofs.YtfeolbgenpknfaaGreat
namespace Go.Proofs.YtfeolbgenpknfaaGreat
open Go.RowKit

theorem bits_andNot_nat (k : IntKind) (j : Nat) (hj : j ≤ k.bits) (hk : ∀ n : Int, 0 ≤ n → n < 2 ^ j → k.wrap n = n) (a b : Nat) (ha : a < 2 ^ j) (hb : b < 2 ^ j) :
    bits .andNot k a b = ((a ^^^ (a &&& b) : Nat) : Int) := by
  have hp : 2 ^ j ≤ 2 ^ k.bits := Nat.pow_le_pow_right (by decide) hj
  have ha' : a % 2 ^ k.bits = a := Nat.mod_eq_of_lt (Nat.lt_of_lt_of_le ha hp)
  have hb' : b % 2 ^ k.bits = b := Nat.mod_eq_of_lt (Nat.lt_of_lt_of_le hb hp)
  have cast : ∀ n : Nat, n < 2 ^ j → ((n : Nat) : Int) < 2 ^ j := fun n h => by exact_mod_cast h
  have hv : (BitVec.ofInt k.bits (a : Int) &&& ~~~BitVec.ofInt k.bits (b : Int)).toNat = a ^^^ (a &&& b) := by
    apply Nat.eq_of_testBit_eq
    intro i
    rw [← BitVec.getLsbD, BitVec.getLsbD_and, BitVec.getLsbD_not, Nat.testBit_xor, Nat.testBit_and, BitVec.ofInt_natCast, BitVec.ofInt_natCast, BitVec.getLsbD_ofNat, BitVec.getLsbD_ofNat]
    by_cases hi : i < k.bits
    · simp [hi]
      cases a.testBit i <;> cases b.testBit i <;> rfl
    · have h1 : a.testBit i = false := Nat.testBit_lt_two_pow (Nat.lt_of_lt_of_le (Nat.lt_of_lt_of_le ha hp) (Nat.pow_le_pow_right (by decide) (by omega)))
      simp [hi, h1]
  show k.wrap ((BitVec.ofInt k.bits (a : Int) &&& ~~~BitVec.ofInt k.bits (b : Int)).toNat : Int) = _
  rw [hv]
  exact hk _ (Int.natCast_nonneg _) (cast _ (Nat.xor_lt_two_pow ha (Nat.and_lt_two_pow _ hb)))
theorem getB_nat (a q : Nat) (h : a < 2 ^ 32) : getB (a : Int) q = a.testBit q := by
  unfold getB
  have e : (a : Int) / 2 ^ q = ((a / 2 ^ q : Nat) : Int) := by simp
  have hl : a / 2 ^ q < 2 ^ 32 := Nat.lt_of_le_of_lt (Nat.div_le_self _ _) h
  rw [e, show (1 : Int) = ((1 : Nat) : Int) from rfl, (bits_nat .i64 32 (by decide) wraps_i64w (a / 2 ^ q) 1 hl (by decide)).1, Nat.and_one_is_mod, Nat.testBit_eq_decide_div_mod_eq]
  by_cases h2 : a / 2 ^ q % 2 = 1
  · rw [h2]; rfl
  · have h3 : a / 2 ^ q % 2 = 0 := by omega
    rw [h3]; rfl
theorem or_bit (x : Int) (q : Nat) (hq : q < 32) (hx : Word 32 x) : bits .or .i64 x (2 ^ q) = if getB x q = true then x else bits .xor .i64 x (2 ^ q) := by
  obtain ⟨a, rfl, ha⟩ := word_nat hx
  have hp : 2 ^ q < 2 ^ 32 := Nat.pow_lt_pow_right (by decide) hq
  have e : (2 : Int) ^ q = ((2 ^ q : Nat) : Int) := by simp
  rw [e, getB_nat a q ha, (bits_nat .i64 32 (by decide) wraps_i64w a _ ha hp).2, bits_xor_nat .i64 32 (by decide) wraps_i64w a _ ha hp]
  split
  · rename_i h
    congr 1
    apply Nat.eq_of_testBit_eq
    intro i
    rw [Nat.testBit_or, Nat.testBit_two_pow]
    by_cases hi : q = i
    · subst hi; simp [h]
    · simp [hi]
  · rename_i h
    congr 1
    apply Nat.eq_of_testBit_eq
    intro i
    rw [Nat.testBit_or, Nat.testBit_xor, Nat.testBit_two_pow]
    by_cases hi : q = i
    · subst hi; simp [h]
    · simp [hi]
theorem off_bit (x : Int) (q : Nat) (hq : q < 32) (hx : Word 32 x) : bits .andNot .i64 x (2 ^ q) = if getB x q = true then bits .xor .i64 x (2 ^ q) else x := by
  obtain ⟨a, rfl, ha⟩ := word_nat hx
  have hp : 2 ^ q < 2 ^ 32 := Nat.pow_lt_pow_right (by decide) hq
  have e : (2 : Int) ^ q = ((2 ^ q : Nat) : Int) := by simp
  rw [e, getB_nat a q ha, bits_andNot_nat .i64 32 (by decide) wraps_i64w a _ ha hp, bits_xor_nat .i64 32 (by decide) wraps_i64w a _ ha hp]
  split
  · rename_i h
    congr 1
    apply Nat.eq_of_testBit_eq
    intro i
    rw [Nat.testBit_xor, Nat.testBit_xor, Nat.testBit_and, Nat.testBit_two_pow]
    by_cases hi : q = i
    · subst hi; simp [h]
    · simp [hi]
  · rename_i h
    congr 1
    apply Nat.eq_of_testBit_eq
    intro i
    rw [Nat.testBit_xor, Nat.testBit_and, Nat.testBit_two_pow]
    by_cases hi : q = i
    · subst hi; simp [h]
    · simp [hi]
/-- The words with one bit as it is asked for. -/
def setF (f : Nat → Int) (k q : Nat) (on : Bool) : Nat → Int := fun i => if i = k then (if getB (f k) q = on then f k else bits .xor .i64 (f k) (2 ^ q)) else f i
theorem set_on (f : Nat → Int) (k q : Nat) (hq : q < 32) (hx : Word 32 (f k)) : ∀ i, (if i = k then bits .or .i64 (f k) (2 ^ q) else f i) = setF f k q true i := by
  intro i
  unfold setF
  split
  · rw [or_bit _ q hq hx]
  · rfl
theorem set_off (f : Nat → Int) (k q : Nat) (hq : q < 32) (hx : Word 32 (f k)) : ∀ i, (if i = k then bits .andNot .i64 (f k) (2 ^ q) else f i) = setF f k q false i := by
  intro i
  unfold setF
  split
  · rw [off_bit _ q hq hx]
    cases getB (f k) q <;> rfl
  · rfl
theorem pow_bit (q : Nat) (hq : q < 32) : ∃ P : Int, (2 : Int) ^ q = P ∧ 0 < P ∧ P ≤ 2147483648 := by
  refine ⟨_, rfl, Int.pow_pos (by decide), ?_⟩
  have e : (2 : Int) ^ q = ((2 ^ q : Nat) : Int) := by simp
  have h2 : 2 ^ q ≤ 2 ^ 31 := Nat.pow_le_pow_right (by decide) (by omega)
  rw [e]
  omega
end Go.Proofs.YtfeolbgenpknfaaGreat
namespace Go.Proofs.YtfeolbgenpknfaaGreat

/-- Words whose bits are told. -/
def VecIs (f : Nat → Int) (P : Nat → Bool) (m : Nat) : Prop := ∀ i, i < m → ∃ a : Nat, f i = (a : Int) ∧ a < 2 ^ 32 ∧ ∀ q, q < 32 → a.testBit q = P (32 * i + q)
theorem VecIs.uniq {f g : Nat → Int} {P : Nat → Bool} {m : Nat} (h : VecIs f P m) (h' : VecIs g P m) : ∀ i, i < m → f i = g i := fun i hi => by
  obtain ⟨a, e1, h1, h2⟩ := h i hi
  obtain ⟨b, e2, h3, h4⟩ := h' i hi
  rw [e1, e2]
  congr 1
  apply Nat.eq_of_testBit_eq
  intro q
  by_cases hq : q < 32
  · rw [h2 q hq, h4 q hq]
  · rw [Nat.testBit_lt_two_pow (Nat.lt_of_lt_of_le h1 (Nat.pow_le_pow_right (by decide) (by omega))), Nat.testBit_lt_two_pow (Nat.lt_of_lt_of_le h3 (Nat.pow_le_pow_right (by decide) (by omega)))]
theorem VecIs.congr {f : Nat → Int} {P Q : Nat → Bool} {m : Nat} (h : VecIs f P m) (e : ∀ j, P j = Q j) : VecIs f Q m := fun i hi => by
  obtain ⟨a, e1, h1, h2⟩ := h i hi
  exact ⟨a, e1, h1, fun q hq => (h2 q hq).trans (e _)⟩
theorem vecIs_zero (m : Nat) : VecIs (fun _ => 0) (fun _ => false) m := fun i _ => ⟨0, rfl, by decide, fun q _ => by simp⟩
/-- The words of a number. -/
def wordsN (x : Nat) : Nat → Int := fun i => ((x / 2 ^ (i * 32) % 4294967296 : Nat) : Int)
theorem vecIs_words {x : Nat} {P : Nat → Bool} (h : IsBits x P) (m : Nat) : VecIs (wordsN x) P m := fun i _ => ⟨x / 2 ^ (i * 32) % 4294967296, rfl, Nat.mod_lt _ (by decide), fun q hq => by
  rw [show (4294967296 : Nat) = 2 ^ 32 from by decide, Nat.testBit_mod_two_pow, Nat.testBit_div_two_pow, h.bit]
  rw [decide_eq_true hq, Bool.true_and]
  congr 1
  omega⟩
theorem VecIs.word {f : Nat → Int} {P : Nat → Bool} {m i : Nat} (h : VecIs f P m) (hi : i < m) : Word 32 (f i) := by
  obtain ⟨a, e1, h1, _⟩ := h i hi
  rw [e1]
  exact word_of h1
theorem VecIs.set {f : Nat → Int} {P : Nat → Bool} {m k q : Nat} (h : VecIs f P m) (hk : k < m) (hq : q < 32) : VecIs (setF f k q true) (fun j => P j || decide (32 * k + q = j)) m := fun i hi => by
  obtain ⟨a, e1, h1, h2⟩ := h i hi
  have hs := set_on f k q hq (h.word hk) i
  by_cases e : i = k
  · subst e
    rw [if_pos rfl] at hs
    have hp : 2 ^ q < 2 ^ 32 := Nat.pow_lt_pow_right (by decide) hq
    rw [e1, show (2 : Int) ^ q = ((2 ^ q : Nat) : Int) by simp, (bits_nat .i64 32 (by decide) wraps_i64w a _ h1 hp).2] at hs
    refine ⟨a ||| 2 ^ q, hs.symm, Nat.or_lt_two_pow h1 hp, fun r hr => ?_⟩
    rw [Nat.testBit_or, h2 r hr, Nat.testBit_two_pow]
    congr 1
    by_cases e2 : q = r
    · subst e2; simp
    · rw [decide_eq_false e2, decide_eq_false (by omega)]
  · rw [if_neg e] at hs
    refine ⟨a, by rw [← hs]; exact e1, h1, fun r hr => ?_⟩
    show a.testBit r = (P (32 * i + r) || decide (32 * k + q = 32 * i + r))
    rw [h2 r hr, decide_eq_false (by omega), Bool.or_false]
theorem behind_ex (q : Nat → Bool) : ∀ n, n ≤ 62 → ∃ x, IsBits x (behind q n)
  | 0, _ => ⟨0, behind_zero q⟩
  | n + 1, h => by
    obtain ⟨x, hx⟩ := behind_ex q n (by omega)
    cases e : q n with
    | true => exact ⟨_, behind_yes hx (by omega) e⟩
    | false => exact ⟨_, behind_no hx e⟩
theorem and_word64 {y : Nat} (h : y < 18446744073709551616) : bits .and .u64 (y : Int) 4294967295 = ((y % 4294967296 : Nat) : Int) := by
  have h2 := and64 (a := y) (b := 4294967295) h (by omega)
  rw [show (4294967295 : Nat) = 2 ^ 32 - 1 from by decide, Nat.and_two_pow_sub_one_eq_mod] at h2
  exact h2
end Go.Proofs.YtfeolbgenpknfaaGreat
namespace Go.Proofs.YtfeolbgenpknfaaGreat
open Go.RowKit

theorem words_any (b : Int) (w : World) (h0 : 0 ≤ b) (h1 : b ≤ 320) :
    Calls Tryz.prog 79 #[.int .i64 b] w fun e w' => e = .returned (.int .i64 ((b + 31) / 32)) ∧ w' = w := by
  go_enter Tryz.func79, Tryz.ntmps79
  go_wp2
  go_ret
  exact ⟨rfl, rfl⟩
end Go.Proofs.YtfeolbgenpknfaaGreat
namespace Go.Proofs.YtfeolbgenpknfaaGreat
open Go.RowKit

theorem make_new (w : World) (N : Nat) (hN : N ≤ 10000000) : ∃ (w' : World) (g : Nat), (Instr.makeSlice 26 (.int .i64 (N : Int)) (.int .i64 (N : Int))).run Tryz.prog w = .ok (.slice (some ⟨g, 0, none⟩) N N) w' ∧ w.heap.size ≤ g ∧ g < w'.heap.size ∧ Below w.heap.size w w' ∧ Own w' g N (fun _ => 0) := by
  obtain ⟨C, hmk, hown⟩ := make_row w N hN
  exact ⟨_, _, hmk, Nat.le_refl _, by simp, (Below.refl _ _).alloc (Nat.le_refl _) _, hown⟩
end Go.Proofs.YtfeolbgenpknfaaGreat
namespace Go.Proofs.YtfeolbgenpknfaaGreat
open Go.RowKit

set_option maxHeartbeats 1000000 in
theorem l02New_any (b : Int) (m : Nat) (w : World) (h0 : 1 ≤ b) (h1 : b ≤ 320) (hm : (m : Int) = (b + 31) / 32) :
    Calls Tryz.prog 70 #[.int .i64 b] w fun e w' => NewVec w b m (fun _ => 0) e w' := by
  have HM : Hid ((m : Int) = (b + 31) / 32) := hm
  have hm1 : m ≤ 10 := by omega
  clear hm
  go_enter Tryz.func70, Tryz.ntmps70
  go_wp2_with fail
  refine (words_any b _ (by omega) h1).mono ?_
  rintro e w1 ⟨rfl, hw⟩
  subst hw
  rw [← HM.out]
  have q3 := boxing w 29 0 none 0 0
  generalize w.alloc (.cells #[.int .i64 0, .slice none 0 0] 29) = v at *
  obtain ⟨u, g, hmk, hg1, hg2, hbu, hown⟩ := make_new v m (by omega)
  have HO : Hid (Own u g m (fun _ => 0)) := hown
  have S : Hid (Since w u) := since_call (since_call (since_refl _) q3.1) hbu
  obtain ⟨cb0, cb1, cb2, cb3⟩ := (q3.2.1.kept hbu rfl).four
  have l1 : w.heap.size < g := by have := q3.2.2; omega
  have l2 : w.heap.size < u.heap.size := by omega
  clear q3 hown hbu hg1
  go_wp2
  refine bodyPost_ret (v := vecV b (some ⟨g, 0, none⟩) m m) (by simp [results, Tryz.results70, go_sem, vecV, cb0, cb1]) rfl ?_
  exact ⟨_, _, rfl, (since_set (since_set S.out (by show w.heap.size ≤ w.heap.size; omega)) (by show w.heap.size ≤ w.heap.size; omega)).below, Or.inr ⟨_, rfl, by omega, (HO.out.setOther _ _ (by show w.heap.size ≠ g; omega)).setOther _ _ (by show w.heap.size ≠ g; omega)⟩⟩
end Go.Proofs.YtfeolbgenpknfaaGreat
namespace Go.Proofs.YtfeolbgenpknfaaGreat
open Go.RowKit

theorem grown_setNew2 {w W : World} {row : Option Nat} {p : Addr} {v : Value} (h : w.grownBy W row) (hp : w.heap.size ≤ p.block) : w.grownBy (W.setCell p v) row :=
  ⟨h.os, h.tape, h.output, by simpa [World.setCell] using h.size, fun k hk hr => by rw [Below.heap_setCell _ _ _ _ (fun e => by omega)]; exact h.block k hk hr⟩
theorem grown_below2 {w W W' : World} {row : Option Nat} (h : w.grownBy W row) (hb : Below W.heap.size W W') : w.grownBy W' row :=
  ⟨by rw [hb.os]; exact h.os, by rw [hb.tape]; exact h.tape, by rw [hb.output]; exact h.output, Nat.le_trans h.size hb.size, fun k hk hr => by rw [hb.block k (Nat.lt_of_lt_of_le hk h.size)]; exact h.block k hk hr⟩
set_option maxRecDepth 100000 in
set_option maxHeartbeats 4000000 in
theorem l02Set_any (b : Int) (g n cap k q : Nat) (f : Nat → Int) (i : Int) (on : Bool) (w : World) (hn : n ≤ 1048576) (ho : Own w g n f) (h0 : 0 ≤ i) (h1 : i / 32 = (k : Int)) (h2 : i % 32 = (q : Int)) (hk : k < n) (hq : q < 32) :
    Calls Tryz.prog 83 #[.agg #[.int .i64 b, .slice (some ⟨g, 0, none⟩) n cap], .int .i64 i, .bool on] w fun e w' => e = .returned (.tuple #[]) ∧ w.grownBy w' (some g) ∧ Own w' g n (setF f k q on) := by
  have hglt := ho.1
  have HO : Hid (Own w g n f) := ho
  have HK : Hid (i / 32 = (k : Int) ∧ i % 32 = (q : Int)) := ⟨h1, h2⟩
  clear ho h1 h2
  by_cases hg : getB (f k) q = on
  · have e1 : ∀ i, i < n → f i = setF f k q on i := by
      intro j _
      by_cases e : j = k
      · subst e; simp [setF, hg]
      · simp [setF, e]
    have HE : Hid (∀ i, i < n → f i = setF f k q on i) := e1
    clear e1
    have C1 := fun W h => l02Get_any b (some ⟨g, 0, none⟩) n cap k q f i W hn h h0 HK.out.1 HK.out.2 hk
    rw [hg] at C1
    have R1 : Hid (∀ W, Row W W.heap.size (some ⟨g, 0, none⟩) n f → Calls Tryz.prog 75 #[.agg #[.int .i64 b, .slice (some ⟨g, 0, none⟩) n cap], .int .i64 i] W fun e w' => e = .returned (.bool on) ∧ Below W.heap.size W w') := C1
    clear C1 hg
    go_enter Tryz.func83, Tryz.ntmps83
    go_wp2_with fail
    have q1 := boxing w 29 b (some ⟨g, 0, none⟩) n cap
    have G1 : w.grownBy (w.alloc (.cells #[.int .i64 b, .slice (some ⟨g, 0, none⟩) n cap] 29)) (some g) := World.grownBy_alloc w _ _
    generalize w.alloc (.cells #[.int .i64 b, .slice (some ⟨g, 0, none⟩) n cap] 29) = v1 at *
    have O1 := HO.out.kept q1.1 hglt
    refine (R1.out _ (O1.row (by rw [q1.2.2]; omega))).mono ?_
    rintro e w4 ⟨rfl, hb4⟩
    have G4 : Hid (w.grownBy w4 (some g)) := grown_below2 G1 hb4
    have O4 : Hid (Own w4 g n f) := O1.kept hb4 O1.1
    clear q1 G1 O1 hb4
    go_wp2
    go_end0
    exact ⟨rfl, G4.out, O4.out.congr HE.out⟩
  · have e1 : ∀ i, i < n → (if i = k then bits .xor .i64 (f k) (2 ^ q) else f i) = setF f k q on i := by
      intro j _
      by_cases e : j = k
      · subst e; simp [setF, hg]
      · simp [setF, e]
    have HE : Hid (∀ i, i < n → (if i = k then bits .xor .i64 (f k) (2 ^ q) else f i) = setF f k q on i) := e1
    have ht : getB (f k) q = !on := by cases h : getB (f k) q <;> cases on <;> simp_all
    have eb : (!((!on) == on)) = true := by cases on <;> rfl
    clear e1 hg
    have C1 := fun W h => l02Get_any b (some ⟨g, 0, none⟩) n cap k q f i W hn h h0 HK.out.1 HK.out.2 hk
    rw [ht] at C1
    have R1 : Hid (∀ W, Row W W.heap.size (some ⟨g, 0, none⟩) n f → Calls Tryz.prog 75 #[.agg #[.int .i64 b, .slice (some ⟨g, 0, none⟩) n cap], .int .i64 i] W fun e w' => e = .returned (.bool (!on)) ∧ Below W.heap.size W w') := C1
    clear C1 ht
    obtain ⟨P, hP, hP0, hP1⟩ := pow_bit q hq
    rw [hP] at HE
    have hw : wrap64 P = P := by unfold wrap64; omega
    have hwi : IntKind.i64.wrap P = P := by rw [IntKind.wrap_i64]; omega
    go_enter Tryz.func83, Tryz.ntmps83
    go_wp2_with fail
    have q1 := boxing w 29 b (some ⟨g, 0, none⟩) n cap
    have G1 : w.grownBy (w.alloc (.cells #[.int .i64 b, .slice (some ⟨g, 0, none⟩) n cap] 29)) (some g) := World.grownBy_alloc w _ _
    generalize w.alloc (.cells #[.int .i64 b, .slice (some ⟨g, 0, none⟩) n cap] 29) = v1 at *
    have O1 := HO.out.kept q1.1 hglt
    refine (R1.out _ (O1.row (by rw [q1.2.2]; omega))).mono ?_
    rintro e w4 ⟨rfl, hb4⟩
    have G4 : Hid (w.grownBy w4 (some g)) := grown_below2 G1 hb4
    have O4 : Hid (Own w4 g n f) := O1.kept hb4 O1.1
    have X4 := q1.2.1.kept hb4 rfl
    obtain ⟨ca0, ca1⟩ := X4.cells
    have l1 := X4.lt
    have cy := O4.out.2.1 k hk
    have cf := O4.out.2.2 k hk
    have lg := O4.out.1
    have hki : (k : Int) < (n : Int) := by omega
    have hk0 : (0 : Int) ≤ (k : Int) := by omega
    have hq0 : (0 : Int) ≤ (q : Int) := by omega
    have hq1 : (q : Int) < 32 := by omega
    obtain ⟨e1, e2⟩ := HK.out
    clear q1 G1 O1 hb4 X4
    go_wp2
    go_region
    all_goals
      go_wp2
      go_end0
      exact ⟨rfl, only_drawn (only_set G4.out), ((O4.out.set hk _).congr HE.out).drew⟩
end Go.Proofs.YtfeolbgenpknfaaGreat
namespace Go.Proofs.YtfeolbgenpknfaaGreat
open Go.RowKit

theorem right_bad {t : ByteArray} {j k : Nat} (e : k = j + 1) (h : k < t.size) (hc : ¬ t[j].toNat < t[k].toNat) : ¬ RightC t := fun hr => by
  subst e
  exact hc (hr j h)
theorem right_step {t : ByteArray} {j k : Nat} (e : k = j + 1) (h : k < t.size) (hr : RightTo t k) (hc : t[j].toNat < t[k].toNat) : RightTo t (k + 1) := by
  subst e
  intro i hi hlt
  by_cases e : i = j
  · subst e; exact hc
  · exact hr i hi (by omega)
theorem below_drewC {a w : World} {B : Nat} (n : Nat) (h : Below B a w) : Below B a (w.drewN n) := ⟨h.os, h.tape, h.output, h.size, h.block⟩
theorem retB {p : Prop} [Decidable p] {x : Bool} (h : x = true ↔ p) : Ending.returned (.bool x) = .returned (.bool (decide p)) := by
  congr 2
  by_cases hp : p
  · rw [h.2 hp, decide_eq_true hp]
  · rw [decide_eq_false hp]
    cases x
    · rfl
    · exact absurd (h.1 rfl) hp

open Classical in
set_option maxRecDepth 100000 in
set_option maxHeartbeats 2000000 in
theorem specRightC_any (t : ByteArray) (w : World) (hs : t.size ≤ maxLen) :
    Calls Tryz.prog 69 #[.string t] w fun e w' => e = .returned (.bool (decide (RightC t))) ∧ Below w.heap.size w w' := by
  unfold maxLen at hs
  go_enter Tryz.func69, Tryz.ntmps69
  go_wp2
  go_loopw [3] (fun i wr => ∃ k : Nat, 1 ≤ k ∧ (k ≤ t.size ∨ k = 1) ∧ i = .int .i64 (k : Int) ∧ Below w.heap.size w wr ∧ RightTo t k) (fun i _ => t.size + 1 - (intOf i).toNat)
  case atStart => exact ⟨1, by omega, Or.inr rfl, rfl, Below.refl _ _, fun i hi h => by omega⟩
  case round =>
    obtain ⟨k, hk1, hk2, rfl, hbel, hR⟩ := hrel
    have HB : Hid (Below w.heap.size w wr) := hbel
    have HR : Hid (RightTo t k) := hR
    clear hbel hR
    by_cases hlt : k < t.size
    · obtain ⟨j, hj⟩ : ∃ j, k = j + 1 := ⟨k - 1, by omega⟩
      have HJ : Hid (k = j + 1) := hj
      have hlt' : (k : Int) < (t.size : Int) := by omega
      have hlt2 : (j : Int) < (t.size : Int) := by omega
      have hlt3 : j < t.size := by omega
      have hj0 : (0 : Int) ≤ (j : Int) := by omega
      have hk0 : (0 : Int) ≤ (k : Int) := by omega
      have wj : IntKind.i64.wrap ((k : Int) - 1) = j := by rw [IntKind.wrap_i64]; omega
      have wj2 : IntKind.i64.wrap (j : Int) = j := by rw [IntKind.wrap_i64]; omega
      have wj3 : (k : Int) - 1 = (j : Int) := by omega
      clear hj hk2
      by_cases hc : t[j].toNat < t[k].toNat
      · have HC : Hid (t[j].toNat < t[k].toNat) := hc
        have hc' : ¬ ((t[k].toNat : Int) ≤ (t[j].toNat : Int)) := by omega
        clear hc
        go_wp2
        go_quiet (fail)
        go_wp2
        go_roundw
        case rel => exact ⟨k + 1, by omega, Or.inl hlt, by go_num, below_drewC _ HB.out, right_step HJ.out hlt HR.out HC.out⟩
        case measure => simp [intOf]; omega
      · have HC : Hid (¬ RightC t) := right_bad HJ.out hlt hc
        have hc' : (t[k].toNat : Int) ≤ (t[j].toNat : Int) := by omega
        clear hc
        go_wp2
        go_quiet (fail)
        go_wp2
        go_ret
        exact ⟨by rw [decide_eq_false HC.out]; rfl, below_drewC _ HB.out⟩
    · have hge : ¬ (k : Int) < (t.size : Int) := by omega
      have HC : Hid (RightC t) := fun i hi => HR.out i hi (by omega)
      go_wp2
      go_ret
      exact ⟨by rw [decide_eq_true HC.out]; rfl, HB.out⟩
end Go.Proofs.YtfeolbgenpknfaaGreat
