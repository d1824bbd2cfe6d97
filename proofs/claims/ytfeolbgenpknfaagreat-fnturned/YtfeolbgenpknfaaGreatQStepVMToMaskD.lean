/- What is said here: places as words of 32 bits: put together, and moved up by one, as plain mathematics.
   What is said here: rows of cells in a stretch of blocks; how calls leave them.
   What is said here: five vectors in one struct: its value, its box, its words in a stretch of blocks. -/
import Derived.Test.YtfeolbgenpknfaaGreatQSpecKVecWToWordsForW
import Derived.Test.YtfeolbgenpknfaaGreatQImplRightWToVecM
import Derived.Test.YtfeolbgenpknfaaGreatQClassMToCellD
import Derived.Test.YtfeolbgenpknfaaGreatQRowsDToVecS
namespace Go.Proofs.YtfeolbgenpknfaaGreat
open Go.RowKit

theorem VecIs.or {f g : Nat → Int} {P Q : Nat → Bool} {m : Nat} (h : VecIs f P m) (h' : VecIs g Q m) : VecIs (fun i => bits .or .i64 (f i) (g i)) (fun j => P j || Q j) m := fun i hi => by
  obtain ⟨a, e1, h1, h2⟩ := h i hi
  obtain ⟨b, e2, h3, h4⟩ := h' i hi
  refine ⟨a ||| b, ?_, Nat.or_lt_two_pow h1 h3, fun q hq => by rw [Nat.testBit_or, h2 q hq, h4 q hq]⟩
  show bits .or .i64 (f i) (g i) = _
  rw [e1, e2, (bits_nat .i64 32 (by decide) wraps_i64w a b h1 h3).2]
theorem VecIs.and {f g : Nat → Int} {P Q : Nat → Bool} {m : Nat} (h : VecIs f P m) (h' : VecIs g Q m) : VecIs (fun i => bits .and .i64 (f i) (g i)) (fun j => P j && Q j) m := fun i hi => by
  obtain ⟨a, e1, h1, h2⟩ := h i hi
  obtain ⟨b, e2, h3, h4⟩ := h' i hi
  refine ⟨a &&& b, ?_, Nat.and_lt_two_pow _ h3, fun q hq => by rw [Nat.testBit_and, h2 q hq, h4 q hq]⟩
  show bits .and .i64 (f i) (g i) = _
  rw [e1, e2, (bits_nat .i64 32 (by decide) wraps_i64w a b h1 h3).1]
theorem carry_two {f : Nat → Int} {m : Nat} (h : ∀ i, i < m → 0 ≤ f i ∧ f i ≤ 4294967295) : ∀ k, k < m → carryF 0 f f (k + 1) = f k / 2147483648
  | 0, hk => by
    have := h 0 hk
    show (f 0 + f 0 + 0) / 4294967296 = _
    omega
  | k + 1, hk => by
    have ih := carry_two h k (by omega)
    have h1 := h k (by omega)
    have h2 := h (k + 1) hk
    show (f (k + 1) + f (k + 1) + carryF 0 f f (k + 1)) / 4294967296 = _
    rw [ih]
    omega
/-- Moved up by one, and cut. -/
theorem VecIs.up {f : Nat → Int} {P : Nat → Bool} {n m : Nat} (hm : m = (n + 1 + 31) / 32) (h : VecIs f P m) : VecIs (cutF ((n : Int) + 1) m (sumF 0 f f)) (fun j => decide (1 ≤ j ∧ j ≤ n) && P (j - 1)) m := fun i hi => by
  have hw : ∀ i, i < m → 0 ≤ f i ∧ f i ≤ 4294967295 := fun i hi => by
    obtain ⟨a, e1, h1, _⟩ := h i hi
    rw [e1]
    omega
  obtain ⟨a, e1, h1, h2⟩ := h i hi
  obtain ⟨c, hc, hc1, hcb⟩ : ∃ c : Nat, carryF 0 f f i = (c : Int) ∧ c ≤ 1 ∧ (decide (c = 1)) = (decide (1 ≤ 32 * i) && P (32 * i - 1)) := by
    cases i with
    | zero => exact ⟨0, rfl, by omega, by simp⟩
    | succ k =>
      obtain ⟨d, e3, h5, h6⟩ := h k (by omega)
      refine ⟨d / 2147483648, ?_, by omega, ?_⟩
      · rw [carry_two hw k (by omega), e3]
        omega
      · rw [decide_eq_true (show 1 ≤ 32 * (k + 1) by omega), Bool.true_and, show 32 * (k + 1) - 1 = 32 * k + 31 by omega, ← h6 31 (by omega), Nat.testBit_eq_decide_div_mod_eq]
        have : d / 2147483648 < 2 := by omega
        congr 1
        rw [show (2 : Nat) ^ 31 = 2147483648 by decide, Nat.mod_eq_of_lt this]
  have hs : sumF 0 f f i = (((2 * a + c) % 4294967296 : Nat) : Int) := by
    unfold sumF
    rw [hc, e1]
    omega
  have hsb : ∀ q, q < 32 → ((2 * a + c) % 4294967296).testBit q = (decide (1 ≤ 32 * i + q) && P (32 * i + q - 1)) := fun q hq => by
    rw [show (4294967296 : Nat) = 2 ^ 32 by decide, Nat.testBit_mod_two_pow, decide_eq_true hq, Bool.true_and]
    cases q with
    | zero =>
      rw [Nat.add_zero, ← hcb, Nat.testBit_zero]
      congr 1
      simp only [eq_iff_iff]
      omega
    | succ q =>
      rw [Nat.testBit_succ, show (2 * a + c) / 2 = a by omega, h2 q (by omega), decide_eq_true (show 1 ≤ 32 * i + (q + 1) by omega), Bool.true_and]
      congr 1
  have hzl : (2 * a + c) % 4294967296 < 4294967296 := Nat.mod_lt _ (by decide)
  generalize (2 * a + c) % 4294967296 = z at *
  have hpos : ∀ j, (decide (1 ≤ j ∧ j ≤ n) && P (j - 1)) = ((decide (1 ≤ j) && P (j - 1)) && decide (j ≤ n)) := fun j => by
    by_cases h1 : 1 ≤ j <;> by_cases h2 : j ≤ n <;> simp [h1, h2]
  unfold cutF
  by_cases hl : i + 1 = m ∧ 0 < ((n : Int) + 1) % 32
  · rw [if_pos hl, hs]
    obtain ⟨r, hr⟩ : ∃ r, (n + 1) % 32 = r := ⟨_, rfl⟩
    have hr2 : (((n : Int) + 1) % 32).toNat = r := by omega
    rw [hr2]
    refine ⟨z % 2 ^ r, by simp, Nat.lt_of_le_of_lt (Nat.mod_le _ _) hzl, fun q hq => ?_⟩
    rw [Nat.testBit_mod_two_pow, hsb q hq]
    show _ = (decide (1 ≤ 32 * i + q ∧ 32 * i + q ≤ n) && P (32 * i + q - 1))
    rw [hpos, Bool.and_comm]
    congr 1
    simp only [decide_eq_decide]
    omega
  · rw [if_neg hl, hs]
    refine ⟨z, rfl, hzl, fun q hq => ?_⟩
    rw [hsb q hq]
    show _ = (decide (1 ≤ 32 * i + q ∧ 32 * i + q ≤ n) && P (32 * i + q - 1))
    rw [hpos, decide_eq_true (show 32 * i + q ≤ n by omega), Bool.and_true]
/-- The bits of a right vector. -/
def bitsOf (f : Nat → Int) (n : Nat) : Nat → Bool := fun j => decide (j ≤ n) && (f (j / 32)).toNat.testBit (j % 32)
theorem bitsOf_le (f : Nat → Int) (n : Nat) : ∀ j, n < j → bitsOf f n j = false := fun j h => by unfold bitsOf; rw [decide_eq_false (by omega)]; rfl
theorem vecIs_right {f : Nat → Int} {n m : Nat} (hm : m = (n + 1 + 31) / 32) (h : Right ((n : Int) + 1) m f) : VecIs f (bitsOf f n) m := fun i hi => by
  have h1 := h.2.2.2.1 i hi
  refine ⟨(f i).toNat, by omega, by omega, fun q hq => ?_⟩
  unfold bitsOf
  rw [show (32 * i + q) / 32 = i by omega, show (32 * i + q) % 32 = q by omega]
  by_cases hle : 32 * i + q ≤ n
  · rw [decide_eq_true hle, Bool.true_and]
  · rw [decide_eq_false hle, Bool.false_and]
    obtain rfl : i = m - 1 := by omega
    rcases h.2.2.2.2 with h2 | h2
    · omega
    · obtain ⟨r, hr⟩ : ∃ r, (n + 1) % 32 = r := ⟨_, rfl⟩
      have hr2 : (((n : Int) + 1) % 32).toNat = r := by omega
      rw [hr2] at h2
      have h3 : (f (m - 1)).toNat < 2 ^ r := by
        have : ((f (m - 1)).toNat : Int) < ((2 ^ r : Nat) : Int) := by push_cast; omega
        exact_mod_cast this
      exact Nat.testBit_lt_two_pow (Nat.lt_of_lt_of_le h3 (Nat.pow_le_pow_right (by decide) (by omega)))
theorem right_of_vecIs {f : Nat → Int} {P : Nat → Bool} {n m : Nat} (hn : n ≤ 319) (hm : m = (n + 1 + 31) / 32) (h : VecIs f P m) (hP : ∀ j, n < j → P j = false) : Right ((n : Int) + 1) m f := by
  refine ⟨by omega, by omega, by omega, fun i hi => ?_, ?_⟩
  · obtain ⟨a, e1, h1, _⟩ := h i hi
    rw [e1]
    omega
  · by_cases hz : ((n : Int) + 1) % 32 = 0
    · exact Or.inl hz
    · obtain ⟨a, e1, h1, h2⟩ := h (m - 1) (by omega)
      obtain ⟨r, hr⟩ : ∃ r, (n + 1) % 32 = r := ⟨_, rfl⟩
      have hr2 : (((n : Int) + 1) % 32).toNat = r := by omega
      rw [hr2, e1]
      refine Or.inr ?_
      have h3 : a < 2 ^ r := by
        apply Nat.lt_pow_two_of_testBit
        intro q hq
        by_cases hq2 : q < 32
        · rw [h2 q hq2, hP _ (by omega)]
        · exact Nat.testBit_lt_two_pow (Nat.lt_of_lt_of_le h1 (Nat.pow_le_pow_right (by decide) (by omega)))
      exact_mod_cast h3
/-- A number that has the bits of a right vector. -/
theorem bitsOf_ex (f : Nat → Int) {n : Nat} (hn : n ≤ 62) : ∃ x, IsBits x (bitsOf f n) := ⟨_, bits_valB (fun j hj => bitsOf_le f n j (by omega))⟩
theorem clo_ex {S P : Nat → Bool} {n : Nat} (hn : n ≤ 62) (hS : ∀ j, n < j → S j = false) (hP : ∀ j, n < j → P j = false) : ∃ x, IsBits x (cloB S P) := ⟨_, bits_valB (fun j hj => clo_le hS hP j (by omega))⟩
end Go.Proofs.YtfeolbgenpknfaaGreat
namespace Go.Proofs.YtfeolbgenpknfaaGreat
open Go.RowKit

/-- Some block of a stretch turned, no other. -/
def OnlyC (W W' : World) (lo hi : Nat) : Prop := ∃ row : Option Nat, W.grownBy W' row ∧ ∀ g, row = some g → lo ≤ g ∧ g < hi
theorem OnlyC.below {W W' : World} {lo hi B : Nat} (h : OnlyC W W' lo hi) (hB : B ≤ lo) (hs : B ≤ W.heap.size) : Below B W W' := by
  obtain ⟨row, hg, hr⟩ := h
  exact ⟨hg.os, hg.tape, hg.output, hg.size, fun k hk => hg.block k (by omega) (fun e => by have := hr k e.symm; omega)⟩
theorem OnlyC.size {W W' : World} {lo hi : Nat} (h : OnlyC W W' lo hi) : W.heap.size ≤ W'.heap.size := by
  obtain ⟨row, hg, hr⟩ := h
  exact hg.size
/-- A row of cells in a stretch of blocks. -/
def CSl (W : World) (lo hi : Nat) (sa : Option Addr) (n : Nat) (f : Nat → Cel) : Prop := n = 0 ∨ ∃ g, sa = some ⟨g, 0, none⟩ ∧ lo ≤ g ∧ g < hi ∧ COwn W g n f
theorem CSl.row {W : World} {lo hi n : Nat} {sa : Option Addr} {f : Nat → Cel} (h : CSl W lo hi sa n f) : CRow W W.heap.size sa n f := by
  rcases h with h | ⟨g, rfl, _, _, h3⟩
  · exact Or.inl h
  · exact h3.row h3.lt
theorem CSl.kept {W W' : World} {lo hi n : Nat} {sa : Option Addr} {f : Nat → Cel} (h : CSl W lo hi sa n f) (hb : Below W.heap.size W W') : CSl W' lo hi sa n f := by
  rcases h with h | ⟨g, h1, h2, h4, h3⟩
  · exact Or.inl h
  · exact Or.inr ⟨g, h1, h2, h4, h3.kept hb h3.lt⟩
theorem COwn.other {W W' : World} {g n : Nat} {row : Option Nat} {f : Nat → Cel} (h : COwn W g n f) (hg : W.grownBy W' row) (hne : row ≠ some g) : COwn W' g n f := by
  have hb := hg.block g h.lt (fun e => hne e.symm)
  refine ⟨Nat.lt_of_lt_of_le h.lt hg.size, fun i hi => ⟨?_, ?_, ?_⟩, fun i hi => ?_⟩
  · have := (h.at' i hi).c0
    simpa [World.cell?, hb] using this
  · have := (h.at' i hi).c1
    simpa [World.cell?, hb] using this
  · have := (h.at' i hi).c2
    simpa [World.cell?, hb] using this
  · have := h.free i hi
    simpa [World.frozen?, hb] using this
theorem CSl.only {W W' : World} {lo hi lo' hi' n : Nat} {sa : Option Addr} {f : Nat → Cel} (h : CSl W lo hi sa n f) (ho : OnlyC W W' lo' hi') (hd : hi ≤ lo' ∨ hi' ≤ lo) : CSl W' lo hi sa n f := by
  rcases h with h | ⟨g, h1, h2, h4, h3⟩
  · exact Or.inl h
  · obtain ⟨row, hg, hr⟩ := ho
    exact Or.inr ⟨g, h1, h2, h4, h3.other hg (fun e => by have := hr g e; omega)⟩
/-- A slice of cells in new memory. -/
def NewCells (w : World) (n : Nat) (f : Nat → Cel) (e : Ending) (w' : World) : Prop := ∃ (sa : Option Addr) (cap : Nat), e = .returned (.slice sa n cap) ∧ Below w.heap.size w w' ∧ CSl w' w.heap.size w'.heap.size sa n f
theorem grown_of_belowC {w w' : World} {row : Option Nat} (h : Below w.heap.size w w') : w.grownBy w' row := ⟨h.os, h.tape, h.output, h.size, fun k hk _ => h.block k hk⟩
end Go.Proofs.YtfeolbgenpknfaaGreat
namespace Go.Proofs.YtfeolbgenpknfaaGreat
open Go.RowKit

/-- Five vectors of so many bits. -/
def masksV (b : Int) (s : Nat → Option Addr) (n : Nat) (c : Nat → Nat) : Value := .agg #[.int .i64 b, .slice (s 0) n (c 0), .int .i64 b, .slice (s 1) n (c 1), .int .i64 b, .slice (s 2) n (c 2), .int .i64 b, .slice (s 3) n (c 3), .int .i64 b, .slice (s 4) n (c 4)]
/-- A box of five vectors. -/
def MBox (W : World) (p : Nat) (b : Int) (s : Nat → Option Addr) (n : Nat) (c : Nat → Nat) : Prop := W.heap[p]? = some (.cells #[.int .i64 b, .slice (s 0) n (c 0), .int .i64 b, .slice (s 1) n (c 1), .int .i64 b, .slice (s 2) n (c 2), .int .i64 b, .slice (s 3) n (c 3), .int .i64 b, .slice (s 4) n (c 4)] 130 (0, 0))
theorem MBox.lt {W : World} {p : Nat} {b : Int} {s : Nat → Option Addr} {n : Nat} {c : Nat → Nat} (h : MBox W p b s n c) : p < W.heap.size := lt_of_block h
theorem MBox.cells {W : World} {p : Nat} {b : Int} {s : Nat → Option Addr} {n : Nat} {c : Nat → Nat} (h : MBox W p b s n c) : W.cell? ⟨p, 0, none⟩ = some (.int .i64 b) ∧ W.cell? ⟨p, 1, none⟩ = some (.slice (s 0) n (c 0)) ∧ W.cell? ⟨p, 2, none⟩ = some (.int .i64 b) ∧ W.cell? ⟨p, 3, none⟩ = some (.slice (s 1) n (c 1)) ∧ W.cell? ⟨p, 4, none⟩ = some (.int .i64 b) ∧ W.cell? ⟨p, 5, none⟩ = some (.slice (s 2) n (c 2)) ∧ W.cell? ⟨p, 6, none⟩ = some (.int .i64 b) ∧ W.cell? ⟨p, 7, none⟩ = some (.slice (s 3) n (c 3)) ∧ W.cell? ⟨p, 8, none⟩ = some (.int .i64 b) ∧ W.cell? ⟨p, 9, none⟩ = some (.slice (s 4) n (c 4)) := by
  unfold MBox at h
  simp [World.cell?, h]
theorem MBox.free {W : World} {p : Nat} {b : Int} {s : Nat → Option Addr} {n : Nat} {c : Nat → Nat} (h : MBox W p b s n c) : W.frozen? ⟨p, 0, none⟩ = false ∧ W.frozen? ⟨p, 1, none⟩ = false ∧ W.frozen? ⟨p, 2, none⟩ = false ∧ W.frozen? ⟨p, 3, none⟩ = false ∧ W.frozen? ⟨p, 4, none⟩ = false ∧ W.frozen? ⟨p, 5, none⟩ = false ∧ W.frozen? ⟨p, 6, none⟩ = false ∧ W.frozen? ⟨p, 7, none⟩ = false ∧ W.frozen? ⟨p, 8, none⟩ = false ∧ W.frozen? ⟨p, 9, none⟩ = false :=
  ⟨frozen_of_row _ _ _ _ _ h, frozen_of_row _ _ _ _ _ h, frozen_of_row _ _ _ _ _ h, frozen_of_row _ _ _ _ _ h, frozen_of_row _ _ _ _ _ h, frozen_of_row _ _ _ _ _ h, frozen_of_row _ _ _ _ _ h, frozen_of_row _ _ _ _ _ h, frozen_of_row _ _ _ _ _ h, frozen_of_row _ _ _ _ _ h⟩
theorem MBox.kept {W W' : World} {B p : Nat} {b : Int} {s : Nat → Option Addr} {n : Nat} {c : Nat → Nat} (h : MBox W p b s n c) (hb : Below B W W') (hB : B = W.heap.size) : MBox W' p b s n c := by
  unfold MBox
  rw [hb.block p (by rw [hB]; exact h.lt)]
  exact h
theorem MBox.setOther {W : World} {p : Nat} {b : Int} {s : Nat → Option Addr} {n : Nat} {c : Nat → Nat} (h : MBox W p b s n c) (a : Addr) (v : Value) (hne : a.block ≠ p) : MBox (W.setCell a v) p b s n c := by
  unfold MBox
  rw [Below.heap_setCell _ _ _ _ (fun e => hne e.symm)]
  exact h
theorem MBox.grown {W W' : World} {g p : Nat} {b : Int} {s : Nat → Option Addr} {n : Nat} {c : Nat → Nat} (h : MBox W p b s n c) (hg : W.grownBy W' (some g)) (hne : p ≠ g) : MBox W' p b s n c := by
  unfold MBox
  rw [hg.block p h.lt (fun e => hne (by injection e))]
  exact h
/-- Five vectors are put into a box. -/
theorem mboxing (W : World) (b : Int) (s : Nat → Option Addr) (n : Nat) (c : Nat → Nat) : Below W.heap.size W (W.alloc (.cells #[.int .i64 b, .slice (s 0) n (c 0), .int .i64 b, .slice (s 1) n (c 1), .int .i64 b, .slice (s 2) n (c 2), .int .i64 b, .slice (s 3) n (c 3), .int .i64 b, .slice (s 4) n (c 4)] 130)) ∧ MBox (W.alloc (.cells #[.int .i64 b, .slice (s 0) n (c 0), .int .i64 b, .slice (s 1) n (c 1), .int .i64 b, .slice (s 2) n (c 2), .int .i64 b, .slice (s 3) n (c 3), .int .i64 b, .slice (s 4) n (c 4)] 130)) W.heap.size b s n c ∧ (W.alloc (.cells #[.int .i64 b, .slice (s 0) n (c 0), .int .i64 b, .slice (s 1) n (c 1), .int .i64 b, .slice (s 2) n (c 2), .int .i64 b, .slice (s 3) n (c 3), .int .i64 b, .slice (s 4) n (c 4)] 130)).heap.size = W.heap.size + 1 :=
  ⟨(Below.refl _ _).alloc (Nat.le_refl _) _, heap_alloc_new W _, by simp⟩
/-- Blocks of a stretch turned, no others. -/
structure OnlyM (W W' : World) (lo hi : Nat) : Prop where
  os : W'.os = W.os
  tape : W'.tape = W.tape
  output : W'.output = W.output
  size : W.heap.size ≤ W'.heap.size
  block : ∀ k, k < W.heap.size → (k < lo ∨ hi ≤ k) → W'.heap[k]? = W.heap[k]?
theorem OnlyM.refl (W : World) (lo hi : Nat) : OnlyM W W lo hi := ⟨rfl, rfl, rfl, Nat.le_refl _, fun _ _ _ => rfl⟩
theorem OnlyM.trans {W W1 W2 : World} {lo hi : Nat} (h : OnlyM W W1 lo hi) (h' : OnlyM W1 W2 lo hi) : OnlyM W W2 lo hi :=
  ⟨h'.os.trans h.os, h'.tape.trans h.tape, h'.output.trans h.output, Nat.le_trans h.size h'.size, fun k hk hd => (h'.block k (Nat.lt_of_lt_of_le hk h.size) hd).trans (h.block k hk hd)⟩
theorem OnlyM.of {W W' : World} {lo hi lo' hi' : Nat} (h : OnlyIn W W' lo hi) (hl : lo' ≤ lo) (hh : hi ≤ hi') : OnlyM W W' lo' hi' := by
  obtain ⟨row, hg, hr⟩ := h
  exact ⟨hg.os, hg.tape, hg.output, hg.size, fun k hk hd => hg.block k hk (fun e => by have := hr k e.symm; omega)⟩
theorem OnlyM.ofBelow {W W' : World} {lo hi : Nat} (h : Below W.heap.size W W') : OnlyM W W' lo hi := ⟨h.os, h.tape, h.output, h.size, fun k hk _ => h.block k hk⟩
theorem OnlyM.below {W W' : World} {lo hi B : Nat} (h : OnlyM W W' lo hi) (hB : B ≤ lo) (hs : B ≤ W.heap.size) : Below B W W' :=
  ⟨h.os, h.tape, h.output, h.size, fun k hk => h.block k (by omega) (Or.inl (by omega))⟩
theorem MBox.onlyM {W W' : World} {lo hi p : Nat} {b : Int} {s : Nat → Option Addr} {n : Nat} {c : Nat → Nat} (h : MBox W p b s n c) (ho : OnlyM W W' lo hi) (hp : p < lo ∨ hi ≤ p) : MBox W' p b s n c := by
  unfold MBox
  rw [ho.block p h.lt hp]
  exact h
theorem MBox.only {W W' : World} {lo hi p : Nat} {b : Int} {s : Nat → Option Addr} {n : Nat} {c : Nat → Nat} (h : MBox W p b s n c) (ho : OnlyIn W W' lo hi) (hp : p < lo ∨ hi ≤ p) : MBox W' p b s n c := h.onlyM (OnlyM.of ho (Nat.le_refl _) (Nat.le_refl _)) hp
theorem CSl.onlyM {W W' : World} {lo hi lo' hi' n : Nat} {sa : Option Addr} {f : Nat → Cel} (h : CSl W lo hi sa n f) (ho : OnlyM W W' lo' hi') (hd : hi ≤ lo' ∨ hi' ≤ lo) : CSl W' lo hi sa n f := by
  rcases h with h | ⟨g, h1, h2, h4, h⟩
  · exact Or.inl h
  · have hb := ho.block g h.lt (by omega)
    refine Or.inr ⟨g, h1, h2, h4, ⟨Nat.lt_of_lt_of_le h.lt ho.size, fun i hi => ⟨?_, ?_, ?_⟩, fun i hi => ?_⟩⟩
    · have := (h.at' i hi).c0
      simpa [World.cell?, hb] using this
    · have := (h.at' i hi).c1
      simpa [World.cell?, hb] using this
    · have := (h.at' i hi).c2
      simpa [World.cell?, hb] using this
    · have := h.free i hi
      simpa [World.frozen?, hb] using this
theorem Slice.onlyM {W W' : World} {lo hi lo' hi' n : Nat} {sa : Option Addr} {f : Nat → Int} (h : Slice W lo hi sa n f) (ho : OnlyM W W' lo' hi') (hd : hi ≤ lo' ∨ hi' ≤ lo) : Slice W' lo hi sa n f := by
  rcases h with h | ⟨g, h1, h2, h4, h3⟩
  · exact Or.inl h
  · refine Or.inr ⟨g, h1, h2, h4, ?_⟩
    have hb := ho.block g h3.1 (by omega)
    refine ⟨Nat.lt_of_lt_of_le h3.1 ho.size, fun i hi => ?_, fun i hi => ?_⟩
    · have := h3.2.1 i hi
      simpa [World.cell?, hb] using this
    · have := h3.2.2 i hi
      simpa [World.frozen?, hb] using this
/-- Five rows, each in a stretch of blocks of its own. -/
structure MSl (W : World) (h : Nat → Nat) (s : Nat → Option Addr) (n : Nat) (F : Nat → Nat → Int) : Prop where
  r0 : Slice W (h 0) (h 1) (s 0) n (F 0)
  r1 : Slice W (h 1) (h 2) (s 1) n (F 1)
  r2 : Slice W (h 2) (h 3) (s 2) n (F 2)
  r3 : Slice W (h 3) (h 4) (s 3) n (F 3)
  r4 : Slice W (h 4) (h 5) (s 4) n (F 4)
  up : h 0 ≤ h 1 ∧ h 1 ≤ h 2 ∧ h 2 ≤ h 3 ∧ h 3 ≤ h 4 ∧ h 4 ≤ h 5
theorem MSl.kept {W W' : World} {h : Nat → Nat} {s : Nat → Option Addr} {n : Nat} {F : Nat → Nat → Int} (m : MSl W h s n F) (hb : Below W.heap.size W W') : MSl W' h s n F :=
  ⟨m.r0.kept hb rfl, m.r1.kept hb rfl, m.r2.kept hb rfl, m.r3.kept hb rfl, m.r4.kept hb rfl, m.up⟩
theorem MSl.onlyM {W W' : World} {lo hi : Nat} {h : Nat → Nat} {s : Nat → Option Addr} {n : Nat} {F : Nat → Nat → Int} (m : MSl W h s n F) (ho : OnlyM W W' lo hi) (hd : h 5 ≤ lo ∨ hi ≤ h 0) : MSl W' h s n F := by
  have := m.up
  exact ⟨m.r0.onlyM ho (by omega), m.r1.onlyM ho (by omega), m.r2.onlyM ho (by omega), m.r3.onlyM ho (by omega), m.r4.onlyM ho (by omega), m.up⟩
theorem MSl.only {W W' : World} {lo hi : Nat} {h : Nat → Nat} {s : Nat → Option Addr} {n : Nat} {F : Nat → Nat → Int} (m : MSl W h s n F) (ho : OnlyC W W' lo hi) (hd : h 5 ≤ lo ∨ hi ≤ h 0) : MSl W' h s n F := by
  obtain ⟨row, hg, hr⟩ := ho
  exact m.onlyM (OnlyM.of ⟨row, hg, hr⟩ (Nat.le_refl _) (Nat.le_refl _)) hd
/-- Five vectors in new memory. -/
def NewMasks (w : World) (b : Int) (n : Nat) (F : Nat → Nat → Int) (e : Ending) (w' : World) : Prop :=
  ∃ (s : Nat → Option Addr) (c : Nat → Nat) (h : Nat → Nat), e = .returned (masksV b s n c) ∧ Below w.heap.size w w' ∧ MSl w' h s n F ∧ w.heap.size ≤ h 0 ∧ h 5 ≤ w'.heap.size
/-- Five addresses. -/
def five {α : Type} (a0 a1 a2 a3 a4 : α) : Nat → α := fun i => match i with
  | 0 => a0
  | 1 => a1
  | 2 => a2
  | 3 => a3
  | _ => a4
theorem OnlyM.setS {W W' : World} {lo hi : Nat} {p : Addr} {v : Value} (h : OnlyM W W' lo hi) (h1 : lo ≤ p.block) (h2 : p.block < hi) : OnlyM W (W'.setCell p v) lo hi :=
  ⟨h.os, h.tape, h.output, by simpa [World.setCell] using h.size, fun k hk hd => by rw [Below.heap_setCell _ _ _ _ (fun e => by omega)]; exact h.block k hk hd⟩
end Go.Proofs.YtfeolbgenpknfaaGreat
