/- What is said here: the words of all bits turned, as plain mathematics.
   What is said here: places in words of 32 bits, turned, taken from one another; a row's own masks close places by one subtraction as they are closed step by step, as plain mathematics.
   What is said here: closing twice is closing once; what was closed together was closed alone; words of places that are put together, as plain mathematics.
   What is proved here: a slice of bytes that the call owns, made into a text.
   What is proved here: the source of draws: n hands back a number in its range, whatever the bytes; its one block alone turns. -/
import Derived.Test.YtlgnplnmcdjbiaaQCellMToStepVM
import Derived.Test.YtlgnplnmcdjbiaaQFnVecMToSet64M
import Derived.Test.YtlgnplnmcdjbiaaProg
import Derived.WalkKit
import Derived.Laws.BytesArg
import Derived.Maps.AppendAt
import Derived.Maps.Range
import Derived.WalkSpells
import Derived.RegionTactic
import Derived.BigRegion
import Derived.Deep.QuietTactic
import Derived.BigQuiet
import Derived.Deep.DeepCutAuto
import Derived.Laws.BitsAllLaws
namespace Go.Proofs.Ytlgnplnmcdjbiaa
open Go.RowKit

theorem VecIs.notC {f : Nat → Int} {P : Nat → Bool} {n m : Nat} (hm : m = (n + 1 + 31) / 32) (h : VecIs f P m) : VecIs (cutF ((n : Int) + 1) m (notF f)) (fun j => decide (j ≤ n) && !P j) m := fun i hi => by
  obtain ⟨a, e1, h1, h2⟩ := h i hi
  have hs : notF f i = ((4294967295 - a : Nat) : Int) := by
    unfold notF
    rw [e1]
    omega
  have hsb : ∀ q, q < 32 → (4294967295 - a).testBit q = !P (32 * i + q) := fun q hq => by
    have hb : (2 ^ 32 - (a + 1)).testBit q = (decide (q < 32) && !a.testBit q) := Nat.testBit_two_pow_sub_succ h1 q
    rw [decide_eq_true hq, Bool.true_and, h2 q hq] at hb
    rw [← hb]
    congr 1
    have : (2 : Nat) ^ 32 = 4294967296 := by decide
    omega
  have hzl : 4294967295 - a < 4294967296 := by omega
  generalize 4294967295 - a = z at *
  unfold cutF
  by_cases hl : i + 1 = m ∧ 0 < ((n : Int) + 1) % 32
  · rw [if_pos hl, hs]
    obtain ⟨r, hr⟩ : ∃ r, (n + 1) % 32 = r := ⟨_, rfl⟩
    have hr2 : (((n : Int) + 1) % 32).toNat = r := by omega
    rw [hr2]
    refine ⟨z % 2 ^ r, by simp, Nat.lt_of_le_of_lt (Nat.mod_le _ _) hzl, fun q hq => ?_⟩
    rw [Nat.testBit_mod_two_pow, hsb q hq]
    show _ = (decide (32 * i + q ≤ n) && !P (32 * i + q))
    congr 1
    simp only [decide_eq_decide]
    omega
  · rw [if_neg hl, hs]
    refine ⟨z, rfl, hzl, fun q hq => ?_⟩
    rw [hsb q hq]
    show _ = (decide (32 * i + q ≤ n) && !P (32 * i + q))
    rw [decide_eq_true (show 32 * i + q ≤ n by omega), Bool.true_and]
end Go.Proofs.Ytlgnplnmcdjbiaa
namespace Go.Proofs.Ytlgnplnmcdjbiaa
open Go.RowKit

theorem VecIs.xor {f g : Nat → Int} {P Q : Nat → Bool} {m : Nat} (h : VecIs f P m) (h' : VecIs g Q m) : VecIs (fun i => bits .xor .i64 (f i) (g i)) (fun j => (P j ^^ Q j)) m := fun i hi => by
  obtain ⟨a, e1, h1, h2⟩ := h i hi
  obtain ⟨b, e2, h3, h4⟩ := h' i hi
  refine ⟨a ^^^ b, ?_, Nat.xor_lt_two_pow h1 h3, fun q hq => by rw [Nat.testBit_xor, h2 q hq, h4 q hq]⟩
  show bits .xor .i64 (f i) (g i) = _
  rw [e1, e2, bits_xor_nat .i64 32 (by decide) wraps_i64w a b h1 h3]
/-- The words of a difference that is no less than none. -/
theorem dif_words {d f : Nat → Int} {x y m : Nat} (hm : m ≤ 2) (hx : x < 2 ^ (32 * m)) (hle : y ≤ x) (hd : ∀ i, i < m → d i = wordsN x i) (hf : ∀ i, i < m → f i = wordsN y i) : ∀ i, i < m → difF d f i = wordsN (x - y) i := fun i hi => by
  have hc : (m = 1 ∧ i = 0) ∨ (m = 2 ∧ i = 0) ∨ (m = 2 ∧ i = 1) := by omega
  rcases hc with ⟨rfl, rfl⟩ | ⟨rfl, rfl⟩ | ⟨rfl, rfl⟩
  · have e1 := hd 0 (by omega)
    have e2 := hf 0 (by omega)
    unfold wordsN at e1 e2 ⊢
    unfold difF borF
    rw [e1, e2]
    omega
  · have e1 := hd 0 (by omega)
    have e2 := hf 0 (by omega)
    unfold wordsN at e1 e2 ⊢
    unfold difF borF
    rw [e1, e2]
    omega
  · have e1 := hd 0 (by omega)
    have e2 := hf 0 (by omega)
    have e3 := hd 1 (by omega)
    have e4 := hf 1 (by omega)
    have hb : borF d f 1 = if d 0 < f 0 + 0 then 1 else 0 := rfl
    unfold difF
    rw [hb]
    unfold wordsN at e1 e2 e3 e4 ⊢
    rw [e1, e2, e3, e4]
    have p1 : (2 : Nat) ^ (0 * 32) = 1 := by decide
    have p2 : (2 : Nat) ^ (1 * 32) = 4294967296 := by decide
    have p3 : (2 : Nat) ^ (32 * 2) = 18446744073709551616 := by decide
    rw [p3] at hx
    rw [p1, p2]
    split <;> omega
theorem cy_bits {f l k g : Nat → Int} {S A : Nat → Bool} {n m : Nat} (hn : n ≤ 60) (hm : m = (n + 1 + 31) / 32) (h0 : S 0 = false) (hS : ∀ j, n < j → S j = false) (hA : ∀ j, n < j → A j = false)
    (hf : VecIs f (firstB S) m) (hl : VecIs l (lastB S) m) (hk : VecIs k S m) (hg : VecIs g A m) : VecIs (cyF ((n : Int) + 1) m f l k g) (cloB S A) m := by
  have hF : ∀ j, n < j → firstB S j = false := fun j hj => by unfold firstB; rw [hS (j + 1) (by omega)]; rfl
  have hL : ∀ j, n < j → lastB S j = false := fun j hj => by unfold lastB; rw [hS j hj]; rfl
  have ia := bits_valB (P := A) (fun j hj => hA j (by omega))
  have ik := bits_valB (P := S) (fun j hj => hS j (by omega))
  have iF := bits_valB (P := firstB S) (fun j hj => hF j (by omega))
  have iL := bits_valB (P := lastB S) (fun j hj => hL j (by omega))
  obtain ⟨hle, hX⟩ := clo_sub (n := n) (by omega) h0 hS hA ia ik iF iL
  have iD := ia.or iL
  generalize valB A 64 = a at *
  generalize valB S 64 = bl at *
  generalize valB (firstB S) 64 = fi at *
  generalize valB (lastB S) 64 = la at *
  have hDn : ∀ j, n < j → (A j || lastB S j) = false := fun j hj => by rw [hA j hj, hL j hj]; rfl
  have hDl := lt_pow_of iD hDn
  have hm2 : m ≤ 2 := by omega
  have hD2 : a ||| la < 2 ^ (32 * m) := Nat.lt_of_lt_of_le hDl (Nat.pow_le_pow_right (by decide) (by omega))
  have hd := hg.or hl
  have ed : ∀ i, i < m → cyD l g i = wordsN (a ||| la) i := hd.uniq (vecIs_words iD m)
  have ef : ∀ i, i < m → f i = wordsN fi i := hf.uniq (vecIs_words iF m)
  have hdif := dif_words hm2 hD2 hle ed ef
  have hDF : (a ||| la) - fi < 2 ^ (n + 1) := Nat.lt_of_le_of_lt (Nat.sub_le _ _) hDl
  have iS : IsBits ((a ||| la) - fi) (fun j => ((a ||| la) - fi).testBit j) := ⟨Nat.lt_of_lt_of_le hDF (Nat.le_trans (Nat.pow_le_pow_right (by decide) (show n + 1 ≤ 64 by omega)) (by decide)), fun _ => rfl⟩
  have hSn : ∀ j, n < j → ((a ||| la) - fi).testBit j = false := fun j hj => Nat.testBit_lt_two_pow (Nat.lt_of_lt_of_le hDF (Nat.pow_le_pow_right (by decide) (by omega)))
  have hR := right_of_vecIs (by omega) hm (vecIs_words iS m) hSn
  have hrange : ∀ (u : Nat → Int) (P : Nat → Bool), VecIs u P m → ∀ i, i < m → 0 ≤ u i ∧ u i ≤ 4294967295 := fun u P h i hi => by
    obtain ⟨z, e1, h1, _⟩ := h i hi
    rw [e1]
    omega
  have hcy : VecIs (cyS ((n : Int) + 1) m f l g) (fun j => ((a ||| la) - fi).testBit j) m := fun i hi => by
    have e1 : cyS ((n : Int) + 1) m f l g i = wordsN ((a ||| la) - fi) i := by
      have e9 : cutF ((n : Int) + 1) m (difF (cyD l g) f) i = cyS ((n : Int) + 1) m f l g i := sub_same (b := (n : Int) + 1) (hrange _ _ hd) (hrange _ _ hf) i hi
      rw [← e9]
      exact cut_same (hR.2.2.2.2.imp id (fun h => ⟨(hR.2.2.2.1 (m - 1) (by omega)).1, h⟩)) hdif i hi
    obtain ⟨z, e2, h2, h3⟩ := vecIs_words iS m i hi
    exact ⟨z, by rw [e1]; exact e2, h2, h3⟩
  have hx := hcy.xor hd
  have hnot := hx.notC hm
  have hor := hg.or (hk.and hnot)
  refine hor.congr (fun j => ?_)
  have hb := hX.bit j
  rw [Nat.testBit_or, Nat.testBit_xor, Nat.testBit_and, Nat.testBit_xor, ia.bit, ik.bit, iD.bit] at hb
  rw [← hb]
  by_cases hj : j ≤ n
  · rw [decide_eq_true hj]
    cases A j <;> cases S j <;> cases lastB S j <;> cases ((a ||| la) - fi).testBit j <;> rfl
  · rw [hS j (by omega)]
    simp
end Go.Proofs.Ytlgnplnmcdjbiaa
namespace Go.Proofs.Ytlgnplnmcdjbiaa
open Go.RowKit

theorem cloB_twice (S P : Nat → Bool) : ∀ j, cloB S (cloB S P) j = cloB S P j
  | 0 => rfl
  | j + 1 => by
    show (cloB S P (j + 1) || (S (j + 1) && cloB S (cloB S P) j)) = cloB S P (j + 1)
    rw [cloB_twice S P j]
    show ((P (j + 1) || (S (j + 1) && cloB S P j)) || (S (j + 1) && cloB S P j)) = (P (j + 1) || (S (j + 1) && cloB S P j))
    cases P (j + 1) <;> cases S (j + 1) <;> cases cloB S P j <;> rfl
theorem cloB_or (S P Q : Nat → Bool) : ∀ j, cloB S (fun j => P j || Q j) j = (cloB S P j || cloB S Q j)
  | 0 => rfl
  | j + 1 => by
    show ((P (j + 1) || Q (j + 1)) || (S (j + 1) && cloB S (fun j => P j || Q j) j)) = ((P (j + 1) || (S (j + 1) && cloB S P j)) || (Q (j + 1) || (S (j + 1) && cloB S Q j)))
    rw [cloB_or S P Q j]
    cases P (j + 1) <;> cases Q (j + 1) <;> cases S (j + 1) <;> cases cloB S P j <;> cases cloB S Q j <;> rfl
theorem cloB_and (S P : Nat → Bool) : ∀ j, (cloB S P j && P j) = P j := fun j => by
  cases hp : P j with
  | false => simp
  | true => rw [cloB_of hp]; rfl
/-- The bits of words. -/
theorem bitsOf_is {f : Nat → Int} {P : Nat → Bool} {n m : Nat} (hm : m = (n + 1 + 31) / 32) (h : VecIs f P m) (hP : ∀ j, n < j → P j = false) : ∀ j, bitsOf f n j = P j := fun j => by
  unfold bitsOf
  by_cases hj : j ≤ n
  · obtain ⟨a, e, _, h2⟩ := h (j / 32) (by omega)
    rw [decide_eq_true hj, Bool.true_and, e, show ((a : Nat) : Int).toNat = a by simp, h2 (j % 32) (by omega), show 32 * (j / 32) + j % 32 = j by omega]
  · rw [decide_eq_false hj, hP j (by omega)]
    rfl
theorem newVec_congr {w w' : World} {b : Int} {n : Nat} {f g : Nat → Int} {e : Ending} (h : NewVec w b n f e w') (hfg : ∀ i, i < n → f i = g i) : NewVec w b n g e w' := by
  obtain ⟨s, c, e1, hb, ho⟩ := h
  exact ⟨s, c, e1, hb, ho.congr hfg⟩
end Go.Proofs.Ytlgnplnmcdjbiaa
namespace Go.Proofs.Ytlgnplnmcdjbiaa
open Go.RowKit

theorem Try.drawInfo : (Try.prog.info? 5).map (fun i => (i.zero, i.size, i.bytes)) = some (some (.int .u8 0), 1, 1) := by kernel_rfl
theorem convRow {w : World} {base n : Nat} {v : Value} {M : List Int} (h : w.ownsRow base 5 1 v n (M.map (Value.int .u8))) :
    (convert 22 9 v).run Try.prog w = .ok (.string (strOfNums M)) w := by
  have hl : M.length = n := by simpa using h.1
  obtain ⟨_, ⟨rfl, h0⟩ | ⟨g, cap, cur, rfl, hg, hh, hnc, hm, hs, ht⟩⟩ := h
  · obtain rfl : M = [] := List.length_eq_zero_iff.1 (by omega)
    exact run_convert_bytes_nil (P := Try.prog) w 22 5 Try.underlying22 Try.underlying5 0 0 9 Try.underlying9
  · refine run_convert_bytes_arg (P := Try.prog) w 22 5 Try.underlying22 Try.underlying5 g 0 n cap M hl (fun i hi => ?_) 9 Try.underlying9
    have h1 : (cur.toList.take (n * 1))[i]? = (M.map (Value.int .u8))[i]? := by rw [ht]
    rw [List.getElem?_take_of_lt (by omega), List.getElem?_map] at h1
    have h2 : M[i]? = some (M.getD i 0) := by rw [List.getD, List.getElem?_eq_getElem (by omega)]; rfl
    rw [h2] at h1
    simpa [World.cell?, hh] using h1
end Go.Proofs.Ytlgnplnmcdjbiaa
namespace Go.Proofs.Ytlgnplnmcdjbiaa
open Go.RowKit

theorem bits_range64 (op : BinOp) (x y : Int) : 0 ≤ bits op .u64 x y ∧ bits op .u64 x y ≤ 18446744073709551615 := by
  show 0 ≤ IntKind.u64.wrap _ ∧ IntKind.u64.wrap _ ≤ 18446744073709551615
  rw [IntKind.wrap_u64]
  omega

/-- The bytes that are drawn from: none, or cells of a block below B. -/
def Bytes8 (w : World) (B : Nat) (sa : Option Addr) (len : Nat) : Prop :=
  len = 0 ∨ ∃ (bb off : Nat) (zs : Nat → Int), sa = some ⟨bb, off, none⟩ ∧ bb < B ∧ (∀ i, i < len → w.cell? ⟨bb, off + i, none⟩ = some (.int .u8 (zs i))) ∧ ∀ i : Nat, 0 ≤ zs i ∧ zs i ≤ 255
/-- The source's block, its number of bytes passed, its mix. -/
def SrcAt (w : World) (b : Nat) (sa : Option Addr) (len cap k : Nat) (m z : Int) : Prop :=
  w.heap[b]? = some (.cells #[.slice sa len cap, .int .i64 (k : Int), .int .u64 m, .int .i64 z] 183 (0, 0)) ∧ k ≤ len ∧ 0 ≤ m ∧ m ≤ 18446744073709551615
/-- A source. -/
def Src (w : World) (b : Nat) (sa : Option Addr) (len cap : Nat) : Prop :=
  len ≤ 1048576 ∧ Bytes8 w b sa len ∧ ∃ (k : Nat) (m z : Int), SrcAt w b sa len cap k m z ∧ 0 ≤ z ∧ z ≤ 12

theorem SrcAt.cells {w : World} {b : Nat} {sa : Option Addr} {len cap k : Nat} {m z : Int} (h : SrcAt w b sa len cap k m z) :
    w.cell? ⟨b, 0, none⟩ = some (.slice sa len cap) ∧ w.cell? ⟨b, 1, none⟩ = some (.int .i64 (k : Int)) ∧ w.cell? ⟨b, 2, none⟩ = some (.int .u64 m) ∧ w.cell? ⟨b, 3, none⟩ = some (.int .i64 z) ∧
    w.frozen? ⟨b, 1, none⟩ = false ∧ w.frozen? ⟨b, 2, none⟩ = false ∧ w.frozen? ⟨b, 3, none⟩ = false := by
  obtain ⟨h, _⟩ := h
  refine ⟨by simp [World.cell?, h], by simp [World.cell?, h], by simp [World.cell?, h], by simp [World.cell?, h], ?_, ?_, ?_⟩ <;> exact frozen_of_row w b _ _ _ h
theorem SrcAt.setAt {w : World} {b : Nat} {sa : Option Addr} {len cap k k' : Nat} {m z : Int} (h : SrcAt w b sa len cap k m z) (hk : k' ≤ len) : SrcAt (w.setCell ⟨b, 1, none⟩ (.int .i64 (k' : Int))) b sa len cap k' m z := by
  obtain ⟨h, _, h0, h1⟩ := h
  exact ⟨by rw [heap_setCell_same w b 1 _ _ _ h]; rfl, hk, h0, h1⟩
theorem SrcAt.setMix {w : World} {b : Nat} {sa : Option Addr} {len cap k : Nat} {m z m' : Int} (h : SrcAt w b sa len cap k m z) (h0 : 0 ≤ m') (h1 : m' ≤ 18446744073709551615) : SrcAt (w.setCell ⟨b, 2, none⟩ (.int .u64 m')) b sa len cap k m' z := by
  obtain ⟨h, hk, _, _⟩ := h
  exact ⟨by rw [heap_setCell_same w b 2 _ _ _ h]; rfl, hk, h0, h1⟩
theorem SrcAt.drew {w : World} {b : Nat} {sa : Option Addr} {len cap k : Nat} {m z : Int} (h : SrcAt w b sa len cap k m z) : SrcAt w.drew b sa len cap k m z := h
theorem SrcAt.drewN {w : World} {b : Nat} {sa : Option Addr} {len cap k : Nat} {m z : Int} (n : Nat) (h : SrcAt w b sa len cap k m z) : SrcAt (w.drewN n) b sa len cap k m z := h
theorem only_setCell {a w : World} {b i : Nat} {v : Value} (h : a.grownBy w (some b)) : a.grownBy (w.setCell ⟨b, i, none⟩ v) (some b) :=
  h.trans ⟨rfl, rfl, rfl, by simp [World.setCell], fun k _ hk => Below.heap_setCell _ _ _ _ (fun e => hk (by simp [e]))⟩
theorem only_drew {a w : World} {b : Nat} (h : a.grownBy w (some b)) : a.grownBy w.drew (some b) := ⟨h.os, h.tape, h.output, h.size, h.block⟩
theorem only_drewN {a w : World} {b : Nat} (n : Nat) (h : a.grownBy w (some b)) : a.grownBy (w.drewN n) (some b) := ⟨h.os, h.tape, h.output, h.size, h.block⟩
theorem Bytes8.kept {w w' : World} {B : Nat} {sa : Option Addr} {len : Nat} {row : Option Nat} (h : Bytes8 w B sa len) (hg : w.grownBy w' row) (hr : ∀ k, row = some k → B ≤ k) : Bytes8 w' B sa len := by
  rcases h with h | ⟨bb, off, zs, h1, h2, h3, h4⟩
  · exact Or.inl h
  · exact Or.inr ⟨bb, off, zs, h1, h2, fun i hi => hg.cell (h3 i hi) (fun e => by have := hr bb e.symm; omega), h4⟩

/-- What n hands back. -/
def InRange (most : Int) (e : Ending) : Prop := ∃ r : Int, e = .returned (.int .i64 r) ∧ 0 ≤ r ∧ (1 < most → r < most) ∧ (most ≤ 1 → r = 0)

theorem in_range {v most : Int} (h1 : 1 < most) (h2 : most ≤ 9223372036854775807) : InRange most (.returned (.int .i64 (wrap64 (v % most)))) := by
  have e0 := Int.emod_nonneg v (show most ≠ 0 by omega)
  have e1 := Int.emod_lt_of_pos v (show 0 < most by omega)
  refine ⟨v % most, ?_, e0, fun _ => e1, fun h => by omega⟩
  have : wrap64 (v % most) = v % most := by unfold wrap64; omega
  rw [this]
theorem Src.kept {w w' : World} {b : Nat} {sa : Option Addr} {len cap : Nat} {row : Option Nat} (h : Src w b sa len cap) (hg : w.grownBy w' row) (hr : ∀ k, row = some k → b < k) : Src w' b sa len cap := by
  obtain ⟨hl, hby, k, m, z, ⟨hat, r⟩, hz⟩ := h
  refine ⟨hl, hby.kept hg (fun k hk => Nat.le_of_lt (hr k hk)), k, m, z, ⟨?_, r⟩, hz⟩
  rw [hg.block b (lt_of_block hat) (fun e => Nat.lt_irrefl _ (hr b e.symm))]
  exact hat
theorem Src.lt {w : World} {b : Nat} {sa : Option Addr} {len cap : Nat} (h : Src w b sa len cap) : b < w.heap.size := by
  obtain ⟨_, _, _, _, _, ⟨hat, _⟩, _⟩ := h
  exact lt_of_block hat

set_option maxRecDepth 100000 in
set_option maxHeartbeats 4000000 in
theorem n_any (w : World) (b : Nat) (sa : Option Addr) (len cap : Nat) (most : Int) (h2 : most ≤ 9223372036854775807) (hs : Src w b sa len cap) :
    Calls Try.prog 88 #[.pointer (some ⟨b, 0, none⟩), .int .i64 most] w fun e w' => InRange most e ∧ w.grownBy w' (some b) ∧ Src w' b sa len cap := by
  obtain ⟨hl, hby, k, m, z, hat, hz⟩ := hs
  have HZ : Hid (0 ≤ z ∧ z ≤ 12) := hz
  clear hz
  by_cases h1 : 1 < most
  · have HBY : Hid (Bytes8 w b sa len) := hby
    have HAT : Hid (SrcAt w b sa len cap k m z) := hat
    obtain ⟨c0, c1, c2, c3, f1, f2, f3⟩ := hat.cells
    obtain ⟨_, hk, hm0, hm1⟩ := hat
    clear hby
    go_enter Try.func88, Try.ntmps88
    go_upto_region 4 with fail
    go_quiet (fail)
    go_upto_if 17 with fail
    go_cut [5] (fun v wx => ∃ (x : Int) (k' : Nat), v = .int .u64 x ∧ 0 ≤ x ∧ x ≤ 255 ∧ w.grownBy wx (some b) ∧ SrcAt wx b sa len cap k' m z)
    case first =>
      by_cases hkl : k < len
      · obtain ⟨bb, off, zs, rfl, hbb, hcell, hzs⟩ : ∃ (bb off : Nat) (zs : Nat → Int), sa = some ⟨bb, off, none⟩ ∧ bb < b ∧ (∀ i, i < len → w.cell? ⟨bb, off + i, none⟩ = some (.int .u8 (zs i))) ∧ ∀ i : Nat, 0 ≤ zs i ∧ zs i ≤ 255 := by
          rcases HBY.out with h | h
          · omega
          · exact h
        have cz := hcell k hkl
        have hz := hzs k
        clear hcell hzs
        have hki : (k : Int) < (len : Int) := by omega
        have hk0 : (0 : Int) ≤ (k : Int) := by omega
        go_wp2
        go_quiet (fail)
        go_wp2
        go_meet
        case rel => exact ⟨zs k, k + 1, by go_num, hz.1, hz.2, only_setCell (only_drewN _ (World.grownBy.refl _ _)), by simpa using (HAT.out.drewN _).setAt (k' := k + 1) hkl⟩
      · have hki : ¬ (k : Int) < (len : Int) := by omega
        go_wp2
        go_meet
        case rel => exact ⟨0, k, rfl, by decide, by decide, only_drewN _ (World.grownBy.refl _ _), HAT.out⟩
    case rest =>
      clear c0 c1 c2 c3 f1 f2 f3 hk hm0 hm1 HAT
      obtain ⟨x, k', rfl, hx0, hx1, hg, hS⟩ := hcut
      have HG : Hid (w.grownBy wc (some b)) := hg
      have HS : Hid (SrcAt wc b sa len cap k' m z) := hS
      obtain ⟨c0, c1, c2, c3, f1, f2, f3⟩ := hS.cells
      obtain ⟨_, hk, hm0, hm1⟩ := hS
      clear hg
      go_upto_region 7 with fail
      go_cut [] (fun wx => ∃ m' : Int, w.grownBy wx (some b) ∧ SrcAt wx b sa len cap k' m' z)
      case first =>
        go_region
        go_wp2
        go_meet
        case rel => exact ⟨_, only_drew (only_setCell HG.out), (HS.out.setMix (bits_range64 _ _ _).1 (bits_range64 _ _ _).2).drew⟩
      case rest =>
        clear c0 c1 c2 c3 f1 f2 f3 hk hm0 hm1 HG HS
        obtain ⟨m1, hg, hS⟩ := hcut
        have HG : Hid (w.grownBy wc (some b)) := hg
        have HS : Hid (SrcAt wc b sa len cap k' m1 z) := hS
        obtain ⟨c0, c1, c2, c3, f1, f2, f3⟩ := hS.cells
        obtain ⟨_, hk, hm0, hm1⟩ := hS
        clear hg
        go_upto_region 8 with fail
        go_cut [] (fun wx => ∃ m' : Int, w.grownBy wx (some b) ∧ SrcAt wx b sa len cap k' m' z)
        case first =>
          go_region
          go_wp2
          go_meet
          case rel => exact ⟨_, only_drew (only_setCell HG.out), (HS.out.setMix (bits_range64 _ _ _).1 (bits_range64 _ _ _).2).drew⟩
        case rest =>
          clear c0 c1 c2 c3 f1 f2 f3 hk hm0 hm1 HG HS
          obtain ⟨m2, hg, hS⟩ := hcut
          have HG : Hid (w.grownBy wc (some b)) := hg
          have HS : Hid (SrcAt wc b sa len cap k' m2 z) := hS
          obtain ⟨c0, c1, c2, c3, f1, f2, f3⟩ := hS.cells
          obtain ⟨_, hk, hm0, hm1⟩ := hS
          clear hg
          go_upto_region 9 with fail
          go_cut [] (fun wx => ∃ m' : Int, w.grownBy wx (some b) ∧ SrcAt wx b sa len cap k' m' z)
          case first =>
            go_region
            go_wp2
            go_meet
            case rel => exact ⟨_, only_drew (only_setCell HG.out), (HS.out.setMix (bits_range64 _ _ _).1 (bits_range64 _ _ _).2).drew⟩
          case rest =>
            clear c0 c1 c2 c3 f1 f2 f3 hk hm0 hm1 HG HS
            obtain ⟨m3, hg, hS⟩ := hcut
            have HG : Hid (w.grownBy wc (some b)) := hg
            have HS : Hid (SrcAt wc b sa len cap k' m3 z) := hS
            obtain ⟨c0, c1, c2, c3, f1, f2, f3⟩ := hS.cells
            obtain ⟨_, hk, hm0, hm1⟩ := hS
            clear hg
            go_wp2
            go_ret
            exact ⟨in_range h1 h2, HG.out, hl, HBY.out.kept HG.out (fun k hk => by cases hk; exact Nat.le_refl _), k', m3, z, HS.out, HZ.out⟩
  · go_enter Try.func88, Try.ntmps88
    go_wp2
    go_ret
    exact ⟨⟨0, rfl, by decide, fun h => by omega, fun _ => rfl⟩, World.grownBy.refl _ _, hl, hby, k, m, z, hat, HZ.out⟩
/-- Some bool. -/
def SomeBool (e : Ending) : Prop := ∃ x : Bool, e = .returned (.bool x)
set_option maxHeartbeats 1000000 in
theorem one_any (w : World) (b : Nat) (sa : Option Addr) (len cap : Nat) (most : Int) (h2 : most ≤ 9223372036854775807) (hs : Src w b sa len cap) :
    Calls Try.prog 80 #[.pointer (some ⟨b, 0, none⟩), .int .i64 most] w fun e w' => SomeBool e ∧ w.grownBy w' (some b) ∧ Src w' b sa len cap := by
  have HS : Hid (Src w b sa len cap) := hs
  clear hs
  go_enter Try.func80, Try.ntmps80
  go_wp2_with fail
  refine (n_any _ b sa len cap most h2 HS.out).mono ?_
  rintro e w1 ⟨⟨r, rfl, hr⟩, hg, hS⟩
  have HG : Hid (w.grownBy w1 (some b)) := hg
  have HS1 : Hid (Src w1 b sa len cap) := hS
  clear hr hg hS HS
  go_wp2
  go_ret
  exact ⟨⟨_, rfl⟩, HG.out, HS1.out⟩

end Go.Proofs.Ytlgnplnmcdjbiaa
