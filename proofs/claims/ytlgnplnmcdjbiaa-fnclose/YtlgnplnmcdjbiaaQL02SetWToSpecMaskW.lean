/- What is proved here: the specification's l02Set turns one bit of the words that it is handed; nothing else that was there turns.
   What is proved here: the specification's CellsRight says whether a row of cells is right; nothing that was there turns.
   What is proved here: the specification's l03Has says whether a byte is in a text; the world stays.
   What is said here: what fits a row of cells, as plain mathematics.
   What is proved here: the specification's ByteVec and LoopVec hand back the places whose cells have a byte, or have it and may be passed again, in new memory, or nothing; nothing that was there turns.
   What is proved here: the specification's MasksOf of what is not right hands back nothing, in new memory; where it is right, it hands back what l06Masks does; nothing that was there turns. -/
import Derived.Test.YtlgnplnmcdjbiaaQVecMToCtzM
import Derived.BigRegion
import Derived.Test.YtlgnplnmcdjbiaaQCellMToStepVM
import Derived.Test.YtlgnplnmcdjbiaaQClassRowWToClassAlg
import Derived.Deep.RegionWith
import Derived.Test.YtlgnplnmcdjbiaaQFnVecMToSet64M
import Derived.WalkSpells
import Derived.RegionTactic
import Derived.Test.YtlgnplnmcdjbiaaQMakeWToVecNotW
import Derived.Test.YtlgnplnmcdjbiaaQWordsWToWordsForW
import Derived.Test.YtlgnplnmcdjbiaaQCellDToMaskD
namespace Go.Proofs.Ytlgnplnmcdjbiaa
open Go.RowKit

theorem grown_setNew2 {w W : World} {row : Option Nat} {p : Addr} {v : Value} (h : w.grownBy W row) (hp : w.heap.size ≤ p.block) : w.grownBy (W.setCell p v) row :=
  ⟨h.os, h.tape, h.output, by simpa [World.setCell] using h.size, fun k hk hr => by rw [Below.heap_setCell _ _ _ _ (fun e => by omega)]; exact h.block k hk hr⟩
theorem grown_below2 {w W W' : World} {row : Option Nat} (h : w.grownBy W row) (hb : Below W.heap.size W W') : w.grownBy W' row :=
  ⟨by rw [hb.os]; exact h.os, by rw [hb.tape]; exact h.tape, by rw [hb.output]; exact h.output, Nat.le_trans h.size hb.size, fun k hk hr => by rw [hb.block k (Nat.lt_of_lt_of_le hk h.size)]; exact h.block k hk hr⟩
set_option maxRecDepth 100000 in
set_option maxHeartbeats 4000000 in
theorem l02Set_any (b : Int) (g n cap k q : Nat) (f : Nat → Int) (i : Int) (on : Bool) (w : World) (hn : n ≤ 1048576) (ho : Own w g n f) (h0 : 0 ≤ i) (h1 : i / 32 = (k : Int)) (h2 : i % 32 = (q : Int)) (hk : k < n) (hq : q < 32) :
    Calls Try.prog 127 #[.agg #[.int .i64 b, .slice (some ⟨g, 0, none⟩) n cap], .int .i64 i, .bool on] w fun e w' => e = .returned (.tuple #[]) ∧ w.grownBy w' (some g) ∧ Own w' g n (setF f k q on) := by
  have hglt := ho.1
  have HO : Hid (Own w g n f) := ho
  have HK : Hid (i / 32 = (k : Int) ∧ i % 32 = (q : Int)) := ⟨h1, h2⟩
  clear ho h1 h2
  by_cases hg : getB (f k) q = on
  · have e1 : ∀ i, i < n → f i = setF f k q on i := by
      intro j _
      by_cases e : j = k
      · subst e; simp [setF, hg]
      · simp [setF, e]
    have HE : Hid (∀ i, i < n → f i = setF f k q on i) := e1
    clear e1
    have C1 := fun W h => l02Get_any b (some ⟨g, 0, none⟩) n cap k q f i W hn h h0 HK.out.1 HK.out.2 hk
    rw [hg] at C1
    have R1 : Hid (∀ W, Row W W.heap.size (some ⟨g, 0, none⟩) n f → Calls Try.prog 174 #[.agg #[.int .i64 b, .slice (some ⟨g, 0, none⟩) n cap], .int .i64 i] W fun e w' => e = .returned (.bool on) ∧ Below W.heap.size W w') := C1
    clear C1 hg
    go_enter Try.func127, Try.ntmps127
    go_wp2_with fail
    have q1 := boxing w 45 b (some ⟨g, 0, none⟩) n cap
    have G1 : w.grownBy (w.alloc (.cells #[.int .i64 b, .slice (some ⟨g, 0, none⟩) n cap] 45)) (some g) := World.grownBy_alloc w _ _
    generalize w.alloc (.cells #[.int .i64 b, .slice (some ⟨g, 0, none⟩) n cap] 45) = v1 at *
    have O1 := HO.out.kept q1.1 hglt
    refine (R1.out _ (O1.row (by rw [q1.2.2]; omega))).mono ?_
    rintro e w4 ⟨rfl, hb4⟩
    have G4 : Hid (w.grownBy w4 (some g)) := grown_below2 G1 hb4
    have O4 : Hid (Own w4 g n f) := O1.kept hb4 O1.1
    clear q1 G1 O1 hb4
    go_wp2
    go_end0
    exact ⟨rfl, G4.out, O4.out.congr HE.out⟩
  · have e1 : ∀ i, i < n → (if i = k then bits .xor .i64 (f k) (2 ^ q) else f i) = setF f k q on i := by
      intro j _
      by_cases e : j = k
      · subst e; simp [setF, hg]
      · simp [setF, e]
    have HE : Hid (∀ i, i < n → (if i = k then bits .xor .i64 (f k) (2 ^ q) else f i) = setF f k q on i) := e1
    have ht : getB (f k) q = !on := by cases h : getB (f k) q <;> cases on <;> simp_all
    have eb : (!((!on) == on)) = true := by cases on <;> rfl
    clear e1 hg
    have C1 := fun W h => l02Get_any b (some ⟨g, 0, none⟩) n cap k q f i W hn h h0 HK.out.1 HK.out.2 hk
    rw [ht] at C1
    have R1 : Hid (∀ W, Row W W.heap.size (some ⟨g, 0, none⟩) n f → Calls Try.prog 174 #[.agg #[.int .i64 b, .slice (some ⟨g, 0, none⟩) n cap], .int .i64 i] W fun e w' => e = .returned (.bool (!on)) ∧ Below W.heap.size W w') := C1
    clear C1 ht
    obtain ⟨P, hP, hP0, hP1⟩ := pow_bit q hq
    rw [hP] at HE
    have hw : wrap64 P = P := by unfold wrap64; omega
    have hwi : IntKind.i64.wrap P = P := by rw [IntKind.wrap_i64]; omega
    go_enter Try.func127, Try.ntmps127
    go_wp2_with fail
    have q1 := boxing w 45 b (some ⟨g, 0, none⟩) n cap
    have G1 : w.grownBy (w.alloc (.cells #[.int .i64 b, .slice (some ⟨g, 0, none⟩) n cap] 45)) (some g) := World.grownBy_alloc w _ _
    generalize w.alloc (.cells #[.int .i64 b, .slice (some ⟨g, 0, none⟩) n cap] 45) = v1 at *
    have O1 := HO.out.kept q1.1 hglt
    refine (R1.out _ (O1.row (by rw [q1.2.2]; omega))).mono ?_
    rintro e w4 ⟨rfl, hb4⟩
    have G4 : Hid (w.grownBy w4 (some g)) := grown_below2 G1 hb4
    have O4 : Hid (Own w4 g n f) := O1.kept hb4 O1.1
    have X4 := q1.2.1.kept hb4 rfl
    obtain ⟨ca0, ca1⟩ := X4.cells
    have l1 := X4.lt
    have cy := O4.out.2.1 k hk
    have cf := O4.out.2.2 k hk
    have lg := O4.out.1
    have hki : (k : Int) < (n : Int) := by omega
    have hk0 : (0 : Int) ≤ (k : Int) := by omega
    have hq0 : (0 : Int) ≤ (q : Int) := by omega
    have hq1 : (q : Int) < 32 := by omega
    obtain ⟨e1, e2⟩ := HK.out
    clear q1 G1 O1 hb4 X4
    go_wp2
    go_region
    all_goals
      go_wp2
      go_end0
      exact ⟨rfl, only_drawn (only_set G4.out), ((O4.out.set hk _).congr HE.out).drew⟩
end Go.Proofs.Ytlgnplnmcdjbiaa
namespace Go.Proofs.Ytlgnplnmcdjbiaa
open Go.RowKit

open Classical in
theorem specRightK_yes (t : ByteArray) (w : World) (hs : t.size ≤ maxLen) (h : RightC t) :
    Calls Try.prog 95 #[.string t] w fun e w' => e = .returned (.bool true) ∧ Below w.heap.size w w' := by
  refine (specRightC_any t w hs).mono ?_
  rintro e w' ⟨rfl, hb⟩
  exact ⟨by rw [decide_eq_true h], hb⟩
open Classical in
theorem specRightK_no (t : ByteArray) (w : World) (hs : t.size ≤ maxLen) (h : ¬ RightC t) :
    Calls Try.prog 95 #[.string t] w fun e w' => e = .returned (.bool false) ∧ Below w.heap.size w w' := by
  refine (specRightC_any t w hs).mono ?_
  rintro e w' ⟨rfl, hb⟩
  exact ⟨by rw [decide_eq_false h], hb⟩

open Classical in
set_option maxRecDepth 100000 in
set_option maxHeartbeats 4000000 in
theorem specKRight_any (sa : Option Addr) (n cap : Nat) (f : Nat → Cel) (w : World) (hn : n ≤ maxLen) (hr : CRow w w.heap.size sa n f) (hc : ∀ i, i < n → (f i).c.size ≤ maxLen) :
    Calls Try.prog 123 #[.slice sa n cap] w fun e w' => e = .returned (.bool (decide (CellsOk n f))) ∧ Below w.heap.size w w' := by
  unfold maxLen at hn
  have HC : Hid (∀ i, i < n → (f i).c.size ≤ maxLen) := hc
  have HR : Hid (CRow w w.heap.size sa n f) := hr
  clear hc hr
  by_cases h1 : (n : Int) < 1
  · rw [decide_eq_false (fun h : CellsOk n f => by have := h.1; omega)]
    go_enter Try.func123, Try.ntmps123
    go_wp2
    go_ret
    exact ⟨rfl, Below.refl _ _⟩
  by_cases h2 : 60 < (n : Int)
  · rw [decide_eq_false (fun h : CellsOk n f => by have := h.2.1; omega)]
    go_enter Try.func123, Try.ntmps123
    go_wp2
    go_ret
    exact ⟨rfl, Below.refl _ _⟩
  go_enter Try.func123, Try.ntmps123
  go_wp2
  go_loopw [3] (fun i wr => ∃ k : Nat, k ≤ n ∧ i = .int .i64 (k : Int) ∧ Below w.heap.size w wr ∧ ∀ i, i < k → CellOk (f i)) (fun i _ => n - (intOf i).toNat)
  case atStart => exact ⟨0, Nat.zero_le _, rfl, Below.refl _ _, fun i hi => by omega⟩
  case round =>
    obtain ⟨k, hk, rfl, hbel, hall⟩ := hrel
    have HB : Hid (Below w.heap.size w wr) := hbel
    have HA : Hid (∀ i, i < k → CellOk (f i)) := hall
    clear hall
    by_cases hkl : k < n
    · obtain ⟨bb, off, rfl, hbb, hat⟩ := HR.out.at hbel hkl
      obtain ⟨c0, c1, c2⟩ := hat
      have HK : Hid ((f k).c.size ≤ maxLen) := HC.out k hkl
      have hlt : bb < wr.heap.size := Nat.lt_of_lt_of_le hbb hbel.size
      clear hbel
      have hki : (k : Int) < (n : Int) := by omega
      have hk0 : (0 : Int) ≤ (k : Int) := by omega
      obtain ⟨⟨ac, al, am⟩, ha⟩ : ∃ a, f k = a := ⟨_, rfl⟩
      have HF : Hid (f k = ⟨ac, al, am⟩) := ha
      rw [ha] at c0 c1 c2 HK
      simp only at c0 c1 c2 HK
      clear ha
      have BAD : Hid (¬ CellOk ⟨ac, al, am⟩ → ¬ CellsOk n f) := fun h hp => h (by rw [← HF.out]; exact hp.2.2 k hkl)
      by_cases hcr : RightC ac
      · have HCR : Hid (RightC ac) := hcr
        clear hcr
        go_wp2_with fail
        refine (specRightK_yes ac _ HK.out HCR.out).mono ?_
        rintro e w1 ⟨rfl, hb1⟩
        have d0 : w1.cell? ⟨bb, off + k * 3, none⟩ = some (.string ac) := (hb1.cell (p := ⟨bb, off + k * 3, none⟩) hlt).trans c0
        have B1 : Hid (Below w.heap.size w w1) := HB.out.trans (hb1.mono HB.out.size)
        clear hb1 HB c0 c1 c2
        by_cases hce : 0 < ac.size
        · obtain ⟨hq1, hq2⟩ := someC hce
          have HAR : Hid (CellOk ⟨ac, al, am⟩) := ⟨HCR.out, hce⟩
          go_wp2_with fail
          go_roundw
          case rel => exact ⟨k + 1, by omega, by go_num, B1.out, stepCell HA.out (by rw [HF.out]; exact HAR.out)⟩
          case measure => simp [intOf]; omega
        · obtain ⟨hq1, hq2⟩ := noneC hce
          have HBAD : Hid (¬ CellsOk n f) := BAD.out (fun h => hce h.2)
          go_wp2_with fail
          go_ret
          exact ⟨by rw [decide_eq_false HBAD.out]; rfl, B1.out⟩
      · have HBAD : Hid (¬ CellsOk n f) := BAD.out (fun h => hcr h.1)
        have HCR : Hid (¬ RightC ac) := hcr
        clear hcr
        go_wp2_with fail
        refine (specRightK_no ac _ HK.out HCR.out).mono ?_
        rintro e w1 ⟨rfl, hb1⟩
        have B1 : Hid (Below w.heap.size w w1) := HB.out.trans (hb1.mono HB.out.size)
        clear hb1 HB c0 c1 c2
        go_wp2_with fail
        go_ret
        exact ⟨by rw [decide_eq_false HBAD.out]; rfl, B1.out⟩
    · have hki : ¬ (k : Int) < (n : Int) := by omega
      obtain rfl : k = n := by omega
      clear hbel
      have HE : Hid (CellsOk k f) := ⟨by omega, by omega, HA.out⟩
      go_wp2
      go_ret
      exact ⟨by rw [decide_eq_true HE.out]; rfl, HB.out⟩
end Go.Proofs.Ytlgnplnmcdjbiaa
namespace Go.Proofs.Ytlgnplnmcdjbiaa
open Go.RowKit

theorem has_found {t : ByteArray} {k b : Nat} (h : k < t.size) (hc : t[k].toNat = b) : hasByte t b = true := by
  unfold hasByte
  rw [List.any_eq_true]
  exact ⟨t.data.toList[k]'(by simpa using h), List.getElem_mem _, by rw [beq_iff_eq]; exact hc⟩
set_option maxRecDepth 100000 in
set_option maxHeartbeats 2000000 in
theorem l03Has_any (t : ByteArray) (b : Nat) (w : World) (hs : t.size ≤ maxLen) :
    Calls Try.prog 161 #[.string t, .int .u8 (b : Int)] w fun e w' => e = .returned (.bool (hasByte t b)) ∧ w' = w := by
  unfold maxLen at hs
  go_enter Try.func161, Try.ntmps161
  go_wp2
  go_loop [5] (fun i => ∃ k : Nat, k ≤ t.size ∧ i = .int .i64 (k : Int) ∧ hasUpTo t k b = false) (fun i => t.size - (intOf i).toNat)
  case atStart => exact ⟨0, Nat.zero_le _, rfl, hasUpTo_zero t b⟩
  case round =>
    obtain ⟨k, hk, rfl, hno⟩ := hrel
    have HN : Hid (hasUpTo t k b = false) := hno
    clear hno
    by_cases hlt : k < t.size
    · have hlt' : (k : Int) < (t.size : Int) := by omega
      have HS : Hid (hasUpTo t (k + 1) b = (hasUpTo t k b || (t[k].toNat == b))) := hasUpTo_succ t k b hlt
      by_cases hc : t[k].toNat = b
      · have HC : Hid (hasByte t b = true) := has_found hlt hc
        have hc' : ((t[k].toNat : Int) == (b : Int)) = true := by rw [hc]; simp
        clear hc
        go_wp2
        go_ret
        exact ⟨by rw [HC.out]; rfl, rfl⟩
      · have HC : Hid (hasUpTo t (k + 1) b = false) := by
          show hasUpTo t (k + 1) b = false
          rw [HS.out, HN.out]
          simp [hc]
        have hc' : ((t[k].toNat : Int) == (b : Int)) = false := by simp; omega
        clear hc
        go_wp2
        go_round
        case rel => exact ⟨k + 1, by omega, by go_num, HC.out⟩
        case measure => simp [intOf]; omega
    · have hge : ¬ (k : Int) < (t.size : Int) := by omega
      obtain rfl : k = t.size := by omega
      go_wp2
      go_ret
      exact ⟨by rw [← hasUpTo_all, HN.out]; rfl, rfl⟩
end Go.Proofs.Ytlgnplnmcdjbiaa
namespace Go.Proofs.Ytlgnplnmcdjbiaa
/-- A text that is not too long passes right cells. -/
def FitK (n : Nat) (f : Nat → Cel) (t : ByteArray) : Prop := t.size ≤ 8000 ∧ CellsOk n f ∧ runB f n t t.size n = true
theorem okSize {n : Nat} {f : Nat → Cel} (hs : ∀ i, i < n → RightC (f i).c → (f i).c.size ≤ 256) (h : CellsOk n f) : ∀ i, i < n → (f i).c.size ≤ 256 := fun i hi => hs i hi (h.2.2 i hi).1
theorem bit_of {x n : Nat} {P : Nat → Bool} (h : IsBits x P) : x / 2 ^ n % 2 = if P n = true then 1 else 0 := by
  have h2 := h.bit n
  rw [Nat.testBit_eq_decide_div_mod_eq] at h2
  by_cases h3 : x / 2 ^ n % 2 = 1
  · rw [decide_eq_true h3] at h2
    rw [if_pos h2.symm, h3]
  · rw [decide_eq_false h3] at h2
    rw [if_neg (by rw [← h2]; simp)]
    omega
theorem and_one64 {y : Nat} (h : y < 18446744073709551616) : bits .and .u64 (y : Int) 1 = ((y % 2 : Nat) : Int) := by
  have := and64 (a := y) (b := 1) h (by omega)
  rw [Nat.and_one_is_mod] at this
  exact this
end Go.Proofs.Ytlgnplnmcdjbiaa
namespace Go.Proofs.Ytlgnplnmcdjbiaa
open Go.RowKit

theorem bits_spec (sa : Option Addr) (n cap : Nat) (w : World) (hn : n ≤ 60) :
    Calls Try.prog 165 #[.slice sa n cap] w fun e w' => e = .returned (.int .i64 ((n : Int) + 1)) ∧ w' = w := by
  go_enter Try.func165, Try.ntmps165
  go_wp2
  go_ret
  exact ⟨rfl, rfl⟩
theorem CRow.keptV {w w' : World} {B k n : Nat} {sa : Option Addr} {f : Nat → Cel} (h : CRow w B sa n f) (hb : Below B w w') (hk : k < n) : ∃ bb off : Nat, sa = some ⟨bb, off, none⟩ ∧ bb < B ∧ CellAt w' bb (off + k * 3) (f k) := by
  rcases h with h | ⟨bb, off, h1, h2, h3⟩
  · omega
  · exact ⟨bb, off, h1, h2, (h3 k hk).kept hb h2⟩
theorem boxed_grownS {W W' : World} {b p : Nat} {t : TypeId} {x : Int} {sa : Option Addr} {n cap : Nat} (h : Boxed W p t x sa n cap) (hg : W.grownBy W' (some b)) (hne : p ≠ b) : Boxed W' p t x sa n cap := by
  unfold Boxed
  rw [hg.block p h.lt (fun e => hne (by injection e))]
  exact h
/-- Does a cell belong to what is asked? -/
def asksB (f : Nat → Cel) (c : Nat) (lp : Bool) : Nat → Bool := fun i => hasByte (f i).c c && (!lp || (f i).o)
theorem vecIs_yes {g : Nat → Int} {q : Nat → Bool} {k m i r : Nat} (h : VecIs g (behind q k) m) (hq : q k = true) (hi : i < m) (hr : r < 32) (e : 32 * i + r = k + 1) : VecIs (setF g i r true) (behind q (k + 1)) m :=
  (h.set hi hr).congr (fun j => by
    unfold behind
    rw [e]
    by_cases e1 : k + 1 = j
    · subst e1
      simp [hq]
    · rw [decide_eq_false e1, Bool.or_false]
      by_cases e2 : 1 ≤ j ∧ j ≤ k
      · rw [decide_eq_true e2, decide_eq_true (show 1 ≤ j ∧ j ≤ k + 1 by omega)]
      · rw [decide_eq_false e2, decide_eq_false (show ¬ (1 ≤ j ∧ j ≤ k + 1) by omega)])
theorem vecIs_no {g : Nat → Int} {q : Nat → Bool} {k m : Nat} (h : VecIs g (behind q k) m) (hq : q k = false) : VecIs g (behind q (k + 1)) m :=
  h.congr (fun j => by
    unfold behind
    by_cases e1 : k + 1 = j
    · subst e1
      simp [hq]
    · by_cases e2 : 1 ≤ j ∧ j ≤ k
      · rw [decide_eq_true e2, decide_eq_true (show 1 ≤ j ∧ j ≤ k + 1 by omega)]
      · rw [decide_eq_false e2, decide_eq_false (show ¬ (1 ≤ j ∧ j ≤ k + 1) by omega)])
set_option maxRecDepth 100000 in
set_option maxHeartbeats 4000000 in
theorem l06Byte_any (sa : Option Addr) (n cap c m x : Nat) (lp : Bool) (f : Nat → Cel) (w : World) (hn : n ≤ 60) (hr : CRow w w.heap.size sa n f) (hsz : ∀ i, i < n → (f i).c.size ≤ 256) (hc9 : c < 256) (hm : m = (n + 1 + 31) / 32) (hx : IsBits x (behind (asksB f c lp) n)) :
    Calls Try.prog 202 #[.slice sa n cap, .int .i64 (c : Int), .bool lp] w fun e w' => NewVec w ((n : Int) + 1) m (wordsN x) e w' := by
  have HR : Hid (CRow w w.heap.size sa n f) := hr
  have HSZ : Hid (∀ i, i < n → (f i).c.size ≤ 256) := hsz
  have HX : Hid (IsBits x (behind (asksB f c lp) n)) := hx
  have HM : Hid (m = (n + 1 + 31) / 32) := hm
  have hm1 : 1 ≤ m := by omega
  have hm2 : m ≤ 2 := by omega
  have hwc : IntKind.u8.wrap (c : Int) = (c : Int) := by rw [IntKind.wrap_u8]; omega
  have C := fun W => l02New_any ((n : Int) + 1) m W (by omega) (by omega) (by omega)
  have HC : Hid (∀ W, Calls Try.prog 192 #[.int .i64 ((n : Int) + 1)] W fun e w' => NewVec W ((n : Int) + 1) m (fun _ => 0) e w') := C
  clear hr hsz hx hm C
  go_enter Try.func202, Try.ntmps202
  go_wp2_with (first | (go_at_call 165; refine (bits_spec _ _ _ _ hn).mono ?_; rintro e w9 ⟨rfl, hw9⟩; rw [hw9]; clear hw9 w9))
  have q0 := boxing w 45 0 none 0 0
  generalize w.alloc (.cells #[.int .i64 0, .slice none 0 0] 45) = v0 at *
  refine (HC.out v0).mono ?_
  rintro e w1 ⟨s1, c1, rfl, hb1, ho1⟩
  unfold vecV
  have X0 : Hid (Boxed w1 w.heap.size 45 0 none 0 0) := q0.2.1.kept hb1 rfl
  have S1 : Hid (Since w w1) := since_call (since_call (since_refl _) q0.1) hb1
  obtain ⟨g, rfl, hgl, ho⟩ : ∃ g, s1 = some ⟨g, 0, none⟩ ∧ v0.heap.size ≤ g ∧ Own w1 g m (fun _ => 0) := by
    rcases ho1 with h | h
    · omega
    · exact h
  have O1 : Hid (Own w1 g m (fun _ => 0)) := ho
  have hg0 : w.heap.size < g := by have := q0.2.2; omega
  have hg1 := ho.1
  have q2 := boxing w1 45 ((n : Int) + 1) (some ⟨g, 0, none⟩) m c1
  clear q0 hb1 ho1 ho hgl
  go_wp2_with fail
  generalize w1.alloc (.cells #[.int .i64 ((n : Int) + 1), .slice (some ⟨g, 0, none⟩) m c1] 45) = v2 at *
  have X2 : Hid (Boxed v2 w.heap.size 45 0 none 0 0) := X0.out.kept q2.1 rfl
  have Y2 : Hid (Boxed v2 w1.heap.size 45 ((n : Int) + 1) (some ⟨g, 0, none⟩) m c1) := q2.2.1
  have S2 : Hid (Since w v2) := since_call S1.out q2.1
  have O2 : Hid (Own v2 g m (fun _ => 0)) := O1.out.kept q2.1 hg1
  clear q2 X0 S1 O1
  generalize w1.heap.size = p at *
  go_loopw [8] (fun iv wr => ∃ (k : Nat) (h : Nat → Int), k ≤ n ∧ iv = .int .i64 (k : Int) ∧ Boxed wr w.heap.size 45 0 none 0 0 ∧ Boxed wr p 45 ((n : Int) + 1) (some ⟨g, 0, none⟩) m c1 ∧ Since w wr ∧ Own wr g m h ∧ VecIs h (behind (asksB f c lp) k) m) (fun iv _ => n - (intOf iv).toNat)
  case atStart => exact ⟨0, _, Nat.zero_le _, rfl, X2.out, Y2.out, S2.out, O2.out, (vecIs_zero m).congr (fun j => by unfold behind; rw [decide_eq_false (by omega)]; rfl)⟩
  case round =>
    obtain ⟨k, h, hk, rfl, hX, hY, hS, hO, hV⟩ := hrel
    have HXB : Hid (Boxed wr w.heap.size 45 0 none 0 0) := hX
    have HY : Hid (Boxed wr p 45 ((n : Int) + 1) (some ⟨g, 0, none⟩) m c1) := hY
    have HS : Hid (Since w wr) := hS
    have HO : Hid (Own wr g m h) := hO
    have HV : Hid (VecIs h (behind (asksB f c lp) k) m) := hV
    obtain ⟨y0, y1⟩ := hY.cells
    have ylt := hY.lt
    by_cases hkl : k < n
    · obtain ⟨bb, off, rfl, hbb, hat⟩ := HR.out.keptV hS.below hkl
      obtain ⟨c0, d1, d2⟩ := hat
      have hki : (k : Int) < (n : Int) := by omega
      have hk0 : (0 : Int) ≤ (k : Int) := by omega
      have hsz9 := HSZ.out k hkl
      obtain ⟨⟨ac, al, am⟩, ha⟩ : ∃ a, f k = a := ⟨_, rfl⟩
      rw [ha] at c0 d1 d2 hsz9
      simp only at c0 d1 d2 hsz9
      have hak : asksB f c lp k = (hasByte ac c && (!lp || am)) := by unfold asksB; rw [ha]
      have HAS := fun W => l03Has_any ac c W (Nat.le_trans hsz9 (by unfold maxLen; omega))
      obtain ⟨i9, hi9⟩ : ∃ i9, (k + 1) / 32 = i9 := ⟨_, rfl⟩
      obtain ⟨r9, hr9⟩ : ∃ r9, (k + 1) % 32 = r9 := ⟨_, rfl⟩
      have him : i9 < m := by have := HM.out; omega
      have hrm : r9 < 32 := by omega
      have hmi : (m : Nat) ≤ 1048576 := by omega
      have CS := l02Set_any ((n : Int) + 1) g m c1 i9 r9 h ((k : Int) + 1) true wr hmi hO (by omega) (by omega) (by omega) him hrm
      have YES : Hid ((hasByte ac c && (!lp || am)) = true → VecIs (setF h i9 r9 true) (behind (asksB f c lp) (k + 1)) m) := fun hy => vecIs_yes HV.out (by rw [hak]; exact hy) him hrm (by omega)
      have NO : Hid ((hasByte ac c && (!lp || am)) = false → VecIs h (behind (asksB f c lp) (k + 1)) m) := fun hy => vecIs_no HV.out (by rw [hak]; exact hy)
      have hgp : g ≠ p := by omega
      clear hX hY hS hO hV ha hak hi9 hr9
      cases hb : hasByte ac c with
      | false =>
        rw [hb] at YES NO HAS
        have N2 := NO.out rfl
        clear hb YES NO CS
        go_wp2_with (first | (go_at_call 161; refine (HAS _).mono ?_; rintro e w9 ⟨rfl, hw9⟩; rw [hw9]; clear hw9 w9))
        go_roundw
        case rel => exact ⟨k + 1, h, by omega, by go_num, HXB.out, HY.out, HS.out, HO.out, N2⟩
        case measure => simp [intOf]; omega
      | true =>
        rw [hb] at YES NO HAS
        clear hb
        by_cases hg : (!lp || am) = true
        · have Y2' := YES.out (by rw [hg]; rfl)
          have hga : lp = false ∨ (lp = true ∧ am = true) := by cases lp <;> cases am <;> simp_all
          have KEEP : Hid (∀ w9, wr.grownBy w9 (some g) → Boxed w9 w.heap.size 45 0 none 0 0 ∧ Boxed w9 p 45 ((n : Int) + 1) (some ⟨g, 0, none⟩) m c1 ∧ Since w w9) := fun w9 hg9 => ⟨boxed_grownS HXB.out hg9 (by omega), boxed_grownS HY.out hg9 (by omega), ⟨HS.out.below.trans ⟨hg9.os, hg9.tape, hg9.output, hg9.size, fun j hj => hg9.block j (Nat.lt_of_lt_of_le hj HS.out.size) (fun e => by injection e with e; omega)⟩⟩⟩
          clear YES NO hg
          rcases hga with rfl | ⟨rfl, rfl⟩
          · go_wp2_with (first | (go_at_call 161; refine (HAS _).mono ?_; rintro e w9 ⟨rfl, hw9⟩; rw [hw9]; clear hw9 w9) | (go_at_call 127; refine CS.mono ?_; rintro e w9 ⟨rfl, hg9, ho9⟩; have K9 : Hid (Boxed w9 w.heap.size 45 0 none 0 0 ∧ Boxed w9 p 45 ((n : Int) + 1) (some ⟨g, 0, none⟩) m c1 ∧ Since w w9) := KEEP.out w9 hg9; have O9 : Hid (Own w9 g m (setF h i9 r9 true)) := ho9; clear hg9 ho9))
            go_roundw
            case rel => exact ⟨k + 1, _, by omega, by go_num, K9.out.1, K9.out.2.1, K9.out.2.2, O9.out, Y2'⟩
            case measure => simp [intOf]; omega
          · go_wp2_with (first | (go_at_call 161; refine (HAS _).mono ?_; rintro e w9 ⟨rfl, hw9⟩; rw [hw9]; clear hw9 w9) | (go_at_call 127; refine CS.mono ?_; rintro e w9 ⟨rfl, hg9, ho9⟩; have K9 : Hid (Boxed w9 w.heap.size 45 0 none 0 0 ∧ Boxed w9 p 45 ((n : Int) + 1) (some ⟨g, 0, none⟩) m c1 ∧ Since w w9) := KEEP.out w9 hg9; have O9 : Hid (Own w9 g m (setF h i9 r9 true)) := ho9; clear hg9 ho9))
            go_roundw
            case rel => exact ⟨k + 1, _, by omega, by go_num, K9.out.1, K9.out.2.1, K9.out.2.2, O9.out, Y2'⟩
            case measure => simp [intOf]; omega
        · have hg2 : (!lp || am) = false := by simpa using hg
          have N2 := NO.out (by rw [hg2]; rfl)
          obtain ⟨rfl, rfl⟩ : lp = true ∧ am = false := by cases lp <;> cases am <;> simp_all
          clear YES NO CS hg hg2
          go_wp2_with (first | (go_at_call 161; refine (HAS _).mono ?_; rintro e w9 ⟨rfl, hw9⟩; rw [hw9]; clear hw9 w9))
          go_roundw
          case rel => exact ⟨k + 1, h, by omega, by go_num, HXB.out, HY.out, HS.out, HO.out, N2⟩
          case measure => simp [intOf]; omega
    · have hki : ¬ (k : Int) < (n : Int) := by omega
      obtain rfl : k = n := by omega
      obtain ⟨a0, a1, a2, a3⟩ := hX.four
      have xlt := hX.lt
      have hne1 : w.heap.size ≠ p := by omega
      have HO2 : Hid (Own wr g m (wordsN x)) := hO.congr (fun i hi => hV.uniq (vecIs_words HX.out m) i hi)
      clear hX hY hS hO hV
      go_wp2_with fail
      refine bodyPost_ret (v := vecV ((k : Int) + 1) (some ⟨g, 0, none⟩) m c1) (by simp [results, Try.results202, go_sem, vecV, a0, a1]) rfl ?_
      exact ⟨_, _, rfl, (since_set (since_set HS.out (by show w.heap.size ≤ w.heap.size; omega)) (by show w.heap.size ≤ w.heap.size; omega)).below, Or.inr ⟨g, rfl, by omega, (HO2.out.setOther _ _ (by show w.heap.size ≠ g; omega)).setOther _ _ (by show w.heap.size ≠ g; omega)⟩⟩
end Go.Proofs.Ytlgnplnmcdjbiaa
namespace Go.Proofs.Ytlgnplnmcdjbiaa
open Go.RowKit

set_option maxRecDepth 100000 in
set_option maxHeartbeats 4000000 in
theorem specMasks_no (sa : Option Addr) (n cap : Nat) (f : Nat → Cel) (w : World) (hn : n ≤ maxLen) (hr : CRow w w.heap.size sa n f) (hc : ∀ i, i < n → (f i).c.size ≤ maxLen) (h : ¬ CellsOk n f) :
    Calls Try.prog 103 #[.slice sa n cap] w fun e w' => NewMasks w 0 0 (fun _ _ => 0) e w' := by
  have q0 := mboxing w 0 (fun _ => none) 0 (fun _ => 0)
  have C := specKRight_any sa n cap f (w.alloc (.cells #[.int .i64 0, .slice none 0 0, .int .i64 0, .slice none 0 0, .int .i64 0, .slice none 0 0, .int .i64 0, .slice none 0 0, .int .i64 0, .slice none 0 0] 50)) hn ((hr.kept q0.1).up q0.1.size) hc
  simp only [h, decide_false] at C
  clear hn hr hc h
  go_enter Try.func103, Try.ntmps103
  go_wp2_with fail
  generalize w.alloc (.cells #[.int .i64 0, .slice none 0 0, .int .i64 0, .slice none 0 0, .int .i64 0, .slice none 0 0, .int .i64 0, .slice none 0 0, .int .i64 0, .slice none 0 0] 50) = v0 at *
  refine C.mono ?_
  rintro e w1 ⟨rfl, hb1⟩
  obtain ⟨a0, a1, a2, a3, a4, a5, a6, a7, a8, a9⟩ := (q0.2.1.kept hb1 rfl).cells
  obtain ⟨f0, f1, f2, f3, f4, f5, f6, f7, f8, f9⟩ := (q0.2.1.kept hb1 rfl).free
  have S1 : Hid (Since w w1) := since_call (since_call (since_refl _) q0.1) hb1
  have l1 : w.heap.size < w1.heap.size := (q0.2.1.kept hb1 rfl).lt
  clear C hb1 q0
  go_wp2_with fail
  refine bodyPost_ret (v := masksV 0 (fun _ => none) 0 (fun _ => 0)) (by simp [results, Try.results103, go_sem, masksV, a0, a1, a2, a3, a4, a5, a6, a7, a8, a9]) rfl ?_
  refine ⟨_, _, fun _ => w.heap.size, rfl, ?_, ⟨Or.inl rfl, Or.inl rfl, Or.inl rfl, Or.inl rfl, Or.inl rfl, by omega⟩, Nat.le_refl _, ?_⟩
  · have hs := S1.out
    repeat (refine Since.below ?_)
    iterate 10 (refine since_set ?_ (by show w.heap.size ≤ w.heap.size; omega))
    exact hs
  · simp [World.setCell]; omega
theorem OnlyM.setS {W W' : World} {lo hi : Nat} {p : Addr} {v : Value} (h : OnlyM W W' lo hi) (h1 : lo ≤ p.block) (h2 : p.block < hi) : OnlyM W (W'.setCell p v) lo hi :=
  ⟨h.os, h.tape, h.output, by simpa [World.setCell] using h.size, fun k hk hd => by rw [Below.heap_setCell _ _ _ _ (fun e => by omega)]; exact h.block k hk hd⟩
set_option maxRecDepth 100000 in
set_option maxHeartbeats 4000000 in
theorem specMasks_yes (sa : Option Addr) (n cap m : Nat) (f : Nat → Cel) (F : Nat → Nat → Int) (w : World) (hn : n ≤ maxLen) (hr : CRow w w.heap.size sa n f) (hc : ∀ i, i < n → (f i).c.size ≤ maxLen) (h : CellsOk n f)
    (hM : ∀ W, CRow W W.heap.size sa n f → Calls Try.prog 172 #[.slice sa n cap] W fun e W' => NewMasks W ((n : Int) + 1) m F e W') :
    Calls Try.prog 103 #[.slice sa n cap] w fun e w' => NewMasks w ((n : Int) + 1) m F e w' := by
  have q0 := mboxing w 0 (fun _ => none) 0 (fun _ => 0)
  have C := specKRight_any sa n cap f (w.alloc (.cells #[.int .i64 0, .slice none 0 0, .int .i64 0, .slice none 0 0, .int .i64 0, .slice none 0 0, .int .i64 0, .slice none 0 0, .int .i64 0, .slice none 0 0] 50)) hn ((hr.kept q0.1).up q0.1.size) hc
  simp only [h, decide_true] at C
  have HR : Hid (CRow w w.heap.size sa n f) := hr
  have HM : Hid (∀ W, CRow W W.heap.size sa n f → Calls Try.prog 172 #[.slice sa n cap] W fun e W' => NewMasks W ((n : Int) + 1) m F e W') := hM
  clear hn hr hc h hM
  go_enter Try.func103, Try.ntmps103
  go_wp2_with fail
  generalize w.alloc (.cells #[.int .i64 0, .slice none 0 0, .int .i64 0, .slice none 0 0, .int .i64 0, .slice none 0 0, .int .i64 0, .slice none 0 0, .int .i64 0, .slice none 0 0] 50) = v0 at *
  refine C.mono ?_
  rintro e w1 ⟨rfl, hb1⟩
  have X1 : Hid (MBox w1 w.heap.size 0 (fun _ => none) 0 (fun _ => 0)) := q0.2.1.kept hb1 rfl
  have S1 : Hid (Since w w1) := since_call (since_call (since_refl _) q0.1) hb1
  have R1 : Hid (CRow w1 w1.heap.size sa n f) := (HR.out.kept S1.out.below).up S1.out.below.size
  clear C hb1 q0
  go_wp2_with fail
  refine (HM.out w1 R1.out).mono ?_
  rintro e w2 ⟨s, c, h, rfl, hb2, hms, hl0, hl5⟩
  unfold masksV
  obtain ⟨a0, a1, a2, a3, a4, a5, a6, a7, a8, a9⟩ := (X1.out.kept hb2 rfl).cells
  obtain ⟨f0, f1, f2, f3, f4, f5, f6, f7, f8, f9⟩ := (X1.out.kept hb2 rfl).free
  have S2 : Hid (Since w w2) := since_call S1.out hb2
  have l1 : w.heap.size < w1.heap.size := X1.out.lt
  have l2 : w.heap.size < w2.heap.size := Nat.lt_of_lt_of_le l1 hb2.size
  have HMS : Hid (MSl w2 h s m F) := hms
  clear hb2 hms
  go_wp2_with fail
  refine bodyPost_ret (v := masksV ((n : Int) + 1) s m c) (by simp [results, Try.results103, go_sem, masksV, a0, a1, a2, a3, a4, a5, a6, a7, a8, a9]) rfl ?_
  refine ⟨s, c, h, rfl, ?_, HMS.out.onlyM (lo := w.heap.size) (hi := w.heap.size + 1) ?_ (Or.inr (by omega)), by omega, ?_⟩
  · have hs := S2.out
    refine Since.below ?_
    iterate 10 (refine since_set ?_ (by show w.heap.size ≤ w.heap.size; omega))
    exact hs
  · iterate 10 (refine OnlyM.setS ?_ (Nat.le_refl _) (Nat.lt_succ_self _))
    exact OnlyM.refl _ _ _
  · simp [World.setCell]; omega
end Go.Proofs.Ytlgnplnmcdjbiaa
