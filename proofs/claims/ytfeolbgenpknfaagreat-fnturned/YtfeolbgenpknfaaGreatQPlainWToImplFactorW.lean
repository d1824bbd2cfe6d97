/- What is proved here: Plain, the program's and the specification's, says whether a row is right and none of its cells is passed by or again; nothing that was there turns.
   What is proved here: the specification's IsFactor and BorderOf say what a factor and what the border is; nothing that was there turns.
   What is proved here: the program's IsFactor and BorderOf say what a factor and what the border is; nothing that was there turns. -/
import Derived.Test.YtfeolbgenpknfaaGreatQSetOfWToFillM
import Derived.Test.YtfeolbgenpknfaaGreatQSpecKRightWToIsW
import Derived.Deep.QuietTactic
import Derived.BigQuiet
import Derived.Test.YtfeolbgenpknfaaGreatQIntRowWToSpecGoesW
import Derived.Test.YtfeolbgenpknfaaGreatQLookFW
namespace Go.Proofs.YtfeolbgenpknfaaGreat
open Go.RowKit

/-- A row is plain. -/
def PlainP (n : Nat) (f : Nat → Cel) : Prop := CellsOk n f ∧ ∀ i, i < n → (f i).k = false ∧ (f i).o = false
theorem plain_bits {n sk lo : Nat} {f : Nat → Cel} (h : CellsOk n f) (h1 : IsBits sk (behind (fun i => (f i).k) n)) (h2 : IsBits lo (behind (fun i => (f i).o) n)) : sk ||| lo = 0 ↔ PlainP n f := by
  rw [(h1.or h2).none]
  constructor
  · intro h3
    refine ⟨h, fun i hi => ?_⟩
    have h4 := h3 (i + 1)
    unfold behind at h4
    rw [decide_eq_true (show 1 ≤ i + 1 ∧ i + 1 ≤ n by omega)] at h4
    simpa using h4
  · rintro ⟨_, h3⟩ j
    unfold behind
    by_cases e : 1 ≤ j ∧ j ≤ n
    · rw [decide_eq_true e]
      have h4 := h3 (j - 1) (by omega)
      simp [h4.1, h4.2]
    · rw [decide_eq_false e]
      rfl
theorem below_drewK {a w : World} {B : Nat} (n : Nat) (h : Below B a w) : Below B a (w.drewN n) := ⟨h.os, h.tape, h.output, h.size, h.block⟩
open Classical in
set_option maxRecDepth 100000 in
set_option maxHeartbeats 2000000 in
theorem implPlain_any (sa : Option Addr) (n cap : Nat) (f : Nat → Cel) (w : World) (hn : n ≤ maxLen) (hr : CRow w w.heap.size sa n f) (hc : ∀ i, i < n → (f i).c.size ≤ maxLen) :
    Calls Tryz.prog 66 #[.slice sa n cap] w fun e w' => e = .returned (.bool (decide (PlainP n f))) ∧ Below w.heap.size w w' := by
  by_cases h : CellsOk n f
  · have C := rowOf_yes sa n cap f w hn hr hc h
    have HC : Hid (CellsOk n f) := h
    clear hn hr hc h
    go_enter Tryz.func66, Tryz.ntmps66
    go_wp2_with fail
    refine C.mono ?_
    rintro e w1 ⟨b, sk, lo, rfl, _, hb1, hsk, hlo, hrow⟩
    have B1 : Hid (Below w.heap.size w w1) := hb1
    have hiff := plain_bits HC.out hsk hlo
    have hor := or64 hsk.lt hlo.lt
    have c1 := hrow.c1
    have c2 := hrow.c2
    have hlt := hrow.lt
    clear hb1 C hsk hlo hrow
    generalize sk ||| lo = z at *
    by_cases hz : z = 0
    · have hzb : ((z : Int) == 0) = true := by simpa using hz
      have HY : Hid (PlainP n f) := hiff.1 hz
      clear hz hiff
      go_wp2_with fail
      go_quiet (fail)
      go_wp2_with fail
      go_ret
      exact ⟨by rw [decide_eq_true HY.out]; rfl, below_drewK _ B1.out⟩
    · have hzb : ((z : Int) == 0) = false := by simpa using hz
      have HY : Hid (¬ PlainP n f) := fun h => hz (hiff.2 h)
      clear hz hiff
      go_wp2_with fail
      go_quiet (fail)
      go_wp2_with fail
      go_ret
      exact ⟨by rw [decide_eq_false HY.out]; rfl, below_drewK _ B1.out⟩
  · have C := rowOf_no sa n cap f w hn hr hc h
    have hno : ¬ PlainP n f := fun hp => h hp.1
    rw [decide_eq_false hno]
    clear hn hr hc h hno
    go_enter Tryz.func66, Tryz.ntmps66
    go_wp2_with fail
    refine C.mono ?_
    rintro e w1 ⟨rfl, hb1⟩
    have B1 : Hid (Below w.heap.size w w1) := hb1
    clear hb1 C
    go_wp2_with fail
    go_quiet (fail)
    go_wp2_with fail
    go_ret
    exact ⟨rfl, below_drewK _ B1.out⟩
open Classical in
set_option maxRecDepth 100000 in
set_option maxHeartbeats 2000000 in
theorem specPlain_any (sa : Option Addr) (n cap : Nat) (f : Nat → Cel) (w : World) (hn : n ≤ maxLen) (hr : CRow w w.heap.size sa n f) (hc : ∀ i, i < n → (f i).c.size ≤ maxLen) :
    Calls Tryz.prog 28 #[.slice sa n cap] w fun e w' => e = .returned (.bool (decide (PlainP n f))) ∧ Below w.heap.size w w' := by
  have C := specKRight_any sa n cap f w hn hr hc
  have HR : Hid (CRow w w.heap.size sa n f) := hr
  unfold maxLen at hn
  clear hr hc
  go_enter Tryz.func28, Tryz.ntmps28
  go_wp2_with fail
  go_loopw [3] (fun i wr => ∃ k : Nat, k ≤ n ∧ i = .int .i64 (k : Int) ∧ wr = w ∧ ∀ i, i < k → (f i).k = false ∧ (f i).o = false) (fun i _ => n - (intOf i).toNat)
  case atStart => exact ⟨0, Nat.zero_le _, rfl, rfl, fun i hi => by omega⟩
  case round =>
    obtain ⟨k, hk, rfl, rfl, hall⟩ := hrel
    have HA : Hid (∀ i, i < k → (f i).k = false ∧ (f i).o = false) := hall
    clear hall
    by_cases hkl : k < n
    · obtain ⟨bb, off, rfl, hbb, hat⟩ := HR.out.at (Below.refl _ _) hkl
      obtain ⟨c0, c1, c2⟩ := hat
      have hki : (k : Int) < (n : Int) := by omega
      have hk0 : (0 : Int) ≤ (k : Int) := by omega
      obtain ⟨⟨ac, al, am⟩, ha⟩ : ∃ a, f k = a := ⟨_, rfl⟩
      have HF : Hid (f k = ⟨ac, al, am⟩) := ha
      rw [ha] at c0 c1 c2
      simp only at c0 c1 c2
      clear ha
      have BAD : Hid (¬ (al = false ∧ am = false) → ¬ PlainP n f) := fun h hp => h (by have h9 := hp.2 k hkl; rw [HF.out] at h9; exact h9)
      cases al with
      | true =>
        have HBAD : Hid (¬ PlainP n f) := BAD.out (by simp)
        clear BAD
        go_wp2_with fail
        go_ret
        exact ⟨by rw [decide_eq_false HBAD.out]; rfl, Below.refl _ _⟩
      | false =>
        cases am with
        | true =>
          have HBAD : Hid (¬ PlainP n f) := BAD.out (by simp)
          clear BAD
          go_wp2_with fail
          go_ret
          exact ⟨by rw [decide_eq_false HBAD.out]; rfl, Below.refl _ _⟩
        | false =>
          have HA2 : Hid (∀ i, i < k + 1 → (f i).k = false ∧ (f i).o = false) := fun i hi => by
            by_cases e : i = k
            · subst e; rw [HF.out]; exact ⟨rfl, rfl⟩
            · exact HA.out i (by omega)
          clear BAD
          go_wp2_with fail
          go_roundw
          case rel => exact ⟨k + 1, by omega, by go_num, trivial, HA2.out⟩
          case measure => simp [intOf]; omega
    · have hki : ¬ (k : Int) < (n : Int) := by omega
      obtain rfl : k = n := by omega
      have HE : Hid (decide (CellsOk k f) = decide (PlainP k f)) := by
        show decide (CellsOk k f) = decide (PlainP k f)
        rw [decide_eq_decide]
        exact ⟨fun h => ⟨h, HA.out⟩, fun h => h.1⟩
      obtain ⟨d, hd⟩ : ∃ d, decide (PlainP k f) = d := ⟨_, rfl⟩
      have HD : Hid (decide (PlainP k f) = d) := hd
      rw [HE.out, hd] at C
      clear hd
      go_wp2_with fail
      refine C.mono ?_
      rintro e w1 ⟨rfl, hb1⟩
      have B1 : Hid (Below wr.heap.size wr w1) := hb1
      clear hb1 C
      go_wp2_with fail
      go_ret
      exact ⟨by rw [HD.out]; rfl, B1.out⟩
end Go.Proofs.YtfeolbgenpknfaaGreat
namespace Go.Proofs.YtfeolbgenpknfaaGreat
open Go.RowKit

/-- The cells are plain and the text is a factor. -/
def FactorP (n : Nat) (f : Nat → Cel) (t : ByteArray) : Prop := t.size ≤ 8000 ∧ PlainP n f ∧ SomeS n f t t.size
theorem cels_max {n : Nat} {f : Nat → Cel} (h : CellsOk n f) : ∀ i, i < n → (f i).c.size ≤ 256 := fun i hi => right_size (h.2.2 i hi).1
open Classical in
set_option maxHeartbeats 2000000 in
theorem specFactor_any (sa : Option Addr) (n cap : Nat) (f : Nat → Cel) (t : ByteArray) (w : World) (hn : n ≤ maxLen) (hr : CRow w w.heap.size sa n f) (hc : ∀ i, i < n → (f i).c.size ≤ maxLen) (ht : t.size ≤ maxLen) :
    Calls Tryz.prog 20 #[.slice sa n cap, .string t] w fun e w' => e = .returned (.bool (decide (FactorP n f t))) ∧ Below w.heap.size w w' := by
  unfold maxLen at ht
  by_cases h8 : t.size ≤ 8000
  case neg =>
    have hti : ¬ (t.size : Int) ≤ 8000 := by omega
    have hF : Hid (decide (FactorP n f t) = false) := decide_eq_false (fun h => h8 h.1)
    clear hr hc
    go_enter Tryz.func20, Tryz.ntmps20
    go_wp2_with fail
    go_ret
    exact ⟨by rw [hF.out]; rfl, Below.refl _ _⟩
  have hti : (t.size : Int) ≤ 8000 := by omega
  have CP := specPlain_any sa n cap f w hn hr hc
  by_cases hP : PlainP n f
  case neg =>
    rw [decide_eq_false hP] at CP
    have hF : Hid (decide (FactorP n f t) = false) := decide_eq_false (fun h => hP h.2.1)
    clear hr hc
    go_enter Tryz.func20, Tryz.ntmps20
    go_wp2_with fail
    refine CP.mono ?_
    rintro e w1 ⟨rfl, hb⟩
    have HB : Hid (Below w.heap.size w w1) := hb
    clear hb CP
    go_wp2_with fail
    go_ret
    exact ⟨by rw [hF.out]; rfl, HB.out⟩
  rw [decide_eq_true hP] at CP
  have HFA : Hid (∀ W, Below w.heap.size w W → Calls Tryz.prog 55 #[.slice sa n cap, .string t] W fun e w' => e = .returned (.bool (decide (SomeS n f t t.size))) ∧ Below W.heap.size W w') := fun W hW => l09Factor_any sa n cap f t W hP.1.2.1 h8 ((hr.kept hW).up hW.size) (cels_max hP.1)
  have hD : Hid (decide (FactorP n f t) = decide (SomeS n f t t.size)) := decide_eq_decide.2 ⟨fun h => h.2.2, fun h => ⟨h8, hP, h⟩⟩
  obtain ⟨y, hy⟩ : ∃ y, decide (SomeS n f t t.size) = y := ⟨_, rfl⟩
  rw [hy] at HFA hD
  clear hr hc hy
  go_enter Tryz.func20, Tryz.ntmps20
  go_wp2_with fail
  refine CP.mono ?_
  rintro e w1 ⟨rfl, hb⟩
  have HB : Hid (Below w.heap.size w w1) := hb
  clear hb CP
  go_wp2_with fail
  refine (HFA.out w1 HB.out).mono ?_
  rintro e w2 ⟨rfl, hb⟩
  have HB2 : Hid (Below w.heap.size w w2) := HB.out.trans (hb.mono HB.out.size)
  clear hb
  go_wp2_with fail
  go_ret
  exact ⟨by rw [hD.out]; rfl, HB2.out⟩
/-- What BorderOf tells: a number. -/
def BorderN (n : Nat) (f : Nat → Cel) (t : ByteArray) (b : Nat) : Prop := ((t.size ≤ 8000 ∧ PlainP n f) → IsBorder n f t b) ∧ (¬ (t.size ≤ 8000 ∧ PlainP n f) → b = 0)
theorem borderN_one {n : Nat} {f : Nat → Cel} {t : ByteArray} {b c : Nat} (h : BorderN n f t b) (h' : BorderN n f t c) : b = c := by
  by_cases hh : t.size ≤ 8000 ∧ PlainP n f
  · exact border_one (h.1 hh) (h'.1 hh)
  · rw [h.2 hh, h'.2 hh]
open Classical in
set_option maxHeartbeats 2000000 in
theorem specBorder_any (sa : Option Addr) (n cap : Nat) (f : Nat → Cel) (t : ByteArray) (w : World) (hn : n ≤ maxLen) (hr : CRow w w.heap.size sa n f) (hc : ∀ i, i < n → (f i).c.size ≤ maxLen) (ht : t.size ≤ maxLen) :
    Calls Tryz.prog 27 #[.slice sa n cap, .string t] w fun e w' => (∃ b : Nat, e = .returned (.int .i64 (b : Int)) ∧ BorderN n f t b) ∧ Below w.heap.size w w' := by
  unfold maxLen at ht
  by_cases h8 : t.size ≤ 8000
  case neg =>
    have hti : (8000 : Int) < (t.size : Int) := by omega
    have hF : Hid (BorderN n f t 0) := ⟨fun h => absurd h.1 h8, fun _ => rfl⟩
    clear hr hc
    go_enter Tryz.func27, Tryz.ntmps27
    go_wp2_with fail
    go_ret
    exact ⟨⟨0, rfl, hF.out⟩, Below.refl _ _⟩
  have hti : ¬ (8000 : Int) < (t.size : Int) := by omega
  have CP := specPlain_any sa n cap f w hn hr hc
  by_cases hP : PlainP n f
  case neg =>
    rw [decide_eq_false hP] at CP
    have hF : Hid (BorderN n f t 0) := ⟨fun h => absurd h.2 hP, fun _ => rfl⟩
    clear hr hc
    go_enter Tryz.func27, Tryz.ntmps27
    go_wp2_with fail
    refine CP.mono ?_
    rintro e w1 ⟨rfl, hb⟩
    have HB : Hid (Below w.heap.size w w1) := hb
    clear hb CP
    go_wp2_with fail
    go_ret
    exact ⟨⟨0, rfl, hF.out⟩, HB.out⟩
  rw [decide_eq_true hP] at CP
  have HFA : Hid (∀ W, Below w.heap.size w W → Calls Tryz.prog 58 #[.slice sa n cap, .string t] W fun e w' => (∃ b : Nat, e = .returned (.int .i64 (b : Int)) ∧ b < n ∧ IsBorder n f t b) ∧ Below W.heap.size W w') := fun W hW => l09Border_any sa n cap f t W hP.1.1 hP.1.2.1 h8 ((hr.kept hW).up hW.size) (cels_max hP.1)
  clear hr hc
  go_enter Tryz.func27, Tryz.ntmps27
  go_wp2_with fail
  refine CP.mono ?_
  rintro e w1 ⟨rfl, hb⟩
  have HB : Hid (Below w.heap.size w w1) := hb
  clear hb CP
  go_wp2_with fail
  refine (HFA.out w1 HB.out).mono ?_
  rintro e w2 ⟨⟨b, rfl, _, hbd⟩, hb⟩
  have HB2 : Hid (Below w.heap.size w w2) := HB.out.trans (hb.mono HB.out.size)
  have HD : Hid (BorderN n f t b) := ⟨fun _ => hbd, fun h => absurd ⟨h8, hP⟩ h⟩
  clear hb hbd
  go_wp2_with fail
  go_ret
  exact ⟨⟨b, rfl, HD.out⟩, HB2.out⟩
end Go.Proofs.YtfeolbgenpknfaaGreat
namespace Go.Proofs.YtfeolbgenpknfaaGreat
open Go.RowKit

/-- A row that is looked at from behind, in new memory. -/
def NewBack (w w' : World) (pr br : Nat) (sa : Option Addr) (n cap : Nat) (f : Nat → Cel) : Prop := ∃ sk lo : Nat, w.heap.size ≤ br ∧ pr < w'.heap.size ∧ Below w.heap.size w w' ∧ BackAt w' pr br sa n cap sk lo f
theorem back_new {w1 : World} {br sk lo : Nat} {sa : Option Addr} {n cap : Nat} {f : Nat → Cel} (ty : TypeId) (hk : KRow w1 br sa n cap sk lo 0 0 (fun _ => 0)) (hr : CRow w1 br sa n f) :
    BackAt (w1.alloc (.cells #[.pointer (some ⟨br, 0, none⟩), .int .u64 ((2 ^ (n + 1) - 1 : Nat) : Int)] ty)) w1.heap.size br sa n cap sk lo f := by
  have hb : Below w1.heap.size w1 (w1.alloc (.cells #[.pointer (some ⟨br, 0, none⟩), .int .u64 ((2 ^ (n + 1) - 1 : Nat) : Int)] ty)) := (Below.refl _ _).alloc (Nat.le_refl _) _
  have hl := hk.lt
  exact ⟨by rw [World.cell?_alloc_mark]; rfl, by rw [World.cell?_alloc_mark]; rfl, Or.inl (hk.kept hb hl), hr.kept (hb.mono (by omega)), hl⟩
open Classical in
theorem implPlainB_yes (sa : Option Addr) (n cap : Nat) (f : Nat → Cel) (w : World) (hn : n ≤ maxLen) (hr : CRow w w.heap.size sa n f) (hc : ∀ i, i < n → (f i).c.size ≤ maxLen) (h : PlainP n f) :
    Calls Tryz.prog 66 #[.slice sa n cap] w fun e w' => e = .returned (.bool true) ∧ Below w.heap.size w w' :=
  (implPlain_any sa n cap f w hn hr hc).mono fun _ _ h2 => ⟨by rw [h2.1, decide_eq_true h], h2.2⟩
open Classical in
theorem implPlainB_no (sa : Option Addr) (n cap : Nat) (f : Nat → Cel) (w : World) (hn : n ≤ maxLen) (hr : CRow w w.heap.size sa n f) (hc : ∀ i, i < n → (f i).c.size ≤ maxLen) (h : ¬ PlainP n f) :
    Calls Tryz.prog 66 #[.slice sa n cap] w fun e w' => e = .returned (.bool false) ∧ Below w.heap.size w w' :=
  (implPlain_any sa n cap f w hn hr hc).mono fun _ _ h2 => ⟨by rw [h2.1, decide_eq_false h], h2.2⟩
set_option maxRecDepth 100000 in
set_option maxHeartbeats 4000000 in
theorem backRowOf_yes (sa : Option Addr) (n cap : Nat) (f : Nat → Cel) (w : World) (hn : n ≤ maxLen) (hr : CRow w w.heap.size sa n f) (hc : ∀ i, i < n → (f i).c.size ≤ maxLen) (h : PlainP n f) :
    Calls Tryz.prog 35 #[.slice sa n cap] w fun e w' => ∃ pr br : Nat, e = .returned (.pointer (some ⟨pr, 0, none⟩)) ∧ NewBack w w' pr br sa n cap f := by
  have C := implPlainB_yes sa n cap f w hn hr hc h
  have HR : Hid (CRow w w.heap.size sa n f) := hr
  have HW : Hid (∀ W, Below w.heap.size w W → Calls Tryz.prog 67 #[.slice sa n cap] W fun e w' => ∃ b sk lo : Nat, e = .returned (.pointer (some ⟨b, 0, none⟩)) ∧ W.heap.size ≤ b ∧ Below W.heap.size W w' ∧ IsBits sk (behind (fun i => (f i).k) n) ∧ IsBits lo (behind (fun i => (f i).o) n) ∧ KRow w' b sa n cap sk lo 0 0 (fun _ => 0)) := fun W hW => rowOf_yes sa n cap f W hn ((hr.kept hW).up hW.size) hc h.1
  have hn60 := h.1.2.1
  clear hn hr hc h
  obtain ⟨q, hq⟩ : ∃ q, n + 1 = q := ⟨_, rfl⟩
  have HQ : Hid (n + 1 = q) := hq
  have hqi : (n : Int) + 1 = (q : Int) := by omega
  have hq0 : (0 : Int) ≤ (q : Int) := by omega
  have hq1 : (q : Int) < 64 := by omega
  have hpl : 2 ^ q < 18446744073709551616 := pow_lt64 (by omega)
  have hpp : 0 < 2 ^ q := Nat.pow_pos (by decide)
  have hpw := wrap_powP (r := q) (by omega)
  have hal : ((2 ^ q : Nat) : Int) - 1 = ((2 ^ q - 1 : Nat) : Int) := by omega
  have hwa : IntKind.u64.wrap ((2 ^ q - 1 : Nat) : Int) = ((2 ^ q - 1 : Nat) : Int) := by rw [IntKind.wrap_u64]; omega
  have hwq : IntKind.i64.wrap (q : Int) = (q : Int) := by rw [IntKind.wrap_i64] <;> omega
  obtain ⟨al, hae⟩ : ∃ al, 2 ^ q - 1 = al := ⟨_, rfl⟩
  have HAL : Hid (2 ^ (n + 1) - 1 = al) := by show _ = _; rw [hq]; exact hae
  rw [hae] at hal hwa
  clear hae hq
  go_enter Tryz.func35, Tryz.ntmps35
  go_wp2_with fail
  refine C.mono ?_
  rintro e w1 ⟨rfl, hb1⟩
  have B1 : Hid (Below w.heap.size w w1) := hb1
  clear hb1 C
  generalize ((2 ^ q : Nat) : Int) = P at *
  go_wp2_with fail
  go_region_with (go_at_call 67; refine (HW.out _ (by first | exact B1.out.drew | exact B1.out)).mono ?_; rintro e w2 ⟨b, sk, lo, rfl, hbl, hb2, _, _, hk⟩; have S2 : Hid (Below w.heap.size w w2 ∧ w.heap.size ≤ b ∧ KRow w2 b sa n cap sk lo 0 0 (fun _ => 0)) := ⟨(by first | exact B1.out.drew.trans (hb2.mono B1.out.size) | exact B1.out.trans (hb2.mono B1.out.size)), Nat.le_trans B1.out.size hbl, hk⟩; clear hbl hb2 hk)
  all_goals
    go_wp2_with fail
    go_ret
    refine ⟨_, b, rfl, sk, lo, S2.out.2.1, by simp, S2.out.1.alloc S2.out.1.size _, ?_⟩
    rw [← HAL.out]
    exact back_new _ S2.out.2.2 ((HR.out.kept S2.out.1).up S2.out.2.1)
theorem backRowOf_no (sa : Option Addr) (n cap : Nat) (f : Nat → Cel) (w : World) (hn : n ≤ maxLen) (hr : CRow w w.heap.size sa n f) (hc : ∀ i, i < n → (f i).c.size ≤ maxLen) (h : ¬ PlainP n f) :
    Calls Tryz.prog 35 #[.slice sa n cap] w fun e w' => e = .returned (.pointer none) ∧ Below w.heap.size w w' := by
  have C := implPlainB_no sa n cap f w hn hr hc h
  clear hn hr hc h
  go_enter Tryz.func35, Tryz.ntmps35
  go_wp2_with fail
  refine C.mono ?_
  rintro e w1 ⟨rfl, hb1⟩
  have B1 : Hid (Below w.heap.size w w1) := hb1
  clear hb1 C
  go_wp2_with fail
  go_ret
  exact ⟨rfl, B1.out⟩
theorem sight_bd (lk bd : Int) (fc : Bool) (w : World) : (Instr.field 79 (.agg #[.int .i64 lk, .int .i64 bd, .bool fc]) 1).run Tryz.prog w = .ok (.int .i64 bd) w := by kernel_rfl
theorem sight_fc (lk bd : Int) (fc : Bool) (w : World) : (Instr.field 79 (.agg #[.int .i64 lk, .int .i64 bd, .bool fc]) 2).run Tryz.prog w = .ok (.bool fc) w := by kernel_rfl
/-- look, as a plain call. -/
theorem look_any (pr br : Nat) (sa : Option Addr) (n cap sk lo : Nat) (f : Nat → Cel) (t : ByteArray) (w : World) (hn : n ≤ 60) (hsz : ∀ i, i < n → (f i).c.size ≤ 256) (ht : t.size ≤ 8000) (hR : BackAt w pr br sa n cap sk lo f) (hpr : pr < w.heap.size) :
    Calls Tryz.prog 54 #[.pointer (some ⟨pr, 0, none⟩), .string t] w fun e W' => (∃ (lk bd : Nat) (fc : Bool), e = .returned (.agg #[.int .i64 (lk : Int), .int .i64 (bd : Int), .bool fc]) ∧ LookP n f t lk bd fc) ∧ w.grownBy W' (some br) ∧ Ready W' br sa n cap sk lo f :=
  callsIn_wide.1 (look_in 3 (Nat.le_refl _) pr br sa n cap sk lo f t w hn hsz ht hR hpr)
theorem below_back {w w1 w2 : World} {br : Nat} (hb : Below w.heap.size w w1) (hg : w1.grownBy w2 (some br)) (hl : w.heap.size ≤ br) : Below w.heap.size w w2 :=
  hb.trans ⟨hg.os, hg.tape, hg.output, hg.size, fun k hk => hg.block k (Nat.lt_of_lt_of_le hk hb.size) (fun e => by injection e with e; omega)⟩
open Classical in
set_option maxRecDepth 100000 in
set_option maxHeartbeats 2000000 in
theorem implFactor_any (sa : Option Addr) (n cap : Nat) (f : Nat → Cel) (t : ByteArray) (w : World) (hn : n ≤ maxLen) (hr : CRow w w.heap.size sa n f) (hc : ∀ i, i < n → (f i).c.size ≤ maxLen) (ht : t.size ≤ maxLen) :
    Calls Tryz.prog 19 #[.slice sa n cap, .string t] w fun e w' => e = .returned (.bool (decide (FactorP n f t))) ∧ Below w.heap.size w w' := by
  unfold maxLen at ht
  by_cases h8 : t.size ≤ 8000
  case neg =>
    have hti : (8000 : Int) < (t.size : Int) := by omega
    have hF : Hid (decide (FactorP n f t) = false) := decide_eq_false (fun h => h8 h.1)
    clear hr hc
    go_enter Tryz.func19, Tryz.ntmps19
    go_wp2_with fail
    go_ret
    exact ⟨by rw [hF.out]; rfl, Below.refl _ _⟩
  have hti : ¬ (8000 : Int) < (t.size : Int) := by omega
  by_cases hP : PlainP n f
  case neg =>
    have C := backRowOf_no sa n cap f w hn hr hc hP
    have hF : Hid (decide (FactorP n f t) = false) := decide_eq_false (fun h => hP h.2.1)
    clear hr hc
    go_enter Tryz.func19, Tryz.ntmps19
    go_wp2_with fail
    refine C.mono ?_
    rintro e w1 ⟨rfl, hb⟩
    have HB : Hid (Below w.heap.size w w1) := hb
    clear hb C
    go_wp2_with fail
    go_ret
    exact ⟨by rw [hF.out]; rfl, HB.out⟩
  have C := backRowOf_yes sa n cap f w hn hr hc hP
  have hD : Hid (decide (FactorP n f t) = decide (SomeS n f t t.size)) := decide_eq_decide.2 ⟨fun h => h.2.2, fun h => ⟨h8, hP, h⟩⟩
  have HP : Hid (PlainP n f) := hP
  clear hr hc hP
  go_enter Tryz.func19, Tryz.ntmps19
  go_wp2_with fail
  refine C.mono ?_
  rintro e w1 ⟨pr, br, rfl, sk, lo, hbl, hpl, hb, hba⟩
  have HB : Hid (Below w.heap.size w w1 ∧ w.heap.size ≤ br) := ⟨hb, hbl⟩
  have CL := look_any pr br sa n cap sk lo f t w1 HP.out.1.2.1 (cels_max HP.out.1) h8 hba hpl
  clear hb C hbl hpl hba
  go_wp2_with fail
  refine CL.mono ?_
  rintro e w2 ⟨⟨lk, bd, fc, rfl, hL⟩, hg, _⟩
  have HB2 : Hid (Below w.heap.size w w2) := below_back HB.out.1 hg HB.out.2
  have HF : Hid (decide (SomeS n f t t.size) = fc) := by
    show _ = _
    cases fc with
    | true => exact decide_eq_true (hL.fac.1 rfl)
    | false => exact decide_eq_false (fun h => by have := hL.fac.2 h; cases this)
  clear hg hL CL
  have hfl := sight_fc (lk : Int) (bd : Int) fc
  go_wp2_with fail
  go_ret
  exact ⟨by rw [hD.out, HF.out]; rfl, HB2.out⟩
set_option maxRecDepth 100000 in
set_option maxHeartbeats 2000000 in
theorem implBorder_any (sa : Option Addr) (n cap : Nat) (f : Nat → Cel) (t : ByteArray) (w : World) (hn : n ≤ maxLen) (hr : CRow w w.heap.size sa n f) (hc : ∀ i, i < n → (f i).c.size ≤ maxLen) (ht : t.size ≤ maxLen) :
    Calls Tryz.prog 26 #[.slice sa n cap, .string t] w fun e w' => (∃ b : Nat, e = .returned (.int .i64 (b : Int)) ∧ BorderN n f t b) ∧ Below w.heap.size w w' := by
  unfold maxLen at ht
  by_cases h8 : t.size ≤ 8000
  case neg =>
    have hti : (8000 : Int) < (t.size : Int) := by omega
    have hF : Hid (BorderN n f t 0) := ⟨fun h => absurd h.1 h8, fun _ => rfl⟩
    clear hr hc
    go_enter Tryz.func26, Tryz.ntmps26
    go_wp2_with fail
    go_ret
    exact ⟨⟨0, rfl, hF.out⟩, Below.refl _ _⟩
  have hti : ¬ (8000 : Int) < (t.size : Int) := by omega
  by_cases hP : PlainP n f
  case neg =>
    have C := backRowOf_no sa n cap f w hn hr hc hP
    have hF : Hid (BorderN n f t 0) := ⟨fun h => absurd h.2 hP, fun _ => rfl⟩
    clear hr hc
    go_enter Tryz.func26, Tryz.ntmps26
    go_wp2_with fail
    refine C.mono ?_
    rintro e w1 ⟨rfl, hb⟩
    have HB : Hid (Below w.heap.size w w1) := hb
    clear hb C
    go_wp2_with fail
    go_ret
    exact ⟨⟨0, rfl, hF.out⟩, HB.out⟩
  have C := backRowOf_yes sa n cap f w hn hr hc hP
  have HP : Hid (PlainP n f) := hP
  clear hr hc hP
  go_enter Tryz.func26, Tryz.ntmps26
  go_wp2_with fail
  refine C.mono ?_
  rintro e w1 ⟨pr, br, rfl, sk, lo, hbl, hpl, hb, hba⟩
  have HB : Hid (Below w.heap.size w w1 ∧ w.heap.size ≤ br) := ⟨hb, hbl⟩
  have CL := look_any pr br sa n cap sk lo f t w1 HP.out.1.2.1 (cels_max HP.out.1) h8 hba hpl
  clear hb C hbl hpl hba
  go_wp2_with fail
  refine CL.mono ?_
  rintro e w2 ⟨⟨lk, bd, fc, rfl, hL⟩, hg, _⟩
  have HB2 : Hid (Below w.heap.size w w2) := below_back HB.out.1 hg HB.out.2
  have HF : Hid (BorderN n f t bd) := ⟨fun _ => hL.bd, fun h => absurd ⟨h8, HP.out⟩ h⟩
  clear hg hL CL
  have hfl := sight_bd (lk : Int) (bd : Int) fc
  go_wp2_with fail
  go_ret
  exact ⟨⟨bd, rfl, HF.out⟩, HB2.out⟩
end Go.Proofs.YtfeolbgenpknfaaGreat
