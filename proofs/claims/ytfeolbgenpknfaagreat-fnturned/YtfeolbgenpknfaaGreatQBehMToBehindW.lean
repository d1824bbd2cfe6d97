/- What is said here: cells that a text's last bytes go with, one behind the other; factors, borders: plain mathematics, for what looks from behind.
   What is said here: the places from which on cells go with a text's last bytes, as bits: plain mathematics, for what looks from behind.
   What is proved here: the places behind the cells that may be passed by, or passed again, as the program reckons them; nothing that was there turns. -/
import Derived.Test.YtfeolbgenpknfaaGreatQMeanM
import Derived.Test.YtfeolbgenpknfaaGreatQClassMToCellD
import Derived.Test.YtfeolbgenpknfaaGreatQCellMToWordM
import Derived.Test.YtfeolbgenpknfaaGreatQStepVMToMaskD
import Derived.WalkKit
import Derived.Below
namespace Go.Proofs.YtfeolbgenpknfaaGreat
open Go.RowKit

/-- The last k bytes of a text go with the cells from p on. -/
def GoesS (n : Nat) (f : Nat → Cel) (t : ByteArray) (k p : Nat) : Prop := k ≤ t.size ∧ p + k ≤ n ∧ ∀ i, i < k → takesB t (f (p + i)).c (t.size - k + i) = true
theorem goesS_zero {n : Nat} {f : Nat → Cel} {t : ByteArray} {p : Nat} : GoesS n f t 0 p ↔ p ≤ n := ⟨fun h => h.2.1, fun h => ⟨Nat.zero_le _, h, fun _ hi => absurd hi (Nat.not_lt_zero _)⟩⟩
theorem goesS_succ {n : Nat} {f : Nat → Cel} {t : ByteArray} {k p : Nat} (hk : k < t.size) : GoesS n f t (k + 1) p ↔ GoesS n f t k (p + 1) ∧ p < n ∧ takesB t (f p).c (t.size - 1 - k) = true := by
  constructor
  · rintro ⟨h1, h2, h3⟩
    refine ⟨⟨by omega, by omega, fun i hi => ?_⟩, by omega, ?_⟩
    · have h := h3 (i + 1) (by omega)
      rw [show p + (i + 1) = p + 1 + i by omega, show t.size - (k + 1) + (i + 1) = t.size - k + i by omega] at h
      exact h
    · have h := h3 0 (by omega)
      rw [show t.size - (k + 1) + 0 = t.size - 1 - k by omega] at h
      exact h
  · rintro ⟨⟨h1, h2, h3⟩, h4, h5⟩
    refine ⟨by omega, by omega, fun i hi => ?_⟩
    cases i with
    | zero =>
      rw [show t.size - (k + 1) + 0 = t.size - 1 - k by omega]
      exact h5
    | succ i =>
      have h := h3 i (by omega)
      rw [show p + (i + 1) = p + 1 + i by omega, show t.size - (k + 1) + (i + 1) = t.size - k + i by omega]
      exact h
theorem goesS_less {n : Nat} {f : Nat → Cel} {t : ByteArray} {k j p : Nat} (h : GoesS n f t k p) (hj : j ≤ k) : GoesS n f t j (p + (k - j)) := by
  obtain ⟨h1, h2, h3⟩ := h
  refine ⟨by omega, by omega, fun i hi => ?_⟩
  have h := h3 (k - j + i) (by omega)
  rw [show p + (k - j + i) = p + (k - j) + i by omega, show t.size - k + (k - j + i) = t.size - j + i by omega] at h
  exact h
/-- Some cells go with the last k bytes. -/
def SomeS (n : Nat) (f : Nat → Cel) (t : ByteArray) (k : Nat) : Prop := ∃ p, GoesS n f t k p
theorem someS_less {n : Nat} {f : Nat → Cel} {t : ByteArray} {k j : Nat} (h : SomeS n f t k) (hj : j ≤ k) : SomeS n f t j := h.elim fun _ hp => ⟨_, goesS_less hp hj⟩
/-- A text goes with the cells from p on. -/
def GoesP (n : Nat) (f : Nat → Cel) (t : ByteArray) (p : Nat) : Prop := p + t.size ≤ n ∧ ∀ i, i < t.size → takesB t (f (p + i)).c i = true
theorem goesP_iff {n : Nat} {f : Nat → Cel} {t : ByteArray} {p : Nat} : GoesP n f t p ↔ GoesS n f t t.size p := by
  unfold GoesP GoesS
  rw [Nat.sub_self]
  simp only [Nat.zero_add]
  exact ⟨fun h => ⟨Nat.le_refl _, h.1, h.2⟩, fun h => ⟨h.2.1, h.2.2⟩⟩
theorem takes_cutB {t c : ByteArray} {s e k : Nat} (hs : s ≤ e) (he : e ≤ t.size) (hk : k < e - s) : takesB (t.extract s e) c k = takesB t c (s + k) := by
  have h1 : k < (t.extract s e).size := by rw [ByteArray.size_extract]; omega
  unfold takesB
  rw [dif_pos h1, dif_pos (by omega), ByteArray.getElem_extract]
theorem cut_size {t : ByteArray} {s e : Nat} (he : e ≤ t.size) : (t.extract s e).size = e - s := by rw [ByteArray.size_extract]; omega
/-- The last k bytes, as a text of their own. -/
theorem goesP_last {n : Nat} {f : Nat → Cel} {t : ByteArray} {k p : Nat} (hk : k ≤ t.size) : GoesP n f (t.extract (t.size - k) t.size) p ↔ GoesS n f t k p := by
  have hz : (t.extract (t.size - k) t.size).size = k := by rw [cut_size (Nat.le_refl _)]; omega
  unfold GoesP GoesS
  rw [hz]
  constructor
  · rintro ⟨h1, h2⟩
    refine ⟨hk, h1, fun i hi => ?_⟩
    rw [← takes_cutB (by omega) (Nat.le_refl _) (by omega)]
    exact h2 i hi
  · rintro ⟨_, h1, h2⟩
    refine ⟨h1, fun i hi => ?_⟩
    rw [takes_cutB (by omega) (Nat.le_refl _) (by omega)]
    exact h2 i hi
/-- The border: the greatest k below n so that the last k bytes go with the first k cells. -/
def IsBorder (n : Nat) (f : Nat → Cel) (t : ByteArray) (b : Nat) : Prop := (b = 0 ∨ (b < n ∧ GoesS n f t b 0)) ∧ ∀ k, b < k → k < n → ¬ GoesS n f t k 0
theorem border_one {n : Nat} {f : Nat → Cel} {t : ByteArray} {b c : Nat} (h : IsBorder n f t b) (h' : IsBorder n f t c) : b = c := by
  rcases Nat.lt_trichotomy b c with hl | hl | hl
  · rcases h'.1 with h1 | ⟨h1, h2⟩
    · omega
    · exact absurd h2 (h.2 c hl h1)
  · exact hl
  · rcases h.1 with h1 | ⟨h1, h2⟩
    · omega
    · exact absurd h2 (h'.2 b hl h1)
end Go.Proofs.YtfeolbgenpknfaaGreat
namespace Go.Proofs.YtfeolbgenpknfaaGreat
open Go.RowKit

theorem bits_half {a : Nat} {P : Nat → Bool} (h : IsBits a P) : IsBits (a / 2) (fun j => P (j + 1)) :=
  ⟨by have := h.lt; omega, fun j => by rw [← h.bit (j + 1), Nat.testBit_succ]⟩
theorem behind_exB (q : Nat → Bool) : ∀ k, k ≤ 62 → ∃ x, IsBits x (behind q k)
  | 0, _ => ⟨0, behind_zero q⟩
  | k + 1, h => by
    obtain ⟨x, hx⟩ := behind_exB q k (by omega)
    cases hq : q k with
    | true => exact ⟨_, behind_yes hx (by omega) hq⟩
    | false => exact ⟨x, behind_no hx hq⟩
open Classical in
theorem beg_zero {n : Nat} {f : Nat → Cel} {t : ByteArray} (hn : n ≤ 60) : IsBits (2 ^ (n + 1) - 1) (fun p => decide (GoesS n f t 0 p)) := by
  refine ⟨?_, fun j => ?_⟩
  · have : 2 ^ (n + 1) ≤ 2 ^ 61 := Nat.pow_le_pow_right (by decide) (by omega)
    omega
  · rw [Nat.testBit_two_pow_sub_one]
    exact decide_eq_decide.2 ⟨fun h => goesS_zero.2 (by omega), fun h => by have := goesS_zero.1 h; omega⟩
open Classical in
theorem beg_step {n : Nat} {f : Nat → Cel} {t : ByteArray} {k x y : Nat} (hk : k < t.size) (hx : IsBits x (fun p => decide (GoesS n f t k p))) (hy : IsBits y (behind (fun i => hasByte (f i).c (t[t.size - 1 - k]'(by omega)).toNat) n)) : IsBits ((x &&& y) / 2) (fun p => decide (GoesS n f t (k + 1) p)) := by
  refine (bits_half (hx.and hy)).congr (fun j => ?_)
  have h1 : behind (fun i => hasByte (f i).c (t[t.size - 1 - k]'(by omega)).toNat) n (j + 1) = (decide (j < n) && takesB t (f j).c (t.size - 1 - k)) := by
    unfold behind takesB
    rw [dif_pos (by omega)]
    congr 1
    exact decide_eq_decide.2 ⟨fun h => by omega, fun h => by omega⟩
  show (decide (GoesS n f t k (j + 1)) && behind _ n (j + 1)) = _
  rw [h1]
  by_cases hg : GoesS n f t (k + 1) j
  · obtain ⟨h2, h3, h4⟩ := (goesS_succ hk).1 hg
    rw [decide_eq_true hg, decide_eq_true h2, decide_eq_true h3, h4]
    rfl
  · rw [decide_eq_false hg]
    cases h5 : decide (GoesS n f t k (j + 1)) with
    | false => rfl
    | true =>
      cases h6 : decide (j < n) with
      | false => rfl
      | true =>
        cases h7 : takesB t (f j).c (t.size - 1 - k) with
        | false => rfl
        | true => exact absurd ((goesS_succ hk).2 ⟨of_decide_eq_true h5, of_decide_eq_true h6, h7⟩) hg
open Classical in
theorem beg_ex {n : Nat} {f : Nat → Cel} {t : ByteArray} (hn : n ≤ 60) : ∀ k, k ≤ t.size → ∃ x, IsBits x (fun p => decide (GoesS n f t k p))
  | 0, _ => ⟨_, beg_zero hn⟩
  | k + 1, h => by
    obtain ⟨x, hx⟩ := beg_ex (n := n) (f := f) (t := t) hn k (by omega)
    have hk : k < t.size := by omega
    have hlt : t.size - 1 - k < t.size := by omega
    obtain ⟨y, hy⟩ := behind_exB (fun i => hasByte (f i).c (t[t.size - 1 - k]'hlt).toNat) n (by omega)
    exact ⟨_, beg_step hk hx hy⟩
open Classical in
/-- The bits of the places from which on the cells go with the last k bytes. -/
noncomputable def begN (n : Nat) (f : Nat → Cel) (t : ByteArray) (k : Nat) : Nat := if h : ∃ x, IsBits x (fun p => decide (GoesS n f t k p)) then h.choose else 0
open Classical in
theorem begN_bits {n : Nat} {f : Nat → Cel} {t : ByteArray} {k : Nat} (hn : n ≤ 60) (hk : k ≤ t.size) : IsBits (begN n f t k) (fun p => decide (GoesS n f t k p)) := by
  have h := beg_ex (n := n) (f := f) hn k hk
  unfold begN
  rw [dif_pos h]
  exact h.choose_spec
theorem begN_zero {n : Nat} {f : Nat → Cel} {t : ByteArray} (hn : n ≤ 60) : begN n f t 0 = 2 ^ (n + 1) - 1 := (begN_bits hn (Nat.zero_le _)).uniq (beg_zero hn)
theorem begN_succ {n : Nat} {f : Nat → Cel} {t : ByteArray} {k y : Nat} (hn : n ≤ 60) (hk : k < t.size) (hy : IsBits y (behind (fun i => hasByte (f i).c (t[t.size - 1 - k]'(by omega)).toNat) n)) : begN n f t (k + 1) = (begN n f t k &&& y) / 2 :=
  (begN_bits hn hk).uniq (beg_step hk (begN_bits hn (by omega)) hy)
open Classical in
theorem begN_none {n : Nat} {f : Nat → Cel} {t : ByteArray} {k : Nat} (hn : n ≤ 60) (hk : k ≤ t.size) : begN n f t k = 0 ↔ ¬ SomeS n f t k := by
  rw [(begN_bits hn hk).none]
  exact ⟨fun h ⟨p, hp⟩ => of_decide_eq_false (h p) hp, fun h p => decide_eq_false (fun hp => h ⟨p, hp⟩)⟩
open Classical in
theorem begN_low {n : Nat} {f : Nat → Cel} {t : ByteArray} {k : Nat} (hn : n ≤ 60) (hk : k ≤ t.size) : begN n f t k % 2 = 1 ↔ GoesS n f t k 0 := by
  have h := (begN_bits (f := f) hn hk).bit 0
  rw [Nat.testBit_zero] at h
  constructor
  · intro h1
    rw [decide_eq_true h1] at h
    exact of_decide_eq_true h.symm
  · intro h1
    rw [decide_eq_true h1] at h
    exact of_decide_eq_true h
/-- What comes, one by one: how many bytes were looked at, and the places. -/
noncomputable def uptoB (n : Nat) (f : Nat → Cel) (t : ByteArray) (k : Nat) : List (Nat × Nat) := (List.range k).map (fun i => (i + 1, begN n f t (i + 1)))
theorem uptoB_len (n : Nat) (f : Nat → Cel) (t : ByteArray) (k : Nat) : (uptoB n f t k).length = k := by simp [uptoB]
theorem uptoB_succ (n : Nat) (f : Nat → Cel) (t : ByteArray) (k : Nat) : uptoB n f t (k + 1) = uptoB n f t k ++ [(k + 1, begN n f t (k + 1))] := by simp [uptoB, List.range_succ]
theorem uptoB_pre (n : Nat) (f : Nat → Cel) (t : ByteArray) : ∀ {k m : Nat}, k ≤ m → ∃ r, uptoB n f t m = uptoB n f t k ++ r
  | k, 0, h => ⟨[], by obtain rfl : k = 0 := by omega
                       simp⟩
  | k, m + 1, h => by
    by_cases e : k = m + 1
    · subst e; exact ⟨[], by simp⟩
    · obtain ⟨r, hr⟩ := uptoB_pre n f t (k := k) (m := m) (by omega)
      exact ⟨r ++ [(m + 1, begN n f t (m + 1))], by rw [uptoB_succ, hr, List.append_assoc]⟩
end Go.Proofs.YtfeolbgenpknfaaGreat
namespace Go.Proofs.YtfeolbgenpknfaaGreat
open Go.RowKit

theorem wrap_powP {r : Nat} (h : r < 64) : IntKind.u64.wrap (2 ^ r) = ((2 ^ r : Nat) : Int) := by
  have := pow_lt64 h
  rw [wraps_u64s _ (Int.pow_nonneg (by decide)) (by exact_mod_cast this)]
  simp
theorem isSkip_any (a : Cel) (w : World) :
    Calls Tryz.prog 93 #[.agg #[.string a.c, .bool a.k, .bool a.o]] w fun e w' => e = .returned (.bool a.k) ∧ Below w.heap.size w w' := by
  go_enter Tryz.func93, Tryz.ntmps93
  go_wp2
  go_ret
  exact ⟨rfl, (Below.refl _ _).alloc (Nat.le_refl _) _⟩
set_option maxRecDepth 100000 in
set_option maxHeartbeats 4000000 in
theorem behindSkip_any (sa : Option Addr) (n cap : Nat) (f : Nat → Cel) (w : World) (hn : n ≤ 60) (hr : CRow w w.heap.size sa n f) :
    Calls Tryz.prog 92 #[.slice sa n cap, .func (.func 93) #[] #[]] w fun e w' => ∃ b : Nat, e = .returned (.int .u64 (b : Int)) ∧ IsBits b (behind (fun i => (f i).k) n) ∧ Below w.heap.size w w' := by
  have HR : Hid (CRow w w.heap.size sa n f) := hr
  clear hr
  go_enter Tryz.func92, Tryz.ntmps92
  go_wp2_with fail
  go_loopw [5, 10] (fun ov i wr => ∃ k b : Nat, k ≤ n ∧ i = .int .i64 (k : Int) ∧ ov = .int .u64 (b : Int) ∧ IsBits b (behind (fun i => (f i).k) k) ∧ Below w.heap.size w wr) (fun _ i _ => n - (intOf i).toNat)
  case atStart => exact ⟨0, 0, Nat.zero_le _, rfl, rfl, behind_zero _, Below.refl _ _⟩
  case round =>
    obtain ⟨k, b, hk, rfl, rfl, hbits, hbel⟩ := hrel
    have HB : Hid (Below w.heap.size w wr) := hbel
    have HI : Hid (IsBits b (behind (fun i => (f i).k) k)) := hbits
    by_cases hkl : k < n
    · obtain ⟨bb, off, rfl, hbb, hat⟩ := HR.out.at hbel hkl
      obtain ⟨c0, c1, c2⟩ := hat
      have hki : (k : Int) < (n : Int) := by omega
      have hk0 : (0 : Int) ≤ (k : Int) := by omega
      obtain ⟨⟨ac, al, am⟩, ha⟩ : ∃ a, f k = a := ⟨_, rfl⟩
      have HF : Hid (f k = ⟨ac, al, am⟩) := ha
      rw [ha] at c0 c1 c2
      simp only at c0 c1 c2
      have C := fun W => isSkip_any ⟨ac, al, am⟩ W
      simp only at C
      have BX : Hid (Below w.heap.size w (wr.alloc (.cells #[.string ac, .bool al, .bool am] 98))) := HB.out.alloc HB.out.size _
      clear ha hbits hbel
      go_wp2_with fail
      generalize wr.alloc (.cells #[.string ac, .bool al, .bool am] 98) = v at *
      refine (C v).mono ?_
      rintro e w1 ⟨rfl, hb1⟩
      have B1 : Hid (Below w.heap.size w w1) := BX.out.trans (hb1.mono BX.out.size)
      clear hb1 C BX HB c0 c1 c2
      cases hq : al with
      | true =>
        have HI2 : Hid (IsBits (b ||| 2 ^ (k + 1)) (behind (fun i => (f i).k) (k + 1))) := behind_yes HI.out (by omega) (by show (f k).k = true; rw [HF.out]; exact hq)
        obtain ⟨r, hr⟩ : ∃ r, k + 1 = r := ⟨_, rfl⟩
        have hri : (k : Int) + 1 = (r : Int) := by omega
        have hr0 : (0 : Int) ≤ (r : Int) := by omega
        rw [hr] at HI2
        have hpw := wrap_powP (r := r) (by omega)
        have hor : bits .or .u64 (b : Int) ((2 ^ r : Nat) : Int) = ((b ||| 2 ^ r : Nat) : Int) := or64 HI.out.lt (pow_lt64 (by omega))
        generalize b ||| 2 ^ r = b2 at *
        generalize ((2 ^ r : Nat) : Int) = P at *
        clear hq
        go_wp2_with fail
        go_roundw
        case rel => exact ⟨k + 1, b2, by omega, by go_num, rfl, by rw [hr]; exact HI2.out, B1.out⟩
        case measure => simp [intOf]; omega
      | false =>
        have HI2 : Hid (IsBits b (behind (fun i => (f i).k) (k + 1))) := behind_no HI.out (by show (f k).k = false; rw [HF.out]; exact hq)
        clear hq
        go_wp2_with fail
        go_roundw
        case rel => exact ⟨k + 1, b, by omega, by go_num, rfl, HI2.out, B1.out⟩
        case measure => simp [intOf]; omega
    · have hki : ¬ (k : Int) < (n : Int) := by omega
      obtain rfl : k = n := by omega
      clear hbits hbel
      go_wp2_with fail
      go_ret
      exact ⟨b, rfl, HI.out, HB.out⟩
theorem isLoop_any (a : Cel) (w : World) :
    Calls Tryz.prog 94 #[.agg #[.string a.c, .bool a.k, .bool a.o]] w fun e w' => e = .returned (.bool a.o) ∧ Below w.heap.size w w' := by
  go_enter Tryz.func94, Tryz.ntmps94
  go_wp2
  go_ret
  exact ⟨rfl, (Below.refl _ _).alloc (Nat.le_refl _) _⟩
set_option maxRecDepth 100000 in
set_option maxHeartbeats 4000000 in
theorem behindLoop_any (sa : Option Addr) (n cap : Nat) (f : Nat → Cel) (w : World) (hn : n ≤ 60) (hr : CRow w w.heap.size sa n f) :
    Calls Tryz.prog 92 #[.slice sa n cap, .func (.func 94) #[] #[]] w fun e w' => ∃ b : Nat, e = .returned (.int .u64 (b : Int)) ∧ IsBits b (behind (fun i => (f i).o) n) ∧ Below w.heap.size w w' := by
  have HR : Hid (CRow w w.heap.size sa n f) := hr
  clear hr
  go_enter Tryz.func92, Tryz.ntmps92
  go_wp2_with fail
  go_loopw [5, 10] (fun ov i wr => ∃ k b : Nat, k ≤ n ∧ i = .int .i64 (k : Int) ∧ ov = .int .u64 (b : Int) ∧ IsBits b (behind (fun i => (f i).o) k) ∧ Below w.heap.size w wr) (fun _ i _ => n - (intOf i).toNat)
  case atStart => exact ⟨0, 0, Nat.zero_le _, rfl, rfl, behind_zero _, Below.refl _ _⟩
  case round =>
    obtain ⟨k, b, hk, rfl, rfl, hbits, hbel⟩ := hrel
    have HB : Hid (Below w.heap.size w wr) := hbel
    have HI : Hid (IsBits b (behind (fun i => (f i).o) k)) := hbits
    by_cases hkl : k < n
    · obtain ⟨bb, off, rfl, hbb, hat⟩ := HR.out.at hbel hkl
      obtain ⟨c0, c1, c2⟩ := hat
      have hki : (k : Int) < (n : Int) := by omega
      have hk0 : (0 : Int) ≤ (k : Int) := by omega
      obtain ⟨⟨ac, al, am⟩, ha⟩ : ∃ a, f k = a := ⟨_, rfl⟩
      have HF : Hid (f k = ⟨ac, al, am⟩) := ha
      rw [ha] at c0 c1 c2
      simp only at c0 c1 c2
      have C := fun W => isLoop_any ⟨ac, al, am⟩ W
      simp only at C
      have BX : Hid (Below w.heap.size w (wr.alloc (.cells #[.string ac, .bool al, .bool am] 98))) := HB.out.alloc HB.out.size _
      clear ha hbits hbel
      go_wp2_with fail
      generalize wr.alloc (.cells #[.string ac, .bool al, .bool am] 98) = v at *
      refine (C v).mono ?_
      rintro e w1 ⟨rfl, hb1⟩
      have B1 : Hid (Below w.heap.size w w1) := BX.out.trans (hb1.mono BX.out.size)
      clear hb1 C BX HB c0 c1 c2
      cases hq : am with
      | true =>
        have HI2 : Hid (IsBits (b ||| 2 ^ (k + 1)) (behind (fun i => (f i).o) (k + 1))) := behind_yes HI.out (by omega) (by show (f k).o = true; rw [HF.out]; exact hq)
        obtain ⟨r, hr⟩ : ∃ r, k + 1 = r := ⟨_, rfl⟩
        have hri : (k : Int) + 1 = (r : Int) := by omega
        have hr0 : (0 : Int) ≤ (r : Int) := by omega
        rw [hr] at HI2
        have hpw := wrap_powP (r := r) (by omega)
        have hor : bits .or .u64 (b : Int) ((2 ^ r : Nat) : Int) = ((b ||| 2 ^ r : Nat) : Int) := or64 HI.out.lt (pow_lt64 (by omega))
        generalize b ||| 2 ^ r = b2 at *
        generalize ((2 ^ r : Nat) : Int) = P at *
        clear hq
        go_wp2_with fail
        go_roundw
        case rel => exact ⟨k + 1, b2, by omega, by go_num, rfl, by rw [hr]; exact HI2.out, B1.out⟩
        case measure => simp [intOf]; omega
      | false =>
        have HI2 : Hid (IsBits b (behind (fun i => (f i).o) (k + 1))) := behind_no HI.out (by show (f k).o = false; rw [HF.out]; exact hq)
        clear hq
        go_wp2_with fail
        go_roundw
        case rel => exact ⟨k + 1, b, by omega, by go_num, rfl, HI2.out, B1.out⟩
        case measure => simp [intOf]; omega
    · have hki : ¬ (k : Int) < (n : Int) := by omega
      obtain rfl : k = n := by omega
      clear hbits hbel
      go_wp2_with fail
      go_ret
      exact ⟨b, rfl, HI.out, HB.out⟩
end Go.Proofs.YtfeolbgenpknfaaGreat
