/- What is proved here: the program's MasksOf hands back the five vectors of a row of cells in new memory, or nothing; nothing that was there turns.
   What is proved here: the program reads the places that a vector holds as one number, and tells whether a vector is one of a row; nothing that was there turns.
   What is said here: there are numbers that have the bits of a row's runs. -/
import Derived.Test.YtlgnplnmcdjbiaaGreatQImplCRightWToPVecW
import Derived.Test.YtlgnplnmcdjbiaaGreatQMaskDToSpecMaskW
import Derived.Test.YtlgnplnmcdjbiaaGreatQSpecKRightWToIsW
import Derived.Deep.RegionHeld3
import Derived.Test.YtlgnplnmcdjbiaaGreatQImplRightWToCellS
import Derived.Test.YtlgnplnmcdjbiaaGreatQSpecMaskLW
namespace Go.Proofs.YtlgnplnmcdjbiaaGreat
open Go.RowKit

set_option maxRecDepth 100000 in
set_option maxHeartbeats 4000000 in
theorem implMasks_no (sa : Option Addr) (n cap : Nat) (f : Nat → Cel) (w : World) (hn : n ≤ maxLen) (hr : CRow w w.heap.size sa n f) (hc : ∀ i, i < n → (f i).c.size ≤ maxLen) (h : ¬ CellsOk n f) :
    Calls Tryz.prog 97 #[.slice sa n cap] w fun e w' => NewMasks w 0 0 (fun _ _ => 0) e w' := by
  have q0 := mboxing w 0 (fun _ => none) 0 (fun _ => 0)
  have C := rowOf_no sa n cap f (w.alloc (.cells #[.int .i64 0, .slice none 0 0, .int .i64 0, .slice none 0 0, .int .i64 0, .slice none 0 0, .int .i64 0, .slice none 0 0, .int .i64 0, .slice none 0 0] 45)) hn ((hr.kept q0.1).up q0.1.size) hc h
  clear hn hr hc h
  go_enter Tryz.func97, Tryz.ntmps97
  go_wp2_with fail
  generalize w.alloc (.cells #[.int .i64 0, .slice none 0 0, .int .i64 0, .slice none 0 0, .int .i64 0, .slice none 0 0, .int .i64 0, .slice none 0 0, .int .i64 0, .slice none 0 0] 45) = v0 at *
  refine C.mono ?_
  rintro e w1 ⟨rfl, hb1⟩
  obtain ⟨a0, a1, a2, a3, a4, a5, a6, a7, a8, a9⟩ := (q0.2.1.kept hb1 rfl).cells
  obtain ⟨f0, f1, f2, f3, f4, f5, f6, f7, f8, f9⟩ := (q0.2.1.kept hb1 rfl).free
  have S1 : Hid (Since w w1) := since_call (since_call (since_refl _) q0.1) hb1
  have l1 : w.heap.size < w1.heap.size := (q0.2.1.kept hb1 rfl).lt
  clear C hb1 q0
  go_wp2_with fail
  refine bodyPost_ret (v := masksV 0 (fun _ => none) 0 (fun _ => 0)) (by simp [results, Tryz.results97, go_sem, masksV, a0, a1, a2, a3, a4, a5, a6, a7, a8, a9]) rfl ?_
  refine ⟨_, _, fun _ => w.heap.size, rfl, ?_, ⟨Or.inl rfl, Or.inl rfl, Or.inl rfl, Or.inl rfl, Or.inl rfl, by omega⟩, Nat.le_refl _, ?_⟩
  · have hs := S1.out
    repeat (refine Since.below ?_)
    iterate 10 (refine since_set ?_ (by show w.heap.size ≤ w.heap.size; omega))
    exact hs
  · simp [World.setCell]; omega
theorem bits_shr {a : Nat} {P : Nat → Bool} (h : IsBits a P) : IsBits (a / 2) (fun j => P (j + 1)) :=
  ⟨by have := h.lt; omega, fun j => by rw [← Nat.testBit_succ]; exact h.bit (j + 1)⟩
/-- Six bounds. -/
def six (a0 a1 a2 a3 a4 a5 : Nat) : Nat → Nat := fun i => match i with
  | 0 => a0
  | 1 => a1
  | 2 => a2
  | 3 => a3
  | 4 => a4
  | _ => a5
theorem OnlyM.set {W W' : World} {lo hi : Nat} {p : Addr} {v : Value} (h : OnlyM W W' lo hi) (h1 : lo ≤ p.block) (h2 : p.block < hi) : OnlyM W (W'.setCell p v) lo hi :=
  ⟨h.os, h.tape, h.output, by simpa [World.setCell] using h.size, fun k hk hd => by rw [Below.heap_setCell _ _ _ _ (fun e => by omega)]; exact h.block k hk hd⟩
theorem masks_new {w w1 u1 u2 u3 u4 u5 v : World} {b : Int} {m : Nat} {s1 s2 s3 s4 s5 : Option Addr} {c1 c2 c3 c4 c5 : Nat} {F : Nat → Nat → Int} (hS : Since w w1) (hlt : w.heap.size < w1.heap.size)
    (hb1 : Below w1.heap.size w1 u1) (hb2 : Below u1.heap.size u1 u2) (hb3 : Below u2.heap.size u2 u3) (hb4 : Below u3.heap.size u3 u4) (hb5 : Below u4.heap.size u4 u5)
    (ho1 : OwnS u1 w1.heap.size s1 m (F 0)) (ho2 : OwnS u2 u1.heap.size s2 m (F 1)) (ho3 : OwnS u3 u2.heap.size s3 m (F 2)) (ho4 : OwnS u4 u3.heap.size s4 m (F 3)) (ho5 : OwnS u5 u4.heap.size s5 m (F 4))
    (hv : OnlyM u5 v w.heap.size (w.heap.size + 1)) : NewMasks w b m F (.returned (masksV b (five s1 s2 s3 s4 s5) m (five c1 c2 c3 c4 c5))) v := by
  have z1 := hb1.size
  have z2 := hb2.size
  have z3 := hb3.size
  have z4 := hb4.size
  have z5 := hb5.size
  have z6 := hv.size
  have S5 : Since w u5 := since_call (since_call (since_call (since_call (since_call hS hb1) hb2) hb3) hb4) hb5
  refine ⟨_, _, six w1.heap.size u1.heap.size u2.heap.size u3.heap.size u4.heap.size u5.heap.size, rfl, S5.below.trans (hv.below (Nat.le_refl _) S5.below.size), ⟨?_, ?_, ?_, ?_, ?_, ⟨z1, z2, z3, z4, z5⟩⟩, Nat.le_of_lt hlt, z6⟩
  · exact ((((ho1.slice.kept hb2 rfl).kept hb3 rfl).kept hb4 rfl).kept hb5 rfl).onlyM hv (Or.inr hlt)
  · exact (((ho2.slice.kept hb3 rfl).kept hb4 rfl).kept hb5 rfl).onlyM hv (Or.inr (show _ ≤ u1.heap.size by omega))
  · exact ((ho3.slice.kept hb4 rfl).kept hb5 rfl).onlyM hv (Or.inr (show _ ≤ u2.heap.size by omega))
  · exact (ho4.slice.kept hb5 rfl).onlyM hv (Or.inr (show _ ≤ u3.heap.size by omega))
  · exact ho5.slice.onlyM hv (Or.inr (show _ ≤ u4.heap.size by omega))
/-- The words of five vectors. -/
def masksF (n xb xe sk : Nat) : Nat → Nat → Int := five (wordsN 1) (wordsN (2 ^ n)) (wordsN xb) (wordsN xe) (wordsN sk)
set_option maxRecDepth 100000 in
set_option maxHeartbeats 4000000 in
theorem implMasks_yes (sa : Option Addr) (n cap m xb xe sk : Nat) (f : Nat → Cel) (w : World) (hn : n ≤ maxLen) (hr : CRow w w.heap.size sa n f) (hc : ∀ i, i < n → (f i).c.size ≤ maxLen) (h : CellsOk n f) (hm : m = (n + 1 + 31) / 32)
    (hb : IsBits xb (fun j => behind (fun i => (f i).k) n (j + 1) && !(decide (1 ≤ j + 1) && behind (fun i => (f i).k) n (j + 1 - 1)))) (he : IsBits xe (fun j => behind (fun i => (f i).k) n j && !behind (fun i => (f i).k) n (j + 1))) (hk : IsBits sk (behind (fun i => (f i).k) n)) :
    Calls Tryz.prog 97 #[.slice sa n cap] w fun e w' => NewMasks w ((n : Int) + 1) m (masksF n xb xe sk) e w' := by
  have hn60 := h.2.1
  have q0 := mboxing w 0 (fun _ => none) 0 (fun _ => 0)
  have C := rowOf_yes sa n cap f (w.alloc (.cells #[.int .i64 0, .slice none 0 0, .int .i64 0, .slice none 0 0, .int .i64 0, .slice none 0 0, .int .i64 0, .slice none 0 0, .int .i64 0, .slice none 0 0] 45)) hn ((hr.kept q0.1).up q0.1.size) hc h
  have hskl := lt_pow_of hk (behind_le _ n)
  have hp61 : 2 ^ (n + 1) ≤ 2 ^ 61 := Nat.pow_le_pow_right (by decide) (by omega)
  have hsk62 : sk < 2305843009213693952 := by omega
  have sB := bits_andNot hk (bits_shl hk (fun j hj => behind_le _ n j (by omega)))
  have sE := bits_andNot hk (bits_shr hk)
  obtain rfl := (bits_shr sB).uniq hb
  obtain rfl := sE.uniq he
  have e1 : bits .andNot .u64 (sk : Int) ((sk : Int) * 2) = ((sk ^^^ (sk &&& sk * 2) : Nat) : Int) := andNot64 (b := sk * 2) hk.lt
  have e2 : bits .andNot .u64 (sk : Int) ((sk : Int) / 2) = ((sk ^^^ (sk &&& sk / 2) : Nat) : Int) := andNot64 (b := sk / 2) hk.lt
  have lB := sB.lt
  have lE := sE.lt
  have HSK : Hid (IsBits sk (behind (fun i => (f i).k) n)) := hk
  have lN : 2 ^ n < 18446744073709551616 := pow_lt64 (by omega)
  have HN : Hid (2 ^ n < 18446744073709551616) := lN
  have hwn : IntKind.u64.wrap ((2 : Int) ^ n) = (2 : Int) ^ n := by
    rw [show (2 : Int) ^ n = ((2 ^ n : Nat) : Int) by simp, IntKind.wrap_u64]
    omega
  have P1 : Hid (∀ (x : Nat) (W : World), x < 18446744073709551616 → Calls Tryz.prog 74 #[.int .u64 (x : Int), .int .i64 (n : Int)] W fun e w' => NewVec W ((n : Int) + 1) m (wordsN x) e w') := fun x W hx => pvec_any x n m W hx hn60 hm
  clear hn hr hc h hm hb he hk hskl hp61 sB sE
  generalize sk ^^^ (sk &&& sk * 2) = yb at *
  generalize sk ^^^ (sk &&& sk / 2) = ye at *
  have Q1 : Hid (∀ W, Calls Tryz.prog 74 #[.int .u64 1, .int .i64 (n : Int)] W fun e w' => NewVec W ((n : Int) + 1) m (wordsN 1) e w') := fun W => by
    have h9 := P1.out 1 W (by omega)
    simpa using h9
  have Q2 : Hid (∀ W, Calls Tryz.prog 74 #[.int .u64 ((2 : Int) ^ n), .int .i64 (n : Int)] W fun e w' => NewVec W ((n : Int) + 1) m (wordsN (2 ^ n)) e w') := fun W => by
    have h9 := P1.out (2 ^ n) W HN.out
    simpa using h9
  have Q3 : Hid (∀ W, Calls Tryz.prog 74 #[.int .u64 ((yb : Int) / 2), .int .i64 (n : Int)] W fun e w' => NewVec W ((n : Int) + 1) m (wordsN (yb / 2)) e w') := fun W => by
    have h9 := P1.out (yb / 2) W (by omega)
    simpa using h9
  have Q4 : Hid (∀ W, Calls Tryz.prog 74 #[.int .u64 (ye : Int), .int .i64 (n : Int)] W fun e w' => NewVec W ((n : Int) + 1) m (wordsN ye) e w') := fun W => by
    have h9 := P1.out ye W lE
    simpa using h9
  have Q5 : Hid (∀ W, Calls Tryz.prog 74 #[.int .u64 (sk : Int), .int .i64 (n : Int)] W fun e w' => NewVec W ((n : Int) + 1) m (wordsN sk) e w') := fun W => by
    have h9 := P1.out sk W (by omega)
    simpa using h9
  clear P1
  go_enter Tryz.func97, Tryz.ntmps97
  go_wp2_with fail
  generalize w.alloc (.cells #[.int .i64 0, .slice none 0 0, .int .i64 0, .slice none 0 0, .int .i64 0, .slice none 0 0, .int .i64 0, .slice none 0 0, .int .i64 0, .slice none 0 0] 45) = v0 at *
  refine C.mono ?_
  rintro e w1 ⟨b, sk', lo, rfl, hbl, hb1, hsk, hlo, hrow⟩
  obtain rfl := HSK.out.uniq hsk
  have X1 : Hid (MBox w1 w.heap.size 0 (fun _ => none) 0 (fun _ => 0)) := q0.2.1.kept hb1 rfl
  have S1 : Hid (Since w w1) := since_call (since_call (since_refl _) q0.1) hb1
  have k1 := hrow.c1
  have bl1 := hrow.lt
  have hv0 := q0.2.2
  clear C hb1 hsk hlo hrow q0
  go_wp2_with fail
  go_quiet (fail)
  go_wp2_with fail
  go_quiet (fail)
  go_wp2_with fail
  have bd : ∀ k, Below w1.heap.size w1 (w1.drewN k) := fun _ => ⟨rfl, rfl, rfl, Nat.le_refl _, fun _ _ => rfl⟩
  have hwx := X1.out.lt
  have hnb : w.heap.size ≠ b := by omega
  go_region_held3 (fun W => W.cell? ⟨b, 1, none⟩ = some (.int .u64 (sk : Int))) (go_keep) (first | (go_at_call 74; (with_reducible refine (Q1.out _).mono ?_); rintro e u1 ⟨s1, c1, rfl, hb, ho⟩; unfold vecV; have HB1 : Hid (Below w1.heap.size w1 u1) := (bd _).trans hb; have HO1 : Hid (OwnS u1 w1.heap.size s1 m (wordsN 1)) := ho; have X2 : Hid (MBox u1 w.heap.size 0 (fun _ => none) 0 (fun _ => 0)) := X1.out.kept HB1.out rfl; have k2 := (HB1.out.cell (p := ⟨b, 1, none⟩) bl1).trans k1; have bl2 := Nat.lt_of_lt_of_le bl1 HB1.out.size; clear hb ho) | (go_at_call 74; (with_reducible refine (Q2.out _).mono ?_); rintro e u2 ⟨s2, c2, rfl, hb, ho⟩; unfold vecV; have HB2 : Hid (Below u1.heap.size u1 u2) := hb; have HO2 : Hid (OwnS u2 u1.heap.size s2 m (wordsN (2 ^ n))) := ho; have X3 : Hid (MBox u2 w.heap.size 0 (fun _ => none) 0 (fun _ => 0)) := X2.out.kept HB2.out rfl; have k3 := (HB2.out.cell (p := ⟨b, 1, none⟩) bl2).trans k2; have bl3 := Nat.lt_of_lt_of_le bl2 HB2.out.size; clear hb ho) | (go_at_call 74; (with_reducible refine (Q3.out _).mono ?_); rintro e u3 ⟨s3, c3, rfl, hb, ho⟩; unfold vecV; have HB3 : Hid (Below u2.heap.size u2 u3) := hb; have HO3 : Hid (OwnS u3 u2.heap.size s3 m (wordsN (yb / 2))) := ho; have X4 : Hid (MBox u3 w.heap.size 0 (fun _ => none) 0 (fun _ => 0)) := X3.out.kept HB3.out rfl; have k4 := (HB3.out.cell (p := ⟨b, 1, none⟩) bl3).trans k3; have bl4 := Nat.lt_of_lt_of_le bl3 HB3.out.size; clear hb ho) | (go_at_call 74; (with_reducible refine (Q4.out _).mono ?_); rintro e u4 ⟨s4, c4, rfl, hb, ho⟩; unfold vecV; have HB4 : Hid (Below u3.heap.size u3 u4) := hb; have HO4 : Hid (OwnS u4 u3.heap.size s4 m (wordsN ye)) := ho; have X5 : Hid (MBox u4 w.heap.size 0 (fun _ => none) 0 (fun _ => 0)) := X4.out.kept HB4.out rfl; have k5 := (HB4.out.cell (p := ⟨b, 1, none⟩) bl4).trans k4; have bl5 := Nat.lt_of_lt_of_le bl4 HB4.out.size; clear hb ho) | (go_at_call 74; (with_reducible refine (Q5.out _).mono ?_); rintro e u5 ⟨s5, c5, rfl, hb, ho⟩; unfold vecV; have HB5 : Hid (Below u4.heap.size u4 u5) := hb; have HO5 : Hid (OwnS u5 u4.heap.size s5 m (wordsN sk)) := ho; have X6 : Hid (MBox u5 w.heap.size 0 (fun _ => none) 0 (fun _ => 0)) := X5.out.kept HB5.out rfl; have k6 := (HB5.out.cell (p := ⟨b, 1, none⟩) bl5).trans k5; have bl6 := Nat.lt_of_lt_of_le bl5 HB5.out.size; obtain ⟨a0, a1, a2, a3, a4, a5, a6, a7, a8, a9⟩ := X6.out.cells; obtain ⟨f0, f1, f2, f3, f4, f5, f6, f7, f8, f9⟩ := X6.out.free; have xl := X6.out.lt; clear hb ho))
  all_goals
    go_wp2_with fail
    refine bodyPost_ret (v := masksV ((n : Int) + 1) (five s1 s2 s3 s4 s5) m (five c1 c2 c3 c4 c5)) (by simp [results, Tryz.results97, go_sem, masksV, five, a0, a1, a2, a3, a4, a5, a6, a7, a8, a9]) rfl ?_
    refine masks_new S1.out hwx HB1.out HB2.out HB3.out HB4.out HB5.out HO1.out HO2.out HO3.out HO4.out HO5.out ?_
    iterate 10 (refine OnlyM.set ?_ (Nat.le_refl _) (Nat.lt_succ_self _))
    exact OnlyM.refl _ _ _
end Go.Proofs.YtlgnplnmcdjbiaaGreat
namespace Go.Proofs.YtlgnplnmcdjbiaaGreat
open Go.RowKit

theorem bits_shlN {a s : Nat} (ha : a < 2 ^ 32) (hs : s ≤ 32) : IsBits (a * 2 ^ s) (fun j => decide (s ≤ j) && a.testBit (j - s)) := by
  refine ⟨?_, fun j => ?_⟩
  · have h1 : 2 ^ s ≤ 2 ^ 32 := Nat.pow_le_pow_right (by decide) hs
    calc a * 2 ^ s < 2 ^ 32 * 2 ^ s := Nat.mul_lt_mul_of_pos_right ha (Nat.pow_pos (by decide))
      _ ≤ 2 ^ 32 * 2 ^ 32 := Nat.mul_le_mul_left _ h1
      _ = 18446744073709551616 := by decide
  · rw [Nat.mul_comm, Nat.testBit_two_pow_mul]
/-- The bits of the first k words. -/
def firstW (P : Nat → Bool) (k : Nat) : Nat → Bool := fun j => decide (j < 32 * k) && P j
theorem word_or {b a k : Nat} {P : Nat → Bool} (hb : IsBits b (firstW P k)) (ha : a < 2 ^ 32) (hk : k < 2) (h : ∀ q, q < 32 → a.testBit q = P (32 * k + q)) : IsBits (b ||| a * 2 ^ (k * 32)) (firstW P (k + 1)) :=
  (hb.or (bits_shlN ha (by omega))).congr (fun j => by
    unfold firstW
    by_cases h1 : j < 32 * k
    · rw [decide_eq_true h1, decide_eq_false (show ¬ k * 32 ≤ j by omega), decide_eq_true (show j < 32 * (k + 1) by omega)]
      simp
    · rw [decide_eq_false h1, decide_eq_true (show k * 32 ≤ j by omega)]
      by_cases h2 : j < 32 * (k + 1)
      · rw [decide_eq_true h2, h (j - k * 32) (by omega), show 32 * k + (j - k * 32) = j by omega]
        simp
      · rw [decide_eq_false h2, Nat.testBit_lt_two_pow (Nat.lt_of_lt_of_le ha (Nat.pow_le_pow_right (by decide) (by omega)))]
        simp)
set_option maxRecDepth 100000 in
set_option maxHeartbeats 4000000 in
theorem placesOf_any (b : Int) (sa : Option Addr) (m cap : Nat) (f : Nat → Int) (P : Nat → Bool) (w : World) (hm : m ≤ 2) (hr : Row w w.heap.size sa m f) (hv : VecIs f P m) (hP : ∀ j, 32 * m ≤ j → P j = false) :
    Calls Tryz.prog 32 #[.agg #[.int .i64 b, .slice sa m cap]] w fun e w' => ∃ x : Nat, e = .returned (.int .u64 (x : Int)) ∧ IsBits x P ∧ Below w.heap.size w w' := by
  have HV : Hid (VecIs f P m) := hv
  have HP : Hid (∀ j, 32 * m ≤ j → P j = false) := hP
  have HR : Hid (Row w w.heap.size sa m f) := hr
  have q1 := boxing w 26 b sa m cap
  clear hr hv hP
  go_enter Tryz.func32, Tryz.ntmps32
  go_wp2_with fail
  generalize w.alloc (.cells #[.int .i64 b, .slice sa m cap] 26) = v1 at *
  go_loopw [3, 9] (fun ov iv wr => ∃ k x : Nat, k ≤ m ∧ iv = .int .i64 (k : Int) ∧ ov = .int .u64 (x : Int) ∧ wr = v1 ∧ IsBits x (firstW P k)) (fun _ iv _ => m - (intOf iv).toNat)
  case atStart => exact ⟨0, 0, Nat.zero_le _, rfl, rfl, rfl, bits_zero.congr (fun j => by unfold firstW; rw [decide_eq_false (by omega)]; rfl)⟩
  case round =>
    obtain ⟨k, x, hk, rfl, rfl, rfl, hx⟩ := hrel
    have HX : Hid (IsBits x (firstW P k)) := hx
    clear hx
    by_cases hkl : k < m
    · obtain ⟨bb, off, rfl, hbb, hca⟩ : ∃ bb off : Nat, sa = some ⟨bb, off, none⟩ ∧ bb < w.heap.size ∧ ∀ i, i < m → w.cell? ⟨bb, off + i, none⟩ = some (.int .i64 (f i)) := by
        rcases HR.out with h | h
        · omega
        · exact h
      obtain ⟨a, e1, h1, h2⟩ := HV.out k hkl
      have ck : wr.cell? ⟨bb, off + k, none⟩ = some (.int .i64 (a : Int)) := by rw [q1.1.cell (p := ⟨bb, off + k, none⟩) hbb, ← e1]; exact hca k hkl
      have HN : Hid (IsBits (x ||| a * 2 ^ (k * 32)) (firstW P (k + 1))) := word_or HX.out h1 (by omega) h2
      have hwa : IntKind.u64.wrap (a : Int) = (a : Int) := by rw [IntKind.wrap_u64]; omega
      obtain ⟨s, hs⟩ : ∃ s, k * 32 = s := ⟨_, rfl⟩
      have hsi : (k : Int) * 32 = (s : Int) := by omega
      have hs0 : (0 : Int) ≤ (s : Int) := by omega
      have hs64 : (s : Int) < 64 := by omega
      rw [hs] at HN
      have hlt := (bits_shlN (s := s) h1 (by omega)).lt
      have hwp : IntKind.u64.wrap ((a : Int) * 2 ^ s) = ((a * 2 ^ s : Nat) : Int) := by
        rw [show (a : Int) * 2 ^ s = ((a * 2 ^ s : Nat) : Int) by simp, IntKind.wrap_u64]
        omega
      have hor : bits .or .u64 (x : Int) ((a * 2 ^ s : Nat) : Int) = ((x ||| a * 2 ^ s : Nat) : Int) := or64 HX.out.lt hlt
      generalize x ||| a * 2 ^ s = x2 at *
      generalize ((a * 2 ^ s : Nat) : Int) = y at *
      have hki : (k : Int) < (m : Int) := by omega
      have hk0 : (0 : Int) ≤ (k : Int) := by omega
      clear hca h1 h2 e1 hlt
      go_wp2_with fail
      go_roundw
      case rel => exact ⟨k + 1, x2, by omega, by go_num, rfl, by first | rfl | trivial, HN.out⟩
      case measure => simp [intOf]; omega
    · have hki : ¬ (k : Int) < (m : Int) := by omega
      obtain rfl : k = m := by omega
      go_wp2_with fail
      go_ret
      exact ⟨x, rfl, HX.out.congr (fun j => by
        unfold firstW
        by_cases h : j < 32 * k
        · rw [decide_eq_true h, Bool.true_and]
        · rw [decide_eq_false h, HP.out j (by omega)]; rfl), q1.1⟩
/-- A right vector of so many places. -/
def OfRow (b : Int) (m : Nat) (f : Nat → Int) (n : Nat) : Prop := Right b m f ∧ b = (n : Int) + 1
open Classical in
set_option maxRecDepth 100000 in
set_option maxHeartbeats 4000000 in
theorem isOfRow_any (b : Int) (sa : Option Addr) (m cap n : Nat) (f : Nat → Int) (w : World) (hn : n ≤ 60) (hm : m ≤ 1048576) (hr : Row w w.heap.size sa m f) :
    Calls Tryz.prog 30 #[.agg #[.int .i64 b, .slice sa m cap], .int .i64 (n : Int)] w fun e w' => e = .returned (.bool (decide (OfRow b m f n))) ∧ Below w.heap.size w w' := by
  have q1 := boxing w 26 b sa m cap
  have C := implRight_any b sa m cap f (w.alloc (.cells #[.int .i64 b, .slice sa m cap] 26)) hm (row_since hr ⟨q1.1⟩)
  clear hr
  by_cases h1 : Right b m f
  · rw [decide_eq_true h1] at C
    by_cases h2 : b = (n : Int) + 1
    · rw [decide_eq_true (show OfRow b m f n from ⟨h1, h2⟩)]
      subst h2
      clear h1
      go_enter Tryz.func30, Tryz.ntmps30
      go_wp2_with fail
      generalize w.alloc (.cells #[.int .i64 ((n : Int) + 1), .slice sa m cap] 26) = v1 at *
      refine C.mono ?_
      rintro e w2 ⟨rfl, hb2⟩
      obtain ⟨a0, a1⟩ := (q1.2.1.kept hb2 rfl).cells
      have B2 : Hid (Below w.heap.size w w2) := q1.1.trans (hb2.mono q1.1.size)
      clear C hb2 q1
      go_wp2_with fail
      go_ret
      exact ⟨rfl, B2.out⟩
    · rw [decide_eq_false (show ¬ OfRow b m f n from fun h => h2 h.2)]
      have h3 : (b == (n : Int) + 1) = false := by simpa using h2
      clear h1
      go_enter Tryz.func30, Tryz.ntmps30
      go_wp2_with fail
      generalize w.alloc (.cells #[.int .i64 b, .slice sa m cap] 26) = v1 at *
      refine C.mono ?_
      rintro e w2 ⟨rfl, hb2⟩
      obtain ⟨a0, a1⟩ := (q1.2.1.kept hb2 rfl).cells
      have B2 : Hid (Below w.heap.size w w2) := q1.1.trans (hb2.mono q1.1.size)
      clear C hb2 q1
      go_wp2_with fail
      go_ret
      exact ⟨rfl, B2.out⟩
  · rw [decide_eq_false (show ¬ OfRow b m f n from fun h => h1 h.1)]
    rw [decide_eq_false h1] at C
    clear h1
    go_enter Tryz.func30, Tryz.ntmps30
    go_wp2_with fail
    generalize w.alloc (.cells #[.int .i64 b, .slice sa m cap] 26) = v1 at *
    refine C.mono ?_
    rintro e w2 ⟨rfl, hb2⟩
    have B2 : Hid (Below w.heap.size w w2) := q1.1.trans (hb2.mono q1.1.size)
    clear C hb2 q1
    go_wp2_with fail
    go_ret
    exact ⟨rfl, B2.out⟩
end Go.Proofs.YtlgnplnmcdjbiaaGreat
namespace Go.Proofs.YtlgnplnmcdjbiaaGreat
open Go.RowKit

theorem first_ex (f : Nat → Cel) {n : Nat} (hn : n ≤ 60) : ∃ x, IsBits x (firstB (skipB f n)) := ⟨_, bits_valB (fun j hj => by unfold firstB; rw [skip_le f n (j + 1) (by omega)]; rfl)⟩
theorem last_ex (f : Nat → Cel) {n : Nat} (hn : n ≤ 60) : ∃ x, IsBits x (lastB (skipB f n)) := ⟨_, bits_valB (fun j hj => by unfold lastB; rw [skip_le f n j (by omega)]; rfl)⟩
theorem skip_ex (f : Nat → Cel) {n : Nat} (hn : n ≤ 60) : ∃ x, IsBits x (skipB f n) := ⟨_, bits_valB (fun j hj => skip_le f n j (by omega))⟩
end Go.Proofs.YtlgnplnmcdjbiaaGreat
