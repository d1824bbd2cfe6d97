/- What is proved here: the program's MasksOf hands back the five vectors of a row of cells in new memory, or nothing; nothing that was there turns.
   What is said here: the specification's five vectors are those of a row's runs.
   What is said here: there are numbers that have the bits of a row's runs.
   What is proved here: the inputs that FnClose draws: some cells and some vector; five vectors and one; some cells. -/
import Derived.Test.YtlgnplnmcdjbiaaQImplCRightWToPVecW
import Derived.Test.YtlgnplnmcdjbiaaQCellDToMaskD
import Derived.Test.YtlgnplnmcdjbiaaQL02SetWToSpecMaskW
import Derived.Test.YtlgnplnmcdjbiaaQClassRowWToClassAlg
import Derived.Deep.RegionHeld3
import Derived.Test.YtlgnplnmcdjbiaaQSpecMaskLW
import Derived.Test.YtlgnplnmcdjbiaaQDrawCloWToDrawSomeW
import Derived.Test.YtlgnplnmcdjbiaaQDrawBytesWToBoolRowsW
import Derived.Test.YtlgnplnmcdjbiaaQMask5MarkWToBehindW
import Derived.BigRegion
namespace Go.Proofs.Ytlgnplnmcdjbiaa
open Go.RowKit

set_option maxRecDepth 100000 in
set_option maxHeartbeats 4000000 in
theorem implMasks_no (sa : Option Addr) (n cap : Nat) (f : Nat → Cel) (w : World) (hn : n ≤ maxLen) (hr : CRow w w.heap.size sa n f) (hc : ∀ i, i < n → (f i).c.size ≤ maxLen) (h : ¬ CellsOk n f) :
    Calls Try.prog 39 #[.slice sa n cap] w fun e w' => NewMasks w 0 0 (fun _ _ => 0) e w' := by
  have q0 := mboxing w 0 (fun _ => none) 0 (fun _ => 0)
  have C := rowOf_no sa n cap f (w.alloc (.cells #[.int .i64 0, .slice none 0 0, .int .i64 0, .slice none 0 0, .int .i64 0, .slice none 0 0, .int .i64 0, .slice none 0 0, .int .i64 0, .slice none 0 0] 50)) hn ((hr.kept q0.1).up q0.1.size) hc h
  clear hn hr hc h
  go_enter Try.func39, Try.ntmps39
  go_wp2_with fail
  generalize w.alloc (.cells #[.int .i64 0, .slice none 0 0, .int .i64 0, .slice none 0 0, .int .i64 0, .slice none 0 0, .int .i64 0, .slice none 0 0, .int .i64 0, .slice none 0 0] 50) = v0 at *
  refine C.mono ?_
  rintro e w1 ⟨rfl, hb1⟩
  obtain ⟨a0, a1, a2, a3, a4, a5, a6, a7, a8, a9⟩ := (q0.2.1.kept hb1 rfl).cells
  obtain ⟨f0, f1, f2, f3, f4, f5, f6, f7, f8, f9⟩ := (q0.2.1.kept hb1 rfl).free
  have S1 : Hid (Since w w1) := since_call (since_call (since_refl _) q0.1) hb1
  have l1 : w.heap.size < w1.heap.size := (q0.2.1.kept hb1 rfl).lt
  clear C hb1 q0
  go_wp2_with fail
  refine bodyPost_ret (v := masksV 0 (fun _ => none) 0 (fun _ => 0)) (by simp [results, Try.results39, go_sem, masksV, a0, a1, a2, a3, a4, a5, a6, a7, a8, a9]) rfl ?_
  refine ⟨_, _, fun _ => w.heap.size, rfl, ?_, ⟨Or.inl rfl, Or.inl rfl, Or.inl rfl, Or.inl rfl, Or.inl rfl, by omega⟩, Nat.le_refl _, ?_⟩
  · have hs := S1.out
    repeat (refine Since.below ?_)
    iterate 10 (refine since_set ?_ (by show w.heap.size ≤ w.heap.size; omega))
    exact hs
  · simp [World.setCell]; omega
theorem bits_shr {a : Nat} {P : Nat → Bool} (h : IsBits a P) : IsBits (a / 2) (fun j => P (j + 1)) :=
  ⟨by have := h.lt; omega, fun j => by rw [← Nat.testBit_succ]; exact h.bit (j + 1)⟩
/-- Six bounds. -/
def six (a0 a1 a2 a3 a4 a5 : Nat) : Nat → Nat := fun i => match i with
  | 0 => a0
  | 1 => a1
  | 2 => a2
  | 3 => a3
  | 4 => a4
  | _ => a5
theorem OnlyM.set {W W' : World} {lo hi : Nat} {p : Addr} {v : Value} (h : OnlyM W W' lo hi) (h1 : lo ≤ p.block) (h2 : p.block < hi) : OnlyM W (W'.setCell p v) lo hi :=
  ⟨h.os, h.tape, h.output, by simpa [World.setCell] using h.size, fun k hk hd => by rw [Below.heap_setCell _ _ _ _ (fun e => by omega)]; exact h.block k hk hd⟩
theorem masks_new {w w1 u1 u2 u3 u4 u5 v : World} {b : Int} {m : Nat} {s1 s2 s3 s4 s5 : Option Addr} {c1 c2 c3 c4 c5 : Nat} {F : Nat → Nat → Int} (hS : Since w w1) (hlt : w.heap.size < w1.heap.size)
    (hb1 : Below w1.heap.size w1 u1) (hb2 : Below u1.heap.size u1 u2) (hb3 : Below u2.heap.size u2 u3) (hb4 : Below u3.heap.size u3 u4) (hb5 : Below u4.heap.size u4 u5)
    (ho1 : OwnS u1 w1.heap.size s1 m (F 0)) (ho2 : OwnS u2 u1.heap.size s2 m (F 1)) (ho3 : OwnS u3 u2.heap.size s3 m (F 2)) (ho4 : OwnS u4 u3.heap.size s4 m (F 3)) (ho5 : OwnS u5 u4.heap.size s5 m (F 4))
    (hv : OnlyM u5 v w.heap.size (w.heap.size + 1)) : NewMasks w b m F (.returned (masksV b (five s1 s2 s3 s4 s5) m (five c1 c2 c3 c4 c5))) v := by
  have z1 := hb1.size
  have z2 := hb2.size
  have z3 := hb3.size
  have z4 := hb4.size
  have z5 := hb5.size
  have z6 := hv.size
  have S5 : Since w u5 := since_call (since_call (since_call (since_call (since_call hS hb1) hb2) hb3) hb4) hb5
  refine ⟨_, _, six w1.heap.size u1.heap.size u2.heap.size u3.heap.size u4.heap.size u5.heap.size, rfl, S5.below.trans (hv.below (Nat.le_refl _) S5.below.size), ⟨?_, ?_, ?_, ?_, ?_, ⟨z1, z2, z3, z4, z5⟩⟩, Nat.le_of_lt hlt, z6⟩
  · exact ((((ho1.slice.kept hb2 rfl).kept hb3 rfl).kept hb4 rfl).kept hb5 rfl).onlyM hv (Or.inr hlt)
  · exact (((ho2.slice.kept hb3 rfl).kept hb4 rfl).kept hb5 rfl).onlyM hv (Or.inr (show _ ≤ u1.heap.size by omega))
  · exact ((ho3.slice.kept hb4 rfl).kept hb5 rfl).onlyM hv (Or.inr (show _ ≤ u2.heap.size by omega))
  · exact (ho4.slice.kept hb5 rfl).onlyM hv (Or.inr (show _ ≤ u3.heap.size by omega))
  · exact ho5.slice.onlyM hv (Or.inr (show _ ≤ u4.heap.size by omega))
/-- The words of five vectors. -/
def masksF (n xb xe sk : Nat) : Nat → Nat → Int := five (wordsN 1) (wordsN (2 ^ n)) (wordsN xb) (wordsN xe) (wordsN sk)
set_option maxRecDepth 100000 in
set_option maxHeartbeats 4000000 in
theorem implMasks_yes (sa : Option Addr) (n cap m xb xe sk : Nat) (f : Nat → Cel) (w : World) (hn : n ≤ maxLen) (hr : CRow w w.heap.size sa n f) (hc : ∀ i, i < n → (f i).c.size ≤ maxLen) (h : CellsOk n f) (hm : m = (n + 1 + 31) / 32)
    (hb : IsBits xb (fun j => behind (fun i => (f i).k) n (j + 1) && !(decide (1 ≤ j + 1) && behind (fun i => (f i).k) n (j + 1 - 1)))) (he : IsBits xe (fun j => behind (fun i => (f i).k) n j && !behind (fun i => (f i).k) n (j + 1))) (hk : IsBits sk (behind (fun i => (f i).k) n)) :
    Calls Try.prog 39 #[.slice sa n cap] w fun e w' => NewMasks w ((n : Int) + 1) m (masksF n xb xe sk) e w' := by
  have hn60 := h.2.1
  have q0 := mboxing w 0 (fun _ => none) 0 (fun _ => 0)
  have C := rowOf_yes sa n cap f (w.alloc (.cells #[.int .i64 0, .slice none 0 0, .int .i64 0, .slice none 0 0, .int .i64 0, .slice none 0 0, .int .i64 0, .slice none 0 0, .int .i64 0, .slice none 0 0] 50)) hn ((hr.kept q0.1).up q0.1.size) hc h
  have hskl := lt_pow_of hk (behind_le _ n)
  have hp61 : 2 ^ (n + 1) ≤ 2 ^ 61 := Nat.pow_le_pow_right (by decide) (by omega)
  have hsk62 : sk < 2305843009213693952 := by omega
  have sB := bits_andNot hk (bits_shl hk (fun j hj => behind_le _ n j (by omega)))
  have sE := bits_andNot hk (bits_shr hk)
  obtain rfl := (bits_shr sB).uniq hb
  obtain rfl := sE.uniq he
  have e1 : bits .andNot .u64 (sk : Int) ((sk : Int) * 2) = ((sk ^^^ (sk &&& sk * 2) : Nat) : Int) := andNot64 (b := sk * 2) hk.lt
  have e2 : bits .andNot .u64 (sk : Int) ((sk : Int) / 2) = ((sk ^^^ (sk &&& sk / 2) : Nat) : Int) := andNot64 (b := sk / 2) hk.lt
  have lB := sB.lt
  have lE := sE.lt
  have HSK : Hid (IsBits sk (behind (fun i => (f i).k) n)) := hk
  have lN : 2 ^ n < 18446744073709551616 := pow_lt64 (by omega)
  have HN : Hid (2 ^ n < 18446744073709551616) := lN
  have hwn : IntKind.u64.wrap ((2 : Int) ^ n) = (2 : Int) ^ n := by
    rw [show (2 : Int) ^ n = ((2 ^ n : Nat) : Int) by simp, IntKind.wrap_u64]
    omega
  have P1 : Hid (∀ (x : Nat) (W : World), x < 18446744073709551616 → Calls Try.prog 102 #[.int .u64 (x : Int), .int .i64 (n : Int)] W fun e w' => NewVec W ((n : Int) + 1) m (wordsN x) e w') := fun x W hx => pvec_any x n m W hx hn60 hm
  clear hn hr hc h hm hb he hk hskl hp61 sB sE
  generalize sk ^^^ (sk &&& sk * 2) = yb at *
  generalize sk ^^^ (sk &&& sk / 2) = ye at *
  have Q1 : Hid (∀ W, Calls Try.prog 102 #[.int .u64 1, .int .i64 (n : Int)] W fun e w' => NewVec W ((n : Int) + 1) m (wordsN 1) e w') := fun W => by
    have h9 := P1.out 1 W (by omega)
    simpa using h9
  have Q2 : Hid (∀ W, Calls Try.prog 102 #[.int .u64 ((2 : Int) ^ n), .int .i64 (n : Int)] W fun e w' => NewVec W ((n : Int) + 1) m (wordsN (2 ^ n)) e w') := fun W => by
    have h9 := P1.out (2 ^ n) W HN.out
    simpa using h9
  have Q3 : Hid (∀ W, Calls Try.prog 102 #[.int .u64 ((yb : Int) / 2), .int .i64 (n : Int)] W fun e w' => NewVec W ((n : Int) + 1) m (wordsN (yb / 2)) e w') := fun W => by
    have h9 := P1.out (yb / 2) W (by omega)
    simpa using h9
  have Q4 : Hid (∀ W, Calls Try.prog 102 #[.int .u64 (ye : Int), .int .i64 (n : Int)] W fun e w' => NewVec W ((n : Int) + 1) m (wordsN ye) e w') := fun W => by
    have h9 := P1.out ye W lE
    simpa using h9
  have Q5 : Hid (∀ W, Calls Try.prog 102 #[.int .u64 (sk : Int), .int .i64 (n : Int)] W fun e w' => NewVec W ((n : Int) + 1) m (wordsN sk) e w') := fun W => by
    have h9 := P1.out sk W (by omega)
    simpa using h9
  clear P1
  go_enter Try.func39, Try.ntmps39
  go_wp2_with fail
  generalize w.alloc (.cells #[.int .i64 0, .slice none 0 0, .int .i64 0, .slice none 0 0, .int .i64 0, .slice none 0 0, .int .i64 0, .slice none 0 0, .int .i64 0, .slice none 0 0] 50) = v0 at *
  refine C.mono ?_
  rintro e w1 ⟨b, sk', lo, rfl, hbl, hb1, hsk, hlo, hrow⟩
  obtain rfl := HSK.out.uniq hsk
  have X1 : Hid (MBox w1 w.heap.size 0 (fun _ => none) 0 (fun _ => 0)) := q0.2.1.kept hb1 rfl
  have S1 : Hid (Since w w1) := since_call (since_call (since_refl _) q0.1) hb1
  have k1 := hrow.c1
  have bl1 := hrow.lt
  have hv0 := q0.2.2
  clear C hb1 hsk hlo hrow q0
  go_wp2_with fail
  go_quiet (fail)
  go_wp2_with fail
  go_quiet (fail)
  go_wp2_with fail
  have bd : ∀ k, Below w1.heap.size w1 (w1.drewN k) := fun _ => ⟨rfl, rfl, rfl, Nat.le_refl _, fun _ _ => rfl⟩
  have hwx := X1.out.lt
  have hnb : w.heap.size ≠ b := by omega
  go_region_held3 (fun W => W.cell? ⟨b, 1, none⟩ = some (.int .u64 (sk : Int))) (go_keep) (first | (go_at_call 102; (with_reducible refine (Q1.out _).mono ?_); rintro e u1 ⟨s1, c1, rfl, hb, ho⟩; unfold vecV; have HB1 : Hid (Below w1.heap.size w1 u1) := (bd _).trans hb; have HO1 : Hid (OwnS u1 w1.heap.size s1 m (wordsN 1)) := ho; have X2 : Hid (MBox u1 w.heap.size 0 (fun _ => none) 0 (fun _ => 0)) := X1.out.kept HB1.out rfl; have k2 := (HB1.out.cell (p := ⟨b, 1, none⟩) bl1).trans k1; have bl2 := Nat.lt_of_lt_of_le bl1 HB1.out.size; clear hb ho) | (go_at_call 102; (with_reducible refine (Q2.out _).mono ?_); rintro e u2 ⟨s2, c2, rfl, hb, ho⟩; unfold vecV; have HB2 : Hid (Below u1.heap.size u1 u2) := hb; have HO2 : Hid (OwnS u2 u1.heap.size s2 m (wordsN (2 ^ n))) := ho; have X3 : Hid (MBox u2 w.heap.size 0 (fun _ => none) 0 (fun _ => 0)) := X2.out.kept HB2.out rfl; have k3 := (HB2.out.cell (p := ⟨b, 1, none⟩) bl2).trans k2; have bl3 := Nat.lt_of_lt_of_le bl2 HB2.out.size; clear hb ho) | (go_at_call 102; (with_reducible refine (Q3.out _).mono ?_); rintro e u3 ⟨s3, c3, rfl, hb, ho⟩; unfold vecV; have HB3 : Hid (Below u2.heap.size u2 u3) := hb; have HO3 : Hid (OwnS u3 u2.heap.size s3 m (wordsN (yb / 2))) := ho; have X4 : Hid (MBox u3 w.heap.size 0 (fun _ => none) 0 (fun _ => 0)) := X3.out.kept HB3.out rfl; have k4 := (HB3.out.cell (p := ⟨b, 1, none⟩) bl3).trans k3; have bl4 := Nat.lt_of_lt_of_le bl3 HB3.out.size; clear hb ho) | (go_at_call 102; (with_reducible refine (Q4.out _).mono ?_); rintro e u4 ⟨s4, c4, rfl, hb, ho⟩; unfold vecV; have HB4 : Hid (Below u3.heap.size u3 u4) := hb; have HO4 : Hid (OwnS u4 u3.heap.size s4 m (wordsN ye)) := ho; have X5 : Hid (MBox u4 w.heap.size 0 (fun _ => none) 0 (fun _ => 0)) := X4.out.kept HB4.out rfl; have k5 := (HB4.out.cell (p := ⟨b, 1, none⟩) bl4).trans k4; have bl5 := Nat.lt_of_lt_of_le bl4 HB4.out.size; clear hb ho) | (go_at_call 102; (with_reducible refine (Q5.out _).mono ?_); rintro e u5 ⟨s5, c5, rfl, hb, ho⟩; unfold vecV; have HB5 : Hid (Below u4.heap.size u4 u5) := hb; have HO5 : Hid (OwnS u5 u4.heap.size s5 m (wordsN sk)) := ho; have X6 : Hid (MBox u5 w.heap.size 0 (fun _ => none) 0 (fun _ => 0)) := X5.out.kept HB5.out rfl; have k6 := (HB5.out.cell (p := ⟨b, 1, none⟩) bl5).trans k5; have bl6 := Nat.lt_of_lt_of_le bl5 HB5.out.size; obtain ⟨a0, a1, a2, a3, a4, a5, a6, a7, a8, a9⟩ := X6.out.cells; obtain ⟨f0, f1, f2, f3, f4, f5, f6, f7, f8, f9⟩ := X6.out.free; have xl := X6.out.lt; clear hb ho))
  all_goals
    go_wp2_with fail
    refine bodyPost_ret (v := masksV ((n : Int) + 1) (five s1 s2 s3 s4 s5) m (five c1 c2 c3 c4 c5)) (by simp [results, Try.results39, go_sem, masksV, five, a0, a1, a2, a3, a4, a5, a6, a7, a8, a9]) rfl ?_
    refine masks_new S1.out hwx HB1.out HB2.out HB3.out HB4.out HB5.out HO1.out HO2.out HO3.out HO4.out HO5.out ?_
    iterate 10 (refine OnlyM.set ?_ (Nat.le_refl _) (Nat.lt_succ_self _))
    exact OnlyM.refl _ _ _
end Go.Proofs.Ytlgnplnmcdjbiaa
namespace Go.Proofs.Ytlgnplnmcdjbiaa
open Go.RowKit

theorem masksAt_new {w w' : World} {n m xb xe sk : Nat} {f : Nat → Cel} {e : Ending} (hn : n ≤ 60) (h : MasksAt w n m f e w') (hb : IsBits xb (firstB (skipB f n))) (he : IsBits xe (lastB (skipB f n))) (hk : IsBits sk (skipB f n)) : NewMasks w ((n : Int) + 1) m (masksF n xb xe sk) e w' := by
  obtain ⟨g0, g1, g2, g3, g4, c0, c1, c2, c3, c4, h0, h1, h2, h3, h4, rfl, hbl, hl, o0, o1, o2, o3, o4, v0, v1, v2, v3, v4⟩ := h
  have e0 : IsBits 1 (fun j => decide (0 = j)) := bits_pow (k := 0) (by omega)
  have e1 : IsBits (2 ^ n) (fun j => decide (n = j)) := bits_pow (by omega)
  have z4 := o4.1
  refine ⟨_, _, six g0 g1 g2 g3 g4 (g4 + 1), rfl, hbl, ⟨Or.inr ⟨g0, rfl, Nat.le_refl _, hl.2.1, ?_⟩, Or.inr ⟨g1, rfl, Nat.le_refl _, hl.2.2.1, ?_⟩, Or.inr ⟨g2, rfl, Nat.le_refl _, hl.2.2.2.1, ?_⟩, Or.inr ⟨g3, rfl, Nat.le_refl _, hl.2.2.2.2, ?_⟩, Or.inr ⟨g4, rfl, Nat.le_refl _, Nat.lt_succ_self _, ?_⟩, ?_⟩, Nat.le_of_lt hl.1, z4⟩
  · exact o0.congr (fun i hi => v0.uniq (vecIs_words e0 m) i hi)
  · exact o1.congr (fun i hi => v1.uniq (vecIs_words e1 m) i hi)
  · exact o2.congr (fun i hi => v2.uniq (vecIs_words hb m) i hi)
  · exact o3.congr (fun i hi => v3.uniq (vecIs_words he m) i hi)
  · exact o4.congr (fun i hi => v4.uniq (vecIs_words hk m) i hi)
  · show g0 ≤ g1 ∧ g1 ≤ g2 ∧ g2 ≤ g3 ∧ g3 ≤ g4 ∧ g4 ≤ g4 + 1
    omega
end Go.Proofs.Ytlgnplnmcdjbiaa
namespace Go.Proofs.Ytlgnplnmcdjbiaa
open Go.RowKit

theorem first_ex (f : Nat → Cel) {n : Nat} (hn : n ≤ 60) : ∃ x, IsBits x (firstB (skipB f n)) := ⟨_, bits_valB (fun j hj => by unfold firstB; rw [skip_le f n (j + 1) (by omega)]; rfl)⟩
theorem last_ex (f : Nat → Cel) {n : Nat} (hn : n ≤ 60) : ∃ x, IsBits x (lastB (skipB f n)) := ⟨_, bits_valB (fun j hj => by unfold lastB; rw [skip_le f n j (by omega)]; rfl)⟩
theorem skip_ex (f : Nat → Cel) {n : Nat} (hn : n ≤ 60) : ∃ x, IsBits x (skipB f n) := ⟨_, bits_valB (fun j hj => skip_le f n j (by omega))⟩
end Go.Proofs.Ytlgnplnmcdjbiaa
namespace Go.Proofs.Ytlgnplnmcdjbiaa
open Go.RowKit

theorem OnlyM.ofGrown {W W' : World} {b : Nat} (h : W.grownBy W' (some b)) : OnlyM W W' b (b + 1) := ⟨h.os, h.tape, h.output, h.size, fun k hk hd => h.block k hk (fun e => by injection e with e; omega)⟩
theorem FarV.onlyM {W W' : World} {lo a z n : Nat} {s : Option Addr} {f : Nat → Int} (h : FarV W lo s n f) (ho : OnlyM W W' a z) (hd : z ≤ lo) : FarV W' lo s n f := by
  rcases h with h | ⟨bb, off, h1, h2, h3, h4⟩
  · exact Or.inl h
  · have hb := ho.block bb h3 (Or.inr (by omega))
    exact Or.inr ⟨bb, off, h1, h2, Nat.lt_of_lt_of_le h3 ho.size, fun i hi => by have := h4 i hi; simpa [World.cell?, hb] using this⟩
/-- Some cells and some vector. -/
def CelVecAny (e : Ending) (w' : World) : Prop :=
  ∃ (s : Option Addr) (n cp : Nat) (f : Nat → Cel) (bv : Int) (sv : Option Addr) (m cv : Nat) (g : Nat → Int), e = .returned (.tuple #[.slice s n cp, .agg #[.int .i64 bv, .slice sv m cv]]) ∧ n ≤ 60 ∧ CRow w' w'.heap.size s n f ∧ (∀ i, i < n → (f i).c.size ≤ 256) ∧ m ≤ 1000 ∧ Row w' w'.heap.size sv m g
set_option maxRecDepth 100000 in
set_option maxHeartbeats 4000000 in
theorem drawCloseOver_any (w : World) (sa : Option Addr) (len cap : Nat) (hl : len ≤ 1048576) (hby : Bytes8 w w.heap.size sa len) :
    Calls Try.prog 29 #[.slice sa len cap] w fun e w' => CelVecAny e w' ∧ Below w.heap.size w w' := by
  have q0 := boxing w 45 0 none 0 0
  have HY : Hid (Bytes8 (w.alloc (.cells #[.int .i64 0, .slice none 0 0] 45)) (w.alloc (.cells #[.int .i64 0, .slice none 0 0] 45)).heap.size sa len) := by
    have h1 : Bytes8 (w.alloc (.cells #[.int .i64 0, .slice none 0 0] 45)) w.heap.size sa len := hby.kept (row := none) (grown_call (World.grownBy.refl _ _) q0.1) (fun k hk => by cases hk)
    rcases h1 with h | ⟨bb, off, zs, h1, h2, h3⟩
    · exact Or.inl h
    · exact Or.inr ⟨bb, off, zs, h1, Nat.lt_of_lt_of_le h2 q0.1.size, h3⟩
  clear hby
  go_enter Try.func29, Try.ntmps29
  go_wp2_with fail
  generalize w.alloc (.cells #[.int .i64 0, .slice none 0 0] 45) = v0 at *
  refine (source_any v0 sa len cap hl HY.out).mono ?_
  rintro e w1 ⟨rfl, hb1, hS1⟩
  have B1 : Hid (Below w.heap.size w w1) := q0.1.trans (hb1.mono q0.1.size)
  have X1 : Hid (Boxed w1 w.heap.size 45 0 none 0 0) := q0.2.1.kept hb1 rfl
  have S1 : Hid (Src w1 v0.heap.size sa len cap) := hS1
  have hv0 : v0.heap.size = w.heap.size + 1 := q0.2.2
  have HV0 : Hid (v0.heap.size = w.heap.size + 1) := hv0
  clear hb1 hS1 HY q0 hv0
  generalize v0.heap.size = b at *
  go_wp2_with fail
  refine (l07Some_any w1 b sa len cap S1.out).mono ?_
  rintro e w2 ⟨⟨s, n, cp, f, bv, sv, m, cv, g, rfl, hn, hsl, hsm, hm, hfar⟩, hg2, hS2⟩
  have ho := OnlyM.ofGrown hg2
  have X2 : Hid (Boxed w2 w.heap.size 45 0 none 0 0) := X1.out.onlyM ho (by have := HV0.out; omega)
  have B2 : Hid (Below w.heap.size w w2) := B1.out.trans (ho.below (by have := HV0.out; omega) B1.out.size)
  have C2 : Hid (CSl w2 w1.heap.size w2.heap.size s n f ∧ (∀ i, i < n → (f i).c.size ≤ 256) ∧ FarV w2 w1.heap.size sv m g ∧ w.heap.size < w1.heap.size) := ⟨hsl, hsm, hfar, X1.out.lt⟩
  obtain ⟨a0, a1, a2, a3⟩ := X2.out.four
  have xl := X2.out.lt
  clear hsl hsm hfar hg2 hS2 ho
  go_wp2_with fail
  refine bodyPost_ret (v := .tuple #[.slice s n cp, .agg #[.int .i64 bv, .slice sv m cv]]) (by simp [results, Try.results29, go_sem, a0, a1]) rfl ?_
  have hl9 := C2.out.2.2.2
  exact ⟨⟨s, n, cp, f, bv, sv, m, cv, g, rfl, hn, by have h9 := ((C2.out.1.setLow ⟨w.heap.size, 0, none⟩ (.int .i64 bv) hl9).setLow ⟨w.heap.size, 1, none⟩ (.slice sv m cv) hl9).row; simpa [World.setCell] using h9, C2.out.2.1, hm, ((C2.out.2.2.1.setLow _ _ (by show w.heap.size < w1.heap.size; omega)).setLow _ _ (by show w.heap.size < w1.heap.size; omega)).row⟩, (B2.out.setCell (p := ⟨w.heap.size, 0, none⟩) (Nat.le_refl _) _).setCell (p := ⟨w.heap.size, 1, none⟩) (Nat.le_refl _) _⟩
set_option maxRecDepth 100000 in
set_option maxHeartbeats 4000000 in
theorem drawStartOf_any (w : World) (sa : Option Addr) (len cap : Nat) (hl : len ≤ 1048576) (hby : Bytes8 w w.heap.size sa len) :
    Calls Try.prog 32 #[.slice sa len cap] w fun e w' => (∃ (s : Option Addr) (n cp : Nat) (f : Nat → Cel), e = .returned (.slice s n cp) ∧ n ≤ 60 ∧ CRow w' w'.heap.size s n f ∧ ∀ i, i < n → (f i).c.size ≤ 256) ∧ Below w.heap.size w w' := by
  have HY : Hid (Bytes8 w w.heap.size sa len) := hby
  clear hby
  go_enter Try.func32, Try.ntmps32
  go_wp2_with fail
  refine (source_any w sa len cap hl HY.out).mono ?_
  rintro e w1 ⟨rfl, hb1, hS1⟩
  have HB1 : Hid (Below w.heap.size w w1) := hb1
  have HS1 : Hid (Src w1 w.heap.size sa len cap) := hS1
  clear hb1 hS1 HY
  go_wp2_with fail
  refine (l06Cells_any _ w.heap.size sa len cap HS1.out).mono ?_
  rintro e w2 ⟨⟨s, n, cp, f, rfl, hn60, hsl, hsm⟩, hg2, hS2⟩
  have HB2 : Hid (Below w.heap.size w w2) := below_of_only HB1.out (Nat.le_refl _) HB1.out.size hg2
  have HF : Hid (CRow w2 w2.heap.size s n f ∧ ∀ i, i < n → (f i).c.size ≤ 256) := ⟨hsl.row, hsm⟩
  clear hg2 hS2 hsl hsm HB1
  go_wp2_with fail
  go_ret
  exact ⟨⟨s, n, cp, f, rfl, hn60, HF.out.1, HF.out.2⟩, HB2.out⟩
/-- The masks of some cells. -/
theorem masks_any (s : Option Addr) (n cp : Nat) (f : Nat → Cel) (hn : n ≤ 60) (hsm : ∀ i, i < n → (f i).c.size ≤ 256) : ∃ (b : Int) (m : Nat) (F : Nat → Nat → Int), m ≤ 2 ∧ ∀ W, CRow W W.heap.size s n f → Calls Try.prog 103 #[.slice s n cp] W fun e w' => NewMasks W b m F e w' := by
  have hm : n ≤ maxLen := by unfold maxLen; omega
  have hc' : ∀ i, i < n → (f i).c.size ≤ maxLen := fun i hi => by have := hsm i hi; unfold maxLen; omega
  by_cases h : CellsOk n f
  · obtain ⟨xb, hb⟩ := first_ex f hn
    obtain ⟨xe, he⟩ := last_ex f hn
    obtain ⟨sk, hk⟩ := skip_ex f hn
    exact ⟨(n : Int) + 1, (n + 1 + 31) / 32, masksF n xb xe sk, by omega,
      fun W hr => specMasks_yes s n cp _ f _ W hm hr hc' h (fun W' hy' => (l06Masks_any s n cp _ f W' h.1 hn hy' rfl).mono (fun _ _ h9 => masksAt_new hn h9 hb he hk))⟩
  · exact ⟨0, 0, fun _ _ => 0, by omega, fun W hr => specMasks_no s n cp f W hm hr hc' h⟩
/-- Five vectors and one. -/
def FiveAndOne (e : Ending) (w' : World) : Prop :=
  ∃ (b : Nat → Int) (s : Nat → Option Addr) (n c : Nat → Nat) (F : Nat → Nat → Int) (bv : Int) (sv : Option Addr) (m cv : Nat) (g : Nat → Int), e = .returned (.tuple #[m5V b s n c, .agg #[.int .i64 bv, .slice sv m cv]]) ∧ (∀ i, i < 5 → n i ≤ 1000) ∧ M5Row w' s n F ∧ m ≤ 1000 ∧ Row w' w'.heap.size sv m g
end Go.Proofs.Ytlgnplnmcdjbiaa
