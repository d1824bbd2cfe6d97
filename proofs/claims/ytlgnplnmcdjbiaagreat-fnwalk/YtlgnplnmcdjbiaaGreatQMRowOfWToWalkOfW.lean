/- What is proved here: the program makes a row and its masks ready, in new blocks, or hands back none; nothing that was there turns.
   What is said here: a row's table as it is filled, in its block.
   What is said here: a row whose table is not made yet, or is made.
   What is proved here: the program makes a walk that stands where each begins, tells where it stands, and tells where each begins; nothing that was there turns. -/
import Derived.Test.YtlgnplnmcdjbiaaGreatQImplCRightWToPVecW
import Derived.Test.YtlgnplnmcdjbiaaGreatQImplMaskWToSkipExM
import Derived.Deep.RegionHeld3
namespace Go.Proofs.YtlgnplnmcdjbiaaGreat
open Go.RowKit

theorem skip_ok (f : Nat → Cel) (n : Nat) {fi la bl st fin : Nat} (h1 : IsBits fi (firstB (skipB f n))) (h2 : IsBits la (lastB (skipB f n))) (h3 : IsBits bl (skipB f n)) (h4 : IsBits st (fun j => decide (0 = j))) (h5 : IsBits fin (fun j => decide (n = j))) : MasksOk (skipB f n) n fi la bl st fin :=
  ⟨skip_zero f n, skip_le f n, h1, h2, h3, h4, h5⟩
theorem mrow_new (W : World) (b y1 y2 y3 y4 y5 : Nat) (t : TypeId) : MRow (W.alloc (.cells #[.pointer (some ⟨b, 0, none⟩), .int .u64 (y1 : Int), .int .u64 (y2 : Int), .int .u64 (y3 : Int), .int .u64 (y4 : Int), .int .u64 (y5 : Int)] t)) W.heap.size b y1 y2 y3 y4 y5 :=
  ⟨by simp, by simp, by simp, by simp, by simp, by simp, by simp⟩
theorem mrowOf_no (sa : Option Addr) (n cap : Nat) (f : Nat → Cel) (w : World) (hn : n ≤ maxLen) (hr : CRow w w.heap.size sa n f) (hc : ∀ i, i < n → (f i).c.size ≤ maxLen) (h : ¬ CellsOk n f) :
    Calls Tryz.prog 71 #[.slice sa n cap] w fun e w' => e = .returned (.pointer none) ∧ Below w.heap.size w w' := by
  have C := rowOf_no sa n cap f w hn hr hc h
  clear hn hr hc h
  go_enter Tryz.func71, Tryz.ntmps71
  go_wp2_with fail
  refine C.mono ?_
  rintro e w1 ⟨rfl, hb1⟩
  have B1 : Hid (Below w.heap.size w w1) := hb1
  clear hb1 C
  go_wp2_with fail
  go_ret
  exact ⟨rfl, B1.out⟩
/-- A row that is made ready, with its masks. -/
def NewMRow (w : World) (sa : Option Addr) (n cap : Nat) (f : Nat → Cel) (e : Ending) (w' : World) : Prop :=
  ∃ r b sk lo fi la bl st fin : Nat, e = .returned (.pointer (some ⟨r, 0, none⟩)) ∧ w.heap.size ≤ b ∧ b < r ∧ Below w.heap.size w w' ∧ IsBits sk (behind (fun i => (f i).k) n) ∧ IsBits lo (behind (fun i => (f i).o) n) ∧ KRow w' b sa n cap sk lo 0 0 (fun _ => 0) ∧ MRow w' r b fi la bl st fin ∧ MasksOk (skipB f n) n fi la bl st fin
set_option maxRecDepth 100000 in
set_option maxHeartbeats 4000000 in
theorem mrowOf_yes (sa : Option Addr) (n cap : Nat) (f : Nat → Cel) (w : World) (hn : n ≤ maxLen) (hr : CRow w w.heap.size sa n f) (hc : ∀ i, i < n → (f i).c.size ≤ maxLen) (h : CellsOk n f) :
    Calls Tryz.prog 71 #[.slice sa n cap] w fun e w' => NewMRow w sa n cap f e w' := by
  have C := rowOf_yes sa n cap f w hn hr hc h
  have hn60 := h.2.1
  obtain ⟨xb, hb⟩ := first_ex f hn60
  obtain ⟨xe, he⟩ := last_ex f hn60
  obtain ⟨xs, hk⟩ := skip_ex f hn60
  obtain ⟨m, hm⟩ : ∃ m, m = (n + 1 + 31) / 32 := ⟨_, rfl⟩
  have hm2 : m ≤ 2 := by omega
  have hmn : ∀ j, 32 * m ≤ j → n < j := fun j hj => by omega
  have HMS : Hid (∀ W, Since w W → Calls Tryz.prog 97 #[.slice sa n cap] W fun e w' => NewMasks W ((n : Int) + 1) m (masksF n xb xe xs) e w') := fun W hW =>
    implMasks_yes sa n cap m xb xe xs f W hn ((hr.kept hW.below).up hW.size) hc h hm (hb.congr (fun j => by unfold firstB skipB; simp)) he hk
  have ZB := vecIs_words hb m
  have ZE := vecIs_words he m
  have ZK := vecIs_words hk m
  have e0 : IsBits 1 (fun j => decide (0 = j)) := bits_pow (k := 0) (by omega)
  have e1 : IsBits (2 ^ n) (fun j => decide (n = j)) := bits_pow (by omega)
  have Z0 := vecIs_words e0 m
  have Z1 := vecIs_words e1 m
  have HPL : Hid (∀ (x : Nat) (P : Nat → Bool) (s : Option Addr) (c : Nat) (W : World), VecIs (wordsN x) P m → (∀ j, n < j → P j = false) → Row W W.heap.size s m (wordsN x) → Calls Tryz.prog 32 #[.agg #[.int .i64 ((n : Int) + 1), .slice s m c]] W fun e w' => ∃ y : Nat, e = .returned (.int .u64 (y : Int)) ∧ IsBits y P ∧ Below W.heap.size W w') := fun x P s c W hv hP hrow =>
    placesOf_any ((n : Int) + 1) s m c (wordsN x) P W hm2 hrow hv (fun j hj => hP j (hmn j hj))
  have HZ : Hid (VecIs (wordsN xb) (firstB (skipB f n)) m ∧ VecIs (wordsN xe) (lastB (skipB f n)) m ∧ VecIs (wordsN xs) (skipB f n) m ∧ VecIs (wordsN 1) (fun j => decide (0 = j)) m ∧ VecIs (wordsN (2 ^ n)) (fun j => decide (n = j)) m) := ⟨ZB, ZE, ZK, Z0, Z1⟩
  clear hn hr hc h hm hm2 hmn ZB ZE ZK Z0 Z1 e0 e1 hb he hk
  go_enter Tryz.func71, Tryz.ntmps71
  go_wp2_with fail
  refine C.mono ?_
  rintro e w1 ⟨b, sk, lo, rfl, hbl, hb1, hsk, hlo, hrow⟩
  have S1 : Hid (Since w w1) := ⟨hb1⟩
  have HSK : Hid (IsBits sk (behind (fun i => (f i).k) n) ∧ IsBits lo (behind (fun i => (f i).o) n) ∧ w.heap.size ≤ b) := ⟨hsk, hlo, hbl⟩
  have K1 : Hid (KRow w1 b sa n cap sk lo 0 0 (fun _ => 0)) := hrow
  clear C hb1 hsk hlo hrow hbl
  go_wp2_with fail
  refine (HMS.out w1 S1.out).mono ?_
  rintro e w2 ⟨s, c, hh, rfl, hb2, hms, hh0, hh5⟩
  unfold masksV
  have S2 : Hid (Since w w2) := since_call S1.out hb2
  have K2 : Hid (KRow w2 b sa n cap sk lo 0 0 (fun _ => 0)) := K1.out.kept hb2 K1.out.lt
  obtain ⟨s0, hs0⟩ : ∃ x, s 0 = x := ⟨_, rfl⟩
  obtain ⟨s1, hs1⟩ : ∃ x, s 1 = x := ⟨_, rfl⟩
  obtain ⟨s2, hs2⟩ : ∃ x, s 2 = x := ⟨_, rfl⟩
  obtain ⟨s3, hs3⟩ : ∃ x, s 3 = x := ⟨_, rfl⟩
  obtain ⟨s4, hs4⟩ : ∃ x, s 4 = x := ⟨_, rfl⟩
  obtain ⟨c0, hc0⟩ : ∃ x, c 0 = x := ⟨_, rfl⟩
  obtain ⟨c1, hc1⟩ : ∃ x, c 1 = x := ⟨_, rfl⟩
  obtain ⟨c2, hc2⟩ : ∃ x, c 2 = x := ⟨_, rfl⟩
  obtain ⟨c3, hc3⟩ : ∃ x, c 3 = x := ⟨_, rfl⟩
  obtain ⟨c4, hc4⟩ : ∃ x, c 4 = x := ⟨_, rfl⟩
  have q3 := mboxing w2 ((n : Int) + 1) s m c
  have hms3 := hms.kept q3.1
  rw [hs0, hs1, hs2, hs3, hs4, hc0, hc1, hc2, hc3, hc4] at q3 hms3 ⊢
  go_wp2_with fail
  generalize w2.alloc (.cells #[.int .i64 ((n : Int) + 1), .slice s0 m c0, .int .i64 ((n : Int) + 1), .slice s1 m c1, .int .i64 ((n : Int) + 1), .slice s2 m c2, .int .i64 ((n : Int) + 1), .slice s3 m c3, .int .i64 ((n : Int) + 1), .slice s4 m c4] 45) = v3 at *
  have S3 : Hid (Since w v3) := since_call S2.out q3.1
  have K3 : Hid (KRow v3 b sa n cap sk lo 0 0 (fun _ => 0)) := K2.out.kept q3.1 K2.out.lt
  have bd : Below v3.heap.size v3 v3.drew := ⟨rfl, rfl, rfl, Nat.le_refl _, fun _ _ => rfl⟩
  obtain ⟨p, hp⟩ : ∃ p, w2.heap.size = p := ⟨_, rfl⟩
  have hpl := q3.2.1.lt
  have HC : Hid (∀ W, Below v3.heap.size v3 W → (W.cell? ⟨p, 0, none⟩ = some (.int .i64 ((n : Int) + 1)) ∧ W.cell? ⟨p, 1, none⟩ = some (.slice s0 m c0) ∧ W.cell? ⟨p, 2, none⟩ = some (.int .i64 ((n : Int) + 1)) ∧ W.cell? ⟨p, 3, none⟩ = some (.slice s1 m c1) ∧ W.cell? ⟨p, 4, none⟩ = some (.int .i64 ((n : Int) + 1)) ∧ W.cell? ⟨p, 5, none⟩ = some (.slice s2 m c2) ∧ W.cell? ⟨p, 6, none⟩ = some (.int .i64 ((n : Int) + 1)) ∧ W.cell? ⟨p, 7, none⟩ = some (.slice s3 m c3) ∧ W.cell? ⟨p, 8, none⟩ = some (.int .i64 ((n : Int) + 1)) ∧ W.cell? ⟨p, 9, none⟩ = some (.slice s4 m c4)) ∧ p < W.heap.size) := fun W hW => by
    have h9 := (q3.2.1.kept hW rfl).cells
    rw [hs0, hs1, hs2, hs3, hs4, hc0, hc1, hc2, hc3, hc4, hp] at h9
    exact ⟨h9, by rw [← hp]; exact Nat.lt_of_lt_of_le hpl hW.size⟩
  have Q1 : Hid (∀ W, Below v3.heap.size v3 W → Calls Tryz.prog 32 #[.agg #[.int .i64 ((n : Int) + 1), .slice s2 m c2]] W fun e w' => ∃ y : Nat, e = .returned (.int .u64 (y : Int)) ∧ IsBits y (firstB (skipB f n)) ∧ Below W.heap.size W w') := fun W hW => by
    have h9 : Row v3 v3.heap.size s2 m (wordsN xb) := by rw [← hs2]; exact hms3.r2.row
    exact HPL.out _ _ s2 c2 W HZ.out.1 (fun j hj => by unfold firstB; rw [skip_le f n (j + 1) (by omega)]; rfl) ((h9.kept hW).up hW.size)
  have Q2 : Hid (∀ W, Below v3.heap.size v3 W → Calls Tryz.prog 32 #[.agg #[.int .i64 ((n : Int) + 1), .slice s3 m c3]] W fun e w' => ∃ y : Nat, e = .returned (.int .u64 (y : Int)) ∧ IsBits y (lastB (skipB f n)) ∧ Below W.heap.size W w') := fun W hW => by
    have h9 : Row v3 v3.heap.size s3 m (wordsN xe) := by rw [← hs3]; exact hms3.r3.row
    exact HPL.out _ _ s3 c3 W HZ.out.2.1 (fun j hj => by unfold lastB; rw [skip_le f n j hj]; rfl) ((h9.kept hW).up hW.size)
  have Q3 : Hid (∀ W, Below v3.heap.size v3 W → Calls Tryz.prog 32 #[.agg #[.int .i64 ((n : Int) + 1), .slice s4 m c4]] W fun e w' => ∃ y : Nat, e = .returned (.int .u64 (y : Int)) ∧ IsBits y (skipB f n) ∧ Below W.heap.size W w') := fun W hW => by
    have h9 : Row v3 v3.heap.size s4 m (wordsN xs) := by rw [← hs4]; exact hms3.r4.row
    exact HPL.out _ _ s4 c4 W HZ.out.2.2.1 (fun j hj => skip_le f n j hj) ((h9.kept hW).up hW.size)
  have Q4 : Hid (∀ W, Below v3.heap.size v3 W → Calls Tryz.prog 32 #[.agg #[.int .i64 ((n : Int) + 1), .slice s0 m c0]] W fun e w' => ∃ y : Nat, e = .returned (.int .u64 (y : Int)) ∧ IsBits y (fun j => decide (0 = j)) ∧ Below W.heap.size W w') := fun W hW => by
    have h9 : Row v3 v3.heap.size s0 m (wordsN 1) := by rw [← hs0]; exact hms3.r0.row
    exact HPL.out _ _ s0 c0 W HZ.out.2.2.2.1 (fun j hj => decide_eq_false (by omega)) ((h9.kept hW).up hW.size)
  have Q5 : Hid (∀ W, Below v3.heap.size v3 W → Calls Tryz.prog 32 #[.agg #[.int .i64 ((n : Int) + 1), .slice s1 m c1]] W fun e w' => ∃ y : Nat, e = .returned (.int .u64 (y : Int)) ∧ IsBits y (fun j => decide (n = j)) ∧ Below W.heap.size W w') := fun W hW => by
    have h9 : Row v3 v3.heap.size s1 m (wordsN (2 ^ n)) := by rw [← hs1]; exact hms3.r1.row
    exact HPL.out _ _ s1 c1 W HZ.out.2.2.2.2 (fun j hj => decide_eq_false (by omega)) ((h9.kept hW).up hW.size)
  have hb9 := q3.1
  rw [hp] at hb9 ⊢
  obtain ⟨⟨a0, a1, a2, a3, a4, a5, a6, a7, a8, a9⟩, al⟩ := HC.out v3 (Below.refl _ _)
  clear hms hms3 q3 hb9 hpl hb2 HPL HMS hh0 hh5
  go_region_held3 (fun W => W.cell? ⟨p, 0, none⟩ = some (.int .i64 ((n : Int) + 1)) ∧ W.cell? ⟨p, 1, none⟩ = some (.slice s0 m c0) ∧ W.cell? ⟨p, 2, none⟩ = some (.int .i64 ((n : Int) + 1)) ∧ W.cell? ⟨p, 3, none⟩ = some (.slice s1 m c1) ∧ W.cell? ⟨p, 4, none⟩ = some (.int .i64 ((n : Int) + 1)) ∧ W.cell? ⟨p, 5, none⟩ = some (.slice s2 m c2) ∧ W.cell? ⟨p, 6, none⟩ = some (.int .i64 ((n : Int) + 1)) ∧ W.cell? ⟨p, 7, none⟩ = some (.slice s3 m c3) ∧ W.cell? ⟨p, 8, none⟩ = some (.int .i64 ((n : Int) + 1)) ∧ W.cell? ⟨p, 9, none⟩ = some (.slice s4 m c4)) (go_keep) (first | (go_at_call 32; (with_reducible refine (Q1.out _ bd).mono ?_); rintro e u1 ⟨y1, rfl, hy, hb⟩; have HB1 : Hid (Below v3.heap.size v3 u1) := bd.trans hb; have HY1 : Hid (IsBits y1 (firstB (skipB f n))) := hy; obtain ⟨⟨b0, b1, b2, b3, b4, b5, b6, b7, b8, b9⟩, bl⟩ := HC.out u1 HB1.out; clear hb hy) | (go_at_call 32; (with_reducible refine (Q2.out _ HB1.out).mono ?_); rintro e u2 ⟨y2, rfl, hy, hb⟩; have HB2 : Hid (Below v3.heap.size v3 u2) := HB1.out.trans (hb.mono HB1.out.size); have HY2 : Hid (IsBits y2 (lastB (skipB f n))) := hy; obtain ⟨⟨c0, c1, c2, c3, c4, c5, c6, c7, c8, c9⟩, cl⟩ := HC.out u2 HB2.out; clear hb hy) | (go_at_call 32; (with_reducible refine (Q3.out _ HB2.out).mono ?_); rintro e u3 ⟨y3, rfl, hy, hb⟩; have HB3 : Hid (Below v3.heap.size v3 u3) := HB2.out.trans (hb.mono HB2.out.size); have HY3 : Hid (IsBits y3 (skipB f n)) := hy; obtain ⟨⟨d0, d1, d2, d3, d4, d5, d6, d7, d8, d9⟩, dl⟩ := HC.out u3 HB3.out; clear hb hy) | (go_at_call 32; (with_reducible refine (Q4.out _ HB3.out).mono ?_); rintro e u4 ⟨y4, rfl, hy, hb⟩; have HB4 : Hid (Below v3.heap.size v3 u4) := HB3.out.trans (hb.mono HB3.out.size); have HY4 : Hid (IsBits y4 (fun j => decide (0 = j))) := hy; obtain ⟨⟨f0, f1, f2, f3, f4, f5, f6, f7, f8, f9⟩, fl⟩ := HC.out u4 HB4.out; clear hb hy) | (go_at_call 32; (with_reducible refine (Q5.out _ HB4.out).mono ?_); rintro e u5 ⟨y5, rfl, hy, hb⟩; have HB5 : Hid (Below v3.heap.size v3 u5) := HB4.out.trans (hb.mono HB4.out.size); have HY5 : Hid (IsBits y5 (fun j => decide (n = j))) := hy; obtain ⟨⟨g0, g1, g2, g3, g4, g5, g6, g7, g8, g9⟩, gl⟩ := HC.out u5 HB5.out; clear hb hy))
  go_wp2_with fail
  go_ret
  have hal : Below v3.heap.size v3 (u5.alloc (.cells #[.pointer (some ⟨b, 0, none⟩), .int .u64 (y1 : Int), .int .u64 (y2 : Int), .int .u64 (y3 : Int), .int .u64 (y4 : Int), .int .u64 (y5 : Int)] 99)) := HB5.out.alloc HB5.out.size _
  have hkl := K3.out.lt
  have hsz := HB5.out.size
  exact ⟨u5.heap.size, b, sk, lo, y1, y2, y3, y4, y5, rfl, HSK.out.2.2, by omega, (since_call S3.out hal).below, HSK.out.1, HSK.out.2.1, K3.out.kept hal hkl, mrow_new u5 b y1 y2 y3 y4 y5 _, skip_ok f n HY1.out HY2.out HY3.out HY4.out HY5.out⟩
end Go.Proofs.YtlgnplnmcdjbiaaGreat
namespace Go.Proofs.YtlgnplnmcdjbiaaGreat
open Go.RowKit

theorem only_setK {a w : World} {b i : Nat} {v : Value} (h : a.grownBy w (some b)) : a.grownBy (w.setCell ⟨b, i, none⟩ v) (some b) :=
  h.trans ⟨rfl, rfl, rfl, by simp [World.setCell], fun k _ hk => Below.heap_setCell _ _ _ _ (fun e => hk (by simp [e]))⟩
theorem grown_drewK {a w : World} {b : Nat} (h : a.grownBy w (some b)) : a.grownBy w.drew (some b) := ⟨h.os, h.tape, h.output, h.size, h.block⟩
theorem KRow.drew {W : World} {b : Nat} {sa : Option Addr} {n cap sk lo : Nat} {d u : Int} {tab : Nat → Nat} (h : KRow W b sa n cap sk lo d u tab) : KRow W.drew b sa n cap sk lo d u tab := ⟨h.c0, h.c1, h.c2, h.c3, h.c4, h.tb, h.fr, h.lt⟩
theorem KRow.set {W : World} {b : Nat} {sa : Option Addr} {n cap sk lo : Nat} {d u : Int} {tab : Nat → Nat} (h : KRow W b sa n cap sk lo d u tab) {x : Nat} (hx : x < 256) (v : Nat) : KRow (W.setCell ⟨b, 6 + x, none⟩ (.int .u64 (v : Int))) b sa n cap sk lo d u (fun j => if j = x then v else tab j) := by
  have hne : ∀ {i : Nat}, i ≠ 6 + x → (⟨b, 6 + x, none⟩ : Addr) ≠ ⟨b, i, none⟩ := fun hi hh => hi (by injection hh with _ h2; exact h2.symm)
  refine ⟨?_, ?_, ?_, ?_, ?_, fun j hj => ?_, fun j hj => by rw [World.frozen?_setCell]; exact h.fr j hj, by simpa [World.setCell] using h.lt⟩
  · rw [World.cell?_setCell_other _ _ _ _ (hne (by omega))]; exact h.c0
  · rw [World.cell?_setCell_other _ _ _ _ (hne (by omega))]; exact h.c1
  · rw [World.cell?_setCell_other _ _ _ _ (hne (by omega))]; exact h.c2
  · rw [World.cell?_setCell_other _ _ _ _ (hne (by omega))]; exact h.c3
  · rw [World.cell?_setCell_other _ _ _ _ (hne (by omega))]; exact h.c4
  · by_cases e : j = x
    · subst e
      rw [World.cell?_setCell_same _ _ _ (h.tb j hj)]
      simp
    · rw [World.cell?_setCell_other _ _ _ _ (hne (by omega)), h.tb j hj]
      simp [e]
/-- The table of a row that is filled for the first k cells, and for the first m bytes of the next one. -/
def TabTo (f : Nat → Cel) (k m : Nat) (tab : Nat → Nat) : Prop := ∀ c, c < 256 → IsBits (tab c) (fun j => behind (fun i => hasByte (f i).c c) k j || (decide (k + 1 = j) && hasUpTo (f k).c m c))
def TabAt (f : Nat → Cel) (k : Nat) (tab : Nat → Nat) : Prop := ∀ c, c < 256 → IsBits (tab c) (behind (fun i => hasByte (f i).c c) k)
theorem tab_zero (f : Nat → Cel) : TabAt f 0 (fun _ => 0) := fun _ _ => behind_zero _
theorem tab_begin {f : Nat → Cel} {k : Nat} {tab : Nat → Nat} (h : TabAt f k tab) : TabTo f k 0 tab := fun c hc => (h c hc).congr (fun j => by rw [hasUpTo_zero, Bool.and_false, Bool.or_false])
theorem tab_end {f : Nat → Cel} {k : Nat} {tab : Nat → Nat} (h : TabTo f k (f k).c.size tab) : TabAt f (k + 1) tab := fun c hc => (h c hc).congr (fun j => by
  rw [hasUpTo_all]
  unfold behind
  by_cases e : k + 1 = j
  · subst e
    simp
  · rw [decide_eq_false e, Bool.false_and, Bool.or_false]
    by_cases e2 : 1 ≤ j ∧ j ≤ k
    · rw [decide_eq_true e2, decide_eq_true (show 1 ≤ j ∧ j ≤ k + 1 by omega)]
    · rw [decide_eq_false e2, decide_eq_false (show ¬ (1 ≤ j ∧ j ≤ k + 1) by omega)])
theorem tab_step {f : Nat → Cel} {k m : Nat} {tab : Nat → Nat} (h : TabTo f k m tab) (hk : k < 63) (hm : m < (f k).c.size) : TabTo f k (m + 1) (fun j => if j = (f k).c[m].toNat then tab j ||| 2 ^ (k + 1) else tab j) := fun c hc => by
  show IsBits (if c = (f k).c[m].toNat then tab c ||| 2 ^ (k + 1) else tab c) _
  by_cases e : c = (f k).c[m].toNat
  · rw [if_pos e]
    refine ((h c hc).or (bits_pow (by omega))).congr (fun j => ?_)
    rw [hasUpTo_succ _ _ _ hm]
    have : ((f k).c[m].toNat == c) = true := by rw [e]; simp
    rw [this]
    by_cases e2 : k + 1 = j
    · subst e2; simp
    · simp [e2]
  · rw [if_neg e]
    refine (h c hc).congr (fun j => ?_)
    rw [hasUpTo_succ _ _ _ hm]
    have : ((f k).c[m].toNat == c) = false := by simp; exact fun h => e h.symm
    rw [this, Bool.or_false]
theorem cells_grown {w W : World} {b n : Nat} {sa : Option Addr} {f : Nat → Cel} (h : CRow w b sa n f) (hg : w.grownBy W (some b)) (hb : b < w.heap.size) : CRow W b sa n f :=
  h.kept ⟨hg.os, hg.tape, hg.output, hg.size, fun j hj => hg.block j (by omega) (fun e => by injection e with e; omega)⟩
theorem KRow.alloc {W : World} {b : Nat} {sa : Option Addr} {n cap sk lo : Nat} {d u : Int} {tab : Nat → Nat} (h : KRow W b sa n cap sk lo d u tab) (o : Obj) : KRow (W.alloc o) b sa n cap sk lo d u tab := h.kept (B := W.heap.size) ((Below.refl _ _).alloc (Nat.le_refl _) _) h.lt
theorem CRow.atK {w : World} {B n k : Nat} {sa : Option Addr} {f : Nat → Cel} (h : CRow w B sa n f) (hk : k < n) : ∃ bb off : Nat, sa = some ⟨bb, off, none⟩ ∧ bb < B ∧ CellAt w bb (off + k * 3) (f k) := by
  rcases h with h | ⟨bb, off, h1, h2, h3⟩
  · omega
  · exact ⟨bb, off, h1, h2, h3 k hk⟩
end Go.Proofs.YtlgnplnmcdjbiaaGreat
namespace Go.Proofs.YtlgnplnmcdjbiaaGreat
open Go.RowKit

/-- A row that is ready: its table is not made yet, or it is made. -/
def Ready (W : World) (b : Nat) (sa : Option Addr) (n cap sk lo : Nat) (f : Nat → Cel) : Prop := KRow W b sa n cap sk lo 0 0 (fun _ => 0) ∨ ∃ tab, KRow W b sa n cap sk lo 1 0 tab ∧ TabAt f n tab
theorem Ready.cells {W : World} {b : Nat} {sa : Option Addr} {n cap sk lo : Nat} {f : Nat → Cel} (h : Ready W b sa n cap sk lo f) : W.cell? ⟨b, 1, none⟩ = some (.int .u64 (sk : Int)) ∧ W.cell? ⟨b, 2, none⟩ = some (.int .u64 (lo : Int)) ∧ b < W.heap.size := by
  rcases h with h | ⟨tab, h, _⟩
  · exact ⟨h.c1, h.c2, h.lt⟩
  · exact ⟨h.c1, h.c2, h.lt⟩
theorem Ready.kept {W W' : World} {B b : Nat} {sa : Option Addr} {n cap sk lo : Nat} {f : Nat → Cel} (h : Ready W b sa n cap sk lo f) (hb : Below B W W') (hB : b < B) : Ready W' b sa n cap sk lo f := by
  rcases h with h | ⟨tab, h, h2⟩
  · exact Or.inl (h.kept hb hB)
  · exact Or.inr ⟨tab, h.kept hb hB, h2⟩
end Go.Proofs.YtlgnplnmcdjbiaaGreat
namespace Go.Proofs.YtlgnplnmcdjbiaaGreat
open Go.RowKit

/-- Where each begins. -/
def startB (f : Nat → Cel) (n : Nat) : Nat → Bool := cloB (skipB f n) (fun j => decide (0 = j))
theorem start_le (f : Nat → Cel) (n : Nat) : ∀ j, n < j → startB f n j = false := fun j hj => clo_le (skip_le f n) (fun j hj => decide_eq_false (by omega)) j hj
/-- A walk in its block. -/
structure WBox (W : World) (q r be at' : Nat) : Prop where
  c0 : W.cell? ⟨q, 0, none⟩ = some (.pointer (some ⟨r, 0, none⟩))
  c1 : W.cell? ⟨q, 1, none⟩ = some (.int .u64 (be : Int))
  c2 : W.cell? ⟨q, 2, none⟩ = some (.int .u64 (at' : Int))
  f2 : W.frozen? ⟨q, 2, none⟩ = false
  lt : q < W.heap.size
theorem WBox.kept {W W' : World} {B q r be a : Nat} (h : WBox W q r be a) (hb : Below B W W') (hB : q < B) : WBox W' q r be a :=
  ⟨by rw [hb.cell (p := ⟨q, 0, none⟩) hB]; exact h.c0, by rw [hb.cell (p := ⟨q, 1, none⟩) hB]; exact h.c1, by rw [hb.cell (p := ⟨q, 2, none⟩) hB]; exact h.c2, by rw [hb.frozen (p := ⟨q, 2, none⟩) hB]; exact h.f2, Nat.lt_of_lt_of_le h.lt hb.size⟩
theorem WBox.grown {W W' : World} {g q r be a : Nat} (h : WBox W q r be a) (hg : W.grownBy W' (some g)) (hne : q ≠ g) : WBox W' q r be a := by
  have hb := hg.block q h.lt (fun e => hne (by injection e))
  refine ⟨?_, ?_, ?_, ?_, Nat.lt_of_lt_of_le h.lt hg.size⟩
  · have := h.c0
    simpa [World.cell?, hb] using this
  · have := h.c1
    simpa [World.cell?, hb] using this
  · have := h.c2
    simpa [World.cell?, hb] using this
  · have := h.f2
    simpa [World.frozen?, hb] using this
theorem wbox_new (W : World) (r be a : Nat) (t : TypeId) : WBox (W.alloc (.cells #[.pointer (some ⟨r, 0, none⟩), .int .u64 (be : Int), .int .u64 (a : Int)] t)) W.heap.size r be a :=
  ⟨by simp, by simp, by simp, frozen_of_row _ _ _ _ _ (heap_alloc_new W _), by simp⟩
/-- A walk, its row and its masks: three blocks. -/
structure Walks (W : World) (q r b : Nat) (sa : Option Addr) (n cap : Nat) (f : Nat → Cel) (be at' sk lo fi la bl st fin : Nat) : Prop where
  w : WBox W q r be at'
  m : MRow W r b fi la bl st fin
  k : Ready W b sa n cap sk lo f
  ne : b < r ∧ r < q
  ok : MasksOk (skipB f n) n fi la bl st fin
  sk : IsBits sk (behind (fun i => (f i).k) n)
  lo : IsBits lo (behind (fun i => (f i).o) n)
  be : IsBits be (startB f n)
/-- A walk that stands at some places. -/
def WalkAt (W : World) (lo : Nat) (q : Nat) (sa : Option Addr) (n cap : Nat) (f : Nat → Cel) (P : Nat → Bool) : Prop :=
  ∃ r b be a sk l fi la bl st fin : Nat, Walks W q r b sa n cap f be a sk l fi la bl st fin ∧ lo ≤ b ∧ IsBits a P
theorem walkOf_no (sa : Option Addr) (n cap : Nat) (f : Nat → Cel) (w : World) (hn : n ≤ maxLen) (hr : CRow w w.heap.size sa n f) (hc : ∀ i, i < n → (f i).c.size ≤ maxLen) (h : ¬ CellsOk n f) :
    Calls Tryz.prog 29 #[.slice sa n cap] w fun e w' => e = .returned (.pointer none) ∧ Below w.heap.size w w' := by
  have C := mrowOf_no sa n cap f w hn hr hc h
  clear hn hr hc h
  go_enter Tryz.func29, Tryz.ntmps29
  go_wp2_with fail
  refine C.mono ?_
  rintro e w1 ⟨rfl, hb1⟩
  have B1 : Hid (Below w.heap.size w w1) := hb1
  clear hb1 C
  go_wp2_with fail
  go_ret
  exact ⟨rfl, B1.out⟩
set_option maxRecDepth 100000 in
set_option maxHeartbeats 4000000 in
theorem walkOf_yes (sa : Option Addr) (n cap : Nat) (f : Nat → Cel) (w : World) (hn : n ≤ maxLen) (hr : CRow w w.heap.size sa n f) (hc : ∀ i, i < n → (f i).c.size ≤ maxLen) (h : CellsOk n f) :
    Calls Tryz.prog 29 #[.slice sa n cap] w fun e w' => ∃ q : Nat, e = .returned (.pointer (some ⟨q, 0, none⟩)) ∧ Below w.heap.size w w' ∧ WalkAt w' w.heap.size q sa n cap f (startB f n) := by
  have C := mrowOf_yes sa n cap f w hn hr hc h
  have hn60 := h.2.1
  clear hn hr hc h
  go_enter Tryz.func29, Tryz.ntmps29
  go_wp2_with fail
  refine C.mono ?_
  rintro e w1 ⟨r, b, sk, lo, fi, la, bl, st, fin, rfl, hbl, hbr, hb1, hsk, hlo, hk, hm, hok⟩
  have S1 : Hid (Since w w1) := ⟨hb1⟩
  have F1 : Hid (w.heap.size ≤ b ∧ b < r ∧ IsBits sk (behind (fun i => (f i).k) n) ∧ IsBits lo (behind (fun i => (f i).o) n) ∧ KRow w1 b sa n cap sk lo 0 0 (fun _ => 0) ∧ MRow w1 r b fi la bl st fin ∧ MasksOk (skipB f n) n fi la bl st fin) := ⟨hbl, hbr, hsk, hlo, hk, hm, hok⟩
  have m4 := hm.c4
  have ml := hm.lt
  clear C hbl hbr hb1 hsk hlo hk hm hok
  go_wp2_with fail
  refine (once_any r b st fi la bl st fin n (skipB f n) (fun j => decide (0 = j)) _ hn60 F1.out.2.2.2.2.2.1 F1.out.2.2.2.2.2.2 F1.out.2.2.2.2.2.2.s (fun j hj => decide_eq_false (by omega))).mono ?_
  rintro e w2 ⟨be, rfl, hbe, hb2⟩
  have S2 : Hid (Since w w2) := since_call S1.out hb2
  have F2 : Hid (w.heap.size ≤ b ∧ b < r ∧ IsBits sk (behind (fun i => (f i).k) n) ∧ IsBits lo (behind (fun i => (f i).o) n) ∧ KRow w2 b sa n cap sk lo 0 0 (fun _ => 0) ∧ MRow w2 r b fi la bl st fin ∧ MasksOk (skipB f n) n fi la bl st fin ∧ IsBits be (startB f n) ∧ r < w2.heap.size) := ⟨F1.out.1, F1.out.2.1, F1.out.2.2.1, F1.out.2.2.2.1, F1.out.2.2.2.2.1.kept hb2 F1.out.2.2.2.2.1.lt, F1.out.2.2.2.2.2.1.kept hb2 ml, F1.out.2.2.2.2.2.2, hbe, (F1.out.2.2.2.2.2.1.kept hb2 ml).lt⟩
  clear hb2 hbe S1 F1 m4 ml
  go_wp2_with fail
  go_ret
  obtain ⟨g1, g2, g3, g4, g5, g6, g7, g8, g9⟩ := F2.out
  have hal : Below w2.heap.size w2 (w2.alloc (.cells #[.pointer (some ⟨r, 0, none⟩), .int .u64 (be : Int), .int .u64 (be : Int)] 68)) := (Below.refl _ _).alloc (Nat.le_refl _) _
  exact ⟨w2.heap.size, rfl, (since_call S2.out hal).below, r, b, be, be, sk, lo, fi, la, bl, st, fin, ⟨wbox_new w2 r be be _, g6.kept hal g9, Or.inl (g5.kept hal g5.lt), ⟨g2, g9⟩, g7, g3, g4, g8⟩, g1, g8⟩
set_option maxRecDepth 100000 in
set_option maxHeartbeats 4000000 in
theorem vecAt_any (q : Nat) (sa : Option Addr) (n cap m lo x : Nat) (f : Nat → Cel) (P : Nat → Bool) (w : World) (hn : n ≤ 60) (hm : m = (n + 1 + 31) / 32) (hw : WalkAt w lo q sa n cap f P) (hx : IsBits x P) :
    Calls Tryz.prog 34 #[.pointer (some ⟨q, 0, none⟩)] w fun e w' => NewVec w ((n : Int) + 1) m (wordsN x) e w' := by
  obtain ⟨r, b, be, a, sk, l, fi, la, bl, st, fin, ⟨h1, h2, h3, h4, h5, h6, h7, h8⟩, h9, h10⟩ := hw
  obtain rfl := hx.uniq h10
  have k0 : w.cell? ⟨b, 0, none⟩ = some (.slice sa n cap) := by
    rcases h3 with h | ⟨tab, h, _⟩
    · exact h.c0
    · exact h.c0
  have kl := h3.cells.2.2
  obtain ⟨c0, c1, c2, f2, wl⟩ := h1
  have r0 := h2.c0
  have rl := h2.lt
  have q0 := boxing w 26 0 none 0 0
  have HP : Hid (∀ W, Calls Tryz.prog 74 #[.int .u64 (x : Int), .int .i64 (n : Int)] W fun e w' => NewVec W ((n : Int) + 1) m (wordsN x) e w') := fun W => pvec_any x n m W hx.lt hn hm
  have hb0 := q0.1
  have wq := wl
  have wr := rl
  have wb := kl
  have d0 := (hb0.cell (p := ⟨q, 0, none⟩) wl).trans c0
  have d2 := (hb0.cell (p := ⟨q, 2, none⟩) wl).trans c2
  have s0 := (hb0.cell (p := ⟨r, 0, none⟩) rl).trans r0
  have t0 := (hb0.cell (p := ⟨b, 0, none⟩) kl).trans k0
  have wl' := Nat.lt_of_lt_of_le wl hb0.size
  have rl' := Nat.lt_of_lt_of_le rl hb0.size
  have kl' := Nat.lt_of_lt_of_le kl hb0.size
  have X0 : Hid (Boxed (w.alloc (.cells #[.int .i64 0, .slice none 0 0] 26)) w.heap.size 26 0 none 0 0) := q0.2.1
  have S0 : Hid (Since w (w.alloc (.cells #[.int .i64 0, .slice none 0 0] 26))) := ⟨hb0⟩
  have hz := q0.2.2
  clear h2 h3 h4 h5 h6 h7 h8 h9 h10 hx hm c0 c1 c2 f2 r0 k0 wl rl kl hb0 q0
  go_enter Tryz.func34, Tryz.ntmps34
  go_wp2_with fail
  generalize w.alloc (.cells #[.int .i64 0, .slice none 0 0] 26) = v0 at *
  obtain ⟨x0, x1, xf0, xf1⟩ := X0.out.four
  have xl := X0.out.lt
  have hqn : w.heap.size ≠ q := Nat.ne_of_gt wq
  have hrn : w.heap.size ≠ r := Nat.ne_of_gt wr
  have hbn : w.heap.size ≠ b := Nat.ne_of_gt wb
  have bd : Below v0.heap.size v0 v0.drew := ⟨rfl, rfl, rfl, Nat.le_refl _, fun _ _ => rfl⟩
  go_region_held3 (fun W => W.cell? ⟨q, 0, none⟩ = some (.pointer (some ⟨r, 0, none⟩)) ∧ W.cell? ⟨q, 2, none⟩ = some (.int .u64 (x : Int)) ∧ W.cell? ⟨r, 0, none⟩ = some (.pointer (some ⟨b, 0, none⟩)) ∧ W.cell? ⟨b, 0, none⟩ = some (.slice sa n cap)) (go_keep) (first | (go_at_call 74; (with_reducible refine (HP.out _).mono ?_); rintro e w2 ⟨s2, c2, rfl, hb, ho⟩; unfold vecV; have hb' := bd.trans hb; obtain ⟨a0, a1, af0, af1⟩ := (X0.out.kept hb' rfl).four; have al := (X0.out.kept hb' rfl).lt; have d0' := (hb'.cell (p := ⟨q, 0, none⟩) wl').trans d0; have d2' := (hb'.cell (p := ⟨q, 2, none⟩) wl').trans d2; have s0' := (hb'.cell (p := ⟨r, 0, none⟩) rl').trans s0; have t0' := (hb'.cell (p := ⟨b, 0, none⟩) kl').trans t0; have wl2 := Nat.lt_of_lt_of_le wl' hb'.size; have rl2 := Nat.lt_of_lt_of_le rl' hb'.size; have kl2 := Nat.lt_of_lt_of_le kl' hb'.size; have S2 : Hid (Since w w2) := since_call S0.out hb'; have O2 : Hid (OwnS w2 v0.heap.size s2 m (wordsN x)) := ho; clear hb ho hb'))
  all_goals
    go_wp2_with fail
    refine bodyPost_ret (v := vecV ((n : Int) + 1) s2 m c2) (by simp [results, Tryz.results34, go_sem, vecV, a0, a1]) rfl ?_
    refine ⟨_, _, rfl, (since_set (since_set S2.out (by show w.heap.size ≤ w.heap.size; omega)) (by show w.heap.size ≤ w.heap.size; omega)).below, ?_⟩
    rcases O2.out with h | ⟨g5, h1, h2, h3⟩
    · exact Or.inl h
    · exact Or.inr ⟨g5, h1, by omega, (h3.setOther _ _ (by show w.heap.size ≠ g5; omega)).setOther _ _ (by show w.heap.size ≠ g5; omega)⟩
end Go.Proofs.YtlgnplnmcdjbiaaGreat
