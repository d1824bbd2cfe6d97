/- What is proved here: the specification's l06Masks hands back the five vectors of right cells, in new memory; nothing that was there turns. -/
import Derived.Test.YtfeolbgenpknfaaGreatQSpecKVecWToWordsForW
import Derived.Test.YtfeolbgenpknfaaGreatQStepVMToMaskD
import Derived.Test.YtfeolbgenpknfaaGreatQSpecKRightWToIsW
namespace Go.Proofs.YtfeolbgenpknfaaGreat
open Go.RowKit

theorem vecIs_on {g : Nat → Int} {Q : Nat → Bool} {k m i r : Nat} (h : VecIs g (fun j => decide (j < k) && Q j) m) (hq : Q k = true) (hi : i < m) (hr : r < 32) (e : 32 * i + r = k) : VecIs (setF g i r true) (fun j => decide (j < k + 1) && Q j) m :=
  (h.set hi hr).congr (fun j => by
    show ((decide (j < k) && Q j) || decide (32 * i + r = j)) = _
    rw [e]
    by_cases e1 : k = j
    · subst e1
      simp [hq]
    · rw [decide_eq_false e1, Bool.or_false]
      by_cases e2 : j < k
      · rw [decide_eq_true e2, decide_eq_true (show j < k + 1 by omega)]
      · rw [decide_eq_false e2, decide_eq_false (show ¬ (j < k + 1) by omega)])
theorem vecIs_off {g : Nat → Int} {Q : Nat → Bool} {k m : Nat} (h : VecIs g (fun j => decide (j < k) && Q j) m) (hq : Q k = false) : VecIs g (fun j => decide (j < k + 1) && Q j) m :=
  h.congr (fun j => by
    by_cases e1 : k = j
    · subst e1
      simp [hq]
    · by_cases e2 : j < k
      · rw [decide_eq_true e2, decide_eq_true (show j < k + 1 by omega)]
      · rw [decide_eq_false e2, decide_eq_false (show ¬ (j < k + 1) by omega)])
theorem vecIs_one {m i r k : Nat} (hi : i < m) (hr : r < 32) (e : 32 * i + r = k) : VecIs (setF (fun _ => 0) i r true) (fun j => decide (k = j)) m :=
  ((vecIs_zero m).set hi hr).congr (fun j => by rw [e]; rfl)
/-- Five vectors that are being made: the box of the answer, their own box, their words. -/
structure MInv (w W : World) (p : Nat) (b : Int) (m g0 g1 g2 g3 g4 c0 c1 c2 c3 c4 : Nat) (h0 h1 h2 h3 h4 : Nat → Int) : Prop where
  x : MBox W w.heap.size 0 (fun _ => none) 0 (fun _ => 0)
  y : MBox W p b (five (some ⟨g0, 0, none⟩) (some ⟨g1, 0, none⟩) (some ⟨g2, 0, none⟩) (some ⟨g3, 0, none⟩) (some ⟨g4, 0, none⟩)) m (five c0 c1 c2 c3 c4)
  s : Since w W
  o0 : Own W g0 m h0
  o1 : Own W g1 m h1
  o2 : Own W g2 m h2
  o3 : Own W g3 m h3
  o4 : Own W g4 m h4
  lt : w.heap.size < g0 ∧ g0 < g1 ∧ g1 < g2 ∧ g2 < g3 ∧ g3 < g4 ∧ g4 < p
theorem since_grown {w W W' : World} {g : Nat} (h : Since w W) (hg : W.grownBy W' (some g)) (hl : w.heap.size ≤ g) : Since w W' :=
  ⟨h.below.trans ⟨hg.os, hg.tape, hg.output, hg.size, fun j hj => hg.block j (Nat.lt_of_lt_of_le hj h.size) (fun e => by injection e with e; omega)⟩⟩
theorem MInv.set0 {w W W' : World} {p : Nat} {b : Int} {m g0 g1 g2 g3 g4 c0 c1 c2 c3 c4 : Nat} {h0 h1 h2 h3 h4 x : Nat → Int} (h : MInv w W p b m g0 g1 g2 g3 g4 c0 c1 c2 c3 c4 h0 h1 h2 h3 h4) (hg : W.grownBy W' (some g0)) (ho : Own W' g0 m x) : MInv w W' p b m g0 g1 g2 g3 g4 c0 c1 c2 c3 c4 x h1 h2 h3 h4 := by
  have hl := h.lt
  exact ⟨h.x.grown hg (by omega), h.y.grown hg (by omega), since_grown h.s hg (by omega), ho, h.o1.only hg (by omega), h.o2.only hg (by omega), h.o3.only hg (by omega), h.o4.only hg (by omega), h.lt⟩
theorem MInv.set1 {w W W' : World} {p : Nat} {b : Int} {m g0 g1 g2 g3 g4 c0 c1 c2 c3 c4 : Nat} {h0 h1 h2 h3 h4 x : Nat → Int} (h : MInv w W p b m g0 g1 g2 g3 g4 c0 c1 c2 c3 c4 h0 h1 h2 h3 h4) (hg : W.grownBy W' (some g1)) (ho : Own W' g1 m x) : MInv w W' p b m g0 g1 g2 g3 g4 c0 c1 c2 c3 c4 h0 x h2 h3 h4 := by
  have hl := h.lt
  exact ⟨h.x.grown hg (by omega), h.y.grown hg (by omega), since_grown h.s hg (by omega), h.o0.only hg (by omega), ho, h.o2.only hg (by omega), h.o3.only hg (by omega), h.o4.only hg (by omega), h.lt⟩
theorem MInv.set2 {w W W' : World} {p : Nat} {b : Int} {m g0 g1 g2 g3 g4 c0 c1 c2 c3 c4 : Nat} {h0 h1 h2 h3 h4 x : Nat → Int} (h : MInv w W p b m g0 g1 g2 g3 g4 c0 c1 c2 c3 c4 h0 h1 h2 h3 h4) (hg : W.grownBy W' (some g2)) (ho : Own W' g2 m x) : MInv w W' p b m g0 g1 g2 g3 g4 c0 c1 c2 c3 c4 h0 h1 x h3 h4 := by
  have hl := h.lt
  exact ⟨h.x.grown hg (by omega), h.y.grown hg (by omega), since_grown h.s hg (by omega), h.o0.only hg (by omega), h.o1.only hg (by omega), ho, h.o3.only hg (by omega), h.o4.only hg (by omega), h.lt⟩
theorem MInv.set3 {w W W' : World} {p : Nat} {b : Int} {m g0 g1 g2 g3 g4 c0 c1 c2 c3 c4 : Nat} {h0 h1 h2 h3 h4 x : Nat → Int} (h : MInv w W p b m g0 g1 g2 g3 g4 c0 c1 c2 c3 c4 h0 h1 h2 h3 h4) (hg : W.grownBy W' (some g3)) (ho : Own W' g3 m x) : MInv w W' p b m g0 g1 g2 g3 g4 c0 c1 c2 c3 c4 h0 h1 h2 x h4 := by
  have hl := h.lt
  exact ⟨h.x.grown hg (by omega), h.y.grown hg (by omega), since_grown h.s hg (by omega), h.o0.only hg (by omega), h.o1.only hg (by omega), h.o2.only hg (by omega), ho, h.o4.only hg (by omega), h.lt⟩
theorem MInv.set4 {w W W' : World} {p : Nat} {b : Int} {m g0 g1 g2 g3 g4 c0 c1 c2 c3 c4 : Nat} {h0 h1 h2 h3 h4 x : Nat → Int} (h : MInv w W p b m g0 g1 g2 g3 g4 c0 c1 c2 c3 c4 h0 h1 h2 h3 h4) (hg : W.grownBy W' (some g4)) (ho : Own W' g4 m x) : MInv w W' p b m g0 g1 g2 g3 g4 c0 c1 c2 c3 c4 h0 h1 h2 h3 x := by
  have hl := h.lt
  exact ⟨h.x.grown hg (by omega), h.y.grown hg (by omega), since_grown h.s hg (by omega), h.o0.only hg (by omega), h.o1.only hg (by omega), h.o2.only hg (by omega), h.o3.only hg (by omega), ho, h.lt⟩
theorem MInv.ten {w W : World} {p : Nat} {b : Int} {m g0 g1 g2 g3 g4 c0 c1 c2 c3 c4 : Nat} {h0 h1 h2 h3 h4 : Nat → Int} (h : MInv w W p b m g0 g1 g2 g3 g4 c0 c1 c2 c3 c4 h0 h1 h2 h3 h4) : W.cell? ⟨p, 0, none⟩ = some (.int .i64 b) ∧ W.cell? ⟨p, 1, none⟩ = some (.slice (some ⟨g0, 0, none⟩) m c0) ∧ W.cell? ⟨p, 2, none⟩ = some (.int .i64 b) ∧ W.cell? ⟨p, 3, none⟩ = some (.slice (some ⟨g1, 0, none⟩) m c1) ∧ W.cell? ⟨p, 4, none⟩ = some (.int .i64 b) ∧ W.cell? ⟨p, 5, none⟩ = some (.slice (some ⟨g2, 0, none⟩) m c2) ∧ W.cell? ⟨p, 6, none⟩ = some (.int .i64 b) ∧ W.cell? ⟨p, 7, none⟩ = some (.slice (some ⟨g3, 0, none⟩) m c3) ∧ W.cell? ⟨p, 8, none⟩ = some (.int .i64 b) ∧ W.cell? ⟨p, 9, none⟩ = some (.slice (some ⟨g4, 0, none⟩) m c4) := h.y.cells
theorem newOwn {W W' : World} {b : Int} {m : Nat} {f : Nat → Int} {e : Ending} (hm : 1 ≤ m) (h : NewVec W b m f e W') : ∃ g c : Nat, e = .returned (.agg #[.int .i64 b, .slice (some ⟨g, 0, none⟩) m c]) ∧ Below W.heap.size W W' ∧ W.heap.size ≤ g ∧ Own W' g m f := by
  obtain ⟨s, c, rfl, hb, ho⟩ := h
  rcases ho with h | ⟨g, rfl, hl, ho⟩
  · omega
  · exact ⟨g, c, rfl, hb, hl, ho⟩
theorem mboxing5 (W : World) (b : Int) (g0 g1 g2 g3 g4 n c0 c1 c2 c3 c4 : Nat) : Below W.heap.size W (W.alloc (.cells #[.int .i64 b, .slice (some ⟨g0, 0, none⟩) n c0, .int .i64 b, .slice (some ⟨g1, 0, none⟩) n c1, .int .i64 b, .slice (some ⟨g2, 0, none⟩) n c2, .int .i64 b, .slice (some ⟨g3, 0, none⟩) n c3, .int .i64 b, .slice (some ⟨g4, 0, none⟩) n c4] 130)) ∧ MBox (W.alloc (.cells #[.int .i64 b, .slice (some ⟨g0, 0, none⟩) n c0, .int .i64 b, .slice (some ⟨g1, 0, none⟩) n c1, .int .i64 b, .slice (some ⟨g2, 0, none⟩) n c2, .int .i64 b, .slice (some ⟨g3, 0, none⟩) n c3, .int .i64 b, .slice (some ⟨g4, 0, none⟩) n c4] 130)) W.heap.size b (five (some ⟨g0, 0, none⟩) (some ⟨g1, 0, none⟩) (some ⟨g2, 0, none⟩) (some ⟨g3, 0, none⟩) (some ⟨g4, 0, none⟩)) n (five c0 c1 c2 c3 c4) ∧ (W.alloc (.cells #[.int .i64 b, .slice (some ⟨g0, 0, none⟩) n c0, .int .i64 b, .slice (some ⟨g1, 0, none⟩) n c1, .int .i64 b, .slice (some ⟨g2, 0, none⟩) n c2, .int .i64 b, .slice (some ⟨g3, 0, none⟩) n c3, .int .i64 b, .slice (some ⟨g4, 0, none⟩) n c4] 130)).heap.size = W.heap.size + 1 :=
  mboxing W b (five (some ⟨g0, 0, none⟩) (some ⟨g1, 0, none⟩) (some ⟨g2, 0, none⟩) (some ⟨g3, 0, none⟩) (some ⟨g4, 0, none⟩)) n (five c0 c1 c2 c3 c4)
/-- The places behind cells that may be passed by. -/
def skipB (f : Nat → Cel) (n : Nat) : Nat → Bool := behind (fun i => (f i).k) n
theorem skip_at {f : Nat → Cel} {n k : Nat} (h : k < n) : skipB f n (k + 1) = (f k).k := behind_at _ h
theorem skip_zero (f : Nat → Cel) (n : Nat) : skipB f n 0 = false := by unfold skipB behind; rw [decide_eq_false (by omega)]; rfl
theorem skip_le (f : Nat → Cel) (n : Nat) : ∀ j, n < j → skipB f n j = false := behind_le _ n
/-- The five vectors of cells, in new memory. -/
def MasksAt (w : World) (n m : Nat) (f : Nat → Cel) (e : Ending) (w' : World) : Prop := ∃ (g0 g1 g2 g3 g4 c0 c1 c2 c3 c4 : Nat) (h0 h1 h2 h3 h4 : Nat → Int), e = .returned (masksV ((n : Int) + 1) (five (some ⟨g0, 0, none⟩) (some ⟨g1, 0, none⟩) (some ⟨g2, 0, none⟩) (some ⟨g3, 0, none⟩) (some ⟨g4, 0, none⟩)) m (five c0 c1 c2 c3 c4)) ∧ Below w.heap.size w w' ∧ (w.heap.size < g0 ∧ g0 < g1 ∧ g1 < g2 ∧ g2 < g3 ∧ g3 < g4) ∧ Own w' g0 m h0 ∧ Own w' g1 m h1 ∧ Own w' g2 m h2 ∧ Own w' g3 m h3 ∧ Own w' g4 m h4 ∧ VecIs h0 (fun j => decide (0 = j)) m ∧ VecIs h1 (fun j => decide (n = j)) m ∧ VecIs h2 (firstB (skipB f n)) m ∧ VecIs h3 (lastB (skipB f n)) m ∧ VecIs h4 (skipB f n) m
set_option maxRecDepth 100000 in
set_option maxHeartbeats 8000000 in
theorem l06Masks_any (sa : Option Addr) (n cap m : Nat) (f : Nat → Cel) (w : World) (hn0 : 1 ≤ n) (hn : n ≤ 60) (hr : CRow w w.heap.size sa n f) (hm : m = (n + 1 + 31) / 32) :
    Calls Tryz.prog 85 #[.slice sa n cap] w fun e w' => MasksAt w n m f e w' := by
  have HR : Hid (CRow w w.heap.size sa n f) := hr
  have HM : Hid (m = (n + 1 + 31) / 32) := hm
  have hm1 : 1 ≤ m := by omega
  have hm2 : m ≤ 2 := by omega
  have hmi : m ≤ 1048576 := by omega
  have hnm : n / 32 < m := by omega
  have C := fun W => (l02New_any ((n : Int) + 1) m W (by omega) (by omega) (by omega)).mono (fun _ _ h => newOwn hm1 h)
  have HC : Hid (∀ W, Calls Tryz.prog 70 #[.int .i64 ((n : Int) + 1)] W fun e w' => ∃ g c : Nat, e = .returned (.agg #[.int .i64 ((n : Int) + 1), .slice (some ⟨g, 0, none⟩) m c]) ∧ Below W.heap.size W w' ∧ W.heap.size ≤ g ∧ Own w' g m (fun _ => 0)) := C
  clear hr hm C
  have q0 := mboxing w 0 (fun _ => none) 0 (fun _ => 0)
  go_enter Tryz.func85, Tryz.ntmps85
  go_wp2_with (first | (go_at_call 103; refine (bits_spec _ _ _ _ hn).mono ?_; rintro e w9 ⟨rfl, hw9⟩; rw [hw9]; clear hw9 w9))
  generalize w.alloc (.cells #[.int .i64 0, .slice none 0 0, .int .i64 0, .slice none 0 0, .int .i64 0, .slice none 0 0, .int .i64 0, .slice none 0 0, .int .i64 0, .slice none 0 0] 130) = v0 at *
  obtain ⟨qb, qx, qz⟩ := q0
  refine (HC.out v0).mono ?_
  rintro e w1 ⟨g0, c0, rfl, hb1, hl1, ho1⟩
  go_wp2_with fail
  refine (HC.out w1).mono ?_
  rintro e w2 ⟨g1, c1, rfl, hb2, hl2, ho2⟩
  go_wp2_with fail
  refine (HC.out w2).mono ?_
  rintro e w3 ⟨g2, c2, rfl, hb3, hl3, ho3⟩
  go_wp2_with fail
  refine (HC.out w3).mono ?_
  rintro e w4 ⟨g3, c3, rfl, hb4, hl4, ho4⟩
  go_wp2_with fail
  refine (HC.out w4).mono ?_
  rintro e w5 ⟨g4, c4, rfl, hb5, hl5, ho5⟩
  have q5 := mboxing5 w5 ((n : Int) + 1) g0 g1 g2 g3 g4 m c0 c1 c2 c3 c4
  have M5 : Hid (MInv w (w5.alloc (.cells #[.int .i64 ((n : Int) + 1), .slice (some ⟨g0, 0, none⟩) m c0, .int .i64 ((n : Int) + 1), .slice (some ⟨g1, 0, none⟩) m c1, .int .i64 ((n : Int) + 1), .slice (some ⟨g2, 0, none⟩) m c2, .int .i64 ((n : Int) + 1), .slice (some ⟨g3, 0, none⟩) m c3, .int .i64 ((n : Int) + 1), .slice (some ⟨g4, 0, none⟩) m c4] 130)) w5.heap.size ((n : Int) + 1) m g0 g1 g2 g3 g4 c0 c1 c2 c3 c4 (fun _ => 0) (fun _ => 0) (fun _ => 0) (fun _ => 0) (fun _ => 0)) := by
    have z1 := ho1.1
    have z2 := ho2.1
    have z3 := ho3.1
    have z4 := ho4.1
    have z5 := ho5.1
    have y2 := hb2.size
    have y3 := hb3.size
    have y4 := hb4.size
    have y5 := hb5.size
    refine ⟨(((((qx.kept hb1 rfl).kept hb2 rfl).kept hb3 rfl).kept hb4 rfl).kept hb5 rfl).kept q5.1 rfl, q5.2.1, since_call (since_call (since_call (since_call (since_call (since_call (since_call (since_refl _) qb) hb1) hb2) hb3) hb4) hb5) q5.1, ?_, ?_, ?_, ?_, ?_, ?_⟩
    · exact ((((ho1.kept hb2 (by omega)).kept hb3 (by omega)).kept hb4 (by omega)).kept hb5 (by omega)).kept q5.1 (by omega)
    · exact (((ho2.kept hb3 (by omega)).kept hb4 (by omega)).kept hb5 (by omega)).kept q5.1 (by omega)
    · exact ((ho3.kept hb4 (by omega)).kept hb5 (by omega)).kept q5.1 (by omega)
    · exact (ho4.kept hb5 (by omega)).kept q5.1 (by omega)
    · exact ho5.kept q5.1 (by omega)
    · omega
  clear qb qx qz hb1 hl1 ho1 hb2 hl2 ho2 hb3 hl3 ho3 hb4 hl4 ho4 hb5 hl5 ho5 q5
  go_wp2_with fail
  generalize w5.alloc (.cells #[.int .i64 ((n : Int) + 1), .slice (some ⟨g0, 0, none⟩) m c0, .int .i64 ((n : Int) + 1), .slice (some ⟨g1, 0, none⟩) m c1, .int .i64 ((n : Int) + 1), .slice (some ⟨g2, 0, none⟩) m c2, .int .i64 ((n : Int) + 1), .slice (some ⟨g3, 0, none⟩) m c3, .int .i64 ((n : Int) + 1), .slice (some ⟨g4, 0, none⟩) m c4] 130) = v5 at *
  generalize w5.heap.size = p at *
  refine (l02Set_any ((n : Int) + 1) g0 m c0 0 0 (fun _ => 0) 0 true v5 hmi M5.out.o0 (by omega) (by omega) (by omega) (by omega) (by omega)).mono ?_
  rintro e w6 ⟨rfl, hg6, ho6⟩
  have M6 : Hid (MInv w w6 p ((n : Int) + 1) m g0 g1 g2 g3 g4 c0 c1 c2 c3 c4 (setF (fun _ => 0) 0 0 true) (fun _ => 0) (fun _ => 0) (fun _ => 0) (fun _ => 0)) := M5.out.set0 hg6 ho6
  clear hg6 ho6 M5
  obtain ⟨a0, a1, a2, a3, a4, a5, a6, a7, a8, a9⟩ := M6.out.ten
  have plt := M6.out.y.lt
  go_wp2_with fail
  have hn32 : (n : Int) / 32 = ((n / 32 : Nat) : Int) := by omega
  have hnr : (n : Int) % 32 = ((n % 32 : Nat) : Int) := by omega
  refine (l02Set_any ((n : Int) + 1) g1 m c1 (n / 32) (n % 32) (fun _ => 0) (n : Int) true w6 hmi M6.out.o1 (by omega) hn32 hnr hnm (by omega)).mono ?_
  rintro e w7 ⟨rfl, hg7, ho7⟩
  have V1 : Hid (VecIs (setF (fun _ => 0) (n / 32) (n % 32) true) (fun j => decide (n = j)) m) := vecIs_one hnm (by omega) (by omega)
  have V0 : Hid (VecIs (setF (fun _ => 0) 0 0 true) (fun j => decide (0 = j)) m) := vecIs_one (by omega) (by omega) (by omega)
  have M7 : Hid (MInv w w7 p ((n : Int) + 1) m g0 g1 g2 g3 g4 c0 c1 c2 c3 c4 (setF (fun _ => 0) 0 0 true) (setF (fun _ => 0) (n / 32) (n % 32) true) (fun _ => 0) (fun _ => 0) (fun _ => 0)) := M6.out.set1 hg7 ho7
  generalize setF (fun _ => 0) 0 0 true = hS at *
  generalize setF (fun _ => 0) (n / 32) (n % 32) true = hF at *
  clear hg7 ho7 M6 a0 a1 a2 a3 a4 a5 a6 a7 a8 a9 plt hn32 hnr
  go_wp2_with fail
  go_loopw [5] (fun iv wr => ∃ (k : Nat) (h2 h3 h4 : Nat → Int), k ≤ n ∧ iv = .int .i64 (k : Int) ∧ MInv w wr p ((n : Int) + 1) m g0 g1 g2 g3 g4 c0 c1 c2 c3 c4 hS hF h2 h3 h4 ∧ VecIs h2 (fun j => decide (j < k) && firstB (skipB f n) j) m ∧ VecIs h3 (fun j => decide (j < k + 1) && lastB (skipB f n) j) m ∧ VecIs h4 (fun j => decide (j < k + 1) && skipB f n j) m) (fun iv _ => n - (intOf iv).toNat)
  case atStart =>
    refine ⟨0, _, _, _, Nat.zero_le _, rfl, M7.out, (vecIs_zero m).congr (fun j => ?_), (vecIs_zero m).congr (fun j => ?_), (vecIs_zero m).congr (fun j => ?_)⟩
    · rw [decide_eq_false (by omega)]; rfl
    · cases j with
      | zero => unfold lastB; rw [skip_zero]; rfl
      | succ j => rw [decide_eq_false (by omega)]; rfl
    · cases j with
      | zero => rw [skip_zero]; rfl
      | succ j => rw [decide_eq_false (by omega)]; rfl
  case round =>
    obtain ⟨k, h2, h3, h4, hk, rfl, hM, hV2, hV3, hV4⟩ := hrel
    have MI : Hid (MInv w wr p ((n : Int) + 1) m g0 g1 g2 g3 g4 c0 c1 c2 c3 c4 hS hF h2 h3 h4) := hM
    have HV : Hid (VecIs h2 (fun j => decide (j < k) && firstB (skipB f n) j) m ∧ VecIs h3 (fun j => decide (j < k + 1) && lastB (skipB f n) j) m ∧ VecIs h4 (fun j => decide (j < k + 1) && skipB f n j) m) := ⟨hV2, hV3, hV4⟩
    obtain ⟨a0, a1, a2, a3, a4, a5, a6, a7, a8, a9⟩ := hM.ten
    have plt := hM.y.lt
    clear M7 hV2 hV3 hV4
    by_cases hkl : k < n
    · obtain ⟨bb, off, rfl, hbb, hat⟩ := HR.out.keptV hM.s.below hkl
      obtain ⟨d0, d1, d2⟩ := hat
      have hki : (k : Int) < (n : Int) := by omega
      have hk0 : (0 : Int) ≤ (k : Int) := by omega
      obtain ⟨⟨ac, al, am⟩, ha⟩ : ∃ a, f k = a := ⟨_, rfl⟩
      rw [ha] at d0 d1 d2
      simp only at d0 d1 d2
      have hSk : skipB f n (k + 1) = al := by rw [skip_at hkl, ha]
      have HSK : Hid (skipB f n (k + 1) = al) := hSk
      clear hM ha hSk
      cases al with
      | false =>
        have N2 : Hid (VecIs h2 (fun j => decide (j < k + 1) && firstB (skipB f n) j) m ∧ VecIs h3 (fun j => decide (j < k + 1 + 1) && lastB (skipB f n) j) m ∧ VecIs h4 (fun j => decide (j < k + 1 + 1) && skipB f n j) m) := ⟨vecIs_off HV.out.1 (by unfold firstB; rw [HSK.out]; rfl), vecIs_off HV.out.2.1 (by unfold lastB; rw [HSK.out]; rfl), vecIs_off HV.out.2.2 HSK.out⟩
        go_wp2_with fail
        go_roundw
        case rel => exact ⟨k + 1, h2, h3, h4, by omega, by go_num, MI.out, N2.out.1, N2.out.2.1, N2.out.2.2⟩
        case measure => simp [intOf]; omega
      | true =>
        obtain ⟨l, hl⟩ : ∃ l, k + 1 = l := ⟨_, rfl⟩
        have hli : (k : Int) + 1 = (l : Int) := by omega
        have hl0 : (0 : Int) ≤ (l : Int) := by omega
        have HL : Hid (k + 1 = l) := hl
        obtain ⟨i8, hi8⟩ : ∃ i8, k / 32 = i8 := ⟨_, rfl⟩
        obtain ⟨r8, hr8⟩ : ∃ r8, k % 32 = r8 := ⟨_, rfl⟩
        obtain ⟨i9, hi9⟩ : ∃ i9, l / 32 = i9 := ⟨_, rfl⟩
        obtain ⟨r9, hr9⟩ : ∃ r9, l % 32 = r9 := ⟨_, rfl⟩
        have hm9 := HM.out
        have CB := l02Set_any ((n : Int) + 1) g4 m c4 i9 r9 h4 (l : Int) true wr hmi MI.out.o4 hl0 (by omega) (by omega) (by omega) (by omega)
        have CF : Hid (∀ W, Own W g2 m h2 → Calls Tryz.prog 83 #[.agg #[.int .i64 ((n : Int) + 1), .slice (some ⟨g2, 0, none⟩) m c2], .int .i64 (k : Int), .bool true] W fun e w' => e = .returned (.tuple #[]) ∧ W.grownBy w' (some g2) ∧ Own w' g2 m (setF h2 i8 r8 true)) := fun W ho => l02Set_any ((n : Int) + 1) g2 m c2 i8 r8 h2 (k : Int) true W hmi ho hk0 (by omega) (by omega) (by omega) (by omega)
        have CL : Hid (∀ W, Own W g3 m h3 → Calls Tryz.prog 83 #[.agg #[.int .i64 ((n : Int) + 1), .slice (some ⟨g3, 0, none⟩) m c3], .int .i64 (l : Int), .bool true] W fun e w' => e = .returned (.tuple #[]) ∧ W.grownBy w' (some g3) ∧ Own w' g3 m (setF h3 i9 r9 true)) := fun W ho => l02Set_any ((n : Int) + 1) g3 m c3 i9 r9 h3 (l : Int) true W hmi ho hl0 (by omega) (by omega) (by omega) (by omega)
        have B4 : Hid (VecIs (setF h4 i9 r9 true) (fun j => decide (j < l + 1) && skipB f n j) m) := by
          have h9 := vecIs_on (i := i9) (r := r9) HV.out.2.2 HSK.out (by omega) (by omega) (by omega)
          rw [hl] at h9
          exact h9
        have F2 : Hid (skipB f n k = false → VecIs (setF h2 i8 r8 true) (fun j => decide (j < l) && firstB (skipB f n) j) m) := fun hz => by
          have h9 := vecIs_on (i := i8) (r := r8) HV.out.1 (by unfold firstB; rw [HSK.out, hz]; rfl) (by omega) (by omega) (by omega)
          rw [hl] at h9
          exact h9
        have F2' : Hid (skipB f n k = true → VecIs h2 (fun j => decide (j < l) && firstB (skipB f n) j) m) := fun hz => by
          have h9 := vecIs_off HV.out.1 (by unfold firstB; rw [HSK.out, hz]; rfl)
          rw [hl] at h9
          exact h9
        have L3 : Hid (skipB f n (l + 1) = false → VecIs (setF h3 i9 r9 true) (fun j => decide (j < l + 1) && lastB (skipB f n) j) m) := fun hz => by
          have h9 := vecIs_on (i := i9) (r := r9) HV.out.2.1 (by unfold lastB; rw [HSK.out, hl, hz]; rfl) (by omega) (by omega) (by omega)
          rw [hl] at h9
          exact h9
        have L3' : Hid (skipB f n (l + 1) = true → VecIs h3 (fun j => decide (j < l + 1) && lastB (skipB f n) j) m) := fun hz => by
          have h9 := vecIs_off HV.out.2.1 (by unfold lastB; rw [HSK.out, hl, hz]; rfl)
          rw [hl] at h9
          exact h9
        have hln : l ≤ n := by omega
        have hkn : k < n := hkl
        clear hi8 hr8 hi9 hr9 hm9 hl
        have KC : Hid (∀ W, Since w W → ∀ j, j < n → W.cell? ⟨bb, off + j * 3 + 1, none⟩ = some (.bool (f j).k)) := fun W hW j hj => by
          obtain ⟨b9, o9, e9, h9, hat9⟩ := HR.out.keptV hW.below hj
          injection e9 with e9
          injection e9 with e9 e8
          subst e9
          subst e8
          exact hat9.c1
        have HSKP : Hid (∀ j, j + 1 = k → skipB f n k = (f j).k) := fun j hj => by rw [← hj]; exact skip_at (by omega)
        have HSKL : Hid (l < n → skipB f n (l + 1) = (f l).k) := fun hj => skip_at hj
        have HSK0 : Hid (k = 0 → skipB f n k = false) := fun hj => by rw [hj]; exact skip_zero f n
        have HSKN : Hid (l = n → skipB f n (l + 1) = false) := fun hj => skip_le f n (l + 1) (by omega)
        -- the arms
        have caseA : (k = 0) ∨ (∃ j, j + 1 = k ∧ (f j).k = true) ∨ (∃ j, j + 1 = k ∧ (f j).k = false) := by
          rcases Nat.eq_zero_or_pos k with h | h
          · exact Or.inl h
          · cases h9 : (f (k - 1)).k with
            | true => exact Or.inr (Or.inl ⟨k - 1, by omega, h9⟩)
            | false => exact Or.inr (Or.inr ⟨k - 1, by omega, h9⟩)
        have caseB : (l = n) ∨ (l < n ∧ (f l).k = true) ∨ (l < n ∧ (f l).k = false) := by
          rcases Nat.lt_or_ge l n with h | h
          · cases h9 : (f l).k with
            | true => exact Or.inr (Or.inl ⟨h, rfl⟩)
            | false => exact Or.inr (Or.inr ⟨h, rfl⟩)
          · exact Or.inl (by omega)
        rcases caseA with hA | ⟨j, hj, hA⟩ | ⟨j, hj, hA⟩
        · have hk00 : ((k : Int) == 0) = true := by simp; omega
          have PS := HSK0.out hA
          clear hA
          have FF := F2.out PS
          clear PS
          rcases caseB with hB | ⟨hB, hC⟩ | ⟨hB, hC⟩
          · have hke : ((k : Int) == (n : Int) + 1 - 2) = true := by have := HL.out; simp; omega
            have LL := L3.out (HSKN.out hB)
            clear hB
            go_wp2_with (first | (go_at_call 83; (with_reducible refine CB.mono ?_); rintro e w9 ⟨rfl, hg9, ho9⟩; have M9 : Hid (MInv w w9 p ((n : Int) + 1) m g0 g1 g2 g3 g4 c0 c1 c2 c3 c4 hS hF h2 h3 (setF h4 i9 r9 true)) := MI.out.set4 hg9 ho9; obtain ⟨b0, b1, b2, b3, b4, b5, b6, b7, b8, b9⟩ := M9.out.ten; have plt9 := M9.out.y.lt;  clear hg9 ho9) | (go_at_call 83; (with_reducible refine (CF.out _ M9.out.o2).mono ?_); rintro e w10 ⟨rfl, hg10, ho10⟩; have M10 : Hid (MInv w w10 p ((n : Int) + 1) m g0 g1 g2 g3 g4 c0 c1 c2 c3 c4 hS hF (setF h2 i8 r8 true) h3 (setF h4 i9 r9 true)) := M9.out.set2 hg10 ho10; obtain ⟨e0, e1, e2, e3, e4, e5, e6, e7, e8, e9⟩ := M10.out.ten; have plt10 := M10.out.y.lt;  clear hg10 ho10) | (go_at_call 83; (with_reducible refine (CL.out _ M10.out.o3).mono ?_); rintro e w11 ⟨rfl, hg11, ho11⟩; have M11 : Hid (MInv w w11 p ((n : Int) + 1) m g0 g1 g2 g3 g4 c0 c1 c2 c3 c4 hS hF (setF h2 i8 r8 true) (setF h3 i9 r9 true) (setF h4 i9 r9 true)) := M10.out.set3 hg11 ho11; clear hg11 ho11))
            go_roundw
            case rel => exact ⟨l, _, _, _, hln, rfl, M11.out, FF, LL, B4.out⟩
            case measure => have := HL.out; simp [intOf]; omega
          · have hke : ¬ (k : Int) = (n : Int) - 1 := by have := HL.out; omega
            have hlni : (l : Int) < (n : Int) := by omega
            have LL := L3'.out ((HSKL.out hB).trans hC)
            have KL : Hid (∀ W, Since w W → W.cell? ⟨bb, off + l * 3 + 1, none⟩ = some (.bool true)) := fun W hW => by rw [← hC]; exact KC.out W hW l hB
            clear hB hC
            go_wp2_with (first | (go_at_call 83; (with_reducible refine CB.mono ?_); rintro e w9 ⟨rfl, hg9, ho9⟩; have M9 : Hid (MInv w w9 p ((n : Int) + 1) m g0 g1 g2 g3 g4 c0 c1 c2 c3 c4 hS hF h2 h3 (setF h4 i9 r9 true)) := MI.out.set4 hg9 ho9; obtain ⟨b0, b1, b2, b3, b4, b5, b6, b7, b8, b9⟩ := M9.out.ten; have plt9 := M9.out.y.lt; have cl9 := KL.out w9 M9.out.s;  clear hg9 ho9) | (go_at_call 83; (with_reducible refine (CF.out _ M9.out.o2).mono ?_); rintro e w10 ⟨rfl, hg10, ho10⟩; have M10 : Hid (MInv w w10 p ((n : Int) + 1) m g0 g1 g2 g3 g4 c0 c1 c2 c3 c4 hS hF (setF h2 i8 r8 true) h3 (setF h4 i9 r9 true)) := M9.out.set2 hg10 ho10; obtain ⟨e0, e1, e2, e3, e4, e5, e6, e7, e8, e9⟩ := M10.out.ten; have plt10 := M10.out.y.lt; have cl10 := KL.out w10 M10.out.s;  clear hg10 ho10))
            go_roundw
            case rel => exact ⟨l, _, _, _, hln, rfl, M10.out, FF, LL, B4.out⟩
            case measure => have := HL.out; simp [intOf]; omega
          · have hke : ¬ (k : Int) = (n : Int) - 1 := by have := HL.out; omega
            have hlni : (l : Int) < (n : Int) := by omega
            have LL := L3.out ((HSKL.out hB).trans hC)
            have KL : Hid (∀ W, Since w W → W.cell? ⟨bb, off + l * 3 + 1, none⟩ = some (.bool false)) := fun W hW => by rw [← hC]; exact KC.out W hW l hB
            clear hB hC
            go_wp2_with (first | (go_at_call 83; (with_reducible refine CB.mono ?_); rintro e w9 ⟨rfl, hg9, ho9⟩; have M9 : Hid (MInv w w9 p ((n : Int) + 1) m g0 g1 g2 g3 g4 c0 c1 c2 c3 c4 hS hF h2 h3 (setF h4 i9 r9 true)) := MI.out.set4 hg9 ho9; obtain ⟨b0, b1, b2, b3, b4, b5, b6, b7, b8, b9⟩ := M9.out.ten; have plt9 := M9.out.y.lt; have cl9 := KL.out w9 M9.out.s;  clear hg9 ho9) | (go_at_call 83; (with_reducible refine (CF.out _ M9.out.o2).mono ?_); rintro e w10 ⟨rfl, hg10, ho10⟩; have M10 : Hid (MInv w w10 p ((n : Int) + 1) m g0 g1 g2 g3 g4 c0 c1 c2 c3 c4 hS hF (setF h2 i8 r8 true) h3 (setF h4 i9 r9 true)) := M9.out.set2 hg10 ho10; obtain ⟨e0, e1, e2, e3, e4, e5, e6, e7, e8, e9⟩ := M10.out.ten; have plt10 := M10.out.y.lt; have cl10 := KL.out w10 M10.out.s;  clear hg10 ho10) | (go_at_call 83; (with_reducible refine (CL.out _ M10.out.o3).mono ?_); rintro e w11 ⟨rfl, hg11, ho11⟩; have M11 : Hid (MInv w w11 p ((n : Int) + 1) m g0 g1 g2 g3 g4 c0 c1 c2 c3 c4 hS hF (setF h2 i8 r8 true) (setF h3 i9 r9 true) (setF h4 i9 r9 true)) := M10.out.set3 hg11 ho11; clear hg11 ho11))
            go_roundw
            case rel => exact ⟨l, _, _, _, hln, rfl, M11.out, FF, LL, B4.out⟩
            case measure => have := HL.out; simp [intOf]; omega
        · have hji : (k : Int) - 1 = (j : Int) := by omega
          have hj0 : (0 : Int) ≤ (j : Int) := by omega
          have hjn : (j : Int) < (n : Int) := by omega
          have hkz : ¬ (k : Int) = 0 := by omega
          have PS := HSKP.out j hj
          rw [hA] at PS
          have KJ : Hid (∀ W, Since w W → W.cell? ⟨bb, off + j * 3 + 1, none⟩ = some (.bool true)) := fun W hW => by rw [← hA]; exact KC.out W hW j (by omega)
          clear hA hj
          have FF := F2'.out PS
          clear PS
          rcases caseB with hB | ⟨hB, hC⟩ | ⟨hB, hC⟩
          · have hke : ((k : Int) == (n : Int) + 1 - 2) = true := by have := HL.out; simp; omega
            have LL := L3.out (HSKN.out hB)
            clear hB
            go_wp2_with (first | (go_at_call 83; (with_reducible refine CB.mono ?_); rintro e w9 ⟨rfl, hg9, ho9⟩; have M9 : Hid (MInv w w9 p ((n : Int) + 1) m g0 g1 g2 g3 g4 c0 c1 c2 c3 c4 hS hF h2 h3 (setF h4 i9 r9 true)) := MI.out.set4 hg9 ho9; obtain ⟨b0, b1, b2, b3, b4, b5, b6, b7, b8, b9⟩ := M9.out.ten; have plt9 := M9.out.y.lt; have cj9 := KJ.out w9 M9.out.s;  clear hg9 ho9) | (go_at_call 83; (with_reducible refine (CL.out _ M9.out.o3).mono ?_); rintro e w11 ⟨rfl, hg11, ho11⟩; have M11 : Hid (MInv w w11 p ((n : Int) + 1) m g0 g1 g2 g3 g4 c0 c1 c2 c3 c4 hS hF h2 (setF h3 i9 r9 true) (setF h4 i9 r9 true)) := M9.out.set3 hg11 ho11; clear hg11 ho11))
            go_roundw
            case rel => exact ⟨l, _, _, _, hln, rfl, M11.out, FF, LL, B4.out⟩
            case measure => have := HL.out; simp [intOf]; omega
          · have hke : ¬ (k : Int) = (n : Int) - 1 := by have := HL.out; omega
            have hlni : (l : Int) < (n : Int) := by omega
            have LL := L3'.out ((HSKL.out hB).trans hC)
            have KL : Hid (∀ W, Since w W → W.cell? ⟨bb, off + l * 3 + 1, none⟩ = some (.bool true)) := fun W hW => by rw [← hC]; exact KC.out W hW l hB
            clear hB hC
            go_wp2_with (first | (go_at_call 83; (with_reducible refine CB.mono ?_); rintro e w9 ⟨rfl, hg9, ho9⟩; have M9 : Hid (MInv w w9 p ((n : Int) + 1) m g0 g1 g2 g3 g4 c0 c1 c2 c3 c4 hS hF h2 h3 (setF h4 i9 r9 true)) := MI.out.set4 hg9 ho9; obtain ⟨b0, b1, b2, b3, b4, b5, b6, b7, b8, b9⟩ := M9.out.ten; have plt9 := M9.out.y.lt; have cj9 := KJ.out w9 M9.out.s; have cl9 := KL.out w9 M9.out.s;  clear hg9 ho9))
            go_roundw
            case rel => exact ⟨l, _, _, _, hln, rfl, M9.out, FF, LL, B4.out⟩
            case measure => have := HL.out; simp [intOf]; omega
          · have hke : ¬ (k : Int) = (n : Int) - 1 := by have := HL.out; omega
            have hlni : (l : Int) < (n : Int) := by omega
            have LL := L3.out ((HSKL.out hB).trans hC)
            have KL : Hid (∀ W, Since w W → W.cell? ⟨bb, off + l * 3 + 1, none⟩ = some (.bool false)) := fun W hW => by rw [← hC]; exact KC.out W hW l hB
            clear hB hC
            go_wp2_with (first | (go_at_call 83; (with_reducible refine CB.mono ?_); rintro e w9 ⟨rfl, hg9, ho9⟩; have M9 : Hid (MInv w w9 p ((n : Int) + 1) m g0 g1 g2 g3 g4 c0 c1 c2 c3 c4 hS hF h2 h3 (setF h4 i9 r9 true)) := MI.out.set4 hg9 ho9; obtain ⟨b0, b1, b2, b3, b4, b5, b6, b7, b8, b9⟩ := M9.out.ten; have plt9 := M9.out.y.lt; have cj9 := KJ.out w9 M9.out.s; have cl9 := KL.out w9 M9.out.s;  clear hg9 ho9) | (go_at_call 83; (with_reducible refine (CL.out _ M9.out.o3).mono ?_); rintro e w11 ⟨rfl, hg11, ho11⟩; have M11 : Hid (MInv w w11 p ((n : Int) + 1) m g0 g1 g2 g3 g4 c0 c1 c2 c3 c4 hS hF h2 (setF h3 i9 r9 true) (setF h4 i9 r9 true)) := M9.out.set3 hg11 ho11; clear hg11 ho11))
            go_roundw
            case rel => exact ⟨l, _, _, _, hln, rfl, M11.out, FF, LL, B4.out⟩
            case measure => have := HL.out; simp [intOf]; omega
        · have hji : (k : Int) - 1 = (j : Int) := by omega
          have hj0 : (0 : Int) ≤ (j : Int) := by omega
          have hjn : (j : Int) < (n : Int) := by omega
          have hkz : ¬ (k : Int) = 0 := by omega
          have PS := HSKP.out j hj
          rw [hA] at PS
          have KJ : Hid (∀ W, Since w W → W.cell? ⟨bb, off + j * 3 + 1, none⟩ = some (.bool false)) := fun W hW => by rw [← hA]; exact KC.out W hW j (by omega)
          clear hA hj
          have FF := F2.out PS
          clear PS
          rcases caseB with hB | ⟨hB, hC⟩ | ⟨hB, hC⟩
          · have hke : ((k : Int) == (n : Int) + 1 - 2) = true := by have := HL.out; simp; omega
            have LL := L3.out (HSKN.out hB)
            clear hB
            go_wp2_with (first | (go_at_call 83; (with_reducible refine CB.mono ?_); rintro e w9 ⟨rfl, hg9, ho9⟩; have M9 : Hid (MInv w w9 p ((n : Int) + 1) m g0 g1 g2 g3 g4 c0 c1 c2 c3 c4 hS hF h2 h3 (setF h4 i9 r9 true)) := MI.out.set4 hg9 ho9; obtain ⟨b0, b1, b2, b3, b4, b5, b6, b7, b8, b9⟩ := M9.out.ten; have plt9 := M9.out.y.lt; have cj9 := KJ.out w9 M9.out.s;  clear hg9 ho9) | (go_at_call 83; (with_reducible refine (CF.out _ M9.out.o2).mono ?_); rintro e w10 ⟨rfl, hg10, ho10⟩; have M10 : Hid (MInv w w10 p ((n : Int) + 1) m g0 g1 g2 g3 g4 c0 c1 c2 c3 c4 hS hF (setF h2 i8 r8 true) h3 (setF h4 i9 r9 true)) := M9.out.set2 hg10 ho10; obtain ⟨e0, e1, e2, e3, e4, e5, e6, e7, e8, e9⟩ := M10.out.ten; have plt10 := M10.out.y.lt;  clear hg10 ho10) | (go_at_call 83; (with_reducible refine (CL.out _ M10.out.o3).mono ?_); rintro e w11 ⟨rfl, hg11, ho11⟩; have M11 : Hid (MInv w w11 p ((n : Int) + 1) m g0 g1 g2 g3 g4 c0 c1 c2 c3 c4 hS hF (setF h2 i8 r8 true) (setF h3 i9 r9 true) (setF h4 i9 r9 true)) := M10.out.set3 hg11 ho11; clear hg11 ho11))
            go_roundw
            case rel => exact ⟨l, _, _, _, hln, rfl, M11.out, FF, LL, B4.out⟩
            case measure => have := HL.out; simp [intOf]; omega
          · have hke : ¬ (k : Int) = (n : Int) - 1 := by have := HL.out; omega
            have hlni : (l : Int) < (n : Int) := by omega
            have LL := L3'.out ((HSKL.out hB).trans hC)
            have KL : Hid (∀ W, Since w W → W.cell? ⟨bb, off + l * 3 + 1, none⟩ = some (.bool true)) := fun W hW => by rw [← hC]; exact KC.out W hW l hB
            clear hB hC
            go_wp2_with (first | (go_at_call 83; (with_reducible refine CB.mono ?_); rintro e w9 ⟨rfl, hg9, ho9⟩; have M9 : Hid (MInv w w9 p ((n : Int) + 1) m g0 g1 g2 g3 g4 c0 c1 c2 c3 c4 hS hF h2 h3 (setF h4 i9 r9 true)) := MI.out.set4 hg9 ho9; obtain ⟨b0, b1, b2, b3, b4, b5, b6, b7, b8, b9⟩ := M9.out.ten; have plt9 := M9.out.y.lt; have cj9 := KJ.out w9 M9.out.s; have cl9 := KL.out w9 M9.out.s;  clear hg9 ho9) | (go_at_call 83; (with_reducible refine (CF.out _ M9.out.o2).mono ?_); rintro e w10 ⟨rfl, hg10, ho10⟩; have M10 : Hid (MInv w w10 p ((n : Int) + 1) m g0 g1 g2 g3 g4 c0 c1 c2 c3 c4 hS hF (setF h2 i8 r8 true) h3 (setF h4 i9 r9 true)) := M9.out.set2 hg10 ho10; obtain ⟨e0, e1, e2, e3, e4, e5, e6, e7, e8, e9⟩ := M10.out.ten; have plt10 := M10.out.y.lt; have cl10 := KL.out w10 M10.out.s;  clear hg10 ho10))
            go_roundw
            case rel => exact ⟨l, _, _, _, hln, rfl, M10.out, FF, LL, B4.out⟩
            case measure => have := HL.out; simp [intOf]; omega
          · have hke : ¬ (k : Int) = (n : Int) - 1 := by have := HL.out; omega
            have hlni : (l : Int) < (n : Int) := by omega
            have LL := L3.out ((HSKL.out hB).trans hC)
            have KL : Hid (∀ W, Since w W → W.cell? ⟨bb, off + l * 3 + 1, none⟩ = some (.bool false)) := fun W hW => by rw [← hC]; exact KC.out W hW l hB
            clear hB hC
            go_wp2_with (first | (go_at_call 83; (with_reducible refine CB.mono ?_); rintro e w9 ⟨rfl, hg9, ho9⟩; have M9 : Hid (MInv w w9 p ((n : Int) + 1) m g0 g1 g2 g3 g4 c0 c1 c2 c3 c4 hS hF h2 h3 (setF h4 i9 r9 true)) := MI.out.set4 hg9 ho9; obtain ⟨b0, b1, b2, b3, b4, b5, b6, b7, b8, b9⟩ := M9.out.ten; have plt9 := M9.out.y.lt; have cj9 := KJ.out w9 M9.out.s; have cl9 := KL.out w9 M9.out.s;  clear hg9 ho9) | (go_at_call 83; (with_reducible refine (CF.out _ M9.out.o2).mono ?_); rintro e w10 ⟨rfl, hg10, ho10⟩; have M10 : Hid (MInv w w10 p ((n : Int) + 1) m g0 g1 g2 g3 g4 c0 c1 c2 c3 c4 hS hF (setF h2 i8 r8 true) h3 (setF h4 i9 r9 true)) := M9.out.set2 hg10 ho10; obtain ⟨e0, e1, e2, e3, e4, e5, e6, e7, e8, e9⟩ := M10.out.ten; have plt10 := M10.out.y.lt; have cl10 := KL.out w10 M10.out.s;  clear hg10 ho10) | (go_at_call 83; (with_reducible refine (CL.out _ M10.out.o3).mono ?_); rintro e w11 ⟨rfl, hg11, ho11⟩; have M11 : Hid (MInv w w11 p ((n : Int) + 1) m g0 g1 g2 g3 g4 c0 c1 c2 c3 c4 hS hF (setF h2 i8 r8 true) (setF h3 i9 r9 true) (setF h4 i9 r9 true)) := M10.out.set3 hg11 ho11; clear hg11 ho11))
            go_roundw
            case rel => exact ⟨l, _, _, _, hln, rfl, M11.out, FF, LL, B4.out⟩
            case measure => have := HL.out; simp [intOf]; omega
    · have hki : ¬ (k : Int) < (n : Int) := by omega
      obtain rfl : k = n := by omega
      obtain ⟨x0, x1, x2, x3, x4, x5, x6, x7, x8, x9⟩ := hM.x.cells
      obtain ⟨f0, f1, f2, f3, f4, f5, f6, f7, f8, f9⟩ := hM.x.free
      have xlt := hM.x.lt
      have hne1 : w.heap.size ≠ p := by have := hM.lt; omega
      have HLT : Hid (w.heap.size < g0 ∧ g0 < g1 ∧ g1 < g2 ∧ g2 < g3 ∧ g3 < g4 ∧ g4 < p) := hM.lt
      have KEEP : Hid (∀ W : World, OnlyM wr W w.heap.size (w.heap.size + 1) → MasksAt w k m f (.returned (masksV ((k : Int) + 1) (five (some ⟨g0, 0, none⟩) (some ⟨g1, 0, none⟩) (some ⟨g2, 0, none⟩) (some ⟨g3, 0, none⟩) (some ⟨g4, 0, none⟩)) m (five c0 c1 c2 c3 c4))) W) := fun W hW => by
        have hl := hM.lt
        have key : ∀ (g : Nat) (h : Nat → Int), w.heap.size < g → Own wr g m h → Own W g m h := fun g h hg ho => by
          have hb := hW.block g ho.1 (by omega)
          refine ⟨Nat.lt_of_lt_of_le ho.1 hW.size, fun i hi => ?_, fun i hi => ?_⟩
          · have := ho.2.1 i hi
            simpa [World.cell?, hb] using this
          · have := ho.2.2 i hi
            simpa [World.frozen?, hb] using this
        refine ⟨g0, g1, g2, g3, g4, c0, c1, c2, c3, c4, hS, hF, h2, h3, h4, rfl, hM.s.below.trans (hW.below (Nat.le_refl _) hM.s.size), by omega, key g0 hS (by omega) hM.o0, key g1 hF (by omega) hM.o1, key g2 h2 (by omega) hM.o2, key g3 h3 (by omega) hM.o3, key g4 h4 (by omega) hM.o4, V0.out, V1.out, HV.out.1.congr (fun j => ?_), HV.out.2.1.congr (fun j => ?_), HV.out.2.2.congr (fun j => ?_)⟩
        · by_cases hj : j < k
          · rw [decide_eq_true hj, Bool.true_and]
          · unfold firstB; rw [skip_le f k (j + 1) (by omega)]; simp
        · by_cases hj : j < k + 1
          · rw [decide_eq_true hj, Bool.true_and]
          · unfold lastB; rw [skip_le f k j (by omega)]; simp
        · by_cases hj : j < k + 1
          · rw [decide_eq_true hj, Bool.true_and]
          · rw [skip_le f k j (by omega)]; simp
      clear hM
      go_wp2_with fail
      refine bodyPost_ret (v := masksV ((k : Int) + 1) (five (some ⟨g0, 0, none⟩) (some ⟨g1, 0, none⟩) (some ⟨g2, 0, none⟩) (some ⟨g3, 0, none⟩) (some ⟨g4, 0, none⟩)) m (five c0 c1 c2 c3 c4)) (by simp [results, Tryz.results85, go_sem, masksV, five, x0, x1, x2, x3, x4, x5, x6, x7, x8, x9]) rfl ?_
      refine KEEP.out _ ?_
      iterate 10 (refine OnlyM.setS ?_ (Nat.le_refl _) (Nat.lt_succ_self _))
      exact OnlyM.refl _ _ _
end Go.Proofs.YtfeolbgenpknfaaGreat
