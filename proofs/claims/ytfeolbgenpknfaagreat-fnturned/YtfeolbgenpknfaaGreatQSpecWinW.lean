/- What is proved here: the specification's l09Look and Windows tell the windows of a text, in order, in new memory; nothing that was there turns. -/
import Derived.Test.YtfeolbgenpknfaaGreatQImplWinW
namespace Go.Proofs.YtfeolbgenpknfaaGreat
open Go.RowKit

/-- Three numbers lie in a box. -/
structure Tri3 (W : World) (p : Nat) (x y z : Int) : Prop where
  c0 : W.cell? ⟨p, 0, none⟩ = some (.int .i64 x)
  c1 : W.cell? ⟨p, 1, none⟩ = some (.int .i64 y)
  c2 : W.cell? ⟨p, 2, none⟩ = some (.int .i64 z)
  f : ∀ i, W.frozen? ⟨p, i, none⟩ = false
  lt : p < W.heap.size
theorem Tri3.later {W V : World} {p : Nat} {x y z : Int} (h : Tri3 W p x y z) (hs : Below W.heap.size W V) : Tri3 V p x y z := by
  have hb := hs.block p h.lt
  exact ⟨by have := h.c0; simpa [World.cell?, hb] using this, by have := h.c1; simpa [World.cell?, hb] using this, by have := h.c2; simpa [World.cell?, hb] using this, fun i => by have := h.f i; simpa [World.frozen?, hb] using this, Nat.lt_of_lt_of_le h.lt hs.size⟩
theorem Tri3.new (W : World) (x y z : Int) (ty : TypeId) : Tri3 (W.alloc (.cells #[.int .i64 x, .int .i64 y, .int .i64 z] ty)) W.heap.size x y z :=
  ⟨by rw [World.cell?_alloc_mark]; rfl, by rw [World.cell?_alloc_mark]; rfl, by rw [World.cell?_alloc_mark]; rfl, fun i => frozen_of_row _ _ _ _ _ (heap_alloc_new W _), by simp⟩
/-- Looked at from the whole piece downwards. -/
def Down (n : Nat) (f : Nat → Cel) (t : ByteArray) (i v : Nat) : Prop := (v = n ∧ ∀ j, i < j → j ≤ n → SomeS n f t j) ∨ (i < v ∧ v ≤ n ∧ ¬ SomeS n f t v ∧ ∀ j, i < j → j < v → SomeS n f t j)
theorem down_start {n : Nat} {f : Nat → Cel} {t : ByteArray} : Down n f t n n := Or.inl ⟨rfl, fun j h1 h2 => by omega⟩
theorem down_yes {n i v : Nat} {f : Nat → Cel} {t : ByteArray} (h : Down n f t (i + 1) v) (hs : SomeS n f t (i + 1)) : Down n f t i v := by
  rcases h with ⟨h1, h2⟩ | ⟨h1, h2, h3, h4⟩
  · exact Or.inl ⟨h1, fun j h5 h6 => by
      by_cases e : j = i + 1
      · rw [e]; exact hs
      · exact h2 j (by omega) h6⟩
  · exact Or.inr ⟨by omega, h2, h3, fun j h5 h6 => by
      by_cases e : j = i + 1
      · rw [e]; exact hs
      · exact h4 j (by omega) h6⟩
theorem down_no {n i : Nat} {f : Nat → Cel} {t : ByteArray} (hi : i + 1 ≤ n) (hs : ¬ SomeS n f t (i + 1)) : Down n f t i (i + 1) := Or.inr ⟨by omega, hi, hs, fun j h1 h2 => by omega⟩
theorem down_end {n v bd : Nat} {f : Nat → Cel} {t : ByteArray} (ht : t.size = n) (hn : 1 ≤ n) (h : Down n f t 0 v) (hb : IsBorder n f t bd) : ∃ fc, LookP n f t v bd fc := by
  rcases h with ⟨h1, h2⟩ | ⟨h1, h2, h3, h4⟩
  · exact ⟨true, hb, ⟨fun _ => by rw [ht]; exact h2 n (by omega) (Nat.le_refl _), fun _ => rfl⟩, fun _ => by rw [h1, ht], fun h => by cases h⟩
  · exact ⟨false, hb, ⟨fun h => (by cases h), fun h => absurd (someS_less h (by omega)) h3⟩, fun h => (by cases h), fun _ => ⟨h1, by omega, h3, fun j hj => by
      cases j with
      | zero => exact some_zero
      | succ j => exact h4 (j + 1) (by omega) hj⟩⟩
open Classical in
set_option maxRecDepth 100000 in
set_option maxHeartbeats 2000000 in
theorem l09Look_any (sa : Option Addr) (n cap a : Nat) (f : Nat → Cel) (t : ByteArray) (w : World) (hn0 : 1 ≤ n) (hn : n ≤ 60) (ht : t.size = n) (hr : CRow w w.heap.size sa n f) (hc : ∀ i, i < n → (f i).c.size ≤ 256) :
    Calls Tryz.prog 42 #[.slice sa n cap, .int .i64 (a : Int), .string t] w fun e w' => (∃ (lk bd : Nat) (fc : Bool), e = .returned (.agg #[.int .i64 (a : Int), .int .i64 (lk : Int), .int .i64 ((n - bd : Nat) : Int)]) ∧ bd < n ∧ LookP n f t lk bd fc) ∧ Below w.heap.size w w' := by
  have HT : Hid (t.size = n) := ht
  have HF : Hid (∀ (k : Nat), k ≤ n → ∀ W, Below w.heap.size w W → Calls Tryz.prog 55 #[.slice sa n cap, .string (t.extract (n - k) n)] W fun e w' => e = .returned (.bool (decide (SomeS n f t k))) ∧ Below W.heap.size W w') := fun k hk W hW => by
    have h := l09Factor_any sa n cap f (t.extract (n - k) n) W hn (by rw [cut_size (by omega)]; omega) ((hr.kept hW).up hW.size) hc
    have e1 : (t.extract (n - k) n).size = k := by rw [cut_size (by omega)]; omega
    have e2 : SomeS n f (t.extract (n - k) n) (t.extract (n - k) n).size ↔ SomeS n f t k := by
      subst ht
      exact ⟨fun ⟨p, hp⟩ => ⟨p, (goesP_last hk).1 (goesP_iff.2 hp)⟩, fun ⟨p, hp⟩ => ⟨p, goesP_iff.1 ((goesP_last hk).2 hp)⟩⟩
    rw [decide_eq_decide.2 e2] at h
    exact h
  have HBO : Hid (∀ W, Below w.heap.size w W → Calls Tryz.prog 58 #[.slice sa n cap, .string t] W fun e w' => (∃ b : Nat, e = .returned (.int .i64 (b : Int)) ∧ b < n ∧ IsBorder n f t b) ∧ Below W.heap.size W w') := fun W hW => l09Border_any sa n cap f t W hn0 hn (by omega) ((hr.kept hW).up hW.size) hc
  clear hr hc
  have hti : (t.size : Int) = (n : Int) := by omega
  have HB0 : Hid (Tri3 (w.alloc (.cells #[.int .i64 0, .int .i64 0, .int .i64 0] 47)) w.heap.size 0 0 0) := Tri3.new w 0 0 0 _
  have HW0 : Hid (Below w.heap.size w (w.alloc (.cells #[.int .i64 0, .int .i64 0, .int .i64 0] 47))) := (Below.refl _ _).alloc (Nat.le_refl _) _
  clear ht
  go_enter Tryz.func42, Tryz.ntmps42
  go_wp2_with fail
  go_loopw [8, 9] (fun lv iv wr => ∃ v i : Nat, i ≤ n ∧ v ≤ n ∧ lv = .int .i64 (v : Int) ∧ iv = .int .i64 (i : Int) ∧ Below w.heap.size w wr ∧ Tri3 wr w.heap.size 0 0 0 ∧ Down n f t i v) (fun _ iv _ => (intOf iv).toNat)
  case atStart => exact ⟨n, n, Nat.le_refl _, Nat.le_refl _, rfl, rfl, HW0.out, HB0.out, down_start⟩
  case round =>
    obtain ⟨v, i, hi, hv, rfl, rfl, hbel, hbx, hdn⟩ := hrel
    have HB : Hid (Below w.heap.size w wr ∧ Tri3 wr w.heap.size 0 0 0) := ⟨hbel, hbx⟩
    have HD : Hid (Down n f t i v) := hdn
    clear hbel hbx hdn
    cases i with
    | succ i =>
      obtain ⟨j, hj⟩ : ∃ j, i + 1 = j := ⟨_, rfl⟩
      have HJ : Hid (i + 1 = j) := hj
      rw [hj] at hi HD ⊢
      have hii : (1 : Int) ≤ (j : Int) := by omega
      have C := HF.out j hi wr HB.out.1
      obtain ⟨d, hd⟩ : ∃ d, n - j = d := ⟨_, rfl⟩
      have hdi : (n : Int) - (j : Int) = (d : Int) := by omega
      have hd0 : (0 : Int) ≤ (d : Int) := by omega
      have hd1 : (d : Int) ≤ (t.size : Int) := by omega
      have hex : t.extract d t.size = t.extract d n := by rw [HT.out]
      rw [hd, ← hex] at C
      clear hd hex hj
      have hwd : IntKind.i64.wrap (d : Int) = (d : Int) := by rw [IntKind.wrap_i64] <;> omega
      by_cases hg : SomeS n f t j
      · rw [decide_eq_true hg] at C
        have HN : Hid (SomeS n f t j) := hg
        clear hg
        go_wp2_with fail
        refine C.mono ?_
        rintro e w1 ⟨rfl, hb⟩
        have HB1 : Hid (Below w.heap.size w w1 ∧ Tri3 w1 w.heap.size 0 0 0) := ⟨HB.out.1.trans (hb.mono HB.out.1.size), HB.out.2.later hb⟩
        clear hb C
        go_wp2_with fail
        go_roundw
        case rel => exact ⟨v, i, by have := HJ.out; omega, hv, rfl, by have := HJ.out; go_num, HB1.out.1, HB1.out.2, down_yes (by rw [HJ.out]; exact HD.out) (by rw [HJ.out]; exact HN.out)⟩
        case measure => simp [intOf] <;> omega
      · rw [decide_eq_false hg] at C
        have HN : Hid (¬ SomeS n f t j) := hg
        clear hg
        go_wp2_with fail
        refine C.mono ?_
        rintro e w1 ⟨rfl, hb⟩
        have HB1 : Hid (Below w.heap.size w w1 ∧ Tri3 w1 w.heap.size 0 0 0) := ⟨HB.out.1.trans (hb.mono HB.out.1.size), HB.out.2.later hb⟩
        clear hb C
        go_wp2_with fail
        go_roundw
        case rel => exact ⟨j, i, by have := HJ.out; omega, hi, rfl, by have := HJ.out; go_num, HB1.out.1, HB1.out.2, by have h9 := down_no (f := f) (t := t) (i := i) (n := n) (by rw [HJ.out]; exact hi) (by rw [HJ.out]; exact HN.out); rw [HJ.out] at h9; exact h9⟩
        case measure => simp [intOf] <;> omega
    | zero =>
      have C := HBO.out wr HB.out.1
      go_wp2_with fail
      refine C.mono ?_
      rintro e w1 ⟨⟨b, rfl, hbn, hbo⟩, hb⟩
      have HB1 : Hid (Below w.heap.size w w1) := HB.out.1.trans (hb.mono HB.out.1.size)
      have hbx := HB.out.2.later hb
      have d0 := hbx.c0
      have d1 := hbx.c1
      have d2 := hbx.c2
      have g0 := hbx.f 0
      have g1 := hbx.f 1
      have g2 := hbx.f 2
      obtain ⟨fc, hlk⟩ := down_end HT.out hn0 HD.out hbo
      have HL : Hid (LookP n f t v b fc) := hlk
      obtain ⟨d, hd⟩ : ∃ d, n - b = d := ⟨_, rfl⟩
      have hdi : (n : Int) - (b : Int) = (d : Int) := by omega
      have HDD : Hid (n - b = d) := hd
      clear hb C hbx hbo hlk hd
      go_wp2_with fail
      have i0 := World.cell?_setCell_same w1 ⟨w.heap.size, 0, none⟩ (.int .i64 (a : Int)) d0
      have k1 : (w1.setCell ⟨w.heap.size, 0, none⟩ (.int .i64 (a : Int))).cell? ⟨w.heap.size, 1, none⟩ = some (.int .i64 0) := by rw [World.cell?_setCell_other _ _ _ _ (addr_ne (by decide))]; exact d1
      have k2 : ((w1.setCell ⟨w.heap.size, 0, none⟩ (.int .i64 (a : Int))).setCell ⟨w.heap.size, 1, none⟩ (.int .i64 (v : Int))).cell? ⟨w.heap.size, 2, none⟩ = some (.int .i64 0) := by rw [World.cell?_setCell_other _ _ _ _ (addr_ne (by decide)), World.cell?_setCell_other _ _ _ _ (addr_ne (by decide))]; exact d2
      have q2 := World.cell?_setCell_same ((w1.setCell ⟨w.heap.size, 0, none⟩ (.int .i64 (a : Int))).setCell ⟨w.heap.size, 1, none⟩ (.int .i64 (v : Int))) ⟨w.heap.size, 2, none⟩ (.int .i64 (d : Int)) k2
      have q1 : (((w1.setCell ⟨w.heap.size, 0, none⟩ (.int .i64 (a : Int))).setCell ⟨w.heap.size, 1, none⟩ (.int .i64 (v : Int))).setCell ⟨w.heap.size, 2, none⟩ (.int .i64 (d : Int))).cell? ⟨w.heap.size, 1, none⟩ = some (.int .i64 (v : Int)) := by rw [World.cell?_setCell_other _ _ _ _ (addr_ne (by decide))]; exact World.cell?_setCell_same _ _ _ k1
      have q0 : (((w1.setCell ⟨w.heap.size, 0, none⟩ (.int .i64 (a : Int))).setCell ⟨w.heap.size, 1, none⟩ (.int .i64 (v : Int))).setCell ⟨w.heap.size, 2, none⟩ (.int .i64 (d : Int))).cell? ⟨w.heap.size, 0, none⟩ = some (.int .i64 (a : Int)) := by rw [World.cell?_setCell_other _ _ _ _ (addr_ne (by decide)), World.cell?_setCell_other _ _ _ _ (addr_ne (by decide))]; exact i0
      refine bodyPost_ret (show _ = Result.ok (.agg #[.int .i64 (a : Int), .int .i64 (v : Int), .int .i64 (d : Int)]) _ from by simp [results, Tryz.results42, go_sem, q0, q1, q2]) rfl ?_
      exact ⟨⟨v, b, fc, by rw [HDD.out], hbn, HL.out⟩, ((HB1.out.setCell (p := ⟨w.heap.size, 0, none⟩) (Nat.le_refl _) _).setCell (p := ⟨w.heap.size, 1, none⟩) (Nat.le_refl _) _).setCell (p := ⟨w.heap.size, 2, none⟩) (Nat.le_refl _) _⟩
theorem Tri3.set0 {W : World} {p : Nat} {x y z : Int} (h : Tri3 W p x y z) (a : Int) : Tri3 (W.setCell ⟨p, 0, none⟩ (.int .i64 a)) p a y z :=
  ⟨World.cell?_setCell_same _ _ _ h.c0, by rw [World.cell?_setCell_other _ _ _ _ (addr_ne (by decide))]; exact h.c1, by rw [World.cell?_setCell_other _ _ _ _ (addr_ne (by decide))]; exact h.c2, fun i => by rw [World.frozen?_setCell]; exact h.f i, by simpa [World.setCell] using h.lt⟩
theorem Tri3.set1 {W : World} {p : Nat} {x y z : Int} (h : Tri3 W p x y z) (a : Int) : Tri3 (W.setCell ⟨p, 1, none⟩ (.int .i64 a)) p x a z :=
  ⟨by rw [World.cell?_setCell_other _ _ _ _ (addr_ne (by decide))]; exact h.c0, World.cell?_setCell_same _ _ _ h.c1, by rw [World.cell?_setCell_other _ _ _ _ (addr_ne (by decide))]; exact h.c2, fun i => by rw [World.frozen?_setCell]; exact h.f i, by simpa [World.setCell] using h.lt⟩
theorem Tri3.set2 {W : World} {p : Nat} {x y z : Int} (h : Tri3 W p x y z) (a : Int) : Tri3 (W.setCell ⟨p, 2, none⟩ (.int .i64 a)) p x y a :=
  ⟨by rw [World.cell?_setCell_other _ _ _ _ (addr_ne (by decide))]; exact h.c0, by rw [World.cell?_setCell_other _ _ _ _ (addr_ne (by decide))]; exact h.c1, World.cell?_setCell_same _ _ _ h.c2, fun i => by rw [World.frozen?_setCell]; exact h.f i, by simpa [World.setCell] using h.lt⟩
open Classical in
set_option maxRecDepth 100000 in
set_option maxHeartbeats 4000000 in
theorem specWin_yes (sa : Option Addr) (n cap : Nat) (f : Nat → Cel) (t : ByteArray) (w : World) (hn : n ≤ maxLen) (hr : CRow w w.heap.size sa n f) (hc : ∀ i, i < n → (f i).c.size ≤ maxLen) (ht : t.size ≤ 8000) (h60 : n ≤ 60) (hP : PlainP n f) :
    Calls Tryz.prog 10 #[.slice sa n cap, .string t] w fun e w' => ∃ k, LastW n f t h60 k ∧ NewWins w ((uptoW n f t h60 k).map Prod.fst) e w' := by
  obtain ⟨i0, hi, hz0, hz1, hz2⟩ := info_parts Tryz.winInfo
  have hti : ¬ (8000 : Int) < (t.size : Int) := by omega
  have CP : ∀ W, Below w.heap.size w W → Calls Tryz.prog 28 #[.slice sa n cap] W fun e w' => e = .returned (.bool true) ∧ Below W.heap.size W w' := fun W hW => by
    have h := specPlain_any sa n cap f W hn ((hr.kept hW).up hW.size) hc
    rw [decide_eq_true hP] at h
    exact h
  have hn1 := hP.1.1
  have HL : Hid (∀ (a : Nat) (u : ByteArray), a ≤ 8000 → u.size = n → ∀ W, Below w.heap.size w W → Calls Tryz.prog 42 #[.slice sa n cap, .int .i64 (a : Int), .string u] W fun e w' => (∃ (lk bd : Nat) (fc : Bool), e = .returned (.agg #[.int .i64 (a : Int), .int .i64 (lk : Int), .int .i64 ((n - bd : Nat) : Int)]) ∧ bd < n ∧ LookP n f u lk bd fc) ∧ Below W.heap.size W w') := fun a u _ hu W hW => l09Look_any sa n cap a f u W hn1 h60 hu ((hr.kept hW).up hW.size) (cels_max hP.1)
  clear hr hc hP
  go_enter Tryz.func10, Tryz.ntmps10
  go_wp2_with fail
  have hba : Below w.heap.size w (w.alloc (.cells #[] 47)) := (Below.refl _ w).alloc (Nat.le_refl _) _
  have HOA : Hid (OwnsW (w.alloc (.cells #[] 47)) w.heap.size (.slice (some ⟨w.heap.size, 0, none⟩) 0 0) []) := wins_start w w.heap.size (Nat.le_refl _) #[] rfl
  refine (CP _ hba).mono ?_
  rintro e w1 ⟨rfl, hb⟩
  have HB1 : Hid (Below w.heap.size w w1) := hba.trans (hb.mono (by simp))
  have HO1 : Hid (OwnsW w1 w.heap.size (.slice (some ⟨w.heap.size, 0, none⟩) 0 0) []) := ints_below HOA.out hb rfl
  clear hba hb CP HOA
  go_wp2_with fail
  go_loopw [5, 6] (fun v av wr => ∃ k : Nat, av = .int .i64 ((posW n f t h60 k : Nat) : Int) ∧ (∀ i, i < k → posW n f t h60 i + n ≤ t.size) ∧ OwnsW wr w.heap.size v ((uptoW n f t h60 k).map Prod.fst) ∧ Below w.heap.size w wr) (fun _ av _ => t.size + 1 - (intOf av).toNat)
  case atStart => exact ⟨0, rfl, fun i hi => absurd hi (Nat.not_lt_zero _), HO1.out, HB1.out⟩
  case round =>
    obtain ⟨k, rfl, hall, hown, hbel⟩ := hrel
    have HA : Hid (∀ i, i < k → posW n f t h60 i + n ≤ t.size) := hall
    have HO : Hid (OwnsW wr w.heap.size u5 ((uptoW n f t h60 k).map Prod.fst)) := hown
    have HB : Hid (Below w.heap.size w wr) := hbel
    obtain ⟨a, ha⟩ : ∃ a, posW n f t h60 k = a := ⟨_, rfl⟩
    have HPA : Hid (posW n f t h60 k = a) := ha
    rw [ha]
    have hka : k ≤ a := by rw [← ha]; exact posW_ge hn1 k
    have hat : a ≤ t.size := by rw [← ha]; exact posW_le hall
    clear hall hown hbel ha
    obtain ⟨q, hq⟩ : ∃ q, a + n = q := ⟨_, rfl⟩
    have HQ : Hid (a + n = q) := hq
    have hqi : (a : Int) + (n : Int) = (q : Int) := by omega
    have ha0 : (0 : Int) ≤ (a : Int) := by omega
    have hwq : IntKind.i64.wrap (q : Int) = (q : Int) := by rw [IntKind.wrap_i64] <;> omega
    by_cases hql : q ≤ t.size
    · have hqt : (q : Int) ≤ (t.size : Int) := by omega
      have hsl := slice_piece t a q (by omega) hql
      have C : Hid (∀ W, Below w.heap.size w W → Calls Tryz.prog 42 #[.slice sa n cap, .int .i64 (a : Int), .string (t.extract a q)] W fun e w' => (∃ (lk bd : Nat) (fc : Bool), e = .returned (.agg #[.int .i64 (a : Int), .int .i64 (lk : Int), .int .i64 ((n - bd : Nat) : Int)]) ∧ bd < n ∧ LookP n f (t.extract a q) lk bd fc) ∧ Below W.heap.size W w') := fun W hW => HL.out a _ (by omega) (by rw [cut_size hql]; omega) W hW
      clear hq
      go_wp2_with fail
      refine (C.out wr HB.out).mono ?_
      rintro e w1 ⟨⟨lk, bd, fc, rfl, hbdn, hlk⟩, hb⟩
      obtain ⟨sft, hs⟩ : ∃ sft, n - bd = sft := ⟨_, rfl⟩
      have hs1 : 1 ≤ sft := by omega
      have hs2 : sft ≤ 60 := by omega
      have HWIN : Hid (winW n f t h60 k = ((a, lk, sft), fc) ∧ posW n f t h60 (k + 1) = a + sft) := by
        have hpc : pieceT n t a = t.extract a q := by unfold pieceT; rw [HQ.out]
        obtain ⟨e1, e2, e3⟩ := look_one (lookN f (t.extract a q) h60) hlk
        refine ⟨?_, ?_⟩
        · unfold winW
          rw [HPA.out, hpc, e1, e2, e3, hs]
        · show posW n f t h60 k + (n - bdN n f (pieceT n t (posW n f t h60 k)) h60) = _
          rw [HPA.out, hpc, e2, hs]
      rw [hs]
      obtain ⟨U, hU, htri, hbU⟩ : ∃ U, w1.alloc (.cells #[.int .i64 (a : Int), .int .i64 (lk : Int), .int .i64 (sft : Int)] 47) = U ∧ Tri3 U w1.heap.size (a : Int) (lk : Int) (sft : Int) ∧ Below wr.heap.size wr U := ⟨_, rfl, Tri3.new _ _ _ _ _, hb.alloc hb.size _⟩
      have hUs : U.heap.size = w1.heap.size + 1 := by rw [← hU]; simp
      have HBU : Hid (Below w.heap.size w U) := HB.out.trans (hbU.mono HB.out.size)
      have hown : U.ownsRow w.heap.size 47 3 u5 ((uptoW n f t h60 k).map Prod.fst).length (wcells ((uptoW n f t h60 k).map Prod.fst)) := ints_below HO.out hbU rfl
      have HOU : Hid (OwnsW U w.heap.size u5 ((uptoW n f t h60 k).map Prod.fst)) := hown
      have hll : ((uptoW n f t h60 k).map Prod.fst).length ≤ 8000 := by rw [List.length_map, uptoW_len]; omega
      have hsz : w.heap.size ≤ U.heap.size := HBU.out.size
      have HTRI : Hid (Tri3 U w1.heap.size (a : Int) (lk : Int) (sft : Int)) := htri
      obtain ⟨p6, hp6⟩ : ∃ p6, w1.heap.size = p6 := ⟨_, rfl⟩
      have HP6 : Hid (w1.heap.size = p6) := hp6
      have HWS : Hid (wr.heap.size ≤ w1.heap.size) := hb.size
      have hUS2 : U.heap.size = w1.heap.size + 1 := hUs
      clear hs hlk hb hbU htri hp6 C hUs
      subst hU
      have HWR : Hid (∀ g, u5.ownBlock = some g → w.heap.size ≤ g ∧ g < w1.heap.size) := fun g hg => by
        have h9 := World.ownsRow.lt HO.out g hg
        have := HWS.out
        exact ⟨h9.1, by omega⟩
      go_wp2_with (at_builtin; refine wpList_append_own _ rfl (.tmp 36) (.tmp 38) 32 rfl w.heap.size 47 i0 (.agg #[.int .i64 0, .int .i64 0, .int .i64 0]) 3 24 Tryz.underlying32 hi hz0 hz1 hz2 rfl (by decide) _ _ _ rfl (hown.alloc _) ⟨w1.heap.size + 1, 0, none⟩ 1 1 [.int .i64 (a : Int), .int .i64 (lk : Int), .int .i64 (sft : Int)] rfl rfl ?c1 ?c2 ?c3 ?c4 ?c5 ?_)
      case c1 =>
        intro j u hu
        match j, hu with
        | 0, hu => simp at hu; subst hu; simp [Addr.add]
        | 1, hu => simp at hu; subst hu; simp [Addr.add]
        | 2, hu => simp at hu; subst hu; simp [Addr.add]
        | j + 3, hu => simp at hu
      case c2 => intro u hu; simp at hu; rcases hu with rfl | rfl | rfl <;> rfl
      case c3 => unfold maxLen; omega
      case c4 => omega
      case c5 => have := HBU.out.size; simp at this ⊢; omega
      intro v' w2 hown2 hgrow _
      have HOW2 : Hid (OwnsW w2 w.heap.size v' ((uptoW n f t h60 (k + 1)).map Prod.fst)) := by
        show w2.ownsRow _ _ _ _ _ _
        rw [uptoW_succ, HWIN.out.1, List.map_append, wcells_append, List.length_append, List.length_map]
        exact hown2
      have HB2 : Hid (Below w.heap.size w w2) := by
        have h1 := HBU.out.alloc HBU.out.size (.cells #[.int .i64 (a : Int), .int .i64 (lk : Int), .int .i64 (sft : Int)] 47)
        refine h1.trans ⟨hgrow.os, hgrow.tape, hgrow.output, hgrow.size, fun g hg => hgrow.block g (Nat.lt_of_lt_of_le hg h1.size) (fun e => ?_)⟩
        have := (HWR.out g e.symm).1
        omega
      have hb2 : w2.heap[w1.heap.size]? = (w1.alloc (.cells #[.int .i64 (a : Int), .int .i64 (lk : Int), .int .i64 (sft : Int)] 47)).heap[w1.heap.size]? := by
        refine (hgrow.block w1.heap.size (by simp; omega) (fun e => ?_)).trans (Below.heap_alloc _ _ _ (by simp))
        have := (HWR.out _ e.symm).2
        omega
      have t2 : w2.cell? ⟨w1.heap.size, 2, none⟩ = some (.int .i64 (sft : Int)) := by
        have h9 := HTRI.out.c2
        rw [HP6.out] at h9 hb2 ⊢
        simpa [World.cell?, hb2] using h9
      obtain ⟨g9, c9, rfl⟩ := ownsRow_succ hown2
      obtain ⟨b9, hb9⟩ : ∃ b9, a + sft = b9 := ⟨_, rfl⟩
      have HB9 : Hid (posW n f t h60 (k + 1) = b9) := by show _ = _; rw [HWIN.out.2, hb9]
      have hb9i : (a : Int) + (sft : Int) = (b9 : Int) := by omega
      clear hown2 hgrow hb2 hown
      go_wp2_with fail
      go_roundw
      case rel => exact ⟨k + 1, by rw [HB9.out], fun i hi => by
        by_cases e : i = k
        · rw [e, HPA.out, HQ.out]; exact hql
        · exact HA.out i (by omega), by simpa using HOW2.out, HB2.out⟩
      case measure => simp [intOf] <;> omega
    · have hqt : ¬ (q : Int) ≤ (t.size : Int) := by omega
      have HLAST : Hid (LastW n f t h60 k) := ⟨HA.out, by rw [HPA.out, HQ.out]; exact hql⟩
      clear hq
      go_wp2_with fail
      go_ret
      exact ⟨k, HLAST.out, _, rfl, HB.out, HO.out⟩
open Classical in
set_option maxRecDepth 100000 in
set_option maxHeartbeats 2000000 in
theorem specWin_any (sa : Option Addr) (n cap : Nat) (f : Nat → Cel) (t : ByteArray) (w : World) (hn : n ≤ maxLen) (hr : CRow w w.heap.size sa n f) (hc : ∀ i, i < n → (f i).c.size ≤ maxLen) (ht : t.size ≤ maxLen) :
    Calls Tryz.prog 10 #[.slice sa n cap, .string t] w fun e w' => ∃ L, WinP n f t L ∧ NewWins w L e w' := by
  unfold maxLen at ht
  have hba : Below w.heap.size w (w.alloc (.cells #[] 47)) := (Below.refl _ w).alloc (Nat.le_refl _) _
  have HOA : Hid (OwnsW (w.alloc (.cells #[] 47)) w.heap.size (.slice (some ⟨w.heap.size, 0, none⟩) 0 0) []) := wins_start w w.heap.size (Nat.le_refl _) #[] rfl
  by_cases h8 : t.size ≤ 8000
  case neg =>
    have hti : (8000 : Int) < (t.size : Int) := by omega
    have hF : Hid (WinP n f t []) := ⟨fun h => absurd h.1 h8, fun _ => rfl⟩
    have HBA : Hid (Below w.heap.size w (w.alloc (.cells #[] 47))) := hba
    clear hr hc hba
    go_enter Tryz.func10, Tryz.ntmps10
    go_wp2_with fail
    go_ret
    exact ⟨[], hF.out, _, rfl, HBA.out, HOA.out⟩
  have hti : ¬ (8000 : Int) < (t.size : Int) := by omega
  by_cases hP : PlainP n f
  case neg =>
    have C := specPlain_any sa n cap f _ hn ((hr.kept hba).up hba.size) hc
    rw [decide_eq_false hP] at C
    have hF : Hid (WinP n f t []) := ⟨fun h => absurd h.2 hP, fun _ => rfl⟩
    have HBA : Hid (Below w.heap.size w (w.alloc (.cells #[] 47))) := hba
    clear hr hc hba
    go_enter Tryz.func10, Tryz.ntmps10
    go_wp2_with fail
    refine C.mono ?_
    rintro e w1 ⟨rfl, hb⟩
    have HB : Hid (Below w.heap.size w w1) := HBA.out.trans (hb.mono HBA.out.size)
    have HO1 : Hid (OwnsW w1 w.heap.size (.slice (some ⟨w.heap.size, 0, none⟩) 0 0) []) := ints_below HOA.out hb rfl
    clear hb C
    go_wp2_with fail
    go_ret
    exact ⟨[], hF.out, _, rfl, HB.out, HO1.out⟩
  refine (specWin_yes sa n cap f t w hn hr hc h8 hP.1.2.1 hP).mono ?_
  rintro e w' ⟨k, hk, h9⟩
  exact ⟨_, ⟨fun _ => ⟨hP.1.2.1, k, hk, rfl⟩, fun h => absurd ⟨h8, hP⟩ h⟩, h9⟩
end Go.Proofs.YtfeolbgenpknfaaGreat
