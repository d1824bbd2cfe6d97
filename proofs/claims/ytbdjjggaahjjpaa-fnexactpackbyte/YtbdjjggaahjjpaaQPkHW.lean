/- What is proved here: the laws' helpers over packs (their size, a copy, the comparison, the marks): what they hand back and what they leave as it was. -/
import Derived.Test.YtbdjjggaahjjpaaQPkMToCCEqW
import Derived.Test.YtbdjjggaahjjpaaQRowsMarkW
import Derived.Test.YtbdjjggaahjjpaaQRowsEqWToRowsW
namespace Go.Proofs.Ytbdjjggaahjjpaa
open Go.RowKit

set_option maxHeartbeats 1000000 in
theorem szPack_any (sr sm : Option Addr) (cr cm : Nat) (P : Pk) (w : World) (hk : P.k ≤ maxLen) (hm : P.m ≤ maxLen) (hr : PkRead w sr sm P) (hn : ∀ i, i < P.k → P.n i ≤ maxLen) (hc : ∀ i, i < P.k → ∀ j, j < P.n i → (P.f i j).c.size ≤ maxLen) :
    Calls Try.prog 7 #[.agg #[.slice sr P.k cr, .slice sm P.m cm, .int .i64 P.b], .int .i64 1048576] w fun e w' => (∃ z : Int, e = .returned (.int .i64 z) ∧ (z < 0 ∨ (0 ≤ z ∧ z ≤ 1048576 ∧ P.m ≤ 1048576 ∧ P.k ≤ 1048576 ∧ totC P.n P.k ≤ 1048576 ∧ ∀ i, i < P.k → ∀ j, j < P.n i → (P.f i j).c.size ≤ 1048576))) ∧ Below w.heap.size w w' := by
  obtain ⟨⟨s, c, hrr⟩, hra⟩ := hr
  have hb0 : Below w.heap.size w (w.alloc (.cells #[.slice sr P.k cr, .slice sm P.m cm, .int .i64 P.b] 25)) := (Below.refl _ _).alloc (Nat.le_refl _) _
  have C := szCC_any sr P.k cr s P.n c P.f _ hk (hrr.late hb0) hn hc
  have HB0 : Hid (Below w.heap.size w (w.alloc (.cells #[.slice sr P.k cr, .slice sm P.m cm, .int .i64 P.b] 25))) := hb0
  have SZ : Hid (∀ left : Int, 0 ≤ left → left ≤ 1048576 → ∀ W, Calls Try.prog 32 #[.slice sm P.m cm, .int .i64 left] W fun e w' => e = .returned (.int .i64 (szOf P.m left)) ∧ w' = W) := fun left h0 h1 W => szRow_any sm P.m cm left W hm h0 h1
  have HC : Hid (totC P.n P.k ≤ 1048576 → ∀ i, i < P.k → ∀ j, j < P.n i → True) := fun _ _ _ _ _ => trivial
  clear hrr hra hb0 hn hc
  go_enter Try.func7, Try.ntmps7
  go_wp2_with fail
  refine C.mono ?_
  rintro e w1 ⟨⟨z, rfl, hz⟩, hb⟩
  obtain ⟨hc2, hf2⟩ := bcells hb
  have HB1 : Hid (Below w.heap.size w w1) := HB0.out.trans (hb.mono HB0.out.size)
  clear hb C
  rcases hz with hz | ⟨hz, hz9, hk9, ht9, hcs⟩
  · go_wp2_with fail
    go_ret
    exact ⟨⟨-1, rfl, Or.inl (by omega)⟩, HB1.out⟩
  · have hz' : ¬ z < 0 := by omega
    have HCS : Hid (∀ i, i < P.k → ∀ j, j < P.n i → (P.f i j).c.size ≤ 1048576) := hcs
    have HTT : Hid (totC P.n P.k ≤ 1048576) := ht9
    clear hcs ht9
    go_wp2_with fail
    refine (SZ.out z hz hz9 _).mono ?_
    rintro e w2 ⟨rfl, rfl⟩
    by_cases hs : szOf P.m z < 0
    · go_wp2_with fail
      go_ret
      exact ⟨⟨-1, rfl, Or.inl (by omega)⟩, HB1.out⟩
    · have hs2 : P.m ≤ 1048576 ∧ szOf P.m z ≤ 1048576 := by unfold szOf at hs ⊢; split at hs <;> omega
      go_wp2_with fail
      go_ret
      exact ⟨⟨_, rfl, Or.inr ⟨by omega, hs2.2, hs2.1, hk9, HTT.out, HCS.out⟩⟩, HB1.out⟩
/-- Three cells in a box. -/
structure Box3 (W : World) (p : Nat) (v0 v1 v2 : Value) : Prop where
  c0 : W.cell? ⟨p, 0, none⟩ = some v0
  c1 : W.cell? ⟨p, 1, none⟩ = some v1
  c2 : W.cell? ⟨p, 2, none⟩ = some v2
  f0 : W.frozen? ⟨p, 0, none⟩ = false
  f1 : W.frozen? ⟨p, 1, none⟩ = false
  f2 : W.frozen? ⟨p, 2, none⟩ = false
  lt : p < W.heap.size
theorem Box3.new (W : World) (v0 v1 v2 : Value) (t : TypeId) : Box3 (W.alloc (.cells #[v0, v1, v2] t)) W.heap.size v0 v1 v2 := ⟨by simp, by simp, by simp, frozen_of_row _ _ _ _ _ (heap_alloc_new W _), frozen_of_row _ _ _ _ _ (heap_alloc_new W _), frozen_of_row _ _ _ _ _ (heap_alloc_new W _), by simp⟩
theorem Box3.kept {W W' : World} {B p : Nat} {v0 v1 v2 : Value} (h : Box3 W p v0 v1 v2) (hb : Below B W W') (hB : p < B) : Box3 W' p v0 v1 v2 :=
  ⟨by rw [hb.cell (p := ⟨p, 0, none⟩) hB]; exact h.c0, by rw [hb.cell (p := ⟨p, 1, none⟩) hB]; exact h.c1, by rw [hb.cell (p := ⟨p, 2, none⟩) hB]; exact h.c2, by rw [hb.frozen (p := ⟨p, 0, none⟩) hB]; exact h.f0, by rw [hb.frozen (p := ⟨p, 1, none⟩) hB]; exact h.f1, by rw [hb.frozen (p := ⟨p, 2, none⟩) hB]; exact h.f2, Nat.lt_of_lt_of_le h.lt hb.size⟩
theorem Box3.grow {W : World} {p : Nat} {v0 v1 v2 : Value} (h : Box3 W p v0 v1 v2) (o : Obj) : Box3 (W.alloc o) p v0 v1 v2 := h.kept ((Below.refl W.heap.size W).alloc (Nat.le_refl _) o) h.lt
theorem Box3.setOther {W : World} {p : Nat} {v0 v1 v2 : Value} (h : Box3 W p v0 v1 v2) (a : Addr) (v : Value) (hne : a.block ≠ p) : Box3 (W.setCell a v) p v0 v1 v2 := by
  have hh : ∀ o, (⟨p, o, none⟩ : Addr) ≠ a := fun o e => hne (by rw [← e])
  exact ⟨by rw [World.cell?_setCell_other _ _ _ _ (hh 0).symm]; exact h.c0, by rw [World.cell?_setCell_other _ _ _ _ (hh 1).symm]; exact h.c1, by rw [World.cell?_setCell_other _ _ _ _ (hh 2).symm]; exact h.c2, by rw [World.frozen?_setCell]; exact h.f0, by rw [World.frozen?_setCell]; exact h.f1, by rw [World.frozen?_setCell]; exact h.f2, by simpa [World.setCell] using h.lt⟩
theorem ne_cell {p x y : Nat} (h : x ≠ y) : (⟨p, x, none⟩ : Addr) ≠ ⟨p, y, none⟩ := fun hh => h (by injection hh)
theorem Box3.set0 {W : World} {p : Nat} {v0 v1 v2 : Value} (h : Box3 W p v0 v1 v2) (v : Value) : Box3 (W.setCell ⟨p, 0, none⟩ v) p v v1 v2 :=
  ⟨World.cell?_setCell_same _ _ _ h.c0, by rw [World.cell?_setCell_other _ _ _ _ (ne_cell (by decide))]; exact h.c1, by rw [World.cell?_setCell_other _ _ _ _ (ne_cell (by decide))]; exact h.c2, by rw [World.frozen?_setCell]; exact h.f0, by rw [World.frozen?_setCell]; exact h.f1, by rw [World.frozen?_setCell]; exact h.f2, by simpa [World.setCell] using h.lt⟩
theorem Box3.set1 {W : World} {p : Nat} {v0 v1 v2 : Value} (h : Box3 W p v0 v1 v2) (v : Value) : Box3 (W.setCell ⟨p, 1, none⟩ v) p v0 v v2 :=
  ⟨by rw [World.cell?_setCell_other _ _ _ _ (ne_cell (by decide))]; exact h.c0, World.cell?_setCell_same _ _ _ h.c1, by rw [World.cell?_setCell_other _ _ _ _ (ne_cell (by decide))]; exact h.c2, by rw [World.frozen?_setCell]; exact h.f0, by rw [World.frozen?_setCell]; exact h.f1, by rw [World.frozen?_setCell]; exact h.f2, by simpa [World.setCell] using h.lt⟩
theorem Box3.set2 {W : World} {p : Nat} {v0 v1 v2 : Value} (h : Box3 W p v0 v1 v2) (v : Value) : Box3 (W.setCell ⟨p, 2, none⟩ v) p v0 v1 v :=
  ⟨by rw [World.cell?_setCell_other _ _ _ _ (ne_cell (by decide))]; exact h.c0, by rw [World.cell?_setCell_other _ _ _ _ (ne_cell (by decide))]; exact h.c1, World.cell?_setCell_same _ _ _ h.c2, by rw [World.frozen?_setCell]; exact h.f0, by rw [World.frozen?_setCell]; exact h.f1, by rw [World.frozen?_setCell]; exact h.f2, by simpa [World.setCell] using h.lt⟩
theorem Box3.all {W : World} {p : Nat} {v0 v1 v2 : Value} (h : Box3 W p v0 v1 v2) : W.cell? ⟨p, 0, none⟩ = some v0 ∧ W.cell? ⟨p, 1, none⟩ = some v1 ∧ W.cell? ⟨p, 2, none⟩ = some v2 ∧ W.frozen? ⟨p, 0, none⟩ = false ∧ W.frozen? ⟨p, 1, none⟩ = false ∧ W.frozen? ⟨p, 2, none⟩ = false := ⟨h.c0, h.c1, h.c2, h.f0, h.f1, h.f2⟩
set_option maxHeartbeats 2000000 in
theorem toPack_any (sr sm : Option Addr) (cr cm : Nat) (P : Pk) (w : World) (hk : P.k ≤ 1048576) (hm : P.m ≤ 1048576) (hn : ∀ i, i < P.k → P.n i ≤ 1048576) (hr : PkRead w sr sm P) :
    Calls Try.prog 9 #[.agg #[.slice sr P.k cr, .slice sm P.m cm, .int .i64 P.b]] w fun e w' => NewPk w P e w' := by
  obtain ⟨⟨s, c, hrr⟩, hra⟩ := hr
  have hb0 : Below w.heap.size w (((w.alloc (.cells #[.slice sr P.k cr, .slice sm P.m cm, .int .i64 P.b] 25)).alloc (.cells #[.slice none 0 0, .slice none 0 0, .int .i64 0] 30)).alloc (.cells #[.slice none 0 0, .slice none 0 0, .int .i64 0] 30)) :=
    (((Below.refl _ _).alloc (Nat.le_refl _) _).alloc (by simp) _).alloc (by simp; omega) _
  have HA0 : Hid (Box3 (((w.alloc (.cells #[.slice sr P.k cr, .slice sm P.m cm, .int .i64 P.b] 25)).alloc (.cells #[.slice none 0 0, .slice none 0 0, .int .i64 0] 30)).alloc (.cells #[.slice none 0 0, .slice none 0 0, .int .i64 0] 30)) w.heap.size (.slice sr P.k cr) (.slice sm P.m cm) (.int .i64 P.b)) := ((Box3.new w _ _ _ _).grow _).grow _
  have HA1 : Hid (Box3 (((w.alloc (.cells #[.slice sr P.k cr, .slice sm P.m cm, .int .i64 P.b] 25)).alloc (.cells #[.slice none 0 0, .slice none 0 0, .int .i64 0] 30)).alloc (.cells #[.slice none 0 0, .slice none 0 0, .int .i64 0] 30)) (w.heap.size + 1) (.slice none 0 0) (.slice none 0 0) (.int .i64 0)) := by
    have h := (Box3.new (w.alloc (.cells #[.slice sr P.k cr, .slice sm P.m cm, .int .i64 P.b] 25)) (.slice none 0 0) (.slice none 0 0) (.int .i64 0) 30).grow (.cells #[.slice none 0 0, .slice none 0 0, .int .i64 0] 30)
    exact (by simpa using h : Box3 _ _ _ _ _)
  have HA2 : Hid (Box3 (((w.alloc (.cells #[.slice sr P.k cr, .slice sm P.m cm, .int .i64 P.b] 25)).alloc (.cells #[.slice none 0 0, .slice none 0 0, .int .i64 0] 30)).alloc (.cells #[.slice none 0 0, .slice none 0 0, .int .i64 0] 30)) (w.heap.size + 1 + 1) (.slice none 0 0) (.slice none 0 0) (.int .i64 0)) := by
    have h := Box3.new ((w.alloc (.cells #[.slice sr P.k cr, .slice sm P.m cm, .int .i64 P.b] 25)).alloc (.cells #[.slice none 0 0, .slice none 0 0, .int .i64 0] 30)) (.slice none 0 0) (.slice none 0 0) (.int .i64 0) 30
    exact (by simpa using h : Box3 _ _ _ _ _)
  have HZ0 : Hid ((((w.alloc (.cells #[.slice sr P.k cr, .slice sm P.m cm, .int .i64 P.b] 25)).alloc (.cells #[.slice none 0 0, .slice none 0 0, .int .i64 0] 30)).alloc (.cells #[.slice none 0 0, .slice none 0 0, .int .i64 0] 30)).heap.size = w.heap.size + 1 + 1 + 1) := by show _ = _; simp
  have HRA : Hid (Row w w.heap.size sm P.m P.a) := hra
  have C := toCC_any sr P.k cr s P.n c P.f _ hk hn (hrr.late hb0)
  have HB0 : Hid (Below w.heap.size w (((w.alloc (.cells #[.slice sr P.k cr, .slice sm P.m cm, .int .i64 P.b] 25)).alloc (.cells #[.slice none 0 0, .slice none 0 0, .int .i64 0] 30)).alloc (.cells #[.slice none 0 0, .slice none 0 0, .int .i64 0] 30))) := hb0
  clear hb0 hrr hra
  go_enter Try.func9, Try.ntmps9
  go_wp2_with fail
  generalize ((w.alloc (.cells #[.slice sr P.k cr, .slice sm P.m cm, .int .i64 P.b] 25)).alloc (.cells #[.slice none 0 0, .slice none 0 0, .int .i64 0] 30)).alloc (.cells #[.slice none 0 0, .slice none 0 0, .int .i64 0] 30) = w0 at *
  refine C.mono ?_
  rintro e w1 ⟨h, s', c', rfl, hb, ho⟩
  have hg : w.heap.size + 1 + 1 + 1 = w0.heap.size := HZ0.out.symm
  have A0 : Hid (Box3 w1 w.heap.size (.slice sr P.k cr) (.slice sm P.m cm) (.int .i64 P.b)) := HA0.out.kept hb (by omega)
  have A1 : Hid (Box3 w1 (w.heap.size + 1) (.slice none 0 0) (.slice none 0 0) (.int .i64 0)) := HA1.out.kept hb (by omega)
  have A2 : Hid (Box3 w1 (w.heap.size + 1 + 1) (.slice none 0 0) (.slice none 0 0) (.int .i64 0)) := HA2.out.kept hb (by omega)
  have B1 : Hid (Below w.heap.size w w1) := HB0.out.trans (hb.mono HB0.out.size)
  have O1 : Hid (CCOwnH w1 w0.heap.size P.k h s' P.n c' P.f) := ho
  have Z1 : Hid (w0.heap.size ≤ w1.heap.size) := hb.size
  have HG : Hid (w.heap.size + 1 + 1 + 1 = w0.heap.size) := hg
  clear hb ho C hg HA0 HA1 HA2 HB0
  obtain ⟨a0, a1, a2, _, _, _⟩ := A0.out.all
  obtain ⟨b0, b1, b2, fb0, fb1, fb2⟩ := A1.out.all
  obtain ⟨d0, d1, d2, fd0, fd1, fd2⟩ := A2.out.all
  go_wp2_with fail
  clear a0 a1 a2 b0 b1 b2 fb0 fb1 fb2 d0 d1 d2 fd0 fd1 fd2
  have W2 : Hid (Below w.heap.size w (w1.setCell ⟨w.heap.size + 1 + 1, 0, none⟩ (.slice (some ⟨w0.heap.size, 0, none⟩) P.k P.k))) := B1.out.setCell (by show w.heap.size ≤ w.heap.size + 1 + 1; omega) _
  refine (toRow_any sm P.m cm P.a _ hm ((HRA.out.kept W2.out).up W2.out.size)).mono ?_
  rintro e w2 ⟨rfl, hb, hom⟩
  have hz6 : (w1.setCell ⟨w.heap.size + 1 + 1, 0, none⟩ (.slice (some ⟨w0.heap.size, 0, none⟩) P.k P.k)).heap.size = w1.heap.size := by simp [World.setCell]
  rw [hz6] at hom ⊢
  obtain ⟨gm, hgm⟩ : ∃ gm, w1.heap.size = gm := ⟨_, rfl⟩
  have hz9 : w1.heap.size ≤ gm := by omega
  rw [hgm] at hom ⊢
  have hz8 := HG.out
  have hz7 := Z1.out
  have A4 : Hid (Box3 w2 w.heap.size (.slice sr P.k cr) (.slice sm P.m cm) (.int .i64 P.b)) := (A0.out.setOther ⟨w.heap.size + 1 + 1, 0, none⟩ _ (by show w.heap.size + 1 + 1 ≠ w.heap.size; omega)).kept hb (by omega)
  have A5 : Hid (Box3 w2 (w.heap.size + 1) (.slice none 0 0) (.slice none 0 0) (.int .i64 0)) := (A1.out.setOther ⟨w.heap.size + 1 + 1, 0, none⟩ _ (by show w.heap.size + 1 + 1 ≠ w.heap.size + 1; omega)).kept hb (by omega)
  have A6 : Hid (Box3 w2 (w.heap.size + 1 + 1) (.slice (some ⟨w0.heap.size, 0, none⟩) P.k P.k) (.slice none 0 0) (.int .i64 0)) := (A2.out.set0 _).kept hb (by omega)
  have B3 : Hid (Below w.heap.size w w2) := W2.out.trans (hb.mono W2.out.size)
  have O3 : Hid (CCOwn w2 w0.heap.size w1.heap.size w0.heap.size P.k (fun i => ((s' i).map (·.block)).getD 0) s' P.n c' P.f) := by
    have h1 := O1.out.own (lo := w0.heap.size) (hi := w1.heap.size) (Nat.le_refl _) O1.out.sz (Nat.le_refl _)
    have h2 := h1.onlyM (W' := w1.setCell ⟨w.heap.size + 1 + 1, 0, none⟩ (.slice (some ⟨w0.heap.size, 0, none⟩) P.k P.k)) (OnlyM.setS (OnlyM.refl w1 (w.heap.size + 1 + 1) (w.heap.size + 1 + 1 + 1)) (Nat.le_refl _) (Nat.lt_succ_self _)) (Or.inr (by omega))
    exact h2.kept hb
  have O4 : Hid (Own w2 gm P.m P.a) := hom
  have Z3 : Hid (w1.heap.size ≤ gm) := hz9
  clear hb hom hz9 hz8 hz7 hz6 hgm A0 A1 A2 B1 O1 W2
  obtain ⟨a0, a1, a2, _, _, _⟩ := A4.out.all
  obtain ⟨b0, b1, b2, fb0, fb1, fb2⟩ := A5.out.all
  obtain ⟨d0, d1, d2, fd0, fd1, fd2⟩ := A6.out.all
  go_wp2
  clear a0 a1 a2 b0 b1 b2 fb0 fb1 fb2 d0 d1 d2 fd0 fd1 fd2
  have hz9 := Z3.out
  have hz8 := HG.out
  have hz7 := Z1.out
  have hzo : gm < w2.heap.size := O4.out.1
  have X := ((((((A5.out.setOther ⟨w.heap.size + 1 + 1, 1, none⟩ (.slice (some ⟨gm, 0, none⟩) P.m P.m) (by show w.heap.size + 1 + 1 ≠ w.heap.size + 1; omega)).setOther ⟨w.heap.size + 1 + 1, 2, none⟩ (.int .i64 P.b) (by show w.heap.size + 1 + 1 ≠ w.heap.size + 1; omega)).set0 (.slice (some ⟨w0.heap.size, 0, none⟩) P.k P.k)).set1 (.slice (some ⟨gm, 0, none⟩) P.m P.m)).set2 (.int .i64 P.b)))
  have M : OnlyM w2 (((((w2.setCell ⟨w.heap.size + 1 + 1, 1, none⟩ (.slice (some ⟨gm, 0, none⟩) P.m P.m)).setCell ⟨w.heap.size + 1 + 1, 2, none⟩ (.int .i64 P.b)).setCell ⟨w.heap.size + 1, 0, none⟩ (.slice (some ⟨w0.heap.size, 0, none⟩) P.k P.k)).setCell ⟨w.heap.size + 1, 1, none⟩ (.slice (some ⟨gm, 0, none⟩) P.m P.m)).setCell ⟨w.heap.size + 1, 2, none⟩ (.int .i64 P.b)) (w.heap.size + 1) (w.heap.size + 3) :=
    (((((OnlyM.refl w2 (w.heap.size + 1) (w.heap.size + 3)).setS (by show w.heap.size + 1 ≤ w.heap.size + 1 + 1; omega) (by show w.heap.size + 1 + 1 < w.heap.size + 3; omega)).setS (by show w.heap.size + 1 ≤ w.heap.size + 1 + 1; omega) (by show w.heap.size + 1 + 1 < w.heap.size + 3; omega)).setS (Nat.le_refl _) (by show w.heap.size + 1 < w.heap.size + 3; omega)).setS (Nat.le_refl _) (by show w.heap.size + 1 < w.heap.size + 3; omega)).setS (Nat.le_refl _) (by show w.heap.size + 1 < w.heap.size + 3; omega)
  have hbw := B3.out.size
  have O : PkOwn w2 w0.heap.size w2.heap.size (some ⟨w0.heap.size, 0, none⟩) (some ⟨gm, 0, none⟩) P := by
    refine ⟨w0.heap.size, gm, fun i => ((s' i).map (·.block)).getD 0, s', c', Or.inr ⟨rfl, ?_⟩, Or.inr ⟨rfl, by omega, hzo, Or.inr ⟨?_, ?_⟩, O4.out⟩⟩
    · exact ⟨Nat.le_refl _, by omega, Nat.le_refl _, O3.out.cells, fun i hi => (O3.out.rows i hi).imp id (fun ⟨x1, x2, x3, x4, x5⟩ => ⟨x1, x2, by omega, x4, x5⟩), O3.out.apart⟩
    · have := O3.out.ghi; omega
    · rintro ⟨i, hi, hne, he⟩
      rcases O3.out.rows i hi with h9 | ⟨x1, x2, x3, x4, x5⟩
      · exact hne h9
      · simp only at he x3
        omega
  have O9 := (O.onlyM M (Or.inr (by omega))).wide (lo' := w.heap.size) (hi' := w2.heap.size) (by omega) (Nat.le_refl _) M.size
  obtain ⟨r0, r1, r2, _, _, _⟩ := X.all
  have hw9 : (((((w2.setCell ⟨w.heap.size + 1 + 1, 1, none⟩ (.slice (some ⟨gm, 0, none⟩) P.m P.m)).setCell ⟨w.heap.size + 1 + 1, 2, none⟩ (.int .i64 P.b)).setCell ⟨w.heap.size + 1, 0, none⟩ (.slice (some ⟨w0.heap.size, 0, none⟩) P.k P.k)).setCell ⟨w.heap.size + 1, 1, none⟩ (.slice (some ⟨gm, 0, none⟩) P.m P.m)).setCell ⟨w.heap.size + 1, 2, none⟩ (.int .i64 P.b)).heap.size = w2.heap.size := by simp [World.setCell]
  have hbl := B3.out.trans (M.below (B := w.heap.size) (by omega) hbw)
  generalize (((((w2.setCell ⟨w.heap.size + 1 + 1, 1, none⟩ (.slice (some ⟨gm, 0, none⟩) P.m P.m)).setCell ⟨w.heap.size + 1 + 1, 2, none⟩ (.int .i64 P.b)).setCell ⟨w.heap.size + 1, 0, none⟩ (.slice (some ⟨w0.heap.size, 0, none⟩) P.k P.k)).setCell ⟨w.heap.size + 1, 1, none⟩ (.slice (some ⟨gm, 0, none⟩) P.m P.m)).setCell ⟨w.heap.size + 1, 2, none⟩ (.int .i64 P.b)) = w9 at *
  refine bodyPost_ret (v := .agg #[.slice (some ⟨w0.heap.size, 0, none⟩) P.k P.k, .slice (some ⟨gm, 0, none⟩) P.m P.m, .int .i64 P.b]) (by simp [results, Try.results9, go_sem, r0, r1, r2]) rfl ?_
  exact ⟨_, _, _, _, rfl, hbl, by rw [hw9]; exact O9⟩
set_option maxHeartbeats 2000000 in
theorem eqPack_same (sr sm tr tm : Option Addr) (cr cm dr dm : Nat) (P : Pk) (w : World) (hk : P.k ≤ 1048576) (hm : P.m ≤ 1048576) (hn : ∀ i, i < P.k → P.n i ≤ 1048576) (ha : PkRead w sr sm P) (hb : PkRead w tr tm P) :
    Calls Try.prog 11 #[.agg #[.slice sr P.k cr, .slice sm P.m cm, .int .i64 P.b], .agg #[.slice tr P.k dr, .slice tm P.m dm, .int .i64 P.b]] w fun e w' => e = .returned (.bool true) ∧ Below w.heap.size w w' := by
  obtain ⟨⟨s, c, hrr⟩, hra⟩ := ha
  obtain ⟨⟨t, d, hsr⟩, hsa⟩ := hb
  have hb0 : Below w.heap.size w ((w.alloc (.cells #[.slice sr P.k cr, .slice sm P.m cm, .int .i64 P.b] 30)).alloc (.cells #[.slice tr P.k dr, .slice tm P.m dm, .int .i64 P.b] 30)) := ((Below.refl _ _).alloc (Nat.le_refl _) _).alloc (by simp) _
  have HA0 : Hid (Box3 ((w.alloc (.cells #[.slice sr P.k cr, .slice sm P.m cm, .int .i64 P.b] 30)).alloc (.cells #[.slice tr P.k dr, .slice tm P.m dm, .int .i64 P.b] 30)) w.heap.size (.slice sr P.k cr) (.slice sm P.m cm) (.int .i64 P.b)) := (Box3.new w _ _ _ _).grow _
  have HA1 : Hid (Box3 ((w.alloc (.cells #[.slice sr P.k cr, .slice sm P.m cm, .int .i64 P.b] 30)).alloc (.cells #[.slice tr P.k dr, .slice tm P.m dm, .int .i64 P.b] 30)) (w.heap.size + 1) (.slice tr P.k dr) (.slice tm P.m dm) (.int .i64 P.b)) := by
    have h := Box3.new (w.alloc (.cells #[.slice sr P.k cr, .slice sm P.m cm, .int .i64 P.b] 30)) (.slice tr P.k dr) (.slice tm P.m dm) (.int .i64 P.b) 30
    exact (by simpa using h : Box3 _ _ _ _ _)
  have C := eqCC_same sr tr P.k cr dr s t P.n c d P.f _ hk hn (hrr.late hb0) (hsr.late hb0)
  have HC2 : Hid (∀ W, Below w.heap.size w W → Calls Try.prog 39 #[.slice sm P.m cm, .slice tm P.m dm] W fun e w' => e = .returned (.bool true) ∧ Below W.heap.size W w') := fun W hW => eqRow_same sm tm P.m cm dm P.a W hm ((hra.kept hW).up hW.size) ((hsa.kept hW).up hW.size)
  have HB0 : Hid (Below w.heap.size w ((w.alloc (.cells #[.slice sr P.k cr, .slice sm P.m cm, .int .i64 P.b] 30)).alloc (.cells #[.slice tr P.k dr, .slice tm P.m dm, .int .i64 P.b] 30))) := hb0
  have HZ0 : Hid (((w.alloc (.cells #[.slice sr P.k cr, .slice sm P.m cm, .int .i64 P.b] 30)).alloc (.cells #[.slice tr P.k dr, .slice tm P.m dm, .int .i64 P.b] 30)).heap.size = w.heap.size + 2) := by show _ = _; simp
  clear hb0 hrr hra hsr hsa
  go_enter Try.func11, Try.ntmps11
  go_wp2_with fail
  generalize (w.alloc (.cells #[.slice sr P.k cr, .slice sm P.m cm, .int .i64 P.b] 30)).alloc (.cells #[.slice tr P.k dr, .slice tm P.m dm, .int .i64 P.b] 30) = w0 at *
  refine C.mono ?_
  rintro e w1 ⟨rfl, hb⟩
  have hz := HZ0.out
  obtain ⟨a0, a1, a2, _, _, _⟩ := (HA0.out.kept hb (by omega)).all
  obtain ⟨b0, b1, b2, _, _, _⟩ := (HA1.out.kept hb (by omega)).all
  have A0 : Hid (Box3 w1 w.heap.size (.slice sr P.k cr) (.slice sm P.m cm) (.int .i64 P.b)) := HA0.out.kept hb (by omega)
  have A1 : Hid (Box3 w1 (w.heap.size + 1) (.slice tr P.k dr) (.slice tm P.m dm) (.int .i64 P.b)) := HA1.out.kept hb (by omega)
  have B1 : Hid (Below w.heap.size w w1) := HB0.out.trans (hb.mono HB0.out.size)
  have Z1 : Hid (w.heap.size + 2 ≤ w1.heap.size) := by have := hb.size; show _ ≤ _; omega
  clear hb hz C
  go_wp2_with fail
  refine (HC2.out w1 B1.out).mono ?_
  rintro e w2 ⟨rfl, hb⟩
  have hz := Z1.out
  clear a0 a1 a2 b0 b1 b2
  obtain ⟨a0, a1, a2, _, _, _⟩ := (A0.out.kept hb (by omega)).all
  obtain ⟨b0, b1, b2, _, _, _⟩ := (A1.out.kept hb (by omega)).all
  have B2 : Hid (Below w.heap.size w w2) := B1.out.trans (hb.mono B1.out.size)
  clear hb hz
  go_wp2
  go_ret
  exact ⟨rfl, B2.out⟩
set_option maxHeartbeats 2000000 in
theorem markPack_any (lo hi : Nat) (sr sm : Option Addr) (cr cm q0 : Nat) (P : Pk) (w : World) (hk : P.k ≤ 1048576) (hm : P.m ≤ 1048576) (ht : totC P.n P.k ≤ 1048576) (hq0 : 0 < q0) (hq9 : q0 ≤ 4000000) (ho : PkOwn w lo hi sr sm P) :
    Calls Try.prog 24 #[.agg #[.slice sr P.k cr, .slice sm P.m cm, .int .i64 P.b], .int .i64 (q0 : Int)] w fun e w' => e = .returned (.int .i64 ((q0 + totC P.n P.k * 3 + P.m : Nat) : Int)) ∧ OnlyM w w' lo hi ∧ PkOwn w' lo hi sr sm (P.marked q0) := by
  have hb0 : Below w.heap.size w (w.alloc (.cells #[.slice sr P.k cr, .slice sm P.m cm, .int .i64 P.b] 30)) := (Below.refl _ _).alloc (Nat.le_refl _) _
  have HX : Hid (Box3 (w.alloc (.cells #[.slice sr P.k cr, .slice sm P.m cm, .int .i64 P.b] 30)) w.heap.size (.slice sr P.k cr) (.slice sm P.m cm) (.int .i64 P.b)) := Box3.new w _ _ _ _
  obtain ⟨g, a, b, s, c, h1w, h2w⟩ := ho
  have h1 := h1w.imp id (fun ⟨e, h⟩ => (⟨e, h.kept hb0⟩ : _ ∧ _))
  have h2 := h2w.imp id (fun ⟨e, h3, h4, h5, h6⟩ => (⟨e, h3, h4, h5, h6.kept hb0 h6.1⟩ : _ ∧ _ ∧ _ ∧ _ ∧ _))
  obtain ⟨q1, hq1⟩ : ∃ q1, q0 + totC P.n P.k * 3 = q1 := ⟨_, rfl⟩
  have HQ : Hid (q0 + totC P.n P.k * 3 = q1) := hq1
  have C1 : Calls Try.prog 18 #[.slice sr P.k cr, .int .i64 (q0 : Int)] (w.alloc (.cells #[.slice sr P.k cr, .slice sm P.m cm, .int .i64 P.b] 30)) fun e w' => e = .returned (.int .i64 (q1 : Int)) ∧ OnlyAt (w.alloc (.cells #[.slice sr P.k cr, .slice sm P.m cm, .int .i64 P.b] 30)) w' (inRows P.k P.n b) ∧ (P.k = 0 ∨ (sr = some ⟨g, 0, none⟩ ∧ CCOwn w' lo hi g P.k b s P.n c (P.marked q0).f)) := by
    rcases h1 with h1 | ⟨h0, h1⟩
    · have hq2 : q1 = q0 := by rw [← hq1, h1]; simp [totC]
      rw [h1, hq2]
      refine (markCC_none sr cr q0 _).mono ?_
      rintro e w' ⟨rfl, rfl⟩
      exact ⟨rfl, OnlyAt.refl _ _, Or.inl rfl⟩
    · subst h0
      refine (markCC_own g P.k cr lo hi q0 b s P.n c P.f _ ht hq0 hq9 hk h1).mono ?_
      rintro e w' ⟨rfl, h3, h4⟩
      exact ⟨by rw [hq1], h3, Or.inr ⟨rfl, h4⟩⟩
  have C2 : Hid (∀ W, OnlyAt (w.alloc (.cells #[.slice sr P.k cr, .slice sm P.m cm, .int .i64 P.b] 30)) W (inRows P.k P.n b) → (P.k = 0 ∨ (sr = some ⟨g, 0, none⟩ ∧ CCOwn W lo hi g P.k b s P.n c (P.marked q0).f)) → Calls Try.prog 47 #[.slice sm P.m cm, .int .i64 (q1 : Int)] W fun e w' => e = .returned (.int .i64 ((q1 : Int) + P.m)) ∧ OnlyM w w' lo hi ∧ PkOwn w' lo hi sr sm (P.marked q0)) := by
    intro W hon hcc
    have hL : OnlyM w W lo hi := by
      have h8 : OnlyAt w W (inRows P.k P.n b) := (OnlyAt.ofBelow hb0).trans hon
      refine h8.toM (fun p hp => ?_)
      obtain ⟨i, hi', hne, rfl⟩ := hp
      rcases h1 with h1 | ⟨_, h1⟩
      · omega
      · rcases h1.rows i hi' with h9 | ⟨x1, x2, x3, _⟩
        · exact absurd h9 hne
        · exact ⟨x2, x3⟩
    rcases h2 with h2 | ⟨rfl, h3, h4, h5, h6⟩
    · rw [h2]
      refine (mark_none sm cm q1 W).mono ?_
      rintro e w' ⟨rfl, rfl⟩
      exact ⟨by simp, hL, g, a, b, s, c, hcc, Or.inl h2⟩
    · have h7 : Own W a P.m P.a := by
        rcases h5 with h5 | ⟨_, h5⟩
        · exact h6.onlyAt hon (fun ⟨i, hi, _⟩ => by omega)
        · exact h6.onlyAt hon h5
      refine (mark_own a P.m cm P.a q1 W hm (by omega) (by omega) h7).mono ?_
      rintro e w' ⟨rfl, hg, how⟩
      have hA : OnlyAt W w' (fun p => p = a) := OnlyAt.of_grown hg rfl
      refine ⟨rfl, hL.trans (hA.toM (fun p e => by subst e; exact ⟨h3, h4⟩)), g, a, b, s, c, ?_, Or.inr ⟨rfl, h3, h4, h5, ?_⟩⟩
      · rcases hcc with h8 | ⟨h9, h8⟩
        · exact Or.inl h8
        · by_cases hk0 : P.k = 0
          · exact Or.inl hk0
          have h5' : a ≠ g ∧ ¬ inRows P.k P.n b a := by
            rcases h5 with h5 | h5
            · exact absurd h5 hk0
            · exact h5
          refine Or.inr ⟨h9, ⟨h8.glo, h8.ghi, Nat.le_trans h8.gsz hA.size, fun i hi => by rw [hA.cell (p := ⟨g, i, none⟩) (Nat.lt_of_lt_of_le h8.ghi h8.gsz) (fun e => h5'.1 e.symm)]; exact h8.cells i hi, fun i hi => ?_, h8.apart⟩⟩
          by_cases hz : P.n i = 0
          · exact Or.inl hz
          · refine (h8.rows i hi).imp id (fun ⟨x1, x2, x3, x4, x5⟩ => ⟨x1, x2, x3, x4, x5.onlyAt hA (fun e => h5'.2 ⟨i, hi, hz, e.symm⟩)⟩)
      · have hh : (P.marked q0).a = fun i : Nat => (q1 : Int) + (i : Int) := by unfold Pk.marked; rw [hq1]
        rw [hh]
        exact how
  have HZ : Hid (w.heap.size < (w.alloc (.cells #[.slice sr P.k cr, .slice sm P.m cm, .int .i64 P.b] 30)).heap.size) := by show _ < _; simp
  have HNI : Hid (¬ inRows P.k P.n b w.heap.size) := by
    rintro ⟨i, hi, hne, he⟩
    rcases h1w with h9 | ⟨_, h9⟩
    · omega
    · have hgz := h9.gsz
      rcases h9.rows i hi with h8 | ⟨x1, x2, x3, _⟩
      · exact hne h8
      · omega
  clear hb0 h1 h2 h1w h2w hq1 ht
  go_enter Try.func24, Try.ntmps24
  go_wp2_with fail
  generalize w.alloc (.cells #[.slice sr P.k cr, .slice sm P.m cm, .int .i64 P.b] 30) = w0 at *
  refine C1.mono ?_
  rintro e w1 ⟨rfl, hon, hcc⟩
  have c1 : w1.cell? ⟨w.heap.size, 1, none⟩ = some (.slice sm P.m cm) := by rw [hon.cell (p := ⟨w.heap.size, 1, none⟩) HZ.out HNI.out]; exact HX.out.c1
  have D := C2.out w1 hon hcc
  clear C1 hon hcc
  go_wp2_with fail
  refine D.mono ?_
  rintro e w2 ⟨rfl, h3, h4⟩
  have H3 : Hid (OnlyM w w2 lo hi) := h3
  have H4 : Hid (PkOwn w2 lo hi sr sm (P.marked q0)) := h4
  clear D h3 h4
  go_wp2_with fail
  go_ret
  exact ⟨by have h9 := HQ.out; (show Ending.returned (Value.int .i64 ((q1 : Int) + P.m)) = _); (congr 2; omega), H3.out, H4.out⟩
set_option maxHeartbeats 2000000 in
theorem heldCC_any (sa : Option Addr) (k cap q0 : Nat) (s : Nat → Option Addr) (n c : Nat → Nat) (w : World) (hk : k ≤ 1048576) (ht : totC n k ≤ 1048576) (hq0 : 0 < q0) (hq9 : q0 ≤ 4000000) (hr : CCRows w w.heap.size sa k s n c (fun i => markD (q0 + totC n i * 3))) :
    Calls Try.prog 78 #[.slice sa k cap, .int .i64 (q0 : Int)] w fun e w' => e = .returned (.int .i64 ((q0 + totC n k * 3 : Nat) : Int)) ∧ Below w.heap.size w w' := by
  have HR : Hid (CCRows w w.heap.size sa k s n c (fun i => markD (q0 + totC n i * 3))) := hr
  have HT : Hid (∀ i, i ≤ k → totC n i ≤ 1048576) := fun i hi => Nat.le_trans (totC_mono hi) ht
  have HN : Hid (∀ i, i < k → n i ≤ 1048576) := fun i hi => Nat.le_trans (totC_le hi) ht
  clear hr ht
  go_enter Try.func78, Try.ntmps78
  go_wp2_with fail
  go_loopw [1, 5] (fun qv iv wr => ∃ i : Nat, i ≤ k ∧ qv = .int .i64 ((q0 + totC n i * 3 : Nat) : Int) ∧ iv = .int .i64 (i : Int) ∧ Below w.heap.size w wr) (fun _ iv _ => k - (intOf iv).toNat)
  case atStart => exact ⟨0, Nat.zero_le _, rfl, rfl, Below.refl _ _⟩
  case round =>
    obtain ⟨i, hik, rfl, rfl, hbel⟩ := hrel
    have HB : Hid (Below w.heap.size w wr) := hbel
    clear hbel
    have htot := HT.out i hik
    by_cases hil : i < k
    · have hii : (i : Int) < (k : Int) := by omega
      have hi0 : (0 : Int) ≤ (i : Int) := by omega
      obtain ⟨bb, off, rfl, hbb, ci, hrow⟩ := (HR.out.late HB.out).at hil
      have C := heldCAt_any (s i) (n i) (c i) (q0 + totC n i * 3) wr (HN.out i hil) (by omega) (by omega) hrow
      obtain ⟨q, hq⟩ : ∃ q, q0 + totC n i * 3 = q := ⟨_, rfl⟩
      have HQ : Hid (q0 + totC n i * 3 = q) := hq
      rw [hq] at C ⊢
      clear hq htot hrow
      have HTN : Hid (totC n (i + 1) = totC n i + n i) := rfl
      obtain ⟨si, hsi⟩ : ∃ x, s i = x := ⟨_, rfl⟩
      obtain ⟨c9, hc9⟩ : ∃ x, c i = x := ⟨_, rfl⟩
      obtain ⟨ni, hni⟩ : ∃ x, n i = x := ⟨_, rfl⟩
      have HNI : Hid (n i = ni) := hni
      rw [hsi, hni, hc9] at ci C
      clear hsi hni hc9
      go_wp2_with fail
      refine C.mono ?_
      rintro e w1 ⟨rfl, hb⟩
      have HB1 : Hid (Below w.heap.size w w1) := HB.out.trans (hb.mono HB.out.size)
      have hz : ¬ ((q + ni * 3 : Nat) : Int) < 0 := by omega
      clear hb C ci
      go_wp2_with fail
      go_roundw
      case rel => exact ⟨i + 1, by omega, by have h1 := HQ.out; have h2 := HTN.out; have h3 := HNI.out; (congr 1; omega), by go_num, HB1.out⟩
      case measure => simp [intOf]; omega
    · have hii : ¬ (i : Int) < (k : Int) := by omega
      obtain rfl : i = k := by omega
      go_wp2_with fail
      go_ret
      exact ⟨rfl, HB.out⟩
set_option maxHeartbeats 2000000 in
theorem heldPack_any (sr sm : Option Addr) (cr cm q0 : Nat) (P : Pk) (w : World) (hk : P.k ≤ 1048576) (hm : P.m ≤ 1048576) (ht : totC P.n P.k ≤ 1048576) (hq0 : 0 < q0) (hq9 : q0 ≤ 4000000) (ho : PkRead w sr sm (P.marked q0)) :
    Calls Try.prog 48 #[.agg #[.slice sr P.k cr, .slice sm P.m cm, .int .i64 P.b], .int .i64 (q0 : Int)] w fun e w' => e = .returned (.int .i64 ((q0 + totC P.n P.k * 3 + P.m : Nat) : Int)) ∧ Below w.heap.size w w' := by
  obtain ⟨⟨s, c, hrr⟩, hra⟩ := ho
  have hb0 : Below w.heap.size w (w.alloc (.cells #[.slice sr P.k cr, .slice sm P.m cm, .int .i64 P.b] 30)) := (Below.refl _ _).alloc (Nat.le_refl _) _
  have HX : Hid (Box3 (w.alloc (.cells #[.slice sr P.k cr, .slice sm P.m cm, .int .i64 P.b] 30)) w.heap.size (.slice sr P.k cr) (.slice sm P.m cm) (.int .i64 P.b)) := Box3.new w _ _ _ _
  have C1 : Calls Try.prog 78 #[.slice sr P.k cr, .int .i64 (q0 : Int)] (w.alloc (.cells #[.slice sr P.k cr, .slice sm P.m cm, .int .i64 P.b] 30)) _ := heldCC_any sr P.k cr q0 s P.n c _ hk ht hq0 hq9 (hrr.late hb0)
  obtain ⟨q1, hq1⟩ : ∃ q1, q0 + totC P.n P.k * 3 = q1 := ⟨_, rfl⟩
  have HQ : Hid (q0 + totC P.n P.k * 3 = q1) := hq1
  rw [hq1] at C1
  have C2 : Hid (∀ W, Below w.heap.size w W → Calls Try.prog 49 #[.slice sm P.m cm, .int .i64 (q1 : Int)] W fun e w' => e = .returned (.int .i64 ((q1 : Int) + P.m)) ∧ Below W.heap.size W w') := fun W hW => by
    have hh : (P.marked q0).a = fun i : Nat => (q1 : Int) + (i : Int) := by unfold Pk.marked; rw [hq1]
    rw [hh] at hra
    exact heldRow_any sm P.m cm q1 W hm (by omega) (by omega) ((hra.kept hW).up hW.size)
  have HZ : Hid (w.heap.size < (w.alloc (.cells #[.slice sr P.k cr, .slice sm P.m cm, .int .i64 P.b] 30)).heap.size) := by show _ < _; simp
  have HB0 : Hid (Below w.heap.size w (w.alloc (.cells #[.slice sr P.k cr, .slice sm P.m cm, .int .i64 P.b] 30))) := hb0
  have hq2 : ¬ (q1 : Int) < 0 := by omega
  have hq3 : ¬ (q1 : Int) + (P.m : Int) < 0 := by omega
  have HQ9 : Hid (q1 ≤ 8000000) := by show _ ≤ _; omega
  clear hb0 hrr hra hq1 ht
  go_enter Try.func48, Try.ntmps48
  go_wp2_with fail
  generalize w.alloc (.cells #[.slice sr P.k cr, .slice sm P.m cm, .int .i64 P.b] 30) = w0 at *
  refine C1.mono ?_
  rintro e w1 ⟨rfl, hb⟩
  have c1 : w1.cell? ⟨w.heap.size, 1, none⟩ = some (.slice sm P.m cm) := (HX.out.kept hb HZ.out).c1
  have B1 : Hid (Below w.heap.size w w1) := HB0.out.trans (hb.mono HB0.out.size)
  clear hb C1
  go_wp2_with fail
  refine (C2.out w1 B1.out).mono ?_
  rintro e w2 ⟨rfl, hb⟩
  have B2 : Hid (Below w.heap.size w w2) := B1.out.trans (hb.mono B1.out.size)
  clear hb
  go_wp2_with fail
  go_ret
  exact ⟨by have h9 := HQ.out; (show Ending.returned (Value.int .i64 ((q1 : Int) + P.m)) = _); (congr 2; omega), B2.out⟩
end Go.Proofs.Ytbdjjggaahjjpaa
