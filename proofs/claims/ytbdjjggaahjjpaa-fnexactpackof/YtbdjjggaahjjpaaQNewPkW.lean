/- What is proved here: the program's newPackOf lays copies of rows one behind the other, in new memory; nothing that was there turns. -/
import Derived.Test.YtbdjjggaahjjpaaQCloneCW
import Derived.Test.YtbdjjggaahjjpaaQPackOfW
import Derived.Test.YtbdjjggaahjjpaaQCloneW
import Derived.Deep.RegionWith
import Derived.Deep.RegionHeld3
namespace Go.Proofs.Ytbdjjggaahjjpaa
open Go.RowKit

/-- The pack of rows. -/
def pkOf (k : Nat) (n : Nat → Nat) (f : Nat → Nat → Cel) : Pk := ⟨k, n, f, k, fun i => (atP n i : Int), (atP n k : Int)⟩
theorem COwn.same {w : World} {g n p : Nat} {f : Nat → Cel} (h : COwn w g n f) (hp : p < n) : COwn (w.setCell ⟨g, p * 3, none⟩ (.string (f p).c)) g n f := by
  have hne : ∀ {x y : Nat}, x ≠ y → (⟨g, x, none⟩ : Addr) ≠ ⟨g, y, none⟩ := fun hxy hh => hxy (by injection hh)
  refine ⟨by simpa [World.setCell] using h.lt, fun i hi => ?_, fun i hi => by rw [World.frozen?_setCell]; exact h.free i hi⟩
  obtain ⟨a0, a1, a2⟩ := h.at' i hi
  refine ⟨?_, by rw [World.cell?_setCell_other _ _ _ _ (hne (by omega))]; exact a1, by rw [World.cell?_setCell_other _ _ _ _ (hne (by omega))]; exact a2⟩
  by_cases e : i = p
  · subst e
    exact World.cell?_setCell_same _ _ _ a0
  · rw [World.cell?_setCell_other _ _ _ _ (hne (by omega))]
    exact a0
theorem COwn.setOther {w : World} {g n : Nat} {f : Nat → Cel} (h : COwn w g n f) (a : Addr) (v : Value) (hne : a.block ≠ g) : COwn (w.setCell a v) g n f := by
  have hh : ∀ o, a ≠ (⟨g, o, none⟩ : Addr) := fun o e => hne (by rw [e])
  exact ⟨by simpa [World.setCell] using h.lt, fun i hi => ⟨by rw [World.cell?_setCell_other _ _ _ _ (hh _)]; exact (h.at' i hi).c0, by rw [World.cell?_setCell_other _ _ _ _ (hh _)]; exact (h.at' i hi).c1, by rw [World.cell?_setCell_other _ _ _ _ (hh _)]; exact (h.at' i hi).c2⟩, fun i hi => by rw [World.frozen?_setCell]; exact h.free i hi⟩
theorem ROwn.setOther {W : World} {g k : Nat} {s : Nat → Option Addr} {n c : Nat → Nat} (h : ROwn W g k s n c) (a : Addr) (v : Value) (hne : a.block ≠ g) : ROwn (W.setCell a v) g k s n c := by
  have hh : ∀ o, a ≠ (⟨g, o, none⟩ : Addr) := fun o e => hne (by rw [e])
  exact ⟨by simpa [World.setCell] using h.lt, fun i hi => by rw [World.cell?_setCell_other _ _ _ _ (hh _)]; exact h.cells i hi, fun i => by rw [World.frozen?_setCell]; exact h.free i⟩
theorem ROwn.set {W : World} {g k p : Nat} {s : Nat → Option Addr} {n c : Nat → Nat} (h : ROwn W g k s n c) (hp : p < k) (x : Option Addr) (cx : Nat) : ROwn (W.setCell ⟨g, p, none⟩ (.slice x (n p) cx)) g k (fun i => if i = p then x else s i) n (fun i => if i = p then cx else c i) := by
  refine ⟨by simpa [World.setCell] using h.lt, fun i hi => ?_, fun i => by rw [World.frozen?_setCell]; exact h.free i⟩
  by_cases e : i = p
  · subst e
    simp only [if_pos]
    exact World.cell?_setCell_same _ _ _ (h.cells i hi)
  · simp only [if_neg e]
    rw [World.cell?_setCell_other _ _ _ _ (fun hh => e (by injection hh with _ h2 _; exact h2.symm))]
    exact h.cells i hi
/-- Rows that are copied so far. -/
structure RowsTo (W : World) (lo g k i : Nat) (s : Nat → Option Addr) (n c : Nat → Nat) (f : Nat → Nat → Cel) (b c' : Nat → Nat) : Prop where
  gl : g < lo
  rows : ROwn W g k (fun j => if j < i then some ⟨b j, 0, none⟩ else s j) n (fun j => if j < i then c' j else c j)
  own : ∀ j, j < i → lo ≤ b j ∧ COwn W (b j) (n j) (f j)
  apart : ∀ j j', j < j' → j' < i → b j < b j'
theorem RowsTo.kept {W W' : World} {lo g k i : Nat} {s : Nat → Option Addr} {n c : Nat → Nat} {f : Nat → Nat → Cel} {b c' : Nat → Nat} (h : RowsTo W lo g k i s n c f b c') (hb : Below W.heap.size W W') : RowsTo W' lo g k i s n c f b c' :=
  ⟨h.gl, h.rows.kept hb h.rows.lt, fun j hj => ⟨(h.own j hj).1, (h.own j hj).2.kept hb (h.own j hj).2.lt⟩, h.apart⟩
theorem RowsTo.setOther {W : World} {lo g k i : Nat} {s : Nat → Option Addr} {n c : Nat → Nat} {f : Nat → Nat → Cel} {b c' : Nat → Nat} (h : RowsTo W lo g k i s n c f b c') (a : Addr) (v : Value) (hg : a.block ≠ g) (hs : ∀ j, j < i → a.block ≠ b j) : RowsTo (W.setCell a v) lo g k i s n c f b c' :=
  ⟨h.gl, h.rows.setOther a v hg, fun j hj => ⟨(h.own j hj).1, (h.own j hj).2.setOther a v (hs j hj)⟩, h.apart⟩
/-- One more row. -/
theorem RowsTo.next {W : World} {lo g k i bi ci : Nat} {s : Nat → Option Addr} {n c : Nat → Nat} {f : Nat → Nat → Cel} {b c' : Nat → Nat} (h : RowsTo W lo g k i s n c f b c') (hi : i < k) (ho : COwn W bi (n i) (f i)) (hlo : lo ≤ bi) (hlt : ∀ j, j < i → b j < bi) :
    RowsTo (W.setCell ⟨g, i, none⟩ (.slice (some ⟨bi, 0, none⟩) (n i) ci)) lo g k (i + 1) s n c f (fun j => if j = i then bi else b j) (fun j => if j = i then ci else c' j) := by
  have hg := h.gl
  refine ⟨h.gl, ?_, fun j hj => ?_, fun j j' hjj hj' => ?_⟩
  · have h1 := h.rows.set hi (some ⟨bi, 0, none⟩) ci
    refine ⟨h1.lt, fun j hj => ?_, h1.free⟩
    have h2 := h1.cells j hj
    by_cases e : j = i
    · subst e
      simp only [if_pos, Nat.lt_succ_self] at h2 ⊢
      exact h2
    · simp only [if_neg e] at h2 ⊢
      have e2 : (j < i + 1) = (j < i) := by apply propext; omega
      simp only [e2]
      exact h2
  · by_cases e : j = i
    · subst e
      simp only [if_pos]
      exact ⟨hlo, ho.setOther _ _ (by show g ≠ bi; omega)⟩
    · simp only [if_neg e]
      have h3 := h.own j (by omega)
      exact ⟨h3.1, h3.2.setOther _ _ (by show g ≠ b j; have := h3.1; omega)⟩
  · by_cases e : j' = i
    · subst e
      simp only [if_pos]
      rw [if_neg (by omega)]
      exact hlt j hjj
    · simp only [if_neg e]
      rw [if_neg (by omega)]
      exact h.apart j j' hjj (by omega)
theorem RowsTo.same {W : World} {lo g k i j q : Nat} {s : Nat → Option Addr} {n c : Nat → Nat} {f : Nat → Nat → Cel} {b c' : Nat → Nat} (h : RowsTo W lo g k i s n c f b c') (hj : j < i) (hq : q < n j) : RowsTo (W.setCell ⟨b j, q * 3, none⟩ (.string (f j q).c)) lo g k i s n c f b c' := by
  have hg := h.gl
  have hb := (h.own j hj).1
  refine ⟨h.gl, h.rows.setOther _ _ (by show b j ≠ g; omega), fun j' hj' => ⟨(h.own j' hj').1, ?_⟩, h.apart⟩
  by_cases e : j' = j
  · subst e
    exact (h.own j' hj').2.same hq
  · refine (h.own j' hj').2.setOther _ _ ?_
    show b j ≠ b j'
    rcases Nat.lt_or_gt_of_ne e with h1 | h1
    · have := h.apart j' j h1 hj; omega
    · have := h.apart j j' h1 hj'; omega
theorem Own.setOtherI {w : World} {g n : Nat} {f : Nat → Int} (h : Own w g n f) (a : Addr) (v : Value) (hne : a.block ≠ g) : Own (w.setCell a v) g n f := h.setOther a v hne
set_option maxRecDepth 100000 in
set_option maxHeartbeats 4000000 in
theorem newPk_any (sr : Option Addr) (k cr : Nat) (s : Nat → Option Addr) (n c : Nat → Nat) (f : Nat → Nat → Cel) (w : World) (hk0 : 1 ≤ k) (hk : k ≤ 6) (hn : ∀ i, i < k → 1 ≤ n i ∧ n i ≤ 60) (hc : ∀ i, i < k → ∀ j, j < n i → (f i j).c.size ≤ 256) (hr : CCRows w w.heap.size sr k s n c f) :
    Calls Try.prog 44 #[.slice sr k cr] w fun e w' => NewPk w (pkOf k n f) e w' := by
  have HR : Hid (CCRows w w.heap.size sr k s n c f) := hr
  have HN : Hid (∀ i, i < k → 1 ≤ n i ∧ n i ≤ 60) := hn
  have HC : Hid (∀ i, i < k → ∀ j, j < n i → (f i j).c.size ≤ 256) := hc
  have hb0 : Below w.heap.size w (w.alloc (.cells #[.slice none 0 0, .slice none 0 0, .int .i64 0] 30)) := (Below.refl _ _).alloc (Nat.le_refl _) _
  have HB0 : Hid (Below w.heap.size w (w.alloc (.cells #[.slice none 0 0, .slice none 0 0, .int .i64 0] 30))) := hb0
  have HA0 : Hid (Box3 (w.alloc (.cells #[.slice none 0 0, .slice none 0 0, .int .i64 0] 30)) w.heap.size (.slice none 0 0) (.slice none 0 0) (.int .i64 0)) := Box3.new w _ _ _ _
  have HZ0 : Hid ((w.alloc (.cells #[.slice none 0 0, .slice none 0 0, .int .i64 0] 30)).heap.size = w.heap.size + 1) := by show _ = _; simp
  have C1 := cloneRows_any sr k cr s n c f _ hk0 hk (hr.late hb0)
  clear hr hn hb0 hc
  go_enter Try.func44, Try.ntmps44
  go_wp2_with fail
  generalize w.alloc (.cells #[.slice none 0 0, .slice none 0 0, .int .i64 0] 30) = w0 at *
  refine C1.mono ?_
  rintro e w1 ⟨g, cg, rfl, hb, hgl, hro⟩
  have B1 : Hid (Below w.heap.size w w1) := HB0.out.trans (hb.mono HB0.out.size)
  have A1 : Hid (Box3 w1 w.heap.size (.slice none 0 0) (.slice none 0 0) (.int .i64 0)) := HA0.out.kept hb (by have := HZ0.out; omega)
  have R1 : Hid (ROwn w1 g k s n c) := hro
  have Z1 : Hid (w.heap.size < g ∧ g < w1.heap.size) := ⟨by have := HZ0.out; omega, hro.lt⟩
  have CR1 : CCRows w1 w1.heap.size (some ⟨g, 0, none⟩) k s n c f := by
    refine Or.inr ⟨g, 0, rfl, hro.lt, fun i hi => ⟨by rw [Nat.zero_add]; exact hro.cells i hi, ?_⟩⟩
    obtain ⟨_, _, _, _, _, h9⟩ := (HR.out.late B1.out).at hi
    exact h9
  have C2 := packOf_any (some ⟨g, 0, none⟩) k cg s n c f w1 hk (fun i hi => (HN.out i hi).2) CR1
  obtain ⟨q, hq⟩ : ∃ q : Int, (atP n k : Int) = q := ⟨_, rfl⟩
  have HQ : Hid ((atP n k : Int) = q) := hq
  rw [hq] at C2
  clear hb hgl hro C1 CR1 hq
  go_wp2_with fail
  refine C2.mono ?_
  rintro e w2 ⟨sm, cm, rfl, hb, hos⟩
  obtain ⟨a, ha1, ha2, ha3⟩ : ∃ a, sm = some ⟨a, 0, none⟩ ∧ w1.heap.size ≤ a ∧ Own w2 a k (fun i => (atP n i : Int)) := by
    rcases hos with h | ⟨a, h1, h2, h3⟩
    · omega
    · exact ⟨a, h1, h2, h3⟩
  subst ha1
  have B2 : Hid (Below w.heap.size w w2) := B1.out.trans (hb.mono B1.out.size)
  have hz1 := Z1.out
  have A2 : Hid (Box3 w2 w.heap.size (.slice none 0 0) (.slice none 0 0) (.int .i64 0)) := A1.out.kept hb (by omega)
  have R2 : Hid (ROwn w2 g k s n c) := R1.out.kept hb hz1.2
  have O2 : Hid (Own w2 a k (fun i => (atP n i : Int))) := ha3
  have Z2 : Hid (w.heap.size < g ∧ g < a ∧ a < w2.heap.size) := ⟨hz1.1, by omega, ha3.1⟩
  clear hb hos ha2 ha3 hz1 C2 A1 R1 Z1
  have hb3 : Below w2.heap.size w2 (w2.alloc (.cells #[.slice (some ⟨g, 0, none⟩) k cg, .slice (some ⟨a, 0, none⟩) k cm, .int .i64 q] 30)) := (Below.refl _ _).alloc (Nat.le_refl _) _
  have hz2 := Z2.out
  have B3 : Hid (Below w.heap.size w (w2.alloc (.cells #[.slice (some ⟨g, 0, none⟩) k cg, .slice (some ⟨a, 0, none⟩) k cm, .int .i64 q] 30))) := B2.out.trans (hb3.mono B2.out.size)
  have A3 : Hid (Box3 (w2.alloc (.cells #[.slice (some ⟨g, 0, none⟩) k cg, .slice (some ⟨a, 0, none⟩) k cm, .int .i64 q] 30)) w.heap.size (.slice none 0 0) (.slice none 0 0) (.int .i64 0)) := A2.out.kept hb3 (by omega)
  have X3 : Hid (Box3 (w2.alloc (.cells #[.slice (some ⟨g, 0, none⟩) k cg, .slice (some ⟨a, 0, none⟩) k cm, .int .i64 q] 30)) w2.heap.size (.slice (some ⟨g, 0, none⟩) k cg) (.slice (some ⟨a, 0, none⟩) k cm) (.int .i64 q)) := Box3.new _ _ _ _ _
  have R3 : Hid (ROwn (w2.alloc (.cells #[.slice (some ⟨g, 0, none⟩) k cg, .slice (some ⟨a, 0, none⟩) k cm, .int .i64 q] 30)) g k s n c) := R2.out.kept hb3 (by omega)
  have O3 : Hid (Own (w2.alloc (.cells #[.slice (some ⟨g, 0, none⟩) k cg, .slice (some ⟨a, 0, none⟩) k cm, .int .i64 q] 30)) a k (fun i => (atP n i : Int))) := O2.out.kept hb3 hz2.2.2
  have Z3 : Hid ((w2.alloc (.cells #[.slice (some ⟨g, 0, none⟩) k cg, .slice (some ⟨a, 0, none⟩) k cm, .int .i64 q] 30)).heap.size = w2.heap.size + 1) := by show _ = _; simp
  clear hb3 hz2 B2 A2 R2 O2
  obtain ⟨d0, d1, d2, _, _, _⟩ := X3.out.all
  go_wp2_with fail
  clear d0 d1 d2
  generalize w2.alloc (.cells #[.slice (some ⟨g, 0, none⟩) k cg, .slice (some ⟨a, 0, none⟩) k cm, .int .i64 q] 30) = w3 at *
  obtain ⟨p, hp⟩ : ∃ p, w2.heap.size = p := ⟨_, rfl⟩
  have ZP : Hid (w.heap.size < g ∧ g < a ∧ a < p ∧ w3.heap.size = p + 1) := by
    have h1 := Z2.out
    have h2 := Z3.out
    rw [hp] at h1 h2
    exact ⟨h1.1, h1.2.1, h1.2.2, h2⟩
  rw [hp] at X3 ⊢
  clear Z2 Z3 hp
  go_loopw [14] (fun iv wr => ∃ (i : Nat) (b c' : Nat → Nat), i ≤ k ∧ iv = .int .i64 (i : Int) ∧ Below w.heap.size w wr ∧ Box3 wr w.heap.size (.slice none 0 0) (.slice none 0 0) (.int .i64 0) ∧ Box3 wr p (.slice (some ⟨g, 0, none⟩) k cg) (.slice (some ⟨a, 0, none⟩) k cm) (.int .i64 q) ∧ Own wr a k (fun i => (atP n i : Int)) ∧ RowsTo wr (p + 1) g k i s n c f b c') (fun iv _ => k - (intOf iv).toNat)
  case atStart =>
    have hz := ZP.out
    exact ⟨0, fun _ => 0, fun _ => 0, Nat.zero_le _, rfl, B3.out, A3.out, X3.out, O3.out, ⟨by omega, ⟨R3.out.lt, fun i hi => by simpa using R3.out.cells i hi, R3.out.free⟩, fun j hj => absurd hj (Nat.not_lt_zero _), fun j j' _ h => absurd h (Nat.not_lt_zero _)⟩⟩
  case round =>
    obtain ⟨i, b, c', hik, rfl, hbel, ha, hx, ho, hrt⟩ := hrel
    have HB : Hid (Below w.heap.size w wr) := hbel
    have HA : Hid (Box3 wr w.heap.size (.slice none 0 0) (.slice none 0 0) (.int .i64 0)) := ha
    have HX : Hid (Box3 wr p (.slice (some ⟨g, 0, none⟩) k cg) (.slice (some ⟨a, 0, none⟩) k cm) (.int .i64 q)) := hx
    have HO : Hid (Own wr a k (fun i => (atP n i : Int))) := ho
    have HT : Hid (RowsTo wr (p + 1) g k i s n c f b c') := hrt
    clear hbel ha hx ho hrt
    by_cases hil : i < k
    · have hii : (i : Int) < (k : Int) := by omega
      have hi0 : (0 : Int) ≤ (i : Int) := by omega
      have hni := HN.out i hil
      have hz := ZP.out
      have hpl := HX.out.lt
      obtain ⟨_, _, _, _, _, hrow⟩ := HR.out.at hil
      have ci : wr.cell? ⟨g, i, none⟩ = some (.slice (s i) (n i) (c i)) := by
        have h9 := HT.out.rows.cells i hil
        simpa using h9
      have fi : wr.frozen? ⟨g, i, none⟩ = false := HT.out.rows.free i
      obtain ⟨bb, off, hsi, hbb, hat⟩ : ∃ bb off : Nat, s i = some ⟨bb, off, none⟩ ∧ bb < w.heap.size ∧ ∀ j, j < n i → CellAt w bb (off + j * 3) (f i j) := by
        rcases hrow with h | h
        · omega
        · exact h
      have HAT : Hid (bb < w.heap.size ∧ ∀ j, j < n i → CellAt w bb (off + j * 3) (f i j)) := ⟨hbb, hat⟩
      have HROW : Hid (CRow wr wr.heap.size (some ⟨bb, off, none⟩) (n i) (f i)) := by rw [← hsi]; exact (hrow.kept HB.out).up HB.out.size
      rw [hsi] at ci
      have HCL : Hid (Calls Try.prog 74 #[.slice (some ⟨bb, off, none⟩) (n i) (c i)] wr.drew fun e w' => NewCells wr.drew (n i) (f i) e w') := cloneCells_any _ (n i) (c i) (f i) wr.drew hni.1 hni.2 ((HROW.out.kept (Below.refl _ _).drew).up (Nat.le_refl _))
      have HSZ : Hid (∀ j, j < n i → (f i j).c.size ≤ 256) := HC.out i hil
      obtain ⟨ni, hni9⟩ : ∃ x, n i = x := ⟨_, rfl⟩
      obtain ⟨fi9, hfi9⟩ : ∃ x, f i = x := ⟨_, rfl⟩
      have HE : Hid (n i = ni ∧ f i = fi9) := ⟨hni9, hfi9⟩
      rw [hni9] at ci HCL HAT HSZ hni HROW
      rw [hfi9] at HCL HAT HSZ HROW
      clear hrow hsi hbb hat hni9 hfi9
      obtain ⟨d0, d1, d2, fd0, fd1, fd2⟩ := HX.out.all
      go_wp2_with fail
      clear fd0 fd1 fd2 d1 d2
      have hgp : g ≠ p := by omega
      have hpg : p ≠ g := by omega
      go_region_held3 (fun W => W.cell? ⟨p, 0, none⟩ = some (.slice (some ⟨g, 0, none⟩) k cg)) (go_keep) (first | (go_at_call 74; refine (HCL.out).mono ?_; rintro e w5 ⟨sx, cx, rfl, hb5, hsl5⟩; have B5 : Hid (Below wr.heap.size wr w5) := ((Below.refl wr.heap.size wr).drew).trans hb5; have S5 : Hid (CSl w5 wr.heap.size w5.heap.size sx ni fi9) := hsl5; have y0 : w5.cell? ⟨p, 0, none⟩ = some (.slice (some ⟨g, 0, none⟩) k cg) := (B5.out.cell (p := ⟨p, 0, none⟩) hpl).trans d0; have ci5 : w5.cell? ⟨g, i, none⟩ = some (.slice (some ⟨bb, off, none⟩) ni (c i)) := (B5.out.cell (p := ⟨g, i, none⟩) (by show g < wr.heap.size; omega)).trans ci; have fi5 : w5.frozen? ⟨g, i, none⟩ = false := (B5.out.frozen (p := ⟨g, i, none⟩) (by show g < wr.heap.size; omega)).trans fi; clear hb5 hsl5))
      clear y0 ci5 fi5 ci fi d0
      obtain ⟨bi, rfl, hb1, hb2, hob⟩ : ∃ bi, sx = some ⟨bi, 0, none⟩ ∧ wr.heap.size ≤ bi ∧ bi < w5.heap.size ∧ COwn w5 bi ni fi9 := by
        rcases S5.out with h | h
        · omega
        · exact h
      have B6 : Hid (Below w.heap.size w (w5.setCell ⟨g, i, none⟩ (.slice (some ⟨bi, 0, none⟩) ni cx))) := (HB.out.trans (B5.out.mono HB.out.size)).setCell (by show w.heap.size ≤ g; omega) _
      have A6 : Hid (Box3 (w5.setCell ⟨g, i, none⟩ (.slice (some ⟨bi, 0, none⟩) ni cx)) w.heap.size (.slice none 0 0) (.slice none 0 0) (.int .i64 0)) := (HA.out.kept B5.out HA.out.lt).setOther _ _ (by show g ≠ w.heap.size; omega)
      have X6 : Hid (Box3 (w5.setCell ⟨g, i, none⟩ (.slice (some ⟨bi, 0, none⟩) ni cx)) p (.slice (some ⟨g, 0, none⟩) k cg) (.slice (some ⟨a, 0, none⟩) k cm) (.int .i64 q)) := (HX.out.kept B5.out hpl).setOther _ _ (by show g ≠ p; omega)
      have O6 : Hid (Own (w5.setCell ⟨g, i, none⟩ (.slice (some ⟨bi, 0, none⟩) ni cx)) a k (fun i => (atP n i : Int))) := (HO.out.kept B5.out HO.out.1).setOther _ _ (by show g ≠ a; omega)
      have T6 : Hid (RowsTo (w5.setCell ⟨g, i, none⟩ (.slice (some ⟨bi, 0, none⟩) ni cx)) (p + 1) g k (i + 1) s n c f (fun j => if j = i then bi else b j) (fun j => if j = i then cx else c' j)) := by
        have h1 := (HT.out.kept B5.out).next (bi := bi) (ci := cx) hil (by rw [HE.out.1, HE.out.2]; exact hob) (by omega) (fun j hj => Nat.lt_of_lt_of_le (HT.out.own j hj).2.lt hb1)
        rw [HE.out.1] at h1
        exact h1
      have hbip : p + 1 ≤ bi := by omega
      generalize w5.setCell ⟨g, i, none⟩ (.slice (some ⟨bi, 0, none⟩) ni cx) = w6 at *
      clear S5 B5 hob hb1 hb2 HCL HROW HB HA HX HO HT hpl
      go_wp2_with fail
      go_loopw [27] (fun jv wr => ∃ j : Nat, j ≤ ni ∧ jv = .int .i64 (j : Int) ∧ Below w.heap.size w wr ∧ Box3 wr w.heap.size (.slice none 0 0) (.slice none 0 0) (.int .i64 0) ∧ Box3 wr p (.slice (some ⟨g, 0, none⟩) k cg) (.slice (some ⟨a, 0, none⟩) k cm) (.int .i64 q) ∧ Own wr a k (fun i => (atP n i : Int)) ∧ RowsTo wr (p + 1) g k (i + 1) s n c f (fun j => if j = i then bi else b j) (fun j => if j = i then cx else c' j)) (fun jv _ => ni - (intOf jv).toNat)
      case atStart => exact ⟨0, Nat.zero_le _, rfl, B6.out, A6.out, X6.out, O6.out, T6.out⟩
      case round =>
        obtain ⟨j, hjn, rfl, hbel, ha, hx, ho, hrt⟩ := hrel
        have HB : Hid (Below w.heap.size w wr) := hbel
        have HA : Hid (Box3 wr w.heap.size (.slice none 0 0) (.slice none 0 0) (.int .i64 0)) := ha
        have HX : Hid (Box3 wr p (.slice (some ⟨g, 0, none⟩) k cg) (.slice (some ⟨a, 0, none⟩) k cm) (.int .i64 q)) := hx
        have HO : Hid (Own wr a k (fun i => (atP n i : Int))) := ho
        have HT : Hid (RowsTo wr (p + 1) g k (i + 1) s n c f (fun j => if j = i then bi else b j) (fun j => if j = i then cx else c' j)) := hrt
        clear hbel ha hx ho hrt
        by_cases hjl : j < ni
        · have hjj : (j : Int) < (ni : Int) := by omega
          have hj0 : (0 : Int) ≤ (j : Int) := by omega
          obtain ⟨c0, c1, c2⟩ := (HAT.out.2 j hjl).kept HB.out HAT.out.1
          have hsz9 := HSZ.out j hjl
          have HFJ : Hid (f i j = fi9 j) := by show _ = _; rw [HE.out.2]
          obtain ⟨⟨ac, ak, ao⟩, hac⟩ : ∃ x, fi9 j = x := ⟨_, rfl⟩
          rw [hac] at c0 c1 c2 hsz9
          simp only at c0 c1 c2 hsz9
          have HAC : Hid (f i j = ⟨ac, ak, ao⟩) := by show _ = _; rw [HFJ.out, hac]
          have hpl := HX.out.lt
          have hgl := HT.out.rows.lt
          have ci : wr.cell? ⟨g, i, none⟩ = some (.slice (some ⟨bi, 0, none⟩) ni cx) := by
            have h9 := HT.out.rows.cells i hil
            simp only [Nat.lt_succ_self, if_pos] at h9
            rw [HE.out.1] at h9
            exact h9
          have hobi : COwn wr bi ni fi9 := by
            have h9 := (HT.out.own i (Nat.lt_succ_self i)).2
            simp only [if_pos] at h9
            rw [HE.out.1, HE.out.2] at h9
            exact h9
          have hbil := hobi.lt
          obtain ⟨⟨e0, _, _⟩, fe0, _, _⟩ := hobi.parts hjl
          rw [hac] at e0
          simp only at e0
          have HB8 : Hid (Below w.heap.size w (wr.alloc (.cells #[.string ac, .bool ak, .bool ao] 85))) := HB.out.alloc HB.out.size _
          have hbx : Below wr.heap.size wr (wr.alloc (.cells #[.string ac, .bool ak, .bool ao] 85)) := (Below.refl _ _).alloc (Nat.le_refl _) _
          have HA8 : Hid (Box3 (wr.alloc (.cells #[.string ac, .bool ak, .bool ao] 85)) w.heap.size (.slice none 0 0) (.slice none 0 0) (.int .i64 0)) := HA.out.kept hbx HA.out.lt
          have HX8 : Hid (Box3 (wr.alloc (.cells #[.string ac, .bool ak, .bool ao] 85)) p (.slice (some ⟨g, 0, none⟩) k cg) (.slice (some ⟨a, 0, none⟩) k cm) (.int .i64 q)) := HX.out.kept hbx hpl
          have HO8 : Hid (Own (wr.alloc (.cells #[.string ac, .bool ak, .bool ao] 85)) a k (fun i => (atP n i : Int))) := HO.out.kept hbx HO.out.1
          have HT8 : Hid (RowsTo (wr.alloc (.cells #[.string ac, .bool ak, .bool ao] 85)) (p + 1) g k (i + 1) s n c f (fun j => if j = i then bi else b j) (fun j => if j = i then cx else c' j)) := HT.out.kept hbx
          have HY8 : Hid (Box3 (wr.alloc (.cells #[.string ac, .bool ak, .bool ao] 85)) wr.heap.size (.string ac) (.bool ak) (.bool ao)) := Box3.new _ _ _ _ _
          have ci8 : (wr.alloc (.cells #[.string ac, .bool ak, .bool ao] 85)).cell? ⟨g, i, none⟩ = some (.slice (some ⟨bi, 0, none⟩) ni cx) := (hbx.cell (p := ⟨g, i, none⟩) hgl).trans ci
          have e08 : (wr.alloc (.cells #[.string ac, .bool ak, .bool ao] 85)).cell? ⟨bi, j * 3, none⟩ = some (.string ac) := (hbx.cell (p := ⟨bi, j * 3, none⟩) hbil).trans e0
          have fe8 : (wr.alloc (.cells #[.string ac, .bool ak, .bool ao] 85)).frozen? ⟨bi, j * 3, none⟩ = false := (hbx.frozen (p := ⟨bi, j * 3, none⟩) hbil).trans fe0
          obtain ⟨d0, _, _, _, _, _⟩ := HX8.out.all
          obtain ⟨y0, _, _, _, _, _⟩ := HY8.out.all
          have HZ8 : Hid ((wr.alloc (.cells #[.string ac, .bool ak, .bool ao] 85)).heap.size = wr.heap.size + 1) := by show _ = _; simp
          clear hobi hbx ci e0 fe0 hac
          go_wp2_with fail
          obtain ⟨y, hy⟩ : ∃ y, wr.heap.size = y := ⟨_, rfl⟩
          rw [hy] at HY8 y0 HZ8 hpl hgl hbil ⊢
          generalize wr.alloc (.cells #[.string ac, .bool ak, .bool ao] 85) = wy at *
          have hzy := HZ8.out
          have HCC : Hid (Calls Try.prog 75 #[.string ac] wy.drew fun e w' => e = .returned (.string ac) ∧ Below wy.drew.heap.size wy.drew w') := clone_any ac wy.drew (by omega)
          clear c0 c1 c2 hy HB HA HX HO HT
          have hne1 : bi ≠ p := by omega
          have hne2 : p ≠ bi := by omega
          have hne3 : bi ≠ g := by omega
          have hne4 : g ≠ bi := by omega
          have hne5 : bi ≠ y := by omega
          have hne6 : y ≠ bi := by omega
          go_region_held3 (fun W => W.cell? ⟨p, 0, none⟩ = some (.slice (some ⟨g, 0, none⟩) k cg) ∧ W.cell? ⟨g, i, none⟩ = some (.slice (some ⟨bi, 0, none⟩) ni cx) ∧ W.cell? ⟨y, 0, none⟩ = some (.string ac)) (go_keep) (first | (go_at_call 75; refine (HCC.out).mono ?_; rintro e w9 ⟨rfl, hb9⟩; have B9 : Hid (Below wy.heap.size wy w9) := ((Below.refl wy.heap.size wy).drew).trans hb9; have z0 : w9.cell? ⟨p, 0, none⟩ = some (.slice (some ⟨g, 0, none⟩) k cg) := (B9.out.cell (p := ⟨p, 0, none⟩) (by show p < _; omega)).trans d0; have z1 : w9.cell? ⟨g, i, none⟩ = some (.slice (some ⟨bi, 0, none⟩) ni cx) := (B9.out.cell (p := ⟨g, i, none⟩) (by show g < _; omega)).trans ci8; have z2 : w9.cell? ⟨y, 0, none⟩ = some (.string ac) := (B9.out.cell (p := ⟨y, 0, none⟩) (by show y < _; omega)).trans y0; have z3 : w9.cell? ⟨bi, j * 3, none⟩ = some (.string ac) := (B9.out.cell (p := ⟨bi, j * 3, none⟩) (by show bi < _; omega)).trans e08; have z4 : w9.frozen? ⟨bi, j * 3, none⟩ = false := (B9.out.frozen (p := ⟨bi, j * 3, none⟩) (by show bi < _; omega)).trans fe8; clear hb9))
          clear z0 z1 z2 z3 z4
          go_wp2_with fail
          go_roundw
          case rel =>
            have hT := (HT8.out.kept (W' := w9) B9.out).same (j := i) (q := j) (Nat.lt_succ_self i) (by rw [HE.out.1]; exact hjl)
            simp only [if_pos] at hT
            rw [HAC.out] at hT
            exact ⟨j + 1, hjl, by go_num, (HB8.out.trans (B9.out.mono HB8.out.size)).setCell (by show w.heap.size ≤ bi; omega) _, (HA8.out.kept B9.out HA8.out.lt).setOther _ _ (by show bi ≠ w.heap.size; omega), (HX8.out.kept B9.out HX8.out.lt).setOther _ _ (by show bi ≠ p; omega), (HO8.out.kept B9.out HO8.out.1).setOther _ _ (by show bi ≠ a; omega), hT⟩
          case measure => simp [intOf]; omega
        · have hjj : ¬ (j : Int) < (ni : Int) := by omega
          go_wp2_with fail
          go_roundw
          case rel => exact ⟨_, _, _, _, _, ⟨i + 1, by omega, by go_num, HB.out, HA.out, HX.out, HO.out, _, _, HT.out⟩, rfl, rfl, rfl, rfl, rfl⟩
          case measure => simp [intOf]; omega
    · have hii : ¬ (i : Int) < (k : Int) := by omega
      obtain rfl : i = k := by omega
      obtain ⟨d0, d1, d2, _, _, _⟩ := HX.out.all
      obtain ⟨x0, x1, x2, _, _, _⟩ := HA.out.all
      go_wp2_with fail
      clear d0 d1 d2 x0 x1 x2
      have hz := ZP.out
      have X := ((HA.out.set0 (.slice (some ⟨g, 0, none⟩) i cg)).set1 (.slice (some ⟨a, 0, none⟩) i cm)).set2 (.int .i64 q)
      obtain ⟨r0, r1, r2, _, _, _⟩ := X.all
      have hbl : Below w.heap.size w (((wr.setCell ⟨w.heap.size, 0, none⟩ (.slice (some ⟨g, 0, none⟩) i cg)).setCell ⟨w.heap.size, 1, none⟩ (.slice (some ⟨a, 0, none⟩) i cm)).setCell ⟨w.heap.size, 2, none⟩ (.int .i64 q)) := ((HB.out.setCell (Nat.le_refl _) _).setCell (Nat.le_refl _) _).setCell (Nat.le_refl _) _
      have hss : ∀ j, j < i → w.heap.size ≠ b j := fun j hj => by have := (HT.out.own j hj).1; omega
      have hT := ((HT.out.setOther ⟨w.heap.size, 0, none⟩ (.slice (some ⟨g, 0, none⟩) i cg) (by show w.heap.size ≠ g; omega) hss).setOther ⟨w.heap.size, 1, none⟩ (.slice (some ⟨a, 0, none⟩) i cm) (by show w.heap.size ≠ g; omega) hss).setOther ⟨w.heap.size, 2, none⟩ (.int .i64 q) (by show w.heap.size ≠ g; omega) hss
      have hO := ((HO.out.setOther ⟨w.heap.size, 0, none⟩ (.slice (some ⟨g, 0, none⟩) i cg) (by show w.heap.size ≠ a; omega)).setOther ⟨w.heap.size, 1, none⟩ (.slice (some ⟨a, 0, none⟩) i cm) (by show w.heap.size ≠ a; omega)).setOther ⟨w.heap.size, 2, none⟩ (.int .i64 q) (by show w.heap.size ≠ a; omega)
      generalize ((wr.setCell ⟨w.heap.size, 0, none⟩ (.slice (some ⟨g, 0, none⟩) i cg)).setCell ⟨w.heap.size, 1, none⟩ (.slice (some ⟨a, 0, none⟩) i cm)).setCell ⟨w.heap.size, 2, none⟩ (.int .i64 q) = w9 at *
      refine bodyPost_ret (v := .agg #[.slice (some ⟨g, 0, none⟩) i cg, .slice (some ⟨a, 0, none⟩) i cm, .int .i64 q]) (by simp [results, Try.results44, go_sem, r0, r1, r2]) rfl ?_
      refine ⟨some ⟨g, 0, none⟩, some ⟨a, 0, none⟩, cg, cm, by rw [← HQ.out]; rfl, hbl, g, a, b, fun j => if j < i then some ⟨b j, 0, none⟩ else s j, fun j => if j < i then c' j else c j, Or.inr ⟨rfl, ⟨by omega, hT.rows.lt, Nat.le_refl _, hT.rows.cells, fun j hj => Or.inr ⟨if_pos hj, ?_, (hT.own j hj).2.lt, ?_, (hT.own j hj).2⟩, fun j j' h1 h2 => Or.inr (Or.inr (Nat.ne_of_lt (hT.apart j j' h1 h2)))⟩⟩, Or.inr ⟨rfl, by omega, hO.1, Or.inr ⟨by omega, ?_⟩, hO⟩⟩
      · have := (hT.own j hj).1; omega
      · have := (hT.own j hj).1; omega
      · rintro ⟨j, hj, _, he⟩
        have := (hT.own j hj).1
        omega
end Go.Proofs.Ytbdjjggaahjjpaa
