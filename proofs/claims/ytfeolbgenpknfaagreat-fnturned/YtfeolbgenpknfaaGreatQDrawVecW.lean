/- What is proved here: l02Vec draws some vector, of few words; the source's block alone turns. -/
import Derived.Test.YtfeolbgenpknfaaGreatQDrawVecOfW
import Derived.Deep.AppendLies
import Derived.Deep.RegionLaw
import Derived.Deep.DeepCutAuto
namespace Go.Proofs.YtfeolbgenpknfaaGreat
open Go.RowKit

/-- A row in blocks from lo on. -/
def FarV (w : World) (lo : Nat) (sa : Option Addr) (n : Nat) (f : Nat → Int) : Prop := n = 0 ∨ ∃ bb off : Nat, sa = some ⟨bb, off, none⟩ ∧ lo ≤ bb ∧ bb < w.heap.size ∧ ∀ i, i < n → w.cell? ⟨bb, off + i, none⟩ = some (.int .i64 (f i))
theorem FarV.row {w : World} {lo n : Nat} {sa : Option Addr} {f : Nat → Int} (h : FarV w lo sa n f) : Row w w.heap.size sa n f := by
  rcases h with h | ⟨bb, off, h1, _, h3, h4⟩
  · exact Or.inl h
  · exact Or.inr ⟨bb, off, h1, h3, h4⟩
theorem FarV.kept {w w' : World} {lo n : Nat} {row : Option Nat} {sa : Option Addr} {f : Nat → Int} (h : FarV w lo sa n f) (hg : w.grownBy w' row) (hr : ∀ k, row = some k → k < lo) : FarV w' lo sa n f := by
  rcases h with h | ⟨bb, off, h1, h2, h3, h4⟩
  · exact Or.inl h
  · exact Or.inr ⟨bb, off, h1, h2, Nat.lt_of_lt_of_le h3 hg.size, fun i hi => hg.cell (h4 i hi) (fun e => by have := hr bb e.symm; omega)⟩
theorem Own.far {w : World} {lo g n : Nat} {f : Nat → Int} (h : Own w g n f) (hl : lo ≤ g) : FarV w lo (some ⟨g, 0, none⟩) n f :=
  Or.inr ⟨g, 0, rfl, hl, h.1, fun i hi => by rw [Nat.zero_add]; exact h.2.1 i hi⟩
/-- Some drawn vector. -/
def SomeVec (w : World) (bs : Nat) (sa : Option Addr) (len cap : Nat) (e : Ending) (w' : World) : Prop :=
  ∃ (b : Int) (so : Option Addr) (m co : Nat) (f : Nat → Int), e = .returned (vecV b so m co) ∧ -1000 ≤ b ∧ b ≤ 1000 ∧ m ≤ 1000 ∧ FarV w' w.heap.size so m f ∧ w.grownBy w' (some bs) ∧ Src w' bs sa len cap
theorem Src.setNew {w : World} {b : Nat} {sa : Option Addr} {len cap : Nat} (h : Src w b sa len cap) (p i : Nat) (v : Value) (hp : b < p) : Src (w.setCell ⟨p, i, none⟩ v) b sa len cap :=
  h.kept (row := some p) (only_set (World.grownBy.refl _ _)) (fun k hk => by cases hk; omega)

theorem FarV.setOther {w : World} {lo g o n : Nat} {f : Nat → Int} (h : FarV w lo (some ⟨g, o, none⟩) n f) (p : Addr) (v : Value) (hne : p.block ≠ g) : FarV (w.setCell p v) lo (some ⟨g, o, none⟩) n f := by
  rcases h with h | ⟨bb, off, h1, h2, h3, h4⟩
  · exact Or.inl h
  · injection h1 with h1
    injection h1 with h5 h6
    subst h5 h6
    exact Or.inr ⟨_, _, rfl, h2, by simpa [World.setCell] using h3, fun i hi => by rw [World.cell?_setCell_other _ _ _ _ (fun hh => hne (by rw [hh]))]; exact h4 i hi⟩
theorem FarV.setLow {w : World} {lo n : Nat} {sa : Option Addr} {f : Nat → Int} (h : FarV w lo sa n f) (p : Addr) (v : Value) (hp : p.block < lo) : FarV (w.setCell p v) lo sa n f := by
  rcases h with h | ⟨bb, off, h1, h2, h3, h4⟩
  · exact Or.inl h
  · exact Or.inr ⟨bb, off, h1, h2, by simpa [World.setCell] using h3, fun i hi => by rw [World.cell?_setCell_other _ _ _ _ (fun hh => by rw [hh] at hp; exact absurd hp (by show ¬ bb < lo; omega))]; exact h4 i hi⟩
theorem FarV.low {w : World} {lo lo' n : Nat} {sa : Option Addr} {f : Nat → Int} (h : FarV w lo sa n f) (hl : lo' ≤ lo) : FarV w lo' sa n f := by
  rcases h with h | ⟨bb, off, h1, h2, h3, h4⟩
  · exact Or.inl h
  · exact Or.inr ⟨bb, off, h1, by omega, h3, h4⟩
theorem Boxed.ne {W : World} {p g : Nat} {t : TypeId} {b : Int} {sa : Option Addr} {n cap : Nat} (h : Boxed W p t b sa n cap) (ht : t ≠ 2) (hg : ∃ cur, W.heap[g]? = some (.cells cur 2 (0, 0))) : p ≠ g := by
  rintro rfl
  obtain ⟨cur, hg⟩ := hg
  unfold Boxed at h
  rw [h] at hg
  injection hg with hg
  injection hg with _ hg _
  exact ht hg
theorem Src.drew {w : World} {b : Nat} {sa : Option Addr} {len cap : Nat} (h : Src w b sa len cap) : Src w.drew b sa len cap := h
theorem wrap_near (x : Int) (h0 : -1000 ≤ x) (h1 : x ≤ 1000) : IntKind.i64.wrap x = x := by
  rw [IntKind.wrap_i64] <;> omega
theorem far_of {W : World} {base n : Nat} {v : Value} {xs : List Value} {f : Nat → Int} (h : W.ownsRow base 2 1 v n xs) (hn : 0 < n) (hx : ∀ i, i < n → xs[i]? = some (.int .i64 (f i))) : ∃ g cap : Nat, v = .slice (some ⟨g, 0, none⟩) n cap ∧ (∃ cur, W.heap[g]? = some (.cells cur 2 (0, 0))) ∧ FarV W base (some ⟨g, 0, none⟩) n f := by
  obtain ⟨_, ⟨_, h0⟩ | ⟨g, cap, cur, hv, hg, hh, hnc, hm, hs, ht⟩⟩ := h
  · omega
  · refine ⟨g, cap, hv, ⟨cur, hh⟩, Or.inr ⟨g, 0, rfl, hg, lt_of_block hh, fun i hi => ?_⟩⟩
    have h1 := hx i hi
    rw [← ht, List.getElem?_take_of_lt (by omega)] at h1
    simpa [World.cell?, hh] using h1

/-- The drawn vector in its box. -/
def DG (w : World) (bs : Nat) (sa : Option Addr) (len cap p : Nat) (W : World) : Prop :=
  ∃ (x : Int) (so : Option Addr) (m co : Nat) (f : Nat → Int), -1000 ≤ x ∧ x ≤ 1000 ∧ m ≤ 1000 ∧ Boxed W p 29 x so m co ∧ Boxed W w.heap.size 29 0 none 0 0 ∧ FarV W (w.heap.size + 1) so m f ∧ w.grownBy W (some bs) ∧ Src W bs sa len cap
theorem DG.alloc {w W : World} {bs : Nat} {sa : Option Addr} {len cap p : Nat} (h : DG w bs sa len cap p W) (o : Obj) : DG w bs sa len cap p (W.alloc o) := by
  obtain ⟨x, so, m, co, f, h1, h2, h3, h4, h5, h6, h7, h8⟩ := h
  have hb : Below W.heap.size W (W.alloc o) := (Below.refl _ _).alloc (Nat.le_refl _) _
  exact ⟨x, so, m, co, f, h1, h2, h3, h4.kept hb rfl, h5.kept hb rfl, h6.kept (row := none) (World.grownBy_alloc _ _ none) (fun k hk => by cases hk), h7.trans (World.grownBy_alloc _ _ _), h8.call hb⟩
/-- As it lies before a turn. -/
structure DV (w : World) (bs : Nat) (sa : Option Addr) (len cap p g m co : Nat) (b : Int) (f : Nat → Int) (W : World) : Prop where
  box : Boxed W p 29 b (some ⟨g, 0, none⟩) m co
  res : Boxed W w.heap.size 29 0 none 0 0
  row : Own W g m f
  grown : w.grownBy W (some bs)
  src : Src W bs sa len cap
theorem DV.alloc {w W : World} {bs : Nat} {sa : Option Addr} {len cap p g m co : Nat} {b : Int} {f : Nat → Int} (h : DV w bs sa len cap p g m co b f W) (o : Obj) : DV w bs sa len cap p g m co b f (W.alloc o) := by
  have hb : Below W.heap.size W (W.alloc o) := (Below.refl _ _).alloc (Nat.le_refl _) _
  exact ⟨h.box.kept hb rfl, h.res.kept hb rfl, h.row.alloc _, h.grown.trans (World.grownBy_alloc _ _ _), h.src.call hb⟩
theorem DV.plain {w W : World} {bs : Nat} {sa : Option Addr} {len cap p g m co : Nat} {b : Int} {f : Nat → Int} (h : DV w bs sa len cap p g m co b f W) (h0 : -1000 ≤ b) (h1 : b ≤ 1000) (hm : m ≤ 1000) (hg : w.heap.size < g) : DG w bs sa len cap p W :=
  ⟨b, _, m, co, f, h0, h1, hm, h.box, h.res, h.row.far (by omega), h.grown, h.src⟩
theorem DV.bits {w W : World} {bs : Nat} {sa : Option Addr} {len cap p g m co : Nat} {b : Int} {f : Nat → Int} (h : DV w bs sa len cap p g m co b f W) (y : Int) (h0 : -1000 ≤ y) (h1 : y ≤ 1000) (hm : m ≤ 1000) (hwp : w.heap.size < p) (hwg : w.heap.size < g) (hg : g < p) (hb : bs < w.heap.size) : DG w bs sa len cap p (W.setCell ⟨p, 0, none⟩ (.int .i64 y)) := by
  refine ⟨y, some ⟨g, 0, none⟩, m, co, f, h0, h1, hm, ?_, h.res.setOther _ _ (by show p ≠ w.heap.size; omega), (h.row.setOther _ _ (by show p ≠ g; omega)).far (by omega), grown_setNew h.grown (by show w.heap.size ≤ p; omega), h.src.setNew _ _ _ (by omega)⟩
  have h3 := h.box
  unfold Boxed at h3 ⊢
  rw [heap_setCell_same W p 0 _ _ (.int .i64 y) h3]
  rfl
theorem DV.word {w W : World} {bs : Nat} {sa : Option Addr} {len cap p g m co : Nat} {b : Int} {f : Nat → Int} (h : DV w bs sa len cap p g m co b f W) (y : Int) (h0 : -1000 ≤ b) (h1 : b ≤ 1000) (hm1 : m ≤ 1000) (hm : 0 < m) (hwg : w.heap.size < g) (hg : g < p) (hb : bs < w.heap.size) : DG w bs sa len cap p (W.setCell ⟨g, 0, none⟩ (.int .i64 y)) :=
  ⟨b, some ⟨g, 0, none⟩, m, co, _, h0, h1, hm1, h.box.setOther _ _ (by show g ≠ p; omega), h.res.setOther _ _ (by show g ≠ w.heap.size; omega), (h.row.set hm y).far (by omega), grown_setNew h.grown (by show w.heap.size ≤ g; omega), h.src.setNew _ _ _ (by omega)⟩
theorem DV.slice {w W : World} {bs : Nat} {sa : Option Addr} {len cap p g m co : Nat} {b : Int} {f : Nat → Int} (h : DV w bs sa len cap p g m co b f W) (so : Option Addr) (m' co' : Nat) (f' : Nat → Int) (h0 : -1000 ≤ b) (h1 : b ≤ 1000) (hm : m' ≤ 1000) (hwp : w.heap.size < p) (hb : bs < w.heap.size) (hF : FarV (W.setCell ⟨p, 1, none⟩ (.slice so m' co')) (w.heap.size + 1) so m' f') : DG w bs sa len cap p (W.setCell ⟨p, 1, none⟩ (.slice so m' co')) := by
  refine ⟨b, so, m', co', f', h0, h1, hm, ?_, h.res.setOther _ _ (by show p ≠ w.heap.size; omega), hF, grown_setNew h.grown (by show w.heap.size ≤ p; omega), h.src.setNew _ _ _ (by omega)⟩
  have h3 := h.box
  unfold Boxed at h3 ⊢
  rw [heap_setCell_same W p 1 _ _ (.slice so m' co') h3]
  rfl

set_option maxRecDepth 100000 in
set_option maxHeartbeats 8000000 in
theorem vec_any (w : World) (bs : Nat) (sa : Option Addr) (len cap : Nat) (hs : Src w bs sa len cap) :
    Calls Tryz.prog 40 #[.pointer (some ⟨bs, 0, none⟩)] w fun e w' => SomeVec w bs sa len cap e w' := by
  have HS : Hid (Src w bs sa len cap) := hs
  have hbs := hs.lt
  obtain ⟨i0, hi, hz0, hz1, hz2⟩ := info_parts Tryz.numInfo
  clear hs
  go_enter Tryz.func40, Tryz.ntmps40
  go_wp2_with fail
  have q1 := boxing w 29 0 none 0 0
  generalize w.alloc (.cells #[.int .i64 0, .slice none 0 0] 29) = v1 at *
  have X1 : Hid (Boxed v1 w.heap.size 29 0 none 0 0) := q1.2.1
  have G1 : Hid (w.grownBy v1 (some bs)) := grown_call (World.grownBy.refl _ _) q1.1
  have S1 : Hid (Src v1 bs sa len cap) := HS.out.call q1.1
  have z1 : v1.heap.size = w.heap.size + 1 := q1.2.2
  clear q1
  refine (n_any _ bs sa len cap 9 (by decide) (S1.out.kept (World.grownBy_alloc v1 _ none) (fun k hk => by cases hk))).mono ?_
  rintro e w2 ⟨⟨r, rfl, hr0, hr1, _⟩, hg, hS⟩
  have hr2 : r < 9 := hr1 (by decide)
  obtain ⟨k, rfl⟩ := Int.eq_ofNat_of_zero_le hr0
  have hc : ∃ x : Int, w2.cell? ⟨v1.heap.size, k, none⟩ = some (.int .i64 x) ∧ 1 ≤ x ∧ x ≤ 320 := by
    have hgc := fun (v : Value) (h : _ = some v) => hg.cell (a := ⟨v1.heap.size, k, none⟩) (v := v) h (by simp; omega)
    have hk : k < 9 := by omega
    rcases (show k = 0 ∨ k = 1 ∨ k = 2 ∨ k = 3 ∨ k = 4 ∨ k = 5 ∨ k = 6 ∨ k = 7 ∨ k = 8 from by omega) with rfl | rfl | rfl | rfl | rfl | rfl | rfl | rfl | rfl
    all_goals exact ⟨_, hgc _ (by rw [World.cell?_alloc_mark]; rfl), by decide, by decide⟩
  obtain ⟨b, hc, hb0, hb1⟩ := hc
  rw [z1] at hc
  have hg' : v1.grownBy w2 (some bs) := (World.grownBy_alloc v1 _ (some bs)).trans hg
  have X2 : Hid (Boxed w2 w.heap.size 29 0 none 0 0) := X1.out.grown hg' (by omega)
  have G2 : Hid (w.grownBy w2 (some bs)) := G1.out.trans hg'
  have S2 : Hid (Src w2 bs sa len cap) := hS
  have z2 : w.heap.size < w2.heap.size := X2.out.lt
  clear hr1 hg hg' hS HS X1 G1 S1
  go_wp2_with fail
  clear hc
  obtain ⟨m, hm⟩ := Int.eq_ofNat_of_zero_le (show 0 ≤ (b + 31) / 32 from by omega)
  refine (vecOf_any w2 bs sa len cap b m S2.out hb0 hb1 hm.symm).mono ?_
  rintro e w3 ⟨g, co, f, rfl, hgl, ho, hrm, hco, hg, hS⟩
  have hm0 : 0 < m := by omega
  have hm1 : m ≤ 10 := by omega
  have hgs := ho.1
  have X3 : Hid (Boxed w3 w.heap.size 29 0 none 0 0) := X2.out.grown hg (by omega)
  have G3 : Hid (w.grownBy w3 (some bs)) := G2.out.trans hg
  have S3 : Hid (Src w3 bs sa len cap) := hS
  have O3 : Hid (Own w3 g m f) := ho
  have R3 : Hid (Room w3 g co) := hrm
  unfold vecV
  clear hg hS ho hrm X2 G2 S2
  go_wp2_with fail
  have q4 := boxing w3 29 b (some ⟨g, 0, none⟩) m co
  generalize w3.alloc (.cells #[.int .i64 b, .slice (some ⟨g, 0, none⟩) m co] 29) = v4 at *
  obtain ⟨p, hp⟩ : ∃ p, p = w3.heap.size := ⟨_, rfl⟩
  rw [← hp]
  have P4 : Hid (Boxed v4 p 29 b (some ⟨g, 0, none⟩) m co) := by rw [hp]; exact q4.2.1
  have X4 : Hid (Boxed v4 w.heap.size 29 0 none 0 0) := X3.out.kept q4.1 rfl
  have G4 : Hid (w.grownBy v4 (some bs)) := grown_call G3.out q4.1
  have S4 : Hid (Src v4 bs sa len cap) := S3.out.call q4.1
  have O4 : Hid (Own v4 g m f) := O3.out.kept q4.1 hgs
  have R4 : Hid (Room v4 g co) := R3.out.kept q4.1 hgs
  have hgp : g < p := by omega
  have hwp : w.heap.size < p := by omega
  have hwg : w.heap.size < g := by omega
  clear q4 X3 G3 S3 O3 R3 hgs hp hgl z2
  refine (one_any v4 bs sa len cap 15 (by decide) S4.out).mono ?_
  rintro e w5 ⟨⟨c, rfl⟩, hg, hS⟩
  have P5 : Hid (Boxed w5 p 29 b (some ⟨g, 0, none⟩) m co) := P4.out.grown hg (by omega)
  have X5 : Hid (Boxed w5 w.heap.size 29 0 none 0 0) := X4.out.grown hg (by omega)
  have G5 : Hid (w.grownBy w5 (some bs)) := G4.out.trans hg
  have S5 : Hid (Src w5 bs sa len cap) := hS
  have O5 : Hid (Own w5 g m f) := O4.out.only hg (by omega)
  have R5 : Hid (Room w5 g co) := R4.out.only hg (fun e => by injection e with e; omega)
  clear hg hS P4 X4 G4 S4 O4 R4
  have D5 : Hid (DV w bs sa len cap p g m co b f w5) := ⟨P5.out, X5.out, O5.out, G5.out, S5.out⟩
  go_upto_if 12 with fail
  go_cut [] (fun wc => DG w bs sa len cap p wc)
  case first =>
    cases c with
    | false =>
      go_wp2_with fail
      go_meet
      exact D5.out.plain (by omega) (by omega) (by omega) hwg
    | true =>
      go_wp2_with fail
      refine (n_any _ bs sa len cap 4 (by decide) S5.out).mono ?_
      rintro e w6 ⟨⟨r, rfl, hr0, hr1, _⟩, hg, hS⟩
      have hr2 : r < 4 := hr1 (by decide)
      have P6 : Hid (Boxed w6 p 29 b (some ⟨g, 0, none⟩) m co) := P5.out.grown hg (by omega)
      have X6 : Hid (Boxed w6 w.heap.size 29 0 none 0 0) := X5.out.grown hg (by omega)
      have G6 : Hid (w.grownBy w6 (some bs)) := G5.out.trans hg
      have S6 : Hid (Src w6 bs sa len cap) := hS
      have O6 : Hid (Own w6 g m f) := O5.out.only hg (by omega)
      have R6 : Hid (Room w6 g co) := R5.out.only hg (fun e => by injection e with e; omega)
      have D6 : Hid (DV w bs sa len cap p g m co b f w6) := ⟨P6.out, X6.out, O6.out, G6.out, S6.out⟩
      clear hr1 hg hS P5 X5 G5 S5 O5 R5 D5
      obtain ⟨ca0, ca1, ca2, ca3⟩ := P6.out.four
      obtain ⟨cb0, cb1, cb2, cb3⟩ := X6.out.four
      have lx := X6.out.lt
      have lp := P6.out.lt
      by_cases e0 : r = 0
      · subst e0
        go_wp2
        go_region_with (first | (go_at_call 37; refine (n_any _ bs sa len cap 4 (by decide) (by first | exact S6.out | exact S6.out.drew | exact Src.drew (Src.kept (w := w6) (row := none) S6.out (World.grownBy_alloc _ _ none) (fun k hk => by cases hk)) | exact Src.kept (w := w6.drew) (row := none) S6.out (World.grownBy_alloc _ _ none) (fun k hk => by cases hk) | exact Src.kept (w := w6) (row := none) S6.out (World.grownBy_alloc _ _ none) (fun k hk => by cases hk))).mono ?_; rintro e w7 ⟨⟨r', rfl, hr0', hr1', _⟩, hg, hS⟩; have hr2' := hr1' (by decide); have hgw : w6.grownBy w7 (some bs) := (by first | exact hg | exact World.grownBy.trans (only_drawn (World.grownBy.refl _ _)) hg | exact World.grownBy.trans (only_drawn (World.grownBy_alloc w6 _ (some bs))) hg | exact World.grownBy.trans (World.grownBy_alloc _ _ _) hg | exact World.grownBy.trans (only_drawn (World.grownBy.refl _ _)) (World.grownBy.trans (World.grownBy_alloc w6.drew _ _) hg)); obtain ⟨j, rfl⟩ := Int.eq_ofNat_of_zero_le hr0'; obtain ⟨x, hxa, hxb, hxc⟩ : ∃ x : Int, [Value.int .i64 (0), Value.int .i64 (IntKind.i64.wrap (b + 1)), Value.int .i64 (IntKind.i64.wrap (b - 1)), Value.int .i64 (321)][j]? = some (.int .i64 x) ∧ -1000 ≤ x ∧ x ≤ 1000 := (by rcases (show j = 0 ∨ j = 1 ∨ j = 2 ∨ j = 3 from by omega) with rfl | rfl | rfl | rfl <;> exact ⟨_, rfl, by (try rw [wrap_near _ (by omega) (by omega)]); omega, by (try rw [wrap_near _ (by omega) (by omega)]); omega⟩); have hxd : #[Value.int .i64 (0), Value.int .i64 (IntKind.i64.wrap (b + 1)), Value.int .i64 (IntKind.i64.wrap (b - 1)), Value.int .i64 (321)][j]? = some (.int .i64 x) := (by simpa using hxa); (try have hxe : w7.cell? ⟨w6.heap.size, j, none⟩ = some (.int .i64 x) := hg.cell (a := ⟨w6.heap.size, j, none⟩) ((World.cell?_alloc_mark w6 _ _ _ _).trans hxd) (by simp; omega)); have hxf : (w7.alloc (.cells #[Value.int .i64 (0), Value.int .i64 (IntKind.i64.wrap (b + 1)), Value.int .i64 (IntKind.i64.wrap (b - 1)), Value.int .i64 (321)] 2)).cell? ⟨w7.heap.size, j, none⟩ = some (.int .i64 x) := (World.cell?_alloc_mark w7 _ _ _ _).trans hxd; have DW : Hid (DV w bs sa len cap p g m co b f w7) := ⟨P6.out.grown hgw (by omega), X6.out.grown hgw (by omega), O6.out.only hgw (by omega), G6.out.trans hgw, hS⟩; have PW := P6.out.grown hgw (by omega); have XW := X6.out.grown hgw (by omega); obtain ⟨da0, da1, da2, da3⟩ := PW.four; obtain ⟨db0, db1, db2, db3⟩ := XW.four; have lpw := PW.lt; clear hg hgw hS hr1' PW XW))
        all_goals
          go_wp2_with fail
          go_meet
          first
            | exact DW.out.bits x hxb hxc (by omega) hwp hwg hgp hbs
            | exact (DW.out.bits x hxb hxc (by omega) hwp hwg hgp hbs).alloc _
            | exact (DW.out.alloc _).bits x hxb hxc (by omega) hwp hwg hgp hbs
      · by_cases e1 : r = 1
        · subst e1
          have hmi : (0 : Int) < (m : Int) := by omega
          have hg0 := O6.out.2.1 0 hm0
          have hgf := O6.out.2.2 0 hm0
          have lg := O6.out.1
          go_wp2
          go_region_with (first | (go_at_call 37; refine (n_any _ bs sa len cap 3 (by decide) (by first | exact S6.out | exact S6.out.drew | exact Src.drew (Src.kept (w := w6) (row := none) S6.out (World.grownBy_alloc _ _ none) (fun k hk => by cases hk)) | exact Src.kept (w := w6.drew) (row := none) S6.out (World.grownBy_alloc _ _ none) (fun k hk => by cases hk) | exact Src.kept (w := w6) (row := none) S6.out (World.grownBy_alloc _ _ none) (fun k hk => by cases hk))).mono ?_; rintro e w7 ⟨⟨r', rfl, hr0', hr1', _⟩, hg, hS⟩; have hr2' := hr1' (by decide); have hgw : w6.grownBy w7 (some bs) := (by first | exact hg | exact World.grownBy.trans (only_drawn (World.grownBy.refl _ _)) hg | exact World.grownBy.trans (only_drawn (World.grownBy_alloc w6 _ (some bs))) hg | exact World.grownBy.trans (World.grownBy_alloc _ _ _) hg | exact World.grownBy.trans (only_drawn (World.grownBy.refl _ _)) (World.grownBy.trans (World.grownBy_alloc w6.drew _ _) hg)); obtain ⟨j, rfl⟩ := Int.eq_ofNat_of_zero_le hr0'; obtain ⟨x, hxa, hxb, hxc⟩ : ∃ x : Int, [Value.int .i64 (-1), Value.int .i64 (4294967296), Value.int .i64 (4294967295)][j]? = some (.int .i64 x) ∧ -1000 ≤ x ∧ x ≤ 4294967296 := (by rcases (show j = 0 ∨ j = 1 ∨ j = 2 from by omega) with rfl | rfl | rfl <;> exact ⟨_, rfl, by omega, by omega⟩); have hxd : #[Value.int .i64 (-1), Value.int .i64 (4294967296), Value.int .i64 (4294967295)][j]? = some (.int .i64 x) := (by simpa using hxa); (try have hxe : w7.cell? ⟨w6.heap.size, j, none⟩ = some (.int .i64 x) := hg.cell (a := ⟨w6.heap.size, j, none⟩) ((World.cell?_alloc_mark w6 _ _ _ _).trans hxd) (by simp; omega)); have hxf : (w7.alloc (.cells #[Value.int .i64 (-1), Value.int .i64 (4294967296), Value.int .i64 (4294967295)] 2)).cell? ⟨w7.heap.size, j, none⟩ = some (.int .i64 x) := (World.cell?_alloc_mark w7 _ _ _ _).trans hxd; have DW : Hid (DV w bs sa len cap p g m co b f w7) := ⟨P6.out.grown hgw (by omega), X6.out.grown hgw (by omega), O6.out.only hgw (by omega), G6.out.trans hgw, hS⟩; have PW := P6.out.grown hgw (by omega); have XW := X6.out.grown hgw (by omega); have OW : Hid (Own w7 g m f) := O6.out.only hgw (by omega); obtain ⟨da0, da1, da2, da3⟩ := PW.four; obtain ⟨db0, db1, db2, db3⟩ := XW.four; have lpw := PW.lt; have eg0 := OW.out.2.1 0 hm0; have egf := OW.out.2.2 0 hm0; have elg := OW.out.1; clear hg hgw hS hr1' PW XW))
          all_goals
            go_wp2_with fail
            go_meet
            first
              | exact DW.out.word x (by omega) (by omega) (by omega) hm0 hwg hgp hbs
              | exact (DW.out.word x (by omega) (by omega) (by omega) hm0 hwg hgp hbs).alloc _
              | exact (DW.out.alloc _).word x (by omega) (by omega) (by omega) hm0 hwg hgp hbs
        · by_cases e2 : r = 2
          · subst e2
            clear e0 e1
            go_wp2
            · go_meet
              exact D6.out.slice _ (m - 1) 0 (fun _ => 0) (by omega) (by omega) (by omega) hwp hbs (Or.inl (by omega))
            · go_meet
              have O7 := O6.out.setOther ⟨p, 1, none⟩ (.slice (some ⟨g, 1, none⟩) (m - 1) (co - 1)) (by show p ≠ g; omega)
              exact D6.out.slice _ (m - 1) (co - 1) (fun i => f (1 + i)) (by omega) (by omega) (by omega) hwp hbs (Or.inr ⟨g, 1, rfl, by omega, O7.1, fun i hi => O7.2.1 (1 + i) (by omega)⟩)
          · have b0 : (r == 0) = false := by simpa using e0
            have b1 : (r == 1) = false := by simpa using e1
            have b2 : (r == 2) = false := by simpa using e2
            have hown : w6.ownsRow (w.heap.size + 1) 2 1 (.slice (some ⟨g, 0, none⟩) m co) m ((List.range m).map fun i => Value.int .i64 (f i)) := owns_of O6.out R6.out hco (by omega)
            have HOW : Hid (w6.ownsRow (w.heap.size + 1) 2 1 (.slice (some ⟨g, 0, none⟩) m co) m ((List.range m).map fun i => Value.int .i64 (f i))) := hown
            clear hown
            go_wp2_with (at_builtin; refine wpList_append_own _ rfl (.tmp 16) (.tmp 17) 26 rfl (w.heap.size + 1) 2 i0 (.int .i64 0) 1 8 Tryz.underlying26 hi hz0 hz1 hz2 rfl (by decide) (.slice (some ⟨g, 0, none⟩) m co) m _ rfl (HOW.out.alloc _) ⟨w6.heap.size, 0, none⟩ 1 1 [.int .i64 0] rfl rfl ?c1 ?c2 ?c3 ?c4 ?c5 ?_)
            case c1 => exact cell_one_new _ _ _
            case c2 => intro u hu; simp at hu; subst hu; rfl
            case c3 => unfold maxLen; omega
            case c4 => omega
            case c5 => simp; omega
            intro v' w7 hown2 hgrow _
            obtain ⟨g7, c7, rfl, hblk, hfar⟩ := far_of (f := fun i => if i < m then f i else 0) hown2 (by omega) (fun i hi => by
              by_cases h : i < m
              · rw [List.getElem?_append_left (by simpa using h)]
                simp [h]
              · obtain rfl : i = m := by omega
                simp)
            have hg7 : w6.grownBy w7 (some g) := (World.grownBy_alloc w6 _ (some g)).trans hgrow
            have X7 := X6.out.grown hg7 (by omega)
            have P7 := P6.out.grown hg7 (by omega)
            have n7 : p ≠ g7 := P7.ne (by decide) hblk
            have F7 : Hid (FarV w7 (w.heap.size + 1) (some ⟨g7, 0, none⟩) (m + 1) (fun i => if i < m then f i else 0)) := hfar
            have G7 : Hid (w.grownBy w7 (some bs)) := grown_new G6.out hg7 (by omega)
            have S7 : Hid (Src w7 bs sa len cap) := S6.out.kept hg7 (fun k hk => by cases hk; omega)
            have XX : Hid (Boxed w7 w.heap.size 29 0 none 0 0) := X7
            have PP : Hid (Boxed w7 p 29 b (some ⟨g, 0, none⟩) m co) := P7
            clear ca0 ca1 ca2 ca3 cb0 cb1 cb2 cb3 lx lp hown2 hgrow hg7 hfar hblk
            obtain ⟨ca0, ca1, ca2, ca3⟩ := P7.four
            have lp := P7.lt
            clear X7 P7
            go_wp2
            go_meet
            refine ⟨b, some ⟨g7, 0, none⟩, m + 1, c7, _, by omega, by omega, by omega, ?_, XX.out.setOther _ _ (by show p ≠ w.heap.size; omega), F7.out.setOther _ _ n7, grown_setNew G7.out (by show w.heap.size ≤ p; omega), S7.out.setNew _ _ _ (by omega)⟩
            have h3 := PP.out
            unfold Boxed at h3 ⊢
            rw [heap_setCell_same w7 p 1 _ _ _ h3]
            rfl
  case rest =>
    obtain ⟨x, so, m', co', f', hx0, hx1, hmm, hP, hX, hF, hG, hSS⟩ := hcut
    have OW : Hid (FarV wc (w.heap.size + 1) so m' f') := hF
    have GW : Hid (w.grownBy wc (some bs)) := hG
    have SW : Hid (Src wc bs sa len cap) := hSS
    obtain ⟨da0, da1, da2, da3⟩ := hP.four
    obtain ⟨db0, db1, db2, db3⟩ := hX.four
    have lxw := hX.lt
    clear hP hX hF hG hSS
    go_wp2
    refine bodyPost_ret (v := vecV x so m' co') (by simp [results, Tryz.results40, go_sem, vecV, db0, db1]) rfl ?_
    exact ⟨_, _, _, _, _, rfl, by omega, by omega, by omega, ((OW.out.setLow _ _ (by show w.heap.size < w.heap.size + 1; omega)).setLow _ _ (by show w.heap.size < w.heap.size + 1; omega)).low (by omega), grown_setNew (grown_setNew GW.out (by show w.heap.size ≤ w.heap.size; omega)) (by show w.heap.size ≤ w.heap.size; omega), (SW.out.setNew _ _ _ hbs).setNew _ _ _ hbs⟩
end Go.Proofs.YtfeolbgenpknfaaGreat
