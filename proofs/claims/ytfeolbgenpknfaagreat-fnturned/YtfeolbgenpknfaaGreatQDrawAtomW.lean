/- What is proved here: an atom that is drawn has a class of at most 256 bytes and small numbers, whatever is drawn; nothing turns but the source's own block. -/
import Derived.Test.YtfeolbgenpknfaaGreatQPickWToDrawTxtW
import Derived.RegionTactic
import Derived.BigRegion
import Derived.Deep.RegionWith
import Derived.Deep.RegionHeld3
import Derived.Deep.DeepCutAuto
import Derived.Deep.CutBlock
namespace Go.Proofs.YtfeolbgenpknfaaGreat
open Go.RowKit

/-- An atom that is being drawn: its box, its source. -/
structure AtIn (w W : World) (bs : Nat) (sa : Option Addr) (len cap p0 p : Nat) : Prop where
  g : w.grownBy W (some bs)
  s : Src W bs sa len cap
  z : W.heap[p0]? = some (.cells #[.string ⟨#[]⟩, .int .i64 0, .int .i64 0] 135 (0, 0))
  x : ∃ (cl : ByteArray) (le mo : Int), W.heap[p]? = some (.cells #[.string cl, .int .i64 le, .int .i64 mo] 135 (0, 0)) ∧ cl.size ≤ 256 ∧ (-2 ≤ le ∧ le ≤ 30) ∧ -2 ≤ mo ∧ mo ≤ 30
  lt : bs < w.heap.size ∧ w.heap.size ≤ p0 ∧ p0 < p
theorem src_set {w : World} {b : Nat} {sa : Option Addr} {len cap : Nat} (h : Src w b sa len cap) (p i : Nat) (v : Value) (hp : b < p) : Src (w.setCell ⟨p, i, none⟩ v) b sa len cap :=
  h.kept (row := some p) (only_setCell (World.grownBy.refl _ _)) (fun k hk => by cases hk; omega)
theorem grown_newA {w W : World} {b p i : Nat} {v : Value} (h : w.grownBy W (some b)) (hp : w.heap.size ≤ p) : w.grownBy (W.setCell ⟨p, i, none⟩ v) (some b) :=
  ⟨h.os, h.tape, h.output, by simpa [World.setCell] using h.size, fun k hk hne => by rw [Below.heap_setCell _ _ _ _ (fun e => by have e2 : k = p := e; omega)]; exact h.block k hk hne⟩
theorem AtIn.put {w W : World} {bs : Nat} {sa : Option Addr} {len cap p0 p i : Nat} {v : Value} (h : AtIn w W bs sa len cap p0 p) (hx : ∃ (cl : ByteArray) (le mo : Int), (W.setCell ⟨p, i, none⟩ v).heap[p]? = some (.cells #[.string cl, .int .i64 le, .int .i64 mo] 135 (0, 0)) ∧ cl.size ≤ 256 ∧ (-2 ≤ le ∧ le ≤ 30) ∧ -2 ≤ mo ∧ mo ≤ 30) : AtIn w (W.setCell ⟨p, i, none⟩ v) bs sa len cap p0 p :=
  ⟨grown_newA h.g (by have := h.lt; omega), src_set h.s p i v (by have := h.lt; omega), by rw [Below.heap_setCell _ _ _ _ (fun e => by have e2 : p0 = p := e; have := h.lt; omega)]; exact h.z, hx, h.lt⟩
theorem AtIn.set0 {w W : World} {bs : Nat} {sa : Option Addr} {len cap p0 p : Nat} (h : AtIn w W bs sa len cap p0 p) (t : ByteArray) (ht : t.size ≤ 256) : AtIn w (W.setCell ⟨p, 0, none⟩ (.string t)) bs sa len cap p0 p := by
  obtain ⟨cl, le, mo, h1, h2, h3⟩ := h.x
  exact h.put ⟨t, le, mo, by rw [heap_setCell_same W p 0 _ _ _ h1]; rfl, ht, h3⟩
theorem AtIn.set1 {w W : World} {bs : Nat} {sa : Option Addr} {len cap p0 p : Nat} (h : AtIn w W bs sa len cap p0 p) (x : Int) (hx : -2 ≤ x ∧ x ≤ 30) : AtIn w (W.setCell ⟨p, 1, none⟩ (.int .i64 x)) bs sa len cap p0 p := by
  obtain ⟨cl, le, mo, h1, h2, h3, h4⟩ := h.x
  exact h.put ⟨cl, x, mo, by rw [heap_setCell_same W p 1 _ _ _ h1]; rfl, h2, hx, h4⟩
theorem AtIn.set2 {w W : World} {bs : Nat} {sa : Option Addr} {len cap p0 p : Nat} (h : AtIn w W bs sa len cap p0 p) (x : Int) (hx : -2 ≤ x ∧ x ≤ 30) : AtIn w (W.setCell ⟨p, 2, none⟩ (.int .i64 x)) bs sa len cap p0 p := by
  obtain ⟨cl, le, mo, h1, h2, h3, h4⟩ := h.x
  exact h.put ⟨cl, le, x, by rw [heap_setCell_same W p 2 _ _ _ h1]; rfl, h2, h3, hx⟩
theorem AtIn.src {w W W' : World} {bs : Nat} {sa : Option Addr} {len cap p0 p : Nat} (h : AtIn w W bs sa len cap p0 p) (hg : W.grownBy W' (some bs)) (hs : Src W' bs sa len cap) : AtIn w W' bs sa len cap p0 p := by
  obtain ⟨cl, le, mo, h1, h2⟩ := h.x
  have hl := h.lt
  exact ⟨h.g.trans hg, hs, by rw [hg.block p0 (lt_of_block h.z) (fun e => by injection e with e; omega)]; exact h.z, ⟨cl, le, mo, by rw [hg.block p (lt_of_block h1) (fun e => by injection e with e; omega)]; exact h1, h2⟩, hl⟩
theorem AtIn.alloc {w W : World} {bs : Nat} {sa : Option Addr} {len cap p0 p : Nat} (h : AtIn w W bs sa len cap p0 p) (o : Obj) : AtIn w (W.alloc o) bs sa len cap p0 p :=
  h.src (World.grownBy_alloc W _ _) (h.s.after ((Below.refl _ _).alloc (Nat.le_refl _) _))
theorem AtIn.drew {w W : World} {bs : Nat} {sa : Option Addr} {len cap p0 p : Nat} (h : AtIn w W bs sa len cap p0 p) : AtIn w W.drew bs sa len cap p0 p :=
  h.src ⟨rfl, rfl, rfl, Nat.le_refl _, fun _ _ _ => rfl⟩ (h.s.after ⟨rfl, rfl, rfl, Nat.le_refl _, fun _ _ => rfl⟩)
theorem AtIn.cells {w W : World} {bs : Nat} {sa : Option Addr} {len cap p0 p : Nat} (h : AtIn w W bs sa len cap p0 p) : ∃ (cl : ByteArray) (le mo : Int), (W.cell? ⟨p, 0, none⟩ = some (.string cl) ∧ W.cell? ⟨p, 1, none⟩ = some (.int .i64 le) ∧ W.cell? ⟨p, 2, none⟩ = some (.int .i64 mo)) ∧ (W.frozen? ⟨p, 0, none⟩ = false ∧ W.frozen? ⟨p, 1, none⟩ = false ∧ W.frozen? ⟨p, 2, none⟩ = false ∧ p < W.heap.size) ∧ cl.size ≤ 256 ∧ (-2 ≤ le ∧ le ≤ 30) ∧ -2 ≤ mo ∧ mo ≤ 30 := by
  obtain ⟨cl, le, mo, h1, h2⟩ := h.x
  exact ⟨cl, le, mo, ⟨by simp [World.cell?, h1], by simp [World.cell?, h1], by simp [World.cell?, h1]⟩, ⟨frozen_of_row _ _ _ _ _ h1, frozen_of_row _ _ _ _ _ h1, frozen_of_row _ _ _ _ _ h1, lt_of_block h1⟩, h2⟩
/-- Some atom that is small. -/
def SomeAtom (e : Ending) : Prop := ∃ (cl : ByteArray) (le mo : Int), e = .returned (.agg #[.string cl, .int .i64 le, .int .i64 mo]) ∧ cl.size ≤ 256 ∧ (-2 ≤ le ∧ le ≤ 30) ∧ -2 ≤ mo ∧ mo ≤ 30
theorem atin_new (w W : World) (bs : Nat) (sa : Option Addr) (len cap : Nat) (cl : ByteArray) (hb : bs < w.heap.size) (hg : w.grownBy W (some bs)) (hs : Src W bs sa len cap) (hz : W.heap[w.heap.size]? = some (.cells #[.string ⟨#[]⟩, .int .i64 0, .int .i64 0] 135 (0, 0))) (hc : cl.size ≤ 256) : AtIn w (W.alloc (.cells #[.string cl, .int .i64 1, .int .i64 1] 135)) bs sa len cap w.heap.size W.heap.size :=
  ⟨hg.trans (World.grownBy_alloc W _ _), hs.after ((Below.refl _ _).alloc (Nat.le_refl _) _), by rw [((Below.refl W.heap.size W).alloc (Nat.le_refl _) _).block _ (lt_of_block hz)]; exact hz, ⟨cl, 1, 1, heap_alloc_new W _, hc, by omega, by omega⟩, hb, Nat.le_refl _, lt_of_block hz⟩
set_option maxRecDepth 100000 in
set_option maxHeartbeats 4000000 in
theorem l04Atom_any (w : World) (b : Nat) (sa : Option Addr) (len cap : Nat) (hs : Src w b sa len cap) :
    Calls Tryz.prog 104 #[.pointer (some ⟨b, 0, none⟩)] w fun e w' => SomeAtom e ∧ w.grownBy w' (some b) ∧ Src w' b sa len cap := by
  have HS : Hid (Src w b sa len cap) := hs
  have hb := hs.lt
  clear hs
  go_enter Tryz.func104, Tryz.ntmps104
  go_wp2_with fail
  have h0 : (w.alloc (.cells #[.string ⟨#[]⟩, .int .i64 0, .int .i64 0] 135)).heap[w.heap.size]? = some (.cells #[.string ⟨#[]⟩, .int .i64 0, .int .i64 0] 135 (0, 0)) := heap_alloc_new w _
  have g0 : w.grownBy (w.alloc (.cells #[.string ⟨#[]⟩, .int .i64 0, .int .i64 0] 135)) (some b) := World.grownBy_alloc w _ _
  have s0 := HS.out.after ((Below.refl w.heap.size w).alloc (Nat.le_refl _) (.cells #[.string ⟨#[]⟩, .int .i64 0, .int .i64 0] 135))
  refine (l03Class_any _ b sa len cap s0).mono ?_
  rintro e w1 ⟨⟨cl, rfl, hcs⟩, hg, hS⟩
  have hz1 : w1.heap[w.heap.size]? = some (.cells #[.string ⟨#[]⟩, .int .i64 0, .int .i64 0] 135 (0, 0)) := by rw [hg.block _ (lt_of_block h0) (fun e => by injection e with e; omega)]; exact h0
  have A1 : Hid (AtIn w (w1.alloc (.cells #[.string cl, .int .i64 1, .int .i64 1] 135)) b sa len cap w.heap.size w1.heap.size) := atin_new w w1 b sa len cap cl hb (g0.trans hg) hS hz1 hcs
  clear h0 g0 s0 hg hS hz1 HS hcs
  go_upto_if 9 with fail
  generalize w1.alloc (.cells #[.string cl, .int .i64 1, .int .i64 1] 135) = v2 at *
  generalize w1.heap.size = p at *
  obtain ⟨p0, hp0⟩ : ∃ p0, w.heap.size = p0 := ⟨_, rfl⟩
  rw [hp0] at A1 ⊢
  clear hp0
  go_cut [] (fun wx => AtIn w wx b sa len cap p0 p)
  case first =>
    obtain ⟨cl', le, mo, ⟨x0, x1, x2⟩, ⟨f0, f1, f2, xl⟩, _⟩ := A1.out.cells
    cases hz : cl.toList.isEmpty with
    | true =>
      go_wp2_with fail
      go_meet
      case rel => exact A1.out.set0 _ (by decide)
    | false =>
      go_wp2_with fail
      go_meet
      case rel => exact A1.out
  case rest =>
    have A2 : Hid (AtIn w wc b sa len cap p0 p) := hcut
    clear hcut A1
    go_wp2_with fail
    refine (n_any _ b sa len cap 8 (by decide) A2.out.s).mono ?_
    rintro e w3 ⟨⟨r, rfl, hr0, hr1, _⟩, hg, hS⟩
    have hr2 : r < 8 := hr1 (by decide)
    have A3 : Hid (AtIn w w3 b sa len cap p0 p) := A2.out.src hg hS
    clear hr1 hg hS A2 v2
    go_upto_block 0 with fail
    go_cut [] (fun wx => AtIn w wx b sa len cap p0 p)
    case first =>
      obtain ⟨cl', le, mo, ⟨x0, x1, x2⟩, ⟨f0, f1, f2, xl⟩, _⟩ := A3.out.cells
      by_cases e0 : r = 0
      · subst e0
        go_wp2_with fail
        go_meet
        case rel => exact A3.out.set1 0 (by decide)
      · by_cases e1 : r = 1
        · subst e1
          go_wp2_with fail
          go_meet
          case rel => exact (A3.out.set1 0 (by decide)).set2 (-1) (by decide)
        · by_cases e2 : r = 2
          · subst e2
            go_wp2_with fail
            go_meet
            case rel => exact A3.out.set2 (-1) (by decide)
          · by_cases e3 : r = 3
            · subst e3
              go_wp2_with fail
              refine (n_any _ b sa len cap 3 (by decide) A3.out.s).mono ?_
              rintro e w4 ⟨⟨q, rfl, hq0, hq1, _⟩, hg, hS⟩
              have hq2 : q < 3 := hq1 (by decide)
              have A4 : Hid (AtIn w (w4.setCell ⟨p, 1, none⟩ (.int .i64 q)) b sa len cap p0 p) := (A3.out.src hg hS).set1 q (by omega)
              obtain ⟨cl', le, mo, ⟨x0, x1, x2⟩, ⟨f0, f1, f2, xl⟩, _⟩ := (A3.out.src hg hS).cells
              have hx1 : (w4.setCell ⟨p, 1, none⟩ (.int .i64 q)).cell? ⟨p, 1, none⟩ = some (.int .i64 q) := World.cell?_setCell_same _ _ _ x1
              clear hq1 hg hS
              go_upto_region 14 with fail
              generalize w4.setCell ⟨p, 1, none⟩ (.int .i64 q) = w5 at *
              clear x0 x1 x2 f0 f1 f2 xl
              obtain ⟨_, _, _, _, ⟨_, _, _, xl⟩, _⟩ := A4.out.cells
              have hw1 : IntKind.i64.wrap (1 + q) = 1 + q := by rw [IntKind.wrap_i64]; omega
              have hpb : p ≠ b := by have := A4.out.lt; omega
              go_region_held3 (fun W => W.cell? ⟨p, 1, none⟩ = some (.int .i64 q)) (go_keep) (first | (go_at_call 37; (with_reducible refine (n_any _ b sa len cap 2 (by decide) A4.out.drew.s).mono ?_); rintro e w6 ⟨⟨q2, rfl, hz0, hz1, _⟩, hg, hS⟩; have hz2 : q2 < 2 := hz1 (by decide); have A6 : Hid (AtIn w w6 b sa len cap p0 p) := A4.out.drew.src hg hS; have hw2 : IntKind.i64.wrap (1 + q + q2) = 1 + q + q2 := (by rw [IntKind.wrap_i64]; omega); have hx6 : w6.cell? ⟨p, 1, none⟩ = some (.int .i64 q) := hg.cell hx1 (by simp; omega); have hs12 : (w6.setCell ⟨p, 2, none⟩ (.int .i64 (1 + q + q2))).cell? ⟨p, 1, none⟩ = some (.int .i64 q) := (by rw [World.cell?_setCell_other _ _ _ _ (by simp)]; exact hx6); have xl6 := Nat.lt_of_lt_of_le xl hg.size; obtain ⟨_, _, _, ⟨_, _, y2⟩, ⟨_, _, f2, _⟩, _⟩ := A6.out.cells; clear hz1 hg hS))
              all_goals
                go_wp2_with fail
                go_meet
                case rel => exact A6.out.set2 (1 + q + q2) (by omega)
            · have f0 : (r == 0) = false := by simpa using e0
              have f1 : (r == 1) = false := by simpa using e1
              have f2 : (r == 2) = false := by simpa using e2
              have f3 : (r == 3) = false := by simpa using e3
              go_wp2_with fail
              go_meet
              case rel => exact A3.out
    case rest =>
      have A4 : Hid (AtIn w wc b sa len cap p0 p) := hcut
      clear hcut A3 w3
      go_wp2_with fail
      refine (one_any _ b sa len cap 60 (by decide) A4.out.s).mono ?_
      rintro e w5 ⟨⟨x, rfl⟩, hg, hS⟩
      have A5 : Hid (AtIn w w5 b sa len cap p0 p) := A4.out.src hg hS
      clear hg hS A4 wc
      go_upto_if 36 with fail
      go_cut [] (fun wx => AtIn w wx b sa len cap p0 p)
      case first =>
        cases x with
        | false =>
          go_wp2_with fail
          go_meet
          case rel => exact A5.out
        | true =>
          go_wp2_with fail
          refine (n_any _ b sa len cap 3 (by decide) A5.out.s).mono ?_
          rintro e w6 ⟨⟨q, rfl, hq0, hq1, _⟩, hg, hS⟩
          have hq2 : q < 3 := hq1 (by decide)
          have A6 : Hid (AtIn w w6 b sa len cap p0 p) := A5.out.src hg hS
          clear hq1 hg hS A5
          obtain ⟨cl', le, mo, ⟨x0, x1, x2⟩, ⟨f0, f1, f2, xl⟩, _⟩ := A6.out.cells
          by_cases e0 : q = 0
          · subst e0
            clear x0 x1 x2 f0 f1 f2 xl
            go_wp2_with fail
            refine (pick_any _ b sa len cap w6.heap.size 2 (by decide) (by decide) (by have := A6.out.s.lt; omega) ?_ (A6.out.alloc _).s).mono ?_
            · intro i hi
              rcases (show i = 0 ∨ i = 1 from by omega) with rfl | rfl
              all_goals exact ⟨_, by rw [World.cell?_alloc_mark]; rfl, by decide⟩
            rintro e w7 ⟨⟨t, rfl, ht⟩, hg, hS⟩
            have A7 : Hid (AtIn w w7 b sa len cap p0 p) := (A6.out.alloc _).src hg hS
            obtain ⟨cl', le, mo, ⟨x0, x1, x2⟩, ⟨f0, f1, f2, xl⟩, _⟩ := A7.out.cells
            have HT : Hid (t.size ≤ 256) := ht
            clear hg hS ht
            go_wp2_with fail
            go_meet
            case rel => exact A7.out.set0 t HT.out
          · by_cases e1 : q = 1
            · subst e1
              clear x0 x1 x2 f0 f1 f2 xl
              go_wp2_with fail
              have C7 : Hid (∀ i, i < 3 → ∃ x : Int, (w6.alloc (.cells #[.int .i64 (-1), .int .i64 20, .int .i64 21] 2)).cell? ⟨w6.heap.size, i, none⟩ = some (.int .i64 x) ∧ -2 ≤ x ∧ x ≤ 30) := by
                intro i hi
                rcases (show i = 0 ∨ i = 1 ∨ i = 2 from by omega) with rfl | rfl | rfl
                all_goals exact ⟨_, by rw [World.cell?_alloc_mark]; rfl, by decide, by decide⟩
              have A7 : Hid (AtIn w (w6.alloc (.cells #[.int .i64 (-1), .int .i64 20, .int .i64 21] 2)) b sa len cap p0 p) := A6.out.alloc _
              have hwb : b < w6.heap.size := A6.out.s.lt
              refine (n_any _ b sa len cap 3 (by decide) A7.out.s).mono ?_
              rintro e w8 ⟨⟨j, rfl, hj0, hj1, _⟩, hg, hS⟩
              have hj2 : j < 3 := hj1 (by decide)
              obtain ⟨k, rfl⟩ := Int.eq_ofNat_of_zero_le hj0
              obtain ⟨x, hx, hx0, hx1⟩ := C7.out k (by omega)
              have hx2 := hg.cell hx (by simp; omega)
              have A8 : Hid (AtIn w w8 b sa len cap p0 p) := A7.out.src hg hS
              obtain ⟨cl', le, mo, ⟨x0, x1, x2⟩, ⟨f0, f1, f2, xl⟩, _⟩ := A8.out.cells
              have HX : Hid (-2 ≤ x ∧ x ≤ 30) := ⟨hx0, hx1⟩
              clear hj1 hg hS hx hx0 hx1 C7
              go_wp2_with fail
              go_meet
              case rel => exact A8.out.set1 x HX.out
            · have g0 : (q == 0) = false := by simpa using e0
              have g1 : (q == 1) = false := by simpa using e1
              clear x0 x1 x2 f0 f1 f2 xl
              go_wp2_with fail
              have C7 : Hid (∀ i, i < 4 → ∃ x : Int, (w6.alloc (.cells #[.int .i64 (-2), .int .i64 0, .int .i64 20, .int .i64 21] 2)).cell? ⟨w6.heap.size, i, none⟩ = some (.int .i64 x) ∧ -2 ≤ x ∧ x ≤ 30) := by
                intro i hi
                rcases (show i = 0 ∨ i = 1 ∨ i = 2 ∨ i = 3 from by omega) with rfl | rfl | rfl | rfl
                all_goals exact ⟨_, by rw [World.cell?_alloc_mark]; rfl, by decide, by decide⟩
              have A7 : Hid (AtIn w (w6.alloc (.cells #[.int .i64 (-2), .int .i64 0, .int .i64 20, .int .i64 21] 2)) b sa len cap p0 p) := A6.out.alloc _
              have hwb : b < w6.heap.size := A6.out.s.lt
              refine (n_any _ b sa len cap 4 (by decide) A7.out.s).mono ?_
              rintro e w8 ⟨⟨j, rfl, hj0, hj1, _⟩, hg, hS⟩
              have hj2 : j < 4 := hj1 (by decide)
              obtain ⟨k, rfl⟩ := Int.eq_ofNat_of_zero_le hj0
              obtain ⟨x, hx, hx0, hx1⟩ := C7.out k (by omega)
              have hx2 := hg.cell hx (by simp; omega)
              have A8 : Hid (AtIn w w8 b sa len cap p0 p) := A7.out.src hg hS
              obtain ⟨cl', le, mo, ⟨x0, x1, x2⟩, ⟨f0, f1, f2, xl⟩, _⟩ := A8.out.cells
              have HX : Hid (-2 ≤ x ∧ x ≤ 30) := ⟨hx0, hx1⟩
              clear hj1 hg hS hx hx0 hx1 C7
              go_wp2_with fail
              go_meet
              case rel => exact A8.out.set2 x HX.out
      case rest =>
        have A7 : Hid (AtIn w wc b sa len cap p0 p) := hcut
        clear hcut A5 w5
        obtain ⟨cl', le, mo, ⟨x0, x1, x2⟩, ⟨f0, f1, f2, xl⟩, hcl, hle, hmo⟩ := A7.out.cells
        have hz := A7.out.z
        have z0 : wc.cell? ⟨p0, 0, none⟩ = some (.string ⟨#[]⟩) := by simp [World.cell?, hz]
        have z1 : wc.cell? ⟨p0, 1, none⟩ = some (.int .i64 0) := by simp [World.cell?, hz]
        have z2 : wc.cell? ⟨p0, 2, none⟩ = some (.int .i64 0) := by simp [World.cell?, hz]
        have zf0 := frozen_of_row _ p0 0 _ _ hz
        have zf1 := frozen_of_row _ p0 1 _ _ hz
        have zf2 := frozen_of_row _ p0 2 _ _ hz
        have zl := lt_of_block hz
        clear hz
        go_wp2_with fail
        refine bodyPost_ret (v := .agg #[.string cl', .int .i64 le, .int .i64 mo]) (by simp [results, Tryz.results104, go_sem, z0, z1, z2]) rfl ?_
        have hlt := A7.out.lt
        exact ⟨⟨cl', le, mo, rfl, hcl, hle, hmo⟩, grown_newA (grown_newA (grown_newA A7.out.g hlt.2.1) hlt.2.1) hlt.2.1, src_set (src_set (src_set A7.out.s p0 0 _ (by omega)) p0 1 _ (by omega)) p0 2 _ (by omega)⟩
end Go.Proofs.YtfeolbgenpknfaaGreat
