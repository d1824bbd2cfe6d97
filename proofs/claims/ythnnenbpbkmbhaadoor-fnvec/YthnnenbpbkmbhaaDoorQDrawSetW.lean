/- What is proved here: DrawVecSet draws a vector, a number and a bool, DrawVecNew a number; nothing that was there turns. -/
import Derived.Test.YthnnenbpbkmbhaaDoorQDrawPairW
namespace Go.Proofs.YthnnenbpbkmbhaaDoor
open Go.RowKit

/-- A vector in its box, a number, a bool. -/
def SetAt (w : World) (v3 v4 : Value) (W : World) : Prop :=
  ∃ (b : Int) (so : Option Addr) (m co : Nat) (f : Nat → Int) (i : Int) (on : Bool), v3 = .int .i64 i ∧ v4 = .bool on ∧ -1 ≤ i ∧ i ≤ 2000 ∧ Vc W (w.heap.size + 1) b so m co f ∧ Boxed W w.heap.size 25 b so m co ∧ Below w.heap.size w W
theorem set_end {w W : World} {b : Int} {so : Option Addr} {m co : Nat} {f : Nat → Int} (i : Int) (on : Bool) (hi0 : -1 ≤ i) (hi1 : i ≤ 2000) (h1 : Vc W (w.heap.size + 1) b so m co f) (h2 : Boxed W w.heap.size 25 0 none 0 0) (h3 : Below w.heap.size w W) :
    SetAt w (.int .i64 i) (.bool on) ((W.setCell ⟨w.heap.size, 0, none⟩ (.int .i64 b)).setCell ⟨w.heap.size, 1, none⟩ (.slice so m co)) :=
  ⟨b, so, m, co, f, i, on, rfl, rfl, hi0, hi1, (h1.setLow _ _ (by show w.heap.size < w.heap.size + 1; omega)).setLow _ _ (by show w.heap.size < w.heap.size + 1; omega), box_store h2 b so m co, (h3.setCell (by show w.heap.size ≤ w.heap.size; omega) _).setCell (by show w.heap.size ≤ w.heap.size; omega) _⟩
theorem few {b r : Int} (h1 : b ≤ 1000) (h2 : 1 < b + 2 → r < b + 2) (h3 : b + 2 ≤ 1 → r = 0) : r ≤ 1002 := by
  by_cases h : 1 < b + 2
  · have := h2 h
    omega
  · have := h3 (by omega)
    omega
/-- A vector, a number and a bool come out of a draw. -/
def VecAndMore (w : World) (e : Ending) (w' : World) : Prop :=
  ∃ (b : Int) (so : Option Addr) (m co : Nat) (f : Nat → Int) (i : Int) (on : Bool), e = .returned (.tuple #[vecV b so m co, .int .i64 i, .bool on]) ∧ -1 ≤ i ∧ i ≤ 2000 ∧ Vc w' w.heap.size b so m co f ∧ Below w.heap.size w w'
set_option maxRecDepth 100000 in
set_option maxHeartbeats 8000000 in
theorem drawVecSet_any (w : World) (sa : Option Addr) (len cap : Nat) (hl : len ≤ 1048576) (hby : Bytes8 w w.heap.size sa len) :
    Calls Tryd.prog 7 #[.slice sa len cap] w fun e w' => VecAndMore w e w' := by
  have HY : Hid (Bytes8 w w.heap.size sa len) := hby
  clear hby
  go_enter Tryd.func7, Tryd.ntmps7
  go_wp2_with fail
  have q1 := boxing w 25 0 none 0 0
  generalize w.alloc (.cells #[.int .i64 0, .slice none 0 0] 25) = v1 at *
  have X1 : Hid (Boxed v1 w.heap.size 25 0 none 0 0) := q1.2.1
  have z1 : v1.heap.size = w.heap.size + 1 := q1.2.2
  have B1 : Hid (Below w.heap.size w v1) := q1.1
  have HY1 : Hid (Bytes8 v1 v1.heap.size sa len) := by
    show Bytes8 v1 v1.heap.size sa len
    have h1 : Bytes8 v1 w.heap.size sa len := HY.out.kept (row := none) ⟨B1.out.os, B1.out.tape, B1.out.output, B1.out.size, fun k hk _ => B1.out.block k hk⟩ (fun k hk => by cases hk)
    rcases h1 with h | ⟨bb, off, zs, h1, h2, h3⟩
    · exact Or.inl h
    · exact Or.inr ⟨bb, off, zs, h1, by omega, h3⟩
  clear q1 HY
  refine (source_any v1 sa len cap hl HY1.out).mono ?_
  rintro e w2 ⟨rfl, hb2, hS2⟩
  have X2 : Hid (Boxed w2 w.heap.size 25 0 none 0 0) := X1.out.kept hb2 rfl
  have B2 : Hid (Below w.heap.size w w2) := B1.out.trans (hb2.mono (by omega))
  have S2 : Hid (Src w2 v1.heap.size sa len cap) := hS2
  clear hb2 hS2 X1 HY1 B1
  rw [z1]
  rw [z1] at S2
  have hs2 := S2.out.lt
  go_wp2_with fail
  refine (vec_any w2 (w.heap.size + 1) sa len cap S2.out).mono ?_
  rintro e w3 ⟨b, so, m, co, f, rfl, hb0, hb1, hm1, hF, hg, hS⟩
  have V3 : Hid (Vc w3 (w.heap.size + 2) b so m co f) := ⟨hb0, hb1, hm1, hF.low (by omega)⟩
  have X3 : Hid (Boxed w3 w.heap.size 25 0 none 0 0) := X2.out.grown hg (by omega)
  have B3 : Hid (Below w.heap.size w w3) := below_of_only B2.out (by omega) B2.out.size hg
  have S3 : Hid (Src w3 (w.heap.size + 1) sa len cap) := hS
  have hs3 := hS.lt
  clear hF hg hS X2 B2 S2
  unfold vecV
  go_wp2_with fail
  have q4 := boxing w3 25 b so m co
  generalize hv4 : w3.alloc (.cells #[.int .i64 b, .slice so m co] 25) = v4 at *
  obtain ⟨p, hp⟩ : ∃ p, p = w3.heap.size := ⟨_, rfl⟩
  rw [← hp]
  have P4 : Hid (Boxed v4 p 25 b so m co) := by rw [hp]; exact q4.2.1
  have X4 : Hid (Boxed v4 w.heap.size 25 0 none 0 0) := X3.out.kept q4.1 rfl
  have B4 : Hid (Below w.heap.size w v4) := B3.out.trans (q4.1.mono B3.out.size)
  have S4 : Hid (Src v4 (w.heap.size + 1) sa len cap) := S3.out.call q4.1
  have V4 : Hid (Vc v4 (w.heap.size + 2) b so m co f) := V3.out.kept (row := none) (grown_call (World.grownBy.refl _ _) q4.1) (fun k hk => by cases hk)
  have hwp : w.heap.size + 1 < p := by rw [hp]; exact hs3
  clear q4 hv4 X3 B3 S3 V3 hp hs3
  obtain ⟨ca0, ca1, ca2, ca3⟩ := P4.out.four
  obtain ⟨cb0, cb1, cb2, cb3⟩ := X4.out.four
  have lp := P4.out.lt
  have hw1 : IntKind.i64.wrap (b + 2) = b + 2 := by rw [IntKind.wrap_i64] <;> omega
  go_upto_region 3 with fail
  go_cut [3, 4] (fun v3 v4 wc => SetAt w v3 v4 wc)
  case first =>
    go_region_with (first
      | (go_at_call 45; refine (n_any _ (w.heap.size + 1) sa len cap (b + 2) (by omega) (by exact S4.out)).mono ?_; rintro e w5 ⟨⟨r, rfl, hr0, hr1, hr2⟩, hg, hS⟩; have hgw : v4.grownBy w5 (some (w.heap.size + 1)) := World.grownBy.trans (only_drawn (World.grownBy.refl _ _)) hg; have hr3 : r ≤ 1002 := few hb1 hr1 hr2; have hw2 : IntKind.i64.wrap (r - 1) = r - 1 := (by rw [IntKind.wrap_i64] <;> omega); have P5 : Hid (Boxed w5 p 25 b so m co) := P4.out.grown hgw (by omega); have X5 : Hid (Boxed w5 w.heap.size 25 0 none 0 0) := X4.out.grown hgw (by omega); have B5 : Hid (Below w.heap.size w w5) := below_of_only B4.out (by omega) B4.out.size hgw; have S5 : Hid (Src w5 (w.heap.size + 1) sa len cap) := hS; have V5 : Hid (Vc w5 (w.heap.size + 2) b so m co f) := V4.out.kept hgw (fun k hk => by cases hk; omega); obtain ⟨da0, da1, da2, da3⟩ := P5.out.four; have lpw := P5.out.lt; clear hg hgw hS hr1 hr2)
      | (go_at_call 46; refine (one_any _ (w.heap.size + 1) sa len cap 2 (by decide) (by exact S5.out)).mono ?_; rintro e w6 ⟨⟨on, rfl⟩, hg, hS⟩; have X6 : Hid (Boxed w6 w.heap.size 25 0 none 0 0) := X5.out.grown hg (by omega); have B6 : Hid (Below w.heap.size w w6) := below_of_only B5.out (by omega) B5.out.size hg; have V6 : Hid (Vc w6 (w.heap.size + 2) b so m co f) := V5.out.kept hg (fun k hk => by cases hk; omega); have P6 := P5.out.grown hg (by omega); obtain ⟨dd0, dd1, dd2, dd3⟩ := P6.four; have lpx := P6.lt; obtain ⟨de0, de1, de2, de3⟩ := X6.out.four; clear hg hS P6))
    all_goals
      go_wp2_with fail
      go_meet
      exact set_end _ _ (by omega) (by omega) (V6.out.low (by omega)) X6.out B6.out
  case rest =>
    obtain ⟨b', so', m', co', f', i, on, rfl, rfl, hi0, hi1, hV, hX, hB⟩ := hcut
    have VA : Hid (Vc wc (w.heap.size + 1) b' so' m' co' f') := hV
    have BW : Hid (Below w.heap.size w wc) := hB
    obtain ⟨da0, da1, da2, da3⟩ := hX.four
    clear hX hV hB
    go_wp2
    refine bodyPost_ret (v := .tuple #[vecV b' so' m' co', .int .i64 i, .bool on]) (by simp [results, Tryd.results7, go_sem, vecV, da0, da1]) rfl ?_
    exact ⟨_, _, _, _, _, _, _, rfl, hi0, hi1, VA.out.low (by omega), BW.out⟩

set_option maxHeartbeats 2000000 in
theorem drawVecNew_any (w : World) (sa : Option Addr) (len cap : Nat) (hl : len ≤ 1048576) (hby : Bytes8 w w.heap.size sa len) :
    Calls Tryd.prog 8 #[.slice sa len cap] w fun e w' => (∃ x : Int, e = .returned (.int .i64 x)) ∧ Below w.heap.size w w' := by
  have HY : Hid (Bytes8 w w.heap.size sa len) := hby
  clear hby
  go_enter Tryd.func8, Tryd.ntmps8
  go_wp2_with fail
  refine (source_any w sa len cap hl HY.out).mono ?_
  rintro e w1 ⟨rfl, hb1, hS1⟩
  have B1 : Hid (Below w.heap.size w w1) := hb1
  have S1 : Hid (Src w1 w.heap.size sa len cap) := hS1
  clear hb1 hS1 HY
  go_wp2_with fail
  refine (one_any w1 w.heap.size sa len cap 3 (by decide) S1.out).mono ?_
  rintro e w2 ⟨⟨x, rfl⟩, hg, hS⟩
  have B2 : Hid (Below w.heap.size w w2) := below_of_only B1.out (Nat.le_refl _) B1.out.size hg
  have S2 : Hid (Src w2 w.heap.size sa len cap) := hS
  clear hg hS B1 S1
  cases x
  · go_wp2_with fail
    refine (n_any w2 w.heap.size sa len cap 256 (by decide) S2.out).mono ?_
    rintro e w3 ⟨⟨r, rfl, hr0, hr1, _⟩, hg, hS⟩
    have B3 : Hid (Below w.heap.size w w3) := below_of_only B2.out (Nat.le_refl _) B2.out.size hg
    clear hr1 hg hS B2 S2
    go_wp2
    go_ret
    exact ⟨⟨_, rfl⟩, B3.out⟩
  · go_wp2_with fail
    refine (edge_any w2 w.heap.size sa len cap S2.out).mono ?_
    rintro e w3 ⟨⟨y, rfl, hy0, hy1⟩, hg, hS⟩
    have B3 : Hid (Below w.heap.size w w3) := below_of_only B2.out (Nat.le_refl _) B2.out.size hg
    have S3 : Hid (Src w3 w.heap.size sa len cap) := hS
    have hs3 := hS.lt
    clear hg hS B2 S2
    go_wp2_with fail
    refine (n_any _ w.heap.size sa len cap 7 (by decide) (S3.out.kept (World.grownBy_alloc w3 _ none) (fun k hk => by cases hk))).mono ?_
    rintro e w4 ⟨⟨r, rfl, hr0, hr1, _⟩, hg, hS⟩
    have hr2 : r < 7 := hr1 (by decide)
    obtain ⟨k, rfl⟩ := Int.eq_ofNat_of_zero_le hr0
    have hc : ∃ x : Int, w4.cell? ⟨w3.heap.size, k, none⟩ = some (.int .i64 x) := by
      have hgc := fun (v : Value) (h : _ = some v) => hg.cell (a := ⟨w3.heap.size, k, none⟩) (v := v) h (by simp; omega)
      rcases (show k = 0 ∨ k = 1 ∨ k = 2 ∨ k = 3 ∨ k = 4 ∨ k = 5 ∨ k = 6 from by omega) with rfl | rfl | rfl | rfl | rfl | rfl | rfl
      all_goals exact ⟨_, hgc _ (by rw [World.cell?_alloc_mark]; rfl)⟩
    obtain ⟨x, hc⟩ := hc
    have B4 : Hid (Below w.heap.size w w4) := below_of_only (B3.out.alloc B3.out.size _) (Nat.le_refl _) (by simp; have := B3.out.size; omega) hg
    clear hr1 hg hS B3 S3
    go_wp2
    go_ret
    exact ⟨⟨_, rfl⟩, B4.out⟩
end Go.Proofs.YthnnenbpbkmbhaaDoor
