/- What is proved here: l02Pair draws two vectors, of few words; DrawVecAnd and DrawVecSub hand two on; nothing that was there turns but the source's block. -/
import Derived.Test.YthnnenbpbkmbhaaDoorQDrawVecW
import Derived.Test.YthnnenbpbkmbhaaDoorQVecSpecWToWordsForW
namespace Go.Proofs.YthnnenbpbkmbhaaDoor
open Go.RowKit

/-- Some vector, its row in blocks from lo on. -/
structure Vc (W : World) (lo : Nat) (b : Int) (so : Option Addr) (m co : Nat) (f : Nat → Int) : Prop where
  b0 : -1000 ≤ b
  b1 : b ≤ 1000
  m1 : m ≤ 1000
  far : Far W lo so m f
theorem Vc.setLow {W : World} {lo m co : Nat} {b : Int} {so : Option Addr} {f : Nat → Int} (h : Vc W lo b so m co f) (p : Addr) (v : Value) (hp : p.block < lo) : Vc (W.setCell p v) lo b so m co f := ⟨h.b0, h.b1, h.m1, h.far.setLow p v hp⟩
theorem Vc.low {W : World} {lo lo' m co : Nat} {b : Int} {so : Option Addr} {f : Nat → Int} (h : Vc W lo b so m co f) (hl : lo' ≤ lo) : Vc W lo' b so m co f := ⟨h.b0, h.b1, h.m1, h.far.low hl⟩
theorem Vc.kept {W W' : World} {lo m co : Nat} {row : Option Nat} {b : Int} {so : Option Addr} {f : Nat → Int} (h : Vc W lo b so m co f) (hg : W.grownBy W' row) (hr : ∀ k, row = some k → k < lo) : Vc W' lo b so m co f := ⟨h.b0, h.b1, h.m1, h.far.kept hg hr⟩
theorem Vc.row {W : World} {lo m co : Nat} {b : Int} {so : Option Addr} {f : Nat → Int} (h : Vc W lo b so m co f) : Row W W.heap.size so m f := h.far.row
/-- Two vectors in their boxes. -/
def PairAt (w : World) (bs : Nat) (sa : Option Addr) (len cap : Nat) (W : World) : Prop :=
  ∃ (b : Int) (so : Option Addr) (m co : Nat) (f : Nat → Int) (b2 : Int) (so2 : Option Addr) (m2 co2 : Nat) (f2 : Nat → Int), Vc W (w.heap.size + 2) b so m co f ∧ Vc W (w.heap.size + 2) b2 so2 m2 co2 f2 ∧
    Boxed W w.heap.size 25 b so m co ∧ Boxed W (w.heap.size + 1) 25 b2 so2 m2 co2 ∧ w.grownBy W (some bs) ∧ Src W bs sa len cap
theorem box_store {W : World} {p : Nat} {b0 : Int} {s0 : Option Addr} {n0 c0 : Nat} (h : Boxed W p 25 b0 s0 n0 c0) (b : Int) (so : Option Addr) (m co : Nat) : Boxed ((W.setCell ⟨p, 0, none⟩ (.int .i64 b)).setCell ⟨p, 1, none⟩ (.slice so m co)) p 25 b so m co := by
  unfold Boxed at h ⊢
  have h1 := heap_setCell_same W p 0 _ _ (.int .i64 b) h
  have h2 := heap_setCell_same _ p 1 _ _ (.slice so m co) h1
  rw [h2]
  rfl
theorem pair_end {w W : World} {bs : Nat} {sa : Option Addr} {len cap : Nat} {b b2 : Int} {so so2 : Option Addr} {m m2 co co2 : Nat} {f f2 : Nat → Int} (hb : bs < w.heap.size) (h1 : Vc W (w.heap.size + 2) b so m co f) (h2 : Vc W (w.heap.size + 2) b2 so2 m2 co2 f2) (h3 : Boxed W w.heap.size 25 0 none 0 0) (h4 : Boxed W (w.heap.size + 1) 25 0 none 0 0) (h5 : w.grownBy W (some bs)) (h6 : Src W bs sa len cap) :
    PairAt w bs sa len cap ((((W.setCell ⟨w.heap.size, 0, none⟩ (.int .i64 b)).setCell ⟨w.heap.size, 1, none⟩ (.slice so m co)).setCell ⟨w.heap.size + 1, 0, none⟩ (.int .i64 b2)).setCell ⟨w.heap.size + 1, 1, none⟩ (.slice so2 m2 co2)) := by
  have hlt : ∀ p : Nat, p < w.heap.size + 2 → ∀ (X : World) (i : Nat) (v : Value) {b : Int} {so : Option Addr} {m co : Nat} {f : Nat → Int}, Vc X (w.heap.size + 2) b so m co f → Vc (X.setCell ⟨p, i, none⟩ v) (w.heap.size + 2) b so m co f := fun p hp X i v _ _ _ _ _ h => h.setLow _ _ hp
  refine ⟨b, so, m, co, f, b2, so2, m2, co2, f2, ?_, ?_, ?_, ?_, ?_, ?_⟩
  · exact hlt _ (by omega) _ _ _ (hlt _ (by omega) _ _ _ (hlt _ (by omega) _ _ _ (hlt _ (by omega) _ _ _ h1)))
  · exact hlt _ (by omega) _ _ _ (hlt _ (by omega) _ _ _ (hlt _ (by omega) _ _ _ (hlt _ (by omega) _ _ _ h2)))
  · exact ((box_store h3 b so m co).setOther _ _ (by show w.heap.size + 1 ≠ w.heap.size; omega)).setOther _ _ (by show w.heap.size + 1 ≠ w.heap.size; omega)
  · exact box_store ((h4.setOther _ _ (by show w.heap.size ≠ w.heap.size + 1; omega)).setOther _ _ (by show w.heap.size ≠ w.heap.size + 1; omega)) b2 so2 m2 co2
  · exact grown_setNew (grown_setNew (grown_setNew (grown_setNew h5 (by show w.heap.size ≤ w.heap.size; omega)) (by show w.heap.size ≤ w.heap.size; omega)) (by show w.heap.size ≤ w.heap.size + 1; omega)) (by show w.heap.size ≤ w.heap.size + 1; omega)
  · exact (((h6.setNew _ _ _ hb).setNew _ _ _ hb).setNew _ _ _ (by omega)).setNew _ _ _ (by omega)
/-- Two drawn vectors are handed back. -/
def SomePair (w : World) (bs : Nat) (sa : Option Addr) (len cap : Nat) (e : Ending) (w' : World) : Prop :=
  ∃ (b : Int) (so : Option Addr) (m co : Nat) (f : Nat → Int) (b2 : Int) (so2 : Option Addr) (m2 co2 : Nat) (f2 : Nat → Int), e = .returned (.tuple #[vecV b so m co, vecV b2 so2 m2 co2]) ∧ Vc w' w.heap.size b so m co f ∧ Vc w' w.heap.size b2 so2 m2 co2 f2 ∧ w.grownBy w' (some bs) ∧ Src w' bs sa len cap

/-- Two vectors come out of a draw. -/
def TwoVecs (w : World) (e : Ending) (w' : World) : Prop :=
  ∃ (b : Int) (so : Option Addr) (m co : Nat) (f : Nat → Int) (b2 : Int) (so2 : Option Addr) (m2 co2 : Nat) (f2 : Nat → Int), e = .returned (.tuple #[vecV b so m co, vecV b2 so2 m2 co2]) ∧ Vc w' w.heap.size b so m co f ∧ Vc w' w.heap.size b2 so2 m2 co2 f2 ∧ Below w.heap.size w w'
open Classical in
set_option maxRecDepth 100000 in
set_option maxHeartbeats 8000000 in
theorem pair_any (w : World) (bs : Nat) (sa : Option Addr) (len cap : Nat) (hs : Src w bs sa len cap) :
    Calls Tryd.prog 43 #[.pointer (some ⟨bs, 0, none⟩)] w fun e w' => SomePair w bs sa len cap e w' := by
  have HS : Hid (Src w bs sa len cap) := hs
  have hbs := hs.lt
  clear hs
  go_enter Tryd.func43, Tryd.ntmps43
  go_wp2_with fail
  generalize hv : (w.alloc (.cells #[.int .i64 0, .slice none 0 0] 25)).alloc (.cells #[.int .i64 0, .slice none 0 0] 25) = v1
  have q1 := boxing w 25 0 none 0 0
  have q2 := boxing (w.alloc (.cells #[.int .i64 0, .slice none 0 0] 25)) 25 0 none 0 0
  rw [hv] at q2
  have X1 : Hid (Boxed v1 w.heap.size 25 0 none 0 0) := q1.2.1.kept q2.1 rfl
  have Y1 : Hid (Boxed v1 (w.heap.size + 1) 25 0 none 0 0) := by have := q2.2.1; rw [q1.2.2] at this; exact this
  have z1 : v1.heap.size = w.heap.size + 2 := by rw [q2.2.2, q1.2.2]
  have G1 : Hid (w.grownBy v1 (some bs)) := grown_call (grown_call (World.grownBy.refl _ _) q1.1) q2.1
  have S1 : Hid (Src v1 bs sa len cap) := (HS.out.call q1.1).call q2.1
  clear q1 q2 hv HS
  refine (vec_any v1 bs sa len cap S1.out).mono ?_
  rintro e w2 ⟨b, so, m, co, f, rfl, hb0, hb1, hm1, hF, hg, hS⟩
  rw [z1] at hF
  have V2 : Hid (Vc w2 (w.heap.size + 2) b so m co f) := ⟨hb0, hb1, hm1, hF⟩
  have X2 : Hid (Boxed w2 w.heap.size 25 0 none 0 0) := X1.out.grown hg (by omega)
  have Y2 : Hid (Boxed w2 (w.heap.size + 1) 25 0 none 0 0) := Y1.out.grown hg (by omega)
  have G2 : Hid (w.grownBy w2 (some bs)) := G1.out.trans hg
  have S2 : Hid (Src w2 bs sa len cap) := hS
  clear hF hg hS X1 Y1 G1 S1 z1 v1
  unfold vecV
  go_wp2_with fail
  have q4 := boxing w2 25 b so m co
  generalize w2.alloc (.cells #[.int .i64 b, .slice so m co] 25) = v4 at *
  obtain ⟨p, hp⟩ : ∃ p, p = w2.heap.size := ⟨_, rfl⟩
  rw [← hp]
  have P4 : Hid (Boxed v4 p 25 b so m co) := by rw [hp]; exact q4.2.1
  have X4 : Hid (Boxed v4 w.heap.size 25 0 none 0 0) := X2.out.kept q4.1 rfl
  have Y4 : Hid (Boxed v4 (w.heap.size + 1) 25 0 none 0 0) := Y2.out.kept q4.1 rfl
  have G4 : Hid (w.grownBy v4 (some bs)) := grown_call G2.out q4.1
  have S4 : Hid (Src v4 bs sa len cap) := S2.out.call q4.1
  have V4 : Hid (Vc v4 (w.heap.size + 2) b so m co f) := V2.out.kept (row := none) (grown_call (World.grownBy.refl _ _) q4.1) (fun k hk => by cases hk)
  have hwp : w.heap.size + 1 < p := by rw [hp]; exact Y2.out.lt
  clear q4 X2 Y2 G2 S2 V2 hp w2
  have C1 := specRight_any b so m co f v4 (by omega) V4.out.row
  by_cases hR : Right b m f
  · rw [decide_eq_true hR] at C1
    have HR : Hid (Right b m f) := hR
    clear hR
    refine C1.mono ?_
    rintro e w5 ⟨rfl, hb5⟩
    have P5 : Hid (Boxed w5 p 25 b so m co) := P4.out.kept hb5 rfl
    have X5 : Hid (Boxed w5 w.heap.size 25 0 none 0 0) := X4.out.kept hb5 rfl
    have Y5 : Hid (Boxed w5 (w.heap.size + 1) 25 0 none 0 0) := Y4.out.kept hb5 rfl
    have G5 : Hid (w.grownBy w5 (some bs)) := grown_call G4.out hb5
    have S5 : Hid (Src w5 bs sa len cap) := S4.out.call hb5
    have V5 : Hid (Vc w5 (w.heap.size + 2) b so m co f) := V4.out.kept (row := none) (grown_call (World.grownBy.refl _ _) hb5) (fun k hk => by cases hk)
    clear hb5 P4 X4 Y4 G4 S4 V4 C1
    go_wp2_with fail
    refine (one_any w5 bs sa len cap 10 (by decide) S5.out).mono ?_
    rintro e w6 ⟨⟨c, rfl⟩, hg, hS⟩
    have P6 : Hid (Boxed w6 p 25 b so m co) := P5.out.grown hg (by omega)
    have X6 : Hid (Boxed w6 w.heap.size 25 0 none 0 0) := X5.out.grown hg (by omega)
    have Y6 : Hid (Boxed w6 (w.heap.size + 1) 25 0 none 0 0) := Y5.out.grown hg (by omega)
    have G6 : Hid (w.grownBy w6 (some bs)) := G5.out.trans hg
    have S6 : Hid (Src w6 bs sa len cap) := hS
    have V6 : Hid (Vc w6 (w.heap.size + 2) b so m co f) := V5.out.kept hg (fun k hk => by cases hk; omega)
    clear hg hS P5 X5 Y5 G5 S5 V5
    cases c
    · obtain ⟨ca0, ca1, ca2, ca3⟩ := P6.out.four
      obtain ⟨cb0, cb1, cb2, cb3⟩ := X6.out.four
      obtain ⟨cc0, cc1, cc2, cc3⟩ := Y6.out.four
      have lp := P6.out.lt
      go_upto_region 3 with fail
      go_cut [] (fun wc => PairAt w bs sa len cap wc)
      case first =>
        go_region_with (first | (go_at_call 86; refine (vecOf_any _ bs sa len cap b m (by exact S6.out) HR.out.1 HR.out.2.1 HR.out.2.2.1).mono ?_; rintro e w7 ⟨g2, co2, f2, rfl, hgl, ho, hrm, hco, hg, hS⟩; have W7 : Hid (Vc w7 (w.heap.size + 2) b (some ⟨g2, 0, none⟩) m co2 f2) := ⟨by have := HR.out.1; omega, by have := HR.out.2.1; omega, by have := HR.out.2.2.1; have := HR.out.2.1; omega, ho.far (Nat.le_trans (by have : p < w6.heap.size := P6.out.lt; show w.heap.size + 2 ≤ w6.heap.size; omega) hgl)⟩; clear ho hrm hgl; unfold vecV; have hgw : w6.grownBy w7 (some bs) := World.grownBy.trans (only_drawn (World.grownBy.refl _ _)) hg; have PW := P6.out.grown hgw (by omega); have XW := X6.out.grown hgw (by omega); have YW := Y6.out.grown hgw (by omega); have X7 : Hid (Boxed w7 w.heap.size 25 0 none 0 0) := XW; have Y7 : Hid (Boxed w7 (w.heap.size + 1) 25 0 none 0 0) := YW; have G7 : Hid (w.grownBy w7 (some bs)) := G6.out.trans hgw; have S7 : Hid (Src w7 bs sa len cap) := hS; have V7 : Hid (Vc w7 (w.heap.size + 2) b so m co f) := V6.out.kept hgw (fun k hk => by cases hk; omega); obtain ⟨da0, da1, da2, da3⟩ := PW.four; obtain ⟨db0, db1, db2, db3⟩ := XW.four; obtain ⟨dc0, dc1, dc2, dc3⟩ := YW.four; have lpw := PW.lt; clear hg hgw hS PW XW YW))
        all_goals
          go_wp2_with fail
          go_meet
          exact pair_end hbs V7.out W7.out X7.out Y7.out G7.out S7.out
      case rest =>
        obtain ⟨b', so', m', co', f', b2, so2, m2, co2, f2, hV1, hV2, hX, hY, hG, hSS⟩ := hcut
        have VA : Hid (Vc wc (w.heap.size + 2) b' so' m' co' f') := hV1
        have VB : Hid (Vc wc (w.heap.size + 2) b2 so2 m2 co2 f2) := hV2
        have GW : Hid (w.grownBy wc (some bs)) := hG
        have SW : Hid (Src wc bs sa len cap) := hSS
        obtain ⟨da0, da1, da2, da3⟩ := hX.four
        obtain ⟨db0, db1, db2, db3⟩ := hY.four
        clear hX hY hV1 hV2 hG hSS
        go_wp2
        refine bodyPost_ret (v := .tuple #[vecV b' so' m' co', vecV b2 so2 m2 co2]) (by simp [results, Tryd.results43, go_sem, vecV, da0, da1, db0, db1]) rfl ?_
        exact ⟨_, _, _, _, _, _, _, _, _, _, rfl, VA.out.low (by omega), VB.out.low (by omega), GW.out, SW.out⟩
    · obtain ⟨ca0, ca1, ca2, ca3⟩ := P6.out.four
      obtain ⟨cb0, cb1, cb2, cb3⟩ := X6.out.four
      obtain ⟨cc0, cc1, cc2, cc3⟩ := Y6.out.four
      have lp := P6.out.lt
      go_upto_region 4 with fail
      go_cut [] (fun wc => PairAt w bs sa len cap wc)
      case first =>
        go_region_with (first | (go_at_call 44; refine (vec_any _ bs sa len cap (by exact S6.out)).mono ?_; rintro e w7 ⟨b2, so2, m2, co2, f2, rfl, hc0, hc1, hc2, hF, hg, hS⟩; have W7 : Hid (Vc w7 (w.heap.size + 2) b2 so2 m2 co2 f2) := ⟨hc0, hc1, hc2, hF.low (by have : p < w6.heap.size := P6.out.lt; show w.heap.size + 2 ≤ w6.heap.size; omega)⟩; clear hF hc0 hc1 hc2; unfold vecV; have hgw : w6.grownBy w7 (some bs) := World.grownBy.trans (only_drawn (World.grownBy.refl _ _)) hg; have PW := P6.out.grown hgw (by omega); have XW := X6.out.grown hgw (by omega); have YW := Y6.out.grown hgw (by omega); have X7 : Hid (Boxed w7 w.heap.size 25 0 none 0 0) := XW; have Y7 : Hid (Boxed w7 (w.heap.size + 1) 25 0 none 0 0) := YW; have G7 : Hid (w.grownBy w7 (some bs)) := G6.out.trans hgw; have S7 : Hid (Src w7 bs sa len cap) := hS; have V7 : Hid (Vc w7 (w.heap.size + 2) b so m co f) := V6.out.kept hgw (fun k hk => by cases hk; omega); obtain ⟨da0, da1, da2, da3⟩ := PW.four; obtain ⟨db0, db1, db2, db3⟩ := XW.four; obtain ⟨dc0, dc1, dc2, dc3⟩ := YW.four; have lpw := PW.lt; clear hg hgw hS PW XW YW))
        all_goals
          go_wp2_with fail
          go_meet
          exact pair_end hbs V7.out W7.out X7.out Y7.out G7.out S7.out
      case rest =>
        obtain ⟨b', so', m', co', f', b2, so2, m2, co2, f2, hV1, hV2, hX, hY, hG, hSS⟩ := hcut
        have VA : Hid (Vc wc (w.heap.size + 2) b' so' m' co' f') := hV1
        have VB : Hid (Vc wc (w.heap.size + 2) b2 so2 m2 co2 f2) := hV2
        have GW : Hid (w.grownBy wc (some bs)) := hG
        have SW : Hid (Src wc bs sa len cap) := hSS
        obtain ⟨da0, da1, da2, da3⟩ := hX.four
        obtain ⟨db0, db1, db2, db3⟩ := hY.four
        clear hX hY hV1 hV2 hG hSS
        go_wp2
        refine bodyPost_ret (v := .tuple #[vecV b' so' m' co', vecV b2 so2 m2 co2]) (by simp [results, Tryd.results43, go_sem, vecV, da0, da1, db0, db1]) rfl ?_
        exact ⟨_, _, _, _, _, _, _, _, _, _, rfl, VA.out.low (by omega), VB.out.low (by omega), GW.out, SW.out⟩
  · rw [decide_eq_false hR] at C1
    clear hR
    refine C1.mono ?_
    rintro e w5 ⟨rfl, hb5⟩
    have P5 : Hid (Boxed w5 p 25 b so m co) := P4.out.kept hb5 rfl
    have X5 : Hid (Boxed w5 w.heap.size 25 0 none 0 0) := X4.out.kept hb5 rfl
    have Y5 : Hid (Boxed w5 (w.heap.size + 1) 25 0 none 0 0) := Y4.out.kept hb5 rfl
    have G5 : Hid (w.grownBy w5 (some bs)) := grown_call G4.out hb5
    have S5 : Hid (Src w5 bs sa len cap) := S4.out.call hb5
    have V5 : Hid (Vc w5 (w.heap.size + 2) b so m co f) := V4.out.kept (row := none) (grown_call (World.grownBy.refl _ _) hb5) (fun k hk => by cases hk)
    clear hb5 P4 X4 Y4 G4 S4 V4 C1
    obtain ⟨ca0, ca1, ca2, ca3⟩ := P5.out.four
    obtain ⟨cb0, cb1, cb2, cb3⟩ := X5.out.four
    obtain ⟨cc0, cc1, cc2, cc3⟩ := Y5.out.four
    have lp := P5.out.lt
    go_upto_region 4 with fail
    go_cut [] (fun wc => PairAt w bs sa len cap wc)
    case first =>
      go_region_with (first | (go_at_call 44; refine (vec_any _ bs sa len cap (by exact S5.out)).mono ?_; rintro e w7 ⟨b2, so2, m2, co2, f2, rfl, hc0, hc1, hc2, hF, hg, hS⟩; have W7 : Hid (Vc w7 (w.heap.size + 2) b2 so2 m2 co2 f2) := ⟨hc0, hc1, hc2, hF.low (by have : p < w5.heap.size := P5.out.lt; show w.heap.size + 2 ≤ w5.heap.size; omega)⟩; clear hF hc0 hc1 hc2; unfold vecV; have hgw : w5.grownBy w7 (some bs) := World.grownBy.trans (only_drawn (World.grownBy.refl _ _)) hg; have PW := P5.out.grown hgw (by omega); have XW := X5.out.grown hgw (by omega); have YW := Y5.out.grown hgw (by omega); have X7 : Hid (Boxed w7 w.heap.size 25 0 none 0 0) := XW; have Y7 : Hid (Boxed w7 (w.heap.size + 1) 25 0 none 0 0) := YW; have G7 : Hid (w.grownBy w7 (some bs)) := G5.out.trans hgw; have S7 : Hid (Src w7 bs sa len cap) := hS; have V7 : Hid (Vc w7 (w.heap.size + 2) b so m co f) := V5.out.kept hgw (fun k hk => by cases hk; omega); obtain ⟨da0, da1, da2, da3⟩ := PW.four; obtain ⟨db0, db1, db2, db3⟩ := XW.four; obtain ⟨dc0, dc1, dc2, dc3⟩ := YW.four; have lpw := PW.lt; clear hg hgw hS PW XW YW))
      all_goals
        go_wp2_with fail
        go_meet
        exact pair_end hbs V7.out W7.out X7.out Y7.out G7.out S7.out
    case rest =>
      obtain ⟨b', so', m', co', f', b2, so2, m2, co2, f2, hV1, hV2, hX, hY, hG, hSS⟩ := hcut
      have VA : Hid (Vc wc (w.heap.size + 2) b' so' m' co' f') := hV1
      have VB : Hid (Vc wc (w.heap.size + 2) b2 so2 m2 co2 f2) := hV2
      have GW : Hid (w.grownBy wc (some bs)) := hG
      have SW : Hid (Src wc bs sa len cap) := hSS
      obtain ⟨da0, da1, da2, da3⟩ := hX.four
      obtain ⟨db0, db1, db2, db3⟩ := hY.four
      clear hX hY hV1 hV2 hG hSS
      go_wp2
      refine bodyPost_ret (v := .tuple #[vecV b' so' m' co', vecV b2 so2 m2 co2]) (by simp [results, Tryd.results43, go_sem, vecV, da0, da1, db0, db1]) rfl ?_
      exact ⟨_, _, _, _, _, _, _, _, _, _, rfl, VA.out.low (by omega), VB.out.low (by omega), GW.out, SW.out⟩

set_option maxHeartbeats 2000000 in
theorem drawVecAnd_any (w : World) (sa : Option Addr) (len cap : Nat) (hl : len ≤ 1048576) (hby : Bytes8 w w.heap.size sa len) :
    Calls Tryd.prog 5 #[.slice sa len cap] w fun e w' => TwoVecs w e w' := by
  have HY : Hid (Bytes8 w w.heap.size sa len) := hby
  clear hby
  go_enter Tryd.func5, Tryd.ntmps5
  go_wp2_with fail
  generalize hv : (w.alloc (.cells #[.int .i64 0, .slice none 0 0] 25)).alloc (.cells #[.int .i64 0, .slice none 0 0] 25) = v1
  have q1 := boxing w 25 0 none 0 0
  have q2 := boxing (w.alloc (.cells #[.int .i64 0, .slice none 0 0] 25)) 25 0 none 0 0
  rw [hv] at q2
  have X1 : Hid (Boxed v1 w.heap.size 25 0 none 0 0) := q1.2.1.kept q2.1 rfl
  have Y1 : Hid (Boxed v1 (w.heap.size + 1) 25 0 none 0 0) := by have := q2.2.1; rw [q1.2.2] at this; exact this
  have z1 : v1.heap.size = w.heap.size + 2 := by rw [q2.2.2, q1.2.2]
  have B1 : Hid (Below w.heap.size w v1) := q1.1.trans (q2.1.mono (by rw [q1.2.2]; omega))
  have HY1 : Hid (Bytes8 v1 v1.heap.size sa len) := by
    show Bytes8 v1 v1.heap.size sa len
    have h1 : Bytes8 v1 w.heap.size sa len := HY.out.kept (row := none) ⟨B1.out.os, B1.out.tape, B1.out.output, B1.out.size, fun k hk _ => B1.out.block k hk⟩ (fun k hk => by cases hk)
    rcases h1 with h | ⟨bb, off, zs, h1, h2, h3⟩
    · exact Or.inl h
    · exact Or.inr ⟨bb, off, zs, h1, by omega, h3⟩
  clear q1 q2 hv HY
  refine (source_any v1 sa len cap hl HY1.out).mono ?_
  rintro e w2 ⟨rfl, hb2, hS2⟩
  have X2 : Hid (Boxed w2 w.heap.size 25 0 none 0 0) := X1.out.kept hb2 rfl
  have Y2 : Hid (Boxed w2 (w.heap.size + 1) 25 0 none 0 0) := Y1.out.kept hb2 rfl
  have B2 : Hid (Below w.heap.size w w2) := B1.out.trans (hb2.mono (by omega))
  have S2 : Hid (Src w2 v1.heap.size sa len cap) := hS2
  have hs2 := hS2.lt
  clear hb2 hS2 X1 Y1 HY1 B1
  rw [z1]
  rw [z1] at S2 hs2
  go_wp2_with fail
  refine (pair_any w2 (w.heap.size + 2) sa len cap S2.out).mono ?_
  rintro e w3 ⟨b, so, m, co, f, b2, so2, m2, co2, f2, rfl, hV1, hV2, hg, hS⟩
  have X3 := X2.out.grown hg (by omega)
  have Y3 := Y2.out.grown hg (by omega)
  obtain ⟨da0, da1, da2, da3⟩ := X3.four
  obtain ⟨db0, db1, db2, db3⟩ := Y3.four
  have B3 : Hid (Below w.heap.size w w3) := below_of_only B2.out (by omega) B2.out.size hg
  have V1 : Hid (Vc w3 (w.heap.size + 2) b so m co f) := hV1.low (by omega)
  have V2 : Hid (Vc w3 (w.heap.size + 2) b2 so2 m2 co2 f2) := hV2.low (by omega)
  clear hg hS hV1 hV2 X3 Y3 X2 Y2 B2 S2
  unfold vecV
  go_wp2
  refine bodyPost_ret (v := .tuple #[vecV b so m co, vecV b2 so2 m2 co2]) (by simp [results, Tryd.results5, go_sem, vecV, da0, da1, db0, db1]) rfl ?_
  refine ⟨b, so, m, co, f, b2, so2, m2, co2, f2, rfl, ?_, ?_, ?_⟩
  · exact ((((V1.out.setLow _ _ (by show w.heap.size < w.heap.size + 2; omega)).setLow _ _ (by show w.heap.size < w.heap.size + 2; omega)).setLow _ _ (by show w.heap.size + 1 < w.heap.size + 2; omega)).setLow _ _ (by show w.heap.size + 1 < w.heap.size + 2; omega)).low (by omega)
  · exact ((((V2.out.setLow _ _ (by show w.heap.size < w.heap.size + 2; omega)).setLow _ _ (by show w.heap.size < w.heap.size + 2; omega)).setLow _ _ (by show w.heap.size + 1 < w.heap.size + 2; omega)).setLow _ _ (by show w.heap.size + 1 < w.heap.size + 2; omega)).low (by omega)
  · exact (((B3.out.setCell (by show w.heap.size ≤ w.heap.size; omega) _).setCell (by show w.heap.size ≤ w.heap.size; omega) _).setCell (by show w.heap.size ≤ w.heap.size + 1; omega) _).setCell (by show w.heap.size ≤ w.heap.size + 1; omega) _
set_option maxHeartbeats 2000000 in
theorem drawVecSub_any (w : World) (sa : Option Addr) (len cap : Nat) (hl : len ≤ 1048576) (hby : Bytes8 w w.heap.size sa len) :
    Calls Tryd.prog 6 #[.slice sa len cap] w fun e w' => TwoVecs w e w' := by
  have HY : Hid (Bytes8 w w.heap.size sa len) := hby
  clear hby
  go_enter Tryd.func6, Tryd.ntmps6
  go_wp2_with fail
  generalize hv : (w.alloc (.cells #[.int .i64 0, .slice none 0 0] 25)).alloc (.cells #[.int .i64 0, .slice none 0 0] 25) = v1
  have q1 := boxing w 25 0 none 0 0
  have q2 := boxing (w.alloc (.cells #[.int .i64 0, .slice none 0 0] 25)) 25 0 none 0 0
  rw [hv] at q2
  have X1 : Hid (Boxed v1 w.heap.size 25 0 none 0 0) := q1.2.1.kept q2.1 rfl
  have Y1 : Hid (Boxed v1 (w.heap.size + 1) 25 0 none 0 0) := by have := q2.2.1; rw [q1.2.2] at this; exact this
  have z1 : v1.heap.size = w.heap.size + 2 := by rw [q2.2.2, q1.2.2]
  have B1 : Hid (Below w.heap.size w v1) := q1.1.trans (q2.1.mono (by rw [q1.2.2]; omega))
  have HY1 : Hid (Bytes8 v1 v1.heap.size sa len) := by
    show Bytes8 v1 v1.heap.size sa len
    have h1 : Bytes8 v1 w.heap.size sa len := HY.out.kept (row := none) ⟨B1.out.os, B1.out.tape, B1.out.output, B1.out.size, fun k hk _ => B1.out.block k hk⟩ (fun k hk => by cases hk)
    rcases h1 with h | ⟨bb, off, zs, h1, h2, h3⟩
    · exact Or.inl h
    · exact Or.inr ⟨bb, off, zs, h1, by omega, h3⟩
  clear q1 q2 hv HY
  refine (source_any v1 sa len cap hl HY1.out).mono ?_
  rintro e w2 ⟨rfl, hb2, hS2⟩
  have X2 : Hid (Boxed w2 w.heap.size 25 0 none 0 0) := X1.out.kept hb2 rfl
  have Y2 : Hid (Boxed w2 (w.heap.size + 1) 25 0 none 0 0) := Y1.out.kept hb2 rfl
  have B2 : Hid (Below w.heap.size w w2) := B1.out.trans (hb2.mono (by omega))
  have S2 : Hid (Src w2 v1.heap.size sa len cap) := hS2
  have hs2 := hS2.lt
  clear hb2 hS2 X1 Y1 HY1 B1
  rw [z1]
  rw [z1] at S2 hs2
  go_wp2_with fail
  refine (pair_any w2 (w.heap.size + 2) sa len cap S2.out).mono ?_
  rintro e w3 ⟨b, so, m, co, f, b2, so2, m2, co2, f2, rfl, hV1, hV2, hg, hS⟩
  have X3 := X2.out.grown hg (by omega)
  have Y3 := Y2.out.grown hg (by omega)
  obtain ⟨da0, da1, da2, da3⟩ := X3.four
  obtain ⟨db0, db1, db2, db3⟩ := Y3.four
  have B3 : Hid (Below w.heap.size w w3) := below_of_only B2.out (by omega) B2.out.size hg
  have V1 : Hid (Vc w3 (w.heap.size + 2) b so m co f) := hV1.low (by omega)
  have V2 : Hid (Vc w3 (w.heap.size + 2) b2 so2 m2 co2 f2) := hV2.low (by omega)
  clear hg hS hV1 hV2 X3 Y3 X2 Y2 B2 S2
  unfold vecV
  go_wp2
  refine bodyPost_ret (v := .tuple #[vecV b so m co, vecV b2 so2 m2 co2]) (by simp [results, Tryd.results6, go_sem, vecV, da0, da1, db0, db1]) rfl ?_
  refine ⟨b, so, m, co, f, b2, so2, m2, co2, f2, rfl, ?_, ?_, ?_⟩
  · exact ((((V1.out.setLow _ _ (by show w.heap.size < w.heap.size + 2; omega)).setLow _ _ (by show w.heap.size < w.heap.size + 2; omega)).setLow _ _ (by show w.heap.size + 1 < w.heap.size + 2; omega)).setLow _ _ (by show w.heap.size + 1 < w.heap.size + 2; omega)).low (by omega)
  · exact ((((V2.out.setLow _ _ (by show w.heap.size < w.heap.size + 2; omega)).setLow _ _ (by show w.heap.size < w.heap.size + 2; omega)).setLow _ _ (by show w.heap.size + 1 < w.heap.size + 2; omega)).setLow _ _ (by show w.heap.size + 1 < w.heap.size + 2; omega)).low (by omega)
  · exact (((B3.out.setCell (by show w.heap.size ≤ w.heap.size; omega) _).setCell (by show w.heap.size ≤ w.heap.size; omega) _).setCell (by show w.heap.size ≤ w.heap.size + 1; omega) _).setCell (by show w.heap.size ≤ w.heap.size + 1; omega) _
end Go.Proofs.YthnnenbpbkmbhaaDoor
