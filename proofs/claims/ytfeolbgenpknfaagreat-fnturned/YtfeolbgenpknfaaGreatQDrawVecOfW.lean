/- What is proved here: l02VecOf draws some vector of so many bits, in new memory; the source's block alone turns. -/
import Derived.Test.YtfeolbgenpknfaaGreatQBytesRowWToBoolRowsW
import Derived.Test.YtfeolbgenpknfaaGreatQSpecKVecWToWordsForW
import Derived.Test.YtfeolbgenpknfaaGreatQGetBWToClassRightW
import Derived.Test.YtfeolbgenpknfaaGreatQVecCapW
import Derived.Deep.RegionWith
namespace Go.Proofs.YtfeolbgenpknfaaGreat
open Go.RowKit

/-- A new block turned besides. -/
theorem grown_new {w W W' : World} {row : Option Nat} {g : Nat} (h : w.grownBy W row) (hg : W.grownBy W' (some g)) (hn : w.heap.size ≤ g) : w.grownBy W' row :=
  ⟨by rw [hg.os]; exact h.os, by rw [hg.tape]; exact h.tape, by rw [hg.output]; exact h.output, Nat.le_trans h.size hg.size, fun k hk hr => by rw [hg.block k (Nat.lt_of_lt_of_le hk h.size) (fun e => by injection e with e; omega)]; exact h.block k hk hr⟩
theorem grown_call {w W W' : World} {row : Option Nat} (h : w.grownBy W row) (hb : Below W.heap.size W W') : w.grownBy W' row :=
  ⟨by rw [hb.os]; exact h.os, by rw [hb.tape]; exact h.tape, by rw [hb.output]; exact h.output, Nat.le_trans h.size hb.size, fun k hk hr => by rw [hb.block k (Nat.lt_of_lt_of_le hk h.size)]; exact h.block k hk hr⟩
theorem Src.call {w w' : World} {b : Nat} {sa : Option Addr} {len cap : Nat} (h : Src w b sa len cap) (hb : Below w.heap.size w w') : Src w' b sa len cap :=
  h.kept (row := none) (grown_call (World.grownBy.refl _ _) hb) (fun k hk => by cases hk)
theorem Boxed.grown {W W' : World} {p b : Nat} {t : TypeId} {c : Int} {sa : Option Addr} {n cap : Nat} (h : Boxed W p t c sa n cap) (hg : W.grownBy W' (some b)) (hne : p ≠ b) : Boxed W' p t c sa n cap := by
  unfold Boxed
  rw [hg.block p h.lt (fun e => hne (by injection e))]
  exact h
/-- A drawn vector. -/
def Drawn (w : World) (bs : Nat) (sa : Option Addr) (len cap : Nat) (b : Int) (m : Nat) (e : Ending) (w' : World) : Prop :=
  ∃ (g co : Nat) (f : Nat → Int), e = .returned (vecV b (some ⟨g, 0, none⟩) m co) ∧ w.heap.size ≤ g ∧ Own w' g m f ∧ Room w' g co ∧ m ≤ co ∧ w.grownBy w' (some bs) ∧ Src w' bs sa len cap

set_option maxRecDepth 100000 in
set_option maxHeartbeats 8000000 in
theorem vecOf_any (w : World) (bs : Nat) (sa : Option Addr) (len cap : Nat) (b : Int) (m : Nat) (hs : Src w bs sa len cap) (h0 : 1 ≤ b) (h1 : b ≤ 320) (hm : (m : Int) = (b + 31) / 32) :
    Calls Tryz.prog 41 #[.pointer (some ⟨bs, 0, none⟩), .int .i64 b] w fun e w' => Drawn w bs sa len cap b m e w' := by
  have HM : Hid ((m : Int) = (b + 31) / 32) := hm
  have HS : Hid (Src w bs sa len cap) := hs
  have hbs := hs.lt
  have hm0 : 0 < m := by omega
  have hm1 : m ≤ 10 := by omega
  clear hm hs
  go_enter Tryz.func41, Tryz.ntmps41
  go_wp2_with fail
  have q1 := boxing w 29 0 none 0 0
  generalize w.alloc (.cells #[.int .i64 0, .slice none 0 0] 29) = v1 at *
  have X1 : Hid (Boxed v1 w.heap.size 29 0 none 0 0) := q1.2.1
  have G1 : Hid (w.grownBy v1 (some bs)) := grown_call (World.grownBy.refl _ _) q1.1
  have S1 : Hid (Src v1 bs sa len cap) := HS.out.call q1.1
  have z1 : v1.heap.size = w.heap.size + 1 := q1.2.2
  clear q1
  refine (l02New_cap b m v1 h0 h1 HM.out).mono ?_
  rintro e w2 ⟨g2, c2, rfl, hb2, hg1, ho, hrm, hc2⟩
  have R2 : Hid (Room w2 g2 c2) := hrm
  have hg2 := ho.1
  have X2 : Hid (Boxed w2 w.heap.size 29 0 none 0 0) := X1.out.kept hb2 rfl
  have G2 : Hid (w.grownBy w2 (some bs)) := grown_call G1.out hb2
  have S2 : Hid (Src w2 bs sa len cap) := S1.out.call hb2
  have O2 : Hid (Own w2 g2 m (fun _ => 0)) := ho
  have hgl : w.heap.size + 1 ≤ g2 := by omega
  unfold vecV
  clear hb2 hrm ho X1 G1 S1 z1 hg1
  go_wp2_with fail
  have q3 := boxing w2 29 b (some ⟨g2, 0, none⟩) m c2
  generalize w2.alloc (.cells #[.int .i64 b, .slice (some ⟨g2, 0, none⟩) m c2] 29) = v3 at *
  obtain ⟨p3, hp3⟩ : ∃ p, p = w2.heap.size := ⟨_, rfl⟩
  rw [← hp3]
  have P3 : Hid (Boxed v3 p3 29 b (some ⟨g2, 0, none⟩) m c2) := by rw [hp3]; exact q3.2.1
  have X3 : Hid (Boxed v3 w.heap.size 29 0 none 0 0) := X2.out.kept q3.1 rfl
  have G3 : Hid (w.grownBy v3 (some bs)) := grown_call G2.out q3.1
  have S3 : Hid (Src v3 bs sa len cap) := S2.out.call q3.1
  have O3 : Hid (Own v3 g2 m (fun _ => 0)) := O2.out.kept q3.1 hg2
  have R3 : Hid (Room v3 g2 c2) := R2.out.kept q3.1 hg2
  have hgp : g2 < p3 := by omega
  clear q3 X2 G2 S2 O2 R2 hg2 hp3
  refine (n_any v3 bs sa len cap 6 (by decide) S3.out).mono ?_
  rintro e w4 ⟨⟨r, rfl, hr0, hr1, _⟩, hg, hS⟩
  have hr2 : r < 6 := hr1 (by decide)
  have P4 : Hid (Boxed w4 p3 29 b (some ⟨g2, 0, none⟩) m c2) := P3.out.grown hg (by omega)
  have X4 : Hid (Boxed w4 w.heap.size 29 0 none 0 0) := X3.out.grown hg (by omega)
  have G4 : Hid (w.grownBy w4 (some bs)) := G3.out.trans hg
  have S4 : Hid (Src w4 bs sa len cap) := hS
  have O4 : Hid (Own w4 g2 m (fun _ => 0)) := O3.out.only hg (by omega)
  have R4 : Hid (Room w4 g2 c2) := R3.out.only hg (fun e => by injection e with e; omega)
  clear hg hS hr1 P3 X3 G3 S3 O3 R3
  obtain ⟨ca0, ca1⟩ := P4.out.cells
  obtain ⟨cb0, cb1, cb2, cb3⟩ := X4.out.four
  have l4 := X4.out.lt
  by_cases e0 : r = 0
  · subst e0
    go_wp2
    refine bodyPost_ret (v := vecV b (some ⟨g2, 0, none⟩) m c2) (by simp [results, Tryz.results41, go_sem, vecV, cb0, cb1]) rfl ?_
    exact ⟨_, _, _, rfl, by omega, (O4.out.setOther _ _ (by show w.heap.size ≠ g2; omega)).setOther _ _ (by show w.heap.size ≠ g2; omega), (R4.out.setOther _ _ (by show w.heap.size ≠ g2; omega)).setOther _ _ (by show w.heap.size ≠ g2; omega), hc2, grown_setNew (grown_setNew G4.out (by show w.heap.size ≤ w.heap.size; omega)) (by show w.heap.size ≤ w.heap.size; omega), (S4.out.kept (row := some w.heap.size) ((only_set (World.grownBy.refl _ _))) (fun k hk => by cases hk; omega)).kept (row := some w.heap.size) (only_set (World.grownBy.refl _ _)) (fun k hk => by cases hk; omega)⟩
  · by_cases e1 : r = 1
    · subst e1
      go_wp2_with fail
      refine (not_cap b (some ⟨g2, 0, none⟩) m c2 (fun _ => 0) w4 h0 h1 (fun i _ => by omega) hm0 (by omega) (O4.out.row O4.out.1)).mono ?_
      clear ca0 ca1 cb0 cb1 cb2 cb3 l4
      rintro e w5 ⟨g5, c5, rfl, hb5, hg5, ho, hrm, hc5⟩
      have R5 : Hid (Room w5 g5 c5) := hrm
      have X5 := X4.out.kept hb5 rfl
      obtain ⟨cb0, cb1, cb2, cb3⟩ := X5.four
      have l5 := X5.lt
      have G5 : Hid (w.grownBy w5 (some bs)) := grown_call G4.out hb5
      have S5 : Hid (Src w5 bs sa len cap) := S4.out.call hb5
      have O5 : Hid (Own w5 g5 m (cutF b m (notF (fun _ => 0)))) := ho
      have hg6 : w.heap.size < g5 := by have := X4.out.lt; omega
      unfold vecV
      clear hb5 hrm ho X5
      go_wp2
      refine bodyPost_ret (v := vecV b (some ⟨g5, 0, none⟩) m c5) (by simp [results, Tryz.results41, go_sem, vecV, cb0, cb1]) rfl ?_
      exact ⟨_, _, _, rfl, by omega, (O5.out.setOther _ _ (by show w.heap.size ≠ g5; omega)).setOther _ _ (by show w.heap.size ≠ g5; omega), (R5.out.setOther _ _ (by show w.heap.size ≠ g5; omega)).setOther _ _ (by show w.heap.size ≠ g5; omega), hc5, grown_setNew (grown_setNew G5.out (by show w.heap.size ≤ w.heap.size; omega)) (by show w.heap.size ≤ w.heap.size; omega), (S5.out.kept (row := some w.heap.size) ((only_set (World.grownBy.refl _ _))) (fun k hk => by cases hk; omega)).kept (row := some w.heap.size) (only_set (World.grownBy.refl _ _)) (fun k hk => by cases hk; omega)⟩
    · go_wp2
      clear ca0 ca1 cb0 cb1 cb2 cb3 l4
      have b0 : (r == 0) = false := by simpa using e0
      have b1 : (r == 1) = false := by simpa using e1
      rw [b0, b1]
      clear b0 b1
      go_loopw [6] (fun i wr => ∃ (k : Nat) (f : Nat → Int), k ≤ m ∧ i = .int .i64 (k : Int) ∧ w.grownBy wr (some bs) ∧ Src wr bs sa len cap ∧ Boxed wr w.heap.size 29 0 none 0 0 ∧ Boxed wr p3 29 b (some ⟨g2, 0, none⟩) m c2 ∧ Own wr g2 m f ∧ Room wr g2 c2 ∧ ∀ i, i < m → 0 ≤ f i) (fun i _ => m - (intOf i).toNat)
      case atStart => exact ⟨0, _, Nat.zero_le _, rfl, G4.out, S4.out, X4.out, P4.out, O4.out, R4.out, fun _ _ => by omega⟩
      case round =>
        obtain ⟨k, f, hk, rfl, hG, hS, hx, hp, hown, hrm, hf⟩ := hrel
        have RR : Hid (Room wr g2 c2) := hrm
        have GG : Hid (w.grownBy wr (some bs)) := hG
        have SS : Hid (Src wr bs sa len cap) := hS
        have XX : Hid (Boxed wr w.heap.size 29 0 none 0 0) := hx
        have PP : Hid (Boxed wr p3 29 b (some ⟨g2, 0, none⟩) m c2) := hp
        have OO : Hid (Own wr g2 m f) := hown
        have FF : Hid (∀ i, i < m → 0 ≤ f i) := hf
        obtain ⟨ca0, ca1⟩ := hp.cells
        have lp := hp.lt
        by_cases hkm : k < m
        · have hki : (k : Int) < (m : Int) := by omega
          have hk0 : (0 : Int) ≤ (k : Int) := by omega
          have cy := hown.2.1 k hkm
          have cf := hown.2.2 k hkm
          have lg := hown.1
          clear hG hS hx hp hown hf hrm
          have SRCD : Hid (Src wr.drew bs sa len cap) := SS.out
          go_wp2
          go_region_with (first
            | (go_at_call 37; refine (n_any _ bs sa len cap 256 (by decide) (by first | exact SS.out | exact SRCD.out | assumption)).mono ?_; rintro e w' ⟨⟨r', rfl, hr0', hr1', _⟩, hg, hS'⟩; have hr2' := hr1' (by decide); have hgw : wr.grownBy w' (some bs) := (by first | exact World.grownBy.trans (only_drawn (World.grownBy.refl _ _)) hg | exact World.grownBy.trans (by assumption) hg); have PW := PP.out.grown hgw (by omega); have OW := OO.out.only hgw (by omega); obtain ⟨ca0, ca1⟩ := PW.cells; have lp := PW.lt; have cy := OW.2.1 k hkm; have cf := OW.2.2 k hkm; have lg := OW.1; clear hg hr1' PW OW))
          all_goals
            go_wp2
            go_roundw
            case rel =>
              exact ⟨k + 1, _, by omega, by go_num, grown_setNew (GG.out.trans hgw) (by show w.heap.size ≤ g2; omega), hS'.kept (row := some g2) (only_set (World.grownBy.refl _ _)) (fun k hk => by cases hk; omega), (XX.out.grown hgw (by omega)).setOther _ _ (by show g2 ≠ w.heap.size; omega), (PP.out.grown hgw (by omega)).setOther _ _ (by show g2 ≠ p3; omega), (OO.out.only hgw (by omega)).set hkm _, (RR.out.only hgw (fun e => by injection e with e; omega)).set _, fun i hi => by
                by_cases e : i = k
                · simp only [e, if_true]
                  omega
                · simp only [e, if_false]
                  exact FF.out i hi⟩
            case measure => simp [intOf]; omega
        · have hki : ¬ (k : Int) < (m : Int) := by omega
          clear hG hS hx hp hown hf hrm
          go_wp2_with fail
          refine (cut_cap b g2 m c2 f wr h0 h1 hm0 (by omega) OO.out RR.out FF.out).mono ?_
          clear ca0 ca1
          rintro e w6 ⟨rfl, hgr, ho6, hr6⟩
          have R6 : Hid (Room w6 g2 c2) := hr6
          have X6 := XX.out.grown hgr (by omega)
          obtain ⟨cb0, cb1, cb2, cb3⟩ := X6.four
          have l6 := X6.lt
          have G6 : Hid (w.grownBy w6 (some bs)) := grown_new GG.out hgr (by omega)
          have S6 : Hid (Src w6 bs sa len cap) := SS.out.kept hgr (fun k hk => by cases hk; omega)
          have O6 : Hid (Own w6 g2 m (cutF b m f)) := ho6
          unfold vecV
          clear hgr ho6 hr6 X6
          go_wp2
          refine bodyPost_ret (v := vecV b (some ⟨g2, 0, none⟩) m c2) (by simp [results, Tryz.results41, go_sem, vecV, cb0, cb1]) rfl ?_
          exact ⟨_, _, _, rfl, by omega, (O6.out.setOther _ _ (by show w.heap.size ≠ g2; omega)).setOther _ _ (by show w.heap.size ≠ g2; omega), (R6.out.setOther _ _ (by show w.heap.size ≠ g2; omega)).setOther _ _ (by show w.heap.size ≠ g2; omega), hc2, grown_setNew (grown_setNew G6.out (by show w.heap.size ≤ w.heap.size; omega)) (by show w.heap.size ≤ w.heap.size; omega), (S6.out.kept (row := some w.heap.size) ((only_set (World.grownBy.refl _ _))) (fun k hk => by cases hk; omega)).kept (row := some w.heap.size) (only_set (World.grownBy.refl _ _)) (fun k hk => by cases hk; omega)⟩
end Go.Proofs.YtfeolbgenpknfaaGreat
