/- What is proved here: texts that are picked, and classes that are drawn, are texts of at most 256 bytes, and nothing turns but the source's own block. -/
import Derived.Test.YtfeolbgenpknfaaQDrawBytesWToBoolRowsW
import Derived.Test.YtfeolbgenpknfaaQClassRowWToSpecCSpanW
import Derived.Test.YtfeolbgenpknfaaQClassRightWToClassAlg
namespace Go.Proofs.Ytfeolbgenpknfaa
open Go.RowKit

theorem only_of_below {w w' : World} {b : Nat} (h : Below w.heap.size w w') : w.grownBy w' (some b) := ⟨h.os, h.tape, h.output, h.size, fun k hk _ => h.block k hk⟩
theorem Src.after {w w' : World} {b : Nat} {sa : Option Addr} {len cap : Nat} (h : Src w b sa len cap) (hb : Below w.heap.size w w') : Src w' b sa len cap :=
  h.kept (row := none) ⟨hb.os, hb.tape, hb.output, hb.size, fun k hk _ => hb.block k hk⟩ (fun k hk => by cases hk)
set_option maxHeartbeats 1000000 in
theorem pick_any (w : World) (b : Nat) (sa : Option Addr) (len cap g n : Nat) (hn : 1 < n) (hn2 : n ≤ 100) (hgb : g ≠ b) (hc : ∀ i, i < n → ∃ t : ByteArray, w.cell? ⟨g, i, none⟩ = some (.string t) ∧ t.size ≤ 256) (hs : Src w b sa len cap) :
    Calls Try.prog 90 #[.pointer (some ⟨b, 0, none⟩), .slice (some ⟨g, 0, none⟩) n n] w fun e w' => TextUpTo 256 e ∧ w.grownBy w' (some b) ∧ Src w' b sa len cap := by
  have HS : Hid (Src w b sa len cap) := hs
  have HC : Hid (∀ i, i < n → ∃ t : ByteArray, w.cell? ⟨g, i, none⟩ = some (.string t) ∧ t.size ≤ 256) := hc
  clear hs hc
  go_enter Try.func90, Try.ntmps90
  go_wp2_with fail
  refine (n_any _ b sa len cap (n : Int) (by omega) HS.out).mono ?_
  rintro e w1 ⟨⟨r, rfl, hr0, hr1, _⟩, hg, hS⟩
  have hr2 : r < (n : Int) := hr1 (by omega)
  obtain ⟨k, rfl⟩ := Int.eq_ofNat_of_zero_le hr0
  obtain ⟨t, hct, hts⟩ := HC.out k (by omega)
  have hc1 : w1.cell? ⟨g, k, none⟩ = some (.string t) := hg.cell hct (by simp; exact hgb)
  have HG : Hid (w.grownBy w1 (some b)) := hg
  have HS1 : Hid (Src w1 b sa len cap) := hS
  have HT : Hid (t.size ≤ 256) := hts
  clear hr1 hg hS HS hct hts HC
  go_wp2
  go_ret
  exact ⟨⟨t, rfl, HT.out⟩, HG.out, HS1.out⟩

set_option maxRecDepth 100000 in
set_option maxHeartbeats 4000000 in
theorem l03Class_any (w : World) (b : Nat) (sa : Option Addr) (len cap : Nat) (hs : Src w b sa len cap) :
    Calls Try.prog 110 #[.pointer (some ⟨b, 0, none⟩)] w fun e w' => TextUpTo 256 e ∧ w.grownBy w' (some b) ∧ Src w' b sa len cap := by
  have HS : Hid (Src w b sa len cap) := hs
  have hb := hs.lt
  clear hs
  go_enter Try.func110, Try.ntmps110
  go_wp2_with fail
  refine (pick_any _ b sa len cap w.heap.size 10 (by decide) (by decide) (by omega) ?_ (HS.out.kept (World.grownBy_alloc w _ none) (fun k hk => by cases hk))).mono ?_
  · intro i hi
    rcases (show i = 0 ∨ i = 1 ∨ i = 2 ∨ i = 3 ∨ i = 4 ∨ i = 5 ∨ i = 6 ∨ i = 7 ∨ i = 8 ∨ i = 9 from by omega) with rfl | rfl | rfl | rfl | rfl | rfl | rfl | rfl | rfl | rfl
    all_goals exact ⟨_, by rw [World.cell?_alloc_mark]; rfl, by decide⟩
  rintro e w1 ⟨⟨c, rfl, hcs⟩, hg, hS⟩
  have G1 : Hid (w.grownBy w1 (some b)) := (World.grownBy_alloc w _ (some b)).trans hg
  have S1 : Hid (Src w1 b sa len cap) := hS
  have HC : Hid (c.size ≤ 256) := hcs
  clear hg hS HS hcs
  go_wp2_with fail
  refine (n_any _ b sa len cap 12 (by decide) S1.out).mono ?_
  rintro e w2 ⟨⟨r, rfl, hr0, hr1, _⟩, hg, hS⟩
  have hr2 : r < 12 := hr1 (by decide)
  have G2 : Hid (w.grownBy w2 (some b)) := G1.out.trans hg
  have S2 : Hid (Src w2 b sa len cap) := hS
  clear hr1 hg hS S1 G1
  by_cases e0 : r = 0
  · subst e0
    go_wp2_with fail
    refine (n_any _ b sa len cap 6 (by decide) S2.out).mono ?_
    rintro e w3 ⟨⟨q, rfl, hq0, hq1, _⟩, hg, hS⟩
    have hq2 : q < 6 := hq1 (by decide)
    have G3 : Hid (w.grownBy w3 (some b)) := G2.out.trans hg
    have S3 : Hid (Src w3 b sa len cap) := hS
    clear hq1 hg hS S2 G2
    go_wp2_with fail
    refine (specCSpan_yes 97 (97 + q) _ (by decide) (by decide) (by omega) (by omega)).mono ?_
    rintro e w4 ⟨rfl, hb4⟩
    have G4 : Hid (w.grownBy w4 (some b)) := G3.out.trans (only_of_below hb4)
    have S4 : Hid (Src w4 b sa len cap) := S3.out.after hb4
    clear hb4 S3 G3
    go_wp2
    go_ret
    exact ⟨⟨_, rfl, classT_size _⟩, G4.out, S4.out⟩
  · by_cases e1 : r = 1
    · subst e1
      go_wp2_with fail
      refine (l03Not_any c _ (by unfold maxLen; have := HC.out; omega)).mono ?_
      rintro e w4 ⟨rfl, hb4⟩
      have G4 : Hid (w.grownBy w4 (some b)) := G2.out.trans (only_of_below hb4)
      have S4 : Hid (Src w4 b sa len cap) := S2.out.after hb4
      clear hb4 S2 G2
      go_wp2
      go_ret
      exact ⟨⟨_, rfl, classT_size _⟩, G4.out, S4.out⟩
    · by_cases e2 : r = 2
      · subst e2
        go_wp2_with fail
        refine (specCSpan_yes 0 255 _ (by decide) (by decide) (by decide) (by decide)).mono ?_
        rintro e w4 ⟨rfl, hb4⟩
        have G4 : Hid (w.grownBy w4 (some b)) := G2.out.trans (only_of_below hb4)
        have S4 : Hid (Src w4 b sa len cap) := S2.out.after hb4
        clear hb4 S2 G2
        go_wp2
        go_ret
        exact ⟨⟨_, rfl, classT_size _⟩, G4.out, S4.out⟩
      · by_cases e3 : r = 3
        · subst e3
          go_wp2_with fail
          refine (n_any _ b sa len cap 4 (by decide) S2.out).mono ?_
          rintro e w3 ⟨⟨q, rfl, hq0, hq1, _⟩, hg, hS⟩
          have hq2 : q < 4 := hq1 (by decide)
          obtain ⟨k, rfl⟩ := Int.eq_ofNat_of_zero_le hq0
          have G3 : Hid (w.grownBy w3 (some b)) := G2.out.trans hg
          have S3 : Hid (Src w3 b sa len cap) := hS
          clear hq1 hg hS S2 G2
          go_wp2_with fail
          refine (bytes_any _ b sa len cap k (by omega) S3.out).mono ?_
          rintro e w4 ⟨⟨t, rfl, ht⟩, hg, hS⟩
          have G4 : Hid (w.grownBy w4 (some b)) := G3.out.trans hg
          have S4 : Hid (Src w4 b sa len cap) := hS
          have HT : Hid (t.size = k) := ht
          clear hg hS S3 G3 ht
          go_wp2_with fail
          refine (specCOf_yes t _ (by have := HT.out; omega)).mono ?_
          rintro e w5 ⟨rfl, hb5⟩
          have G5 : Hid (w.grownBy w5 (some b)) := G4.out.trans (only_of_below hb5)
          have S5 : Hid (Src w5 b sa len cap) := S4.out.after hb5
          clear hb5 S4 G4
          go_wp2
          go_ret
          exact ⟨⟨_, rfl, classT_size _⟩, G5.out, S5.out⟩
        · have f0 : (r == 0) = false := by simpa using e0
          have f1 : (r == 1) = false := by simpa using e1
          have f2 : (r == 2) = false := by simpa using e2
          have f3 : (r == 3) = false := by simpa using e3
          go_wp2
          go_ret
          exact ⟨⟨_, rfl, HC.out⟩, G2.out, S2.out⟩
end Go.Proofs.Ytfeolbgenpknfaa
