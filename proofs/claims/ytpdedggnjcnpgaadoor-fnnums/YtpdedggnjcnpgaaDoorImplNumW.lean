/- What is proved here: impl.GetNum hands back what numOf tells. Its condition: the variable errors.errorType holds what the program's text lays there. -/
import Derived.Test.YtpdedggnjcnpgaaDoorNumW
namespace Go.Proofs.YtpdedggnjcnpgaaDoor
open Go.RowKit

set_option maxHeartbeats 1000000 in
theorem implGetNum (s : ByteArray) (a : Int) (w : World) (hs : s.size ≤ maxLen) (hg : w.cell? ⟨0, 0, none⟩ = some (.iface 74 (.agg #[.pointer (some ⟨1, 41, none⟩)]))) :
    Calls Tryd.prog 7 #[.string s, .int .i64 a] w fun e w' => e = .returned (numOut (numOf s a)) ∧ Below w.heap.size w w' := by
  have hz : (numOf s a).2.2 ≠ 0 → (numOf s a).1 = 0 ∧ (numOf s a).2.1 = 0 := by
    intro hne
    unfold numOf at hne ⊢
    by_cases h : 8000 < s.size
    · rw [if_pos h]; exact ⟨rfl, rfl⟩
    · rw [if_neg h] at hne ⊢
      by_cases ha : a < 0
      · rw [if_pos ha]; exact ⟨rfl, rfl⟩
      · rw [if_neg ha] at hne ⊢
        obtain ⟨_, _, _, _, h1 | ⟨_, h2, h3⟩⟩ := fine_getU s 10 0 a.toNat 0 rfl (by decide) (by decide)
        · exact absurd h1.1 hne
        · exact ⟨by rw [h2]; rfl, h3⟩
  have hcr := readNum_any s a (w.alloc (.cells #[.int .i64 0, .int .i64 0, .int .i64 0] 26)) hs
  generalize numOf s a = r at *
  obtain ⟨x, y, c⟩ := r
  have hlt : 0 < w.heap.size := by
    rcases Nat.eq_zero_or_pos w.heap.size with h0 | h
    · simp [World.cell?, h0] at hg
    · exact h
  have hgA : (w.alloc (.cells #[.int .i64 0, .int .i64 0, .int .i64 0] 26)).cell? ⟨0, 0, none⟩ = some (.iface 74 (.agg #[.pointer (some ⟨1, 41, none⟩)])) := by
    rw [World.cell?_alloc_lt _ _ ⟨0, 0, none⟩ hlt]; exact hg
  have HC := hcr
  have H1 : Hid (Calls Tryd.prog 16 #[.string s, .int .i64 a] (w.alloc (.cells #[.int .i64 0, .int .i64 0, .int .i64 0] 26)) fun e w' => e = .returned (.tuple #[.int .i64 x, .int .i64 y, errOf c]) ∧ w' = (w.alloc (.cells #[.int .i64 0, .int .i64 0, .int .i64 0] 26))) := HC
  clear hcr HC
  have HG : Hid ((w.alloc (.cells #[.int .i64 0, .int .i64 0, .int .i64 0] 26)).cell? ⟨0, 0, none⟩ = some (.iface 74 (.agg #[.pointer (some ⟨1, 41, none⟩)]))) := hgA
  clear hgA hg
  have HZ : Hid (c ≠ 0 → x = 0 ∧ y = 0) := hz
  clear hz
  by_cases hc : c = 0
  · subst hc
    go_enter Tryd.func7, Tryd.ntmps7
    go_wp2_with fail
    refine H1.out.mono ?_
    rintro e w1 ⟨rfl, hw⟩
    subst hw
    go_wp2_with fail
    refine (codeOf_err 0 _ HG.out).mono ?_
    rintro e w2 ⟨rfl, hb⟩
    obtain ⟨hc2, hf2⟩ := bcell hb
    have hz2 : w.heap.size < w2.heap.size := by have := hb.size; simp at this; omega
    have HB : Hid (Below w.heap.size w w2) := ((Below.refl _ _).alloc (Nat.le_refl _) _).trans (hb.mono (by simp))
    clear hb
    go_wp2
    exact bodyPost_ret (v := numOut (x, y, 0)) (by simp [results, Tryd.results7, go_sem, numOut, hc2]) rfl ⟨rfl, ((HB.out.setCell (Nat.le_refl _) _).setCell (Nat.le_refl _) _).setCell (Nat.le_refl _) _⟩
  · obtain ⟨rfl, rfl⟩ := HZ.out hc
    have hcb : (c != 0) = true := by simpa using hc
    have HC : Hid (¬ c = 0) := hc
    clear hc
    go_enter Tryd.func7, Tryd.ntmps7
    go_wp2_with fail
    refine H1.out.mono ?_
    rintro e w1 ⟨rfl, hw⟩
    subst hw
    go_wp2_with fail
    refine (codeOf_err c _ HG.out).mono ?_
    rintro e w2 ⟨rfl, hb⟩
    obtain ⟨hc2, hf2⟩ := bcell hb
    have hz2 : w.heap.size < w2.heap.size := by have := hb.size; simp at this; omega
    have HB : Hid (Below w.heap.size w w2) := ((Below.refl _ _).alloc (Nat.le_refl _) _).trans (hb.mono (by simp))
    clear hb
    go_wp2
    exact bodyPost_ret (v := numOut (0, 0, c)) (by simp [results, Tryd.results7, go_sem, numOut, hc2]) rfl ⟨rfl, ((HB.out.setCell (Nat.le_refl _) _).setCell (Nat.le_refl _) _).setCell (Nat.le_refl _) _⟩
end Go.Proofs.YtpdedggnjcnpgaaDoor
