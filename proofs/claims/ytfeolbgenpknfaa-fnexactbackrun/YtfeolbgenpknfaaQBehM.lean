/- What is said here: cells that a text's last bytes go with, one behind the other; factors, borders: plain mathematics, for what looks from behind. -/
import Derived.Test.YtfeolbgenpknfaaQMeanM
import Derived.Test.YtfeolbgenpknfaaQCellD
import Derived.Test.YtfeolbgenpknfaaQCellMToPlaceM
namespace Go.Proofs.Ytfeolbgenpknfaa
open Go.RowKit

/-- The last k bytes of a text go with the cells from p on. -/
def GoesS (n : Nat) (f : Nat → Cel) (t : ByteArray) (k p : Nat) : Prop := k ≤ t.size ∧ p + k ≤ n ∧ ∀ i, i < k → takesB t (f (p + i)).c (t.size - k + i) = true
theorem goesS_zero {n : Nat} {f : Nat → Cel} {t : ByteArray} {p : Nat} : GoesS n f t 0 p ↔ p ≤ n := ⟨fun h => h.2.1, fun h => ⟨Nat.zero_le _, h, fun _ hi => absurd hi (Nat.not_lt_zero _)⟩⟩
theorem goesS_succ {n : Nat} {f : Nat → Cel} {t : ByteArray} {k p : Nat} (hk : k < t.size) : GoesS n f t (k + 1) p ↔ GoesS n f t k (p + 1) ∧ p < n ∧ takesB t (f p).c (t.size - 1 - k) = true := by
  constructor
  · rintro ⟨h1, h2, h3⟩
    refine ⟨⟨by omega, by omega, fun i hi => ?_⟩, by omega, ?_⟩
    · have h := h3 (i + 1) (by omega)
      rw [show p + (i + 1) = p + 1 + i by omega, show t.size - (k + 1) + (i + 1) = t.size - k + i by omega] at h
      exact h
    · have h := h3 0 (by omega)
      rw [show t.size - (k + 1) + 0 = t.size - 1 - k by omega] at h
      exact h
  · rintro ⟨⟨h1, h2, h3⟩, h4, h5⟩
    refine ⟨by omega, by omega, fun i hi => ?_⟩
    cases i with
    | zero =>
      rw [show t.size - (k + 1) + 0 = t.size - 1 - k by omega]
      exact h5
    | succ i =>
      have h := h3 i (by omega)
      rw [show p + (i + 1) = p + 1 + i by omega, show t.size - (k + 1) + (i + 1) = t.size - k + i by omega]
      exact h
theorem goesS_less {n : Nat} {f : Nat → Cel} {t : ByteArray} {k j p : Nat} (h : GoesS n f t k p) (hj : j ≤ k) : GoesS n f t j (p + (k - j)) := by
  obtain ⟨h1, h2, h3⟩ := h
  refine ⟨by omega, by omega, fun i hi => ?_⟩
  have h := h3 (k - j + i) (by omega)
  rw [show p + (k - j + i) = p + (k - j) + i by omega, show t.size - k + (k - j + i) = t.size - j + i by omega] at h
  exact h
/-- Some cells go with the last k bytes. -/
def SomeS (n : Nat) (f : Nat → Cel) (t : ByteArray) (k : Nat) : Prop := ∃ p, GoesS n f t k p
theorem someS_less {n : Nat} {f : Nat → Cel} {t : ByteArray} {k j : Nat} (h : SomeS n f t k) (hj : j ≤ k) : SomeS n f t j := h.elim fun _ hp => ⟨_, goesS_less hp hj⟩
/-- A text goes with the cells from p on. -/
def GoesP (n : Nat) (f : Nat → Cel) (t : ByteArray) (p : Nat) : Prop := p + t.size ≤ n ∧ ∀ i, i < t.size → takesB t (f (p + i)).c i = true
theorem goesP_iff {n : Nat} {f : Nat → Cel} {t : ByteArray} {p : Nat} : GoesP n f t p ↔ GoesS n f t t.size p := by
  unfold GoesP GoesS
  rw [Nat.sub_self]
  simp only [Nat.zero_add]
  exact ⟨fun h => ⟨Nat.le_refl _, h.1, h.2⟩, fun h => ⟨h.2.1, h.2.2⟩⟩
theorem takes_cutB {t c : ByteArray} {s e k : Nat} (hs : s ≤ e) (he : e ≤ t.size) (hk : k < e - s) : takesB (t.extract s e) c k = takesB t c (s + k) := by
  have h1 : k < (t.extract s e).size := by rw [ByteArray.size_extract]; omega
  unfold takesB
  rw [dif_pos h1, dif_pos (by omega), ByteArray.getElem_extract]
theorem cut_size {t : ByteArray} {s e : Nat} (he : e ≤ t.size) : (t.extract s e).size = e - s := by rw [ByteArray.size_extract]; omega
/-- The last k bytes, as a text of their own. -/
theorem goesP_last {n : Nat} {f : Nat → Cel} {t : ByteArray} {k p : Nat} (hk : k ≤ t.size) : GoesP n f (t.extract (t.size - k) t.size) p ↔ GoesS n f t k p := by
  have hz : (t.extract (t.size - k) t.size).size = k := by rw [cut_size (Nat.le_refl _)]; omega
  unfold GoesP GoesS
  rw [hz]
  constructor
  · rintro ⟨h1, h2⟩
    refine ⟨hk, h1, fun i hi => ?_⟩
    rw [← takes_cutB (by omega) (Nat.le_refl _) (by omega)]
    exact h2 i hi
  · rintro ⟨_, h1, h2⟩
    refine ⟨h1, fun i hi => ?_⟩
    rw [takes_cutB (by omega) (Nat.le_refl _) (by omega)]
    exact h2 i hi
/-- The border: the greatest k below n so that the last k bytes go with the first k cells. -/
def IsBorder (n : Nat) (f : Nat → Cel) (t : ByteArray) (b : Nat) : Prop := (b = 0 ∨ (b < n ∧ GoesS n f t b 0)) ∧ ∀ k, b < k → k < n → ¬ GoesS n f t k 0
theorem border_one {n : Nat} {f : Nat → Cel} {t : ByteArray} {b c : Nat} (h : IsBorder n f t b) (h' : IsBorder n f t c) : b = c := by
  rcases Nat.lt_trichotomy b c with hl | hl | hl
  · rcases h'.1 with h1 | ⟨h1, h2⟩
    · omega
    · exact absurd h2 (h.2 c hl h1)
  · exact hl
  · rcases h.1 with h1 | ⟨h1, h2⟩
    · omega
    · exact absurd h2 (h'.2 b hl h1)
end Go.Proofs.Ytfeolbgenpknfaa
