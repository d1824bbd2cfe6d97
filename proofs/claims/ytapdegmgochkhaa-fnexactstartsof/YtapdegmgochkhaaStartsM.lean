/- What is said here: beginnings of an end, as plain mathematics: the bytes behind the end do not matter. -/
import Derived.Test.YtapdegmgochkhaaMeanM
namespace Go.Proofs.Ytapdegmgochkhaa

theorem pre_size {t : ByteArray} {e : Nat} (he : e ≤ t.size) : (t.extract 0 e).size = e := by simp [ByteArray.size_extract]; omega
theorem takes_pre {t c : ByteArray} {e s : Nat} (he : e ≤ t.size) (hs : s < e) : takesB (t.extract 0 e) c s = takesB t c s := by
  unfold takesB
  rw [dif_pos (by rw [pre_size he]; exact hs), dif_pos (by omega)]
  congr 2
  simp [ByteArray.getElem_extract]
theorem cuts_pre {t : ByteArray} {e : Nat} (he : e ≤ t.size) : ∀ {L : List Atm} {s : Nat}, s ≤ e → (Cuts (t.extract 0 e) L s e ↔ Cuts t L s e)
  | [], s, _ => Iff.rfl
  | a :: L, s, hs => by
    constructor
    · rintro ⟨n, h1, h2, h3⟩
      have h4 := h2.le (by rw [pre_size he]; exact hs)
      rw [pre_size he] at h4
      exact ⟨n, h1, fun j hj => by rw [← takes_pre he (by omega)]; exact h2 j hj, (cuts_pre he h4).1 h3⟩
    · rintro ⟨n, h1, h2, h3⟩
      have h4 := (h3.le (h2.le (by omega))).1
      exact ⟨n, h1, fun j hj => by rw [takes_pre he (by omega)]; exact h2 j hj, (cuts_pre he h4).2 h3⟩
end Go.Proofs.Ytapdegmgochkhaa
