/- What is proved here: what is stored in the map of what is known is so, whether the place was known or not. -/
import Derived.Test.YtapdegmgochkhaaMemoW
namespace Go.Proofs.Ytapdegmgochkhaa
open Go.RowKit Go.Maps

theorem size_put_there {D : DataW Unit} {k : Lit} {d : DataW Unit} (h : Maps.has D k = true) : Maps.size (D.put k d) ≤ Maps.size D := by
  cases D with
  | map es =>
    show (DataW.insert (k, d) (es.filter fun p => !p.1.sameKey k)).length ≤ es.length
    rw [DataW.length_insert]
    have h2 : ∃ p ∈ es, p.1.sameKey k = true := by simpa [Maps.has] using h
    have h3 : (es.filter fun p => !p.1.sameKey k).length < es.length := by
      rw [List.length_filter_lt_length_iff_exists]
      obtain ⟨p, hp, hk⟩ := h2
      exact ⟨p, hp, by simp [hk]⟩
    omega
  | _ => simp [Maps.has] at h
theorem owns_tight {W : World} {b n m : Nat} {D : DataW Unit} (h : W.ownsMap Try.prog 162 (plainElem Try.prog 3) b n D) (hm : Maps.size D ≤ m) : W.ownsMap Try.prog 162 (plainElem Try.prog 3) b m D := by
  obtain ⟨es, clock, hb, F, hs, rfl⟩ := h
  exact ⟨es, clock, hb, F, by simpa [Maps.size, DataW.length_sorted] using hm, rfl⟩
/-- What is stored is so, known or not. -/
theorem memo_put_any {t : ByteArray} {ps : List Atm} {B i s : Nat} {W W' : World} {v : Int} {D : DataW Unit} (hi : i < 100) (hs : s < 10000)
    (hD : ∀ i s : Nat, i < 100 → s < 10000 → Maps.has D (askL (i : Int) (s : Int)) = true → ∃ v : Int, D.atKey (askL (i : Int) (s : Int)) (.lit (.int .i64 0)) = .lit (.int .i64 v) ∧ Far t (ps.drop i) s v) (ho : W.ownsMap Try.prog 162 (plainElem Try.prog 3) B (cntTo (knownAt D) 1000000) D)
    (hf : Far t (ps.drop i) s v) (hown : W'.ownsMap Try.prog 162 (plainElem Try.prog 3) B (cntTo (knownAt D) 1000000 + 1) (D.put (askL (i : Int) (s : Int)) (.lit (.int .i64 v)))) : Memo t ps B W' := by
  cases hno : Maps.has D (askL (i : Int) (s : Int)) with
  | false => exact memo_put hi hs hno hD ho.isMap hf hown
  | true =>
    have hk : WideAt.IsKeyLit (askL (i : Int) (s : Int)) := askLaw.key (ask_key (wf_nat (a := i) (by omega)) (wf_nat (a := s) (by omega)))
    have hM := ho.isMap
    have hkn : ∀ j, j < 1000000 → knownAt (D.put (askL (i : Int) (s : Int)) (.lit (.int .i64 v))) j = knownAt D j := fun j hj => by
      unfold knownAt
      by_cases e : j / 10000 = i ∧ j % 10000 = s
      · obtain ⟨e1, e2⟩ := e
        rw [e1, e2, has_put_same hM hk, hno]
      · exact has_put_other (ask_ne (by omega) (by omega) (by omega) (by omega) e) _
    have hcnt : ∀ n, n ≤ 1000000 → cntTo (knownAt (D.put (askL (i : Int) (s : Int)) (.lit (.int .i64 v)))) n = cntTo (knownAt D) n := fun n hn => by
      induction n with
      | zero => rfl
      | succ n ih => unfold cntTo; rw [ih (by omega), hkn n (by omega)]
    refine ⟨D.put (askL (i : Int) (s : Int)) (.lit (.int .i64 v)), ?_, fun i' s' hi' hs' h => ?_⟩
    · rw [hcnt 1000000 (Nat.le_refl _)]
      exact owns_tight hown (Nat.le_trans (size_put_there hno) ho.size_le)
    · by_cases e : i' = i ∧ s' = s
      · obtain ⟨rfl, rfl⟩ := e
        exact ⟨v, atKey_put_same hM hk _ _, hf⟩
      · have hne := ask_ne (a := i') (b := s') (c := i) (d := s) (by omega) (by omega) (by omega) (by omega) e
        rw [has_put_other hne] at h
        rw [atKey_put_other hne]
        exact hD i' s' hi' hs' h
theorem Memo.grown {t : ByteArray} {ps : List Atm} {B : Nat} {W W' : World} (h : Memo t ps B W) (hg : W.grownBy W' none) : Memo t ps B W' := by
  obtain ⟨D, h1, h2⟩ := h.ex
  exact ⟨D, h1.kept (row := none) hg (by simp), h2⟩
theorem Memo.cnt (D : DataW Unit) : cntTo (knownAt D) 1000000 < maxLen := Nat.lt_of_le_of_lt (cntTo_le _ _) (by unfold maxLen; omega)
theorem ARow.turn {W W' : World} {B n : Nat} {sa : Option Addr} {f : Nat → Atm} (h : ARow W B sa n f) (ht : Turn B W W') (hB : B < W.heap.size) : ARow W' B sa n f := h.kept (ht.below (Nat.le_refl _) (Nat.le_of_lt hB))
end Go.Proofs.Ytapdegmgochkhaa
