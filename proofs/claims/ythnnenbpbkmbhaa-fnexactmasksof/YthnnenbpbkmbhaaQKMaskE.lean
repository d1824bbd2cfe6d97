/- What is proved here: the law of MasksOf walks to true at every input, and nothing that was there turns. -/
import Derived.Test.YthnnenbpbkmbhaaQKMaskL
import Derived.Test.YthnnenbpbkmbhaaQSpecMaskLW
import Derived.Test.YthnnenbpbkmbhaaQImplMaskW
namespace Go.Proofs.Ythnnenbpbkmbhaa
open Go.RowKit

theorem masksAt_new {w w' : World} {n m xb xe sk : Nat} {f : Nat → Cel} {e : Ending} (hn : n ≤ 60) (h : MasksAt w n m f e w') (hb : IsBits xb (firstB (skipB f n))) (he : IsBits xe (lastB (skipB f n))) (hk : IsBits sk (skipB f n)) : NewMasks w ((n : Int) + 1) m (masksF n xb xe sk) e w' := by
  obtain ⟨g0, g1, g2, g3, g4, c0, c1, c2, c3, c4, h0, h1, h2, h3, h4, rfl, hbl, hl, o0, o1, o2, o3, o4, v0, v1, v2, v3, v4⟩ := h
  have e0 : IsBits 1 (fun j => decide (0 = j)) := bits_pow (k := 0) (by omega)
  have e1 : IsBits (2 ^ n) (fun j => decide (n = j)) := bits_pow (by omega)
  have z4 := o4.1
  refine ⟨_, _, six g0 g1 g2 g3 g4 (g4 + 1), rfl, hbl, ⟨Or.inr ⟨g0, rfl, Nat.le_refl _, hl.2.1, ?_⟩, Or.inr ⟨g1, rfl, Nat.le_refl _, hl.2.2.1, ?_⟩, Or.inr ⟨g2, rfl, Nat.le_refl _, hl.2.2.2.1, ?_⟩, Or.inr ⟨g3, rfl, Nat.le_refl _, hl.2.2.2.2, ?_⟩, Or.inr ⟨g4, rfl, Nat.le_refl _, Nat.lt_succ_self _, ?_⟩, ?_⟩, Nat.le_of_lt hl.1, z4⟩
  · exact o0.congr (fun i hi => v0.uniq (vecIs_words e0 m) i hi)
  · exact o1.congr (fun i hi => v1.uniq (vecIs_words e1 m) i hi)
  · exact o2.congr (fun i hi => v2.uniq (vecIs_words hb m) i hi)
  · exact o3.congr (fun i hi => v3.uniq (vecIs_words he m) i hi)
  · exact o4.congr (fun i hi => v4.uniq (vecIs_words hk m) i hi)
  · show g0 ≤ g1 ∧ g1 ≤ g2 ∧ g2 ≤ g3 ∧ g3 ≤ g4 ∧ g4 ≤ g4 + 1
    omega
theorem first_ex (f : Nat → Cel) {n : Nat} (hn : n ≤ 60) : ∃ x, IsBits x (firstB (skipB f n)) := ⟨_, bits_valB (fun j hj => by unfold firstB; rw [skip_le f n (j + 1) (by omega)]; rfl)⟩
theorem last_ex (f : Nat → Cel) {n : Nat} (hn : n ≤ 60) : ∃ x, IsBits x (lastB (skipB f n)) := ⟨_, bits_valB (fun j hj => by unfold lastB; rw [skip_le f n j (by omega)]; rfl)⟩
theorem skip_ex (f : Nat → Cel) {n : Nat} (hn : n ≤ 60) : ∃ x, IsBits x (skipB f n) := ⟨_, bits_valB (fun j hj => skip_le f n j (by omega))⟩
theorem end_MasksOf (sa : Option Addr) (n cap : Nat) (f : Nat → Cel) (w : World) (hn : n ≤ maxLen) (hr : CRow w w.heap.size sa n f) (hc : ∀ i, i < n → (f i).c.size ≤ maxLen) :
    Calls Try.prog 3 #[.slice sa n cap] w fun e w' => e = .returned (.bool true) ∧ Below w.heap.size w w' := by
  by_cases h : CellsOk n f
  · have hn60 := h.2.1
    obtain ⟨xb, hb⟩ := first_ex f hn60
    obtain ⟨xe, he⟩ := last_ex f hn60
    obtain ⟨sk, hk⟩ := skip_ex f hn60
    exact law_MasksOf sa n cap f ((n : Int) + 1) ((n + 1 + 31) / 32) (masksF n xb xe sk) w hn hr hc (by omega)
      (fun _ _ W y k hy => specMasks_yes y n k _ f _ W hn hy hc h (fun W' hy' => (l06Masks_any y n k _ f W' h.1 hn60 hy' rfl).mono (fun _ _ h9 => masksAt_new hn60 h9 hb he hk)))
      (fun _ _ W y k hy => implMasks_yes y n k _ xb xe sk f W hn hy hc h rfl (hb.congr (fun j => by unfold firstB skipB; simp)) he hk)
  · exact law_MasksOf sa n cap f 0 0 (fun _ _ => 0) w hn hr hc (by omega) (fun _ _ W y k hy => specMasks_no y n k f W hn hy hc h) (fun _ _ W y k hy => implMasks_no y n k f W hn hy hc h)
end Go.Proofs.Ythnnenbpbkmbhaa
