/- What is said here: the specification's five vectors are those of a row's runs.
   What is said here: there are numbers that have the bits of a row's runs.
   What is proved here: the program's isByte says whether a number is a byte's; the world stays. -/
import Derived.Test.YthnnenbpbkmbhaaGreatQSpecMaskLW
import Derived.Test.YthnnenbpbkmbhaaGreatQImplMaskW
import Derived.Test.YthnnenbpbkmbhaaGreatProg
import Derived.WalkKit
namespace Go.Proofs.YthnnenbpbkmbhaaGreat
open Go.RowKit

theorem masksAt_new {w w' : World} {n m xb xe sk : Nat} {f : Nat → Cel} {e : Ending} (hn : n ≤ 60) (h : MasksAt w n m f e w') (hb : IsBits xb (firstB (skipB f n))) (he : IsBits xe (lastB (skipB f n))) (hk : IsBits sk (skipB f n)) : NewMasks w ((n : Int) + 1) m (masksF n xb xe sk) e w' := by
  obtain ⟨g0, g1, g2, g3, g4, c0, c1, c2, c3, c4, h0, h1, h2, h3, h4, rfl, hbl, hl, o0, o1, o2, o3, o4, v0, v1, v2, v3, v4⟩ := h
  have e0 : IsBits 1 (fun j => decide (0 = j)) := bits_pow (k := 0) (by omega)
  have e1 : IsBits (2 ^ n) (fun j => decide (n = j)) := bits_pow (by omega)
  have z4 := o4.1
  refine ⟨_, _, six g0 g1 g2 g3 g4 (g4 + 1), rfl, hbl, ⟨Or.inr ⟨g0, rfl, Nat.le_refl _, hl.2.1, ?_⟩, Or.inr ⟨g1, rfl, Nat.le_refl _, hl.2.2.1, ?_⟩, Or.inr ⟨g2, rfl, Nat.le_refl _, hl.2.2.2.1, ?_⟩, Or.inr ⟨g3, rfl, Nat.le_refl _, hl.2.2.2.2, ?_⟩, Or.inr ⟨g4, rfl, Nat.le_refl _, Nat.lt_succ_self _, ?_⟩, ?_⟩, Nat.le_of_lt hl.1, z4⟩
  · exact o0.congr (fun i hi => v0.uniq (vecIs_words e0 m) i hi)
  · exact o1.congr (fun i hi => v1.uniq (vecIs_words e1 m) i hi)
  · exact o2.congr (fun i hi => v2.uniq (vecIs_words hb m) i hi)
  · exact o3.congr (fun i hi => v3.uniq (vecIs_words he m) i hi)
  · exact o4.congr (fun i hi => v4.uniq (vecIs_words hk m) i hi)
  · show g0 ≤ g1 ∧ g1 ≤ g2 ∧ g2 ≤ g3 ∧ g3 ≤ g4 ∧ g4 ≤ g4 + 1
    omega
end Go.Proofs.YthnnenbpbkmbhaaGreat
namespace Go.Proofs.YthnnenbpbkmbhaaGreat
open Go.RowKit

theorem first_ex (f : Nat → Cel) {n : Nat} (hn : n ≤ 60) : ∃ x, IsBits x (firstB (skipB f n)) := ⟨_, bits_valB (fun j hj => by unfold firstB; rw [skip_le f n (j + 1) (by omega)]; rfl)⟩
theorem last_ex (f : Nat → Cel) {n : Nat} (hn : n ≤ 60) : ∃ x, IsBits x (lastB (skipB f n)) := ⟨_, bits_valB (fun j hj => by unfold lastB; rw [skip_le f n j (by omega)]; rfl)⟩
theorem skip_ex (f : Nat → Cel) {n : Nat} (hn : n ≤ 60) : ∃ x, IsBits x (skipB f n) := ⟨_, bits_valB (fun j hj => skip_le f n j (by omega))⟩
end Go.Proofs.YthnnenbpbkmbhaaGreat
namespace Go.Proofs.YthnnenbpbkmbhaaGreat
open Go.RowKit

theorem isByte_yes (n : Int) (w : World) (h0 : 0 ≤ n) (h1 : n ≤ 255) :
    Calls Tryz.prog 54 #[.int .i64 n] w fun e w' => e = .returned (.bool true) ∧ w' = w := by
  go_enter Tryz.func54, Tryz.ntmps54
  go_wp2
  go_ret
  exact ⟨rfl, rfl⟩
theorem isByte_no (n : Int) (w : World) (h : ¬ (0 ≤ n ∧ n ≤ 255)) :
    Calls Tryz.prog 54 #[.int .i64 n] w fun e w' => e = .returned (.bool false) ∧ w' = w := by
  by_cases h0 : 0 ≤ n
  · have h1 : ¬ n ≤ 255 := fun h2 => h ⟨h0, h2⟩
    clear h
    go_enter Tryz.func54, Tryz.ntmps54
    go_wp2
    go_ret
    exact ⟨rfl, rfl⟩
  · clear h
    go_enter Tryz.func54, Tryz.ntmps54
    go_wp2
    go_ret
    exact ⟨rfl, rfl⟩
end Go.Proofs.YthnnenbpbkmbhaaGreat
