/- What is said here: how often an atom is, as it is written. -/
import Derived.Test.YtkkijmbpcffadajDoorMdigM
namespace Go.Proofs.YtkkijmbpcffadajDoor
open Go.RowKit

/-- How often an atom is, as it is written. -/
def oftL (l m : Int) : List Int :=
  if l = 1 ∧ m = 1 then [] else if l = 0 ∧ m = 1 then [63] else if l = 0 ∧ m = -1 then [42] else if l = 1 ∧ m = -1 then [43]
  else if l = m then [123] ++ decL l.toNat ++ [125] else if m = -1 then [123] ++ decL l.toNat ++ [44, 125] else [123] ++ decL l.toNat ++ [44] ++ decL m.toNat ++ [125]
def oftT (l m : Int) : ByteArray := strOfNums (oftL l m)
theorem oft_once : oftT 1 1 = ⟨#[]⟩ := rfl
theorem oft_maybe : oftT 0 1 = ⟨#[63]⟩ := rfl
theorem oft_any : oftT 0 (-1) = ⟨#[42]⟩ := rfl
theorem oft_some : oftT 1 (-1) = ⟨#[43]⟩ := rfl
theorem oft_just {k : Nat} (h : 2 ≤ k) : oftT (k : Int) (k : Int) = ((⟨#[123]⟩ : ByteArray) ++ decT k) ++ ⟨#[125]⟩ := by
  unfold oftT oftL
  rw [if_neg (by omega), if_neg (by omega), if_neg (by omega), if_neg (by omega), if_pos rfl, strApp2, strApp2]
  rfl
theorem oft_from {k : Nat} (h : 2 ≤ k) : oftT (k : Int) (-1) = ((⟨#[123]⟩ : ByteArray) ++ decT k) ++ ⟨#[44, 125]⟩ := by
  unfold oftT oftL
  rw [if_neg (by omega), if_neg (by omega), if_neg (by omega), if_neg (by omega), if_neg (by omega), if_pos rfl, strApp2, strApp2]
  rfl
theorem oft_two {k j : Nat} (h : 2 ≤ j) (h2 : k ≠ j) : oftT (k : Int) (j : Int) = ((((⟨#[123]⟩ : ByteArray) ++ decT k) ++ ⟨#[44]⟩) ++ decT j) ++ ⟨#[125]⟩ := by
  unfold oftT oftL
  rw [if_neg (by omega), if_neg (by omega), if_neg (by omega), if_neg (by omega), if_neg (by omega), if_neg (by omega), strApp2, strApp2, strApp2, strApp2]
  rfl
theorem oftT_size (l m : Int) : (oftT l m).size ≤ 7 := by
  have h1 : ∀ n, (decL n).length ≤ 2 := fun n => by unfold decL; split <;> simp
  unfold oftT
  rw [strOfNums_size]
  have := h1 l.toNat
  have := h1 m.toNat
  unfold oftL
  repeat' split
  all_goals simp <;> omega
/-- The ways of a right atom. -/
inductive Ways (l m : Int) : Prop
  | once : l = 1 → m = 1 → Ways l m
  | maybe : l = 0 → m = 1 → Ways l m
  | any : l = 0 → m = -1 → Ways l m
  | some : l = 1 → m = -1 → Ways l m
  | just (k : Nat) : 2 ≤ k → k ≤ 20 → l = (k : Int) → m = (k : Int) → Ways l m
  | from (k : Nat) : 2 ≤ k → k ≤ 20 → l = (k : Int) → m = -1 → Ways l m
  | two (k j : Nat) : 2 ≤ j → j ≤ 20 → k < j → l = (k : Int) → m = (j : Int) → Ways l m
theorem ways_of {l m : Int} (h1 : 0 ≤ l) (h2 : l ≤ 20) (h3 : m = -1 ∨ (l ≤ m ∧ 1 ≤ m ∧ m ≤ 20)) : Ways l m := by
  obtain ⟨k, rfl⟩ := Int.eq_ofNat_of_zero_le h1
  by_cases hm : m = -1
  · subst hm
    by_cases h0 : k = 0
    · exact .any (by omega) rfl
    · by_cases h4 : k = 1
      · exact .some (by omega) rfl
      · exact .from k (by omega) (by omega) rfl rfl
  · have h5 : (k : Int) ≤ m ∧ 1 ≤ m ∧ m ≤ 20 := by omega
    obtain ⟨j, rfl⟩ := Int.eq_ofNat_of_zero_le (show 0 ≤ m by omega)
    by_cases h6 : j = 1
    · by_cases h0 : k = 0
      · exact .maybe (by omega) (by omega)
      · exact .once (by omega) (by omega)
    · by_cases h7 : k = j
      · exact .just k (by omega) (by omega) rfl (by omega)
      · exact .two k j (by omega) (by omega) (by omega) rfl rfl
end Go.Proofs.YtkkijmbpcffadajDoor
