/- What is proved here: spec.NameRight and impl.NameRight each answer the bool that says whether the text is a name (NameP); nothing in memory turns. -/
import Derived.Test.YtpdedggnjcnpgaeProg
import Derived.WalkKit
namespace Go.Proofs.Ytpdedggnjcnpgae
open Go.RowKit

/-- Byte c may stand at place j of a name. -/
def NameAt (j : Nat) (c : Int) : Prop := (97 ≤ c ∧ c ≤ 122) ∨ (j ≠ 0 ∧ ((48 ≤ c ∧ c ≤ 57) ∨ c = 95))
/-- The text is a name. -/
def NameP (s : ByteArray) : Prop := 1 ≤ s.size ∧ s.size ≤ 20 ∧ ∀ j (h : j < s.size), NameAt j (s[j].toNat : Int)
/-- The call hands back the bool that says whether p holds. -/
def Says (p : Prop) (e : Ending) : Prop := ∃ b : Bool, e = .returned (.bool b) ∧ (b = true ↔ p)
theorem says_true {p : Prop} (h : p) : Says p (.returned (.bool true)) := ⟨true, rfl, fun _ => h, fun _ => rfl⟩
theorem says_false {p : Prop} (h : ¬ p) : Says p (.returned (.bool false)) := ⟨false, rfl, fun e => (by cases e), fun e => absurd e h⟩
theorem says_of {p : Prop} {b : Bool} (h : b = true ↔ p) : Says p (.returned (.bool b)) := ⟨b, rfl, h⟩
/-- What holds of the places ahead of k. -/
def UpTo (s : ByteArray) (k : Nat) : Prop := ∀ j (h : j < s.size), j < k → NameAt j (s[j].toNat : Int)
theorem upTo_succ {s : ByteArray} {k : Nat} (hk : k < s.size) (h : UpTo s k) (hc : NameAt k (s[k].toNat : Int)) : UpTo s (k + 1) := by
  intro j hj hlt
  rcases Nat.lt_or_ge j k with h1 | h1
  · exact h j hj h1
  · obtain rfl : j = k := by omega
    exact hc
theorem name_bad {s : ByteArray} {k : Nat} (hk : k < s.size) (hc : ¬ NameAt k (s[k].toNat : Int)) : ¬ NameP s := fun h => hc (h.2.2 k hk)

theorem small_yes (c : Int) (w : World) (h1 : 97 ≤ c) (h2 : c ≤ 122) :
    Calls Try.prog 19 #[.int .u8 c] w fun e w' => e = .returned (.bool true) ∧ w' = w := by
  go_enter Try.func19, Try.ntmps19
  go_wp2
  go_ret
  exact ⟨by simp, rfl⟩
theorem small_no (c : Int) (w : World) (h : c < 97 ∨ 122 < c) :
    Calls Try.prog 19 #[.int .u8 c] w fun e w' => e = .returned (.bool false) ∧ w' = w := by
  rcases h with h | h
  · go_enter Try.func19, Try.ntmps19
    go_wp2
    go_ret
    exact ⟨rfl, rfl⟩
  · go_enter Try.func19, Try.ntmps19
    go_wp2
    go_ret
    exact ⟨by simp; omega, rfl⟩

set_option maxHeartbeats 1000000 in
theorem nameByte_any (c : Int) (w : World) :
    Calls Try.prog 20 #[.int .u8 c] w fun e w' => Says (NameAt 1 c) e ∧ w' = w := by
  by_cases h : 97 ≤ c ∧ c ≤ 122
  · go_enter Try.func20, Try.ntmps20
    go_wp2_with (go_at_call 19; refine (small_yes _ _ h.1 h.2).mono ?_; rintro e w' ⟨rfl, rfl⟩)
    go_ret
    exact ⟨says_true (by unfold NameAt; omega), rfl⟩
  · have h' : c < 97 ∨ 122 < c := by omega
    rcases (show (48 ≤ c ∧ c ≤ 57) ∨ (95 ≤ c ∧ c ≤ 95) ∨ (c < 48) ∨ (57 < c ∧ c < 95) ∨ 95 < c from by omega) with hd | hd | hd | hd | hd
    all_goals
      go_enter Try.func20, Try.ntmps20
      go_wp2_with (go_at_call 19; refine (small_no _ _ h').mono ?_; rintro e w' ⟨rfl, rfl⟩)
      go_ret
    all_goals exact ⟨says_of (by unfold NameAt; simp; omega), rfl⟩
theorem nameByte_yes (c : Int) (w : World) (h : NameAt 1 c) : Calls Try.prog 20 #[.int .u8 c] w fun e w' => e = .returned (.bool true) ∧ w' = w := by
  refine (nameByte_any c w).mono ?_
  rintro e w' ⟨⟨b, rfl, hb⟩, rfl⟩
  rw [hb.2 h]
  exact ⟨rfl, rfl⟩
theorem nameByte_no (c : Int) (w : World) (h : ¬ NameAt 1 c) : Calls Try.prog 20 #[.int .u8 c] w fun e w' => e = .returned (.bool false) ∧ w' = w := by
  refine (nameByte_any c w).mono ?_
  rintro e w' ⟨⟨b, rfl, hb⟩, rfl⟩
  cases b
  · exact ⟨rfl, rfl⟩
  · exact absurd (hb.1 rfl) h
theorem nameAt_pos {j : Nat} {c : Int} (hj : 0 < j) : NameAt j c ↔ NameAt 1 c := by unfold NameAt; omega

set_option maxHeartbeats 1000000 in
theorem spec_name (s : ByteArray) (w : World) (hs : s.size ≤ maxLen) :
    Calls Try.prog 8 #[.string s] w fun e w' => Says (NameP s) e ∧ w' = w := by
  unfold maxLen at hs
  by_cases h1 : 1 ≤ s.size
  · by_cases h2 : s.size ≤ 20
    · go_enter Try.func8, Try.ntmps8
      go_wp2
      go_loop [3] (fun i => ∃ k : Nat, k ≤ s.size ∧ i = .int .i64 k ∧ UpTo s k) (fun i => s.size - (intOf i).toNat)
      case atStart => exact ⟨0, Nat.zero_le _, rfl, fun j _ h => absurd h (Nat.not_lt_zero _)⟩
      case round =>
        obtain ⟨k, hk, rfl, hall⟩ := hrel
        by_cases hlt : k < s.size
        · rcases Nat.eq_zero_or_pos k with hk0 | hk0
          · subst hk0
            go_wp2
            all_goals first
              | (go_ret; exact ⟨says_false (name_bad hlt (by unfold NameAt; simp at *; omega)), rfl⟩)
              | (go_round
                 case rel => exact ⟨0 + 1, by omega, by go_num, upTo_succ hlt hall (by unfold NameAt; simp at *; omega)⟩
                 case measure => simp [intOf]; omega)
          · go_wp2
            all_goals first
              | (go_ret; exact ⟨says_false (name_bad hlt (by unfold NameAt; simp at *; omega)), rfl⟩)
              | (go_round
                 case rel => exact ⟨k + 1, by omega, by go_num, upTo_succ hlt hall (by unfold NameAt; simp at *; omega)⟩
                 case measure => simp [intOf]; omega)
        · go_wp2
          go_ret
          exact ⟨says_true ⟨h1, h2, fun j hj => hall j hj (by omega)⟩, rfl⟩
    · go_enter Try.func8, Try.ntmps8
      go_wp2
      go_ret
      exact ⟨says_false fun h => h2 h.2.1, rfl⟩
  · go_enter Try.func8, Try.ntmps8
    go_wp2
    go_ret
    exact ⟨says_false fun h => h1 h.1, rfl⟩

set_option maxHeartbeats 1000000 in
theorem impl_name (s : ByteArray) (w : World) (hs : s.size ≤ maxLen) :
    Calls Try.prog 9 #[.string s] w fun e w' => Says (NameP s) e ∧ w' = w := by
  unfold maxLen at hs
  by_cases h1 : 1 ≤ s.size
  · by_cases h2 : s.size ≤ 20
    · have h0 : 0 < s.size := h1
      by_cases hc : 97 ≤ (s[0].toNat : Int) ∧ (s[0].toNat : Int) ≤ 122
      · have HC := hc
        obtain ⟨hc1, hc2⟩ := hc
        go_enter Try.func9, Try.ntmps9
        go_wp2_with (go_at_call 19; refine (small_yes _ _ hc1 hc2).mono ?_; rintro e w' ⟨rfl, rfl⟩)
        go_loop [3] (fun i => ∃ k : Nat, 1 ≤ k ∧ k ≤ s.size ∧ i = .int .i64 k ∧ UpTo s k) (fun i => s.size - (intOf i).toNat)
        case atStart => exact ⟨1, Nat.le_refl _, h1, rfl, upTo_succ (k := 0) h0 (fun j _ h => absurd h (Nat.not_lt_zero _)) (Or.inl HC)⟩
        case round =>
          obtain ⟨k, hk1, hk, rfl, hall⟩ := hrel
          by_cases hlt : k < s.size
          · by_cases hn : NameAt 1 (s[k].toNat : Int)
            · go_wp2_with (go_at_call 20; refine (nameByte_yes _ _ hn).mono ?_; rintro e w' ⟨rfl, rfl⟩)
              go_round
              case rel => exact ⟨k + 1, by omega, by omega, by go_num, upTo_succ hlt hall ((nameAt_pos hk1).2 hn)⟩
              case measure => simp [intOf]; omega
            · go_wp2_with (go_at_call 20; refine (nameByte_no _ _ hn).mono ?_; rintro e w' ⟨rfl, rfl⟩)
              go_ret
              exact ⟨says_false (name_bad hlt fun h => hn ((nameAt_pos hk1).1 h)), rfl⟩
          · go_wp2
            go_ret
            exact ⟨says_true ⟨h1, h2, fun j hj => hall j hj (by omega)⟩, rfl⟩
      · have hc' : (s[0].toNat : Int) < 97 ∨ 122 < (s[0].toNat : Int) := by omega
        go_enter Try.func9, Try.ntmps9
        go_wp2_with (go_at_call 19; refine (small_no _ _ hc').mono ?_; rintro e w' ⟨rfl, rfl⟩)
        go_ret
        exact ⟨says_false (name_bad h0 (by unfold NameAt; omega)), rfl⟩
    · go_enter Try.func9, Try.ntmps9
      go_wp2
      go_ret
      exact ⟨says_false fun h => h2 h.2.1, rfl⟩
  · go_enter Try.func9, Try.ntmps9
    go_wp2
    go_ret
    exact ⟨says_false fun h => h1 h.1, rfl⟩

set_option maxHeartbeats 1000000 in
theorem law_name (s : ByteArray) (w : World) (hs : s.size ≤ maxLen) :
    Calls Try.prog 3 #[.string s] w fun e w' => e = .returned (.bool true) ∧ Below w.heap.size w w' := by
  have hs' := hs
  unfold maxLen at hs'
  by_cases hbig : 1048576 < (s.size : Int)
  · go_enter Try.func3, Try.ntmps3
    go_wp2
    go_ret
    exact ⟨rfl, Below.refl _ _⟩
  · go_enter Try.func3, Try.ntmps3
    go_wp2_with fail
    refine (spec_name s _ hs).mono ?_
    rintro e w' ⟨⟨b, rfl, hb⟩, rfl⟩
    have HB : Hid (b = true ↔ NameP s) := hb
    clear hb
    go_wp2_with fail
    refine (impl_name s _ hs).mono ?_
    rintro e w'' ⟨⟨b', rfl, hb'⟩, rfl⟩
    obtain rfl : b = b' := by
      have := HB.out
      cases b <;> cases b' <;> simp_all
    clear hb' HB
    cases b
    all_goals
      go_wp2
      go_ret
      exact ⟨rfl, Below.refl _ _⟩
end Go.Proofs.Ytpdedggnjcnpgae
