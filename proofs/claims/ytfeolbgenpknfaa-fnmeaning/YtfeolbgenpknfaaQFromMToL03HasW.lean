/- What is said here: which places a pattern may have come to from a beginning, atom by atom, as plain mathematics.
   What is proved here: a new slice of so many bools, none of them true.
   What is proved here: the specification's l03Has says whether a byte is in a text; the world stays. -/
import Derived.Test.YtfeolbgenpknfaaQMeanM
import Derived.Test.YtfeolbgenpknfaaQDrawBytesWToBoolRowsW
import Derived.Test.YtfeolbgenpknfaaQAtomDToPatM
import Derived.WalkSpells
import Derived.RegionTactic
import Derived.BigRegion
namespace Go.Proofs.Ytfeolbgenpknfaa

/-- A row says where the atoms may have come to. -/
def IsFrom (t : ByteArray) (ps : List Atm) (b : Nat) (r : Nat → Bool) : Prop := ∀ e, e ≤ t.size → (r e = true ↔ Cuts t ps b e)
/-- A row says where one more atom may have come to from the first places of a row. -/
def IsNext (t : ByteArray) (a : Atm) (r : Nat → Bool) (s : Nat) (q : Nat → Bool) : Prop := ∀ e, e ≤ t.size → (q e = true ↔ ∃ p n, p < s ∧ r p = true ∧ Okay a n ∧ RunC t a.c p n ∧ p + n = e)
/-- .. and from one place by fewer than so many bytes. -/
def IsMore (t : ByteArray) (a : Atm) (q : Nat → Bool) (s n : Nat) (x : Nat → Bool) : Prop := ∀ e, e ≤ t.size → (x e = true ↔ (q e = true ∨ ∃ m, m < n ∧ a.l ≤ (m : Int) ∧ s + m = e))
theorem from_start (t : ByteArray) (b : Nat) : IsFrom t [] b (fun i => if i = b then true else false) := fun e _ => by
  show _ ↔ b = e
  by_cases h : e = b
  · simp [h]
  · simp [h]
    omega
theorem next_start (t : ByteArray) (a : Atm) (r : Nat → Bool) : IsNext t a r 0 (fun _ => false) := fun e _ => ⟨fun h => (by cases h), fun ⟨p, n, h, _⟩ => (by omega)⟩
theorem next_skip {t : ByteArray} {a : Atm} {r q : Nat → Bool} {s : Nat} (h : IsNext t a r s q) (hs : r s = false) : IsNext t a r (s + 1) q := fun e he => by
  rw [h e he]
  constructor
  · rintro ⟨p, n, h1, h2⟩
    exact ⟨p, n, by omega, h2⟩
  · rintro ⟨p, n, h1, h2, h3⟩
    by_cases e1 : p = s
    · subst e1; rw [hs] at h2; cases h2
    · exact ⟨p, n, by omega, h2, h3⟩
theorem more_start (t : ByteArray) (a : Atm) (q : Nat → Bool) (s : Nat) : IsMore t a q s 0 q := fun e _ => ⟨fun h => Or.inl h, fun h => h.elim id (fun ⟨m, h1, _⟩ => by omega)⟩
theorem more_on {t : ByteArray} {a : Atm} {q x : Nat → Bool} {s n : Nat} (h : IsMore t a q s n x) (hl : a.l ≤ (n : Int)) : IsMore t a q s (n + 1) (fun i => if i = s + n then true else x i) := fun e he => by
  show (if e = s + n then true else x e) = true ↔ _
  by_cases e1 : e = s + n
  · rw [if_pos e1]
    exact ⟨fun _ => Or.inr ⟨n, by omega, hl, e1.symm⟩, fun _ => rfl⟩
  · rw [if_neg e1, h e he]
    exact ⟨fun h => h.imp id (fun ⟨m, h1, h2, h3⟩ => ⟨m, by omega, h2, h3⟩), fun h => h.imp id (fun ⟨m, h1, h2, h3⟩ => ⟨m, by omega, h2, h3⟩)⟩
theorem more_off {t : ByteArray} {a : Atm} {q x : Nat → Bool} {s n : Nat} (h : IsMore t a q s n x) (hl : ¬ a.l ≤ (n : Int)) : IsMore t a q s (n + 1) x := fun e he => by
  rw [h e he]
  refine ⟨fun h => h.imp id (fun ⟨m, h1, h2, h3⟩ => ⟨m, by omega, h2, h3⟩), fun h => h.imp id (fun ⟨m, h1, h2, h3⟩ => ⟨m, ?_, h2, h3⟩)⟩
  by_cases e1 : m = n
  · subst e1; exact absurd h2 hl
  · omega
/-- All bytes were tried: by the greatest number, or where no more byte fits. -/
theorem next_done {t : ByteArray} {a : Atm} {r q x : Nat → Bool} {s n : Nat} (h : IsNext t a r s q) (hs : r s = true) (hm : IsMore t a q s n x) (hr : ∀ k, k < n → RunC t a.c s k) (hok : ∀ k, k < n → a.m = -1 ∨ (k : Int) ≤ a.m) (hend : (a.m ≠ -1 ∧ a.m < (n : Int)) ∨ ∀ k, n ≤ k → ¬ RunC t a.c s k) : IsNext t a r (s + 1) x := fun e he => by
  rw [hm e he, h e he]
  constructor
  · rintro (⟨p, k, h1, h2⟩ | ⟨m, h1, h2, h3⟩)
    · exact ⟨p, k, by omega, h2⟩
    · exact ⟨s, m, by omega, hs, ⟨h2, hok m h1⟩, hr m h1, h3⟩
  · rintro ⟨p, k, h1, h2, h3, h4, h5⟩
    by_cases e1 : p = s
    · subst e1
      refine Or.inr ⟨k, ?_, h3.1, h5⟩
      rcases hend with ⟨g1, g2⟩ | g
      · rcases h3.2 with g3 | g3
        · exact absurd g3 g1
        · omega
      · by_cases hkn : k < n
        · exact hkn
        · exact absurd h4 (g k (by omega))
    · exact Or.inl ⟨p, k, by omega, h2, h3, h4, h5⟩
/-- One atom more. -/
theorem from_next {t : ByteArray} {ps : List Atm} {a : Atm} {b : Nat} {r q : Nat → Bool} (hb : b ≤ t.size) (h : IsFrom t ps b r) (hq : IsNext t a r (t.size + 1) q) : IsFrom t (ps ++ [a]) b q := fun e he => by
  rw [hq e he, cuts_append]
  constructor
  · rintro ⟨p, n, h1, h2, h3, h4, h5⟩
    exact ⟨p, (h p (by omega)).1 h2, n, h3, h4, h5⟩
  · rintro ⟨p, h1, n, h3, h4, h5⟩
    have := h1.le hb
    exact ⟨p, n, by omega, (h p (by omega)).2 h1, h3, h4, h5⟩
theorem run_stop {t c : ByteArray} {s n : Nat} (h : takesB t c (s + n) = false) : ∀ k, n + 1 ≤ k → ¬ RunC t c s k := fun k hk hr => by
  have := hr n (by omega)
  rw [h] at this
  cases this
theorem run_upto {t c : ByteArray} {s n : Nat} (h : RunC t c s n) : ∀ k, k < n + 1 → RunC t c s k := fun k hk => h.mono (by omega)
end Go.Proofs.Ytfeolbgenpknfaa
namespace Go.Proofs.Ytfeolbgenpknfaa
open Go.RowKit

theorem make_boolN (w : World) (N : Nat) (hN : N ≤ 10000000) : ∃ (w' : World) (g : Nat), (Instr.makeSlice 79 (.int .i64 (N : Int)) (.int .i64 (N : Int))).run Try.prog w = .ok (.slice (some ⟨g, 0, none⟩) N N) w' ∧ w.heap.size ≤ g ∧ g < w'.heap.size ∧ Below w.heap.size w w' ∧ OwnB w' g N (fun _ => false) := by
  obtain ⟨i0, hi, hz0, hz1, hz2⟩ := info_parts Try.boolInfo
  have h := run_make (P := Try.prog) w 79 4 i0 (.bool false) Try.underlying79 hi hz0 .i64 .i64 (N : Int) (N : Int) (by omega) (Int.le_refl _) (by rw [hz2]; omega) (by omega)
  rw [hz1] at h
  refine ⟨w.alloc (.cells (madeCells (Value.bool false).cells (N * 1)) 4), w.heap.size, ?_, Nat.le_refl _, by simp, (Below.refl _ _).alloc (Nat.le_refl _) _, by simp, fun i hi => ?_, fun i hi => ?_⟩
  · rw [h]
    simp
  · rw [World.cell?_alloc_mark]
    simp [madeCells, Value.cells, Nat.mod_one, hi]
  · exact frozen_of_row _ _ _ _ _ (heap_alloc_new w _)
end Go.Proofs.Ytfeolbgenpknfaa
namespace Go.Proofs.Ytfeolbgenpknfaa
open Go.RowKit

theorem has_found {t : ByteArray} {k b : Nat} (h : k < t.size) (hc : t[k].toNat = b) : hasByte t b = true := by
  unfold hasByte
  rw [List.any_eq_true]
  exact ⟨t.data.toList[k]'(by simpa using h), List.getElem_mem _, by rw [beq_iff_eq]; exact hc⟩
set_option maxRecDepth 100000 in
set_option maxHeartbeats 2000000 in
theorem l03Has_any (t : ByteArray) (b : Nat) (w : World) (hs : t.size ≤ maxLen) :
    Calls Try.prog 99 #[.string t, .int .u8 (b : Int)] w fun e w' => e = .returned (.bool (hasByte t b)) ∧ w' = w := by
  unfold maxLen at hs
  go_enter Try.func99, Try.ntmps99
  go_wp2
  go_loop [5] (fun i => ∃ k : Nat, k ≤ t.size ∧ i = .int .i64 (k : Int) ∧ hasUpTo t k b = false) (fun i => t.size - (intOf i).toNat)
  case atStart => exact ⟨0, Nat.zero_le _, rfl, hasUpTo_zero t b⟩
  case round =>
    obtain ⟨k, hk, rfl, hno⟩ := hrel
    have HN : Hid (hasUpTo t k b = false) := hno
    clear hno
    by_cases hlt : k < t.size
    · have hlt' : (k : Int) < (t.size : Int) := by omega
      have HS : Hid (hasUpTo t (k + 1) b = (hasUpTo t k b || (t[k].toNat == b))) := hasUpTo_succ t k b hlt
      by_cases hc : t[k].toNat = b
      · have HC : Hid (hasByte t b = true) := has_found hlt hc
        have hc' : ((t[k].toNat : Int) == (b : Int)) = true := by rw [hc]; simp
        clear hc
        go_wp2
        go_ret
        exact ⟨by rw [HC.out]; rfl, rfl⟩
      · have HC : Hid (hasUpTo t (k + 1) b = false) := by
          show hasUpTo t (k + 1) b = false
          rw [HS.out, HN.out]
          simp [hc]
        have hc' : ((t[k].toNat : Int) == (b : Int)) = false := by simp; omega
        clear hc
        go_wp2
        go_round
        case rel => exact ⟨k + 1, by omega, by go_num, HC.out⟩
        case measure => simp [intOf]; omega
    · have hge : ¬ (k : Int) < (t.size : Int) := by omega
      obtain rfl : k = t.size := by omega
      go_wp2
      go_ret
      exact ⟨by rw [← hasUpTo_all, HN.out]; rfl, rfl⟩
end Go.Proofs.Ytfeolbgenpknfaa
