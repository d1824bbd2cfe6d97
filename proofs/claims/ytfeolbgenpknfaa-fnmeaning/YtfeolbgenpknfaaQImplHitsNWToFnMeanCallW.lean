/- What is proved here: the program's HitsOf tells no hits where a pattern is not right, or the text or the list is too long; nothing that was there turns.
   What is said here: what FnMeaning calls, at drawn inputs: the program and the specification answer with the same, whatever the world behind. -/
import Derived.Test.YtfeolbgenpknfaaQImplHitsW
import Derived.Test.YtfeolbgenpknfaaQBackMToBytesRowW
import Derived.Test.YtfeolbgenpknfaaQAtomSToDrawPatW
import Derived.Test.YtfeolbgenpknfaaQVecDToMemoW
import Derived.Test.YtfeolbgenpknfaaQImplEndsW
import Derived.Test.YtfeolbgenpknfaaQSpecFitsWToSpecStartsW
import Derived.Test.YtfeolbgenpknfaaQStartsMToImplStartsW
import Derived.Test.YtfeolbgenpknfaaQSpecPLenWToSpecRevW
import Derived.Test.YtfeolbgenpknfaaQSpecHitsNWToCapIntsM
namespace Go.Proofs.Ytfeolbgenpknfaa
open Go.RowKit

theorem no_hits (w w1 : World) (hb : Below w.heap.size w w1) : NewHits w [] (.returned (.slice none 0 0)) w1 := ⟨_, rfl, hb, rfl, Or.inl ⟨rfl, rfl⟩⟩
set_option maxHeartbeats 1000000 in
theorem implHits_no (sa : Option Addr) (k cap : Nat) (s : Nat → Option Addr) (n c : Nat → Nat) (f : Nat → Nat → Atm) (t : ByteArray) (w : World) (hk : k ≤ 400) (ht : t.size ≤ 8000) (hr : AARows w w.heap.size sa k s n c f) (hc : ∀ i, i < k → ∀ j, j < n i → (f i j).c.size ≤ maxLen) (hn : ∀ i, i < k → n i ≤ maxLen) (hR : ∃ i, i < k ∧ ¬ PatRight (n i) (f i)) :
    Calls Try.prog 21 #[.slice sa k cap, .string t] w fun e w' => NewHits w [] e w' := by
  have C := endsAll_no sa k cap s n c f t w (by omega) hr hn hc hR
  have h8 : ¬ 8000 < (t.size : Int) := by omega
  have h4 : ¬ 400 < (k : Int) := by omega
  clear hr hc hn hR
  go_enter Try.func21, Try.ntmps21
  go_wp2_with fail
  refine C.mono ?_
  rintro e w1 ⟨rfl, hb⟩
  have HN : Hid (NewHits w [] (.returned (.slice none 0 0)) w1) := no_hits w w1 hb
  clear C hb
  go_wp2_with fail
  go_ret
  exact HN.out
set_option maxHeartbeats 1000000 in
theorem implHits_big (sa : Option Addr) (k cap : Nat) (t : ByteArray) (w : World) (h : ¬ (t.size ≤ 8000 ∧ k ≤ 400)) :
    Calls Try.prog 21 #[.slice sa k cap, .string t] w fun e w' => NewHits w [] e w' := by
  have HN : Hid (NewHits w [] (.returned (.slice none 0 0)) w) := no_hits w w (Below.refl _ _)
  by_cases h8 : 8000 < (t.size : Int)
  · clear h
    go_enter Try.func21, Try.ntmps21
    go_wp2_with fail
    go_ret
    exact HN.out
  · have h4 : 400 < (k : Int) := by omega
    clear h
    go_enter Try.func21, Try.ntmps21
    go_wp2_with fail
    go_ret
    exact HN.out
end Go.Proofs.Ytfeolbgenpknfaa
namespace Go.Proofs.Ytfeolbgenpknfaa
open Go.RowKit

theorem smallLen {n : Nat} {f : Nat → Atm} (h : ∀ i, i < n → SmallA (f i)) : ∀ i, i < n → (f i).c.size ≤ maxLen := fun i hi => by
  have := (h i hi).1
  unfold maxLen
  omega
/-- An end has a beginning, by whose piece it is meant. -/
def EndAt (s : Option Addr) (n c : Nat) (f : Nat → Atm) (u : ByteArray) (en : Int) : Prop := ∃ (e b kn : Nat) (kf : Nat → Int), en = (e : Int) ∧ b ≤ e ∧ e ≤ u.size ∧ 0 < kn ∧ kf 0 = (b : Int) ∧ kn ≤ 1048576 ∧
  (∀ W, ARow W W.heap.size s n f → Calls Try.prog 18 #[.slice s n c, .string u, .int .i64 (e : Int)] W fun r w' => NewInts W kn kf r w') ∧
  (∀ W, ARow W W.heap.size s n f → Calls Try.prog 10 #[.slice s n c, .string (u.extract b e)] W fun r w' => r = .returned (.bool true) ∧ Below W.heap.size W w')
open Classical in
theorem ends_bothM (s : Option Addr) (n c : Nat) (f : Nat → Atm) (u : ByteArray) (hn : n ≤ 5) (hsm : ∀ i, i < n → SmallA (f i)) (hu : u.size ≤ 28000) : ∃ (rn : Nat) (rf : Nat → Int), rn ≤ 1048576 ∧
      (∀ W, ARow W W.heap.size s n f → Calls Try.prog 12 #[.slice s n c, .string u] W fun r w' => NewInts W rn rf r w') ∧
      (∀ W, ARow W W.heap.size s n f → Calls Try.prog 17 #[.slice s n c, .string u] W fun r w' => NewInts W rn rf r w') ∧ ∀ i, i < rn → EndAt s n c f u (rf i) := by
  have hn' : n ≤ maxLen := by unfold maxLen; omega
  by_cases h : u.size ≤ 8000 ∧ PatRight n f
  · obtain ⟨hu8, hP⟩ := h
    have hp : ∀ e, e ≤ u.size → (decide (∃ s, s < e ∧ Cuts u (atomsL f n) s e) = true ↔ ∃ s, s < e ∧ Cuts u (atomsL f n) s e) := fun e _ => decide_eq_true_iff
    have hl := classL_len (fun e => decide (∃ s, s < e ∧ Cuts u (atomsL f n) s e)) (u.size + 1)
    refine ⟨(classL (fun e => decide (∃ s, s < e ∧ Cuts u (atomsL f n) s e)) (u.size + 1)).length, _, by omega,
      fun W hr => implEnds_yes s n c f u _ W hn' hr (smallLen hsm) hu8 hP hp, fun W hr => specEnds_yes s n c f u _ W hn' hr (smallLen hsm) hu8 hP hp, fun i hi => ?_⟩
    obtain ⟨e, he, heq, hq⟩ := first_start hi hp
    obtain ⟨h0, b, hb, hbe, hcut⟩ := hq (fun s => decide (Cuts u (atomsL f n) s e)) (fun s _ => decide_eq_true_iff)
    have hl2 := classL_len (fun s => decide (Cuts u (atomsL f n) s e)) e
    refine ⟨e, b, (classL (fun s => decide (Cuts u (atomsL f n) s e)) e).length, _, heq, by omega, he, h0, hbe, by omega,
      fun W hr => implStarts_yes s n c f u e _ W hn' hr (smallLen hsm) hu8 hP he (fun s _ => decide_eq_true_iff), fun W hr => ?_⟩
    have hF := piece_fits hP hu8 (by omega) he hcut
    refine (implFits_any s n c f (u.extract b e) W hn' hr (smallLen hsm) (by have := hF.1; unfold maxLen; omega)).mono ?_
    rintro r w' ⟨h1, h2⟩
    exact ⟨by rw [h1, decide_eq_true hF], h2⟩
  · have hu' : u.size ≤ maxLen := by unfold maxLen; omega
    exact ⟨0, fun _ => 0, by omega, fun W hr => implEnds_no s n c f u W hn' hr (smallLen hsm) hu' h, fun W hr => specEnds_no s n c f u W hn' hr (smallLen hsm) hu' h, fun i hi => absurd hi (Nat.not_lt_zero _)⟩
open Classical in
theorem starts_bothM (s : Option Addr) (n c : Nat) (f : Nat → Atm) (t : ByteArray) (x : Int) (hn : n ≤ 5) (hsm : ∀ i, i < n → SmallA (f i)) (ht : t.size ≤ 28000) : ∃ (rn : Nat) (rf : Nat → Int), rn ≤ 1048576 ∧
      (∀ W, ARow W W.heap.size s n f → Calls Try.prog 18 #[.slice s n c, .string t, .int .i64 x] W fun r w' => NewInts W rn rf r w') ∧
      (∀ W, ARow W W.heap.size s n f → Calls Try.prog 19 #[.slice s n c, .string t, .int .i64 x] W fun r w' => NewInts W rn rf r w') := by
  have hn' : n ≤ maxLen := by unfold maxLen; omega
  have ht' : t.size ≤ maxLen := by unfold maxLen; omega
  by_cases h : StartsP n f t x
  · obtain ⟨h1, h2, h3, h4⟩ := h
    obtain ⟨e, rfl⟩ := Int.eq_ofNat_of_zero_le h3
    have hl2 := classL_len (fun s => decide (Cuts t (atomsL f n) s e)) e
    exact ⟨(classL (fun s => decide (Cuts t (atomsL f n) s e)) e).length, _, by omega,
      fun W hr => implStarts_yes s n c f t e _ W hn' hr (smallLen hsm) h1 h2 (by omega) (fun s _ => decide_eq_true_iff),
      fun W hr => specStarts_yes s n c f t e _ W hn' hr (smallLen hsm) h1 h2 (by omega) (fun s _ => decide_eq_true_iff)⟩
  · exact ⟨0, fun _ => 0, by omega, fun W hr => implStarts_no s n c f t x W hn' hr (smallLen hsm) ht' h, fun W hr => specStarts_no s n c f t x W hn' hr (smallLen hsm) ht' h⟩
open Classical in
theorem hits_bothM (sx : Option Addr) (k cx : Nat) (s : Nat → Option Addr) (n c : Nat → Nat) (f : Nat → Nat → Atm) (t : ByteArray) (_hk : k ≤ 3) (hsm : ∀ i, i < k → n i ≤ 5 ∧ ∀ j, j < n i → SmallA (f i j)) (_ht : t.size ≤ 28000) : ∃ L : List (Nat × Nat), L.length ≤ 3200000 ∧
      (∀ W, AARows W W.heap.size sx k s n c f → Calls Try.prog 21 #[.slice sx k cx, .string t] W fun r w' => NewHits W L r w') ∧
      (∀ W, AARows W W.heap.size sx k s n c f → Calls Try.prog 22 #[.slice sx k cx, .string t] W fun r w' => NewHits W L r w') := by
  have hn' : ∀ i, i < k → n i ≤ maxLen := fun i hi => by have := (hsm i hi).1; unfold maxLen; omega
  have hc' : ∀ i, i < k → ∀ j, j < n i → (f i j).c.size ≤ maxLen := fun i hi => smallLen (hsm i hi).2
  by_cases h : t.size ≤ 8000 ∧ k ≤ 400
  · by_cases hR : ∀ i, i < k → PatRight (n i) (f i)
    · have hp : ∀ i, i < k → ∀ e, e ≤ t.size → (decide (∃ s, s < e ∧ Cuts t (atomsL (f i) (n i)) s e) = true ↔ ∃ s, s < e ∧ Cuts t (atomsL (f i) (n i)) s e) := fun i _ e _ => decide_eq_true_iff
      have hl := hitsTo_len (fun i e => decide (∃ s, s < e ∧ Cuts t (atomsL (f i) (n i)) s e)) k t.size
      have hm : t.size * k ≤ 8000 * 400 := Nat.mul_le_mul h.1 h.2
      exact ⟨_, by omega, fun W hx => implHits_yes sx k cx s n c f t _ W h.2 h.1 hx hc' hR hp, fun W hx => specHits_yes sx k cx s n c f t _ W h.2 h.1 hx hc' hR hp⟩
    · have hN : ∃ i, i < k ∧ ¬ PatRight (n i) (f i) := Classical.byContradiction (fun h9 => hR (fun i hi => Classical.byContradiction (fun h8 => h9 ⟨i, hi, h8⟩)))
      exact ⟨[], Nat.zero_le _, fun W hx => implHits_no sx k cx s n c f t W h.2 h.1 hx hc' hn' hN, fun W hx => specHits_no sx k cx s n c f t W h.2 h.1 hx hc' hn' hN⟩
  · exact ⟨[], Nat.zero_le _, fun W hx => implHits_big sx k cx t W h, fun W hx => specHits_big sx k cx t W h⟩
open Classical in
/-- What is asked of a pattern and a text that it means, or does not. -/
structure MeansAll (s : Option Addr) (n c : Nat) (f : Nat → Atm) (t : ByteArray) (x : Bool) : Prop where
  impl : ∀ W, ARow W W.heap.size s n f → Calls Try.prog 10 #[.slice s n c, .string t] W fun r w' => r = .returned (.bool x) ∧ Below W.heap.size W w'
  spec : ∀ W, ARow W W.heap.size s n f → Calls Try.prog 15 #[.slice s n c, .string t] W fun r w' => r = .returned (.bool x) ∧ Below W.heap.size W w'
  right : ∃ rt : Bool, (∀ W, ARow W W.heap.size s n f → Calls Try.prog 23 #[.slice s n c] W fun r w' => r = .returned (.bool rt) ∧ Below W.heap.size W w') ∧
    (rt = true → ∃ fr : Nat → Atm, (∀ W, ARow W W.heap.size s n f → Calls Try.prog 24 #[.slice s n c] W fun r w' => NewAtoms W n fr r w') ∧
      ∀ (W : World) (y : Option Addr) (cy : Nat), ARow W W.heap.size y n fr → Calls Try.prog 10 #[.slice y n cy, .string (backT t)] W fun r w' => r = .returned (.bool x) ∧ Below W.heap.size W w')
  len : x = true → ∃ (lo hi : Int) (en : Nat) (ef : Nat → Int), lo ≤ (t.size : Int) ∧ (hi < 0 ∨ (t.size : Int) ≤ hi) ∧ (0 < t.size → 0 < en ∧ ef (en - 1) = (t.size : Int)) ∧ en ≤ 1048576 ∧
    (∀ W, ARow W W.heap.size s n f → Calls Try.prog 25 #[.slice s n c] W fun r w' => r = .returned (.int .i64 lo) ∧ Below W.heap.size W w') ∧
    (∀ W, ARow W W.heap.size s n f → Calls Try.prog 26 #[.slice s n c] W fun r w' => r = .returned (.int .i64 hi) ∧ Below W.heap.size W w') ∧
    ∀ W, ARow W W.heap.size s n f → Calls Try.prog 12 #[.slice s n c, .string t] W fun r w' => NewInts W en ef r w'
open Classical in
theorem means_all (s : Option Addr) (n c : Nat) (f : Nat → Atm) (t : ByteArray) (hn : n ≤ 5) (hsm : ∀ i, i < n → SmallA (f i)) (ht : t.size ≤ 28000) : MeansAll s n c f t (decide (FitsP n f t)) := by
  have hn' : n ≤ maxLen := by unfold maxLen; omega
  have ht' : t.size ≤ maxLen := by unfold maxLen; omega
  refine ⟨fun W hr => implFits_any s n c f t W hn' hr (smallLen hsm) ht', fun W hr => specFits_any s n c f t W hn' hr (smallLen hsm) ht', ⟨decide (PatRight n f), fun W hr => specPRight_any s n c f W hn' hr (smallLen hsm), fun hd => ?_⟩, fun hd => ?_⟩
  · have hP := of_decide_eq_true hd
    refine ⟨fun i => f (n - 1 - i), fun W hr => specRev_yes s n c f W (by omega) hr (smallLen hsm) hP, fun W y cy hr => ?_⟩
    refine (implFits_any y n cy (fun i => f (n - 1 - i)) (backT t) W hn' hr (fun i hi => smallLen hsm _ (by omega)) (by rw [back_size]; exact ht')).mono ?_
    rintro r w' ⟨h1, h2⟩
    refine ⟨?_, h2⟩
    rw [h1]
    congr 2
    exact decide_eq_decide.2 (fits_back hP)
  · have hF := of_decide_eq_true hd
    have hp : ∀ e, e ≤ t.size → (decide (∃ s, s < e ∧ Cuts t (atomsL f n) s e) = true ↔ ∃ s, s < e ∧ Cuts t (atomsL f n) s e) := fun e _ => decide_eq_true_iff
    have hl := classL_len (fun e => decide (∃ s, s < e ∧ Cuts t (atomsL f n) s e)) (t.size + 1)
    have hlen := fits_len hF
    have h8 := hF.1
    exact ⟨leastOf n f, mostOf n f, (classL (fun e => decide (∃ s, s < e ∧ Cuts t (atomsL f n) s e)) (t.size + 1)).length, _, hlen.1, hlen.2, fun h0 => last_end hF h0 hp, by omega,
      fun W hr => specLeast_yes s n c f W hn' hr (smallLen hsm) hF.2.1, fun W hr => specMost_yes s n c f W hn' hr (smallLen hsm) hF.2.1, fun W hr => implEnds_yes s n c f t _ W hn' hr (smallLen hsm) hF.1 hF.2.1 hp⟩
end Go.Proofs.Ytfeolbgenpknfaa
