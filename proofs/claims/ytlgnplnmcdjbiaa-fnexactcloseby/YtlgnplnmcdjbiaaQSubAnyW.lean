/- What is proved here: the specification takes one row of words from another, in new memory; nothing that was there turns. -/
import Derived.Test.YtlgnplnmcdjbiaaQVecTwoW
import Derived.Test.YtlgnplnmcdjbiaaQVecAddW
import Derived.Test.YtlgnplnmcdjbiaaQVecNotW
import Derived.Deep.RegionWith
namespace Go.Proofs.Ytlgnplnmcdjbiaa
open Go.RowKit

theorem cut_range {b : Int} {n : Nat} {f : Nat → Int} (h : ∀ i, i < n → 0 ≤ f i ∧ f i ≤ 4294967295) : ∀ i, i < n → 0 ≤ cutF b n f i ∧ cutF b n f i ≤ 4294967295 := by
  intro i hi
  have := h i hi
  unfold cutF
  split
  · have hp : (0 : Int) < 2 ^ (b % 32).toNat := Int.pow_pos (by decide)
    have h1 := Int.emod_nonneg (f i) (Int.ne_of_gt hp)
    have h2 : f i % 2 ^ (b % 32).toNat ≤ f i := by
      have h3 := Int.emod_add_mul_ediv (f i) (2 ^ (b % 32).toNat)
      have h4 : 0 ≤ 2 ^ (b % 32).toNat * (f i / 2 ^ (b % 32).toNat) := Int.mul_nonneg (Int.le_of_lt hp) (Int.ediv_nonneg this.1 (Int.le_of_lt hp))
      omega
    omega
  · omega
set_option maxRecDepth 100000 in
set_option maxHeartbeats 4000000 in
theorem sub_any (b : Int) (sa sb : Option Addr) (n ka kb : Nat) (f g : Nat → Int) (w : World) (hbb : 1 ≤ b) (hbc : b ≤ 320) (hf : ∀ i, i < n → 0 ≤ f i ∧ f i ≤ 4294967295) (hg : ∀ i, i < n → 0 ≤ g i ∧ g i ≤ 4294967295) (hn0 : 0 < n) (hn : n ≤ 1048576) (ha : Row w w.heap.size sa n f) (hb : Row w w.heap.size sb n g) :
    Calls Try.prog 120 #[.agg #[.int .i64 b, .slice sa n ka], .agg #[.int .i64 b, .slice sb n kb]] w fun e w' => NewVec w b n (cutF b n (sumF 1 f (cutF b n (notF g)))) e w' := by
  have HA : Hid (Row w w.heap.size sa n f) := ha
  have HB : Hid (Row w w.heap.size sb n g) := hb
  have HF : Hid (∀ i, i < n → 0 ≤ f i ∧ f i ≤ 4294967295) := hf
  have HGG : Hid (∀ i, i < n → 0 ≤ g i ∧ g i ≤ 4294967295) := hg
  have HNG : Hid (∀ i, i < n → 0 ≤ cutF b n (notF g) i ∧ cutF b n (notF g) i ≤ 4294967295) := cut_range (fun i hi => by have := hg i hi; unfold notF; omega)
  clear ha hb hf hg
  go_enter Try.func120, Try.ntmps120
  go_wp2_with fail
  have q1 := boxing w 45 b sa n ka
  generalize w.alloc (.cells #[.int .i64 b, .slice sa n ka] 45) = v1 at *
  have q2 := boxing v1 45 b sb n kb
  generalize v1.alloc (.cells #[.int .i64 b, .slice sb n kb] 45) = v2 at *
  have q3 := boxing v2 45 0 none 0 0
  generalize v2.alloc (.cells #[.int .i64 0, .slice none 0 0] 45) = v3 at *
  have X1 : Hid (Boxed v3 w.heap.size 45 b sa n ka) := (q1.2.1.kept q2.1 rfl).kept q3.1 rfl
  have X2 : Hid (Boxed v3 (w.heap.size + 1) 45 b sb n kb) := by rw [← q1.2.2]; exact q2.2.1.kept q3.1 rfl
  have X3 : Hid (Boxed v3 (w.heap.size + 2) 45 0 none 0 0) := by rw [show w.heap.size + 2 = v2.heap.size by rw [q2.2.2, q1.2.2]]; exact q3.2.1
  have S3 : Hid (Since w v3) := since_call (since_call (since_call (since_refl _) q1.1) q2.1) q3.1
  have z3 : v3.heap.size = w.heap.size + 3 := by rw [q3.2.2, q2.2.2, q1.2.2]
  have RA : Hid (Row v3 v3.heap.size sa n f) := row_since HA.out S3.out
  have RB : Hid (Row v3 v3.heap.size sb n g) := row_since HB.out S3.out
  clear q1 q2 q3
  obtain ⟨ca0, ca1⟩ := X1.out.cells
  obtain ⟨cb0, cb1⟩ := X2.out.cells
  have l1 := X1.out.lt
  have l2 := X2.out.lt
  have l3 := X3.out.lt
  go_region_with (first
    | (go_at_call 118; refine (not_any b sb n kb g _ hbb hbc HGG.out hn0 hn (row_since RB.out (by exact since_drew (since_refl _)))).mono ?_; rintro e w' ⟨s, c, rfl, hb, ho⟩; have hS : Since v3 w' := since_call (since_drew (since_refl _)) hb; obtain ⟨ca0, ca1⟩ := (X1.out.since hS).cells; have l1 := (X1.out.since hS).lt; unfold vecV)
    | (go_at_call 185; refine (add_any b b sa _ n ka _ f (cutF b n (notF g)) 1 _ hbb hbc (by omega) (by omega) HF.out HNG.out hn0 hn (row_since RA.out (by assumption)) ((by assumption : OwnS _ _ _ _ _).row)).mono ?_; rintro e w'' ⟨sx, cx, rfl, hb2, ho2⟩; have hS2 : Since v3 w'' := (by refine since_call ?_ hb2; assumption); obtain ⟨cc0, cc1, cc2, cc3⟩ := (X3.out.since hS2).four; have l3 := (X3.out.since hS2).lt; unfold vecV))
  all_goals
    have SW : Hid (Since w w'') := since_call S3.out hS2.below
    have HO : Hid (OwnS w'' w'.heap.size sx n (cutF b n (sumF 1 f (cutF b n (notF g))))) := ho2
    have hz : v3.heap.size ≤ w'.heap.size := hS.size
    clear hb2 ho2 hb ho
    go_wp2
    refine bodyPost_ret (v := vecV b sx n cx) (by simp [results, Try.results120, go_sem, vecV, cc0, cc1]) rfl ?_
    refine ⟨_, _, rfl, (since_set (since_set SW.out (by show w.heap.size ≤ w.heap.size + 2; omega)) (by show w.heap.size ≤ w.heap.size + 2; omega)).below, ?_⟩
    rcases HO.out with h | ⟨g5, h1, h2, h3⟩
    · exact Or.inl h
    · exact Or.inr ⟨g5, h1, by omega, (h3.setOther _ _ (by show w.heap.size + 2 ≠ g5; omega)).setOther _ _ (by show w.heap.size + 2 ≠ g5; omega)⟩
end Go.Proofs.Ytlgnplnmcdjbiaa
