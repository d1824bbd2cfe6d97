/- What is proved here: what the class functions hand back, as plain functions that are nothing but what the document says, and what holds of them. -/
import Derived.Test.YtcppbddjboobhaaDoorClassAlg
namespace Go.Proofs.YtcppbddjboobhaaDoor
open Go.RowKit

/-- What ClassHas says. -/
def HasP (c : ByteArray) (b : Int) : Prop := RightC c ∧ 0 ≤ b ∧ b ≤ 255 ∧ hasByte c b.toNat = true
/-- The functions over classes, by what they hand back. -/
structure Alg (O A : ByteArray → ByteArray → ByteArray) (N F : ByteArray → ByteArray) (H : ByteArray → Int → Bool) (R : ByteArray → Bool) : Prop where
  o1 : ∀ a b, RightC a → RightC b → O a b = classT (fun i => hasByte a i || hasByte b i)
  o2 : ∀ a b, ¬ (RightC a ∧ RightC b) → O a b = ⟨#[]⟩
  a1 : ∀ a b, RightC a → RightC b → A a b = classT (fun i => hasByte a i && hasByte b i)
  a2 : ∀ a b, ¬ (RightC a ∧ RightC b) → A a b = ⟨#[]⟩
  n1 : ∀ a, RightC a → N a = classT (fun i => !hasByte a i)
  n2 : ∀ a, ¬ RightC a → N a = ⟨#[]⟩
  f1 : ∀ a, RightC a → F a = classT (foldB (hasByte a) 26)
  f2 : ∀ a, ¬ RightC a → F a = ⟨#[]⟩
  h1 : ∀ c b, H c b = true ↔ HasP c b
  r1 : ∀ c, R c = true ↔ RightC c
open Classical in
theorem alg_some : ∃ O A N F H R, Alg O A N F H R :=
  ⟨fun a b => if RightC a ∧ RightC b then classT (fun i => hasByte a i || hasByte b i) else ⟨#[]⟩,
   fun a b => if RightC a ∧ RightC b then classT (fun i => hasByte a i && hasByte b i) else ⟨#[]⟩,
   fun a => if RightC a then classT (fun i => !hasByte a i) else ⟨#[]⟩,
   fun a => if RightC a then classT (foldB (hasByte a) 26) else ⟨#[]⟩,
   fun c b => decide (HasP c b), fun c => decide (RightC c),
   { o1 := fun a b h1 h2 => if_pos ⟨h1, h2⟩, o2 := fun a b h => if_neg h, a1 := fun a b h1 h2 => if_pos ⟨h1, h2⟩, a2 := fun a b h => if_neg h,
     n1 := fun a h => if_pos h, n2 := fun a h => if_neg h, f1 := fun a h => if_pos h, f2 := fun a h => if_neg h, h1 := fun c b => by simp, r1 := fun c => by simp }⟩
section
variable {O A : ByteArray → ByteArray → ByteArray} {N F : ByteArray → ByteArray} {H : ByteArray → Int → Bool} {R : ByteArray → Bool}
theorem empty_size : (⟨#[]⟩ : ByteArray).size ≤ 256 := by decide
theorem Alg.o_size (g : Alg O A N F H R) (a b : ByteArray) : (O a b).size ≤ 256 := by
  by_cases h : RightC a ∧ RightC b
  · rw [g.o1 a b h.1 h.2]; exact classT_size _
  · rw [g.o2 a b h]; exact empty_size
theorem Alg.a_size (g : Alg O A N F H R) (a b : ByteArray) : (A a b).size ≤ 256 := by
  by_cases h : RightC a ∧ RightC b
  · rw [g.a1 a b h.1 h.2]; exact classT_size _
  · rw [g.a2 a b h]; exact empty_size
theorem Alg.n_size (g : Alg O A N F H R) (a : ByteArray) : (N a).size ≤ 256 := by
  by_cases h : RightC a
  · rw [g.n1 a h]; exact classT_size _
  · rw [g.n2 a h]; exact empty_size
theorem Alg.f_size (g : Alg O A N F H R) (a : ByteArray) : (F a).size ≤ 256 := by
  by_cases h : RightC a
  · rw [g.f1 a h]; exact classT_size _
  · rw [g.f2 a h]; exact empty_size
theorem Alg.has (g : Alg O A N F H R) (f : Nat → Bool) (k : Nat) (hk : k < 256) : H (classT f) (k : Int) = f k := by
  apply bool_of_iff
  rw [g.h1]
  unfold HasP
  rw [Int.toNat_natCast, classT_has, decide_eq_true hk, Bool.true_and]
  exact ⟨fun h => h.2.2.2, fun h => ⟨classT_right f, by omega, by omega, h⟩⟩
theorem Alg.hasR (g : Alg O A N F H R) {c : ByteArray} (h : RightC c) (k : Nat) (hk : k < 256) : H c (k : Int) = hasByte c k := by
  have := g.has (hasByte c) k hk
  rwa [classT_self h] at this
theorem Alg.none (g : Alg O A N F H R) (k : Int) : H ⟨#[]⟩ k = false := by
  cases h : H ⟨#[]⟩ k
  · rfl
  · have := (g.h1 _ _).1 h
    have := this.2.2.2
    rw [has_empty] at this
    cases this
theorem classT_none {f : Nat → Bool} (h : ∀ i, i < 256 → f i = false) : classT f = ⟨#[]⟩ := by
  apply nums_inj
  rw [nums_classT, List.filter_eq_nil_iff.2]
  · rfl
  · intro a ha
    rw [h a (List.mem_range.1 ha)]
    decide
theorem Alg.ff (g : Alg O A N F H R) (a : ByteArray) : F (F a) = F a := by
  by_cases h : RightC a
  · rw [g.f1 a h, g.f1 _ (classT_right _)]
    exact classT_congr (fun i hi => fold_idem _ i hi)
  · rw [g.f2 a h, g.f1 _ right_empty]
    exact classT_none (fun i _ => by unfold foldB; simp [has_empty])
theorem Alg.letter (g : Alg O A N F H R) (a : ByteArray) : H (F a) 97 = H (F a) 65 := by
  by_cases h : RightC a
  · rw [g.f1 a h]
    have e1 := g.has (foldB (hasByte a) 26) 97 (by decide)
    have e2 := g.has (foldB (hasByte a) 26) 65 (by decide)
    have e3 : foldB (hasByte a) 26 97 = foldB (hasByte a) 26 65 := rfl
    rw [e3] at e1
    exact e1.trans e2.symm
  · rw [g.f2 a h, g.none, g.none]
theorem Alg.made (g : Alg O A N F H R) (t : ByteArray) (k : Nat) (hk : k < t.size) : H (classT (hasByte t)) (t[k].toNat : Int) = true := by
  rw [g.has _ _ t[k].toNat_lt]
  unfold hasByte
  rw [List.any_eq_true]
  exact ⟨t.data.toList[k]'(by simpa using hk), List.getElem_mem _, by rw [beq_iff_eq]; rfl⟩
theorem Alg.or (g : Alg O A N F H R) {a b : ByteArray} (ha : RightC a) (hb : RightC b) (k : Nat) (hk : k < 256) : H (O a b) (k : Int) = (H a (k : Int) || H b (k : Int)) := by
  rw [g.o1 a b ha hb, g.has _ k hk, g.hasR ha k hk, g.hasR hb k hk]
theorem Alg.and (g : Alg O A N F H R) {a b : ByteArray} (ha : RightC a) (hb : RightC b) (k : Nat) (hk : k < 256) : H (A a b) (k : Int) = (H a (k : Int) && H b (k : Int)) := by
  rw [g.a1 a b ha hb, g.has _ k hk, g.hasR ha k hk, g.hasR hb k hk]
theorem Alg.not (g : Alg O A N F H R) {a : ByteArray} (ha : RightC a) (k : Nat) (hk : k < 256) : H (N a) (k : Int) = !H a (k : Int) := by
  rw [g.n1 a ha, g.has _ k hk, g.hasR ha k hk]
theorem Alg.nn (g : Alg O A N F H R) {a : ByteArray} (ha : RightC a) : N (N a) = a := by
  rw [g.n1 a ha, g.n1 _ (classT_right _)]
  have e : classT (fun i => !hasByte (classT fun i => !hasByte a i) i) = classT (hasByte a) := classT_congr (fun i hi => by rw [classT_has, decide_eq_true hi, Bool.true_and, Bool.not_not])
  rw [e, classT_self ha]
end
end Go.Proofs.YtcppbddjboobhaaDoor
