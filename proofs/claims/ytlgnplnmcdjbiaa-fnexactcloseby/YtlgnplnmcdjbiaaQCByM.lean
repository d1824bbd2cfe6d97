/- What is said here: the words of places that are closed by one subtraction under given masks; what they are put together of is right. -/
import Derived.Test.YtlgnplnmcdjbiaaQMaskDToMask5S
import Derived.Test.YtlgnplnmcdjbiaaQFnVecM
import Derived.Test.YtlgnplnmcdjbiaaQVecFToWordsForW
namespace Go.Proofs.Ytlgnplnmcdjbiaa
open Go.RowKit

theorem right_orM {b : Int} {n : Nat} {f g : Nat → Int} (h1 : Right b n f) (h2 : Right b n g) : Right b n (fun i => bits .or .i64 (f i) (g i)) := by
  refine ⟨h1.1, h1.2.1, h1.2.2.1, fun i hi => ?_, ?_⟩
  · have h := or_word (Nat.le_refl 32) (h1.word hi) (h2.word hi)
    have h3 : bits .or .i64 (f i) (g i) < 4294967296 := h.2
    exact ⟨h.1, Int.le_of_lt_add_one h3⟩
  · by_cases h0 : b % 32 = 0
    · exact Or.inl h0
    · exact Or.inr (or_word (k := (b % 32).toNat) (by omega) (h1.last h0) (h2.last h0)).2
theorem right_andM {b : Int} {n : Nat} {f g : Nat → Int} (h1 : Right b n f) (h2 : Right b n g) : Right b n (fun i => bits .and .i64 (f i) (g i)) := by
  refine ⟨h1.1, h1.2.1, h1.2.2.1, fun i hi => ?_, ?_⟩
  · have h := and_word (Nat.le_refl 32) (h1.word hi) (h2.word hi)
    have h3 : bits .and .i64 (f i) (g i) < 4294967296 := h.2
    exact ⟨h.1, Int.le_of_lt_add_one h3⟩
  · by_cases h0 : b % 32 = 0
    · exact Or.inl h0
    · exact Or.inr (and_word (k := (b % 32).toNat) (by omega) (h1.last h0) (h2.last h0)).2
theorem right_xorM {b : Int} {n : Nat} {f g : Nat → Int} (h1 : Right b n f) (h2 : Right b n g) : Right b n (fun i => bits .xor .i64 (f i) (g i)) := by
  refine ⟨h1.1, h1.2.1, h1.2.2.1, fun i hi => ?_, ?_⟩
  · have h := xor_word (Nat.le_refl 32) (h1.word hi) (h2.word hi)
    have h3 : bits .xor .i64 (f i) (g i) < 4294967296 := h.2
    exact ⟨h.1, Int.le_of_lt_add_one h3⟩
  · by_cases h0 : b % 32 = 0
    · exact Or.inl h0
    · exact Or.inr (xor_word (k := (b % 32).toNat) (by omega) (h1.last h0) (h2.last h0)).2
theorem right_notM {b : Int} {n : Nat} {f : Nat → Int} (h : Right b n f) : Right b n (cutF b n (notF f)) :=
  cut_right h.1 h.2.1 h.2.2.1 (fun i hi => by have := h.2.2.2.1 i hi; unfold notF; omega)
theorem right_subM {b : Int} {n : Nat} {f g : Nat → Int} (h : Right b n f) : Right b n (cutF b n (sumF 1 f (cutF b n (notF g)))) :=
  cut_right h.1 h.2.1 h.2.2.1 (fun i _ => by unfold sumF; omega)
/-- The steps of one subtraction: First, Last, Block, the places. -/
def cyD (l g : Nat → Int) : Nat → Int := fun i => bits .or .i64 (g i) (l i)
def cyS (b : Int) (n : Nat) (f l g : Nat → Int) : Nat → Int := cutF b n (sumF 1 (cyD l g) (cutF b n (notF f)))
def cyX (b : Int) (n : Nat) (f l g : Nat → Int) : Nat → Int := fun i => bits .xor .i64 (cyS b n f l g i) (cyD l g i)
def cyN (b : Int) (n : Nat) (f l g : Nat → Int) : Nat → Int := cutF b n (notF (cyX b n f l g))
def cyA (b : Int) (n : Nat) (f l k g : Nat → Int) : Nat → Int := fun i => bits .and .i64 (k i) (cyN b n f l g i)
def cyF (b : Int) (n : Nat) (f l k g : Nat → Int) : Nat → Int := fun i => bits .or .i64 (g i) (cyA b n f l k g i)
theorem cyD_right {b : Int} {n : Nat} {l g : Nat → Int} (hl : Right b n l) (hg : Right b n g) : Right b n (cyD l g) := right_orM hg hl
theorem cyS_right {b : Int} {n : Nat} {f l g : Nat → Int} (hl : Right b n l) (hg : Right b n g) : Right b n (cyS b n f l g) := right_subM (cyD_right hl hg)
theorem cyX_right {b : Int} {n : Nat} {f l g : Nat → Int} (hl : Right b n l) (hg : Right b n g) : Right b n (cyX b n f l g) := right_xorM (cyS_right hl hg) (cyD_right hl hg)
theorem cyN_right {b : Int} {n : Nat} {f l g : Nat → Int} (hl : Right b n l) (hg : Right b n g) : Right b n (cyN b n f l g) := right_notM (cyX_right hl hg)
theorem cyA_right {b : Int} {n : Nat} {f l k g : Nat → Int} (hl : Right b n l) (hk : Right b n k) (hg : Right b n g) : Right b n (cyA b n f l k g) := right_andM hk (cyN_right hl hg)
theorem own_low {W : World} {lo lo' n : Nat} {s : Option Addr} {f : Nat → Int} (h : OwnS W lo s n f) (hl : lo' ≤ lo) : OwnS W lo' s n f := by
  rcases h with h | ⟨g5, h1, h2, h3⟩
  · exact Or.inl h
  · exact Or.inr ⟨g5, h1, Nat.le_trans hl h2, h3⟩
theorem right_pos {b : Int} {n : Nat} {f : Nat → Int} (h : Right b n f) : 0 < n := by
  have h1 := h.1
  have h2 := h.2.2.1
  omega
end Go.Proofs.Ytlgnplnmcdjbiaa
