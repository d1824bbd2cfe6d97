/- What is said here: the words of what is cut, added and turned, as plain functions.
   What is proved here: how many words so many bits want, as the program says it; the world stays. -/
import Derived.Test.YtlgnplnmcdjbiaaQVecSpecW
import Derived.Test.YtlgnplnmcdjbiaaQRowsDToVecS
namespace Go.Proofs.Ytlgnplnmcdjbiaa
open Go.RowKit

/-- The words, the bits behind the last turned off. -/
def cutF (b : Int) (n : Nat) (f : Nat → Int) : Nat → Int := fun i => if i + 1 = n ∧ 0 < b % 32 then f i % 2 ^ (b % 32).toNat else f i
/-- The carry into word k. -/
def carryF (cr : Int) (f g : Nat → Int) : Nat → Int
  | 0 => cr
  | k + 1 => (f k + g k + carryF cr f g k) / 4294967296
/-- The words of a sum. -/
def sumF (cr : Int) (f g : Nat → Int) : Nat → Int := fun i => (f i + g i + carryF cr f g i) % 4294967296
theorem carry_range {cr : Int} {f g : Nat → Int} {n : Nat} (h0 : 0 ≤ cr) (h1 : cr ≤ 1) (hf : ∀ i, i < n → 0 ≤ f i ∧ f i ≤ 4294967295) (hg : ∀ i, i < n → 0 ≤ g i ∧ g i ≤ 4294967295) : ∀ k, k ≤ n → 0 ≤ carryF cr f g k ∧ carryF cr f g k ≤ 1
  | 0, _ => ⟨h0, h1⟩
  | k + 1, hk => by
    have ih := carry_range h0 h1 hf hg k (by omega)
    have a := hf k (by omega)
    have b := hg k (by omega)
    unfold carryF
    omega
/-- The words turned. -/
def notF (f : Nat → Int) : Nat → Int := fun i => 4294967295 - f i
end Go.Proofs.Ytlgnplnmcdjbiaa
namespace Go.Proofs.Ytlgnplnmcdjbiaa
open Go.RowKit

theorem wordsFor_any (b : Int) (w : World) (h0 : 0 ≤ b) (h1 : b ≤ 320) :
    Calls Try.prog 175 #[.int .i64 b] w fun e w' => e = .returned (.int .i64 ((b + 31) / 32)) ∧ w' = w := by
  have h2 : b + 32 - 1 = b + 31 := by omega
  go_enter Try.func175, Try.ntmps175
  go_wp2
  go_ret
  exact ⟨by first | rfl | (rw [h2]), rfl⟩
end Go.Proofs.Ytlgnplnmcdjbiaa
