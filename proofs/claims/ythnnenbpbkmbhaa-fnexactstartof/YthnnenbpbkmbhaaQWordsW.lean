/- What is proved here: how many words so many bits want, as the specification says it; the world stays. -/
import Derived.Test.YthnnenbpbkmbhaaQRowsDToVecS
namespace Go.Proofs.Ythnnenbpbkmbhaa
open Go.RowKit

theorem words_any (b : Int) (w : World) (h0 : 0 ≤ b) (h1 : b ≤ 320) :
    Calls Try.prog 183 #[.int .i64 b] w fun e w' => e = .returned (.int .i64 ((b + 31) / 32)) ∧ w' = w := by
  go_enter Try.func183, Try.ntmps183
  go_wp2
  go_ret
  exact ⟨rfl, rfl⟩
end Go.Proofs.Ythnnenbpbkmbhaa
