/- What is proved here: how many words so many bits want, as the program says it; the world stays. -/
import Derived.Test.YthnnenbpbkmbhaaQRowsDToVecS
namespace Go.Proofs.Ythnnenbpbkmbhaa
open Go.RowKit

theorem wordsFor_any (b : Int) (w : World) (h0 : 0 ≤ b) (h1 : b ≤ 320) :
    Calls Try.prog 157 #[.int .i64 b] w fun e w' => e = .returned (.int .i64 ((b + 31) / 32)) ∧ w' = w := by
  have h2 : b + 32 - 1 = b + 31 := by omega
  go_enter Try.func157, Try.ntmps157
  go_wp2
  go_ret
  exact ⟨by first | rfl | (rw [h2]), rfl⟩
end Go.Proofs.Ythnnenbpbkmbhaa
