/- What is proved here: a vector's marks, its words in a stretch of blocks. -/
import Derived.Test.YthnnenbpbkmbhaaQRowsDToVecS
import Derived.Test.YthnnenbpbkmbhaaQVecHMarkW
namespace Go.Proofs.Ythnnenbpbkmbhaa
open Go.RowKit

theorem markVec_in (b : Int) (sa : Option Addr) (n cap lo hi : Nat) (f : Nat → Int) (k : Int) (w : World) (hn : n ≤ 1048576) (h0 : 0 ≤ k) (h1 : k ≤ 1099511627776) (ho : Slice w lo hi sa n f) :
    Calls Try.prog 35 #[.agg #[.int .i64 b, .slice sa n cap], .int .i64 k] w fun e w' => e = .returned (.int .i64 (k + n)) ∧ OnlyIn w w' lo hi ∧ Slice w' lo hi sa n (fun i => k + i) := by
  refine (markVec_any b sa n cap lo f k w hn h0 h1 ho.own).mono ?_
  rintro e w' ⟨rfl, ⟨row, hg, hr⟩, hs⟩
  have hin : ∀ g, sa = some ⟨g, 0, none⟩ → 0 < n → lo ≤ g ∧ g < hi := by
    intro g hg hn
    rcases ho with h | ⟨g', h1, h2, h3, h4⟩
    · omega
    · rw [h1] at hg
      injection hg with hg
      injection hg with hg
      subst hg
      exact ⟨h2, h3⟩
  refine ⟨rfl, ⟨row, hg, fun g e => hin g (hr g e).2 (hr g e).1⟩, ?_⟩
  rcases hs with h | ⟨g, h1, h2, h3⟩
  · exact Or.inl h
  · rcases Nat.eq_zero_or_pos n with hz | hz
    · exact Or.inl hz
    · exact Or.inr ⟨g, h1, h2, (hin g h1 hz).2, h3⟩
end Go.Proofs.Ythnnenbpbkmbhaa
