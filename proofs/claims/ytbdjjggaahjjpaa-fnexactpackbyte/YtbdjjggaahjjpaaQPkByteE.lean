/- What is proved here: the law of PackByte walks to true at every input, and nothing that was there turns. -/
import Derived.Test.YtbdjjggaahjjpaaQPkByteL
import Derived.Test.YtbdjjggaahjjpaaQImplPkByteW
import Derived.Test.YtbdjjggaahjjpaaQSpecPkByteW
namespace Go.Proofs.Ytbdjjggaahjjpaa
open Go.RowKit

theorem word_ex (P : Nat → Bool) : ∀ n, ∃ x, x < 2 ^ n ∧ ∀ q, q < n → x.testBit q = P q
  | 0 => ⟨0, by decide, fun q hq => absurd hq (Nat.not_lt_zero _)⟩
  | n + 1 => by
    obtain ⟨x, hx, hb⟩ := word_ex P n
    cases h : P n with
    | false =>
      refine ⟨x, Nat.lt_of_lt_of_le hx (Nat.pow_le_pow_right (by decide) (by omega)), fun q hq => ?_⟩
      by_cases e : q = n
      · subst e
        rw [h]
        exact Nat.testBit_lt_two_pow hx
      · exact hb q (by omega)
    | true =>
      refine ⟨x ||| 2 ^ n, Nat.or_lt_two_pow (Nat.lt_of_lt_of_le hx (Nat.pow_le_pow_right (by decide) (by omega))) (Nat.pow_lt_pow_right (by decide) (by omega)), fun q hq => ?_⟩
      rw [Nat.testBit_or, Nat.testBit_two_pow]
      by_cases e : q = n
      · subst e
        rw [h]
        simp
      · rw [hb q (by omega), decide_eq_false (fun e2 => e e2.symm), Bool.or_false]
theorem vecIs_ex (P : Nat → Bool) (M : Nat) : ∃ f, VecIs f P M :=
  ⟨fun i => ((Classical.choose (word_ex (fun q => P (32 * i + q)) 32) : Nat) : Int), fun i _ => ⟨_, rfl, (Classical.choose_spec (word_ex (fun q => P (32 * i + q)) 32)).1, (Classical.choose_spec (word_ex (fun q => P (32 * i + q)) 32)).2⟩⟩
theorem newVec_same {w : World} {b : Int} {n : Nat} {f g : Nat → Int} {e : Ending} {w' : World} (h : NewVec w b n f e w') (hfg : ∀ i, i < n → f i = g i) : NewVec w b n g e w' := by
  obtain ⟨s, c, h1, h2, h3⟩ := h
  exact ⟨s, c, h1, h2, h3.imp id (fun ⟨x, h4, h5, h6⟩ => ⟨x, h4, h5, h6.congr hfg⟩)⟩
theorem end_PackByte (sr sm : Option Addr) (cr cm : Nat) (P : Pk) (en : Int) (bo : Bool) (w : World) (hk : P.k ≤ maxLen) (hm : P.m ≤ maxLen) (hr : PkRead w sr sm P) (hn : ∀ i, i < P.k → P.n i ≤ maxLen) (hc : ∀ i, i < P.k → ∀ j, j < P.n i → (P.f i j).c.size ≤ maxLen) (_he : (Lit.int .i64 en).wf = true) :
    Calls Try.prog 6 #[.agg #[.slice sr P.k cr, .slice sm P.m cm, .int .i64 P.b], .int .i64 en, .bool bo] w fun e w' => e = .returned (.bool true) ∧ Below w.heap.size w w' := by
  by_cases h : PkByteP P en
  · obtain ⟨rf, hrf⟩ := vecIs_ex (layK (fun i => P.n i + 1) (rowB P.f P.n en.toNat bo) P.k) ((atP P.n P.k + 31) / 32)
    have h320 := h.1.2.2.2.2
    have hb := h.1.2.2.2.1
    refine law_PackByte sr sm cr cm P en bo P.b ((atP P.n P.k + 31) / 32) rf w hk hm hr hn hc (by omega) (fun W x y cx cy hx => (specPkByte_any x y cx cy P en bo W ⟨hk, hm, hn, hc⟩ hx).mono ?_) (fun W x y cx cy hx => (implPkByte_any x y cx cy P en bo W ⟨hk, hm, hn, hc⟩ hx).mono ?_)
    · rintro e W' (⟨_, g, h1, h2⟩ | ⟨h1, _⟩)
      · exact newVec_same h1 (h2.uniq hrf)
      · exact absurd h h1
    · rintro e W' (⟨_, g, h1, h2⟩ | ⟨h1, _⟩)
      · exact newVec_same h1 (h2.uniq hrf)
      · exact absurd h h1
  · refine law_PackByte sr sm cr cm P en bo 0 0 (fun _ => 0) w hk hm hr hn hc (by omega) (fun W x y cx cy hx => (specPkByte_any x y cx cy P en bo W ⟨hk, hm, hn, hc⟩ hx).mono ?_) (fun W x y cx cy hx => (implPkByte_any x y cx cy P en bo W ⟨hk, hm, hn, hc⟩ hx).mono ?_)
    · rintro e W' (⟨h1, _⟩ | ⟨_, h1⟩)
      · exact absurd h1 h
      · exact h1
    · rintro e W' (⟨h1, _⟩ | ⟨_, h1⟩)
      · exact absurd h1 h
      · exact h1
end Go.Proofs.Ytbdjjggaahjjpaa
