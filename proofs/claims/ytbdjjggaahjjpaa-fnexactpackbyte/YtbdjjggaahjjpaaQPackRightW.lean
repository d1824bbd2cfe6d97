/- What is proved here: the program's PackRight says whether a pack is right; nothing that was there turns. -/
import Derived.Test.YtbdjjggaahjjpaaQPackOfW
import Derived.Test.YtbdjjggaahjjpaaQRowsRightW
import Derived.Test.YtbdjjggaahjjpaaQLaidMToEqualW
import Derived.Test.YtbdjjggaahjjpaaQImplCRightWToImplKRightW
namespace Go.Proofs.Ytbdjjggaahjjpaa
open Go.RowKit

/-- Nothing of a pack is longer than it can be. -/
def PkSize (P : Pk) : Prop := P.k ≤ maxLen ∧ P.m ≤ maxLen ∧ (∀ i, i < P.k → P.n i ≤ maxLen) ∧ ∀ i, i < P.k → ∀ j, j < P.n i → (P.f i j).c.size ≤ maxLen
open Classical in
set_option maxHeartbeats 2000000 in
theorem implPackRight_any (sr sm : Option Addr) (cr cm : Nat) (P : Pk) (w : World) (hz : PkSize P) (hr : PkRead w sr sm P) :
    Calls Try.prog 10 #[.agg #[.slice sr P.k cr, .slice sm P.m cm, .int .i64 P.b]] w fun e w' => e = .returned (.bool (decide (PkOk P))) ∧ Below w.heap.size w w' := by
  obtain ⟨⟨s, c, hrr⟩, hra⟩ := hr
  have hb0 : Below w.heap.size w (w.alloc (.cells #[.slice sr P.k cr, .slice sm P.m cm, .int .i64 P.b] 30)) := (Below.refl _ _).alloc (Nat.le_refl _) _
  have HB0 : Hid (Below w.heap.size w (w.alloc (.cells #[.slice sr P.k cr, .slice sm P.m cm, .int .i64 P.b] 30))) := hb0
  have HX0 : Hid (Box3 (w.alloc (.cells #[.slice sr P.k cr, .slice sm P.m cm, .int .i64 P.b] 30)) w.heap.size (.slice sr P.k cr) (.slice sm P.m cm) (.int .i64 P.b)) := Box3.new w _ _ _ _
  have HZ0 : Hid (w.heap.size < (w.alloc (.cells #[.slice sr P.k cr, .slice sm P.m cm, .int .i64 P.b] 30)).heap.size) := by show _ < _; simp
  have C1 := rowsRight_any sr P.k cr s P.n c P.f _ hz.1 (hrr.late hb0) (fun i hi W hW => implKRight_any (s i) (P.n i) (c i) (P.f i) W (hz.2.2.1 i hi) hW (hz.2.2.2 i hi))
  have HRR : Hid (∀ W, Below w.heap.size w W → CCRows W W.heap.size sr P.k s P.n c P.f) := fun W hW => hrr.late hW
  have HRA : Hid (∀ W, Below w.heap.size w W → Row W W.heap.size sm P.m P.a) := fun W hW => (hra.kept hW).up hW.size
  have HZ : Hid (PkSize P) := hz
  have hm9 : P.m ≤ maxLen := hz.2.1
  clear hb0 hrr hra hz
  by_cases hrow : 1 ≤ P.k ∧ P.k ≤ 6 ∧ ∀ i, i < P.k → CellsOk (P.n i) (P.f i)
  · rw [decide_eq_true hrow] at C1
    have HN : Hid (∀ i, i < P.k → P.n i ≤ 60) := fun i hi => (hrow.2.2 i hi).2.1
    have HROW : Hid (1 ≤ P.k ∧ P.k ≤ 6 ∧ ∀ i, i < P.k → CellsOk (P.n i) (P.f i)) := hrow
    have hk6 : P.k ≤ 6 := hrow.2.1
    have C2 : Hid (∀ W, Below w.heap.size w W → Calls Try.prog 37 #[.slice sr P.k cr] W fun e w' => ∃ (sx : Option Addr) (cx : Nat), e = .returned (.agg #[.slice sr P.k cr, .slice sx P.k cx, .int .i64 (atP P.n P.k : Int)]) ∧ Below W.heap.size W w' ∧ OwnS w' W.heap.size sx P.k (fun i => (atP P.n i : Int))) := fun W hW => packOf_any sr P.k cr s P.n c P.f W hk6 HN.out (HRR.out W hW)
    obtain ⟨q, hq⟩ : ∃ q : Int, (atP P.n P.k : Int) = q := ⟨_, rfl⟩
    obtain ⟨D, hD⟩ : ∃ D, decide (P.m = P.k ∧ ∀ i, i < P.m → P.a i = (atP P.n i : Int)) = D := ⟨_, rfl⟩
    have HD : Hid (decide (P.m = P.k ∧ ∀ i, i < P.m → P.a i = (atP P.n i : Int)) = D) := hD
    have hok : decide (PkOk P) = (D && decide (P.b = q) && decide (P.b ≤ 320)) := by
      rw [← hD, ← hq, Bool.eq_iff_iff]
      simp only [Bool.and_eq_true, decide_eq_true_eq]
      unfold PkOk
      constructor
      · rintro ⟨_, h2, h3, h4, h5⟩
        exact ⟨⟨⟨h2, fun i hi => h3 i (by omega)⟩, h4⟩, h5⟩
      · rintro ⟨⟨⟨h2, h3⟩, h4⟩, h5⟩
        exact ⟨hrow, h2, fun i hi => h3 i (by omega), h4, h5⟩
    rw [hok]
    have HQ : Hid ((atP P.n P.k : Int) = q) := hq
    clear hq hD hok hrow
    go_enter Try.func10, Try.ntmps10
    go_wp2_with fail
    generalize w.alloc (.cells #[.slice sr P.k cr, .slice sm P.m cm, .int .i64 P.b] 30) = w0 at *
    refine C1.mono ?_
    rintro e w1 ⟨rfl, hb⟩
    have B1 : Hid (Below w.heap.size w w1) := HB0.out.trans (hb.mono HB0.out.size)
    have X1 : Hid (Box3 w1 w.heap.size (.slice sr P.k cr) (.slice sm P.m cm) (.int .i64 P.b)) := HX0.out.kept hb HZ0.out
    have Z1 : Hid (w.heap.size < w1.heap.size) := Nat.lt_of_lt_of_le HZ0.out hb.size
    clear hb C1
    obtain ⟨a0, a1, a2, _, _, _⟩ := X1.out.all
    go_wp2_with fail
    refine (C2.out w1 B1.out).mono ?_
    clear a0 a1 a2
    rintro e w2 ⟨sx, cx, rfl, hb, ho⟩
    rw [HQ.out]
    have B2 : Hid (Below w.heap.size w w2) := B1.out.trans (hb.mono B1.out.size)
    have X2 : Hid (Box3 w2 w.heap.size (.slice sr P.k cr) (.slice sm P.m cm) (.int .i64 P.b)) := X1.out.kept hb Z1.out
    have Z2 : Hid (w.heap.size < w2.heap.size) := Nat.lt_of_lt_of_le Z1.out hb.size
    have O2 : Hid (Row w2 w2.heap.size sx P.k (fun i => (atP P.n i : Int))) := ho.row
    have hb3 : Below w2.heap.size w2 (w2.alloc (.cells #[.slice sr P.k cr, .slice sx P.k cx, .int .i64 q] 30)) := (Below.refl _ _).alloc (Nat.le_refl _) _
    have C3 := equal_any sm sx P.m P.k cm cx P.a (fun i => (atP P.n i : Int)) (w2.alloc (.cells #[.slice sr P.k cr, .slice sx P.k cx, .int .i64 q] 30)) hm9 (by unfold maxLen; omega) (HRA.out _ (B2.out.trans (hb3.mono B2.out.size))) ((O2.out.kept hb3).up hb3.size)
    rw [HD.out] at C3
    have X3 : Hid (Box3 (w2.alloc (.cells #[.slice sr P.k cr, .slice sx P.k cx, .int .i64 q] 30)) w.heap.size (.slice sr P.k cr) (.slice sm P.m cm) (.int .i64 P.b)) := X2.out.kept hb3 Z2.out
    have Y3 : Hid (Box3 (w2.alloc (.cells #[.slice sr P.k cr, .slice sx P.k cx, .int .i64 q] 30)) w2.heap.size (.slice sr P.k cr) (.slice sx P.k cx) (.int .i64 q)) := Box3.new _ _ _ _ _
    have Z3 : Hid (w2.heap.size < (w2.alloc (.cells #[.slice sr P.k cr, .slice sx P.k cx, .int .i64 q] 30)).heap.size) := by show _ < _; simp
    have B3 : Hid (Below w.heap.size w (w2.alloc (.cells #[.slice sr P.k cr, .slice sx P.k cx, .int .i64 q] 30))) := B2.out.trans (hb3.mono B2.out.size)
    obtain ⟨a0, a1, a2, _, _, _⟩ := X3.out.all
    obtain ⟨d0, d1, d2, _, _, _⟩ := Y3.out.all
    clear hb hb3 ho
    go_wp2_with fail
    generalize w2.alloc (.cells #[.slice sr P.k cr, .slice sx P.k cx, .int .i64 q] 30) = w3 at *
    refine C3.mono ?_
    clear a0 a1 a2 d0 d1 d2 C3
    rintro e w4 ⟨rfl, hb⟩
    obtain ⟨a0, a1, a2, _, _, _⟩ := (X3.out.kept hb (by have := Z2.out; have := Z3.out; omega)).all
    obtain ⟨d0, d1, d2, _, _, _⟩ := (Y3.out.kept hb Z3.out).all
    have B4 : Hid (Below w.heap.size w w4) := B3.out.trans (hb.mono B3.out.size)
    clear hb
    cases D with
    | false =>
      go_wp2_with fail
      go_ret
      exact ⟨by simp, B4.out⟩
    | true =>
      by_cases hbq : P.b = q
      · go_wp2_with fail
        go_ret
        exact ⟨by simp [hbq], B4.out⟩
      · go_wp2_with fail
        go_ret
        exact ⟨by simp [hbq], B4.out⟩
  · rw [decide_eq_false hrow] at C1
    have hno : decide (PkOk P) = false := decide_eq_false (fun h => hrow h.1)
    rw [hno]
    clear hno hrow
    go_enter Try.func10, Try.ntmps10
    go_wp2_with fail
    generalize w.alloc (.cells #[.slice sr P.k cr, .slice sm P.m cm, .int .i64 P.b] 30) = w0 at *
    refine C1.mono ?_
    rintro e w1 ⟨rfl, hb⟩
    have B1 : Hid (Below w.heap.size w w1) := HB0.out.trans (hb.mono HB0.out.size)
    clear hb C1
    go_wp2_with fail
    go_ret
    exact ⟨rfl, B1.out⟩
end Go.Proofs.Ytbdjjggaahjjpaa
