/- What is proved here: the law's measure of five vectors: what is left of what may be held, or -1; nothing that was there turns. -/
import Derived.Test.YtlgnplnmcdjbiaaQMask5DToVecH
namespace Go.Proofs.Ytlgnplnmcdjbiaa
open Go.RowKit

/-- What is left behind the first k vectors. -/
def szK (n : Nat → Nat) (left : Int) : Nat → Int
  | 0 => left
  | k + 1 => if szK n left k < 0 then -1 else szOf (n k) (szK n left k)
theorem szOf_bd (n : Nat) (left : Int) (h : left ≤ 1048576) : szOf n left ≤ 1048576 ∧ (szOf n left < 0 → szOf n left = -1) := by
  unfold szOf
  split <;> omega
/-- A law's box of five vectors. -/
def L5Box (W : World) (p : Nat) (b : Nat → Int) (s : Nat → Option Addr) (n c : Nat → Nat) : Prop := W.heap[p]? = some (.cells #[.int .i64 (b 0), .slice (s 0) (n 0) (c 0), .int .i64 (b 1), .slice (s 1) (n 1) (c 1), .int .i64 (b 2), .slice (s 2) (n 2) (c 2), .int .i64 (b 3), .slice (s 3) (n 3) (c 3), .int .i64 (b 4), .slice (s 4) (n 4) (c 4)] 70 (0, 0))
theorem L5Box.lt {W : World} {p : Nat} {b : Nat → Int} {s : Nat → Option Addr} {n c : Nat → Nat} (h : L5Box W p b s n c) : p < W.heap.size := lt_of_block h
theorem L5Box.cells {W : World} {p : Nat} {b : Nat → Int} {s : Nat → Option Addr} {n c : Nat → Nat} (h : L5Box W p b s n c) : W.cell? ⟨p, 0, none⟩ = some (.int .i64 (b 0)) ∧ W.cell? ⟨p, 1, none⟩ = some (.slice (s 0) (n 0) (c 0)) ∧ W.cell? ⟨p, 2, none⟩ = some (.int .i64 (b 1)) ∧ W.cell? ⟨p, 3, none⟩ = some (.slice (s 1) (n 1) (c 1)) ∧ W.cell? ⟨p, 4, none⟩ = some (.int .i64 (b 2)) ∧ W.cell? ⟨p, 5, none⟩ = some (.slice (s 2) (n 2) (c 2)) ∧ W.cell? ⟨p, 6, none⟩ = some (.int .i64 (b 3)) ∧ W.cell? ⟨p, 7, none⟩ = some (.slice (s 3) (n 3) (c 3)) ∧ W.cell? ⟨p, 8, none⟩ = some (.int .i64 (b 4)) ∧ W.cell? ⟨p, 9, none⟩ = some (.slice (s 4) (n 4) (c 4)) := by
  unfold L5Box at h
  simp [World.cell?, h]
theorem L5Box.kept {W' : World} {B : Nat} {W : World} {p : Nat} {b : Nat → Int} {s : Nat → Option Addr} {n c : Nat → Nat} (h : L5Box W p b s n c) (hb : Below B W W') (hB : B = W.heap.size) : L5Box W' p b s n c := by
  unfold L5Box
  rw [hb.block p (by rw [hB]; exact h.lt)]
  exact h
theorem l5boxing (W : World) (b : Nat → Int) (s : Nat → Option Addr) (n c : Nat → Nat) : Below W.heap.size W (W.alloc (.cells #[.int .i64 (b 0), .slice (s 0) (n 0) (c 0), .int .i64 (b 1), .slice (s 1) (n 1) (c 1), .int .i64 (b 2), .slice (s 2) (n 2) (c 2), .int .i64 (b 3), .slice (s 3) (n 3) (c 3), .int .i64 (b 4), .slice (s 4) (n 4) (c 4)] 70)) ∧ L5Box (W.alloc (.cells #[.int .i64 (b 0), .slice (s 0) (n 0) (c 0), .int .i64 (b 1), .slice (s 1) (n 1) (c 1), .int .i64 (b 2), .slice (s 2) (n 2) (c 2), .int .i64 (b 3), .slice (s 3) (n 3) (c 3), .int .i64 (b 4), .slice (s 4) (n 4) (c 4)] 70)) W.heap.size b s n c :=
  ⟨(Below.refl _ _).alloc (Nat.le_refl _) _, heap_alloc_new W _⟩
set_option maxRecDepth 100000 in
set_option maxHeartbeats 8000000 in
theorem szMasks_any (b : Nat → Int) (s : Nat → Option Addr) (n c : Nat → Nat) (left : Int) (w : World) (hn : ∀ i, i < 5 → n i ≤ maxLen) (h0 : 0 ≤ left) (h1 : left ≤ 1048576) :
    Calls Try.prog 51 #[m5V b s n c, .int .i64 left] w fun e w' => e = .returned (.int .i64 (szK n left 5)) ∧ Below w.heap.size w w' := by
  have q := l5boxing w b s n c
  obtain ⟨v, hv⟩ : ∃ v, w.alloc (.cells #[.int .i64 (b 0), .slice (s 0) (n 0) (c 0), .int .i64 (b 1), .slice (s 1) (n 1) (c 1), .int .i64 (b 2), .slice (s 2) (n 2) (c 2), .int .i64 (b 3), .slice (s 3) (n 3) (c 3), .int .i64 (b 4), .slice (s 4) (n 4) (c 4)] 70) = v := ⟨_, rfl⟩
  rw [hv] at q
  have X : Hid (L5Box v w.heap.size b s n c) := q.2
  have S0 : Hid (Since w v) := ⟨q.1⟩
  have T0 : Hid (Since v v) := since_refl _
  obtain ⟨x0, x1, x2, x3, x4, x5, x6, x7, x8, x9⟩ := X.out.cells
  have xl := X.out.lt
  have HC : ∀ i, i < 5 → ∀ left : Int, 0 ≤ left → left ≤ 1048576 → ∀ W, Calls Try.prog 52 #[.agg #[.int .i64 (b i), .slice (s i) (n i) (c i)], .int .i64 left] W fun e w' => e = .returned (.int .i64 (szOf (n i) left)) ∧ Below W.heap.size W w' := fun i hi l h h' W => szVec_any (b i) (s i) (n i) (c i) l W (hn i hi) h h'
  clear q hn
  unfold m5V
  have e0 : szK n left 0 = left := rfl
  have h11 := HC 0 (by decide) left (by omega) (by omega)
  obtain ⟨bd1, mi1⟩ := szOf_bd (n 0) left (by omega)
  have e1 : szK n left 1 = szOf (n 0) left := by show (if szK n left 0 < 0 then -1 else szOf (n 0) (szK n left 0)) = _; rw [e0, if_neg (by omega)]
  generalize szOf (n 0) left = z1 at h11 bd1 mi1 e1
  by_cases hz1 : z1 < 0
  · obtain rfl := mi1 hz1
    have e2 : szK n left 2 = -1 := by show (if szK n left 1 < 0 then -1 else szOf (n 1) (szK n left 1)) = _; rw [e1, if_pos (by decide)]
    have e3 : szK n left 3 = -1 := by show (if szK n left 2 < 0 then -1 else szOf (n 2) (szK n left 2)) = _; rw [e2, if_pos (by decide)]
    have e4 : szK n left 4 = -1 := by show (if szK n left 3 < 0 then -1 else szOf (n 3) (szK n left 3)) = _; rw [e3, if_pos (by decide)]
    have e5 : szK n left 5 = -1 := by show (if szK n left 4 < 0 then -1 else szOf (n 4) (szK n left 4)) = _; rw [e4, if_pos (by decide)]
    rw [e5]
    have H0 : Hid (∀ W, Calls Try.prog 52 #[.agg #[.int .i64 (b 0), .slice (s 0) (n 0) (c 0)], .int .i64 left] W fun e w' => e = .returned (.int .i64 (-1)) ∧ Below W.heap.size W w') := h11
    clear HC h11 e0 e1 e2 e3 e4 e5 mi1
    go_enter Try.func51, Try.ntmps51
    go_wp2_with (first
      | (go_at_call 52; (with_reducible refine (H0.out _).mono ?_); rintro e u1 ⟨rfl, hb⟩; have T1 : Hid (Since v u1) := since_call T0.out hb; clear hb; obtain ⟨x0, x1, x2, x3, x4, x5, x6, x7, x8, x9⟩ := (X.out.kept T1.out.below rfl).cells; have xl := (X.out.kept T1.out.below rfl).lt))
    go_ret
    exact ⟨rfl, (since_call S0.out T1.out.below).below⟩
  · have _x1 : 0 ≤ z1 := by omega
    have h12 := HC 1 (by decide) z1 (by omega) (by omega)
    obtain ⟨bd2, mi2⟩ := szOf_bd (n 1) z1 (by omega)
    have e2 : szK n left 2 = szOf (n 1) z1 := by show (if szK n left 1 < 0 then -1 else szOf (n 1) (szK n left 1)) = _; rw [e1, if_neg (by omega)]
    generalize szOf (n 1) z1 = z2 at h12 bd2 mi2 e2
    by_cases hz2 : z2 < 0
    · obtain rfl := mi2 hz2
      have e3 : szK n left 3 = -1 := by show (if szK n left 2 < 0 then -1 else szOf (n 2) (szK n left 2)) = _; rw [e2, if_pos (by decide)]
      have e4 : szK n left 4 = -1 := by show (if szK n left 3 < 0 then -1 else szOf (n 3) (szK n left 3)) = _; rw [e3, if_pos (by decide)]
      have e5 : szK n left 5 = -1 := by show (if szK n left 4 < 0 then -1 else szOf (n 4) (szK n left 4)) = _; rw [e4, if_pos (by decide)]
      rw [e5]
      have H0 : Hid (∀ W, Calls Try.prog 52 #[.agg #[.int .i64 (b 0), .slice (s 0) (n 0) (c 0)], .int .i64 left] W fun e w' => e = .returned (.int .i64 z1) ∧ Below W.heap.size W w') := h11
      have H1 : Hid (∀ W, Calls Try.prog 52 #[.agg #[.int .i64 (b 1), .slice (s 1) (n 1) (c 1)], .int .i64 z1] W fun e w' => e = .returned (.int .i64 (-1)) ∧ Below W.heap.size W w') := h12
      clear HC h11 h12 e0 e1 e2 e3 e4 e5 mi2
      go_enter Try.func51, Try.ntmps51
      go_wp2_with (first
        | (go_at_call 52; (with_reducible refine (H0.out _).mono ?_); rintro e u1 ⟨rfl, hb⟩; have T1 : Hid (Since v u1) := since_call T0.out hb; clear hb; obtain ⟨x0, x1, x2, x3, x4, x5, x6, x7, x8, x9⟩ := (X.out.kept T1.out.below rfl).cells; have xl := (X.out.kept T1.out.below rfl).lt)
        | (go_at_call 52; (with_reducible refine (H1.out _).mono ?_); rintro e u2 ⟨rfl, hb⟩; have T2 : Hid (Since v u2) := since_call T1.out hb; clear hb; obtain ⟨x0, x1, x2, x3, x4, x5, x6, x7, x8, x9⟩ := (X.out.kept T2.out.below rfl).cells; have xl := (X.out.kept T2.out.below rfl).lt))
      go_ret
      exact ⟨rfl, (since_call S0.out T2.out.below).below⟩
    · have _x2 : 0 ≤ z2 := by omega
      have h13 := HC 2 (by decide) z2 (by omega) (by omega)
      obtain ⟨bd3, mi3⟩ := szOf_bd (n 2) z2 (by omega)
      have e3 : szK n left 3 = szOf (n 2) z2 := by show (if szK n left 2 < 0 then -1 else szOf (n 2) (szK n left 2)) = _; rw [e2, if_neg (by omega)]
      generalize szOf (n 2) z2 = z3 at h13 bd3 mi3 e3
      by_cases hz3 : z3 < 0
      · obtain rfl := mi3 hz3
        have e4 : szK n left 4 = -1 := by show (if szK n left 3 < 0 then -1 else szOf (n 3) (szK n left 3)) = _; rw [e3, if_pos (by decide)]
        have e5 : szK n left 5 = -1 := by show (if szK n left 4 < 0 then -1 else szOf (n 4) (szK n left 4)) = _; rw [e4, if_pos (by decide)]
        rw [e5]
        have H0 : Hid (∀ W, Calls Try.prog 52 #[.agg #[.int .i64 (b 0), .slice (s 0) (n 0) (c 0)], .int .i64 left] W fun e w' => e = .returned (.int .i64 z1) ∧ Below W.heap.size W w') := h11
        have H1 : Hid (∀ W, Calls Try.prog 52 #[.agg #[.int .i64 (b 1), .slice (s 1) (n 1) (c 1)], .int .i64 z1] W fun e w' => e = .returned (.int .i64 z2) ∧ Below W.heap.size W w') := h12
        have H2 : Hid (∀ W, Calls Try.prog 52 #[.agg #[.int .i64 (b 2), .slice (s 2) (n 2) (c 2)], .int .i64 z2] W fun e w' => e = .returned (.int .i64 (-1)) ∧ Below W.heap.size W w') := h13
        clear HC h11 h12 h13 e0 e1 e2 e3 e4 e5 mi3
        go_enter Try.func51, Try.ntmps51
        go_wp2_with (first
          | (go_at_call 52; (with_reducible refine (H0.out _).mono ?_); rintro e u1 ⟨rfl, hb⟩; have T1 : Hid (Since v u1) := since_call T0.out hb; clear hb; obtain ⟨x0, x1, x2, x3, x4, x5, x6, x7, x8, x9⟩ := (X.out.kept T1.out.below rfl).cells; have xl := (X.out.kept T1.out.below rfl).lt)
          | (go_at_call 52; (with_reducible refine (H1.out _).mono ?_); rintro e u2 ⟨rfl, hb⟩; have T2 : Hid (Since v u2) := since_call T1.out hb; clear hb; obtain ⟨x0, x1, x2, x3, x4, x5, x6, x7, x8, x9⟩ := (X.out.kept T2.out.below rfl).cells; have xl := (X.out.kept T2.out.below rfl).lt)
          | (go_at_call 52; (with_reducible refine (H2.out _).mono ?_); rintro e u3 ⟨rfl, hb⟩; have T3 : Hid (Since v u3) := since_call T2.out hb; clear hb; obtain ⟨x0, x1, x2, x3, x4, x5, x6, x7, x8, x9⟩ := (X.out.kept T3.out.below rfl).cells; have xl := (X.out.kept T3.out.below rfl).lt))
        go_ret
        exact ⟨rfl, (since_call S0.out T3.out.below).below⟩
      · have _x3 : 0 ≤ z3 := by omega
        have h14 := HC 3 (by decide) z3 (by omega) (by omega)
        obtain ⟨bd4, mi4⟩ := szOf_bd (n 3) z3 (by omega)
        have e4 : szK n left 4 = szOf (n 3) z3 := by show (if szK n left 3 < 0 then -1 else szOf (n 3) (szK n left 3)) = _; rw [e3, if_neg (by omega)]
        generalize szOf (n 3) z3 = z4 at h14 bd4 mi4 e4
        by_cases hz4 : z4 < 0
        · obtain rfl := mi4 hz4
          have e5 : szK n left 5 = -1 := by show (if szK n left 4 < 0 then -1 else szOf (n 4) (szK n left 4)) = _; rw [e4, if_pos (by decide)]
          rw [e5]
          have H0 : Hid (∀ W, Calls Try.prog 52 #[.agg #[.int .i64 (b 0), .slice (s 0) (n 0) (c 0)], .int .i64 left] W fun e w' => e = .returned (.int .i64 z1) ∧ Below W.heap.size W w') := h11
          have H1 : Hid (∀ W, Calls Try.prog 52 #[.agg #[.int .i64 (b 1), .slice (s 1) (n 1) (c 1)], .int .i64 z1] W fun e w' => e = .returned (.int .i64 z2) ∧ Below W.heap.size W w') := h12
          have H2 : Hid (∀ W, Calls Try.prog 52 #[.agg #[.int .i64 (b 2), .slice (s 2) (n 2) (c 2)], .int .i64 z2] W fun e w' => e = .returned (.int .i64 z3) ∧ Below W.heap.size W w') := h13
          have H3 : Hid (∀ W, Calls Try.prog 52 #[.agg #[.int .i64 (b 3), .slice (s 3) (n 3) (c 3)], .int .i64 z3] W fun e w' => e = .returned (.int .i64 (-1)) ∧ Below W.heap.size W w') := h14
          clear HC h11 h12 h13 h14 e0 e1 e2 e3 e4 e5 mi4
          go_enter Try.func51, Try.ntmps51
          go_wp2_with (first
            | (go_at_call 52; (with_reducible refine (H0.out _).mono ?_); rintro e u1 ⟨rfl, hb⟩; have T1 : Hid (Since v u1) := since_call T0.out hb; clear hb; obtain ⟨x0, x1, x2, x3, x4, x5, x6, x7, x8, x9⟩ := (X.out.kept T1.out.below rfl).cells; have xl := (X.out.kept T1.out.below rfl).lt)
            | (go_at_call 52; (with_reducible refine (H1.out _).mono ?_); rintro e u2 ⟨rfl, hb⟩; have T2 : Hid (Since v u2) := since_call T1.out hb; clear hb; obtain ⟨x0, x1, x2, x3, x4, x5, x6, x7, x8, x9⟩ := (X.out.kept T2.out.below rfl).cells; have xl := (X.out.kept T2.out.below rfl).lt)
            | (go_at_call 52; (with_reducible refine (H2.out _).mono ?_); rintro e u3 ⟨rfl, hb⟩; have T3 : Hid (Since v u3) := since_call T2.out hb; clear hb; obtain ⟨x0, x1, x2, x3, x4, x5, x6, x7, x8, x9⟩ := (X.out.kept T3.out.below rfl).cells; have xl := (X.out.kept T3.out.below rfl).lt)
            | (go_at_call 52; (with_reducible refine (H3.out _).mono ?_); rintro e u4 ⟨rfl, hb⟩; have T4 : Hid (Since v u4) := since_call T3.out hb; clear hb; obtain ⟨x0, x1, x2, x3, x4, x5, x6, x7, x8, x9⟩ := (X.out.kept T4.out.below rfl).cells; have xl := (X.out.kept T4.out.below rfl).lt))
          go_ret
          exact ⟨rfl, (since_call S0.out T4.out.below).below⟩
        · have _x4 : 0 ≤ z4 := by omega
          have h15 := HC 4 (by decide) z4 (by omega) (by omega)
          obtain ⟨bd5, mi5⟩ := szOf_bd (n 4) z4 (by omega)
          have e5 : szK n left 5 = szOf (n 4) z4 := by show (if szK n left 4 < 0 then -1 else szOf (n 4) (szK n left 4)) = _; rw [e4, if_neg (by omega)]
          generalize szOf (n 4) z4 = z5 at h15 bd5 mi5 e5
          by_cases hz5 : z5 < 0
          · obtain rfl := mi5 hz5
            rw [e5]
            have H0 : Hid (∀ W, Calls Try.prog 52 #[.agg #[.int .i64 (b 0), .slice (s 0) (n 0) (c 0)], .int .i64 left] W fun e w' => e = .returned (.int .i64 z1) ∧ Below W.heap.size W w') := h11
            have H1 : Hid (∀ W, Calls Try.prog 52 #[.agg #[.int .i64 (b 1), .slice (s 1) (n 1) (c 1)], .int .i64 z1] W fun e w' => e = .returned (.int .i64 z2) ∧ Below W.heap.size W w') := h12
            have H2 : Hid (∀ W, Calls Try.prog 52 #[.agg #[.int .i64 (b 2), .slice (s 2) (n 2) (c 2)], .int .i64 z2] W fun e w' => e = .returned (.int .i64 z3) ∧ Below W.heap.size W w') := h13
            have H3 : Hid (∀ W, Calls Try.prog 52 #[.agg #[.int .i64 (b 3), .slice (s 3) (n 3) (c 3)], .int .i64 z3] W fun e w' => e = .returned (.int .i64 z4) ∧ Below W.heap.size W w') := h14
            have H4 : Hid (∀ W, Calls Try.prog 52 #[.agg #[.int .i64 (b 4), .slice (s 4) (n 4) (c 4)], .int .i64 z4] W fun e w' => e = .returned (.int .i64 (-1)) ∧ Below W.heap.size W w') := h15
            clear HC h11 h12 h13 h14 h15 e0 e1 e2 e3 e4 e5 mi5
            go_enter Try.func51, Try.ntmps51
            go_wp2_with (first
              | (go_at_call 52; (with_reducible refine (H0.out _).mono ?_); rintro e u1 ⟨rfl, hb⟩; have T1 : Hid (Since v u1) := since_call T0.out hb; clear hb; obtain ⟨x0, x1, x2, x3, x4, x5, x6, x7, x8, x9⟩ := (X.out.kept T1.out.below rfl).cells; have xl := (X.out.kept T1.out.below rfl).lt)
              | (go_at_call 52; (with_reducible refine (H1.out _).mono ?_); rintro e u2 ⟨rfl, hb⟩; have T2 : Hid (Since v u2) := since_call T1.out hb; clear hb; obtain ⟨x0, x1, x2, x3, x4, x5, x6, x7, x8, x9⟩ := (X.out.kept T2.out.below rfl).cells; have xl := (X.out.kept T2.out.below rfl).lt)
              | (go_at_call 52; (with_reducible refine (H2.out _).mono ?_); rintro e u3 ⟨rfl, hb⟩; have T3 : Hid (Since v u3) := since_call T2.out hb; clear hb; obtain ⟨x0, x1, x2, x3, x4, x5, x6, x7, x8, x9⟩ := (X.out.kept T3.out.below rfl).cells; have xl := (X.out.kept T3.out.below rfl).lt)
              | (go_at_call 52; (with_reducible refine (H3.out _).mono ?_); rintro e u4 ⟨rfl, hb⟩; have T4 : Hid (Since v u4) := since_call T3.out hb; clear hb; obtain ⟨x0, x1, x2, x3, x4, x5, x6, x7, x8, x9⟩ := (X.out.kept T4.out.below rfl).cells; have xl := (X.out.kept T4.out.below rfl).lt)
              | (go_at_call 52; (with_reducible refine (H4.out _).mono ?_); rintro e u5 ⟨rfl, hb⟩; have T5 : Hid (Since v u5) := since_call T4.out hb; clear hb; obtain ⟨x0, x1, x2, x3, x4, x5, x6, x7, x8, x9⟩ := (X.out.kept T5.out.below rfl).cells; have xl := (X.out.kept T5.out.below rfl).lt))
            go_ret
            exact ⟨rfl, (since_call S0.out T5.out.below).below⟩
          · rw [e5]
            have H0 : Hid (∀ W, Calls Try.prog 52 #[.agg #[.int .i64 (b 0), .slice (s 0) (n 0) (c 0)], .int .i64 left] W fun e w' => e = .returned (.int .i64 z1) ∧ Below W.heap.size W w') := h11
            have H1 : Hid (∀ W, Calls Try.prog 52 #[.agg #[.int .i64 (b 1), .slice (s 1) (n 1) (c 1)], .int .i64 z1] W fun e w' => e = .returned (.int .i64 z2) ∧ Below W.heap.size W w') := h12
            have H2 : Hid (∀ W, Calls Try.prog 52 #[.agg #[.int .i64 (b 2), .slice (s 2) (n 2) (c 2)], .int .i64 z2] W fun e w' => e = .returned (.int .i64 z3) ∧ Below W.heap.size W w') := h13
            have H3 : Hid (∀ W, Calls Try.prog 52 #[.agg #[.int .i64 (b 3), .slice (s 3) (n 3) (c 3)], .int .i64 z3] W fun e w' => e = .returned (.int .i64 z4) ∧ Below W.heap.size W w') := h14
            have H4 : Hid (∀ W, Calls Try.prog 52 #[.agg #[.int .i64 (b 4), .slice (s 4) (n 4) (c 4)], .int .i64 z4] W fun e w' => e = .returned (.int .i64 z5) ∧ Below W.heap.size W w') := h15
            clear HC h11 h12 h13 h14 h15 e0 e1 e2 e3 e4 e5
            go_enter Try.func51, Try.ntmps51
            go_wp2_with (first
              | (go_at_call 52; (with_reducible refine (H0.out _).mono ?_); rintro e u1 ⟨rfl, hb⟩; have T1 : Hid (Since v u1) := since_call T0.out hb; clear hb; obtain ⟨x0, x1, x2, x3, x4, x5, x6, x7, x8, x9⟩ := (X.out.kept T1.out.below rfl).cells; have xl := (X.out.kept T1.out.below rfl).lt)
              | (go_at_call 52; (with_reducible refine (H1.out _).mono ?_); rintro e u2 ⟨rfl, hb⟩; have T2 : Hid (Since v u2) := since_call T1.out hb; clear hb; obtain ⟨x0, x1, x2, x3, x4, x5, x6, x7, x8, x9⟩ := (X.out.kept T2.out.below rfl).cells; have xl := (X.out.kept T2.out.below rfl).lt)
              | (go_at_call 52; (with_reducible refine (H2.out _).mono ?_); rintro e u3 ⟨rfl, hb⟩; have T3 : Hid (Since v u3) := since_call T2.out hb; clear hb; obtain ⟨x0, x1, x2, x3, x4, x5, x6, x7, x8, x9⟩ := (X.out.kept T3.out.below rfl).cells; have xl := (X.out.kept T3.out.below rfl).lt)
              | (go_at_call 52; (with_reducible refine (H3.out _).mono ?_); rintro e u4 ⟨rfl, hb⟩; have T4 : Hid (Since v u4) := since_call T3.out hb; clear hb; obtain ⟨x0, x1, x2, x3, x4, x5, x6, x7, x8, x9⟩ := (X.out.kept T4.out.below rfl).cells; have xl := (X.out.kept T4.out.below rfl).lt)
              | (go_at_call 52; (with_reducible refine (H4.out _).mono ?_); rintro e u5 ⟨rfl, hb⟩; have T5 : Hid (Since v u5) := since_call T4.out hb; clear hb; obtain ⟨x0, x1, x2, x3, x4, x5, x6, x7, x8, x9⟩ := (X.out.kept T5.out.below rfl).cells; have xl := (X.out.kept T5.out.below rfl).lt))
            go_ret
            exact ⟨rfl, (since_call S0.out T5.out.below).below⟩
end Go.Proofs.Ytlgnplnmcdjbiaa
