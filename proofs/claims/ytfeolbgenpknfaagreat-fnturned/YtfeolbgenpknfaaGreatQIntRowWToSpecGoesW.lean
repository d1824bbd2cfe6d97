/- What is proved here: slices of int64 that are appended to.
   What is said here: windows in memory.
   What is proved here: the specification's l09Goes, l09Factor, l09Border say whether a text goes with cells from a place on, whether it is a factor, and what its border is; nothing that was there turns. -/
import Derived.Test.YtfeolbgenpknfaaGreatQRowsDToVecS
import Derived.Laws.AppendOwn
import Derived.Test.YtfeolbgenpknfaaGreatQBehMToBehindW
import Derived.Test.YtfeolbgenpknfaaGreatQSpecKRightWToIsW
import Derived.Deep.RegionWith
import Derived.Deep.QuietTactic
import Derived.BigQuiet
namespace Go.Proofs.YtfeolbgenpknfaaGreat
open Go.RowKit

/-- A slice of int64 in new memory. -/
def NewInts (w : World) (n : Nat) (f : Nat → Int) (e : Ending) (w' : World) : Prop := ∃ (sa : Option Addr) (cap : Nat), e = .returned (.slice sa n cap) ∧ Below w.heap.size w w' ∧ OwnS w' w.heap.size sa n f
/-- The cells of a list of numbers. -/
def icells (l : List Int) : List Value := l.map (fun x => .int .i64 x)
theorem icells_append (l : List Int) (x : Int) : icells (l ++ [x]) = icells l ++ [.int .i64 x] := by simp [icells]
theorem new_of_ints {w W : World} {l : List Int} {v : Value} (h : W.ownsRow w.heap.size 2 1 v l.length (icells l)) (hb : Below w.heap.size w W) : NewInts w l.length (fun i => l.getD i 0) (.returned v) W := by
  obtain ⟨_, ⟨rfl, hx⟩ | ⟨g, cap, cur, rfl, hg, hh, hnc, hm, hs, ht⟩⟩ := h
  · have : l = [] := by simpa [icells] using hx
    subst this
    exact ⟨none, 0, rfl, hb, Or.inl rfl⟩
  · refine ⟨_, _, rfl, hb, Or.inr ⟨g, rfl, hg, lt_of_block hh, fun i hi => ?_, fun i hi => frozen_of_row _ _ _ _ _ hh⟩⟩
    have hc : W.cell? ⟨g, i, none⟩ = (icells l)[i]? := by
      rw [← ht, List.getElem?_take_of_lt (by omega)]
      simp [World.cell?, hh]
    rw [hc]
    simp [icells, hi]
theorem ints_below {w w' : World} {base n size B : Nat} {e : TypeId} {v : Value} {xs : List Value} (h : w.ownsRow base e size v n xs) (hb : Below B w w') (hB : B = w.heap.size) : w'.ownsRow base e size v n xs := by
  obtain ⟨hl, h⟩ := h
  refine ⟨hl, ?_⟩
  rcases h with h | ⟨g, cap, cur, h1, h2, h3, h4⟩
  · exact Or.inl h
  · refine Or.inr ⟨g, cap, cur, h1, h2, ?_, h4⟩
    rw [hb.block g (by rw [hB]; exact lt_of_block h3)]
    exact h3
theorem ints_start (w : World) (base : Nat) (hb : base ≤ w.heap.size) (C : Array Value) (hC : C.size = 0) : (w.alloc (.cells C 2)).ownsRow base 2 1 (.slice (some ⟨w.heap.size, 0, none⟩) 0 0) 0 [] :=
  ⟨rfl, Or.inr ⟨w.heap.size, 0, C, rfl, hb, heap_alloc_new w _, Nat.le_refl _, Nat.zero_le _, by omega, by simp⟩⟩
theorem ints_low {w : World} {base base' n size : Nat} {e : TypeId} {v : Value} {xs : List Value} (h : w.ownsRow base e size v n xs) (hb : base' ≤ base) : w.ownsRow base' e size v n xs := by
  obtain ⟨hl, h⟩ := h
  refine ⟨hl, ?_⟩
  rcases h with h | ⟨g, cap, cur, h1, h2, h3, h4⟩
  · exact Or.inl h
  · exact Or.inr ⟨g, cap, cur, h1, Nat.le_trans hb h2, h3, h4⟩
theorem cell1_new (W : World) (x : Int) (ty : TypeId) : ∀ j u, [Value.int .i64 x][j]? = some u → (W.alloc (.cells #[.int .i64 x] ty)).cell? ((⟨W.heap.size, 0, none⟩ : Addr).add j) = some u := by
  intro j u hu
  match j, hu with
  | 0, hu => simp at hu; subst hu; simp [Addr.add]
  | j + 1, hu => simp at hu
theorem grown_lo {base lo : Nat} {W W' : World} {row : Option Nat} (hg : W.grownBy W' row) (hr : ∀ j, row = some j → base ≤ j) (hl : lo ≤ base) (hs : lo ≤ W.heap.size) : Below lo W W' :=
  ⟨hg.os, hg.tape, hg.output, hg.size, fun j hj => hg.block j (by omega) (fun e => by have := hr j e.symm; omega)⟩
end Go.Proofs.YtfeolbgenpknfaaGreat
namespace Go.Proofs.YtfeolbgenpknfaaGreat
open Go.RowKit

theorem Tryz.winInfo : (Tryz.prog.info? 47).map (fun i => (i.zero, i.size, i.bytes)) = some (some (.agg #[.int .i64 0, .int .i64 0, .int .i64 0]), 3, 24) := by kernel_rfl
/-- The cells of windows. -/
def wcells : List (Nat × Nat × Nat) → List Value
  | [] => []
  | x :: l => .int .i64 (x.1 : Int) :: .int .i64 (x.2.1 : Int) :: .int .i64 (x.2.2 : Int) :: wcells l
theorem wcells_append : ∀ l m, wcells (l ++ m) = wcells l ++ wcells m
  | [], _ => rfl
  | x :: l, m => by
    show _ :: _ :: _ :: wcells (l ++ m) = _ :: _ :: _ :: (wcells l ++ wcells m)
    rw [wcells_append l m]
/-- A slice of windows that lies in new memory. -/
def OwnsW (W : World) (base : Nat) (v : Value) (L : List (Nat × Nat × Nat)) : Prop := W.ownsRow base 47 3 v L.length (wcells L)
theorem wins_start (w : World) (base : Nat) (hb : base ≤ w.heap.size) (C : Array Value) (hC : C.size = 0) : OwnsW (w.alloc (.cells C 47)) base (.slice (some ⟨w.heap.size, 0, none⟩) 0 0) [] :=
  ⟨rfl, Or.inr ⟨w.heap.size, 0, C, rfl, hb, heap_alloc_new w _, Nat.le_refl _, Nat.zero_le _, by omega, by simp [wcells]⟩⟩
/-- Windows in new memory, handed back. -/
def NewWins (w : World) (L : List (Nat × Nat × Nat)) (e : Ending) (w' : World) : Prop := ∃ v, e = .returned v ∧ Below w.heap.size w w' ∧ OwnsW w' w.heap.size v L
end Go.Proofs.YtfeolbgenpknfaaGreat
namespace Go.Proofs.YtfeolbgenpknfaaGreat
open Go.RowKit

theorem below_drewG {B : Nat} {a w : World} (n : Nat) (h : Below B a w) : Below B a (w.drewN n) := ⟨h.os, h.tape, h.output, h.size, h.block⟩
open Classical in
set_option maxHeartbeats 2000000 in
theorem l09Goes_any (sa : Option Addr) (n cap : Nat) (f : Nat → Cel) (p : Nat) (t : ByteArray) (w : World) (hn : n ≤ 60) (hp : p ≤ 100) (ht : t.size ≤ 8000) (hr : CRow w w.heap.size sa n f) (hc : ∀ i, i < n → (f i).c.size ≤ 256) :
    Calls Tryz.prog 45 #[.slice sa n cap, .int .i64 (p : Int), .string t] w fun e w' => e = .returned (.bool (decide (GoesP n f t p))) ∧ Below w.heap.size w w' := by
  have HR : Hid (CRow w w.heap.size sa n f) := hr
  have HC : Hid (∀ i, i < n → (f i).c.size ≤ 256) := hc
  clear hr hc
  by_cases hpn : p + t.size ≤ n
  case neg =>
    have hpi : (n : Int) < (p : Int) + (t.size : Int) := by omega
    have hF : Hid (decide (GoesP n f t p) = false) := decide_eq_false (fun h => hpn h.1)
    go_enter Tryz.func45, Tryz.ntmps45
    go_wp2_with fail
    go_ret
    exact ⟨by rw [hF.out]; rfl, Below.refl _ _⟩
  have hpi : ¬ (n : Int) < (p : Int) + (t.size : Int) := by omega
  go_enter Tryz.func45, Tryz.ntmps45
  go_wp2_with fail
  go_loopw [7] (fun iv wr => ∃ i : Nat, i ≤ t.size ∧ iv = .int .i64 (i : Int) ∧ Below w.heap.size w wr ∧ ∀ j, j < i → takesB t (f (p + j)).c j = true) (fun iv _ => t.size - (intOf iv).toNat)
  case atStart => exact ⟨0, Nat.zero_le _, rfl, Below.refl _ _, fun j hj => absurd hj (Nat.not_lt_zero _)⟩
  case round =>
    obtain ⟨i, hi, rfl, hbel, hall⟩ := hrel
    have HB : Hid (Below w.heap.size w wr) := hbel
    have HA : Hid (∀ j, j < i → takesB t (f (p + j)).c j = true) := hall
    clear hbel hall
    by_cases hil : i < t.size
    · have hii : (i : Int) < (t.size : Int) := by omega
      have hi0 : (0 : Int) ≤ (i : Int) := by omega
      obtain ⟨bb, off, rfl, hbb, hat⟩ : ∃ bb off : Nat, sa = some ⟨bb, off, none⟩ ∧ bb < w.heap.size ∧ ∀ i, i < n → CellAt w bb (off + i * 3) (f i) := by
        rcases HR.out with h | h
        · omega
        · exact h
      obtain ⟨q, hq⟩ : ∃ q, p + i = q := ⟨_, rfl⟩
      have hqn : q < n := by omega
      have hqi : (p : Int) + (i : Int) = (q : Int) := by omega
      have hwq : IntKind.i64.wrap ((p : Int) + (i : Int)) = (q : Int) := by rw [IntKind.wrap_i64] <;> omega
      have hq0 : (0 : Int) ≤ (q : Int) := by omega
      have hq1 : (q : Int) < (n : Int) := by omega
      have c0 := (hat q hqn).c0
      rw [← HB.out.cell (p := ⟨bb, off + q * 3, none⟩) hbb] at c0
      obtain ⟨ac, hac⟩ : ∃ ac, (f q).c = ac := ⟨_, rfl⟩
      have HAC : Hid ((f (p + i)).c = ac) := by show _ = _; rw [hq]; exact hac
      have HSZ : Hid (ac.size ≤ 256) := by show _ ≤ _; rw [← hac]; exact HC.out q hqn
      have HTB : Hid (takesB t ac i = hasByte ac t[i].toNat) := by show _ = _; unfold takesB; rw [dif_pos hil]
      rw [hac] at c0
      clear hat hac hq
      have HL : Hid (∀ W, Calls Tryz.prog 76 #[.string ac, .int .u8 ((t[i].toNat : Nat) : Int)] W fun e w' => e = .returned (.bool (hasByte ac t[i].toNat)) ∧ w' = W) := fun W => l03Has_any ac t[i].toNat W (by have := HSZ.out; unfold maxLen; omega)
      obtain ⟨y, hy⟩ : ∃ y, hasByte ac t[i].toNat = y := ⟨_, rfl⟩
      have HY : Hid (takesB t (f (p + i)).c i = y) := by show _ = _; rw [HAC.out, HTB.out, hy]
      rw [hy] at HL
      clear hy
      cases y with
      | true =>
        go_wp2_with fail
        go_quiet (first | (go_at_call 76; exact Calls.quiet_of_same (HL.out _)))
        all_goals
          go_wp2_with fail
          go_roundw
          case rel => exact ⟨i + 1, by omega, by go_num, below_drewG _ HB.out, fun j hj => by
            by_cases e : j = i
            · rw [e]; exact HY.out
            · exact HA.out j (by omega)⟩
          case measure => simp [intOf] <;> omega
      | false =>
        have hF : Hid (decide (GoesP n f t p) = false) := decide_eq_false (fun h => by
          have h9 := h.2 i hil
          rw [HY.out] at h9
          cases h9)
        go_wp2_with fail
        go_quiet (first | (go_at_call 76; exact Calls.quiet_of_same (HL.out _)))
        all_goals
          go_wp2_with fail
          go_ret
          exact ⟨by rw [hF.out]; rfl, below_drewG _ HB.out⟩
    · have hii : ¬ (i : Int) < (t.size : Int) := by omega
      have hT : Hid (decide (GoesP n f t p) = true) := decide_eq_true ⟨hpn, fun j hj => HA.out j (by omega)⟩
      go_wp2_with fail
      go_ret
      exact ⟨by rw [hT.out]; rfl, HB.out⟩
open Classical in
set_option maxHeartbeats 2000000 in
theorem l09Factor_any (sa : Option Addr) (n cap : Nat) (f : Nat → Cel) (t : ByteArray) (w : World) (hn : n ≤ 60) (ht : t.size ≤ 8000) (hr : CRow w w.heap.size sa n f) (hc : ∀ i, i < n → (f i).c.size ≤ 256) :
    Calls Tryz.prog 55 #[.slice sa n cap, .string t] w fun e w' => e = .returned (.bool (decide (SomeS n f t t.size))) ∧ Below w.heap.size w w' := by
  have HG : Hid (∀ p : Nat, p ≤ 100 → ∀ W, Below w.heap.size w W → Calls Tryz.prog 45 #[.slice sa n cap, .int .i64 (p : Int), .string t] W fun e w' => e = .returned (.bool (decide (GoesP n f t p))) ∧ Below W.heap.size W w') := fun p hp W hW => l09Goes_any sa n cap f p t W hn hp ht ((hr.kept hW).up hW.size) hc
  clear hr hc
  go_enter Tryz.func55, Tryz.ntmps55
  go_wp2_with fail
  go_loopw [5] (fun iv wr => ∃ i : Nat, i ≤ n + 1 ∧ iv = .int .i64 (i : Int) ∧ Below w.heap.size w wr ∧ ∀ j, j < i → ¬ GoesP n f t j) (fun iv _ => n + 1 - (intOf iv).toNat)
  case atStart => exact ⟨0, Nat.zero_le _, rfl, Below.refl _ _, fun j hj => absurd hj (Nat.not_lt_zero _)⟩
  case round =>
    obtain ⟨i, hi, rfl, hbel, hall⟩ := hrel
    have HB : Hid (Below w.heap.size w wr) := hbel
    have HA : Hid (∀ j, j < i → ¬ GoesP n f t j) := hall
    clear hbel hall
    by_cases hil : i + t.size ≤ n
    · have hii : (i : Int) + (t.size : Int) ≤ (n : Int) := by omega
      have hi0 : (0 : Int) ≤ (i : Int) := by omega
      have C := HG.out i (by omega) wr HB.out
      by_cases hg : GoesP n f t i
      · rw [decide_eq_true hg] at C
        have hT : Hid (decide (SomeS n f t t.size) = true) := decide_eq_true ⟨i, goesP_iff.1 hg⟩
        clear hg
        go_wp2_with fail
        refine C.mono ?_
        rintro e w1 ⟨rfl, hb⟩
        have HB1 : Hid (Below w.heap.size w w1) := HB.out.trans (hb.mono HB.out.size)
        clear hb C
        go_wp2_with fail
        go_ret
        exact ⟨by rw [hT.out]; rfl, HB1.out⟩
      · rw [decide_eq_false hg] at C
        have HN : Hid (¬ GoesP n f t i) := hg
        clear hg
        go_wp2_with fail
        refine C.mono ?_
        rintro e w1 ⟨rfl, hb⟩
        have HB1 : Hid (Below w.heap.size w w1) := HB.out.trans (hb.mono HB.out.size)
        clear hb C
        go_wp2_with fail
        go_roundw
        case rel => exact ⟨i + 1, by omega, by go_num, HB1.out, fun j hj => by
          by_cases e : j = i
          · rw [e]; exact HN.out
          · exact HA.out j (by omega)⟩
        case measure => simp [intOf] <;> omega
    · have hii : ¬ (i : Int) + (t.size : Int) ≤ (n : Int) := by omega
      have hF : Hid (decide (SomeS n f t t.size) = false) := decide_eq_false (fun ⟨p, hp⟩ => by
        have h1 := goesP_iff.2 hp
        by_cases e : p < i
        · exact HA.out p e h1
        · have := h1.1
          omega)
      go_wp2_with fail
      go_ret
      exact ⟨by rw [hF.out]; rfl, HB.out⟩
open Classical in
set_option maxHeartbeats 2000000 in
theorem l09Border_any (sa : Option Addr) (n cap : Nat) (f : Nat → Cel) (t : ByteArray) (w : World) (hn0 : 1 ≤ n) (hn : n ≤ 60) (ht : t.size ≤ 8000) (hr : CRow w w.heap.size sa n f) (hc : ∀ i, i < n → (f i).c.size ≤ 256) :
    Calls Tryz.prog 58 #[.slice sa n cap, .string t] w fun e w' => (∃ b : Nat, e = .returned (.int .i64 (b : Int)) ∧ b < n ∧ IsBorder n f t b) ∧ Below w.heap.size w w' := by
  have HG : Hid (∀ (k : Nat), k ≤ t.size → ∀ W, Below w.heap.size w W → Calls Tryz.prog 45 #[.slice sa n cap, .int .i64 0, .string (t.extract (t.size - k) t.size)] W fun e w' => e = .returned (.bool (decide (GoesS n f t k 0))) ∧ Below W.heap.size W w') := fun k hk W hW => by
    have h := l09Goes_any sa n cap f 0 (t.extract (t.size - k) t.size) W hn (by omega) (by rw [cut_size (Nat.le_refl _)]; omega) ((hr.kept hW).up hW.size) hc
    rw [decide_eq_decide.2 (goesP_last hk)] at h
    exact h
  clear hr hc
  go_enter Tryz.func58, Tryz.ntmps58
  go_wp2_with fail
  go_loopw [5] (fun iv wr => ∃ i : Nat, i < n ∧ iv = .int .i64 (i : Int) ∧ Below w.heap.size w wr ∧ ∀ k, i < k → k < n → ¬ GoesS n f t k 0) (fun iv _ => (intOf iv).toNat)
  case atStart => exact ⟨n - 1, by omega, by go_num, Below.refl _ _, fun k h1 h2 => by omega⟩
  case round =>
    obtain ⟨i, hi, rfl, hbel, hall⟩ := hrel
    have HB : Hid (Below w.heap.size w wr) := hbel
    have HA : Hid (∀ k, i < k → k < n → ¬ GoesS n f t k 0) := hall
    clear hbel hall
    by_cases hil : 0 < i
    · have hii : (0 : Int) < (i : Int) := by omega
      have hi0 : (0 : Int) ≤ (i : Int) := by omega
      by_cases hit : i ≤ t.size
      · have hti : (i : Int) ≤ (t.size : Int) := by omega
        have C := HG.out i hit wr HB.out
        obtain ⟨d, hd⟩ : ∃ d, t.size - i = d := ⟨_, rfl⟩
        have hdi : (t.size : Int) - (i : Int) = (d : Int) := by omega
        have hd0 : (0 : Int) ≤ (d : Int) := by omega
        have hd1 : (d : Int) ≤ (t.size : Int) := by omega
        rw [hd] at C
        by_cases hg : GoesS n f t i 0
        · rw [decide_eq_true hg] at C
          have HN : Hid (GoesS n f t i 0) := hg
          clear hg hd
          go_wp2_with fail
          refine C.mono ?_
          rintro e w1 ⟨rfl, hb⟩
          have HB1 : Hid (Below w.heap.size w w1) := HB.out.trans (hb.mono HB.out.size)
          clear hb C
          go_wp2_with fail
          go_ret
          exact ⟨⟨i, rfl, hi, Or.inr ⟨hi, HN.out⟩, HA.out⟩, HB1.out⟩
        · rw [decide_eq_false hg] at C
          have HN : Hid (¬ GoesS n f t i 0) := hg
          clear hg hd
          go_wp2_with fail
          refine C.mono ?_
          rintro e w1 ⟨rfl, hb⟩
          have HB1 : Hid (Below w.heap.size w w1) := HB.out.trans (hb.mono HB.out.size)
          clear hb C
          go_wp2_with fail
          go_roundw
          case rel => exact ⟨i - 1, by omega, by go_num, HB1.out, fun k h1 h2 => by
            by_cases e : k = i
            · rw [e]; exact HN.out
            · exact HA.out k (by omega) h2⟩
          case measure => simp [intOf] <;> omega
      · have hti : ¬ (i : Int) ≤ (t.size : Int) := by omega
        go_wp2_with fail
        go_roundw
        case rel => exact ⟨i - 1, by omega, by go_num, HB.out, fun k h1 h2 => by
          by_cases e : k = i
          · rw [e]; exact fun h => hit h.1
          · exact HA.out k (by omega) h2⟩
        case measure => simp [intOf] <;> omega
    · have hii : ¬ (0 : Int) < (i : Int) := by omega
      obtain rfl : i = 0 := by omega
      go_wp2_with fail
      go_ret
      exact ⟨⟨0, rfl, hi, Or.inl rfl, HA.out⟩, HB.out⟩
end Go.Proofs.YtfeolbgenpknfaaGreat
