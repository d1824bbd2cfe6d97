/- What is proved here: a right row is made ready to be gone along, in a new block; nothing that was there turns.
   What is proved here: the program closes places; the world stays.
   What is proved here: the program writes down for each byte the places behind the cells that have it, in the row's own block; nothing else that was there turns. -/
import Derived.Test.YthnnenbpbkmbhaaGreatQBehindWToImplKRightW
import Derived.Test.YthnnenbpbkmbhaaGreatQCellMToFitKM
import Derived.RegionTactic
import Derived.BigRegion
namespace Go.Proofs.YthnnenbpbkmbhaaGreat
open Go.RowKit

/-- A row that is gone along, in its block. -/
structure KRow (W : World) (b : Nat) (sa : Option Addr) (n cap sk lo : Nat) (d u : Int) (tab : Nat → Nat) : Prop where
  c0 : W.cell? ⟨b, 0, none⟩ = some (.slice sa n cap)
  c1 : W.cell? ⟨b, 1, none⟩ = some (.int .u64 (sk : Int))
  c2 : W.cell? ⟨b, 2, none⟩ = some (.int .u64 (lo : Int))
  c3 : W.cell? ⟨b, 3, none⟩ = some (.int .u32 d)
  c4 : W.cell? ⟨b, 4, none⟩ = some (.int .i32 u)
  tb : ∀ j, j < 256 → W.cell? ⟨b, 6 + j, none⟩ = some (.int .u64 (tab j : Int))
  fr : ∀ j, j < 262 → W.frozen? ⟨b, j, none⟩ = false
  lt : b < W.heap.size
theorem Tryz.rowZero : Tryz.zeroCells93 = #[.slice none 0 0, .int .u64 0, .int .u64 0, .int .u32 0, .int .i32 0, .int .u32 0] ++ Array.replicate 256 (.int .u64 0) := by kernel_rfl
theorem krow_new (W : World) (sa : Option Addr) (n cap sk lo : Nat) (ty : TypeId) : KRow (W.alloc (.cells (((Tryz.zeroCells93.setIfInBounds 0 (.slice sa n cap)).setIfInBounds 1 (.int .u64 (sk : Int))).setIfInBounds 2 (.int .u64 (lo : Int))) ty)) W.heap.size sa n cap sk lo 0 0 (fun _ => 0) := by
  rw [Tryz.rowZero]
  refine ⟨?_, ?_, ?_, ?_, ?_, fun j hj => ?_, fun j hj => frozen_of_row _ _ _ _ _ (heap_alloc_new W _), by simp⟩
  · rw [World.cell?_alloc_mark]; simp
  · rw [World.cell?_alloc_mark]; simp
  · rw [World.cell?_alloc_mark]; simp
  · rw [World.cell?_alloc_mark]; simp
  · rw [World.cell?_alloc_mark]; simp
  · rw [World.cell?_alloc_mark, Array.getElem?_setIfInBounds_ne (by omega), Array.getElem?_setIfInBounds_ne (by omega), Array.getElem?_setIfInBounds_ne (by omega), Array.getElem?_append_right (by simp)]
    simp [hj]
open Classical in
theorem implKRight_yes (sa : Option Addr) (n cap : Nat) (f : Nat → Cel) (w : World) (hn : n ≤ maxLen) (hr : CRow w w.heap.size sa n f) (hc : ∀ i, i < n → (f i).c.size ≤ maxLen) (h : CellsOk n f) :
    Calls Tryz.prog 24 #[.slice sa n cap] w fun e w' => e = .returned (.bool true) ∧ Below w.heap.size w w' :=
  (implKRight_any sa n cap f w hn hr hc).mono fun _ _ h2 => ⟨by rw [h2.1, decide_eq_true h], h2.2⟩
open Classical in
theorem implKRight_no (sa : Option Addr) (n cap : Nat) (f : Nat → Cel) (w : World) (hn : n ≤ maxLen) (hr : CRow w w.heap.size sa n f) (hc : ∀ i, i < n → (f i).c.size ≤ maxLen) (h : ¬ CellsOk n f) :
    Calls Tryz.prog 24 #[.slice sa n cap] w fun e w' => e = .returned (.bool false) ∧ Below w.heap.size w w' :=
  (implKRight_any sa n cap f w hn hr hc).mono fun _ _ h2 => ⟨by rw [h2.1, decide_eq_false h], h2.2⟩
set_option maxRecDepth 100000 in
set_option maxHeartbeats 4000000 in
theorem rowOf_yes (sa : Option Addr) (n cap : Nat) (f : Nat → Cel) (w : World) (hn : n ≤ maxLen) (hr : CRow w w.heap.size sa n f) (hc : ∀ i, i < n → (f i).c.size ≤ maxLen) (h : CellsOk n f) :
    Calls Tryz.prog 53 #[.slice sa n cap] w fun e w' => ∃ b sk lo : Nat, e = .returned (.pointer (some ⟨b, 0, none⟩)) ∧ w.heap.size ≤ b ∧ Below w.heap.size w w' ∧ IsBits sk (behind (fun i => (f i).k) n) ∧ IsBits lo (behind (fun i => (f i).o) n) ∧ KRow w' b sa n cap sk lo 0 0 (fun _ => 0) := by
  have C := implKRight_yes sa n cap f w hn hr hc h
  have HR : Hid (CRow w w.heap.size sa n f) := hr
  have hn60 := h.2.1
  clear hn hr hc h
  go_enter Tryz.func53, Tryz.ntmps53
  go_wp2_with fail
  refine C.mono ?_
  rintro e w1 ⟨rfl, hb1⟩
  have B1 : Hid (Below w.heap.size w w1) := hb1
  clear hb1 C
  go_wp2_with fail
  refine (behindSkip_any sa n cap f w1 hn60 (HR.out.late B1.out)).mono ?_
  rintro e w2 ⟨sk, rfl, hsk, hb2⟩
  have B2 : Hid (Below w.heap.size w w2) := B1.out.trans (hb2.mono B1.out.size)
  have HSK : Hid (IsBits sk (behind (fun i => (f i).k) n)) := hsk
  clear hb2 hsk B1
  go_wp2_with fail
  refine (behindLoop_any sa n cap f w2 hn60 (HR.out.late B2.out)).mono ?_
  rintro e w3 ⟨lo, rfl, hlo, hb3⟩
  have B3 : Hid (Below w.heap.size w w3) := B2.out.trans (hb3.mono B2.out.size)
  have HLO : Hid (IsBits lo (behind (fun i => (f i).o) n)) := hlo
  clear hb3 hlo B2
  go_wp2_with fail
  go_ret
  exact ⟨_, sk, lo, rfl, B3.out.size, B3.out.alloc B3.out.size _, HSK.out, HLO.out, krow_new w3 sa n cap sk lo _⟩
theorem rowOf_no (sa : Option Addr) (n cap : Nat) (f : Nat → Cel) (w : World) (hn : n ≤ maxLen) (hr : CRow w w.heap.size sa n f) (hc : ∀ i, i < n → (f i).c.size ≤ maxLen) (h : ¬ CellsOk n f) :
    Calls Tryz.prog 53 #[.slice sa n cap] w fun e w' => e = .returned (.pointer none) ∧ Below w.heap.size w w' := by
  have C := implKRight_no sa n cap f w hn hr hc h
  clear hn hr hc h
  go_enter Tryz.func53, Tryz.ntmps53
  go_wp2_with fail
  refine C.mono ?_
  rintro e w1 ⟨rfl, hb1⟩
  have B1 : Hid (Below w.heap.size w w1) := hb1
  clear hb1 C
  go_wp2_with fail
  go_ret
  exact ⟨rfl, B1.out⟩
theorem KRow.kept {W W' : World} {B b : Nat} {sa : Option Addr} {n cap sk lo : Nat} {d u : Int} {tab : Nat → Nat} (h : KRow W b sa n cap sk lo d u tab) (hb : Below B W W') (hB : b < B) : KRow W' b sa n cap sk lo d u tab :=
  ⟨by rw [hb.cell (p := ⟨b, 0, none⟩) hB]; exact h.c0, by rw [hb.cell (p := ⟨b, 1, none⟩) hB]; exact h.c1, by rw [hb.cell (p := ⟨b, 2, none⟩) hB]; exact h.c2, by rw [hb.cell (p := ⟨b, 3, none⟩) hB]; exact h.c3, by rw [hb.cell (p := ⟨b, 4, none⟩) hB]; exact h.c4, fun j hj => by rw [hb.cell (p := ⟨b, 6 + j, none⟩) hB]; exact h.tb j hj, fun j hj => by rw [hb.frozen (p := ⟨b, j, none⟩) hB]; exact h.fr j hj, Nat.lt_of_lt_of_le h.lt hb.size⟩
end Go.Proofs.YthnnenbpbkmbhaaGreat
namespace Go.Proofs.YthnnenbpbkmbhaaGreat
open Go.RowKit

set_option maxRecDepth 100000 in
set_option maxHeartbeats 4000000 in
theorem closed_any (b a sk n : Nat) (S P : Nat → Bool) (w : World) (hn : n ≤ 60) (hc : w.cell? ⟨b, 1, none⟩ = some (.int .u64 (sk : Int))) (hlt : b < w.heap.size) (hsk : IsBits sk S) (hS : ∀ j, n < j → S j = false) (ha : IsBits a P) (hP : ∀ j, n < j → P j = false) :
    Calls Tryz.prog 58 #[.pointer (some ⟨b, 0, none⟩), .int .u64 (a : Int)] w fun e w' => ∃ x : Nat, e = .returned (.int .u64 (x : Int)) ∧ IsBits x (cloB S P) ∧ w' = w := by
  have HSK : Hid (IsBits sk S ∧ ∀ j, n < j → S j = false) := ⟨hsk, hS⟩
  have HP : Hid (IsBits a P ∧ ∀ j, n < j → P j = false) := ⟨ha, hP⟩
  clear hsk hS ha hP
  go_enter Tryz.func58, Tryz.ntmps58
  go_wp2_with fail
  go_loopw [1, 5] (fun av mv wr => ∃ (x m : Nat) (A : Nat → Bool), av = .int .u64 (x : Int) ∧ mv = .int .u64 (m : Int) ∧ wr = w ∧ IsBits x A ∧ (∀ j, P j = true → A j = true) ∧ (∀ j, A j = true → cloB S P j = true) ∧ (m = 0 → ∀ j, A j = true → S (j + 1) = true → A (j + 1) = true)) (fun av mv _ => 2 * (2 ^ 62 - (intOf av).toNat) + min 1 (intOf mv).toNat)
  case atStart => exact ⟨a, a, P, rfl, rfl, rfl, HP.out.1, fun _ h => h, fun _ h => cloB_of h, fun h j hj => by rw [HP.out.1.none.1 h] at hj; cases hj⟩
  case round =>
    obtain ⟨x, m, A, rfl, rfl, rfl, hx, h1, h2, h3⟩ := hrel
    have HX : Hid (IsBits x A) := hx
    by_cases hm : m = 0
    · have hmb : ((m : Int) != 0) = false := by simp [hm]
      have HE : Hid (∀ j, A j = cloB S P j) := clo_done h1 h2 (h3 hm)
      clear hx h1 h2 h3
      go_wp2_with fail
      go_ret
      exact ⟨x, rfl, HX.out.congr HE.out, rfl⟩
    · have hmb : ((m : Int) != 0) = true := by simpa using hm
      have hA : ∀ j, n < j → A j = false := fun j hj => by
        cases h : A j with
        | false => rfl
        | true => (have h9 := h2 j h; rw [clo_le HSK.out.2 HP.out.2 j hj] at h9; cases h9)
      have hxl := lt_pow_of hx hA
      have hx2 : x * 2 < 2 ^ 62 := by
        have : 2 ^ (n + 1) ≤ 2 ^ 61 := Nat.pow_le_pow_right (by decide) (by omega)
        omega
      have hy := (bits_shl hx (fun j hj => hA j (by omega))).and HSK.out.1
      have hm2 := bits_andNot hy hx
      have hx3 := hx.or hm2
      have e1 : bits .and .u64 ((x : Int) * 2) (sk : Int) = ((x * 2 &&& sk : Nat) : Int) := and64 (a := x * 2) (by omega) HSK.out.1.lt
      have e2 : bits .andNot .u64 ((x * 2 &&& sk : Nat) : Int) (x : Int) = (((x * 2 &&& sk) ^^^ ((x * 2 &&& sk) &&& x) : Nat) : Int) := andNot64 hy.lt
      have e3 : bits .or .u64 (x : Int) (((x * 2 &&& sk) ^^^ ((x * 2 &&& sk) &&& x) : Nat) : Int) = ((x ||| ((x * 2 &&& sk) ^^^ ((x * 2 &&& sk) &&& x)) : Nat) : Int) := or64 hx.lt hm2.lt
      generalize x * 2 &&& sk = y at *
      generalize y ^^^ (y &&& x) = m2 at *
      have hle : x ≤ x ||| m2 := Nat.left_le_or
      have hne : m2 ≠ 0 → x ≠ x ||| m2 := fun h9 he => h9 (hm2.none.2 (fun j => by
        have h8 := hx3.bit j
        rw [← he, hx.bit j] at h8
        cases ha : A j with
        | true => simp
        | false => rw [ha] at h8; simpa using h8.symm))
      generalize x ||| m2 = x3 at *
      have hA3 : ∀ j, (A j || (((decide (1 ≤ j) && A (j - 1)) && S j) && !A j)) = true → cloB S P j = true := fun j h => by
        rw [Bool.or_eq_true] at h
        rcases h with h | h
        · exact h2 j h
        · simp only [Bool.and_eq_true, decide_eq_true_eq] at h
          obtain ⟨⟨⟨g1, g2⟩, g3⟩, _⟩ := h
          obtain ⟨i, rfl⟩ : ∃ i, j = i + 1 := ⟨j - 1, by omega⟩
          unfold cloB
          rw [g3, h2 i (by simpa using g2)]
          simp
      have hlt3 : x3 < 2 ^ 62 := by
        have h9 := lt_pow_of hx3 (n := n) (fun j hj => by
          cases h : (A j || (((decide (1 ≤ j) && A (j - 1)) && S j) && !A j)) with
          | false => rfl
          | true => (have h8 := hA3 j h; rw [clo_le HSK.out.2 HP.out.2 j hj] at h8; cases h8))
        have : 2 ^ (n + 1) ≤ 2 ^ 61 := Nat.pow_le_pow_right (by decide) (by omega)
        omega
      have HREL : Hid (IsBits x3 (fun j => A j || (((decide (1 ≤ j) && A (j - 1)) && S j) && !A j)) ∧ (∀ j, P j = true → (A j || (((decide (1 ≤ j) && A (j - 1)) && S j) && !A j)) = true) ∧ (∀ j, (A j || (((decide (1 ≤ j) && A (j - 1)) && S j) && !A j)) = true → cloB S P j = true) ∧ (m2 = 0 → ∀ j, (A j || (((decide (1 ≤ j) && A (j - 1)) && S j) && !A j)) = true → S (j + 1) = true → (A (j + 1) || (((decide (1 ≤ j + 1) && A (j + 1 - 1)) && S (j + 1)) && !A (j + 1))) = true)) := by
        refine ⟨hx3, fun j hj => by rw [h1 j hj]; rfl, hA3, fun h9 j hj hs => ?_⟩
        have h8 := hm2.none.1 h9
        have h7 : A j = true := by
          have := h8 j
          rw [this] at hj
          simpa using hj
        simp [h7, hs]
      have HMS : Hid (x ≤ x3 ∧ x3 < 2 ^ 62 ∧ (m2 ≠ 0 → x ≠ x3)) := ⟨hle, hlt3, hne⟩
      have hms0 : ¬ (m : Int) = 0 := by omega
      clear hx h1 h2 h3 hy hm2 hx3 hA3 hle hne hlt3
      go_wp2_with fail
      go_roundw
      case rel => exact ⟨x3, m2, _, rfl, rfl, trivial, HREL.out⟩
      case measure =>
        obtain ⟨g1, g2, g3⟩ := HMS.out
        simp only [intOf, Int.toNat_natCast]
        by_cases h9 : m2 = 0
        · omega
        · have := g3 h9
          omega
end Go.Proofs.YthnnenbpbkmbhaaGreat
namespace Go.Proofs.YthnnenbpbkmbhaaGreat
open Go.RowKit

theorem only_setK {a w : World} {b i : Nat} {v : Value} (h : a.grownBy w (some b)) : a.grownBy (w.setCell ⟨b, i, none⟩ v) (some b) :=
  h.trans ⟨rfl, rfl, rfl, by simp [World.setCell], fun k _ hk => Below.heap_setCell _ _ _ _ (fun e => hk (by simp [e]))⟩
theorem grown_drewK {a w : World} {b : Nat} (h : a.grownBy w (some b)) : a.grownBy w.drew (some b) := ⟨h.os, h.tape, h.output, h.size, h.block⟩
theorem KRow.drew {W : World} {b : Nat} {sa : Option Addr} {n cap sk lo : Nat} {d u : Int} {tab : Nat → Nat} (h : KRow W b sa n cap sk lo d u tab) : KRow W.drew b sa n cap sk lo d u tab := ⟨h.c0, h.c1, h.c2, h.c3, h.c4, h.tb, h.fr, h.lt⟩
theorem KRow.set {W : World} {b : Nat} {sa : Option Addr} {n cap sk lo : Nat} {d u : Int} {tab : Nat → Nat} (h : KRow W b sa n cap sk lo d u tab) {x : Nat} (hx : x < 256) (v : Nat) : KRow (W.setCell ⟨b, 6 + x, none⟩ (.int .u64 (v : Int))) b sa n cap sk lo d u (fun j => if j = x then v else tab j) := by
  have hne : ∀ {i : Nat}, i ≠ 6 + x → (⟨b, 6 + x, none⟩ : Addr) ≠ ⟨b, i, none⟩ := fun hi hh => hi (by injection hh with _ h2; exact h2.symm)
  refine ⟨?_, ?_, ?_, ?_, ?_, fun j hj => ?_, fun j hj => by rw [World.frozen?_setCell]; exact h.fr j hj, by simpa [World.setCell] using h.lt⟩
  · rw [World.cell?_setCell_other _ _ _ _ (hne (by omega))]; exact h.c0
  · rw [World.cell?_setCell_other _ _ _ _ (hne (by omega))]; exact h.c1
  · rw [World.cell?_setCell_other _ _ _ _ (hne (by omega))]; exact h.c2
  · rw [World.cell?_setCell_other _ _ _ _ (hne (by omega))]; exact h.c3
  · rw [World.cell?_setCell_other _ _ _ _ (hne (by omega))]; exact h.c4
  · by_cases e : j = x
    · subst e
      rw [World.cell?_setCell_same _ _ _ (h.tb j hj)]
      simp
    · rw [World.cell?_setCell_other _ _ _ _ (hne (by omega)), h.tb j hj]
      simp [e]
/-- The table of a row that is filled for the first k cells, and for the first m bytes of the next one. -/
def TabTo (f : Nat → Cel) (k m : Nat) (tab : Nat → Nat) : Prop := ∀ c, c < 256 → IsBits (tab c) (fun j => behind (fun i => hasByte (f i).c c) k j || (decide (k + 1 = j) && hasUpTo (f k).c m c))
def TabAt (f : Nat → Cel) (k : Nat) (tab : Nat → Nat) : Prop := ∀ c, c < 256 → IsBits (tab c) (behind (fun i => hasByte (f i).c c) k)
theorem tab_zero (f : Nat → Cel) : TabAt f 0 (fun _ => 0) := fun _ _ => behind_zero _
theorem tab_begin {f : Nat → Cel} {k : Nat} {tab : Nat → Nat} (h : TabAt f k tab) : TabTo f k 0 tab := fun c hc => (h c hc).congr (fun j => by rw [hasUpTo_zero, Bool.and_false, Bool.or_false])
theorem tab_end {f : Nat → Cel} {k : Nat} {tab : Nat → Nat} (h : TabTo f k (f k).c.size tab) : TabAt f (k + 1) tab := fun c hc => (h c hc).congr (fun j => by
  rw [hasUpTo_all]
  unfold behind
  by_cases e : k + 1 = j
  · subst e
    simp
  · rw [decide_eq_false e, Bool.false_and, Bool.or_false]
    by_cases e2 : 1 ≤ j ∧ j ≤ k
    · rw [decide_eq_true e2, decide_eq_true (show 1 ≤ j ∧ j ≤ k + 1 by omega)]
    · rw [decide_eq_false e2, decide_eq_false (show ¬ (1 ≤ j ∧ j ≤ k + 1) by omega)])
theorem tab_step {f : Nat → Cel} {k m : Nat} {tab : Nat → Nat} (h : TabTo f k m tab) (hk : k < 63) (hm : m < (f k).c.size) : TabTo f k (m + 1) (fun j => if j = (f k).c[m].toNat then tab j ||| 2 ^ (k + 1) else tab j) := fun c hc => by
  show IsBits (if c = (f k).c[m].toNat then tab c ||| 2 ^ (k + 1) else tab c) _
  by_cases e : c = (f k).c[m].toNat
  · rw [if_pos e]
    refine ((h c hc).or (bits_pow (by omega))).congr (fun j => ?_)
    rw [hasUpTo_succ _ _ _ hm]
    have : ((f k).c[m].toNat == c) = true := by rw [e]; simp
    rw [this]
    by_cases e2 : k + 1 = j
    · subst e2; simp
    · simp [e2]
  · rw [if_neg e]
    refine (h c hc).congr (fun j => ?_)
    rw [hasUpTo_succ _ _ _ hm]
    have : ((f k).c[m].toNat == c) = false := by simp; exact fun h => e h.symm
    rw [this, Bool.or_false]
theorem cells_grown {w W : World} {b n : Nat} {sa : Option Addr} {f : Nat → Cel} (h : CRow w b sa n f) (hg : w.grownBy W (some b)) (hb : b < w.heap.size) : CRow W b sa n f :=
  h.kept ⟨hg.os, hg.tape, hg.output, hg.size, fun j hj => hg.block j (by omega) (fun e => by injection e with e; omega)⟩
theorem KRow.alloc {W : World} {b : Nat} {sa : Option Addr} {n cap sk lo : Nat} {d u : Int} {tab : Nat → Nat} (h : KRow W b sa n cap sk lo d u tab) (o : Obj) : KRow (W.alloc o) b sa n cap sk lo d u tab := h.kept (B := W.heap.size) ((Below.refl _ _).alloc (Nat.le_refl _) _) h.lt
theorem CRow.atK {w : World} {B n k : Nat} {sa : Option Addr} {f : Nat → Cel} (h : CRow w B sa n f) (hk : k < n) : ∃ bb off : Nat, sa = some ⟨bb, off, none⟩ ∧ bb < B ∧ CellAt w bb (off + k * 3) (f k) := by
  rcases h with h | ⟨bb, off, h1, h2, h3⟩
  · omega
  · exact ⟨bb, off, h1, h2, h3 k hk⟩
set_option maxRecDepth 100000 in
set_option maxHeartbeats 4000000 in
theorem fill_any (b : Nat) (sa : Option Addr) (n cap sk lo : Nat) (d u : Int) (f : Nat → Cel) (w : World) (hn : n ≤ 60) (hsz : ∀ i, i < n → (f i).c.size ≤ 256) (hr : CRow w b sa n f) (hk : KRow w b sa n cap sk lo d u (fun _ => 0)) :
    Calls Tryz.prog 103 #[.pointer (some ⟨b, 0, none⟩)] w fun e w' => ∃ tab : Nat → Nat, e = .returned (.tuple #[]) ∧ w.grownBy w' (some b) ∧ KRow w' b sa n cap sk lo d u tab ∧ TabAt f n tab := by
  have HR : Hid (CRow w b sa n f) := hr
  have HK : Hid (KRow w b sa n cap sk lo d u (fun _ => 0)) := hk
  have HSZ : Hid (∀ i, i < n → (f i).c.size ≤ 256) := hsz
  have k0 := hk.c0
  have hblt := hk.lt
  clear hr hk hsz
  go_enter Tryz.func103, Tryz.ntmps103
  go_wp2_with fail
  go_loopw [10] (fun i wr => ∃ (k : Nat) (tab : Nat → Nat), k ≤ n ∧ i = .int .i64 (k : Int) ∧ w.grownBy wr (some b) ∧ KRow wr b sa n cap sk lo d u tab ∧ TabAt f k tab) (fun i _ => n - (intOf i).toNat)
  case atStart => exact ⟨0, _, Nat.zero_le _, rfl, World.grownBy.refl _ _, HK.out, tab_zero f⟩
  case round =>
    obtain ⟨k, tab, hk, rfl, hgr, hrow, htab⟩ := hrel
    have HG : Hid (w.grownBy wr (some b)) := hgr
    have HW : Hid (KRow wr b sa n cap sk lo d u tab) := hrow
    have HT : Hid (TabAt f k tab) := htab
    by_cases hkl : k < n
    · obtain ⟨bb, off, rfl, hbb, hat⟩ := (cells_grown HR.out hgr hblt).atK hkl
      obtain ⟨c0, c1, c2⟩ := hat
      have hki : (k : Int) < (n : Int) := by omega
      have hk0 : (0 : Int) ≤ (k : Int) := by omega
      obtain ⟨⟨ac, al, am⟩, ha⟩ : ∃ a, f k = a := ⟨_, rfl⟩
      have hacs := HSZ.out k hkl
      rw [ha] at c0 c1 c2 hacs
      simp only at c0 c1 c2 hacs
      have TB : Hid (TabTo f k 0 tab) := tab_begin htab
      have HEN : Hid (∀ tb, TabTo f k ac.size tb → TabAt f (k + 1) tb) := fun tb h9 => tab_end (by rw [ha]; exact h9)
      have HST : Hid (∀ m tb (hm : m < ac.size), TabTo f k m tb → TabTo f k (m + 1) (fun j => if j = ac[m].toNat then tb j ||| 2 ^ (k + 1) else tb j)) := fun m tb hm h9 => by
        have h8 := tab_step h9 (by omega) (by rw [ha]; exact hm)
        simp only [ha] at h8
        exact h8
      have W2 : Hid (KRow (wr.alloc (.cells #[.string ac, .bool al, .bool am] 95)) b (some ⟨bb, off, none⟩) n cap sk lo d u tab) := HW.out.alloc _
      have G2 : Hid (w.grownBy (wr.alloc (.cells #[.string ac, .bool al, .bool am] 95)) (some b)) := HG.out.trans (World.grownBy_alloc _ _ _)
      have X2 : Hid (CBox (wr.alloc (.cells #[.string ac, .bool al, .bool am] 95)) wr.heap.size ⟨ac, al, am⟩) := CBox.new wr ⟨ac, al, am⟩ _
      have hpb : wr.heap.size ≠ b := by have := HW.out.lt; omega
      clear ha hgr hrow htab
      go_wp2_with fail
      generalize wr.alloc (.cells #[.string ac, .bool al, .bool am] 95) = v at *
      generalize wr.heap.size = p at *
      clear c0 c1 c2 HW HG HT
      go_loopw [4] (fun iv wr => ∃ (m : Nat) (tb : Nat → Nat), m ≤ ac.size ∧ iv = .int .i64 (m : Int) ∧ v.grownBy wr (some b) ∧ KRow wr b (some ⟨bb, off, none⟩) n cap sk lo d u tb ∧ TabTo f k m tb) (fun iv _ => ac.size - (intOf iv).toNat)
      case atStart => exact ⟨0, tab, Nat.zero_le _, rfl, World.grownBy.refl _ _, W2.out, TB.out⟩
      case round =>
        obtain ⟨m, tb, hm, rfl, hgr, hrow, htb⟩ := hrel
        have HG3 : Hid (v.grownBy wr (some b)) := hgr
        have HW3 : Hid (KRow wr b (some ⟨bb, off, none⟩) n cap sk lo d u tb) := hrow
        have HT3 : Hid (TabTo f k m tb) := htb
        have hpl := X2.out.lt
        have x0 : wr.cell? ⟨p, 0, none⟩ = some (.string ac) := by
          have h9 := hgr.block p hpl (fun e => hpb (by injection e))
          have h8 := X2.out.c0
          simpa [World.cell?, h9] using h8
        by_cases hml : m < ac.size
        · have hmi : (m : Int) < (ac.size : Int) := by omega
          have hm0 : (0 : Int) ≤ (m : Int) := by omega
          obtain ⟨x, hx⟩ : ∃ x, ac[m].toNat = x := ⟨_, rfl⟩
          have hx256 : x < 256 := by rw [← hx]; exact ac[m].toNat_lt
          have HT4 := HST.out m tb hml htb
          rw [hx] at HT4
          have HT5 : Hid (TabTo f k (m + 1) (fun j => if j = x then tb j ||| 2 ^ (k + 1) else tb j)) := HT4
          have cx := hrow.tb x hx256
          have fx := hrow.fr (6 + x) (by omega)
          have hlb := hrow.lt
          have hx0 : (0 : Int) ≤ (x : Int) := by omega
          have hx1 : (x : Int) < 256 := by omega
          obtain ⟨r, hr⟩ : ∃ r, k + 1 = r := ⟨_, rfl⟩
          have hri : (k : Int) + 1 = (r : Int) := by omega
          have hr0 : (0 : Int) ≤ (r : Int) := by omega
          rw [hr] at HT5
          have hpw := wrap_powP (r := r) (by omega)
          have hor : bits .or .u64 (tb x : Int) ((2 ^ r : Nat) : Int) = ((tb x ||| 2 ^ r : Nat) : Int) := or64 (htb x hx256).lt (pow_lt64 (by omega))
          have W5 : Hid (KRow (wr.setCell ⟨b, 6 + x, none⟩ (.int .u64 ((tb x ||| 2 ^ r : Nat) : Int))) b (some ⟨bb, off, none⟩) n cap sk lo d u (fun j => if j = x then tb j ||| 2 ^ r else tb j)) := by
            have h9 := HW3.out.set hx256 (tb x ||| 2 ^ r)
            refine ⟨h9.c0, h9.c1, h9.c2, h9.c3, h9.c4, fun j hj => ?_, h9.fr, h9.lt⟩
            rw [h9.tb j hj]
            by_cases e : j = x
            · subst e; simp
            · simp [e]
          generalize ((tb x ||| 2 ^ r : Nat) : Int) = z at *
          generalize ((2 ^ r : Nat) : Int) = P at *
          clear HT4 hgr hrow htb
          go_wp2_with fail
          go_region
          all_goals
            go_wp2_with fail
            go_roundw
            case rel => exact ⟨m + 1, _, by omega, by go_num, grown_drewK (only_setK HG3.out), W5.out.drew, HT5.out⟩
            case measure => simp [intOf]; omega
        · have hmi : ¬ (m : Int) < (ac.size : Int) := by omega
          obtain rfl : m = ac.size := by omega
          have HT6 : Hid (TabAt f (k + 1) tb) := HEN.out tb htb
          clear hgr hrow htb
          go_wp2_with fail
          go_roundw
          case rel => exact ⟨k + 1, tb, by omega, by go_num, G2.out.trans HG3.out, HW3.out, HT6.out⟩
          case measure => simp [intOf]; omega
    · have hki : ¬ (k : Int) < (n : Int) := by omega
      obtain rfl : k = n := by omega
      clear hgr hrow htab
      go_wp2_with fail
      go_end0
      exact ⟨rfl, HG.out, tab, HW.out, HT.out⟩
end Go.Proofs.YthnnenbpbkmbhaaGreat
