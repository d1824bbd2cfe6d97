/- What is proved here: a right row is made ready to be gone along, in a new block; nothing that was there turns. -/
import Derived.Test.YtbdjjggaahjjpaaQBehindW
import Derived.Test.YtbdjjggaahjjpaaQImplCRightWToImplKRightW
namespace Go.Proofs.Ytbdjjggaahjjpaa
open Go.RowKit

/-- A row that is gone along, in its block. -/
structure KRow (W : World) (b : Nat) (sa : Option Addr) (n cap sk lo : Nat) (d u : Int) (tab : Nat → Nat) : Prop where
  c0 : W.cell? ⟨b, 0, none⟩ = some (.slice sa n cap)
  c1 : W.cell? ⟨b, 1, none⟩ = some (.int .u64 (sk : Int))
  c2 : W.cell? ⟨b, 2, none⟩ = some (.int .u64 (lo : Int))
  c3 : W.cell? ⟨b, 3, none⟩ = some (.int .u32 d)
  c4 : W.cell? ⟨b, 4, none⟩ = some (.int .i32 u)
  tb : ∀ j, j < 256 → W.cell? ⟨b, 6 + j, none⟩ = some (.int .u64 (tab j : Int))
  fr : ∀ j, j < 262 → W.frozen? ⟨b, j, none⟩ = false
  lt : b < W.heap.size
theorem Try.rowZero : Try.zeroCells115 = #[.slice none 0 0, .int .u64 0, .int .u64 0, .int .u32 0, .int .i32 0, .int .u32 0] ++ Array.replicate 256 (.int .u64 0) := by kernel_rfl
theorem krow_new (W : World) (sa : Option Addr) (n cap sk lo : Nat) (ty : TypeId) : KRow (W.alloc (.cells (((Try.zeroCells115.setIfInBounds 0 (.slice sa n cap)).setIfInBounds 1 (.int .u64 (sk : Int))).setIfInBounds 2 (.int .u64 (lo : Int))) ty)) W.heap.size sa n cap sk lo 0 0 (fun _ => 0) := by
  rw [Try.rowZero]
  refine ⟨?_, ?_, ?_, ?_, ?_, fun j hj => ?_, fun j hj => frozen_of_row _ _ _ _ _ (heap_alloc_new W _), by simp⟩
  · rw [World.cell?_alloc_mark]; simp
  · rw [World.cell?_alloc_mark]; simp
  · rw [World.cell?_alloc_mark]; simp
  · rw [World.cell?_alloc_mark]; simp
  · rw [World.cell?_alloc_mark]; simp
  · rw [World.cell?_alloc_mark, Array.getElem?_setIfInBounds_ne (by omega), Array.getElem?_setIfInBounds_ne (by omega), Array.getElem?_setIfInBounds_ne (by omega), Array.getElem?_append_right (by simp)]
    simp [hj]
open Classical in
theorem implKRight_yes (sa : Option Addr) (n cap : Nat) (f : Nat → Cel) (w : World) (hn : n ≤ maxLen) (hr : CRow w w.heap.size sa n f) (hc : ∀ i, i < n → (f i).c.size ≤ maxLen) (h : CellsOk n f) :
    Calls Try.prog 70 #[.slice sa n cap] w fun e w' => e = .returned (.bool true) ∧ Below w.heap.size w w' :=
  (implKRight_any sa n cap f w hn hr hc).mono fun _ _ h2 => ⟨by rw [h2.1, decide_eq_true h], h2.2⟩
open Classical in
theorem implKRight_no (sa : Option Addr) (n cap : Nat) (f : Nat → Cel) (w : World) (hn : n ≤ maxLen) (hr : CRow w w.heap.size sa n f) (hc : ∀ i, i < n → (f i).c.size ≤ maxLen) (h : ¬ CellsOk n f) :
    Calls Try.prog 70 #[.slice sa n cap] w fun e w' => e = .returned (.bool false) ∧ Below w.heap.size w w' :=
  (implKRight_any sa n cap f w hn hr hc).mono fun _ _ h2 => ⟨by rw [h2.1, decide_eq_false h], h2.2⟩
set_option maxRecDepth 100000 in
set_option maxHeartbeats 4000000 in
theorem rowOf_yes (sa : Option Addr) (n cap : Nat) (f : Nat → Cel) (w : World) (hn : n ≤ maxLen) (hr : CRow w w.heap.size sa n f) (hc : ∀ i, i < n → (f i).c.size ≤ maxLen) (h : CellsOk n f) :
    Calls Try.prog 82 #[.slice sa n cap] w fun e w' => ∃ b sk lo : Nat, e = .returned (.pointer (some ⟨b, 0, none⟩)) ∧ w.heap.size ≤ b ∧ Below w.heap.size w w' ∧ IsBits sk (behind (fun i => (f i).k) n) ∧ IsBits lo (behind (fun i => (f i).o) n) ∧ KRow w' b sa n cap sk lo 0 0 (fun _ => 0) := by
  have C := implKRight_yes sa n cap f w hn hr hc h
  have HR : Hid (CRow w w.heap.size sa n f) := hr
  have hn60 := h.2.1
  clear hn hr hc h
  go_enter Try.func82, Try.ntmps82
  go_wp2_with fail
  refine C.mono ?_
  rintro e w1 ⟨rfl, hb1⟩
  have B1 : Hid (Below w.heap.size w w1) := hb1
  clear hb1 C
  go_wp2_with fail
  refine (behindSkip_any sa n cap f w1 hn60 (HR.out.late B1.out)).mono ?_
  rintro e w2 ⟨sk, rfl, hsk, hb2⟩
  have B2 : Hid (Below w.heap.size w w2) := B1.out.trans (hb2.mono B1.out.size)
  have HSK : Hid (IsBits sk (behind (fun i => (f i).k) n)) := hsk
  clear hb2 hsk B1
  go_wp2_with fail
  refine (behindLoop_any sa n cap f w2 hn60 (HR.out.late B2.out)).mono ?_
  rintro e w3 ⟨lo, rfl, hlo, hb3⟩
  have B3 : Hid (Below w.heap.size w w3) := B2.out.trans (hb3.mono B2.out.size)
  have HLO : Hid (IsBits lo (behind (fun i => (f i).o) n)) := hlo
  clear hb3 hlo B2
  go_wp2_with fail
  go_ret
  exact ⟨_, sk, lo, rfl, B3.out.size, B3.out.alloc B3.out.size _, HSK.out, HLO.out, krow_new w3 sa n cap sk lo _⟩
theorem rowOf_no (sa : Option Addr) (n cap : Nat) (f : Nat → Cel) (w : World) (hn : n ≤ maxLen) (hr : CRow w w.heap.size sa n f) (hc : ∀ i, i < n → (f i).c.size ≤ maxLen) (h : ¬ CellsOk n f) :
    Calls Try.prog 82 #[.slice sa n cap] w fun e w' => e = .returned (.pointer none) ∧ Below w.heap.size w w' := by
  have C := implKRight_no sa n cap f w hn hr hc h
  clear hn hr hc h
  go_enter Try.func82, Try.ntmps82
  go_wp2_with fail
  refine C.mono ?_
  rintro e w1 ⟨rfl, hb1⟩
  have B1 : Hid (Below w.heap.size w w1) := hb1
  clear hb1 C
  go_wp2_with fail
  go_ret
  exact ⟨rfl, B1.out⟩
theorem KRow.kept {W W' : World} {B b : Nat} {sa : Option Addr} {n cap sk lo : Nat} {d u : Int} {tab : Nat → Nat} (h : KRow W b sa n cap sk lo d u tab) (hb : Below B W W') (hB : b < B) : KRow W' b sa n cap sk lo d u tab :=
  ⟨by rw [hb.cell (p := ⟨b, 0, none⟩) hB]; exact h.c0, by rw [hb.cell (p := ⟨b, 1, none⟩) hB]; exact h.c1, by rw [hb.cell (p := ⟨b, 2, none⟩) hB]; exact h.c2, by rw [hb.cell (p := ⟨b, 3, none⟩) hB]; exact h.c3, by rw [hb.cell (p := ⟨b, 4, none⟩) hB]; exact h.c4, fun j hj => by rw [hb.cell (p := ⟨b, 6 + j, none⟩) hB]; exact h.tb j hj, fun j hj => by rw [hb.frozen (p := ⟨b, j, none⟩) hB]; exact h.fr j hj, Nat.lt_of_lt_of_le h.lt hb.size⟩
end Go.Proofs.Ytbdjjggaahjjpaa
