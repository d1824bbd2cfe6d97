/- What is proved here: the law's copy of five vectors, each of its own length, in new memory; nothing that was there turns. -/
import Derived.Test.YtlgnplnmcdjbiaaQMask5DToVecH
import Derived.Test.YtlgnplnmcdjbiaaQMask5SzW
namespace Go.Proofs.Ytlgnplnmcdjbiaa
open Go.RowKit

/-- A box of ten cells. -/
def TBox (W : World) (p : Nat) (v0 v1 v2 v3 v4 v5 v6 v7 v8 v9 : Value) : Prop := W.heap[p]? = some (.cells #[v0, v1, v2, v3, v4, v5, v6, v7, v8, v9] 50 (0, 0))
theorem TBox.lt {W : World} {p : Nat} {v0 v1 v2 v3 v4 v5 v6 v7 v8 v9 : Value} (h : TBox W p v0 v1 v2 v3 v4 v5 v6 v7 v8 v9) : p < W.heap.size := lt_of_block h
theorem TBox.cells {W : World} {p : Nat} {v0 v1 v2 v3 v4 v5 v6 v7 v8 v9 : Value} (h : TBox W p v0 v1 v2 v3 v4 v5 v6 v7 v8 v9) : W.cell? ⟨p, 0, none⟩ = some v0 ∧ W.cell? ⟨p, 1, none⟩ = some v1 ∧ W.cell? ⟨p, 2, none⟩ = some v2 ∧ W.cell? ⟨p, 3, none⟩ = some v3 ∧ W.cell? ⟨p, 4, none⟩ = some v4 ∧ W.cell? ⟨p, 5, none⟩ = some v5 ∧ W.cell? ⟨p, 6, none⟩ = some v6 ∧ W.cell? ⟨p, 7, none⟩ = some v7 ∧ W.cell? ⟨p, 8, none⟩ = some v8 ∧ W.cell? ⟨p, 9, none⟩ = some v9 := by
  unfold TBox at h
  simp [World.cell?, h]
theorem TBox.free {W : World} {p : Nat} {v0 v1 v2 v3 v4 v5 v6 v7 v8 v9 : Value} (h : TBox W p v0 v1 v2 v3 v4 v5 v6 v7 v8 v9) : W.frozen? ⟨p, 0, none⟩ = false ∧ W.frozen? ⟨p, 1, none⟩ = false ∧ W.frozen? ⟨p, 2, none⟩ = false ∧ W.frozen? ⟨p, 3, none⟩ = false ∧ W.frozen? ⟨p, 4, none⟩ = false ∧ W.frozen? ⟨p, 5, none⟩ = false ∧ W.frozen? ⟨p, 6, none⟩ = false ∧ W.frozen? ⟨p, 7, none⟩ = false ∧ W.frozen? ⟨p, 8, none⟩ = false ∧ W.frozen? ⟨p, 9, none⟩ = false :=
  ⟨frozen_of_row _ _ _ _ _ h, frozen_of_row _ _ _ _ _ h, frozen_of_row _ _ _ _ _ h, frozen_of_row _ _ _ _ _ h, frozen_of_row _ _ _ _ _ h, frozen_of_row _ _ _ _ _ h, frozen_of_row _ _ _ _ _ h, frozen_of_row _ _ _ _ _ h, frozen_of_row _ _ _ _ _ h, frozen_of_row _ _ _ _ _ h⟩
theorem TBox.kept {W W' : World} {B p : Nat} {v0 v1 v2 v3 v4 v5 v6 v7 v8 v9 : Value} (h : TBox W p v0 v1 v2 v3 v4 v5 v6 v7 v8 v9) (hb : Below B W W') (hB : B = W.heap.size) : TBox W' p v0 v1 v2 v3 v4 v5 v6 v7 v8 v9 := by
  unfold TBox
  rw [hb.block p (by rw [hB]; exact h.lt)]
  exact h
theorem TBox.other {W W' : World} {lo hi p : Nat} {v0 v1 v2 v3 v4 v5 v6 v7 v8 v9 : Value} (h : TBox W p v0 v1 v2 v3 v4 v5 v6 v7 v8 v9) (ho : OnlyM W W' lo hi) (hp : p < lo ∨ hi ≤ p) : TBox W' p v0 v1 v2 v3 v4 v5 v6 v7 v8 v9 := by
  unfold TBox
  rw [ho.block p h.lt hp]
  exact h
theorem L5Box.other {W W' : World} {lo hi p : Nat} {b : Nat → Int} {s : Nat → Option Addr} {n c : Nat → Nat} (h : L5Box W p b s n c) (ho : OnlyM W W' lo hi) (hp : p < lo ∨ hi ≤ p) : L5Box W' p b s n c := by
  unfold L5Box
  rw [ho.block p h.lt hp]
  exact h
theorem OnlyM.setM {W W' : World} {lo hi : Nat} {p : Addr} {v : Value} (h : OnlyM W W' lo hi) (h1 : lo ≤ p.block) (h2 : p.block < hi) : OnlyM W (W'.setCell p v) lo hi :=
  ⟨h.os, h.tape, h.output, by simpa [World.setCell] using h.size, fun k hk hd => by rw [Below.heap_setCell _ _ _ _ (fun e => by omega)]; exact h.block k hk hd⟩
theorem tboxing (W : World) : Below W.heap.size W (W.alloc (.cells #[.int .i64 0, .slice none 0 0, .int .i64 0, .slice none 0 0, .int .i64 0, .slice none 0 0, .int .i64 0, .slice none 0 0, .int .i64 0, .slice none 0 0] 50)) ∧ TBox (W.alloc (.cells #[.int .i64 0, .slice none 0 0, .int .i64 0, .slice none 0 0, .int .i64 0, .slice none 0 0, .int .i64 0, .slice none 0 0, .int .i64 0, .slice none 0 0] 50)) W.heap.size (.int .i64 0) (.slice none 0 0) (.int .i64 0) (.slice none 0 0) (.int .i64 0) (.slice none 0 0) (.int .i64 0) (.slice none 0 0) (.int .i64 0) (.slice none 0 0) ∧ (W.alloc (.cells #[.int .i64 0, .slice none 0 0, .int .i64 0, .slice none 0 0, .int .i64 0, .slice none 0 0, .int .i64 0, .slice none 0 0, .int .i64 0, .slice none 0 0] 50)).heap.size = W.heap.size + 1 :=
  ⟨(Below.refl _ _).alloc (Nat.le_refl _) _, heap_alloc_new W _, by simp⟩
theorem two_only (W : World) (p i j : Nat) (x y : Value) : OnlyM W ((W.setCell ⟨p, i, none⟩ x).setCell ⟨p, j, none⟩ y) p (p + 1) :=
  ((OnlyM.refl W p (p + 1)).setM (Nat.le_refl _) (Nat.lt_succ_self _)).setM (Nat.le_refl _) (Nat.lt_succ_self _)
theorem two_size (W : World) (p i j : Nat) (x y : Value) : ((W.setCell ⟨p, i, none⟩ x).setCell ⟨p, j, none⟩ y).heap.size = W.heap.size := by simp [World.setCell]
theorem TBox.put0 {W : World} {p : Nat} {v0 v1 v2 v3 v4 v5 v6 v7 v8 v9 : Value} (h : TBox W p v0 v1 v2 v3 v4 v5 v6 v7 v8 v9) (x y : Value) : TBox ((W.setCell ⟨p, 0, none⟩ x).setCell ⟨p, 1, none⟩ y) p x y v2 v3 v4 v5 v6 v7 v8 v9 := by
  unfold TBox at h ⊢
  have h1 := heap_setCell_same W p 0 _ _ x h
  have h2 := heap_setCell_same _ p 1 _ _ y h1
  rw [h2]
  rfl
theorem TBox.put1 {W : World} {p : Nat} {v0 v1 v2 v3 v4 v5 v6 v7 v8 v9 : Value} (h : TBox W p v0 v1 v2 v3 v4 v5 v6 v7 v8 v9) (x y : Value) : TBox ((W.setCell ⟨p, 2, none⟩ x).setCell ⟨p, 3, none⟩ y) p v0 v1 x y v4 v5 v6 v7 v8 v9 := by
  unfold TBox at h ⊢
  have h1 := heap_setCell_same W p 2 _ _ x h
  have h2 := heap_setCell_same _ p 3 _ _ y h1
  rw [h2]
  rfl
theorem TBox.put2 {W : World} {p : Nat} {v0 v1 v2 v3 v4 v5 v6 v7 v8 v9 : Value} (h : TBox W p v0 v1 v2 v3 v4 v5 v6 v7 v8 v9) (x y : Value) : TBox ((W.setCell ⟨p, 4, none⟩ x).setCell ⟨p, 5, none⟩ y) p v0 v1 v2 v3 x y v6 v7 v8 v9 := by
  unfold TBox at h ⊢
  have h1 := heap_setCell_same W p 4 _ _ x h
  have h2 := heap_setCell_same _ p 5 _ _ y h1
  rw [h2]
  rfl
theorem TBox.put3 {W : World} {p : Nat} {v0 v1 v2 v3 v4 v5 v6 v7 v8 v9 : Value} (h : TBox W p v0 v1 v2 v3 v4 v5 v6 v7 v8 v9) (x y : Value) : TBox ((W.setCell ⟨p, 6, none⟩ x).setCell ⟨p, 7, none⟩ y) p v0 v1 v2 v3 v4 v5 x y v8 v9 := by
  unfold TBox at h ⊢
  have h1 := heap_setCell_same W p 6 _ _ x h
  have h2 := heap_setCell_same _ p 7 _ _ y h1
  rw [h2]
  rfl
theorem TBox.put4 {W : World} {p : Nat} {v0 v1 v2 v3 v4 v5 v6 v7 v8 v9 : Value} (h : TBox W p v0 v1 v2 v3 v4 v5 v6 v7 v8 v9) (x y : Value) : TBox ((W.setCell ⟨p, 8, none⟩ x).setCell ⟨p, 9, none⟩ y) p v0 v1 v2 v3 v4 v5 v6 v7 x y := by
  unfold TBox at h ⊢
  have h1 := heap_setCell_same W p 8 _ _ x h
  have h2 := heap_setCell_same _ p 9 _ _ y h1
  rw [h2]
  rfl
/-- Five vectors in new memory. -/
def New5 (w : World) (b : Nat → Int) (n : Nat → Nat) (F : Nat → Nat → Int) (e : Ending) (w' : World) : Prop :=
  ∃ (s : Nat → Option Addr) (c : Nat → Nat) (h : Nat → Nat), e = .returned (m5V b s n c) ∧ Below w.heap.size w w' ∧ M5Sl w' h s n F ∧ w.heap.size ≤ h 0 ∧ h 5 ≤ w'.heap.size
/-- Six bounds. -/
def six5 (a0 a1 a2 a3 a4 a5 : Nat) : Nat → Nat := fun i => match i with
  | 0 => a0
  | 1 => a1
  | 2 => a2
  | 3 => a3
  | 4 => a4
  | _ => a5
theorem OwnS.slice5 {W W' : World} {lo n p : Nat} {s : Option Addr} {f : Nat → Int} (h : OwnS W lo s n f) (ho : OnlyM W W' p (p + 1)) (hp : p < lo) (hz : W'.heap.size = W.heap.size) : Slice W' lo W'.heap.size s n f := by
  rw [hz]
  exact h.slice.onlyM ho (Or.inr (by omega))
set_option maxRecDepth 100000 in
set_option maxHeartbeats 8000000 in
theorem toMasks5_any (b : Nat → Int) (s : Nat → Option Addr) (n c : Nat → Nat) (F : Nat → Nat → Int) (w : World) (hn : ∀ i, i < 5 → n i ≤ 1048576) (hr : M5Row w s n F) :
    Calls Try.prog 53 #[m5V b s n c] w fun e w' => New5 w b n F e w' := by
  have q1 := l5boxing w b s n c
  have q2 := tboxing (w.alloc (.cells #[.int .i64 (b 0), .slice (s 0) (n 0) (c 0), .int .i64 (b 1), .slice (s 1) (n 1) (c 1), .int .i64 (b 2), .slice (s 2) (n 2) (c 2), .int .i64 (b 3), .slice (s 3) (n 3) (c 3), .int .i64 (b 4), .slice (s 4) (n 4) (c 4)] 70))
  have q3 := tboxing ((w.alloc (.cells #[.int .i64 (b 0), .slice (s 0) (n 0) (c 0), .int .i64 (b 1), .slice (s 1) (n 1) (c 1), .int .i64 (b 2), .slice (s 2) (n 2) (c 2), .int .i64 (b 3), .slice (s 3) (n 3) (c 3), .int .i64 (b 4), .slice (s 4) (n 4) (c 4)] 70)).alloc (.cells #[.int .i64 0, .slice none 0 0, .int .i64 0, .slice none 0 0, .int .i64 0, .slice none 0 0, .int .i64 0, .slice none 0 0, .int .i64 0, .slice none 0 0] 50))
  obtain ⟨v0, hv0⟩ : ∃ v, ((w.alloc (.cells #[.int .i64 (b 0), .slice (s 0) (n 0) (c 0), .int .i64 (b 1), .slice (s 1) (n 1) (c 1), .int .i64 (b 2), .slice (s 2) (n 2) (c 2), .int .i64 (b 3), .slice (s 3) (n 3) (c 3), .int .i64 (b 4), .slice (s 4) (n 4) (c 4)] 70)).alloc (.cells #[.int .i64 0, .slice none 0 0, .int .i64 0, .slice none 0 0, .int .i64 0, .slice none 0 0, .int .i64 0, .slice none 0 0, .int .i64 0, .slice none 0 0] 50)).alloc (.cells #[.int .i64 0, .slice none 0 0, .int .i64 0, .slice none 0 0, .int .i64 0, .slice none 0 0, .int .i64 0, .slice none 0 0, .int .i64 0, .slice none 0 0] 50) = v := ⟨_, rfl⟩
  have z1 : (w.alloc (.cells #[.int .i64 (b 0), .slice (s 0) (n 0) (c 0), .int .i64 (b 1), .slice (s 1) (n 1) (c 1), .int .i64 (b 2), .slice (s 2) (n 2) (c 2), .int .i64 (b 3), .slice (s 3) (n 3) (c 3), .int .i64 (b 4), .slice (s 4) (n 4) (c 4)] 70)).heap.size = w.heap.size + 1 := by simp
  have z2 : ((w.alloc (.cells #[.int .i64 (b 0), .slice (s 0) (n 0) (c 0), .int .i64 (b 1), .slice (s 1) (n 1) (c 1), .int .i64 (b 2), .slice (s 2) (n 2) (c 2), .int .i64 (b 3), .slice (s 3) (n 3) (c 3), .int .i64 (b 4), .slice (s 4) (n 4) (c 4)] 70)).alloc (.cells #[.int .i64 0, .slice none 0 0, .int .i64 0, .slice none 0 0, .int .i64 0, .slice none 0 0, .int .i64 0, .slice none 0 0, .int .i64 0, .slice none 0 0] 50)).heap.size = w.heap.size + 2 := by rw [q2.2.2, z1]
  rw [hv0] at q3
  have z3 : v0.heap.size = w.heap.size + 3 := by rw [q3.2.2, z2]
  have S0 : Hid (Since w v0) := since_call (since_call (since_call (since_refl _) q1.1) q2.1) q3.1
  have L0 : Hid (L5Box v0 w.heap.size b s n c) := (q1.2.kept q2.1 rfl).kept q3.1 rfl
  have Y0 : Hid (TBox v0 (w.heap.size + 1) (.int .i64 0) (.slice none 0 0) (.int .i64 0) (.slice none 0 0) (.int .i64 0) (.slice none 0 0) (.int .i64 0) (.slice none 0 0) (.int .i64 0) (.slice none 0 0)) := by have h9 := q2.2.1.kept q3.1 rfl; rw [z1] at h9; exact h9
  have O0 : Hid (TBox v0 (w.heap.size + 2) (.int .i64 0) (.slice none 0 0) (.int .i64 0) (.slice none 0 0) (.int .i64 0) (.slice none 0 0) (.int .i64 0) (.slice none 0 0) (.int .i64 0) (.slice none 0 0)) := by have h9 := q3.2.1; rw [z2] at h9; exact h9
  have HR : Hid (M5Row w s n F) := hr
  have HN : Hid (∀ i, i < 5 → n i ≤ 1048576) := hn
  have H0 : Hid (w.heap.size + 3 ≤ v0.heap.size) := Nat.le_of_eq z3.symm
  clear q1 q2 q3 hr hn z1 z2 z3
  obtain ⟨x0, x1, x2, x3, x4, x5, x6, x7, x8, x9⟩ := L0.out.cells
  have xl := L0.out.lt
  obtain ⟨o0, o1, o2, o3, o4, o5, o6, o7, o8, o9⟩ := O0.out.cells
  have ol := O0.out.lt
  unfold m5V
  go_enter Try.func53, Try.ntmps53
  go_wp2_with fail
  refine (toVec_any (b 0) (s 0) (n 0) (c 0) (F 0) v0 (HN.out 0 (by decide)) (HR.out.since S0.out 0 (by decide))).mono ?_
  rintro e u1 ⟨s0, c0, rfl, hb, ho⟩
  unfold vecV
  clear hv0
  obtain ⟨p1, hp1⟩ : ∃ p, w.heap.size + 1 = p := ⟨_, rfl⟩
  obtain ⟨p2, hp2⟩ : ∃ p, w.heap.size + 2 = p := ⟨_, rfl⟩
  rw [hp1] at Y0
  rw [hp2] at O0
  rw [show w.heap.size + 1 + 1 = w.heap.size + 2 from rfl, hp2, hp1]
  have HP1 : Hid (p1 = w.heap.size + 1) := hp1.symm
  have HP2 : Hid (p2 = w.heap.size + 2) := hp2.symm
  have n1 : w.heap.size ≠ p2 := by omega
  have n2 : p2 ≠ w.heap.size := by omega
  have n3 : p1 ≠ p2 := by omega
  have n4 : p2 ≠ p1 := by omega
  have n5 : w.heap.size ≠ p1 := by omega
  have n6 : p1 ≠ w.heap.size := by omega
  clear hp1 hp2
  have L : L5Box u1 w.heap.size b s n c := L0.out.kept hb rfl
  have Y : TBox u1 p1 (.int .i64 0) (.slice none 0 0) (.int .i64 0) (.slice none 0 0) (.int .i64 0) (.slice none 0 0) (.int .i64 0) (.slice none 0 0) (.int .i64 0) (.slice none 0 0) := Y0.out.kept hb rfl
  have O : TBox u1 p2 (.int .i64 0) (.slice none 0 0) (.int .i64 0) (.slice none 0 0) (.int .i64 0) (.slice none 0 0) (.int .i64 0) (.slice none 0 0) (.int .i64 0) (.slice none 0 0) := O0.out.kept hb rfl
  have hon := two_only u1 p2 0 1 (.int .i64 (b 0)) (.slice s0 (n 0) c0)
  have hsz := two_size u1 p2 0 1 (.int .i64 (b 0)) (.slice s0 (n 0) c0)
  have hput := O.put0 (.int .i64 (b 0)) (.slice s0 (n 0) c0)
  clear x0 x1 x2 x3 x4 x5 x6 x7 x8 x9 xl o0 o1 o2 o3 o4 o5 o6 o7 o8 o9 ol
  obtain ⟨o0, o1, o2, o3, o4, o5, o6, o7, o8, o9⟩ := O.cells
  obtain ⟨f0, f1, f2, f3, f4, f5, f6, f7, f8, f9⟩ := O.free
  have ol := O.lt
  go_upto_region 3 with fail
  have hh := H0.out
  have e1 := HP1.out
  have e2 := HP2.out
  have hbz := hb.size
  generalize (u1.setCell ⟨p2, 0, none⟩ (.int .i64 (b 0))).setCell ⟨p2, 1, none⟩ (.slice s0 (n 0) c0) = v1 at *
  have S1 : Hid (Since w v1) := ⟨(S0.out.below.trans (hb.mono S0.out.size)).trans (hon.below (by omega) (by omega))⟩
  have L1 : Hid (L5Box v1 w.heap.size b s n c) := L.other hon (by omega)
  have Y1 : Hid (TBox v1 p1 (.int .i64 0) (.slice none 0 0) (.int .i64 0) (.slice none 0 0) (.int .i64 0) (.slice none 0 0) (.int .i64 0) (.slice none 0 0) (.int .i64 0) (.slice none 0 0)) := Y.other hon (by omega)
  have O1 : Hid (TBox v1 p2 (.int .i64 (b 0)) (.slice s0 (n 0) c0) (.int .i64 0) (.slice none 0 0) (.int .i64 0) (.slice none 0 0) (.int .i64 0) (.slice none 0 0) (.int .i64 0) (.slice none 0 0)) := hput
  have R0_1 : Hid (Slice v1 v0.heap.size v1.heap.size s0 (n 0) (F 0)) := ho.slice5 hon (by omega) hsz
  have H1 : Hid (w.heap.size + 3 ≤ v1.heap.size) := by show w.heap.size + 3 ≤ v1.heap.size; omega
  have G1 : Hid (v0.heap.size ≤ v1.heap.size ∧ w.heap.size + 3 ≤ v1.heap.size) := ⟨by omega, by omega⟩
  have G0 : Hid (v0.heap.size ≤ v0.heap.size ∧ w.heap.size + 3 ≤ v0.heap.size) := ⟨Nat.le_refl _, hh⟩
  clear e1 e2 L0 Y0 O0 S0 H0 L Y O hon hsz hput hh hbz hb ho o0 o1 o2 o3 o4 o5 o6 o7 o8 o9 f0 f1 f2 f3 f4 f5 f6 f7 f8 f9 ol 
  obtain ⟨x0, x1, x2, x3, x4, x5, x6, x7, x8, x9⟩ := L1.out.cells
  have xl := L1.out.lt
  obtain ⟨o0, o1, o2, o3, o4, o5, o6, o7, o8, o9⟩ := O1.out.cells
  have ol := O1.out.lt
  go_wp2_with fail
  refine (toVec_any (b 1) (s 1) (n 1) (c 1) (F 1) v1 (HN.out 1 (by decide)) (HR.out.since S1.out 1 (by decide))).mono ?_
  rintro e u2 ⟨s1, c1, rfl, hb, ho⟩
  unfold vecV
  have L : L5Box u2 w.heap.size b s n c := L1.out.kept hb rfl
  have Y : TBox u2 p1 (.int .i64 0) (.slice none 0 0) (.int .i64 0) (.slice none 0 0) (.int .i64 0) (.slice none 0 0) (.int .i64 0) (.slice none 0 0) (.int .i64 0) (.slice none 0 0) := Y1.out.kept hb rfl
  have O : TBox u2 p2 (.int .i64 (b 0)) (.slice s0 (n 0) c0) (.int .i64 0) (.slice none 0 0) (.int .i64 0) (.slice none 0 0) (.int .i64 0) (.slice none 0 0) (.int .i64 0) (.slice none 0 0) := O1.out.kept hb rfl
  have hon := two_only u2 p2 2 3 (.int .i64 (b 1)) (.slice s1 (n 1) c1)
  have hsz := two_size u2 p2 2 3 (.int .i64 (b 1)) (.slice s1 (n 1) c1)
  have hput := O.put1 (.int .i64 (b 1)) (.slice s1 (n 1) c1)
  clear x0 x1 x2 x3 x4 x5 x6 x7 x8 x9 xl o0 o1 o2 o3 o4 o5 o6 o7 o8 o9 ol
  obtain ⟨o0, o1, o2, o3, o4, o5, o6, o7, o8, o9⟩ := O.cells
  obtain ⟨f0, f1, f2, f3, f4, f5, f6, f7, f8, f9⟩ := O.free
  have ol := O.lt
  go_upto_region 4 with fail
  have hh := H1.out
  have e1 := HP1.out
  have e2 := HP2.out
  have hbz := hb.size
  generalize (u2.setCell ⟨p2, 2, none⟩ (.int .i64 (b 1))).setCell ⟨p2, 3, none⟩ (.slice s1 (n 1) c1) = v2 at *
  have S2 : Hid (Since w v2) := ⟨(S1.out.below.trans (hb.mono S1.out.size)).trans (hon.below (by omega) (by omega))⟩
  have L2 : Hid (L5Box v2 w.heap.size b s n c) := L.other hon (by omega)
  have Y2 : Hid (TBox v2 p1 (.int .i64 0) (.slice none 0 0) (.int .i64 0) (.slice none 0 0) (.int .i64 0) (.slice none 0 0) (.int .i64 0) (.slice none 0 0) (.int .i64 0) (.slice none 0 0)) := Y.other hon (by omega)
  have O2 : Hid (TBox v2 p2 (.int .i64 (b 0)) (.slice s0 (n 0) c0) (.int .i64 (b 1)) (.slice s1 (n 1) c1) (.int .i64 0) (.slice none 0 0) (.int .i64 0) (.slice none 0 0) (.int .i64 0) (.slice none 0 0)) := hput
  have R1_2 : Hid (Slice v2 v1.heap.size v2.heap.size s1 (n 1) (F 1)) := ho.slice5 hon (by omega) hsz
  have R0_2 : Hid (Slice v2 v0.heap.size v1.heap.size s0 (n 0) (F 0)) := (R0_1.out.kept hb rfl).onlyM hon (Or.inr (by have := G0.out; omega))
  have H2 : Hid (w.heap.size + 3 ≤ v2.heap.size) := by show w.heap.size + 3 ≤ v2.heap.size; omega
  have G2 : Hid (v1.heap.size ≤ v2.heap.size ∧ w.heap.size + 3 ≤ v2.heap.size) := ⟨by omega, by omega⟩
  clear e1 e2 L1 Y1 O1 S1 H1 L Y O hon hsz hput hh hbz hb ho o0 o1 o2 o3 o4 o5 o6 o7 o8 o9 f0 f1 f2 f3 f4 f5 f6 f7 f8 f9 ol R0_1
  obtain ⟨x0, x1, x2, x3, x4, x5, x6, x7, x8, x9⟩ := L2.out.cells
  have xl := L2.out.lt
  obtain ⟨o0, o1, o2, o3, o4, o5, o6, o7, o8, o9⟩ := O2.out.cells
  have ol := O2.out.lt
  go_wp2_with fail
  refine (toVec_any (b 2) (s 2) (n 2) (c 2) (F 2) v2 (HN.out 2 (by decide)) (HR.out.since S2.out 2 (by decide))).mono ?_
  rintro e u3 ⟨s2, c2, rfl, hb, ho⟩
  unfold vecV
  have L : L5Box u3 w.heap.size b s n c := L2.out.kept hb rfl
  have Y : TBox u3 p1 (.int .i64 0) (.slice none 0 0) (.int .i64 0) (.slice none 0 0) (.int .i64 0) (.slice none 0 0) (.int .i64 0) (.slice none 0 0) (.int .i64 0) (.slice none 0 0) := Y2.out.kept hb rfl
  have O : TBox u3 p2 (.int .i64 (b 0)) (.slice s0 (n 0) c0) (.int .i64 (b 1)) (.slice s1 (n 1) c1) (.int .i64 0) (.slice none 0 0) (.int .i64 0) (.slice none 0 0) (.int .i64 0) (.slice none 0 0) := O2.out.kept hb rfl
  have hon := two_only u3 p2 4 5 (.int .i64 (b 2)) (.slice s2 (n 2) c2)
  have hsz := two_size u3 p2 4 5 (.int .i64 (b 2)) (.slice s2 (n 2) c2)
  have hput := O.put2 (.int .i64 (b 2)) (.slice s2 (n 2) c2)
  clear x0 x1 x2 x3 x4 x5 x6 x7 x8 x9 xl o0 o1 o2 o3 o4 o5 o6 o7 o8 o9 ol
  obtain ⟨o0, o1, o2, o3, o4, o5, o6, o7, o8, o9⟩ := O.cells
  obtain ⟨f0, f1, f2, f3, f4, f5, f6, f7, f8, f9⟩ := O.free
  have ol := O.lt
  go_upto_region 5 with fail
  have hh := H2.out
  have e1 := HP1.out
  have e2 := HP2.out
  have hbz := hb.size
  generalize (u3.setCell ⟨p2, 4, none⟩ (.int .i64 (b 2))).setCell ⟨p2, 5, none⟩ (.slice s2 (n 2) c2) = v3 at *
  have S3 : Hid (Since w v3) := ⟨(S2.out.below.trans (hb.mono S2.out.size)).trans (hon.below (by omega) (by omega))⟩
  have L3 : Hid (L5Box v3 w.heap.size b s n c) := L.other hon (by omega)
  have Y3 : Hid (TBox v3 p1 (.int .i64 0) (.slice none 0 0) (.int .i64 0) (.slice none 0 0) (.int .i64 0) (.slice none 0 0) (.int .i64 0) (.slice none 0 0) (.int .i64 0) (.slice none 0 0)) := Y.other hon (by omega)
  have O3 : Hid (TBox v3 p2 (.int .i64 (b 0)) (.slice s0 (n 0) c0) (.int .i64 (b 1)) (.slice s1 (n 1) c1) (.int .i64 (b 2)) (.slice s2 (n 2) c2) (.int .i64 0) (.slice none 0 0) (.int .i64 0) (.slice none 0 0)) := hput
  have R2_3 : Hid (Slice v3 v2.heap.size v3.heap.size s2 (n 2) (F 2)) := ho.slice5 hon (by omega) hsz
  have R0_3 : Hid (Slice v3 v0.heap.size v1.heap.size s0 (n 0) (F 0)) := (R0_2.out.kept hb rfl).onlyM hon (Or.inr (by have := G0.out; omega))
  have R1_3 : Hid (Slice v3 v1.heap.size v2.heap.size s1 (n 1) (F 1)) := (R1_2.out.kept hb rfl).onlyM hon (Or.inr (by have := G1.out; omega))
  have H3 : Hid (w.heap.size + 3 ≤ v3.heap.size) := by show w.heap.size + 3 ≤ v3.heap.size; omega
  have G3 : Hid (v2.heap.size ≤ v3.heap.size ∧ w.heap.size + 3 ≤ v3.heap.size) := ⟨by omega, by omega⟩
  clear e1 e2 L2 Y2 O2 S2 H2 L Y O hon hsz hput hh hbz hb ho o0 o1 o2 o3 o4 o5 o6 o7 o8 o9 f0 f1 f2 f3 f4 f5 f6 f7 f8 f9 ol R0_2 R1_2
  obtain ⟨x0, x1, x2, x3, x4, x5, x6, x7, x8, x9⟩ := L3.out.cells
  have xl := L3.out.lt
  obtain ⟨o0, o1, o2, o3, o4, o5, o6, o7, o8, o9⟩ := O3.out.cells
  have ol := O3.out.lt
  go_wp2_with fail
  refine (toVec_any (b 3) (s 3) (n 3) (c 3) (F 3) v3 (HN.out 3 (by decide)) (HR.out.since S3.out 3 (by decide))).mono ?_
  rintro e u4 ⟨s3, c3, rfl, hb, ho⟩
  unfold vecV
  have L : L5Box u4 w.heap.size b s n c := L3.out.kept hb rfl
  have Y : TBox u4 p1 (.int .i64 0) (.slice none 0 0) (.int .i64 0) (.slice none 0 0) (.int .i64 0) (.slice none 0 0) (.int .i64 0) (.slice none 0 0) (.int .i64 0) (.slice none 0 0) := Y3.out.kept hb rfl
  have O : TBox u4 p2 (.int .i64 (b 0)) (.slice s0 (n 0) c0) (.int .i64 (b 1)) (.slice s1 (n 1) c1) (.int .i64 (b 2)) (.slice s2 (n 2) c2) (.int .i64 0) (.slice none 0 0) (.int .i64 0) (.slice none 0 0) := O3.out.kept hb rfl
  have hon := two_only u4 p2 6 7 (.int .i64 (b 3)) (.slice s3 (n 3) c3)
  have hsz := two_size u4 p2 6 7 (.int .i64 (b 3)) (.slice s3 (n 3) c3)
  have hput := O.put3 (.int .i64 (b 3)) (.slice s3 (n 3) c3)
  clear x0 x1 x2 x3 x4 x5 x6 x7 x8 x9 xl o0 o1 o2 o3 o4 o5 o6 o7 o8 o9 ol
  obtain ⟨o0, o1, o2, o3, o4, o5, o6, o7, o8, o9⟩ := O.cells
  obtain ⟨f0, f1, f2, f3, f4, f5, f6, f7, f8, f9⟩ := O.free
  have ol := O.lt
  go_upto_region 6 with fail
  have hh := H3.out
  have e1 := HP1.out
  have e2 := HP2.out
  have hbz := hb.size
  generalize (u4.setCell ⟨p2, 6, none⟩ (.int .i64 (b 3))).setCell ⟨p2, 7, none⟩ (.slice s3 (n 3) c3) = v4 at *
  have S4 : Hid (Since w v4) := ⟨(S3.out.below.trans (hb.mono S3.out.size)).trans (hon.below (by omega) (by omega))⟩
  have L4 : Hid (L5Box v4 w.heap.size b s n c) := L.other hon (by omega)
  have Y4 : Hid (TBox v4 p1 (.int .i64 0) (.slice none 0 0) (.int .i64 0) (.slice none 0 0) (.int .i64 0) (.slice none 0 0) (.int .i64 0) (.slice none 0 0) (.int .i64 0) (.slice none 0 0)) := Y.other hon (by omega)
  have O4 : Hid (TBox v4 p2 (.int .i64 (b 0)) (.slice s0 (n 0) c0) (.int .i64 (b 1)) (.slice s1 (n 1) c1) (.int .i64 (b 2)) (.slice s2 (n 2) c2) (.int .i64 (b 3)) (.slice s3 (n 3) c3) (.int .i64 0) (.slice none 0 0)) := hput
  have R3_4 : Hid (Slice v4 v3.heap.size v4.heap.size s3 (n 3) (F 3)) := ho.slice5 hon (by omega) hsz
  have R0_4 : Hid (Slice v4 v0.heap.size v1.heap.size s0 (n 0) (F 0)) := (R0_3.out.kept hb rfl).onlyM hon (Or.inr (by have := G0.out; omega))
  have R1_4 : Hid (Slice v4 v1.heap.size v2.heap.size s1 (n 1) (F 1)) := (R1_3.out.kept hb rfl).onlyM hon (Or.inr (by have := G1.out; omega))
  have R2_4 : Hid (Slice v4 v2.heap.size v3.heap.size s2 (n 2) (F 2)) := (R2_3.out.kept hb rfl).onlyM hon (Or.inr (by have := G2.out; omega))
  have H4 : Hid (w.heap.size + 3 ≤ v4.heap.size) := by show w.heap.size + 3 ≤ v4.heap.size; omega
  have G4 : Hid (v3.heap.size ≤ v4.heap.size ∧ w.heap.size + 3 ≤ v4.heap.size) := ⟨by omega, by omega⟩
  clear e1 e2 L3 Y3 O3 S3 H3 L Y O hon hsz hput hh hbz hb ho o0 o1 o2 o3 o4 o5 o6 o7 o8 o9 f0 f1 f2 f3 f4 f5 f6 f7 f8 f9 ol R0_3 R1_3 R2_3
  obtain ⟨x0, x1, x2, x3, x4, x5, x6, x7, x8, x9⟩ := L4.out.cells
  have xl := L4.out.lt
  obtain ⟨o0, o1, o2, o3, o4, o5, o6, o7, o8, o9⟩ := O4.out.cells
  have ol := O4.out.lt
  go_wp2_with fail
  refine (toVec_any (b 4) (s 4) (n 4) (c 4) (F 4) v4 (HN.out 4 (by decide)) (HR.out.since S4.out 4 (by decide))).mono ?_
  rintro e u5 ⟨s4, c4, rfl, hb, ho⟩
  unfold vecV
  have L : L5Box u5 w.heap.size b s n c := L4.out.kept hb rfl
  have Y : TBox u5 p1 (.int .i64 0) (.slice none 0 0) (.int .i64 0) (.slice none 0 0) (.int .i64 0) (.slice none 0 0) (.int .i64 0) (.slice none 0 0) (.int .i64 0) (.slice none 0 0) := Y4.out.kept hb rfl
  have O : TBox u5 p2 (.int .i64 (b 0)) (.slice s0 (n 0) c0) (.int .i64 (b 1)) (.slice s1 (n 1) c1) (.int .i64 (b 2)) (.slice s2 (n 2) c2) (.int .i64 (b 3)) (.slice s3 (n 3) c3) (.int .i64 0) (.slice none 0 0) := O4.out.kept hb rfl
  have hon := two_only u5 p2 8 9 (.int .i64 (b 4)) (.slice s4 (n 4) c4)
  have hsz := two_size u5 p2 8 9 (.int .i64 (b 4)) (.slice s4 (n 4) c4)
  have hput := O.put4 (.int .i64 (b 4)) (.slice s4 (n 4) c4)
  clear x0 x1 x2 x3 x4 x5 x6 x7 x8 x9 xl o0 o1 o2 o3 o4 o5 o6 o7 o8 o9 ol
  obtain ⟨o0, o1, o2, o3, o4, o5, o6, o7, o8, o9⟩ := O.cells
  obtain ⟨f0, f1, f2, f3, f4, f5, f6, f7, f8, f9⟩ := O.free
  have ol := O.lt
  go_upto_region 7 with fail
  have hh := H4.out
  have e1 := HP1.out
  have e2 := HP2.out
  have hbz := hb.size
  generalize (u5.setCell ⟨p2, 8, none⟩ (.int .i64 (b 4))).setCell ⟨p2, 9, none⟩ (.slice s4 (n 4) c4) = v5 at *
  have S5 : Hid (Since w v5) := ⟨(S4.out.below.trans (hb.mono S4.out.size)).trans (hon.below (by omega) (by omega))⟩
  have L5 : Hid (L5Box v5 w.heap.size b s n c) := L.other hon (by omega)
  have Y5 : Hid (TBox v5 p1 (.int .i64 0) (.slice none 0 0) (.int .i64 0) (.slice none 0 0) (.int .i64 0) (.slice none 0 0) (.int .i64 0) (.slice none 0 0) (.int .i64 0) (.slice none 0 0)) := Y.other hon (by omega)
  have O5 : Hid (TBox v5 p2 (.int .i64 (b 0)) (.slice s0 (n 0) c0) (.int .i64 (b 1)) (.slice s1 (n 1) c1) (.int .i64 (b 2)) (.slice s2 (n 2) c2) (.int .i64 (b 3)) (.slice s3 (n 3) c3) (.int .i64 (b 4)) (.slice s4 (n 4) c4)) := hput
  have R4_5 : Hid (Slice v5 v4.heap.size v5.heap.size s4 (n 4) (F 4)) := ho.slice5 hon (by omega) hsz
  have R0_5 : Hid (Slice v5 v0.heap.size v1.heap.size s0 (n 0) (F 0)) := (R0_4.out.kept hb rfl).onlyM hon (Or.inr (by have := G0.out; omega))
  have R1_5 : Hid (Slice v5 v1.heap.size v2.heap.size s1 (n 1) (F 1)) := (R1_4.out.kept hb rfl).onlyM hon (Or.inr (by have := G1.out; omega))
  have R2_5 : Hid (Slice v5 v2.heap.size v3.heap.size s2 (n 2) (F 2)) := (R2_4.out.kept hb rfl).onlyM hon (Or.inr (by have := G2.out; omega))
  have R3_5 : Hid (Slice v5 v3.heap.size v4.heap.size s3 (n 3) (F 3)) := (R3_4.out.kept hb rfl).onlyM hon (Or.inr (by have := G3.out; omega))
  have H5 : Hid (w.heap.size + 3 ≤ v5.heap.size) := by show w.heap.size + 3 ≤ v5.heap.size; omega
  have G5 : Hid (v4.heap.size ≤ v5.heap.size ∧ w.heap.size + 3 ≤ v5.heap.size) := ⟨by omega, by omega⟩
  clear e1 e2 L4 Y4 O4 S4 H4 L Y O hon hsz hput hh hbz hb ho o0 o1 o2 o3 o4 o5 o6 o7 o8 o9 f0 f1 f2 f3 f4 f5 f6 f7 f8 f9 ol R0_4 R1_4 R2_4 R3_4
  obtain ⟨o0, o1, o2, o3, o4, o5, o6, o7, o8, o9⟩ := O5.out.cells
  have ol := O5.out.lt
  obtain ⟨a0, a1, a2, a3, a4, a5, a6, a7, a8, a9⟩ := Y5.out.cells
  obtain ⟨f0, f1, f2, f3, f4, f5, f6, f7, f8, f9⟩ := Y5.out.free
  have yl := Y5.out.lt
  go_wp2_with fail
  refine bodyPost_ret (v := m5V b (five s0 s1 s2 s3 s4) n (five c0 c1 c2 c3 c4)) (by simp [results, Try.results53, go_sem, m5V, five, a0, a1, a2, a3, a4, a5, a6, a7, a8, a9]) rfl ?_
  have FIN : ∀ W, OnlyM v5 W p1 (p1 + 1) → New5 w b n F (.returned (m5V b (five s0 s1 s2 s3 s4) n (five c0 c1 c2 c3 c4))) W := fun W ho => by
    have g0 := G0.out
    have g1 := G1.out
    have g2 := G2.out
    have g3 := G3.out
    have g4 := G4.out
    have g5 := G5.out
    have hz := ho.size
    have e1 := HP1.out
    exact ⟨_, _, six5 v0.heap.size v1.heap.size v2.heap.size v3.heap.size v4.heap.size v5.heap.size, rfl, S5.out.below.trans (ho.below (by omega) S5.out.size), ⟨R0_5.out.onlyM ho (Or.inr (by omega)), R1_5.out.onlyM ho (Or.inr (by omega)), R2_5.out.onlyM ho (Or.inr (by omega)), R3_5.out.onlyM ho (Or.inr (by omega)), R4_5.out.onlyM ho (Or.inr (by omega)), ⟨g1.1, g2.1, g3.1, g4.1, g5.1⟩⟩, by show w.heap.size ≤ v0.heap.size; omega, hz⟩
  refine FIN _ ?_
  iterate 10 (refine OnlyM.setM ?_ (Nat.le_refl _) (Nat.lt_succ_self _))
  exact OnlyM.refl _ _ _
end Go.Proofs.Ytlgnplnmcdjbiaa
