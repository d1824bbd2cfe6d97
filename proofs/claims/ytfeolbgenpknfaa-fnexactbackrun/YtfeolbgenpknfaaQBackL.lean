/- What is proved here: the law of BackRun walks to true, where the specification's function and the program's hand back the same in new memory; nothing that was there turns. -/
import Derived.Test.YtfeolbgenpknfaaQCellH
import Derived.Test.YtfeolbgenpknfaaQCellMkW
import Derived.Test.YtfeolbgenpknfaaQRowsEqW
import Derived.Test.YtfeolbgenpknfaaQRowsSMarkWToIntRowW
namespace Go.Proofs.Ytfeolbgenpknfaa
open Go.RowKit

theorem COwn.slXB {W : World} {g n lo : Nat} {f : Nat → Cel} (h : COwn W g n f) (hl : lo ≤ g) : CSl W lo W.heap.size (some ⟨g, 0, none⟩) n f := Or.inr ⟨g, rfl, hl, h.lt, h⟩
set_option maxRecDepth 100000 in
set_option maxHeartbeats 4000000 in
theorem law_BackRun (sa : Option Addr) (n cap : Nat) (f : Nat → Cel) (t : ByteArray) (rn : Nat) (rf : Nat → Int) (w : World) (ht : t.size ≤ maxLen) (hn : n ≤ maxLen) (hr : CRow w w.heap.size sa n f) (hc : ∀ i, i < n → (f i).c.size ≤ maxLen) (hrn : rn ≤ 1048576)
    (hs : t.size ≤ 1048576 → n ≤ 1048576 → (∀ i, i < n → (f i).c.size ≤ 1048576) → ∀ (W : World) (x : Option Addr) (k : Nat), CRow W W.heap.size x n f → Calls Try.prog 47 #[.slice x n k, .string t] W fun e W' => NewInts W rn rf e W')
    (hi : t.size ≤ 1048576 → n ≤ 1048576 → (∀ i, i < n → (f i).c.size ≤ 1048576) → ∀ (W : World) (x : Option Addr) (k : Nat), CRow W W.heap.size x n f → Calls Try.prog 48 #[.slice x n k, .string t] W fun e W' => NewInts W rn rf e W') :
    Calls Try.prog 8 #[.slice sa n cap, .string t] w fun e w' => e = .returned (.bool true) ∧ Below w.heap.size w w' := by
  have HR : Hid (CRow w w.heap.size sa n f) := hr
  unfold maxLen at ht
  by_cases htl : t.size ≤ 1048576
  case neg =>
    have htl2 : (1048576 : Int) < (t.size : Int) := by omega
    clear hs hi
    go_enter Try.func8, Try.ntmps8
    go_wp2_with fail
    go_ret
    exact ⟨rfl, Below.refl _ _⟩
  have htl2 : ¬ (1048576 : Int) < (t.size : Int) := by omega
  go_enter Try.func8, Try.ntmps8
  go_wp2_with fail
  refine (szCells_any sa n cap f w hn hr hc).mono ?_
  clear hr hc hn
  rintro e w0 ⟨⟨z, rfl, hz⟩, hb⟩
  have B0 : Hid (Below w.heap.size w w0) := hb
  clear hb
  rcases hz with hz | ⟨hz, hl, hcs⟩
  · clear hs hi
    go_wp2_with fail
    go_ret
    exact ⟨rfl, B0.out⟩
  have HS : Hid (∀ (W : World) (x : Option Addr) (k : Nat), CRow W W.heap.size x n f → Calls Try.prog 47 #[.slice x n k, .string t] W fun e W' => NewInts W rn rf e W') := hs htl hl hcs
  have HI : Hid (∀ (W : World) (x : Option Addr) (k : Nat), CRow W W.heap.size x n f → Calls Try.prog 48 #[.slice x n k, .string t] W fun e W' => NewInts W rn rf e W') := hi htl hl hcs
  have hz' : ¬ z < 0 := by omega
  clear hs hi hcs
  go_wp2_with fail
  refine (toCells_any sa n cap f w0 hl (HR.out.late B0.out)).mono ?_
  rintro e w1 ⟨rfl, hb, ho⟩
  have A_n : Hid (CSl w1 w0.heap.size w1.heap.size (some ⟨w0.heap.size, 0, none⟩) n f) := ho.slXB (Nat.le_refl _)
  have Z1 : Hid (w0.heap.size ≤ w1.heap.size) := hb.size
  have B1 : Hid (Below w.heap.size w w1) := B0.out.trans (hb.mono B0.out.size)
  clear hb ho
  go_wp2_with fail
  refine (HS.out w1 _ _ A_n.out.row).mono ?_
  rintro e w2 ⟨sS, cS, rfl, hb, ho⟩
  have S_n : Hid (Slice w2 w1.heap.size w2.heap.size sS rn rf) := ho.slice
  have Z2 : Hid (w1.heap.size ≤ w2.heap.size) := hb.size
  have B2 : Hid (Below w.heap.size w w2) := B1.out.trans (hb.mono B1.out.size)
  have A_2 : Hid (CSl w2 w0.heap.size w1.heap.size (some ⟨w0.heap.size, 0, none⟩) n f) := A_n.out.kept hb
  clear B1 A_n
  clear hb ho
  go_wp2_with fail
  refine (toCells_any sa n cap f w2 hl (HR.out.late B2.out)).mono ?_
  rintro e w3 ⟨rfl, hb, ho⟩
  have X_n : Hid (CSl w3 w2.heap.size w3.heap.size (some ⟨w2.heap.size, 0, none⟩) n f) := ho.slXB (Nat.le_refl _)
  have Z3 : Hid (w2.heap.size ≤ w3.heap.size) := hb.size
  have B3 : Hid (Below w.heap.size w w3) := B2.out.trans (hb.mono B2.out.size)
  have A_3 : Hid (CSl w3 w0.heap.size w1.heap.size (some ⟨w0.heap.size, 0, none⟩) n f) := A_2.out.kept hb
  have S_3 : Hid (Slice w3 w1.heap.size w2.heap.size sS rn rf) := S_n.out.kept hb rfl
  clear B2 A_2 S_n
  clear hb ho
  go_wp2_with fail
  refine (HI.out w3 _ _ X_n.out.row).mono ?_
  rintro e w4 ⟨sG, cG, rfl, hb, ho⟩
  have G_n : Hid (Slice w4 w3.heap.size w4.heap.size sG rn rf) := ho.slice
  have Z4 : Hid (w3.heap.size ≤ w4.heap.size) := hb.size
  have B4 : Hid (Below w.heap.size w w4) := B3.out.trans (hb.mono B3.out.size)
  have A_4 : Hid (CSl w4 w0.heap.size w1.heap.size (some ⟨w0.heap.size, 0, none⟩) n f) := A_3.out.kept hb
  have S_4 : Hid (Slice w4 w1.heap.size w2.heap.size sS rn rf) := S_3.out.kept hb rfl
  have X_4 : Hid (CSl w4 w2.heap.size w3.heap.size (some ⟨w2.heap.size, 0, none⟩) n f) := X_n.out.kept hb
  clear B3 A_3 S_3 X_n
  clear hb ho
  go_wp2_with fail
  refine (eqRow_same _ _ rn _ _ rf w4 hrn G_n.out.row S_4.out.row).mono ?_
  rintro e w5 ⟨rfl, hb⟩
  have Z5 : Hid (w4.heap.size ≤ w5.heap.size) := hb.size
  have B5 : Hid (Below w.heap.size w w5) := B4.out.trans (hb.mono B4.out.size)
  have A_5 : Hid (CSl w5 w0.heap.size w1.heap.size (some ⟨w0.heap.size, 0, none⟩) n f) := A_4.out.kept hb
  have S_5 : Hid (Slice w5 w1.heap.size w2.heap.size sS rn rf) := S_4.out.kept hb rfl
  have X_5 : Hid (CSl w5 w2.heap.size w3.heap.size (some ⟨w2.heap.size, 0, none⟩) n f) := X_4.out.kept hb
  have G_5 : Hid (Slice w5 w3.heap.size w4.heap.size sG rn rf) := G_n.out.kept hb rfl
  clear B4 A_4 S_4 X_4 G_n
  clear hb
  go_wp2_with fail
  refine (toCells_any sa n cap f w5 hl (HR.out.late B5.out)).mono ?_
  rintro e w6 ⟨rfl, hb, ho⟩
  have Y_n : Hid (CSl w6 w5.heap.size w6.heap.size (some ⟨w5.heap.size, 0, none⟩) n f) := ho.slXB (Nat.le_refl _)
  have Z6 : Hid (w5.heap.size ≤ w6.heap.size) := hb.size
  have B6 : Hid (Below w.heap.size w w6) := B5.out.trans (hb.mono B5.out.size)
  have A_6 : Hid (CSl w6 w0.heap.size w1.heap.size (some ⟨w0.heap.size, 0, none⟩) n f) := A_5.out.kept hb
  have S_6 : Hid (Slice w6 w1.heap.size w2.heap.size sS rn rf) := S_5.out.kept hb rfl
  have X_6 : Hid (CSl w6 w2.heap.size w3.heap.size (some ⟨w2.heap.size, 0, none⟩) n f) := X_5.out.kept hb
  have G_6 : Hid (Slice w6 w3.heap.size w4.heap.size sG rn rf) := G_5.out.kept hb rfl
  clear B5 A_5 S_5 X_5 G_5
  clear hb ho
  go_wp2_with fail
  refine (eqCells_same _ _ n _ _ f w6 hl X_6.out.row Y_n.out.row).mono ?_
  rintro e w7 ⟨rfl, hb⟩
  have Z7 : Hid (w6.heap.size ≤ w7.heap.size) := hb.size
  have B7 : Hid (Below w.heap.size w w7) := B6.out.trans (hb.mono B6.out.size)
  have A_7 : Hid (CSl w7 w0.heap.size w1.heap.size (some ⟨w0.heap.size, 0, none⟩) n f) := A_6.out.kept hb
  have S_7 : Hid (Slice w7 w1.heap.size w2.heap.size sS rn rf) := S_6.out.kept hb rfl
  have X_7 : Hid (CSl w7 w2.heap.size w3.heap.size (some ⟨w2.heap.size, 0, none⟩) n f) := X_6.out.kept hb
  have G_7 : Hid (Slice w7 w3.heap.size w4.heap.size sG rn rf) := G_6.out.kept hb rfl
  have Y_7 : Hid (CSl w7 w5.heap.size w6.heap.size (some ⟨w5.heap.size, 0, none⟩) n f) := Y_n.out.kept hb
  clear B6 A_6 S_6 X_6 G_6 Y_n
  clear hb
  go_wp2_with fail
  refine (markCells_any (some ⟨w2.heap.size, 0, none⟩) n _ w2.heap.size w3.heap.size f w7 hl X_7.out).mono ?_
  rintro e w8 ⟨rfl, hon, hsl⟩
  have X_m : Hid (CSl w8 w2.heap.size w3.heap.size (some ⟨w2.heap.size, 0, none⟩) n markC) := hsl
  have Z8 : Hid (w7.heap.size ≤ w8.heap.size) := hon.size
  have B8 : Hid (Below w.heap.size w w8) := B7.out.trans (hon.below (by have := B0.out.size; have := Z1.out; have := Z2.out; have := Z3.out; have := Z4.out; have := Z5.out; have := Z6.out; have := Z7.out; have := Z8.out; omega) B7.out.size)
  have A_8 : Hid (CSl w8 w0.heap.size w1.heap.size (some ⟨w0.heap.size, 0, none⟩) n f) := A_7.out.only hon (by have := B0.out.size; have := Z1.out; have := Z2.out; have := Z3.out; have := Z4.out; have := Z5.out; have := Z6.out; have := Z7.out; have := Z8.out; omega)
  have S_8 : Hid (Slice w8 w1.heap.size w2.heap.size sS rn rf) := S_7.out.only hon (by have := B0.out.size; have := Z1.out; have := Z2.out; have := Z3.out; have := Z4.out; have := Z5.out; have := Z6.out; have := Z7.out; have := Z8.out; omega)
  have G_8 : Hid (Slice w8 w3.heap.size w4.heap.size sG rn rf) := G_7.out.only hon (by have := B0.out.size; have := Z1.out; have := Z2.out; have := Z3.out; have := Z4.out; have := Z5.out; have := Z6.out; have := Z7.out; have := Z8.out; omega)
  have Y_8 : Hid (CSl w8 w5.heap.size w6.heap.size (some ⟨w5.heap.size, 0, none⟩) n f) := Y_7.out.only hon (by have := B0.out.size; have := Z1.out; have := Z2.out; have := Z3.out; have := Z4.out; have := Z5.out; have := Z6.out; have := Z7.out; have := Z8.out; omega)
  clear B7 A_7 S_7 X_7 G_7 Y_7
  clear hon hsl
  have hkX : ¬ ((1 + n * 3 : Nat) : Int) < 0 := by omega
  go_wp2_with fail
  refine (eqRow_same _ _ rn _ _ rf w8 hrn G_8.out.row S_8.out.row).mono ?_
  rintro e w9 ⟨rfl, hb⟩
  have Z9 : Hid (w8.heap.size ≤ w9.heap.size) := hb.size
  have B9 : Hid (Below w.heap.size w w9) := B8.out.trans (hb.mono B8.out.size)
  have A_9 : Hid (CSl w9 w0.heap.size w1.heap.size (some ⟨w0.heap.size, 0, none⟩) n f) := A_8.out.kept hb
  have S_9 : Hid (Slice w9 w1.heap.size w2.heap.size sS rn rf) := S_8.out.kept hb rfl
  have G_9 : Hid (Slice w9 w3.heap.size w4.heap.size sG rn rf) := G_8.out.kept hb rfl
  have Y_9 : Hid (CSl w9 w5.heap.size w6.heap.size (some ⟨w5.heap.size, 0, none⟩) n f) := Y_8.out.kept hb
  have X_9 : Hid (CSl w9 w2.heap.size w3.heap.size (some ⟨w2.heap.size, 0, none⟩) n markC) := X_m.out.kept hb
  clear B8 A_8 S_8 G_8 Y_8 X_m
  clear hb
  go_wp2_with fail
  refine (markRow_in sG rn _ w3.heap.size w4.heap.size rf 1 w9 hrn (by omega) (by omega) G_9.out).mono ?_
  rintro e w10 ⟨rfl, hon, hsl⟩
  have G_m : Hid (Slice w10 w3.heap.size w4.heap.size sG rn (fun i => 1 + (i : Int))) := hsl
  have Z10 : Hid (w9.heap.size ≤ w10.heap.size) := hon.size
  have B10 : Hid (Below w.heap.size w w10) := B9.out.trans (hon.below (by have := B0.out.size; have := Z1.out; have := Z2.out; have := Z3.out; have := Z4.out; have := Z5.out; have := Z6.out; have := Z7.out; have := Z8.out; have := Z9.out; have := Z10.out; omega) B9.out.size)
  have A_10 : Hid (CSl w10 w0.heap.size w1.heap.size (some ⟨w0.heap.size, 0, none⟩) n f) := A_9.out.only hon (by have := B0.out.size; have := Z1.out; have := Z2.out; have := Z3.out; have := Z4.out; have := Z5.out; have := Z6.out; have := Z7.out; have := Z8.out; have := Z9.out; have := Z10.out; omega)
  have S_10 : Hid (Slice w10 w1.heap.size w2.heap.size sS rn rf) := S_9.out.only hon (by have := B0.out.size; have := Z1.out; have := Z2.out; have := Z3.out; have := Z4.out; have := Z5.out; have := Z6.out; have := Z7.out; have := Z8.out; have := Z9.out; have := Z10.out; omega)
  have Y_10 : Hid (CSl w10 w5.heap.size w6.heap.size (some ⟨w5.heap.size, 0, none⟩) n f) := Y_9.out.only hon (by have := B0.out.size; have := Z1.out; have := Z2.out; have := Z3.out; have := Z4.out; have := Z5.out; have := Z6.out; have := Z7.out; have := Z8.out; have := Z9.out; have := Z10.out; omega)
  have X_10 : Hid (CSl w10 w2.heap.size w3.heap.size (some ⟨w2.heap.size, 0, none⟩) n markC) := X_9.out.only hon (by have := B0.out.size; have := Z1.out; have := Z2.out; have := Z3.out; have := Z4.out; have := Z5.out; have := Z6.out; have := Z7.out; have := Z8.out; have := Z9.out; have := Z10.out; omega)
  clear B9 A_9 S_9 G_9 Y_9 X_9
  clear hon hsl
  have hkG : ¬ 1 + (rn : Int) < 0 := by omega
  go_wp2_with fail
  refine (heldRow_any sG rn _ 1 w10 hrn (by omega) (by omega) G_m.out.row).mono ?_
  rintro e w11 ⟨rfl, hb⟩
  have Z11 : Hid (w10.heap.size ≤ w11.heap.size) := hb.size
  have B11 : Hid (Below w.heap.size w w11) := B10.out.trans (hb.mono B10.out.size)
  have A_11 : Hid (CSl w11 w0.heap.size w1.heap.size (some ⟨w0.heap.size, 0, none⟩) n f) := A_10.out.kept hb
  have S_11 : Hid (Slice w11 w1.heap.size w2.heap.size sS rn rf) := S_10.out.kept hb rfl
  have Y_11 : Hid (CSl w11 w5.heap.size w6.heap.size (some ⟨w5.heap.size, 0, none⟩) n f) := Y_10.out.kept hb
  have X_11 : Hid (CSl w11 w2.heap.size w3.heap.size (some ⟨w2.heap.size, 0, none⟩) n markC) := X_10.out.kept hb
  have G_11 : Hid (Slice w11 w3.heap.size w4.heap.size sG rn (fun i => 1 + (i : Int))) := G_m.out.kept hb rfl
  clear B10 A_10 S_10 Y_10 X_10 G_m
  clear hb
  go_wp2_with fail
  refine (toCells_any sa n cap f w11 hl (HR.out.late B11.out)).mono ?_
  rintro e w12 ⟨rfl, hb, ho⟩
  have V_n : Hid (CSl w12 w11.heap.size w12.heap.size (some ⟨w11.heap.size, 0, none⟩) n f) := ho.slXB (Nat.le_refl _)
  have Z12 : Hid (w11.heap.size ≤ w12.heap.size) := hb.size
  have B12 : Hid (Below w.heap.size w w12) := B11.out.trans (hb.mono B11.out.size)
  have A_12 : Hid (CSl w12 w0.heap.size w1.heap.size (some ⟨w0.heap.size, 0, none⟩) n f) := A_11.out.kept hb
  have S_12 : Hid (Slice w12 w1.heap.size w2.heap.size sS rn rf) := S_11.out.kept hb rfl
  have Y_12 : Hid (CSl w12 w5.heap.size w6.heap.size (some ⟨w5.heap.size, 0, none⟩) n f) := Y_11.out.kept hb
  have X_12 : Hid (CSl w12 w2.heap.size w3.heap.size (some ⟨w2.heap.size, 0, none⟩) n markC) := X_11.out.kept hb
  have G_12 : Hid (Slice w12 w3.heap.size w4.heap.size sG rn (fun i => 1 + (i : Int))) := G_11.out.kept hb rfl
  clear B11 A_11 S_11 Y_11 X_11 G_11
  clear hb ho
  go_wp2_with fail
  refine (HI.out w12 _ _ V_n.out.row).mono ?_
  rintro e w13 ⟨sH, cH, rfl, hb, ho⟩
  have H_n : Hid (Slice w13 w12.heap.size w13.heap.size sH rn rf) := ho.slice
  have Z13 : Hid (w12.heap.size ≤ w13.heap.size) := hb.size
  have B13 : Hid (Below w.heap.size w w13) := B12.out.trans (hb.mono B12.out.size)
  have A_13 : Hid (CSl w13 w0.heap.size w1.heap.size (some ⟨w0.heap.size, 0, none⟩) n f) := A_12.out.kept hb
  have S_13 : Hid (Slice w13 w1.heap.size w2.heap.size sS rn rf) := S_12.out.kept hb rfl
  have Y_13 : Hid (CSl w13 w5.heap.size w6.heap.size (some ⟨w5.heap.size, 0, none⟩) n f) := Y_12.out.kept hb
  have X_13 : Hid (CSl w13 w2.heap.size w3.heap.size (some ⟨w2.heap.size, 0, none⟩) n markC) := X_12.out.kept hb
  have G_13 : Hid (Slice w13 w3.heap.size w4.heap.size sG rn (fun i => 1 + (i : Int))) := G_12.out.kept hb rfl
  have V_13 : Hid (CSl w13 w11.heap.size w12.heap.size (some ⟨w11.heap.size, 0, none⟩) n f) := V_n.out.kept hb
  clear B12 A_12 S_12 Y_12 X_12 G_12 V_n
  clear hb ho
  go_wp2_with fail
  refine (eqRow_same _ _ rn _ _ rf w13 hrn H_n.out.row S_13.out.row).mono ?_
  rintro e w14 ⟨rfl, hb⟩
  have Z14 : Hid (w13.heap.size ≤ w14.heap.size) := hb.size
  have B14 : Hid (Below w.heap.size w w14) := B13.out.trans (hb.mono B13.out.size)
  have A_14 : Hid (CSl w14 w0.heap.size w1.heap.size (some ⟨w0.heap.size, 0, none⟩) n f) := A_13.out.kept hb
  have S_14 : Hid (Slice w14 w1.heap.size w2.heap.size sS rn rf) := S_13.out.kept hb rfl
  have Y_14 : Hid (CSl w14 w5.heap.size w6.heap.size (some ⟨w5.heap.size, 0, none⟩) n f) := Y_13.out.kept hb
  have X_14 : Hid (CSl w14 w2.heap.size w3.heap.size (some ⟨w2.heap.size, 0, none⟩) n markC) := X_13.out.kept hb
  have G_14 : Hid (Slice w14 w3.heap.size w4.heap.size sG rn (fun i => 1 + (i : Int))) := G_13.out.kept hb rfl
  have V_14 : Hid (CSl w14 w11.heap.size w12.heap.size (some ⟨w11.heap.size, 0, none⟩) n f) := V_13.out.kept hb
  have H_14 : Hid (Slice w14 w12.heap.size w13.heap.size sH rn rf) := H_n.out.kept hb rfl
  clear B13 A_13 S_13 Y_13 X_13 G_13 V_13 H_n
  clear hb
  go_wp2_with fail
  refine (heldRow_any sG rn _ 1 w14 hrn (by omega) (by omega) G_14.out.row).mono ?_
  rintro e w15 ⟨rfl, hb⟩
  have Z15 : Hid (w14.heap.size ≤ w15.heap.size) := hb.size
  have B15 : Hid (Below w.heap.size w w15) := B14.out.trans (hb.mono B14.out.size)
  have A_15 : Hid (CSl w15 w0.heap.size w1.heap.size (some ⟨w0.heap.size, 0, none⟩) n f) := A_14.out.kept hb
  have S_15 : Hid (Slice w15 w1.heap.size w2.heap.size sS rn rf) := S_14.out.kept hb rfl
  have Y_15 : Hid (CSl w15 w5.heap.size w6.heap.size (some ⟨w5.heap.size, 0, none⟩) n f) := Y_14.out.kept hb
  have X_15 : Hid (CSl w15 w2.heap.size w3.heap.size (some ⟨w2.heap.size, 0, none⟩) n markC) := X_14.out.kept hb
  have G_15 : Hid (Slice w15 w3.heap.size w4.heap.size sG rn (fun i => 1 + (i : Int))) := G_14.out.kept hb rfl
  have V_15 : Hid (CSl w15 w11.heap.size w12.heap.size (some ⟨w11.heap.size, 0, none⟩) n f) := V_14.out.kept hb
  have H_15 : Hid (Slice w15 w12.heap.size w13.heap.size sH rn rf) := H_14.out.kept hb rfl
  clear B14 A_14 S_14 Y_14 X_14 G_14 V_14 H_14
  clear hb
  go_wp2_with fail
  go_ret
  exact ⟨rfl, B15.out⟩
end Go.Proofs.Ytfeolbgenpknfaa
