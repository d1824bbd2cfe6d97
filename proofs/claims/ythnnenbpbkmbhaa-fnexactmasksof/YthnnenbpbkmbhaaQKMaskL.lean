/- What is proved here: the law of MasksOf walks to true, where the specification's function and the program's hand back the same in new memory; nothing that was there turns. -/
import Derived.Test.YthnnenbpbkmbhaaQCellDToCellS
import Derived.Test.YthnnenbpbkmbhaaQCellMkW
import Derived.Test.YthnnenbpbkmbhaaQRowsEqWToMaskMkM
import Derived.Test.YthnnenbpbkmbhaaQMaskMarkW
import Derived.Test.YthnnenbpbkmbhaaQMaskHeldW
namespace Go.Proofs.Ythnnenbpbkmbhaa
open Go.RowKit

theorem COwn.slM {W : World} {g n lo : Nat} {f : Nat → Cel} (h : COwn W g n f) (hl : lo ≤ g) : CSl W lo W.heap.size (some ⟨g, 0, none⟩) n f := Or.inr ⟨g, rfl, hl, h.lt, h⟩
set_option maxRecDepth 100000 in
set_option maxHeartbeats 8000000 in
theorem law_MasksOf (sa : Option Addr) (n cap : Nat) (f : Nat → Cel) (ro : Int) (rn : Nat) (rf : Nat → Nat → Int) (w : World) (hn : n ≤ maxLen) (hr : CRow w w.heap.size sa n f) (hc : ∀ i, i < n → (f i).c.size ≤ maxLen) (hrn : rn ≤ 1048576)
    (hs : n ≤ 1048576 → (∀ i, i < n → (f i).c.size ≤ 1048576) → ∀ (W : World) (x : Option Addr) (k : Nat), CRow W W.heap.size x n f → Calls Try.prog 13 #[.slice x n k] W fun e W' => NewMasks W ro rn rf e W')
    (hi : n ≤ 1048576 → (∀ i, i < n → (f i).c.size ≤ 1048576) → ∀ (W : World) (x : Option Addr) (k : Nat), CRow W W.heap.size x n f → Calls Try.prog 15 #[.slice x n k] W fun e W' => NewMasks W ro rn rf e W') :
    Calls Try.prog 3 #[.slice sa n cap] w fun e w' => e = .returned (.bool true) ∧ Below w.heap.size w w' := by
  have HR : Hid (CRow w w.heap.size sa n f) := hr
  go_enter Try.func3, Try.ntmps3
  go_wp2_with fail
  refine (szCells_any sa n cap f w hn hr hc).mono ?_
  clear hr hc hn
  rintro e w0 ⟨⟨z, rfl, hz⟩, hb⟩
  have B_0 : Hid (Below w.heap.size w w0) := hb
  have Z_0 : Hid (w.heap.size ≤ w0.heap.size) := hb.size
  clear hb
  rcases hz with hz | ⟨hz, hl, hcs⟩
  · clear hs hi
    go_wp2_with fail
    go_ret
    exact ⟨rfl, B_0.out⟩
  have HS : Hid (∀ (W : World) (x : Option Addr) (k : Nat), CRow W W.heap.size x n f → Calls Try.prog 13 #[.slice x n k] W fun e W' => NewMasks W ro rn rf e W') := hs hl hcs
  have HI : Hid (∀ (W : World) (x : Option Addr) (k : Nat), CRow W W.heap.size x n f → Calls Try.prog 15 #[.slice x n k] W fun e W' => NewMasks W ro rn rf e W') := hi hl hcs
  have hz' : ¬ z < 0 := by omega
  clear hs hi hcs
  go_wp2_with fail
  refine (toCells_any sa n cap f w0 hl (HR.out.late B_0.out)).mono ?_
  rintro e w1 ⟨rfl, hb, ho⟩
  have A_n : Hid (CSl w1 w0.heap.size w1.heap.size (some ⟨w0.heap.size, 0, none⟩) n f) := ho.slM (Nat.le_refl _)
  clear ho
  have Z_1 : Hid (w0.heap.size ≤ w1.heap.size) := hb.size
  have B_2 : Hid (Below w.heap.size w w1) := B_0.out.trans (hb.mono B_0.out.size)
  clear B_0
  clear hb
  go_wp2_with fail
  refine (HS.out w1 _ _ A_n.out.row).mono ?_
  rintro e w2 ⟨sS, cS, hS, rfl, hb, ho, hl0, hl5⟩
  unfold masksV
  have S_n : Hid (MSl w2 hS sS rn rf) := ho
  have Z_3 : Hid (hS 0 ≤ hS 5) := by have := ho.up; show _ ≤ _; omega
  have Z_4 : Hid (w1.heap.size ≤ hS 0) := hl0
  have Z_5 : Hid (hS 5 ≤ w2.heap.size) := hl5
  clear ho hl0 hl5
  have Z_6 : Hid (w1.heap.size ≤ w2.heap.size) := hb.size
  have B_7 : Hid (Below w.heap.size w w2) := B_2.out.trans (hb.mono B_2.out.size)
  have A_8 : Hid (CSl w2 w0.heap.size w1.heap.size (some ⟨w0.heap.size, 0, none⟩) n f) := A_n.out.kept hb
  clear B_2 A_n
  clear hb
  go_wp2_with fail
  have hq := mboxing w2 ro sS rn cS
  generalize w2.alloc (.cells #[.int .i64 ro, .slice (sS 0) rn (cS 0), .int .i64 ro, .slice (sS 1) rn (cS 1), .int .i64 ro, .slice (sS 2) rn (cS 2), .int .i64 ro, .slice (sS 3) rn (cS 3), .int .i64 ro, .slice (sS 4) rn (cS 4)] 28) = v3 at *
  obtain ⟨hb, hx, hz9⟩ := hq
  have Z_9 : Hid (v3.heap.size = w2.heap.size + 1) := hz9
  have B_10 : Hid (Below w.heap.size w v3) := B_7.out.trans (hb.mono B_7.out.size)
  have A_11 : Hid (CSl v3 w0.heap.size w1.heap.size (some ⟨w0.heap.size, 0, none⟩) n f) := A_8.out.kept hb
  have S_12 : Hid (MSl v3 hS sS rn rf) := S_n.out.kept hb
  clear B_7 A_8 S_n
  have QS_n : Hid (MBox v3 w2.heap.size ro sS rn cS) := hx
  clear hb hx hz9
  refine (toCells_any sa n cap f v3 hl (HR.out.late B_10.out)).mono ?_
  rintro e w4 ⟨rfl, hb, ho⟩
  have X_n : Hid (CSl w4 v3.heap.size w4.heap.size (some ⟨v3.heap.size, 0, none⟩) n f) := ho.slM (Nat.le_refl _)
  clear ho
  have Z_13 : Hid (v3.heap.size ≤ w4.heap.size) := hb.size
  have B_14 : Hid (Below w.heap.size w w4) := B_10.out.trans (hb.mono B_10.out.size)
  have A_15 : Hid (CSl w4 w0.heap.size w1.heap.size (some ⟨w0.heap.size, 0, none⟩) n f) := A_11.out.kept hb
  have S_16 : Hid (MSl w4 hS sS rn rf) := S_12.out.kept hb
  have QS_17 : Hid (MBox w4 w2.heap.size ro sS rn cS) := QS_n.out.kept hb rfl
  clear B_10 A_11 S_12 QS_n
  clear hb
  obtain ⟨cQS0, cQS1, cQS2, cQS3, cQS4, cQS5, cQS6, cQS7, cQS8, cQS9⟩ := QS_17.out.cells
  have lQS := QS_17.out.lt
  go_wp2_with fail
  refine (HI.out w4 _ _ X_n.out.row).mono ?_
  clear cQS0 cQS1 cQS2 cQS3 cQS4 cQS5 cQS6 cQS7 cQS8 cQS9 lQS
  rintro e w5 ⟨sG, cG, hG, rfl, hb, ho, hl0, hl5⟩
  unfold masksV
  have G_n : Hid (MSl w5 hG sG rn rf) := ho
  have Z_18 : Hid (hG 0 ≤ hG 5) := by have := ho.up; show _ ≤ _; omega
  have Z_19 : Hid (w4.heap.size ≤ hG 0) := hl0
  have Z_20 : Hid (hG 5 ≤ w5.heap.size) := hl5
  clear ho hl0 hl5
  have Z_21 : Hid (w4.heap.size ≤ w5.heap.size) := hb.size
  have B_22 : Hid (Below w.heap.size w w5) := B_14.out.trans (hb.mono B_14.out.size)
  have A_23 : Hid (CSl w5 w0.heap.size w1.heap.size (some ⟨w0.heap.size, 0, none⟩) n f) := A_15.out.kept hb
  have S_24 : Hid (MSl w5 hS sS rn rf) := S_16.out.kept hb
  have QS_25 : Hid (MBox w5 w2.heap.size ro sS rn cS) := QS_17.out.kept hb rfl
  have X_26 : Hid (CSl w5 v3.heap.size w4.heap.size (some ⟨v3.heap.size, 0, none⟩) n f) := X_n.out.kept hb
  clear B_14 A_15 S_16 QS_17 X_n
  clear hb
  obtain ⟨cQS0, cQS1, cQS2, cQS3, cQS4, cQS5, cQS6, cQS7, cQS8, cQS9⟩ := QS_25.out.cells
  have lQS := QS_25.out.lt
  go_wp2_with fail
  clear cQS0 cQS1 cQS2 cQS3 cQS4 cQS5 cQS6 cQS7 cQS8 cQS9 lQS
  have hq := mboxing w5 ro sG rn cG
  generalize w5.alloc (.cells #[.int .i64 ro, .slice (sG 0) rn (cG 0), .int .i64 ro, .slice (sG 1) rn (cG 1), .int .i64 ro, .slice (sG 2) rn (cG 2), .int .i64 ro, .slice (sG 3) rn (cG 3), .int .i64 ro, .slice (sG 4) rn (cG 4)] 28) = v6 at *
  obtain ⟨hb, hx, hz9⟩ := hq
  have Z_27 : Hid (v6.heap.size = w5.heap.size + 1) := hz9
  have B_28 : Hid (Below w.heap.size w v6) := B_22.out.trans (hb.mono B_22.out.size)
  have A_29 : Hid (CSl v6 w0.heap.size w1.heap.size (some ⟨w0.heap.size, 0, none⟩) n f) := A_23.out.kept hb
  have S_30 : Hid (MSl v6 hS sS rn rf) := S_24.out.kept hb
  have QS_31 : Hid (MBox v6 w2.heap.size ro sS rn cS) := QS_25.out.kept hb rfl
  have X_32 : Hid (CSl v6 v3.heap.size w4.heap.size (some ⟨v3.heap.size, 0, none⟩) n f) := X_26.out.kept hb
  have G_33 : Hid (MSl v6 hG sG rn rf) := G_n.out.kept hb
  clear B_22 A_23 S_24 QS_25 X_26 G_n
  have QG_n : Hid (MBox v6 w5.heap.size ro sG rn cG) := hx
  clear hb hx hz9
  refine (eqMasks_same ro sG sS rn cG cS hG hS rf _ hrn G_33.out S_30.out).mono ?_
  rintro e w7 ⟨rfl, hb⟩
  have Z_34 : Hid (v6.heap.size ≤ w7.heap.size) := hb.size
  have B_35 : Hid (Below w.heap.size w w7) := B_28.out.trans (hb.mono B_28.out.size)
  have A_36 : Hid (CSl w7 w0.heap.size w1.heap.size (some ⟨w0.heap.size, 0, none⟩) n f) := A_29.out.kept hb
  have S_37 : Hid (MSl w7 hS sS rn rf) := S_30.out.kept hb
  have QS_38 : Hid (MBox w7 w2.heap.size ro sS rn cS) := QS_31.out.kept hb rfl
  have X_39 : Hid (CSl w7 v3.heap.size w4.heap.size (some ⟨v3.heap.size, 0, none⟩) n f) := X_32.out.kept hb
  have G_40 : Hid (MSl w7 hG sG rn rf) := G_33.out.kept hb
  have QG_41 : Hid (MBox w7 w5.heap.size ro sG rn cG) := QG_n.out.kept hb rfl
  clear B_28 A_29 S_30 QS_31 X_32 G_33 QG_n
  clear hb
  obtain ⟨cQS0, cQS1, cQS2, cQS3, cQS4, cQS5, cQS6, cQS7, cQS8, cQS9⟩ := QS_38.out.cells
  have lQS := QS_38.out.lt
  obtain ⟨cQG0, cQG1, cQG2, cQG3, cQG4, cQG5, cQG6, cQG7, cQG8, cQG9⟩ := QG_41.out.cells
  have lQG := QG_41.out.lt
  go_wp2_with fail
  refine (toCells_any sa n cap f w7 hl (HR.out.late B_35.out)).mono ?_
  clear cQS0 cQS1 cQS2 cQS3 cQS4 cQS5 cQS6 cQS7 cQS8 cQS9 lQS cQG0 cQG1 cQG2 cQG3 cQG4 cQG5 cQG6 cQG7 cQG8 cQG9 lQG
  rintro e w8 ⟨rfl, hb, ho⟩
  have Y_n : Hid (CSl w8 w7.heap.size w8.heap.size (some ⟨w7.heap.size, 0, none⟩) n f) := ho.slM (Nat.le_refl _)
  clear ho
  have Z_42 : Hid (w7.heap.size ≤ w8.heap.size) := hb.size
  have B_43 : Hid (Below w.heap.size w w8) := B_35.out.trans (hb.mono B_35.out.size)
  have A_44 : Hid (CSl w8 w0.heap.size w1.heap.size (some ⟨w0.heap.size, 0, none⟩) n f) := A_36.out.kept hb
  have S_45 : Hid (MSl w8 hS sS rn rf) := S_37.out.kept hb
  have QS_46 : Hid (MBox w8 w2.heap.size ro sS rn cS) := QS_38.out.kept hb rfl
  have X_47 : Hid (CSl w8 v3.heap.size w4.heap.size (some ⟨v3.heap.size, 0, none⟩) n f) := X_39.out.kept hb
  have G_48 : Hid (MSl w8 hG sG rn rf) := G_40.out.kept hb
  have QG_49 : Hid (MBox w8 w5.heap.size ro sG rn cG) := QG_41.out.kept hb rfl
  clear B_35 A_36 S_37 QS_38 X_39 G_40 QG_41
  clear hb
  obtain ⟨cQS0, cQS1, cQS2, cQS3, cQS4, cQS5, cQS6, cQS7, cQS8, cQS9⟩ := QS_46.out.cells
  have lQS := QS_46.out.lt
  obtain ⟨cQG0, cQG1, cQG2, cQG3, cQG4, cQG5, cQG6, cQG7, cQG8, cQG9⟩ := QG_49.out.cells
  have lQG := QG_49.out.lt
  go_wp2_with fail
  refine (eqCells_same _ _ n _ _ f w8 hl X_47.out.row Y_n.out.row).mono ?_
  clear cQS0 cQS1 cQS2 cQS3 cQS4 cQS5 cQS6 cQS7 cQS8 cQS9 lQS cQG0 cQG1 cQG2 cQG3 cQG4 cQG5 cQG6 cQG7 cQG8 cQG9 lQG
  rintro e w9 ⟨rfl, hb⟩
  have Z_50 : Hid (w8.heap.size ≤ w9.heap.size) := hb.size
  have B_51 : Hid (Below w.heap.size w w9) := B_43.out.trans (hb.mono B_43.out.size)
  have A_52 : Hid (CSl w9 w0.heap.size w1.heap.size (some ⟨w0.heap.size, 0, none⟩) n f) := A_44.out.kept hb
  have S_53 : Hid (MSl w9 hS sS rn rf) := S_45.out.kept hb
  have QS_54 : Hid (MBox w9 w2.heap.size ro sS rn cS) := QS_46.out.kept hb rfl
  have X_55 : Hid (CSl w9 v3.heap.size w4.heap.size (some ⟨v3.heap.size, 0, none⟩) n f) := X_47.out.kept hb
  have G_56 : Hid (MSl w9 hG sG rn rf) := G_48.out.kept hb
  have QG_57 : Hid (MBox w9 w5.heap.size ro sG rn cG) := QG_49.out.kept hb rfl
  have Y_58 : Hid (CSl w9 w7.heap.size w8.heap.size (some ⟨w7.heap.size, 0, none⟩) n f) := Y_n.out.kept hb
  clear B_43 A_44 S_45 QS_46 X_47 G_48 QG_49 Y_n
  clear hb
  obtain ⟨cQS0, cQS1, cQS2, cQS3, cQS4, cQS5, cQS6, cQS7, cQS8, cQS9⟩ := QS_54.out.cells
  have lQS := QS_54.out.lt
  obtain ⟨cQG0, cQG1, cQG2, cQG3, cQG4, cQG5, cQG6, cQG7, cQG8, cQG9⟩ := QG_57.out.cells
  have lQG := QG_57.out.lt
  go_wp2_with fail
  refine (markCells_any (some ⟨v3.heap.size, 0, none⟩) n _ v3.heap.size w4.heap.size f w9 hl X_55.out).mono ?_
  clear cQS0 cQS1 cQS2 cQS3 cQS4 cQS5 cQS6 cQS7 cQS8 cQS9 lQS cQG0 cQG1 cQG2 cQG3 cQG4 cQG5 cQG6 cQG7 cQG8 cQG9 lQG
  rintro e w10 ⟨rfl, hon, hsl⟩
  have X_m : Hid (CSl w10 v3.heap.size w4.heap.size (some ⟨v3.heap.size, 0, none⟩) n markC) := hsl
  have Z_59 : Hid (w9.heap.size ≤ w10.heap.size) := hon.size
  have B_60 : Hid (Below w.heap.size w w10) := B_51.out.trans (hon.below (by have := Z_0.out; have := Z_1.out; have := Z_3.out; have := Z_4.out; have := Z_5.out; have := Z_6.out; have := Z_9.out; have := Z_13.out; have := Z_18.out; have := Z_19.out; have := Z_20.out; have := Z_21.out; have := Z_27.out; have := Z_34.out; have := Z_42.out; have := Z_50.out; have := Z_59.out; omega) B_51.out.size)
  have A_61 : Hid (CSl w10 w0.heap.size w1.heap.size (some ⟨w0.heap.size, 0, none⟩) n f) := A_52.out.only hon (by have := Z_0.out; have := Z_1.out; have := Z_3.out; have := Z_4.out; have := Z_5.out; have := Z_6.out; have := Z_9.out; have := Z_13.out; have := Z_18.out; have := Z_19.out; have := Z_20.out; have := Z_21.out; have := Z_27.out; have := Z_34.out; have := Z_42.out; have := Z_50.out; have := Z_59.out; omega)
  have S_62 : Hid (MSl w10 hS sS rn rf) := S_53.out.only hon (by have := Z_0.out; have := Z_1.out; have := Z_3.out; have := Z_4.out; have := Z_5.out; have := Z_6.out; have := Z_9.out; have := Z_13.out; have := Z_18.out; have := Z_19.out; have := Z_20.out; have := Z_21.out; have := Z_27.out; have := Z_34.out; have := Z_42.out; have := Z_50.out; have := Z_59.out; omega)
  have QS_63 : Hid (MBox w10 w2.heap.size ro sS rn cS) := QS_54.out.only hon (by have := Z_0.out; have := Z_1.out; have := Z_3.out; have := Z_4.out; have := Z_5.out; have := Z_6.out; have := Z_9.out; have := Z_13.out; have := Z_18.out; have := Z_19.out; have := Z_20.out; have := Z_21.out; have := Z_27.out; have := Z_34.out; have := Z_42.out; have := Z_50.out; have := Z_59.out; omega)
  have G_64 : Hid (MSl w10 hG sG rn rf) := G_56.out.only hon (by have := Z_0.out; have := Z_1.out; have := Z_3.out; have := Z_4.out; have := Z_5.out; have := Z_6.out; have := Z_9.out; have := Z_13.out; have := Z_18.out; have := Z_19.out; have := Z_20.out; have := Z_21.out; have := Z_27.out; have := Z_34.out; have := Z_42.out; have := Z_50.out; have := Z_59.out; omega)
  have QG_65 : Hid (MBox w10 w5.heap.size ro sG rn cG) := QG_57.out.only hon (by have := Z_0.out; have := Z_1.out; have := Z_3.out; have := Z_4.out; have := Z_5.out; have := Z_6.out; have := Z_9.out; have := Z_13.out; have := Z_18.out; have := Z_19.out; have := Z_20.out; have := Z_21.out; have := Z_27.out; have := Z_34.out; have := Z_42.out; have := Z_50.out; have := Z_59.out; omega)
  have Y_66 : Hid (CSl w10 w7.heap.size w8.heap.size (some ⟨w7.heap.size, 0, none⟩) n f) := Y_58.out.only hon (by have := Z_0.out; have := Z_1.out; have := Z_3.out; have := Z_4.out; have := Z_5.out; have := Z_6.out; have := Z_9.out; have := Z_13.out; have := Z_18.out; have := Z_19.out; have := Z_20.out; have := Z_21.out; have := Z_27.out; have := Z_34.out; have := Z_42.out; have := Z_50.out; have := Z_59.out; omega)
  clear B_51 A_52 S_53 QS_54 G_56 QG_57 Y_58
  clear X_55 hon hsl
  have hkc : ¬ ((1 + n * 3 : Nat) : Int) < 0 := by omega
  obtain ⟨cQS0, cQS1, cQS2, cQS3, cQS4, cQS5, cQS6, cQS7, cQS8, cQS9⟩ := QS_63.out.cells
  have lQS := QS_63.out.lt
  obtain ⟨cQG0, cQG1, cQG2, cQG3, cQG4, cQG5, cQG6, cQG7, cQG8, cQG9⟩ := QG_65.out.cells
  have lQG := QG_65.out.lt
  go_wp2_with fail
  refine (eqMasks_same ro sG sS rn cG cS hG hS rf _ hrn G_64.out S_62.out).mono ?_
  clear cQS0 cQS1 cQS2 cQS3 cQS4 cQS5 cQS6 cQS7 cQS8 cQS9 lQS cQG0 cQG1 cQG2 cQG3 cQG4 cQG5 cQG6 cQG7 cQG8 cQG9 lQG
  rintro e w11 ⟨rfl, hb⟩
  have Z_67 : Hid (w10.heap.size ≤ w11.heap.size) := hb.size
  have B_68 : Hid (Below w.heap.size w w11) := B_60.out.trans (hb.mono B_60.out.size)
  have A_69 : Hid (CSl w11 w0.heap.size w1.heap.size (some ⟨w0.heap.size, 0, none⟩) n f) := A_61.out.kept hb
  have S_70 : Hid (MSl w11 hS sS rn rf) := S_62.out.kept hb
  have QS_71 : Hid (MBox w11 w2.heap.size ro sS rn cS) := QS_63.out.kept hb rfl
  have X_72 : Hid (CSl w11 v3.heap.size w4.heap.size (some ⟨v3.heap.size, 0, none⟩) n markC) := X_m.out.kept hb
  have G_73 : Hid (MSl w11 hG sG rn rf) := G_64.out.kept hb
  have QG_74 : Hid (MBox w11 w5.heap.size ro sG rn cG) := QG_65.out.kept hb rfl
  have Y_75 : Hid (CSl w11 w7.heap.size w8.heap.size (some ⟨w7.heap.size, 0, none⟩) n f) := Y_66.out.kept hb
  clear B_60 A_61 S_62 QS_63 X_m G_64 QG_65 Y_66
  clear hb
  obtain ⟨cQS0, cQS1, cQS2, cQS3, cQS4, cQS5, cQS6, cQS7, cQS8, cQS9⟩ := QS_71.out.cells
  have lQS := QS_71.out.lt
  obtain ⟨cQG0, cQG1, cQG2, cQG3, cQG4, cQG5, cQG6, cQG7, cQG8, cQG9⟩ := QG_74.out.cells
  have lQG := QG_74.out.lt
  go_wp2_with fail
  refine (markMasks_in ro sG rn cG hG _ 1 _ hrn (by omega) (by omega) G_73.out (by have := Z_0.out; have := Z_1.out; have := Z_3.out; have := Z_4.out; have := Z_5.out; have := Z_6.out; have := Z_9.out; have := Z_13.out; have := Z_18.out; have := Z_19.out; have := Z_20.out; have := Z_21.out; have := Z_27.out; have := Z_34.out; have := Z_42.out; have := Z_50.out; have := Z_59.out; have := Z_67.out; omega)).mono ?_
  clear cQS0 cQS1 cQS2 cQS3 cQS4 cQS5 cQS6 cQS7 cQS8 cQS9 lQS cQG0 cQG1 cQG2 cQG3 cQG4 cQG5 cQG6 cQG7 cQG8 cQG9 lQG
  rintro e w12 ⟨rfl, hon, hsl⟩
  have G_m : Hid (MSl w12 hG sG rn (markM 1 rn)) := hsl
  have Z_76 : Hid (w11.heap.size ≤ w12.heap.size) := hon.size
  have B_77 : Hid (Below w.heap.size w w12) := B_68.out.trans (hon.below (by have := Z_0.out; have := Z_1.out; have := Z_3.out; have := Z_4.out; have := Z_5.out; have := Z_6.out; have := Z_9.out; have := Z_13.out; have := Z_18.out; have := Z_19.out; have := Z_20.out; have := Z_21.out; have := Z_27.out; have := Z_34.out; have := Z_42.out; have := Z_50.out; have := Z_59.out; have := Z_67.out; have := Z_76.out; omega) B_68.out.size)
  have A_78 : Hid (CSl w12 w0.heap.size w1.heap.size (some ⟨w0.heap.size, 0, none⟩) n f) := A_69.out.onlyM hon (by have := Z_0.out; have := Z_1.out; have := Z_3.out; have := Z_4.out; have := Z_5.out; have := Z_6.out; have := Z_9.out; have := Z_13.out; have := Z_18.out; have := Z_19.out; have := Z_20.out; have := Z_21.out; have := Z_27.out; have := Z_34.out; have := Z_42.out; have := Z_50.out; have := Z_59.out; have := Z_67.out; have := Z_76.out; omega)
  have S_79 : Hid (MSl w12 hS sS rn rf) := S_70.out.onlyM hon (by have := Z_0.out; have := Z_1.out; have := Z_3.out; have := Z_4.out; have := Z_5.out; have := Z_6.out; have := Z_9.out; have := Z_13.out; have := Z_18.out; have := Z_19.out; have := Z_20.out; have := Z_21.out; have := Z_27.out; have := Z_34.out; have := Z_42.out; have := Z_50.out; have := Z_59.out; have := Z_67.out; have := Z_76.out; omega)
  have QS_80 : Hid (MBox w12 w2.heap.size ro sS rn cS) := QS_71.out.onlyM hon (by have := Z_0.out; have := Z_1.out; have := Z_3.out; have := Z_4.out; have := Z_5.out; have := Z_6.out; have := Z_9.out; have := Z_13.out; have := Z_18.out; have := Z_19.out; have := Z_20.out; have := Z_21.out; have := Z_27.out; have := Z_34.out; have := Z_42.out; have := Z_50.out; have := Z_59.out; have := Z_67.out; have := Z_76.out; omega)
  have X_81 : Hid (CSl w12 v3.heap.size w4.heap.size (some ⟨v3.heap.size, 0, none⟩) n markC) := X_72.out.onlyM hon (by have := Z_0.out; have := Z_1.out; have := Z_3.out; have := Z_4.out; have := Z_5.out; have := Z_6.out; have := Z_9.out; have := Z_13.out; have := Z_18.out; have := Z_19.out; have := Z_20.out; have := Z_21.out; have := Z_27.out; have := Z_34.out; have := Z_42.out; have := Z_50.out; have := Z_59.out; have := Z_67.out; have := Z_76.out; omega)
  have QG_82 : Hid (MBox w12 w5.heap.size ro sG rn cG) := QG_74.out.onlyM hon (by have := Z_0.out; have := Z_1.out; have := Z_3.out; have := Z_4.out; have := Z_5.out; have := Z_6.out; have := Z_9.out; have := Z_13.out; have := Z_18.out; have := Z_19.out; have := Z_20.out; have := Z_21.out; have := Z_27.out; have := Z_34.out; have := Z_42.out; have := Z_50.out; have := Z_59.out; have := Z_67.out; have := Z_76.out; omega)
  have Y_83 : Hid (CSl w12 w7.heap.size w8.heap.size (some ⟨w7.heap.size, 0, none⟩) n f) := Y_75.out.onlyM hon (by have := Z_0.out; have := Z_1.out; have := Z_3.out; have := Z_4.out; have := Z_5.out; have := Z_6.out; have := Z_9.out; have := Z_13.out; have := Z_18.out; have := Z_19.out; have := Z_20.out; have := Z_21.out; have := Z_27.out; have := Z_34.out; have := Z_42.out; have := Z_50.out; have := Z_59.out; have := Z_67.out; have := Z_76.out; omega)
  clear B_68 A_69 S_70 QS_71 X_72 QG_74 Y_75
  clear G_73 hon hsl
  obtain ⟨cQS0, cQS1, cQS2, cQS3, cQS4, cQS5, cQS6, cQS7, cQS8, cQS9⟩ := QS_80.out.cells
  have lQS := QS_80.out.lt
  obtain ⟨cQG0, cQG1, cQG2, cQG3, cQG4, cQG5, cQG6, cQG7, cQG8, cQG9⟩ := QG_82.out.cells
  have lQG := QG_82.out.lt
  go_wp2_with fail
  refine (heldMasks_any ro sG rn cG hG 1 _ hrn (by omega) (by omega) G_m.out).mono ?_
  clear cQS0 cQS1 cQS2 cQS3 cQS4 cQS5 cQS6 cQS7 cQS8 cQS9 lQS cQG0 cQG1 cQG2 cQG3 cQG4 cQG5 cQG6 cQG7 cQG8 cQG9 lQG
  rintro e w13 ⟨rfl, hb⟩
  have Z_84 : Hid (w12.heap.size ≤ w13.heap.size) := hb.size
  have B_85 : Hid (Below w.heap.size w w13) := B_77.out.trans (hb.mono B_77.out.size)
  have A_86 : Hid (CSl w13 w0.heap.size w1.heap.size (some ⟨w0.heap.size, 0, none⟩) n f) := A_78.out.kept hb
  have S_87 : Hid (MSl w13 hS sS rn rf) := S_79.out.kept hb
  have QS_88 : Hid (MBox w13 w2.heap.size ro sS rn cS) := QS_80.out.kept hb rfl
  have X_89 : Hid (CSl w13 v3.heap.size w4.heap.size (some ⟨v3.heap.size, 0, none⟩) n markC) := X_81.out.kept hb
  have G_90 : Hid (MSl w13 hG sG rn (markM 1 rn)) := G_m.out.kept hb
  have QG_91 : Hid (MBox w13 w5.heap.size ro sG rn cG) := QG_82.out.kept hb rfl
  have Y_92 : Hid (CSl w13 w7.heap.size w8.heap.size (some ⟨w7.heap.size, 0, none⟩) n f) := Y_83.out.kept hb
  clear B_77 A_78 S_79 QS_80 X_81 G_m QG_82 Y_83
  clear hb
  have hk2 : ¬ ((1 : Int) + (rn : Int) + (rn : Int) + (rn : Int) + (rn : Int) + (rn : Int)) < 0 := by omega
  obtain ⟨cQS0, cQS1, cQS2, cQS3, cQS4, cQS5, cQS6, cQS7, cQS8, cQS9⟩ := QS_88.out.cells
  have lQS := QS_88.out.lt
  obtain ⟨cQG0, cQG1, cQG2, cQG3, cQG4, cQG5, cQG6, cQG7, cQG8, cQG9⟩ := QG_91.out.cells
  have lQG := QG_91.out.lt
  go_wp2_with fail
  refine (toCells_any sa n cap f w13 hl (HR.out.late B_85.out)).mono ?_
  clear cQS0 cQS1 cQS2 cQS3 cQS4 cQS5 cQS6 cQS7 cQS8 cQS9 lQS cQG0 cQG1 cQG2 cQG3 cQG4 cQG5 cQG6 cQG7 cQG8 cQG9 lQG
  rintro e w14 ⟨rfl, hb, ho⟩
  have V_n : Hid (CSl w14 w13.heap.size w14.heap.size (some ⟨w13.heap.size, 0, none⟩) n f) := ho.slM (Nat.le_refl _)
  clear ho
  have Z_93 : Hid (w13.heap.size ≤ w14.heap.size) := hb.size
  have B_94 : Hid (Below w.heap.size w w14) := B_85.out.trans (hb.mono B_85.out.size)
  have A_95 : Hid (CSl w14 w0.heap.size w1.heap.size (some ⟨w0.heap.size, 0, none⟩) n f) := A_86.out.kept hb
  have S_96 : Hid (MSl w14 hS sS rn rf) := S_87.out.kept hb
  have QS_97 : Hid (MBox w14 w2.heap.size ro sS rn cS) := QS_88.out.kept hb rfl
  have X_98 : Hid (CSl w14 v3.heap.size w4.heap.size (some ⟨v3.heap.size, 0, none⟩) n markC) := X_89.out.kept hb
  have G_99 : Hid (MSl w14 hG sG rn (markM 1 rn)) := G_90.out.kept hb
  have QG_100 : Hid (MBox w14 w5.heap.size ro sG rn cG) := QG_91.out.kept hb rfl
  have Y_101 : Hid (CSl w14 w7.heap.size w8.heap.size (some ⟨w7.heap.size, 0, none⟩) n f) := Y_92.out.kept hb
  clear B_85 A_86 S_87 QS_88 X_89 G_90 QG_91 Y_92
  clear hb
  obtain ⟨cQS0, cQS1, cQS2, cQS3, cQS4, cQS5, cQS6, cQS7, cQS8, cQS9⟩ := QS_97.out.cells
  have lQS := QS_97.out.lt
  obtain ⟨cQG0, cQG1, cQG2, cQG3, cQG4, cQG5, cQG6, cQG7, cQG8, cQG9⟩ := QG_100.out.cells
  have lQG := QG_100.out.lt
  go_wp2_with fail
  refine (HI.out w14 _ _ V_n.out.row).mono ?_
  clear cQS0 cQS1 cQS2 cQS3 cQS4 cQS5 cQS6 cQS7 cQS8 cQS9 lQS cQG0 cQG1 cQG2 cQG3 cQG4 cQG5 cQG6 cQG7 cQG8 cQG9 lQG
  rintro e w15 ⟨sH, cH, hH, rfl, hb, ho, hl0, hl5⟩
  unfold masksV
  have H_n : Hid (MSl w15 hH sH rn rf) := ho
  have Z_102 : Hid (hH 0 ≤ hH 5) := by have := ho.up; show _ ≤ _; omega
  have Z_103 : Hid (w14.heap.size ≤ hH 0) := hl0
  have Z_104 : Hid (hH 5 ≤ w15.heap.size) := hl5
  clear ho hl0 hl5
  have Z_105 : Hid (w14.heap.size ≤ w15.heap.size) := hb.size
  have B_106 : Hid (Below w.heap.size w w15) := B_94.out.trans (hb.mono B_94.out.size)
  have A_107 : Hid (CSl w15 w0.heap.size w1.heap.size (some ⟨w0.heap.size, 0, none⟩) n f) := A_95.out.kept hb
  have S_108 : Hid (MSl w15 hS sS rn rf) := S_96.out.kept hb
  have QS_109 : Hid (MBox w15 w2.heap.size ro sS rn cS) := QS_97.out.kept hb rfl
  have X_110 : Hid (CSl w15 v3.heap.size w4.heap.size (some ⟨v3.heap.size, 0, none⟩) n markC) := X_98.out.kept hb
  have G_111 : Hid (MSl w15 hG sG rn (markM 1 rn)) := G_99.out.kept hb
  have QG_112 : Hid (MBox w15 w5.heap.size ro sG rn cG) := QG_100.out.kept hb rfl
  have Y_113 : Hid (CSl w15 w7.heap.size w8.heap.size (some ⟨w7.heap.size, 0, none⟩) n f) := Y_101.out.kept hb
  have V_114 : Hid (CSl w15 w13.heap.size w14.heap.size (some ⟨w13.heap.size, 0, none⟩) n f) := V_n.out.kept hb
  clear B_94 A_95 S_96 QS_97 X_98 G_99 QG_100 Y_101 V_n
  clear hb
  obtain ⟨cQS0, cQS1, cQS2, cQS3, cQS4, cQS5, cQS6, cQS7, cQS8, cQS9⟩ := QS_109.out.cells
  have lQS := QS_109.out.lt
  obtain ⟨cQG0, cQG1, cQG2, cQG3, cQG4, cQG5, cQG6, cQG7, cQG8, cQG9⟩ := QG_112.out.cells
  have lQG := QG_112.out.lt
  go_wp2_with fail
  clear cQS0 cQS1 cQS2 cQS3 cQS4 cQS5 cQS6 cQS7 cQS8 cQS9 lQS cQG0 cQG1 cQG2 cQG3 cQG4 cQG5 cQG6 cQG7 cQG8 cQG9 lQG
  have hq := mboxing w15 ro sH rn cH
  generalize w15.alloc (.cells #[.int .i64 ro, .slice (sH 0) rn (cH 0), .int .i64 ro, .slice (sH 1) rn (cH 1), .int .i64 ro, .slice (sH 2) rn (cH 2), .int .i64 ro, .slice (sH 3) rn (cH 3), .int .i64 ro, .slice (sH 4) rn (cH 4)] 28) = v16 at *
  obtain ⟨hb, hx, hz9⟩ := hq
  have Z_115 : Hid (v16.heap.size = w15.heap.size + 1) := hz9
  have B_116 : Hid (Below w.heap.size w v16) := B_106.out.trans (hb.mono B_106.out.size)
  have A_117 : Hid (CSl v16 w0.heap.size w1.heap.size (some ⟨w0.heap.size, 0, none⟩) n f) := A_107.out.kept hb
  have S_118 : Hid (MSl v16 hS sS rn rf) := S_108.out.kept hb
  have QS_119 : Hid (MBox v16 w2.heap.size ro sS rn cS) := QS_109.out.kept hb rfl
  have X_120 : Hid (CSl v16 v3.heap.size w4.heap.size (some ⟨v3.heap.size, 0, none⟩) n markC) := X_110.out.kept hb
  have G_121 : Hid (MSl v16 hG sG rn (markM 1 rn)) := G_111.out.kept hb
  have QG_122 : Hid (MBox v16 w5.heap.size ro sG rn cG) := QG_112.out.kept hb rfl
  have Y_123 : Hid (CSl v16 w7.heap.size w8.heap.size (some ⟨w7.heap.size, 0, none⟩) n f) := Y_113.out.kept hb
  have V_124 : Hid (CSl v16 w13.heap.size w14.heap.size (some ⟨w13.heap.size, 0, none⟩) n f) := V_114.out.kept hb
  have H_125 : Hid (MSl v16 hH sH rn rf) := H_n.out.kept hb
  clear B_106 A_107 S_108 QS_109 X_110 G_111 QG_112 Y_113 V_114 H_n
  have QH_n : Hid (MBox v16 w15.heap.size ro sH rn cH) := hx
  clear hb hx hz9
  refine (eqMasks_same ro sH sS rn cH cS hH hS rf _ hrn H_125.out S_118.out).mono ?_
  rintro e w17 ⟨rfl, hb⟩
  have Z_126 : Hid (v16.heap.size ≤ w17.heap.size) := hb.size
  have B_127 : Hid (Below w.heap.size w w17) := B_116.out.trans (hb.mono B_116.out.size)
  have A_128 : Hid (CSl w17 w0.heap.size w1.heap.size (some ⟨w0.heap.size, 0, none⟩) n f) := A_117.out.kept hb
  have S_129 : Hid (MSl w17 hS sS rn rf) := S_118.out.kept hb
  have QS_130 : Hid (MBox w17 w2.heap.size ro sS rn cS) := QS_119.out.kept hb rfl
  have X_131 : Hid (CSl w17 v3.heap.size w4.heap.size (some ⟨v3.heap.size, 0, none⟩) n markC) := X_120.out.kept hb
  have G_132 : Hid (MSl w17 hG sG rn (markM 1 rn)) := G_121.out.kept hb
  have QG_133 : Hid (MBox w17 w5.heap.size ro sG rn cG) := QG_122.out.kept hb rfl
  have Y_134 : Hid (CSl w17 w7.heap.size w8.heap.size (some ⟨w7.heap.size, 0, none⟩) n f) := Y_123.out.kept hb
  have V_135 : Hid (CSl w17 w13.heap.size w14.heap.size (some ⟨w13.heap.size, 0, none⟩) n f) := V_124.out.kept hb
  have H_136 : Hid (MSl w17 hH sH rn rf) := H_125.out.kept hb
  have QH_137 : Hid (MBox w17 w15.heap.size ro sH rn cH) := QH_n.out.kept hb rfl
  clear B_116 A_117 S_118 QS_119 X_120 G_121 QG_122 Y_123 V_124 H_125 QH_n
  clear hb
  obtain ⟨cQS0, cQS1, cQS2, cQS3, cQS4, cQS5, cQS6, cQS7, cQS8, cQS9⟩ := QS_130.out.cells
  have lQS := QS_130.out.lt
  obtain ⟨cQG0, cQG1, cQG2, cQG3, cQG4, cQG5, cQG6, cQG7, cQG8, cQG9⟩ := QG_133.out.cells
  have lQG := QG_133.out.lt
  obtain ⟨cQH0, cQH1, cQH2, cQH3, cQH4, cQH5, cQH6, cQH7, cQH8, cQH9⟩ := QH_137.out.cells
  have lQH := QH_137.out.lt
  go_wp2_with fail
  refine (heldMasks_any ro sG rn cG hG 1 _ hrn (by omega) (by omega) G_132.out).mono ?_
  clear cQS0 cQS1 cQS2 cQS3 cQS4 cQS5 cQS6 cQS7 cQS8 cQS9 lQS cQG0 cQG1 cQG2 cQG3 cQG4 cQG5 cQG6 cQG7 cQG8 cQG9 lQG cQH0 cQH1 cQH2 cQH3 cQH4 cQH5 cQH6 cQH7 cQH8 cQH9 lQH
  rintro e w18 ⟨rfl, hb⟩
  have Z_138 : Hid (w17.heap.size ≤ w18.heap.size) := hb.size
  have B_139 : Hid (Below w.heap.size w w18) := B_127.out.trans (hb.mono B_127.out.size)
  have A_140 : Hid (CSl w18 w0.heap.size w1.heap.size (some ⟨w0.heap.size, 0, none⟩) n f) := A_128.out.kept hb
  have S_141 : Hid (MSl w18 hS sS rn rf) := S_129.out.kept hb
  have QS_142 : Hid (MBox w18 w2.heap.size ro sS rn cS) := QS_130.out.kept hb rfl
  have X_143 : Hid (CSl w18 v3.heap.size w4.heap.size (some ⟨v3.heap.size, 0, none⟩) n markC) := X_131.out.kept hb
  have G_144 : Hid (MSl w18 hG sG rn (markM 1 rn)) := G_132.out.kept hb
  have QG_145 : Hid (MBox w18 w5.heap.size ro sG rn cG) := QG_133.out.kept hb rfl
  have Y_146 : Hid (CSl w18 w7.heap.size w8.heap.size (some ⟨w7.heap.size, 0, none⟩) n f) := Y_134.out.kept hb
  have V_147 : Hid (CSl w18 w13.heap.size w14.heap.size (some ⟨w13.heap.size, 0, none⟩) n f) := V_135.out.kept hb
  have H_148 : Hid (MSl w18 hH sH rn rf) := H_136.out.kept hb
  have QH_149 : Hid (MBox w18 w15.heap.size ro sH rn cH) := QH_137.out.kept hb rfl
  clear B_127 A_128 S_129 QS_130 X_131 G_132 QG_133 Y_134 V_135 H_136 QH_137
  clear hb
  obtain ⟨cQS0, cQS1, cQS2, cQS3, cQS4, cQS5, cQS6, cQS7, cQS8, cQS9⟩ := QS_142.out.cells
  have lQS := QS_142.out.lt
  obtain ⟨cQG0, cQG1, cQG2, cQG3, cQG4, cQG5, cQG6, cQG7, cQG8, cQG9⟩ := QG_145.out.cells
  have lQG := QG_145.out.lt
  obtain ⟨cQH0, cQH1, cQH2, cQH3, cQH4, cQH5, cQH6, cQH7, cQH8, cQH9⟩ := QH_149.out.cells
  have lQH := QH_149.out.lt
  go_wp2_with fail
  go_ret
  exact ⟨rfl, B_139.out⟩
end Go.Proofs.Ythnnenbpbkmbhaa
