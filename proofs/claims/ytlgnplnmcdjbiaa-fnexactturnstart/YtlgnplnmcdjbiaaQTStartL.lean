/- What is proved here: the law of TurnStart walks to true, where the specification's function and the program's hand back the same in new memory; nothing that was there turns. -/
import Derived.Test.YtlgnplnmcdjbiaaQCellDToCellS
import Derived.Test.YtlgnplnmcdjbiaaQOneWToCellMkW
import Derived.Test.YtlgnplnmcdjbiaaQRowsDToVecS
import Derived.Test.YtlgnplnmcdjbiaaQRowsMarkWToVecSMarkW
namespace Go.Proofs.Ytlgnplnmcdjbiaa
open Go.RowKit

theorem COwn.slTurnStart {W : World} {g n lo : Nat} {f : Nat → Cel} (h : COwn W g n f) (hl : lo ≤ g) : CSl W lo W.heap.size (some ⟨g, 0, none⟩) n f := Or.inr ⟨g, rfl, hl, h.lt, h⟩
set_option maxRecDepth 100000 in
set_option maxHeartbeats 8000000 in
theorem law_TurnStart (sa : Option Addr) (n cap : Nat) (f : Nat → Cel) (ro : Int) (rn : Nat) (rf : Nat → Int) (w : World) (hn : n ≤ maxLen) (hr : CRow w w.heap.size sa n f) (hc : ∀ i, i < n → (f i).c.size ≤ maxLen) (hrn : rn ≤ 1048576)
    (hs : n ≤ 1048576 → (∀ i, i < n → (f i).c.size ≤ 1048576) → ∀ (W : World) (x : Option Addr) (k : Nat), CRow W W.heap.size x n f → Calls Try.prog 61 #[.slice x n k] W fun e W' => NewVec W ro rn rf e W')
    (hi : n ≤ 1048576 → (∀ i, i < n → (f i).c.size ≤ 1048576) → ∀ (W : World) (x : Option Addr) (k : Nat), CRow W W.heap.size x n f → Calls Try.prog 63 #[.slice x n k] W fun e W' => NewVec W ro rn rf e W') :
    Calls Try.prog 7 #[.slice sa n cap] w fun e w' => e = .returned (.bool true) ∧ Below w.heap.size w w' := by
  have HR : Hid (CRow w w.heap.size sa n f) := hr
  go_enter Try.func7, Try.ntmps7
  go_wp2_with fail
  refine (szCells_any sa n cap f w hn hr hc).mono ?_
  clear hr hc hn
  rintro e w0 ⟨⟨z, rfl, hz⟩, hb⟩
  have B_0 : Hid (Below w.heap.size w w0) := hb
  have Z_0 : Hid (w.heap.size ≤ w0.heap.size) := hb.size
  clear hb
  rcases hz with hz | ⟨hz, hl, hcs⟩
  · clear hs hi
    go_wp2_with fail
    go_ret
    exact ⟨rfl, B_0.out⟩
  have HS : Hid (∀ (W : World) (x : Option Addr) (k : Nat), CRow W W.heap.size x n f → Calls Try.prog 61 #[.slice x n k] W fun e W' => NewVec W ro rn rf e W') := hs hl hcs
  have HI : Hid (∀ (W : World) (x : Option Addr) (k : Nat), CRow W W.heap.size x n f → Calls Try.prog 63 #[.slice x n k] W fun e W' => NewVec W ro rn rf e W') := hi hl hcs
  have hz' : ¬ z < 0 := by omega
  clear hs hi hcs
  go_wp2_with fail
  refine (toCells_any sa n cap f w0 hl (HR.out.late B_0.out)).mono ?_
  rintro e w1 ⟨rfl, hb, ho⟩
  have A_n : Hid (CSl w1 w0.heap.size w1.heap.size (some ⟨w0.heap.size, 0, none⟩) n f) := ho.slTurnStart (Nat.le_refl _)
  clear ho
  have Z_1 : Hid (w0.heap.size ≤ w1.heap.size) := hb.size
  have B_2 : Hid (Below w.heap.size w w1) := B_0.out.trans (hb.mono B_0.out.size)
  clear B_0
  clear hb
  go_wp2_with fail
  refine (HS.out w1 _ _ A_n.out.row).mono ?_
  rintro e w2 ⟨sS, cS, rfl, hb, ho⟩
  unfold vecV
  have S_n : Hid (Slice w2 w1.heap.size w2.heap.size sS rn rf) := ho.slice
  clear ho
  have Z_3 : Hid (w1.heap.size ≤ w2.heap.size) := hb.size
  have B_4 : Hid (Below w.heap.size w w2) := B_2.out.trans (hb.mono B_2.out.size)
  have A_5 : Hid (CSl w2 w0.heap.size w1.heap.size (some ⟨w0.heap.size, 0, none⟩) n f) := A_n.out.kept hb
  clear B_2 A_n
  clear hb
  go_wp2_with fail
  have hq := boxing w2 45 ro sS rn cS
  generalize w2.alloc (.cells #[.int .i64 ro, .slice sS rn cS] 45) = v3 at *
  obtain ⟨hb, hx, hz9⟩ := hq
  have Z_6 : Hid (v3.heap.size = w2.heap.size + 1) := hz9
  have B_7 : Hid (Below w.heap.size w v3) := B_4.out.trans (hb.mono B_4.out.size)
  have A_8 : Hid (CSl v3 w0.heap.size w1.heap.size (some ⟨w0.heap.size, 0, none⟩) n f) := A_5.out.kept hb
  have S_9 : Hid (Slice v3 w1.heap.size w2.heap.size sS rn rf) := S_n.out.kept hb rfl
  clear B_4 A_5 S_n
  have QS_n : Hid (Boxed v3 w2.heap.size 45 ro sS rn cS) := hx
  clear hb hx hz9
  refine (toCells_any sa n cap f v3 hl (HR.out.late B_7.out)).mono ?_
  rintro e w4 ⟨rfl, hb, ho⟩
  have X_n : Hid (CSl w4 v3.heap.size w4.heap.size (some ⟨v3.heap.size, 0, none⟩) n f) := ho.slTurnStart (Nat.le_refl _)
  clear ho
  have Z_10 : Hid (v3.heap.size ≤ w4.heap.size) := hb.size
  have B_11 : Hid (Below w.heap.size w w4) := B_7.out.trans (hb.mono B_7.out.size)
  have A_12 : Hid (CSl w4 w0.heap.size w1.heap.size (some ⟨w0.heap.size, 0, none⟩) n f) := A_8.out.kept hb
  have S_13 : Hid (Slice w4 w1.heap.size w2.heap.size sS rn rf) := S_9.out.kept hb rfl
  have QS_14 : Hid (Boxed w4 w2.heap.size 45 ro sS rn cS) := QS_n.out.kept hb rfl
  clear B_7 A_8 S_9 QS_n
  clear hb
  obtain ⟨cQS0, cQS1⟩ := QS_14.out.cells
  have lQS := QS_14.out.lt
  go_wp2_with fail
  refine (HI.out w4 _ _ X_n.out.row).mono ?_
  clear cQS0 cQS1 lQS
  rintro e w5 ⟨sG, cG, rfl, hb, ho⟩
  unfold vecV
  have G_n : Hid (Slice w5 w4.heap.size w5.heap.size sG rn rf) := ho.slice
  clear ho
  have Z_15 : Hid (w4.heap.size ≤ w5.heap.size) := hb.size
  have B_16 : Hid (Below w.heap.size w w5) := B_11.out.trans (hb.mono B_11.out.size)
  have A_17 : Hid (CSl w5 w0.heap.size w1.heap.size (some ⟨w0.heap.size, 0, none⟩) n f) := A_12.out.kept hb
  have S_18 : Hid (Slice w5 w1.heap.size w2.heap.size sS rn rf) := S_13.out.kept hb rfl
  have QS_19 : Hid (Boxed w5 w2.heap.size 45 ro sS rn cS) := QS_14.out.kept hb rfl
  have X_20 : Hid (CSl w5 v3.heap.size w4.heap.size (some ⟨v3.heap.size, 0, none⟩) n f) := X_n.out.kept hb
  clear B_11 A_12 S_13 QS_14 X_n
  clear hb
  obtain ⟨cQS0, cQS1⟩ := QS_19.out.cells
  have lQS := QS_19.out.lt
  go_wp2_with fail
  clear cQS0 cQS1 lQS
  have hq := boxing w5 45 ro sG rn cG
  generalize w5.alloc (.cells #[.int .i64 ro, .slice sG rn cG] 45) = v6 at *
  obtain ⟨hb, hx, hz9⟩ := hq
  have Z_21 : Hid (v6.heap.size = w5.heap.size + 1) := hz9
  have B_22 : Hid (Below w.heap.size w v6) := B_16.out.trans (hb.mono B_16.out.size)
  have A_23 : Hid (CSl v6 w0.heap.size w1.heap.size (some ⟨w0.heap.size, 0, none⟩) n f) := A_17.out.kept hb
  have S_24 : Hid (Slice v6 w1.heap.size w2.heap.size sS rn rf) := S_18.out.kept hb rfl
  have QS_25 : Hid (Boxed v6 w2.heap.size 45 ro sS rn cS) := QS_19.out.kept hb rfl
  have X_26 : Hid (CSl v6 v3.heap.size w4.heap.size (some ⟨v3.heap.size, 0, none⟩) n f) := X_20.out.kept hb
  have G_27 : Hid (Slice v6 w4.heap.size w5.heap.size sG rn rf) := G_n.out.kept hb rfl
  clear B_16 A_17 S_18 QS_19 X_20 G_n
  have QG_n : Hid (Boxed v6 w5.heap.size 45 ro sG rn cG) := hx
  clear hb hx hz9
  refine (eqVec_same ro sG sS rn cG cS rf _ hrn G_27.out.row S_24.out.row).mono ?_
  rintro e w7 ⟨rfl, hb⟩
  have Z_28 : Hid (v6.heap.size ≤ w7.heap.size) := hb.size
  have B_29 : Hid (Below w.heap.size w w7) := B_22.out.trans (hb.mono B_22.out.size)
  have A_30 : Hid (CSl w7 w0.heap.size w1.heap.size (some ⟨w0.heap.size, 0, none⟩) n f) := A_23.out.kept hb
  have S_31 : Hid (Slice w7 w1.heap.size w2.heap.size sS rn rf) := S_24.out.kept hb rfl
  have QS_32 : Hid (Boxed w7 w2.heap.size 45 ro sS rn cS) := QS_25.out.kept hb rfl
  have X_33 : Hid (CSl w7 v3.heap.size w4.heap.size (some ⟨v3.heap.size, 0, none⟩) n f) := X_26.out.kept hb
  have G_34 : Hid (Slice w7 w4.heap.size w5.heap.size sG rn rf) := G_27.out.kept hb rfl
  have QG_35 : Hid (Boxed w7 w5.heap.size 45 ro sG rn cG) := QG_n.out.kept hb rfl
  clear B_22 A_23 S_24 QS_25 X_26 G_27 QG_n
  clear hb
  obtain ⟨cQS0, cQS1⟩ := QS_32.out.cells
  have lQS := QS_32.out.lt
  obtain ⟨cQG0, cQG1⟩ := QG_35.out.cells
  have lQG := QG_35.out.lt
  go_wp2_with fail
  refine (toCells_any sa n cap f w7 hl (HR.out.late B_29.out)).mono ?_
  clear cQS0 cQS1 lQS cQG0 cQG1 lQG
  rintro e w8 ⟨rfl, hb, ho⟩
  have Y_n : Hid (CSl w8 w7.heap.size w8.heap.size (some ⟨w7.heap.size, 0, none⟩) n f) := ho.slTurnStart (Nat.le_refl _)
  clear ho
  have Z_36 : Hid (w7.heap.size ≤ w8.heap.size) := hb.size
  have B_37 : Hid (Below w.heap.size w w8) := B_29.out.trans (hb.mono B_29.out.size)
  have A_38 : Hid (CSl w8 w0.heap.size w1.heap.size (some ⟨w0.heap.size, 0, none⟩) n f) := A_30.out.kept hb
  have S_39 : Hid (Slice w8 w1.heap.size w2.heap.size sS rn rf) := S_31.out.kept hb rfl
  have QS_40 : Hid (Boxed w8 w2.heap.size 45 ro sS rn cS) := QS_32.out.kept hb rfl
  have X_41 : Hid (CSl w8 v3.heap.size w4.heap.size (some ⟨v3.heap.size, 0, none⟩) n f) := X_33.out.kept hb
  have G_42 : Hid (Slice w8 w4.heap.size w5.heap.size sG rn rf) := G_34.out.kept hb rfl
  have QG_43 : Hid (Boxed w8 w5.heap.size 45 ro sG rn cG) := QG_35.out.kept hb rfl
  clear B_29 A_30 S_31 QS_32 X_33 G_34 QG_35
  clear hb
  obtain ⟨cQS0, cQS1⟩ := QS_40.out.cells
  have lQS := QS_40.out.lt
  obtain ⟨cQG0, cQG1⟩ := QG_43.out.cells
  have lQG := QG_43.out.lt
  go_wp2_with fail
  refine (eqCells_same _ _ n _ _ f w8 hl X_41.out.row Y_n.out.row).mono ?_
  clear cQS0 cQS1 lQS cQG0 cQG1 lQG
  rintro e w9 ⟨rfl, hb⟩
  have Z_44 : Hid (w8.heap.size ≤ w9.heap.size) := hb.size
  have B_45 : Hid (Below w.heap.size w w9) := B_37.out.trans (hb.mono B_37.out.size)
  have A_46 : Hid (CSl w9 w0.heap.size w1.heap.size (some ⟨w0.heap.size, 0, none⟩) n f) := A_38.out.kept hb
  have S_47 : Hid (Slice w9 w1.heap.size w2.heap.size sS rn rf) := S_39.out.kept hb rfl
  have QS_48 : Hid (Boxed w9 w2.heap.size 45 ro sS rn cS) := QS_40.out.kept hb rfl
  have X_49 : Hid (CSl w9 v3.heap.size w4.heap.size (some ⟨v3.heap.size, 0, none⟩) n f) := X_41.out.kept hb
  have G_50 : Hid (Slice w9 w4.heap.size w5.heap.size sG rn rf) := G_42.out.kept hb rfl
  have QG_51 : Hid (Boxed w9 w5.heap.size 45 ro sG rn cG) := QG_43.out.kept hb rfl
  have Y_52 : Hid (CSl w9 w7.heap.size w8.heap.size (some ⟨w7.heap.size, 0, none⟩) n f) := Y_n.out.kept hb
  clear B_37 A_38 S_39 QS_40 X_41 G_42 QG_43 Y_n
  clear hb
  obtain ⟨cQS0, cQS1⟩ := QS_48.out.cells
  have lQS := QS_48.out.lt
  obtain ⟨cQG0, cQG1⟩ := QG_51.out.cells
  have lQG := QG_51.out.lt
  go_wp2_with fail
  refine (markCells_any (some ⟨v3.heap.size, 0, none⟩) n _ v3.heap.size w4.heap.size f w9 hl X_49.out).mono ?_
  clear cQS0 cQS1 lQS cQG0 cQG1 lQG
  rintro e w10 ⟨rfl, hon, hsl⟩
  have X_m : Hid (CSl w10 v3.heap.size w4.heap.size (some ⟨v3.heap.size, 0, none⟩) n markC) := hsl
  have Z_53 : Hid (w9.heap.size ≤ w10.heap.size) := hon.size
  have B_54 : Hid (Below w.heap.size w w10) := B_45.out.trans (hon.below (by have := Z_0.out; have := Z_1.out; have := Z_3.out; have := Z_6.out; have := Z_10.out; have := Z_15.out; have := Z_21.out; have := Z_28.out; have := Z_36.out; have := Z_44.out; have := Z_53.out; omega) B_45.out.size)
  have A_55 : Hid (CSl w10 w0.heap.size w1.heap.size (some ⟨w0.heap.size, 0, none⟩) n f) := A_46.out.only hon (by have := Z_0.out; have := Z_1.out; have := Z_3.out; have := Z_6.out; have := Z_10.out; have := Z_15.out; have := Z_21.out; have := Z_28.out; have := Z_36.out; have := Z_44.out; have := Z_53.out; omega)
  have S_56 : Hid (Slice w10 w1.heap.size w2.heap.size sS rn rf) := S_47.out.only hon (by have := Z_0.out; have := Z_1.out; have := Z_3.out; have := Z_6.out; have := Z_10.out; have := Z_15.out; have := Z_21.out; have := Z_28.out; have := Z_36.out; have := Z_44.out; have := Z_53.out; omega)
  have QS_57 : Hid (Boxed w10 w2.heap.size 45 ro sS rn cS) := QS_48.out.only hon (by have := Z_0.out; have := Z_1.out; have := Z_3.out; have := Z_6.out; have := Z_10.out; have := Z_15.out; have := Z_21.out; have := Z_28.out; have := Z_36.out; have := Z_44.out; have := Z_53.out; omega)
  have G_58 : Hid (Slice w10 w4.heap.size w5.heap.size sG rn rf) := G_50.out.only hon (by have := Z_0.out; have := Z_1.out; have := Z_3.out; have := Z_6.out; have := Z_10.out; have := Z_15.out; have := Z_21.out; have := Z_28.out; have := Z_36.out; have := Z_44.out; have := Z_53.out; omega)
  have QG_59 : Hid (Boxed w10 w5.heap.size 45 ro sG rn cG) := QG_51.out.only hon (by have := Z_0.out; have := Z_1.out; have := Z_3.out; have := Z_6.out; have := Z_10.out; have := Z_15.out; have := Z_21.out; have := Z_28.out; have := Z_36.out; have := Z_44.out; have := Z_53.out; omega)
  have Y_60 : Hid (CSl w10 w7.heap.size w8.heap.size (some ⟨w7.heap.size, 0, none⟩) n f) := Y_52.out.only hon (by have := Z_0.out; have := Z_1.out; have := Z_3.out; have := Z_6.out; have := Z_10.out; have := Z_15.out; have := Z_21.out; have := Z_28.out; have := Z_36.out; have := Z_44.out; have := Z_53.out; omega)
  clear B_45 A_46 S_47 QS_48 G_50 QG_51 Y_52
  clear X_49 hon hsl
  have hkc : ¬ ((1 + n * 3 : Nat) : Int) < 0 := by omega
  obtain ⟨cQS0, cQS1⟩ := QS_57.out.cells
  have lQS := QS_57.out.lt
  obtain ⟨cQG0, cQG1⟩ := QG_59.out.cells
  have lQG := QG_59.out.lt
  go_wp2_with fail
  refine (eqVec_same ro sG sS rn cG cS rf _ hrn G_58.out.row S_56.out.row).mono ?_
  clear cQS0 cQS1 lQS cQG0 cQG1 lQG
  rintro e w11 ⟨rfl, hb⟩
  have Z_61 : Hid (w10.heap.size ≤ w11.heap.size) := hb.size
  have B_62 : Hid (Below w.heap.size w w11) := B_54.out.trans (hb.mono B_54.out.size)
  have A_63 : Hid (CSl w11 w0.heap.size w1.heap.size (some ⟨w0.heap.size, 0, none⟩) n f) := A_55.out.kept hb
  have S_64 : Hid (Slice w11 w1.heap.size w2.heap.size sS rn rf) := S_56.out.kept hb rfl
  have QS_65 : Hid (Boxed w11 w2.heap.size 45 ro sS rn cS) := QS_57.out.kept hb rfl
  have X_66 : Hid (CSl w11 v3.heap.size w4.heap.size (some ⟨v3.heap.size, 0, none⟩) n markC) := X_m.out.kept hb
  have G_67 : Hid (Slice w11 w4.heap.size w5.heap.size sG rn rf) := G_58.out.kept hb rfl
  have QG_68 : Hid (Boxed w11 w5.heap.size 45 ro sG rn cG) := QG_59.out.kept hb rfl
  have Y_69 : Hid (CSl w11 w7.heap.size w8.heap.size (some ⟨w7.heap.size, 0, none⟩) n f) := Y_60.out.kept hb
  clear B_54 A_55 S_56 QS_57 X_m G_58 QG_59 Y_60
  clear hb
  obtain ⟨cQS0, cQS1⟩ := QS_65.out.cells
  have lQS := QS_65.out.lt
  obtain ⟨cQG0, cQG1⟩ := QG_68.out.cells
  have lQG := QG_68.out.lt
  go_wp2_with fail
  refine (markVec_in ro sG rn cG w4.heap.size w5.heap.size _ 1 _ hrn (by omega) (by omega) G_67.out).mono ?_
  clear cQS0 cQS1 lQS cQG0 cQG1 lQG
  rintro e w12 ⟨rfl, hon, hsl⟩
  have G_m : Hid (Slice w12 w4.heap.size w5.heap.size sG rn (fun i => (1 : Int) + (i : Int))) := hsl
  have Z_70 : Hid (w11.heap.size ≤ w12.heap.size) := hon.size
  have B_71 : Hid (Below w.heap.size w w12) := B_62.out.trans (hon.below (by have := Z_0.out; have := Z_1.out; have := Z_3.out; have := Z_6.out; have := Z_10.out; have := Z_15.out; have := Z_21.out; have := Z_28.out; have := Z_36.out; have := Z_44.out; have := Z_53.out; have := Z_61.out; have := Z_70.out; omega) B_62.out.size)
  have A_72 : Hid (CSl w12 w0.heap.size w1.heap.size (some ⟨w0.heap.size, 0, none⟩) n f) := A_63.out.only hon (by have := Z_0.out; have := Z_1.out; have := Z_3.out; have := Z_6.out; have := Z_10.out; have := Z_15.out; have := Z_21.out; have := Z_28.out; have := Z_36.out; have := Z_44.out; have := Z_53.out; have := Z_61.out; have := Z_70.out; omega)
  have S_73 : Hid (Slice w12 w1.heap.size w2.heap.size sS rn rf) := S_64.out.only hon (by have := Z_0.out; have := Z_1.out; have := Z_3.out; have := Z_6.out; have := Z_10.out; have := Z_15.out; have := Z_21.out; have := Z_28.out; have := Z_36.out; have := Z_44.out; have := Z_53.out; have := Z_61.out; have := Z_70.out; omega)
  have QS_74 : Hid (Boxed w12 w2.heap.size 45 ro sS rn cS) := QS_65.out.only hon (by have := Z_0.out; have := Z_1.out; have := Z_3.out; have := Z_6.out; have := Z_10.out; have := Z_15.out; have := Z_21.out; have := Z_28.out; have := Z_36.out; have := Z_44.out; have := Z_53.out; have := Z_61.out; have := Z_70.out; omega)
  have X_75 : Hid (CSl w12 v3.heap.size w4.heap.size (some ⟨v3.heap.size, 0, none⟩) n markC) := X_66.out.only hon (by have := Z_0.out; have := Z_1.out; have := Z_3.out; have := Z_6.out; have := Z_10.out; have := Z_15.out; have := Z_21.out; have := Z_28.out; have := Z_36.out; have := Z_44.out; have := Z_53.out; have := Z_61.out; have := Z_70.out; omega)
  have QG_76 : Hid (Boxed w12 w5.heap.size 45 ro sG rn cG) := QG_68.out.only hon (by have := Z_0.out; have := Z_1.out; have := Z_3.out; have := Z_6.out; have := Z_10.out; have := Z_15.out; have := Z_21.out; have := Z_28.out; have := Z_36.out; have := Z_44.out; have := Z_53.out; have := Z_61.out; have := Z_70.out; omega)
  have Y_77 : Hid (CSl w12 w7.heap.size w8.heap.size (some ⟨w7.heap.size, 0, none⟩) n f) := Y_69.out.only hon (by have := Z_0.out; have := Z_1.out; have := Z_3.out; have := Z_6.out; have := Z_10.out; have := Z_15.out; have := Z_21.out; have := Z_28.out; have := Z_36.out; have := Z_44.out; have := Z_53.out; have := Z_61.out; have := Z_70.out; omega)
  clear B_62 A_63 S_64 QS_65 X_66 QG_68 Y_69
  clear G_67 hon hsl
  obtain ⟨cQS0, cQS1⟩ := QS_74.out.cells
  have lQS := QS_74.out.lt
  obtain ⟨cQG0, cQG1⟩ := QG_76.out.cells
  have lQG := QG_76.out.lt
  go_wp2_with fail
  refine (heldVec_any ro sG rn cG 1 _ hrn (by omega) (by omega) G_m.out.row).mono ?_
  clear cQS0 cQS1 lQS cQG0 cQG1 lQG
  rintro e w13 ⟨rfl, hb⟩
  have Z_78 : Hid (w12.heap.size ≤ w13.heap.size) := hb.size
  have B_79 : Hid (Below w.heap.size w w13) := B_71.out.trans (hb.mono B_71.out.size)
  have A_80 : Hid (CSl w13 w0.heap.size w1.heap.size (some ⟨w0.heap.size, 0, none⟩) n f) := A_72.out.kept hb
  have S_81 : Hid (Slice w13 w1.heap.size w2.heap.size sS rn rf) := S_73.out.kept hb rfl
  have QS_82 : Hid (Boxed w13 w2.heap.size 45 ro sS rn cS) := QS_74.out.kept hb rfl
  have X_83 : Hid (CSl w13 v3.heap.size w4.heap.size (some ⟨v3.heap.size, 0, none⟩) n markC) := X_75.out.kept hb
  have G_84 : Hid (Slice w13 w4.heap.size w5.heap.size sG rn (fun i => (1 : Int) + (i : Int))) := G_m.out.kept hb rfl
  have QG_85 : Hid (Boxed w13 w5.heap.size 45 ro sG rn cG) := QG_76.out.kept hb rfl
  have Y_86 : Hid (CSl w13 w7.heap.size w8.heap.size (some ⟨w7.heap.size, 0, none⟩) n f) := Y_77.out.kept hb
  clear B_71 A_72 S_73 QS_74 X_75 G_m QG_76 Y_77
  clear hb
  have hk2 : ¬ ((1 : Int) + (rn : Int)) < 0 := by omega
  obtain ⟨cQS0, cQS1⟩ := QS_82.out.cells
  have lQS := QS_82.out.lt
  obtain ⟨cQG0, cQG1⟩ := QG_85.out.cells
  have lQG := QG_85.out.lt
  go_wp2_with fail
  refine (toCells_any sa n cap f w13 hl (HR.out.late B_79.out)).mono ?_
  clear cQS0 cQS1 lQS cQG0 cQG1 lQG
  rintro e w14 ⟨rfl, hb, ho⟩
  have V_n : Hid (CSl w14 w13.heap.size w14.heap.size (some ⟨w13.heap.size, 0, none⟩) n f) := ho.slTurnStart (Nat.le_refl _)
  clear ho
  have Z_87 : Hid (w13.heap.size ≤ w14.heap.size) := hb.size
  have B_88 : Hid (Below w.heap.size w w14) := B_79.out.trans (hb.mono B_79.out.size)
  have A_89 : Hid (CSl w14 w0.heap.size w1.heap.size (some ⟨w0.heap.size, 0, none⟩) n f) := A_80.out.kept hb
  have S_90 : Hid (Slice w14 w1.heap.size w2.heap.size sS rn rf) := S_81.out.kept hb rfl
  have QS_91 : Hid (Boxed w14 w2.heap.size 45 ro sS rn cS) := QS_82.out.kept hb rfl
  have X_92 : Hid (CSl w14 v3.heap.size w4.heap.size (some ⟨v3.heap.size, 0, none⟩) n markC) := X_83.out.kept hb
  have G_93 : Hid (Slice w14 w4.heap.size w5.heap.size sG rn (fun i => (1 : Int) + (i : Int))) := G_84.out.kept hb rfl
  have QG_94 : Hid (Boxed w14 w5.heap.size 45 ro sG rn cG) := QG_85.out.kept hb rfl
  have Y_95 : Hid (CSl w14 w7.heap.size w8.heap.size (some ⟨w7.heap.size, 0, none⟩) n f) := Y_86.out.kept hb
  clear B_79 A_80 S_81 QS_82 X_83 G_84 QG_85 Y_86
  clear hb
  obtain ⟨cQS0, cQS1⟩ := QS_91.out.cells
  have lQS := QS_91.out.lt
  obtain ⟨cQG0, cQG1⟩ := QG_94.out.cells
  have lQG := QG_94.out.lt
  go_wp2_with fail
  refine (HI.out w14 _ _ V_n.out.row).mono ?_
  clear cQS0 cQS1 lQS cQG0 cQG1 lQG
  rintro e w15 ⟨sH, cH, rfl, hb, ho⟩
  unfold vecV
  have H_n : Hid (Slice w15 w14.heap.size w15.heap.size sH rn rf) := ho.slice
  clear ho
  have Z_96 : Hid (w14.heap.size ≤ w15.heap.size) := hb.size
  have B_97 : Hid (Below w.heap.size w w15) := B_88.out.trans (hb.mono B_88.out.size)
  have A_98 : Hid (CSl w15 w0.heap.size w1.heap.size (some ⟨w0.heap.size, 0, none⟩) n f) := A_89.out.kept hb
  have S_99 : Hid (Slice w15 w1.heap.size w2.heap.size sS rn rf) := S_90.out.kept hb rfl
  have QS_100 : Hid (Boxed w15 w2.heap.size 45 ro sS rn cS) := QS_91.out.kept hb rfl
  have X_101 : Hid (CSl w15 v3.heap.size w4.heap.size (some ⟨v3.heap.size, 0, none⟩) n markC) := X_92.out.kept hb
  have G_102 : Hid (Slice w15 w4.heap.size w5.heap.size sG rn (fun i => (1 : Int) + (i : Int))) := G_93.out.kept hb rfl
  have QG_103 : Hid (Boxed w15 w5.heap.size 45 ro sG rn cG) := QG_94.out.kept hb rfl
  have Y_104 : Hid (CSl w15 w7.heap.size w8.heap.size (some ⟨w7.heap.size, 0, none⟩) n f) := Y_95.out.kept hb
  have V_105 : Hid (CSl w15 w13.heap.size w14.heap.size (some ⟨w13.heap.size, 0, none⟩) n f) := V_n.out.kept hb
  clear B_88 A_89 S_90 QS_91 X_92 G_93 QG_94 Y_95 V_n
  clear hb
  obtain ⟨cQS0, cQS1⟩ := QS_100.out.cells
  have lQS := QS_100.out.lt
  obtain ⟨cQG0, cQG1⟩ := QG_103.out.cells
  have lQG := QG_103.out.lt
  go_wp2_with fail
  clear cQS0 cQS1 lQS cQG0 cQG1 lQG
  have hq := boxing w15 45 ro sH rn cH
  generalize w15.alloc (.cells #[.int .i64 ro, .slice sH rn cH] 45) = v16 at *
  obtain ⟨hb, hx, hz9⟩ := hq
  have Z_106 : Hid (v16.heap.size = w15.heap.size + 1) := hz9
  have B_107 : Hid (Below w.heap.size w v16) := B_97.out.trans (hb.mono B_97.out.size)
  have A_108 : Hid (CSl v16 w0.heap.size w1.heap.size (some ⟨w0.heap.size, 0, none⟩) n f) := A_98.out.kept hb
  have S_109 : Hid (Slice v16 w1.heap.size w2.heap.size sS rn rf) := S_99.out.kept hb rfl
  have QS_110 : Hid (Boxed v16 w2.heap.size 45 ro sS rn cS) := QS_100.out.kept hb rfl
  have X_111 : Hid (CSl v16 v3.heap.size w4.heap.size (some ⟨v3.heap.size, 0, none⟩) n markC) := X_101.out.kept hb
  have G_112 : Hid (Slice v16 w4.heap.size w5.heap.size sG rn (fun i => (1 : Int) + (i : Int))) := G_102.out.kept hb rfl
  have QG_113 : Hid (Boxed v16 w5.heap.size 45 ro sG rn cG) := QG_103.out.kept hb rfl
  have Y_114 : Hid (CSl v16 w7.heap.size w8.heap.size (some ⟨w7.heap.size, 0, none⟩) n f) := Y_104.out.kept hb
  have V_115 : Hid (CSl v16 w13.heap.size w14.heap.size (some ⟨w13.heap.size, 0, none⟩) n f) := V_105.out.kept hb
  have H_116 : Hid (Slice v16 w14.heap.size w15.heap.size sH rn rf) := H_n.out.kept hb rfl
  clear B_97 A_98 S_99 QS_100 X_101 G_102 QG_103 Y_104 V_105 H_n
  have QH_n : Hid (Boxed v16 w15.heap.size 45 ro sH rn cH) := hx
  clear hb hx hz9
  refine (eqVec_same ro sH sS rn cH cS rf _ hrn H_116.out.row S_109.out.row).mono ?_
  rintro e w17 ⟨rfl, hb⟩
  have Z_117 : Hid (v16.heap.size ≤ w17.heap.size) := hb.size
  have B_118 : Hid (Below w.heap.size w w17) := B_107.out.trans (hb.mono B_107.out.size)
  have A_119 : Hid (CSl w17 w0.heap.size w1.heap.size (some ⟨w0.heap.size, 0, none⟩) n f) := A_108.out.kept hb
  have S_120 : Hid (Slice w17 w1.heap.size w2.heap.size sS rn rf) := S_109.out.kept hb rfl
  have QS_121 : Hid (Boxed w17 w2.heap.size 45 ro sS rn cS) := QS_110.out.kept hb rfl
  have X_122 : Hid (CSl w17 v3.heap.size w4.heap.size (some ⟨v3.heap.size, 0, none⟩) n markC) := X_111.out.kept hb
  have G_123 : Hid (Slice w17 w4.heap.size w5.heap.size sG rn (fun i => (1 : Int) + (i : Int))) := G_112.out.kept hb rfl
  have QG_124 : Hid (Boxed w17 w5.heap.size 45 ro sG rn cG) := QG_113.out.kept hb rfl
  have Y_125 : Hid (CSl w17 w7.heap.size w8.heap.size (some ⟨w7.heap.size, 0, none⟩) n f) := Y_114.out.kept hb
  have V_126 : Hid (CSl w17 w13.heap.size w14.heap.size (some ⟨w13.heap.size, 0, none⟩) n f) := V_115.out.kept hb
  have H_127 : Hid (Slice w17 w14.heap.size w15.heap.size sH rn rf) := H_116.out.kept hb rfl
  have QH_128 : Hid (Boxed w17 w15.heap.size 45 ro sH rn cH) := QH_n.out.kept hb rfl
  clear B_107 A_108 S_109 QS_110 X_111 G_112 QG_113 Y_114 V_115 H_116 QH_n
  clear hb
  obtain ⟨cQS0, cQS1⟩ := QS_121.out.cells
  have lQS := QS_121.out.lt
  obtain ⟨cQG0, cQG1⟩ := QG_124.out.cells
  have lQG := QG_124.out.lt
  obtain ⟨cQH0, cQH1⟩ := QH_128.out.cells
  have lQH := QH_128.out.lt
  go_wp2_with fail
  refine (heldVec_any ro sG rn cG 1 _ hrn (by omega) (by omega) G_123.out.row).mono ?_
  clear cQS0 cQS1 lQS cQG0 cQG1 lQG cQH0 cQH1 lQH
  rintro e w18 ⟨rfl, hb⟩
  have Z_129 : Hid (w17.heap.size ≤ w18.heap.size) := hb.size
  have B_130 : Hid (Below w.heap.size w w18) := B_118.out.trans (hb.mono B_118.out.size)
  have A_131 : Hid (CSl w18 w0.heap.size w1.heap.size (some ⟨w0.heap.size, 0, none⟩) n f) := A_119.out.kept hb
  have S_132 : Hid (Slice w18 w1.heap.size w2.heap.size sS rn rf) := S_120.out.kept hb rfl
  have QS_133 : Hid (Boxed w18 w2.heap.size 45 ro sS rn cS) := QS_121.out.kept hb rfl
  have X_134 : Hid (CSl w18 v3.heap.size w4.heap.size (some ⟨v3.heap.size, 0, none⟩) n markC) := X_122.out.kept hb
  have G_135 : Hid (Slice w18 w4.heap.size w5.heap.size sG rn (fun i => (1 : Int) + (i : Int))) := G_123.out.kept hb rfl
  have QG_136 : Hid (Boxed w18 w5.heap.size 45 ro sG rn cG) := QG_124.out.kept hb rfl
  have Y_137 : Hid (CSl w18 w7.heap.size w8.heap.size (some ⟨w7.heap.size, 0, none⟩) n f) := Y_125.out.kept hb
  have V_138 : Hid (CSl w18 w13.heap.size w14.heap.size (some ⟨w13.heap.size, 0, none⟩) n f) := V_126.out.kept hb
  have H_139 : Hid (Slice w18 w14.heap.size w15.heap.size sH rn rf) := H_127.out.kept hb rfl
  have QH_140 : Hid (Boxed w18 w15.heap.size 45 ro sH rn cH) := QH_128.out.kept hb rfl
  clear B_118 A_119 S_120 QS_121 X_122 G_123 QG_124 Y_125 V_126 H_127 QH_128
  clear hb
  obtain ⟨cQS0, cQS1⟩ := QS_133.out.cells
  have lQS := QS_133.out.lt
  obtain ⟨cQG0, cQG1⟩ := QG_136.out.cells
  have lQG := QG_136.out.lt
  obtain ⟨cQH0, cQH1⟩ := QH_140.out.cells
  have lQH := QH_140.out.lt
  go_wp2_with fail
  go_ret
  exact ⟨rfl, B_130.out⟩
end Go.Proofs.Ytlgnplnmcdjbiaa
