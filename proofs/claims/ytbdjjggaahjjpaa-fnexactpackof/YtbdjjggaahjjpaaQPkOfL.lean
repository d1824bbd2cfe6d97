/- What is proved here: the law of PackOf walks to true, where the specification's function and the program's hand back the same in new memory; nothing that was there turns. -/
import Derived.Test.YtbdjjggaahjjpaaQRowsHW
import Derived.Test.YtbdjjggaahjjpaaQPoHW
namespace Go.Proofs.Ytbdjjggaahjjpaa
open Go.RowKit

set_option maxRecDepth 100000 in
set_option maxHeartbeats 8000000 in
theorem law_PackOf (sr : Option Addr) (k cr : Nat) (s : Nat → Option Addr) (n c : Nat → Nat) (f : Nat → Nat → Cel) (Q : Po) (w : World) (hk : k ≤ maxLen) (hr : CCRows w w.heap.size sr k s n c f) (hn : ∀ i, i < k → n i ≤ maxLen) (hc : ∀ i, i < k → ∀ j, j < n i → (f i j).c.size ≤ maxLen) (hQ : PoSize Q)
    (hs : ∀ (W : World) (x : Option Addr) (cx : Nat), RowsRead W x k n f → Calls Try.prog 13 #[.slice x k cx] W fun e W' => NewPo W Q e W')
    (hi : ∀ (W : World) (x : Option Addr) (cx : Nat), RowsRead W x k n f → Calls Try.prog 15 #[.slice x k cx] W fun e W' => NewPo W Q e W') :
    Calls Try.prog 4 #[.slice sr k cr] w fun e w' => e = .returned (.bool true) ∧ Below w.heap.size w w' := by
  have HS : Hid (∀ (W : World) (x : Option Addr) (cx : Nat), RowsRead W x k n f → Calls Try.prog 13 #[.slice x k cx] W fun e W' => NewPo W Q e W') := hs
  have HI : Hid (∀ (W : World) (x : Option Addr) (cx : Nat), RowsRead W x k n f → Calls Try.prog 15 #[.slice x k cx] W fun e W' => NewPo W Q e W') := hi
  clear hs hi
  have HR : Hid (RowsRead w sr k n f) := ⟨s, c, hr⟩
  have CZ := szCC_any sr k cr s n c f w hk hr hn hc
  clear hr hk hn hc
  go_enter Try.func4, Try.ntmps4
  go_wp2_with fail
  refine CZ.mono ?_
  clear CZ
  rintro e w0 ⟨⟨z, rfl, hz⟩, hb⟩
  have B_0 : Hid (Below w.heap.size w w0) := hb
  have Z_1 : Hid (w.heap.size ≤ w0.heap.size) := hb.size
  clear hb
  rcases hz with hz | ⟨hz, hz9, hk, htot, hcs⟩
  · go_wp2_with fail
    go_ret
    exact ⟨rfl, B_0.out⟩
  have hz' : ¬ z < 0 := by omega
  have HT : Hid (totC n k ≤ 1048576) := htot
  have HN : Hid (∀ i, i < k → n i ≤ 1048576) := fun i hi => Nat.le_trans (totC_le hi) htot
  clear hcs htot
  go_wp2_with fail
  refine (toRows_any sr k cr n f w0 hk HN.out (HR.out.late B_0.out)).mono ?_
  rintro e w1 ⟨rT, crT, rfl, hb, ho⟩
  have T_n : Hid (RowsOwn w1 w0.heap.size w1.heap.size rT k n f) := ho
  clear ho
  have Z_2 : Hid (w0.heap.size ≤ w1.heap.size) := hb.size
  have B_3 : Hid (Below w.heap.size w w1) := B_0.out.trans (hb.mono B_0.out.size)
  clear B_0
  clear hb
  go_wp2_with fail
  refine (HS.out w1 _ _ T_n.out.read).mono ?_
  rintro e w2 ⟨rS, mS, vS, hS, crS, cmS, cvS, chS, rfl, hb, ho⟩
  have S_n : Hid (PoOwn w2 w1.heap.size w2.heap.size rS mS vS hS Q) := ho
  clear ho
  have Z_4 : Hid (w1.heap.size ≤ w2.heap.size) := hb.size
  have B_5 : Hid (Below w.heap.size w w2) := B_3.out.trans (hb.mono B_3.out.size)
  have T_6 : Hid (RowsOwn w2 w0.heap.size w1.heap.size rT k n f) := T_n.out.kept hb
  clear B_3 T_n
  clear hb
  go_wp2_with fail
  have hq := boxAt_new w2 #[.slice rS Q.P.k crS, .slice mS Q.P.m cmS, .int .i64 Q.P.b, .int .i64 Q.vb, .slice vS Q.nv cvS, .slice hS Q.nh chS, .int .i64 Q.cd] 38
  generalize w2.alloc (.cells #[.slice rS Q.P.k crS, .slice mS Q.P.m cmS, .int .i64 Q.P.b, .int .i64 Q.vb, .slice vS Q.nv cvS, .slice hS Q.nh chS, .int .i64 Q.cd] 38) = v3 at *
  obtain ⟨hb, hx, hz9⟩ := hq
  have Z_7 : Hid (v3.heap.size = w2.heap.size + 1) := hz9
  have B_8 : Hid (Below w.heap.size w v3) := B_5.out.trans (hb.mono B_5.out.size)
  have T_9 : Hid (RowsOwn v3 w0.heap.size w1.heap.size rT k n f) := T_6.out.kept hb
  have S_10 : Hid (PoOwn v3 w1.heap.size w2.heap.size rS mS vS hS Q) := S_n.out.kept hb
  clear B_5 T_6 S_n
  have QS_n : Hid (BoxAt v3 w2.heap.size #[.slice rS Q.P.k crS, .slice mS Q.P.m cmS, .int .i64 Q.P.b, .int .i64 Q.vb, .slice vS Q.nv cvS, .slice hS Q.nh chS, .int .i64 Q.cd] 38) := hx
  clear hb hx hz9
  refine (toRows_any sr k cr n f v3 hk HN.out (HR.out.late B_8.out)).mono ?_
  rintro e w4 ⟨rX, crX, rfl, hb, ho⟩
  have X_n : Hid (RowsOwn w4 v3.heap.size w4.heap.size rX k n f) := ho
  clear ho
  have Z_11 : Hid (v3.heap.size ≤ w4.heap.size) := hb.size
  have B_12 : Hid (Below w.heap.size w w4) := B_8.out.trans (hb.mono B_8.out.size)
  have T_13 : Hid (RowsOwn w4 w0.heap.size w1.heap.size rT k n f) := T_9.out.kept hb
  have S_14 : Hid (PoOwn w4 w1.heap.size w2.heap.size rS mS vS hS Q) := S_10.out.kept hb
  have QS_15 : Hid (BoxAt w4 w2.heap.size #[.slice rS Q.P.k crS, .slice mS Q.P.m cmS, .int .i64 Q.P.b, .int .i64 Q.vb, .slice vS Q.nv cvS, .slice hS Q.nh chS, .int .i64 Q.cd] 38) := QS_n.out.kept hb
  clear B_8 T_9 S_10 QS_n
  clear hb
  have cQS0 : w4.cell? ⟨w2.heap.size, 0, none⟩ = some (.slice rS Q.P.k crS) := QS_15.out.cell 0 _ rfl
  have cQS1 : w4.cell? ⟨w2.heap.size, 1, none⟩ = some (.slice mS Q.P.m cmS) := QS_15.out.cell 1 _ rfl
  have cQS2 : w4.cell? ⟨w2.heap.size, 2, none⟩ = some (.int .i64 Q.P.b) := QS_15.out.cell 2 _ rfl
  have cQS3 : w4.cell? ⟨w2.heap.size, 3, none⟩ = some (.int .i64 Q.vb) := QS_15.out.cell 3 _ rfl
  have cQS4 : w4.cell? ⟨w2.heap.size, 4, none⟩ = some (.slice vS Q.nv cvS) := QS_15.out.cell 4 _ rfl
  have cQS5 : w4.cell? ⟨w2.heap.size, 5, none⟩ = some (.slice hS Q.nh chS) := QS_15.out.cell 5 _ rfl
  have cQS6 : w4.cell? ⟨w2.heap.size, 6, none⟩ = some (.int .i64 Q.cd) := QS_15.out.cell 6 _ rfl
  have lQS := QS_15.out.lt
  go_wp2_with fail
  refine (HI.out w4 _ _ X_n.out.read).mono ?_
  clear cQS0 cQS1 cQS2 cQS3 cQS4 cQS5 cQS6 lQS
  rintro e w5 ⟨rG, mG, vG, hG, crG, cmG, cvG, chG, rfl, hb, ho⟩
  have G_n : Hid (PoOwn w5 w4.heap.size w5.heap.size rG mG vG hG Q) := ho
  clear ho
  have Z_16 : Hid (w4.heap.size ≤ w5.heap.size) := hb.size
  have B_17 : Hid (Below w.heap.size w w5) := B_12.out.trans (hb.mono B_12.out.size)
  have T_18 : Hid (RowsOwn w5 w0.heap.size w1.heap.size rT k n f) := T_13.out.kept hb
  have S_19 : Hid (PoOwn w5 w1.heap.size w2.heap.size rS mS vS hS Q) := S_14.out.kept hb
  have QS_20 : Hid (BoxAt w5 w2.heap.size #[.slice rS Q.P.k crS, .slice mS Q.P.m cmS, .int .i64 Q.P.b, .int .i64 Q.vb, .slice vS Q.nv cvS, .slice hS Q.nh chS, .int .i64 Q.cd] 38) := QS_15.out.kept hb
  have X_21 : Hid (RowsOwn w5 v3.heap.size w4.heap.size rX k n f) := X_n.out.kept hb
  clear B_12 T_13 S_14 QS_15 X_n
  clear hb
  have cQS0 : w5.cell? ⟨w2.heap.size, 0, none⟩ = some (.slice rS Q.P.k crS) := QS_20.out.cell 0 _ rfl
  have cQS1 : w5.cell? ⟨w2.heap.size, 1, none⟩ = some (.slice mS Q.P.m cmS) := QS_20.out.cell 1 _ rfl
  have cQS2 : w5.cell? ⟨w2.heap.size, 2, none⟩ = some (.int .i64 Q.P.b) := QS_20.out.cell 2 _ rfl
  have cQS3 : w5.cell? ⟨w2.heap.size, 3, none⟩ = some (.int .i64 Q.vb) := QS_20.out.cell 3 _ rfl
  have cQS4 : w5.cell? ⟨w2.heap.size, 4, none⟩ = some (.slice vS Q.nv cvS) := QS_20.out.cell 4 _ rfl
  have cQS5 : w5.cell? ⟨w2.heap.size, 5, none⟩ = some (.slice hS Q.nh chS) := QS_20.out.cell 5 _ rfl
  have cQS6 : w5.cell? ⟨w2.heap.size, 6, none⟩ = some (.int .i64 Q.cd) := QS_20.out.cell 6 _ rfl
  have lQS := QS_20.out.lt
  go_wp2_with fail
  clear cQS0 cQS1 cQS2 cQS3 cQS4 cQS5 cQS6 lQS
  have hq := boxAt_new w5 #[.slice rG Q.P.k crG, .slice mG Q.P.m cmG, .int .i64 Q.P.b, .int .i64 Q.vb, .slice vG Q.nv cvG, .slice hG Q.nh chG, .int .i64 Q.cd] 38
  generalize w5.alloc (.cells #[.slice rG Q.P.k crG, .slice mG Q.P.m cmG, .int .i64 Q.P.b, .int .i64 Q.vb, .slice vG Q.nv cvG, .slice hG Q.nh chG, .int .i64 Q.cd] 38) = v6 at *
  obtain ⟨hb, hx, hz9⟩ := hq
  have Z_22 : Hid (v6.heap.size = w5.heap.size + 1) := hz9
  have B_23 : Hid (Below w.heap.size w v6) := B_17.out.trans (hb.mono B_17.out.size)
  have T_24 : Hid (RowsOwn v6 w0.heap.size w1.heap.size rT k n f) := T_18.out.kept hb
  have S_25 : Hid (PoOwn v6 w1.heap.size w2.heap.size rS mS vS hS Q) := S_19.out.kept hb
  have QS_26 : Hid (BoxAt v6 w2.heap.size #[.slice rS Q.P.k crS, .slice mS Q.P.m cmS, .int .i64 Q.P.b, .int .i64 Q.vb, .slice vS Q.nv cvS, .slice hS Q.nh chS, .int .i64 Q.cd] 38) := QS_20.out.kept hb
  have X_27 : Hid (RowsOwn v6 v3.heap.size w4.heap.size rX k n f) := X_21.out.kept hb
  have G_28 : Hid (PoOwn v6 w4.heap.size w5.heap.size rG mG vG hG Q) := G_n.out.kept hb
  clear B_17 T_18 S_19 QS_20 X_21 G_n
  have QG_n : Hid (BoxAt v6 w5.heap.size #[.slice rG Q.P.k crG, .slice mG Q.P.m cmG, .int .i64 Q.P.b, .int .i64 Q.vb, .slice vG Q.nv cvG, .slice hG Q.nh chG, .int .i64 Q.cd] 38) := hx
  clear hb hx hz9
  refine (eqPo_same _ _ _ _ _ _ _ _ _ _ _ _ _ _ _ _ Q v6 hQ G_28.out.read S_25.out.read).mono ?_
  rintro e w7 ⟨rfl, hb⟩
  have Z_29 : Hid (v6.heap.size ≤ w7.heap.size) := hb.size
  have B_30 : Hid (Below w.heap.size w w7) := B_23.out.trans (hb.mono B_23.out.size)
  have T_31 : Hid (RowsOwn w7 w0.heap.size w1.heap.size rT k n f) := T_24.out.kept hb
  have S_32 : Hid (PoOwn w7 w1.heap.size w2.heap.size rS mS vS hS Q) := S_25.out.kept hb
  have QS_33 : Hid (BoxAt w7 w2.heap.size #[.slice rS Q.P.k crS, .slice mS Q.P.m cmS, .int .i64 Q.P.b, .int .i64 Q.vb, .slice vS Q.nv cvS, .slice hS Q.nh chS, .int .i64 Q.cd] 38) := QS_26.out.kept hb
  have X_34 : Hid (RowsOwn w7 v3.heap.size w4.heap.size rX k n f) := X_27.out.kept hb
  have G_35 : Hid (PoOwn w7 w4.heap.size w5.heap.size rG mG vG hG Q) := G_28.out.kept hb
  have QG_36 : Hid (BoxAt w7 w5.heap.size #[.slice rG Q.P.k crG, .slice mG Q.P.m cmG, .int .i64 Q.P.b, .int .i64 Q.vb, .slice vG Q.nv cvG, .slice hG Q.nh chG, .int .i64 Q.cd] 38) := QG_n.out.kept hb
  clear B_23 T_24 S_25 QS_26 X_27 G_28 QG_n
  clear hb
  have cQS0 : w7.cell? ⟨w2.heap.size, 0, none⟩ = some (.slice rS Q.P.k crS) := QS_33.out.cell 0 _ rfl
  have cQS1 : w7.cell? ⟨w2.heap.size, 1, none⟩ = some (.slice mS Q.P.m cmS) := QS_33.out.cell 1 _ rfl
  have cQS2 : w7.cell? ⟨w2.heap.size, 2, none⟩ = some (.int .i64 Q.P.b) := QS_33.out.cell 2 _ rfl
  have cQS3 : w7.cell? ⟨w2.heap.size, 3, none⟩ = some (.int .i64 Q.vb) := QS_33.out.cell 3 _ rfl
  have cQS4 : w7.cell? ⟨w2.heap.size, 4, none⟩ = some (.slice vS Q.nv cvS) := QS_33.out.cell 4 _ rfl
  have cQS5 : w7.cell? ⟨w2.heap.size, 5, none⟩ = some (.slice hS Q.nh chS) := QS_33.out.cell 5 _ rfl
  have cQS6 : w7.cell? ⟨w2.heap.size, 6, none⟩ = some (.int .i64 Q.cd) := QS_33.out.cell 6 _ rfl
  have lQS := QS_33.out.lt
  have cQG0 : w7.cell? ⟨w5.heap.size, 0, none⟩ = some (.slice rG Q.P.k crG) := QG_36.out.cell 0 _ rfl
  have cQG1 : w7.cell? ⟨w5.heap.size, 1, none⟩ = some (.slice mG Q.P.m cmG) := QG_36.out.cell 1 _ rfl
  have cQG2 : w7.cell? ⟨w5.heap.size, 2, none⟩ = some (.int .i64 Q.P.b) := QG_36.out.cell 2 _ rfl
  have cQG3 : w7.cell? ⟨w5.heap.size, 3, none⟩ = some (.int .i64 Q.vb) := QG_36.out.cell 3 _ rfl
  have cQG4 : w7.cell? ⟨w5.heap.size, 4, none⟩ = some (.slice vG Q.nv cvG) := QG_36.out.cell 4 _ rfl
  have cQG5 : w7.cell? ⟨w5.heap.size, 5, none⟩ = some (.slice hG Q.nh chG) := QG_36.out.cell 5 _ rfl
  have cQG6 : w7.cell? ⟨w5.heap.size, 6, none⟩ = some (.int .i64 Q.cd) := QG_36.out.cell 6 _ rfl
  have lQG := QG_36.out.lt
  go_wp2_with fail
  refine (toRows_any sr k cr n f w7 hk HN.out (HR.out.late B_30.out)).mono ?_
  clear cQS0 cQS1 cQS2 cQS3 cQS4 cQS5 cQS6 lQS cQG0 cQG1 cQG2 cQG3 cQG4 cQG5 cQG6 lQG
  rintro e w8 ⟨rY, crY, rfl, hb, ho⟩
  have Y_n : Hid (RowsOwn w8 w7.heap.size w8.heap.size rY k n f) := ho
  clear ho
  have Z_37 : Hid (w7.heap.size ≤ w8.heap.size) := hb.size
  have B_38 : Hid (Below w.heap.size w w8) := B_30.out.trans (hb.mono B_30.out.size)
  have T_39 : Hid (RowsOwn w8 w0.heap.size w1.heap.size rT k n f) := T_31.out.kept hb
  have S_40 : Hid (PoOwn w8 w1.heap.size w2.heap.size rS mS vS hS Q) := S_32.out.kept hb
  have QS_41 : Hid (BoxAt w8 w2.heap.size #[.slice rS Q.P.k crS, .slice mS Q.P.m cmS, .int .i64 Q.P.b, .int .i64 Q.vb, .slice vS Q.nv cvS, .slice hS Q.nh chS, .int .i64 Q.cd] 38) := QS_33.out.kept hb
  have X_42 : Hid (RowsOwn w8 v3.heap.size w4.heap.size rX k n f) := X_34.out.kept hb
  have G_43 : Hid (PoOwn w8 w4.heap.size w5.heap.size rG mG vG hG Q) := G_35.out.kept hb
  have QG_44 : Hid (BoxAt w8 w5.heap.size #[.slice rG Q.P.k crG, .slice mG Q.P.m cmG, .int .i64 Q.P.b, .int .i64 Q.vb, .slice vG Q.nv cvG, .slice hG Q.nh chG, .int .i64 Q.cd] 38) := QG_36.out.kept hb
  clear B_30 T_31 S_32 QS_33 X_34 G_35 QG_36
  clear hb
  have cQS0 : w8.cell? ⟨w2.heap.size, 0, none⟩ = some (.slice rS Q.P.k crS) := QS_41.out.cell 0 _ rfl
  have cQS1 : w8.cell? ⟨w2.heap.size, 1, none⟩ = some (.slice mS Q.P.m cmS) := QS_41.out.cell 1 _ rfl
  have cQS2 : w8.cell? ⟨w2.heap.size, 2, none⟩ = some (.int .i64 Q.P.b) := QS_41.out.cell 2 _ rfl
  have cQS3 : w8.cell? ⟨w2.heap.size, 3, none⟩ = some (.int .i64 Q.vb) := QS_41.out.cell 3 _ rfl
  have cQS4 : w8.cell? ⟨w2.heap.size, 4, none⟩ = some (.slice vS Q.nv cvS) := QS_41.out.cell 4 _ rfl
  have cQS5 : w8.cell? ⟨w2.heap.size, 5, none⟩ = some (.slice hS Q.nh chS) := QS_41.out.cell 5 _ rfl
  have cQS6 : w8.cell? ⟨w2.heap.size, 6, none⟩ = some (.int .i64 Q.cd) := QS_41.out.cell 6 _ rfl
  have lQS := QS_41.out.lt
  have cQG0 : w8.cell? ⟨w5.heap.size, 0, none⟩ = some (.slice rG Q.P.k crG) := QG_44.out.cell 0 _ rfl
  have cQG1 : w8.cell? ⟨w5.heap.size, 1, none⟩ = some (.slice mG Q.P.m cmG) := QG_44.out.cell 1 _ rfl
  have cQG2 : w8.cell? ⟨w5.heap.size, 2, none⟩ = some (.int .i64 Q.P.b) := QG_44.out.cell 2 _ rfl
  have cQG3 : w8.cell? ⟨w5.heap.size, 3, none⟩ = some (.int .i64 Q.vb) := QG_44.out.cell 3 _ rfl
  have cQG4 : w8.cell? ⟨w5.heap.size, 4, none⟩ = some (.slice vG Q.nv cvG) := QG_44.out.cell 4 _ rfl
  have cQG5 : w8.cell? ⟨w5.heap.size, 5, none⟩ = some (.slice hG Q.nh chG) := QG_44.out.cell 5 _ rfl
  have cQG6 : w8.cell? ⟨w5.heap.size, 6, none⟩ = some (.int .i64 Q.cd) := QG_44.out.cell 6 _ rfl
  have lQG := QG_44.out.lt
  go_wp2_with fail
  refine (eqRows_same _ _ k _ _ n f w8 hk HN.out X_42.out.read Y_n.out.read).mono ?_
  clear cQS0 cQS1 cQS2 cQS3 cQS4 cQS5 cQS6 lQS cQG0 cQG1 cQG2 cQG3 cQG4 cQG5 cQG6 lQG
  rintro e w9 ⟨rfl, hb⟩
  have Z_45 : Hid (w8.heap.size ≤ w9.heap.size) := hb.size
  have B_46 : Hid (Below w.heap.size w w9) := B_38.out.trans (hb.mono B_38.out.size)
  have T_47 : Hid (RowsOwn w9 w0.heap.size w1.heap.size rT k n f) := T_39.out.kept hb
  have S_48 : Hid (PoOwn w9 w1.heap.size w2.heap.size rS mS vS hS Q) := S_40.out.kept hb
  have QS_49 : Hid (BoxAt w9 w2.heap.size #[.slice rS Q.P.k crS, .slice mS Q.P.m cmS, .int .i64 Q.P.b, .int .i64 Q.vb, .slice vS Q.nv cvS, .slice hS Q.nh chS, .int .i64 Q.cd] 38) := QS_41.out.kept hb
  have X_50 : Hid (RowsOwn w9 v3.heap.size w4.heap.size rX k n f) := X_42.out.kept hb
  have G_51 : Hid (PoOwn w9 w4.heap.size w5.heap.size rG mG vG hG Q) := G_43.out.kept hb
  have QG_52 : Hid (BoxAt w9 w5.heap.size #[.slice rG Q.P.k crG, .slice mG Q.P.m cmG, .int .i64 Q.P.b, .int .i64 Q.vb, .slice vG Q.nv cvG, .slice hG Q.nh chG, .int .i64 Q.cd] 38) := QG_44.out.kept hb
  have Y_53 : Hid (RowsOwn w9 w7.heap.size w8.heap.size rY k n f) := Y_n.out.kept hb
  clear B_38 T_39 S_40 QS_41 X_42 G_43 QG_44 Y_n
  clear hb
  have cQS0 : w9.cell? ⟨w2.heap.size, 0, none⟩ = some (.slice rS Q.P.k crS) := QS_49.out.cell 0 _ rfl
  have cQS1 : w9.cell? ⟨w2.heap.size, 1, none⟩ = some (.slice mS Q.P.m cmS) := QS_49.out.cell 1 _ rfl
  have cQS2 : w9.cell? ⟨w2.heap.size, 2, none⟩ = some (.int .i64 Q.P.b) := QS_49.out.cell 2 _ rfl
  have cQS3 : w9.cell? ⟨w2.heap.size, 3, none⟩ = some (.int .i64 Q.vb) := QS_49.out.cell 3 _ rfl
  have cQS4 : w9.cell? ⟨w2.heap.size, 4, none⟩ = some (.slice vS Q.nv cvS) := QS_49.out.cell 4 _ rfl
  have cQS5 : w9.cell? ⟨w2.heap.size, 5, none⟩ = some (.slice hS Q.nh chS) := QS_49.out.cell 5 _ rfl
  have cQS6 : w9.cell? ⟨w2.heap.size, 6, none⟩ = some (.int .i64 Q.cd) := QS_49.out.cell 6 _ rfl
  have lQS := QS_49.out.lt
  have cQG0 : w9.cell? ⟨w5.heap.size, 0, none⟩ = some (.slice rG Q.P.k crG) := QG_52.out.cell 0 _ rfl
  have cQG1 : w9.cell? ⟨w5.heap.size, 1, none⟩ = some (.slice mG Q.P.m cmG) := QG_52.out.cell 1 _ rfl
  have cQG2 : w9.cell? ⟨w5.heap.size, 2, none⟩ = some (.int .i64 Q.P.b) := QG_52.out.cell 2 _ rfl
  have cQG3 : w9.cell? ⟨w5.heap.size, 3, none⟩ = some (.int .i64 Q.vb) := QG_52.out.cell 3 _ rfl
  have cQG4 : w9.cell? ⟨w5.heap.size, 4, none⟩ = some (.slice vG Q.nv cvG) := QG_52.out.cell 4 _ rfl
  have cQG5 : w9.cell? ⟨w5.heap.size, 5, none⟩ = some (.slice hG Q.nh chG) := QG_52.out.cell 5 _ rfl
  have cQG6 : w9.cell? ⟨w5.heap.size, 6, none⟩ = some (.int .i64 Q.cd) := QG_52.out.cell 6 _ rfl
  have lQG := QG_52.out.lt
  go_wp2_with fail
  refine (markRows_any v3.heap.size w4.heap.size rX k _ 1 n f w9 hk HT.out (by omega) (by omega) X_50.out).mono ?_
  clear cQS0 cQS1 cQS2 cQS3 cQS4 cQS5 cQS6 lQS cQG0 cQG1 cQG2 cQG3 cQG4 cQG5 cQG6 lQG
  rintro e w10 ⟨rfl, hon⟩
  have Z_54 : Hid (w9.heap.size ≤ w10.heap.size) := hon.size
  have B_55 : Hid (Below w.heap.size w w10) := B_46.out.trans (hon.below (by have := Z_1.out; have := Z_2.out; have := Z_4.out; have := Z_7.out; have := Z_11.out; have := Z_16.out; have := Z_22.out; have := Z_29.out; have := Z_37.out; have := Z_45.out; have := Z_54.out; omega) B_46.out.size)
  have T_56 : Hid (RowsOwn w10 w0.heap.size w1.heap.size rT k n f) := T_47.out.onlyM hon (by have := Z_1.out; have := Z_2.out; have := Z_4.out; have := Z_7.out; have := Z_11.out; have := Z_16.out; have := Z_22.out; have := Z_29.out; have := Z_37.out; have := Z_45.out; have := Z_54.out; omega)
  have S_57 : Hid (PoOwn w10 w1.heap.size w2.heap.size rS mS vS hS Q) := S_48.out.onlyM hon (by have := Z_1.out; have := Z_2.out; have := Z_4.out; have := Z_7.out; have := Z_11.out; have := Z_16.out; have := Z_22.out; have := Z_29.out; have := Z_37.out; have := Z_45.out; have := Z_54.out; omega)
  have QS_58 : Hid (BoxAt w10 w2.heap.size #[.slice rS Q.P.k crS, .slice mS Q.P.m cmS, .int .i64 Q.P.b, .int .i64 Q.vb, .slice vS Q.nv cvS, .slice hS Q.nh chS, .int .i64 Q.cd] 38) := QS_49.out.onlyM hon (by have := Z_1.out; have := Z_2.out; have := Z_4.out; have := Z_7.out; have := Z_11.out; have := Z_16.out; have := Z_22.out; have := Z_29.out; have := Z_37.out; have := Z_45.out; have := Z_54.out; omega)
  have G_59 : Hid (PoOwn w10 w4.heap.size w5.heap.size rG mG vG hG Q) := G_51.out.onlyM hon (by have := Z_1.out; have := Z_2.out; have := Z_4.out; have := Z_7.out; have := Z_11.out; have := Z_16.out; have := Z_22.out; have := Z_29.out; have := Z_37.out; have := Z_45.out; have := Z_54.out; omega)
  have QG_60 : Hid (BoxAt w10 w5.heap.size #[.slice rG Q.P.k crG, .slice mG Q.P.m cmG, .int .i64 Q.P.b, .int .i64 Q.vb, .slice vG Q.nv cvG, .slice hG Q.nh chG, .int .i64 Q.cd] 38) := QG_52.out.onlyM hon (by have := Z_1.out; have := Z_2.out; have := Z_4.out; have := Z_7.out; have := Z_11.out; have := Z_16.out; have := Z_22.out; have := Z_29.out; have := Z_37.out; have := Z_45.out; have := Z_54.out; omega)
  have Y_61 : Hid (RowsOwn w10 w7.heap.size w8.heap.size rY k n f) := Y_53.out.onlyM hon (by have := Z_1.out; have := Z_2.out; have := Z_4.out; have := Z_7.out; have := Z_11.out; have := Z_16.out; have := Z_22.out; have := Z_29.out; have := Z_37.out; have := Z_45.out; have := Z_54.out; omega)
  clear B_46 T_47 S_48 QS_49 G_51 QG_52 Y_53
  clear X_50 hon
  have hkx : ¬ ((1 + totC n k * 3 : Nat) : Int) < 0 := by omega
  generalize ((1 + totC n k * 3 : Nat) : Int) = kX at hkx ⊢
  have cQS0 : w10.cell? ⟨w2.heap.size, 0, none⟩ = some (.slice rS Q.P.k crS) := QS_58.out.cell 0 _ rfl
  have cQS1 : w10.cell? ⟨w2.heap.size, 1, none⟩ = some (.slice mS Q.P.m cmS) := QS_58.out.cell 1 _ rfl
  have cQS2 : w10.cell? ⟨w2.heap.size, 2, none⟩ = some (.int .i64 Q.P.b) := QS_58.out.cell 2 _ rfl
  have cQS3 : w10.cell? ⟨w2.heap.size, 3, none⟩ = some (.int .i64 Q.vb) := QS_58.out.cell 3 _ rfl
  have cQS4 : w10.cell? ⟨w2.heap.size, 4, none⟩ = some (.slice vS Q.nv cvS) := QS_58.out.cell 4 _ rfl
  have cQS5 : w10.cell? ⟨w2.heap.size, 5, none⟩ = some (.slice hS Q.nh chS) := QS_58.out.cell 5 _ rfl
  have cQS6 : w10.cell? ⟨w2.heap.size, 6, none⟩ = some (.int .i64 Q.cd) := QS_58.out.cell 6 _ rfl
  have lQS := QS_58.out.lt
  have cQG0 : w10.cell? ⟨w5.heap.size, 0, none⟩ = some (.slice rG Q.P.k crG) := QG_60.out.cell 0 _ rfl
  have cQG1 : w10.cell? ⟨w5.heap.size, 1, none⟩ = some (.slice mG Q.P.m cmG) := QG_60.out.cell 1 _ rfl
  have cQG2 : w10.cell? ⟨w5.heap.size, 2, none⟩ = some (.int .i64 Q.P.b) := QG_60.out.cell 2 _ rfl
  have cQG3 : w10.cell? ⟨w5.heap.size, 3, none⟩ = some (.int .i64 Q.vb) := QG_60.out.cell 3 _ rfl
  have cQG4 : w10.cell? ⟨w5.heap.size, 4, none⟩ = some (.slice vG Q.nv cvG) := QG_60.out.cell 4 _ rfl
  have cQG5 : w10.cell? ⟨w5.heap.size, 5, none⟩ = some (.slice hG Q.nh chG) := QG_60.out.cell 5 _ rfl
  have cQG6 : w10.cell? ⟨w5.heap.size, 6, none⟩ = some (.int .i64 Q.cd) := QG_60.out.cell 6 _ rfl
  have lQG := QG_60.out.lt
  go_wp2_with fail
  refine (eqPo_same _ _ _ _ _ _ _ _ _ _ _ _ _ _ _ _ Q w10 hQ G_59.out.read S_57.out.read).mono ?_
  clear cQS0 cQS1 cQS2 cQS3 cQS4 cQS5 cQS6 lQS cQG0 cQG1 cQG2 cQG3 cQG4 cQG5 cQG6 lQG
  rintro e w11 ⟨rfl, hb⟩
  have Z_62 : Hid (w10.heap.size ≤ w11.heap.size) := hb.size
  have B_63 : Hid (Below w.heap.size w w11) := B_55.out.trans (hb.mono B_55.out.size)
  have T_64 : Hid (RowsOwn w11 w0.heap.size w1.heap.size rT k n f) := T_56.out.kept hb
  have S_65 : Hid (PoOwn w11 w1.heap.size w2.heap.size rS mS vS hS Q) := S_57.out.kept hb
  have QS_66 : Hid (BoxAt w11 w2.heap.size #[.slice rS Q.P.k crS, .slice mS Q.P.m cmS, .int .i64 Q.P.b, .int .i64 Q.vb, .slice vS Q.nv cvS, .slice hS Q.nh chS, .int .i64 Q.cd] 38) := QS_58.out.kept hb
  have G_67 : Hid (PoOwn w11 w4.heap.size w5.heap.size rG mG vG hG Q) := G_59.out.kept hb
  have QG_68 : Hid (BoxAt w11 w5.heap.size #[.slice rG Q.P.k crG, .slice mG Q.P.m cmG, .int .i64 Q.P.b, .int .i64 Q.vb, .slice vG Q.nv cvG, .slice hG Q.nh chG, .int .i64 Q.cd] 38) := QG_60.out.kept hb
  have Y_69 : Hid (RowsOwn w11 w7.heap.size w8.heap.size rY k n f) := Y_61.out.kept hb
  clear B_55 T_56 S_57 QS_58 G_59 QG_60 Y_61
  clear hb
  have cQS0 : w11.cell? ⟨w2.heap.size, 0, none⟩ = some (.slice rS Q.P.k crS) := QS_66.out.cell 0 _ rfl
  have cQS1 : w11.cell? ⟨w2.heap.size, 1, none⟩ = some (.slice mS Q.P.m cmS) := QS_66.out.cell 1 _ rfl
  have cQS2 : w11.cell? ⟨w2.heap.size, 2, none⟩ = some (.int .i64 Q.P.b) := QS_66.out.cell 2 _ rfl
  have cQS3 : w11.cell? ⟨w2.heap.size, 3, none⟩ = some (.int .i64 Q.vb) := QS_66.out.cell 3 _ rfl
  have cQS4 : w11.cell? ⟨w2.heap.size, 4, none⟩ = some (.slice vS Q.nv cvS) := QS_66.out.cell 4 _ rfl
  have cQS5 : w11.cell? ⟨w2.heap.size, 5, none⟩ = some (.slice hS Q.nh chS) := QS_66.out.cell 5 _ rfl
  have cQS6 : w11.cell? ⟨w2.heap.size, 6, none⟩ = some (.int .i64 Q.cd) := QS_66.out.cell 6 _ rfl
  have lQS := QS_66.out.lt
  have cQG0 : w11.cell? ⟨w5.heap.size, 0, none⟩ = some (.slice rG Q.P.k crG) := QG_68.out.cell 0 _ rfl
  have cQG1 : w11.cell? ⟨w5.heap.size, 1, none⟩ = some (.slice mG Q.P.m cmG) := QG_68.out.cell 1 _ rfl
  have cQG2 : w11.cell? ⟨w5.heap.size, 2, none⟩ = some (.int .i64 Q.P.b) := QG_68.out.cell 2 _ rfl
  have cQG3 : w11.cell? ⟨w5.heap.size, 3, none⟩ = some (.int .i64 Q.vb) := QG_68.out.cell 3 _ rfl
  have cQG4 : w11.cell? ⟨w5.heap.size, 4, none⟩ = some (.slice vG Q.nv cvG) := QG_68.out.cell 4 _ rfl
  have cQG5 : w11.cell? ⟨w5.heap.size, 5, none⟩ = some (.slice hG Q.nh chG) := QG_68.out.cell 5 _ rfl
  have cQG6 : w11.cell? ⟨w5.heap.size, 6, none⟩ = some (.int .i64 Q.cd) := QG_68.out.cell 6 _ rfl
  have lQG := QG_68.out.lt
  go_wp2_with fail
  refine (markPo_any w4.heap.size w5.heap.size rG mG vG hG _ _ _ _ Q w11 hQ G_67.out).mono ?_
  clear cQS0 cQS1 cQS2 cQS3 cQS4 cQS5 cQS6 lQS cQG0 cQG1 cQG2 cQG3 cQG4 cQG5 cQG6 lQG
  rintro e w12 ⟨rfl, hon, hsl⟩
  have G_m : Hid (PoOwn w12 w4.heap.size w5.heap.size rG mG vG hG (Q.marked 1)) := hsl
  have Z_70 : Hid (w11.heap.size ≤ w12.heap.size) := hon.size
  have B_71 : Hid (Below w.heap.size w w12) := B_63.out.trans (hon.below (by have := Z_1.out; have := Z_2.out; have := Z_4.out; have := Z_7.out; have := Z_11.out; have := Z_16.out; have := Z_22.out; have := Z_29.out; have := Z_37.out; have := Z_45.out; have := Z_54.out; have := Z_62.out; have := Z_70.out; omega) B_63.out.size)
  have T_72 : Hid (RowsOwn w12 w0.heap.size w1.heap.size rT k n f) := T_64.out.onlyM hon (by have := Z_1.out; have := Z_2.out; have := Z_4.out; have := Z_7.out; have := Z_11.out; have := Z_16.out; have := Z_22.out; have := Z_29.out; have := Z_37.out; have := Z_45.out; have := Z_54.out; have := Z_62.out; have := Z_70.out; omega)
  have S_73 : Hid (PoOwn w12 w1.heap.size w2.heap.size rS mS vS hS Q) := S_65.out.onlyM hon (by have := Z_1.out; have := Z_2.out; have := Z_4.out; have := Z_7.out; have := Z_11.out; have := Z_16.out; have := Z_22.out; have := Z_29.out; have := Z_37.out; have := Z_45.out; have := Z_54.out; have := Z_62.out; have := Z_70.out; omega)
  have QS_74 : Hid (BoxAt w12 w2.heap.size #[.slice rS Q.P.k crS, .slice mS Q.P.m cmS, .int .i64 Q.P.b, .int .i64 Q.vb, .slice vS Q.nv cvS, .slice hS Q.nh chS, .int .i64 Q.cd] 38) := QS_66.out.onlyM hon (by have := Z_1.out; have := Z_2.out; have := Z_4.out; have := Z_7.out; have := Z_11.out; have := Z_16.out; have := Z_22.out; have := Z_29.out; have := Z_37.out; have := Z_45.out; have := Z_54.out; have := Z_62.out; have := Z_70.out; omega)
  have QG_75 : Hid (BoxAt w12 w5.heap.size #[.slice rG Q.P.k crG, .slice mG Q.P.m cmG, .int .i64 Q.P.b, .int .i64 Q.vb, .slice vG Q.nv cvG, .slice hG Q.nh chG, .int .i64 Q.cd] 38) := QG_68.out.onlyM hon (by have := Z_1.out; have := Z_2.out; have := Z_4.out; have := Z_7.out; have := Z_11.out; have := Z_16.out; have := Z_22.out; have := Z_29.out; have := Z_37.out; have := Z_45.out; have := Z_54.out; have := Z_62.out; have := Z_70.out; omega)
  have Y_76 : Hid (RowsOwn w12 w7.heap.size w8.heap.size rY k n f) := Y_69.out.onlyM hon (by have := Z_1.out; have := Z_2.out; have := Z_4.out; have := Z_7.out; have := Z_11.out; have := Z_16.out; have := Z_22.out; have := Z_29.out; have := Z_37.out; have := Z_45.out; have := Z_54.out; have := Z_62.out; have := Z_70.out; omega)
  clear B_63 T_64 S_65 QS_66 QG_68 Y_69
  clear G_67 hon hsl
  obtain ⟨kG, hKG⟩ : ∃ kG : Int, ((1 + totC Q.P.n Q.P.k * 3 + Q.P.m + Q.nv + Q.nh : Nat) : Int) = kG := ⟨_, rfl⟩
  have HKG : Hid (((1 + totC Q.P.n Q.P.k * 3 + Q.P.m + Q.nv + Q.nh : Nat) : Int) = kG) := hKG
  rw [hKG]
  have hkG : ¬ kG < 0 := by omega
  clear hKG
  have CH := heldPo_any rG mG vG hG crG cmG cvG chG Q w12 hQ G_m.out.read
  rw [HKG.out] at CH
  have cQS0 : w12.cell? ⟨w2.heap.size, 0, none⟩ = some (.slice rS Q.P.k crS) := QS_74.out.cell 0 _ rfl
  have cQS1 : w12.cell? ⟨w2.heap.size, 1, none⟩ = some (.slice mS Q.P.m cmS) := QS_74.out.cell 1 _ rfl
  have cQS2 : w12.cell? ⟨w2.heap.size, 2, none⟩ = some (.int .i64 Q.P.b) := QS_74.out.cell 2 _ rfl
  have cQS3 : w12.cell? ⟨w2.heap.size, 3, none⟩ = some (.int .i64 Q.vb) := QS_74.out.cell 3 _ rfl
  have cQS4 : w12.cell? ⟨w2.heap.size, 4, none⟩ = some (.slice vS Q.nv cvS) := QS_74.out.cell 4 _ rfl
  have cQS5 : w12.cell? ⟨w2.heap.size, 5, none⟩ = some (.slice hS Q.nh chS) := QS_74.out.cell 5 _ rfl
  have cQS6 : w12.cell? ⟨w2.heap.size, 6, none⟩ = some (.int .i64 Q.cd) := QS_74.out.cell 6 _ rfl
  have lQS := QS_74.out.lt
  have cQG0 : w12.cell? ⟨w5.heap.size, 0, none⟩ = some (.slice rG Q.P.k crG) := QG_75.out.cell 0 _ rfl
  have cQG1 : w12.cell? ⟨w5.heap.size, 1, none⟩ = some (.slice mG Q.P.m cmG) := QG_75.out.cell 1 _ rfl
  have cQG2 : w12.cell? ⟨w5.heap.size, 2, none⟩ = some (.int .i64 Q.P.b) := QG_75.out.cell 2 _ rfl
  have cQG3 : w12.cell? ⟨w5.heap.size, 3, none⟩ = some (.int .i64 Q.vb) := QG_75.out.cell 3 _ rfl
  have cQG4 : w12.cell? ⟨w5.heap.size, 4, none⟩ = some (.slice vG Q.nv cvG) := QG_75.out.cell 4 _ rfl
  have cQG5 : w12.cell? ⟨w5.heap.size, 5, none⟩ = some (.slice hG Q.nh chG) := QG_75.out.cell 5 _ rfl
  have cQG6 : w12.cell? ⟨w5.heap.size, 6, none⟩ = some (.int .i64 Q.cd) := QG_75.out.cell 6 _ rfl
  have lQG := QG_75.out.lt
  go_wp2_with fail
  refine (CH).mono ?_
  clear cQS0 cQS1 cQS2 cQS3 cQS4 cQS5 cQS6 lQS cQG0 cQG1 cQG2 cQG3 cQG4 cQG5 cQG6 lQG
  rintro e w13 ⟨rfl, hb⟩
  clear CH
  have Z_77 : Hid (w12.heap.size ≤ w13.heap.size) := hb.size
  have B_78 : Hid (Below w.heap.size w w13) := B_71.out.trans (hb.mono B_71.out.size)
  have T_79 : Hid (RowsOwn w13 w0.heap.size w1.heap.size rT k n f) := T_72.out.kept hb
  have S_80 : Hid (PoOwn w13 w1.heap.size w2.heap.size rS mS vS hS Q) := S_73.out.kept hb
  have QS_81 : Hid (BoxAt w13 w2.heap.size #[.slice rS Q.P.k crS, .slice mS Q.P.m cmS, .int .i64 Q.P.b, .int .i64 Q.vb, .slice vS Q.nv cvS, .slice hS Q.nh chS, .int .i64 Q.cd] 38) := QS_74.out.kept hb
  have G_82 : Hid (PoOwn w13 w4.heap.size w5.heap.size rG mG vG hG (Q.marked 1)) := G_m.out.kept hb
  have QG_83 : Hid (BoxAt w13 w5.heap.size #[.slice rG Q.P.k crG, .slice mG Q.P.m cmG, .int .i64 Q.P.b, .int .i64 Q.vb, .slice vG Q.nv cvG, .slice hG Q.nh chG, .int .i64 Q.cd] 38) := QG_75.out.kept hb
  have Y_84 : Hid (RowsOwn w13 w7.heap.size w8.heap.size rY k n f) := Y_76.out.kept hb
  clear B_71 T_72 S_73 QS_74 G_m QG_75 Y_76
  clear hb
  have cQS0 : w13.cell? ⟨w2.heap.size, 0, none⟩ = some (.slice rS Q.P.k crS) := QS_81.out.cell 0 _ rfl
  have cQS1 : w13.cell? ⟨w2.heap.size, 1, none⟩ = some (.slice mS Q.P.m cmS) := QS_81.out.cell 1 _ rfl
  have cQS2 : w13.cell? ⟨w2.heap.size, 2, none⟩ = some (.int .i64 Q.P.b) := QS_81.out.cell 2 _ rfl
  have cQS3 : w13.cell? ⟨w2.heap.size, 3, none⟩ = some (.int .i64 Q.vb) := QS_81.out.cell 3 _ rfl
  have cQS4 : w13.cell? ⟨w2.heap.size, 4, none⟩ = some (.slice vS Q.nv cvS) := QS_81.out.cell 4 _ rfl
  have cQS5 : w13.cell? ⟨w2.heap.size, 5, none⟩ = some (.slice hS Q.nh chS) := QS_81.out.cell 5 _ rfl
  have cQS6 : w13.cell? ⟨w2.heap.size, 6, none⟩ = some (.int .i64 Q.cd) := QS_81.out.cell 6 _ rfl
  have lQS := QS_81.out.lt
  have cQG0 : w13.cell? ⟨w5.heap.size, 0, none⟩ = some (.slice rG Q.P.k crG) := QG_83.out.cell 0 _ rfl
  have cQG1 : w13.cell? ⟨w5.heap.size, 1, none⟩ = some (.slice mG Q.P.m cmG) := QG_83.out.cell 1 _ rfl
  have cQG2 : w13.cell? ⟨w5.heap.size, 2, none⟩ = some (.int .i64 Q.P.b) := QG_83.out.cell 2 _ rfl
  have cQG3 : w13.cell? ⟨w5.heap.size, 3, none⟩ = some (.int .i64 Q.vb) := QG_83.out.cell 3 _ rfl
  have cQG4 : w13.cell? ⟨w5.heap.size, 4, none⟩ = some (.slice vG Q.nv cvG) := QG_83.out.cell 4 _ rfl
  have cQG5 : w13.cell? ⟨w5.heap.size, 5, none⟩ = some (.slice hG Q.nh chG) := QG_83.out.cell 5 _ rfl
  have cQG6 : w13.cell? ⟨w5.heap.size, 6, none⟩ = some (.int .i64 Q.cd) := QG_83.out.cell 6 _ rfl
  have lQG := QG_83.out.lt
  go_wp2_with fail
  refine (toRows_any sr k cr n f w13 hk HN.out (HR.out.late B_78.out)).mono ?_
  clear cQS0 cQS1 cQS2 cQS3 cQS4 cQS5 cQS6 lQS cQG0 cQG1 cQG2 cQG3 cQG4 cQG5 cQG6 lQG
  rintro e w14 ⟨rV, crV, rfl, hb, ho⟩
  have V_n : Hid (RowsOwn w14 w13.heap.size w14.heap.size rV k n f) := ho
  clear ho
  have Z_85 : Hid (w13.heap.size ≤ w14.heap.size) := hb.size
  have B_86 : Hid (Below w.heap.size w w14) := B_78.out.trans (hb.mono B_78.out.size)
  have T_87 : Hid (RowsOwn w14 w0.heap.size w1.heap.size rT k n f) := T_79.out.kept hb
  have S_88 : Hid (PoOwn w14 w1.heap.size w2.heap.size rS mS vS hS Q) := S_80.out.kept hb
  have QS_89 : Hid (BoxAt w14 w2.heap.size #[.slice rS Q.P.k crS, .slice mS Q.P.m cmS, .int .i64 Q.P.b, .int .i64 Q.vb, .slice vS Q.nv cvS, .slice hS Q.nh chS, .int .i64 Q.cd] 38) := QS_81.out.kept hb
  have G_90 : Hid (PoOwn w14 w4.heap.size w5.heap.size rG mG vG hG (Q.marked 1)) := G_82.out.kept hb
  have QG_91 : Hid (BoxAt w14 w5.heap.size #[.slice rG Q.P.k crG, .slice mG Q.P.m cmG, .int .i64 Q.P.b, .int .i64 Q.vb, .slice vG Q.nv cvG, .slice hG Q.nh chG, .int .i64 Q.cd] 38) := QG_83.out.kept hb
  have Y_92 : Hid (RowsOwn w14 w7.heap.size w8.heap.size rY k n f) := Y_84.out.kept hb
  clear B_78 T_79 S_80 QS_81 G_82 QG_83 Y_84
  clear hb
  have cQS0 : w14.cell? ⟨w2.heap.size, 0, none⟩ = some (.slice rS Q.P.k crS) := QS_89.out.cell 0 _ rfl
  have cQS1 : w14.cell? ⟨w2.heap.size, 1, none⟩ = some (.slice mS Q.P.m cmS) := QS_89.out.cell 1 _ rfl
  have cQS2 : w14.cell? ⟨w2.heap.size, 2, none⟩ = some (.int .i64 Q.P.b) := QS_89.out.cell 2 _ rfl
  have cQS3 : w14.cell? ⟨w2.heap.size, 3, none⟩ = some (.int .i64 Q.vb) := QS_89.out.cell 3 _ rfl
  have cQS4 : w14.cell? ⟨w2.heap.size, 4, none⟩ = some (.slice vS Q.nv cvS) := QS_89.out.cell 4 _ rfl
  have cQS5 : w14.cell? ⟨w2.heap.size, 5, none⟩ = some (.slice hS Q.nh chS) := QS_89.out.cell 5 _ rfl
  have cQS6 : w14.cell? ⟨w2.heap.size, 6, none⟩ = some (.int .i64 Q.cd) := QS_89.out.cell 6 _ rfl
  have lQS := QS_89.out.lt
  have cQG0 : w14.cell? ⟨w5.heap.size, 0, none⟩ = some (.slice rG Q.P.k crG) := QG_91.out.cell 0 _ rfl
  have cQG1 : w14.cell? ⟨w5.heap.size, 1, none⟩ = some (.slice mG Q.P.m cmG) := QG_91.out.cell 1 _ rfl
  have cQG2 : w14.cell? ⟨w5.heap.size, 2, none⟩ = some (.int .i64 Q.P.b) := QG_91.out.cell 2 _ rfl
  have cQG3 : w14.cell? ⟨w5.heap.size, 3, none⟩ = some (.int .i64 Q.vb) := QG_91.out.cell 3 _ rfl
  have cQG4 : w14.cell? ⟨w5.heap.size, 4, none⟩ = some (.slice vG Q.nv cvG) := QG_91.out.cell 4 _ rfl
  have cQG5 : w14.cell? ⟨w5.heap.size, 5, none⟩ = some (.slice hG Q.nh chG) := QG_91.out.cell 5 _ rfl
  have cQG6 : w14.cell? ⟨w5.heap.size, 6, none⟩ = some (.int .i64 Q.cd) := QG_91.out.cell 6 _ rfl
  have lQG := QG_91.out.lt
  go_wp2_with fail
  refine (HI.out w14 _ _ V_n.out.read).mono ?_
  clear cQS0 cQS1 cQS2 cQS3 cQS4 cQS5 cQS6 lQS cQG0 cQG1 cQG2 cQG3 cQG4 cQG5 cQG6 lQG
  rintro e w15 ⟨rH, mH, vH, hH, crH, cmH, cvH, chH, rfl, hb, ho⟩
  have H_n : Hid (PoOwn w15 w14.heap.size w15.heap.size rH mH vH hH Q) := ho
  clear ho
  have Z_93 : Hid (w14.heap.size ≤ w15.heap.size) := hb.size
  have B_94 : Hid (Below w.heap.size w w15) := B_86.out.trans (hb.mono B_86.out.size)
  have T_95 : Hid (RowsOwn w15 w0.heap.size w1.heap.size rT k n f) := T_87.out.kept hb
  have S_96 : Hid (PoOwn w15 w1.heap.size w2.heap.size rS mS vS hS Q) := S_88.out.kept hb
  have QS_97 : Hid (BoxAt w15 w2.heap.size #[.slice rS Q.P.k crS, .slice mS Q.P.m cmS, .int .i64 Q.P.b, .int .i64 Q.vb, .slice vS Q.nv cvS, .slice hS Q.nh chS, .int .i64 Q.cd] 38) := QS_89.out.kept hb
  have G_98 : Hid (PoOwn w15 w4.heap.size w5.heap.size rG mG vG hG (Q.marked 1)) := G_90.out.kept hb
  have QG_99 : Hid (BoxAt w15 w5.heap.size #[.slice rG Q.P.k crG, .slice mG Q.P.m cmG, .int .i64 Q.P.b, .int .i64 Q.vb, .slice vG Q.nv cvG, .slice hG Q.nh chG, .int .i64 Q.cd] 38) := QG_91.out.kept hb
  have Y_100 : Hid (RowsOwn w15 w7.heap.size w8.heap.size rY k n f) := Y_92.out.kept hb
  have V_101 : Hid (RowsOwn w15 w13.heap.size w14.heap.size rV k n f) := V_n.out.kept hb
  clear B_86 T_87 S_88 QS_89 G_90 QG_91 Y_92 V_n
  clear hb
  have cQS0 : w15.cell? ⟨w2.heap.size, 0, none⟩ = some (.slice rS Q.P.k crS) := QS_97.out.cell 0 _ rfl
  have cQS1 : w15.cell? ⟨w2.heap.size, 1, none⟩ = some (.slice mS Q.P.m cmS) := QS_97.out.cell 1 _ rfl
  have cQS2 : w15.cell? ⟨w2.heap.size, 2, none⟩ = some (.int .i64 Q.P.b) := QS_97.out.cell 2 _ rfl
  have cQS3 : w15.cell? ⟨w2.heap.size, 3, none⟩ = some (.int .i64 Q.vb) := QS_97.out.cell 3 _ rfl
  have cQS4 : w15.cell? ⟨w2.heap.size, 4, none⟩ = some (.slice vS Q.nv cvS) := QS_97.out.cell 4 _ rfl
  have cQS5 : w15.cell? ⟨w2.heap.size, 5, none⟩ = some (.slice hS Q.nh chS) := QS_97.out.cell 5 _ rfl
  have cQS6 : w15.cell? ⟨w2.heap.size, 6, none⟩ = some (.int .i64 Q.cd) := QS_97.out.cell 6 _ rfl
  have lQS := QS_97.out.lt
  have cQG0 : w15.cell? ⟨w5.heap.size, 0, none⟩ = some (.slice rG Q.P.k crG) := QG_99.out.cell 0 _ rfl
  have cQG1 : w15.cell? ⟨w5.heap.size, 1, none⟩ = some (.slice mG Q.P.m cmG) := QG_99.out.cell 1 _ rfl
  have cQG2 : w15.cell? ⟨w5.heap.size, 2, none⟩ = some (.int .i64 Q.P.b) := QG_99.out.cell 2 _ rfl
  have cQG3 : w15.cell? ⟨w5.heap.size, 3, none⟩ = some (.int .i64 Q.vb) := QG_99.out.cell 3 _ rfl
  have cQG4 : w15.cell? ⟨w5.heap.size, 4, none⟩ = some (.slice vG Q.nv cvG) := QG_99.out.cell 4 _ rfl
  have cQG5 : w15.cell? ⟨w5.heap.size, 5, none⟩ = some (.slice hG Q.nh chG) := QG_99.out.cell 5 _ rfl
  have cQG6 : w15.cell? ⟨w5.heap.size, 6, none⟩ = some (.int .i64 Q.cd) := QG_99.out.cell 6 _ rfl
  have lQG := QG_99.out.lt
  go_wp2_with fail
  clear cQS0 cQS1 cQS2 cQS3 cQS4 cQS5 cQS6 lQS cQG0 cQG1 cQG2 cQG3 cQG4 cQG5 cQG6 lQG
  have hq := boxAt_new w15 #[.slice rH Q.P.k crH, .slice mH Q.P.m cmH, .int .i64 Q.P.b, .int .i64 Q.vb, .slice vH Q.nv cvH, .slice hH Q.nh chH, .int .i64 Q.cd] 38
  generalize w15.alloc (.cells #[.slice rH Q.P.k crH, .slice mH Q.P.m cmH, .int .i64 Q.P.b, .int .i64 Q.vb, .slice vH Q.nv cvH, .slice hH Q.nh chH, .int .i64 Q.cd] 38) = v16 at *
  obtain ⟨hb, hx, hz9⟩ := hq
  have Z_102 : Hid (v16.heap.size = w15.heap.size + 1) := hz9
  have B_103 : Hid (Below w.heap.size w v16) := B_94.out.trans (hb.mono B_94.out.size)
  have T_104 : Hid (RowsOwn v16 w0.heap.size w1.heap.size rT k n f) := T_95.out.kept hb
  have S_105 : Hid (PoOwn v16 w1.heap.size w2.heap.size rS mS vS hS Q) := S_96.out.kept hb
  have QS_106 : Hid (BoxAt v16 w2.heap.size #[.slice rS Q.P.k crS, .slice mS Q.P.m cmS, .int .i64 Q.P.b, .int .i64 Q.vb, .slice vS Q.nv cvS, .slice hS Q.nh chS, .int .i64 Q.cd] 38) := QS_97.out.kept hb
  have G_107 : Hid (PoOwn v16 w4.heap.size w5.heap.size rG mG vG hG (Q.marked 1)) := G_98.out.kept hb
  have QG_108 : Hid (BoxAt v16 w5.heap.size #[.slice rG Q.P.k crG, .slice mG Q.P.m cmG, .int .i64 Q.P.b, .int .i64 Q.vb, .slice vG Q.nv cvG, .slice hG Q.nh chG, .int .i64 Q.cd] 38) := QG_99.out.kept hb
  have Y_109 : Hid (RowsOwn v16 w7.heap.size w8.heap.size rY k n f) := Y_100.out.kept hb
  have V_110 : Hid (RowsOwn v16 w13.heap.size w14.heap.size rV k n f) := V_101.out.kept hb
  have H_111 : Hid (PoOwn v16 w14.heap.size w15.heap.size rH mH vH hH Q) := H_n.out.kept hb
  clear B_94 T_95 S_96 QS_97 G_98 QG_99 Y_100 V_101 H_n
  have QH_n : Hid (BoxAt v16 w15.heap.size #[.slice rH Q.P.k crH, .slice mH Q.P.m cmH, .int .i64 Q.P.b, .int .i64 Q.vb, .slice vH Q.nv cvH, .slice hH Q.nh chH, .int .i64 Q.cd] 38) := hx
  clear hb hx hz9
  refine (eqPo_same _ _ _ _ _ _ _ _ _ _ _ _ _ _ _ _ Q v16 hQ H_111.out.read S_105.out.read).mono ?_
  rintro e w17 ⟨rfl, hb⟩
  have Z_112 : Hid (v16.heap.size ≤ w17.heap.size) := hb.size
  have B_113 : Hid (Below w.heap.size w w17) := B_103.out.trans (hb.mono B_103.out.size)
  have T_114 : Hid (RowsOwn w17 w0.heap.size w1.heap.size rT k n f) := T_104.out.kept hb
  have S_115 : Hid (PoOwn w17 w1.heap.size w2.heap.size rS mS vS hS Q) := S_105.out.kept hb
  have QS_116 : Hid (BoxAt w17 w2.heap.size #[.slice rS Q.P.k crS, .slice mS Q.P.m cmS, .int .i64 Q.P.b, .int .i64 Q.vb, .slice vS Q.nv cvS, .slice hS Q.nh chS, .int .i64 Q.cd] 38) := QS_106.out.kept hb
  have G_117 : Hid (PoOwn w17 w4.heap.size w5.heap.size rG mG vG hG (Q.marked 1)) := G_107.out.kept hb
  have QG_118 : Hid (BoxAt w17 w5.heap.size #[.slice rG Q.P.k crG, .slice mG Q.P.m cmG, .int .i64 Q.P.b, .int .i64 Q.vb, .slice vG Q.nv cvG, .slice hG Q.nh chG, .int .i64 Q.cd] 38) := QG_108.out.kept hb
  have Y_119 : Hid (RowsOwn w17 w7.heap.size w8.heap.size rY k n f) := Y_109.out.kept hb
  have V_120 : Hid (RowsOwn w17 w13.heap.size w14.heap.size rV k n f) := V_110.out.kept hb
  have H_121 : Hid (PoOwn w17 w14.heap.size w15.heap.size rH mH vH hH Q) := H_111.out.kept hb
  have QH_122 : Hid (BoxAt w17 w15.heap.size #[.slice rH Q.P.k crH, .slice mH Q.P.m cmH, .int .i64 Q.P.b, .int .i64 Q.vb, .slice vH Q.nv cvH, .slice hH Q.nh chH, .int .i64 Q.cd] 38) := QH_n.out.kept hb
  clear B_103 T_104 S_105 QS_106 G_107 QG_108 Y_109 V_110 H_111 QH_n
  clear hb
  have CH := heldPo_any rG mG vG hG crG cmG cvG chG Q w17 hQ G_117.out.read
  rw [HKG.out] at CH
  have cQS0 : w17.cell? ⟨w2.heap.size, 0, none⟩ = some (.slice rS Q.P.k crS) := QS_116.out.cell 0 _ rfl
  have cQS1 : w17.cell? ⟨w2.heap.size, 1, none⟩ = some (.slice mS Q.P.m cmS) := QS_116.out.cell 1 _ rfl
  have cQS2 : w17.cell? ⟨w2.heap.size, 2, none⟩ = some (.int .i64 Q.P.b) := QS_116.out.cell 2 _ rfl
  have cQS3 : w17.cell? ⟨w2.heap.size, 3, none⟩ = some (.int .i64 Q.vb) := QS_116.out.cell 3 _ rfl
  have cQS4 : w17.cell? ⟨w2.heap.size, 4, none⟩ = some (.slice vS Q.nv cvS) := QS_116.out.cell 4 _ rfl
  have cQS5 : w17.cell? ⟨w2.heap.size, 5, none⟩ = some (.slice hS Q.nh chS) := QS_116.out.cell 5 _ rfl
  have cQS6 : w17.cell? ⟨w2.heap.size, 6, none⟩ = some (.int .i64 Q.cd) := QS_116.out.cell 6 _ rfl
  have lQS := QS_116.out.lt
  have cQG0 : w17.cell? ⟨w5.heap.size, 0, none⟩ = some (.slice rG Q.P.k crG) := QG_118.out.cell 0 _ rfl
  have cQG1 : w17.cell? ⟨w5.heap.size, 1, none⟩ = some (.slice mG Q.P.m cmG) := QG_118.out.cell 1 _ rfl
  have cQG2 : w17.cell? ⟨w5.heap.size, 2, none⟩ = some (.int .i64 Q.P.b) := QG_118.out.cell 2 _ rfl
  have cQG3 : w17.cell? ⟨w5.heap.size, 3, none⟩ = some (.int .i64 Q.vb) := QG_118.out.cell 3 _ rfl
  have cQG4 : w17.cell? ⟨w5.heap.size, 4, none⟩ = some (.slice vG Q.nv cvG) := QG_118.out.cell 4 _ rfl
  have cQG5 : w17.cell? ⟨w5.heap.size, 5, none⟩ = some (.slice hG Q.nh chG) := QG_118.out.cell 5 _ rfl
  have cQG6 : w17.cell? ⟨w5.heap.size, 6, none⟩ = some (.int .i64 Q.cd) := QG_118.out.cell 6 _ rfl
  have lQG := QG_118.out.lt
  have cQH0 : w17.cell? ⟨w15.heap.size, 0, none⟩ = some (.slice rH Q.P.k crH) := QH_122.out.cell 0 _ rfl
  have cQH1 : w17.cell? ⟨w15.heap.size, 1, none⟩ = some (.slice mH Q.P.m cmH) := QH_122.out.cell 1 _ rfl
  have cQH2 : w17.cell? ⟨w15.heap.size, 2, none⟩ = some (.int .i64 Q.P.b) := QH_122.out.cell 2 _ rfl
  have cQH3 : w17.cell? ⟨w15.heap.size, 3, none⟩ = some (.int .i64 Q.vb) := QH_122.out.cell 3 _ rfl
  have cQH4 : w17.cell? ⟨w15.heap.size, 4, none⟩ = some (.slice vH Q.nv cvH) := QH_122.out.cell 4 _ rfl
  have cQH5 : w17.cell? ⟨w15.heap.size, 5, none⟩ = some (.slice hH Q.nh chH) := QH_122.out.cell 5 _ rfl
  have cQH6 : w17.cell? ⟨w15.heap.size, 6, none⟩ = some (.int .i64 Q.cd) := QH_122.out.cell 6 _ rfl
  have lQH := QH_122.out.lt
  go_wp2_with fail
  refine (CH).mono ?_
  clear cQS0 cQS1 cQS2 cQS3 cQS4 cQS5 cQS6 lQS cQG0 cQG1 cQG2 cQG3 cQG4 cQG5 cQG6 lQG cQH0 cQH1 cQH2 cQH3 cQH4 cQH5 cQH6 lQH
  rintro e w18 ⟨rfl, hb⟩
  clear CH
  have Z_123 : Hid (w17.heap.size ≤ w18.heap.size) := hb.size
  have B_124 : Hid (Below w.heap.size w w18) := B_113.out.trans (hb.mono B_113.out.size)
  have T_125 : Hid (RowsOwn w18 w0.heap.size w1.heap.size rT k n f) := T_114.out.kept hb
  have S_126 : Hid (PoOwn w18 w1.heap.size w2.heap.size rS mS vS hS Q) := S_115.out.kept hb
  have QS_127 : Hid (BoxAt w18 w2.heap.size #[.slice rS Q.P.k crS, .slice mS Q.P.m cmS, .int .i64 Q.P.b, .int .i64 Q.vb, .slice vS Q.nv cvS, .slice hS Q.nh chS, .int .i64 Q.cd] 38) := QS_116.out.kept hb
  have G_128 : Hid (PoOwn w18 w4.heap.size w5.heap.size rG mG vG hG (Q.marked 1)) := G_117.out.kept hb
  have QG_129 : Hid (BoxAt w18 w5.heap.size #[.slice rG Q.P.k crG, .slice mG Q.P.m cmG, .int .i64 Q.P.b, .int .i64 Q.vb, .slice vG Q.nv cvG, .slice hG Q.nh chG, .int .i64 Q.cd] 38) := QG_118.out.kept hb
  have Y_130 : Hid (RowsOwn w18 w7.heap.size w8.heap.size rY k n f) := Y_119.out.kept hb
  have V_131 : Hid (RowsOwn w18 w13.heap.size w14.heap.size rV k n f) := V_120.out.kept hb
  have H_132 : Hid (PoOwn w18 w14.heap.size w15.heap.size rH mH vH hH Q) := H_121.out.kept hb
  have QH_133 : Hid (BoxAt w18 w15.heap.size #[.slice rH Q.P.k crH, .slice mH Q.P.m cmH, .int .i64 Q.P.b, .int .i64 Q.vb, .slice vH Q.nv cvH, .slice hH Q.nh chH, .int .i64 Q.cd] 38) := QH_122.out.kept hb
  clear B_113 T_114 S_115 QS_116 G_117 QG_118 Y_119 V_120 H_121 QH_122
  clear hb
  have cQS0 : w18.cell? ⟨w2.heap.size, 0, none⟩ = some (.slice rS Q.P.k crS) := QS_127.out.cell 0 _ rfl
  have cQS1 : w18.cell? ⟨w2.heap.size, 1, none⟩ = some (.slice mS Q.P.m cmS) := QS_127.out.cell 1 _ rfl
  have cQS2 : w18.cell? ⟨w2.heap.size, 2, none⟩ = some (.int .i64 Q.P.b) := QS_127.out.cell 2 _ rfl
  have cQS3 : w18.cell? ⟨w2.heap.size, 3, none⟩ = some (.int .i64 Q.vb) := QS_127.out.cell 3 _ rfl
  have cQS4 : w18.cell? ⟨w2.heap.size, 4, none⟩ = some (.slice vS Q.nv cvS) := QS_127.out.cell 4 _ rfl
  have cQS5 : w18.cell? ⟨w2.heap.size, 5, none⟩ = some (.slice hS Q.nh chS) := QS_127.out.cell 5 _ rfl
  have cQS6 : w18.cell? ⟨w2.heap.size, 6, none⟩ = some (.int .i64 Q.cd) := QS_127.out.cell 6 _ rfl
  have lQS := QS_127.out.lt
  have cQG0 : w18.cell? ⟨w5.heap.size, 0, none⟩ = some (.slice rG Q.P.k crG) := QG_129.out.cell 0 _ rfl
  have cQG1 : w18.cell? ⟨w5.heap.size, 1, none⟩ = some (.slice mG Q.P.m cmG) := QG_129.out.cell 1 _ rfl
  have cQG2 : w18.cell? ⟨w5.heap.size, 2, none⟩ = some (.int .i64 Q.P.b) := QG_129.out.cell 2 _ rfl
  have cQG3 : w18.cell? ⟨w5.heap.size, 3, none⟩ = some (.int .i64 Q.vb) := QG_129.out.cell 3 _ rfl
  have cQG4 : w18.cell? ⟨w5.heap.size, 4, none⟩ = some (.slice vG Q.nv cvG) := QG_129.out.cell 4 _ rfl
  have cQG5 : w18.cell? ⟨w5.heap.size, 5, none⟩ = some (.slice hG Q.nh chG) := QG_129.out.cell 5 _ rfl
  have cQG6 : w18.cell? ⟨w5.heap.size, 6, none⟩ = some (.int .i64 Q.cd) := QG_129.out.cell 6 _ rfl
  have lQG := QG_129.out.lt
  have cQH0 : w18.cell? ⟨w15.heap.size, 0, none⟩ = some (.slice rH Q.P.k crH) := QH_133.out.cell 0 _ rfl
  have cQH1 : w18.cell? ⟨w15.heap.size, 1, none⟩ = some (.slice mH Q.P.m cmH) := QH_133.out.cell 1 _ rfl
  have cQH2 : w18.cell? ⟨w15.heap.size, 2, none⟩ = some (.int .i64 Q.P.b) := QH_133.out.cell 2 _ rfl
  have cQH3 : w18.cell? ⟨w15.heap.size, 3, none⟩ = some (.int .i64 Q.vb) := QH_133.out.cell 3 _ rfl
  have cQH4 : w18.cell? ⟨w15.heap.size, 4, none⟩ = some (.slice vH Q.nv cvH) := QH_133.out.cell 4 _ rfl
  have cQH5 : w18.cell? ⟨w15.heap.size, 5, none⟩ = some (.slice hH Q.nh chH) := QH_133.out.cell 5 _ rfl
  have cQH6 : w18.cell? ⟨w15.heap.size, 6, none⟩ = some (.int .i64 Q.cd) := QH_133.out.cell 6 _ rfl
  have lQH := QH_133.out.lt
  go_wp2_with fail
  go_ret
  exact ⟨rfl, B_124.out⟩
end Go.Proofs.Ytbdjjggaahjjpaa
