/- What is proved here: the law of PackByte walks to true, where the specification's function and the program's hand back the same in new memory; nothing that was there turns. -/
import Derived.Test.YtbdjjggaahjjpaaQPkHW
import Derived.Test.YtbdjjggaahjjpaaQVecEqWToBoxAtM
import Derived.Deep.RegionHeld3
namespace Go.Proofs.Ytbdjjggaahjjpaa
open Go.RowKit

set_option maxRecDepth 100000 in
set_option maxHeartbeats 8000000 in
theorem law_PackByte (sr sm : Option Addr) (cr cm : Nat) (P : Pk) (en : Int) (bo : Bool) (ro : Int) (rn : Nat) (rf : Nat → Int) (w : World) (hk : P.k ≤ maxLen) (hm : P.m ≤ maxLen) (hr : PkRead w sr sm P) (hn : ∀ i, i < P.k → P.n i ≤ maxLen) (hc : ∀ i, i < P.k → ∀ j, j < P.n i → (P.f i j).c.size ≤ maxLen) (hrn : rn ≤ 1048576)
    (hs : ∀ (W : World) (x y : Option Addr) (cx cy : Nat), PkRead W x y P → Calls Try.prog 27 #[.agg #[.slice x P.k cx, .slice y P.m cy, .int .i64 P.b], .int .i64 en, .bool bo] W fun e W' => NewVec W ro rn rf e W')
    (hi : ∀ (W : World) (x y : Option Addr) (cx cy : Nat), PkRead W x y P → Calls Try.prog 28 #[.agg #[.slice x P.k cx, .slice y P.m cy, .int .i64 P.b], .int .i64 en, .bool bo] W fun e W' => NewVec W ro rn rf e W') :
    Calls Try.prog 6 #[.agg #[.slice sr P.k cr, .slice sm P.m cm, .int .i64 P.b], .int .i64 en, .bool bo] w fun e w' => e = .returned (.bool true) ∧ Below w.heap.size w w' := by
  have HS : Hid (∀ (W : World) (x y : Option Addr) (cx cy : Nat), PkRead W x y P → Calls Try.prog 27 #[.agg #[.slice x P.k cx, .slice y P.m cy, .int .i64 P.b], .int .i64 en, .bool bo] W fun e W' => NewVec W ro rn rf e W') := hs
  have HI : Hid (∀ (W : World) (x y : Option Addr) (cx cy : Nat), PkRead W x y P → Calls Try.prog 28 #[.agg #[.slice x P.k cx, .slice y P.m cy, .int .i64 P.b], .int .i64 en, .bool bo] W fun e W' => NewVec W ro rn rf e W') := hi
  clear hs hi
  have HR : Hid (PkRead w sr sm P) := hr
  obtain ⟨hb, hx, hz9⟩ := boxAt_new w #[.slice sr P.k cr, .slice sm P.m cm, .int .i64 P.b] 25
  have CZ := szPack_any sr sm cr cm P (w.alloc (.cells #[.slice sr P.k cr, .slice sm P.m cm, .int .i64 P.b] 25)) hk hm (hr.late hb) hn hc
  have B_0 : Hid (Below w.heap.size w (w.alloc (.cells #[.slice sr P.k cr, .slice sm P.m cm, .int .i64 P.b] 25))) := hb
  have A_0 : Hid (BoxAt (w.alloc (.cells #[.slice sr P.k cr, .slice sm P.m cm, .int .i64 P.b] 25)) w.heap.size #[.slice sr P.k cr, .slice sm P.m cm, .int .i64 P.b] 25) := hx
  have Z_0 : Hid ((w.alloc (.cells #[.slice sr P.k cr, .slice sm P.m cm, .int .i64 P.b] 25)).heap.size = w.heap.size + 1) := hz9
  clear hb hx hz9 hr hk hm hn hc
  go_enter Try.func6, Try.ntmps6
  go_wp2_with fail
  generalize w.alloc (.cells #[.slice sr P.k cr, .slice sm P.m cm, .int .i64 P.b] 25) = v0 at *
  refine CZ.mono ?_
  clear CZ
  rintro e w0 ⟨⟨z, rfl, hz⟩, hb⟩
  have Z_1 : Hid (v0.heap.size ≤ w0.heap.size) := hb.size
  have B_2 : Hid (Below w.heap.size w w0) := B_0.out.trans (hb.mono B_0.out.size)
  have A_3 : Hid (BoxAt w0 w.heap.size #[.slice sr P.k cr, .slice sm P.m cm, .int .i64 P.b] 25) := A_0.out.kept hb
  clear B_0 A_0
  clear hb
  rcases hz with hz | ⟨hz, hz9, hm, hk, htot, hcs⟩
  · go_wp2_with fail
    go_ret
    exact ⟨rfl, B_2.out⟩
  have hz' : ¬ z < 0 := by omega
  have HT : Hid (totC P.n P.k ≤ 1048576) := htot
  have HN : Hid (∀ i, i < P.k → P.n i ≤ 1048576) := fun i hi => Nat.le_trans (totC_le hi) htot
  clear hcs htot
  have cA0 : w0.cell? ⟨w.heap.size, 0, none⟩ = some (.slice sr P.k cr) := A_3.out.cell 0 _ rfl
  have cA1 : w0.cell? ⟨w.heap.size, 1, none⟩ = some (.slice sm P.m cm) := A_3.out.cell 1 _ rfl
  have cA2 : w0.cell? ⟨w.heap.size, 2, none⟩ = some (.int .i64 P.b) := A_3.out.cell 2 _ rfl
  have lA := A_3.out.lt
  go_wp2_with fail
  refine (toPack_any sr sm cr cm P w0 hk hm HN.out (HR.out.late B_2.out)).mono ?_
  clear cA0 cA1 cA2 lA
  rintro e w1 ⟨rT, mT, crT, cmT, rfl, hb, ho⟩
  have T_n : Hid (PkOwn w1 w0.heap.size w1.heap.size rT mT P) := ho
  clear ho
  have Z_4 : Hid (w0.heap.size ≤ w1.heap.size) := hb.size
  have B_5 : Hid (Below w.heap.size w w1) := B_2.out.trans (hb.mono B_2.out.size)
  have A_6 : Hid (BoxAt w1 w.heap.size #[.slice sr P.k cr, .slice sm P.m cm, .int .i64 P.b] 25) := A_3.out.kept hb
  clear B_2 A_3
  clear hb
  have cA0 : w1.cell? ⟨w.heap.size, 0, none⟩ = some (.slice sr P.k cr) := A_6.out.cell 0 _ rfl
  have cA1 : w1.cell? ⟨w.heap.size, 1, none⟩ = some (.slice sm P.m cm) := A_6.out.cell 1 _ rfl
  have cA2 : w1.cell? ⟨w.heap.size, 2, none⟩ = some (.int .i64 P.b) := A_6.out.cell 2 _ rfl
  have lA := A_6.out.lt
  go_wp2_with fail
  refine (HS.out w1 _ _ _ _ T_n.out.read).mono ?_
  clear cA0 cA1 cA2 lA
  rintro e w2 ⟨sS, cS, rfl, hb, ho⟩
  unfold vecV
  have S_n : Hid (Slice w2 w1.heap.size w2.heap.size sS rn rf) := ho.slice
  clear ho
  have Z_7 : Hid (w1.heap.size ≤ w2.heap.size) := hb.size
  have B_8 : Hid (Below w.heap.size w w2) := B_5.out.trans (hb.mono B_5.out.size)
  have A_9 : Hid (BoxAt w2 w.heap.size #[.slice sr P.k cr, .slice sm P.m cm, .int .i64 P.b] 25) := A_6.out.kept hb
  have T_10 : Hid (PkOwn w2 w0.heap.size w1.heap.size rT mT P) := T_n.out.kept hb
  clear B_5 A_6 T_n
  clear hb
  have cA0 : w2.cell? ⟨w.heap.size, 0, none⟩ = some (.slice sr P.k cr) := A_9.out.cell 0 _ rfl
  have cA1 : w2.cell? ⟨w.heap.size, 1, none⟩ = some (.slice sm P.m cm) := A_9.out.cell 1 _ rfl
  have cA2 : w2.cell? ⟨w.heap.size, 2, none⟩ = some (.int .i64 P.b) := A_9.out.cell 2 _ rfl
  have lA := A_9.out.lt
  go_wp2_with fail
  clear cA0 cA1 cA2 lA
  have hq := boxAt_new w2 #[.int .i64 ro, .slice sS rn cS] 36
  generalize w2.alloc (.cells #[.int .i64 ro, .slice sS rn cS] 36) = v3 at *
  obtain ⟨hb, hx, hz9⟩ := hq
  have Z_11 : Hid (v3.heap.size = w2.heap.size + 1) := hz9
  have B_12 : Hid (Below w.heap.size w v3) := B_8.out.trans (hb.mono B_8.out.size)
  have A_13 : Hid (BoxAt v3 w.heap.size #[.slice sr P.k cr, .slice sm P.m cm, .int .i64 P.b] 25) := A_9.out.kept hb
  have T_14 : Hid (PkOwn v3 w0.heap.size w1.heap.size rT mT P) := T_10.out.kept hb
  have S_15 : Hid (Slice v3 w1.heap.size w2.heap.size sS rn rf) := S_n.out.kept hb rfl
  clear B_8 A_9 T_10 S_n
  have QS_n : Hid (BoxAt v3 w2.heap.size #[.int .i64 ro, .slice sS rn cS] 36) := hx
  clear hb hx hz9
  refine (toPack_any sr sm cr cm P v3 hk hm HN.out (HR.out.late B_12.out)).mono ?_
  rintro e w4 ⟨rX, mX, crX, cmX, rfl, hb, ho⟩
  have X_n : Hid (PkOwn w4 v3.heap.size w4.heap.size rX mX P) := ho
  clear ho
  have Z_16 : Hid (v3.heap.size ≤ w4.heap.size) := hb.size
  have B_17 : Hid (Below w.heap.size w w4) := B_12.out.trans (hb.mono B_12.out.size)
  have A_18 : Hid (BoxAt w4 w.heap.size #[.slice sr P.k cr, .slice sm P.m cm, .int .i64 P.b] 25) := A_13.out.kept hb
  have T_19 : Hid (PkOwn w4 w0.heap.size w1.heap.size rT mT P) := T_14.out.kept hb
  have S_20 : Hid (Slice w4 w1.heap.size w2.heap.size sS rn rf) := S_15.out.kept hb rfl
  have QS_21 : Hid (BoxAt w4 w2.heap.size #[.int .i64 ro, .slice sS rn cS] 36) := QS_n.out.kept hb
  clear B_12 A_13 T_14 S_15 QS_n
  clear hb
  have cA0 : w4.cell? ⟨w.heap.size, 0, none⟩ = some (.slice sr P.k cr) := A_18.out.cell 0 _ rfl
  have cA1 : w4.cell? ⟨w.heap.size, 1, none⟩ = some (.slice sm P.m cm) := A_18.out.cell 1 _ rfl
  have cA2 : w4.cell? ⟨w.heap.size, 2, none⟩ = some (.int .i64 P.b) := A_18.out.cell 2 _ rfl
  have lA := A_18.out.lt
  have cQS0 : w4.cell? ⟨w2.heap.size, 0, none⟩ = some (.int .i64 ro) := QS_21.out.cell 0 _ rfl
  have cQS1 : w4.cell? ⟨w2.heap.size, 1, none⟩ = some (.slice sS rn cS) := QS_21.out.cell 1 _ rfl
  have lQS := QS_21.out.lt
  go_wp2_with fail
  clear cA0 cA1 cA2 lA cQS0 cQS1 lQS
  have hq := boxAt_new w4 #[.slice rX P.k crX, .slice mX P.m cmX, .int .i64 P.b] 30
  generalize w4.alloc (.cells #[.slice rX P.k crX, .slice mX P.m cmX, .int .i64 P.b] 30) = v5 at *
  obtain ⟨hb, hx, hz9⟩ := hq
  have Z_22 : Hid (v5.heap.size = w4.heap.size + 1) := hz9
  have B_23 : Hid (Below w.heap.size w v5) := B_17.out.trans (hb.mono B_17.out.size)
  have A_24 : Hid (BoxAt v5 w.heap.size #[.slice sr P.k cr, .slice sm P.m cm, .int .i64 P.b] 25) := A_18.out.kept hb
  have T_25 : Hid (PkOwn v5 w0.heap.size w1.heap.size rT mT P) := T_19.out.kept hb
  have S_26 : Hid (Slice v5 w1.heap.size w2.heap.size sS rn rf) := S_20.out.kept hb rfl
  have QS_27 : Hid (BoxAt v5 w2.heap.size #[.int .i64 ro, .slice sS rn cS] 36) := QS_21.out.kept hb
  have X_28 : Hid (PkOwn v5 v3.heap.size w4.heap.size rX mX P) := X_n.out.kept hb
  clear B_17 A_18 T_19 S_20 QS_21 X_n
  have QX_n : Hid (BoxAt v5 w4.heap.size #[.slice rX P.k crX, .slice mX P.m cmX, .int .i64 P.b] 30) := hx
  clear hb hx hz9
  refine (HI.out v5 _ _ _ _ X_28.out.read).mono ?_
  rintro e w6 ⟨sG, cG, rfl, hb, ho⟩
  unfold vecV
  have G_n : Hid (Slice w6 v5.heap.size w6.heap.size sG rn rf) := ho.slice
  clear ho
  have Z_29 : Hid (v5.heap.size ≤ w6.heap.size) := hb.size
  have B_30 : Hid (Below w.heap.size w w6) := B_23.out.trans (hb.mono B_23.out.size)
  have A_31 : Hid (BoxAt w6 w.heap.size #[.slice sr P.k cr, .slice sm P.m cm, .int .i64 P.b] 25) := A_24.out.kept hb
  have T_32 : Hid (PkOwn w6 w0.heap.size w1.heap.size rT mT P) := T_25.out.kept hb
  have S_33 : Hid (Slice w6 w1.heap.size w2.heap.size sS rn rf) := S_26.out.kept hb rfl
  have QS_34 : Hid (BoxAt w6 w2.heap.size #[.int .i64 ro, .slice sS rn cS] 36) := QS_27.out.kept hb
  have X_35 : Hid (PkOwn w6 v3.heap.size w4.heap.size rX mX P) := X_28.out.kept hb
  have QX_36 : Hid (BoxAt w6 w4.heap.size #[.slice rX P.k crX, .slice mX P.m cmX, .int .i64 P.b] 30) := QX_n.out.kept hb
  clear B_23 A_24 T_25 S_26 QS_27 X_28 QX_n
  clear hb
  have cA0 : w6.cell? ⟨w.heap.size, 0, none⟩ = some (.slice sr P.k cr) := A_31.out.cell 0 _ rfl
  have cA1 : w6.cell? ⟨w.heap.size, 1, none⟩ = some (.slice sm P.m cm) := A_31.out.cell 1 _ rfl
  have cA2 : w6.cell? ⟨w.heap.size, 2, none⟩ = some (.int .i64 P.b) := A_31.out.cell 2 _ rfl
  have lA := A_31.out.lt
  have cQS0 : w6.cell? ⟨w2.heap.size, 0, none⟩ = some (.int .i64 ro) := QS_34.out.cell 0 _ rfl
  have cQS1 : w6.cell? ⟨w2.heap.size, 1, none⟩ = some (.slice sS rn cS) := QS_34.out.cell 1 _ rfl
  have lQS := QS_34.out.lt
  have cQX0 : w6.cell? ⟨w4.heap.size, 0, none⟩ = some (.slice rX P.k crX) := QX_36.out.cell 0 _ rfl
  have cQX1 : w6.cell? ⟨w4.heap.size, 1, none⟩ = some (.slice mX P.m cmX) := QX_36.out.cell 1 _ rfl
  have cQX2 : w6.cell? ⟨w4.heap.size, 2, none⟩ = some (.int .i64 P.b) := QX_36.out.cell 2 _ rfl
  have lQX := QX_36.out.lt
  go_wp2_with fail
  clear cA0 cA1 cA2 lA cQS0 cQS1 lQS cQX0 cQX1 cQX2 lQX
  have hq := boxAt_new w6 #[.int .i64 ro, .slice sG rn cG] 36
  generalize w6.alloc (.cells #[.int .i64 ro, .slice sG rn cG] 36) = v7 at *
  obtain ⟨hb, hx, hz9⟩ := hq
  have Z_37 : Hid (v7.heap.size = w6.heap.size + 1) := hz9
  have B_38 : Hid (Below w.heap.size w v7) := B_30.out.trans (hb.mono B_30.out.size)
  have A_39 : Hid (BoxAt v7 w.heap.size #[.slice sr P.k cr, .slice sm P.m cm, .int .i64 P.b] 25) := A_31.out.kept hb
  have T_40 : Hid (PkOwn v7 w0.heap.size w1.heap.size rT mT P) := T_32.out.kept hb
  have S_41 : Hid (Slice v7 w1.heap.size w2.heap.size sS rn rf) := S_33.out.kept hb rfl
  have QS_42 : Hid (BoxAt v7 w2.heap.size #[.int .i64 ro, .slice sS rn cS] 36) := QS_34.out.kept hb
  have X_43 : Hid (PkOwn v7 v3.heap.size w4.heap.size rX mX P) := X_35.out.kept hb
  have QX_44 : Hid (BoxAt v7 w4.heap.size #[.slice rX P.k crX, .slice mX P.m cmX, .int .i64 P.b] 30) := QX_36.out.kept hb
  have G_45 : Hid (Slice v7 v5.heap.size w6.heap.size sG rn rf) := G_n.out.kept hb rfl
  clear B_30 A_31 T_32 S_33 QS_34 X_35 QX_36 G_n
  have QG_n : Hid (BoxAt v7 w6.heap.size #[.int .i64 ro, .slice sG rn cG] 36) := hx
  clear hb hx hz9
  refine (eqVec_same ro _ _ rn _ _ rf v7 hrn G_45.out.row S_41.out.row).mono ?_
  rintro e w8 ⟨rfl, hb⟩
  have Z_46 : Hid (v7.heap.size ≤ w8.heap.size) := hb.size
  have B_47 : Hid (Below w.heap.size w w8) := B_38.out.trans (hb.mono B_38.out.size)
  have A_48 : Hid (BoxAt w8 w.heap.size #[.slice sr P.k cr, .slice sm P.m cm, .int .i64 P.b] 25) := A_39.out.kept hb
  have T_49 : Hid (PkOwn w8 w0.heap.size w1.heap.size rT mT P) := T_40.out.kept hb
  have S_50 : Hid (Slice w8 w1.heap.size w2.heap.size sS rn rf) := S_41.out.kept hb rfl
  have QS_51 : Hid (BoxAt w8 w2.heap.size #[.int .i64 ro, .slice sS rn cS] 36) := QS_42.out.kept hb
  have X_52 : Hid (PkOwn w8 v3.heap.size w4.heap.size rX mX P) := X_43.out.kept hb
  have QX_53 : Hid (BoxAt w8 w4.heap.size #[.slice rX P.k crX, .slice mX P.m cmX, .int .i64 P.b] 30) := QX_44.out.kept hb
  have G_54 : Hid (Slice w8 v5.heap.size w6.heap.size sG rn rf) := G_45.out.kept hb rfl
  have QG_55 : Hid (BoxAt w8 w6.heap.size #[.int .i64 ro, .slice sG rn cG] 36) := QG_n.out.kept hb
  clear B_38 A_39 T_40 S_41 QS_42 X_43 QX_44 G_45 QG_n
  clear hb
  have cA0 : w8.cell? ⟨w.heap.size, 0, none⟩ = some (.slice sr P.k cr) := A_48.out.cell 0 _ rfl
  have cA1 : w8.cell? ⟨w.heap.size, 1, none⟩ = some (.slice sm P.m cm) := A_48.out.cell 1 _ rfl
  have cA2 : w8.cell? ⟨w.heap.size, 2, none⟩ = some (.int .i64 P.b) := A_48.out.cell 2 _ rfl
  have lA := A_48.out.lt
  have cQS0 : w8.cell? ⟨w2.heap.size, 0, none⟩ = some (.int .i64 ro) := QS_51.out.cell 0 _ rfl
  have cQS1 : w8.cell? ⟨w2.heap.size, 1, none⟩ = some (.slice sS rn cS) := QS_51.out.cell 1 _ rfl
  have lQS := QS_51.out.lt
  have cQX0 : w8.cell? ⟨w4.heap.size, 0, none⟩ = some (.slice rX P.k crX) := QX_53.out.cell 0 _ rfl
  have cQX1 : w8.cell? ⟨w4.heap.size, 1, none⟩ = some (.slice mX P.m cmX) := QX_53.out.cell 1 _ rfl
  have cQX2 : w8.cell? ⟨w4.heap.size, 2, none⟩ = some (.int .i64 P.b) := QX_53.out.cell 2 _ rfl
  have lQX := QX_53.out.lt
  have cQG0 : w8.cell? ⟨w6.heap.size, 0, none⟩ = some (.int .i64 ro) := QG_55.out.cell 0 _ rfl
  have cQG1 : w8.cell? ⟨w6.heap.size, 1, none⟩ = some (.slice sG rn cG) := QG_55.out.cell 1 _ rfl
  have lQG := QG_55.out.lt
  go_wp2_with fail
  go_region_held3 (fun W => W.cell? ⟨w.heap.size, 0, none⟩ = some (.slice sr P.k cr) ∧ W.cell? ⟨w.heap.size, 1, none⟩ = some (.slice sm P.m cm) ∧ W.cell? ⟨w.heap.size, 2, none⟩ = some (.int .i64 P.b) ∧ W.cell? ⟨w4.heap.size, 0, none⟩ = some (.slice rX P.k crX) ∧ W.cell? ⟨w4.heap.size, 1, none⟩ = some (.slice mX P.m cmX) ∧ W.cell? ⟨w4.heap.size, 2, none⟩ = some (.int .i64 P.b)) (go_keep) (first
    | (go_at_call 9; refine (toPack_any sr sm cr cm P w8.drew hk hm HN.out (HR.out.late (B_47.out.trans ((since_drew (since_refl w8)).below.mono B_47.out.size)))).mono ?_; rintro e y1 ⟨rY, mY, crY, cmY, rfl, hb, ho⟩; have S1 : Hid (Since w8 y1) := since_call (since_drew (since_refl _)) hb; have OY : Hid (PkRead y1 rY mY P) := ho.read; have da0 : y1.cell? ⟨w.heap.size, 0, none⟩ = some (.slice sr P.k cr) := (A_48.out.kept S1.out.below).cell 0 _ rfl; have da1 : y1.cell? ⟨w.heap.size, 1, none⟩ = some (.slice sm P.m cm) := (A_48.out.kept S1.out.below).cell 1 _ rfl; have da2 : y1.cell? ⟨w.heap.size, 2, none⟩ = some (.int .i64 P.b) := (A_48.out.kept S1.out.below).cell 2 _ rfl; have dx0 : y1.cell? ⟨w4.heap.size, 0, none⟩ = some (.slice rX P.k crX) := (QX_53.out.kept S1.out.below).cell 0 _ rfl; have dx1 : y1.cell? ⟨w4.heap.size, 1, none⟩ = some (.slice mX P.m cmX) := (QX_53.out.kept S1.out.below).cell 1 _ rfl; have dx2 : y1.cell? ⟨w4.heap.size, 2, none⟩ = some (.int .i64 P.b) := (QX_53.out.kept S1.out.below).cell 2 _ rfl; clear hb ho)
    | (go_at_call 11; refine (eqPack_same _ _ _ _ _ _ _ _ P _ hk hm HN.out (X_52.out.kept S1.out.below).read OY.out).mono ?_; rintro e y2 ⟨rfl, hb⟩; have S2 : Hid (Since w8 y2) := since_call S1.out hb; have ea0 : y2.cell? ⟨w.heap.size, 0, none⟩ = some (.slice sr P.k cr) := (A_48.out.kept S2.out.below).cell 0 _ rfl; have ea1 : y2.cell? ⟨w.heap.size, 1, none⟩ = some (.slice sm P.m cm) := (A_48.out.kept S2.out.below).cell 1 _ rfl; have ea2 : y2.cell? ⟨w.heap.size, 2, none⟩ = some (.int .i64 P.b) := (A_48.out.kept S2.out.below).cell 2 _ rfl; have ex0 : y2.cell? ⟨w4.heap.size, 0, none⟩ = some (.slice rX P.k crX) := (QX_53.out.kept S2.out.below).cell 0 _ rfl; have ex1 : y2.cell? ⟨w4.heap.size, 1, none⟩ = some (.slice mX P.m cmX) := (QX_53.out.kept S2.out.below).cell 1 _ rfl; have ex2 : y2.cell? ⟨w4.heap.size, 2, none⟩ = some (.int .i64 P.b) := (QX_53.out.kept S2.out.below).cell 2 _ rfl; clear hb))
  clear da0 da1 da2 dx0 dx1 dx2 ea0 ea1 ea2 ex0 ex1 ex2
  clear cA0 cA1 cA2 lA cQS0 cQS1 lQS cQX0 cQX1 cQX2 lQX cQG0 cQG1 lQG
  have hb := S2.out.below
  clear S1 S2 OY
  have Z_56 : Hid (w8.heap.size ≤ y2.heap.size) := hb.size
  have B_57 : Hid (Below w.heap.size w y2) := B_47.out.trans (hb.mono B_47.out.size)
  have A_58 : Hid (BoxAt y2 w.heap.size #[.slice sr P.k cr, .slice sm P.m cm, .int .i64 P.b] 25) := A_48.out.kept hb
  have T_59 : Hid (PkOwn y2 w0.heap.size w1.heap.size rT mT P) := T_49.out.kept hb
  have S_60 : Hid (Slice y2 w1.heap.size w2.heap.size sS rn rf) := S_50.out.kept hb rfl
  have QS_61 : Hid (BoxAt y2 w2.heap.size #[.int .i64 ro, .slice sS rn cS] 36) := QS_51.out.kept hb
  have X_62 : Hid (PkOwn y2 v3.heap.size w4.heap.size rX mX P) := X_52.out.kept hb
  have QX_63 : Hid (BoxAt y2 w4.heap.size #[.slice rX P.k crX, .slice mX P.m cmX, .int .i64 P.b] 30) := QX_53.out.kept hb
  have G_64 : Hid (Slice y2 v5.heap.size w6.heap.size sG rn rf) := G_54.out.kept hb rfl
  have QG_65 : Hid (BoxAt y2 w6.heap.size #[.int .i64 ro, .slice sG rn cG] 36) := QG_55.out.kept hb
  clear B_47 A_48 T_49 S_50 QS_51 X_52 QX_53 G_54 QG_55
  clear hb
  have cA0 : y2.cell? ⟨w.heap.size, 0, none⟩ = some (.slice sr P.k cr) := A_58.out.cell 0 _ rfl
  have cA1 : y2.cell? ⟨w.heap.size, 1, none⟩ = some (.slice sm P.m cm) := A_58.out.cell 1 _ rfl
  have cA2 : y2.cell? ⟨w.heap.size, 2, none⟩ = some (.int .i64 P.b) := A_58.out.cell 2 _ rfl
  have lA := A_58.out.lt
  have cQS0 : y2.cell? ⟨w2.heap.size, 0, none⟩ = some (.int .i64 ro) := QS_61.out.cell 0 _ rfl
  have cQS1 : y2.cell? ⟨w2.heap.size, 1, none⟩ = some (.slice sS rn cS) := QS_61.out.cell 1 _ rfl
  have lQS := QS_61.out.lt
  have cQX0 : y2.cell? ⟨w4.heap.size, 0, none⟩ = some (.slice rX P.k crX) := QX_63.out.cell 0 _ rfl
  have cQX1 : y2.cell? ⟨w4.heap.size, 1, none⟩ = some (.slice mX P.m cmX) := QX_63.out.cell 1 _ rfl
  have cQX2 : y2.cell? ⟨w4.heap.size, 2, none⟩ = some (.int .i64 P.b) := QX_63.out.cell 2 _ rfl
  have lQX := QX_63.out.lt
  have cQG0 : y2.cell? ⟨w6.heap.size, 0, none⟩ = some (.int .i64 ro) := QG_65.out.cell 0 _ rfl
  have cQG1 : y2.cell? ⟨w6.heap.size, 1, none⟩ = some (.slice sG rn cG) := QG_65.out.cell 1 _ rfl
  have lQG := QG_65.out.lt
  go_wp2_with fail
  refine (markPack_any v3.heap.size w4.heap.size rX mX _ _ 1 P y2 hk hm HT.out (by omega) (by omega) X_62.out).mono ?_
  clear cA0 cA1 cA2 lA cQS0 cQS1 lQS cQX0 cQX1 cQX2 lQX cQG0 cQG1 lQG
  rintro e w9 ⟨rfl, hon, hsl⟩
  have X_m : Hid (PkOwn w9 v3.heap.size w4.heap.size rX mX (P.marked 1)) := hsl
  have Z_66 : Hid (y2.heap.size ≤ w9.heap.size) := hon.size
  have B_67 : Hid (Below w.heap.size w w9) := B_57.out.trans (hon.below (by have := Z_0.out; have := Z_1.out; have := Z_4.out; have := Z_7.out; have := Z_11.out; have := Z_16.out; have := Z_22.out; have := Z_29.out; have := Z_37.out; have := Z_46.out; have := Z_56.out; have := Z_66.out; omega) B_57.out.size)
  have A_68 : Hid (BoxAt w9 w.heap.size #[.slice sr P.k cr, .slice sm P.m cm, .int .i64 P.b] 25) := A_58.out.onlyM hon (by have := Z_0.out; have := Z_1.out; have := Z_4.out; have := Z_7.out; have := Z_11.out; have := Z_16.out; have := Z_22.out; have := Z_29.out; have := Z_37.out; have := Z_46.out; have := Z_56.out; have := Z_66.out; omega)
  have T_69 : Hid (PkOwn w9 w0.heap.size w1.heap.size rT mT P) := T_59.out.onlyM hon (by have := Z_0.out; have := Z_1.out; have := Z_4.out; have := Z_7.out; have := Z_11.out; have := Z_16.out; have := Z_22.out; have := Z_29.out; have := Z_37.out; have := Z_46.out; have := Z_56.out; have := Z_66.out; omega)
  have S_70 : Hid (Slice w9 w1.heap.size w2.heap.size sS rn rf) := S_60.out.onlyM hon (by have := Z_0.out; have := Z_1.out; have := Z_4.out; have := Z_7.out; have := Z_11.out; have := Z_16.out; have := Z_22.out; have := Z_29.out; have := Z_37.out; have := Z_46.out; have := Z_56.out; have := Z_66.out; omega)
  have QS_71 : Hid (BoxAt w9 w2.heap.size #[.int .i64 ro, .slice sS rn cS] 36) := QS_61.out.onlyM hon (by have := Z_0.out; have := Z_1.out; have := Z_4.out; have := Z_7.out; have := Z_11.out; have := Z_16.out; have := Z_22.out; have := Z_29.out; have := Z_37.out; have := Z_46.out; have := Z_56.out; have := Z_66.out; omega)
  have QX_72 : Hid (BoxAt w9 w4.heap.size #[.slice rX P.k crX, .slice mX P.m cmX, .int .i64 P.b] 30) := QX_63.out.onlyM hon (by have := Z_0.out; have := Z_1.out; have := Z_4.out; have := Z_7.out; have := Z_11.out; have := Z_16.out; have := Z_22.out; have := Z_29.out; have := Z_37.out; have := Z_46.out; have := Z_56.out; have := Z_66.out; omega)
  have G_73 : Hid (Slice w9 v5.heap.size w6.heap.size sG rn rf) := G_64.out.onlyM hon (by have := Z_0.out; have := Z_1.out; have := Z_4.out; have := Z_7.out; have := Z_11.out; have := Z_16.out; have := Z_22.out; have := Z_29.out; have := Z_37.out; have := Z_46.out; have := Z_56.out; have := Z_66.out; omega)
  have QG_74 : Hid (BoxAt w9 w6.heap.size #[.int .i64 ro, .slice sG rn cG] 36) := QG_65.out.onlyM hon (by have := Z_0.out; have := Z_1.out; have := Z_4.out; have := Z_7.out; have := Z_11.out; have := Z_16.out; have := Z_22.out; have := Z_29.out; have := Z_37.out; have := Z_46.out; have := Z_56.out; have := Z_66.out; omega)
  clear B_57 A_58 T_59 S_60 QS_61 QX_63 G_64 QG_65
  clear X_62 hon hsl
  have hkx : ¬ ((1 + totC P.n P.k * 3 + P.m : Nat) : Int) < 0 := by omega
  generalize ((1 + totC P.n P.k * 3 + P.m : Nat) : Int) = kX at hkx ⊢
  have cA0 : w9.cell? ⟨w.heap.size, 0, none⟩ = some (.slice sr P.k cr) := A_68.out.cell 0 _ rfl
  have cA1 : w9.cell? ⟨w.heap.size, 1, none⟩ = some (.slice sm P.m cm) := A_68.out.cell 1 _ rfl
  have cA2 : w9.cell? ⟨w.heap.size, 2, none⟩ = some (.int .i64 P.b) := A_68.out.cell 2 _ rfl
  have lA := A_68.out.lt
  have cQS0 : w9.cell? ⟨w2.heap.size, 0, none⟩ = some (.int .i64 ro) := QS_71.out.cell 0 _ rfl
  have cQS1 : w9.cell? ⟨w2.heap.size, 1, none⟩ = some (.slice sS rn cS) := QS_71.out.cell 1 _ rfl
  have lQS := QS_71.out.lt
  have cQX0 : w9.cell? ⟨w4.heap.size, 0, none⟩ = some (.slice rX P.k crX) := QX_72.out.cell 0 _ rfl
  have cQX1 : w9.cell? ⟨w4.heap.size, 1, none⟩ = some (.slice mX P.m cmX) := QX_72.out.cell 1 _ rfl
  have cQX2 : w9.cell? ⟨w4.heap.size, 2, none⟩ = some (.int .i64 P.b) := QX_72.out.cell 2 _ rfl
  have lQX := QX_72.out.lt
  have cQG0 : w9.cell? ⟨w6.heap.size, 0, none⟩ = some (.int .i64 ro) := QG_74.out.cell 0 _ rfl
  have cQG1 : w9.cell? ⟨w6.heap.size, 1, none⟩ = some (.slice sG rn cG) := QG_74.out.cell 1 _ rfl
  have lQG := QG_74.out.lt
  go_wp2_with fail
  refine (eqVec_same ro _ _ rn _ _ rf w9 hrn G_73.out.row S_70.out.row).mono ?_
  clear cA0 cA1 cA2 lA cQS0 cQS1 lQS cQX0 cQX1 cQX2 lQX cQG0 cQG1 lQG
  rintro e w10 ⟨rfl, hb⟩
  have Z_75 : Hid (w9.heap.size ≤ w10.heap.size) := hb.size
  have B_76 : Hid (Below w.heap.size w w10) := B_67.out.trans (hb.mono B_67.out.size)
  have A_77 : Hid (BoxAt w10 w.heap.size #[.slice sr P.k cr, .slice sm P.m cm, .int .i64 P.b] 25) := A_68.out.kept hb
  have T_78 : Hid (PkOwn w10 w0.heap.size w1.heap.size rT mT P) := T_69.out.kept hb
  have S_79 : Hid (Slice w10 w1.heap.size w2.heap.size sS rn rf) := S_70.out.kept hb rfl
  have QS_80 : Hid (BoxAt w10 w2.heap.size #[.int .i64 ro, .slice sS rn cS] 36) := QS_71.out.kept hb
  have X_81 : Hid (PkOwn w10 v3.heap.size w4.heap.size rX mX (P.marked 1)) := X_m.out.kept hb
  have QX_82 : Hid (BoxAt w10 w4.heap.size #[.slice rX P.k crX, .slice mX P.m cmX, .int .i64 P.b] 30) := QX_72.out.kept hb
  have G_83 : Hid (Slice w10 v5.heap.size w6.heap.size sG rn rf) := G_73.out.kept hb rfl
  have QG_84 : Hid (BoxAt w10 w6.heap.size #[.int .i64 ro, .slice sG rn cG] 36) := QG_74.out.kept hb
  clear B_67 A_68 T_69 S_70 QS_71 X_m QX_72 G_73 QG_74
  clear hb
  have cA0 : w10.cell? ⟨w.heap.size, 0, none⟩ = some (.slice sr P.k cr) := A_77.out.cell 0 _ rfl
  have cA1 : w10.cell? ⟨w.heap.size, 1, none⟩ = some (.slice sm P.m cm) := A_77.out.cell 1 _ rfl
  have cA2 : w10.cell? ⟨w.heap.size, 2, none⟩ = some (.int .i64 P.b) := A_77.out.cell 2 _ rfl
  have lA := A_77.out.lt
  have cQS0 : w10.cell? ⟨w2.heap.size, 0, none⟩ = some (.int .i64 ro) := QS_80.out.cell 0 _ rfl
  have cQS1 : w10.cell? ⟨w2.heap.size, 1, none⟩ = some (.slice sS rn cS) := QS_80.out.cell 1 _ rfl
  have lQS := QS_80.out.lt
  have cQX0 : w10.cell? ⟨w4.heap.size, 0, none⟩ = some (.slice rX P.k crX) := QX_82.out.cell 0 _ rfl
  have cQX1 : w10.cell? ⟨w4.heap.size, 1, none⟩ = some (.slice mX P.m cmX) := QX_82.out.cell 1 _ rfl
  have cQX2 : w10.cell? ⟨w4.heap.size, 2, none⟩ = some (.int .i64 P.b) := QX_82.out.cell 2 _ rfl
  have lQX := QX_82.out.lt
  have cQG0 : w10.cell? ⟨w6.heap.size, 0, none⟩ = some (.int .i64 ro) := QG_84.out.cell 0 _ rfl
  have cQG1 : w10.cell? ⟨w6.heap.size, 1, none⟩ = some (.slice sG rn cG) := QG_84.out.cell 1 _ rfl
  have lQG := QG_84.out.lt
  go_wp2_with fail
  refine (markVec_in ro sG rn _ v5.heap.size w6.heap.size rf 1 w10 hrn (by omega) (by omega) G_83.out).mono ?_
  clear cA0 cA1 cA2 lA cQS0 cQS1 lQS cQX0 cQX1 cQX2 lQX cQG0 cQG1 lQG
  rintro e w11 ⟨rfl, hin, hsl⟩
  have hon := OnlyM.of hin (Nat.le_refl _) (Nat.le_refl _)
  have G_m : Hid (Slice w11 v5.heap.size w6.heap.size sG rn (fun i => 1 + (i : Int))) := hsl
  have Z_85 : Hid (w10.heap.size ≤ w11.heap.size) := hon.size
  have B_86 : Hid (Below w.heap.size w w11) := B_76.out.trans (hon.below (by have := Z_0.out; have := Z_1.out; have := Z_4.out; have := Z_7.out; have := Z_11.out; have := Z_16.out; have := Z_22.out; have := Z_29.out; have := Z_37.out; have := Z_46.out; have := Z_56.out; have := Z_66.out; have := Z_75.out; have := Z_85.out; omega) B_76.out.size)
  have A_87 : Hid (BoxAt w11 w.heap.size #[.slice sr P.k cr, .slice sm P.m cm, .int .i64 P.b] 25) := A_77.out.onlyM hon (by have := Z_0.out; have := Z_1.out; have := Z_4.out; have := Z_7.out; have := Z_11.out; have := Z_16.out; have := Z_22.out; have := Z_29.out; have := Z_37.out; have := Z_46.out; have := Z_56.out; have := Z_66.out; have := Z_75.out; have := Z_85.out; omega)
  have T_88 : Hid (PkOwn w11 w0.heap.size w1.heap.size rT mT P) := T_78.out.onlyM hon (by have := Z_0.out; have := Z_1.out; have := Z_4.out; have := Z_7.out; have := Z_11.out; have := Z_16.out; have := Z_22.out; have := Z_29.out; have := Z_37.out; have := Z_46.out; have := Z_56.out; have := Z_66.out; have := Z_75.out; have := Z_85.out; omega)
  have S_89 : Hid (Slice w11 w1.heap.size w2.heap.size sS rn rf) := S_79.out.onlyM hon (by have := Z_0.out; have := Z_1.out; have := Z_4.out; have := Z_7.out; have := Z_11.out; have := Z_16.out; have := Z_22.out; have := Z_29.out; have := Z_37.out; have := Z_46.out; have := Z_56.out; have := Z_66.out; have := Z_75.out; have := Z_85.out; omega)
  have QS_90 : Hid (BoxAt w11 w2.heap.size #[.int .i64 ro, .slice sS rn cS] 36) := QS_80.out.onlyM hon (by have := Z_0.out; have := Z_1.out; have := Z_4.out; have := Z_7.out; have := Z_11.out; have := Z_16.out; have := Z_22.out; have := Z_29.out; have := Z_37.out; have := Z_46.out; have := Z_56.out; have := Z_66.out; have := Z_75.out; have := Z_85.out; omega)
  have X_91 : Hid (PkOwn w11 v3.heap.size w4.heap.size rX mX (P.marked 1)) := X_81.out.onlyM hon (by have := Z_0.out; have := Z_1.out; have := Z_4.out; have := Z_7.out; have := Z_11.out; have := Z_16.out; have := Z_22.out; have := Z_29.out; have := Z_37.out; have := Z_46.out; have := Z_56.out; have := Z_66.out; have := Z_75.out; have := Z_85.out; omega)
  have QX_92 : Hid (BoxAt w11 w4.heap.size #[.slice rX P.k crX, .slice mX P.m cmX, .int .i64 P.b] 30) := QX_82.out.onlyM hon (by have := Z_0.out; have := Z_1.out; have := Z_4.out; have := Z_7.out; have := Z_11.out; have := Z_16.out; have := Z_22.out; have := Z_29.out; have := Z_37.out; have := Z_46.out; have := Z_56.out; have := Z_66.out; have := Z_75.out; have := Z_85.out; omega)
  have QG_93 : Hid (BoxAt w11 w6.heap.size #[.int .i64 ro, .slice sG rn cG] 36) := QG_84.out.onlyM hon (by have := Z_0.out; have := Z_1.out; have := Z_4.out; have := Z_7.out; have := Z_11.out; have := Z_16.out; have := Z_22.out; have := Z_29.out; have := Z_37.out; have := Z_46.out; have := Z_56.out; have := Z_66.out; have := Z_75.out; have := Z_85.out; omega)
  clear B_76 A_77 T_78 S_79 QS_80 X_81 QX_82 QG_84
  clear G_83 hon hsl
  clear hin
  have hk1 : ¬ (1 : Int) + (rn : Int) < 0 := by omega
  have cA0 : w11.cell? ⟨w.heap.size, 0, none⟩ = some (.slice sr P.k cr) := A_87.out.cell 0 _ rfl
  have cA1 : w11.cell? ⟨w.heap.size, 1, none⟩ = some (.slice sm P.m cm) := A_87.out.cell 1 _ rfl
  have cA2 : w11.cell? ⟨w.heap.size, 2, none⟩ = some (.int .i64 P.b) := A_87.out.cell 2 _ rfl
  have lA := A_87.out.lt
  have cQS0 : w11.cell? ⟨w2.heap.size, 0, none⟩ = some (.int .i64 ro) := QS_90.out.cell 0 _ rfl
  have cQS1 : w11.cell? ⟨w2.heap.size, 1, none⟩ = some (.slice sS rn cS) := QS_90.out.cell 1 _ rfl
  have lQS := QS_90.out.lt
  have cQX0 : w11.cell? ⟨w4.heap.size, 0, none⟩ = some (.slice rX P.k crX) := QX_92.out.cell 0 _ rfl
  have cQX1 : w11.cell? ⟨w4.heap.size, 1, none⟩ = some (.slice mX P.m cmX) := QX_92.out.cell 1 _ rfl
  have cQX2 : w11.cell? ⟨w4.heap.size, 2, none⟩ = some (.int .i64 P.b) := QX_92.out.cell 2 _ rfl
  have lQX := QX_92.out.lt
  have cQG0 : w11.cell? ⟨w6.heap.size, 0, none⟩ = some (.int .i64 ro) := QG_93.out.cell 0 _ rfl
  have cQG1 : w11.cell? ⟨w6.heap.size, 1, none⟩ = some (.slice sG rn cG) := QG_93.out.cell 1 _ rfl
  have lQG := QG_93.out.lt
  go_wp2_with fail
  refine (heldVec_any ro sG rn _ 1 w11 hrn (by omega) (by omega) G_m.out.row).mono ?_
  clear cA0 cA1 cA2 lA cQS0 cQS1 lQS cQX0 cQX1 cQX2 lQX cQG0 cQG1 lQG
  rintro e w12 ⟨rfl, hb⟩
  have Z_94 : Hid (w11.heap.size ≤ w12.heap.size) := hb.size
  have B_95 : Hid (Below w.heap.size w w12) := B_86.out.trans (hb.mono B_86.out.size)
  have A_96 : Hid (BoxAt w12 w.heap.size #[.slice sr P.k cr, .slice sm P.m cm, .int .i64 P.b] 25) := A_87.out.kept hb
  have T_97 : Hid (PkOwn w12 w0.heap.size w1.heap.size rT mT P) := T_88.out.kept hb
  have S_98 : Hid (Slice w12 w1.heap.size w2.heap.size sS rn rf) := S_89.out.kept hb rfl
  have QS_99 : Hid (BoxAt w12 w2.heap.size #[.int .i64 ro, .slice sS rn cS] 36) := QS_90.out.kept hb
  have X_100 : Hid (PkOwn w12 v3.heap.size w4.heap.size rX mX (P.marked 1)) := X_91.out.kept hb
  have QX_101 : Hid (BoxAt w12 w4.heap.size #[.slice rX P.k crX, .slice mX P.m cmX, .int .i64 P.b] 30) := QX_92.out.kept hb
  have G_102 : Hid (Slice w12 v5.heap.size w6.heap.size sG rn (fun i => 1 + (i : Int))) := G_m.out.kept hb rfl
  have QG_103 : Hid (BoxAt w12 w6.heap.size #[.int .i64 ro, .slice sG rn cG] 36) := QG_93.out.kept hb
  clear B_86 A_87 T_88 S_89 QS_90 X_91 QX_92 G_m QG_93
  clear hb
  have cA0 : w12.cell? ⟨w.heap.size, 0, none⟩ = some (.slice sr P.k cr) := A_96.out.cell 0 _ rfl
  have cA1 : w12.cell? ⟨w.heap.size, 1, none⟩ = some (.slice sm P.m cm) := A_96.out.cell 1 _ rfl
  have cA2 : w12.cell? ⟨w.heap.size, 2, none⟩ = some (.int .i64 P.b) := A_96.out.cell 2 _ rfl
  have lA := A_96.out.lt
  have cQS0 : w12.cell? ⟨w2.heap.size, 0, none⟩ = some (.int .i64 ro) := QS_99.out.cell 0 _ rfl
  have cQS1 : w12.cell? ⟨w2.heap.size, 1, none⟩ = some (.slice sS rn cS) := QS_99.out.cell 1 _ rfl
  have lQS := QS_99.out.lt
  have cQX0 : w12.cell? ⟨w4.heap.size, 0, none⟩ = some (.slice rX P.k crX) := QX_101.out.cell 0 _ rfl
  have cQX1 : w12.cell? ⟨w4.heap.size, 1, none⟩ = some (.slice mX P.m cmX) := QX_101.out.cell 1 _ rfl
  have cQX2 : w12.cell? ⟨w4.heap.size, 2, none⟩ = some (.int .i64 P.b) := QX_101.out.cell 2 _ rfl
  have lQX := QX_101.out.lt
  have cQG0 : w12.cell? ⟨w6.heap.size, 0, none⟩ = some (.int .i64 ro) := QG_103.out.cell 0 _ rfl
  have cQG1 : w12.cell? ⟨w6.heap.size, 1, none⟩ = some (.slice sG rn cG) := QG_103.out.cell 1 _ rfl
  have lQG := QG_103.out.lt
  go_wp2_with fail
  refine (toPack_any sr sm cr cm P w12 hk hm HN.out (HR.out.late B_95.out)).mono ?_
  clear cA0 cA1 cA2 lA cQS0 cQS1 lQS cQX0 cQX1 cQX2 lQX cQG0 cQG1 lQG
  rintro e w13 ⟨rV, mV, crV, cmV, rfl, hb, ho⟩
  have V_n : Hid (PkOwn w13 w12.heap.size w13.heap.size rV mV P) := ho
  clear ho
  have Z_104 : Hid (w12.heap.size ≤ w13.heap.size) := hb.size
  have B_105 : Hid (Below w.heap.size w w13) := B_95.out.trans (hb.mono B_95.out.size)
  have A_106 : Hid (BoxAt w13 w.heap.size #[.slice sr P.k cr, .slice sm P.m cm, .int .i64 P.b] 25) := A_96.out.kept hb
  have T_107 : Hid (PkOwn w13 w0.heap.size w1.heap.size rT mT P) := T_97.out.kept hb
  have S_108 : Hid (Slice w13 w1.heap.size w2.heap.size sS rn rf) := S_98.out.kept hb rfl
  have QS_109 : Hid (BoxAt w13 w2.heap.size #[.int .i64 ro, .slice sS rn cS] 36) := QS_99.out.kept hb
  have X_110 : Hid (PkOwn w13 v3.heap.size w4.heap.size rX mX (P.marked 1)) := X_100.out.kept hb
  have QX_111 : Hid (BoxAt w13 w4.heap.size #[.slice rX P.k crX, .slice mX P.m cmX, .int .i64 P.b] 30) := QX_101.out.kept hb
  have G_112 : Hid (Slice w13 v5.heap.size w6.heap.size sG rn (fun i => 1 + (i : Int))) := G_102.out.kept hb rfl
  have QG_113 : Hid (BoxAt w13 w6.heap.size #[.int .i64 ro, .slice sG rn cG] 36) := QG_103.out.kept hb
  clear B_95 A_96 T_97 S_98 QS_99 X_100 QX_101 G_102 QG_103
  clear hb
  have cA0 : w13.cell? ⟨w.heap.size, 0, none⟩ = some (.slice sr P.k cr) := A_106.out.cell 0 _ rfl
  have cA1 : w13.cell? ⟨w.heap.size, 1, none⟩ = some (.slice sm P.m cm) := A_106.out.cell 1 _ rfl
  have cA2 : w13.cell? ⟨w.heap.size, 2, none⟩ = some (.int .i64 P.b) := A_106.out.cell 2 _ rfl
  have lA := A_106.out.lt
  have cQS0 : w13.cell? ⟨w2.heap.size, 0, none⟩ = some (.int .i64 ro) := QS_109.out.cell 0 _ rfl
  have cQS1 : w13.cell? ⟨w2.heap.size, 1, none⟩ = some (.slice sS rn cS) := QS_109.out.cell 1 _ rfl
  have lQS := QS_109.out.lt
  have cQX0 : w13.cell? ⟨w4.heap.size, 0, none⟩ = some (.slice rX P.k crX) := QX_111.out.cell 0 _ rfl
  have cQX1 : w13.cell? ⟨w4.heap.size, 1, none⟩ = some (.slice mX P.m cmX) := QX_111.out.cell 1 _ rfl
  have cQX2 : w13.cell? ⟨w4.heap.size, 2, none⟩ = some (.int .i64 P.b) := QX_111.out.cell 2 _ rfl
  have lQX := QX_111.out.lt
  have cQG0 : w13.cell? ⟨w6.heap.size, 0, none⟩ = some (.int .i64 ro) := QG_113.out.cell 0 _ rfl
  have cQG1 : w13.cell? ⟨w6.heap.size, 1, none⟩ = some (.slice sG rn cG) := QG_113.out.cell 1 _ rfl
  have lQG := QG_113.out.lt
  go_wp2_with fail
  refine (HI.out w13 _ _ _ _ V_n.out.read).mono ?_
  clear cA0 cA1 cA2 lA cQS0 cQS1 lQS cQX0 cQX1 cQX2 lQX cQG0 cQG1 lQG
  rintro e w14 ⟨sH, cH, rfl, hb, ho⟩
  unfold vecV
  have H_n : Hid (Slice w14 w13.heap.size w14.heap.size sH rn rf) := ho.slice
  clear ho
  have Z_114 : Hid (w13.heap.size ≤ w14.heap.size) := hb.size
  have B_115 : Hid (Below w.heap.size w w14) := B_105.out.trans (hb.mono B_105.out.size)
  have A_116 : Hid (BoxAt w14 w.heap.size #[.slice sr P.k cr, .slice sm P.m cm, .int .i64 P.b] 25) := A_106.out.kept hb
  have T_117 : Hid (PkOwn w14 w0.heap.size w1.heap.size rT mT P) := T_107.out.kept hb
  have S_118 : Hid (Slice w14 w1.heap.size w2.heap.size sS rn rf) := S_108.out.kept hb rfl
  have QS_119 : Hid (BoxAt w14 w2.heap.size #[.int .i64 ro, .slice sS rn cS] 36) := QS_109.out.kept hb
  have X_120 : Hid (PkOwn w14 v3.heap.size w4.heap.size rX mX (P.marked 1)) := X_110.out.kept hb
  have QX_121 : Hid (BoxAt w14 w4.heap.size #[.slice rX P.k crX, .slice mX P.m cmX, .int .i64 P.b] 30) := QX_111.out.kept hb
  have G_122 : Hid (Slice w14 v5.heap.size w6.heap.size sG rn (fun i => 1 + (i : Int))) := G_112.out.kept hb rfl
  have QG_123 : Hid (BoxAt w14 w6.heap.size #[.int .i64 ro, .slice sG rn cG] 36) := QG_113.out.kept hb
  have V_124 : Hid (PkOwn w14 w12.heap.size w13.heap.size rV mV P) := V_n.out.kept hb
  clear B_105 A_106 T_107 S_108 QS_109 X_110 QX_111 G_112 QG_113 V_n
  clear hb
  have cA0 : w14.cell? ⟨w.heap.size, 0, none⟩ = some (.slice sr P.k cr) := A_116.out.cell 0 _ rfl
  have cA1 : w14.cell? ⟨w.heap.size, 1, none⟩ = some (.slice sm P.m cm) := A_116.out.cell 1 _ rfl
  have cA2 : w14.cell? ⟨w.heap.size, 2, none⟩ = some (.int .i64 P.b) := A_116.out.cell 2 _ rfl
  have lA := A_116.out.lt
  have cQS0 : w14.cell? ⟨w2.heap.size, 0, none⟩ = some (.int .i64 ro) := QS_119.out.cell 0 _ rfl
  have cQS1 : w14.cell? ⟨w2.heap.size, 1, none⟩ = some (.slice sS rn cS) := QS_119.out.cell 1 _ rfl
  have lQS := QS_119.out.lt
  have cQX0 : w14.cell? ⟨w4.heap.size, 0, none⟩ = some (.slice rX P.k crX) := QX_121.out.cell 0 _ rfl
  have cQX1 : w14.cell? ⟨w4.heap.size, 1, none⟩ = some (.slice mX P.m cmX) := QX_121.out.cell 1 _ rfl
  have cQX2 : w14.cell? ⟨w4.heap.size, 2, none⟩ = some (.int .i64 P.b) := QX_121.out.cell 2 _ rfl
  have lQX := QX_121.out.lt
  have cQG0 : w14.cell? ⟨w6.heap.size, 0, none⟩ = some (.int .i64 ro) := QG_123.out.cell 0 _ rfl
  have cQG1 : w14.cell? ⟨w6.heap.size, 1, none⟩ = some (.slice sG rn cG) := QG_123.out.cell 1 _ rfl
  have lQG := QG_123.out.lt
  go_wp2_with fail
  clear cA0 cA1 cA2 lA cQS0 cQS1 lQS cQX0 cQX1 cQX2 lQX cQG0 cQG1 lQG
  have hq := boxAt_new w14 #[.int .i64 ro, .slice sH rn cH] 36
  generalize w14.alloc (.cells #[.int .i64 ro, .slice sH rn cH] 36) = v15 at *
  obtain ⟨hb, hx, hz9⟩ := hq
  have Z_125 : Hid (v15.heap.size = w14.heap.size + 1) := hz9
  have B_126 : Hid (Below w.heap.size w v15) := B_115.out.trans (hb.mono B_115.out.size)
  have A_127 : Hid (BoxAt v15 w.heap.size #[.slice sr P.k cr, .slice sm P.m cm, .int .i64 P.b] 25) := A_116.out.kept hb
  have T_128 : Hid (PkOwn v15 w0.heap.size w1.heap.size rT mT P) := T_117.out.kept hb
  have S_129 : Hid (Slice v15 w1.heap.size w2.heap.size sS rn rf) := S_118.out.kept hb rfl
  have QS_130 : Hid (BoxAt v15 w2.heap.size #[.int .i64 ro, .slice sS rn cS] 36) := QS_119.out.kept hb
  have X_131 : Hid (PkOwn v15 v3.heap.size w4.heap.size rX mX (P.marked 1)) := X_120.out.kept hb
  have QX_132 : Hid (BoxAt v15 w4.heap.size #[.slice rX P.k crX, .slice mX P.m cmX, .int .i64 P.b] 30) := QX_121.out.kept hb
  have G_133 : Hid (Slice v15 v5.heap.size w6.heap.size sG rn (fun i => 1 + (i : Int))) := G_122.out.kept hb rfl
  have QG_134 : Hid (BoxAt v15 w6.heap.size #[.int .i64 ro, .slice sG rn cG] 36) := QG_123.out.kept hb
  have V_135 : Hid (PkOwn v15 w12.heap.size w13.heap.size rV mV P) := V_124.out.kept hb
  have H_136 : Hid (Slice v15 w13.heap.size w14.heap.size sH rn rf) := H_n.out.kept hb rfl
  clear B_115 A_116 T_117 S_118 QS_119 X_120 QX_121 G_122 QG_123 V_124 H_n
  have QH_n : Hid (BoxAt v15 w14.heap.size #[.int .i64 ro, .slice sH rn cH] 36) := hx
  clear hb hx hz9
  refine (eqVec_same ro _ _ rn _ _ rf v15 hrn H_136.out.row S_129.out.row).mono ?_
  rintro e w16 ⟨rfl, hb⟩
  have Z_137 : Hid (v15.heap.size ≤ w16.heap.size) := hb.size
  have B_138 : Hid (Below w.heap.size w w16) := B_126.out.trans (hb.mono B_126.out.size)
  have A_139 : Hid (BoxAt w16 w.heap.size #[.slice sr P.k cr, .slice sm P.m cm, .int .i64 P.b] 25) := A_127.out.kept hb
  have T_140 : Hid (PkOwn w16 w0.heap.size w1.heap.size rT mT P) := T_128.out.kept hb
  have S_141 : Hid (Slice w16 w1.heap.size w2.heap.size sS rn rf) := S_129.out.kept hb rfl
  have QS_142 : Hid (BoxAt w16 w2.heap.size #[.int .i64 ro, .slice sS rn cS] 36) := QS_130.out.kept hb
  have X_143 : Hid (PkOwn w16 v3.heap.size w4.heap.size rX mX (P.marked 1)) := X_131.out.kept hb
  have QX_144 : Hid (BoxAt w16 w4.heap.size #[.slice rX P.k crX, .slice mX P.m cmX, .int .i64 P.b] 30) := QX_132.out.kept hb
  have G_145 : Hid (Slice w16 v5.heap.size w6.heap.size sG rn (fun i => 1 + (i : Int))) := G_133.out.kept hb rfl
  have QG_146 : Hid (BoxAt w16 w6.heap.size #[.int .i64 ro, .slice sG rn cG] 36) := QG_134.out.kept hb
  have V_147 : Hid (PkOwn w16 w12.heap.size w13.heap.size rV mV P) := V_135.out.kept hb
  have H_148 : Hid (Slice w16 w13.heap.size w14.heap.size sH rn rf) := H_136.out.kept hb rfl
  have QH_149 : Hid (BoxAt w16 w14.heap.size #[.int .i64 ro, .slice sH rn cH] 36) := QH_n.out.kept hb
  clear B_126 A_127 T_128 S_129 QS_130 X_131 QX_132 G_133 QG_134 V_135 H_136 QH_n
  clear hb
  have cA0 : w16.cell? ⟨w.heap.size, 0, none⟩ = some (.slice sr P.k cr) := A_139.out.cell 0 _ rfl
  have cA1 : w16.cell? ⟨w.heap.size, 1, none⟩ = some (.slice sm P.m cm) := A_139.out.cell 1 _ rfl
  have cA2 : w16.cell? ⟨w.heap.size, 2, none⟩ = some (.int .i64 P.b) := A_139.out.cell 2 _ rfl
  have lA := A_139.out.lt
  have cQS0 : w16.cell? ⟨w2.heap.size, 0, none⟩ = some (.int .i64 ro) := QS_142.out.cell 0 _ rfl
  have cQS1 : w16.cell? ⟨w2.heap.size, 1, none⟩ = some (.slice sS rn cS) := QS_142.out.cell 1 _ rfl
  have lQS := QS_142.out.lt
  have cQX0 : w16.cell? ⟨w4.heap.size, 0, none⟩ = some (.slice rX P.k crX) := QX_144.out.cell 0 _ rfl
  have cQX1 : w16.cell? ⟨w4.heap.size, 1, none⟩ = some (.slice mX P.m cmX) := QX_144.out.cell 1 _ rfl
  have cQX2 : w16.cell? ⟨w4.heap.size, 2, none⟩ = some (.int .i64 P.b) := QX_144.out.cell 2 _ rfl
  have lQX := QX_144.out.lt
  have cQG0 : w16.cell? ⟨w6.heap.size, 0, none⟩ = some (.int .i64 ro) := QG_146.out.cell 0 _ rfl
  have cQG1 : w16.cell? ⟨w6.heap.size, 1, none⟩ = some (.slice sG rn cG) := QG_146.out.cell 1 _ rfl
  have lQG := QG_146.out.lt
  have cQH0 : w16.cell? ⟨w14.heap.size, 0, none⟩ = some (.int .i64 ro) := QH_149.out.cell 0 _ rfl
  have cQH1 : w16.cell? ⟨w14.heap.size, 1, none⟩ = some (.slice sH rn cH) := QH_149.out.cell 1 _ rfl
  have lQH := QH_149.out.lt
  go_wp2_with fail
  refine (heldVec_any ro sG rn _ 1 w16 hrn (by omega) (by omega) G_145.out.row).mono ?_
  clear cA0 cA1 cA2 lA cQS0 cQS1 lQS cQX0 cQX1 cQX2 lQX cQG0 cQG1 lQG cQH0 cQH1 lQH
  rintro e w17 ⟨rfl, hb⟩
  have Z_150 : Hid (w16.heap.size ≤ w17.heap.size) := hb.size
  have B_151 : Hid (Below w.heap.size w w17) := B_138.out.trans (hb.mono B_138.out.size)
  have A_152 : Hid (BoxAt w17 w.heap.size #[.slice sr P.k cr, .slice sm P.m cm, .int .i64 P.b] 25) := A_139.out.kept hb
  have T_153 : Hid (PkOwn w17 w0.heap.size w1.heap.size rT mT P) := T_140.out.kept hb
  have S_154 : Hid (Slice w17 w1.heap.size w2.heap.size sS rn rf) := S_141.out.kept hb rfl
  have QS_155 : Hid (BoxAt w17 w2.heap.size #[.int .i64 ro, .slice sS rn cS] 36) := QS_142.out.kept hb
  have X_156 : Hid (PkOwn w17 v3.heap.size w4.heap.size rX mX (P.marked 1)) := X_143.out.kept hb
  have QX_157 : Hid (BoxAt w17 w4.heap.size #[.slice rX P.k crX, .slice mX P.m cmX, .int .i64 P.b] 30) := QX_144.out.kept hb
  have G_158 : Hid (Slice w17 v5.heap.size w6.heap.size sG rn (fun i => 1 + (i : Int))) := G_145.out.kept hb rfl
  have QG_159 : Hid (BoxAt w17 w6.heap.size #[.int .i64 ro, .slice sG rn cG] 36) := QG_146.out.kept hb
  have V_160 : Hid (PkOwn w17 w12.heap.size w13.heap.size rV mV P) := V_147.out.kept hb
  have H_161 : Hid (Slice w17 w13.heap.size w14.heap.size sH rn rf) := H_148.out.kept hb rfl
  have QH_162 : Hid (BoxAt w17 w14.heap.size #[.int .i64 ro, .slice sH rn cH] 36) := QH_149.out.kept hb
  clear B_138 A_139 T_140 S_141 QS_142 X_143 QX_144 G_145 QG_146 V_147 H_148 QH_149
  clear hb
  have cA0 : w17.cell? ⟨w.heap.size, 0, none⟩ = some (.slice sr P.k cr) := A_152.out.cell 0 _ rfl
  have cA1 : w17.cell? ⟨w.heap.size, 1, none⟩ = some (.slice sm P.m cm) := A_152.out.cell 1 _ rfl
  have cA2 : w17.cell? ⟨w.heap.size, 2, none⟩ = some (.int .i64 P.b) := A_152.out.cell 2 _ rfl
  have lA := A_152.out.lt
  have cQS0 : w17.cell? ⟨w2.heap.size, 0, none⟩ = some (.int .i64 ro) := QS_155.out.cell 0 _ rfl
  have cQS1 : w17.cell? ⟨w2.heap.size, 1, none⟩ = some (.slice sS rn cS) := QS_155.out.cell 1 _ rfl
  have lQS := QS_155.out.lt
  have cQX0 : w17.cell? ⟨w4.heap.size, 0, none⟩ = some (.slice rX P.k crX) := QX_157.out.cell 0 _ rfl
  have cQX1 : w17.cell? ⟨w4.heap.size, 1, none⟩ = some (.slice mX P.m cmX) := QX_157.out.cell 1 _ rfl
  have cQX2 : w17.cell? ⟨w4.heap.size, 2, none⟩ = some (.int .i64 P.b) := QX_157.out.cell 2 _ rfl
  have lQX := QX_157.out.lt
  have cQG0 : w17.cell? ⟨w6.heap.size, 0, none⟩ = some (.int .i64 ro) := QG_159.out.cell 0 _ rfl
  have cQG1 : w17.cell? ⟨w6.heap.size, 1, none⟩ = some (.slice sG rn cG) := QG_159.out.cell 1 _ rfl
  have lQG := QG_159.out.lt
  have cQH0 : w17.cell? ⟨w14.heap.size, 0, none⟩ = some (.int .i64 ro) := QH_162.out.cell 0 _ rfl
  have cQH1 : w17.cell? ⟨w14.heap.size, 1, none⟩ = some (.slice sH rn cH) := QH_162.out.cell 1 _ rfl
  have lQH := QH_162.out.lt
  go_wp2_with fail
  go_ret
  exact ⟨rfl, B_151.out⟩
end Go.Proofs.Ytbdjjggaahjjpaa
