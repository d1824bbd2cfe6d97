/- What is proved here: the law of PackRight walks to true, where the specification's function and the program's hand back the same; nothing that was there turns. -/
import Derived.Test.YtbdjjggaahjjpaaQPkHW
import Derived.Test.YtbdjjggaahjjpaaQBoxAtM
namespace Go.Proofs.Ytbdjjggaahjjpaa
open Go.RowKit

set_option maxRecDepth 100000 in
set_option maxHeartbeats 4000000 in
theorem law_PackRight (sr sm : Option Addr) (cr cm : Nat) (P : Pk) (d : Bool) (w : World) (hk : P.k ≤ maxLen) (hm : P.m ≤ maxLen) (hr : PkRead w sr sm P) (hn : ∀ i, i < P.k → P.n i ≤ maxLen) (hc : ∀ i, i < P.k → ∀ j, j < P.n i → (P.f i j).c.size ≤ maxLen)
    (hs : ∀ (W : World) (x y : Option Addr) (cx cy : Nat), PkRead W x y P → Calls Try.prog 8 #[.agg #[.slice x P.k cx, .slice y P.m cy, .int .i64 P.b]] W fun e W' => e = .returned (.bool d) ∧ Below W.heap.size W W')
    (hi : ∀ (W : World) (x y : Option Addr) (cx cy : Nat), PkRead W x y P → Calls Try.prog 10 #[.agg #[.slice x P.k cx, .slice y P.m cy, .int .i64 P.b]] W fun e W' => e = .returned (.bool d) ∧ Below W.heap.size W W') :
    Calls Try.prog 3 #[.agg #[.slice sr P.k cr, .slice sm P.m cm, .int .i64 P.b]] w fun e w' => e = .returned (.bool true) ∧ Below w.heap.size w w' := by
  have HR : Hid (PkRead w sr sm P) := hr
  have HS : Hid (∀ (W : World) (x y : Option Addr) (cx cy : Nat), PkRead W x y P → Calls Try.prog 8 #[.agg #[.slice x P.k cx, .slice y P.m cy, .int .i64 P.b]] W fun e W' => e = .returned (.bool d) ∧ Below W.heap.size W W') := hs
  have HI : Hid (∀ (W : World) (x y : Option Addr) (cx cy : Nat), PkRead W x y P → Calls Try.prog 10 #[.agg #[.slice x P.k cx, .slice y P.m cy, .int .i64 P.b]] W fun e W' => e = .returned (.bool d) ∧ Below W.heap.size W W') := hi
  obtain ⟨hb, hx, hz9⟩ := boxAt_new w #[.slice sr P.k cr, .slice sm P.m cm, .int .i64 P.b] 25
  have CZ := szPack_any sr sm cr cm P (w.alloc (.cells #[.slice sr P.k cr, .slice sm P.m cm, .int .i64 P.b] 25)) hk hm (hr.late hb) hn hc
  have B0 : Hid (Below w.heap.size w (w.alloc (.cells #[.slice sr P.k cr, .slice sm P.m cm, .int .i64 P.b] 25))) := hb
  have A0 : Hid (BoxAt (w.alloc (.cells #[.slice sr P.k cr, .slice sm P.m cm, .int .i64 P.b] 25)) w.heap.size #[.slice sr P.k cr, .slice sm P.m cm, .int .i64 P.b] 25) := hx
  clear hb hx hz9 hs hi hr hk hm hn hc
  go_enter Try.func3, Try.ntmps3
  go_wp2_with fail
  generalize w.alloc (.cells #[.slice sr P.k cr, .slice sm P.m cm, .int .i64 P.b] 25) = v0 at *
  refine CZ.mono ?_
  clear CZ
  rintro e w1 ⟨⟨z, rfl, hz⟩, hb⟩
  have B1 : Hid (Below w.heap.size w w1) := B0.out.trans (hb.mono B0.out.size)
  have A1 : Hid (BoxAt w1 w.heap.size #[.slice sr P.k cr, .slice sm P.m cm, .int .i64 P.b] 25) := A0.out.kept hb
  clear hb A0 B0
  rcases hz with hz | ⟨hz, hz9, hm, hk, htot, hcs⟩
  · go_wp2_with fail
    go_ret
    exact ⟨rfl, B1.out⟩
  have hz' : ¬ z < 0 := by omega
  have HN : Hid (∀ i, i < P.k → P.n i ≤ 1048576) := fun i hi => Nat.le_trans (totC_le hi) htot
  clear hcs htot
  have ca0 : w1.cell? ⟨w.heap.size, 0, none⟩ = some (.slice sr P.k cr) := A1.out.cell 0 _ rfl
  have ca1 : w1.cell? ⟨w.heap.size, 1, none⟩ = some (.slice sm P.m cm) := A1.out.cell 1 _ rfl
  have ca2 : w1.cell? ⟨w.heap.size, 2, none⟩ = some (.int .i64 P.b) := A1.out.cell 2 _ rfl
  go_wp2_with fail
  refine (toPack_any sr sm cr cm P w1 hk hm HN.out (HR.out.late B1.out)).mono ?_
  clear ca0 ca1 ca2
  rintro e w2 ⟨rS, mS, crS, cmS, rfl, hb, ho⟩
  have B2 : Hid (Below w.heap.size w w2) := B1.out.trans (hb.mono B1.out.size)
  have A2 : Hid (BoxAt w2 w.heap.size #[.slice sr P.k cr, .slice sm P.m cm, .int .i64 P.b] 25) := A1.out.kept hb
  have R2 : Hid (PkRead w2 rS mS P) := ho.read
  clear hb ho A1 B1
  go_wp2_with fail
  refine (HS.out w2 _ _ _ _ R2.out).mono ?_
  rintro e w3 ⟨rfl, hb⟩
  have B3 : Hid (Below w.heap.size w w3) := B2.out.trans (hb.mono B2.out.size)
  have A3 : Hid (BoxAt w3 w.heap.size #[.slice sr P.k cr, .slice sm P.m cm, .int .i64 P.b] 25) := A2.out.kept hb
  clear hb A2 B2 R2
  have ca0 : w3.cell? ⟨w.heap.size, 0, none⟩ = some (.slice sr P.k cr) := A3.out.cell 0 _ rfl
  have ca1 : w3.cell? ⟨w.heap.size, 1, none⟩ = some (.slice sm P.m cm) := A3.out.cell 1 _ rfl
  have ca2 : w3.cell? ⟨w.heap.size, 2, none⟩ = some (.int .i64 P.b) := A3.out.cell 2 _ rfl
  go_wp2_with fail
  refine (toPack_any sr sm cr cm P w3 hk hm HN.out (HR.out.late B3.out)).mono ?_
  clear ca0 ca1 ca2
  rintro e w4 ⟨rX, mX, crX, cmX, rfl, hb, ho⟩
  have B4 : Hid (Below w.heap.size w w4) := B3.out.trans (hb.mono B3.out.size)
  have A4 : Hid (BoxAt w4 w.heap.size #[.slice sr P.k cr, .slice sm P.m cm, .int .i64 P.b] 25) := A3.out.kept hb
  have R4 : Hid (PkRead w4 rX mX P) := ho.read
  clear hb ho A3 B3
  obtain ⟨hb, hx, hz9⟩ := boxAt_new w4 #[.slice rX P.k crX, .slice mX P.m cmX, .int .i64 P.b] 30
  have B5 : Hid (Below w.heap.size w (w4.alloc (.cells #[.slice rX P.k crX, .slice mX P.m cmX, .int .i64 P.b] 30))) := B4.out.trans (hb.mono B4.out.size)
  have A5 : Hid (BoxAt (w4.alloc (.cells #[.slice rX P.k crX, .slice mX P.m cmX, .int .i64 P.b] 30)) w.heap.size #[.slice sr P.k cr, .slice sm P.m cm, .int .i64 P.b] 25) := A4.out.kept hb
  have R5 : Hid (PkRead (w4.alloc (.cells #[.slice rX P.k crX, .slice mX P.m cmX, .int .i64 P.b] 30)) rX mX P) := R4.out.late hb
  have X5 : Hid (BoxAt (w4.alloc (.cells #[.slice rX P.k crX, .slice mX P.m cmX, .int .i64 P.b] 30)) w4.heap.size #[.slice rX P.k crX, .slice mX P.m cmX, .int .i64 P.b] 30) := hx
  clear hb hx hz9 A4 B4 R4
  go_wp2_with fail
  generalize w4.alloc (.cells #[.slice rX P.k crX, .slice mX P.m cmX, .int .i64 P.b] 30) = v5 at *
  refine (HI.out v5 _ _ _ _ R5.out).mono ?_
  rintro e w6 ⟨rfl, hb⟩
  have B6 : Hid (Below w.heap.size w w6) := B5.out.trans (hb.mono B5.out.size)
  have A6 : Hid (BoxAt w6 w.heap.size #[.slice sr P.k cr, .slice sm P.m cm, .int .i64 P.b] 25) := A5.out.kept hb
  have R6 : Hid (PkRead w6 rX mX P) := R5.out.late hb
  have X6 : Hid (BoxAt w6 w4.heap.size #[.slice rX P.k crX, .slice mX P.m cmX, .int .i64 P.b] 30) := X5.out.kept hb
  clear hb A5 B5 R5 X5
  have ca0 : w6.cell? ⟨w.heap.size, 0, none⟩ = some (.slice sr P.k cr) := A6.out.cell 0 _ rfl
  have ca1 : w6.cell? ⟨w.heap.size, 1, none⟩ = some (.slice sm P.m cm) := A6.out.cell 1 _ rfl
  have ca2 : w6.cell? ⟨w.heap.size, 2, none⟩ = some (.int .i64 P.b) := A6.out.cell 2 _ rfl
  have cx0 : w6.cell? ⟨w4.heap.size, 0, none⟩ = some (.slice rX P.k crX) := X6.out.cell 0 _ rfl
  have cx1 : w6.cell? ⟨w4.heap.size, 1, none⟩ = some (.slice mX P.m cmX) := X6.out.cell 1 _ rfl
  have cx2 : w6.cell? ⟨w4.heap.size, 2, none⟩ = some (.int .i64 P.b) := X6.out.cell 2 _ rfl
  go_wp2_with fail
  go_region_with (first
    | (go_at_call 9; refine (toPack_any sr sm cr cm P _ hk hm HN.out (HR.out.late (B6.out.trans ((since_drew (since_refl w6)).below.mono B6.out.size)))).mono ?_; rintro e y7 ⟨rY, mY, crY, cmY, rfl, hb, ho⟩; have S7 : Hid (Since w6 y7) := since_call (since_drew (since_refl _)) hb; have OY : Hid (PkRead y7 rY mY P) := ho.read; have RX7 : Hid (PkRead y7 rX mX P) := R6.out.late S7.out.below; have cx0 : y7.cell? ⟨w4.heap.size, 0, none⟩ = some (.slice rX P.k crX) := (X6.out.kept S7.out.below).cell 0 _ rfl; have cx1 : y7.cell? ⟨w4.heap.size, 1, none⟩ = some (.slice mX P.m cmX) := (X6.out.kept S7.out.below).cell 1 _ rfl; have cx2 : y7.cell? ⟨w4.heap.size, 2, none⟩ = some (.int .i64 P.b) := (X6.out.kept S7.out.below).cell 2 _ rfl; clear hb ho)
    | (go_at_call 11; refine (eqPack_same _ _ _ _ _ _ _ _ P _ hk hm HN.out RX7.out OY.out).mono ?_; rintro e y8 ⟨rfl, hb⟩; have B8 : Hid (Below w.heap.size w y8) := B6.out.trans ((since_call S7.out hb).below.mono B6.out.size); clear hb))
  all_goals
    go_wp2_with fail
    go_ret
    exact ⟨rfl, B8.out⟩
end Go.Proofs.Ytbdjjggaahjjpaa
