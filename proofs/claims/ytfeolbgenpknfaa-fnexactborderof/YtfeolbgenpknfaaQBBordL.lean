/- What is proved here: the law of BorderOf walks to true, where the specification's function and the program's hand back the same; nothing that was there turns. -/
import Derived.Test.YtfeolbgenpknfaaQCellH
namespace Go.Proofs.Ytfeolbgenpknfaa
open Go.RowKit

set_option maxRecDepth 100000 in
set_option maxHeartbeats 2000000 in
theorem law_BorderOf (sa : Option Addr) (n cap : Nat) (f : Nat → Cel) (t : ByteArray) (d : Int) (w : World) (ht : t.size ≤ maxLen) (hn : n ≤ maxLen) (hr : CRow w w.heap.size sa n f) (hc : ∀ i, i < n → (f i).c.size ≤ maxLen)
    (hs : t.size ≤ 1048576 → n ≤ 1048576 → (∀ i, i < n → (f i).c.size ≤ 1048576) → ∀ (W : World) (x : Option Addr) (k : Nat), Below w.heap.size w W → CRow W W.heap.size x n f → Calls Try.prog 39 #[.slice x n k, .string t] W fun e W' => e = .returned (.int .i64 d) ∧ Below W.heap.size W W')
    (hi : t.size ≤ 1048576 → n ≤ 1048576 → (∀ i, i < n → (f i).c.size ≤ 1048576) → ∀ (W : World) (x : Option Addr) (k : Nat), Below w.heap.size w W → CRow W W.heap.size x n f → Calls Try.prog 40 #[.slice x n k, .string t] W fun e W' => e = .returned (.int .i64 d) ∧ Below W.heap.size W W') :
    Calls Try.prog 6 #[.slice sa n cap, .string t] w fun e w' => e = .returned (.bool true) ∧ Below w.heap.size w w' := by
  have HR : Hid (CRow w w.heap.size sa n f) := hr
  unfold maxLen at ht
  by_cases htl : t.size ≤ 1048576
  case neg =>
    have htl2 : (1048576 : Int) < (t.size : Int) := by omega
    clear hs hi
    go_enter Try.func6, Try.ntmps6
    go_wp2_with fail
    go_ret
    exact ⟨rfl, Below.refl _ _⟩
  have htl2 : ¬ (1048576 : Int) < (t.size : Int) := by omega
  go_enter Try.func6, Try.ntmps6
  go_wp2_with fail
  refine (szCells_any sa n cap f w hn hr hc).mono ?_
  clear hr hc hn
  rintro e w0 ⟨⟨z, rfl, hz⟩, hb⟩
  have B0 : Hid (Below w.heap.size w w0) := hb
  clear hb
  rcases hz with hz | ⟨hz, hl, hcs⟩
  · clear hs hi
    go_wp2_with fail
    go_ret
    exact ⟨rfl, B0.out⟩
  have HS : Hid (∀ (W : World) (x : Option Addr) (k : Nat), Below w.heap.size w W → CRow W W.heap.size x n f → Calls Try.prog 39 #[.slice x n k, .string t] W fun e W' => e = .returned (.int .i64 d) ∧ Below W.heap.size W W') := hs htl hl hcs
  have HI : Hid (∀ (W : World) (x : Option Addr) (k : Nat), Below w.heap.size w W → CRow W W.heap.size x n f → Calls Try.prog 40 #[.slice x n k, .string t] W fun e W' => e = .returned (.int .i64 d) ∧ Below W.heap.size W W') := hi htl hl hcs
  have hz' : ¬ z < 0 := by omega
  clear hs hi hcs
  go_wp2_with fail
  refine (toCells_any sa n cap f w0 hl (HR.out.late B0.out)).mono ?_
  rintro e w1 ⟨rfl, hb, ho⟩
  have B1 : Hid (Below w.heap.size w w1) := B0.out.trans (hb.mono B0.out.size)
  have R1 : Hid (CRow w1 w1.heap.size (some ⟨w0.heap.size, 0, none⟩) n f) := ho.row ho.lt
  clear hb ho
  go_wp2_with fail
  refine (HS.out w1 _ _ B1.out R1.out).mono ?_
  rintro e w2 ⟨rfl, hb⟩
  have B2 : Hid (Below w.heap.size w w2) := B1.out.trans (hb.mono B1.out.size)
  clear hb R1
  go_wp2_with fail
  refine (toCells_any sa n cap f w2 hl (HR.out.late B2.out)).mono ?_
  rintro e w3 ⟨rfl, hb, ho⟩
  have B3 : Hid (Below w.heap.size w w3) := B2.out.trans (hb.mono B2.out.size)
  have R3 : Hid (CRow w3 w3.heap.size (some ⟨w2.heap.size, 0, none⟩) n f) := ho.row ho.lt
  clear hb ho
  go_wp2_with fail
  refine (HI.out w3 _ _ B3.out R3.out).mono ?_
  rintro e w4 ⟨rfl, hb⟩
  have B4 : Hid (Below w.heap.size w w4) := B3.out.trans (hb.mono B3.out.size)
  have R4 : Hid (CRow w4 w4.heap.size (some ⟨w2.heap.size, 0, none⟩) n f) := R3.out.late hb
  clear hb R3
  go_wp2_with fail
  refine (toCells_any sa n cap f w4 hl (HR.out.late B4.out)).mono ?_
  rintro e w5 ⟨rfl, hb, ho⟩
  have B5 : Hid (Below w.heap.size w w5) := B4.out.trans (hb.mono B4.out.size)
  have R5 : Hid (CRow w5 w5.heap.size (some ⟨w4.heap.size, 0, none⟩) n f) := ho.row ho.lt
  have Q5 : Hid (CRow w5 w5.heap.size (some ⟨w2.heap.size, 0, none⟩) n f) := R4.out.late hb
  clear hb ho R4
  go_wp2_with fail
  refine (eqCells_same _ _ n _ _ f w5 hl Q5.out R5.out).mono ?_
  rintro e w6 ⟨rfl, hb⟩
  have B6 : Hid (Below w.heap.size w w6) := B5.out.trans (hb.mono B5.out.size)
  clear hb
  go_wp2_with fail
  go_ret
  exact ⟨rfl, B6.out⟩
end Go.Proofs.Ytfeolbgenpknfaa
