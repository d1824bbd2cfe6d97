/- What is proved here: the law of HitsOf walks to true, where the specification's function and the program's hand back the same hits in new memory; nothing that was there turns.
   What is said here: a text turned round, byte by byte: plain mathematics, for FnMeaning. -/
import Derived.Test.YtfeolbgenpknfaaQAAEqW
import Derived.Test.YtfeolbgenpknfaaQHitHW
import Derived.Test.YtfeolbgenpknfaaQBackMToBytesRowW
namespace Go.Proofs.Ytfeolbgenpknfaa
open Go.RowKit

theorem NewHits.sl {w w' : World} {L : List (Nat × Nat)} {e : Ending} (h : NewHits w L e w') : ∃ (sa : Option Addr) (cap : Nat), e = .returned (.slice sa L.length cap) ∧ Below w.heap.size w w' ∧ HSl w' w.heap.size w'.heap.size sa L.length (pairsL L) := by
  obtain ⟨v, rfl, hb, ho⟩ := h
  obtain ⟨sa, cap, rfl, hs⟩ := hits_sl ho
  exact ⟨sa, cap, rfl, hb, hs⟩
set_option maxRecDepth 100000 in
set_option maxHeartbeats 4000000 in
theorem law_HitsOf (sa : Option Addr) (k cap : Nat) (s : Nat → Option Addr) (n c : Nat → Nat) (f : Nat → Nat → Atm) (t : ByteArray) (L : List (Nat × Nat)) (w : World) (ht : t.size ≤ maxLen) (hk : k ≤ maxLen) (hr : AARows w w.heap.size sa k s n c f) (hn : ∀ i, i < k → n i ≤ maxLen) (hc : ∀ i, i < k → ∀ j, j < n i → (f i j).c.size ≤ maxLen) (hL : L.length ≤ 3200000)
    (hs : ∀ (W : World) (x : Option Addr) (cx : Nat) (s' : Nat → Option Addr) (c' : Nat → Nat), AARows W W.heap.size x k s' n c' f → Calls Try.prog 22 #[.slice x k cx, .string t] W fun e W' => NewHits W L e W')
    (hi : ∀ (W : World) (x : Option Addr) (cx : Nat) (s' : Nat → Option Addr) (c' : Nat → Nat), AARows W W.heap.size x k s' n c' f → Calls Try.prog 21 #[.slice x k cx, .string t] W fun e W' => NewHits W L e W') :
    Calls Try.prog 4 #[.slice sa k cap, .string t] w fun e w' => e = .returned (.bool true) ∧ Below w.heap.size w w' := by
  have HR : Hid (AARows w w.heap.size sa k s n c f) := hr
  unfold maxLen at ht
  by_cases htl : t.size ≤ 1048576
  case neg =>
    have htl2 : (1048576 : Int) < (t.size : Int) := by omega
    clear hs hi hr hn hc
    go_enter Try.func4, Try.ntmps4
    go_wp2_with fail
    go_ret
    exact ⟨rfl, Below.refl _ _⟩
  have htl2 : ¬ (1048576 : Int) < (t.size : Int) := by omega
  have CZ := szSS_any sa k cap s n c f w hk hr hn hc
  have HS : Hid (∀ (W : World) (x : Option Addr) (cx : Nat) (s' : Nat → Option Addr) (c' : Nat → Nat), AARows W W.heap.size x k s' n c' f → Calls Try.prog 22 #[.slice x k cx, .string t] W fun e W' => NewHits W L e W') := hs
  have HI : Hid (∀ (W : World) (x : Option Addr) (cx : Nat) (s' : Nat → Option Addr) (c' : Nat → Nat), AARows W W.heap.size x k s' n c' f → Calls Try.prog 21 #[.slice x k cx, .string t] W fun e W' => NewHits W L e W') := hi
  clear hr hn hc hs hi
  go_enter Try.func4, Try.ntmps4
  go_wp2_with fail
  refine CZ.mono ?_
  clear CZ
  rintro e w0 ⟨⟨z, rfl, hz⟩, hb⟩
  have B0 : Hid (Below w.heap.size w w0) := hb
  clear hb
  rcases hz with hz | ⟨hz, hl, htot, hcs⟩
  · go_wp2_with fail
    go_ret
    exact ⟨rfl, B0.out⟩
  have hz' : ¬ z < 0 := by omega
  have HN : Hid (∀ i, i < k → n i ≤ 1048576) := fun i hi => Nat.le_trans (totN_le hi) htot
  have HTOT : Hid (totN n k ≤ 1048576) := htot
  have htotI : ¬ ((1 + totN n k * 3 : Nat) : Int) < 0 := by omega
  clear hcs htot
  go_wp2_with fail
  refine (toSS_any sa k cap s n c f w0 hl HN.out (HR.out.late B0.out)).mono ?_
  rintro e w1 ⟨h1, s1, c1, rfl, hb, ho⟩
  have R1 : Hid (AARows w1 w1.heap.size (some ⟨w0.heap.size, 0, none⟩) k s1 n c1 f) := ho.read
  have B1 : Hid (Below w.heap.size w w1) := B0.out.trans (hb.mono B0.out.size)
  clear hb ho
  go_wp2_with fail
  refine (HS.out w1 _ _ s1 c1 R1.out).mono ?_
  rintro e w2 hNH
  obtain ⟨sS, cS, rfl, hb, ho⟩ := hNH.sl
  have S2 : Hid (HSl w2 w1.heap.size w2.heap.size sS L.length (pairsL L)) := ho
  have Z2 : Hid (w1.heap.size ≤ w2.heap.size) := hb.size
  have B2 : Hid (Below w.heap.size w w2) := B1.out.trans (hb.mono B1.out.size)
  clear hb ho hNH R1
  go_wp2_with fail
  refine (toSS_any sa k cap s n c f w2 hl HN.out (HR.out.late B2.out)).mono ?_
  rintro e w3 ⟨h3, s3, c3, rfl, hb, ho⟩
  have X3 : Hid (AAOwn w3 w2.heap.size k h3 s3 n c3 f) := ho
  have S3 : Hid (HSl w3 w1.heap.size w2.heap.size sS L.length (pairsL L)) := S2.out.kept hb
  have Z3 : Hid (w2.heap.size ≤ w3.heap.size) := hb.size
  have B3 : Hid (Below w.heap.size w w3) := B2.out.trans (hb.mono B2.out.size)
  clear hb ho S2
  go_wp2_with fail
  refine (HI.out w3 _ _ s3 c3 X3.out.read).mono ?_
  rintro e w4 hNH
  obtain ⟨sG, cG, rfl, hb, ho⟩ := hNH.sl
  have G4 : Hid (HSl w4 w3.heap.size w4.heap.size sG L.length (pairsL L)) := ho
  have X4 : Hid (AAOwn w4 w2.heap.size k h3 s3 n c3 f) := X3.out.kept hb
  have S4 : Hid (HSl w4 w1.heap.size w2.heap.size sS L.length (pairsL L)) := S3.out.kept hb
  have Z4 : Hid (w3.heap.size ≤ w4.heap.size) := hb.size
  have ZX : Hid (h3 k ≤ w3.heap.size) := X3.out.sz
  have B4 : Hid (Below w.heap.size w w4) := B3.out.trans (hb.mono B3.out.size)
  clear hb ho hNH S3 X3
  go_wp2_with fail
  refine (eqHits_same _ _ L.length _ _ (pairsL L) w4 (by omega) G4.out.row S4.out.row).mono ?_
  rintro e w5 ⟨rfl, hb⟩
  have G5 : Hid (HSl w5 w3.heap.size w4.heap.size sG L.length (pairsL L)) := G4.out.kept hb
  have X5 : Hid (AAOwn w5 w2.heap.size k h3 s3 n c3 f) := X4.out.kept hb
  have S5 : Hid (HSl w5 w1.heap.size w2.heap.size sS L.length (pairsL L)) := S4.out.kept hb
  have Z5 : Hid (w4.heap.size ≤ w5.heap.size) := hb.size
  have B5 : Hid (Below w.heap.size w w5) := B4.out.trans (hb.mono B4.out.size)
  clear hb G4 X4 S4 B4
  go_wp2_with fail
  refine (toSS_any sa k cap s n c f w5 hl HN.out (HR.out.late B5.out)).mono ?_
  rintro e w6 ⟨h6, s6, c6, rfl, hb, ho⟩
  have Y6 : Hid (AARows w6 w6.heap.size (some ⟨w5.heap.size, 0, none⟩) k s6 n c6 f) := ho.read
  have G6 : Hid (HSl w6 w3.heap.size w4.heap.size sG L.length (pairsL L)) := G5.out.kept hb
  have X6 : Hid (AAOwn w6 w2.heap.size k h3 s3 n c3 f) := X5.out.kept hb
  have S6 : Hid (HSl w6 w1.heap.size w2.heap.size sS L.length (pairsL L)) := S5.out.kept hb
  have Z6 : Hid (w5.heap.size ≤ w6.heap.size) := hb.size
  have B6 : Hid (Below w.heap.size w w6) := B5.out.trans (hb.mono B5.out.size)
  clear hb ho G5 X5 S5 B5
  go_wp2_with fail
  refine (eqSS_same _ _ k _ _ s3 s6 n c3 c6 f w6 hl HN.out X6.out.read Y6.out).mono ?_
  rintro e w7 ⟨rfl, hb⟩
  have G7 : Hid (HSl w7 w3.heap.size w4.heap.size sG L.length (pairsL L)) := G6.out.kept hb
  have X7 : Hid (AAOwn w7 w2.heap.size k h3 s3 n c3 f) := X6.out.kept hb
  have S7 : Hid (HSl w7 w1.heap.size w2.heap.size sS L.length (pairsL L)) := S6.out.kept hb
  have Z7 : Hid (w6.heap.size ≤ w7.heap.size) := hb.size
  have B7 : Hid (Below w.heap.size w w7) := B6.out.trans (hb.mono B6.out.size)
  clear hb G6 X6 S6 B6 Y6
  go_wp2_with fail
  refine (markSS_any w2.heap.size k _ h3 s3 n c3 f w7 hl HTOT.out X7.out).mono ?_
  rintro e w8 ⟨rfl, hon⟩
  have hX0 : w2.heap.size < h3 0 := X7.out.lt
  have Z8 : Hid (w7.heap.size ≤ w8.heap.size) := hon.size
  have G8 : Hid (HSl w8 w3.heap.size w4.heap.size sG L.length (pairsL L)) := G7.out.onlyB hon (Or.inr ZX.out)
  have S8 : Hid (HSl w8 w1.heap.size w2.heap.size sS L.length (pairsL L)) := S7.out.onlyB hon (Or.inl (Nat.le_of_lt hX0))
  have B8 : Hid (Below w.heap.size w w8) := B7.out.trans (hon.below (by have := B2.out.size; omega) B7.out.size)
  clear hon G7 X7 S7 hX0
  generalize ((1 + totN n k * 3 : Nat) : Int) = kX at htotI ⊢
  go_wp2_with fail
  refine (eqHits_same _ _ L.length _ _ (pairsL L) w8 (by omega) G8.out.row S8.out.row).mono ?_
  rintro e w9 ⟨rfl, hb⟩
  have G9 : Hid (HSl w9 w3.heap.size w4.heap.size sG L.length (pairsL L)) := G8.out.kept hb
  have S9 : Hid (HSl w9 w1.heap.size w2.heap.size sS L.length (pairsL L)) := S8.out.kept hb
  have Z9 : Hid (w8.heap.size ≤ w9.heap.size) := hb.size
  have B9 : Hid (Below w.heap.size w w9) := B8.out.trans (hb.mono B8.out.size)
  clear hb G8 S8 B8
  go_wp2_with fail
  have CM := markHits_any sG L.length cG w3.heap.size w4.heap.size (pairsL L) w9 (by omega) G9.out
  obtain ⟨kG, hKG⟩ : ∃ kG : Int, ((1 + L.length * 2 : Nat) : Int) = kG := ⟨_, rfl⟩
  have HKG : Hid (((1 + L.length * 2 : Nat) : Int) = kG) := hKG
  rw [hKG] at CM
  have hkG : ¬ kG < 0 := by omega
  clear hKG
  refine CM.mono ?_
  clear CM
  rintro e w10 ⟨rfl, hon, hsl⟩
  have G10 : Hid (HSl w10 w3.heap.size w4.heap.size sG L.length markP) := hsl
  have Z10 : Hid (w9.heap.size ≤ w10.heap.size) := hon.size
  have S10 : Hid (HSl w10 w1.heap.size w2.heap.size sS L.length (pairsL L)) := S9.out.onlyA hon (Or.inl Z3.out)
  have B10 : Hid (Below w.heap.size w w10) := B9.out.trans (hon.below B3.out.size B9.out.size)
  clear hon hsl G9 S9
  go_wp2_with fail
  have CH := heldHits_any sG L.length cG w10 (by omega) G10.out.row
  rw [HKG.out] at CH
  refine CH.mono ?_
  clear CH
  rintro e w11 ⟨rfl, hb⟩
  have G11 : Hid (HSl w11 w3.heap.size w4.heap.size sG L.length markP) := G10.out.kept hb
  have S11 : Hid (HSl w11 w1.heap.size w2.heap.size sS L.length (pairsL L)) := S10.out.kept hb
  have Z11 : Hid (w10.heap.size ≤ w11.heap.size) := hb.size
  have B11 : Hid (Below w.heap.size w w11) := B10.out.trans (hb.mono B10.out.size)
  clear hb G10 S10 B10
  go_wp2_with fail
  refine (toSS_any sa k cap s n c f w11 hl HN.out (HR.out.late B11.out)).mono ?_
  rintro e w12 ⟨h12, s12, c12, rfl, hb, ho⟩
  have V12 : Hid (AARows w12 w12.heap.size (some ⟨w11.heap.size, 0, none⟩) k s12 n c12 f) := ho.read
  have G12 : Hid (HSl w12 w3.heap.size w4.heap.size sG L.length markP) := G11.out.kept hb
  have S12 : Hid (HSl w12 w1.heap.size w2.heap.size sS L.length (pairsL L)) := S11.out.kept hb
  have B12 : Hid (Below w.heap.size w w12) := B11.out.trans (hb.mono B11.out.size)
  clear hb ho G11 S11
  go_wp2_with fail
  refine (HI.out w12 _ _ s12 c12 V12.out).mono ?_
  rintro e w13 hNH
  obtain ⟨sH, cH, rfl, hb, ho⟩ := hNH.sl
  have H13 : Hid (HSl w13 w12.heap.size w13.heap.size sH L.length (pairsL L)) := ho
  have G13 : Hid (HSl w13 w3.heap.size w4.heap.size sG L.length markP) := G12.out.kept hb
  have S13 : Hid (HSl w13 w1.heap.size w2.heap.size sS L.length (pairsL L)) := S12.out.kept hb
  have B13 : Hid (Below w.heap.size w w13) := B12.out.trans (hb.mono B12.out.size)
  clear hb ho hNH G12 S12 V12
  go_wp2_with fail
  refine (eqHits_same _ _ L.length _ _ (pairsL L) w13 (by omega) H13.out.row S13.out.row).mono ?_
  rintro e w14 ⟨rfl, hb⟩
  have G14 : Hid (HSl w14 w3.heap.size w4.heap.size sG L.length markP) := G13.out.kept hb
  have B14 : Hid (Below w.heap.size w w14) := B13.out.trans (hb.mono B13.out.size)
  clear hb G13 S13 H13
  go_wp2_with fail
  have CH := heldHits_any sG L.length cG w14 (by omega) G14.out.row
  rw [HKG.out] at CH
  refine CH.mono ?_
  rintro e w15 ⟨rfl, hb⟩
  have B15 : Hid (Below w.heap.size w w15) := B14.out.trans (hb.mono B14.out.size)
  clear hb CH
  go_wp2_with fail
  go_ret
  exact ⟨rfl, B15.out⟩
end Go.Proofs.Ytfeolbgenpknfaa
namespace Go.Proofs.Ytfeolbgenpknfaa
open Go.RowKit

/-- The first bytes of a text turned round. -/
def backTo (t : ByteArray) (k : Nat) : ByteArray := ⟨(t.data.toList.reverse.take k).toArray⟩
theorem backTo_zero (t : ByteArray) : backTo t 0 = ⟨#[]⟩ := by simp [backTo]
theorem backTo_all (t : ByteArray) : backTo t t.size = backT t := by
  unfold backTo backT
  rw [List.take_of_length_le (by simp)]
theorem backTo_succ {t : ByteArray} {j k : Nat} (h : j + k + 1 = t.size) : backTo t (k + 1) = (backTo t k).push (t[j]'(by omega)) := by
  unfold backTo
  apply ByteArray.ext
  have hl : t.data.toList.length = t.size := by simp
  have h1 : k < t.data.toList.reverse.length := by rw [List.length_reverse, hl]; omega
  rw [List.take_succ_eq_append_getElem h1, List.getElem_reverse]
  have h2 : t.data.toList.length - 1 - k = j := by rw [hl]; omega
  simp only [h2]
  simp [ByteArray.push]
  rfl
theorem backTo_size {t : ByteArray} {k : Nat} (h : k ≤ t.size) : (backTo t k).size = k := by
  show (t.data.toList.reverse.take k).toArray.size = k
  simp
  omega
end Go.Proofs.Ytfeolbgenpknfaa
