/- What is proved here: the program's ClassRight says whether a text is a right class, isByte whether a number is a byte's; nothing that was there turns.
   What is proved here: the program's CellsRight says whether a row of cells is right; nothing that was there turns.
   What is proved here: a right row is made ready to be gone along, in a new block; nothing that was there turns.
   What is proved here: the program closes places by one subtraction; nothing that was there turns.
   What is proved here: VecNew, the program's and the specification's, hands back so many bits, none of them on, in new memory, or nothing; nothing that was there turns.
   What is proved here: the program writes places as a vector, in new memory; nothing that was there turns. -/
import Derived.Test.YtlgnplnmcdjbiaaGreatQBehindWToSetOfW
import Derived.Test.YtlgnplnmcdjbiaaGreatQCellMToWordM
import Derived.Deep.RegionWith
import Derived.Test.YtlgnplnmcdjbiaaGreatQSpecKVecWToWordsForW
import Derived.Test.YtlgnplnmcdjbiaaGreatQGetBWToClassRightW
import Derived.RegionTactic
import Derived.BigRegion
namespace Go.Proofs.YtlgnplnmcdjbiaaGreat
open Go.RowKit

open Classical in
set_option maxHeartbeats 1000000 in
theorem implRightC_any (t : ByteArray) (w : World) (hs : t.size ≤ maxLen) :
    Calls Tryz.prog 111 #[.string t] w fun e w' => e = .returned (.bool (decide (RightC t))) ∧ Below w.heap.size w w' := by
  go_enter Tryz.func111, Tryz.ntmps111
  go_wp2_with fail
  refine (setOfClass_any t _ hs).mono ?_
  rintro e w1 ⟨hb1, h⟩
  have HB : Hid (Below w.heap.size w w1) := hb1
  clear hb1
  rcases h with ⟨h, rfl⟩ | ⟨h, rfl⟩
  · have H : Hid (RightC t) := h
    clear h
    unfold setV
    go_wp2
    go_ret
    exact ⟨by rw [decide_eq_true H.out]; rfl, HB.out.alloc HB.out.size _⟩
  · have H : Hid (¬ RightC t) := h
    clear h
    unfold setV
    go_wp2
    go_ret
    exact ⟨by rw [decide_eq_false H.out]; rfl, HB.out.alloc HB.out.size _⟩
end Go.Proofs.YtlgnplnmcdjbiaaGreat
namespace Go.Proofs.YtlgnplnmcdjbiaaGreat
open Go.RowKit

open Classical in
theorem implRightK_yes (t : ByteArray) (w : World) (hs : t.size ≤ maxLen) (h : RightC t) :
    Calls Tryz.prog 111 #[.string t] w fun e w' => e = .returned (.bool true) ∧ Below w.heap.size w w' := by
  refine (implRightC_any t w hs).mono ?_
  rintro e w' ⟨rfl, hb⟩
  exact ⟨by rw [decide_eq_true h], hb⟩
open Classical in
theorem implRightK_no (t : ByteArray) (w : World) (hs : t.size ≤ maxLen) (h : ¬ RightC t) :
    Calls Tryz.prog 111 #[.string t] w fun e w' => e = .returned (.bool false) ∧ Below w.heap.size w w' := by
  refine (implRightC_any t w hs).mono ?_
  rintro e w' ⟨rfl, hb⟩
  exact ⟨by rw [decide_eq_false h], hb⟩

open Classical in
set_option maxRecDepth 100000 in
set_option maxHeartbeats 4000000 in
theorem implKRight_any (sa : Option Addr) (n cap : Nat) (f : Nat → Cel) (w : World) (hn : n ≤ maxLen) (hr : CRow w w.heap.size sa n f) (hc : ∀ i, i < n → (f i).c.size ≤ maxLen) :
    Calls Tryz.prog 102 #[.slice sa n cap] w fun e w' => e = .returned (.bool (decide (CellsOk n f))) ∧ Below w.heap.size w w' := by
  unfold maxLen at hn
  have HC : Hid (∀ i, i < n → (f i).c.size ≤ maxLen) := hc
  have HR : Hid (CRow w w.heap.size sa n f) := hr
  clear hc hr
  by_cases h1 : (n : Int) < 1
  · rw [decide_eq_false (fun h : CellsOk n f => by have := h.1; omega)]
    go_enter Tryz.func102, Tryz.ntmps102
    go_wp2
    go_ret
    exact ⟨rfl, Below.refl _ _⟩
  by_cases h2 : 60 < (n : Int)
  · rw [decide_eq_false (fun h : CellsOk n f => by have := h.2.1; omega)]
    go_enter Tryz.func102, Tryz.ntmps102
    go_wp2
    go_ret
    exact ⟨rfl, Below.refl _ _⟩
  go_enter Tryz.func102, Tryz.ntmps102
  go_wp2
  go_loopw [15] (fun i wr => ∃ k : Nat, k ≤ n ∧ i = .int .i64 (k : Int) ∧ Below w.heap.size w wr ∧ ∀ i, i < k → CellOk (f i)) (fun i _ => n - (intOf i).toNat)
  case atStart => exact ⟨0, Nat.zero_le _, rfl, Below.refl _ _, fun i hi => by omega⟩
  case round =>
    obtain ⟨k, hk, rfl, hbel, hall⟩ := hrel
    have HB : Hid (Below w.heap.size w wr) := hbel
    have HA : Hid (∀ i, i < k → CellOk (f i)) := hall
    clear hall
    by_cases hkl : k < n
    · obtain ⟨bb, off, rfl, hbb, hat⟩ := HR.out.at hbel hkl
      obtain ⟨c0, c1, c2⟩ := hat
      have HK : Hid ((f k).c.size ≤ maxLen) := HC.out k hkl
      clear hbel
      have hki : (k : Int) < (n : Int) := by omega
      have hk0 : (0 : Int) ≤ (k : Int) := by omega
      obtain ⟨⟨ac, al, am⟩, ha⟩ : ∃ a, f k = a := ⟨_, rfl⟩
      have HF : Hid (f k = ⟨ac, al, am⟩) := ha
      rw [ha] at c0 c1 c2 HK
      simp only at c0 c1 c2 HK
      clear ha
      have bx := CBox.new wr ⟨ac, al, am⟩ 123
      simp only at bx
      have BX : Hid (Below w.heap.size w (wr.alloc (.cells #[.string ac, .bool al, .bool am] 123))) := HB.out.alloc HB.out.size _
      have BAD : Hid (¬ CellOk ⟨ac, al, am⟩ → ¬ CellsOk n f) := fun h hp => h (by rw [← HF.out]; exact hp.2.2 k hkl)
      by_cases hce : 0 < ac.size
      · obtain ⟨hq1, hq2⟩ := someC hce
        go_wp2_with fail
        generalize wr.alloc (.cells #[.string ac, .bool al, .bool am] 123) = v at *
        generalize wr.heap.size = p at *
        clear HB c0 c1 c2
        by_cases hcr : RightC ac
        · have HAR : Hid (CellOk ⟨ac, al, am⟩) := ⟨hcr, hce⟩
          refine (implRightK_yes ac _ HK.out hcr).mono ?_
          rintro e w1 ⟨rfl, hb1⟩
          have B1 : Hid (Below w.heap.size w w1) := BX.out.trans (hb1.mono BX.out.size)
          clear hb1 bx BX hcr
          go_wp2_with fail
          go_roundw
          case rel => exact ⟨k + 1, by omega, by go_num, B1.out, stepCell HA.out (by rw [HF.out]; exact HAR.out)⟩
          case measure => simp [intOf]; omega
        · have HBAD : Hid (¬ CellsOk n f) := BAD.out (fun h => hcr h.1)
          refine (implRightK_no ac _ HK.out hcr).mono ?_
          rintro e w1 ⟨rfl, hb1⟩
          have B1 : Hid (Below w.heap.size w w1) := BX.out.trans (hb1.mono BX.out.size)
          clear hcr hb1 bx BX
          go_wp2_with fail
          go_ret
          exact ⟨by rw [decide_eq_false HBAD.out]; rfl, B1.out⟩
      · obtain ⟨hq1, hq2⟩ := noneC hce
        have HBAD : Hid (¬ CellsOk n f) := BAD.out (fun h => hce h.2)
        go_wp2_with fail
        go_ret
        exact ⟨by rw [decide_eq_false HBAD.out]; rfl, BX.out⟩
    · have hki : ¬ (k : Int) < (n : Int) := by omega
      obtain rfl : k = n := by omega
      clear hbel
      have HE : Hid (CellsOk k f) := ⟨by omega, by omega, HA.out⟩
      go_wp2
      go_ret
      exact ⟨by rw [decide_eq_true HE.out]; rfl, HB.out⟩
end Go.Proofs.YtlgnplnmcdjbiaaGreat
namespace Go.Proofs.YtlgnplnmcdjbiaaGreat
open Go.RowKit

/-- A row that is gone along, in its block. -/
structure KRow (W : World) (b : Nat) (sa : Option Addr) (n cap sk lo : Nat) (d u : Int) (tab : Nat → Nat) : Prop where
  c0 : W.cell? ⟨b, 0, none⟩ = some (.slice sa n cap)
  c1 : W.cell? ⟨b, 1, none⟩ = some (.int .u64 (sk : Int))
  c2 : W.cell? ⟨b, 2, none⟩ = some (.int .u64 (lo : Int))
  c3 : W.cell? ⟨b, 3, none⟩ = some (.int .u32 d)
  c4 : W.cell? ⟨b, 4, none⟩ = some (.int .i32 u)
  tb : ∀ j, j < 256 → W.cell? ⟨b, 6 + j, none⟩ = some (.int .u64 (tab j : Int))
  fr : ∀ j, j < 262 → W.frozen? ⟨b, j, none⟩ = false
  lt : b < W.heap.size
theorem Tryz.rowZero : Tryz.zeroCells114 = #[.slice none 0 0, .int .u64 0, .int .u64 0, .int .u32 0, .int .i32 0, .int .u32 0] ++ Array.replicate 256 (.int .u64 0) := by kernel_rfl
theorem krow_new (W : World) (sa : Option Addr) (n cap sk lo : Nat) (ty : TypeId) : KRow (W.alloc (.cells (((Tryz.zeroCells114.setIfInBounds 0 (.slice sa n cap)).setIfInBounds 1 (.int .u64 (sk : Int))).setIfInBounds 2 (.int .u64 (lo : Int))) ty)) W.heap.size sa n cap sk lo 0 0 (fun _ => 0) := by
  rw [Tryz.rowZero]
  refine ⟨?_, ?_, ?_, ?_, ?_, fun j hj => ?_, fun j hj => frozen_of_row _ _ _ _ _ (heap_alloc_new W _), by simp⟩
  · rw [World.cell?_alloc_mark]; simp
  · rw [World.cell?_alloc_mark]; simp
  · rw [World.cell?_alloc_mark]; simp
  · rw [World.cell?_alloc_mark]; simp
  · rw [World.cell?_alloc_mark]; simp
  · rw [World.cell?_alloc_mark, Array.getElem?_setIfInBounds_ne (by omega), Array.getElem?_setIfInBounds_ne (by omega), Array.getElem?_setIfInBounds_ne (by omega), Array.getElem?_append_right (by simp)]
    simp [hj]
open Classical in
theorem implKRight_yes (sa : Option Addr) (n cap : Nat) (f : Nat → Cel) (w : World) (hn : n ≤ maxLen) (hr : CRow w w.heap.size sa n f) (hc : ∀ i, i < n → (f i).c.size ≤ maxLen) (h : CellsOk n f) :
    Calls Tryz.prog 102 #[.slice sa n cap] w fun e w' => e = .returned (.bool true) ∧ Below w.heap.size w w' :=
  (implKRight_any sa n cap f w hn hr hc).mono fun _ _ h2 => ⟨by rw [h2.1, decide_eq_true h], h2.2⟩
open Classical in
theorem implKRight_no (sa : Option Addr) (n cap : Nat) (f : Nat → Cel) (w : World) (hn : n ≤ maxLen) (hr : CRow w w.heap.size sa n f) (hc : ∀ i, i < n → (f i).c.size ≤ maxLen) (h : ¬ CellsOk n f) :
    Calls Tryz.prog 102 #[.slice sa n cap] w fun e w' => e = .returned (.bool false) ∧ Below w.heap.size w w' :=
  (implKRight_any sa n cap f w hn hr hc).mono fun _ _ h2 => ⟨by rw [h2.1, decide_eq_false h], h2.2⟩
set_option maxRecDepth 100000 in
set_option maxHeartbeats 4000000 in
theorem rowOf_yes (sa : Option Addr) (n cap : Nat) (f : Nat → Cel) (w : World) (hn : n ≤ maxLen) (hr : CRow w w.heap.size sa n f) (hc : ∀ i, i < n → (f i).c.size ≤ maxLen) (h : CellsOk n f) :
    Calls Tryz.prog 96 #[.slice sa n cap] w fun e w' => ∃ b sk lo : Nat, e = .returned (.pointer (some ⟨b, 0, none⟩)) ∧ w.heap.size ≤ b ∧ Below w.heap.size w w' ∧ IsBits sk (behind (fun i => (f i).k) n) ∧ IsBits lo (behind (fun i => (f i).o) n) ∧ KRow w' b sa n cap sk lo 0 0 (fun _ => 0) := by
  have C := implKRight_yes sa n cap f w hn hr hc h
  have HR : Hid (CRow w w.heap.size sa n f) := hr
  have hn60 := h.2.1
  clear hn hr hc h
  go_enter Tryz.func96, Tryz.ntmps96
  go_wp2_with fail
  refine C.mono ?_
  rintro e w1 ⟨rfl, hb1⟩
  have B1 : Hid (Below w.heap.size w w1) := hb1
  clear hb1 C
  go_wp2_with fail
  refine (behindSkip_any sa n cap f w1 hn60 (HR.out.late B1.out)).mono ?_
  rintro e w2 ⟨sk, rfl, hsk, hb2⟩
  have B2 : Hid (Below w.heap.size w w2) := B1.out.trans (hb2.mono B1.out.size)
  have HSK : Hid (IsBits sk (behind (fun i => (f i).k) n)) := hsk
  clear hb2 hsk B1
  go_wp2_with fail
  refine (behindLoop_any sa n cap f w2 hn60 (HR.out.late B2.out)).mono ?_
  rintro e w3 ⟨lo, rfl, hlo, hb3⟩
  have B3 : Hid (Below w.heap.size w w3) := B2.out.trans (hb3.mono B2.out.size)
  have HLO : Hid (IsBits lo (behind (fun i => (f i).o) n)) := hlo
  clear hb3 hlo B2
  go_wp2_with fail
  go_ret
  exact ⟨_, sk, lo, rfl, B3.out.size, B3.out.alloc B3.out.size _, HSK.out, HLO.out, krow_new w3 sa n cap sk lo _⟩
theorem rowOf_no (sa : Option Addr) (n cap : Nat) (f : Nat → Cel) (w : World) (hn : n ≤ maxLen) (hr : CRow w w.heap.size sa n f) (hc : ∀ i, i < n → (f i).c.size ≤ maxLen) (h : ¬ CellsOk n f) :
    Calls Tryz.prog 96 #[.slice sa n cap] w fun e w' => e = .returned (.pointer none) ∧ Below w.heap.size w w' := by
  have C := implKRight_no sa n cap f w hn hr hc h
  clear hn hr hc h
  go_enter Tryz.func96, Tryz.ntmps96
  go_wp2_with fail
  refine C.mono ?_
  rintro e w1 ⟨rfl, hb1⟩
  have B1 : Hid (Below w.heap.size w w1) := hb1
  clear hb1 C
  go_wp2_with fail
  go_ret
  exact ⟨rfl, B1.out⟩
theorem KRow.kept {W W' : World} {B b : Nat} {sa : Option Addr} {n cap sk lo : Nat} {d u : Int} {tab : Nat → Nat} (h : KRow W b sa n cap sk lo d u tab) (hb : Below B W W') (hB : b < B) : KRow W' b sa n cap sk lo d u tab :=
  ⟨by rw [hb.cell (p := ⟨b, 0, none⟩) hB]; exact h.c0, by rw [hb.cell (p := ⟨b, 1, none⟩) hB]; exact h.c1, by rw [hb.cell (p := ⟨b, 2, none⟩) hB]; exact h.c2, by rw [hb.cell (p := ⟨b, 3, none⟩) hB]; exact h.c3, by rw [hb.cell (p := ⟨b, 4, none⟩) hB]; exact h.c4, fun j hj => by rw [hb.cell (p := ⟨b, 6 + j, none⟩) hB]; exact h.tb j hj, fun j hj => by rw [hb.frozen (p := ⟨b, j, none⟩) hB]; exact h.fr j hj, Nat.lt_of_lt_of_le h.lt hb.size⟩
end Go.Proofs.YtlgnplnmcdjbiaaGreat
namespace Go.Proofs.YtlgnplnmcdjbiaaGreat
open Go.RowKit

/-- A row with its masks, in its block. -/
structure MRow (W : World) (r b fi la bl st fin : Nat) : Prop where
  c0 : W.cell? ⟨r, 0, none⟩ = some (.pointer (some ⟨b, 0, none⟩))
  c1 : W.cell? ⟨r, 1, none⟩ = some (.int .u64 (fi : Int))
  c2 : W.cell? ⟨r, 2, none⟩ = some (.int .u64 (la : Int))
  c3 : W.cell? ⟨r, 3, none⟩ = some (.int .u64 (bl : Int))
  c4 : W.cell? ⟨r, 4, none⟩ = some (.int .u64 (st : Int))
  c5 : W.cell? ⟨r, 5, none⟩ = some (.int .u64 (fin : Int))
  lt : r < W.heap.size
theorem MRow.kept {W W' : World} {B r b fi la bl st fin : Nat} (h : MRow W r b fi la bl st fin) (hb : Below B W W') (hB : r < B) : MRow W' r b fi la bl st fin :=
  ⟨by rw [hb.cell (p := ⟨r, 0, none⟩) hB]; exact h.c0, by rw [hb.cell (p := ⟨r, 1, none⟩) hB]; exact h.c1, by rw [hb.cell (p := ⟨r, 2, none⟩) hB]; exact h.c2, by rw [hb.cell (p := ⟨r, 3, none⟩) hB]; exact h.c3, by rw [hb.cell (p := ⟨r, 4, none⟩) hB]; exact h.c4, by rw [hb.cell (p := ⟨r, 5, none⟩) hB]; exact h.c5, Nat.lt_of_lt_of_le h.lt hb.size⟩
theorem MRow.grown {W W' : World} {g r b fi la bl st fin : Nat} (h : MRow W r b fi la bl st fin) (hg : W.grownBy W' (some g)) (hne : r ≠ g) : MRow W' r b fi la bl st fin := by
  have hb := hg.block r h.lt (fun e => hne (by injection e))
  refine ⟨?_, ?_, ?_, ?_, ?_, ?_, Nat.lt_of_lt_of_le h.lt hg.size⟩
  · have := h.c0
    simpa [World.cell?, hb] using this
  · have := h.c1
    simpa [World.cell?, hb] using this
  · have := h.c2
    simpa [World.cell?, hb] using this
  · have := h.c3
    simpa [World.cell?, hb] using this
  · have := h.c4
    simpa [World.cell?, hb] using this
  · have := h.c5
    simpa [World.cell?, hb] using this
/-- What the masks of a row hold. -/
structure MasksOk (S : Nat → Bool) (n fi la bl st fin : Nat) : Prop where
  h0 : S 0 = false
  hS : ∀ j, n < j → S j = false
  f : IsBits fi (firstB S)
  l : IsBits la (lastB S)
  b : IsBits bl S
  s : IsBits st (fun j => decide (0 = j))
  e : IsBits fin (fun j => decide (n = j))
set_option maxRecDepth 100000 in
set_option maxHeartbeats 4000000 in
theorem once_any (r b a fi la bl st fin n : Nat) (S A : Nat → Bool) (w : World) (hn : n ≤ 60) (hr : MRow w r b fi la bl st fin) (hm : MasksOk S n fi la bl st fin) (ha : IsBits a A) (hA : ∀ j, n < j → A j = false) :
    Calls Tryz.prog 72 #[.pointer (some ⟨r, 0, none⟩), .int .u64 (a : Int)] w fun e w' => ∃ x : Nat, e = .returned (.int .u64 (x : Int)) ∧ IsBits x (cloB S A) ∧ Below w.heap.size w w' := by
  obtain ⟨c0, c1, c2, c3, c4, c5, hlt⟩ := hr
  obtain ⟨hle, hX⟩ := clo_sub (n := n) (by omega) hm.h0 hm.hS hA ha hm.b hm.f hm.l
  have hd := ha.or hm.l
  have e1 : bits .or .u64 (a : Int) (la : Int) = ((a ||| la : Nat) : Int) := or64 ha.lt hm.l.lt
  have hdl := hd.lt
  have hfl := hm.f.lt
  have hbl := hm.b.lt
  have hal := ha.lt
  have HX : Hid (IsBits (a ||| (bl ^^^ (bl &&& (((a ||| la) - fi) ^^^ (a ||| la))))) (cloB S A)) := hX
  have hsl : (a ||| la) - fi < 18446744073709551616 := by omega
  have e2 : bits .xor .u64 ((((a ||| la) - fi : Nat)) : Int) ((a ||| la : Nat) : Int) = ((((a ||| la) - fi) ^^^ (a ||| la) : Nat) : Int) := xor64 hsl hdl
  have e3 : bits .andNot .u64 (bl : Int) (((((a ||| la) - fi) ^^^ (a ||| la) : Nat)) : Int) = ((bl ^^^ (bl &&& (((a ||| la) - fi) ^^^ (a ||| la))) : Nat) : Int) := andNot64 hbl
  have hvl : bl ^^^ (bl &&& (((a ||| la) - fi) ^^^ (a ||| la))) < 18446744073709551616 := Nat.xor_lt_two_pow (n := 64) hbl (and_lt64 hbl)
  have e4 : bits .or .u64 (a : Int) ((bl ^^^ (bl &&& (((a ||| la) - fi) ^^^ (a ||| la))) : Nat) : Int) = ((a ||| (bl ^^^ (bl &&& (((a ||| la) - fi) ^^^ (a ||| la)))) : Nat) : Int) := or64 hal hvl
  generalize a ||| (bl ^^^ (bl &&& (((a ||| la) - fi) ^^^ (a ||| la)))) = x at *
  generalize bl ^^^ (bl &&& (((a ||| la) - fi) ^^^ (a ||| la))) = v at *
  generalize ((a ||| la) - fi) ^^^ (a ||| la) = y at *
  generalize a ||| la = d at *
  have hsub : ((d - fi : Nat) : Int) = (d : Int) - (fi : Int) := by omega
  rw [hsub] at e2
  have hwr : IntKind.u64.wrap ((d : Int) - (fi : Int)) = (d : Int) - (fi : Int) := by rw [IntKind.wrap_u64]; omega
  clear hm ha hA hd hX hsl hvl hal hsub
  go_enter Tryz.func72, Tryz.ntmps72
  go_wp2_with fail
  go_quiet (fail)
  go_wp2_with fail
  go_ret
  exact ⟨x, rfl, HX.out, ⟨rfl, rfl, rfl, Nat.le_refl _, fun _ _ => rfl⟩⟩
end Go.Proofs.YtlgnplnmcdjbiaaGreat
namespace Go.Proofs.YtlgnplnmcdjbiaaGreat
open Go.RowKit

set_option maxHeartbeats 1000000 in
theorem implNew_yes (b : Int) (m : Nat) (w : World) (h0 : 1 ≤ b) (h1 : b ≤ 320) (hm : (m : Int) = (b + 31) / 32) :
    Calls Tryz.prog 100 #[.int .i64 b] w fun e w' => NewVec w b m (fun _ => 0) e w' := by
  have HM : Hid ((m : Int) = (b + 31) / 32) := hm
  have hm1 : m ≤ 10 := by omega
  clear hm
  go_enter Tryz.func100, Tryz.ntmps100
  go_wp2_with fail
  refine (wordsFor_any b _ (by omega) h1).mono ?_
  rintro e w1 ⟨rfl, hw⟩
  subst hw
  rw [← HM.out]
  have q3 := boxing w 26 0 none 0 0
  generalize w.alloc (.cells #[.int .i64 0, .slice none 0 0] 26) = v at *
  obtain ⟨u, g, hmk, hg1, hg2, hbu, hown⟩ := make_new v m (by omega)
  have HO : Hid (Own u g m (fun _ => 0)) := hown
  have S : Hid (Since w u) := since_call (since_call (since_refl _) q3.1) hbu
  obtain ⟨cb0, cb1, cb2, cb3⟩ := (q3.2.1.kept hbu rfl).four
  have l1 : w.heap.size < g := by have := q3.2.2; omega
  have l2 : w.heap.size < u.heap.size := by omega
  clear q3 hown hbu hg1
  go_wp2
  refine bodyPost_ret (v := vecV b (some ⟨g, 0, none⟩) m m) (by simp [results, Tryz.results100, go_sem, vecV, cb0, cb1]) rfl ?_
  exact ⟨_, _, rfl, (since_set (since_set S.out (by show w.heap.size ≤ w.heap.size; omega)) (by show w.heap.size ≤ w.heap.size; omega)).below, Or.inr ⟨_, rfl, by omega, (HO.out.setOther _ _ (by show w.heap.size ≠ g; omega)).setOther _ _ (by show w.heap.size ≠ g; omega)⟩⟩
set_option maxHeartbeats 1000000 in
theorem implNew_no (b : Int) (w : World) (h : ¬ (1 ≤ b ∧ b ≤ 320)) :
    Calls Tryz.prog 100 #[.int .i64 b] w fun e w' => NewVec w 0 0 (fun _ => 0) e w' := by
  have S : Hid (Since w (w.alloc (.cells #[.int .i64 0, .slice none 0 0] 26))) := since_alloc (since_refl _)
  rcases (show b < 1 ∨ 1 ≤ b ∧ 320 < b from by omega) with hx | ⟨hx, hx2⟩
  · clear h
    go_enter Tryz.func100, Tryz.ntmps100
    go_wp2
    refine bodyPost_ret (v := vecV 0 none 0 0) (by simp [results, Tryz.results100, go_sem, vecV]) rfl ?_
    exact ⟨_, _, rfl, S.out.below, Or.inl rfl⟩
  · clear h
    go_enter Tryz.func100, Tryz.ntmps100
    go_wp2
    refine bodyPost_ret (v := vecV 0 none 0 0) (by simp [results, Tryz.results100, go_sem, vecV]) rfl ?_
    exact ⟨_, _, rfl, S.out.below, Or.inl rfl⟩
end Go.Proofs.YtlgnplnmcdjbiaaGreat
namespace Go.Proofs.YtlgnplnmcdjbiaaGreat
open Go.RowKit

set_option maxRecDepth 100000 in
set_option maxHeartbeats 4000000 in
theorem pvec_any (x n m : Nat) (w : World) (hx : x < 18446744073709551616) (hn : n ≤ 60) (hm : m = (n + 1 + 31) / 32) :
    Calls Tryz.prog 74 #[.int .u64 (x : Int), .int .i64 (n : Int)] w fun e w' => NewVec w ((n : Int) + 1) m (wordsN x) e w' := by
  have hm2 : m ≤ 2 := by omega
  have hm1 : 1 ≤ m := by omega
  have C := fun W => implNew_yes ((n : Int) + 1) m W (by omega) (by omega) (by omega)
  have HC : Hid (∀ W, Calls Tryz.prog 100 #[.int .i64 ((n : Int) + 1)] W fun e w' => NewVec W ((n : Int) + 1) m (fun _ => 0) e w') := C
  clear C hm
  go_enter Tryz.func74, Tryz.ntmps74
  go_wp2_with fail
  have q0 := boxing w 26 0 none 0 0
  generalize w.alloc (.cells #[.int .i64 0, .slice none 0 0] 26) = v0 at *
  refine (HC.out v0).mono ?_
  rintro e w1 ⟨s1, c1, rfl, hb1, ho1⟩
  unfold vecV
  have X0 : Hid (Boxed w1 w.heap.size 26 0 none 0 0) := q0.2.1.kept hb1 rfl
  have S1 : Hid (Since w w1) := since_call (since_call (since_refl _) q0.1) hb1
  obtain ⟨g, rfl, hgl, ho⟩ : ∃ g, s1 = some ⟨g, 0, none⟩ ∧ v0.heap.size ≤ g ∧ Own w1 g m (fun _ => 0) := by
    rcases ho1 with h | h
    · omega
    · exact h
  have O1 : Hid (Own w1 g m (fun _ => 0)) := ho
  have hg0 : w.heap.size < g := by have := q0.2.2; omega
  have hg1 := ho.1
  have q2 := boxing w1 26 ((n : Int) + 1) (some ⟨g, 0, none⟩) m c1
  clear q0 hb1 ho1 ho hgl
  go_wp2_with fail
  generalize w1.alloc (.cells #[.int .i64 ((n : Int) + 1), .slice (some ⟨g, 0, none⟩) m c1] 26) = v2 at *
  have X2 : Hid (Boxed v2 w.heap.size 26 0 none 0 0) := X0.out.kept q2.1 rfl
  have Y2 : Hid (Boxed v2 w1.heap.size 26 ((n : Int) + 1) (some ⟨g, 0, none⟩) m c1) := q2.2.1
  have S2 : Hid (Since w v2) := since_call S1.out q2.1
  have O2 : Hid (Own v2 g m (fun _ => 0)) := O1.out.kept q2.1 hg1
  clear q2 X0 S1 O1
  generalize w1.heap.size = p at *
  go_loopw [13] (fun iv wr => ∃ k : Nat, k ≤ m ∧ iv = .int .i64 (k : Int) ∧ Boxed wr w.heap.size 26 0 none 0 0 ∧ Boxed wr p 26 ((n : Int) + 1) (some ⟨g, 0, none⟩) m c1 ∧ Since w wr ∧ Own wr g m (fun i => if i < k then wordsN x i else 0)) (fun iv _ => m - (intOf iv).toNat)
  case atStart => exact ⟨0, Nat.zero_le _, rfl, X2.out, Y2.out, S2.out, O2.out.congr (fun i _ => by simp)⟩
  case round =>
    obtain ⟨k, hk, rfl, hX, hY, hS, hO⟩ := hrel
    have HX : Hid (Boxed wr w.heap.size 26 0 none 0 0) := hX
    have HY : Hid (Boxed wr p 26 ((n : Int) + 1) (some ⟨g, 0, none⟩) m c1) := hY
    have HS : Hid (Since w wr) := hS
    have HO : Hid (Own wr g m (fun i => if i < k then wordsN x i else 0)) := hO
    obtain ⟨y0, y1⟩ := hY.cells
    have ylt := hY.lt
    by_cases hkl : k < m
    · have hki : (k : Int) < (m : Int) := by omega
      have hk0 : (0 : Int) ≤ (k : Int) := by omega
      have ck := hO.2.1 k hkl
      have fk := hO.2.2 k hkl
      have hglt := hO.1
      obtain ⟨s, hs⟩ : ∃ s, k * 32 = s := ⟨_, rfl⟩
      have hsi : (k : Int) * 32 = (s : Int) := by omega
      have hsw : IntKind.i64.wrap ((k : Int) * 32) = (s : Int) := by rw [IntKind.wrap_i64]; omega
      have hs0 : (0 : Int) ≤ (s : Int) := by omega
      have hsh : (x : Int) / 2 ^ s = ((x / 2 ^ s : Nat) : Int) := by simp
      have hxl : x / 2 ^ s < 18446744073709551616 := Nat.lt_of_le_of_lt (Nat.div_le_self _ _) hx
      have hand := and_word64 hxl
      have HW : Hid (wordsN x k = ((x / 2 ^ s % 4294967296 : Nat) : Int)) := by show wordsN x k = _; unfold wordsN; rw [hs]
      have hzl : x / 2 ^ s % 4294967296 < 4294967296 := Nat.mod_lt _ (by decide)
      generalize x / 2 ^ s % 4294967296 = z at *
      generalize x / 2 ^ s = y at *
      have hwz : IntKind.i64.wrap (z : Int) = (z : Int) := by rw [IntKind.wrap_i64]; omega
      have hwy : IntKind.u64.wrap (y : Int) = (y : Int) := by rw [IntKind.wrap_u64]; omega
      have hpg : g ≠ p := by omega
      have hwg : g ≠ w.heap.size := by omega
      clear hX hY hS hO hs
      go_wp2_with fail
      go_region
      all_goals
        go_wp2_with fail
        go_roundw
        case rel => exact ⟨k + 1, by omega, by go_num, (HX.out.setOther _ _ hwg).drew, (HY.out.setOther _ _ hpg).drew, since_drew (since_set HS.out (by show w.heap.size ≤ g; omega)), ((HO.out.set hkl (z : Int)).congr (fun i hi => by
          by_cases e : i = k
          · subst e; rw [if_pos rfl, if_pos (by omega), HW.out]
          · rw [if_neg e]
            by_cases e2 : i < k
            · rw [if_pos e2, if_pos (by omega)]
            · rw [if_neg e2, if_neg (by omega)])).drew⟩
        case measure => simp [intOf]; omega
    · have hki : ¬ (k : Int) < (m : Int) := by omega
      obtain rfl : k = m := by omega
      obtain ⟨a0, a1, a2, a3⟩ := hX.four
      have xlt := hX.lt
      have hne1 : w.heap.size ≠ p := by omega
      clear hX hY hS hO
      go_wp2_with fail
      refine bodyPost_ret (v := vecV ((n : Int) + 1) (some ⟨g, 0, none⟩) k c1) (by simp [results, Tryz.results74, go_sem, vecV, a0, a1]) rfl ?_
      exact ⟨_, _, rfl, (since_set (since_set HS.out (by show w.heap.size ≤ w.heap.size; omega)) (by show w.heap.size ≤ w.heap.size; omega)).below, Or.inr ⟨g, rfl, by omega, ((HO.out.congr (fun i hi => if_pos hi)).setOther _ _ (by show w.heap.size ≠ g; omega)).setOther _ _ (by show w.heap.size ≠ g; omega)⟩⟩
end Go.Proofs.YtlgnplnmcdjbiaaGreat
