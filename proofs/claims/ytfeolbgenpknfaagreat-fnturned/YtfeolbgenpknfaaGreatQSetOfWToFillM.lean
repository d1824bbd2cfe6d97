/- What is proved here: the program's setOfClass hands back the set of a right class, or tells that it is not right; nothing that was there turns.
   What is proved here: the program's ClassRight says whether a text is a right class, isByte whether a number is a byte's; nothing that was there turns.
   What is proved here: the program's CellsRight says whether a row of cells is right; nothing that was there turns.
   What is proved here: a right row is made ready to be gone along, in a new block; nothing that was there turns.
   What is said here: a row's table as it is filled, in its block. -/
import Derived.Test.YtfeolbgenpknfaaGreatQWithWToSetBoxM
import Derived.Deep.RegionWith
import Derived.Test.YtfeolbgenpknfaaGreatQCellMToWordM
import Derived.Test.YtfeolbgenpknfaaGreatQBehMToBehindW
namespace Go.Proofs.YtfeolbgenpknfaaGreat
open Go.RowKit

/-- What setOfClass hands back. -/
def SetGot (w : World) (t : ByteArray) (e : Ending) (w' : World) : Prop := Below w.heap.size w w' ∧ ((RightC t ∧ e = .returned (.tuple #[setV (setOf t), .bool true])) ∨ (¬ RightC t ∧ e = .returned (.tuple #[setV (fun _ => 0), .bool false])))
theorem box4_zero {W : World} {p : Nat} (h : Box4 W p (fun _ => 0)) : W.cell? ⟨p, 0, none⟩ = some (.int .u64 0) ∧ W.cell? ⟨p, 1, none⟩ = some (.int .u64 0) ∧ W.cell? ⟨p, 2, none⟩ = some (.int .u64 0) ∧ W.cell? ⟨p, 3, none⟩ = some (.int .u64 0) := h.cells
set_option maxRecDepth 100000 in
set_option maxHeartbeats 2000000 in
theorem setOfClass_any (t : ByteArray) (w : World) (hs : t.size ≤ maxLen) :
    Calls Tryz.prog 113 #[.string t] w fun e w' => SetGot w t e w' := by
  unfold maxLen at hs
  go_enter Tryz.func113, Tryz.ntmps113
  go_wp2
  go_loopw [5] (fun i wr => ∃ k : Nat, k ≤ t.size ∧ i = .int .i64 (k : Int) ∧ Below w.heap.size w wr ∧ Box4 wr w.heap.size (fun _ => 0) ∧ Box4 wr (w.heap.size + 1) (setTo t k) ∧ RightTo t k) (fun i _ => t.size - (intOf i).toNat)
  case atStart => 
    refine ⟨0, Nat.zero_le _, rfl, ((Below.refl _ _).alloc (Nat.le_refl _) _).alloc (by simp) _, (Box4.new w (fun _ => 0)).alloc _, ?_, fun i hi h => by omega⟩
    rw [setTo_zero]
    have := Box4.new (w.alloc (.cells #[.int .u64 ((0 : Nat) : Int), .int .u64 ((0 : Nat) : Int), .int .u64 ((0 : Nat) : Int), .int .u64 ((0 : Nat) : Int)] 150)) (fun _ => 0)
    simpa using this
  case round =>
    obtain ⟨k, hk, rfl, hbel, hA, hB, hR⟩ := hrel
    have HW : Hid (Below w.heap.size w wr) := hbel
    have HA : Hid (Box4 wr w.heap.size (fun _ => 0)) := hA
    have HB : Hid (Box4 wr (w.heap.size + 1) (setTo t k)) := hB
    have HR : Hid (RightTo t k) := hR
    have HS : Hid (Set4 (setTo t k)) := setTo_set t k hk
    obtain ⟨a0, a1, a2, a3⟩ := box4_zero hA
    obtain ⟨fa0, fa1, fa2, fa3⟩ := hA.frozen
    obtain ⟨b0, b1, b2, b3⟩ := hB.cells
    obtain ⟨fb0, fb1, fb2, fb3⟩ := hB.frozen
    have lb := hB.lt
    clear hbel hA hB hR
    by_cases hlt : k < t.size
    · have hlt' : (k : Int) < (t.size : Int) := by omega
      have hT : Hid (setTo t (k + 1) = withB (setTo t k) t[k].toNat) := setTo_succ t k hlt
      have hx : Hid (t[k].toNat < 256) := t[k].toNat_lt
      by_cases hk0 : k = 0
      · subst hk0
        have HR1 : Hid (RightTo t (0 + 1)) := fun i hi h => by omega
        clear hlt'
        have hlt' : (0 : Int) < (t.size : Int) := by omega
        go_wp2
        go_quiet (fail)
        go_wp2
        go_region_with (first | (go_at_call 121; refine (with_any (setTo t 0) _ _ HS.out hx.out).mono ?_; rintro e w' ⟨rfl, hb'⟩; have q := HB.out.call hb' rfl; obtain ⟨q0, q1, q2, q3⟩ := q.frozen; obtain ⟨r0, r1, r2, r3⟩ := q.cells))
        all_goals
          have HQ : Hid (Box4 w' (w.heap.size + 1) (setTo t 0)) := q
          have HQA : Hid (Box4 w' w.heap.size (fun _ => 0)) := HA.out.call hb' rfl
          have HQW : Hid (Below w.heap.size w w') := below_call HW.out hb' rfl
          clear q hb' a0 a1 a2 a3 b0 b1 b2 b3 fa0 fa1 fa2 fa3 fb0 fb1 fb2 fb3
          go_wp2
          go_roundw
          case rel =>
            refine ⟨1, by omega, by go_num, below_four HQW.out (by omega), HQA.out.others _ _ _ _ (by omega), ?_, HR1.out⟩
            have h1 := HQ.out.store (withB (setTo t 0) t[0].toNat)
            rw [← hT.out] at h1
            rw [hT.out] at h1 ⊢
            exact h1
          case measure => simp [intOf]; omega
      · obtain ⟨j, hj⟩ : ∃ j, k = j + 1 := ⟨k - 1, by omega⟩
        have HJ : Hid (k = j + 1) := hj
        have hlt2 : (j : Int) < (t.size : Int) := by omega
        have hlt3 : j < t.size := by omega
        have hj0 : (0 : Int) ≤ (j : Int) := by omega
        have hkn : 0 < k := by omega
        have hk00 : (0 : Int) ≤ (k : Int) := by omega
        have wj : IntKind.i64.wrap ((k : Int) - 1) = j := by rw [IntKind.wrap_i64]; omega
        have wj2 : IntKind.i64.wrap (j : Int) = j := by rw [IntKind.wrap_i64]; omega
        have wj3 : (k : Int) - 1 = (j : Int) := by omega
        clear hj hk0
        by_cases hc : t[j].toNat < t[k].toNat
        · have HC : Hid (RightTo t (k + 1)) := right_step HJ.out hlt HR.out hc
          have hc' : ¬ ((t[k].toNat : Int) ≤ (t[j].toNat : Int)) := by omega
          clear hc
          go_wp2
          go_quiet (fail)
          go_wp2
          go_region_with (first | (go_at_call 121; refine (with_any (setTo t k) _ _ HS.out hx.out).mono ?_; rintro e w' ⟨rfl, hb'⟩; have q := HB.out.call hb' rfl; obtain ⟨q0, q1, q2, q3⟩ := q.frozen; obtain ⟨r0, r1, r2, r3⟩ := q.cells))
          all_goals
            have HQ : Hid (Box4 w' (w.heap.size + 1) (setTo t k)) := q
            have HQA : Hid (Box4 w' w.heap.size (fun _ => 0)) := HA.out.call hb' rfl
            have HQW : Hid (Below w.heap.size w w') := below_call HW.out hb' rfl
            clear q hb' a0 a1 a2 a3 b0 b1 b2 b3 fa0 fa1 fa2 fa3 fb0 fb1 fb2 fb3
            go_wp2
            go_roundw
            case rel =>
              refine ⟨k + 1, by omega, by go_num, below_four HQW.out (by omega), HQA.out.others _ _ _ _ (by omega), ?_, HC.out⟩
              have h1 := HQ.out.store (withB (setTo t k) t[k].toNat)
              rw [hT.out]
              exact h1
            case measure => simp [intOf]; omega
        · have HC : Hid (¬ RightC t) := right_bad HJ.out hlt hc
          have hc' : (t[k].toNat : Int) ≤ (t[j].toNat : Int) := by omega
          clear hc
          go_wp2
          go_quiet (fail)
          go_wp2
          refine bodyPost_ret (v := .tuple #[.agg #[.int .u64 0, .int .u64 0, .int .u64 0, .int .u64 0], .bool false]) (by simp [results, Tryz.results113, go_sem, a0, a1, a2, a3]) rfl ?_
          exact ⟨below_four (below_drewC _ HW.out) (Nat.le_refl _), Or.inr ⟨HC.out, rfl⟩⟩
    · have hge : ¬ (k : Int) < (t.size : Int) := by omega
      have HC : Hid (RightC t) := fun i hi => HR.out i hi (by omega)
      obtain rfl : k = t.size := by omega
      go_wp2
      refine bodyPost_ret (v := .tuple #[.agg #[.int .u64 ((setTo t t.size) 0 : Nat), .int .u64 ((setTo t t.size) 1 : Nat), .int .u64 ((setTo t t.size) 2 : Nat), .int .u64 ((setTo t t.size) 3 : Nat)], .bool true]) (by simp [results, Tryz.results113, go_sem, a0, a1, a2, a3]) rfl ?_
      exact ⟨below_four HW.out (Nat.le_refl _), Or.inl ⟨HC.out, rfl⟩⟩
end Go.Proofs.YtfeolbgenpknfaaGreat
namespace Go.Proofs.YtfeolbgenpknfaaGreat
open Go.RowKit

open Classical in
set_option maxHeartbeats 1000000 in
theorem implRightC_any (t : ByteArray) (w : World) (hs : t.size ≤ maxLen) :
    Calls Tryz.prog 106 #[.string t] w fun e w' => e = .returned (.bool (decide (RightC t))) ∧ Below w.heap.size w w' := by
  go_enter Tryz.func106, Tryz.ntmps106
  go_wp2_with fail
  refine (setOfClass_any t _ hs).mono ?_
  rintro e w1 ⟨hb1, h⟩
  have HB : Hid (Below w.heap.size w w1) := hb1
  clear hb1
  rcases h with ⟨h, rfl⟩ | ⟨h, rfl⟩
  · have H : Hid (RightC t) := h
    clear h
    unfold setV
    go_wp2
    go_ret
    exact ⟨by rw [decide_eq_true H.out]; rfl, HB.out.alloc HB.out.size _⟩
  · have H : Hid (¬ RightC t) := h
    clear h
    unfold setV
    go_wp2
    go_ret
    exact ⟨by rw [decide_eq_false H.out]; rfl, HB.out.alloc HB.out.size _⟩
end Go.Proofs.YtfeolbgenpknfaaGreat
namespace Go.Proofs.YtfeolbgenpknfaaGreat
open Go.RowKit

open Classical in
theorem implRightK_yes (t : ByteArray) (w : World) (hs : t.size ≤ maxLen) (h : RightC t) :
    Calls Tryz.prog 106 #[.string t] w fun e w' => e = .returned (.bool true) ∧ Below w.heap.size w w' := by
  refine (implRightC_any t w hs).mono ?_
  rintro e w' ⟨rfl, hb⟩
  exact ⟨by rw [decide_eq_true h], hb⟩
open Classical in
theorem implRightK_no (t : ByteArray) (w : World) (hs : t.size ≤ maxLen) (h : ¬ RightC t) :
    Calls Tryz.prog 106 #[.string t] w fun e w' => e = .returned (.bool false) ∧ Below w.heap.size w w' := by
  refine (implRightC_any t w hs).mono ?_
  rintro e w' ⟨rfl, hb⟩
  exact ⟨by rw [decide_eq_false h], hb⟩

open Classical in
set_option maxRecDepth 100000 in
set_option maxHeartbeats 4000000 in
theorem implKRight_any (sa : Option Addr) (n cap : Nat) (f : Nat → Cel) (w : World) (hn : n ≤ maxLen) (hr : CRow w w.heap.size sa n f) (hc : ∀ i, i < n → (f i).c.size ≤ maxLen) :
    Calls Tryz.prog 91 #[.slice sa n cap] w fun e w' => e = .returned (.bool (decide (CellsOk n f))) ∧ Below w.heap.size w w' := by
  unfold maxLen at hn
  have HC : Hid (∀ i, i < n → (f i).c.size ≤ maxLen) := hc
  have HR : Hid (CRow w w.heap.size sa n f) := hr
  clear hc hr
  by_cases h1 : (n : Int) < 1
  · rw [decide_eq_false (fun h : CellsOk n f => by have := h.1; omega)]
    go_enter Tryz.func91, Tryz.ntmps91
    go_wp2
    go_ret
    exact ⟨rfl, Below.refl _ _⟩
  by_cases h2 : 60 < (n : Int)
  · rw [decide_eq_false (fun h : CellsOk n f => by have := h.2.1; omega)]
    go_enter Tryz.func91, Tryz.ntmps91
    go_wp2
    go_ret
    exact ⟨rfl, Below.refl _ _⟩
  go_enter Tryz.func91, Tryz.ntmps91
  go_wp2
  go_loopw [15] (fun i wr => ∃ k : Nat, k ≤ n ∧ i = .int .i64 (k : Int) ∧ Below w.heap.size w wr ∧ ∀ i, i < k → CellOk (f i)) (fun i _ => n - (intOf i).toNat)
  case atStart => exact ⟨0, Nat.zero_le _, rfl, Below.refl _ _, fun i hi => by omega⟩
  case round =>
    obtain ⟨k, hk, rfl, hbel, hall⟩ := hrel
    have HB : Hid (Below w.heap.size w wr) := hbel
    have HA : Hid (∀ i, i < k → CellOk (f i)) := hall
    clear hall
    by_cases hkl : k < n
    · obtain ⟨bb, off, rfl, hbb, hat⟩ := HR.out.at hbel hkl
      obtain ⟨c0, c1, c2⟩ := hat
      have HK : Hid ((f k).c.size ≤ maxLen) := HC.out k hkl
      clear hbel
      have hki : (k : Int) < (n : Int) := by omega
      have hk0 : (0 : Int) ≤ (k : Int) := by omega
      obtain ⟨⟨ac, al, am⟩, ha⟩ : ∃ a, f k = a := ⟨_, rfl⟩
      have HF : Hid (f k = ⟨ac, al, am⟩) := ha
      rw [ha] at c0 c1 c2 HK
      simp only at c0 c1 c2 HK
      clear ha
      have bx := CBox.new wr ⟨ac, al, am⟩ 98
      simp only at bx
      have BX : Hid (Below w.heap.size w (wr.alloc (.cells #[.string ac, .bool al, .bool am] 98))) := HB.out.alloc HB.out.size _
      have BAD : Hid (¬ CellOk ⟨ac, al, am⟩ → ¬ CellsOk n f) := fun h hp => h (by rw [← HF.out]; exact hp.2.2 k hkl)
      by_cases hce : 0 < ac.size
      · obtain ⟨hq1, hq2⟩ := someC hce
        go_wp2_with fail
        generalize wr.alloc (.cells #[.string ac, .bool al, .bool am] 98) = v at *
        generalize wr.heap.size = p at *
        clear HB c0 c1 c2
        by_cases hcr : RightC ac
        · have HAR : Hid (CellOk ⟨ac, al, am⟩) := ⟨hcr, hce⟩
          refine (implRightK_yes ac _ HK.out hcr).mono ?_
          rintro e w1 ⟨rfl, hb1⟩
          have B1 : Hid (Below w.heap.size w w1) := BX.out.trans (hb1.mono BX.out.size)
          clear hb1 bx BX hcr
          go_wp2_with fail
          go_roundw
          case rel => exact ⟨k + 1, by omega, by go_num, B1.out, stepCell HA.out (by rw [HF.out]; exact HAR.out)⟩
          case measure => simp [intOf]; omega
        · have HBAD : Hid (¬ CellsOk n f) := BAD.out (fun h => hcr h.1)
          refine (implRightK_no ac _ HK.out hcr).mono ?_
          rintro e w1 ⟨rfl, hb1⟩
          have B1 : Hid (Below w.heap.size w w1) := BX.out.trans (hb1.mono BX.out.size)
          clear hcr hb1 bx BX
          go_wp2_with fail
          go_ret
          exact ⟨by rw [decide_eq_false HBAD.out]; rfl, B1.out⟩
      · obtain ⟨hq1, hq2⟩ := noneC hce
        have HBAD : Hid (¬ CellsOk n f) := BAD.out (fun h => hce h.2)
        go_wp2_with fail
        go_ret
        exact ⟨by rw [decide_eq_false HBAD.out]; rfl, BX.out⟩
    · have hki : ¬ (k : Int) < (n : Int) := by omega
      obtain rfl : k = n := by omega
      clear hbel
      have HE : Hid (CellsOk k f) := ⟨by omega, by omega, HA.out⟩
      go_wp2
      go_ret
      exact ⟨by rw [decide_eq_true HE.out]; rfl, HB.out⟩
end Go.Proofs.YtfeolbgenpknfaaGreat
namespace Go.Proofs.YtfeolbgenpknfaaGreat
open Go.RowKit

/-- A row that is gone along, in its block. -/
structure KRow (W : World) (b : Nat) (sa : Option Addr) (n cap sk lo : Nat) (d u : Int) (tab : Nat → Nat) : Prop where
  c0 : W.cell? ⟨b, 0, none⟩ = some (.slice sa n cap)
  c1 : W.cell? ⟨b, 1, none⟩ = some (.int .u64 (sk : Int))
  c2 : W.cell? ⟨b, 2, none⟩ = some (.int .u64 (lo : Int))
  c3 : W.cell? ⟨b, 3, none⟩ = some (.int .u32 d)
  c4 : W.cell? ⟨b, 4, none⟩ = some (.int .i32 u)
  tb : ∀ j, j < 256 → W.cell? ⟨b, 6 + j, none⟩ = some (.int .u64 (tab j : Int))
  fr : ∀ j, j < 262 → W.frozen? ⟨b, j, none⟩ = false
  lt : b < W.heap.size
theorem Tryz.rowZero : Tryz.zeroCells114 = #[.slice none 0 0, .int .u64 0, .int .u64 0, .int .u32 0, .int .i32 0, .int .u32 0] ++ Array.replicate 256 (.int .u64 0) := by kernel_rfl
theorem krow_new (W : World) (sa : Option Addr) (n cap sk lo : Nat) (ty : TypeId) : KRow (W.alloc (.cells (((Tryz.zeroCells114.setIfInBounds 0 (.slice sa n cap)).setIfInBounds 1 (.int .u64 (sk : Int))).setIfInBounds 2 (.int .u64 (lo : Int))) ty)) W.heap.size sa n cap sk lo 0 0 (fun _ => 0) := by
  rw [Tryz.rowZero]
  refine ⟨?_, ?_, ?_, ?_, ?_, fun j hj => ?_, fun j hj => frozen_of_row _ _ _ _ _ (heap_alloc_new W _), by simp⟩
  · rw [World.cell?_alloc_mark]; simp
  · rw [World.cell?_alloc_mark]; simp
  · rw [World.cell?_alloc_mark]; simp
  · rw [World.cell?_alloc_mark]; simp
  · rw [World.cell?_alloc_mark]; simp
  · rw [World.cell?_alloc_mark, Array.getElem?_setIfInBounds_ne (by omega), Array.getElem?_setIfInBounds_ne (by omega), Array.getElem?_setIfInBounds_ne (by omega), Array.getElem?_append_right (by simp)]
    simp [hj]
open Classical in
theorem implKRight_yes (sa : Option Addr) (n cap : Nat) (f : Nat → Cel) (w : World) (hn : n ≤ maxLen) (hr : CRow w w.heap.size sa n f) (hc : ∀ i, i < n → (f i).c.size ≤ maxLen) (h : CellsOk n f) :
    Calls Tryz.prog 91 #[.slice sa n cap] w fun e w' => e = .returned (.bool true) ∧ Below w.heap.size w w' :=
  (implKRight_any sa n cap f w hn hr hc).mono fun _ _ h2 => ⟨by rw [h2.1, decide_eq_true h], h2.2⟩
open Classical in
theorem implKRight_no (sa : Option Addr) (n cap : Nat) (f : Nat → Cel) (w : World) (hn : n ≤ maxLen) (hr : CRow w w.heap.size sa n f) (hc : ∀ i, i < n → (f i).c.size ≤ maxLen) (h : ¬ CellsOk n f) :
    Calls Tryz.prog 91 #[.slice sa n cap] w fun e w' => e = .returned (.bool false) ∧ Below w.heap.size w w' :=
  (implKRight_any sa n cap f w hn hr hc).mono fun _ _ h2 => ⟨by rw [h2.1, decide_eq_false h], h2.2⟩
set_option maxRecDepth 100000 in
set_option maxHeartbeats 4000000 in
theorem rowOf_yes (sa : Option Addr) (n cap : Nat) (f : Nat → Cel) (w : World) (hn : n ≤ maxLen) (hr : CRow w w.heap.size sa n f) (hc : ∀ i, i < n → (f i).c.size ≤ maxLen) (h : CellsOk n f) :
    Calls Tryz.prog 67 #[.slice sa n cap] w fun e w' => ∃ b sk lo : Nat, e = .returned (.pointer (some ⟨b, 0, none⟩)) ∧ w.heap.size ≤ b ∧ Below w.heap.size w w' ∧ IsBits sk (behind (fun i => (f i).k) n) ∧ IsBits lo (behind (fun i => (f i).o) n) ∧ KRow w' b sa n cap sk lo 0 0 (fun _ => 0) := by
  have C := implKRight_yes sa n cap f w hn hr hc h
  have HR : Hid (CRow w w.heap.size sa n f) := hr
  have hn60 := h.2.1
  clear hn hr hc h
  go_enter Tryz.func67, Tryz.ntmps67
  go_wp2_with fail
  refine C.mono ?_
  rintro e w1 ⟨rfl, hb1⟩
  have B1 : Hid (Below w.heap.size w w1) := hb1
  clear hb1 C
  go_wp2_with fail
  refine (behindSkip_any sa n cap f w1 hn60 (HR.out.late B1.out)).mono ?_
  rintro e w2 ⟨sk, rfl, hsk, hb2⟩
  have B2 : Hid (Below w.heap.size w w2) := B1.out.trans (hb2.mono B1.out.size)
  have HSK : Hid (IsBits sk (behind (fun i => (f i).k) n)) := hsk
  clear hb2 hsk B1
  go_wp2_with fail
  refine (behindLoop_any sa n cap f w2 hn60 (HR.out.late B2.out)).mono ?_
  rintro e w3 ⟨lo, rfl, hlo, hb3⟩
  have B3 : Hid (Below w.heap.size w w3) := B2.out.trans (hb3.mono B2.out.size)
  have HLO : Hid (IsBits lo (behind (fun i => (f i).o) n)) := hlo
  clear hb3 hlo B2
  go_wp2_with fail
  go_ret
  exact ⟨_, sk, lo, rfl, B3.out.size, B3.out.alloc B3.out.size _, HSK.out, HLO.out, krow_new w3 sa n cap sk lo _⟩
theorem rowOf_no (sa : Option Addr) (n cap : Nat) (f : Nat → Cel) (w : World) (hn : n ≤ maxLen) (hr : CRow w w.heap.size sa n f) (hc : ∀ i, i < n → (f i).c.size ≤ maxLen) (h : ¬ CellsOk n f) :
    Calls Tryz.prog 67 #[.slice sa n cap] w fun e w' => e = .returned (.pointer none) ∧ Below w.heap.size w w' := by
  have C := implKRight_no sa n cap f w hn hr hc h
  clear hn hr hc h
  go_enter Tryz.func67, Tryz.ntmps67
  go_wp2_with fail
  refine C.mono ?_
  rintro e w1 ⟨rfl, hb1⟩
  have B1 : Hid (Below w.heap.size w w1) := hb1
  clear hb1 C
  go_wp2_with fail
  go_ret
  exact ⟨rfl, B1.out⟩
theorem KRow.kept {W W' : World} {B b : Nat} {sa : Option Addr} {n cap sk lo : Nat} {d u : Int} {tab : Nat → Nat} (h : KRow W b sa n cap sk lo d u tab) (hb : Below B W W') (hB : b < B) : KRow W' b sa n cap sk lo d u tab :=
  ⟨by rw [hb.cell (p := ⟨b, 0, none⟩) hB]; exact h.c0, by rw [hb.cell (p := ⟨b, 1, none⟩) hB]; exact h.c1, by rw [hb.cell (p := ⟨b, 2, none⟩) hB]; exact h.c2, by rw [hb.cell (p := ⟨b, 3, none⟩) hB]; exact h.c3, by rw [hb.cell (p := ⟨b, 4, none⟩) hB]; exact h.c4, fun j hj => by rw [hb.cell (p := ⟨b, 6 + j, none⟩) hB]; exact h.tb j hj, fun j hj => by rw [hb.frozen (p := ⟨b, j, none⟩) hB]; exact h.fr j hj, Nat.lt_of_lt_of_le h.lt hb.size⟩
end Go.Proofs.YtfeolbgenpknfaaGreat
namespace Go.Proofs.YtfeolbgenpknfaaGreat
open Go.RowKit

theorem only_setK {a w : World} {b i : Nat} {v : Value} (h : a.grownBy w (some b)) : a.grownBy (w.setCell ⟨b, i, none⟩ v) (some b) :=
  h.trans ⟨rfl, rfl, rfl, by simp [World.setCell], fun k _ hk => Below.heap_setCell _ _ _ _ (fun e => hk (by simp [e]))⟩
theorem grown_drewK {a w : World} {b : Nat} (h : a.grownBy w (some b)) : a.grownBy w.drew (some b) := ⟨h.os, h.tape, h.output, h.size, h.block⟩
theorem KRow.drew {W : World} {b : Nat} {sa : Option Addr} {n cap sk lo : Nat} {d u : Int} {tab : Nat → Nat} (h : KRow W b sa n cap sk lo d u tab) : KRow W.drew b sa n cap sk lo d u tab := ⟨h.c0, h.c1, h.c2, h.c3, h.c4, h.tb, h.fr, h.lt⟩
theorem KRow.set {W : World} {b : Nat} {sa : Option Addr} {n cap sk lo : Nat} {d u : Int} {tab : Nat → Nat} (h : KRow W b sa n cap sk lo d u tab) {x : Nat} (hx : x < 256) (v : Nat) : KRow (W.setCell ⟨b, 6 + x, none⟩ (.int .u64 (v : Int))) b sa n cap sk lo d u (fun j => if j = x then v else tab j) := by
  have hne : ∀ {i : Nat}, i ≠ 6 + x → (⟨b, 6 + x, none⟩ : Addr) ≠ ⟨b, i, none⟩ := fun hi hh => hi (by injection hh with _ h2; exact h2.symm)
  refine ⟨?_, ?_, ?_, ?_, ?_, fun j hj => ?_, fun j hj => by rw [World.frozen?_setCell]; exact h.fr j hj, by simpa [World.setCell] using h.lt⟩
  · rw [World.cell?_setCell_other _ _ _ _ (hne (by omega))]; exact h.c0
  · rw [World.cell?_setCell_other _ _ _ _ (hne (by omega))]; exact h.c1
  · rw [World.cell?_setCell_other _ _ _ _ (hne (by omega))]; exact h.c2
  · rw [World.cell?_setCell_other _ _ _ _ (hne (by omega))]; exact h.c3
  · rw [World.cell?_setCell_other _ _ _ _ (hne (by omega))]; exact h.c4
  · by_cases e : j = x
    · subst e
      rw [World.cell?_setCell_same _ _ _ (h.tb j hj)]
      simp
    · rw [World.cell?_setCell_other _ _ _ _ (hne (by omega)), h.tb j hj]
      simp [e]
/-- The table of a row that is filled for the first k cells, and for the first m bytes of the next one. -/
def TabTo (f : Nat → Cel) (k m : Nat) (tab : Nat → Nat) : Prop := ∀ c, c < 256 → IsBits (tab c) (fun j => behind (fun i => hasByte (f i).c c) k j || (decide (k + 1 = j) && hasUpTo (f k).c m c))
def TabAt (f : Nat → Cel) (k : Nat) (tab : Nat → Nat) : Prop := ∀ c, c < 256 → IsBits (tab c) (behind (fun i => hasByte (f i).c c) k)
theorem tab_zero (f : Nat → Cel) : TabAt f 0 (fun _ => 0) := fun _ _ => behind_zero _
theorem tab_begin {f : Nat → Cel} {k : Nat} {tab : Nat → Nat} (h : TabAt f k tab) : TabTo f k 0 tab := fun c hc => (h c hc).congr (fun j => by rw [hasUpTo_zero, Bool.and_false, Bool.or_false])
theorem tab_end {f : Nat → Cel} {k : Nat} {tab : Nat → Nat} (h : TabTo f k (f k).c.size tab) : TabAt f (k + 1) tab := fun c hc => (h c hc).congr (fun j => by
  rw [hasUpTo_all]
  unfold behind
  by_cases e : k + 1 = j
  · subst e
    simp
  · rw [decide_eq_false e, Bool.false_and, Bool.or_false]
    by_cases e2 : 1 ≤ j ∧ j ≤ k
    · rw [decide_eq_true e2, decide_eq_true (show 1 ≤ j ∧ j ≤ k + 1 by omega)]
    · rw [decide_eq_false e2, decide_eq_false (show ¬ (1 ≤ j ∧ j ≤ k + 1) by omega)])
theorem tab_step {f : Nat → Cel} {k m : Nat} {tab : Nat → Nat} (h : TabTo f k m tab) (hk : k < 63) (hm : m < (f k).c.size) : TabTo f k (m + 1) (fun j => if j = (f k).c[m].toNat then tab j ||| 2 ^ (k + 1) else tab j) := fun c hc => by
  show IsBits (if c = (f k).c[m].toNat then tab c ||| 2 ^ (k + 1) else tab c) _
  by_cases e : c = (f k).c[m].toNat
  · rw [if_pos e]
    refine ((h c hc).or (bits_pow (by omega))).congr (fun j => ?_)
    rw [hasUpTo_succ _ _ _ hm]
    have : ((f k).c[m].toNat == c) = true := by rw [e]; simp
    rw [this]
    by_cases e2 : k + 1 = j
    · subst e2; simp
    · simp [e2]
  · rw [if_neg e]
    refine (h c hc).congr (fun j => ?_)
    rw [hasUpTo_succ _ _ _ hm]
    have : ((f k).c[m].toNat == c) = false := by simp; exact fun h => e h.symm
    rw [this, Bool.or_false]
theorem cells_grown {w W : World} {b n : Nat} {sa : Option Addr} {f : Nat → Cel} (h : CRow w b sa n f) (hg : w.grownBy W (some b)) (hb : b < w.heap.size) : CRow W b sa n f :=
  h.kept ⟨hg.os, hg.tape, hg.output, hg.size, fun j hj => hg.block j (by omega) (fun e => by injection e with e; omega)⟩
theorem KRow.alloc {W : World} {b : Nat} {sa : Option Addr} {n cap sk lo : Nat} {d u : Int} {tab : Nat → Nat} (h : KRow W b sa n cap sk lo d u tab) (o : Obj) : KRow (W.alloc o) b sa n cap sk lo d u tab := h.kept (B := W.heap.size) ((Below.refl _ _).alloc (Nat.le_refl _) _) h.lt
theorem CRow.atK {w : World} {B n k : Nat} {sa : Option Addr} {f : Nat → Cel} (h : CRow w B sa n f) (hk : k < n) : ∃ bb off : Nat, sa = some ⟨bb, off, none⟩ ∧ bb < B ∧ CellAt w bb (off + k * 3) (f k) := by
  rcases h with h | ⟨bb, off, h1, h2, h3⟩
  · omega
  · exact ⟨bb, off, h1, h2, h3 k hk⟩
end Go.Proofs.YtfeolbgenpknfaaGreat
