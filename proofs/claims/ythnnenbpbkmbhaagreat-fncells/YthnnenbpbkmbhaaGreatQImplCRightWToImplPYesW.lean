/- What is proved here: the program's ClassRight says whether a text is a right class, isByte whether a number is a byte's; nothing that was there turns.
   What is proved here: the program's PatternRight says whether a pattern is right; nothing that was there turns.
   What is proved here: strings.Clone hands back the same text; nothing that was there turns. Its one condition: the text has at most a million bytes.
   What is proved here: the program lays one right atom out as cells, in new memory; nothing that was there turns.
   What is proved here: the program's PatternRight says yes of a right pattern, no of another. -/
import Derived.Test.YthnnenbpbkmbhaaGreatQSet64MToSetOfW
import Derived.Test.YthnnenbpbkmbhaaGreatQPatMToSpecPRightW
import Derived.Deep.RegionWith
import Derived.Test.YthnnenbpbkmbhaaGreatProg
import Derived.WalkKit
import Derived.Lib.BufferWrite
import Derived.Lib.UnsafeStr
import Derived.Laws.MakeOwn
import Derived.Test.YthnnenbpbkmbhaaGreatQCellDToCopy3W
import Derived.Deep.RegionHeld3
namespace Go.Proofs.YthnnenbpbkmbhaaGreat
open Go.RowKit

open Classical in
set_option maxHeartbeats 1000000 in
theorem implRightC_any (t : ByteArray) (w : World) (hs : t.size ≤ maxLen) :
    Calls Tryz.prog 65 #[.string t] w fun e w' => e = .returned (.bool (decide (RightC t))) ∧ Below w.heap.size w w' := by
  go_enter Tryz.func65, Tryz.ntmps65
  go_wp2_with fail
  refine (setOfClass_any t _ hs).mono ?_
  rintro e w1 ⟨hb1, h⟩
  have HB : Hid (Below w.heap.size w w1) := hb1
  clear hb1
  rcases h with ⟨h, rfl⟩ | ⟨h, rfl⟩
  · have H : Hid (RightC t) := h
    clear h
    unfold setV
    go_wp2
    go_ret
    exact ⟨by rw [decide_eq_true H.out]; rfl, HB.out.alloc HB.out.size _⟩
  · have H : Hid (¬ RightC t) := h
    clear h
    unfold setV
    go_wp2
    go_ret
    exact ⟨by rw [decide_eq_false H.out]; rfl, HB.out.alloc HB.out.size _⟩
end Go.Proofs.YthnnenbpbkmbhaaGreat
namespace Go.Proofs.YthnnenbpbkmbhaaGreat
open Go.RowKit

theorem stepAll {f : Nat → Atm} {k : Nat} (h : ∀ i, i < k → AtomRight (f i)) (hk : AtomRight (f k)) : ∀ i, i < k + 1 → AtomRight (f i) := fun i hi => by
  by_cases e : i = k
  · rw [e]; exact hk
  · exact h i (by omega)
open Classical in
theorem implRightC_yes (t : ByteArray) (w : World) (hs : t.size ≤ maxLen) (h : RightC t) :
    Calls Tryz.prog 65 #[.string t] w fun e w' => e = .returned (.bool true) ∧ Below w.heap.size w w' := by
  refine (implRightC_any t w hs).mono ?_
  rintro e w' ⟨rfl, hb⟩
  exact ⟨by rw [decide_eq_true h], hb⟩
open Classical in
theorem implRightC_no (t : ByteArray) (w : World) (hs : t.size ≤ maxLen) (h : ¬ RightC t) :
    Calls Tryz.prog 65 #[.string t] w fun e w' => e = .returned (.bool false) ∧ Below w.heap.size w w' := by
  refine (implRightC_any t w hs).mono ?_
  rintro e w' ⟨rfl, hb⟩
  exact ⟨by rw [decide_eq_false h], hb⟩

set_option maxHeartbeats 1000000 in
theorem timesCounted_any (ac : ByteArray) (al am : Int) (w : World) :
    Calls Tryz.prog 97 #[.agg #[.string ac, .int .i64 al, .int .i64 am]] w fun e w' => e = .returned (.int .i64 (counted ⟨ac, al, am⟩)) ∧ Below w.heap.size w w' := by
  unfold counted
  by_cases h5 : am = -1
  · subst h5
    rw [if_pos rfl]
    by_cases h7 : al < 1
    · rw [if_pos h7]
      have h8 : max al 1 = 1 := by omega
      go_enter Tryz.func97, Tryz.ntmps97
      go_wp2
      go_ret
      exact ⟨rfl, (Below.refl _ _).alloc (Nat.le_refl _) _⟩
    · rw [if_neg h7]
      have h8 : max al 1 = al := by omega
      go_enter Tryz.func97, Tryz.ntmps97
      go_wp2
      go_ret
      exact ⟨rfl, (Below.refl _ _).alloc (Nat.le_refl _) _⟩
  · rw [if_neg h5]
    have h6 : (am == -1) = false := by simpa using h5
    go_enter Tryz.func97, Tryz.ntmps97
    go_wp2
    go_ret
    exact ⟨rfl, (Below.refl _ _).alloc (Nat.le_refl _) _⟩

set_option maxRecDepth 100000 in
set_option maxHeartbeats 4000000 in
theorem atomRight_yes (ac : ByteArray) (al am : Int) (w : World) (hc : ac.size ≤ maxLen) (h : AtomRight ⟨ac, al, am⟩) :
    Calls Tryz.prog 96 #[.agg #[.string ac, .int .i64 al, .int .i64 am]] w fun e w' => e = .returned (.bool true) ∧ Below w.heap.size w w' := by
  have HC : Hid (ac.size ≤ maxLen) := hc
  obtain ⟨h1, h2, h3, h4, h5⟩ := h
  simp only at h1 h2 h3 h4 h5
  have H1 : Hid (RightC ac) := h1
  obtain ⟨hq1, hq2⟩ := some_of h2
  have bx := ABox.new w ⟨ac, al, am⟩ 69
  simp only at bx
  have BX : Hid (Below w.heap.size w (w.alloc (.cells #[.string ac, .int .i64 al, .int .i64 am] 69))) := (Below.refl _ _).alloc (Nat.le_refl _) _
  clear hc h1
  go_enter Tryz.func96, Tryz.ntmps96
  go_wp2_with fail
  generalize w.alloc (.cells #[.string ac, .int .i64 al, .int .i64 am] 69) = v at *
  refine (implRightC_yes ac _ HC.out H1.out).mono ?_
  rintro e w1 ⟨rfl, hb1⟩
  have B1 : Hid (Below w.heap.size w w1) := BX.out.trans (hb1.mono BX.out.size)
  have HX : Hid (ABox w1 w.heap.size ⟨ac, al, am⟩) := bx.kept hb1 bx.lt
  obtain ⟨x0, x1, x2, xl⟩ := HX.out.all
  simp only at x0 x1 x2
  clear hb1 bx BX
  rcases h5 with rfl | ⟨h5, h6, h7⟩
  · go_wp2
    go_ret
    exact ⟨rfl, B1.out⟩
  · have h9 : (am == -1) = false := by simp; omega
    have h10 : ¬ al < 0 := by omega
    have h11 : ¬ 20 < al := by omega
    by_cases h8 : 1 ≤ al
    · go_wp2
      go_ret
      exact ⟨rfl, B1.out⟩
    · go_wp2
      go_ret
      exact ⟨rfl, B1.out⟩

set_option maxRecDepth 100000 in
set_option maxHeartbeats 4000000 in
theorem atomRight_no (ac : ByteArray) (al am : Int) (w : World) (hc : ac.size ≤ maxLen) (h : ¬ AtomRight ⟨ac, al, am⟩) :
    Calls Tryz.prog 96 #[.agg #[.string ac, .int .i64 al, .int .i64 am]] w fun e w' => e = .returned (.bool false) ∧ Below w.heap.size w w' := by
  have HC : Hid (ac.size ≤ maxLen) := hc
  have HH : Hid (¬ AtomRight ⟨ac, al, am⟩) := h
  have bx := ABox.new w ⟨ac, al, am⟩ 69
  simp only at bx
  have BX : Hid (Below w.heap.size w (w.alloc (.cells #[.string ac, .int .i64 al, .int .i64 am] 69))) := (Below.refl _ _).alloc (Nat.le_refl _) _
  clear hc h
  by_cases h2 : 0 < ac.size
  · obtain ⟨hq1, hq2⟩ := some_of h2
    go_enter Tryz.func96, Tryz.ntmps96
    go_wp2_with fail
    generalize w.alloc (.cells #[.string ac, .int .i64 al, .int .i64 am] 69) = v at *
    by_cases h1 : RightC ac
    · have H1 : Hid (RightC ac) := h1
      clear h1
      refine (implRightC_yes ac _ HC.out H1.out).mono ?_
      rintro e w1 ⟨rfl, hb1⟩
      have B1 : Hid (Below w.heap.size w w1) := BX.out.trans (hb1.mono BX.out.size)
      have HX : Hid (ABox w1 w.heap.size ⟨ac, al, am⟩) := bx.kept hb1 bx.lt
      obtain ⟨x0, x1, x2, xl⟩ := HX.out.all
      simp only at x0 x1 x2
      clear hb1 bx BX
      by_cases h3 : al < 0
      · go_wp2
        go_ret
        exact ⟨rfl, B1.out⟩
      by_cases h4 : 20 < al
      · go_wp2
        go_ret
        exact ⟨rfl, B1.out⟩
      have h5 : ¬ (am = -1 ∨ (al ≤ am ∧ 1 ≤ am ∧ am ≤ 20)) := fun h => HH.out ⟨H1.out, h2, by show 0 ≤ al; omega, by show al ≤ 20; omega, h⟩
      have h9 : (am == -1) = false := by simp; omega
      by_cases h8 : 1 ≤ al
      · by_cases h6 : al ≤ am
        · have h7 : ¬ am ≤ 20 := by omega
          clear h5
          go_wp2
          go_ret
          exact ⟨by show Ending.returned (.bool (decide (am ≤ 20))) = _; rw [decide_eq_false (show ¬ am ≤ 20 by omega)], B1.out⟩
        · clear h5
          go_wp2
          go_ret
          exact ⟨rfl, B1.out⟩
      · by_cases h6 : 1 ≤ am
        · have h7 : ¬ am ≤ 20 := by omega
          clear h5
          go_wp2
          go_ret
          exact ⟨by show Ending.returned (.bool (decide (am ≤ 20))) = _; rw [decide_eq_false (show ¬ am ≤ 20 by omega)], B1.out⟩
        · clear h5
          go_wp2
          go_ret
          exact ⟨rfl, B1.out⟩
    · have H1 : Hid (¬ RightC ac) := h1
      clear h1
      refine (implRightC_no ac _ HC.out H1.out).mono ?_
      rintro e w1 ⟨rfl, hb1⟩
      have B1 : Hid (Below w.heap.size w w1) := BX.out.trans (hb1.mono BX.out.size)
      clear hb1 bx BX
      go_wp2
      go_ret
      exact ⟨rfl, B1.out⟩
  · obtain ⟨hq1, hq2⟩ := none_of h2
    go_enter Tryz.func96, Tryz.ntmps96
    go_wp2
    go_ret
    exact ⟨rfl, BX.out⟩

open Classical in
set_option maxRecDepth 100000 in
set_option maxHeartbeats 4000000 in
theorem implPRight_any (sa : Option Addr) (n cap : Nat) (f : Nat → Atm) (w : World) (hn : n ≤ maxLen) (hr : ARow w w.heap.size sa n f) (hc : ∀ i, i < n → (f i).c.size ≤ maxLen) :
    Calls Tryz.prog 49 #[.slice sa n cap] w fun e w' => e = .returned (.bool (decide (PatRight n f))) ∧ Below w.heap.size w w' := by
  unfold maxLen at hn
  have HC : Hid (∀ i, i < n → (f i).c.size ≤ maxLen) := hc
  have HR : Hid (ARow w w.heap.size sa n f) := hr
  clear hc hr
  by_cases h1 : (n : Int) < 1
  · rw [decide_eq_false (fun h : PatRight n f => by have := h.1; omega)]
    go_enter Tryz.func49, Tryz.ntmps49
    go_wp2
    go_ret
    exact ⟨rfl, Below.refl _ _⟩
  by_cases h2 : 20 < (n : Int)
  · rw [decide_eq_false (fun h : PatRight n f => by have := h.2.1; omega)]
    go_enter Tryz.func49, Tryz.ntmps49
    go_wp2
    go_ret
    exact ⟨rfl, Below.refl _ _⟩
  go_enter Tryz.func49, Tryz.ntmps49
  go_wp2
  go_loopw [3, 16] (fun s i wr => ∃ k : Nat, k ≤ n ∧ i = .int .i64 (k : Int) ∧ s = .int .i64 (sumTo (fun i => counted (f i)) k) ∧ Below w.heap.size w wr ∧ ∀ i, i < k → AtomRight (f i)) (fun _ i _ => n - (intOf i).toNat)
  case atStart => exact ⟨0, Nat.zero_le _, rfl, rfl, Below.refl _ _, fun i hi => by omega⟩
  case round =>
    obtain ⟨k, hk, rfl, rfl, hbel, hall⟩ := hrel
    have HB : Hid (Below w.heap.size w wr) := hbel
    have HA : Hid (∀ i, i < k → AtomRight (f i)) := hall
    have hS := sumTo_bd (g := fun i => counted (f i)) (b := 20) (by omega) k (fun i hi => by have := counted_bd (hall i hi); omega)
    clear hall
    have HSS : Hid (sumTo (fun i => counted (f i)) (k + 1) = sumTo (fun i => counted (f i)) k + counted (f k)) := rfl
    generalize hS0 : sumTo (fun i => counted (f i)) k = S at *
    have HS0 : Hid (sumTo (fun i => counted (f i)) k = S) := hS0
    clear hS0
    by_cases hkl : k < n
    · obtain ⟨bb, off, rfl, hbb, hat⟩ := HR.out.at hbel hkl
      obtain ⟨c0, c1, c2⟩ := hat
      have HK : Hid ((f k).c.size ≤ maxLen) := HC.out k hkl
      clear hbel
      have hki : (k : Int) < (n : Int) := by omega
      have hk0 : (0 : Int) ≤ (k : Int) := by omega
      obtain ⟨⟨ac, al, am⟩, ha⟩ : ∃ a, f k = a := ⟨_, rfl⟩
      have HF : Hid (f k = ⟨ac, al, am⟩) := ha
      rw [ha] at c0 c1 c2 HK HSS
      simp only at c0 c1 c2 HK
      clear ha
      have bx := ABox.new wr ⟨ac, al, am⟩ 69
      simp only at bx
      have BX : Hid (Below w.heap.size w (wr.alloc (.cells #[.string ac, .int .i64 al, .int .i64 am] 69))) := HB.out.alloc HB.out.size _
      go_wp2_with fail
      generalize wr.alloc (.cells #[.string ac, .int .i64 al, .int .i64 am] 69) = v at *
      generalize wr.heap.size = p at *
      clear HB c0 c1 c2
      by_cases hcr : AtomRight ⟨ac, al, am⟩
      · have HAR : Hid (AtomRight ⟨ac, al, am⟩) := hcr
        have hcb := counted_bd hcr
        clear hcr
        refine (atomRight_yes ac al am _ HK.out HAR.out).mono ?_
        rintro e w1 ⟨rfl, hb1⟩
        have B1 : Hid (Below w.heap.size w w1) := BX.out.trans (hb1.mono BX.out.size)
        have HX : Hid (ABox w1 p ⟨ac, al, am⟩) := bx.kept hb1 bx.lt
        obtain ⟨x0, x1, x2, xl⟩ := HX.out.all
        simp only at x0 x1 x2
        clear hb1 bx BX
        generalize hct : counted ⟨ac, al, am⟩ = ct at *
        have HCT : Hid (counted ⟨ac, al, am⟩ = ct) := hct
        clear hct
        go_wp2_with (go_at_call 97; refine (timesCounted_any ac al am _).mono ?_; rintro e w2 ⟨rfl, hb2⟩; rw [HCT.out]; have HB2 : Hid (Below w.heap.size w w2) := B1.out.trans (hb2.mono B1.out.size); clear hb2)
        go_roundw
        case rel => exact ⟨k + 1, by omega, by go_num, by rw [HSS.out], HB2.out, stepAll HA.out (by rw [HF.out]; exact HAR.out)⟩
        case measure => simp [intOf]; omega
      · have HBAD : Hid (¬ PatRight n f) := fun hp => hcr (by rw [← HF.out]; exact hp.2.2.1 k hkl)
        refine (atomRight_no ac al am _ HK.out hcr).mono ?_
        rintro e w1 ⟨rfl, hb1⟩
        have B1 : Hid (Below w.heap.size w w1) := BX.out.trans (hb1.mono BX.out.size)
        clear hcr hb1 bx BX
        go_wp2_with fail
        go_ret
        exact ⟨by rw [decide_eq_false HBAD.out]; rfl, B1.out⟩
    · have hki : ¬ (k : Int) < (n : Int) := by omega
      obtain rfl : k = n := by omega
      clear hbel
      have HE : Hid (decide (PatRight k f) = decide (S ≤ 40)) := by
        show decide (PatRight k f) = decide (S ≤ 40)
        rw [decide_eq_decide]
        exact ⟨fun h => by have := h.2.2.2; rw [HS0.out] at this; exact this, fun h => ⟨by omega, by omega, HA.out, by rw [HS0.out]; exact h⟩⟩
      go_wp2
      go_ret
      exact ⟨by rw [HE.out]; rfl, HB.out⟩
end Go.Proofs.YthnnenbpbkmbhaaGreat
namespace Go.Proofs.YthnnenbpbkmbhaaGreat
open Go.RowKit

theorem Tryz.byteInfo : (Tryz.prog.info? 5).map (fun i => (i.zero, i.size, i.bytes)) = some (some (.int .u8 0), 1, 1) := by kernel_rfl
set_option maxRecDepth 100000 in
set_option maxHeartbeats 4000000 in
theorem cloneLite_any (s : ByteArray) (w : World) (hlim : s.size ≤ 1000000) :
    Calls Tryz.prog 127 #[.string s] w fun e w' => e = .returned (.string s) ∧ Below w.heap.size w w' := by
  by_cases h0 : s.size = 0
  · have hs : s = ⟨#[]⟩ := by
      apply ByteArray.ext
      exact Array.eq_empty_of_size_eq_zero h0
    subst hs
    go_enter Tryz.func127, Tryz.ntmps127
    go_wp2
    go_ret
    exact ⟨rfl, Below.refl _ _⟩
  · obtain ⟨i0, hi, hz0, hz1, hz2⟩ := info_parts Tryz.byteInfo
    have hinfo : (Tryz.prog.info? 5).map (·.size) = some 1 := by rw [hi]; simp [hz1]
    have hco : Tryz.prog.cellsOf 5 = 1 := by kernel_rfl
    obtain ⟨M, hM⟩ : ∃ M, M = madeCells (Value.int .u8 0).cells (s.size * 1) := ⟨_, rfl⟩
    have hMs : M.size = s.size := by rw [hM, size_madeCells]; omega
    have hmk : (Instr.makeSlice 22 (.int .i64 (s.size : Int)) (.int .i64 (s.size : Int))).run Tryz.prog w = .ok (.slice (some ⟨w.heap.size, 0, none⟩) s.size s.size) (w.alloc (.cells M 5)) := by
      have h := run_make (P := Tryz.prog) w 22 5 i0 (.int .u8 0) Tryz.underlying22 hi hz0 .i64 .i64 (s.size : Int) (s.size : Int) (by omega) (by omega) (by rw [hz2]; omega) (by omega)
      rw [h, hM, hz1]
      simp
    clear hM
    have hcp := Lib.run_copy_row_string (P := Tryz.prog) (w.alloc (.cells M 5)) 22 9 3 5 w.heap.size 0 s.size s.size s M 5 Tryz.underlying22 hinfo (heap_alloc_new w _) (Nat.le_refl _) (by omega)
    obtain ⟨Y, hY⟩ : ∃ Y, Y = (M.toList.take 0 ++ Lib.byteCells s.data.toList ++ M.toList.drop (0 + s.size)).toArray := ⟨_, rfl⟩
    rw [← hY] at hcp
    have hYl : Y.toList = Lib.byteCells s.data.toList := by
      rw [hY, List.toList_toArray, List.take_zero, List.nil_append, List.drop_of_length_le (by rw [Array.length_toList]; omega), List.append_nil]
    have hYs : Y.size = s.size := by rw [← Array.length_toList, hYl, Lib.byteCells_length, ← Lib.size_eq]
    have hgY : ((w.alloc (.cells M 5)).setRow w.heap.size Y).heap[w.heap.size]? = some (.cells Y 5 (0, 0)) := setRow_heap _ _ M _ 5 (0, 0) (heap_alloc_new w _)
    have hne : s.data.toList ≠ [] := fun e => h0 (by rw [Lib.size_eq, e]; rfl)
    have hUS := Lib.run_unsafeString_row (P := Tryz.prog) ((w.alloc (.cells M 5)).setRow w.heap.size Y) 154 3 9 5 Tryz.underlying154 hco w.heap.size Y.size (by unfold World.shape?; rw [hgY]) s.data.toList hne (by rw [← Lib.size_eq]; omega) (by rw [← Lib.size_eq]; omega)
      (fun j x hx => Lib.cells_of_row hgY Y.size j _ (by rw [List.take_of_length_le (by rw [Array.length_toList]; exact Nat.le_refl _), hYl]; simp [Lib.byteCells, hx]))
    rw [← Lib.size_eq] at hUS
    clear hY
    have hb1 : Below w.heap.size w (w.alloc (.cells M 5)) := (Below.refl _ w).alloc (Nat.le_refl _) _
    have hb2 : Below w.heap.size (w.alloc (.cells M 5)) ((w.alloc (.cells M 5)).setRow w.heap.size Y) := ⟨rfl, rfl, rfl, by simp, fun k hk => setRow_other _ _ _ _ (by omega)⟩
    have HB : Hid (Below w.heap.size w ((w.alloc (.cells M 5)).setRow w.heap.size Y)) := hb1.trans hb2
    clear hb1 hb2
    go_enter Tryz.func127, Tryz.ntmps127
    go_wp2
    go_ret
    exact ⟨rfl, Lib.below_freeze HB.out (p := ⟨w.heap.size, 0, none⟩) (Nat.le_refl _) _⟩
theorem clone_any (s : ByteArray) (w : World) (hlim : s.size ≤ 1000000) :
    Calls Tryz.prog 98 #[.string s] w fun e w' => e = .returned (.string s) ∧ Below w.heap.size w w' := by
  go_enter Tryz.func98, Tryz.ntmps98
  go_wp2_with fail
  refine (cloneLite_any s w hlim).mono ?_
  rintro e w1 ⟨rfl, hb⟩
  have HB : Hid (Below w.heap.size w w1) := hb
  clear hb
  go_wp2_with fail
  go_ret
  exact ⟨rfl, HB.out⟩
end Go.Proofs.YthnnenbpbkmbhaaGreat
namespace Go.Proofs.YthnnenbpbkmbhaaGreat
open Go.RowKit

theorem COwn.setOther {w : World} {g n : Nat} {f : Nat → Cel} (h : COwn w g n f) (p : Addr) (v : Value) (hne : p.block ≠ g) : COwn (w.setCell p v) g n f := by
  have hx : ∀ o : Nat, (w.setCell p v).cell? ⟨g, o, none⟩ = w.cell? ⟨g, o, none⟩ := fun o => World.cell?_setCell_other _ _ _ _ (fun hh => hne (by rw [hh]))
  exact ⟨by simpa [World.setCell] using h.lt, fun i hi => ⟨by rw [hx]; exact (h.at' i hi).c0, by rw [hx]; exact (h.at' i hi).c1, by rw [hx]; exact (h.at' i hi).c2⟩, fun i hi => by rw [World.frozen?_setCell]; exact h.free i hi⟩
theorem ABox.setOther {W : World} {p : Nat} {a : Atm} (h : ABox W p a) (q : Addr) (v : Value) (hne : q.block ≠ p) : ABox (W.setCell q v) p a := by
  have hx : ∀ o : Nat, (W.setCell q v).cell? ⟨p, o, none⟩ = W.cell? ⟨p, o, none⟩ := fun o => World.cell?_setCell_other _ _ _ _ (fun hh => hne (by rw [hh]))
  exact ⟨by rw [hx]; exact h.c0, by rw [hx]; exact h.c1, by rw [hx]; exact h.c2, by simpa [World.setCell] using h.lt⟩
theorem COwn.setLoop {w : World} {g n p : Nat} {f : Nat → Cel} (h : COwn w g n f) (hp : p < n) (x : Bool) : COwn (w.setCell ⟨g, p * 3 + 2, none⟩ (.bool x)) g n (fun i => if i = p then ⟨(f i).c, (f i).k, x⟩ else f i) := by
  have hne : ∀ {x y : Nat}, x ≠ y → (⟨g, x, none⟩ : Addr) ≠ ⟨g, y, none⟩ := fun hxy hh => hxy (by injection hh)
  refine ⟨by simpa [World.setCell] using h.lt, fun i hi => ?_, fun i hi => by rw [World.frozen?_setCell]; exact h.free i hi⟩
  obtain ⟨a0, a1, a2⟩ := h.at' i hi
  by_cases e : i = p
  · subst e
    rw [if_pos rfl]
    exact ⟨by rw [World.cell?_setCell_other _ _ _ _ (hne (by omega))]; exact a0, by rw [World.cell?_setCell_other _ _ _ _ (hne (by omega))]; exact a1, World.cell?_setCell_same _ _ _ a2⟩
  · rw [if_neg e]
    exact ⟨by rw [World.cell?_setCell_other _ _ _ _ (hne (by omega))]; exact a0, by rw [World.cell?_setCell_other _ _ _ _ (hne (by omega))]; exact a1, by rw [World.cell?_setCell_other _ _ _ _ (hne (by omega))]; exact a2⟩
set_option maxRecDepth 100000 in
set_option maxHeartbeats 4000000 in
theorem cellsOfAtom_any (ac : ByteArray) (al am : Int) (w : World) (hr : AtomRight ⟨ac, al, am⟩) (hs : ac.size ≤ 256) :
    Calls Tryz.prog 50 #[.agg #[.string ac, .int .i64 al, .int .i64 am]] w fun e w' => ∃ g : Nat, e = .returned (.slice (some ⟨g, 0, none⟩) (cnt ⟨ac, al, am⟩) (cnt ⟨ac, al, am⟩)) ∧ w.heap.size ≤ g ∧ Below w.heap.size w w' ∧ COwn w' g (cnt ⟨ac, al, am⟩) (cellA ⟨ac, al, am⟩) := by
  obtain ⟨hn1, hn2, hn3⟩ := cnt_bd hr
  have HCA : Hid (∀ k, cellA ⟨ac, al, am⟩ k = ⟨ac, decide (al ≤ (k : Int)), decide (am = -1 ∧ k + 1 = cnt ⟨ac, al, am⟩)⟩) := fun k => rfl
  have hal0 : 0 ≤ al := hr.2.2.1
  have hal1 : al ≤ 20 := hr.2.2.2.1
  have bx := ABox.new w ⟨ac, al, am⟩ 69
  simp only at bx
  have BX : Hid (Below w.heap.size w (w.alloc (.cells #[.string ac, .int .i64 al, .int .i64 am] 69))) := (Below.refl _ _).alloc (Nat.le_refl _) _
  have CT := timesCounted_any ac al am (w.alloc (.cells #[.string ac, .int .i64 al, .int .i64 am] 69))
  rw [← hn3] at CT
  clear hn3
  generalize cnt ⟨ac, al, am⟩ = n at *
  clear hr
  go_enter Tryz.func50, Tryz.ntmps50
  go_wp2_with fail
  generalize w.alloc (.cells #[.string ac, .int .i64 al, .int .i64 am] 69) = v at *
  refine CT.mono ?_
  rintro e w1 ⟨rfl, hb1⟩
  have B1 : Hid (Below w.heap.size w w1) := BX.out.trans (hb1.mono BX.out.size)
  have X1 := bx.kept hb1 bx.lt
  obtain ⟨C, hmk, hown⟩ := make_cells w1 n (by omega)
  have O2 : Hid (COwn (w1.alloc (.cells C 95)) w1.heap.size n (fun _ => cel0)) := hown
  have B2 : Hid (Below w.heap.size w (w1.alloc (.cells C 95))) := B1.out.alloc B1.out.size _
  have X2 : Hid (ABox (w1.alloc (.cells C 95)) w.heap.size ⟨ac, al, am⟩) := X1.kept (B := w1.heap.size) ((Below.refl _ _).alloc (Nat.le_refl _) _) X1.lt
  have hwg : w.heap.size < w1.heap.size := X1.lt
  clear CT bx BX hb1 X1 hown
  go_wp2_with fail
  generalize w1.alloc (.cells C 95) = v2 at *
  generalize w1.heap.size = g at *
  clear hmk B1
  go_loopw [10] (fun iv wr => ∃ k : Nat, k ≤ n ∧ iv = .int .i64 (k : Int) ∧ Below w.heap.size w wr ∧ ABox wr w.heap.size ⟨ac, al, am⟩ ∧ COwn wr g n (fun i => if i < k then ⟨ac, decide (al ≤ (i : Int)), false⟩ else cel0)) (fun iv _ => n - (intOf iv).toNat)
  case atStart => exact ⟨0, Nat.zero_le _, rfl, B2.out, X2.out, O2.out.congr (fun i _ => by simp)⟩
  case round =>
    obtain ⟨k, hk, rfl, hbel, hbox, hown⟩ := hrel
    have HB : Hid (Below w.heap.size w wr) := hbel
    have HX : Hid (ABox wr w.heap.size ⟨ac, al, am⟩) := hbox
    have HO : Hid (COwn wr g n (fun i => if i < k then ⟨ac, decide (al ≤ (i : Int)), false⟩ else cel0)) := hown
    obtain ⟨x0, x1, x2, xl⟩ := hbox.all
    simp only at x0 x1 x2
    have hglt := hown.lt
    by_cases hkl : k < n
    · have hki : (k : Int) < (n : Int) := by omega
      have hk0 : (0 : Int) ≤ (k : Int) := by omega
      have CC := fun W => clone_any ac W (by omega)
      have HCC : Hid (∀ W, Calls Tryz.prog 98 #[.string ac] W fun e w' => e = .returned (.string ac) ∧ Below W.heap.size W w') := CC
      have hne1 : w.heap.size ≠ g := by omega
      have hne2 : g ≠ w.heap.size := by omega
      clear hbel hbox hown CC
      go_wp2_with fail
      go_region_held3 (fun W => W.cell? ⟨w.heap.size, 0, none⟩ = some (.string ac) ∧ W.cell? ⟨w.heap.size, 1, none⟩ = some (.int .i64 al)) (go_keep) (first | (go_at_call 98; refine (HCC.out _).mono ?_; rintro e w5 ⟨rfl, hb5⟩; have HB5 : Hid (Below wr.heap.size wr w5) := ((Below.refl wr.heap.size wr).drew).trans hb5; have X5 : Hid (ABox w5 w.heap.size ⟨ac, al, am⟩) := HX.out.kept HB5.out xl; have O5 : Hid (COwn w5 g n (fun i => if i < k then ⟨ac, decide (al ≤ (i : Int)), false⟩ else cel0)) := HO.out.kept HB5.out hglt; obtain ⟨y0, y1, y2, yl⟩ := X5.out.all; obtain ⟨⟨d0, d1, d2⟩, e0, e1, e2⟩ := O5.out.parts hkl; clear hb5))
      all_goals
        go_wp2_with fail
        go_roundw
        case rel => exact ⟨k + 1, by omega, by go_num, (((HB.out.trans (HB5.out.mono HB.out.size)).setCell (by show w.heap.size ≤ g; omega) _).setCell (by show w.heap.size ≤ g; omega) _).setCell (by show w.heap.size ≤ g; omega) _, ((X5.out.setOther _ _ hne2).setOther _ _ hne2).setOther _ _ hne2, (O5.out.set hkl ⟨ac, decide (al ≤ (k : Int)), false⟩).congr (fun i hi => by
          by_cases e : i = k
          · subst e; rw [if_pos rfl, if_pos (by omega)]
          · rw [if_neg e]
            by_cases e2 : i < k
            · rw [if_pos e2, if_pos (by omega)]
            · rw [if_neg e2, if_neg (by omega)])⟩
        case measure => simp [intOf]; omega
    · have hki : ¬ (k : Int) < (n : Int) := by omega
      obtain rfl : k = n := by omega
      obtain ⟨q, hq⟩ : ∃ q, q + 1 = k := ⟨k - 1, by omega⟩
      have hqi : (k : Int) - 1 = (q : Int) := by omega
      have hq0 : (0 : Int) ≤ (q : Int) := by omega
      have hq1 : (q : Int) < (k : Int) := by omega
      have hqk : q < k := by omega
      obtain ⟨⟨d0, d1, d2⟩, e0, e1, e2⟩ := hown.parts hqk
      have hne1 : w.heap.size ≠ g := by omega
      have FIN : Hid (∀ x : Bool, x = decide (am = -1) → COwn (wr.setCell ⟨g, q * 3 + 2, none⟩ (.bool x)) g k (cellA ⟨ac, al, am⟩)) := fun x hx => (HO.out.setLoop hqk x).congr (fun i hi => by
        rw [HCA.out i]
        by_cases e : i = q
        · subst e
          rw [if_pos rfl, if_pos hi, hx]
          congr 1
          by_cases h9 : am = -1
          · rw [decide_eq_true h9, decide_eq_true ⟨h9, hq⟩]
          · rw [decide_eq_false h9, decide_eq_false (fun h => h9 h.1)]
        · rw [if_neg e, if_pos hi]
          congr 1
          rw [decide_eq_false (fun h => e (by have := h.2; omega))])
      clear hbel hbox hown
      have FIN2 := FIN.out (am == -1) (by by_cases h9 : am = -1 <;> simp [h9])
      go_wp2_with fail
      go_ret
      exact ⟨g, rfl, by omega, HB.out.setCell (by show w.heap.size ≤ g; omega) _, FIN2⟩
end Go.Proofs.YthnnenbpbkmbhaaGreat
namespace Go.Proofs.YthnnenbpbkmbhaaGreat
open Go.RowKit

open Classical in
theorem implPRight_yes (sa : Option Addr) (n cap : Nat) (f : Nat → Atm) (w : World) (hn : n ≤ maxLen) (hr : ARow w w.heap.size sa n f) (hc : ∀ i, i < n → (f i).c.size ≤ maxLen) (h : PatRight n f) :
    Calls Tryz.prog 49 #[.slice sa n cap] w fun e w' => e = .returned (.bool true) ∧ Below w.heap.size w w' :=
  (implPRight_any sa n cap f w hn hr hc).mono fun _ _ h2 => ⟨by rw [h2.1, decide_eq_true h], h2.2⟩
open Classical in
theorem implPRight_no (sa : Option Addr) (n cap : Nat) (f : Nat → Atm) (w : World) (hn : n ≤ maxLen) (hr : ARow w w.heap.size sa n f) (hc : ∀ i, i < n → (f i).c.size ≤ maxLen) (h : ¬ PatRight n f) :
    Calls Tryz.prog 49 #[.slice sa n cap] w fun e w' => e = .returned (.bool false) ∧ Below w.heap.size w w' :=
  (implPRight_any sa n cap f w hn hr hc).mono fun _ _ h2 => ⟨by rw [h2.1, decide_eq_false h], h2.2⟩
end Go.Proofs.YthnnenbpbkmbhaaGreat
