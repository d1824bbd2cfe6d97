/- What is proved here: the program's PatternRight says yes of a right pattern, no of another.
   What is proved here: strings.Clone hands back the same text; nothing that was there turns. Its one condition: the text has at most a million bytes.
   What is proved here: the program's Reverse hands back, of a right pattern, its atoms the other way round in new memory, else none; nothing that was there turns. -/
import Derived.Test.YtfeolbgenpknfaaQImplPRightW
import Derived.Test.YtfeolbgenpknfaaProg
import Derived.WalkKit
import Derived.Lib.BufferWrite
import Derived.Lib.UnsafeStr
import Derived.Laws.MakeOwn
import Derived.Test.YtfeolbgenpknfaaQAtomSToDrawPatW
namespace Go.Proofs.Ytfeolbgenpknfaa
open Go.RowKit

open Classical in
theorem implPRight_yes (sa : Option Addr) (n cap : Nat) (f : Nat → Atm) (w : World) (hn : n ≤ maxLen) (hr : ARow w w.heap.size sa n f) (hc : ∀ i, i < n → (f i).c.size ≤ maxLen) (h : PatRight n f) :
    Calls Try.prog 57 #[.slice sa n cap] w fun e w' => e = .returned (.bool true) ∧ Below w.heap.size w w' :=
  (implPRight_any sa n cap f w hn hr hc).mono fun _ _ h2 => ⟨by rw [h2.1, decide_eq_true h], h2.2⟩
open Classical in
theorem implPRight_no (sa : Option Addr) (n cap : Nat) (f : Nat → Atm) (w : World) (hn : n ≤ maxLen) (hr : ARow w w.heap.size sa n f) (hc : ∀ i, i < n → (f i).c.size ≤ maxLen) (h : ¬ PatRight n f) :
    Calls Try.prog 57 #[.slice sa n cap] w fun e w' => e = .returned (.bool false) ∧ Below w.heap.size w w' :=
  (implPRight_any sa n cap f w hn hr hc).mono fun _ _ h2 => ⟨by rw [h2.1, decide_eq_false h], h2.2⟩
end Go.Proofs.Ytfeolbgenpknfaa
namespace Go.Proofs.Ytfeolbgenpknfaa
open Go.RowKit

theorem Try.byteInfo : (Try.prog.info? 5).map (fun i => (i.zero, i.size, i.bytes)) = some (some (.int .u8 0), 1, 1) := by kernel_rfl
set_option maxRecDepth 100000 in
set_option maxHeartbeats 4000000 in
theorem cloneLite_any (s : ByteArray) (w : World) (hlim : s.size ≤ 1000000) :
    Calls Try.prog 114 #[.string s] w fun e w' => e = .returned (.string s) ∧ Below w.heap.size w w' := by
  by_cases h0 : s.size = 0
  · have hs : s = ⟨#[]⟩ := by
      apply ByteArray.ext
      exact Array.eq_empty_of_size_eq_zero h0
    subst hs
    go_enter Try.func114, Try.ntmps114
    go_wp2
    go_ret
    exact ⟨rfl, Below.refl _ _⟩
  · obtain ⟨i0, hi, hz0, hz1, hz2⟩ := info_parts Try.byteInfo
    have hinfo : (Try.prog.info? 5).map (·.size) = some 1 := by rw [hi]; simp [hz1]
    have hco : Try.prog.cellsOf 5 = 1 := by kernel_rfl
    obtain ⟨M, hM⟩ : ∃ M, M = madeCells (Value.int .u8 0).cells (s.size * 1) := ⟨_, rfl⟩
    have hMs : M.size = s.size := by rw [hM, size_madeCells]; omega
    have hmk : (Instr.makeSlice 22 (.int .i64 (s.size : Int)) (.int .i64 (s.size : Int))).run Try.prog w = .ok (.slice (some ⟨w.heap.size, 0, none⟩) s.size s.size) (w.alloc (.cells M 5)) := by
      have h := run_make (P := Try.prog) w 22 5 i0 (.int .u8 0) Try.underlying22 hi hz0 .i64 .i64 (s.size : Int) (s.size : Int) (by omega) (by omega) (by rw [hz2]; omega) (by omega)
      rw [h, hM, hz1]
      simp
    clear hM
    have hcp := Lib.run_copy_row_string (P := Try.prog) (w.alloc (.cells M 5)) 22 9 3 5 w.heap.size 0 s.size s.size s M 5 Try.underlying22 hinfo (heap_alloc_new w _) (Nat.le_refl _) (by omega)
    obtain ⟨Y, hY⟩ : ∃ Y, Y = (M.toList.take 0 ++ Lib.byteCells s.data.toList ++ M.toList.drop (0 + s.size)).toArray := ⟨_, rfl⟩
    rw [← hY] at hcp
    have hYl : Y.toList = Lib.byteCells s.data.toList := by
      rw [hY, List.toList_toArray, List.take_zero, List.nil_append, List.drop_of_length_le (by rw [Array.length_toList]; omega), List.append_nil]
    have hYs : Y.size = s.size := by rw [← Array.length_toList, hYl, Lib.byteCells_length, ← Lib.size_eq]
    have hgY : ((w.alloc (.cells M 5)).setRow w.heap.size Y).heap[w.heap.size]? = some (.cells Y 5 (0, 0)) := setRow_heap _ _ M _ 5 (0, 0) (heap_alloc_new w _)
    have hne : s.data.toList ≠ [] := fun e => h0 (by rw [Lib.size_eq, e]; rfl)
    have hUS := Lib.run_unsafeString_row (P := Try.prog) ((w.alloc (.cells M 5)).setRow w.heap.size Y) 174 3 9 5 Try.underlying174 hco w.heap.size Y.size (by unfold World.shape?; rw [hgY]) s.data.toList hne (by rw [← Lib.size_eq]; omega) (by rw [← Lib.size_eq]; omega)
      (fun j x hx => Lib.cells_of_row hgY Y.size j _ (by rw [List.take_of_length_le (by rw [Array.length_toList]; exact Nat.le_refl _), hYl]; simp [Lib.byteCells, hx]))
    rw [← Lib.size_eq] at hUS
    clear hY
    have hb1 : Below w.heap.size w (w.alloc (.cells M 5)) := (Below.refl _ w).alloc (Nat.le_refl _) _
    have hb2 : Below w.heap.size (w.alloc (.cells M 5)) ((w.alloc (.cells M 5)).setRow w.heap.size Y) := ⟨rfl, rfl, rfl, by simp, fun k hk => setRow_other _ _ _ _ (by omega)⟩
    have HB : Hid (Below w.heap.size w ((w.alloc (.cells M 5)).setRow w.heap.size Y)) := hb1.trans hb2
    clear hb1 hb2
    go_enter Try.func114, Try.ntmps114
    go_wp2
    go_ret
    exact ⟨rfl, Lib.below_freeze HB.out (p := ⟨w.heap.size, 0, none⟩) (Nat.le_refl _) _⟩
theorem clone_any (s : ByteArray) (w : World) (hlim : s.size ≤ 1000000) :
    Calls Try.prog 96 #[.string s] w fun e w' => e = .returned (.string s) ∧ Below w.heap.size w w' := by
  go_enter Try.func96, Try.ntmps96
  go_wp2_with fail
  refine (cloneLite_any s w hlim).mono ?_
  rintro e w1 ⟨rfl, hb⟩
  have HB : Hid (Below w.heap.size w w1) := hb
  clear hb
  go_wp2_with fail
  go_ret
  exact ⟨rfl, HB.out⟩
end Go.Proofs.Ytfeolbgenpknfaa
namespace Go.Proofs.Ytfeolbgenpknfaa
open Go.RowKit

theorem AOwn.setOther {w : World} {g n : Nat} {f : Nat → Atm} (h : AOwn w g n f) (p : Addr) (v : Value) (hne : p.block ≠ g) : AOwn (w.setCell p v) g n f := by
  have hx : ∀ o : Nat, (w.setCell p v).cell? ⟨g, o, none⟩ = w.cell? ⟨g, o, none⟩ := fun o => World.cell?_setCell_other _ _ _ _ (fun hh => hne (by rw [hh]))
  exact ⟨by simpa [World.setCell] using h.lt, fun i hi => ⟨by rw [hx]; exact (h.at' i hi).c0, by rw [hx]; exact (h.at' i hi).c1, by rw [hx]; exact (h.at' i hi).c2⟩, fun i hi => by rw [World.frozen?_setCell]; exact h.free i hi⟩
theorem implRev_no (sa : Option Addr) (n cap : Nat) (f : Nat → Atm) (w : World) (hn : n ≤ 1048576) (hr : ARow w w.heap.size sa n f) (hc : ∀ i, i < n → (f i).c.size ≤ maxLen) (h : ¬ PatRight n f) :
    Calls Try.prog 60 #[.slice sa n cap] w fun e w' => NewAtoms w 0 f e w' := by
  have hn' : n ≤ maxLen := by unfold maxLen; omega
  have HP := implPRight_no sa n cap f w hn' hr hc h
  have HQ : Hid (Calls Try.prog 57 #[.slice sa n cap] w fun e w' => e = .returned (.bool false) ∧ Below w.heap.size w w') := HP
  clear HP hn' hr hc h
  go_enter Try.func60, Try.ntmps60
  go_wp2_with fail
  refine HQ.out.mono ?_
  rintro e w1 ⟨rfl, hb⟩
  have B1 : Hid (Below w.heap.size w w1) := hb
  clear hb
  go_wp2_with fail
  go_ret
  exact ⟨none, 0, rfl, B1.out, Or.inl rfl⟩

set_option maxRecDepth 100000 in
set_option maxHeartbeats 4000000 in
theorem implRev_yes (sa : Option Addr) (n cap : Nat) (f : Nat → Atm) (w : World) (hn : n ≤ 1048576) (hr : ARow w w.heap.size sa n f) (hc : ∀ i, i < n → (f i).c.size ≤ maxLen) (hc2 : ∀ i, i < n → (f i).c.size ≤ 1000000) (h : PatRight n f) :
    Calls Try.prog 60 #[.slice sa n cap] w fun e w' => NewAtoms w n (fun i => f (n - 1 - i)) e w' := by
  have hn' : n ≤ maxLen := by unfold maxLen; omega
  have HP := implPRight_yes sa n cap f w hn' hr hc h
  have HQ : Hid (Calls Try.prog 57 #[.slice sa n cap] w fun e w' => e = .returned (.bool true) ∧ Below w.heap.size w w') := HP
  have HR : Hid (ARow w w.heap.size sa n f) := hr
  have HC : Hid (∀ i, i < n → (f i).c.size ≤ 1000000) := hc2
  have hn20 := h.2.1
  clear HP hn' hr hc hc2 h
  go_enter Try.func60, Try.ntmps60
  go_wp2_with fail
  refine HQ.out.mono ?_
  rintro e w1 ⟨rfl, hb⟩
  have B1 : Hid (Below w.heap.size w w1) := hb
  clear hb HQ
  obtain ⟨C, hmk, hown⟩ := make_atoms w1 n (by omega)
  have HO : Hid (AOwn (w1.alloc (.cells C 89)) w1.heap.size n (fun _ => atm0)) := hown
  have BM : Hid (Below w.heap.size w (w1.alloc (.cells C 89))) := B1.out.alloc B1.out.size _
  have hgs := B1.out.size
  clear hown B1
  generalize w1.alloc (.cells C 89) = wm at *
  generalize w1.heap.size = g at *
  go_wp2_with fail
  go_loopw [14] (fun i wr => ∃ k : Nat, k ≤ n ∧ i = .int .i64 (k : Int) ∧ Below w.heap.size w wr ∧ AOwn wr g n (fun i => if n - k ≤ i then f (n - 1 - i) else atm0)) (fun i _ => n - (intOf i).toNat)
  case atStart => exact ⟨0, Nat.zero_le _, rfl, BM.out, HO.out.congr (fun i hi => by rw [if_neg (by omega)])⟩
  case round =>
    obtain ⟨k, hk, rfl, hbel, hown⟩ := hrel
    have HB : Hid (Below w.heap.size w wr) := hbel
    have HW : Hid (AOwn wr g n (fun i => if n - k ≤ i then f (n - 1 - i) else atm0)) := hown
    have hsz := hown.lt
    clear hown
    by_cases hkl : k < n
    · obtain ⟨bb, off, rfl, hbb, hat⟩ := HR.out.at hbel hkl
      obtain ⟨c0, c1, c2⟩ := hat
      have HK : Hid ((f k).c.size ≤ 1000000) := HC.out k hkl
      clear hbel
      have hki : (k : Int) < (n : Int) := by omega
      have hk0 : (0 : Int) ≤ (k : Int) := by omega
      obtain ⟨⟨ac, al, am⟩, ha⟩ : ∃ a, f k = a := ⟨_, rfl⟩
      have HF : Hid (f k = ⟨ac, al, am⟩) := ha
      rw [ha] at c0 c1 c2 HK
      simp only at c0 c1 c2 HK
      clear ha
      have bx := ABox.new wr ⟨ac, al, am⟩ 89
      simp only at bx
      have fz : (wr.alloc (.cells #[.string ac, .int .i64 al, .int .i64 am] 89)).frozen? ⟨wr.heap.size, 0, none⟩ = false := frozen_of_row _ _ _ _ _ (heap_alloc_new wr _)
      have hb0 : Below wr.heap.size wr (wr.alloc (.cells #[.string ac, .int .i64 al, .int .i64 am] 89)) := (Below.refl _ _).alloc (Nat.le_refl _) _
      have BX : Hid (Below w.heap.size w (wr.alloc (.cells #[.string ac, .int .i64 al, .int .i64 am] 89))) := HB.out.trans (hb0.mono HB.out.size)
      have OX : Hid (AOwn (wr.alloc (.cells #[.string ac, .int .i64 al, .int .i64 am] 89)) g n (fun i => if n - k ≤ i then f (n - 1 - i) else atm0)) := HW.out.kept hb0 hsz
      have hwr := HB.out.size
      clear hb0 HW
      go_wp2_with fail
      generalize wr.alloc (.cells #[.string ac, .int .i64 al, .int .i64 am] 89) = v at *
      generalize wr.heap.size = p at *
      clear HB c0 c1 c2
      refine (clone_any ac _ HK.out).mono ?_
      rintro e w2 ⟨rfl, hb⟩
      have B2 : Hid (Below w.heap.size w w2) := BX.out.trans (hb.mono BX.out.size)
      have HX : Hid (ABox w2 p ⟨ac, al, am⟩) := bx.kept hb bx.lt
      have O2 : Hid (AOwn w2 g n (fun i => if n - k ≤ i then f (n - 1 - i) else atm0)) := OX.out.kept hb OX.out.lt
      have fz2 : w2.frozen? ⟨p, 0, none⟩ = false := by rw [hb.frozen (p := ⟨p, 0, none⟩) bx.lt]; exact fz
      obtain ⟨x0, x1, x2, xl⟩ := HX.out.all
      simp only at x0 x1 x2
      obtain ⟨q, hq⟩ : ∃ q : Nat, n - 1 - k = q := ⟨_, rfl⟩
      have hqi : (n : Int) - 1 - (k : Int) = (q : Int) := by omega
      have hqn : q < n := by omega
      have HQ : Hid (n - 1 - k = q) := hq
      have hpg : ¬ p = g := by omega
      obtain ⟨⟨d0, d1, d2⟩, e0, e1, e2⟩ := O2.out.parts hqn
      clear hb bx fz BX OX hq
      go_wp2_with fail
      go_roundw
      case rel =>
        refine ⟨k + 1, by omega, by go_num, (((B2.out.setCell (by show w.heap.size ≤ p; omega) _).setCell (by show w.heap.size ≤ g; omega) _).setCell (by show w.heap.size ≤ g; omega) _).setCell (by show w.heap.size ≤ g; omega) _, ?_⟩
        have h1 := (O2.out.setOther ⟨p, 0, none⟩ (.string ac) (by show p ≠ g; omega)).set hqn ⟨ac, al, am⟩
        refine h1.congr (fun i hi => ?_)
        have := HQ.out
        by_cases e : i = q
        · subst e
          rw [if_pos rfl, if_pos (by omega), show n - 1 - i = k by omega, HF.out]
        · rw [if_neg e]
          by_cases e2 : n - k ≤ i
          · rw [if_pos e2, if_pos (by omega)]
          · rw [if_neg e2, if_neg (by omega)]
      case measure => simp [intOf]; omega
    · have hki : ¬ (k : Int) < (n : Int) := by omega
      obtain rfl : k = n := by omega
      clear hbel
      go_wp2_with fail
      go_ret
      exact ⟨_, _, rfl, HB.out, Or.inr ⟨g, rfl, hgs, hsz, HW.out.congr (fun i hi => by rw [if_pos (by omega)])⟩⟩
end Go.Proofs.Ytfeolbgenpknfaa
