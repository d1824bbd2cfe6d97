/- What is proved here: the program turns a text round; nothing that was there turns.
   What is proved here: strings.Clone hands back the same text; nothing that was there turns. Its one condition: the text has at most a million bytes. -/
import Derived.Test.YtfeolbgenpknfaaQBytesTxtWToBackM
import Derived.RegionTactic
import Derived.BigRegion
import Derived.Test.YtfeolbgenpknfaaProg
import Derived.WalkKit
import Derived.Lib.BufferWrite
import Derived.Lib.UnsafeStr
import Derived.Laws.MakeOwn
namespace Go.Proofs.Ytfeolbgenpknfaa
open Go.RowKit

theorem only_setY {a w : World} {b i : Nat} {v : Value} (h : a.grownBy w (some b)) : a.grownBy (w.setCell ⟨b, i, none⟩ v) (some b) :=
  h.trans ⟨rfl, rfl, rfl, by simp [World.setCell], fun k _ hk => Below.heap_setCell _ _ _ _ (fun e => hk (by simp [e]))⟩
theorem grown_drewY {a w : World} {b : Nat} (h : a.grownBy w (some b)) : a.grownBy w.drew (some b) := ⟨h.os, h.tape, h.output, h.size, h.block⟩
set_option maxRecDepth 100000 in
set_option maxHeartbeats 4000000 in
theorem reverse_any (g n cap : Nat) (l : List UInt8) (w : World) (hn : l.length = n) (hs : n ≤ 8000) (hb : BRow w g l) :
    Calls Try.prog 97 #[.slice (some ⟨g, 0, none⟩) n cap] w fun e w' => e = .returned (.tuple #[]) ∧ w.grownBy w' (some g) ∧ BRow w' g l.reverse := by
  have HB : Hid (BRow w g l) := hb
  have HN : Hid (l.length = n) := hn
  clear hb
  go_enter Try.func97, Try.ntmps97
  go_wp2_with fail
  go_loopw [2, 3] (fun iv jv wr => ∃ (k : Nat) (m : List UInt8), iv = .int .i64 (k : Int) ∧ jv = .int .i64 ((n : Int) - 1 - (k : Int)) ∧ (k = 0 ∨ 2 * k ≤ n) ∧ Swapped l m k ∧ BRow wr g m ∧ w.grownBy wr (some g)) (fun iv _ _ => n + 1 - (intOf iv).toNat)
  case atStart => exact ⟨0, l, rfl, by go_num, Or.inl rfl, swapped_zero l, HB.out, World.grownBy.refl _ _⟩
  case round =>
    obtain ⟨k, m, rfl, rfl, hk, hsw, hrow, hgr⟩ := hrel
    have HS : Hid (Swapped l m k) := hsw
    have HR : Hid (BRow wr g m) := hrow
    have HG : Hid (w.grownBy wr (some g)) := hgr
    have hml : m.length = n := hsw.1.trans hn
    by_cases hlt : (k : Int) < (n : Int) - 1 - (k : Int)
    · obtain ⟨j, hj⟩ : ∃ j, j + k + 1 = n := ⟨n - 1 - k, by omega⟩
      have hji : (n : Int) - 1 - (k : Int) = (j : Int) := by omega
      have hkj : k < j := by omega
      have hkj2 : (k : Int) < (j : Int) := by omega
      have HSW : Hid (Swapped l ((m.set k (m.getD j 0)).set j (m.getD k 0)) (k + 1)) := swapped_succ hsw (by omega) hkj
      have ck := hrow.2.1 k (by omega)
      have cj := hrow.2.1 j (by omega)
      have fk := hrow.2.2 k (by omega)
      have fj := hrow.2.2 j (by omega)
      have hglt := hrow.1
      have hk0 : (0 : Int) ≤ (k : Int) := by omega
      have hj0 : (0 : Int) ≤ (j : Int) := by omega
      have hk1 : (k : Int) < (n : Int) := by omega
      have hj1 : (j : Int) < (n : Int) := by omega
      have HJ : Hid (j + k + 1 = n) := hj
      have hne : k ≠ j := by omega
      have hne2 : j ≠ k := by omega
      have HR2 : Hid (BRow ((wr.setCell ⟨g, k, none⟩ (.int .u8 ((m.getD j 0).toNat : Int))).setCell ⟨g, j, none⟩ (.int .u8 ((m.getD k 0).toNat : Int))) g ((m.set k (m.getD j 0)).set j (m.getD k 0))) := (HR.out.set (by omega) _).set (by rw [List.length_set]; omega) _
      rw [hji]
      generalize m.getD j 0 = xj at *
      generalize m.getD k 0 = xk at *
      clear hsw hrow hgr hlt hj
      go_wp2_with fail
      go_region
      all_goals
        go_wp2_with fail
        go_roundw
        case rel => exact ⟨k + 1, _, by go_num, by have := HJ.out; go_num, by have := HJ.out; omega, HSW.out, HR2.out.drew, grown_drewY (only_setY (only_setY HG.out))⟩
        case measure => have := HJ.out; simp [intOf]; omega
    · have he : m = l.reverse := swapped_end hsw (by omega)
      clear hsw hrow hgr
      go_wp2_with fail
      go_end0
      exact ⟨rfl, HG.out, by rw [← he]; exact HR.out⟩
set_option maxRecDepth 100000 in
set_option maxHeartbeats 1000000 in
theorem backwards_any (t : ByteArray) (w : World) (ht : t.size ≤ 8000) :
    Calls Try.prog 61 #[.string t] w fun e w' => e = .returned (.string (backT t)) ∧ Below w.heap.size w w' := by
  obtain ⟨v, cap, hcv, hbv, hrow⟩ := text_bytes w t
  have HBV : Hid (Below w.heap.size w v) := hbv
  have HR : Hid (BRow v w.heap.size t.data.toList) := hrow
  clear hbv hrow
  go_enter Try.func61, Try.ntmps61
  go_wp2_with fail
  refine (reverse_any w.heap.size t.size cap t.data.toList v (bsize_eq t).symm ht HR.out).mono ?_
  rintro e w1 ⟨rfl, hgr, hrow1⟩
  have hct := bytes_text w1 w.heap.size t.size cap t.data.toList.reverse (by rw [List.length_reverse, ← bsize_eq]) hrow1
  have B1 : Hid (Below w.heap.size w w1) := HBV.out.trans ⟨hgr.os, hgr.tape, hgr.output, hgr.size, fun j hj => hgr.block j (Nat.lt_of_lt_of_le hj HBV.out.size) (fun e => by injection e with e; omega)⟩
  clear hgr hrow1 hcv
  go_wp2_with fail
  go_ret
  exact ⟨rfl, B1.out⟩
end Go.Proofs.Ytfeolbgenpknfaa
namespace Go.Proofs.Ytfeolbgenpknfaa
open Go.RowKit

theorem Try.byteInfo : (Try.prog.info? 5).map (fun i => (i.zero, i.size, i.bytes)) = some (some (.int .u8 0), 1, 1) := by kernel_rfl
set_option maxRecDepth 100000 in
set_option maxHeartbeats 4000000 in
theorem cloneLite_any (s : ByteArray) (w : World) (hlim : s.size ≤ 1000000) :
    Calls Try.prog 114 #[.string s] w fun e w' => e = .returned (.string s) ∧ Below w.heap.size w w' := by
  by_cases h0 : s.size = 0
  · have hs : s = ⟨#[]⟩ := by
      apply ByteArray.ext
      exact Array.eq_empty_of_size_eq_zero h0
    subst hs
    go_enter Try.func114, Try.ntmps114
    go_wp2
    go_ret
    exact ⟨rfl, Below.refl _ _⟩
  · obtain ⟨i0, hi, hz0, hz1, hz2⟩ := info_parts Try.byteInfo
    have hinfo : (Try.prog.info? 5).map (·.size) = some 1 := by rw [hi]; simp [hz1]
    have hco : Try.prog.cellsOf 5 = 1 := by kernel_rfl
    obtain ⟨M, hM⟩ : ∃ M, M = madeCells (Value.int .u8 0).cells (s.size * 1) := ⟨_, rfl⟩
    have hMs : M.size = s.size := by rw [hM, size_madeCells]; omega
    have hmk : (Instr.makeSlice 22 (.int .i64 (s.size : Int)) (.int .i64 (s.size : Int))).run Try.prog w = .ok (.slice (some ⟨w.heap.size, 0, none⟩) s.size s.size) (w.alloc (.cells M 5)) := by
      have h := run_make (P := Try.prog) w 22 5 i0 (.int .u8 0) Try.underlying22 hi hz0 .i64 .i64 (s.size : Int) (s.size : Int) (by omega) (by omega) (by rw [hz2]; omega) (by omega)
      rw [h, hM, hz1]
      simp
    clear hM
    have hcp := Lib.run_copy_row_string (P := Try.prog) (w.alloc (.cells M 5)) 22 9 3 5 w.heap.size 0 s.size s.size s M 5 Try.underlying22 hinfo (heap_alloc_new w _) (Nat.le_refl _) (by omega)
    obtain ⟨Y, hY⟩ : ∃ Y, Y = (M.toList.take 0 ++ Lib.byteCells s.data.toList ++ M.toList.drop (0 + s.size)).toArray := ⟨_, rfl⟩
    rw [← hY] at hcp
    have hYl : Y.toList = Lib.byteCells s.data.toList := by
      rw [hY, List.toList_toArray, List.take_zero, List.nil_append, List.drop_of_length_le (by rw [Array.length_toList]; omega), List.append_nil]
    have hYs : Y.size = s.size := by rw [← Array.length_toList, hYl, Lib.byteCells_length, ← Lib.size_eq]
    have hgY : ((w.alloc (.cells M 5)).setRow w.heap.size Y).heap[w.heap.size]? = some (.cells Y 5 (0, 0)) := setRow_heap _ _ M _ 5 (0, 0) (heap_alloc_new w _)
    have hne : s.data.toList ≠ [] := fun e => h0 (by rw [Lib.size_eq, e]; rfl)
    have hUS := Lib.run_unsafeString_row (P := Try.prog) ((w.alloc (.cells M 5)).setRow w.heap.size Y) 174 3 9 5 Try.underlying174 hco w.heap.size Y.size (by unfold World.shape?; rw [hgY]) s.data.toList hne (by rw [← Lib.size_eq]; omega) (by rw [← Lib.size_eq]; omega)
      (fun j x hx => Lib.cells_of_row hgY Y.size j _ (by rw [List.take_of_length_le (by rw [Array.length_toList]; exact Nat.le_refl _), hYl]; simp [Lib.byteCells, hx]))
    rw [← Lib.size_eq] at hUS
    clear hY
    have hb1 : Below w.heap.size w (w.alloc (.cells M 5)) := (Below.refl _ w).alloc (Nat.le_refl _) _
    have hb2 : Below w.heap.size (w.alloc (.cells M 5)) ((w.alloc (.cells M 5)).setRow w.heap.size Y) := ⟨rfl, rfl, rfl, by simp, fun k hk => setRow_other _ _ _ _ (by omega)⟩
    have HB : Hid (Below w.heap.size w ((w.alloc (.cells M 5)).setRow w.heap.size Y)) := hb1.trans hb2
    clear hb1 hb2
    go_enter Try.func114, Try.ntmps114
    go_wp2
    go_ret
    exact ⟨rfl, Lib.below_freeze HB.out (p := ⟨w.heap.size, 0, none⟩) (Nat.le_refl _) _⟩
theorem clone_any (s : ByteArray) (w : World) (hlim : s.size ≤ 1000000) :
    Calls Try.prog 96 #[.string s] w fun e w' => e = .returned (.string s) ∧ Below w.heap.size w w' := by
  go_enter Try.func96, Try.ntmps96
  go_wp2_with fail
  refine (cloneLite_any s w hlim).mono ?_
  rintro e w1 ⟨rfl, hb⟩
  have HB : Hid (Below w.heap.size w w1) := hb
  clear hb
  go_wp2_with fail
  go_ret
  exact ⟨rfl, HB.out⟩
end Go.Proofs.Ytfeolbgenpknfaa
