/- What is proved here: the law FnNums walks to true at every two slices of bytes; nothing that was there turns. Its condition: the variable errors.errorType holds what the program's text lays there. -/
import Derived.Test.YtpdedggnjcnpgaaDoorDrawNumsW
import Derived.Test.YtpdedggnjcnpgaaDoorNumsM
import Derived.Test.YtpdedggnjcnpgaaDoorImplNumW
import Derived.Deep.RegionWith
namespace Go.Proofs.YtpdedggnjcnpgaaDoor
open Go.RowKit Go.Lib

theorem keptBelow {w w' : World} {sa : Option Addr} {len : Nat} (h : Bytes8 w w.heap.size sa len) (hb : Below w.heap.size w w') : Bytes8 w' w.heap.size sa len :=
  h.kept (row := none) ⟨hb.os, hb.tape, hb.output, hb.size, fun k hk _ => hb.block k hk⟩ (fun k hk => by cases hk)
theorem Bytes8.up {w : World} {B B' : Nat} {sa : Option Addr} {len : Nat} (h : Bytes8 w B sa len) (hB : B ≤ B') : Bytes8 w B' sa len := by
  rcases h with h | ⟨bb, off, zs, h1, h2, h3⟩
  · exact Or.inl h
  · exact Or.inr ⟨bb, off, zs, h1, Nat.lt_of_lt_of_le h2 hB, h3⟩
/-- The variable errors.errorType holds the handle of the type error. -/
def Handle (w : World) : Prop := w.cell? ⟨0, 0, none⟩ = some (.iface 74 (.agg #[.pointer (some ⟨1, 41, none⟩)]))
theorem Handle.kept {w w' : World} (h : Handle w) (hb : Below w.heap.size w w') : Handle w' := by
  have hlt : 0 < w.heap.size := by
    rcases Nat.eq_zero_or_pos w.heap.size with h0 | h1
    · simp [Handle, World.cell?, h0] at h
    · exact h1
  unfold Handle
  rw [hb.cell (p := ⟨0, 0, none⟩) hlt]
  exact h

set_option maxRecDepth 100000 in
set_option maxHeartbeats 4000000 in
theorem law_fnNums (s1 : Option Addr) (l1 c1 : Nat) (s2 : Option Addr) (l2 c2 : Nat) (w : World) (hm1 : l1 ≤ maxLen) (hm2 : l2 ≤ maxLen) (hy1 : Bytes8 w w.heap.size s1 l1) (hy2 : Bytes8 w w.heap.size s2 l2) (hg : Handle w) :
    Calls Tryd.prog 3 #[.slice s1 l1 c1, .slice s2 l2 c2] w fun e w' => e = .returned (.bool true) ∧ Below w.heap.size w w' := by
  unfold maxLen at hm1 hm2
  have HY1 : Hid (Bytes8 w w.heap.size s1 l1) := hy1
  have HY2 : Hid (Bytes8 w w.heap.size s2 l2) := hy2
  have HG : Hid (Handle w) := hg
  clear hy1 hy2 hg
  by_cases hbig1 : 1048576 < (l1 : Int)
  · go_enter Tryd.func3, Tryd.ntmps3
    go_wp2
    go_ret
    exact ⟨rfl, Below.refl _ _⟩
  by_cases hbig2 : 1048576 < (l2 : Int)
  · go_enter Tryd.func3, Tryd.ntmps3
    go_wp2
    go_ret
    exact ⟨rfl, Below.refl _ _⟩
  have hl1 : l1 ≤ 1048576 := by omega
  have hl2 : l2 ≤ 1048576 := by omega
  go_enter Tryd.func3, Tryd.ntmps3
  go_wp2_with fail
  refine (drawPutNum_any w s1 l1 c1 hl1 HY1.out).mono ?_
  rintro e w1 ⟨⟨n, rfl, hn0, hn1⟩, hb1⟩
  have HB1 : Hid (Below w.heap.size w w1) := hb1
  clear hb1
  go_wp2_with fail
  refine (implPut_any n w1 hn0 hn1).mono ?_
  rintro e w2 ⟨rfl, hb2⟩
  have HB2 : Hid (Below w.heap.size w w2) := HB1.out.trans (hb2.mono HB1.out.size)
  clear hb2 HB1
  go_wp2_with fail
  refine (specPut_any n w2 hn0 hn1).mono ?_
  rintro e w3 ⟨rfl, hb3⟩
  have HB3 : Hid (Below w.heap.size w w3) := HB2.out.trans (hb3.mono HB2.out.size)
  clear hb3 HB2
  have hq := put_len n hn0 hn1
  have hc1 : ∀ w : World, Handle w → Calls Tryd.prog 7 #[.string (⟨#[120, 121]⟩ ++ putNum n ++ ⟨#[122]⟩), .int .i64 2] w fun e w' => e = .returned (.agg #[.int .i64 n, .int .i64 ((putNum n).size + 2), .int .i64 0]) ∧ Below w.heap.size w w' := by
    intro w hg
    have hz : ((⟨#[120, 121]⟩ : ByteArray) ++ putNum n ++ ⟨#[122]⟩).size = 2 + (putNum n).size + 1 := by rw [ByteArray.size_append, ByteArray.size_append]; rfl
    have hn : numOf (⟨#[120, 121]⟩ ++ putNum n ++ ⟨#[122]⟩) 2 = (n, ((putNum n).size : Int) + 2, 0) := by
      have h := num_back ⟨#[120, 121]⟩ ⟨#[122]⟩ n hn0 hn1 (by rw [hz]; omega)
      have e : (((⟨#[120, 121]⟩ : ByteArray).size + (putNum n).size : Nat) : Int) = ((putNum n).size : Int) + 2 := by
        show ((2 + (putNum n).size : Nat) : Int) = _
        omega
      rw [e] at h
      exact h
    have h := implGetNum (⟨#[120, 121]⟩ ++ putNum n ++ ⟨#[122]⟩) 2 w (by unfold maxLen; omega) hg
    rw [hn] at h
    exact h
  have hc2 : ∀ w : World, Handle w → Calls Tryd.prog 7 #[.string ((putNum n).extract 0 ((putNum n).size - 1)), .int .i64 0] w fun e w' => e = .returned (.agg #[.int .i64 0, .int .i64 0, .int .i64 4]) ∧ Below w.heap.size w w' := by
    intro w hg
    have h := implGetNum ((putNum n).extract 0 ((putNum n).size - 1)) 0 w (by unfold maxLen; simp; omega) hg
    rw [num_cut n hn0 hn1] at h
    exact h
  obtain ⟨q, hqe⟩ : ∃ q, q = putNum n := ⟨_, rfl⟩
  rw [← hqe] at hq hc1 hc2 ⊢
  have H1 : Hid (∀ w : World, Handle w → Calls Tryd.prog 7 #[.string (⟨#[120, 121]⟩ ++ q ++ ⟨#[122]⟩), .int .i64 2] w fun e w' => e = .returned (.agg #[.int .i64 n, .int .i64 (q.size + 2), .int .i64 0]) ∧ Below w.heap.size w w') := hc1
  have H2 : Hid (∀ w : World, Handle w → Calls Tryd.prog 7 #[.string (q.extract 0 (q.size - 1)), .int .i64 0] w fun e w' => e = .returned (.agg #[.int .i64 0, .int .i64 0, .int .i64 4]) ∧ Below w.heap.size w w') := hc2
  clear hqe hc1 hc2
  go_wp2_with fail
  refine (H1.out _ (HG.out.kept HB3.out)).mono ?_
  rintro e w4 ⟨rfl, hb4⟩
  have HB4 : Hid (Below w.heap.size w w4) := HB3.out.trans (hb4.mono HB3.out.size)
  clear hb4 HB3 H1
  have hfld : ∀ w : World, (Instr.field 26 (.agg #[.int .i64 0, .int .i64 0, .int .i64 4]) 2).run Tryd.prog w = .ok (.int .i64 4) w := fun _ => by kernel_rfl
  go_wp2_with fail
  have HB4' : Hid (Below w.heap.size w (w4.alloc (.cells #[.int .i64 n, .int .i64 (q.size + 2), .int .i64 0] 26))) := HB4.out.alloc HB4.out.size _
  refine (H2.out _ (HG.out.kept HB4'.out)).mono ?_
  rintro e w5 ⟨rfl, hb5⟩
  have HB5 : Hid (Below w.heap.size w w5) := HB4'.out.trans (hb5.mono HB4'.out.size)
  clear hb5 HB4 HB4' H2
  have HYt : Hid (Bytes8 w5 w5.heap.size s2 l2) := (keptBelow HY2.out HB5.out).up HB5.out.size
  go_wp2_with fail
  refine (drawPutText_any w5 s2 l2 c2 hl2 HYt.out).mono ?_
  clear HYt
  rintro e w6 ⟨⟨u, rfl, hu⟩, hb6⟩
  have HB6 : Hid (Below w.heap.size w w6) := HB5.out.trans (hb6.mono HB5.out.size)
  clear hb6 HB5 hfld hq hn0 hn1
  by_cases hu8 : u.size ≤ 8000
  · have hpz : (putText u).size = (putNum (u.size : Int)).size + u.size := ByteArray.size_append
    have hpl := put_len (u.size : Int) (by omega) (by omega)
    have hp1 : 1 ≤ (putText u).size := by omega
    have hp2 : (putText u).size ≤ 8010 := by omega
    go_wp2_with fail
    refine (implPutText_yes u w6 hu8).mono ?_
    rintro e w7 ⟨rfl, hb7⟩
    have HB7 : Hid (Below w.heap.size w w7) := HB6.out.trans (hb7.mono HB6.out.size)
    clear hb7 HB6
    go_wp2_with fail
    refine (specPutText_yes u w7 hu8).mono ?_
    rintro e w8 ⟨rfl, hb8⟩
    have HB8 : Hid (Below w.heap.size w w8) := HB7.out.trans (hb8.mono HB7.out.size)
    clear hb8 HB7
    have hpe : (putText u).toList.isEmpty = false := by
      rw [← Bool.not_eq_true, List.isEmpty_iff]
      intro h
      have h2 : (putText u).toList.length = (putText u).size := by rw [ByteArray.toList_eq, size_eq]
      rw [h] at h2
      have h3 : 0 = (putText u).size := h2
      omega
    have HT1 : Hid ((⟨#[120]⟩ ++ putText u : ByteArray).size ≤ 8000 → textOf (⟨#[120]⟩ ++ putText u) 1 = (u, ((putText u).size : Int) + 1, 0)) := by
      intro h
      have h1 := text_back ⟨#[120]⟩ u h
      have e : (((⟨#[120]⟩ : ByteArray).size + (putText u).size : Nat) : Int) = ((putText u).size : Int) + 1 := by
        show ((1 + (putText u).size : Nat) : Int) = _
        omega
      rw [e] at h1
      exact h1
    have HT2 : Hid ((putText u).size ≤ 8001 → (textOf ((putText u).extract 0 ((putText u).size - 1)) 0).2.2 = 4) := text_cut u
    clear hpz hpl
    generalize putText u = p at *
    have hsz : ((⟨#[120]⟩ : ByteArray) ++ p).size = 1 + p.size := by rw [ByteArray.size_append]; rfl
    have HSZ : Hid (((⟨#[120]⟩ : ByteArray) ++ p).size = 1 + p.size) := hsz
    clear hsz
    by_cases hbig : 8000 < p.size + 1
    · have hbig' : (8000 : Int) < (p.size : Int) + 1 := by omega
      go_wp2
      go_ret
      exact ⟨rfl, HB8.out⟩
    · have hbig' : ¬ (8000 : Int) < (p.size : Int) + 1 := by omega
      have hc1 : ∀ w : World, Handle w → Calls Tryd.prog 11 #[.string (⟨#[120]⟩ ++ p), .int .i64 1] w fun e w' => e = .returned (.agg #[.string u, .int .i64 (p.size + 1), .int .i64 0]) ∧ Below w.heap.size w w' := by
        intro w hg
        have h := implGetText (⟨#[120]⟩ ++ p) 1 w (by rw [HSZ.out]; unfold maxLen; omega) hg
        rw [HT1.out (by rw [HSZ.out]; omega)] at h
        exact h
      have hc2 : ∃ (a : ByteArray) (b : Int), ∀ w : World, Handle w → Calls Tryd.prog 11 #[.string (p.extract 0 (p.size - 1)), .int .i64 0] w fun e w' => e = .returned (.agg #[.string a, .int .i64 b, .int .i64 4]) ∧ Below w.heap.size w w' := by
        refine ⟨(textOf (p.extract 0 (p.size - 1)) 0).1, (textOf (p.extract 0 (p.size - 1)) 0).2.1, fun w hg => ?_⟩
        have h := implGetText (p.extract 0 (p.size - 1)) 0 w (by unfold maxLen; simp; omega) hg
        unfold textOut at h
        rw [HT2.out (by omega)] at h
        exact h
      obtain ⟨ta, tb, hc2⟩ := hc2
      have H1 : Hid (∀ w : World, Handle w → Calls Tryd.prog 11 #[.string (⟨#[120]⟩ ++ p), .int .i64 1] w fun e w' => e = .returned (.agg #[.string u, .int .i64 (p.size + 1), .int .i64 0]) ∧ Below w.heap.size w w') := hc1
      have H2 : Hid (∀ w : World, Handle w → Calls Tryd.prog 11 #[.string (p.extract 0 (p.size - 1)), .int .i64 0] w fun e w' => e = .returned (.agg #[.string ta, .int .i64 tb, .int .i64 4]) ∧ Below w.heap.size w w') := hc2
      clear hc1 hc2 HT1 HT2
      have hfld : ∀ w : World, (Instr.field 31 (.agg #[.string ta, .int .i64 tb, .int .i64 4]) 2).run Tryd.prog w = .ok (.int .i64 4) w := fun _ => by kernel_rfl
      go_wp2_with fail
      refine (H1.out _ (HG.out.kept HB8.out)).mono ?_
      rintro e w9 ⟨rfl, hb9⟩
      have HB9 : Hid (Below w.heap.size w w9) := HB8.out.trans (hb9.mono HB8.out.size)
      clear hb9 HB8 H1
      go_wp2_with fail
      refine (H2.out _ (HG.out.kept HB9.out)).mono ?_
      rintro e wa ⟨rfl, hba⟩
      have HBa : Hid (Below w.heap.size w wa) := HB9.out.trans (hba.mono HB9.out.size)
      clear hba HB9 H2
      go_wp2
      go_ret
      exact ⟨rfl, HBa.out⟩
  · have hu8' : 8000 < u.size := by omega
    have hum : u.size ≤ maxLen := by unfold maxLen; omega
    go_wp2_with fail
    refine (implPutText_no u w6 hum hu8').mono ?_
    rintro e w7 ⟨rfl, hw7⟩
    subst hw7
    go_wp2_with fail
    refine (specPutText_no u _ hum hu8').mono ?_
    rintro e w8 ⟨rfl, hw8⟩
    subst hw8
    go_wp2_with fail
    refine (specPutText_no u _ hum hu8').mono ?_
    rintro e w9 ⟨rfl, hw9⟩
    subst hw9
    go_wp2
    go_ret
    exact ⟨rfl, HB6.out⟩
end Go.Proofs.YtpdedggnjcnpgaaDoor
