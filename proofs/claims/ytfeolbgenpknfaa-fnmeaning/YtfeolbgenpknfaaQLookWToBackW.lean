/- What is said here: what stays while a pattern that is held against a text is asked again and again, and a list of numbers grows.
   What is proved here: a text turned into a slice of bytes, and back, as a walk uses it.
   What is proved here: the program turns a text round; nothing that was there turns. -/
import Derived.Test.YtfeolbgenpknfaaQMeanOfW
import Derived.Test.YtfeolbgenpknfaaQSpecPYesWToIntRowW
import Derived.Test.YtfeolbgenpknfaaProg
import Derived.WalkKit
import Derived.WalkSpells
import Derived.Laws.BytesArg
import Derived.Lib.ConvBytes
import Derived.Test.YtfeolbgenpknfaaQBackMToBytesRowW
import Derived.RegionTactic
import Derived.BigRegion
namespace Go.Proofs.Ytfeolbgenpknfaa
open Go.RowKit

theorem Memo.keptB {t : ByteArray} {ps : List Atm} {B C : Nat} {W W' : World} (h : Memo t ps B W) (hb : Below C W W') (hC : B < C) : Memo t ps B W' := by
  obtain ⟨D, h1, h2⟩ := h.ex
  refine ⟨D, ?_, h2⟩
  obtain ⟨es, clock, hb0, F, hs, e⟩ := h1
  exact ⟨es, clock, by rw [hb.block B hC]; exact hb0, F, hs, e⟩
/-- A pattern is held against a text, in a box; a list of numbers has grown beside it. -/
structure Asks (w W : World) (t : ByteArray) (ps : List Atm) (sb : Option Addr) (N cb B q base : Nat) (g : Nat → Atm) (v : Value) (l : List Int) : Prop where
  below : Below w.heap.size w W
  memo : Memo t ps B W
  row : ARow W B sb N g
  m0 : W.cell? ⟨q, 0, none⟩ = some (.slice sb N cb)
  m1 : W.cell? ⟨q, 1, none⟩ = some (.string t)
  m2 : W.cell? ⟨q, 2, none⟩ = some (.map (some B))
  lo : w.heap.size ≤ B
  bq : B < q
  qb : q < base
  bs : base ≤ W.heap.size
  own : W.ownsRow base 2 1 v l.length (icells l)
theorem Meant.since {w w1 w2 : World} {t : ByteArray} {L : List Atm} {sb : Option Addr} {N B : Nat} {g : Nat → Atm} (h : Meant w1 w2 t L sb N B g) (hb : Below w.heap.size w w1) : Meant w w2 t L sb N B g :=
  ⟨hb.trans (h.below.mono hb.size), h.memo, h.row, Nat.le_trans hb.size h.lo, h.len, h.eq, h.parted⟩
theorem asks_new {w w2 : World} {t : ByteArray} {L : List Atm} {sb : Option Addr} {N cb B : Nat} {g : Nat → Atm} (h : Meant w w2 t L sb N B g) (ty : TypeId) : Asks w (w2.alloc (.cells #[.slice sb N cb, .string t, .map (some B)] ty)) t (atomsL g N) sb N cb B w2.heap.size (w2.heap.size + 1) g (.slice none 0 0) [] := by
  have hb : Below w2.heap.size w2 (w2.alloc (.cells #[.slice sb N cb, .string t, .map (some B)] ty)) := (Below.refl _ _).alloc (Nat.le_refl _) _
  have hB := h.memo.lt
  exact ⟨h.below.trans (hb.mono h.below.size), h.memo.late hb, h.row.kept (hb.mono (by omega)), by simp, by simp, by simp, h.lo, hB, by omega, by simp, ⟨rfl, Or.inl ⟨rfl, rfl⟩⟩⟩
theorem Asks.turn {w W W' : World} {t : ByteArray} {ps : List Atm} {sb : Option Addr} {N cb B q base : Nat} {g : Nat → Atm} {v : Value} {l : List Int} (h : Asks w W t ps sb N cb B q base g v l) (hm : Memo t ps B W') (ht : Turn B W W') : Asks w W' t ps sb N cb B q base g v l := by
  have hq : q < W.heap.size := Nat.lt_of_lt_of_le h.qb h.bs
  have hn : q ≠ B := by have := h.bq; omega
  refine ⟨h.below.trans (ht.below (lo := w.heap.size) h.lo h.below.size), hm, h.row.turn ht h.memo.lt, by rw [ht.cell hq hn]; exact h.m0, by rw [ht.cell hq hn]; exact h.m1, by rw [ht.cell hq hn]; exact h.m2, h.lo, h.bq, h.qb, Nat.le_trans h.bs ht.size, ?_⟩
  exact h.own.kept ht.g (Or.inr (fun e => by have := (h.own.lt B e).1; have := h.bq; have := h.qb; omega))
theorem Asks.grow {w W W' : World} {t : ByteArray} {ps : List Atm} {sb : Option Addr} {N cb B q base : Nat} {g : Nat → Atm} {v v' : Value} {l l' : List Int} {row : Option Nat} (h : Asks w W t ps sb N cb B q base g v l) (hg : W.grownBy W' row) (hr : ∀ j, row = some j → base ≤ j) (ho : W'.ownsRow base 2 1 v' l'.length (icells l')) : Asks w W' t ps sb N cb B q base g v' l' := by
  have hb := grown_lo hg hr (Nat.le_refl base) h.bs
  have hq := h.bq
  have hq2 := h.qb
  have hlo := h.lo
  refine ⟨h.below.trans (hb.mono (by omega)), h.memo.keptB hb (by omega), h.row.kept (hb.mono (by omega)), by rw [hb.cell (p := ⟨q, 0, none⟩) hq2]; exact h.m0, by rw [hb.cell (p := ⟨q, 1, none⟩) hq2]; exact h.m1, by rw [hb.cell (p := ⟨q, 2, none⟩) hq2]; exact h.m2, h.lo, h.bq, h.qb, Nat.le_trans h.bs hg.size, ho⟩
theorem Asks.new {w W : World} {t : ByteArray} {ps : List Atm} {sb : Option Addr} {N cb B q base : Nat} {g : Nat → Atm} {v : Value} {l : List Int} (h : Asks w W t ps sb N cb B q base g v l) : NewInts w l.length (fun i => l.getD i 0) (.returned v) W :=
  new_of_ints (ints_low h.own (by have := h.lo; have := h.bq; have := h.qb; omega)) h.below
end Go.Proofs.Ytfeolbgenpknfaa
namespace Go.Proofs.Ytfeolbgenpknfaa
open Go.RowKit Go.Lib

theorem bsize_eq (s : ByteArray) : s.size = s.data.toList.length := by simp
/-- The bytes of a list lie in a row that may be written. -/
def BRow (w : World) (g : Nat) (l : List UInt8) : Prop := g < w.heap.size ∧ (∀ j, j < l.length → w.cell? ⟨g, j, none⟩ = some (.int .u8 ((l.getD j 0).toNat : Int))) ∧ ∀ j, j < l.length → w.frozen? ⟨g, j, none⟩ = false
theorem text_bytes (w : World) (s : ByteArray) : ∃ w' cap, (convert 9 22 (.string s)).run Try.prog w = .ok (.slice (some ⟨w.heap.size, 0, none⟩) s.size cap) w' ∧ Below w.heap.size w w' ∧ BRow w' w.heap.size s.data.toList := by
  refine ⟨bytesWorld w 5 s, _, Lib.run_convert_string_bytes w 9 22 5 s Try.underlying9 Try.underlying22 Try.underlying5, ⟨rfl, rfl, rfl, by rw [bytesWorld_size]; omega, fun k hk => bytesWorld_at_old w _ s k hk⟩, by rw [bytesWorld_size]; omega, fun j hj => bytesWorld_cell w _ s j (by rw [bsize_eq]; exact hj), fun j hj => ?_⟩
  have h := bytesWorld_at_new w 5 s
  have hj' : j < (bytesCells w 5 s).size := by
    have : s.size ≤ (bytesCells w 5 s).size := by unfold bytesCells; rw [Array.size_append, Array.size_map, ByteArray.size_data]; omega
    rw [bsize_eq] at this
    omega
  simp [World.frozen?, h]
  omega
theorem nums_bytes (l : List UInt8) : strOfNums (l.map fun b => (b.toNat : Int)) = ⟨l.toArray⟩ := by
  unfold strOfNums
  rw [List.map_map]
  congr 2
  rw [show ((fun n : Int => UInt8.ofNat n.toNat) ∘ fun b : UInt8 => (b.toNat : Int)) = id from by funext b; simp]
  simp
theorem bytes_text (w : World) (g n cap : Nat) (l : List UInt8) (hn : l.length = n) (h : BRow w g l) : (convert 22 9 (.slice (some ⟨g, 0, none⟩) n cap)).run Try.prog w = .ok (.string ⟨l.toArray⟩) w := by
  have hc := run_convert_bytes_arg (P := Try.prog) w 22 5 Try.underlying22 Try.underlying5 g 0 n cap (l.map fun b => (b.toNat : Int)) (by simp [hn]) (fun i hi => by
    rw [Nat.zero_add, h.2.1 i (by omega)]
    simp [List.getD, List.getElem?_map, List.getElem?_eq_getElem (show i < l.length by omega)]) 9 Try.underlying9
  rw [nums_bytes] at hc
  exact hc
theorem BRow.set {w : World} {g p : Nat} {l : List UInt8} (h : BRow w g l) (hp : p < l.length) (x : UInt8) : BRow (w.setCell ⟨g, p, none⟩ (.int .u8 (x.toNat : Int))) g (l.set p x) := by
  refine ⟨by simpa [World.setCell] using h.1, fun j hj => ?_, fun j hj => ?_⟩
  · rw [List.length_set] at hj
    by_cases e : j = p
    · subst e
      rw [World.cell?_setCell_same _ _ _ (h.2.1 j hj)]
      simp [List.getD, List.getElem?_set_self hj]
    · rw [World.cell?_setCell_other _ _ _ _ (fun hh => e (by injection hh with _ h2 _; exact h2.symm)), h.2.1 j hj]
      simp [List.getD, List.getElem?_set_ne (Ne.symm e)]
  · rw [List.length_set] at hj
    rw [World.frozen?_setCell]
    exact h.2.2 j hj
theorem BRow.drew {w : World} {g : Nat} {l : List UInt8} (h : BRow w g l) : BRow w.drew g l := h
end Go.Proofs.Ytfeolbgenpknfaa
namespace Go.Proofs.Ytfeolbgenpknfaa
open Go.RowKit

theorem only_setY {a w : World} {b i : Nat} {v : Value} (h : a.grownBy w (some b)) : a.grownBy (w.setCell ⟨b, i, none⟩ v) (some b) :=
  h.trans ⟨rfl, rfl, rfl, by simp [World.setCell], fun k _ hk => Below.heap_setCell _ _ _ _ (fun e => hk (by simp [e]))⟩
theorem grown_drewY {a w : World} {b : Nat} (h : a.grownBy w (some b)) : a.grownBy w.drew (some b) := ⟨h.os, h.tape, h.output, h.size, h.block⟩
set_option maxRecDepth 100000 in
set_option maxHeartbeats 4000000 in
theorem reverse_any (g n cap : Nat) (l : List UInt8) (w : World) (hn : l.length = n) (hs : n ≤ 8000) (hb : BRow w g l) :
    Calls Try.prog 97 #[.slice (some ⟨g, 0, none⟩) n cap] w fun e w' => e = .returned (.tuple #[]) ∧ w.grownBy w' (some g) ∧ BRow w' g l.reverse := by
  have HB : Hid (BRow w g l) := hb
  have HN : Hid (l.length = n) := hn
  clear hb
  go_enter Try.func97, Try.ntmps97
  go_wp2_with fail
  go_loopw [2, 3] (fun iv jv wr => ∃ (k : Nat) (m : List UInt8), iv = .int .i64 (k : Int) ∧ jv = .int .i64 ((n : Int) - 1 - (k : Int)) ∧ (k = 0 ∨ 2 * k ≤ n) ∧ Swapped l m k ∧ BRow wr g m ∧ w.grownBy wr (some g)) (fun iv _ _ => n + 1 - (intOf iv).toNat)
  case atStart => exact ⟨0, l, rfl, by go_num, Or.inl rfl, swapped_zero l, HB.out, World.grownBy.refl _ _⟩
  case round =>
    obtain ⟨k, m, rfl, rfl, hk, hsw, hrow, hgr⟩ := hrel
    have HS : Hid (Swapped l m k) := hsw
    have HR : Hid (BRow wr g m) := hrow
    have HG : Hid (w.grownBy wr (some g)) := hgr
    have hml : m.length = n := hsw.1.trans hn
    by_cases hlt : (k : Int) < (n : Int) - 1 - (k : Int)
    · obtain ⟨j, hj⟩ : ∃ j, j + k + 1 = n := ⟨n - 1 - k, by omega⟩
      have hji : (n : Int) - 1 - (k : Int) = (j : Int) := by omega
      have hkj : k < j := by omega
      have hkj2 : (k : Int) < (j : Int) := by omega
      have HSW : Hid (Swapped l ((m.set k (m.getD j 0)).set j (m.getD k 0)) (k + 1)) := swapped_succ hsw (by omega) hkj
      have ck := hrow.2.1 k (by omega)
      have cj := hrow.2.1 j (by omega)
      have fk := hrow.2.2 k (by omega)
      have fj := hrow.2.2 j (by omega)
      have hglt := hrow.1
      have hk0 : (0 : Int) ≤ (k : Int) := by omega
      have hj0 : (0 : Int) ≤ (j : Int) := by omega
      have hk1 : (k : Int) < (n : Int) := by omega
      have hj1 : (j : Int) < (n : Int) := by omega
      have HJ : Hid (j + k + 1 = n) := hj
      have hne : k ≠ j := by omega
      have hne2 : j ≠ k := by omega
      have HR2 : Hid (BRow ((wr.setCell ⟨g, k, none⟩ (.int .u8 ((m.getD j 0).toNat : Int))).setCell ⟨g, j, none⟩ (.int .u8 ((m.getD k 0).toNat : Int))) g ((m.set k (m.getD j 0)).set j (m.getD k 0))) := (HR.out.set (by omega) _).set (by rw [List.length_set]; omega) _
      rw [hji]
      generalize m.getD j 0 = xj at *
      generalize m.getD k 0 = xk at *
      clear hsw hrow hgr hlt hj
      go_wp2_with fail
      go_region
      all_goals
        go_wp2_with fail
        go_roundw
        case rel => exact ⟨k + 1, _, by go_num, by have := HJ.out; go_num, by have := HJ.out; omega, HSW.out, HR2.out.drew, grown_drewY (only_setY (only_setY HG.out))⟩
        case measure => have := HJ.out; simp [intOf]; omega
    · have he : m = l.reverse := swapped_end hsw (by omega)
      clear hsw hrow hgr
      go_wp2_with fail
      go_end0
      exact ⟨rfl, HG.out, by rw [← he]; exact HR.out⟩
set_option maxRecDepth 100000 in
set_option maxHeartbeats 1000000 in
theorem backwards_any (t : ByteArray) (w : World) (ht : t.size ≤ 8000) :
    Calls Try.prog 61 #[.string t] w fun e w' => e = .returned (.string (backT t)) ∧ Below w.heap.size w w' := by
  obtain ⟨v, cap, hcv, hbv, hrow⟩ := text_bytes w t
  have HBV : Hid (Below w.heap.size w v) := hbv
  have HR : Hid (BRow v w.heap.size t.data.toList) := hrow
  clear hbv hrow
  go_enter Try.func61, Try.ntmps61
  go_wp2_with fail
  refine (reverse_any w.heap.size t.size cap t.data.toList v (bsize_eq t).symm ht HR.out).mono ?_
  rintro e w1 ⟨rfl, hgr, hrow1⟩
  have hct := bytes_text w1 w.heap.size t.size cap t.data.toList.reverse (by rw [List.length_reverse, ← bsize_eq]) hrow1
  have B1 : Hid (Below w.heap.size w w1) := HBV.out.trans ⟨hgr.os, hgr.tape, hgr.output, hgr.size, fun j hj => hgr.block j (Nat.lt_of_lt_of_le hj HBV.out.size) (fun e => by injection e with e; omega)⟩
  clear hgr hrow1 hcv
  go_wp2_with fail
  go_ret
  exact ⟨rfl, B1.out⟩
end Go.Proofs.Ytfeolbgenpknfaa
