/- What is proved here: the program holds a right pattern against a text, and says how far one gets from a place on; nothing that was there turns. -/
import Derived.Test.YtfeolbgenpknfaaQFurthW
import Derived.Test.YtfeolbgenpknfaaQPartedW
import Derived.Carry
namespace Go.Proofs.Ytfeolbgenpknfaa
open Go.RowKit

/-- A pattern is held against a text: its parted atoms, the text, a map in which nothing wrong is known. -/
structure Meant (w w' : World) (t : ByteArray) (L : List Atm) (sa : Option Addr) (N B : Nat) (g : Nat → Atm) : Prop where
  below : Below w.heap.size w w'
  memo : Memo t (atomsL g N) B w'
  row : ARow w' B sa N g
  lo : w.heap.size ≤ B
  len : N ≤ 40
  eq : atomsL g N = partL L
  parted : ∀ j, j < N → Parted (g j)
theorem row_of_sl {w : World} {lo hi n : Nat} {sa : Option Addr} {f : Nat → Atm} (h : ASl w lo hi sa n f) : ARow w hi sa n f := by
  rcases h with h | ⟨g, h1, h2, h4, h3⟩
  · exact Or.inl h
  · subst h1
    exact h3.row h4
set_option maxRecDepth 100000 in
set_option maxHeartbeats 4000000 in
theorem meaningOf_any (sa : Option Addr) (n cap : Nat) (f : Nat → Atm) (t : ByteArray) (w : World) (hn20 : n ≤ 20) (hr : ARow w w.heap.size sa n f) (hR : ∀ i, i < n → AtomRight (f i)) :
    Calls Try.prog 58 #[.slice sa n cap, .string t] w fun e w' => ∃ (sb : Option Addr) (N cb B : Nat) (g : Nat → Atm), e = .returned (.agg #[.slice sb N cb, .string t, .map (some B)]) ∧ Meant w w' t (atomsL f n) sb N B g := by
  have hmm := @run_makeMap Try.prog
  have HL : Hid ((partL (atomsL f n)).length ≤ 40) := by have := partL_len (atomsL f n); rw [atomsL_len] at this; show (partL (atomsL f n)).length ≤ 40; omega
  have HP : Hid (∀ j, j < (partL (atomsL f n)).length → Parted ((partL (atomsL f n)).getD j atm0)) := fun j hj => by
    have h1 : (partL (atomsL f n)).getD j atm0 ∈ partL (atomsL f n) := by
      rw [List.getD_eq_getElem?_getD, List.getElem?_eq_getElem hj]
      exact List.getElem_mem hj
    exact (parted_all (fun a ha => by obtain ⟨i, hi, rfl⟩ := atomsL_mem ha; exact hR i hi) _ h1).1
  have HE : Hid (atomsL (fun i => (partL (atomsL f n)).getD i atm0) (partL (atomsL f n)).length = partL (atomsL f n)) := atomsL_getD _
  have HR : Hid (ARow w w.heap.size sa n f) := hr
  clear hr hR
  go_enter Try.func58, Try.ntmps58
  go_wp2_with fail
  have b0 : Below w.heap.size w (w.alloc (.cells #[.slice none 0 0, .string ⟨#[]⟩, .map none] 73)) := (Below.refl _ _).alloc (Nat.le_refl _) _
  have x0 : (w.alloc (.cells #[.slice none 0 0, .string ⟨#[]⟩, .map none] 73)).heap.size = w.heap.size + 1 := by simp
  have y0 : (w.alloc (.cells #[.slice none 0 0, .string ⟨#[]⟩, .map none] 73)).heap[w.heap.size]? = some (.cells #[.slice none 0 0, .string ⟨#[]⟩, .map none] 73) := heap_alloc_new w _
  generalize w.alloc (.cells #[.slice none 0 0, .string ⟨#[]⟩, .map none] 73) = v at *
  refine (parted_any sa n cap f v hn20 ((HR.out.kept b0).up b0.size)).mono ?_
  rintro e w1 ⟨sb, cb, rfl, hb1, hsl⟩
  generalize hLL : partL (atomsL f n) = LL at *
  have hblk := hb1.block w.heap.size (by omega)
  rw [y0] at hblk
  have k0 : w1.cell? ⟨w.heap.size, 0, none⟩ = some (.slice none 0 0) := by simp [World.cell?, hblk]
  have k1 : w1.cell? ⟨w.heap.size, 1, none⟩ = some (.string ⟨#[]⟩) := by simp [World.cell?, hblk]
  have k2 : w1.cell? ⟨w.heap.size, 2, none⟩ = some (.map none) := by simp [World.cell?, hblk]
  have f0 : w1.frozen? ⟨w.heap.size, 0, none⟩ = false := frozen_of_row _ _ _ _ _ hblk
  have f1 : w1.frozen? ⟨w.heap.size, 1, none⟩ = false := frozen_of_row _ _ _ _ _ hblk
  have f2 : w1.frozen? ⟨w.heap.size, 2, none⟩ = false := frozen_of_row _ _ _ _ _ hblk
  have hz1 : w.heap.size < w1.heap.size := by have := hb1.size; omega
  have B1 : Hid (Below w.heap.size w w1) := b0.trans (hb1.mono (by omega))
  have R1 : Hid (ASl w1 v.heap.size w1.heap.size sb LL.length (fun i => LL.getD i atm0)) := hsl
  clear b0 y0 hb1 hsl hblk
  go_wp2_with fail
  have ON : OnlyA w1 (((w1.setCell ⟨w.heap.size, 0, none⟩ (.slice sb LL.length cb)).setCell ⟨w.heap.size, 1, none⟩ (.string t)).setCell ⟨w.heap.size, 2, none⟩ (.map (some w1.heap.size))) w.heap.size (w.heap.size + 1) :=
    ⟨some w.heap.size, ((grown_set w1 ⟨w.heap.size, 0, none⟩ _).trans (grown_set _ ⟨w.heap.size, 1, none⟩ _)).trans (grown_set _ ⟨w.heap.size, 2, none⟩ _), fun j e => by injection e with e; omega⟩
  have RN := R1.out.only ON (Or.inr (by omega))
  have BN : Below w.heap.size w (((w1.setCell ⟨w.heap.size, 0, none⟩ (.slice sb LL.length cb)).setCell ⟨w.heap.size, 1, none⟩ (.string t)).setCell ⟨w.heap.size, 2, none⟩ (.map (some w1.heap.size))) := ((B1.out.setCell (Nat.le_refl _) _).setCell (Nat.le_refl _) _).setCell (Nat.le_refl _) _
  have SN : (((w1.setCell ⟨w.heap.size, 0, none⟩ (.slice sb LL.length cb)).setCell ⟨w.heap.size, 1, none⟩ (.string t)).setCell ⟨w.heap.size, 2, none⟩ (.map (some w1.heap.size))).heap.size = w1.heap.size := by rw [set_size, set_size, set_size]
  have MN := memo_new t (atomsL (fun i => LL.getD i atm0) LL.length) (((w1.setCell ⟨w.heap.size, 0, none⟩ (.slice sb LL.length cb)).setCell ⟨w.heap.size, 1, none⟩ (.string t)).setCell ⟨w.heap.size, 2, none⟩ (.map (some w1.heap.size)))
  rw [SN] at MN
  have hne : ∀ {x y : Nat}, x ≠ y → (⟨w.heap.size, x, none⟩ : Addr) ≠ ⟨w.heap.size, y, none⟩ := fun hxy hh => hxy (by injection hh)
  have z0 : (((w1.setCell ⟨w.heap.size, 0, none⟩ (.slice sb LL.length cb)).setCell ⟨w.heap.size, 1, none⟩ (.string t)).setCell ⟨w.heap.size, 2, none⟩ (.map (some w1.heap.size))).cell? ⟨w.heap.size, 0, none⟩ = some (.slice sb LL.length cb) := by
    rw [World.cell?_setCell_other _ _ _ _ (hne (by omega)), World.cell?_setCell_other _ _ _ _ (hne (by omega))]
    exact World.cell?_setCell_same _ _ _ k0
  have z1 : (((w1.setCell ⟨w.heap.size, 0, none⟩ (.slice sb LL.length cb)).setCell ⟨w.heap.size, 1, none⟩ (.string t)).setCell ⟨w.heap.size, 2, none⟩ (.map (some w1.heap.size))).cell? ⟨w.heap.size, 1, none⟩ = some (.string t) := by
    rw [World.cell?_setCell_other _ _ _ _ (hne (by omega))]
    exact World.cell?_setCell_same _ _ _ (by rw [World.cell?_setCell_other _ _ _ _ (hne (by omega))]; exact k1)
  have z2 : (((w1.setCell ⟨w.heap.size, 0, none⟩ (.slice sb LL.length cb)).setCell ⟨w.heap.size, 1, none⟩ (.string t)).setCell ⟨w.heap.size, 2, none⟩ (.map (some w1.heap.size))).cell? ⟨w.heap.size, 2, none⟩ = some (.map (some w1.heap.size)) :=
    World.cell?_setCell_same _ _ _ (by rw [World.cell?_setCell_other _ _ _ _ (hne (by omega)), World.cell?_setCell_other _ _ _ _ (hne (by omega))]; exact k2)
  generalize (((w1.setCell ⟨w.heap.size, 0, none⟩ (.slice sb LL.length cb)).setCell ⟨w.heap.size, 1, none⟩ (.string t)).setCell ⟨w.heap.size, 2, none⟩ (.map (some w1.heap.size))) = u at *
  have BA : Below u.heap.size u (u.alloc (.map #[] 0)) := (Below.refl _ _).alloc (Nat.le_refl _) _
  have RA := row_of_sl (RN.kept BA)
  have y0 := (BA.cell (p := ⟨w.heap.size, 0, none⟩) (by show w.heap.size < _; omega)).trans z0
  have y1 := (BA.cell (p := ⟨w.heap.size, 1, none⟩) (by show w.heap.size < _; omega)).trans z1
  have y2 := (BA.cell (p := ⟨w.heap.size, 2, none⟩) (by show w.heap.size < _; omega)).trans z2
  have BF : Below w.heap.size w (u.alloc (.map #[] 0)) := BN.trans (BA.mono BN.size)
  clear z0 z1 z2 k0 k1 k2 f0 f1 f2 BA
  generalize u.alloc (.map #[] 0) = x at *
  refine bodyPost_ret (v := .agg #[.slice sb LL.length cb, .string t, .map (some w1.heap.size)]) (by simp [results, Try.results58, go_sem, y0, y1, y2]) rfl ?_
  exact ⟨sb, LL.length, cb, w1.heap.size, fun i => LL.getD i atm0, rfl, BF, MN, RA, B1.out.size, HL.out, by rw [hLL]; exact HE.out, HP.out⟩

set_option maxHeartbeats 2000000 in
theorem from_any (sa : Option Addr) (N cap B s : Nat) (t : ByteArray) (g : Nat → Atm) (w : World) (hN : N ≤ 40) (ht : t.size ≤ 8000) (hs : s ≤ t.size) (hP : ∀ j, j < N → Parted (g j)) (hM : Memo t (atomsL g N) B w) (hR : ARow w B sa N g) :
    Calls Try.prog 59 #[.agg #[.slice sa N cap, .string t, .map (some B)], .int .i64 (s : Int)] w fun e w' => ∃ v : Int, e = .returned (.int .i64 v) ∧ Far t (atomsL g N) s v ∧ Memo t (atomsL g N) B w' ∧ Turn B w w' := by
  have HF : Hid (FurC sa N cap t g B 0 s) := fur_all sa N cap t g B hN ht hP _ 0 s (Nat.le_refl _) (Nat.zero_le _) hs
  have b0 : Below w.heap.size w (w.alloc (.cells #[.slice sa N cap, .string t, .map (some B)] 73)) := (Below.refl _ _).alloc (Nat.le_refl _) _
  have M0 := hM.late b0
  have T0 := Turn.of (B := B) b0
  have R0 := hR.turn T0 hM.lt
  have HM0 : Hid (Memo t (atomsL g N) B (w.alloc (.cells #[.slice sa N cap, .string t, .map (some B)] 73))) := M0
  have HT0 : Hid (Turn B w (w.alloc (.cells #[.slice sa N cap, .string t, .map (some B)] 73))) := T0
  have HR0 : Hid (ARow (w.alloc (.cells #[.slice sa N cap, .string t, .map (some B)] 73)) B sa N g) := R0
  clear hM hR b0 M0 T0 R0 hP
  go_enter Try.func59, Try.ntmps59
  go_wp2_with fail
  generalize w.alloc (.cells #[.slice sa N cap, .string t, .map (some B)] 73) = v at *
  have C := HF.out v HM0.out HR0.out
  rw [show ((0 : Nat) : Int) = (0 : Int) from rfl] at C
  refine C.mono ?_
  rintro e w1 ⟨u, rfl, hfar, hm1, ht1⟩
  have T1 : Hid (Turn B w w1) := HT0.out.trans ht1
  have M1 : Hid (Memo t (atomsL g N) B w1) := hm1
  have F1 : Hid (Far t ((atomsL g N).drop 0) s u) := hfar
  clear C hfar hm1 ht1
  go_wp2_with fail
  go_ret
  exact ⟨_, rfl, F1.out, M1.out, T1.out⟩
theorem far_end {t : ByteArray} {L : List Atm} {s : Nat} {v : Int} (h : Far t L s v) (hs : s ≤ t.size) : v = (t.size : Int) ↔ Cuts t L s t.size := by
  rcases h with ⟨h1, h2⟩ | ⟨e, h1, h2, h3⟩
  · exact ⟨fun h => by omega, fun h => absurd h (h2 _)⟩
  · constructor
    · intro h
      have : e = t.size := by omega
      rw [← this]
      exact h2
    · intro h
      have a := h3 _ h
      have b := (h2.le hs).2
      omega
theorem far_part {t : ByteArray} {L : List Atm} {s : Nat} {v : Int} (h : Far t (partL L) s v) : Far t L s v := Best.congr h (fun _ => cuts_part)
end Go.Proofs.Ytfeolbgenpknfaa
