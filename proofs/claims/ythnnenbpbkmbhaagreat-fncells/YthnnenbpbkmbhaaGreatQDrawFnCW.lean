/- What is proved here: the inputs that FnCells draws: a small pattern and a text, a row of cells and a text, a row of cells, a row of cells and a byte. -/
import Derived.Test.YthnnenbpbkmbhaaGreatQDrawCellW
import Derived.Deep.RegionHeld3
import Derived.Deep.RegionWith
namespace Go.Proofs.YthnnenbpbkmbhaaGreat
open Go.RowKit

/-- Some pattern and some text. -/
def PatAndText (m : Nat) (e : Ending) (w' : World) : Prop := ∃ (s : Option Addr) (n cap : Nat) (f : Nat → Atm) (t : ByteArray), e = .returned (.tuple #[.slice s n cap, .string t]) ∧ n ≤ 5 ∧ ARow w' w'.heap.size s n f ∧ (∀ i, i < n → SmallA (f i)) ∧ t.size ≤ m
/-- Some cells and some text. -/
def CelAndText (m : Nat) (e : Ending) (w' : World) : Prop := ∃ (s : Option Addr) (n cap : Nat) (f : Nat → Cel) (t : ByteArray), e = .returned (.tuple #[.slice s n cap, .string t]) ∧ n ≤ 60 ∧ CRow w' w'.heap.size s n f ∧ (∀ i, i < n → (f i).c.size ≤ 256) ∧ t.size ≤ m
set_option maxRecDepth 100000 in
set_option maxHeartbeats 4000000 in
theorem drawFits_any (w : World) (sa : Option Addr) (len cap : Nat) (hl : len ≤ 1048576) (hby : Bytes8 w w.heap.size sa len) :
    Calls Tryz.prog 5 #[.slice sa len cap] w fun e w' => PatAndText 20000 e w' ∧ Below w.heap.size w w' := by
  have HY : Hid (Bytes8 w w.heap.size sa len) := hby
  clear hby
  go_enter Tryz.func5, Tryz.ntmps5
  go_wp2_with fail
  refine (source_any w sa len cap hl HY.out).mono ?_
  rintro e w1 ⟨rfl, hb1, hS1⟩
  have HB1 : Hid (Below w.heap.size w w1) := hb1
  have HS1 : Hid (Src w1 w.heap.size sa len cap) := hS1
  clear hb1 hS1 HY
  go_wp2_with fail
  refine (l04Pattern_any _ w.heap.size sa len cap HS1.out).mono ?_
  rintro e w2 ⟨⟨s, n, cp, f, rfl, hn5, hsl, hsm⟩, hg2, hS2⟩
  have HB2 : Hid (Below w.heap.size w w2) := below_of_only HB1.out (Nat.le_refl _) HB1.out.size hg2
  have HS2 : Hid (Src w2 w.heap.size sa len cap) := hS2
  have HF : Hid (AFar w2 w1.heap.size s n f ∧ (∀ i, i < n → SmallA (f i)) ∧ w.heap.size < w1.heap.size) := ⟨hsl.far, hsm, HS1.out.lt⟩
  clear hg2 hS2 hsl hsm HB1
  go_wp2_with fail
  refine (one_any _ w.heap.size sa len cap 4 (by decide) HS2.out).mono ?_
  rintro e w3 ⟨⟨x, rfl⟩, hg3, hS3⟩
  have HB3 : Hid (Below w.heap.size w w3) := below_of_only HB2.out (Nat.le_refl _) HB2.out.size hg3
  have HS3 : Hid (Src w3 w.heap.size sa len cap) := hS3
  have HF3 : Hid (AFar w3 w1.heap.size s n f) := HF.out.1.kept hg3 (fun k hk => by injection hk with hk; have := HF.out.2.2; omega)
  clear hg3 hS3 HB2 HS2
  cases x with
  | true =>
    go_wp2_with fail
    refine (l05Text_any _ w.heap.size sa len cap HS3.out).mono ?_
    rintro e w4 ⟨⟨t, rfl, ht⟩, hg4, hS4⟩
    have HB4 : Hid (Below w.heap.size w w4) := below_of_only HB3.out (Nat.le_refl _) HB3.out.size hg4
    have HF4 : Hid (AFar w4 w1.heap.size s n f) := HF3.out.kept hg4 (fun k hk => by injection hk with hk; have := HF.out.2.2; omega)
    clear hg4 hS4 HB3
    go_wp2_with fail
    go_ret2
    exact ⟨⟨s, n, cp, f, t, rfl, hn5, HF4.out.row, HF.out.2.1, by omega⟩, HB4.out⟩
  | false =>
    go_wp2_with fail
    refine (l05Meant_any _ w.heap.size sa len cap w1.heap.size s n cp f HS3.out hn5 HF3.out HF.out.2.2 HF.out.2.1).mono ?_
    rintro e w4 ⟨⟨t, rfl, ht⟩, hg4, hS4⟩
    have HB4 : Hid (Below w.heap.size w w4) := below_of_only HB3.out (Nat.le_refl _) HB3.out.size hg4
    have HF4 : Hid (AFar w4 w1.heap.size s n f) := HF3.out.kept hg4 (fun k hk => by injection hk with hk; have := HF.out.2.2; omega)
    clear hg4 hS4 HB3
    go_wp2_with fail
    go_ret2
    exact ⟨⟨s, n, cp, f, t, rfl, hn5, HF4.out.row, HF.out.2.1, ht⟩, HB4.out⟩
theorem CSl.rowAfter {W W' : World} {lo n b : Nat} {s : Option Addr} {f : Nat → Cel} (h : CSl W lo W.heap.size s n f) (hg : W.grownBy W' (some b)) (hb : b < lo) : CRow W' W'.heap.size s n f := (h.src hg hb).row
open Classical in
set_option maxRecDepth 100000 in
set_option maxHeartbeats 4000000 in
theorem drawCellsFit_any (w : World) (sa : Option Addr) (len cap : Nat) (hl : len ≤ 1048576) (hby : Bytes8 w w.heap.size sa len) :
    Calls Tryz.prog 7 #[.slice sa len cap] w fun e w' => CelAndText 20000 e w' ∧ Below w.heap.size w w' := by
  have HY : Hid (Bytes8 w w.heap.size sa len) := hby
  clear hby
  go_enter Tryz.func7, Tryz.ntmps7
  go_wp2_with fail
  refine (source_any w sa len cap hl HY.out).mono ?_
  rintro e w1 ⟨rfl, hb1, hS1⟩
  have HB1 : Hid (Below w.heap.size w w1) := hb1
  have HS1 : Hid (Src w1 w.heap.size sa len cap) := hS1
  clear hb1 hS1 HY
  go_wp2_with fail
  refine (one_any _ w.heap.size sa len cap 2 (by decide) HS1.out).mono ?_
  rintro e w2 ⟨⟨x, rfl⟩, hg2, hS2⟩
  have HB2 : Hid (Below w.heap.size w w2) := below_of_only HB1.out (Nat.le_refl _) HB1.out.size hg2
  have HS2 : Hid (Src w2 w.heap.size sa len cap) := hS2
  clear hg2 hS2 HB1 HS1
  cases x with
  | true =>
    go_wp2_with fail
    refine (l04Pattern_any _ w.heap.size sa len cap HS2.out).mono ?_
    rintro e w3 ⟨⟨s, n, cp, f, rfl, hn5, hsl, hsm⟩, hg3, hS3⟩
    have HB3 : Hid (Below w.heap.size w w3) := below_of_only HB2.out (Nat.le_refl _) HB2.out.size hg3
    have HS3 : Hid (Src w3 w.heap.size sa len cap) := hS3
    have HF : Hid (AFar w3 w2.heap.size s n f ∧ (∀ i, i < n → SmallA (f i)) ∧ w.heap.size < w2.heap.size) := ⟨hsl.far, hsm, HS2.out.lt⟩
    have hcs : ∀ i, i < n → (f i).c.size ≤ maxLen := fun i hi => by have := (hsm i hi).1; unfold maxLen; omega
    clear hg3 hS3 hsl hsm HB2 HS2
    have HK : Hid (Calls Tryz.prog 13 #[.slice s n cp] w3 fun e w' => ∃ (s2 : Option Addr) (m c2 : Nat) (g : Nat → Cel), e = .returned (.slice s2 m c2) ∧ m ≤ 60 ∧ CSl w' w3.heap.size w'.heap.size s2 m g ∧ (∀ i, i < m → (g i).c.size ≤ 256) ∧ Below w3.heap.size w3 w') := by
      by_cases hR : PatRight n f
      · have hl := pat_len hR
        refine (specKOf_yes s n cp f w3 (by unfold maxLen; omega) HF.out.1.row hcs hR).mono ?_
        rintro e w' ⟨s3, c3, rfl, hb3, hs3⟩
        exact ⟨s3, _, c3, _, rfl, by omega, hs3, fun i hi => celsP_class (fun a ha => by obtain ⟨j, hj, rfl⟩ := atomsL_mem ha; exact (HF.out.2.1 j hj).1) _ (getD_mem hi), hb3⟩
      · refine (specKOf_no s n cp f w3 (by unfold maxLen; omega) HF.out.1.row hcs hR).mono ?_
        rintro e w' ⟨s3, c3, rfl, hb3, hs3⟩
        exact ⟨s3, 0, c3, (fun _ => cel0), rfl, by omega, Or.inl rfl, fun i hi => by omega, hb3⟩
    clear hcs
    go_wp2_with fail
    refine HK.out.mono ?_
    rintro e w4 ⟨s2, m, c2, g, rfl, hm, hs2, hg2, hb4⟩
    have HB4 : Hid (Below w.heap.size w w4) := HB3.out.trans (hb4.mono HB3.out.size)
    have HS4 : Hid (Src w4 w.heap.size sa len cap) := HS3.out.after hb4
    have HF4 : Hid (AFar w4 w2.heap.size s n f) := HF.out.1.kept (row := none) ⟨hb4.os, hb4.tape, hb4.output, hb4.size, fun k hk _ => hb4.block k hk⟩ (fun k hk => by cases hk)
    have HC4 : Hid (CSl w4 w3.heap.size w4.heap.size s2 m g ∧ (∀ i, i < m → (g i).c.size ≤ 256) ∧ w.heap.size < w3.heap.size) := ⟨hs2, hg2, HS3.out.lt⟩
    clear hs2 hg2 hb4 HK HB3 HS3
    go_wp2_with fail
    refine (l05Meant_any _ w.heap.size sa len cap w2.heap.size s n cp f HS4.out hn5 HF4.out HF.out.2.2 HF.out.2.1).mono ?_
    rintro e w5 ⟨⟨t, rfl, ht⟩, hg5, hS5⟩
    have HB5 : Hid (Below w.heap.size w w5) := below_of_only HB4.out (Nat.le_refl _) HB4.out.size hg5
    have HC5 : Hid (CRow w5 w5.heap.size s2 m g) := HC4.out.1.rowAfter hg5 HC4.out.2.2
    clear hg5 hS5 HB4
    go_wp2_with fail
    go_ret2
    exact ⟨⟨s2, m, c2, g, t, rfl, hm, HC5.out, HC4.out.2.1, ht⟩, HB5.out⟩
  | false =>
    go_wp2_with fail
    refine (l06Cells_any _ w.heap.size sa len cap HS2.out).mono ?_
    rintro e w3 ⟨⟨s, n, cp, f, rfl, hn60, hsl, hsm⟩, hg3, hS3⟩
    have HB3 : Hid (Below w.heap.size w w3) := below_of_only HB2.out (Nat.le_refl _) HB2.out.size hg3
    have HS3 : Hid (Src w3 w.heap.size sa len cap) := hS3
    have HF : Hid (CSl w3 w2.heap.size w3.heap.size s n f ∧ (∀ i, i < n → (f i).c.size ≤ 256) ∧ w.heap.size < w2.heap.size) := ⟨hsl, hsm, HS2.out.lt⟩
    clear hg3 hS3 hsl hsm HB2 HS2
    go_wp2_with fail
    refine (l05Text_any _ w.heap.size sa len cap HS3.out).mono ?_
    rintro e w4 ⟨⟨t, rfl, ht⟩, hg4, hS4⟩
    have HB4 : Hid (Below w.heap.size w w4) := below_of_only HB3.out (Nat.le_refl _) HB3.out.size hg4
    have HF4 : Hid (CRow w4 w4.heap.size s n f) := HF.out.1.rowAfter hg4 HF.out.2.2
    clear hg4 hS4 HB3
    go_wp2_with fail
    go_ret2
    exact ⟨⟨s, n, cp, f, t, rfl, hn60, HF4.out, HF.out.2.1, by omega⟩, HB4.out⟩
set_option maxHeartbeats 2000000 in
theorem drawMasksOf_any (w : World) (sa : Option Addr) (len cap : Nat) (hl : len ≤ 1048576) (hby : Bytes8 w w.heap.size sa len) :
    Calls Tryz.prog 8 #[.slice sa len cap] w fun e w' => (∃ (s : Option Addr) (n cp : Nat) (f : Nat → Cel), e = .returned (.slice s n cp) ∧ n ≤ 60 ∧ CRow w' w'.heap.size s n f ∧ ∀ i, i < n → (f i).c.size ≤ 256) ∧ Below w.heap.size w w' := by
  have HY : Hid (Bytes8 w w.heap.size sa len) := hby
  clear hby
  go_enter Tryz.func8, Tryz.ntmps8
  go_wp2_with fail
  refine (source_any w sa len cap hl HY.out).mono ?_
  rintro e w1 ⟨rfl, hb1, hS1⟩
  have HB1 : Hid (Below w.heap.size w w1) := hb1
  have HS1 : Hid (Src w1 w.heap.size sa len cap) := hS1
  clear hb1 hS1 HY
  go_wp2_with fail
  refine (l06Cells_any _ w.heap.size sa len cap HS1.out).mono ?_
  rintro e w2 ⟨⟨s, n, cp, f, rfl, hn60, hsl, hsm⟩, hg2, hS2⟩
  have HB2 : Hid (Below w.heap.size w w2) := below_of_only HB1.out (Nat.le_refl _) HB1.out.size hg2
  have HF : Hid (CRow w2 w2.heap.size s n f ∧ ∀ i, i < n → (f i).c.size ≤ 256) := ⟨hsl.row, hsm⟩
  clear hg2 hS2 hsl hsm HB1
  go_wp2_with fail
  go_ret
  exact ⟨⟨s, n, cp, f, rfl, hn60, HF.out.1, HF.out.2⟩, HB2.out⟩
/-- Some cells and some small number. -/
def CelAndInt (e : Ending) (w' : World) : Prop := ∃ (s : Option Addr) (n cap : Nat) (f : Nat → Cel) (x : Int), e = .returned (.tuple #[.slice s n cap, .int .i64 x]) ∧ n ≤ 60 ∧ CRow w' w'.heap.size s n f ∧ (∀ i, i < n → (f i).c.size ≤ 256) ∧ -1 ≤ x ∧ x ≤ 256
theorem grown_draw {w W : World} {b : Nat} (hg : w.drew.grownBy W (some b)) : w.grownBy W (some b) := ⟨hg.os, hg.tape, hg.output, hg.size, hg.block⟩
theorem grown_late {w W : World} {b : Nat} {o : Obj} (hg : (w.alloc o).drew.grownBy W (some b)) : w.grownBy W (some b) := (World.grownBy_alloc w o _).trans (grown_draw hg)
theorem eight (k : Nat) (hk : k < 8) : ∃ x : Int, (#[Value.int .i64 97, .int .i64 98, .int .i64 99, .int .i64 65, .int .i64 0, .int .i64 255, .int .i64 256, .int .i64 (-1)] : Array Value)[k]? = some (.int .i64 x) ∧ -1 ≤ x ∧ x ≤ 256 := by
  rcases (show k = 0 ∨ k = 1 ∨ k = 2 ∨ k = 3 ∨ k = 4 ∨ k = 5 ∨ k = 6 ∨ k = 7 from by omega) with rfl | rfl | rfl | rfl | rfl | rfl | rfl | rfl
  all_goals exact ⟨_, rfl, by decide, by decide⟩
set_option maxRecDepth 100000 in
set_option maxHeartbeats 4000000 in
theorem drawByteVec_any (w : World) (sa : Option Addr) (len cap : Nat) (hl : len ≤ 1048576) (hby : Bytes8 w w.heap.size sa len) :
    Calls Tryz.prog 9 #[.slice sa len cap] w fun e w' => CelAndInt e w' ∧ Below w.heap.size w w' := by
  have HY : Hid (Bytes8 w w.heap.size sa len) := hby
  clear hby
  go_enter Tryz.func9, Tryz.ntmps9
  go_wp2_with fail
  refine (source_any w sa len cap hl HY.out).mono ?_
  rintro e w1 ⟨rfl, hb1, hS1⟩
  have HB1 : Hid (Below w.heap.size w w1) := hb1
  have HS1 : Hid (Src w1 w.heap.size sa len cap) := hS1
  clear hb1 hS1 HY
  go_wp2_with fail
  refine (l06Cells_any _ w.heap.size sa len cap HS1.out).mono ?_
  rintro e w2 ⟨⟨s, n, cp, f, rfl, hn60, hsl, hsm⟩, hg2, hS2⟩
  have HB2 : Hid (Below w.heap.size w w2) := below_of_only HB1.out (Nat.le_refl _) HB1.out.size hg2
  have HS2 : Hid (Src w2 w.heap.size sa len cap) := hS2
  have HF : Hid (CSl w2 w1.heap.size w2.heap.size s n f ∧ (∀ i, i < n → (f i).c.size ≤ 256) ∧ w.heap.size < w1.heap.size) := ⟨hsl, hsm, HS1.out.lt⟩
  have hwb := hS2.lt
  clear hg2 hS2 hsl hsm HB1 HS1
  go_wp2_with fail
  go_region_with (first
    | (go_at_call 52; (with_reducible refine (n_any _ w.heap.size sa len cap 8 (by decide) (by first | exact HS2.out.after ⟨rfl, rfl, rfl, Nat.le_refl _, fun _ _ => rfl⟩ | exact (HS2.out.after ((Below.refl _ _).alloc (Nat.le_refl _) _)).after ⟨rfl, rfl, rfl, Nat.le_refl _, fun _ _ => rfl⟩)).mono ?_); rintro e w3 ⟨⟨r, rfl, hr0, hr1, _⟩, hg, hS⟩; have hr2 : r < 8 := hr1 (by decide); obtain ⟨k, rfl⟩ := Int.eq_ofNat_of_zero_le hr0; obtain ⟨x, hx, hx0, hx1⟩ := eight k (by omega); have hki : (k : Int) < 8 := (by omega); have hfut : (w3.alloc (.cells #[.int .i64 97, .int .i64 98, .int .i64 99, .int .i64 65, .int .i64 0, .int .i64 255, .int .i64 256, .int .i64 (-1)] 2)).cell? ⟨w3.heap.size, k, none⟩ = some (.int .i64 x) := (by rw [World.cell?_alloc_mark]; exact hx); (try (have hpast := hg.cell (a := ⟨w2.heap.size, k, none⟩) (v := .int .i64 x) (by show (w2.alloc (.cells #[.int .i64 97, .int .i64 98, .int .i64 99, .int .i64 65, .int .i64 0, .int .i64 255, .int .i64 256, .int .i64 (-1)] 2)).cell? ⟨w2.heap.size, k, none⟩ = _; rw [World.cell?_alloc_mark]; exact hx) (by simp; omega))); have hg2 : w2.grownBy w3 (some w.heap.size) := (by first | exact grown_draw hg | exact grown_late hg); have S3 : Hid (Below w.heap.size w w3 ∧ CSl w3 w1.heap.size w3.heap.size s n f) := ⟨below_of_only HB2.out (Nat.le_refl _) HB2.out.size hg2, HF.out.1.src hg2 HF.out.2.2⟩; clear hr1 hg2 hg hS hx))
  all_goals
    go_wp2_with fail
    go_ret2
    first
      | exact ⟨⟨s, n, cp, f, x, rfl, hn60, S3.out.2.row, HF.out.2.1, hx0, hx1⟩, S3.out.1⟩
      | exact ⟨⟨s, n, cp, f, x, rfl, hn60, (S3.out.2.kept ((Below.refl _ _).alloc (Nat.le_refl _) _)).row, HF.out.2.1, hx0, hx1⟩, S3.out.1.alloc S3.out.1.size _⟩
end Go.Proofs.YthnnenbpbkmbhaaGreat
