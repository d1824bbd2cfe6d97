/- What is proved here: a row of cells and a text that are drawn.
   What is proved here: the inputs that FnWalk draws: some cells and a text; some pattern and a text.
   What is said here: the places to which one comes by a byte, as bits.
   What is proved here: the program writes down for each byte the places behind the cells that have it, in the row's own block; nothing else that was there turns.
   What is proved here: the parts of sync.Once's two roads at a free lock, one goroutine. -/
import Derived.Test.YtlgnplnmcdjbiaaGreatQDrawCellW
import Derived.Test.YtlgnplnmcdjbiaaGreatQDrawWToBoolRowsW
import Derived.Deep.RegionHeld3
import Derived.Deep.RegionWith
import Derived.Test.YtlgnplnmcdjbiaaGreatQCellMToWordM
import Derived.Test.YtlgnplnmcdjbiaaGreatQMRowOfWToWalkOfW
import Derived.RegionTactic
import Derived.BigRegion
import Derived.Test.YtlgnplnmcdjbiaaGreatProg
import Derived.WalkKit
import Derived.Defers
import Derived.Laws.Pointers
import Derived.Laws.LoneSync
import Derived.RegionCalls
namespace Go.Proofs.YtlgnplnmcdjbiaaGreat
open Go.RowKit

/-- Some cells and some text. -/
def CelAndText (m : Nat) (e : Ending) (w' : World) : Prop := ∃ (s : Option Addr) (n cap : Nat) (f : Nat → Cel) (t : ByteArray), e = .returned (.tuple #[.slice s n cap, .string t]) ∧ n ≤ 60 ∧ CRow w' w'.heap.size s n f ∧ (∀ i, i < n → (f i).c.size ≤ 256) ∧ t.size ≤ m
theorem CSl.rowAfter {W W' : World} {lo n b : Nat} {s : Option Addr} {f : Nat → Cel} (h : CSl W lo W.heap.size s n f) (hg : W.grownBy W' (some b)) (hb : b < lo) : CRow W' W'.heap.size s n f := (h.src hg hb).row
open Classical in
set_option maxRecDepth 100000 in
set_option maxHeartbeats 4000000 in
theorem drawCellsFit_any (w : World) (sa : Option Addr) (len cap : Nat) (hl : len ≤ 1048576) (hby : Bytes8 w w.heap.size sa len) :
    Calls Tryz.prog 35 #[.slice sa len cap] w fun e w' => CelAndText 20000 e w' ∧ Below w.heap.size w w' := by
  have HY : Hid (Bytes8 w w.heap.size sa len) := hby
  clear hby
  go_enter Tryz.func35, Tryz.ntmps35
  go_wp2_with fail
  refine (source_any w sa len cap hl HY.out).mono ?_
  rintro e w1 ⟨rfl, hb1, hS1⟩
  have HB1 : Hid (Below w.heap.size w w1) := hb1
  have HS1 : Hid (Src w1 w.heap.size sa len cap) := hS1
  clear hb1 hS1 HY
  go_wp2_with fail
  refine (one_any _ w.heap.size sa len cap 2 (by decide) HS1.out).mono ?_
  rintro e w2 ⟨⟨x, rfl⟩, hg2, hS2⟩
  have HB2 : Hid (Below w.heap.size w w2) := below_of_only HB1.out (Nat.le_refl _) HB1.out.size hg2
  have HS2 : Hid (Src w2 w.heap.size sa len cap) := hS2
  clear hg2 hS2 HB1 HS1
  cases x with
  | true =>
    go_wp2_with fail
    refine (l04Pattern_any _ w.heap.size sa len cap HS2.out).mono ?_
    rintro e w3 ⟨⟨s, n, cp, f, rfl, hn5, hsl, hsm⟩, hg3, hS3⟩
    have HB3 : Hid (Below w.heap.size w w3) := below_of_only HB2.out (Nat.le_refl _) HB2.out.size hg3
    have HS3 : Hid (Src w3 w.heap.size sa len cap) := hS3
    have HF : Hid (AFar w3 w2.heap.size s n f ∧ (∀ i, i < n → SmallA (f i)) ∧ w.heap.size < w2.heap.size) := ⟨hsl.far, hsm, HS2.out.lt⟩
    have hcs : ∀ i, i < n → (f i).c.size ≤ maxLen := fun i hi => by have := (hsm i hi).1; unfold maxLen; omega
    clear hg3 hS3 hsl hsm HB2 HS2
    have HK : Hid (Calls Tryz.prog 14 #[.slice s n cp] w3 fun e w' => ∃ (s2 : Option Addr) (m c2 : Nat) (g : Nat → Cel), e = .returned (.slice s2 m c2) ∧ m ≤ 60 ∧ CSl w' w3.heap.size w'.heap.size s2 m g ∧ (∀ i, i < m → (g i).c.size ≤ 256) ∧ Below w3.heap.size w3 w') := by
      by_cases hR : PatRight n f
      · have hl := pat_len hR
        refine (specKOf_yes s n cp f w3 (by unfold maxLen; omega) HF.out.1.row hcs hR).mono ?_
        rintro e w' ⟨s3, c3, rfl, hb3, hs3⟩
        exact ⟨s3, _, c3, _, rfl, by omega, hs3, fun i hi => celsP_class (fun a ha => by obtain ⟨j, hj, rfl⟩ := atomsL_mem ha; exact (HF.out.2.1 j hj).1) _ (getD_mem hi), hb3⟩
      · refine (specKOf_no s n cp f w3 (by unfold maxLen; omega) HF.out.1.row hcs hR).mono ?_
        rintro e w' ⟨s3, c3, rfl, hb3, hs3⟩
        exact ⟨s3, 0, c3, (fun _ => cel0), rfl, by omega, Or.inl rfl, fun i hi => by omega, hb3⟩
    clear hcs
    go_wp2_with fail
    refine HK.out.mono ?_
    rintro e w4 ⟨s2, m, c2, g, rfl, hm, hs2, hg2, hb4⟩
    have HB4 : Hid (Below w.heap.size w w4) := HB3.out.trans (hb4.mono HB3.out.size)
    have HS4 : Hid (Src w4 w.heap.size sa len cap) := HS3.out.after hb4
    have HF4 : Hid (AFar w4 w2.heap.size s n f) := HF.out.1.kept (row := none) ⟨hb4.os, hb4.tape, hb4.output, hb4.size, fun k hk _ => hb4.block k hk⟩ (fun k hk => by cases hk)
    have HC4 : Hid (CSl w4 w3.heap.size w4.heap.size s2 m g ∧ (∀ i, i < m → (g i).c.size ≤ 256) ∧ w.heap.size < w3.heap.size) := ⟨hs2, hg2, HS3.out.lt⟩
    clear hs2 hg2 hb4 HK HB3 HS3
    go_wp2_with fail
    refine (l05Meant_any _ w.heap.size sa len cap w2.heap.size s n cp f HS4.out hn5 HF4.out HF.out.2.2 HF.out.2.1).mono ?_
    rintro e w5 ⟨⟨t, rfl, ht⟩, hg5, hS5⟩
    have HB5 : Hid (Below w.heap.size w w5) := below_of_only HB4.out (Nat.le_refl _) HB4.out.size hg5
    have HC5 : Hid (CRow w5 w5.heap.size s2 m g) := HC4.out.1.rowAfter hg5 HC4.out.2.2
    clear hg5 hS5 HB4
    go_wp2_with fail
    go_ret2
    exact ⟨⟨s2, m, c2, g, t, rfl, hm, HC5.out, HC4.out.2.1, ht⟩, HB5.out⟩
  | false =>
    go_wp2_with fail
    refine (l06Cells_any _ w.heap.size sa len cap HS2.out).mono ?_
    rintro e w3 ⟨⟨s, n, cp, f, rfl, hn60, hsl, hsm⟩, hg3, hS3⟩
    have HB3 : Hid (Below w.heap.size w w3) := below_of_only HB2.out (Nat.le_refl _) HB2.out.size hg3
    have HS3 : Hid (Src w3 w.heap.size sa len cap) := hS3
    have HF : Hid (CSl w3 w2.heap.size w3.heap.size s n f ∧ (∀ i, i < n → (f i).c.size ≤ 256) ∧ w.heap.size < w2.heap.size) := ⟨hsl, hsm, HS2.out.lt⟩
    clear hg3 hS3 hsl hsm HB2 HS2
    go_wp2_with fail
    refine (l05Text_any _ w.heap.size sa len cap HS3.out).mono ?_
    rintro e w4 ⟨⟨t, rfl, ht⟩, hg4, hS4⟩
    have HB4 : Hid (Below w.heap.size w w4) := below_of_only HB3.out (Nat.le_refl _) HB3.out.size hg4
    have HF4 : Hid (CRow w4 w4.heap.size s n f) := HF.out.1.rowAfter hg4 HF.out.2.2
    clear hg4 hS4 HB3
    go_wp2_with fail
    go_ret2
    exact ⟨⟨s, n, cp, f, t, rfl, hn60, HF4.out, HF.out.2.1, by omega⟩, HB4.out⟩
end Go.Proofs.YtlgnplnmcdjbiaaGreat
namespace Go.Proofs.YtlgnplnmcdjbiaaGreat
open Go.RowKit

/-- Some pattern and some text. -/
def PatAndTxt (m : Nat) (e : Ending) (w' : World) : Prop := ∃ (s : Option Addr) (n cap : Nat) (f : Nat → Atm) (t : ByteArray), e = .returned (.tuple #[.slice s n cap, .string t]) ∧ n ≤ 5 ∧ ARow w' w'.heap.size s n f ∧ (∀ i, i < n → SmallA (f i)) ∧ t.size ≤ m
set_option maxRecDepth 100000 in
set_option maxHeartbeats 4000000 in
theorem drawRunOn_any (w : World) (sa : Option Addr) (len cap : Nat) (hl : len ≤ 1048576) (hby : Bytes8 w w.heap.size sa len) :
    Calls Tryz.prog 6 #[.slice sa len cap] w fun e w' => CelAndText 20000 e w' ∧ Below w.heap.size w w' := by
  have C := drawCellsFit_any w sa len cap hl hby
  clear hby
  go_enter Tryz.func6, Tryz.ntmps6
  go_wp2_with fail
  refine C.mono ?_
  rintro e w1 ⟨⟨s, n, cp, f, t, rfl, h⟩, hb⟩
  have H : Hid ((n ≤ 60 ∧ CRow w1 w1.heap.size s n f ∧ (∀ i, i < n → (f i).c.size ≤ 256) ∧ t.size ≤ 20000) ∧ Below w.heap.size w w1) := ⟨h, hb⟩
  clear C h hb
  go_wp2_with fail
  go_ret2
  exact ⟨⟨s, n, cp, f, t, rfl, H.out.1⟩, H.out.2⟩
set_option maxRecDepth 100000 in
set_option maxHeartbeats 4000000 in
theorem drawEndsOf_any (w : World) (sa : Option Addr) (len cap : Nat) (hl : len ≤ 1048576) (hby : Bytes8 w w.heap.size sa len) :
    Calls Tryz.prog 8 #[.slice sa len cap] w fun e w' => PatAndTxt 28000 e w' ∧ Below w.heap.size w w' := by
  have HY : Hid (Bytes8 w w.heap.size sa len) := hby
  clear hby
  go_enter Tryz.func8, Tryz.ntmps8
  go_wp2_with fail
  refine (source_any w sa len cap hl HY.out).mono ?_
  rintro e w1 ⟨rfl, hb1, hS1⟩
  have HB1 : Hid (Below w.heap.size w w1) := hb1
  have HS1 : Hid (Src w1 w.heap.size sa len cap) := hS1
  clear hb1 hS1 HY
  go_wp2_with fail
  refine (l04Pattern_any _ w.heap.size sa len cap HS1.out).mono ?_
  rintro e w2 ⟨⟨s, n, cp, f, rfl, hn5, hsl, hsm⟩, hg2, hS2⟩
  have HB2 : Hid (Below w.heap.size w w2) := below_of_only HB1.out (Nat.le_refl _) HB1.out.size hg2
  have HS2 : Hid (Src w2 w.heap.size sa len cap) := hS2
  have HF : Hid (AFar w2 w1.heap.size s n f ∧ (∀ i, i < n → SmallA (f i)) ∧ w.heap.size < w1.heap.size) := ⟨hsl.far, hsm, HS1.out.lt⟩
  clear hg2 hS2 hsl hsm HB1
  go_wp2_with fail
  refine (l05Text_any _ w.heap.size sa len cap HS2.out).mono ?_
  rintro e w3 ⟨⟨t1, rfl, ht1⟩, hg3, hS3⟩
  have HB3 : Hid (Below w.heap.size w w3) := below_of_only HB2.out (Nat.le_refl _) HB2.out.size hg3
  have HS3 : Hid (Src w3 w.heap.size sa len cap) := hS3
  have HF3 : Hid (AFar w3 w1.heap.size s n f) := HF.out.1.kept hg3 (fun k hk => by injection hk with hk; have := HF.out.2.2; omega)
  clear hg3 hS3 HB2 HS2
  go_wp2_with fail
  refine (l05Meant_any _ w.heap.size sa len cap w1.heap.size s n cp f HS3.out hn5 HF3.out HF.out.2.2 HF.out.2.1).mono ?_
  rintro e w4 ⟨⟨t2, rfl, ht2⟩, hg4, hS4⟩
  have HB4 : Hid (Below w.heap.size w w4) := below_of_only HB3.out (Nat.le_refl _) HB3.out.size hg4
  have HF4 : Hid (AFar w4 w1.heap.size s n f) := HF3.out.kept hg4 (fun k hk => by injection hk with hk; have := HF.out.2.2; omega)
  have ht : (t1 ++ t2).size ≤ 28000 := by rw [ByteArray.size_append]; omega
  clear hg4 hS4 HB3
  go_wp2_with fail
  go_ret2
  exact ⟨⟨s, n, cp, f, _, rfl, hn5, HF4.out.row, HF.out.2.1, ht⟩, HB4.out⟩
end Go.Proofs.YtlgnplnmcdjbiaaGreat
namespace Go.Proofs.YtlgnplnmcdjbiaaGreat
open Go.RowKit

theorem pass_bits {y x n c : Nat} {f : Nat → Cel} {A : Nat → Bool} (h : IsBits y (fun j => (decide (1 ≤ j) && A (j - 1)) || (A j && behind (fun i => (f i).o) n j))) (h2 : IsBits x (behind (fun i => hasByte (f i).c c) n)) : IsBits (y &&& x) (passB f n A c) :=
  (h.and h2).congr (fun j => by
    unfold passB
    by_cases e : 1 ≤ j
    · rw [decide_eq_true e, Bool.true_and, Bool.and_comm]
    · have : behind (fun i => hasByte (f i).c c) n j = false := by unfold behind; rw [decide_eq_false (by omega)]; rfl
      rw [this]
      simp)
end Go.Proofs.YtlgnplnmcdjbiaaGreat
namespace Go.Proofs.YtlgnplnmcdjbiaaGreat
open Go.RowKit

set_option maxRecDepth 100000 in
set_option maxHeartbeats 4000000 in
theorem fill_any (b : Nat) (sa : Option Addr) (n cap sk lo : Nat) (d u : Int) (f : Nat → Cel) (w : World) (hn : n ≤ 60) (hsz : ∀ i, i < n → (f i).c.size ≤ 256) (hr : CRow w b sa n f) (hk : KRow w b sa n cap sk lo d u (fun _ => 0)) :
    Calls Tryz.prog 99 #[.pointer (some ⟨b, 0, none⟩)] w fun e w' => ∃ tab : Nat → Nat, e = .returned (.tuple #[]) ∧ w.grownBy w' (some b) ∧ KRow w' b sa n cap sk lo d u tab ∧ TabAt f n tab := by
  have HR : Hid (CRow w b sa n f) := hr
  have HK : Hid (KRow w b sa n cap sk lo d u (fun _ => 0)) := hk
  have HSZ : Hid (∀ i, i < n → (f i).c.size ≤ 256) := hsz
  have k0 := hk.c0
  have hblt := hk.lt
  clear hr hk hsz
  go_enter Tryz.func99, Tryz.ntmps99
  go_wp2_with fail
  go_loopw [10] (fun i wr => ∃ (k : Nat) (tab : Nat → Nat), k ≤ n ∧ i = .int .i64 (k : Int) ∧ w.grownBy wr (some b) ∧ KRow wr b sa n cap sk lo d u tab ∧ TabAt f k tab) (fun i _ => n - (intOf i).toNat)
  case atStart => exact ⟨0, _, Nat.zero_le _, rfl, World.grownBy.refl _ _, HK.out, tab_zero f⟩
  case round =>
    obtain ⟨k, tab, hk, rfl, hgr, hrow, htab⟩ := hrel
    have HG : Hid (w.grownBy wr (some b)) := hgr
    have HW : Hid (KRow wr b sa n cap sk lo d u tab) := hrow
    have HT : Hid (TabAt f k tab) := htab
    by_cases hkl : k < n
    · obtain ⟨bb, off, rfl, hbb, hat⟩ := (cells_grown HR.out hgr hblt).atK hkl
      obtain ⟨c0, c1, c2⟩ := hat
      have hki : (k : Int) < (n : Int) := by omega
      have hk0 : (0 : Int) ≤ (k : Int) := by omega
      obtain ⟨⟨ac, al, am⟩, ha⟩ : ∃ a, f k = a := ⟨_, rfl⟩
      have hacs := HSZ.out k hkl
      rw [ha] at c0 c1 c2 hacs
      simp only at c0 c1 c2 hacs
      have TB : Hid (TabTo f k 0 tab) := tab_begin htab
      have HEN : Hid (∀ tb, TabTo f k ac.size tb → TabAt f (k + 1) tb) := fun tb h9 => tab_end (by rw [ha]; exact h9)
      have HST : Hid (∀ m tb (hm : m < ac.size), TabTo f k m tb → TabTo f k (m + 1) (fun j => if j = ac[m].toNat then tb j ||| 2 ^ (k + 1) else tb j)) := fun m tb hm h9 => by
        have h8 := tab_step h9 (by omega) (by rw [ha]; exact hm)
        simp only [ha] at h8
        exact h8
      have W2 : Hid (KRow (wr.alloc (.cells #[.string ac, .bool al, .bool am] 123)) b (some ⟨bb, off, none⟩) n cap sk lo d u tab) := HW.out.alloc _
      have G2 : Hid (w.grownBy (wr.alloc (.cells #[.string ac, .bool al, .bool am] 123)) (some b)) := HG.out.trans (World.grownBy_alloc _ _ _)
      have X2 : Hid (CBox (wr.alloc (.cells #[.string ac, .bool al, .bool am] 123)) wr.heap.size ⟨ac, al, am⟩) := CBox.new wr ⟨ac, al, am⟩ _
      have hpb : wr.heap.size ≠ b := by have := HW.out.lt; omega
      clear ha hgr hrow htab
      go_wp2_with fail
      generalize wr.alloc (.cells #[.string ac, .bool al, .bool am] 123) = v at *
      generalize wr.heap.size = p at *
      clear c0 c1 c2 HW HG HT
      go_loopw [4] (fun iv wr => ∃ (m : Nat) (tb : Nat → Nat), m ≤ ac.size ∧ iv = .int .i64 (m : Int) ∧ v.grownBy wr (some b) ∧ KRow wr b (some ⟨bb, off, none⟩) n cap sk lo d u tb ∧ TabTo f k m tb) (fun iv _ => ac.size - (intOf iv).toNat)
      case atStart => exact ⟨0, tab, Nat.zero_le _, rfl, World.grownBy.refl _ _, W2.out, TB.out⟩
      case round =>
        obtain ⟨m, tb, hm, rfl, hgr, hrow, htb⟩ := hrel
        have HG3 : Hid (v.grownBy wr (some b)) := hgr
        have HW3 : Hid (KRow wr b (some ⟨bb, off, none⟩) n cap sk lo d u tb) := hrow
        have HT3 : Hid (TabTo f k m tb) := htb
        have hpl := X2.out.lt
        have x0 : wr.cell? ⟨p, 0, none⟩ = some (.string ac) := by
          have h9 := hgr.block p hpl (fun e => hpb (by injection e))
          have h8 := X2.out.c0
          simpa [World.cell?, h9] using h8
        by_cases hml : m < ac.size
        · have hmi : (m : Int) < (ac.size : Int) := by omega
          have hm0 : (0 : Int) ≤ (m : Int) := by omega
          obtain ⟨x, hx⟩ : ∃ x, ac[m].toNat = x := ⟨_, rfl⟩
          have hx256 : x < 256 := by rw [← hx]; exact ac[m].toNat_lt
          have HT4 := HST.out m tb hml htb
          rw [hx] at HT4
          have HT5 : Hid (TabTo f k (m + 1) (fun j => if j = x then tb j ||| 2 ^ (k + 1) else tb j)) := HT4
          have cx := hrow.tb x hx256
          have fx := hrow.fr (6 + x) (by omega)
          have hlb := hrow.lt
          have hx0 : (0 : Int) ≤ (x : Int) := by omega
          have hx1 : (x : Int) < 256 := by omega
          obtain ⟨r, hr⟩ : ∃ r, k + 1 = r := ⟨_, rfl⟩
          have hri : (k : Int) + 1 = (r : Int) := by omega
          have hr0 : (0 : Int) ≤ (r : Int) := by omega
          rw [hr] at HT5
          have hpw := wrap_powP (r := r) (by omega)
          have hor : bits .or .u64 (tb x : Int) ((2 ^ r : Nat) : Int) = ((tb x ||| 2 ^ r : Nat) : Int) := or64 (htb x hx256).lt (pow_lt64 (by omega))
          have W5 : Hid (KRow (wr.setCell ⟨b, 6 + x, none⟩ (.int .u64 ((tb x ||| 2 ^ r : Nat) : Int))) b (some ⟨bb, off, none⟩) n cap sk lo d u (fun j => if j = x then tb j ||| 2 ^ r else tb j)) := by
            have h9 := HW3.out.set hx256 (tb x ||| 2 ^ r)
            refine ⟨h9.c0, h9.c1, h9.c2, h9.c3, h9.c4, fun j hj => ?_, h9.fr, h9.lt⟩
            rw [h9.tb j hj]
            by_cases e : j = x
            · subst e; simp
            · simp [e]
          generalize ((tb x ||| 2 ^ r : Nat) : Int) = z at *
          generalize ((2 ^ r : Nat) : Int) = P at *
          clear HT4 hgr hrow htb
          go_wp2_with fail
          go_region
          all_goals
            go_wp2_with fail
            go_roundw
            case rel => exact ⟨m + 1, _, by omega, by go_num, grown_drewK (only_setK HG3.out), W5.out.drew, HT5.out⟩
            case measure => simp [intOf]; omega
        · have hmi : ¬ (m : Int) < (ac.size : Int) := by omega
          obtain rfl : m = ac.size := by omega
          have HT6 : Hid (TabAt f (k + 1) tb) := HEN.out tb htb
          clear hgr hrow htb
          go_wp2_with fail
          go_roundw
          case rel => exact ⟨k + 1, tb, by omega, by go_num, G2.out.trans HG3.out, HW3.out, HT6.out⟩
          case measure => simp [intOf]; omega
    · have hki : ¬ (k : Int) < (n : Int) := by omega
      obtain rfl : k = n := by omega
      clear hgr hrow htab
      go_wp2_with fail
      go_end0
      exact ⟨rfl, HG.out, tab, HW.out, HT.out⟩
end Go.Proofs.YtlgnplnmcdjbiaaGreat
namespace Go.Proofs.YtlgnplnmcdjbiaaGreat
open Go.RowKit

theorem mkDisable (w : World) : (callFunc 124 #[]).run Tryz.prog w = .ok (.value (.tuple #[])) w := run_call_mark0 Tryz.func124 (by kernel_rfl) (by kernel_rfl) (by kernel_rfl) .disable (by kernel_rfl) w
theorem mkEnable (w : World) : (callFunc 126 #[]).run Tryz.prog w = .ok (.value (.tuple #[])) w := run_call_mark0 Tryz.func126 (by kernel_rfl) (by kernel_rfl) (by kernel_rfl) .enable (by kernel_rfl) w
theorem mkAcquire (a : Addr) (w : World) : (callFunc 127 #[.pointer (some a)]).run Tryz.prog w = .ok (.value (.tuple #[])) w := run_call_marked Tryz.func127 (by kernel_rfl) (by kernel_rfl) (by kernel_rfl) .acquire (by kernel_rfl) a w
theorem mkRelease (a : Addr) (w : World) : (callFunc 129 #[.pointer (some a)]).run Tryz.prog w = .ok (.value (.tuple #[])) w := run_call_marked Tryz.func129 (by kernel_rfl) (by kernel_rfl) (by kernel_rfl) .releaseMerge (by kernel_rfl) a w
theorem store_deferred (a : Addr) (x : Value) (u : FrameMode) (w : World) (hc : w.cell? a = some x) (hz : w.frozen? a = false) :
    CallsD Tryz.prog 115 #[.pointer (some a), .bool true] u w fun e u' w' => u' = u ∧ (e = .returned (.tuple #[]) ∧ w' = w.drew.setCell a (.int .u32 1)) := by
  have hc' : w.drew.cell? a = some x := by go_simp
  have hz' : w.drew.frozen? a = false := by go_simp
  have hst := run_call_store (P := Tryz.prog) Tryz.func121 (by kernel_rfl) (by kernel_rfl) (by kernel_rfl) (by kernel_rfl) (k := .u32) (y := 1) hc' hz'
  go_enter_d Tryz.func115, Tryz.ntmps115
  go_wp2
  go_region_calls
  all_goals (go_end0; exact ⟨rfl, rfl⟩)
set_option maxRecDepth 100000 in
set_option maxHeartbeats 1600000 in
theorem unlock_deferred (a : Addr) (u : FrameMode) (w : World) (hc : w.cell? a = some (.int .i32 1)) (hz : w.frozen? a = false) :
    CallsD Tryz.prog 114 #[.pointer (some a)] u w fun e u' w' => u' = u ∧ (e = .returned (.tuple #[]) ∧ w' = w.setCell a (.int .i32 0)) := by
  have hd := mkDisable
  have he := mkEnable
  have hr := mkRelease
  have hadd := run_call_add (P := Tryz.prog) Tryz.func130 (by kernel_rfl) (by kernel_rfl) (by kernel_rfl) .i32 (by kernel_rfl) (y := -1) (s := 0) hc hz (by simp [go_sem]; rfl)
  have hcv := run_convert_to_unsafe (P := Tryz.prog) (src := 154) (dst := 158) Tryz.underlying154 Tryz.underlying158 (by kernel_rfl) hc
  go_enter_d Tryz.func114, Tryz.ntmps114
  go_wp2
  go_end0
  go_wp2
  go_end0
  exact ⟨rfl, rfl⟩
set_option maxRecDepth 100000 in
set_option maxHeartbeats 1600000 in
theorem lock_free (a : Addr) (w : World) (hc : w.cell? a = some (.int .i32 0)) (hz : w.frozen? a = false) :
    Calls Tryz.prog 113 #[.pointer (some a)] w fun e w' => e = .returned (.tuple #[]) ∧ w' = w.setCell a (.int .i32 1) := by
  have hd := mkDisable
  have he := mkEnable
  have ha := mkAcquire
  have hcas := run_call_cas_hit (P := Tryz.prog) Tryz.func125 (by kernel_rfl) (by kernel_rfl) (by kernel_rfl) .i32 (by kernel_rfl) (y := 1) hc hz
  have hc' : (w.setCell a (.int .i32 1)).cell? a = some (.int .i32 1) := World.cell?_setCell_same w a _ hc
  have hcv := run_convert_to_unsafe (P := Tryz.prog) (src := 154) (dst := 158) Tryz.underlying154 Tryz.underlying158 (by kernel_rfl) hc'
  go_enter Tryz.func113, Tryz.ntmps113
  go_wp2
  first | go_end0 | (simp only [Exit.inBlock, Exit.then]; refine bodyPost_ret (results_none rfl _ _ _) rfl ?_) | refine bodyPost_ret (results_none rfl _ _ _) rfl ?_
  go_wp2
  go_end0
  exact ⟨rfl, rfl⟩
theorem do_done (a : Addr) (fv : Value) (w : World) (h0 : w.cell? a = some (.int .u32 1)) :
    Calls Tryz.prog 98 #[.pointer (some a), fv] w fun e w' => e = .returned (.tuple #[]) ∧ w' = w := by
  have hl := run_call_load (P := Tryz.prog) Tryz.func112 (by kernel_rfl) (by kernel_rfl) (by kernel_rfl) .u32 (by kernel_rfl) h0
  have hnot : ∀ (x : Bool) (w : World), (Op.unary .not (.bool x)).run Tryz.prog w = .ok (.bool (!x)) w := fun _ _ => rfl
  have hd' : ((1 : Int) != 0) = true := by simp
  go_enter Tryz.func98, Tryz.ntmps98
  go_wp2
  go_end0
  exact ⟨rfl, rfl⟩
end Go.Proofs.YtlgnplnmcdjbiaaGreat
