/- What is proved here: the inputs that FnMeaning draws besides: some pattern, a text and a number; some patterns and a text.
   What is proved here: the input that is drawn for Fits: a small pattern and a text. -/
import Derived.Test.YtfeolbgenpknfaaQDrawEndsPWToDrawPlainW
import Derived.Test.YtfeolbgenpknfaaQDrawSomePW
import Derived.Test.YtfeolbgenpknfaaQDrawMeantW
import Derived.Test.YtfeolbgenpknfaaQDrawBytesWToBoolRowsW
import Derived.Deep.RegionHeld3
import Derived.Deep.RegionWith
namespace Go.Proofs.Ytfeolbgenpknfaa
open Go.RowKit

/-- Some pattern, some text and some number. -/
def PatTxtInt (m : Nat) (e : Ending) (w' : World) : Prop := ∃ (s : Option Addr) (n cap : Nat) (f : Nat → Atm) (t : ByteArray) (x : Int), e = .returned (.tuple #[.slice s n cap, .string t, .int .i64 x]) ∧ n ≤ 5 ∧ ARow w' w'.heap.size s n f ∧ (∀ i, i < n → SmallA (f i)) ∧ t.size ≤ m ∧ -1 ≤ x ∧ x ≤ 100000
set_option maxRecDepth 100000 in
set_option maxHeartbeats 4000000 in
theorem drawStartsOf_any (w : World) (sa : Option Addr) (len cap : Nat) (hl : len ≤ 1048576) (hby : Bytes8 w w.heap.size sa len) :
    Calls Try.prog 13 #[.slice sa len cap] w fun e w' => PatTxtInt 28000 e w' ∧ Below w.heap.size w w' := by
  have HY : Hid (Bytes8 w w.heap.size sa len) := hby
  clear hby
  go_enter Try.func13, Try.ntmps13
  go_wp2_with fail
  refine (source_any w sa len cap hl HY.out).mono ?_
  rintro e w1 ⟨rfl, hb1, hS1⟩
  have HB1 : Hid (Below w.heap.size w w1) := hb1
  have HS1 : Hid (Src w1 w.heap.size sa len cap) := hS1
  clear hb1 hS1 HY
  go_wp2_with fail
  refine (l04Pattern_any _ w.heap.size sa len cap HS1.out).mono ?_
  rintro e w2 ⟨⟨s, n, cp, f, rfl, hn5, hsl, hsm⟩, hg2, hS2⟩
  have HB2 : Hid (Below w.heap.size w w2) := below_of_only HB1.out (Nat.le_refl _) HB1.out.size hg2
  have HS2 : Hid (Src w2 w.heap.size sa len cap) := hS2
  have HF : Hid (AFar w2 w1.heap.size s n f ∧ (∀ i, i < n → SmallA (f i)) ∧ w.heap.size < w1.heap.size) := ⟨hsl.far, hsm, HS1.out.lt⟩
  clear hg2 hS2 hsl hsm HB1
  go_wp2_with fail
  refine (l05Text_any _ w.heap.size sa len cap HS2.out).mono ?_
  rintro e w3 ⟨⟨t1, rfl, ht1⟩, hg3, hS3⟩
  have HB3 : Hid (Below w.heap.size w w3) := below_of_only HB2.out (Nat.le_refl _) HB2.out.size hg3
  have HS3 : Hid (Src w3 w.heap.size sa len cap) := hS3
  have HF3 : Hid (AFar w3 w1.heap.size s n f) := HF.out.1.kept hg3 (fun k hk => by injection hk with hk; have := HF.out.2.2; omega)
  clear hg3 hS3 HB2 HS2
  go_wp2_with fail
  refine (l05Meant_any _ w.heap.size sa len cap w1.heap.size s n cp f HS3.out hn5 HF3.out HF.out.2.2 HF.out.2.1).mono ?_
  rintro e w4 ⟨⟨t2, rfl, ht2⟩, hg4, hS4⟩
  have HB4 : Hid (Below w.heap.size w w4) := below_of_only HB3.out (Nat.le_refl _) HB3.out.size hg4
  have HS4 : Hid (Src w4 w.heap.size sa len cap) := hS4
  have HF4 : Hid (AFar w4 w1.heap.size s n f) := HF3.out.kept hg4 (fun k hk => by injection hk with hk; have := HF.out.2.2; omega)
  have ht : (t1 ++ t2).size ≤ 28000 := by rw [ByteArray.size_append]; omega
  obtain ⟨t, hte⟩ : ∃ t, t1 ++ t2 = t := ⟨_, rfl⟩
  rw [hte] at ht
  clear hg4 hS4 HB3
  go_upto_region 4 with fail
  clear hte
  go_wp2_with fail
  refine (n_any _ w.heap.size sa len cap ((t.size : Int) + 3) (by omega) HS4.out).mono ?_
  rintro e w5 ⟨⟨r, rfl, hr0, hr1, _⟩, hg, hS⟩
  have hr2 : r < (t.size : Int) + 3 := hr1 (by omega)
  have HB5 : Hid (Below w.heap.size w w5) := below_of_only HB4.out (Nat.le_refl _) HB4.out.size hg
  have HF5 : Hid (AFar w5 w1.heap.size s n f) := HF4.out.kept hg (fun k hk => by injection hk with hk; have := HF.out.2.2; omega)
  clear hr1 hg hS HB4
  go_wp2_with fail
  refine bodyPost_ret (v := .tuple #[.slice s n cp, .string t, .int .i64 (r - 1)]) (by simp [results, Try.results13, go_sem]) rfl ?_
  exact ⟨⟨s, n, cp, f, t, r - 1, rfl, hn5, HF5.out.row, HF.out.2.1, ht, by omega, by omega⟩, HB5.out⟩
/-- Some patterns and some text. -/
def PatsAndTxt (m : Nat) (e : Ending) (w' : World) : Prop := ∃ (sx : Option Addr) (k cx : Nat) (s : Nat → Option Addr) (n c : Nat → Nat) (f : Nat → Nat → Atm) (t : ByteArray), e = .returned (.tuple #[.slice sx k cx, .string t]) ∧ k ≤ 3 ∧ AARows w' w'.heap.size sx k s n c f ∧ (∀ i, i < k → n i ≤ 5 ∧ ∀ j, j < n i → SmallA (f i j)) ∧ t.size ≤ m
set_option maxRecDepth 100000 in
set_option maxHeartbeats 4000000 in
theorem drawHitsOf_any (w : World) (sa : Option Addr) (len cap : Nat) (hl : len ≤ 1048576) (hby : Bytes8 w w.heap.size sa len) :
    Calls Try.prog 14 #[.slice sa len cap] w fun e w' => PatsAndTxt 28000 e w' ∧ Below w.heap.size w w' := by
  have HY : Hid (Bytes8 w w.heap.size sa len) := hby
  clear hby
  go_enter Try.func14, Try.ntmps14
  go_wp2_with fail
  refine (source_any w sa len cap hl HY.out).mono ?_
  rintro e w1 ⟨rfl, hb1, hS1⟩
  have HB1 : Hid (Below w.heap.size w w1) := hb1
  have HS1 : Hid (Src w1 w.heap.size sa len cap) := hS1
  clear hb1 hS1 HY
  go_wp2_with fail
  refine (l05Some_any _ w.heap.size sa len cap HS1.out).mono ?_
  rintro e w2 ⟨⟨sx, k, cx, s, n, c, f, rfl, hk3, hfp, hsm⟩, hg2, hS2⟩
  have HB2 : Hid (Below w.heap.size w w2) := below_of_only HB1.out (Nat.le_refl _) HB1.out.size hg2
  have HS2 : Hid (Src w2 w.heap.size sa len cap) := hS2
  have HF : Hid (FarPats w2 w1.heap.size sx k s n c f ∧ (∀ i, i < k → n i ≤ 5 ∧ ∀ j, j < n i → SmallA (f i j)) ∧ w.heap.size < w1.heap.size) := ⟨hfp, hsm, HS1.out.lt⟩
  clear hg2 hS2 hfp hsm HB1
  go_wp2_with fail
  refine (l05Text_any _ w.heap.size sa len cap HS2.out).mono ?_
  rintro e w3 ⟨⟨t1, rfl, ht1⟩, hg3, hS3⟩
  have HB3 : Hid (Below w.heap.size w w3) := below_of_only HB2.out (Nat.le_refl _) HB2.out.size hg3
  have HS3 : Hid (Src w3 w.heap.size sa len cap) := hS3
  have HF3 : Hid (FarPats w3 w1.heap.size sx k s n c f) := HF.out.1.kept hg3 HF.out.2.2
  clear hg3 hS3 HB2 HS2
  by_cases hk0 : k = 0
  · subst hk0
    go_wp2_with fail
    go_ret2
    exact ⟨⟨sx, 0, cx, s, n, c, f, t1, rfl, by omega, HF3.out.read, HF.out.2.1, by omega⟩, HB3.out⟩
  · have hki : (0 : Int) < (k : Int) := by omega
    obtain ⟨g, rfl, hgl, hgh, hcl⟩ : ∃ g, sx = some ⟨g, 0, none⟩ ∧ w1.heap.size ≤ g ∧ g < w3.heap.size ∧ ∀ i, i < k → w3.cell? ⟨g, i, none⟩ = some (.slice (s i) (n i) (c i)) := by
      rcases HF3.out.cells with h9 | h9
      · exact absurd h9 hk0
      · exact h9
    have c0 := hcl 0 (by omega)
    have CM := l05Meant_any w3 w.heap.size sa len cap w1.heap.size (s 0) (n 0) (c 0) (f 0) HS3.out (HF.out.2.1 0 (by omega)).1 (HF3.out.rows 0 (by omega)).far HF.out.2.2 (HF.out.2.1 0 (by omega)).2
    clear hcl
    obtain ⟨s0, hs0⟩ : ∃ x, s 0 = x := ⟨_, rfl⟩
    obtain ⟨n0, hn0⟩ : ∃ x, n 0 = x := ⟨_, rfl⟩
    obtain ⟨d0, hd0⟩ : ∃ x, c 0 = x := ⟨_, rfl⟩
    rw [hs0, hn0, hd0] at c0 CM
    clear hs0 hn0 hd0
    go_wp2_with fail
    refine CM.mono ?_
    rintro e w4 ⟨⟨t2, rfl, ht2⟩, hg4, hS4⟩
    have HB4 : Hid (Below w.heap.size w w4) := below_of_only HB3.out (Nat.le_refl _) HB3.out.size hg4
    have HF4 : Hid (FarPats w4 w1.heap.size (some ⟨g, 0, none⟩) k s n c f) := HF3.out.kept hg4 HF.out.2.2
    have ht : (t1 ++ t2).size ≤ 28000 := by rw [ByteArray.size_append]; omega
    clear hg4 hS4 HB3 CM c0
    go_wp2_with fail
    go_ret2
    exact ⟨⟨_, k, cx, s, n, c, f, _, rfl, hk3, HF4.out.read, HF.out.2.1, ht⟩, HB4.out⟩
end Go.Proofs.Ytfeolbgenpknfaa
namespace Go.Proofs.Ytfeolbgenpknfaa
open Go.RowKit

/-- Some pattern and some text. -/
def PatAndText (m : Nat) (e : Ending) (w' : World) : Prop := ∃ (s : Option Addr) (n cap : Nat) (f : Nat → Atm) (t : ByteArray), e = .returned (.tuple #[.slice s n cap, .string t]) ∧ n ≤ 5 ∧ ARow w' w'.heap.size s n f ∧ (∀ i, i < n → SmallA (f i)) ∧ t.size ≤ m
set_option maxRecDepth 100000 in
set_option maxHeartbeats 4000000 in
theorem drawFits_any (w : World) (sa : Option Addr) (len cap : Nat) (hl : len ≤ 1048576) (hby : Bytes8 w w.heap.size sa len) :
    Calls Try.prog 9 #[.slice sa len cap] w fun e w' => PatAndText 20000 e w' ∧ Below w.heap.size w w' := by
  have HY : Hid (Bytes8 w w.heap.size sa len) := hby
  clear hby
  go_enter Try.func9, Try.ntmps9
  go_wp2_with fail
  refine (source_any w sa len cap hl HY.out).mono ?_
  rintro e w1 ⟨rfl, hb1, hS1⟩
  have HB1 : Hid (Below w.heap.size w w1) := hb1
  have HS1 : Hid (Src w1 w.heap.size sa len cap) := hS1
  clear hb1 hS1 HY
  go_wp2_with fail
  refine (l04Pattern_any _ w.heap.size sa len cap HS1.out).mono ?_
  rintro e w2 ⟨⟨s, n, cp, f, rfl, hn5, hsl, hsm⟩, hg2, hS2⟩
  have HB2 : Hid (Below w.heap.size w w2) := below_of_only HB1.out (Nat.le_refl _) HB1.out.size hg2
  have HS2 : Hid (Src w2 w.heap.size sa len cap) := hS2
  have HF : Hid (AFar w2 w1.heap.size s n f ∧ (∀ i, i < n → SmallA (f i)) ∧ w.heap.size < w1.heap.size) := ⟨hsl.far, hsm, HS1.out.lt⟩
  clear hg2 hS2 hsl hsm HB1
  go_wp2_with fail
  refine (one_any _ w.heap.size sa len cap 4 (by decide) HS2.out).mono ?_
  rintro e w3 ⟨⟨x, rfl⟩, hg3, hS3⟩
  have HB3 : Hid (Below w.heap.size w w3) := below_of_only HB2.out (Nat.le_refl _) HB2.out.size hg3
  have HS3 : Hid (Src w3 w.heap.size sa len cap) := hS3
  have HF3 : Hid (AFar w3 w1.heap.size s n f) := HF.out.1.kept hg3 (fun k hk => by injection hk with hk; have := HF.out.2.2; omega)
  clear hg3 hS3 HB2 HS2
  cases x with
  | true =>
    go_wp2_with fail
    refine (l05Text_any _ w.heap.size sa len cap HS3.out).mono ?_
    rintro e w4 ⟨⟨t, rfl, ht⟩, hg4, hS4⟩
    have HB4 : Hid (Below w.heap.size w w4) := below_of_only HB3.out (Nat.le_refl _) HB3.out.size hg4
    have HF4 : Hid (AFar w4 w1.heap.size s n f) := HF3.out.kept hg4 (fun k hk => by injection hk with hk; have := HF.out.2.2; omega)
    clear hg4 hS4 HB3
    go_wp2_with fail
    go_ret2
    exact ⟨⟨s, n, cp, f, t, rfl, hn5, HF4.out.row, HF.out.2.1, by omega⟩, HB4.out⟩
  | false =>
    go_wp2_with fail
    refine (l05Meant_any _ w.heap.size sa len cap w1.heap.size s n cp f HS3.out hn5 HF3.out HF.out.2.2 HF.out.2.1).mono ?_
    rintro e w4 ⟨⟨t, rfl, ht⟩, hg4, hS4⟩
    have HB4 : Hid (Below w.heap.size w w4) := below_of_only HB3.out (Nat.le_refl _) HB3.out.size hg4
    have HF4 : Hid (AFar w4 w1.heap.size s n f) := HF3.out.kept hg4 (fun k hk => by injection hk with hk; have := HF.out.2.2; omega)
    clear hg4 hS4 HB3
    go_wp2_with fail
    go_ret2
    exact ⟨⟨s, n, cp, f, t, rfl, hn5, HF4.out.row, HF.out.2.1, ht⟩, HB4.out⟩
end Go.Proofs.Ytfeolbgenpknfaa
