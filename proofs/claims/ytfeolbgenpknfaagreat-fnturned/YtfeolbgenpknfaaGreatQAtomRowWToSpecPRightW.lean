/- What is proved here: slices of atoms that are appended to.
   What is proved here: a pattern that is drawn is a slice of at most five small atoms in new memory; nothing turns but the source's own block.
   What is proved here: the specification's PatternRight says whether a pattern is right; nothing that was there turns. -/
import Derived.Test.YtfeolbgenpknfaaGreatQAtomSToSpecBackW
import Derived.Laws.AppendOwn
import Derived.Test.YtfeolbgenpknfaaGreatQDrawAtomW
import Derived.Test.YtfeolbgenpknfaaGreatQAtomDToPatM
import Derived.Test.YtfeolbgenpknfaaGreatQGetBWToClassRightW
import Derived.Test.YtfeolbgenpknfaaGreatQSpecKRightWToIsW
import Derived.Deep.RegionWith
namespace Go.Proofs.YtfeolbgenpknfaaGreat
open Go.RowKit

/-- The cells of the first k atoms. -/
def acells (f : Nat → Atm) : Nat → List Value
  | 0 => []
  | k + 1 => acells f k ++ [.string (f k).c, .int .i64 (f k).l, .int .i64 (f k).m]
theorem acells_len (f : Nat → Atm) : ∀ k, (acells f k).length = k * 3
  | 0 => rfl
  | k + 1 => by simp [acells, acells_len f k]; omega
theorem acells_get (f : Nat → Atm) (i : Nat) : ∀ k, i < k → (acells f k)[i * 3]? = some (.string (f i).c) ∧ (acells f k)[i * 3 + 1]? = some (.int .i64 (f i).l) ∧ (acells f k)[i * 3 + 2]? = some (.int .i64 (f i).m)
  | 0, h => by omega
  | k + 1, h => by
    have hl := acells_len f k
    by_cases e : i = k
    · subst e
      unfold acells
      rw [List.getElem?_append_right (by omega), List.getElem?_append_right (by omega), List.getElem?_append_right (by omega), hl]
      simp [show i * 3 + 1 - i * 3 = 1 by omega, show i * 3 + 2 - i * 3 = 2 by omega]
    · have h1 := acells_get f i k (by omega)
      unfold acells
      rw [List.getElem?_append_left (by omega), List.getElem?_append_left (by omega), List.getElem?_append_left (by omega)]
      exact h1
theorem acells_congr {f g : Nat → Atm} : ∀ k, (∀ i, i < k → f i = g i) → acells f k = acells g k
  | 0, _ => rfl
  | k + 1, h => by unfold acells; rw [acells_congr k (fun i hi => h i (by omega)), h k (by omega)]
theorem owns_below {w w' : World} {base n size B : Nat} {e : TypeId} {v : Value} {xs : List Value} (h : w.ownsRow base e size v n xs) (hb : Below B w w') (hB : B = w.heap.size) : w'.ownsRow base e size v n xs := by
  obtain ⟨hl, h⟩ := h
  refine ⟨hl, ?_⟩
  rcases h with h | ⟨g, cap, cur, h1, h2, h3, h4⟩
  · exact Or.inl h
  · refine Or.inr ⟨g, cap, cur, h1, h2, ?_, h4⟩
    rw [hb.block g (by rw [hB]; exact lt_of_block h3)]
    exact h3
theorem atoms_of_owns {W : World} {base n : Nat} {v : Value} {f : Nat → Atm} (h : W.ownsRow base 135 3 v n (acells f n)) : ∃ sa cap, v = .slice sa n cap ∧ ASl W base W.heap.size sa n f := by
  obtain ⟨_, ⟨rfl, rfl⟩ | ⟨g, cap, cur, rfl, hg, hh, hnc, hm, hs, ht⟩⟩ := h
  · exact ⟨none, 0, rfl, Or.inl rfl⟩
  · refine ⟨_, _, rfl, Or.inr ⟨g, rfl, hg, lt_of_block hh, ⟨lt_of_block hh, fun i hi => ?_, fun j hj => frozen_of_row _ _ _ _ _ hh⟩⟩⟩
    have hc : ∀ j, j < n * 3 → W.cell? ⟨g, j, none⟩ = (acells f n)[j]? := fun j hj => by
      rw [← ht, List.getElem?_take_of_lt hj]
      simp [World.cell?, hh]
    obtain ⟨h0, h1, h2⟩ := acells_get f i n hi
    exact ⟨by rw [hc _ (by omega)]; exact h0, by rw [hc _ (by omega)]; exact h1, by rw [hc _ (by omega)]; exact h2⟩
theorem new_of_owns {w W : World} {n : Nat} {v : Value} {f : Nat → Atm} (h : W.ownsRow w.heap.size 135 3 v n (acells f n)) (hb : Below w.heap.size w W) : NewAtoms w n f (.returned v) W := by
  obtain ⟨sa, cap, rfl, hs⟩ := atoms_of_owns h
  exact ⟨sa, cap, rfl, hb, hs⟩
/-- An empty slice of atoms that the call makes. -/
theorem owns_start (w : World) (base : Nat) (hb : base ≤ w.heap.size) (C : Array Value) (hC : C.size = 0) : (w.alloc (.cells C 135)).ownsRow base 135 3 (.slice (some ⟨w.heap.size, 0, none⟩) 0 0) 0 [] :=
  ⟨rfl, Or.inr ⟨w.heap.size, 0, C, rfl, hb, heap_alloc_new w _, Nat.le_refl _, Nat.zero_le _, by omega, by simp⟩⟩
end Go.Proofs.YtfeolbgenpknfaaGreat
namespace Go.Proofs.YtfeolbgenpknfaaGreat
open Go.RowKit

/-- An atom is small. -/
def SmallA (a : Atm) : Prop := a.c.size ≤ 256 ∧ (-2 ≤ a.l ∧ a.l ≤ 30) ∧ -2 ≤ a.m ∧ a.m ≤ 30
/-- Some pattern, in new memory. -/
def SomePat (w : World) (e : Ending) (w' : World) : Prop := ∃ (s : Option Addr) (n cap : Nat) (f : Nat → Atm), e = .returned (.slice s n cap) ∧ n ≤ 5 ∧ ASl w' w.heap.size w'.heap.size s n f ∧ ∀ i, i < n → SmallA (f i)
theorem owns_src {w w' : World} {base n size b : Nat} {e : TypeId} {v : Value} {xs : List Value} (h : w.ownsRow base e size v n xs) (hg : w.grownBy w' (some b)) (hb : b < base) : w'.ownsRow base e size v n xs := by
  obtain ⟨hl, h⟩ := h
  refine ⟨hl, ?_⟩
  rcases h with h | ⟨g, cap, cur, h1, h2, h3, h4⟩
  · exact Or.inl h
  · refine Or.inr ⟨g, cap, cur, h1, h2, ?_, h4⟩
    rw [hg.block g (lt_of_block h3) (fun e => by injection e with e; omega)]
    exact h3
/-- A pattern that is being drawn. -/
structure PatIn (w W : World) (b : Nat) (sa : Option Addr) (len cap m : Nat) (f : Nat → Atm) (v : Value) : Prop where
  g : w.grownBy W (some b)
  s : Src W b sa len cap
  o : W.ownsRow w.heap.size 135 3 v m (acells f m)
  sm : ∀ i, i < m → SmallA (f i)
theorem grown_row {w W W' : World} {b : Nat} {row : Option Nat} (h : w.grownBy W (some b)) (hg : W.grownBy W' row) (hr : ∀ j, row = some j → w.heap.size ≤ j) : w.grownBy W' (some b) :=
  ⟨hg.os.trans h.os, hg.tape.trans h.tape, hg.output.trans h.output, Nat.le_trans h.size hg.size, fun k hk hne => (hg.block k (Nat.lt_of_lt_of_le hk h.size) (fun e => by have := hr k e.symm; omega)).trans (h.block k hk hne)⟩
set_option maxRecDepth 100000 in
set_option maxHeartbeats 4000000 in
theorem l04Pattern_any (w : World) (b : Nat) (sa : Option Addr) (len cap : Nat) (hs : Src w b sa len cap) :
    Calls Tryz.prog 88 #[.pointer (some ⟨b, 0, none⟩)] w fun e w' => SomePat w e w' ∧ w.grownBy w' (some b) ∧ Src w' b sa len cap := by
  obtain ⟨i0, hi, hz0, hz1, hz2⟩ := info_parts Tryz.atomInfo
  have hb := hs.lt
  have P0 : Hid (PatIn w (w.alloc (.cells #[] 135)) b sa len cap 0 (fun _ => atm0) (.slice (some ⟨w.heap.size, 0, none⟩) 0 0)) :=
    ⟨World.grownBy_alloc w _ _, hs.after ((Below.refl _ _).alloc (Nat.le_refl _) _), owns_start w w.heap.size (Nat.le_refl _) _ rfl, fun i hi => by omega⟩
  clear hs
  go_enter Tryz.func88, Tryz.ntmps88
  go_wp2_with fail
  generalize w.alloc (.cells #[] 135) = v0 at *
  refine (n_any _ b sa len cap 5 (by decide) P0.out.s).mono ?_
  rintro e w1 ⟨⟨r, rfl, hr0, hr1, _⟩, hg, hS⟩
  have hr2 : r < 5 := hr1 (by decide)
  have P1 : Hid (PatIn w w1 b sa len cap 0 (fun _ => atm0) (.slice (some ⟨w.heap.size, 0, none⟩) 0 0)) := ⟨P0.out.g.trans hg, hS, owns_src P0.out.o hg hb, P0.out.sm⟩
  clear hr1 hg hS P0
  go_wp2_with fail
  go_loopw [3, 4] (fun v kv wr => ∃ (m : Nat) (f : Nat → Atm) (k : Int), kv = .int .i64 k ∧ 0 ≤ k ∧ k + (m : Int) ≤ 5 ∧ PatIn w wr b sa len cap m f v) (fun _ kv _ => (intOf kv).toNat)
  case atStart => exact ⟨0, _, 1 + r, rfl, by omega, by omega, P1.out⟩
  case round =>
    obtain ⟨m, f, k, rfl, hk0, hkm, hp⟩ := hrel
    have HP : Hid (PatIn w wr b sa len cap m f u3) := hp
    clear hp
    by_cases hk : 0 < k
    · go_wp2_with fail
      refine (l04Atom_any _ b sa len cap HP.out.s).mono ?_
      rintro e w2 ⟨⟨cl, le, mo, rfl, hat⟩, hg, hS⟩
      have G2 : Hid (w.grownBy w2 (some b)) := HP.out.g.trans hg
      have hown := owns_src HP.out.o hg hb
      have S2 : Hid (Src w2 b sa len cap) := hS
      have HA : Hid (SmallA ⟨cl, le, mo⟩) := hat
      have hlo : w.heap.size ≤ w2.heap.size := G2.out.size
      clear hg hS hat
      go_wp2_with (at_builtin; refine wpList_append_own _ rfl (.tmp 13) (.tmp 16) 102 rfl w.heap.size 135 i0 (.agg #[.string ⟨#[]⟩, .int .i64 0, .int .i64 0]) 3 32 Tryz.underlying102 hi hz0 hz1 hz2 rfl (by decide) _ _ _ rfl (hown.alloc _) ⟨w2.heap.size, 0, none⟩ 1 1 [.string cl, .int .i64 le, .int .i64 mo] rfl rfl ?c1 ?c2 ?c3 ?c4 ?c5 ?_)
      case c1 =>
        intro j u hu
        match j, hu with
        | 0, hu => simp at hu; subst hu; simp [Addr.add]
        | 1, hu => simp at hu; subst hu; simp [Addr.add]
        | 2, hu => simp at hu; subst hu; simp [Addr.add]
        | j + 3, hu => simp at hu
      case c2 => intro u hu; simp at hu; rcases hu with rfl | rfl | rfl <;> rfl
      case c3 => unfold maxLen; omega
      case c4 => omega
      case c5 => simp <;> omega
      intro v' w3 hown3 hgrow _
      have hg3 : w2.grownBy w3 u3.ownBlock := (World.grownBy_alloc w2 _ u3.ownBlock).trans hgrow
      have P3 : Hid (PatIn w w3 b sa len cap (m + 1) (fun i => if i = m then ⟨cl, le, mo⟩ else f i) v') := ⟨grown_row G2.out hg3 (fun j e => (hown.lt j e).1), S2.out.kept hg3 (fun j e => by have := (hown.lt j e).1; omega), by
        show w3.ownsRow w.heap.size 135 3 v' (m + 1) (acells (fun i => if i = m then ⟨cl, le, mo⟩ else f i) m ++ [.string (if m = m then (⟨cl, le, mo⟩ : Atm) else f m).c, .int .i64 (if m = m then (⟨cl, le, mo⟩ : Atm) else f m).l, .int .i64 (if m = m then (⟨cl, le, mo⟩ : Atm) else f m).m])
        rw [if_pos rfl, acells_congr m (fun i hi => if_neg (by omega))]
        exact hown3, fun i hi => by
          by_cases e : i = m
          · rw [if_pos e]; exact HA.out
          · rw [if_neg e]; exact HP.out.sm i (by omega)⟩
      clear hown3 hgrow hg3 hown
      go_wp2_with fail
      go_roundw
      case rel => exact ⟨m + 1, _, k - 1, by go_num, by omega, by omega, P3.out⟩
      case measure => simp [intOf]; omega
    · go_wp2_with fail
      refine (one_any _ b sa len cap 40 (by decide) HP.out.s).mono ?_
      rintro e w2 ⟨⟨x, rfl⟩, hg, hS⟩
      have hown := owns_src HP.out.o hg hb
      have G2 : Hid (w.grownBy w2 (some b) ∧ Src w2 b sa len cap) := ⟨HP.out.g.trans hg, hS⟩
      obtain ⟨s, cp, rfl, hsl⟩ := atoms_of_owns hown
      have HSL : Hid (ASl w2 w.heap.size w2.heap.size s m f) := hsl
      clear hg hS hown hsl
      cases x with
      | true =>
        go_wp2_with fail
        go_ret
        exact ⟨⟨_, 0, _, f, rfl, by omega, Or.inl rfl, fun i hi => by omega⟩, G2.out⟩
      | false =>
        go_wp2_with fail
        go_ret
        exact ⟨⟨_, m, _, f, rfl, by omega, HSL.out, HP.out.sm⟩, G2.out⟩
end Go.Proofs.YtfeolbgenpknfaaGreat
namespace Go.Proofs.YtfeolbgenpknfaaGreat
open Go.RowKit

set_option maxHeartbeats 1000000 in
theorem big_any (a : Atm) (w : World) (h : AtomRight a) :
    Calls Tryz.prog 105 #[.agg #[.string a.c, .int .i64 a.l, .int .i64 a.m]] w fun e w' => e = .returned (.int .i64 (counted a)) ∧ Below w.heap.size w w' := by
  obtain ⟨_, _, h3, h4, h5⟩ := h
  unfold counted
  rcases h5 with h5 | ⟨h5, h6, h7⟩
  · rw [if_pos h5]
    have h6 : ¬ 0 ≤ a.m := by omega
    by_cases h7 : a.l < 1
    · rw [if_pos h7]
      go_enter Tryz.func105, Tryz.ntmps105
      go_wp2
      go_ret
      exact ⟨rfl, (Below.refl _ _).alloc (Nat.le_refl _) _⟩
    · rw [if_neg h7]
      go_enter Tryz.func105, Tryz.ntmps105
      go_wp2
      go_ret
      exact ⟨rfl, (Below.refl _ _).alloc (Nat.le_refl _) _⟩
  · rw [if_neg (by omega)]
    have h8 : 0 ≤ a.m := by omega
    go_enter Tryz.func105, Tryz.ntmps105
    go_wp2
    go_ret
    exact ⟨rfl, (Below.refl _ _).alloc (Nat.le_refl _) _⟩
theorem step_all {f : Nat → Atm} {k : Nat} (h : ∀ i, i < k → AtomRight (f i)) (hk : AtomRight (f k)) : ∀ i, i < k + 1 → AtomRight (f i) := fun i hi => by
  by_cases e : i = k
  · rw [e]; exact hk
  · exact h i (by omega)
open Classical in
theorem specRightC_yes (t : ByteArray) (w : World) (hs : t.size ≤ maxLen) (h : RightC t) :
    Calls Tryz.prog 69 #[.string t] w fun e w' => e = .returned (.bool true) ∧ Below w.heap.size w w' := by
  refine (specRightC_any t w hs).mono ?_
  rintro e w' ⟨rfl, hb⟩
  exact ⟨by rw [decide_eq_true h], hb⟩
open Classical in
theorem specRightC_no (t : ByteArray) (w : World) (hs : t.size ≤ maxLen) (h : ¬ RightC t) :
    Calls Tryz.prog 69 #[.string t] w fun e w' => e = .returned (.bool false) ∧ Below w.heap.size w w' := by
  refine (specRightC_any t w hs).mono ?_
  rintro e w' ⟨rfl, hb⟩
  exact ⟨by rw [decide_eq_false h], hb⟩

open Classical in
set_option maxRecDepth 100000 in
set_option maxHeartbeats 4000000 in
theorem specPRight_any (sa : Option Addr) (n cap : Nat) (f : Nat → Atm) (w : World) (hn : n ≤ maxLen) (hr : ARow w w.heap.size sa n f) (hc : ∀ i, i < n → (f i).c.size ≤ maxLen) :
    Calls Tryz.prog 89 #[.slice sa n cap] w fun e w' => e = .returned (.bool (decide (PatRight n f))) ∧ Below w.heap.size w w' := by
  unfold maxLen at hn
  have HC : Hid (∀ i, i < n → (f i).c.size ≤ maxLen) := hc
  have HR : Hid (ARow w w.heap.size sa n f) := hr
  clear hc hr
  by_cases h1 : (n : Int) < 1
  · rw [decide_eq_false (fun h : PatRight n f => by have := h.1; omega)]
    go_enter Tryz.func89, Tryz.ntmps89
    go_wp2
    go_ret
    exact ⟨rfl, Below.refl _ _⟩
  by_cases h2 : 20 < (n : Int)
  · rw [decide_eq_false (fun h : PatRight n f => by have := h.2.1; omega)]
    go_enter Tryz.func89, Tryz.ntmps89
    go_wp2
    go_ret
    exact ⟨rfl, Below.refl _ _⟩
  go_enter Tryz.func89, Tryz.ntmps89
  go_wp2
  go_loopw [3, 4] (fun s i wr => ∃ k : Nat, k ≤ n ∧ i = .int .i64 (k : Int) ∧ s = .int .i64 (sumTo (fun i => counted (f i)) k) ∧ Below w.heap.size w wr ∧ ∀ i, i < k → AtomRight (f i)) (fun _ i _ => n - (intOf i).toNat)
  case atStart => exact ⟨0, Nat.zero_le _, rfl, rfl, Below.refl _ _, fun i hi => by omega⟩
  case round =>
    obtain ⟨k, hk, rfl, rfl, hbel, hall⟩ := hrel
    have HB : Hid (Below w.heap.size w wr) := hbel
    have HA : Hid (∀ i, i < k → AtomRight (f i)) := hall
    have hS := sumTo_bd (g := fun i => counted (f i)) (b := 20) (by omega) k (fun i hi => by have := counted_bd (hall i hi); omega)
    clear hall
    have HSS : Hid (sumTo (fun i => counted (f i)) (k + 1) = sumTo (fun i => counted (f i)) k + counted (f k)) := rfl
    generalize hS0 : sumTo (fun i => counted (f i)) k = S at *
    have HS0 : Hid (sumTo (fun i => counted (f i)) k = S) := hS0
    clear hS0
    by_cases hkl : k < n
    · obtain ⟨bb, off, rfl, hbb, hat⟩ := HR.out.at hbel hkl
      obtain ⟨c0, c1, c2⟩ := hat
      have HK : Hid ((f k).c.size ≤ maxLen) := HC.out k hkl
      clear hbel
      have hki : (k : Int) < (n : Int) := by omega
      have hk0 : (0 : Int) ≤ (k : Int) := by omega
      obtain ⟨⟨ac, al, am⟩, ha⟩ : ∃ a, f k = a := ⟨_, rfl⟩
      have HF : Hid (f k = ⟨ac, al, am⟩) := ha
      rw [ha] at c0 c1 c2 HK HSS
      simp only at c0 c1 c2 HK
      clear ha
      have BAD : Hid (¬ AtomRight ⟨ac, al, am⟩ → ¬ PatRight n f) := fun h hp => h (by rw [← HF.out]; exact hp.2.2.1 k hkl)
      have bx := ABox.new wr ⟨ac, al, am⟩ 135
      simp only at bx
      have BX : Hid (Below w.heap.size w (wr.alloc (.cells #[.string ac, .int .i64 al, .int .i64 am] 135))) := HB.out.alloc HB.out.size _
      go_wp2_with fail
      generalize wr.alloc (.cells #[.string ac, .int .i64 al, .int .i64 am] 135) = v at *
      generalize wr.heap.size = p at *
      clear HB c0 c1 c2
      by_cases hcr : RightC ac
      · refine (specRightC_yes ac _ HK.out hcr).mono ?_
        rintro e w1 ⟨rfl, hb1⟩
        have B1 : Hid (Below w.heap.size w w1) := BX.out.trans (hb1.mono BX.out.size)
        have HX : Hid (ABox w1 p ⟨ac, al, am⟩) := bx.kept hb1 bx.lt
        obtain ⟨x0, x1, x2, xl⟩ := HX.out.all
        simp only at x0 x1 x2
        have HCR : Hid (RightC ac) := hcr
        clear hcr hb1 bx BX
        by_cases hce : 0 < ac.size
        · obtain ⟨hq1, hq2⟩ := some_of hce
          by_cases hl : 0 ≤ al ∧ al ≤ 20
          · have HL : Hid (0 ≤ al ∧ al ≤ 20) := hl
            clear hl
            by_cases hm : am = -1
            · subst hm
              have HAR : Hid (AtomRight ⟨ac, al, -1⟩) := ⟨HCR.out, hce, HL.out.1, HL.out.2, Or.inl rfl⟩
              have hcb := counted_bd HAR.out
              generalize hct : counted ⟨ac, al, -1⟩ = ct at *
              have HCT : Hid (counted ⟨ac, al, -1⟩ = ct) := hct
              clear BAD hct
              go_wp2_with (first | (go_at_call 53; refine (is_yes _ _ _ _ HL.out.1 HL.out.2).mono ?_; rintro e w2 ⟨rfl, hw2⟩; rw [hw2]; clear hw2 w2) | (go_at_call 105; refine (big_any ⟨ac, al, -1⟩ _ HAR.out).mono ?_; rintro e w2 ⟨rfl, hb2⟩; rw [HCT.out]; have HB2 : Hid (Below w.heap.size w w2) := B1.out.trans (hb2.mono B1.out.size); clear hb2))
              go_roundw
              case rel => exact ⟨k + 1, by omega, by go_num, by rw [HSS.out], HB2.out, step_all HA.out (by rw [HF.out]; exact HAR.out)⟩
              case measure => simp [intOf]; omega
            · have hmn : (am != -1) = true := by simpa using hm
              by_cases hm2 : am < al
              · have hm3 : ¬ al ≤ am := by omega
                have HBAD : Hid (¬ PatRight n f) := BAD.out (fun h => by rcases h.2.2.2.2 with h | h <;> simp only at h <;> omega)
                go_wp2_with (first | (go_at_call 53; refine (is_yes _ _ _ _ HL.out.1 HL.out.2).mono ?_; rintro e w2 ⟨rfl, hw2⟩; rw [hw2]; clear hw2 w2))
                go_ret
                exact ⟨by rw [decide_eq_false HBAD.out]; rfl, B1.out⟩
              · by_cases hm3 : 1 ≤ am ∧ am ≤ 20
                · have HM : Hid (1 ≤ am ∧ am ≤ 20) := hm3
                  have HAR : Hid (AtomRight ⟨ac, al, am⟩) := ⟨HCR.out, hce, HL.out.1, HL.out.2, Or.inr ⟨by show al ≤ am; omega, hm3.1, hm3.2⟩⟩
                  have hcb := counted_bd HAR.out
                  generalize hct : counted ⟨ac, al, am⟩ = ct at *
                  have HCT : Hid (counted ⟨ac, al, am⟩ = ct) := hct
                  clear BAD hct hm3
                  go_wp2_with (first | (go_at_call 53; refine (is_yes _ _ _ _ (by first | exact HL.out.1 | exact HM.out.1) (by first | exact HL.out.2 | exact HM.out.2)).mono ?_; rintro e w2 ⟨rfl, hw2⟩; rw [hw2]; clear hw2 w2) | (go_at_call 105; refine (big_any ⟨ac, al, am⟩ _ HAR.out).mono ?_; rintro e w2 ⟨rfl, hb2⟩; rw [HCT.out]; have HB2 : Hid (Below w.heap.size w w2) := B1.out.trans (hb2.mono B1.out.size); clear hb2))
                  go_roundw
                  case rel => exact ⟨k + 1, by omega, by go_num, by rw [HSS.out], HB2.out, step_all HA.out (by rw [HF.out]; exact HAR.out)⟩
                  case measure => simp [intOf]; omega
                · have HM : Hid (¬ (1 ≤ am ∧ am ≤ 20)) := hm3
                  have HBAD : Hid (¬ PatRight n f) := BAD.out (fun h => by rcases h.2.2.2.2 with h | h <;> simp only at h <;> omega)
                  clear hm3
                  go_wp2_with (first | (go_at_call 53; first | (refine (is_yes _ _ _ _ (by exact HL.out.1) (by exact HL.out.2)).mono ?_; rintro e w2 ⟨rfl, hw2⟩; rw [hw2]; clear hw2 w2) | (refine (is_no _ _ _ _ (by exact HM.out)).mono ?_; rintro e w2 ⟨rfl, hw2⟩; rw [hw2]; clear hw2 w2)))
                  go_ret
                  exact ⟨by rw [decide_eq_false HBAD.out]; rfl, B1.out⟩
          · have HL : Hid (¬ (0 ≤ al ∧ al ≤ 20)) := hl
            have HBAD : Hid (¬ PatRight n f) := BAD.out (fun h => hl ⟨h.2.2.1, h.2.2.2.1⟩)
            clear hl
            go_wp2_with (first | (go_at_call 53; refine (is_no _ _ _ _ HL.out).mono ?_; rintro e w2 ⟨rfl, hw2⟩; rw [hw2]; clear hw2 w2))
            go_ret
            exact ⟨by rw [decide_eq_false HBAD.out]; rfl, B1.out⟩
        · obtain ⟨hq1, hq2⟩ := none_of hce
          have HBAD : Hid (¬ PatRight n f) := BAD.out (fun h => hce h.2.1)
          go_wp2_with fail
          go_ret
          exact ⟨by rw [decide_eq_false HBAD.out]; rfl, B1.out⟩
      · refine (specRightC_no ac _ HK.out hcr).mono ?_
        rintro e w1 ⟨rfl, hb1⟩
        have B1 : Hid (Below w.heap.size w w1) := BX.out.trans (hb1.mono BX.out.size)
        have HBAD : Hid (¬ PatRight n f) := BAD.out (fun h => hcr h.1)
        clear hcr hb1 bx BX
        go_wp2_with fail
        go_ret
        exact ⟨by rw [decide_eq_false HBAD.out]; rfl, B1.out⟩
    · have hki : ¬ (k : Int) < (n : Int) := by omega
      obtain rfl : k = n := by omega
      clear hbel
      have HE : Hid (decide (PatRight k f) = decide (S ≤ 40)) := by
        show decide (PatRight k f) = decide (S ≤ 40)
        rw [decide_eq_decide]
        exact ⟨fun h => by have := h.2.2.2; rw [HS0.out] at this; exact this, fun h => ⟨by omega, by omega, HA.out, by rw [HS0.out]; exact h⟩⟩
      go_wp2
      go_ret
      exact ⟨by rw [HE.out]; rfl, HB.out⟩
end Go.Proofs.YtfeolbgenpknfaaGreat
