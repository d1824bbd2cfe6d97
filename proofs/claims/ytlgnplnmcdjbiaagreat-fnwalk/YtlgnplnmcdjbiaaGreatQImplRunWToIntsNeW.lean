/- What is proved here: the program's RunOn hands back the ends at which a walk along right cells hits, rising, in new memory, or none; nothing that was there turns.
   What is said here: a row of numbers that grows, beside boxes of vectors. -/
import Derived.Test.YtlgnplnmcdjbiaaGreatQImplSOnW
import Derived.Test.YtlgnplnmcdjbiaaGreatQRunMToMeanM
import Derived.Test.YtlgnplnmcdjbiaaGreatQSpecCloVWToIntRowW
import Derived.Test.YtlgnplnmcdjbiaaGreatQSpecStartWToVecAddW
import Derived.Test.YtlgnplnmcdjbiaaGreatQGetBWToClassRightW
namespace Go.Proofs.YtlgnplnmcdjbiaaGreat
open Go.RowKit

theorem ints_only {w w' : World} {base n size lo hi : Nat} {e : TypeId} {v : Value} {xs : List Value} (h : w.ownsRow base e size v n xs) (ho : OnlyM w w' lo hi) (hb : hi ≤ base) : w'.ownsRow base e size v n xs := by
  obtain ⟨hl, h⟩ := h
  refine ⟨hl, ?_⟩
  rcases h with h | ⟨g, cap, cur, h1, h2, h3, h4⟩
  · exact Or.inl h
  · refine Or.inr ⟨g, cap, cur, h1, h2, ?_, h4⟩
    rw [ho.block g (lt_of_block h3) (Or.inr (by omega))]
    exact h3
theorem own_of_ints {W : World} {base : Nat} {l : List Int} {v : Value} (h : W.ownsRow base 2 1 v l.length (icells l)) : ∃ (s : Option Addr) (cap : Nat), v = .slice s l.length cap ∧ OwnS W base s l.length (fun i => l.getD i 0) := by
  obtain ⟨_, ⟨rfl, hx⟩ | ⟨g, cap, cur, rfl, hg, hh, hnc, hm, hs, ht⟩⟩ := h
  · have : l = [] := by simpa [icells] using hx
    subst this
    exact ⟨none, 0, rfl, Or.inl rfl⟩
  · refine ⟨_, _, rfl, Or.inr ⟨g, rfl, hg, lt_of_block hh, fun i hi => ?_, fun i hi => frozen_of_row _ _ _ _ _ hh⟩⟩
    have hc : W.cell? ⟨g, i, none⟩ = (icells l)[i]? := by
      rw [← ht, List.getElem?_take_of_lt (by omega)]
      simp [World.cell?, hh]
    rw [hc]
    simp [icells, hi]
theorem WalkAt.low {W W' : World} {B lo q : Nat} {sa : Option Addr} {n cap : Nat} {f : Nat → Cel} {P : Nat → Bool} (h : WalkAt W lo q sa n cap f P) (hb : Below B W W') (hB : q < B) : WalkAt W' lo q sa n cap f P := by
  obtain ⟨r, b, be, a, sk, l, fi, la, bl, st, fin, ⟨h1, h2, h3, h4, h5, h6, h7, h8⟩, h9, h10⟩ := h
  exact ⟨r, b, be, a, sk, l, fi, la, bl, st, fin, ⟨h1.kept hb hB, h2.kept hb (by omega), h3.kept hb (by omega), h4, h5, h6, h7, h8⟩, h9, h10⟩
/-- A walk that goes on, and what it has told. -/
structure Goes (w wr : World) (lo q : Nat) (sa : Option Addr) (n cap : Nat) (f : Nat → Cel) (t : ByteArray) (k : Nat) (v : Value) : Prop where
  walk : WalkAt wr lo q sa n cap f (walkS f n t k)
  below : Below lo w wr
  own : wr.ownsRow w.heap.size 2 1 v (classL (hitP f n t) (k + 1)).length (icells (classL (hitP f n t) (k + 1)))
/-- Ends in new memory; only blocks from lo on turned. -/
def EndsNew (w : World) (lo : Nat) (l : List Int) (e : Ending) (w' : World) : Prop := ∃ (s : Option Addr) (c : Nat), e = .returned (.slice s l.length c) ∧ Below lo w w' ∧ OwnS w' w.heap.size s l.length (fun i => l.getD i 0)
theorem byte_at {t : ByteArray} {k : Nat} (h : k < t.size) : byteN t k = t[k].toNat := by unfold byteN; rw [dif_pos h]
set_option maxRecDepth 100000 in
set_option maxHeartbeats 4000000 in
theorem endsBy_any (q lo : Nat) (sa : Option Addr) (n cap : Nat) (f : Nat → Cel) (t : ByteArray) (w : World) (hn : n ≤ 60) (ht : t.size ≤ 8000) (hsz : ∀ i, i < n → (f i).c.size ≤ 256) (hr : CRow w lo sa n f) (hw : WalkAt w lo q sa n cap f (startB f n)) :
    Calls Tryz.prog 36 #[.func (.func 33) #[.pointer (some ⟨q, 0, none⟩)] #[], .string t] w fun e w' => EndsNew w lo (runL f n t) e w' := by
  obtain ⟨i0, hi, hz0, hz1, hz2⟩ := info_parts Tryz.numInfo
  have HR : Hid (CRow w lo sa n f) := hr
  have HW : Hid (WalkAt w lo q sa n cap f (startB f n)) := hw
  have HSZ : Hid (∀ i, i < n → (f i).c.size ≤ 256) := hsz
  have HQ : Hid (q < w.heap.size ∧ lo < q) := ⟨hw.slot.2.2.1, hw.slot.2.2.2⟩
  clear hr hw hsz
  go_enter Tryz.func36, Tryz.ntmps36
  go_wp2_with fail
  go_loopw [5, 6] (fun v i wr => ∃ k : Nat, k ≤ t.size ∧ i = .int .i64 (k : Int) ∧ Goes w wr lo q sa n cap f t k v) (fun _ i _ => t.size - (intOf i).toNat)
  case atStart => exact ⟨0, Nat.zero_le _, rfl, HW.out, Below.refl _ _, ⟨rfl, Or.inl ⟨rfl, rfl⟩⟩⟩
  case round =>
    obtain ⟨k, hk, rfl, hg⟩ := hrel
    have HG : Hid (Goes w wr lo q sa n cap f t k u5) := hg
    clear hg
    by_cases hkl : k < t.size
    · have hki : (k : Int) < (t.size : Int) := by omega
      have hk0 : (0 : Int) ≤ (k : Int) := by omega
      obtain ⟨c, hc⟩ : ∃ c, t[k].toNat = c := ⟨_, rfl⟩
      have hc9 : c < 256 := by rw [← hc]; exact UInt8.toNat_lt _
      have HB : Hid (byteN t k = c) := by show byteN t k = c; rw [byte_at hkl, hc]
      have CS := step_any q sa n cap lo c f (walkS f n t k) wr hn hc9 HSZ.out (HR.out.kept HG.out.below) HG.out.walk (walkS_le f n t k)
      have hlen := classL_len (hitP f n t) (k + 1)
      cases hh : stepB f n (walkS f n t k) c n with
      | false =>
        have HL : Hid (classL (hitP f n t) (k + 1 + 1) = classL (hitP f n t) (k + 1)) := classL_no (by show stepB f n (walkS f n t k) (byteN t k) n = false; rw [HB.out]; exact hh)
        rw [hh] at CS
        clear hh
        go_wp2_with fail
        refine CS.mono ?_
        rintro e w4 ⟨rfl, hw4, ho4⟩
        have G4 : Hid (Goes w w4 lo q sa n cap f t (k + 1) u5) := ⟨by show WalkAt w4 lo q sa n cap f (fun j => stepB f n (walkS f n t k) (byteN t k) j || startB f n j); rw [HB.out]; exact hw4, HG.out.below.trans (ho4.below (Nat.le_refl lo) (by have := HG.out.below.size; have := HQ.out; omega)), by rw [HL.out]; exact ints_only HG.out.own ho4 HQ.out.1⟩
        clear CS hw4 ho4
        go_wp2_with fail
        go_roundw
        case rel => exact ⟨k + 1, hkl, by go_num, G4.out⟩
        case measure => simp [intOf]; omega
      | true =>
        have HL : Hid (classL (hitP f n t) (k + 1 + 1) = classL (hitP f n t) (k + 1) ++ [((k + 1 : Nat) : Int)]) := classL_yes (by show stepB f n (walkS f n t k) (byteN t k) n = true; rw [HB.out]; exact hh)
        rw [hh] at CS
        clear hh
        go_wp2_with fail
        refine CS.mono ?_
        rintro e w4 ⟨rfl, hw4, ho4⟩
        have hown : w4.ownsRow w.heap.size 2 1 u5 (classL (hitP f n t) (k + 1)).length (icells (classL (hitP f n t) (k + 1))) := ints_only HG.out.own ho4 HQ.out.1
        have W4 : Hid (WalkAt w4 lo q sa n cap f (walkS f n t (k + 1)) ∧ Below lo w w4) := ⟨by show WalkAt w4 lo q sa n cap f (fun j => stepB f n (walkS f n t k) (byteN t k) j || startB f n j); rw [HB.out]; exact hw4, HG.out.below.trans (ho4.below (Nat.le_refl lo) (by have := HG.out.below.size; have := HQ.out; omega))⟩
        have hbs : w.heap.size ≤ w4.heap.size := W4.out.2.size
        clear CS hw4 ho4
        go_wp2_with (at_builtin; refine wpList_append_own_at _ rfl (.tmp 18) (.tmp 21) 24 rfl w.heap.size 2 i0 (.int .i64 0) 1 8 Tryz.underlying24 hi hz0 hz1 hz2 rfl (by decide) _ _ _ rfl (hown.alloc _) ⟨w4.heap.size, 0, none⟩ 1 1 [.int .i64 ((k : Int) + 1)] rfl rfl ?c1 ?c2 ?c3 ?c4 ?c5 ?_)
        case c1 => exact cell1_new w4 _ _
        case c2 => intro u hu; simp at hu; subst hu; rfl
        case c3 => unfold maxLen; omega
        case c4 => omega
        case c5 => first | omega | (simp <;> omega)
        intro v5 w5 hown5 hgrow5 _ _
        have hb5 : Below (q + 1) w4 w5 := grown_lo ((World.grownBy_alloc _ _ _).trans hgrow5) (fun j e => (hown.lt j e).1) HQ.out.1 (by have := W4.out.2.size; have := HQ.out; omega)
        have G5 : Hid (Goes w w5 lo q sa n cap f t (k + 1) v5) := ⟨W4.out.1.low hb5 (Nat.lt_succ_self q), W4.out.2.trans (hb5.mono (by have := HQ.out; omega)), by rw [HL.out, icells_append, List.length_append]; exact hown5⟩
        clear hown5 hgrow5 hown hb5
        go_wp2_with fail
        go_roundw
        case rel => exact ⟨k + 1, hkl, by go_num, G5.out⟩
        case measure => simp [intOf]; omega
    · have hki : ¬ (k : Int) < (t.size : Int) := by omega
      obtain rfl : k = t.size := by omega
      go_wp2_with fail
      go_ret
      obtain ⟨s, c, e1, ho⟩ := own_of_ints HG.out.own
      exact ⟨s, c, by rw [e1]; rfl, HG.out.below, ho⟩
theorem implRun_no (sa : Option Addr) (n cap : Nat) (f : Nat → Cel) (t : ByteArray) (w : World) (hn : n ≤ maxLen) (hr : CRow w w.heap.size sa n f) (hc : ∀ i, i < n → (f i).c.size ≤ maxLen) (ht : t.size ≤ maxLen) (h : ¬ (t.size ≤ 8000 ∧ CellsOk n f)) :
    Calls Tryz.prog 7 #[.slice sa n cap, .string t] w fun r w' => NewInts w 0 (fun _ => 0) r w' := by
  unfold maxLen at ht
  by_cases h8 : 8000 < (t.size : Int)
  · go_enter Tryz.func7, Tryz.ntmps7
    go_wp2_with fail
    go_ret
    exact ⟨none, 0, rfl, Below.refl _ _, Or.inl rfl⟩
  · have C := walkOf_no sa n cap f w hn hr hc (fun h9 => h ⟨by omega, h9⟩)
    clear hn hr hc h
    go_enter Tryz.func7, Tryz.ntmps7
    go_wp2_with fail
    refine C.mono ?_
    rintro e w1 ⟨rfl, hb1⟩
    have B1 : Hid (Below w.heap.size w w1) := hb1
    clear hb1 C
    go_wp2_with fail
    go_ret
    exact ⟨none, 0, rfl, B1.out, Or.inl rfl⟩
set_option maxHeartbeats 1000000 in
theorem implRun_yes (sa : Option Addr) (n cap : Nat) (f : Nat → Cel) (t : ByteArray) (w : World) (hn : n ≤ maxLen) (hr : CRow w w.heap.size sa n f) (hc : ∀ i, i < n → (f i).c.size ≤ maxLen) (ht : t.size ≤ 8000) (h : CellsOk n f) :
    Calls Tryz.prog 7 #[.slice sa n cap, .string t] w fun r w' => NewInts w (runL f n t).length (fun i => (runL f n t).getD i 0) r w' := by
  have C := walkOf_yes sa n cap f w hn hr hc h
  have HSZ : Hid (∀ i, i < n → (f i).c.size ≤ 256) := okSize (fun i _ hi => right_size hi) h
  have HR : Hid (CRow w w.heap.size sa n f) := hr
  have hn60 := h.2.1
  have h8 : ¬ 8000 < (t.size : Int) := by omega
  have hmf : ∀ (fn : Fn) (first cap : Array Value) (w : World), (Instr.makeFunc fn first cap).run Tryz.prog w = .ok (.func fn first cap) w := fun _ _ _ _ => rfl
  clear hn hr hc h
  go_enter Tryz.func7, Tryz.ntmps7
  go_wp2_with fail
  refine C.mono ?_
  rintro e w1 ⟨q, rfl, hb1, hw1⟩
  have B1 : Hid (Below w.heap.size w w1) := hb1
  have W1 : Hid (WalkAt w1 w.heap.size q sa n cap f (startB f n)) := hw1
  clear hb1 hw1 C
  go_wp2_with fail
  refine (endsBy_any q w.heap.size sa n cap f t w1 hn60 ht HSZ.out (HR.out.kept B1.out) W1.out).mono ?_
  rintro e w2 ⟨s, c, rfl, hb2, ho2⟩
  have N2 : Hid (NewInts w (runL f n t).length (fun i => (runL f n t).getD i 0) (.returned (.slice s (runL f n t).length c)) w2) := ⟨s, c, rfl, B1.out.trans hb2, ho2.low B1.out.size⟩
  clear hb2 ho2
  go_wp2_with fail
  go_ret
  exact N2.out
end Go.Proofs.YtlgnplnmcdjbiaaGreat
namespace Go.Proofs.YtlgnplnmcdjbiaaGreat
open Go.RowKit

theorem ints_ne {w : World} {base n p m c : Nat} {b : Int} {s : Option Addr} {v : Value} {xs : List Value} (h : w.ownsRow base 2 1 v n xs) (hx : Boxed w p 26 b s m c) : v.ownBlock ≠ some p := by
  rcases h.2 with ⟨rfl, _⟩ | ⟨g, cap, cur, rfl, _, hh, _⟩
  · intro e
    cases e
  · intro e
    have e2 : g = p := by injection e
    subst e2
    unfold Boxed at hx
    rw [hx] at hh
    injection hh with hh
    injection hh with _ h2 _
    exact absurd h2 (by decide)
theorem ints_other {w w' : World} {base n size p : Nat} {e : TypeId} {v : Value} {xs : List Value} (h : w.ownsRow base e size v n xs) (hg : w.grownBy w' (some p)) (hne : v.ownBlock ≠ some p) : w'.ownsRow base e size v n xs := by
  obtain ⟨hl, h⟩ := h
  refine ⟨hl, ?_⟩
  rcases h with h | ⟨g, cap, cur, h1, h2, h3, h4⟩
  · exact Or.inl h
  · refine Or.inr ⟨g, cap, cur, h1, h2, ?_, h4⟩
    rw [hg.block g (lt_of_block h3) (fun e => hne (by rw [h1]; exact e))]
    exact h3
theorem boxed_row {W W' : World} {p : Nat} {t : TypeId} {x : Int} {sa : Option Addr} {n cap : Nat} {row : Option Nat} (h : Boxed W p t x sa n cap) (hg : W.grownBy W' row) (hne : row ≠ some p) : Boxed W' p t x sa n cap := by
  unfold Boxed
  rw [hg.block p h.lt (fun e => hne e.symm)]
  exact h
theorem own_row {W W' : World} {g n : Nat} {f : Nat → Int} {row : Option Nat} (h : Own W g n f) (hg : W.grownBy W' row) (hne : row ≠ some g) : Own W' g n f := by
  have hb := hg.block g h.1 (fun e => hne e.symm)
  refine ⟨Nat.lt_of_lt_of_le h.1 hg.size, fun i hi => ?_, fun i hi => ?_⟩
  · have := h.2.1 i hi
    simpa [World.cell?, hb] using this
  · have := h.2.2 i hi
    simpa [World.frozen?, hb] using this
theorem boxed_store {W : World} {p : Nat} {t : TypeId} {b b' : Int} {s s' : Option Addr} {n n' c c' : Nat} (h : Boxed W p t b s n c) : Boxed ((W.setCell ⟨p, 0, none⟩ (.int .i64 b')).setCell ⟨p, 1, none⟩ (.slice s' n' c')) p t b' s' n' c' := by
  unfold Boxed at h ⊢
  have h1 := heap_setCell_same W p 0 _ _ (.int .i64 b') h
  have h2 := heap_setCell_same _ p 1 _ _ (.slice s' n' c') h1
  rw [h2]
  rfl
/-- What a statement 'y := ..' over steps leaves: y's box, its bits, whether it hit. -/
def CutT (w : World) (b : Int) (m : Nat) (P : Nat → Bool) (t : Bool) (pv : Value) (wc : World) : Prop := ∃ h : Nat → Int, CutS w b m h t pv wc ∧ VecIs h P m
end Go.Proofs.YtlgnplnmcdjbiaaGreat
