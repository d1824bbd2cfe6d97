/- What is proved here: the specification's HitsOf tells no hits where a pattern is not right; nothing that was there turns.
   What is proved here: the program's ContainsFunc says whether one of some patterns is not right; nothing that was there turns.
   What is said here: a slice of int64 in new memory whose room is no less than its length. -/
import Derived.Test.YtfeolbgenpknfaaQSpecHitsW
import Derived.Test.YtfeolbgenpknfaaQSpecPRightW
import Derived.Test.YtfeolbgenpknfaaQEndRowsMToAARowM
import Derived.Test.YtfeolbgenpknfaaQImplPYesWToImplRevW
import Derived.Test.YtfeolbgenpknfaaQLookWToBackW
namespace Go.Proofs.Ytfeolbgenpknfaa
open Go.RowKit

set_option maxRecDepth 100000 in
set_option maxHeartbeats 4000000 in
open Classical in
theorem specHits_no (sa : Option Addr) (k cap : Nat) (s : Nat → Option Addr) (n c : Nat → Nat) (f : Nat → Nat → Atm) (t : ByteArray) (w : World) (hk : k ≤ 400) (ht : t.size ≤ 8000) (hr : AARows w w.heap.size sa k s n c f) (hc : ∀ i, i < k → ∀ j, j < n i → (f i j).c.size ≤ maxLen) (hn : ∀ i, i < k → n i ≤ maxLen) (hR : ∃ i, i < k ∧ ¬ PatRight (n i) (f i)) :
    Calls Try.prog 22 #[.slice sa k cap, .string t] w fun e w' => NewHits w [] e w' := by
  obtain ⟨i0, hi, hz0, hz1, hz2⟩ := info_parts Try.rowInfo
  have HR : Hid (AARows w w.heap.size sa k s n c f) := hr
  obtain ⟨P, hPdef⟩ : ∃ P : Nat → Nat → Bool, P = fun i e => decide (∃ s, s < e ∧ Cuts t (atomsL (f i) (n i)) s e) := ⟨_, rfl⟩
  have HPR : Hid (∀ i, i < k → ∀ W, ARow W W.heap.size (s i) (n i) (f i) → Calls Try.prog 23 #[.slice (s i) (n i) (c i)] W fun e w' => e = .returned (.bool (decide (PatRight (n i) (f i)))) ∧ Below W.heap.size W w') := fun i hi W hW => specPRight_any (s i) (n i) (c i) (f i) W (hn i hi) hW (hc i hi)
  have HEN : Hid (∀ i, i < k → PatRight (n i) (f i) → ∀ W, ARow W W.heap.size (s i) (n i) (f i) → Calls Try.prog 65 #[.slice (s i) (n i) (c i), .string t] W fun e w' => NewInts W (classL (P i) (t.size + 1)).length (fun j => (classL (P i) (t.size + 1)).getD j 0) e w') := fun i hi hR W hW => l05Ends_any (s i) (n i) (c i) (f i) t (P i) W hR.2.1 hW ht hR.2.2.1 (fun e _ => by rw [hPdef]; exact decide_eq_true_iff)
  have HX : Hid (∃ i, i < k ∧ ¬ PatRight (n i) (f i)) := hR
  have HN : Hid (∀ W, Below w.heap.size w W → NewHits w [] (.returned (.slice (some ⟨W.heap.size, 0, none⟩) 0 0)) (W.alloc (.cells #[] 83))) := fun W hW => ⟨_, rfl, hW.alloc hW.size _, hits_start W _ hW.size #[] rfl⟩
  have h8 : ¬ 8000 < (t.size : Int) := by omega
  have h4 : ¬ 400 < (k : Int) := by omega
  obtain ⟨LE, hLE⟩ : ∃ LE : Nat → Nat, LE = fun i => (classL (P i) (t.size + 1)).length := ⟨_, rfl⟩
  obtain ⟨FF, hFF⟩ : ∃ FF : Nat → Nat → Int, FF = fun i j => (classL (P i) (t.size + 1)).getD j 0 := ⟨_, rfl⟩
  have HEN2 : Hid (∀ i, i < k → PatRight (n i) (f i) → ∀ W, ARow W W.heap.size (s i) (n i) (f i) → Calls Try.prog 65 #[.slice (s i) (n i) (c i), .string t] W fun e w' => NewInts W (LE i) (FF i) e w') := by rw [hLE, hFF]; exact HEN.out
  have HBase : Hid (Below w.heap.size w (w.alloc (.cells #[] 27))) := (Below.refl _ _).alloc (Nat.le_refl _) _
  have HE0 : Hid (EndsAt (w.alloc (.cells #[] 27)) w.heap.size (.slice (some ⟨w.heap.size, 0, none⟩) 0 0) 0 (fun _ => none) LE (fun _ => 0) FF) := rows_start w _ (Nat.le_refl _) _ _ _ _
  clear hr hc hR hn HEN hLE hFF hPdef
  go_enter Try.func22, Try.ntmps22
  go_wp2_with fail
  go_loopw [5, 6] (fun v iv wr => ∃ (i : Nat) (s' : Nat → Option Addr) (c' : Nat → Nat), i ≤ k ∧ iv = .int .i64 (i : Int) ∧ EndsAt wr w.heap.size v i s' LE c' FF ∧ Below w.heap.size w wr ∧ ∀ j, j < i → PatRight (n j) (f j)) (fun _ iv _ => k - (intOf iv).toNat)
  case atStart => exact ⟨0, _, _, Nat.zero_le _, rfl, HE0.out, HBase.out, fun j hj => absurd hj (Nat.not_lt_zero _)⟩
  case round =>
    obtain ⟨i, s', c', hik, rfl, hends, hbel, hall⟩ := hrel
    have HALL : Hid (∀ j, j < i → PatRight (n j) (f j)) := hall
    have HB : Hid (Below w.heap.size w wr) := hbel
    have HE : Hid (EndsAt wr w.heap.size u5 i s' LE c' FF) := hends
    clear hends hbel hall
    by_cases hil : i < k
    · have hii : (i : Int) < (k : Int) := by omega
      have hi0 : (0 : Int) ≤ (i : Int) := by omega
      obtain ⟨bb, off, rfl, hbb, ci, hrow⟩ := (HR.out.late HB.out).at hil
      have CI : Hid (∀ W, Below wr.heap.size wr W → W.cell? ⟨bb, off + i, none⟩ = some (.slice (s i) (n i) (c i)) ∧ ARow W W.heap.size (s i) (n i) (f i)) := fun W hW => ⟨by rw [hW.cell (p := ⟨bb, off + i, none⟩) hbb]; exact ci, (hrow.kept hW).up hW.size⟩
      have C1 := HPR.out i hil wr hrow
      have C2 := HEN2.out i hil
      obtain ⟨rt, hrt⟩ : ∃ rt, decide (PatRight (n i) (f i)) = rt := ⟨_, rfl⟩
      rw [hrt] at C1
      have HRT : Hid (decide (PatRight (n i) (f i)) = rt) := hrt
      have C2P : Hid (rt = true → PatRight (n i) (f i)) := fun h => of_decide_eq_true (hrt.trans h)
      clear hrt
      clear hrow
      obtain ⟨si, hsi⟩ : ∃ x, s i = x := ⟨_, rfl⟩
      obtain ⟨ni, hni⟩ : ∃ x, n i = x := ⟨_, rfl⟩
      obtain ⟨c9, hc9⟩ : ∃ x, c i = x := ⟨_, rfl⟩
      rw [hsi, hni, hc9] at ci CI C1
      have C2H : Hid (rt = true → ∀ W, ARow W W.heap.size si ni (f i) → Calls Try.prog 65 #[.slice si ni c9, .string t] W fun e w' => NewInts W (LE i) (FF i) e w') := fun h => by
        have h9 := C2 (C2P.out h)
        rw [hsi, hni, hc9] at h9
        exact h9
      clear hsi hni hc9
      clear C2
      go_wp2_with fail
      refine C1.mono ?_
      rintro e w1 ⟨rfl, hb⟩
      have B1 : Hid (Below wr.heap.size wr w1) := hb
      obtain ⟨ci1, hrow1⟩ := CI.out w1 hb
      cases rt with
      | true =>
        have C3 := C2H.out rfl w1 hrow1
        clear hb ci hrow1 C1
        go_wp2_with fail
        refine C3.mono ?_
        rintro e w2 ⟨s3, c3, rfl, hb, ho⟩
        have W2 : Hid (Below w1.heap.size w1 w2 ∧ OwnS w2 w1.heap.size s3 (LE i) (FF i)) := ⟨hb, ho⟩
        have E1 : Hid (EndsAt w1 w.heap.size u5 i s' LE c' FF) := HE.out.call B1.out
        have hown := (E1.out.call hb).own
        have hsz : w.heap.size ≤ w2.heap.size := Nat.le_trans (Nat.le_trans HB.out.size B1.out.size) hb.size
        obtain ⟨li, hli⟩ : ∃ x, LE i = x := ⟨_, rfl⟩
        have HLI : Hid (LE i = li) := hli
        rw [hli]
        clear hli
        clear hb ho C3
        go_wp2_with (at_builtin; refine wpList_append_own_at _ rfl (.tmp 30) (.tmp 37) 84 rfl w.heap.size 27 i0 (.slice none 0 0) 1 24 Try.underlying84 hi hz0 hz1 hz2 rfl (by decide) _ _ _ rfl (hown.alloc _) ⟨w2.heap.size, 0, none⟩ 1 1 [.slice s3 li c3] rfl rfl ?c1 ?c2 ?c3 ?c4 ?c5 ?_)
        case c1 =>
          intro j u hu
          match j, hu with
          | 0, hu => simp at hu; subst hu; simp [Addr.add]
          | j + 1, hu => simp at hu
        case c2 => intro u hu; simp at hu; subst hu; rfl
        case c3 => unfold maxLen; omega
        case c4 => omega
        case c5 => first | omega | (simp <;> omega)
        intro v5 w5 hown5 hgrow5 _ hvb
        have HD : Hid (EndsAt w5 w.heap.size v5 (i + 1) (fun j => if j = i then s3 else s' j) LE (fun j => if j = i then c3 else c' j) FF) := by
          have hal : Below w2.heap.size w2 (w2.alloc (.cells #[.slice s3 li c3] 27)) := (Below.refl _ _).alloc (Nat.le_refl _) _
          have h9 : EndsAt w1 w.heap.size u5 i (fun j => if j = i then s3 else s' j) LE (fun j => if j = i then c3 else c' j) FF := E1.out.rest (fun j hj => ⟨(if_neg (by omega)).symm, rfl, (if_neg (by omega)).symm, rfl⟩)
          refine h9.push (W1 := w2.alloc (.cells #[.slice s3 li c3] 27)) (Nat.le_trans HB.out.size B1.out.size) (W2.out.1.trans (hal.mono W2.out.1.size)) ?_ ?_ hgrow5 ?_
          · simp only [if_pos]
            exact W2.out.2.kept hal rfl
          · rw [scells_congr (s' := s') (n' := LE) (c' := c') i (fun j hj => ⟨if_neg (by omega), rfl, if_neg (by omega)⟩)]
            simp only [if_pos]
            rw [HLI.out]
            exact hown5
          · exact hvb.imp id (fun h => ⟨_, h, by simp⟩)
        have HB5 : Hid (Below w.heap.size w w5) := by
          have h1 : Below w.heap.size w w2 := HB.out.trans ((B1.out.trans (W2.out.1.mono B1.out.size)).mono HB.out.size)
          have hg3 : w2.grownBy w5 u5.ownBlock := (World.grownBy_alloc w2 _ u5.ownBlock).trans hgrow5
          exact h1.trans ⟨hg3.os, hg3.tape, hg3.output, hg3.size, fun a ha => hg3.block a (by have := h1.size; omega) (fun e => by have := (E1.out.own.lt a e.symm).1; omega)⟩
        clear hown5 hgrow5 hvb hown
        go_wp2_with fail
        go_roundw
        case rel => exact ⟨i + 1, _, _, by omega, by go_num, HD.out, HB5.out, fun j hj => by
          by_cases e : j = i
          · rw [e]; exact C2P.out (by trivial)
          · exact HALL.out j (by omega)⟩
        case measure => simp [intOf]; omega
      | false =>
        have B2 : Hid (Below w.heap.size w w1) := HB.out.trans (B1.out.mono HB.out.size)
        clear hb ci hrow1 C1 ci1
        go_wp2_with fail
        go_ret
        exact HN.out w1 B2.out
    · have hii : ¬ (i : Int) < (k : Int) := by omega
      obtain rfl : i = k := by omega
      obtain ⟨j, h1, h2⟩ := HX.out
      exact absurd (HALL.out j (by omega)) h2
set_option maxHeartbeats 1000000 in
theorem specHits_big (sa : Option Addr) (k cap : Nat) (t : ByteArray) (w : World) (h : ¬ (t.size ≤ 8000 ∧ k ≤ 400)) :
    Calls Try.prog 22 #[.slice sa k cap, .string t] w fun e w' => NewHits w [] e w' := by
  have HN : Hid (NewHits w [] (.returned (.slice (some ⟨w.heap.size, 0, none⟩) 0 0)) (w.alloc (.cells #[] 83))) := ⟨_, rfl, (Below.refl _ _).alloc (Nat.le_refl _) _, hits_start w _ (Nat.le_refl _) #[] rfl⟩
  by_cases h8 : 8000 < (t.size : Int)
  · clear h
    go_enter Try.func22, Try.ntmps22
    go_wp2_with fail
    go_ret
    exact HN.out
  · have h4 : 400 < (k : Int) := by omega
    clear h
    go_enter Try.func22, Try.ntmps22
    go_wp2_with fail
    go_ret
    exact HN.out
end Go.Proofs.Ytfeolbgenpknfaa
namespace Go.Proofs.Ytfeolbgenpknfaa
open Go.RowKit

set_option maxHeartbeats 1000000 in
theorem notRight_any (s : Option Addr) (n c : Nat) (r : Bool) (w : World) (hC : Calls Try.prog 57 #[.slice s n c] w fun e w' => e = .returned (.bool r) ∧ Below w.heap.size w w') :
    Calls Try.prog 101 #[.slice s n c] w fun e w' => e = .returned (.bool (!r)) ∧ Below w.heap.size w w' := by
  go_enter Try.func101, Try.ntmps101
  go_wp2_with fail
  refine hC.mono ?_
  rintro e w1 ⟨rfl, hb⟩
  have HB : Hid (Below w.heap.size w w1) := hb
  clear hb hC
  go_wp2_with fail
  go_ret
  exact ⟨by simp, HB.out⟩
open Classical in
set_option maxHeartbeats 2000000 in
theorem indexP_any (sa : Option Addr) (k cap : Nat) (s : Nat → Option Addr) (n c : Nat → Nat) (f : Nat → Nat → Atm) (w : World) (hk : k ≤ 1048576) (hr : AARows w w.heap.size sa k s n c f)
    (hP : ∀ i, i < k → ∀ W, ARow W W.heap.size (s i) (n i) (f i) → Calls Try.prog 57 #[.slice (s i) (n i) (c i)] W fun e w' => e = .returned (.bool (decide (PatRight (n i) (f i)))) ∧ Below W.heap.size W w') :
    Calls Try.prog 115 #[.slice sa k cap, .func (.func 101) #[] #[]] w fun e w' => ∃ x : Int, e = .returned (.int .i64 x) ∧ Below w.heap.size w w' ∧ (0 ≤ x ↔ ∃ i, i < k ∧ ¬ PatRight (n i) (f i)) := by
  have HR : Hid (AARows w w.heap.size sa k s n c f) := hr
  have HP : Hid (∀ i, i < k → ∀ W, ARow W W.heap.size (s i) (n i) (f i) → Calls Try.prog 57 #[.slice (s i) (n i) (c i)] W fun e w' => e = .returned (.bool (decide (PatRight (n i) (f i)))) ∧ Below W.heap.size W w') := hP
  clear hr hP
  go_enter Try.func115, Try.ntmps115
  go_wp2_with fail
  go_loopw [8] (fun iv wr => ∃ i : Nat, i ≤ k ∧ iv = .int .i64 (i : Int) ∧ (∀ j, j < i → PatRight (n j) (f j)) ∧ Below w.heap.size w wr) (fun iv _ => k - (intOf iv).toNat)
  case atStart => exact ⟨0, Nat.zero_le _, rfl, fun j hj => absurd hj (Nat.not_lt_zero _), Below.refl _ _⟩
  case round =>
    obtain ⟨i, hi, rfl, hall, hbel⟩ := hrel
    have HB : Hid (Below w.heap.size w wr) := hbel
    have HA : Hid (∀ j, j < i → PatRight (n j) (f j)) := hall
    by_cases hil : i < k
    · have hii : (i : Int) < (k : Int) := by omega
      have hi0 : (0 : Int) ≤ (i : Int) := by omega
      obtain ⟨bb, off, rfl, hbb, ci, hrow⟩ := (HR.out.late HB.out).at hil
      have C := notRight_any (s i) (n i) (c i) _ wr (HP.out i hil wr hrow)
      clear hall hbel hrow
      obtain ⟨si, hsi⟩ : ∃ x, s i = x := ⟨_, rfl⟩
      obtain ⟨ni, hni⟩ : ∃ x, n i = x := ⟨_, rfl⟩
      obtain ⟨c9, hc9⟩ : ∃ x, c i = x := ⟨_, rfl⟩
      obtain ⟨fi, hfi⟩ : ∃ x, f i = x := ⟨_, rfl⟩
      have HE : Hid (n i = ni ∧ f i = fi) := ⟨hni, hfi⟩
      rw [hsi, hni, hc9] at ci
      rw [hsi, hni, hc9, hfi] at C
      clear hsi hni hc9 hfi
      go_wp2_with fail
      refine C.mono ?_
      rintro e w1 ⟨rfl, hb⟩
      have B1 : Hid (Below w.heap.size w w1) := HB.out.trans (hb.mono HB.out.size)
      clear C hb ci
      by_cases hp : PatRight ni fi
      · rw [decide_eq_true hp]
        have HN : Hid (∀ j, j < i + 1 → PatRight (n j) (f j)) := fun j hj => by
          by_cases e : j = i
          · rw [e, HE.out.1, HE.out.2]; exact hp
          · exact HA.out j (by omega)
        clear hp
        go_wp2_with fail
        go_roundw
        case rel => exact ⟨i + 1, by omega, by go_num, HN.out, B1.out⟩
        case measure => simp [intOf]; omega
      · rw [decide_eq_false hp]
        have HN : Hid (∃ i, i < k ∧ ¬ PatRight (n i) (f i)) := ⟨i, hil, by rw [HE.out.1, HE.out.2]; exact hp⟩
        clear hp
        go_wp2_with fail
        go_ret
        exact ⟨_, rfl, B1.out, ⟨fun _ => HN.out, fun _ => by omega⟩⟩
    · have hii : ¬ (i : Int) < (k : Int) := by omega
      clear hall hbel
      go_wp2_with fail
      go_ret
      exact ⟨_, rfl, HB.out, ⟨fun h => by omega, fun ⟨j, h1, h2⟩ => absurd (HA.out j (by omega)) h2⟩⟩
open Classical in
set_option maxHeartbeats 1000000 in
theorem containsP_any (sa : Option Addr) (k cap : Nat) (s : Nat → Option Addr) (n c : Nat → Nat) (f : Nat → Nat → Atm) (w : World) (hk : k ≤ 1048576) (hr : AARows w w.heap.size sa k s n c f)
    (hP : ∀ i, i < k → ∀ W, ARow W W.heap.size (s i) (n i) (f i) → Calls Try.prog 57 #[.slice (s i) (n i) (c i)] W fun e w' => e = .returned (.bool (decide (PatRight (n i) (f i)))) ∧ Below W.heap.size W w') :
    Calls Try.prog 100 #[.slice sa k cap, .func (.func 101) #[] #[]] w fun e w' => e = .returned (.bool (decide (∃ i, i < k ∧ ¬ PatRight (n i) (f i)))) ∧ Below w.heap.size w w' := by
  have C := indexP_any sa k cap s n c f w hk hr hP
  obtain ⟨D, hD⟩ : ∃ D, decide (∃ i, i < k ∧ ¬ PatRight (n i) (f i)) = D := ⟨_, rfl⟩
  rw [hD]
  have HD : Hid (decide (∃ i, i < k ∧ ¬ PatRight (n i) (f i)) = D) := hD
  clear hr hP hD
  go_enter Try.func100, Try.ntmps100
  go_wp2_with fail
  refine C.mono ?_
  rintro e w1 ⟨x, rfl, hb, hx⟩
  have HB : Hid (Below w.heap.size w w1) := hb
  clear C hb
  by_cases h0 : 0 ≤ x
  · obtain rfl : D = true := by rw [← HD.out]; exact decide_eq_true (hx.1 h0)
    go_wp2_with fail
    go_ret
    exact ⟨by simp; exact hx.1 h0, HB.out⟩
  · obtain rfl : D = false := by rw [← HD.out]; exact decide_eq_false (fun h => h0 (hx.2 h))
    go_wp2_with fail
    go_ret
    exact ⟨by (simp; intro i hi; exact Classical.byContradiction (fun h => absurd (hx.2 ⟨i, hi, h⟩) (by omega))), HB.out⟩
end Go.Proofs.Ytfeolbgenpknfaa
namespace Go.Proofs.Ytfeolbgenpknfaa
open Go.RowKit

/-- A slice of int64 in new memory, no longer than its room. -/
def NewIntsC (w : World) (n : Nat) (f : Nat → Int) (e : Ending) (w' : World) : Prop := ∃ (sa : Option Addr) (cap : Nat), e = .returned (.slice sa n cap) ∧ n ≤ cap ∧ Below w.heap.size w w' ∧ OwnS w' w.heap.size sa n f
theorem new_of_intsC {w W : World} {l : List Int} {v : Value} (h : W.ownsRow w.heap.size 2 1 v l.length (icells l)) (hb : Below w.heap.size w W) : NewIntsC w l.length (fun i => l.getD i 0) (.returned v) W := by
  obtain ⟨_, ⟨rfl, hx⟩ | ⟨g, cap, cur, rfl, hg, hh, hnc, hm, hs, ht⟩⟩ := h
  · have : l = [] := by simpa [icells] using hx
    subst this
    exact ⟨none, 0, rfl, Nat.le_refl _, hb, Or.inl rfl⟩
  · refine ⟨_, _, rfl, hnc, hb, Or.inr ⟨g, rfl, hg, lt_of_block hh, fun i hi => ?_, fun i hi => frozen_of_row _ _ _ _ _ hh⟩⟩
    have hc : W.cell? ⟨g, i, none⟩ = (icells l)[i]? := by
      rw [← ht, List.getElem?_take_of_lt (by omega)]
      simp [World.cell?, hh]
    rw [hc]
    simp [icells, hi]
theorem Asks.newC {w W : World} {t : ByteArray} {ps : List Atm} {sb : Option Addr} {N cb B q base : Nat} {g : Nat → Atm} {v : Value} {l : List Int} (h : Asks w W t ps sb N cb B q base g v l) : NewIntsC w l.length (fun i => l.getD i 0) (.returned v) W :=
  new_of_intsC (ints_low h.own (by have := h.lo; have := h.bq; have := h.qb; omega)) h.below
end Go.Proofs.Ytfeolbgenpknfaa
