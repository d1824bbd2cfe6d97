/- What is proved here: the specification's Fits says whether a right pattern means a text; nothing that was there turns.
   What is proved here: the specification's StartsOf hands back the beginnings of an end, rising, in new memory, or none; nothing that was there turns. -/
import Derived.Test.YtfeolbgenpknfaaQBackMToBytesRowW
import Derived.Test.YtfeolbgenpknfaaQSpecFromW
import Derived.Test.YtfeolbgenpknfaaQSpecPYesWToIntRowW
namespace Go.Proofs.Ytfeolbgenpknfaa
open Go.RowKit

open Classical in
set_option maxRecDepth 100000 in
set_option maxHeartbeats 2000000 in
theorem specFits_any (sa : Option Addr) (n cap : Nat) (f : Nat → Atm) (t : ByteArray) (w : World) (hn : n ≤ maxLen) (hr : ARow w w.heap.size sa n f) (hc : ∀ i, i < n → (f i).c.size ≤ maxLen) (hts : t.size ≤ maxLen) :
    Calls Try.prog 15 #[.slice sa n cap, .string t] w fun e w' => e = .returned (.bool (decide (FitsP n f t))) ∧ Below w.heap.size w w' := by
  unfold maxLen at hts
  by_cases h8 : (t.size : Int) ≤ 8000
  case neg =>
    have hno : ¬ FitsP n f t := fun h => by have := h.1; omega
    rw [decide_eq_false hno]
    go_enter Try.func15, Try.ntmps15
    go_wp2_with fail
    go_ret
    exact ⟨rfl, Below.refl _ _⟩
  by_cases hp : PatRight n f
  · have HP : Hid (PatRight n f) := hp
    have HR : Hid (ARow w w.heap.size sa n f) := hr
    have C := specPRight_yes sa n cap f w hn hr hc hp
    clear hn hr hc hp
    go_enter Try.func15, Try.ntmps15
    go_wp2_with fail
    refine C.mono ?_
    rintro e w1 ⟨rfl, hb1⟩
    have B1 : Hid (Below w.heap.size w w1) := hb1
    clear hb1 C
    go_wp2_with fail
    have C2 := from_spec sa n cap f t 0 w1 HP.out.2.1 (by omega) (Nat.zero_le _) (HR.out.late B1.out) HP.out.2.2.1
    rw [show ((0 : Nat) : Int) = (0 : Int) from rfl] at C2
    refine C2.mono ?_
    rintro e w2 ⟨g, r, rfl, hb2, hgl, hown, hfrom⟩
    have B2 : Hid (Below w.heap.size w w2) := B1.out.trans (hb2.mono B1.out.size)
    have hc2 := hown.2.1 t.size (by omega)
    have hiff : r t.size = true ↔ FitsP n f t := by
      rw [hfrom t.size (Nat.le_refl _)]
      exact ⟨fun h => ⟨by omega, HP.out, h⟩, fun h => h.2.2⟩
    have hz0 : (0 : Int) ≤ (t.size : Int) := by omega
    have hz1 : (t.size : Int) < ((t.size + 1 : Nat) : Int) := by omega
    have hz2 : (t.size : Int) < (t.size : Int) + 1 := by omega
    clear C2 hb2 hgl hown hfrom
    cases hv : r t.size with
    | true =>
      have HY : Hid (FitsP n f t) := hiff.1 hv
      rw [hv] at hc2
      clear hv hiff
      go_wp2_with fail
      go_ret
      exact ⟨by rw [decide_eq_true HY.out]; rfl, B2.out⟩
    | false =>
      have HY : Hid (¬ FitsP n f t) := fun h => by rw [hiff.2 h] at hv; cases hv
      rw [hv] at hc2
      clear hv hiff
      go_wp2_with fail
      go_ret
      exact ⟨by rw [decide_eq_false HY.out]; rfl, B2.out⟩
  · have hno : ¬ FitsP n f t := fun h => hp h.2.1
    rw [decide_eq_false hno]
    have C := specPRight_no sa n cap f w hn hr hc hp
    clear hn hr hc hp hno
    go_enter Try.func15, Try.ntmps15
    go_wp2_with fail
    refine C.mono ?_
    rintro e w1 ⟨rfl, hb1⟩
    have B1 : Hid (Below w.heap.size w w1) := hb1
    clear hb1 C
    go_wp2_with fail
    go_ret
    exact ⟨rfl, B1.out⟩
end Go.Proofs.Ytfeolbgenpknfaa
namespace Go.Proofs.Ytfeolbgenpknfaa
open Go.RowKit

set_option maxRecDepth 100000 in
set_option maxHeartbeats 4000000 in
theorem specStarts_yes (sa : Option Addr) (n cap : Nat) (f : Nat → Atm) (t : ByteArray) (e : Nat) (p : Nat → Bool) (w : World) (hn : n ≤ maxLen) (hr : ARow w w.heap.size sa n f) (hc : ∀ i, i < n → (f i).c.size ≤ maxLen) (ht : t.size ≤ 8000) (hP : PatRight n f) (he : e ≤ t.size) (hp : ∀ s, s < e → (p s = true ↔ Cuts t (atomsL f n) s e)) :
    Calls Try.prog 19 #[.slice sa n cap, .string t, .int .i64 (e : Int)] w fun r w' => NewInts w (classL p e).length (fun i => (classL p e).getD i 0) r w' := by
  obtain ⟨i0, hi, hz0, hz1, hz2⟩ := info_parts Try.numInfo
  have b0 : Below w.heap.size w (w.alloc (.cells #[] 2)) := (Below.refl _ _).alloc (Nat.le_refl _) _
  have C := specPRight_yes sa n cap f (w.alloc (.cells #[] 2)) hn (hr.late b0) hc hP
  have HP : Hid (PatRight n f) := hP
  have HR : Hid (ARow w w.heap.size sa n f) := hr
  have HQ : Hid (∀ s, s < e → (p s = true ↔ Cuts t (atomsL f n) s e)) := hp
  have O0 : Hid ((w.alloc (.cells #[] 2)).ownsRow w.heap.size 2 1 (.slice (some ⟨w.heap.size, 0, none⟩) 0 0) 0 []) := ints_start w w.heap.size (Nat.le_refl _) #[] rfl
  have H0 : Hid (Below w.heap.size w (w.alloc (.cells #[] 2))) := b0
  have h8 : ¬ 8000 < (t.size : Int) := by omega
  have he0 : (0 : Int) ≤ (e : Int) := by omega
  have he1 : (e : Int) ≤ (t.size : Int) := by omega
  have he2 : (e : Int) < ((t.size + 1 : Nat) : Int) := by omega
  have he3 : (e : Int) < (t.size : Int) + 1 := by omega
  clear hn hr hc hP hp b0
  go_enter Try.func19, Try.ntmps19
  go_wp2_with fail
  refine C.mono ?_
  rintro r w1 ⟨rfl, hb1⟩
  have B1 : Hid (Below w.heap.size w w1) := H0.out.trans (hb1.mono H0.out.size)
  have O1 : Hid (w1.ownsRow w.heap.size 2 1 (.slice (some ⟨w.heap.size, 0, none⟩) 0 0) (classL p 0).length (icells (classL p 0))) := ints_below O0.out hb1 rfl
  clear hb1 C O0 H0
  go_wp2_with (first | (go_at_call 66; refine (is_yes _ _ _ _ (by first | exact he0 | omega) (by first | exact he1 | omega)).mono ?_; rintro r w2 ⟨rfl, hw2⟩; rw [hw2]; clear hw2 w2))
  go_loopw [7, 8] (fun v i wr => ∃ k : Nat, k ≤ e ∧ i = .int .i64 (k : Int) ∧ wr.ownsRow w.heap.size 2 1 v (classL p k).length (icells (classL p k)) ∧ Below w.heap.size w wr) (fun _ i _ => e - (intOf i).toNat)
  case atStart => exact ⟨0, Nat.zero_le _, rfl, O1.out, B1.out⟩
  case round =>
    obtain ⟨k, hk, rfl, hown, hbel⟩ := hrel
    have HO : Hid (wr.ownsRow w.heap.size 2 1 u7 (classL p k).length (icells (classL p k))) := hown
    have HB : Hid (Below w.heap.size w wr) := hbel
    clear hown hbel
    by_cases hkl : k < e
    · have hki : (k : Int) < (e : Int) := by omega
      have C := from_spec sa n cap f t k wr HP.out.2.1 ht (by omega) (HR.out.late HB.out) HP.out.2.2.1
      go_wp2_with fail
      refine C.mono ?_
      rintro r w4 ⟨g, q, rfl, hb4, hg4, hob, hfrom⟩
      have hce := hob.2.1 e (by omega)
      have hiff : q e = true ↔ p k = true := (hfrom e he).trans (HQ.out k hkl).symm
      have B4 : Hid (Below w.heap.size w w4) := HB.out.trans (hb4.mono HB.out.size)
      have O4 : Hid (w4.ownsRow w.heap.size 2 1 u7 (classL p k).length (icells (classL p k))) := ints_below HO.out hb4 rfl
      have hlen := classL_len p k
      clear C hb4 hg4 hob hfrom
      cases hv : q e with
      | true =>
        have HL : Hid (classL p (k + 1) = classL p k ++ [(k : Int)]) := classL_yes (hiff.1 hv)
        have hown := O4.out
        have hbs := B4.out.size
        rw [hv] at hce
        clear hv hiff
        go_wp2_with (at_builtin; refine wpList_append_own_at _ rfl (.tmp 38) (.tmp 40) 27 rfl w.heap.size 2 i0 (.int .i64 0) 1 8 Try.underlying27 hi hz0 hz1 hz2 rfl (by decide) _ _ _ rfl (hown.alloc _) ⟨w4.heap.size, 0, none⟩ 1 1 [.int .i64 (k : Int)] rfl rfl ?c1 ?c2 ?c3 ?c4 ?c5 ?_)
        case c1 => exact cell1_new w4 _ _
        case c2 => intro u hu; simp at hu; subst hu; rfl
        case c3 => unfold maxLen; omega
        case c4 => omega
        case c5 => first | omega | (simp <;> omega)
        intro v5 w5 hown5 hgrow5 _ _
        have O5 : Hid (w5.ownsRow w.heap.size 2 1 v5 (classL p (k + 1)).length (icells (classL p (k + 1)))) := by
          show w5.ownsRow w.heap.size 2 1 v5 (classL p (k + 1)).length (icells (classL p (k + 1)))
          rw [HL.out, icells_append, List.length_append]
          exact hown5
        have B5 : Hid (Below w.heap.size w w5) := B4.out.trans (grown_lo ((World.grownBy_alloc _ _ _).trans hgrow5) (fun j e => (O4.out.lt j e).1) (Nat.le_refl _) hbs)
        clear hown5 hgrow5 hown
        go_wp2_with fail
        go_roundw
        case rel => exact ⟨k + 1, by omega, by go_num, O5.out, B5.out⟩
        case measure => simp [intOf]; omega
      | false =>
        have HL : Hid (classL p (k + 1) = classL p k) := classL_no (by cases h : p k with | false => rfl | true => rw [hiff.2 h] at hv; cases hv)
        rw [hv] at hce
        clear hv hiff
        go_wp2_with fail
        go_roundw
        case rel => exact ⟨k + 1, by omega, by go_num, by rw [HL.out]; exact O4.out, B4.out⟩
        case measure => simp [intOf]; omega
    · have hki : ¬ (k : Int) < (e : Int) := by omega
      obtain rfl : k = e := by omega
      go_wp2_with fail
      go_ret
      exact new_of_ints HO.out HB.out
set_option maxHeartbeats 1000000 in
theorem specStarts_no (sa : Option Addr) (n cap : Nat) (f : Nat → Atm) (t : ByteArray) (en : Int) (w : World) (hn : n ≤ maxLen) (hr : ARow w w.heap.size sa n f) (hc : ∀ i, i < n → (f i).c.size ≤ maxLen) (ht : t.size ≤ maxLen) (h : ¬ (t.size ≤ 8000 ∧ PatRight n f ∧ 0 ≤ en ∧ en ≤ (t.size : Int))) :
    Calls Try.prog 19 #[.slice sa n cap, .string t, .int .i64 en] w fun r w' => NewInts w 0 (fun _ => 0) r w' := by
  unfold maxLen at ht
  have NI : Hid (∀ W x, Below w.heap.size w W → NewInts w 0 (fun _ => 0) (.returned (.slice x 0 0)) W) := fun W x hb => ⟨x, 0, rfl, hb, Or.inl rfl⟩
  have b0 : Below w.heap.size w (w.alloc (.cells #[] 2)) := (Below.refl _ _).alloc (Nat.le_refl _) _
  have H0 : Hid (Below w.heap.size w (w.alloc (.cells #[] 2))) := b0
  by_cases h8 : 8000 < (t.size : Int)
  · go_enter Try.func19, Try.ntmps19
    go_wp2_with fail
    go_ret
    exact NI.out _ _ H0.out
  by_cases hP : PatRight n f
  · have C := specPRight_yes sa n cap f (w.alloc (.cells #[] 2)) hn (hr.late b0) hc hP
    have hen : ¬ (0 ≤ en ∧ en ≤ (t.size : Int)) := fun h1 => h ⟨by omega, hP, h1.1, h1.2⟩
    clear hn hr hc hP h b0
    go_enter Try.func19, Try.ntmps19
    go_wp2_with fail
    refine C.mono ?_
    rintro r w1 ⟨rfl, hb1⟩
    have B1 : Hid (Below w.heap.size w w1) := H0.out.trans (hb1.mono H0.out.size)
    have HEN : Hid (¬ (0 ≤ en ∧ en ≤ (t.size : Int))) := hen
    clear hb1 C hen
    go_wp2_with (first | (go_at_call 66; refine (is_no _ _ _ _ HEN.out).mono ?_; rintro r w2 ⟨rfl, hw2⟩; rw [hw2]; clear hw2 w2))
    go_ret
    exact NI.out _ _ B1.out
  · have C := specPRight_no sa n cap f (w.alloc (.cells #[] 2)) hn (hr.late b0) hc hP
    clear hn hr hc hP h b0
    go_enter Try.func19, Try.ntmps19
    go_wp2_with fail
    refine C.mono ?_
    rintro r w1 ⟨rfl, hb1⟩
    have B1 : Hid (Below w.heap.size w w1) := H0.out.trans (hb1.mono H0.out.size)
    clear hb1 C
    go_wp2_with fail
    go_ret
    exact NI.out _ _ B1.out
end Go.Proofs.Ytfeolbgenpknfaa
