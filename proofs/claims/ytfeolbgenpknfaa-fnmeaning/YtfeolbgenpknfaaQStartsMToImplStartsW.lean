/- What is said here: beginnings of an end, as plain mathematics: the bytes behind the end do not matter.
   What is proved here: the program's Fits says whether a right pattern means a text; nothing that was there turns.
   What is proved here: the program's StartsOf hands back the beginnings of an end, rising, in new memory, or none; nothing that was there turns. -/
import Derived.Test.YtfeolbgenpknfaaQMeanM
import Derived.Test.YtfeolbgenpknfaaQBackMToBytesRowW
import Derived.Test.YtfeolbgenpknfaaQMeanOfW
import Derived.Test.YtfeolbgenpknfaaQImplPYesWToImplRevW
import Derived.Test.YtfeolbgenpknfaaQLookWToBackW
namespace Go.Proofs.Ytfeolbgenpknfaa

theorem pre_size {t : ByteArray} {e : Nat} (he : e ≤ t.size) : (t.extract 0 e).size = e := by simp [ByteArray.size_extract]; omega
theorem takes_pre {t c : ByteArray} {e s : Nat} (he : e ≤ t.size) (hs : s < e) : takesB (t.extract 0 e) c s = takesB t c s := by
  unfold takesB
  rw [dif_pos (by rw [pre_size he]; exact hs), dif_pos (by omega)]
  congr 2
  simp [ByteArray.getElem_extract]
theorem cuts_pre {t : ByteArray} {e : Nat} (he : e ≤ t.size) : ∀ {L : List Atm} {s : Nat}, s ≤ e → (Cuts (t.extract 0 e) L s e ↔ Cuts t L s e)
  | [], s, _ => Iff.rfl
  | a :: L, s, hs => by
    constructor
    · rintro ⟨n, h1, h2, h3⟩
      have h4 := h2.le (by rw [pre_size he]; exact hs)
      rw [pre_size he] at h4
      exact ⟨n, h1, fun j hj => by rw [← takes_pre he (by omega)]; exact h2 j hj, (cuts_pre he h4).1 h3⟩
    · rintro ⟨n, h1, h2, h3⟩
      have h4 := (h3.le (h2.le (by omega))).1
      exact ⟨n, h1, fun j hj => by rw [takes_pre he (by omega)]; exact h2 j hj, (cuts_pre he h4).2 h3⟩
end Go.Proofs.Ytfeolbgenpknfaa
namespace Go.Proofs.Ytfeolbgenpknfaa
open Go.RowKit

open Classical in
set_option maxRecDepth 100000 in
set_option maxHeartbeats 2000000 in
theorem implFits_any (sa : Option Addr) (n cap : Nat) (f : Nat → Atm) (t : ByteArray) (w : World) (hn : n ≤ maxLen) (hr : ARow w w.heap.size sa n f) (hc : ∀ i, i < n → (f i).c.size ≤ maxLen) (hts : t.size ≤ maxLen) :
    Calls Try.prog 10 #[.slice sa n cap, .string t] w fun e w' => e = .returned (.bool (decide (FitsP n f t))) ∧ Below w.heap.size w w' := by
  unfold maxLen at hts
  by_cases h8 : 8000 < (t.size : Int)
  · have hno : ¬ FitsP n f t := fun h => by have := h.1; omega
    rw [decide_eq_false hno]
    go_enter Try.func10, Try.ntmps10
    go_wp2_with fail
    go_ret
    exact ⟨rfl, Below.refl _ _⟩
  by_cases hp : PatRight n f
  · have HP : Hid (PatRight n f) := hp
    have HR : Hid (ARow w w.heap.size sa n f) := hr
    have C := implPRight_yes sa n cap f w hn hr hc hp
    clear hn hr hc hp
    go_enter Try.func10, Try.ntmps10
    go_wp2_with fail
    refine C.mono ?_
    rintro e w1 ⟨rfl, hb1⟩
    have B1 : Hid (Below w.heap.size w w1) := hb1
    clear hb1 C
    go_wp2_with fail
    refine (meaningOf_any sa n cap f t w1 HP.out.2.1 (HR.out.late B1.out) HP.out.2.2.1).mono ?_
    rintro e w2 ⟨sb, N, cb, B, g, rfl, hm⟩
    have HM : Hid (Meant w1 w2 t (atomsL f n) sb N B g) := hm
    clear hm
    go_wp2_with fail
    have C2 := from_any sb N cb B 0 t g w2 HM.out.len (by omega) (Nat.zero_le _) HM.out.parted HM.out.memo HM.out.row
    rw [show ((0 : Nat) : Int) = (0 : Int) from rfl] at C2
    refine C2.mono ?_
    rintro e w3 ⟨v, rfl, hfar, hm3, ht3⟩
    have B3 : Hid (Below w.heap.size w w3) := B1.out.trans ((HM.out.below.mono B1.out.size).trans ((ht3.below (lo := w1.heap.size) HM.out.lo (HM.out.below.size)).mono B1.out.size))
    have hiff : v = (t.size : Int) ↔ FitsP n f t := by
      rw [HM.out.eq] at hfar
      rw [far_end (far_part hfar) (Nat.zero_le _)]
      exact ⟨fun h => ⟨by omega, HP.out, h⟩, fun h => h.2.2⟩
    clear C2 hfar hm3 ht3
    by_cases hv : v = (t.size : Int)
    · have hvb : (v == (t.size : Int)) = true := by simpa using hv
      have HY : Hid (FitsP n f t) := hiff.1 hv
      clear hv hiff
      go_wp2_with fail
      go_ret
      exact ⟨by rw [decide_eq_true HY.out]; rfl, B3.out⟩
    · have hvb : (v == (t.size : Int)) = false := by simpa using hv
      have HY : Hid (¬ FitsP n f t) := fun h => hv (hiff.2 h)
      clear hv hiff
      go_wp2_with fail
      go_ret
      exact ⟨by rw [decide_eq_false HY.out]; rfl, B3.out⟩
  · have hno : ¬ FitsP n f t := fun h => hp h.2.1
    rw [decide_eq_false hno]
    have C := implPRight_no sa n cap f w hn hr hc hp
    clear hn hr hc hp hno
    go_enter Try.func10, Try.ntmps10
    go_wp2_with fail
    refine C.mono ?_
    rintro e w1 ⟨rfl, hb1⟩
    have B1 : Hid (Below w.heap.size w w1) := hb1
    clear hb1 C
    go_wp2_with fail
    go_ret
    exact ⟨rfl, B1.out⟩
end Go.Proofs.Ytfeolbgenpknfaa
namespace Go.Proofs.Ytfeolbgenpknfaa
open Go.RowKit

/-- What StartsOf is asked is right. -/
def StartsP (n : Nat) (f : Nat → Atm) (t : ByteArray) (en : Int) : Prop := t.size ≤ 8000 ∧ PatRight n f ∧ 0 ≤ en ∧ en ≤ (t.size : Int)
set_option maxRecDepth 100000 in
set_option maxHeartbeats 4000000 in
theorem implStarts_yes (sa : Option Addr) (n cap : Nat) (f : Nat → Atm) (t : ByteArray) (e : Nat) (p : Nat → Bool) (w : World) (hn : n ≤ maxLen) (hr : ARow w w.heap.size sa n f) (hc : ∀ i, i < n → (f i).c.size ≤ maxLen) (ht : t.size ≤ 8000) (hP : PatRight n f) (he : e ≤ t.size) (hp : ∀ s, s < e → (p s = true ↔ Cuts t (atomsL f n) s e)) :
    Calls Try.prog 18 #[.slice sa n cap, .string t, .int .i64 (e : Int)] w fun r w' => NewInts w (classL p e).length (fun i => (classL p e).getD i 0) r w' := by
  obtain ⟨i0, hi, hz0, hz1, hz2⟩ := info_parts Try.numInfo
  have C := implPRight_yes sa n cap f w hn hr hc hP
  have HP : Hid (PatRight n f) := hP
  have HR : Hid (ARow w w.heap.size sa n f) := hr
  have HQ : Hid (∀ s, s < e → (p s = true ↔ Cuts t (atomsL f n) s e)) := hp
  have h8 : ¬ 8000 < (t.size : Int) := by omega
  have he0 : ¬ (e : Int) < 0 := by omega
  have he1 : ¬ (t.size : Int) < (e : Int) := by omega
  have hsz := pre_size he
  have hd0 : decide ((e : Int) < 0) = false := decide_eq_false he0
  have hd1 : decide (t.size < e) = false := decide_eq_false (by omega)
  clear hn hr hc hP hp
  go_enter Try.func18, Try.ntmps18
  go_wp2_with fail
  refine C.mono ?_
  rintro r w1 ⟨rfl, hb1⟩
  have B1 : Hid (Below w.heap.size w w1) := hb1
  clear hb1 C
  go_wp2_with fail
  refine (meaningOf_any sa n cap f (t.extract 0 e) w1 HP.out.2.1 (HR.out.late B1.out) HP.out.2.2.1).mono ?_
  rintro r w2 ⟨sb, N, cb, B, g, rfl, hm⟩
  have HM : Hid (Meant w w2 (t.extract 0 e) (atomsL f n) sb N B g) := hm.since B1.out
  have A0 : Hid (Asks w (w2.alloc (.cells #[.slice sb N cb, .string (t.extract 0 e), .map (some B)] 73)) (t.extract 0 e) (atomsL g N) sb N cb B w2.heap.size (w2.heap.size + 1) g (.slice none 0 0) []) := asks_new HM.out 73
  have HLEN := HM.out.len
  have HEND : Hid (∀ (s : Nat) (v : Int), s < e → Far (t.extract 0 e) (atomsL g N) s v → (v = (e : Int) ↔ p s = true)) := fun s v hs hf => by
    rw [HQ.out s hs, ← cuts_pre he (Nat.le_of_lt hs)]
    rw [HM.out.eq] at hf
    have h9 := far_end (far_part hf) (by rw [hsz]; omega)
    rw [hsz] at h9
    exact h9
  have HPART : Hid (∀ j, j < N → Parted (g j)) := HM.out.parted
  clear hm B1 HM HQ
  generalize t.extract 0 e = t1 at *
  go_wp2_with fail
  generalize w2.heap.size = q at *
  generalize w2.alloc (.cells #[.slice sb N cb, .string t1, .map (some B)] 73) = w3 at *
  go_loopw [8, 34] (fun v i wr => ∃ k : Nat, k ≤ e ∧ i = .int .i64 (k : Int) ∧ Asks w wr t1 (atomsL g N) sb N cb B q (q + 1) g v (classL p k)) (fun _ i _ => e - (intOf i).toNat)
  case atStart => exact ⟨0, Nat.zero_le _, rfl, A0.out⟩
  case round =>
    obtain ⟨k, hk, rfl, hask⟩ := hrel
    have HA : Hid (Asks w wr t1 (atomsL g N) sb N cb B q (q + 1) g u8 (classL p k)) := hask
    obtain ⟨_, hmemo, hrow, m0, m1, m2, _, _, _, _, _⟩ := hask
    by_cases hkl : k < e
    · have hki : (k : Int) < (e : Int) := by omega
      have C := from_any sb N cb B k t1 g wr HLEN (by omega) (by omega) HPART.out hmemo hrow
      clear hmemo hrow
      go_wp2_with fail
      refine C.mono ?_
      rintro r w4 ⟨v, rfl, hfar, hm4, ht4⟩
      have A4 : Hid (Asks w w4 t1 (atomsL g N) sb N cb B q (q + 1) g u8 (classL p k)) := HA.out.turn hm4 ht4
      have hiff := HEND.out k v hkl hfar
      have hlen := classL_len p k
      clear C hfar hm4 ht4 m0 m1 m2
      by_cases hv : v = (e : Int)
      · have hvb : (v == (e : Int)) = true := by simpa using hv
        have HL : Hid (classL p (k + 1) = classL p k ++ [(k : Int)]) := classL_yes (hiff.1 hv)
        have hown := A4.out.own
        have hbs := A4.out.bs
        clear hv hiff
        go_wp2_with (at_builtin; refine wpList_append_own_at _ rfl (.tmp 42) (.tmp 44) 27 rfl (q + 1) 2 i0 (.int .i64 0) 1 8 Try.underlying27 hi hz0 hz1 hz2 rfl (by decide) _ _ _ rfl (hown.alloc _) ⟨w4.heap.size, 0, none⟩ 1 1 [.int .i64 (k : Int)] rfl rfl ?c1 ?c2 ?c3 ?c4 ?c5 ?_)
        case c1 => exact cell1_new w4 _ _
        case c2 => intro u hu; simp at hu; subst hu; rfl
        case c3 => unfold maxLen; omega
        case c4 => omega
        case c5 => first | omega | (simp <;> omega)
        intro v5 w5 hown5 hgrow5 _ _
        have A5 : Hid (Asks w w5 t1 (atomsL g N) sb N cb B q (q + 1) g v5 (classL p (k + 1))) := A4.out.grow ((World.grownBy_alloc _ _ _).trans hgrow5) (fun j e => (A4.out.own.lt j e).1) (by rw [HL.out, icells_append, List.length_append]; exact hown5)
        clear hown5 hgrow5 hown
        go_wp2_with fail
        go_roundw
        case rel => exact ⟨k + 1, by omega, by go_num, A5.out⟩
        case measure => simp [intOf]; omega
      · have hvb : (v == (e : Int)) = false := by simpa using hv
        have HL : Hid (classL p (k + 1) = classL p k) := classL_no (by cases h : p k with | false => rfl | true => exact absurd (hiff.2 h) hv)
        clear hv hiff
        go_wp2_with fail
        go_roundw
        case rel => exact ⟨k + 1, by omega, by go_num, by rw [HL.out]; exact A4.out⟩
        case measure => simp [intOf]; omega
    · have hki : ¬ (k : Int) < (e : Int) := by omega
      obtain rfl : k = e := by omega
      clear hmemo hrow m0 m1 m2
      go_wp2_with fail
      go_ret
      exact HA.out.new
theorem implStarts_no (sa : Option Addr) (n cap : Nat) (f : Nat → Atm) (t : ByteArray) (en : Int) (w : World) (hn : n ≤ maxLen) (hr : ARow w w.heap.size sa n f) (hc : ∀ i, i < n → (f i).c.size ≤ maxLen) (ht : t.size ≤ maxLen) (h : ¬ StartsP n f t en) :
    Calls Try.prog 18 #[.slice sa n cap, .string t, .int .i64 en] w fun r w' => NewInts w 0 (fun _ => 0) r w' := by
  unfold maxLen at ht
  have NI : Hid (∀ W, Below w.heap.size w W → NewInts w 0 (fun _ => 0) (.returned (.slice none 0 0)) W) := fun W hb => ⟨none, 0, rfl, hb, Or.inl rfl⟩
  by_cases h8 : 8000 < (t.size : Int)
  · go_enter Try.func18, Try.ntmps18
    go_wp2_with fail
    go_ret
    exact NI.out _ (Below.refl _ _)
  by_cases hP : PatRight n f
  · have C := implPRight_yes sa n cap f w hn hr hc hP
    have hen : en < 0 ∨ (¬ en < 0 ∧ (t.size : Int) < en) := by
      by_cases h0 : en < 0
      · exact Or.inl h0
      · refine Or.inr ⟨h0, ?_⟩
        have h9 : ¬ en ≤ (t.size : Int) := fun h1 => h ⟨by omega, hP, by omega, h1⟩
        omega
    clear hn hr hc hP h
    rcases hen with h0 | ⟨h0, h1⟩
    · go_enter Try.func18, Try.ntmps18
      go_wp2_with fail
      refine C.mono ?_
      rintro r w1 ⟨rfl, hb1⟩
      have B1 : Hid (Below w.heap.size w w1) := hb1
      clear hb1 C
      go_wp2_with fail
      go_ret
      exact NI.out _ B1.out
    · go_enter Try.func18, Try.ntmps18
      go_wp2_with fail
      refine C.mono ?_
      rintro r w1 ⟨rfl, hb1⟩
      have B1 : Hid (Below w.heap.size w w1) := hb1
      clear hb1 C
      go_wp2_with fail
      go_ret
      exact NI.out _ B1.out
  · have C := implPRight_no sa n cap f w hn hr hc hP
    clear hn hr hc hP h
    go_enter Try.func18, Try.ntmps18
    go_wp2_with fail
    refine C.mono ?_
    rintro r w1 ⟨rfl, hb1⟩
    have B1 : Hid (Below w.heap.size w w1) := hb1
    clear hb1 C
    go_wp2_with fail
    go_ret
    exact NI.out _ B1.out
end Go.Proofs.Ytfeolbgenpknfaa
