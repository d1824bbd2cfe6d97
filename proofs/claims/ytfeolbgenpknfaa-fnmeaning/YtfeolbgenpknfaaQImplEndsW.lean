/- What is proved here: the program's EndsOf hands back the ends of a right pattern in a text, rising, in new memory, or none; nothing that was there turns. -/
import Derived.Test.YtfeolbgenpknfaaQLookWToBackW
import Derived.Test.YtfeolbgenpknfaaQImplPYesWToImplRevW
import Derived.Test.YtfeolbgenpknfaaQClassRightWToClassAlg
namespace Go.Proofs.Ytfeolbgenpknfaa
open Go.RowKit

set_option maxRecDepth 100000 in
set_option maxHeartbeats 4000000 in
theorem implEnds_yes (sa : Option Addr) (n cap : Nat) (f : Nat → Atm) (t : ByteArray) (p : Nat → Bool) (w : World) (hn : n ≤ maxLen) (hr : ARow w w.heap.size sa n f) (hc : ∀ i, i < n → (f i).c.size ≤ maxLen) (ht : t.size ≤ 8000) (hP : PatRight n f) (hp : ∀ e, e ≤ t.size → (p e = true ↔ ∃ s, s < e ∧ Cuts t (atomsL f n) s e)) :
    Calls Try.prog 12 #[.slice sa n cap, .string t] w fun r w' => NewInts w (classL p (t.size + 1)).length (fun i => (classL p (t.size + 1)).getD i 0) r w' := by
  obtain ⟨i0, hi, hz0, hz1, hz2⟩ := info_parts Try.numInfo
  have C := implPRight_yes sa n cap f w hn hr hc hP
  have HP : Hid (PatRight n f) := hP
  have HR : Hid (ARow w w.heap.size sa n f) := hr
  have HQ : Hid (∀ e, e ≤ t.size → (p e = true ↔ ∃ s, s < e ∧ Cuts t (atomsL f n) s e)) := hp
  have h8 : ¬ 8000 < (t.size : Int) := by omega
  have HC2 : Hid (∀ i, i < n → (f i).c.size ≤ 256) := fun i hi => right_size (hP.2.2.1 i hi).1
  have hp0 : p 0 = false := by cases h : p 0 with | false => rfl | true => (obtain ⟨s, hs, _⟩ := (hp 0 (Nat.zero_le _)).1 h; omega)
  have HL0 : Hid (classL p 1 = []) := classL_no hp0
  clear hn hr hP hp hp0
  have HC : Hid (∀ i, i < n → (f i).c.size ≤ maxLen) := hc
  clear hc
  go_enter Try.func12, Try.ntmps12
  go_wp2_with fail
  refine C.mono ?_
  rintro r w1 ⟨rfl, hb1⟩
  have B1 : Hid (Below w.heap.size w w1) := hb1
  clear hb1 C
  go_wp2_with fail
  refine (implRev_yes sa n cap f w1 (by have := HP.out.2.1; omega) (HR.out.late B1.out) HC.out (fun i hi => Nat.le_trans (HC2.out i hi) (by omega)) HP.out).mono ?_
  rintro r w2 ⟨sr, cr, rfl, hb2, hsl⟩
  have B2 : Hid (Below w.heap.size w w2) := B1.out.trans (hb2.mono B1.out.size)
  have R2 : Hid (ARow w2 w2.heap.size sr n (fun i => f (n - 1 - i))) := hsl.row
  clear hb2 hsl B1
  go_wp2_with fail
  refine (backwards_any t w2 ht).mono ?_
  rintro r w3 ⟨rfl, hb3⟩
  have B3 : Hid (Below w.heap.size w w3) := B2.out.trans (hb3.mono B2.out.size)
  have R3 : Hid (ARow w3 w3.heap.size sr n (fun i => f (n - 1 - i))) := R2.out.late hb3
  clear hb3 B2 R2
  go_wp2_with fail
  refine (meaningOf_any sr n cr (fun i => f (n - 1 - i)) (backT t) w3 HP.out.2.1 R3.out (fun i hi => HP.out.2.2.1 _ (by omega))).mono ?_
  rintro r w4 ⟨sb, N, cb, B, g, rfl, hm⟩
  have HM : Hid (Meant w w4 (backT t) (atomsL (fun i => f (n - 1 - i)) n) sb N B g) := hm.since B3.out
  have A0 : Hid (Asks w (w4.alloc (.cells #[.slice sb N cb, .string (backT t), .map (some B)] 73)) (backT t) (atomsL g N) sb N cb B w4.heap.size (w4.heap.size + 1) g (.slice none 0 0) []) := asks_new HM.out 73
  have HLEN := HM.out.len
  have HEND : Hid (∀ (e : Nat) (v : Int), e ≤ t.size → Far (backT t) (atomsL g N) (t.size - e) v → (((t.size - e : Nat) : Int) < v ↔ p e = true)) := fun e v he hf => by
    rw [HQ.out e he]
    rw [HM.out.eq] at hf
    have hf2 := far_part hf
    rw [atomsL_rev] at hf2
    exact far_ends he hf2
  have HPART : Hid (∀ j, j < N → Parted (g j)) := HM.out.parted
  have hsz := back_size t
  clear hm B3 HM HQ R3
  generalize backT t = t1 at *
  go_wp2_with fail
  generalize w4.heap.size = q at *
  generalize w4.alloc (.cells #[.slice sb N cb, .string t1, .map (some B)] 73) = w5 at *
  go_loopw [6, 7] (fun v i wr => ∃ k : Nat, k ≤ t.size ∧ i = .int .i64 ((k + 1 : Nat) : Int) ∧ Asks w wr t1 (atomsL g N) sb N cb B q (q + 1) g v (classL p (k + 1))) (fun _ i _ => t.size + 1 - (intOf i).toNat)
  case atStart => exact ⟨0, Nat.zero_le _, rfl, by rw [HL0.out]; exact A0.out⟩
  case round =>
    obtain ⟨k1, hk, rfl, hask⟩ := hrel
    have HA : Hid (Asks w wr t1 (atomsL g N) sb N cb B q (q + 1) g u6 (classL p (k1 + 1))) := hask
    obtain ⟨_, hmemo, hrow, m0, m1, m2, _, _, _, _, _⟩ := hask
    obtain ⟨k, hk1⟩ : ∃ k, k1 + 1 = k := ⟨_, rfl⟩
    rw [hk1] at HA ⊢
    by_cases hkl : k ≤ t.size
    · have hki : (k : Int) ≤ (t.size : Int) := by omega
      obtain ⟨d, hd⟩ : ∃ d, t.size - k = d := ⟨_, rfl⟩
      have hdi : (t.size : Int) - (k : Int) = (d : Int) := by omega
      have C := from_any sb N cb B d t1 g wr HLEN (by omega) (by omega) HPART.out hmemo hrow
      clear hmemo hrow
      go_wp2_with fail
      refine C.mono ?_
      rintro r w4 ⟨v, rfl, hfar, hm4, ht4⟩
      have A4 : Hid (Asks w w4 t1 (atomsL g N) sb N cb B q (q + 1) g u6 (classL p k)) := HA.out.turn hm4 ht4
      have hiff := HEND.out k v hkl (by rw [hd]; exact hfar)
      rw [hd] at hiff
      have hlen := classL_len p k
      clear C hfar hm4 ht4 m0 m1 m2
      by_cases hv : (d : Int) < v
      · have HL : Hid (classL p (k + 1) = classL p k ++ [(k : Int)]) := classL_yes (hiff.1 hv)
        have hown := A4.out.own
        have hbs := A4.out.bs
        clear hiff
        go_wp2_with (at_builtin; refine wpList_append_own_at _ rfl (.tmp 37) (.tmp 39) 27 rfl (q + 1) 2 i0 (.int .i64 0) 1 8 Try.underlying27 hi hz0 hz1 hz2 rfl (by decide) _ _ _ rfl (hown.alloc _) ⟨w4.heap.size, 0, none⟩ 1 1 [.int .i64 (k : Int)] rfl rfl ?c1 ?c2 ?c3 ?c4 ?c5 ?_)
        case c1 => exact cell1_new w4 _ _
        case c2 => intro u hu; simp at hu; subst hu; rfl
        case c3 => unfold maxLen; omega
        case c4 => omega
        case c5 => first | omega | (simp <;> omega)
        intro v5 w5 hown5 hgrow5 _ _
        have A5 : Hid (Asks w w5 t1 (atomsL g N) sb N cb B q (q + 1) g v5 (classL p (k + 1))) := A4.out.grow ((World.grownBy_alloc _ _ _).trans hgrow5) (fun j e => (A4.out.own.lt j e).1) (by rw [HL.out, icells_append, List.length_append]; exact hown5)
        clear hown5 hgrow5 hown
        go_wp2_with fail
        go_roundw
        case rel => exact ⟨k, hkl, by go_num, A5.out⟩
        case measure => simp [intOf]; omega
      · have HL : Hid (classL p (k + 1) = classL p k) := classL_no (by cases h : p k with | false => rfl | true => exact absurd (hiff.2 h) hv)
        clear hiff
        go_wp2_with fail
        go_roundw
        case rel => exact ⟨k, hkl, by go_num, by rw [HL.out]; exact A4.out⟩
        case measure => simp [intOf]; omega
    · have hki : ¬ (k : Int) ≤ (t.size : Int) := by omega
      obtain rfl : k = t.size + 1 := by omega
      clear hmemo hrow m0 m1 m2
      go_wp2_with fail
      go_ret
      exact HA.out.new
theorem implEnds_no (sa : Option Addr) (n cap : Nat) (f : Nat → Atm) (t : ByteArray) (w : World) (hn : n ≤ maxLen) (hr : ARow w w.heap.size sa n f) (hc : ∀ i, i < n → (f i).c.size ≤ maxLen) (ht : t.size ≤ maxLen) (h : ¬ (t.size ≤ 8000 ∧ PatRight n f)) :
    Calls Try.prog 12 #[.slice sa n cap, .string t] w fun r w' => NewInts w 0 (fun _ => 0) r w' := by
  unfold maxLen at ht
  have NI : Hid (∀ W, Below w.heap.size w W → NewInts w 0 (fun _ => 0) (.returned (.slice none 0 0)) W) := fun W hb => ⟨none, 0, rfl, hb, Or.inl rfl⟩
  by_cases h8 : 8000 < (t.size : Int)
  · go_enter Try.func12, Try.ntmps12
    go_wp2_with fail
    go_ret
    exact NI.out _ (Below.refl _ _)
  have hP : ¬ PatRight n f := fun hp => h ⟨by omega, hp⟩
  have C := implPRight_no sa n cap f w hn hr hc hP
  clear hn hr hc hP h
  go_enter Try.func12, Try.ntmps12
  go_wp2_with fail
  refine C.mono ?_
  rintro r w1 ⟨rfl, hb1⟩
  have B1 : Hid (Below w.heap.size w w1) := hb1
  clear hb1 C
  go_wp2_with fail
  go_ret
  exact NI.out _ B1.out
end Go.Proofs.Ytfeolbgenpknfaa
