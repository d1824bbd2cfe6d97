/- What is proved here: the specification's LeastLen and MostLen hand back how long a text of a right pattern is at least, and at most; nothing that was there turns.
   What is proved here: the specification's Reverse hands back, of a right pattern, its atoms the other way round in new memory, else none; nothing that was there turns. -/
import Derived.Test.YtfeolbgenpknfaaQSpecPYesWToIntRowW
import Derived.Test.YtfeolbgenpknfaaQBackMToBytesRowW
import Derived.Test.YtfeolbgenpknfaaQAtomSToDrawPatW
namespace Go.Proofs.Ytfeolbgenpknfaa
open Go.RowKit

theorem specLeast_no (sa : Option Addr) (n cap : Nat) (f : Nat → Atm) (w : World) (hn : n ≤ maxLen) (hr : ARow w w.heap.size sa n f) (hc : ∀ i, i < n → (f i).c.size ≤ maxLen) (h : ¬ PatRight n f) :
    Calls Try.prog 25 #[.slice sa n cap] w fun e w' => e = .returned (.int .i64 (-1)) ∧ Below w.heap.size w w' := by
  have HP := specPRight_no sa n cap f w hn hr hc h
  have HQ : Hid (Calls Try.prog 23 #[.slice sa n cap] w fun e w' => e = .returned (.bool false) ∧ Below w.heap.size w w') := HP
  clear HP hn hr hc h
  go_enter Try.func25, Try.ntmps25
  go_wp2_with fail
  refine HQ.out.mono ?_
  rintro e w1 ⟨rfl, hb⟩
  have B1 : Hid (Below w.heap.size w w1) := hb
  clear hb
  go_wp2_with fail
  go_ret
  exact ⟨rfl, B1.out⟩
set_option maxRecDepth 100000 in
set_option maxHeartbeats 2000000 in
theorem specLeast_yes (sa : Option Addr) (n cap : Nat) (f : Nat → Atm) (w : World) (hn : n ≤ maxLen) (hr : ARow w w.heap.size sa n f) (hc : ∀ i, i < n → (f i).c.size ≤ maxLen) (h : PatRight n f) :
    Calls Try.prog 25 #[.slice sa n cap] w fun e w' => e = .returned (.int .i64 (leastOf n f)) ∧ Below w.heap.size w w' := by
  have HP := specPRight_yes sa n cap f w hn hr hc h
  have HQ : Hid (Calls Try.prog 23 #[.slice sa n cap] w fun e w' => e = .returned (.bool true) ∧ Below w.heap.size w w') := HP
  have HR : Hid (ARow w w.heap.size sa n f) := hr
  have HH : Hid (PatRight n f) := h
  have hn20 := h.2.1
  clear HP hn hr hc h
  go_enter Try.func25, Try.ntmps25
  go_wp2_with fail
  refine HQ.out.mono ?_
  rintro e w1 ⟨rfl, hb⟩
  have B1 : Hid (Below w.heap.size w w1) := hb
  clear hb HQ
  go_wp2_with fail
  go_loopw [3, 4] (fun s i wr => ∃ k : Nat, k ≤ n ∧ i = .int .i64 (k : Int) ∧ s = .int .i64 (sumTo (fun i => (f i).l) k) ∧ Below w.heap.size w wr) (fun _ i _ => n - (intOf i).toNat)
  case atStart => exact ⟨0, Nat.zero_le _, rfl, rfl, B1.out⟩
  case round =>
    obtain ⟨k, hk, rfl, rfl, hbel⟩ := hrel
    have HB : Hid (Below w.heap.size w wr) := hbel
    have hS := sumTo_bd (g := fun i => (f i).l) (b := 20) (by omega) k (fun i hi => by have := HH.out.2.2.1 i (by omega); exact ⟨this.2.2.1, this.2.2.2.1⟩)
    have HSS : Hid (sumTo (fun i => (f i).l) (k + 1) = sumTo (fun i => (f i).l) k + (f k).l) := rfl
    generalize hS0 : sumTo (fun i => (f i).l) k = S at *
    have HS0 : Hid (sumTo (fun i => (f i).l) k = S) := hS0
    clear hS0
    by_cases hkl : k < n
    · obtain ⟨bb, off, rfl, hbb, hat⟩ := HR.out.at hbel hkl
      obtain ⟨c0, c1, c2⟩ := hat
      have hA := HH.out.2.2.1 k hkl
      clear hbel
      have hki : (k : Int) < (n : Int) := by omega
      have hk0 : (0 : Int) ≤ (k : Int) := by omega
      obtain ⟨⟨ac, al, am⟩, ha⟩ : ∃ a, f k = a := ⟨_, rfl⟩
      have HF : Hid (f k = ⟨ac, al, am⟩) := ha
      rw [ha] at c0 c1 c2 HSS hA
      simp only at c0 c1 c2 HSS
      clear ha
      obtain ⟨_, _, ha3, ha4, ha5⟩ := hA
      simp only at ha3 ha4 ha5
      go_wp2_with fail
      go_roundw
      case rel => exact ⟨k + 1, by omega, by go_num, by rw [HSS.out], HB.out⟩
      case measure => simp [intOf]; omega
    · have hki : ¬ (k : Int) < (n : Int) := by omega
      obtain rfl : k = n := by omega
      clear hbel
      go_wp2_with fail
      go_ret
      exact ⟨by unfold leastOf; rw [HS0.out]; rfl, HB.out⟩
theorem specMost_no (sa : Option Addr) (n cap : Nat) (f : Nat → Atm) (w : World) (hn : n ≤ maxLen) (hr : ARow w w.heap.size sa n f) (hc : ∀ i, i < n → (f i).c.size ≤ maxLen) (h : ¬ PatRight n f) :
    Calls Try.prog 26 #[.slice sa n cap] w fun e w' => e = .returned (.int .i64 (-1)) ∧ Below w.heap.size w w' := by
  have HP := specPRight_no sa n cap f w hn hr hc h
  have HQ : Hid (Calls Try.prog 23 #[.slice sa n cap] w fun e w' => e = .returned (.bool false) ∧ Below w.heap.size w w') := HP
  clear HP hn hr hc h
  go_enter Try.func26, Try.ntmps26
  go_wp2_with fail
  refine HQ.out.mono ?_
  rintro e w1 ⟨rfl, hb⟩
  have B1 : Hid (Below w.heap.size w w1) := hb
  clear hb
  go_wp2_with fail
  go_ret
  exact ⟨rfl, B1.out⟩
set_option maxRecDepth 100000 in
set_option maxHeartbeats 2000000 in
theorem specMost_yes (sa : Option Addr) (n cap : Nat) (f : Nat → Atm) (w : World) (hn : n ≤ maxLen) (hr : ARow w w.heap.size sa n f) (hc : ∀ i, i < n → (f i).c.size ≤ maxLen) (h : PatRight n f) :
    Calls Try.prog 26 #[.slice sa n cap] w fun e w' => e = .returned (.int .i64 (mostOf n f)) ∧ Below w.heap.size w w' := by
  have HP := specPRight_yes sa n cap f w hn hr hc h
  have HQ : Hid (Calls Try.prog 23 #[.slice sa n cap] w fun e w' => e = .returned (.bool true) ∧ Below w.heap.size w w') := HP
  have HR : Hid (ARow w w.heap.size sa n f) := hr
  have HH : Hid (PatRight n f) := h
  have hn20 := h.2.1
  clear HP hn hr hc h
  go_enter Try.func26, Try.ntmps26
  go_wp2_with fail
  refine HQ.out.mono ?_
  rintro e w1 ⟨rfl, hb⟩
  have B1 : Hid (Below w.heap.size w w1) := hb
  clear hb HQ
  go_wp2_with fail
  go_loopw [3, 4] (fun s i wr => ∃ k : Nat, k ≤ n ∧ i = .int .i64 (k : Int) ∧ s = .int .i64 (sumTo (fun i => (f i).m) k) ∧ Below w.heap.size w wr ∧ ∀ i, i < k → (f i).m ≠ -1) (fun _ i _ => n - (intOf i).toNat)
  case atStart => exact ⟨0, Nat.zero_le _, rfl, rfl, B1.out, fun i hi => by omega⟩
  case round =>
    obtain ⟨k, hk, rfl, rfl, hbel, hnm⟩ := hrel
    have HB : Hid (Below w.heap.size w wr) := hbel
    have HN : Hid (∀ i, i < k → (f i).m ≠ -1) := hnm
    have hS := sumTo_bd (g := fun i => (f i).m) (b := 20) (by omega) k (fun i hi => by have := HH.out.2.2.1 i (by omega); have h5 := this.2.2.2.2; have := hnm i hi; omega)
    clear hnm
    have HSS : Hid (sumTo (fun i => (f i).m) (k + 1) = sumTo (fun i => (f i).m) k + (f k).m) := rfl
    generalize hS0 : sumTo (fun i => (f i).m) k = S at *
    have HS0 : Hid (sumTo (fun i => (f i).m) k = S) := hS0
    clear hS0
    by_cases hkl : k < n
    · obtain ⟨bb, off, rfl, hbb, hat⟩ := HR.out.at hbel hkl
      obtain ⟨c0, c1, c2⟩ := hat
      have hA := HH.out.2.2.1 k hkl
      clear hbel
      have hki : (k : Int) < (n : Int) := by omega
      have hk0 : (0 : Int) ≤ (k : Int) := by omega
      obtain ⟨⟨ac, al, am⟩, ha⟩ : ∃ a, f k = a := ⟨_, rfl⟩
      have HF : Hid (f k = ⟨ac, al, am⟩) := ha
      rw [ha] at c0 c1 c2 HSS hA
      simp only at c0 c1 c2 HSS
      clear ha
      obtain ⟨_, _, ha3, ha4, ha5⟩ := hA
      simp only at ha3 ha4 ha5
      by_cases hm : am = -1
      · subst hm
        have HM : Hid (∃ i, i < n ∧ (f i).m = -1) := ⟨k, hkl, by rw [HF.out]⟩
        go_wp2_with fail
        go_ret
        exact ⟨by rw [most_none HM.out]; rfl, HB.out⟩
      · have hm1 : ¬ am < 0 := by omega
        have hm2 : (am == -1) = false := by simpa using hm
        go_wp2_with fail
        go_roundw
        case rel => exact ⟨k + 1, by omega, by go_num, by rw [HSS.out], HB.out, fun i hi => by
          by_cases e : i = k
          · rw [e, HF.out]; exact hm
          · exact HN.out i (by omega)⟩
        case measure => simp [intOf]; omega
    · have hki : ¬ (k : Int) < (n : Int) := by omega
      obtain rfl : k = n := by omega
      clear hbel
      go_wp2_with fail
      go_ret
      exact ⟨by rw [most_some HN.out, HS0.out]; rfl, HB.out⟩
end Go.Proofs.Ytfeolbgenpknfaa
namespace Go.Proofs.Ytfeolbgenpknfaa
open Go.RowKit

set_option maxRecDepth 100000 in
set_option maxHeartbeats 2000000 in
theorem specRev_no (sa : Option Addr) (n cap : Nat) (f : Nat → Atm) (w : World) (hn : n ≤ 1048576) (hr : ARow w w.heap.size sa n f) (hc : ∀ i, i < n → (f i).c.size ≤ maxLen) (h : ¬ PatRight n f) :
    Calls Try.prog 24 #[.slice sa n cap] w fun e w' => NewAtoms w 0 f e w' := by
  have hn' : n ≤ maxLen := by unfold maxLen; omega
  have HP : Hid (∀ W, ARow W W.heap.size sa n f → Calls Try.prog 23 #[.slice sa n cap] W fun e w' => e = .returned (.bool false) ∧ Below W.heap.size W w') := fun W hW => specPRight_no sa n cap f W hn' hW hc h
  have HR : Hid (ARow w w.heap.size sa n f) := hr
  clear hn' hr hc h
  have BX : Hid (Below w.heap.size w (w.alloc (.cells #[] 89))) := (Below.refl _ _).alloc (Nat.le_refl _) _
  have HO : Hid ((w.alloc (.cells #[] 89)).ownsRow w.heap.size 89 3 (.slice (some ⟨w.heap.size, 0, none⟩) 0 0) 0 []) := owns_start w w.heap.size (Nat.le_refl _) #[] rfl
  go_enter Try.func24, Try.ntmps24
  go_wp2_with fail
  go_loopw [3, 4] (fun v i wr => v = .slice (some ⟨w.heap.size, 0, none⟩) 0 0 ∧ i = .int .i64 ((n : Int) - 1) ∧ wr = w.alloc (.cells #[] 89)) (fun _ _ _ => 0)
  case atStart => exact ⟨rfl, rfl, rfl⟩
  case round =>
    obtain ⟨rfl, rfl, rfl⟩ := hrel
    by_cases h0 : 0 ≤ (n : Int) - 1
    · generalize w.alloc (.cells #[] 89) = v at *
      go_wp2_with fail
      refine (HP.out _ (HR.out.late BX.out)).mono ?_
      rintro e w1 ⟨rfl, hb⟩
      have B1 : Hid (Below w.heap.size w w1) := BX.out.trans (hb.mono BX.out.size)
      have O1 : Hid (w1.ownsRow w.heap.size 89 3 (.slice (some ⟨w.heap.size, 0, none⟩) 0 0) 0 []) := owns_below HO.out hb rfl
      clear hb
      go_wp2_with fail
      go_ret
      exact new_of_owns (n := 0) O1.out B1.out
    · go_wp2_with fail
      go_ret
      exact new_of_owns (n := 0) HO.out BX.out

set_option maxRecDepth 100000 in
set_option maxHeartbeats 4000000 in
theorem specRev_yes (sa : Option Addr) (n cap : Nat) (f : Nat → Atm) (w : World) (hn : n ≤ 1048576) (hr : ARow w w.heap.size sa n f) (hc : ∀ i, i < n → (f i).c.size ≤ maxLen) (h : PatRight n f) :
    Calls Try.prog 24 #[.slice sa n cap] w fun e w' => NewAtoms w n (fun i => f (n - 1 - i)) e w' := by
  obtain ⟨i0, hi, hz0, hz1, hz2⟩ := info_parts Try.atomInfo
  have hn' : n ≤ maxLen := by unfold maxLen; omega
  have HP : Hid (∀ W, ARow W W.heap.size sa n f → Calls Try.prog 23 #[.slice sa n cap] W fun e w' => e = .returned (.bool true) ∧ Below W.heap.size W w') := fun W hW => specPRight_yes sa n cap f W hn' hW hc h
  have HR : Hid (ARow w w.heap.size sa n f) := hr
  have hn20 := h.2.1
  have hn1 := h.1
  clear hn' hr hc h
  have BX : Hid (Below w.heap.size w (w.alloc (.cells #[] 89))) := (Below.refl _ _).alloc (Nat.le_refl _) _
  have HO : Hid ((w.alloc (.cells #[] 89)).ownsRow w.heap.size 89 3 (.slice (some ⟨w.heap.size, 0, none⟩) 0 0) 0 []) := owns_start w w.heap.size (Nat.le_refl _) #[] rfl
  go_enter Try.func24, Try.ntmps24
  go_wp2_with fail
  go_loopw [3, 4] (fun v i wr => ∃ k : Nat, k ≤ n ∧ i = .int .i64 ((n : Int) - 1 - (k : Int)) ∧ wr.ownsRow w.heap.size 89 3 v k (acells (fun i => f (n - 1 - i)) k) ∧ Below w.heap.size w wr) (fun _ i _ => (intOf i + 1).toNat)
  case atStart => exact ⟨0, Nat.zero_le _, by simp, HO.out, BX.out⟩
  case round =>
    obtain ⟨k, hk, rfl, hown, hbel⟩ := hrel
    have HB : Hid (Below w.heap.size w wr) := hbel
    have HW : Hid (wr.ownsRow w.heap.size 89 3 u3 k (acells (fun i => f (n - 1 - i)) k)) := hown
    clear hbel hown
    by_cases hkl : k < n
    · have h0 : 0 ≤ (n : Int) - 1 - (k : Int) := by omega
      obtain ⟨q, hq⟩ : ∃ q : Nat, n - 1 - k = q := ⟨_, rfl⟩
      have hqi : (n : Int) - 1 - (k : Int) = (q : Int) := by omega
      have hqn : q < n := by omega
      have HQ : Hid (n - 1 - k = q) := hq
      rw [hqi] at h0 ⊢
      have HQI : Hid ((n : Int) - 1 - (k : Int) = (q : Int)) := hqi
      clear hq hqi
      have hqn' : (q : Int) < (n : Int) := by omega
      go_wp2_with fail
      refine (HP.out _ (HR.out.late HB.out)).mono ?_
      rintro e w1 ⟨rfl, hb⟩
      have B1 : Hid (Below w.heap.size w w1) := HB.out.trans (hb.mono HB.out.size)
      have hown1 := owns_below HW.out hb rfl
      have O1 : Hid (w1.ownsRow w.heap.size 89 3 u3 k (acells (fun i => f (n - 1 - i)) k)) := hown1
      obtain ⟨bb, off, rfl, hbb, hat⟩ := HR.out.at B1.out hqn
      obtain ⟨c0, c1, c2⟩ := hat
      obtain ⟨⟨ac, al, am⟩, ha⟩ : ∃ a, f q = a := ⟨_, rfl⟩
      have HF : Hid (f q = ⟨ac, al, am⟩) := ha
      rw [ha] at c0 c1 c2
      simp only at c0 c1 c2
      have hsz := B1.out.size
      clear hb ha HW
      go_wp2_with (at_builtin; refine wpList_append_own _ rfl (.tmp 17) (.tmp 22) 23 rfl w.heap.size 89 i0 (.agg #[.string ⟨#[]⟩, .int .i64 0, .int .i64 0]) 3 32 Try.underlying23 hi hz0 hz1 hz2 rfl (by decide) _ _ _ rfl (hown1.alloc _) ⟨w1.heap.size, 0, none⟩ 1 1 [.string ac, .int .i64 al, .int .i64 am] rfl rfl ?c1 ?c2 ?c3 ?c4 ?c5 ?_)
      case c1 =>
        intro j u hu
        match j, hu with
        | 0, hu => simp at hu; subst hu; simp [Addr.add]
        | 1, hu => simp at hu; subst hu; simp [Addr.add]
        | 2, hu => simp at hu; subst hu; simp [Addr.add]
        | j + 3, hu => simp at hu
      case c2 => intro u hu; simp at hu; rcases hu with rfl | rfl | rfl <;> rfl
      case c3 => unfold maxLen; omega
      case c4 => omega
      case c5 => simp <;> omega
      intro v' w2 hown2 hgrow _
      have hg3 : w1.grownBy w2 u3.ownBlock := (World.grownBy_alloc w1 _ u3.ownBlock).trans hgrow
      have HW2 : Hid (Below w.heap.size w w2) := B1.out.trans ⟨hg3.os, hg3.tape, hg3.output, hg3.size, fun j hj => hg3.block j (by omega) (fun e => by have := (O1.out.lt j e.symm).1; omega)⟩
      have HO2 : Hid (w2.ownsRow w.heap.size 89 3 v' (k + 1) (acells (fun i => f (n - 1 - i)) (k + 1))) := by
        show w2.ownsRow w.heap.size 89 3 v' (k + 1) (acells (fun i => f (n - 1 - i)) k ++ [.string (f (n - 1 - k)).c, .int .i64 (f (n - 1 - k)).l, .int .i64 (f (n - 1 - k)).m])
        rw [HQ.out, HF.out]
        exact hown2
      clear hown2 hgrow hg3 hown1
      go_wp2_with fail
      go_roundw
      case rel =>
        refine ⟨k + 1, by omega, ?_, HO2.out, HW2.out⟩
        congr 1
        have := HQI.out
        omega
      case measure =>
        have := HQI.out
        simp [intOf] <;> omega
    · obtain rfl : k = n := by omega
      have h0 : ¬ 0 ≤ (k : Int) - 1 - (k : Int) := by omega
      go_wp2_with fail
      go_ret
      exact new_of_owns HW.out HB.out
end Go.Proofs.Ytfeolbgenpknfaa
