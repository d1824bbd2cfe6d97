/- What is proved here: spec.GetNum hands back what numOf tells; the law of GetNum walks to true. -/
import Derived.Test.YtpdedggnjcnpgaeDoorNumW
namespace Go.Proofs.YtpdedggnjcnpgaeDoor
open Go.RowKit

theorem sum_u (x c : Int) (k : Nat) (hx0 : 0 ≤ x) (hx : x < 2 ^ (7 * k)) (h0 : 0 ≤ c) (h1 : c < 256) (hk : k ≤ 8 ∨ (k = 9 ∧ c ≤ 1)) :
    IntKind.u64.wrap (x + IntKind.u64.wrap (c % 128 * 2 ^ (7 * k))) = x + c % 128 * 2 ^ (7 * k) ∧ 0 ≤ x + c % 128 * 2 ^ (7 * k) ∧ x + c % 128 * 2 ^ (7 * k) ≤ 18446744073709551615 := by
  have hpp := pow_pos' (7 * k)
  have hm0 : 0 ≤ c % 128 * 2 ^ (7 * k) := Int.mul_nonneg (by omega) (Int.le_of_lt hpp)
  have hle : x + c % 128 * 2 ^ (7 * k) ≤ 18446744073709551615 := by
    rcases hk with hk | ⟨rfl, hc⟩
    · have h56 : (2 : Int) ^ 56 = 72057594037927936 := by decide
      have hl := pow_le (7 * k) 56 (by omega)
      have hm : c % 128 * 2 ^ (7 * k) ≤ 127 * 2 ^ (7 * k) := Int.mul_le_mul_of_nonneg_right (by omega) (Int.le_of_lt hpp)
      omega
    · have h63 : (2 : Int) ^ (7 * 9) = 9223372036854775808 := by decide
      rw [h63] at *
      omega
  rw [IntKind.wrap_u64, IntKind.wrap_u64, show c % 128 * 2 ^ (7 * k) % 18446744073709551616 = c % 128 * 2 ^ (7 * k) from by omega]
  refine ⟨by omega, by omega, hle⟩
theorem next_lt (x c : Int) (k : Nat) (hx : x < 2 ^ (7 * k)) : x + c % 128 * 2 ^ (7 * k) < 2 ^ (7 * (k + 1)) := by
  have hpp := pow_pos' (7 * k)
  have hm : c % 128 * 2 ^ (7 * k) ≤ 127 * 2 ^ (7 * k) := Int.mul_le_mul_of_nonneg_right (by omega) (Int.le_of_lt hpp)
  have he : (2 : Int) ^ (7 * (k + 1)) = 2 ^ (7 * k) * 128 := by rw [Nat.mul_add, Int.pow_add]; rfl
  rw [he]
  omega
theorem fail_num {c : Int} {r : Int × Int × Int} (hr : (0, 0, c) = r) : numOut (0, 0, c) = numOut (unfoldOf r.1, r.2.1, r.2.2) := by
  subst hr
  rfl

theorem unfold_yes (y : Int) (h : y % 2 = 1) : -(y / 2) - 1 = unfoldOf y := by unfold unfoldOf; rw [if_pos h]
theorem unfold_no (y : Int) (h : ¬ y % 2 = 1) : y / 2 = unfoldOf y := by unfold unfoldOf; rw [if_neg h]
theorem good_num {k p : Nat} {x c y n : Int} {r : Int × Int × Int} (hr : lastU k (p + 1) x c = r) (g1 : ¬ (k = 9 ∧ 1 < c)) (g2 : ¬ (c = 0 ∧ 0 < k)) (h0 : 0 ≤ c) (h1 : c < 128) (hy : y = x + c % 128 * 2 ^ (7 * k)) (hn : n = unfoldOf y) :
    numOut (n, (p : Int) + 1, 0) = numOut (unfoldOf r.1, r.2.1, r.2.2) := by
  subst hr
  subst hn
  have e : c % 128 = c := by omega
  rw [e] at hy
  unfold lastU
  rw [if_neg g1, if_neg g2, hy]
  rfl
theorem bad_num {k p : Nat} {x c : Int} {r : Int × Int × Int} (hr : lastU k p x c = r) (g : (k = 9 ∧ 1 < c) ∨ (c = 0 ∧ 0 < k)) : numOut (0, 0, 3) = numOut (unfoldOf r.1, r.2.1, r.2.2) := by
  apply fail_num
  rw [← hr]
  unfold lastU
  by_cases h : k = 9 ∧ 1 < c
  · rw [if_pos h]
  · rw [if_neg h, if_pos (g.resolve_left h)]
set_option maxRecDepth 100000 in
set_option maxHeartbeats 4000000 in
theorem specGet_in (s : ByteArray) (a : Nat) (w : World) (h : s.size ≤ 8000) (ham : a ≤ 9223372036854775807) (r : Int × Int × Int) (hr : getU s 10 0 a 0 = r) :
    Calls Tryd.prog 7 #[.string s, .int .i64 a] w fun e w' => e = .returned (numOut (unfoldOf r.1, r.2.1, r.2.2)) ∧ Below w.heap.size w w' := by
  have HB : Hid (∀ o, Below w.heap.size w (w.alloc o)) := fun o => (Below.refl _ _).alloc (Nat.le_refl _) o
  go_enter Tryd.func7, Tryd.ntmps7
  go_wp2
  go_loop [5, 6] (fun u i => ∃ (k : Nat) (x : Int), k ≤ 10 ∧ u = .int .u64 x ∧ i = .int .i64 k ∧ 0 ≤ x ∧ x < 2 ^ (7 * k) ∧ (k ≠ 0 → a < s.size) ∧ getU s (10 - k) k (a + k) x = r) (fun _ i => 10 - (intOf i).toNat)
  case atStart => exact ⟨0, 0, by omega, rfl, rfl, by omega, by decide, fun h => absurd rfl h, hr⟩
  case round =>
    obtain ⟨k, x, hk, rfl, rfl, hx0, hx1, hk0, hR⟩ := hrel
    have HR : Hid (getU s (10 - k) k (a + k) x = r) := hR
    have HX : Hid (x < 2 ^ (7 * k)) := hx1
    clear hR hx1 hr hk0
    by_cases hk10 : k < 10
    · by_cases hp : a + k < s.size
      · obtain ⟨p, hp1⟩ : ∃ p, p = a + k := ⟨_, rfl⟩
        have hpk : (a : Int) + (k : Int) = (p : Int) := by omega
        have hps : p < s.size := by omega
        have HP : Hid (getU s (9 - k + 1) k p x = r) := by
          have := HR.out
          rw [← hp1, show 10 - k = 9 - k + 1 from by omega] at this
          exact this
        have HQ : Hid (p = a + k) := hp1
        have hle : (a : Int) < (s.size : Int) - (k : Int) := by omega
        clear hp1 HR hp
        have HL := getU_last s (9 - k) k p x hps
        have HT := getU_top s (9 - k) k p x hps
        have HM := getU_more s (9 - k) k p x hps
        have hSum := sum_u x (s[p].toNat : Int) k hx0 HX.out (by omega) (by have := s[p].toNat_lt; omega)
        have hNext := next_lt x (s[p].toNat : Int) k HX.out
        have H1 : Hid ((s[p].toNat : Int) < 128 → getU s (9 - k + 1) k p x = lastU k (p + 1) x (s[p].toNat : Int)) := HL
        have H2 : Hid (¬ (s[p].toNat : Int) < 128 → k = 9 → getU s (9 - k + 1) k p x = (0, 0, 3)) := HT
        have H3 : Hid (¬ (s[p].toNat : Int) < 128 → ¬ k = 9 → getU s (9 - k + 1) k p x = getU s (9 - k) (k + 1) (p + 1) (x + (s[p].toNat : Int) % 128 * 2 ^ (7 * k))) := HM
        have H4 : Hid (k ≤ 8 ∨ (k = 9 ∧ (s[p].toNat : Int) ≤ 1) → IntKind.u64.wrap (x + IntKind.u64.wrap ((s[p].toNat : Int) % 128 * 2 ^ (7 * k))) = x + (s[p].toNat : Int) % 128 * 2 ^ (7 * k) ∧ 0 ≤ x + (s[p].toNat : Int) % 128 * 2 ^ (7 * k) ∧ x + (s[p].toNat : Int) % 128 * 2 ^ (7 * k) ≤ 18446744073709551615) := hSum
        have H5 : Hid (x + (s[p].toNat : Int) % 128 * 2 ^ (7 * k) < 2 ^ (7 * (k + 1))) := hNext
        clear HL HT HM hSum hNext
        by_cases hk9 : k = 9
        · have hkb : ((k : Int) == 9) = true := by rw [hk9]; rfl
          have HK : Hid (k = 9) := hk9
          have hk1 : 1 ≤ k := by omega
          by_cases hc1 : 2 ≤ (s[p].toNat : Int)
          · have hbc : (s[p].toNat : Int) < 256 := by have := s[p].toNat_lt; omega
            have HF : Hid (numOut (0, 0, 3) = numOut (unfoldOf r.1, r.2.1, r.2.2)) := by
              by_cases hc : (s[p].toNat : Int) < 128
              · exact bad_num ((H1.out hc).symm.trans HP.out) (Or.inl ⟨hk9, by omega⟩)
              · exact fail_num ((H2.out hc hk9).symm.trans HP.out)
            clear hk9
            go_wp2
            exact bodyPost_ret (v := numOut (0, 0, 3)) (by simp [results, Tryd.results7, go_sem, numOut]) rfl ⟨congrArg Ending.returned (HF.out), HB.out _⟩
          · have hc2 : (s[p].toNat : Int) ≤ 1 := by omega
            have hor : k ≤ 8 ∨ (k = 9 ∧ (s[p].toNat : Int) ≤ 1) := Or.inr ⟨hk9, hc2⟩
            obtain ⟨y, hyd⟩ : ∃ y, y = x + (s[p].toNat : Int) % 128 * 2 ^ (7 * k) := ⟨_, rfl⟩
            have hS := H4.out (hor)
            have HN := H5.out
            have HM := H3.out
            rw [← hyd] at hS HN HM
            obtain ⟨hy, hy0, hy1⟩ := hS
            have H5' : Hid (y < 2 ^ (7 * (k + 1))) := HN
            have H3' : Hid (¬ (s[p].toNat : Int) < 128 → ¬ k = 9 → getU s (9 - k + 1) k p x = getU s (9 - k) (k + 1) (p + 1) y) := HM
            have HY : Hid (y = x + (s[p].toNat : Int) % 128 * 2 ^ (7 * k)) := hyd
            clear hyd HN HM H4 H5 H3 H2 hor hk9
            by_cases hc : (s[p].toNat : Int) < 128
            · have HV : Hid (lastU k (p + 1) x (s[p].toNat : Int) = r) := (H1.out hc).symm.trans HP.out
              by_cases hz : (s[p].toNat : Int) ≤ 0 ∧ 1 ≤ k
              · obtain ⟨hz1, hz2⟩ := hz
                have hzb : ((s[p].toNat : Int) == 0) = true := by simp; omega
                have HZ : Hid ((k = 9 ∧ 1 < (s[p].toNat : Int)) ∨ ((s[p].toNat : Int) = 0 ∧ 0 < k)) := Or.inr ⟨by omega, by omega⟩
                go_wp2
                exact bodyPost_ret (v := numOut (0, 0, 3)) (by simp [results, Tryd.results7, go_sem, numOut]) rfl ⟨congrArg Ending.returned (bad_num HV.out HZ.out), HB.out _⟩
              · have HZ1 : Hid (¬ (k = 9 ∧ 1 < (s[p].toNat : Int))) := fun hh => by omega
                have HZ2 : Hid (¬ ((s[p].toNat : Int) = 0 ∧ 0 < k)) := fun hh => hz ⟨by omega, by omega⟩
                by_cases hpar : y % 2 = 1
                · have hpb : (y % 2 == 1) = true := by simpa using hpar
                  have HPa : Hid (y % 2 = 1) := hpar
                  clear hpar
                  by_cases hz1 : (s[p].toNat : Int) ≤ 0
                  · omega
                  · have hzb : ((s[p].toNat : Int) == 0) = false := by simp; omega
                    go_wp2
                    exact bodyPost_ret (v := numOut (-(y / 2) - 1, (p : Int) + 1, 0)) (by simp [results, Tryd.results7, go_sem, numOut]) rfl ⟨congrArg Ending.returned (good_num HV.out HZ1.out HZ2.out (by omega) hc HY.out (unfold_yes y HPa.out)), HB.out _⟩
                · have hpb : (y % 2 == 1) = false := by simpa using hpar
                  have HPa : Hid (¬ y % 2 = 1) := hpar
                  clear hpar
                  by_cases hz1 : (s[p].toNat : Int) ≤ 0
                  · omega
                  · have hzb : ((s[p].toNat : Int) == 0) = false := by simp; omega
                    go_wp2
                    exact bodyPost_ret (v := numOut (y / 2, (p : Int) + 1, 0)) (by simp [results, Tryd.results7, go_sem, numOut]) rfl ⟨congrArg Ending.returned (good_num HV.out HZ1.out HZ2.out (by omega) hc HY.out (unfold_no y HPa.out)), HB.out _⟩
            · exact absurd hc (by omega)
        · have hkb : ((k : Int) == 9) = false := by simp; omega
          have HK : Hid (¬ k = 9) := hk9
          have hk8 : k ≤ 8 := by omega
          clear hk9
          obtain ⟨y, hyd⟩ : ∃ y, y = x + (s[p].toNat : Int) % 128 * 2 ^ (7 * k) := ⟨_, rfl⟩
          have hS := H4.out (Or.inl hk8)
          have HN := H5.out
          have HM := H3.out
          rw [← hyd] at hS HN HM
          obtain ⟨hy, hy0, hy1⟩ := hS
          have H5' : Hid (y < 2 ^ (7 * (k + 1))) := HN
          have H3' : Hid (¬ (s[p].toNat : Int) < 128 → ¬ k = 9 → getU s (9 - k + 1) k p x = getU s (9 - k) (k + 1) (p + 1) y) := HM
          have HY : Hid (y = x + (s[p].toNat : Int) % 128 * 2 ^ (7 * k)) := hyd
          clear hyd HN HM H4 H5 H3 H2
          by_cases hc : (s[p].toNat : Int) < 128
          · have HV : Hid (lastU k (p + 1) x (s[p].toNat : Int) = r) := (H1.out hc).symm.trans HP.out
            by_cases hz : (s[p].toNat : Int) ≤ 0 ∧ 1 ≤ k
            · obtain ⟨hz1, hz2⟩ := hz
              have hzb : ((s[p].toNat : Int) == 0) = true := by simp; omega
              have HZ : Hid ((k = 9 ∧ 1 < (s[p].toNat : Int)) ∨ ((s[p].toNat : Int) = 0 ∧ 0 < k)) := Or.inr ⟨by omega, by omega⟩
              go_wp2
              exact bodyPost_ret (v := numOut (0, 0, 3)) (by simp [results, Tryd.results7, go_sem, numOut]) rfl ⟨congrArg Ending.returned (bad_num HV.out HZ.out), HB.out _⟩
            · have HZ1 : Hid (¬ (k = 9 ∧ 1 < (s[p].toNat : Int))) := fun hh => HK.out hh.1
              have HZ2 : Hid (¬ ((s[p].toNat : Int) = 0 ∧ 0 < k)) := fun hh => hz ⟨by omega, by omega⟩
              by_cases hpar : y % 2 = 1
              · have hpb : (y % 2 == 1) = true := by simpa using hpar
                have HPa : Hid (y % 2 = 1) := hpar
                clear hpar
                by_cases hz1 : (s[p].toNat : Int) ≤ 0
                · have hk00 : k ≤ 0 := by omega
                  have hzb : ((s[p].toNat : Int) == 0) = true := by simp; omega
                  go_wp2
                  exact bodyPost_ret (v := numOut (-(y / 2) - 1, (p : Int) + 1, 0)) (by simp [results, Tryd.results7, go_sem, numOut]) rfl ⟨congrArg Ending.returned (good_num HV.out HZ1.out HZ2.out (by omega) hc HY.out (unfold_yes y HPa.out)), HB.out _⟩
                · have hzb : ((s[p].toNat : Int) == 0) = false := by simp; omega
                  go_wp2
                  exact bodyPost_ret (v := numOut (-(y / 2) - 1, (p : Int) + 1, 0)) (by simp [results, Tryd.results7, go_sem, numOut]) rfl ⟨congrArg Ending.returned (good_num HV.out HZ1.out HZ2.out (by omega) hc HY.out (unfold_yes y HPa.out)), HB.out _⟩
              · have hpb : (y % 2 == 1) = false := by simpa using hpar
                have HPa : Hid (¬ y % 2 = 1) := hpar
                clear hpar
                by_cases hz1 : (s[p].toNat : Int) ≤ 0
                · have hk00 : k ≤ 0 := by omega
                  have hzb : ((s[p].toNat : Int) == 0) = true := by simp; omega
                  go_wp2
                  exact bodyPost_ret (v := numOut (y / 2, (p : Int) + 1, 0)) (by simp [results, Tryd.results7, go_sem, numOut]) rfl ⟨congrArg Ending.returned (good_num HV.out HZ1.out HZ2.out (by omega) hc HY.out (unfold_no y HPa.out)), HB.out _⟩
                · have hzb : ((s[p].toNat : Int) == 0) = false := by simp; omega
                  go_wp2
                  exact bodyPost_ret (v := numOut (y / 2, (p : Int) + 1, 0)) (by simp [results, Tryd.results7, go_sem, numOut]) rfl ⟨congrArg Ending.returned (good_num HV.out HZ1.out HZ2.out (by omega) hc HY.out (unfold_no y HPa.out)), HB.out _⟩
          · have H3c : Hid (getU s (9 - k) (k + 1) (p + 1) y = r) := (H3'.out hc HK.out).symm.trans HP.out
            have hbc : (s[p].toNat : Int) < 256 := by have := s[p].toNat_lt; omega
            clear H3'
            go_wp2
            go_round
            case rel => exact ⟨k + 1, y, by omega, rfl, by go_num, hy0, H5'.out, fun _ => by omega, by rw [show 10 - (k + 1) = 9 - k from by omega, show a + (k + 1) = p + 1 from by have := HQ.out; omega]; exact H3c.out⟩
            case measure => simp [intOf]; omega
      · have hp' : s.size ≤ a + k := by omega
        go_wp2
        refine bodyPost_ret (v := numOut (0, 0, 4)) (by simp [results, Tryd.results7, go_sem, numOut]) rfl ⟨congrArg Ending.returned (fail_num ?_), HB.out _⟩
        have := HR.out
        rw [show 10 - k = 9 - k + 1 from by omega, getU_short s _ k (a + k) x hp] at this
        exact this
    · go_wp2
      refine bodyPost_ret (v := numOut (0, 0, 3)) (by simp [results, Tryd.results7, go_sem, numOut]) rfl ⟨congrArg Ending.returned (fail_num ?_), HB.out _⟩
      have := HR.out
      rw [show 10 - k = 0 from by omega] at this
      exact this

set_option maxHeartbeats 1000000 in
theorem specGet_big (s : ByteArray) (a : Int) (w : World) (hs : s.size ≤ maxLen) (h : 8000 < s.size) :
    Calls Tryd.prog 7 #[.string s, .int .i64 a] w fun e w' => e = .returned (numOut (0, 0, 2)) ∧ Below w.heap.size w w' := by
  unfold maxLen at hs
  go_enter Tryd.func7, Tryd.ntmps7
  go_wp2
  exact bodyPost_ret (v := numOut (0, 0, 2)) (by simp [results, Tryd.results7, go_sem, numOut]) rfl ⟨rfl, (Below.refl _ _).alloc (Nat.le_refl _) _⟩
set_option maxHeartbeats 1000000 in
theorem specGet_neg (s : ByteArray) (a : Int) (w : World) (h : s.size ≤ 8000) (ha : a < 0) :
    Calls Tryd.prog 7 #[.string s, .int .i64 a] w fun e w' => e = .returned (numOut (0, 0, 1)) ∧ Below w.heap.size w w' := by
  go_enter Tryd.func7, Tryd.ntmps7
  go_wp2
  exact bodyPost_ret (v := numOut (0, 0, 1)) (by simp [results, Tryd.results7, go_sem, numOut]) rfl ⟨rfl, (Below.refl _ _).alloc (Nat.le_refl _) _⟩
theorem specGet_any (s : ByteArray) (a : Int) (w : World) (hs : s.size ≤ maxLen) (ha1 : a ≤ 9223372036854775807) :
    Calls Tryd.prog 7 #[.string s, .int .i64 a] w fun e w' => e = .returned (numOut (numOf s a)) ∧ Below w.heap.size w w' := by
  unfold numOf
  by_cases h : 8000 < s.size
  · rw [if_pos h]
    exact specGet_big s a w hs h
  · rw [if_neg h]
    by_cases ha : a < 0
    · rw [if_pos ha]
      exact specGet_neg s a w (by omega) ha
    · rw [if_neg ha]
      obtain ⟨n, rfl⟩ := Int.eq_ofNat_of_zero_le (show 0 ≤ a by omega)
      exact specGet_in s n w (by omega) (by omega) _ rfl
end Go.Proofs.YtpdedggnjcnpgaeDoor
