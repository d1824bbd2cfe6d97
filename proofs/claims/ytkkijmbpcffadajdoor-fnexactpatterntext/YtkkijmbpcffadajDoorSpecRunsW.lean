/- What is proved here: the specification's l04Runs, l04Class and ClassText; nothing that was there turns. -/
import Derived.Test.YtkkijmbpcffadajDoorSpecByteW
import Derived.Test.YtkkijmbpcffadajDoorL03NotW
import Derived.Test.YtkkijmbpcffadajDoorPatNone
import Derived.Test.YtkkijmbpcffadajDoorClassAlg
namespace Go.Proofs.YtkkijmbpcffadajDoor
open Go.RowKit

theorem run_one {c : ByteArray} {k e : Nat} (h : k < c.size) (he : e = k + 1) : oneRun c k e = byteL c[k].toNat := by
  unfold oneRun
  rw [get_of h, if_neg (by omega), if_neg (by omega)]
  simp
theorem run_two {c : ByteArray} {k e l : Nat} (h : k < c.size) (hl : l < c.size) (he : e = k + 2) (hle : l = e - 1) : oneRun c k e = byteL c[k].toNat ++ byteL c[l].toNat := by
  subst hle
  unfold oneRun
  rw [get_of h, get_of hl, if_neg (by omega), if_pos (by omega)]
  simp
theorem run_more {c : ByteArray} {k e l : Nat} (h : k < c.size) (hl : l < c.size) (he : k + 2 < e) (hle : l = e - 1) : oneRun c k e = (byteL c[k].toNat ++ [45]) ++ byteL c[l].toNat := by
  subst hle
  unfold oneRun
  rw [get_of h, get_of hl, if_pos he, if_pos (by omega)]

set_option maxRecDepth 100000 in
set_option maxHeartbeats 8000000 in
theorem l04Runs_any (c : ByteArray) (w : World) (hc : c.size ≤ 256) :
    Calls Tryd.prog 36 #[.string c] w fun e w' => e = .returned (.string (strOfNums (runs c 0))) ∧ Below w.heap.size w w' := by
  have HRL : Hid ((runs c 0).length ≤ 9 * (c.size - 0)) := runs_len c _ 0 (Nat.le_refl _)
  go_enter Tryd.func36, Tryd.ntmps36
  go_wp2
  go_loopw [3, 4] (fun t x wr => ∃ (i : Nat) (M : List Int), i ≤ c.size ∧ x = .int .i64 (i : Int) ∧ t = .string (strOfNums M) ∧ M ++ runs c i = runs c 0 ∧ Below w.heap.size w wr) (fun _ x _ => c.size - (intOf x).toNat)
  case atStart => exact ⟨0, [], Nat.zero_le _, rfl, rfl, rfl, Below.refl _ _⟩
  case round =>
    obtain ⟨i, M, hi, rfl, rfl, hM, hbel⟩ := hrel
    have HB : Hid (Below w.heap.size w wr) := hbel
    have HM : Hid (M ++ runs c i = runs c 0) := hM
    have hML : (strOfNums M).size ≤ 2400 := by
      rw [strOfNums_size]
      have h1 := congrArg List.length hM
      rw [List.length_append] at h1
      have := HRL.out
      omega
    clear hbel hM
    by_cases hlt : i < c.size
    · have hlt' : (i : Int) < (c.size : Int) := by omega
      have hi0 : (0 : Int) ≤ (i : Int) := by omega
      have HS : Hid (runs c i = oneRun c i (runE c (i + 1)) ++ runs c (runE c (i + 1))) := runs_some hlt
      have hg : Hid (i < runE c (i + 1)) := run_gt c i
      have hle : Hid (runE c (i + 1) ≤ c.size) := runE_le c _ (i + 1) (Nat.le_refl _) hlt
      obtain ⟨T, hT⟩ : ∃ T, T = strOfNums M := ⟨_, rfl⟩
      have HT : Hid (T = strOfNums M) := hT
      rw [← hT] at hML ⊢
      clear hT
      go_wp2
      go_loopw [5] (fun x wq => ∃ k : Nat, i ≤ k ∧ k < c.size ∧ x = .int .i64 (k : Int) ∧ runE c (k + 1) = runE c (i + 1) ∧ Below w.heap.size w wq) (fun x _ => c.size - (intOf x).toNat)
      case atStart => exact ⟨i, Nat.le_refl _, hlt, rfl, rfl, HB.out⟩
      case round =>
        obtain ⟨k, hk1, hk2, rfl, hE, hbel⟩ := hrel
        have HB2 : Hid (Below w.heap.size w wr) := hbel
        have HE : Hid (runE c (k + 1) = runE c (i + 1)) := hE
        clear hbel hE
        have hk0 : (0 : Int) ≤ (k : Int) := by omega
        have hk2' : (k : Int) < (c.size : Int) := by omega
        obtain ⟨j, hj⟩ : ∃ j, j = k + 1 := ⟨_, rfl⟩
        have HJ : Hid (j = k + 1) := hj
        have wj : IntKind.i64.wrap ((k : Int) + 1) = (j : Int) := by rw [IntKind.wrap_i64]; omega
        have wj3 : (k : Int) + 1 = (j : Int) := by omega
        have hj0 : (0 : Int) ≤ (j : Int) := by omega
        by_cases hn : k + 1 < c.size
        · have hjl : j < c.size := by omega
          have hjl' : (j : Int) < (c.size : Int) := by omega
          have hw : IntKind.u8.wrap ((c[k].toNat : Int) + 1) = ((c[k].toNat : Int) + 1) % 256 := by rw [IntKind.wrap_u8]
          by_cases hq : c[k + 1].toNat = (c[k + 1 - 1].toNat + 1) % 256
          · have HQ : Hid (runE c (k + 1) = runE c (k + 1 + 1)) := runE_on hn hq
            have hq' : ((c[j].toNat : Int) == ((c[k].toNat : Int) + 1) % 256) = true := by
              subst hj
              simp only [Nat.add_sub_cancel] at hq
              simp; omega
            clear hj hq
            go_wp2
            go_quiet (fail)
            go_wp2
            go_roundw
            case rel => exact ⟨k + 1, by omega, hn, by go_num, by rw [← HQ.out]; exact HE.out, below_drewC _ HB2.out⟩
            case measure => simp [intOf]; omega
          · have HQ : Hid (runE c (k + 1) = k + 1) := runE_end hn hq
            have hq' : ((c[j].toNat : Int) == ((c[k].toNat : Int) + 1) % 256) = false := by
              subst hj
              simp only [Nat.add_sub_cancel] at hq
              simp; omega
            clear hj hq
            go_wp2
            go_quiet (fail)
            clear wj wj3 hw hq'
            have HB3 : Hid (Below w.heap.size w (wr.drewN nq)) := below_drewC _ HB2.out
            generalize wr.drewN nq = wd at *
            have he2 : Hid (runE c (i + 1) = k + 1) := by show runE c (i + 1) = k + 1; rw [← HE.out, HQ.out]
            have hb1 : Hid (c[i].toNat < 256) := c[i].toNat_lt
            have hb2 : Hid (c[k].toNat < 256) := c[k].toNat_lt
            have HS2 : Hid (runs c i = oneRun c i (k + 1) ++ runs c (k + 1)) := by show runs c i = _; rw [HS.out, he2.out]
            have hl1 := fun b => (byteL_len b).2
            have HLB : Hid (∀ b, (strOfNums (byteL b)).size ≤ 4) := fun b => by rw [strOfNums_size]; exact hl1 b
            clear hl1 HS hg hle HE HQ HB2 HJ
            go_wp2_with fail
            refine (l04Byte_any c[i].toNat _ hb1.out).mono ?_
            rintro e w2 ⟨rfl, hb⟩
            have B2 : Hid (Below w.heap.size w w2) := HB3.out.trans (hb.mono HB3.out.size)
            clear hb HB3
            have hz1 : (strOfNums (byteL c[i].toNat)).size ≤ 4 := HLB.out _
            obtain ⟨x1, hx1⟩ : ∃ x1, x1 = strOfNums (byteL c[i].toNat) := ⟨_, rfl⟩
            have HX1 : Hid (x1 = strOfNums (byteL c[i].toNat)) := hx1
            rw [← hx1] at hz1 ⊢
            clear hx1
            have hz2 : (T ++ x1).size = T.size + x1.size := ByteArray.size_append
            have hz3 : ¬ 9223372036854775807 < T.size + x1.size := by omega
            by_cases h1 : k = i
            · subst h1
              have HO : Hid (oneRun c k (k + 1) = byteL c[k].toNat) := run_one hlt rfl
              have t1 : ¬ (k : Int) + 1 < (k : Int) := by omega
              have t2 : ¬ (k : Int) < (k : Int) := by omega
              go_wp2_with fail
              go_roundw
              case rel => exact ⟨k + 1, M ++ byteL c[k].toNat, by omega, by go_num, by rw [strApp, ← HT.out, ← HX1.out], by rw [← HM.out, HS2.out, HO.out, List.append_assoc], B2.out⟩
              case measure => simp [intOf]; omega
            · have t2 : (i : Int) < (k : Int) := by omega
              by_cases h2 : k = i + 1
              · have HO : Hid (oneRun c i (k + 1) = byteL c[i].toNat ++ byteL c[k].toNat) := run_two hlt hk2 (by omega) (by omega)
                have t1 : ¬ (i : Int) + 1 < (k : Int) := by omega
                clear h1 h2
                go_wp2_with fail
                refine (l04Byte_any c[k].toNat _ hb2.out).mono ?_
                rintro e w3 ⟨rfl, hb⟩
                have B3 : Hid (Below w.heap.size w w3) := B2.out.trans (hb.mono B2.out.size)
                clear hb
                have hz4 : (strOfNums (byteL c[k].toNat)).size ≤ 4 := HLB.out _
                obtain ⟨x2, hx2⟩ : ∃ x2, x2 = strOfNums (byteL c[k].toNat) := ⟨_, rfl⟩
                have HX2 : Hid (x2 = strOfNums (byteL c[k].toNat)) := hx2
                rw [← hx2] at hz4 ⊢
                clear hx2
                have hz5 : ¬ 9223372036854775807 < (T ++ x1).size + x2.size := by omega
                go_wp2_with fail
                go_roundw
                case rel => exact ⟨k + 1, M ++ byteL c[i].toNat ++ byteL c[k].toNat, by omega, by go_num, by rw [strApp, strApp, ← HT.out, ← HX1.out, ← HX2.out], by rw [← HM.out, HS2.out, HO.out]; simp only [List.append_assoc], B3.out⟩
                case measure => simp [intOf]; omega
              · have HO : Hid (oneRun c i (k + 1) = (byteL c[i].toNat ++ [45]) ++ byteL c[k].toNat) := run_more hlt hk2 (by omega) (by omega)
                have t1 : (i : Int) + 1 < (k : Int) := by omega
                clear h1 h2
                have hz6 : ((T ++ x1) ++ (⟨#[45]⟩ : ByteArray)).size = (T ++ x1).size + 1 := ByteArray.size_append
                go_wp2_with fail
                refine (l04Byte_any c[k].toNat _ hb2.out).mono ?_
                rintro e w3 ⟨rfl, hb⟩
                have B3 : Hid (Below w.heap.size w w3) := B2.out.trans (hb.mono B2.out.size)
                clear hb
                have hz4 : (strOfNums (byteL c[k].toNat)).size ≤ 4 := HLB.out _
                obtain ⟨x2, hx2⟩ : ∃ x2, x2 = strOfNums (byteL c[k].toNat) := ⟨_, rfl⟩
                have HX2 : Hid (x2 = strOfNums (byteL c[k].toNat)) := hx2
                rw [← hx2] at hz4 ⊢
                clear hx2
                have hz5 : ¬ 9223372036854775807 < ((T ++ x1) ++ (⟨#[45]⟩ : ByteArray)).size + x2.size := by omega
                go_wp2_with fail
                go_roundw
                case rel => exact ⟨k + 1, M ++ byteL c[i].toNat ++ [45] ++ byteL c[k].toNat, by omega, by go_num, by rw [strApp, strApp, strApp, ← HT.out, ← HX1.out, ← HX2.out]; rfl, by rw [← HM.out, HS2.out, HO.out]; simp only [List.append_assoc], B3.out⟩
                case measure => simp [intOf]; omega
        · have hjl : ¬ j < c.size := by omega
          have hjl' : ¬ (j : Int) < (c.size : Int) := by omega
          have HQ : Hid (runE c (k + 1) = k + 1) := runE_stop hn
          clear hj
          go_wp2
          go_quiet (fail)
          clear wj wj3
          have HB3 : Hid (Below w.heap.size w (wr.drewN nq)) := below_drewC _ HB2.out
          generalize wr.drewN nq = wd at *
          have he2 : Hid (runE c (i + 1) = k + 1) := by show runE c (i + 1) = k + 1; rw [← HE.out, HQ.out]
          have hb1 : Hid (c[i].toNat < 256) := c[i].toNat_lt
          have hb2 : Hid (c[k].toNat < 256) := c[k].toNat_lt
          have HS2 : Hid (runs c i = oneRun c i (k + 1) ++ runs c (k + 1)) := by show runs c i = _; rw [HS.out, he2.out]
          have hl1 := fun b => (byteL_len b).2
          have HLB : Hid (∀ b, (strOfNums (byteL b)).size ≤ 4) := fun b => by rw [strOfNums_size]; exact hl1 b
          clear hl1 HS hg hle HE HQ HB2 HJ
          go_wp2_with fail
          refine (l04Byte_any c[i].toNat _ hb1.out).mono ?_
          rintro e w2 ⟨rfl, hb⟩
          have B2 : Hid (Below w.heap.size w w2) := HB3.out.trans (hb.mono HB3.out.size)
          clear hb HB3
          have hz1 : (strOfNums (byteL c[i].toNat)).size ≤ 4 := HLB.out _
          obtain ⟨x1, hx1⟩ : ∃ x1, x1 = strOfNums (byteL c[i].toNat) := ⟨_, rfl⟩
          have HX1 : Hid (x1 = strOfNums (byteL c[i].toNat)) := hx1
          rw [← hx1] at hz1 ⊢
          clear hx1
          have hz2 : (T ++ x1).size = T.size + x1.size := ByteArray.size_append
          have hz3 : ¬ 9223372036854775807 < T.size + x1.size := by omega
          by_cases h1 : k = i
          · subst h1
            have HO : Hid (oneRun c k (k + 1) = byteL c[k].toNat) := run_one hlt rfl
            have t1 : ¬ (k : Int) + 1 < (k : Int) := by omega
            have t2 : ¬ (k : Int) < (k : Int) := by omega
            go_wp2_with fail
            go_roundw
            case rel => exact ⟨k + 1, M ++ byteL c[k].toNat, by omega, by go_num, by rw [strApp, ← HT.out, ← HX1.out], by rw [← HM.out, HS2.out, HO.out, List.append_assoc], B2.out⟩
            case measure => simp [intOf]; omega
          · have t2 : (i : Int) < (k : Int) := by omega
            by_cases h2 : k = i + 1
            · have HO : Hid (oneRun c i (k + 1) = byteL c[i].toNat ++ byteL c[k].toNat) := run_two hlt hk2 (by omega) (by omega)
              have t1 : ¬ (i : Int) + 1 < (k : Int) := by omega
              clear h1 h2
              go_wp2_with fail
              refine (l04Byte_any c[k].toNat _ hb2.out).mono ?_
              rintro e w3 ⟨rfl, hb⟩
              have B3 : Hid (Below w.heap.size w w3) := B2.out.trans (hb.mono B2.out.size)
              clear hb
              have hz4 : (strOfNums (byteL c[k].toNat)).size ≤ 4 := HLB.out _
              obtain ⟨x2, hx2⟩ : ∃ x2, x2 = strOfNums (byteL c[k].toNat) := ⟨_, rfl⟩
              have HX2 : Hid (x2 = strOfNums (byteL c[k].toNat)) := hx2
              rw [← hx2] at hz4 ⊢
              clear hx2
              have hz5 : ¬ 9223372036854775807 < (T ++ x1).size + x2.size := by omega
              go_wp2_with fail
              go_roundw
              case rel => exact ⟨k + 1, M ++ byteL c[i].toNat ++ byteL c[k].toNat, by omega, by go_num, by rw [strApp, strApp, ← HT.out, ← HX1.out, ← HX2.out], by rw [← HM.out, HS2.out, HO.out]; simp only [List.append_assoc], B3.out⟩
              case measure => simp [intOf]; omega
            · have HO : Hid (oneRun c i (k + 1) = (byteL c[i].toNat ++ [45]) ++ byteL c[k].toNat) := run_more hlt hk2 (by omega) (by omega)
              have t1 : (i : Int) + 1 < (k : Int) := by omega
              clear h1 h2
              have hz6 : ((T ++ x1) ++ (⟨#[45]⟩ : ByteArray)).size = (T ++ x1).size + 1 := ByteArray.size_append
              go_wp2_with fail
              refine (l04Byte_any c[k].toNat _ hb2.out).mono ?_
              rintro e w3 ⟨rfl, hb⟩
              have B3 : Hid (Below w.heap.size w w3) := B2.out.trans (hb.mono B2.out.size)
              clear hb
              have hz4 : (strOfNums (byteL c[k].toNat)).size ≤ 4 := HLB.out _
              obtain ⟨x2, hx2⟩ : ∃ x2, x2 = strOfNums (byteL c[k].toNat) := ⟨_, rfl⟩
              have HX2 : Hid (x2 = strOfNums (byteL c[k].toNat)) := hx2
              rw [← hx2] at hz4 ⊢
              clear hx2
              have hz5 : ¬ 9223372036854775807 < ((T ++ x1) ++ (⟨#[45]⟩ : ByteArray)).size + x2.size := by omega
              go_wp2_with fail
              go_roundw
              case rel => exact ⟨k + 1, M ++ byteL c[i].toNat ++ [45] ++ byteL c[k].toNat, by omega, by go_num, by rw [strApp, strApp, strApp, ← HT.out, ← HX1.out, ← HX2.out]; rfl, by rw [← HM.out, HS2.out, HO.out]; simp only [List.append_assoc], B3.out⟩
              case measure => simp [intOf]; omega
    · have hge : ¬ (i : Int) < (c.size : Int) := by omega
      have HN : Hid (M = runs c 0) := by
        show M = runs c 0
        rw [← HM.out, runs_none hlt, List.append_nil]
      go_wp2
      go_ret
      exact ⟨by rw [← HN.out]; rfl, HB.out⟩
end Go.Proofs.YtkkijmbpcffadajDoor
