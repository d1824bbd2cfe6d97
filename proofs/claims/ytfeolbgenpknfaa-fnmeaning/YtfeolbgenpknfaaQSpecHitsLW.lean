/- What is proved here: the specification's l05Hits tells the hits of rising ends, end by end, in new memory; nothing that was there turns. -/
import Derived.Test.YtfeolbgenpknfaaQHitsMToHitD
namespace Go.Proofs.Ytfeolbgenpknfaa
open Go.RowKit

set_option maxRecDepth 100000 in
set_option maxHeartbeats 4000000 in
theorem l05Hits_any (sa : Option Addr) (k cap m : Nat) (s : Nat → Option Addr) (c : Nat → Nat) (P : Nat → Nat → Bool) (w : World) (hk : k ≤ 400) (hm : m ≤ 8000)
    (hr : ERows w w.heap.size sa k s (fun i => (classL (P i) (m + 1)).length) c (fun i j => (classL (P i) (m + 1)).getD j 0)) :
    Calls Try.prog 68 #[.slice sa k cap, .int .i64 (m : Int)] w fun e w' => NewHits w (hitsTo P k m) e w' := by
  obtain ⟨i0, hi, hz0, hz1, hz2⟩ := info_parts Try.hitInfo
  have HR : Hid (ERows w w.heap.size sa k s (fun i => (classL (P i) (m + 1)).length) c (fun i j => (classL (P i) (m + 1)).getD j 0)) := hr
  have B0 : Hid (Below w.heap.size w (w.alloc (.cells #[] 83))) := (Below.refl _ _).alloc (Nat.le_refl _) _
  have O0 : Hid (OwnsH (w.alloc (.cells #[] 83)) w.heap.size (.slice (some ⟨w.heap.size, 0, none⟩) 0 0) (hitsTo P k 0)) := hits_start w _ (Nat.le_refl _) #[] rfl
  clear hr
  go_enter Try.func68, Try.ntmps68
  go_wp2_with fail
  go_loopw [5, 6] (fun v ev wr => ∃ j : Nat, j ≤ m ∧ ev = .int .i64 ((j + 1 : Nat) : Int) ∧ OwnsH wr w.heap.size v (hitsTo P k j) ∧ Below w.heap.size w wr) (fun _ ev _ => m + 1 - (intOf ev).toNat)
  case atStart => exact ⟨0, Nat.zero_le _, rfl, O0.out, B0.out⟩
  case round =>
    obtain ⟨j1, hj, rfl, hown, hbel⟩ := hrel
    obtain ⟨j, hj1⟩ : ∃ j, j1 + 1 = j := ⟨_, rfl⟩
    rw [hj1]
    have HJ : Hid (j1 + 1 = j) := hj1
    have HO : Hid (OwnsH wr w.heap.size u5 (hitsTo P k j1)) := hown
    have HB : Hid (Below w.heap.size w wr) := hbel
    have hjb : j ≤ m + 1 := by omega
    have hj0 : 1 ≤ j := by omega
    clear hown hbel hj1 hj
    by_cases hjl : j ≤ m
    · have hji : (j : Int) ≤ (m : Int) := by omega
      have hlt := hitsTo_len P k j1
      have hmul : j1 * k ≤ 8000 * 400 := Nat.mul_le_mul (by have := HJ.out; omega) hk
      have HLEN : Hid ((hitsTo P k j1).length ≤ 3200000) := by show _ ≤ 3200000; omega
      clear hlt hmul
      go_wp2_with fail
      go_loopw [5, 7] (fun v iv wx => ∃ i : Nat, i ≤ k ∧ iv = .int .i64 (i : Int) ∧ OwnsH wx w.heap.size v (hitsTo P k j1 ++ hitsAt P j i) ∧ Below w.heap.size w wx) (fun _ iv _ => k - (intOf iv).toNat)
      case atStart => exact ⟨0, Nat.zero_le _, rfl, by rw [hitsAt_zero, List.append_nil]; exact HO.out, HB.out⟩
      case round =>
        obtain ⟨i, hik, rfl, hown, hbel⟩ := hrel
        rename World => wx
        by_cases hil : i < k
        · have hii : (i : Int) < (k : Int) := by omega
          have hi0 : (0 : Int) ≤ (i : Int) := by omega
          obtain ⟨bb, off, rfl, hbb, hrow⟩ : ∃ bb off : Nat, sa = some ⟨bb, off, none⟩ ∧ bb < w.heap.size ∧ ∀ i, i < k → w.cell? ⟨bb, off + i, none⟩ = some (.slice (s i) (classL (P i) (m + 1)).length (c i)) ∧ Row w w.heap.size (s i) (classL (P i) (m + 1)).length (fun j => (classL (P i) (m + 1)).getD j 0) := by
            rcases HR.out with h | h
            · omega
            · exact h
          have CI : Hid (∀ W, Below w.heap.size w W → W.cell? ⟨bb, off + i, none⟩ = some (.slice (s i) (classL (P i) (m + 1)).length (c i))) := fun W hW => by rw [hW.cell (p := ⟨bb, off + i, none⟩) hbb]; exact (hrow i hil).1
          have RI : Hid (∀ W, Below w.heap.size w W → Row W w.heap.size (s i) (classL (P i) (m + 1)).length (fun j => (classL (P i) (m + 1)).getD j 0)) := fun W hW => (hrow i hil).2.kept hW
          have HX : Hid (OwnsH wx w.heap.size u5 (hitsTo P k j1 ++ hitsAt P j i)) := hown
          have HBX : Hid (Below w.heap.size w wx) := hbel
          have hat := hitsAt_len P j i
          have hcl := classL_len (P i) (m + 1)
          clear hown hbel hrow
          obtain ⟨si, hsi⟩ : ∃ x, s i = x := ⟨_, rfl⟩
          obtain ⟨ci, hci⟩ : ∃ x, c i = x := ⟨_, rfl⟩
          rw [hsi, hci] at CI
          rw [hsi] at RI
          clear hsi hci
          go_wp2_with fail
          go_loopw [5, 8] (fun v qv wy => ∃ q : Nat, q ≤ (classL (P i) (m + 1)).length ∧ qv = .int .i64 (q : Int) ∧ OwnsH wy w.heap.size v ((hitsTo P k j1 ++ hitsAt P j i) ++ (if toldB (P i) (m + 1) j q then [(j, i)] else [])) ∧ Below w.heap.size w wy) (fun _ qv _ => (classL (P i) (m + 1)).length - (intOf qv).toNat)
          case atStart => exact ⟨0, Nat.zero_le _, rfl, by rw [show toldB (P i) (m + 1) j 0 = false from rfl, if_neg (by simp), List.append_nil]; exact HX.out, HBX.out⟩
          case round =>
            obtain ⟨q, hq, rfl, hown, hbel⟩ := hrel
            rename World => wy
            have ci := CI.out wy hbel
            have HY : Hid (OwnsH wy w.heap.size u5 ((hitsTo P k j1 ++ hitsAt P j i) ++ (if toldB (P i) (m + 1) j q then [(j, i)] else []))) := hown
            have HBY : Hid (Below w.heap.size w wy) := hbel
            by_cases hql : q < (classL (P i) (m + 1)).length
            · have hqi : (q : Int) < ((classL (P i) (m + 1)).length : Int) := by omega
              have hq0 : (0 : Int) ≤ (q : Int) := by omega
              obtain ⟨b2, o2, rfl, hb2, hc2⟩ : ∃ bb off : Nat, si = some ⟨bb, off, none⟩ ∧ bb < w.heap.size ∧ ∀ q, q < (classL (P i) (m + 1)).length → wy.cell? ⟨bb, off + q, none⟩ = some (.int .i64 ((classL (P i) (m + 1)).getD q 0)) := by
                rcases RI.out wy hbel with h | h
                · omega
                · exact h
              have cq := hc2 q hql
              clear hown hbel hc2
              by_cases hx : (classL (P i) (m + 1)).getD q 0 = (j : Int)
              · have HT : Hid (toldB (P i) (m + 1) j q = false) := told_once hql hx
                have HT2 : Hid (toldB (P i) (m + 1) j (q + 1) = true) := by show _ = true; rw [told_succ, hx]; simp
                rw [hx] at cq
                have hown : OwnsH wy w.heap.size u5 (hitsTo P k j1 ++ hitsAt P j i) := by have h9 := HY.out; rw [HT.out, if_neg (by simp), List.append_nil] at h9; exact h9
                have hll : (hitsTo P k j1 ++ hitsAt P j i).length ≤ 3200400 := by rw [List.length_append]; have := HLEN.out; omega
                have O1 : Hid (OwnsH wy w.heap.size u5 (hitsTo P k j1 ++ hitsAt P j i)) := hown
                have hyb0 := HBY.out.size
                clear hx
                generalize hL : hitsTo P k j1 ++ hitsAt P j i = L at hown hll O1
                clear hL
                unfold OwnsH at hown
                go_wp2_with (at_builtin; refine wpList_append_own _ rfl (.tmp 39) (.tmp 43) 37 rfl w.heap.size 83 i0 (.agg #[.int .i64 0, .int .i64 0]) 2 16 Try.underlying37 hi hz0 hz1 hz2 rfl (by decide) _ _ _ rfl (hown.alloc _) ⟨wy.heap.size, 0, none⟩ 1 1 [.int .i64 (j : Int), .int .i64 (i : Int)] rfl rfl ?c1 ?c2 ?c3 ?c4 ?c5 ?_)
                case c1 =>
                  intro j u hu
                  match j, hu with
                  | 0, hu => simp at hu; subst hu; simp [Addr.add]
                  | 1, hu => simp at hu; subst hu; simp [Addr.add]
                  | j + 2, hu => simp at hu
                case c2 => intro u hu; simp at hu; rcases hu with rfl | rfl <;> rfl
                case c3 => unfold maxLen; omega
                case c4 => omega
                case c5 => first | omega | (simp <;> omega)
                intro v' w2 hown2 hgrow _
                have hyb := HBY.out.size
                have hg3 : wy.grownBy w2 u5.ownBlock := (World.grownBy_alloc wy _ u5.ownBlock).trans hgrow
                have HW2 : Hid (Below w.heap.size w w2) := HBY.out.trans ⟨hg3.os, hg3.tape, hg3.output, hg3.size, fun a ha => hg3.block a (by omega) (fun e => by have := (World.ownsRow.lt O1.out a e.symm).1; omega)⟩
                have HO2 : Hid (OwnsH w2 w.heap.size v' (L ++ [(j, i)])) := by
                  show w2.ownsRow _ _ _ _ (L ++ [(j, i)]).length (hcells (L ++ [(j, i)]))
                  rw [hcells_append, List.length_append]
                  exact hown2
                clear hown2 hgrow hg3 hown
                go_wp2_with fail
                go_roundw
                case rel => exact ⟨q + 1, by omega, by go_num, by rw [HT2.out, if_pos rfl]; exact HO2.out, HW2.out⟩
                case measure => simp [intOf]; omega
              · have HT : Hid (toldB (P i) (m + 1) j (q + 1) = toldB (P i) (m + 1) j q) := by
                  show _ = _
                  rw [told_succ, show ((classL (P i) (m + 1)).getD q 0 == (j : Int)) = false from beq_eq_false_iff_ne.2 hx, Bool.or_false]
                generalize (classL (P i) (m + 1)).getD q 0 = x at *
                go_wp2_with fail
                go_roundw
                case rel => exact ⟨q + 1, by omega, by go_num, by rw [HT.out]; exact HY.out, HBY.out⟩
                case measure => simp [intOf]; omega
            · have hqi : ¬ (q : Int) < ((classL (P i) (m + 1)).length : Int) := by omega
              obtain rfl : q = (classL (P i) (m + 1)).length := by omega
              have HF : Hid (OwnsH wy w.heap.size u5 (hitsTo P k j1 ++ hitsAt P j (i + 1))) := by
                have h9 := HY.out
                rw [told_all (by omega)] at h9
                cases h8 : P i j with
                | true =>
                  rw [h8, if_pos rfl] at h9
                  show OwnsH _ _ _ _
                  rw [hitsAt_yes h8, ← List.append_assoc]
                  exact h9
                | false =>
                  rw [h8, if_neg (by simp), List.append_nil] at h9
                  show OwnsH _ _ _ _
                  rw [hitsAt_no h8]
                  exact h9
              clear hown hbel
              go_wp2_with fail
              go_roundw
              case rel => exact ⟨i + 1, by omega, by go_num, HF.out, HBY.out⟩
              case measure => simp [intOf]; omega
        · have hii : ¬ (i : Int) < (k : Int) := by omega
          obtain rfl : i = k := by omega
          have HF : Hid (OwnsH wx w.heap.size u5 (hitsTo P i (j1 + 1))) := by show OwnsH _ _ _ _; rw [hitsTo_succ, HJ.out]; exact hown
          have HBX : Hid (Below w.heap.size w wx) := hbel
          clear hown hbel
          have hjj := HJ.out
          go_wp2_with fail
          go_roundw
          case rel => exact ⟨j1 + 1, by omega, by go_num, HF.out, HBX.out⟩
          case measure => simp [intOf]; omega
    · have hji : ¬ (j : Int) ≤ (m : Int) := by omega
      have hjj := HJ.out
      obtain rfl : j1 = m := by omega
      clear hjj
      go_wp2_with fail
      go_ret
      exact ⟨_, rfl, HB.out, HO.out⟩
end Go.Proofs.Ytfeolbgenpknfaa
