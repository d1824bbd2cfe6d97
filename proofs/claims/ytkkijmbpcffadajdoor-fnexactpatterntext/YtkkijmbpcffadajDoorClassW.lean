/- What is proved here: the program's class() writes a set as a class; nothing that was there turns. -/
import Derived.Test.YtkkijmbpcffadajDoorTz64W
import Derived.Test.YtkkijmbpcffadajDoorBytesRowW
import Derived.Laws.MakeOwn
namespace Go.Proofs.YtkkijmbpcffadajDoor
open Go.RowKit

theorem make_row (w : World) (base : Nat) (hb : base ≤ w.heap.size) : ∃ w', (Instr.makeSlice 43 (.int .i64 0) (.int .i64 256)).run Tryd.prog w = .ok (.slice (some ⟨w.heap.size, 0, none⟩) 0 256) w' ∧ w'.ownsRow base 5 1 (.slice (some ⟨w.heap.size, 0, none⟩) 0 256) 0 [] ∧ Below w.heap.size w w' := by
  obtain ⟨i0, hi, hz0, hz1, hz2⟩ := info_parts Tryd.drawInfo
  obtain ⟨w', h1, h2, h3⟩ := run_makeSlice_owned (P := Tryd.prog) (w := w) base 43 5 i0 (.int .u8 0) 1 Tryd.underlying43 hi hz0 hz1 .i64 .i64 256 (by decide) (by rw [hz2]; decide) (by decide) hb
  exact ⟨w', h1, h2, ⟨h3.os, h3.tape, h3.output, h3.size, fun j hj => h3.block j hj (by simp)⟩⟩
theorem index_0 (a b c d : Value) (W : World) : (Instr.index 91 (.agg #[a, b, c, d]) (.int .i64 0)).run Tryd.prog W = .ok a W := by kernel_rfl
theorem index_1 (a b c d : Value) (W : World) : (Instr.index 91 (.agg #[a, b, c, d]) (.int .i64 1)).run Tryd.prog W = .ok b W := by kernel_rfl
theorem index_2 (a b c d : Value) (W : World) : (Instr.index 91 (.agg #[a, b, c, d]) (.int .i64 2)).run Tryd.prog W = .ok c W := by kernel_rfl
theorem index_3 (a b c d : Value) (W : World) : (Instr.index 91 (.agg #[a, b, c, d]) (.int .i64 3)).run Tryd.prog W = .ok d W := by kernel_rfl
theorem index_any (f : Nat → Nat) (k : Nat) (hk : k < 4) (W : World) : (Instr.index 91 (.agg #[.int .u64 (f 0 : Nat), .int .u64 (f 1 : Nat), .int .u64 (f 2 : Nat), .int .u64 (f 3 : Nat)]) (.int .i64 (k : Int))).run Tryd.prog W = .ok (.int .u64 (f k : Nat)) W := by
  have h4 : k = 0 ∨ k = 1 ∨ k = 2 ∨ k = 3 := by omega
  rcases h4 with rfl | rfl | rfl | rfl
  · exact index_0 _ _ _ _ W
  · exact index_1 _ _ _ _ W
  · exact index_2 _ _ _ _ W
  · exact index_3 _ _ _ _ W
theorem and_less64 (r : Nat) (h : r ≠ 0) : r &&& (r - 1) < r := Nat.lt_of_le_of_lt Nat.and_le_right (by omega)

set_option maxRecDepth 100000 in
set_option maxHeartbeats 4000000 in
theorem class_any (f : Nat → Nat) (w : World) (hf : Set4 f) (hT : Tab64 w) (hp0 : 1 < w.heap.size) :
    Calls Tryd.prog 71 #[.agg #[.int .u64 (f 0 : Nat), .int .u64 (f 1 : Nat), .int .u64 (f 2 : Nat), .int .u64 (f 3 : Nat)]] w fun e w' => e = .returned (.string (classT (inSet f))) ∧ Below w.heap.size w w' := by
  obtain ⟨i0, hi, hz0, hz1, hz2⟩ := info_parts Tryd.drawInfo
  have HF : Hid (Set4 f) := hf
  have HT : Hid (Tab64 w) := hT
  obtain ⟨w1, hw1⟩ : ∃ w1, w1 = w.alloc (.cells #[.int .u64 (f 0 : Nat), .int .u64 (f 1 : Nat), .int .u64 (f 2 : Nat), .int .u64 (f 3 : Nat)] 91) := ⟨_, rfl⟩
  obtain ⟨u, hmk, hown, hbu⟩ := make_row w1 w.heap.size (by rw [hw1]; simp)
  have B1 : Hid (Below w.heap.size w w1) := by rw [hw1]; exact (Below.refl _ _).alloc (Nat.le_refl _) _
  have s1 : w1.heap.size = w.heap.size + 1 := by rw [hw1]; simp
  have BU : Hid (Below w.heap.size w u) := B1.out.trans (hbu.mono B1.out.size)
  have HO : Hid (u.ownsRow w.heap.size 5 1 (.slice (some ⟨w1.heap.size, 0, none⟩) 0 256) 0 []) := hown
  have c0 : u.cell? ⟨w.heap.size, 0, none⟩ = some (.int .u64 (f 0 : Nat)) := by rw [hbu.cell (p := ⟨w.heap.size, 0, none⟩) (by show w.heap.size < w1.heap.size; omega), hw1]; simp
  have c1 : u.cell? ⟨w.heap.size, 1, none⟩ = some (.int .u64 (f 1 : Nat)) := by rw [hbu.cell (p := ⟨w.heap.size, 1, none⟩) (by show w.heap.size < w1.heap.size; omega), hw1]; simp
  have c2 : u.cell? ⟨w.heap.size, 2, none⟩ = some (.int .u64 (f 2 : Nat)) := by rw [hbu.cell (p := ⟨w.heap.size, 2, none⟩) (by show w.heap.size < w1.heap.size; omega), hw1]; simp
  have c3 : u.cell? ⟨w.heap.size, 3, none⟩ = some (.int .u64 (f 3 : Nat)) := by rw [hbu.cell (p := ⟨w.heap.size, 3, none⟩) (by show w.heap.size < w1.heap.size; omega), hw1]; simp
  rw [hw1] at hmk
  clear hf hT hown hbu s1
  go_enter Tryd.func71, Tryd.ntmps71
  go_wp2
  go_loopw [3, 9] (fun v i wr => ∃ k : Nat, k ≤ 4 ∧ i = .int .i64 (k : Int) ∧ wr.ownsRow w.heap.size 5 1 v (classL (inSet f) (64 * k)).length ((classL (inSet f) (64 * k)).map (Value.int .u8)) ∧ Below w.heap.size w wr) (fun _ i _ => 4 - (intOf i).toNat)
  case atStart =>
    refine ⟨0, by omega, rfl, ?_, BU.out⟩
    have := HO.out
    simpa [hw1, classL_zero] using this
  case round =>
    obtain ⟨k, hk, rfl, hown, hbel⟩ := hrel
    have HW : Hid (Below w.heap.size w wr) := hbel
    have HR : Hid (wr.ownsRow w.heap.size 5 1 u3 (classL (inSet f) (64 * k)).length ((classL (inSet f) (64 * k)).map (Value.int .u8))) := hown
    by_cases hlt : k < 4
    · have hlt' : (k : Int) < 4 := by omega
      have hk0 : (0 : Int) ≤ (k : Int) := by omega
      have hfk : f k < 18446744073709551616 := HF.out k
      have hix : ∀ W, (Instr.index 91 (.agg #[.int .u64 (f 0 : Nat), .int .u64 (f 1 : Nat), .int .u64 (f 2 : Nat), .int .u64 (f 3 : Nat)]) (.int .i64 (k : Int))).run Tryd.prog W = .ok (.int .u64 (f k : Nat)) W := by
        exact fun W => index_any f k hlt W
      clear hown hbel
      go_wp2
      go_loopw [3, 6] (fun v rv wq => ∃ p r : Nat, p ≤ 64 ∧ Rest64 (f k) p r ∧ rv = .int .u64 (r : Int) ∧ wq.ownsRow w.heap.size 5 1 v (classL (inSet f) (64 * k + p)).length ((classL (inSet f) (64 * k + p)).map (Value.int .u8)) ∧ Below w.heap.size w wq) (fun _ rv _ => (intOf rv).toNat)
      case atStart => exact ⟨0, f k, by omega, rest64_start hfk, rfl, HR.out, HW.out⟩
      case round =>
        obtain ⟨p, r, hp, hrest, rfl, hown, hbel⟩ := hrel
        have RS : Hid (Rest64 (f k) p r) := hrest
        have HQ : Hid (Below w.heap.size w wr) := hbel
        have HP : Hid (wr.ownsRow w.heap.size 5 1 u3 (classL (inSet f) (64 * k + p)).length ((classL (inSet f) (64 * k + p)).map (Value.int .u8))) := hown
        have hr64 := hrest.1
        clear hrest
        by_cases hr0 : r = 0
        · subst hr0
          clear hown hbel
          go_wp2
          go_roundw
          case rel => exact ⟨k + 1, by omega, by go_num, by rw [word_end hp RS.out]; exact HP.out, HQ.out⟩
          case measure => simp [intOf]; omega
        · obtain ⟨hc1, hc2, hc3, hc4⟩ := byte_step RS.out hr0
          have hTZ := fun W h => tz64_any r (by omega) hr0 W h
          have CL : Hid (r &&& (r - 1) < r) := and_less64 r hr0
          have RA : Hid (bits .and .u64 (r : Int) ((r : Int) - 1) = ((r &&& (r - 1) : Nat) : Int)) := rest64_and r hr0 hr64
          obtain ⟨t, ht⟩ : ∃ t, Lib.ctz 64 r = t := ⟨_, rfl⟩
          rw [ht] at hc1 hc2 hc3 hc4 hTZ
          have TZ : Hid (∀ W, Tab64 W → Calls Tryd.prog 79 #[.int .u64 (r : Int)] W fun e w' => e = .returned (.int .i64 (t : Int)) ∧ w' = W) := hTZ
          have C1 : Hid (classL (inSet f) (64 * k + (t + 1)) = classL (inSet f) (64 * k + p) ++ [(k : Int) * 64 + (t : Int)]) := by
            show classL (inSet f) (64 * k + (t + 1)) = classL (inSet f) (64 * k + p) ++ [(k : Int) * 64 + (t : Int)]
            rw [hc1]
            congr 2
            omega
          have C4 : Hid (Rest64 (f k) (t + 1) (r &&& (r - 1))) := hc4
          have TW : Hid (Tab64 wr) := HT.out.kept HQ.out hp0
          have hlen : (classL (inSet f) (64 * k + p)).length ≤ 256 := by have := classL_len (inSet f) (64 * k + p); omega
          have hsz := hbel.size
          clear hc1 hc4 hTZ ht hbel
          have hrne : ((r : Int) == 0) = false := by simp; omega
          have hri0 : (0 : Int) ≤ (r : Int) := by omega
          have hri1 : (r : Int) ≤ 18446744073709551615 := by omega
          have hri2 : (1 : Int) ≤ (r : Int) := by omega
          have ht0 : (0 : Int) ≤ (t : Int) := by omega
          have ht1 : (t : Int) ≤ 63 := by omega
          go_wp2_with (first | (go_at_call 79; refine (TZ.out _ TW.out).mono ?_; rintro e w2 ⟨rfl, hw2⟩; rw [hw2]; clear hw2 w2) | (at_builtin; refine wpList_append_own _ rfl (.tmp 20) (.tmp 27) 43 rfl w.heap.size 5 i0 (.int .u8 0) 1 1 Tryd.underlying43 hi hz0 hz1 hz2 rfl (by decide) _ _ _ rfl (hown.alloc _) ⟨wr.heap.size, 0, none⟩ 1 1 [.int .u8 ((k : Int) * 64 + (t : Int))] rfl rfl ?c1 ?c2 ?c3 ?c4 ?c5 ?_))
          case c1 => exact cell_one_new _ _ _
          case c2 => intro u hu; simp at hu; subst hu; rfl
          case c3 => unfold maxLen; omega
          case c4 => omega
          case c5 => simp; omega
          intro v' w2 hown2 hgrow _
          have hg3 : wr.grownBy w2 u3.ownBlock := (World.grownBy_alloc wr _ u3.ownBlock).trans hgrow
          have HW2 : Hid (Below w.heap.size w w2) := HQ.out.trans ⟨hg3.os, hg3.tape, hg3.output, hg3.size, fun j hj => hg3.block j (by omega) (fun e => by have := (HP.out.lt j e.symm).1; omega)⟩
          have hown3 : w2.ownsRow w.heap.size 5 1 v' (classL (inSet f) (64 * k + (t + 1))).length ((classL (inSet f) (64 * k + (t + 1))).map (Value.int .u8)) := by rw [C1.out]; simpa using hown2
          have HO2 : Hid (w2.ownsRow w.heap.size 5 1 v' (classL (inSet f) (64 * k + (t + 1))).length ((classL (inSet f) (64 * k + (t + 1))).map (Value.int .u8))) := hown3
          clear hown3 hg3 hown2 hgrow hown
          go_wp2
          go_roundw
          case rel => exact ⟨t + 1, r &&& (r - 1), by omega, C4.out, by rw [← RA.out], HO2.out, HW2.out⟩
          case measure => rw [RA.out]; simp [intOf]; exact CL.out
    · have hge : ¬ (k : Int) < 4 := by omega
      obtain rfl : k = 4 := by omega
      have hcv := convRow hown
      clear hown hbel
      go_wp2
      go_ret
      exact ⟨rfl, HW.out⟩
end Go.Proofs.YtkkijmbpcffadajDoor
