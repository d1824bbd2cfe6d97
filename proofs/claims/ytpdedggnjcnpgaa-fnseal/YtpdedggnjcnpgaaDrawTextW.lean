/- What is proved here: edge, DrawSeal, DrawCrcMore and lwAt hand back some number or text in range; nothing that was there turns. -/
import Derived.Test.YtpdedggnjcnpgaaSourceW
import Derived.Test.YtpdedggnjcnpgaaCrcW
import Derived.Test.YtpdedggnjcnpgaaJoinW
namespace Go.Proofs.Ytpdedggnjcnpgaa
open Go.RowKit

theorem below_of_only {w0 w w' : World} {b B : Nat} (h : Below B w0 w) (hB : B ≤ b) (hBs : B ≤ w.heap.size) (hg : w.grownBy w' (some b)) : Below B w0 w' :=
  h.trans ⟨hg.os, hg.tape, hg.output, hg.size, fun k hk => hg.block k (by omega) (fun e => by cases e; omega)⟩

/-- Some number. -/
def SomeInt (e : Ending) : Prop := ∃ x : Int, e = .returned (.int .i64 x)
set_option maxRecDepth 100000 in
set_option maxHeartbeats 2000000 in
theorem edge_any (w : World) (b : Nat) (sa : Option Addr) (len cap : Nat) (hs : Src w b sa len cap) :
    Calls Try.prog 21 #[.pointer (some ⟨b, 0, none⟩)] w fun e w' => SomeInt e ∧ w.grownBy w' (some b) ∧ Src w' b sa len cap := by
  have HS : Hid (Src w b sa len cap) := hs
  clear hs
  go_enter Try.func21, Try.ntmps21
  go_wp2_with fail
  refine (n_any _ b sa len cap 14 (by decide) (HS.out.kept (World.grownBy_alloc w _ none) (fun k hk => by cases hk))).mono ?_
  rintro e w1 ⟨⟨r, rfl, hr0, hr1, _⟩, hg, hS⟩
  have hr2 : r < 14 := hr1 (by decide)
  obtain ⟨k, rfl⟩ := Int.eq_ofNat_of_zero_le hr0
  have hb := HS.out.lt
  have hc : ∃ x : Int, w1.cell? ⟨w.heap.size, k, none⟩ = some (.int .i64 x) := by
    have hgc := fun (v : Value) (h : _ = some v) => hg.cell (a := ⟨w.heap.size, k, none⟩) (v := v) h (by simp; omega)
    have hk : k < 14 := by omega
    rcases (show k = 0 ∨ k = 1 ∨ k = 2 ∨ k = 3 ∨ k = 4 ∨ k = 5 ∨ k = 6 ∨ k = 7 ∨ k = 8 ∨ k = 9 ∨ k = 10 ∨ k = 11 ∨ k = 12 ∨ k = 13 from by omega) with rfl | rfl | rfl | rfl | rfl | rfl | rfl | rfl | rfl | rfl | rfl | rfl | rfl | rfl
    all_goals exact ⟨_, hgc _ (by rw [World.cell?_alloc_mark]; rfl)⟩
  obtain ⟨x, hc⟩ := hc
  have HG : Hid (w.grownBy w1 (some b)) := (World.grownBy_alloc w _ (some b)).trans hg
  have HS1 : Hid (Src w1 b sa len cap) := hS
  clear hr1 hg hS HS
  go_wp2
  go_ret
  exact ⟨⟨_, rfl⟩, HG.out, HS1.out⟩

theorem made_zero (N : Nat) : (madeCells (Value.int .u8 0).cells (N * 1)).toList = (List.replicate N (0 : Int)).map (Value.int .u8) := by
  unfold madeCells
  apply List.ext_getElem
  · simp
  · intro i h1 h2
    simp [Value.cells, Nat.mod_one]
/-- A new slice of so many zero bytes. -/
theorem make_zero (w : World) (N : Nat) (hN : N ≤ 1000000) : ∃ w' v, (Instr.makeSlice 22 (.int .i64 (N : Int)) (.int .i64 (N : Int))).run Try.prog w = .ok v w' ∧ w'.ownsRow w.heap.size 5 1 v N ((List.replicate N (0 : Int)).map (Value.int .u8)) ∧ Below w.heap.size w w' := by
  obtain ⟨i0, hi, hz0, hz1, hz2⟩ := info_parts Try.drawInfo
  obtain ⟨w', hrun, hown, hg⟩ := run_make_full (P := Try.prog) w w.heap.size 22 5 i0 (.int .u8 0) 1 Try.underlying22 hi hz0 hz1 .i64 .i64 N (by rw [hz2]; omega) (by unfold maxLen; omega) (Nat.le_refl _)
  rw [made_zero] at hown
  exact ⟨w', _, hrun, hown, ⟨hg.os, hg.tape, hg.output, hg.size, fun k hk => hg.block k hk (by simp)⟩⟩

/-- Some text of at most n bytes. -/
def TextUpTo (n : Nat) (e : Ending) : Prop := ∃ t : ByteArray, e = .returned (.string t) ∧ t.size ≤ n

set_option maxHeartbeats 2000000 in
theorem drawSeal_any (w : World) (sa : Option Addr) (len cap : Nat) (hl : len ≤ 1048576) (hby : Bytes8 w w.heap.size sa len) :
    Calls Try.prog 4 #[.slice sa len cap] w fun e w' => TextUpTo 20000 e ∧ Below w.heap.size w w' := by
  have HY : Hid (Bytes8 w w.heap.size sa len) := hby
  clear hby
  go_enter Try.func4, Try.ntmps4
  go_wp2_with fail
  refine (source_any w sa len cap hl HY.out).mono ?_
  rintro e w1 ⟨rfl, hb1, hS1⟩
  have HB1 : Hid (Below w.heap.size w w1) := hb1
  have HS1 : Hid (Src w1 w.heap.size sa len cap) := hS1
  clear hb1 hS1 HY
  go_wp2_with fail
  refine (one_any w1 w.heap.size sa len cap 30 (by decide) HS1.out).mono ?_
  rintro e w2 ⟨⟨x, rfl⟩, hg2, hS2⟩
  have HB2 : Hid (Below w.heap.size w w2) := below_of_only HB1.out (Nat.le_refl _) HB1.out.size hg2
  have HS2 : Hid (Src w2 w.heap.size sa len cap) := hS2
  clear hg2 hS2 HB1 HS1
  cases x
  · go_wp2_with fail
    refine (n_any w2 w.heap.size sa len cap 20 (by decide) HS2.out).mono ?_
    rintro e w3 ⟨⟨r, rfl, hr0, hr1, _⟩, hg3, hS3⟩
    have hr2 : r < 20 := hr1 (by decide)
    obtain ⟨k, rfl⟩ := Int.eq_ofNat_of_zero_le hr0
    have HB3 : Hid (Below w.heap.size w w3) := below_of_only HB2.out (Nat.le_refl _) HB2.out.size hg3
    have HS3 : Hid (Src w3 w.heap.size sa len cap) := hS3
    clear hr1 hg3 hS3 HB2 HS2
    go_wp2_with fail
    refine (bytes_any w3 w.heap.size sa len cap k (by omega) HS3.out).mono ?_
    rintro e w4 ⟨⟨t, rfl, ht⟩, hg4, hS4⟩
    have HB4 : Hid (Below w.heap.size w w4) := below_of_only HB3.out (Nat.le_refl _) HB3.out.size hg4
    have HT : Hid (t.size = k) := ht
    clear hg4 hS4 HB3 HS3 ht
    go_wp2
    go_ret
    exact ⟨⟨t, rfl, by have := HT.out; omega⟩, HB4.out⟩
  · go_wp2_with fail
    refine (n_any w2 w.heap.size sa len cap 3 (by decide) HS2.out).mono ?_
    rintro e w3 ⟨⟨r, rfl, hr0, hr1, _⟩, hg3, hS3⟩
    have hr2 : r < 3 := hr1 (by decide)
    obtain ⟨k, rfl⟩ := Int.eq_ofNat_of_zero_le hr0
    have HB3 : Hid (Below w.heap.size w w3) := below_of_only HB2.out (Nat.le_refl _) HB2.out.size hg3
    clear hr1 hg3 hS3 HB2 HS2
    obtain ⟨w4, v, hmk, hown, hb4⟩ := make_zero w3 (19995 + k) (by omega)
    have hcv := convRow hown
    have e1 : ((19995 + k : Nat) : Int) = 19995 + (k : Int) := by omega
    rw [e1] at hmk
    have HB4 : Hid (Below w.heap.size w w4) := HB3.out.trans (hb4.mono HB3.out.size)
    clear e1 hown hb4 HB3
    go_wp2
    go_ret
    exact ⟨⟨_, rfl, by rw [strOfNums_size]; simp; omega⟩, HB4.out⟩

/-- Some number and some text of at most n bytes. -/
def IntAndText (n : Nat) (e : Ending) : Prop := ∃ (x : Int) (t : ByteArray), e = .returned (.tuple #[.int .i64 x, .string t]) ∧ t.size ≤ n

set_option maxHeartbeats 2000000 in
theorem drawCrcMore_any (w : World) (sa : Option Addr) (len cap : Nat) (hl : len ≤ 1048576) (hby : Bytes8 w w.heap.size sa len) :
    Calls Try.prog 9 #[.slice sa len cap] w fun e w' => IntAndText 9 e ∧ Below w.heap.size w w' := by
  have HY : Hid (Bytes8 w w.heap.size sa len) := hby
  clear hby
  go_enter Try.func9, Try.ntmps9
  go_wp2_with fail
  refine (source_any w sa len cap hl HY.out).mono ?_
  rintro e w1 ⟨rfl, hb1, hS1⟩
  have HB1 : Hid (Below w.heap.size w w1) := hb1
  have HS1 : Hid (Src w1 w.heap.size sa len cap) := hS1
  clear hb1 hS1 HY
  go_wp2_with fail
  refine (n_any w1 w.heap.size sa len cap 9 (by decide) HS1.out).mono ?_
  rintro e w2 ⟨⟨r, rfl, hr0, hr1, _⟩, hg2, hS2⟩
  have hr2 : r < 9 := hr1 (by decide)
  obtain ⟨k, rfl⟩ := Int.eq_ofNat_of_zero_le hr0
  have HB2 : Hid (Below w.heap.size w w2) := below_of_only HB1.out (Nat.le_refl _) HB1.out.size hg2
  have HS2 : Hid (Src w2 w.heap.size sa len cap) := hS2
  clear hr1 hg2 hS2 HB1 HS1
  go_wp2_with fail
  refine (bytes_any w2 w.heap.size sa len cap k (by omega) HS2.out).mono ?_
  rintro e w3 ⟨⟨t, rfl, ht⟩, hg3, hS3⟩
  have HB3 : Hid (Below w.heap.size w w3) := below_of_only HB2.out (Nat.le_refl _) HB2.out.size hg3
  have HS3 : Hid (Src w3 w.heap.size sa len cap) := hS3
  have HT : Hid (t.size ≤ 9) := by show t.size ≤ 9; omega
  clear hg3 hS3 HB2 HS2 ht hr2 hr0
  go_wp2_with fail
  refine (one_any w3 w.heap.size sa len cap 5 (by decide) HS3.out).mono ?_
  rintro e w4 ⟨⟨x, rfl⟩, hg4, hS4⟩
  have HB4 : Hid (Below w.heap.size w w4) := below_of_only HB3.out (Nat.le_refl _) HB3.out.size hg4
  have HS4 : Hid (Src w4 w.heap.size sa len cap) := hS4
  clear hg4 hS4 HB3 HS3
  cases x
  · go_wp2_with fail
    refine (n_any w4 w.heap.size sa len cap 9 (by decide) HS4.out).mono ?_
    rintro e w5 ⟨⟨r, rfl, hr0, hr1, _⟩, hg5, hS5⟩
    have hr2 : r < 9 := hr1 (by decide)
    obtain ⟨j, rfl⟩ := Int.eq_ofNat_of_zero_le hr0
    have HB5 : Hid (Below w.heap.size w w5) := below_of_only HB4.out (Nat.le_refl _) HB4.out.size hg5
    have HS5 : Hid (Src w5 w.heap.size sa len cap) := hS5
    clear hr1 hg5 hS5 HB4 HS4
    go_wp2_with fail
    refine (bytes_any w5 w.heap.size sa len cap j (by omega) HS5.out).mono ?_
    rintro e w6 ⟨⟨q, rfl, hq⟩, hg6, hS6⟩
    have HB6 : Hid (Below w.heap.size w w6) := below_of_only HB5.out (Nat.le_refl _) HB5.out.size hg6
    have hq8 : q.size ≤ 8000 := by omega
    clear hg6 hS6 HB5 HS5 hq hr2 hr0
    go_wp2_with fail
    refine (specCrc_yes q w6 hq8).mono ?_
    rintro e w7 ⟨rfl, hw⟩
    subst hw
    generalize crcTurn (crcTo q (crcTurn 0) q.size) = y
    go_wp2
    go_ret2
    exact ⟨⟨y, t, rfl, HT.out⟩, HB6.out⟩
  · go_wp2_with fail
    refine (edge_any w4 w.heap.size sa len cap HS4.out).mono ?_
    rintro e w5 ⟨⟨y, rfl⟩, hg5, hS5⟩
    have HB5 : Hid (Below w.heap.size w w5) := below_of_only HB4.out (Nat.le_refl _) HB4.out.size hg5
    clear hg5 hS5 HB4 HS4
    go_wp2
    go_ret2
    exact ⟨⟨y, t, rfl, HT.out⟩, HB5.out⟩

/-- A number out of a code. -/
def LwOut (most : Int) (e : Ending) : Prop := ∃ r : Int, e = .returned (.int .i64 r) ∧ 0 ≤ r ∧ (1 < most → r < most)
set_option maxHeartbeats 2000000 in
theorem lwAt_any (w : World) (B : Nat) (sa : Option Addr) (len cap : Nat) (j most : Int) (hj0 : 0 ≤ j) (hj1 : j ≤ 1000) (hm1 : most ≤ 9223372036854775807) (hl : len ≤ 1048576) (hby : Bytes8 w B sa len) :
    Calls Try.prog 7 #[.slice sa len cap, .int .i64 j, .int .i64 most] w fun e w' => LwOut most e ∧ w' = w := by
  by_cases hm : most ≤ 1
  · clear hby
    go_enter Try.func7, Try.ntmps7
    go_wp2
    go_ret
    exact ⟨⟨0, rfl, by decide, fun h => by omega⟩, rfl⟩
  · by_cases h0 : len = 0
    · subst h0
      clear hby
      go_enter Try.func7, Try.ntmps7
      go_wp2
      go_ret
      exact ⟨⟨0, rfl, by decide, fun h => by omega⟩, rfl⟩
    · obtain ⟨bb, off, zs, rfl, hbb, hcell, hzs⟩ : ∃ (bb off : Nat) (zs : Nat → Int), sa = some ⟨bb, off, none⟩ ∧ bb < B ∧ (∀ i, i < len → w.cell? ⟨bb, off + i, none⟩ = some (.int .u8 (zs i))) ∧ ∀ i : Nat, 0 ≤ zs i ∧ zs i ≤ 255 := by
        rcases hby with h | h
        · omega
        · exact h
      have hlz : ((len : Int) == 0) = false := by simp; omega
      have hl1 : (1 : Int) ≤ (len : Int) := by omega
      obtain ⟨q, hq⟩ : ∃ q : Nat, j % (len : Int) = (q : Int) := ⟨(j % (len : Int)).toNat, by have := Int.emod_nonneg j (show (len : Int) ≠ 0 by omega); omega⟩
      have hql : q < len := by have := Int.emod_lt_of_pos j (show 0 < (len : Int) by omega); omega
      have hqi : (q : Int) < (len : Int) := by omega
      have cz := hcell q hql
      have hz := hzs q
      clear hcell hzs hby
      go_enter Try.func7, Try.ntmps7
      go_wp2
      go_ret
      exact ⟨⟨zs q % most, rfl, Int.emod_nonneg _ (by omega), fun _ => Int.emod_lt_of_pos _ (by omega)⟩, rfl⟩
end Go.Proofs.Ytpdedggnjcnpgaa
