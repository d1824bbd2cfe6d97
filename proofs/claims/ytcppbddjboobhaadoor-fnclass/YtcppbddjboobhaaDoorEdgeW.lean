/- What is proved here: edge hands back some number in range; a new slice of zero bytes; nothing that was there turns. -/
import Derived.Test.YtcppbddjboobhaaDoorSourceW
namespace Go.Proofs.YtcppbddjboobhaaDoor
open Go.RowKit

theorem below_of_only {w0 w w' : World} {b B : Nat} (h : Below B w0 w) (hB : B ≤ b) (hBs : B ≤ w.heap.size) (hg : w.grownBy w' (some b)) : Below B w0 w' :=
  h.trans ⟨hg.os, hg.tape, hg.output, hg.size, fun k hk => hg.block k (by omega) (fun e => by cases e; omega)⟩

/-- Some number. -/
def SomeInt (e : Ending) : Prop := ∃ x : Int, e = .returned (.int .i64 x) ∧ -9223372036854775808 ≤ x ∧ x ≤ 9223372036854775807
set_option maxRecDepth 100000 in
set_option maxHeartbeats 2000000 in
theorem edge_any (w : World) (b : Nat) (sa : Option Addr) (len cap : Nat) (hs : Src w b sa len cap) :
    Calls Tryd.prog 79 #[.pointer (some ⟨b, 0, none⟩)] w fun e w' => SomeInt e ∧ w.grownBy w' (some b) ∧ Src w' b sa len cap := by
  have HS : Hid (Src w b sa len cap) := hs
  clear hs
  go_enter Tryd.func79, Tryd.ntmps79
  go_wp2_with fail
  refine (n_any _ b sa len cap 14 (by decide) (HS.out.kept (World.grownBy_alloc w _ none) (fun k hk => by cases hk))).mono ?_
  rintro e w1 ⟨⟨r, rfl, hr0, hr1, _⟩, hg, hS⟩
  have hr2 : r < 14 := hr1 (by decide)
  obtain ⟨k, rfl⟩ := Int.eq_ofNat_of_zero_le hr0
  have hb := HS.out.lt
  have hc : ∃ x : Int, w1.cell? ⟨w.heap.size, k, none⟩ = some (.int .i64 x) ∧ -9223372036854775808 ≤ x ∧ x ≤ 9223372036854775807 := by
    have hgc := fun (v : Value) (h : _ = some v) => hg.cell (a := ⟨w.heap.size, k, none⟩) (v := v) h (by simp; omega)
    have hk : k < 14 := by omega
    rcases (show k = 0 ∨ k = 1 ∨ k = 2 ∨ k = 3 ∨ k = 4 ∨ k = 5 ∨ k = 6 ∨ k = 7 ∨ k = 8 ∨ k = 9 ∨ k = 10 ∨ k = 11 ∨ k = 12 ∨ k = 13 from by omega) with rfl | rfl | rfl | rfl | rfl | rfl | rfl | rfl | rfl | rfl | rfl | rfl | rfl | rfl
    all_goals exact ⟨_, hgc _ (by rw [World.cell?_alloc_mark]; rfl), by decide, by decide⟩
  obtain ⟨x, hc, hx0, hx1⟩ := hc
  have HG : Hid (w.grownBy w1 (some b)) := (World.grownBy_alloc w _ (some b)).trans hg
  have HS1 : Hid (Src w1 b sa len cap) := hS
  clear hr1 hg hS HS
  go_wp2
  go_ret
  exact ⟨⟨_, rfl, hx0, hx1⟩, HG.out, HS1.out⟩

theorem made_zero (N : Nat) : (madeCells (Value.int .u8 0).cells (N * 1)).toList = (List.replicate N (0 : Int)).map (Value.int .u8) := by
  unfold madeCells
  apply List.ext_getElem
  · simp
  · intro i h1 h2
    simp [Value.cells, Nat.mod_one]
/-- A new slice of so many zero bytes. -/
theorem make_zero (w : World) (N : Nat) (hN : N ≤ 1000000) : ∃ w' v, (Instr.makeSlice 22 (.int .i64 (N : Int)) (.int .i64 (N : Int))).run Tryd.prog w = .ok v w' ∧ w'.ownsRow w.heap.size 5 1 v N ((List.replicate N (0 : Int)).map (Value.int .u8)) ∧ Below w.heap.size w w' := by
  obtain ⟨i0, hi, hz0, hz1, hz2⟩ := info_parts Tryd.drawInfo
  obtain ⟨w', hrun, hown, hg⟩ := run_make_full (P := Tryd.prog) w w.heap.size 22 5 i0 (.int .u8 0) 1 Tryd.underlying22 hi hz0 hz1 .i64 .i64 N (by rw [hz2]; omega) (by unfold maxLen; omega) (Nat.le_refl _)
  rw [made_zero] at hown
  exact ⟨w', _, hrun, hown, ⟨hg.os, hg.tape, hg.output, hg.size, fun k hk => hg.block k hk (by simp)⟩⟩

/-- Some text of at most n bytes. -/
def TextUpTo (n : Nat) (e : Ending) : Prop := ∃ t : ByteArray, e = .returned (.string t) ∧ t.size ≤ n
end Go.Proofs.YtcppbddjboobhaaDoor
