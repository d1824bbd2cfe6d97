/- What is proved here: a row of cells is appended to an empty one: a copy in new memory; nothing that was there turns. -/
import Derived.Test.YtbdjjggaahjjpaaQCelRowW
import Derived.Test.YtbdjjggaahjjpaaQCCRowM
import Derived.Test.YtbdjjggaahjjpaaQIntRowW
namespace Go.Proofs.Ytbdjjggaahjjpaa
open Go.RowKit

theorem cellRowInfo : (Try.prog.info? 85).map (fun i => (i.zero, i.size, i.bytes)) = some (some (.agg #[.string ⟨#[]⟩, .bool false, .bool false]), 3, 24) := by kernel_rfl
theorem ccellsV_at {W : World} {bb off n : Nat} {f : Nat → Cel} (h : ∀ i, i < n → CellAt W bb (off + i * 3) (f i)) : ∀ j u, (ccellsV f n)[j]? = some u → W.cell? ((⟨bb, off, none⟩ : Addr).add j) = some u := by
  intro j u hu
  have hj : j < n * 3 := by
    have := (List.getElem?_eq_some_iff.1 hu).1
    rw [ccellsV_len] at this
    exact this
  have had : (⟨bb, off, none⟩ : Addr).add j = ⟨bb, off + j, none⟩ := by unfold Addr.add; split <;> simp_all
  rw [had]
  have hi : j / 3 < n := by omega
  obtain ⟨g0, g1, g2⟩ := ccellsV_get f (j / 3) n hi
  obtain ⟨a0, a1, a2⟩ := h (j / 3) hi
  have hc : j % 3 = 0 ∨ j % 3 = 1 ∨ j % 3 = 2 := by omega
  rcases hc with hc | hc | hc
  · have e : j / 3 * 3 = j := by omega
    rw [e] at g0 a0
    rw [a0, ← g0, hu]
  · have e : j / 3 * 3 + 1 = j := by omega
    have e2 : off + j / 3 * 3 + 1 = off + j := by omega
    rw [e] at g1
    rw [e2] at a1
    rw [a1, ← g1, hu]
  · have e : j / 3 * 3 + 2 = j := by omega
    have e2 : off + j / 3 * 3 + 2 = off + j := by omega
    rw [e] at g2
    rw [e2] at a2
    rw [a2, ← g2, hu]
theorem ccellsV_one {n : Nat} {f : Nat → Cel} : ∀ u, u ∈ ccellsV f n → u.oneCell' = true := by
  induction n with
  | zero => intro u hu; cases hu
  | succ k ih =>
    intro u hu
    simp [ccellsV] at hu
    rcases hu with hu | rfl | rfl | rfl
    · exact ih u hu
    · rfl
    · rfl
    · rfl
set_option maxHeartbeats 1000000 in
theorem l10Cells_any (sa : Option Addr) (n cap : Nat) (f : Nat → Cel) (w : World) (hn0 : 1 ≤ n) (hn : n ≤ 60) (hr : CRow w w.heap.size sa n f) :
    Calls Try.prog 42 #[.slice sa n cap] w fun e w' => NewCells w n f e w' := by
  obtain ⟨i0, hi, hz0, hz1, hz2⟩ := info_parts cellRowInfo
  obtain ⟨bb, off, rfl, hbb, hat⟩ : ∃ bb off : Nat, sa = some ⟨bb, off, none⟩ ∧ bb < w.heap.size ∧ ∀ i, i < n → CellAt w bb (off + i * 3) (f i) := by
    rcases hr with h | h
    · omega
    · exact h
  have hat' : Hid (∀ (C : Array Value) i, i < n → CellAt (w.alloc (.cells C 85)) bb (off + i * 3) (f i)) := fun C i hi => (hat i hi).kept ((Below.refl w.heap.size w).alloc (Nat.le_refl _) _) hbb
  clear hr hat
  go_enter Try.func42, Try.ntmps42
  go_wp2_with (at_builtin; refine wpList_append_own_at _ rfl (.tmp 3) (.tmp 4) 58 rfl w.heap.size 85 i0 (.agg #[.string ⟨#[]⟩, .bool false, .bool false]) 3 24 Try.underlying58 hi hz0 hz1 hz2 rfl (by decide) _ _ _ rfl (ownsC_start w w.heap.size (Nat.le_refl _) _ rfl) ⟨bb, off, none⟩ n cap (ccellsV f n) rfl ?d0 ?d1 ?d2 ?d3 ?d4 ?d5 ?_)
  case d0 => rw [ccellsV_len]
  case d1 => exact ccellsV_at (hat'.out _)
  case d2 => exact ccellsV_one
  case d3 => unfold maxLen; omega
  case d4 => omega
  case d5 => simp <;> omega
  intro v4 w4 hown4 hgrow4 _ _
  have H : Hid (NewCells w n f (.returned v4) w4) := by
    refine newC_of_owns (by simpa using hown4) (grown_lo ((World.grownBy_alloc _ _ _).trans hgrow4) (fun j e => ?_) (Nat.le_refl _) (Nat.le_refl _))
    have e' : some w.heap.size = some j := e
    injection e' with e'
    omega
  clear hown4 hgrow4 hat'
  go_wp2_with fail
  go_ret
  exact H.out
end Go.Proofs.Ytbdjjggaahjjpaa
