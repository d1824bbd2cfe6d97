/- What is proved here: slices.Clone of a row of cells, and of the rows: copies in new memory; nothing that was there turns. -/
import Derived.Test.YtbdjjggaahjjpaaQAppCW
import Derived.Test.YtbdjjggaahjjpaaQCCHW
namespace Go.Proofs.Ytbdjjggaahjjpaa
open Go.RowKit

theorem sliceNil_any (bb off n cap : Nat) (w : World) : Sem.run Try.prog (Go.binOp BinOp.eql 58 (.slice (some ⟨bb, off, none⟩) n cap) (.slice none 0 0)) w = .ok (.bool false) w := by kernel_rfl
theorem rowsNil_any (bb off n cap : Nat) (w : World) : Sem.run Try.prog (Go.binOp BinOp.eql 28 (.slice (some ⟨bb, off, none⟩) n cap) (.slice none 0 0)) w = .ok (.bool false) w := by kernel_rfl
set_option maxRecDepth 100000 in
set_option maxHeartbeats 1000000 in
theorem cloneCells_any (sa : Option Addr) (n cap : Nat) (f : Nat → Cel) (w : World) (hn0 : 1 ≤ n) (hn : n ≤ 60) (hr : CRow w w.heap.size sa n f) :
    Calls Try.prog 74 #[.slice sa n cap] w fun e w' => NewCells w n f e w' := by
  obtain ⟨i0, hi, hz0, hz1, hz2⟩ := info_parts cellRowInfo
  obtain ⟨bb, off, rfl, hbb, hat⟩ : ∃ bb off : Nat, sa = some ⟨bb, off, none⟩ ∧ bb < w.heap.size ∧ ∀ i, i < n → CellAt w bb (off + i * 3) (f i) := by
    rcases hr with h | h
    · omega
    · exact h
  have hat' : Hid (∀ (C : Array Value) i, i < n → CellAt (w.alloc (.cells C 85)) bb (off + i * 3) (f i)) := fun C i hi => (hat i hi).kept ((Below.refl w.heap.size w).alloc (Nat.le_refl _) _) hbb
  clear hr hat
  have hnil := sliceNil_any bb off n cap w
  go_enter Try.func74, Try.ntmps74
  go_wp2_with (at_builtin; refine wpList_append_own_at _ rfl (.tmp 5) (.tmp 6) 58 rfl w.heap.size 85 i0 (.agg #[.string ⟨#[]⟩, .bool false, .bool false]) 3 24 Try.underlying58 hi hz0 hz1 hz2 rfl (by decide) _ _ _ rfl (ownsC_start w w.heap.size (Nat.le_refl _) _ rfl) ⟨bb, off, none⟩ n cap (ccellsV f n) rfl ?d0 ?d1 ?d2 ?d3 ?d4 ?d5 ?_)
  case d0 => rw [ccellsV_len]
  case d1 => exact ccellsV_at (hat'.out _)
  case d2 => exact ccellsV_one
  case d3 => unfold maxLen; omega
  case d4 => omega
  case d5 => simp <;> omega
  intro v4 w4 hown4 hgrow4 _ _
  have H : Hid (NewCells w n f (.returned v4) w4) := by
    refine newC_of_owns (by simpa using hown4) (grown_lo ((World.grownBy_alloc _ _ _).trans hgrow4) (fun j e => ?_) (Nat.le_refl _) (Nat.le_refl _))
    have e' : some w.heap.size = some j := e
    injection e' with e'
    omega
  clear hown4 hgrow4 hat'
  go_wp2_with fail
  go_ret
  exact H.out
/-- The slices of the first rows. -/
def rcells (s : Nat → Option Addr) (n c : Nat → Nat) : Nat → List Value
  | 0 => []
  | k + 1 => rcells s n c k ++ [.slice (s k) (n k) (c k)]
theorem rcells_len (s : Nat → Option Addr) (n c : Nat → Nat) : ∀ k, (rcells s n c k).length = k
  | 0 => rfl
  | k + 1 => by simp [rcells, rcells_len s n c k]
theorem rcells_get (s : Nat → Option Addr) (n c : Nat → Nat) (i : Nat) : ∀ k, i < k → (rcells s n c k)[i]? = some (.slice (s i) (n i) (c i))
  | 0, h => by omega
  | k + 1, h => by
    have hl := rcells_len s n c k
    by_cases e : i = k
    · subst e
      unfold rcells
      rw [List.getElem?_append_right (by omega), hl]
      simp
    · unfold rcells
      rw [List.getElem?_append_left (by omega)]
      exact rcells_get s n c i k (by omega)
theorem rcells_one {k : Nat} {s : Nat → Option Addr} {n c : Nat → Nat} : ∀ u, u ∈ rcells s n c k → u.oneCell' = true := by
  induction k with
  | zero => intro u hu; cases hu
  | succ k ih =>
    intro u hu
    simp [rcells] at hu
    rcases hu with hu | rfl
    · exact ih u hu
    · rfl
theorem rcells_congr {s s' : Nat → Option Addr} {n n' c c' : Nat → Nat} : ∀ k, (∀ i, i < k → s i = s' i ∧ n i = n' i ∧ c i = c' i) → rcells s n c k = rcells s' n' c' k
  | 0, _ => rfl
  | k + 1, h => by unfold rcells; rw [rcells_congr k (fun i hi => h i (by omega)), (h k (by omega)).1, (h k (by omega)).2.1, (h k (by omega)).2.2]
/-- A block that lists slices. -/
structure ROwn (W : World) (g k : Nat) (s : Nat → Option Addr) (n c : Nat → Nat) : Prop where
  lt : g < W.heap.size
  cells : ∀ i, i < k → W.cell? ⟨g, i, none⟩ = some (.slice (s i) (n i) (c i))
  free : ∀ i, W.frozen? ⟨g, i, none⟩ = false
theorem ROwn.kept {W W' : World} {B g k : Nat} {s : Nat → Option Addr} {n c : Nat → Nat} (h : ROwn W g k s n c) (hb : Below B W W') (hg : g < B) : ROwn W' g k s n c :=
  ⟨Nat.lt_of_lt_of_le h.lt hb.size, fun i hi => by rw [hb.cell (p := ⟨g, i, none⟩) hg]; exact h.cells i hi, fun i => by rw [hb.frozen (p := ⟨g, i, none⟩) hg]; exact h.free i⟩
theorem rows_of_owns {W : World} {base k : Nat} {v : Value} {s : Nat → Option Addr} {n c : Nat → Nat} (h : W.ownsRow base 58 1 v k (rcells s n c k)) (hk : 1 ≤ k) : ∃ g cap, v = .slice (some ⟨g, 0, none⟩) k cap ∧ base ≤ g ∧ ROwn W g k s n c := by
  obtain ⟨_, ⟨rfl, hx⟩ | ⟨g, cap, cur, rfl, hg, hh, hnc, hm, hs, ht⟩⟩ := h
  · have := rcells_len s n c k
    rw [hx] at this
    simp at this
    omega
  · refine ⟨g, _, rfl, hg, lt_of_block hh, fun i hi => ?_, fun i => frozen_of_row _ _ _ _ _ hh⟩
    have hc : W.cell? ⟨g, i, none⟩ = (rcells s n c k)[i]? := by
      rw [← ht, List.getElem?_take_of_lt (by omega)]
      simp [World.cell?, hh]
    rw [hc]
    exact rcells_get s n c i k hi
set_option maxRecDepth 100000 in
set_option maxHeartbeats 1000000 in
theorem cloneRows_any (sr : Option Addr) (k cap : Nat) (s : Nat → Option Addr) (n c : Nat → Nat) (f : Nat → Nat → Cel) (w : World) (hk0 : 1 ≤ k) (hk : k ≤ 6) (hr : CCRows w w.heap.size sr k s n c f) :
    Calls Try.prog 73 #[.slice sr k cap] w fun e w' => ∃ g cap', e = .returned (.slice (some ⟨g, 0, none⟩) k cap') ∧ Below w.heap.size w w' ∧ w.heap.size ≤ g ∧ ROwn w' g k s n c := by
  obtain ⟨i0, hi, hz0, hz1, hz2⟩ := info_parts Try.cellsInfo
  obtain ⟨bb, off, rfl, hbb, hat⟩ : ∃ bb off : Nat, sr = some ⟨bb, off, none⟩ ∧ bb < w.heap.size ∧ ∀ i, i < k → w.cell? ⟨bb, off + i, none⟩ = some (.slice (s i) (n i) (c i)) := by
    rcases hr with h | ⟨bb, off, h1, h2, h3⟩
    · omega
    · exact ⟨bb, off, h1, h2, fun i hi => (h3 i hi).1⟩
  have hat' : Hid (∀ (C : Array Value) j u, (rcells s n c k)[j]? = some u → (w.alloc (.cells C 58)).cell? ((⟨bb, off, none⟩ : Addr).add j) = some u) := fun C j u hu => by
    have hj : j < k := by
      have := (List.getElem?_eq_some_iff.1 hu).1
      rw [rcells_len] at this
      exact this
    have had : (⟨bb, off, none⟩ : Addr).add j = ⟨bb, off + j, none⟩ := by unfold Addr.add; split <;> simp_all
    rw [had, ((Below.refl w.heap.size w).alloc (Nat.le_refl _) _).cell (p := ⟨bb, off + j, none⟩) hbb, hat j hj, ← rcells_get s n c j k hj, hu]
  clear hr hat
  have hstart : ∀ C : Array Value, C.size = 0 → (w.alloc (.cells C 58)).ownsRow w.heap.size 58 1 (.slice (some ⟨w.heap.size, 0, none⟩) 0 0) 0 [] := fun C hC => ⟨rfl, Or.inr ⟨w.heap.size, 0, C, rfl, Nat.le_refl _, heap_alloc_new w _, Nat.le_refl _, Nat.zero_le _, by omega, by simp⟩⟩
  have hnil := rowsNil_any bb off k cap w
  go_enter Try.func73, Try.ntmps73
  go_wp2_with (at_builtin; refine wpList_append_own_at _ rfl (.tmp 5) (.tmp 6) 28 rfl w.heap.size 58 i0 (.slice none 0 0) 1 24 Try.underlying28 hi hz0 hz1 hz2 rfl (by decide) _ _ _ rfl (hstart _ rfl) ⟨bb, off, none⟩ k cap (rcells s n c k) rfl ?d0 ?d1 ?d2 ?d3 ?d4 ?d5 ?_)
  case d0 => rw [rcells_len, Nat.mul_one]
  case d1 => exact hat'.out _
  case d2 => exact rcells_one
  case d3 => unfold maxLen; omega
  case d4 => omega
  case d5 => simp <;> omega
  intro v4 w4 hown4 hgrow4 _ _
  have hb : Below w.heap.size w w4 := grown_lo ((World.grownBy_alloc _ _ _).trans hgrow4) (fun j e => by
    have e' : some w.heap.size = some j := e
    injection e' with e'
    omega) (Nat.le_refl _) (Nat.le_refl _)
  obtain ⟨g, cap', rfl, hg, ho⟩ := rows_of_owns (by simpa using hown4) hk0
  have H : Hid (Below w.heap.size w w4 ∧ w.heap.size ≤ g ∧ ROwn w4 g k s n c) := ⟨hb, hg, ho⟩
  clear hown4 hgrow4 hat' hb hg ho hstart
  go_wp2_with fail
  go_ret
  exact ⟨g, cap', rfl, H.out⟩
end Go.Proofs.Ytbdjjggaahjjpaa
