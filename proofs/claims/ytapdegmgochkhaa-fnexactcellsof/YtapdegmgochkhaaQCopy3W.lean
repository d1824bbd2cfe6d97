/- What is proved here: 'copy' from a slice of cells into a stretch of a slice of cells that the call owns. -/
import Derived.Test.YtapdegmgochkhaaQCellS
import Derived.Laws.IdiomCopy
namespace Go.Proofs.Ytapdegmgochkhaa
open Go.RowKit

theorem run_copy3 {P : Program} (w : World) (dT sT ty elem : TypeId) (b o dLen dCap : Nat) (a : Addr) (sLen sCap : Nat) (cs : List Value)
    (hu : P.underlying dT = some (.slice elem)) (hs : (P.info? elem).map (·.size) = some 3) (hn : cs.length = Nat.min sLen dLen * 3)
    (hsrc : ∀ j v, cs[j]? = some v → w.cell? (a.add j) = some v) (hc : ∀ j, j < cs.length → (w.cell? ⟨b, o + j, none⟩).isSome = true) (hf : ∀ j, j < cs.length → w.frozen? ⟨b, o + j, none⟩ = false) (h1 : ∀ v ∈ cs, v.oneCell' = true) :
    (Builtin.copy_ #[dT, sT] ty #[.slice (some ⟨b, o, none⟩) dLen dCap, .slice (some a) sLen sCap]).run P w = .ok (goInt (Nat.min sLen dLen)) (w.setCells b o cs) := by
  have hl := run_loadCells_list (P := P) w a cs hsrc
  have hst := run_storeCells_cells (P := P) b o cs 0 w (by simpa using hc) (by simpa using hf) h1
  cases hq : P.info? elem with
  | none => simp [hq] at hs
  | some i =>
    have hi : i.size = 3 := by simpa [hq] using hs
    simp [Builtin.copy_, run_underlying hu, Builtin.lenOf, Builtin.firstCells, sizeOf, typeInfo, hq, hi, ← hn, hl, hst]
/-- The cells of a list. -/
def kcells : List Cel → List Value
  | [] => []
  | a :: l => .string a.c :: .bool a.k :: .bool a.o :: kcells l
theorem kcells_len : ∀ l : List Cel, (kcells l).length = l.length * 3
  | [] => rfl
  | a :: l => by simp [kcells, kcells_len l]; omega
theorem kcells_append : ∀ l m : List Cel, kcells (l ++ m) = kcells l ++ kcells m
  | [], _ => rfl
  | a :: l, m => by show _ :: _ :: _ :: kcells (l ++ m) = _; rw [kcells_append l m]; rfl
theorem kcells_get : ∀ (l : List Cel) (i : Nat), i < l.length → (kcells l)[i * 3]? = some (.string (l.getD i cel0).c) ∧ (kcells l)[i * 3 + 1]? = some (.bool (l.getD i cel0).k) ∧ (kcells l)[i * 3 + 2]? = some (.bool (l.getD i cel0).o)
  | [], i, h => by simp at h
  | a :: l, 0, _ => ⟨rfl, rfl, rfl⟩
  | a :: l, i + 1, h => by
    have h1 := kcells_get l i (by simpa using h)
    have e1 : (i + 1) * 3 = i * 3 + 1 + 1 + 1 := by omega
    have e2 : i * 3 + 1 + 1 + 1 + 2 = i * 3 + 2 + 1 + 1 + 1 := by omega
    unfold kcells
    rw [e1, e2]
    simp only [List.getElem?_cons_succ, List.getD_cons_succ]
    exact h1
theorem kcells_one (l : List Cel) : ∀ v ∈ kcells l, v.oneCell' = true := by
  induction l with
  | nil => intro v hv; cases hv
  | cons a l ih =>
    intro v hv
    simp only [kcells, List.mem_cons] at hv
    rcases hv with rfl | rfl | rfl | hv
    · rfl
    · rfl
    · rfl
    · exact ih v hv
theorem only_setCells3 {a : World} (g : Nat) : ∀ (vs : List Value) (o : Nat) {w : World}, a.grownBy w (some g) → a.grownBy (w.setCells g o vs) (some g)
  | [], _, _, h => h
  | _ :: r, o, _, h => only_setCells3 g r (o + 1) (h.trans ⟨rfl, rfl, rfl, by simp [World.setCell], fun k _ hk => Below.heap_setCell _ _ _ _ (fun e => hk (by simp [e]))⟩)
/-- So many cells of a row are copied behind those that lie there. -/
theorem copy_cells (w : World) (g N K k m cd cs2 : Nat) (sb : Option Addr) (F f : Nat → Cel) (hm : 0 < m) (hk : k + m ≤ N) (hK : K = N - k) (ho : COwn w g N F) (hr : CRow w w.heap.size sb m f) :
    ∃ w', (Builtin.copy_ #[25, 25] 3 #[.slice (some ⟨g, k * 3, none⟩) K cd, .slice sb m cs2]).run Try.prog w = .ok (.int .i64 (m : Int)) w' ∧ w.grownBy w' (some g) ∧ COwn w' g N (fun i => if k ≤ i ∧ i < k + m then f (i - k) else F i) := by
  obtain ⟨bb, off, rfl, hbb, hca⟩ : ∃ bb off : Nat, sb = some ⟨bb, off, none⟩ ∧ bb < w.heap.size ∧ ∀ i, i < m → CellAt w bb (off + i * 3) (f i) := by
    rcases hr with h | h
    · omega
    · exact h
  obtain ⟨i0, hi, hz0, hz1, hz2⟩ := info_parts Try.cellInfo
  have hlen : ((List.range m).map f).length = m := by simp
  have hl : (kcells ((List.range m).map f)).length = m * 3 := by rw [kcells_len, hlen]
  have hget : ∀ i, i < m → ((List.range m).map f).getD i cel0 = f i := fun i hi => by simp [List.getD, hi]
  have hall : ∀ j, j < m * 3 → ∃ i r, i < m ∧ r < 3 ∧ j = i * 3 + r := fun j hj => ⟨j / 3, j % 3, by omega, by omega, by omega⟩
  have hcellg : ∀ j, j < m * 3 → (w.cell? ⟨g, k * 3 + j, none⟩).isSome = true := fun j hj => by
    obtain ⟨i, r, h1, h2, rfl⟩ := hall j hj
    obtain ⟨a0, a1, a2⟩ := ho.at' (k + i) (by omega)
    rcases (show r = 0 ∨ r = 1 ∨ r = 2 by omega) with rfl | rfl | rfl
    · rw [show k * 3 + (i * 3 + 0) = (k + i) * 3 by omega, a0]; rfl
    · rw [show k * 3 + (i * 3 + 1) = (k + i) * 3 + 1 by omega, a1]; rfl
    · rw [show k * 3 + (i * 3 + 2) = (k + i) * 3 + 2 by omega, a2]; rfl
  have hmin : Nat.min m K = m := by rw [hK]; exact Nat.min_eq_left (by omega)
  have h := run_copy3 (P := Try.prog) w 25 25 3 85 g (k * 3) K cd ⟨bb, off, none⟩ m cs2 (kcells ((List.range m).map f)) Try.underlying25 (by rw [hi]; simp [hz1]) (by rw [hl, hmin])
    (fun j v hv => by
      have hj : j < m * 3 := by
        rcases Nat.lt_or_ge j (m * 3) with h | h
        · exact h
        · rw [List.getElem?_eq_none (by omega)] at hv
          cases hv
      have hp : (⟨bb, off, none⟩ : Addr).add j = ⟨bb, off + j, none⟩ := by unfold Addr.add; split <;> simp_all
      rw [hp]
      obtain ⟨i, r, h1, h2, rfl⟩ := hall j hj
      obtain ⟨a0, a1, a2⟩ := hca i h1
      obtain ⟨b0, b1, b2⟩ := kcells_get ((List.range m).map f) i (by rw [hlen]; exact h1)
      rw [hget i h1] at b0 b1 b2
      rcases (show r = 0 ∨ r = 1 ∨ r = 2 by omega) with rfl | rfl | rfl
      · rw [← hv, show i * 3 + 0 = i * 3 by omega, a0, b0]
      · rw [← hv, ← Nat.add_assoc, a1, b1]
      · rw [← hv, ← Nat.add_assoc, a2, b2])
    (fun j hj => hcellg j (by omega)) (fun j hj => ho.free _ (by omega)) (kcells_one _)
  rw [hmin] at h
  refine ⟨_, h, only_setCells3 g _ _ (World.grownBy.refl _ _), Nat.lt_of_lt_of_le ho.lt (only_setCells3 g _ _ (World.grownBy.refl _ _)).size, fun i hi => ?_, fun i hi => by rw [World.frozen?_setCells]; exact ho.free i hi⟩
  have hin := fun j (hj : j < m * 3) => World.cell?_setCells_in g (kcells ((List.range m).map f)) (k * 3) w (fun i hi => hcellg i (by omega)) j (by rw [hl]; exact hj)
  have hout := fun (j : Nat) (hj : j < k * 3 ∨ k * 3 + m * 3 ≤ j) => World.cell?_setCells_out g (kcells ((List.range m).map f)) (k * 3) w ⟨g, j, none⟩ (fun _ _ => by rw [hl]; exact hj)
  by_cases e : k ≤ i ∧ i < k + m
  · rw [if_pos e]
    obtain ⟨b0, b1, b2⟩ := kcells_get ((List.range m).map f) (i - k) (by rw [hlen]; omega)
    rw [hget (i - k) (by omega)] at b0 b1 b2
    have h0 := hin ((i - k) * 3) (by omega)
    have h1 := hin ((i - k) * 3 + 1) (by omega)
    have h2 := hin ((i - k) * 3 + 2) (by omega)
    rw [show k * 3 + (i - k) * 3 = i * 3 by omega] at h0
    rw [show k * 3 + ((i - k) * 3 + 1) = i * 3 + 1 by omega] at h1
    rw [show k * 3 + ((i - k) * 3 + 2) = i * 3 + 2 by omega] at h2
    rw [← List.getElem?_eq_getElem] at h0 h1 h2
    exact ⟨h0.trans b0, h1.trans b1, h2.trans b2⟩
  · rw [if_neg e]
    obtain ⟨a0, a1, a2⟩ := ho.at' i hi
    exact ⟨(hout (i * 3) (by omega)).trans a0, (hout (i * 3 + 1) (by omega)).trans a1, (hout (i * 3 + 2) (by omega)).trans a2⟩
end Go.Proofs.Ytapdegmgochkhaa
