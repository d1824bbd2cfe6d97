/- What is said here: atoms that lie far from the source; texts that are appended to.
   What is said here: the cells of atoms, as plain mathematics.
   What is proved here: 'copy' from a slice of cells into a stretch of a slice of cells that the call owns.
   What is proved here: the specification's PatternRight says yes of a right pattern, no of another. -/
import Derived.Test.YtfeolbgenpknfaaGreatQPickWToDrawTxtW
import Derived.Test.YtfeolbgenpknfaaGreatQAtomRowWToSpecPRightW
import Derived.Deep.DeepCutAuto
import Derived.Deep.CutBlock
import Derived.Deep.RegionHeldLaw
import Derived.Test.YtfeolbgenpknfaaGreatQAtomDToPatM
import Derived.Test.YtfeolbgenpknfaaGreatQClassMToCellD
import Derived.Test.YtfeolbgenpknfaaGreatQMeanM
import Derived.Test.YtfeolbgenpknfaaGreatQStepVMToMaskD
import Derived.Laws.IdiomCopy
namespace Go.Proofs.YtfeolbgenpknfaaGreat
open Go.RowKit

/-- A pattern that was drawn: atoms of a block from lo on. -/
def AFar (w : World) (lo : Nat) (s : Option Addr) (n : Nat) (f : Nat → Atm) : Prop := n = 0 ∨ ∃ bb off : Nat, s = some ⟨bb, off, none⟩ ∧ lo ≤ bb ∧ bb < w.heap.size ∧ ∀ i, i < n → AtomAt w bb (off + i * 3) (f i)
theorem AFar.kept {w w' : World} {lo n : Nat} {row : Option Nat} {s : Option Addr} {f : Nat → Atm} (h : AFar w lo s n f) (hg : w.grownBy w' row) (hr : ∀ k, row = some k → k < lo) : AFar w' lo s n f := by
  rcases h with h | ⟨bb, off, h1, h2, h3, h4⟩
  · exact Or.inl h
  · have hb := hg.block bb h3 (fun e => by have := hr bb e.symm; omega)
    refine Or.inr ⟨bb, off, h1, h2, Nat.lt_of_lt_of_le h3 hg.size, fun i hi => ⟨?_, ?_, ?_⟩⟩
    · have := (h4 i hi).c0
      simpa [World.cell?, hb] using this
    · have := (h4 i hi).c1
      simpa [World.cell?, hb] using this
    · have := (h4 i hi).c2
      simpa [World.cell?, hb] using this
theorem AFar.row {w : World} {lo n : Nat} {s : Option Addr} {f : Nat → Atm} (h : AFar w lo s n f) : ARow w w.heap.size s n f := by
  rcases h with h | ⟨bb, off, h1, _, h3, h4⟩
  · exact Or.inl h
  · exact Or.inr ⟨bb, off, h1, h3, h4⟩
theorem ASl.far {w : World} {lo hi n : Nat} {s : Option Addr} {f : Nat → Atm} (h : ASl w lo hi s n f) : AFar w lo s n f := by
  rcases h with h | ⟨g, h1, h2, _, h3⟩
  · exact Or.inl h
  · exact Or.inr ⟨g, 0, h1, h2, h3.lt, fun i hi => by rw [Nat.zero_add]; exact h3.at' i hi⟩
theorem RowT.bytes {w : World} {B : Nat} {v : Value} {t : ByteArray} (h : RowT w B v t) : Row8 w B v (t.data.toList.map fun b => (b.toNat : Int)) := by
  have e : (t.data.toList.map fun b => (b.toNat : Int)).map (Value.int .u8) = Lib.strCells t := by simp [Lib.strCells]
  have e2 : (t.data.toList.map fun b => (b.toNat : Int)).length = t.size := by simp
  unfold Row8
  rw [e, e2]
  exact h
theorem RowT.of8 {w : World} {B : Nat} {v : Value} {t : ByteArray} {x : UInt8} (h : Row8 w B v ((t.data.toList.map fun b => (b.toNat : Int)) ++ [(x.toNat : Int)])) : RowT w B v (t.push x) := by
  have e : ((t.data.toList.map fun b => (b.toNat : Int)) ++ [(x.toNat : Int)]).map (Value.int .u8) = Lib.strCells (t.push x) := by simp [Lib.strCells]
  have e2 : ((t.data.toList.map fun b => (b.toNat : Int)) ++ [(x.toNat : Int)]).length = (t.push x).size := by simp
  unfold Row8 at h
  rw [e, e2] at h
  exact h
theorem Src.below {w w' : World} {b B : Nat} {sa : Option Addr} {len cap : Nat} (h : Src w b sa len cap) (hb : Below B w w') (hB : b < B) : Src w' b sa len cap := by
  obtain ⟨hl, hby, k, m, z, ⟨hat, r⟩, hz⟩ := h
  refine ⟨hl, ?_, k, m, z, ⟨by rw [hb.block b hB]; exact hat, r⟩, hz⟩
  rcases hby with h | ⟨bb, off, zs, h1, h2, h3, h4⟩
  · exact Or.inl h
  · exact Or.inr ⟨bb, off, zs, h1, h2, fun i hi => by rw [hb.cell (p := ⟨bb, off + i, none⟩) (show bb < B by omega)]; exact h3 i hi, h4⟩
theorem TxtIn.low {w W W' : World} {b : Nat} {sa : Option Addr} {len cap : Nat} {v v' : Value} {t t' : ByteArray} (h : TxtIn w W b sa len cap v t) (hb : b < w.heap.size) (ho : RowT W' w.heap.size v' t') (hg : Below w.heap.size W W') : TxtIn w W' b sa len cap v' t' :=
  ⟨⟨hg.os.trans h.g.os, hg.tape.trans h.g.tape, hg.output.trans h.g.output, Nat.le_trans h.g.size hg.size, fun k hk hne => (hg.block k hk).trans (h.g.block k hk hne)⟩, h.s.below hg hb, ho⟩
theorem TxtIn.drew {w W : World} {b : Nat} {sa : Option Addr} {len cap : Nat} {v : Value} {t : ByteArray} (h : TxtIn w W b sa len cap v t) : TxtIn w W.drew b sa len cap v t :=
  ⟨⟨h.g.os, h.g.tape, h.g.output, h.g.size, h.g.block⟩, h.s.after ⟨rfl, rfl, rfl, Nat.le_refl _, fun _ _ => rfl⟩, h.o⟩
theorem push_size (t : ByteArray) (x : UInt8) : (t.push x).size = t.size + 1 := by simp
end Go.Proofs.YtfeolbgenpknfaaGreat
namespace Go.Proofs.YtfeolbgenpknfaaGreat

/-- How many cells an atom has. -/
def cnt (a : Atm) : Nat := (counted a).toNat
/-- The cells of an atom. -/
def cellA (a : Atm) (k : Nat) : Cel := ⟨a.c, decide (a.l ≤ (k : Int)), decide (a.m = -1 ∧ k + 1 = cnt a)⟩
def cellsA (a : Atm) : List Cel := (List.range (cnt a)).map (cellA a)
/-- The cells of a pattern. -/
def cellsP (L : List Atm) : List Cel := L.flatMap cellsA
theorem cellsA_len (a : Atm) : (cellsA a).length = cnt a := by simp [cellsA]
theorem cellsP_append (L : List Atm) (a : Atm) : cellsP (L ++ [a]) = cellsP L ++ cellsA a := by simp [cellsP]
theorem cellsA_get {a : Atm} {k : Nat} (h : k < cnt a) : (cellsA a).getD k cel0 = cellA a k := by simp [cellsA, List.getD, h]
theorem cnt_bd {a : Atm} (h : AtomRight a) : 1 ≤ cnt a ∧ cnt a ≤ 20 ∧ (cnt a : Int) = counted a := by
  have := counted_bd h
  unfold cnt
  omega
theorem sum_len {f : Nat → Atm} : ∀ k, (∀ i, i < k → AtomRight (f i)) → ((cellsP (atomsL f k)).length : Int) = sumTo (fun i => counted (f i)) k
  | 0, _ => rfl
  | k + 1, h => by
    rw [atomsL_succ, cellsP_append, List.length_append, cellsA_len]
    have h1 := sum_len k (fun i hi => h i (by omega))
    have h2 := (cnt_bd (h k (by omega))).2.2
    show _ = sumTo (fun i => counted (f i)) k + counted (f k)
    omega
theorem sumTo_mono {f : Nat → Atm} : ∀ {k n : Nat}, k ≤ n → (∀ i, i < n → AtomRight (f i)) → sumTo (fun i => counted (f i)) k ≤ sumTo (fun i => counted (f i)) n
  | k, 0, h, _ => by obtain rfl : k = 0 := by omega
                     exact Int.le_refl _
  | k, n + 1, h, hr => by
    by_cases e : k = n + 1
    · rw [e]; exact Int.le_refl _
    · have h1 := sumTo_mono (k := k) (n := n) (by omega) (fun i hi => hr i (by omega))
      have h2 := (counted_bd (hr n (by omega))).1
      show _ ≤ sumTo (fun i => counted (f i)) n + counted (f n)
      omega
end Go.Proofs.YtfeolbgenpknfaaGreat
namespace Go.Proofs.YtfeolbgenpknfaaGreat
open Go.RowKit

theorem run_copy3 {P : Program} (w : World) (dT sT ty elem : TypeId) (b o dLen dCap : Nat) (a : Addr) (sLen sCap : Nat) (cs : List Value)
    (hu : P.underlying dT = some (.slice elem)) (hs : (P.info? elem).map (·.size) = some 3) (hn : cs.length = Nat.min sLen dLen * 3)
    (hsrc : ∀ j v, cs[j]? = some v → w.cell? (a.add j) = some v) (hc : ∀ j, j < cs.length → (w.cell? ⟨b, o + j, none⟩).isSome = true) (hf : ∀ j, j < cs.length → w.frozen? ⟨b, o + j, none⟩ = false) (h1 : ∀ v ∈ cs, v.oneCell' = true) :
    (Builtin.copy_ #[dT, sT] ty #[.slice (some ⟨b, o, none⟩) dLen dCap, .slice (some a) sLen sCap]).run P w = .ok (goInt (Nat.min sLen dLen)) (w.setCells b o cs) := by
  have hl := run_loadCells_list (P := P) w a cs hsrc
  have hst := run_storeCells_cells (P := P) b o cs 0 w (by simpa using hc) (by simpa using hf) h1
  cases hq : P.info? elem with
  | none => simp [hq] at hs
  | some i =>
    have hi : i.size = 3 := by simpa [hq] using hs
    simp [Builtin.copy_, run_underlying hu, Builtin.lenOf, Builtin.firstCells, sizeOf, typeInfo, hq, hi, ← hn, hl, hst]
/-- The cells of a list. -/
def kcells : List Cel → List Value
  | [] => []
  | a :: l => .string a.c :: .bool a.k :: .bool a.o :: kcells l
theorem kcells_len : ∀ l : List Cel, (kcells l).length = l.length * 3
  | [] => rfl
  | a :: l => by simp [kcells, kcells_len l]; omega
theorem kcells_append : ∀ l m : List Cel, kcells (l ++ m) = kcells l ++ kcells m
  | [], _ => rfl
  | a :: l, m => by show _ :: _ :: _ :: kcells (l ++ m) = _; rw [kcells_append l m]; rfl
theorem kcells_get : ∀ (l : List Cel) (i : Nat), i < l.length → (kcells l)[i * 3]? = some (.string (l.getD i cel0).c) ∧ (kcells l)[i * 3 + 1]? = some (.bool (l.getD i cel0).k) ∧ (kcells l)[i * 3 + 2]? = some (.bool (l.getD i cel0).o)
  | [], i, h => by simp at h
  | a :: l, 0, _ => ⟨rfl, rfl, rfl⟩
  | a :: l, i + 1, h => by
    have h1 := kcells_get l i (by simpa using h)
    have e1 : (i + 1) * 3 = i * 3 + 1 + 1 + 1 := by omega
    have e2 : i * 3 + 1 + 1 + 1 + 2 = i * 3 + 2 + 1 + 1 + 1 := by omega
    unfold kcells
    rw [e1, e2]
    simp only [List.getElem?_cons_succ, List.getD_cons_succ]
    exact h1
theorem kcells_one (l : List Cel) : ∀ v ∈ kcells l, v.oneCell' = true := by
  induction l with
  | nil => intro v hv; cases hv
  | cons a l ih =>
    intro v hv
    simp only [kcells, List.mem_cons] at hv
    rcases hv with rfl | rfl | rfl | hv
    · rfl
    · rfl
    · rfl
    · exact ih v hv
theorem only_setCells3 {a : World} (g : Nat) : ∀ (vs : List Value) (o : Nat) {w : World}, a.grownBy w (some g) → a.grownBy (w.setCells g o vs) (some g)
  | [], _, _, h => h
  | _ :: r, o, _, h => only_setCells3 g r (o + 1) (h.trans ⟨rfl, rfl, rfl, by simp [World.setCell], fun k _ hk => Below.heap_setCell _ _ _ _ (fun e => hk (by simp [e]))⟩)
/-- So many cells of a row are copied behind those that lie there. -/
theorem copy_cells (w : World) (g N K k m cd cs2 : Nat) (sb : Option Addr) (F f : Nat → Cel) (hm : 0 < m) (hk : k + m ≤ N) (hK : K = N - k) (ho : COwn w g N F) (hr : CRow w w.heap.size sb m f) :
    ∃ w', (Builtin.copy_ #[23, 23] 3 #[.slice (some ⟨g, k * 3, none⟩) K cd, .slice sb m cs2]).run Tryz.prog w = .ok (.int .i64 (m : Int)) w' ∧ w.grownBy w' (some g) ∧ COwn w' g N (fun i => if k ≤ i ∧ i < k + m then f (i - k) else F i) := by
  obtain ⟨bb, off, rfl, hbb, hca⟩ : ∃ bb off : Nat, sb = some ⟨bb, off, none⟩ ∧ bb < w.heap.size ∧ ∀ i, i < m → CellAt w bb (off + i * 3) (f i) := by
    rcases hr with h | h
    · omega
    · exact h
  obtain ⟨i0, hi, hz0, hz1, hz2⟩ := info_parts Tryz.cellInfo
  have hlen : ((List.range m).map f).length = m := by simp
  have hl : (kcells ((List.range m).map f)).length = m * 3 := by rw [kcells_len, hlen]
  have hget : ∀ i, i < m → ((List.range m).map f).getD i cel0 = f i := fun i hi => by simp [List.getD, hi]
  have hall : ∀ j, j < m * 3 → ∃ i r, i < m ∧ r < 3 ∧ j = i * 3 + r := fun j hj => ⟨j / 3, j % 3, by omega, by omega, by omega⟩
  have hcellg : ∀ j, j < m * 3 → (w.cell? ⟨g, k * 3 + j, none⟩).isSome = true := fun j hj => by
    obtain ⟨i, r, h1, h2, rfl⟩ := hall j hj
    obtain ⟨a0, a1, a2⟩ := ho.at' (k + i) (by omega)
    rcases (show r = 0 ∨ r = 1 ∨ r = 2 by omega) with rfl | rfl | rfl
    · rw [show k * 3 + (i * 3 + 0) = (k + i) * 3 by omega, a0]; rfl
    · rw [show k * 3 + (i * 3 + 1) = (k + i) * 3 + 1 by omega, a1]; rfl
    · rw [show k * 3 + (i * 3 + 2) = (k + i) * 3 + 2 by omega, a2]; rfl
  have hmin : Nat.min m K = m := by rw [hK]; exact Nat.min_eq_left (by omega)
  have h := run_copy3 (P := Tryz.prog) w 23 23 3 98 g (k * 3) K cd ⟨bb, off, none⟩ m cs2 (kcells ((List.range m).map f)) Tryz.underlying23 (by rw [hi]; simp [hz1]) (by rw [hl, hmin])
    (fun j v hv => by
      have hj : j < m * 3 := by
        rcases Nat.lt_or_ge j (m * 3) with h | h
        · exact h
        · rw [List.getElem?_eq_none (by omega)] at hv
          cases hv
      have hp : (⟨bb, off, none⟩ : Addr).add j = ⟨bb, off + j, none⟩ := by unfold Addr.add; split <;> simp_all
      rw [hp]
      obtain ⟨i, r, h1, h2, rfl⟩ := hall j hj
      obtain ⟨a0, a1, a2⟩ := hca i h1
      obtain ⟨b0, b1, b2⟩ := kcells_get ((List.range m).map f) i (by rw [hlen]; exact h1)
      rw [hget i h1] at b0 b1 b2
      rcases (show r = 0 ∨ r = 1 ∨ r = 2 by omega) with rfl | rfl | rfl
      · rw [← hv, show i * 3 + 0 = i * 3 by omega, a0, b0]
      · rw [← hv, ← Nat.add_assoc, a1, b1]
      · rw [← hv, ← Nat.add_assoc, a2, b2])
    (fun j hj => hcellg j (by omega)) (fun j hj => ho.free _ (by omega)) (kcells_one _)
  rw [hmin] at h
  refine ⟨_, h, only_setCells3 g _ _ (World.grownBy.refl _ _), Nat.lt_of_lt_of_le ho.lt (only_setCells3 g _ _ (World.grownBy.refl _ _)).size, fun i hi => ?_, fun i hi => by rw [World.frozen?_setCells]; exact ho.free i hi⟩
  have hin := fun j (hj : j < m * 3) => World.cell?_setCells_in g (kcells ((List.range m).map f)) (k * 3) w (fun i hi => hcellg i (by omega)) j (by rw [hl]; exact hj)
  have hout := fun (j : Nat) (hj : j < k * 3 ∨ k * 3 + m * 3 ≤ j) => World.cell?_setCells_out g (kcells ((List.range m).map f)) (k * 3) w ⟨g, j, none⟩ (fun _ _ => by rw [hl]; exact hj)
  by_cases e : k ≤ i ∧ i < k + m
  · rw [if_pos e]
    obtain ⟨b0, b1, b2⟩ := kcells_get ((List.range m).map f) (i - k) (by rw [hlen]; omega)
    rw [hget (i - k) (by omega)] at b0 b1 b2
    have h0 := hin ((i - k) * 3) (by omega)
    have h1 := hin ((i - k) * 3 + 1) (by omega)
    have h2 := hin ((i - k) * 3 + 2) (by omega)
    rw [show k * 3 + (i - k) * 3 = i * 3 by omega] at h0
    rw [show k * 3 + ((i - k) * 3 + 1) = i * 3 + 1 by omega] at h1
    rw [show k * 3 + ((i - k) * 3 + 2) = i * 3 + 2 by omega] at h2
    rw [← List.getElem?_eq_getElem] at h0 h1 h2
    exact ⟨h0.trans b0, h1.trans b1, h2.trans b2⟩
  · rw [if_neg e]
    obtain ⟨a0, a1, a2⟩ := ho.at' i hi
    exact ⟨(hout (i * 3) (by omega)).trans a0, (hout (i * 3 + 1) (by omega)).trans a1, (hout (i * 3 + 2) (by omega)).trans a2⟩
end Go.Proofs.YtfeolbgenpknfaaGreat
namespace Go.Proofs.YtfeolbgenpknfaaGreat
open Go.RowKit

open Classical in
theorem specPRight_yes (sa : Option Addr) (n cap : Nat) (f : Nat → Atm) (w : World) (hn : n ≤ maxLen) (hr : ARow w w.heap.size sa n f) (hc : ∀ i, i < n → (f i).c.size ≤ maxLen) (h : PatRight n f) :
    Calls Tryz.prog 89 #[.slice sa n cap] w fun e w' => e = .returned (.bool true) ∧ Below w.heap.size w w' :=
  (specPRight_any sa n cap f w hn hr hc).mono fun _ _ h2 => ⟨by rw [h2.1, decide_eq_true h], h2.2⟩
open Classical in
theorem specPRight_no (sa : Option Addr) (n cap : Nat) (f : Nat → Atm) (w : World) (hn : n ≤ maxLen) (hr : ARow w w.heap.size sa n f) (hc : ∀ i, i < n → (f i).c.size ≤ maxLen) (h : ¬ PatRight n f) :
    Calls Tryz.prog 89 #[.slice sa n cap] w fun e w' => e = .returned (.bool false) ∧ Below w.heap.size w w' :=
  (specPRight_any sa n cap f w hn hr hc).mono fun _ _ h2 => ⟨by rw [h2.1, decide_eq_false h], h2.2⟩
end Go.Proofs.YtfeolbgenpknfaaGreat
