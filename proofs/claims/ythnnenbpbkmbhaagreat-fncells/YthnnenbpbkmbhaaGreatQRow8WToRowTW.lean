/- What is proved here: rows of bytes that are appended to: rows that the call owns, and rows that have no room left.
   What is proved here: rows of bytes told by a text: a text is appended to them, and they are read as a text. -/
import Derived.Test.YthnnenbpbkmbhaaGreatQBytesRowWToDrawD
import Derived.Laws.AppendOwn
import Derived.ArgAppend
import Derived.Lib.AppendStr
namespace Go.Proofs.YthnnenbpbkmbhaaGreat
open Go.RowKit

/-- A row of bytes that the call owns, from block B on. -/
def Row8 (w : World) (B : Nat) (v : Value) (M : List Int) : Prop := w.ownsRow B 5 1 v M.length (M.map (Value.int .u8))
/-- Such a row, or one without room. -/
def RowX (w : World) (B : Nat) (v : Value) (M : List Int) : Prop := Row8 w B v M ∨ ∃ g, v = .slice (some ⟨g, 0, none⟩) M.length M.length ∧ B ≤ g ∧ g < w.heap.size ∧ ∀ j u, (M.map (Value.int .u8))[j]? = some u → w.cell? ⟨g, j, none⟩ = some u
theorem Row8.kept {w w' : World} {B : Nat} {v : Value} {M : List Int} (h : Row8 w B v M) (hb : Below w.heap.size w w') : Row8 w' B v M := by
  obtain ⟨hl, h⟩ := h
  refine ⟨hl, ?_⟩
  rcases h with h | ⟨g, cap, cur, h1, h2, h3, h4⟩
  · exact Or.inl h
  · refine Or.inr ⟨g, cap, cur, h1, h2, ?_, h4⟩
    rw [hb.block g (lt_of_block h3)]
    exact h3
theorem Row8.x {w : World} {B : Nat} {v : Value} {M : List Int} (h : Row8 w B v M) : RowX w B v M := Or.inl h
theorem RowX.kept {w w' : World} {B : Nat} {v : Value} {M : List Int} (h : RowX w B v M) (hb : Below w.heap.size w w') : RowX w' B v M := by
  rcases h with h | ⟨g, h1, h2, h3, h4⟩
  · exact Or.inl (h.kept hb)
  · exact Or.inr ⟨g, h1, h2, Nat.lt_of_lt_of_le h3 hb.size, fun j u hu => by rw [hb.cell (p := ⟨g, j, none⟩) h3]; exact h4 j u hu⟩
theorem RowX.alloc {w : World} {B : Nat} {v : Value} {M : List Int} (h : RowX w B v M) (o : Obj) : RowX (w.alloc o) B v M := h.kept ((Below.refl _ _).alloc (Nat.le_refl _) _)
theorem RowX.drew {w : World} {B : Nat} {v : Value} {M : List Int} (h : RowX w B v M) : RowX w.drew B v M := h
theorem Row8.none (w : World) (B : Nat) : Row8 w B (.slice none 0 0) [] := ⟨rfl, Or.inl ⟨rfl, rfl⟩⟩
theorem owns_low {w : World} {base base' n size : Nat} {e : TypeId} {v : Value} {xs : List Value} (h : w.ownsRow base e size v n xs) (hb : base' ≤ base) : w.ownsRow base' e size v n xs := by
  obtain ⟨hl, h⟩ := h
  refine ⟨hl, ?_⟩
  rcases h with h | ⟨g, cap, cur, h1, h2, h3⟩
  · exact Or.inl h
  · exact Or.inr ⟨g, cap, cur, h1, by omega, h3⟩
theorem below_grown {w w' : World} {B : Nat} {row : Option Nat} (h : w.grownBy w' row) (hB : B ≤ w.heap.size) (hr : ∀ g, row = some g → B ≤ g) : Below B w w' :=
  ⟨h.os, h.tape, h.output, h.size, fun k hk => h.block k (by omega) (fun e => by have := hr k e.symm; omega)⟩
theorem run_app8 (w : World) (ty : TypeId) (B : Nat) (v : Value) (M N : List Int) (hX : RowX w B v M) (hB : B ≤ w.heap.size) (ad : Addr) (c : Nat) (hN : 0 < N.length) (hnews : ∀ j u, (N.map (Value.int .u8))[j]? = some u → w.cell? (ad.add j) = some u) (hs : M.length + N.length ≤ 10000000) :
    ∃ v' w', (Builtin.append_ #[22, 22] ty #[v, .slice (some ad) N.length c]).run Tryz.prog w = .ok v' w' ∧ Row8 w' B v' (M ++ N) ∧ Below B w w' := by
  obtain ⟨i0, hi, hz0, hz1, hz2⟩ := info_parts Tryz.drawInfo
  have h1c : ∀ u ∈ N.map (Value.int .u8), u.oneCell' = true := fun u hu => by
    obtain ⟨x, _, rfl⟩ := List.mem_map.1 hu
    rfl
  have b1 : M.length + N.length ≤ maxLen := by unfold maxLen; omega
  rcases hX with h | ⟨g, rfl, hg, hlt, hc⟩
  · obtain ⟨v', w', hr, ho, hgr, _⟩ := run_append_own (P := Tryz.prog) w B 22 ty 5 i0 (.int .u8 0) 1 1 Tryz.underlying22 hi hz0 hz1 hz2 rfl (by decide) v M.length (M.map (Value.int .u8)) h ad N.length c (N.map (Value.int .u8)) (by simp) hnews h1c b1 (by omega) hB
    refine ⟨v', w', hr, ?_, below_grown hgr hB (fun k hk => (h.lt k hk).1)⟩
    show w'.ownsRow B 5 1 v' (M ++ N).length ((M ++ N).map (Value.int .u8))
    rw [List.length_append, List.map_append]
    exact ho
  · obtain ⟨v', w', hr, ho, hgr⟩ := run_append_arg_grows (P := Tryz.prog) w 22 ty 5 i0 (.int .u8 0) 1 1 Tryz.underlying22 hi hz0 hz1 hz2 rfl (by decide) ⟨g, 0, Option.none⟩ M.length M.length (M.map (Value.int .u8)) (by simp) (fun j u hu => by
      have h1 := hc j u hu
      have e : (⟨g, 0, Option.none⟩ : Addr).add j = ⟨g, j, Option.none⟩ := by unfold Addr.add; split <;> simp_all
      rw [e]; exact h1) ad N.length c (N.map (Value.int .u8)) (by simp) hnews (by omega) b1 (by omega)
    refine ⟨v', w', hr, ?_, below_grown hgr hB (fun k hk => by cases hk)⟩
    show w'.ownsRow B 5 1 v' (M ++ N).length ((M ++ N).map (Value.int .u8))
    rw [List.length_append, List.map_append]
    exact owns_low ho hB
section
variable {ops : Array Oper} {rest : List Oper} {o : Oper} {a : Act} {w : World} {K : Act → World → Prop} {Q : Exit → Act → World → Prop}
theorem wp_app8 (s x : Operand) (ho : o.op = .call { callee := .builtin .append, args := #[s, x], argTypes := #[22, 22] })
    (B : Nat) (v : Value) (M N : List Int) (hs : a.eval s = v) (hX : RowX w B v M) (hB : B ≤ w.heap.size) (ad : Addr) (c : Nat) (hx : a.eval x = .slice (some ad) N.length c) (hN : 0 < N.length) (hnews : ∀ j u, (N.map (Value.int .u8))[j]? = some u → w.cell? (ad.add j) = some u) (hl : M.length + N.length ≤ 10000000)
    (h : ∀ v' w', Row8 w' B v' (M ++ N) → Below B w w' → K (a.put o.dst v') w') : o.wp Tryz.prog a w K Q := by
  obtain ⟨v', w', hr, h2, h3⟩ := run_app8 w o.type B v M N hX hB ad c hN hnews hl
  unfold Oper.wp execOp
  simp only [ho, resolve, invoke, builtin, Sem.run_bind, Sem.run_pure, Result.andThen_ok, List.map_toArray, List.map_cons, List.map_nil, hs, hx, hr]
  exact h v' w' h2 h3
theorem wpList_app8 (hgd : o.guard = none) (s x : Operand) (ho : o.op = .call { callee := .builtin .append, args := #[s, x], argTypes := #[22, 22] })
    (B : Nat) (v : Value) (M N : List Int) (hs : a.eval s = v) (hX : RowX w B v M) (hB : B ≤ w.heap.size) (ad : Addr) (c : Nat) (hx : a.eval x = .slice (some ad) N.length c) (hN : 0 < N.length) (hnews : ∀ j u, (N.map (Value.int .u8))[j]? = some u → w.cell? (ad.add j) = some u) (hl : M.length + N.length ≤ 10000000)
    (h : ∀ v' w', Row8 w' B v' (M ++ N) → Below B w w' → wpList Tryz.prog ops Q rest (a.put o.dst v') w') : wpList Tryz.prog ops Q (o :: rest) a w :=
  wpList_plain hgd fun _ hK => wp_app8 s x ho B v M N hs hX hB ad c hx hN hnews hl fun v' w' h2 h3 => hK _ _ (h v' w' h2 h3)
theorem step_app8 {E : Prop} (hg : o.guard = none) (s x : Operand) (ho : o.op = .call { callee := .builtin .append, args := #[s, x], argTypes := #[22, 22] })
    (B : Nat) (v : Value) (M N : List Int) (hs : a.eval s = v) (hX : RowX w B v M) (hB : B ≤ w.heap.size) (ad : Addr) (c : Nat) (hx : a.eval x = .slice (some ad) N.length c) (hN : 0 < N.length) (hnews : ∀ j u, (N.map (Value.int .u8))[j]? = some u → w.cell? (ad.add j) = some u) (hl : M.length + N.length ≤ 10000000)
    (h : ∀ v' w', Row8 w' B v' (M ++ N) → Below B w w' → K (a.put o.dst v') w') : if Region.wanted o (yielded ops a.tmps) = true then Oper.wp Tryz.prog o a w K Q else E := by
  rw [if_pos (by simp [Region.wanted, hg])]
  exact wp_app8 s x ho B v M N hs hX hB ad c hx hN hnews hl h
end
/-- The cells of a slice that was just built. -/
theorem new_cells (w : World) (N : List Int) (C : Array Value) (t : TypeId) (hC : C.toList = N.map (Value.int .u8)) : ∀ j u, (N.map (Value.int .u8))[j]? = some u → (w.alloc (.cells C t)).cell? ((⟨w.heap.size, 0, Option.none⟩ : Addr).add j) = some u := by
  intro j u hu
  have e : (⟨w.heap.size, 0, Option.none⟩ : Addr).add j = ⟨w.heap.size, j, Option.none⟩ := by unfold Addr.add; split <;> simp_all
  rw [e, World.cell?_alloc_mark, ← hu, ← hC]
  simp
end Go.Proofs.YthnnenbpbkmbhaaGreat
namespace Go.Proofs.YthnnenbpbkmbhaaGreat
open Go.RowKit

/-- A row of bytes that the call owns, told by a text. -/
def RowT (w : World) (B : Nat) (v : Value) (t : ByteArray) : Prop := w.ownsRow B 5 1 v t.size (Lib.strCells t)
theorem strCells_app (a b : ByteArray) : Lib.strCells (a ++ b) = Lib.strCells a ++ Lib.strCells b := by simp [Lib.strCells]
theorem RowT.none (w : World) (B : Nat) : RowT w B (.slice none 0 0) ⟨#[]⟩ := ⟨rfl, Or.inl ⟨rfl, rfl⟩⟩
theorem RowT.kept {w w' : World} {B : Nat} {v : Value} {t : ByteArray} (h : RowT w B v t) (hb : Below w.heap.size w w') : RowT w' B v t := by
  obtain ⟨hl, h⟩ := h
  refine ⟨hl, ?_⟩
  rcases h with h | ⟨g, cap, cur, h1, h2, h3, h4⟩
  · exact Or.inl h
  · refine Or.inr ⟨g, cap, cur, h1, h2, ?_, h4⟩
    rw [hb.block g (lt_of_block h3)]
    exact h3
theorem RowT.conv {w : World} {B : Nat} {v : Value} {t : ByteArray} (h : RowT w B v t) : (convert 22 9 v).run Tryz.prog w = .ok (.string t) w := by
  have h2 : w.ownsRow B 5 1 v t.size ((t.data.toList.map fun b => (b.toNat : Int)).map (Value.int .u8)) := by
    have e : (t.data.toList.map fun b => (b.toNat : Int)).map (Value.int .u8) = Lib.strCells t := by simp [Lib.strCells]
    rw [e]
    exact h
  rw [convRow h2]
  congr 2
  unfold strOfNums
  apply ByteArray.ext
  simp [Function.comp_def]
theorem wpList_appT {ops : Array Oper} {rest : List Oper} {o : Oper} {a : Act} {w : World} {Q : Exit → Act → World → Prop} (hgd : o.guard = none) (sl x : Operand)
    (ho : o.op = .call { callee := .builtin .append, args := #[sl, x], argTypes := #[22, 9] }) (B : Nat) (v : Value) (t s : ByteArray) (hs : a.eval sl = v) (hr : RowT w B v t) (hx : a.eval x = .string s) (hl : t.size + s.size ≤ 10000000) (hB : B ≤ w.heap.size)
    (h : ∀ v' w', RowT w' B v' (t ++ s) → Below B w w' → w.grownBy w' v.ownBlock → wpList Tryz.prog ops Q rest (a.put o.dst v') w') : wpList Tryz.prog ops Q (o :: rest) a w := by
  obtain ⟨i0, hi, hz0, hz1, hz2⟩ := info_parts Tryz.drawInfo
  refine Lib.wpList_append_own_string w hgd sl x 22 9 ho B 5 i0 Tryz.underlying22 Tryz.underlying9 hi hz0 hz1 hz2 v t.size (Lib.strCells t) hs hr s hx (by unfold maxLen; omega) (by omega) hB ?_
  intro v' w' ho hg _
  refine h v' w' ?_ (below_grown hg hB (fun k hk => (hr.lt k hk).1)) hg
  show w'.ownsRow B 5 1 v' (t ++ s).size (Lib.strCells (t ++ s))
  rw [strCells_app, ByteArray.size_append]
  exact ho

end Go.Proofs.YthnnenbpbkmbhaaGreat
