/- What is proved here: texts that are picked, and classes that are drawn, are texts of at most 256 bytes, and nothing turns but the source's own block.
   What is proved here: rows of bytes that are appended to: rows that the call owns, and rows that have no room left.
   What is proved here: rows of bytes told by a text: a text is appended to them, and they are read as a text.
   What is proved here: a text in which patterns may be is a text of at most 8000 bytes; nothing turns but the source's own block. -/
import Derived.Test.YtfeolbgenpknfaaGreatQBytesRowWToBoolRowsW
import Derived.Test.YtfeolbgenpknfaaGreatQClassRowWToL03NotW
import Derived.Test.YtfeolbgenpknfaaGreatQSpecKRightWToIsW
import Derived.Laws.AppendOwn
import Derived.ArgAppend
import Derived.Lib.AppendStr
namespace Go.Proofs.YtfeolbgenpknfaaGreat
open Go.RowKit

theorem only_of_below {w w' : World} {b : Nat} (h : Below w.heap.size w w') : w.grownBy w' (some b) := ⟨h.os, h.tape, h.output, h.size, fun k hk _ => h.block k hk⟩
theorem Src.after {w w' : World} {b : Nat} {sa : Option Addr} {len cap : Nat} (h : Src w b sa len cap) (hb : Below w.heap.size w w') : Src w' b sa len cap :=
  h.kept (row := none) ⟨hb.os, hb.tape, hb.output, hb.size, fun k hk _ => hb.block k hk⟩ (fun k hk => by cases hk)
set_option maxHeartbeats 1000000 in
theorem pick_any (w : World) (b : Nat) (sa : Option Addr) (len cap g n : Nat) (hn : 1 < n) (hn2 : n ≤ 100) (hgb : g ≠ b) (hc : ∀ i, i < n → ∃ t : ByteArray, w.cell? ⟨g, i, none⟩ = some (.string t) ∧ t.size ≤ 256) (hs : Src w b sa len cap) :
    Calls Tryz.prog 64 #[.pointer (some ⟨b, 0, none⟩), .slice (some ⟨g, 0, none⟩) n n] w fun e w' => TextUpTo 256 e ∧ w.grownBy w' (some b) ∧ Src w' b sa len cap := by
  have HS : Hid (Src w b sa len cap) := hs
  have HC : Hid (∀ i, i < n → ∃ t : ByteArray, w.cell? ⟨g, i, none⟩ = some (.string t) ∧ t.size ≤ 256) := hc
  clear hs hc
  go_enter Tryz.func64, Tryz.ntmps64
  go_wp2_with fail
  refine (n_any _ b sa len cap (n : Int) (by omega) HS.out).mono ?_
  rintro e w1 ⟨⟨r, rfl, hr0, hr1, _⟩, hg, hS⟩
  have hr2 : r < (n : Int) := hr1 (by omega)
  obtain ⟨k, rfl⟩ := Int.eq_ofNat_of_zero_le hr0
  obtain ⟨t, hct, hts⟩ := HC.out k (by omega)
  have hc1 : w1.cell? ⟨g, k, none⟩ = some (.string t) := hg.cell hct (by simp; exact hgb)
  have HG : Hid (w.grownBy w1 (some b)) := hg
  have HS1 : Hid (Src w1 b sa len cap) := hS
  have HT : Hid (t.size ≤ 256) := hts
  clear hr1 hg hS HS hct hts HC
  go_wp2
  go_ret
  exact ⟨⟨t, rfl, HT.out⟩, HG.out, HS1.out⟩

set_option maxRecDepth 100000 in
set_option maxHeartbeats 4000000 in
theorem l03Class_any (w : World) (b : Nat) (sa : Option Addr) (len cap : Nat) (hs : Src w b sa len cap) :
    Calls Tryz.prog 112 #[.pointer (some ⟨b, 0, none⟩)] w fun e w' => TextUpTo 256 e ∧ w.grownBy w' (some b) ∧ Src w' b sa len cap := by
  have HS : Hid (Src w b sa len cap) := hs
  have hb := hs.lt
  clear hs
  go_enter Tryz.func112, Tryz.ntmps112
  go_wp2_with fail
  refine (pick_any _ b sa len cap w.heap.size 10 (by decide) (by decide) (by omega) ?_ (HS.out.kept (World.grownBy_alloc w _ none) (fun k hk => by cases hk))).mono ?_
  · intro i hi
    rcases (show i = 0 ∨ i = 1 ∨ i = 2 ∨ i = 3 ∨ i = 4 ∨ i = 5 ∨ i = 6 ∨ i = 7 ∨ i = 8 ∨ i = 9 from by omega) with rfl | rfl | rfl | rfl | rfl | rfl | rfl | rfl | rfl | rfl
    all_goals exact ⟨_, by rw [World.cell?_alloc_mark]; rfl, by decide⟩
  rintro e w1 ⟨⟨c, rfl, hcs⟩, hg, hS⟩
  have G1 : Hid (w.grownBy w1 (some b)) := (World.grownBy_alloc w _ (some b)).trans hg
  have S1 : Hid (Src w1 b sa len cap) := hS
  have HC : Hid (c.size ≤ 256) := hcs
  clear hg hS HS hcs
  go_wp2_with fail
  refine (n_any _ b sa len cap 12 (by decide) S1.out).mono ?_
  rintro e w2 ⟨⟨r, rfl, hr0, hr1, _⟩, hg, hS⟩
  have hr2 : r < 12 := hr1 (by decide)
  have G2 : Hid (w.grownBy w2 (some b)) := G1.out.trans hg
  have S2 : Hid (Src w2 b sa len cap) := hS
  clear hr1 hg hS S1 G1
  by_cases e0 : r = 0
  · subst e0
    go_wp2_with fail
    refine (n_any _ b sa len cap 6 (by decide) S2.out).mono ?_
    rintro e w3 ⟨⟨q, rfl, hq0, hq1, _⟩, hg, hS⟩
    have hq2 : q < 6 := hq1 (by decide)
    have G3 : Hid (w.grownBy w3 (some b)) := G2.out.trans hg
    have S3 : Hid (Src w3 b sa len cap) := hS
    clear hq1 hg hS S2 G2
    go_wp2_with fail
    refine (specCSpan_yes 97 (97 + q) _ (by decide) (by decide) (by omega) (by omega)).mono ?_
    rintro e w4 ⟨rfl, hb4⟩
    have G4 : Hid (w.grownBy w4 (some b)) := G3.out.trans (only_of_below hb4)
    have S4 : Hid (Src w4 b sa len cap) := S3.out.after hb4
    clear hb4 S3 G3
    go_wp2
    go_ret
    exact ⟨⟨_, rfl, classT_size _⟩, G4.out, S4.out⟩
  · by_cases e1 : r = 1
    · subst e1
      go_wp2_with fail
      refine (l03Not_any c _ (by unfold maxLen; have := HC.out; omega)).mono ?_
      rintro e w4 ⟨rfl, hb4⟩
      have G4 : Hid (w.grownBy w4 (some b)) := G2.out.trans (only_of_below hb4)
      have S4 : Hid (Src w4 b sa len cap) := S2.out.after hb4
      clear hb4 S2 G2
      go_wp2
      go_ret
      exact ⟨⟨_, rfl, classT_size _⟩, G4.out, S4.out⟩
    · by_cases e2 : r = 2
      · subst e2
        go_wp2_with fail
        refine (specCSpan_yes 0 255 _ (by decide) (by decide) (by decide) (by decide)).mono ?_
        rintro e w4 ⟨rfl, hb4⟩
        have G4 : Hid (w.grownBy w4 (some b)) := G2.out.trans (only_of_below hb4)
        have S4 : Hid (Src w4 b sa len cap) := S2.out.after hb4
        clear hb4 S2 G2
        go_wp2
        go_ret
        exact ⟨⟨_, rfl, classT_size _⟩, G4.out, S4.out⟩
      · by_cases e3 : r = 3
        · subst e3
          go_wp2_with fail
          refine (n_any _ b sa len cap 4 (by decide) S2.out).mono ?_
          rintro e w3 ⟨⟨q, rfl, hq0, hq1, _⟩, hg, hS⟩
          have hq2 : q < 4 := hq1 (by decide)
          obtain ⟨k, rfl⟩ := Int.eq_ofNat_of_zero_le hq0
          have G3 : Hid (w.grownBy w3 (some b)) := G2.out.trans hg
          have S3 : Hid (Src w3 b sa len cap) := hS
          clear hq1 hg hS S2 G2
          go_wp2_with fail
          refine (bytes_any _ b sa len cap k (by omega) S3.out).mono ?_
          rintro e w4 ⟨⟨t, rfl, ht⟩, hg, hS⟩
          have G4 : Hid (w.grownBy w4 (some b)) := G3.out.trans hg
          have S4 : Hid (Src w4 b sa len cap) := hS
          have HT : Hid (t.size = k) := ht
          clear hg hS S3 G3 ht
          go_wp2_with fail
          refine (specCOf_yes t _ (by have := HT.out; omega)).mono ?_
          rintro e w5 ⟨rfl, hb5⟩
          have G5 : Hid (w.grownBy w5 (some b)) := G4.out.trans (only_of_below hb5)
          have S5 : Hid (Src w5 b sa len cap) := S4.out.after hb5
          clear hb5 S4 G4
          go_wp2
          go_ret
          exact ⟨⟨_, rfl, classT_size _⟩, G5.out, S5.out⟩
        · have f0 : (r == 0) = false := by simpa using e0
          have f1 : (r == 1) = false := by simpa using e1
          have f2 : (r == 2) = false := by simpa using e2
          have f3 : (r == 3) = false := by simpa using e3
          go_wp2
          go_ret
          exact ⟨⟨_, rfl, HC.out⟩, G2.out, S2.out⟩
end Go.Proofs.YtfeolbgenpknfaaGreat
namespace Go.Proofs.YtfeolbgenpknfaaGreat
open Go.RowKit

/-- A row of bytes that the call owns, from block B on. -/
def Row8 (w : World) (B : Nat) (v : Value) (M : List Int) : Prop := w.ownsRow B 5 1 v M.length (M.map (Value.int .u8))
/-- Such a row, or one without room. -/
def RowX (w : World) (B : Nat) (v : Value) (M : List Int) : Prop := Row8 w B v M ∨ ∃ g, v = .slice (some ⟨g, 0, none⟩) M.length M.length ∧ B ≤ g ∧ g < w.heap.size ∧ ∀ j u, (M.map (Value.int .u8))[j]? = some u → w.cell? ⟨g, j, none⟩ = some u
theorem Row8.kept {w w' : World} {B : Nat} {v : Value} {M : List Int} (h : Row8 w B v M) (hb : Below w.heap.size w w') : Row8 w' B v M := by
  obtain ⟨hl, h⟩ := h
  refine ⟨hl, ?_⟩
  rcases h with h | ⟨g, cap, cur, h1, h2, h3, h4⟩
  · exact Or.inl h
  · refine Or.inr ⟨g, cap, cur, h1, h2, ?_, h4⟩
    rw [hb.block g (lt_of_block h3)]
    exact h3
theorem Row8.x {w : World} {B : Nat} {v : Value} {M : List Int} (h : Row8 w B v M) : RowX w B v M := Or.inl h
theorem RowX.kept {w w' : World} {B : Nat} {v : Value} {M : List Int} (h : RowX w B v M) (hb : Below w.heap.size w w') : RowX w' B v M := by
  rcases h with h | ⟨g, h1, h2, h3, h4⟩
  · exact Or.inl (h.kept hb)
  · exact Or.inr ⟨g, h1, h2, Nat.lt_of_lt_of_le h3 hb.size, fun j u hu => by rw [hb.cell (p := ⟨g, j, none⟩) h3]; exact h4 j u hu⟩
theorem RowX.alloc {w : World} {B : Nat} {v : Value} {M : List Int} (h : RowX w B v M) (o : Obj) : RowX (w.alloc o) B v M := h.kept ((Below.refl _ _).alloc (Nat.le_refl _) _)
theorem RowX.drew {w : World} {B : Nat} {v : Value} {M : List Int} (h : RowX w B v M) : RowX w.drew B v M := h
theorem Row8.none (w : World) (B : Nat) : Row8 w B (.slice none 0 0) [] := ⟨rfl, Or.inl ⟨rfl, rfl⟩⟩
theorem owns_low {w : World} {base base' n size : Nat} {e : TypeId} {v : Value} {xs : List Value} (h : w.ownsRow base e size v n xs) (hb : base' ≤ base) : w.ownsRow base' e size v n xs := by
  obtain ⟨hl, h⟩ := h
  refine ⟨hl, ?_⟩
  rcases h with h | ⟨g, cap, cur, h1, h2, h3⟩
  · exact Or.inl h
  · exact Or.inr ⟨g, cap, cur, h1, by omega, h3⟩
theorem below_grown {w w' : World} {B : Nat} {row : Option Nat} (h : w.grownBy w' row) (hB : B ≤ w.heap.size) (hr : ∀ g, row = some g → B ≤ g) : Below B w w' :=
  ⟨h.os, h.tape, h.output, h.size, fun k hk => h.block k (by omega) (fun e => by have := hr k e.symm; omega)⟩
theorem run_app8 (w : World) (ty : TypeId) (B : Nat) (v : Value) (M N : List Int) (hX : RowX w B v M) (hB : B ≤ w.heap.size) (ad : Addr) (c : Nat) (hN : 0 < N.length) (hnews : ∀ j u, (N.map (Value.int .u8))[j]? = some u → w.cell? (ad.add j) = some u) (hs : M.length + N.length ≤ 10000000) :
    ∃ v' w', (Builtin.append_ #[22, 22] ty #[v, .slice (some ad) N.length c]).run Tryz.prog w = .ok v' w' ∧ Row8 w' B v' (M ++ N) ∧ Below B w w' := by
  obtain ⟨i0, hi, hz0, hz1, hz2⟩ := info_parts Tryz.drawInfo
  have h1c : ∀ u ∈ N.map (Value.int .u8), u.oneCell' = true := fun u hu => by
    obtain ⟨x, _, rfl⟩ := List.mem_map.1 hu
    rfl
  have b1 : M.length + N.length ≤ maxLen := by unfold maxLen; omega
  rcases hX with h | ⟨g, rfl, hg, hlt, hc⟩
  · obtain ⟨v', w', hr, ho, hgr, _⟩ := run_append_own (P := Tryz.prog) w B 22 ty 5 i0 (.int .u8 0) 1 1 Tryz.underlying22 hi hz0 hz1 hz2 rfl (by decide) v M.length (M.map (Value.int .u8)) h ad N.length c (N.map (Value.int .u8)) (by simp) hnews h1c b1 (by omega) hB
    refine ⟨v', w', hr, ?_, below_grown hgr hB (fun k hk => (h.lt k hk).1)⟩
    show w'.ownsRow B 5 1 v' (M ++ N).length ((M ++ N).map (Value.int .u8))
    rw [List.length_append, List.map_append]
    exact ho
  · obtain ⟨v', w', hr, ho, hgr⟩ := run_append_arg_grows (P := Tryz.prog) w 22 ty 5 i0 (.int .u8 0) 1 1 Tryz.underlying22 hi hz0 hz1 hz2 rfl (by decide) ⟨g, 0, Option.none⟩ M.length M.length (M.map (Value.int .u8)) (by simp) (fun j u hu => by
      have h1 := hc j u hu
      have e : (⟨g, 0, Option.none⟩ : Addr).add j = ⟨g, j, Option.none⟩ := by unfold Addr.add; split <;> simp_all
      rw [e]; exact h1) ad N.length c (N.map (Value.int .u8)) (by simp) hnews (by omega) b1 (by omega)
    refine ⟨v', w', hr, ?_, below_grown hgr hB (fun k hk => by cases hk)⟩
    show w'.ownsRow B 5 1 v' (M ++ N).length ((M ++ N).map (Value.int .u8))
    rw [List.length_append, List.map_append]
    exact owns_low ho hB
section
variable {ops : Array Oper} {rest : List Oper} {o : Oper} {a : Act} {w : World} {K : Act → World → Prop} {Q : Exit → Act → World → Prop}
theorem wp_app8 (s x : Operand) (ho : o.op = .call { callee := .builtin .append, args := #[s, x], argTypes := #[22, 22] })
    (B : Nat) (v : Value) (M N : List Int) (hs : a.eval s = v) (hX : RowX w B v M) (hB : B ≤ w.heap.size) (ad : Addr) (c : Nat) (hx : a.eval x = .slice (some ad) N.length c) (hN : 0 < N.length) (hnews : ∀ j u, (N.map (Value.int .u8))[j]? = some u → w.cell? (ad.add j) = some u) (hl : M.length + N.length ≤ 10000000)
    (h : ∀ v' w', Row8 w' B v' (M ++ N) → Below B w w' → K (a.put o.dst v') w') : o.wp Tryz.prog a w K Q := by
  obtain ⟨v', w', hr, h2, h3⟩ := run_app8 w o.type B v M N hX hB ad c hN hnews hl
  unfold Oper.wp execOp
  simp only [ho, resolve, invoke, builtin, Sem.run_bind, Sem.run_pure, Result.andThen_ok, List.map_toArray, List.map_cons, List.map_nil, hs, hx, hr]
  exact h v' w' h2 h3
theorem wpList_app8 (hgd : o.guard = none) (s x : Operand) (ho : o.op = .call { callee := .builtin .append, args := #[s, x], argTypes := #[22, 22] })
    (B : Nat) (v : Value) (M N : List Int) (hs : a.eval s = v) (hX : RowX w B v M) (hB : B ≤ w.heap.size) (ad : Addr) (c : Nat) (hx : a.eval x = .slice (some ad) N.length c) (hN : 0 < N.length) (hnews : ∀ j u, (N.map (Value.int .u8))[j]? = some u → w.cell? (ad.add j) = some u) (hl : M.length + N.length ≤ 10000000)
    (h : ∀ v' w', Row8 w' B v' (M ++ N) → Below B w w' → wpList Tryz.prog ops Q rest (a.put o.dst v') w') : wpList Tryz.prog ops Q (o :: rest) a w :=
  wpList_plain hgd fun _ hK => wp_app8 s x ho B v M N hs hX hB ad c hx hN hnews hl fun v' w' h2 h3 => hK _ _ (h v' w' h2 h3)
theorem step_app8 {E : Prop} (hg : o.guard = none) (s x : Operand) (ho : o.op = .call { callee := .builtin .append, args := #[s, x], argTypes := #[22, 22] })
    (B : Nat) (v : Value) (M N : List Int) (hs : a.eval s = v) (hX : RowX w B v M) (hB : B ≤ w.heap.size) (ad : Addr) (c : Nat) (hx : a.eval x = .slice (some ad) N.length c) (hN : 0 < N.length) (hnews : ∀ j u, (N.map (Value.int .u8))[j]? = some u → w.cell? (ad.add j) = some u) (hl : M.length + N.length ≤ 10000000)
    (h : ∀ v' w', Row8 w' B v' (M ++ N) → Below B w w' → K (a.put o.dst v') w') : if Region.wanted o (yielded ops a.tmps) = true then Oper.wp Tryz.prog o a w K Q else E := by
  rw [if_pos (by simp [Region.wanted, hg])]
  exact wp_app8 s x ho B v M N hs hX hB ad c hx hN hnews hl h
end
/-- The cells of a slice that was just built. -/
theorem new_cells (w : World) (N : List Int) (C : Array Value) (t : TypeId) (hC : C.toList = N.map (Value.int .u8)) : ∀ j u, (N.map (Value.int .u8))[j]? = some u → (w.alloc (.cells C t)).cell? ((⟨w.heap.size, 0, Option.none⟩ : Addr).add j) = some u := by
  intro j u hu
  have e : (⟨w.heap.size, 0, Option.none⟩ : Addr).add j = ⟨w.heap.size, j, Option.none⟩ := by unfold Addr.add; split <;> simp_all
  rw [e, World.cell?_alloc_mark, ← hu, ← hC]
  simp
end Go.Proofs.YtfeolbgenpknfaaGreat
namespace Go.Proofs.YtfeolbgenpknfaaGreat
open Go.RowKit

/-- A row of bytes that the call owns, told by a text. -/
def RowT (w : World) (B : Nat) (v : Value) (t : ByteArray) : Prop := w.ownsRow B 5 1 v t.size (Lib.strCells t)
theorem strCells_app (a b : ByteArray) : Lib.strCells (a ++ b) = Lib.strCells a ++ Lib.strCells b := by simp [Lib.strCells]
theorem RowT.none (w : World) (B : Nat) : RowT w B (.slice none 0 0) ⟨#[]⟩ := ⟨rfl, Or.inl ⟨rfl, rfl⟩⟩
theorem RowT.kept {w w' : World} {B : Nat} {v : Value} {t : ByteArray} (h : RowT w B v t) (hb : Below w.heap.size w w') : RowT w' B v t := by
  obtain ⟨hl, h⟩ := h
  refine ⟨hl, ?_⟩
  rcases h with h | ⟨g, cap, cur, h1, h2, h3, h4⟩
  · exact Or.inl h
  · refine Or.inr ⟨g, cap, cur, h1, h2, ?_, h4⟩
    rw [hb.block g (lt_of_block h3)]
    exact h3
theorem RowT.conv {w : World} {B : Nat} {v : Value} {t : ByteArray} (h : RowT w B v t) : (convert 22 9 v).run Tryz.prog w = .ok (.string t) w := by
  have h2 : w.ownsRow B 5 1 v t.size ((t.data.toList.map fun b => (b.toNat : Int)).map (Value.int .u8)) := by
    have e : (t.data.toList.map fun b => (b.toNat : Int)).map (Value.int .u8) = Lib.strCells t := by simp [Lib.strCells]
    rw [e]
    exact h
  rw [convRow h2]
  congr 2
  unfold strOfNums
  apply ByteArray.ext
  simp [Function.comp_def]
theorem wpList_appT {ops : Array Oper} {rest : List Oper} {o : Oper} {a : Act} {w : World} {Q : Exit → Act → World → Prop} (hgd : o.guard = none) (sl x : Operand)
    (ho : o.op = .call { callee := .builtin .append, args := #[sl, x], argTypes := #[22, 9] }) (B : Nat) (v : Value) (t s : ByteArray) (hs : a.eval sl = v) (hr : RowT w B v t) (hx : a.eval x = .string s) (hl : t.size + s.size ≤ 10000000) (hB : B ≤ w.heap.size)
    (h : ∀ v' w', RowT w' B v' (t ++ s) → Below B w w' → w.grownBy w' v.ownBlock → wpList Tryz.prog ops Q rest (a.put o.dst v') w') : wpList Tryz.prog ops Q (o :: rest) a w := by
  obtain ⟨i0, hi, hz0, hz1, hz2⟩ := info_parts Tryz.drawInfo
  refine Lib.wpList_append_own_string w hgd sl x 22 9 ho B 5 i0 Tryz.underlying22 Tryz.underlying9 hi hz0 hz1 hz2 v t.size (Lib.strCells t) hs hr s hx (by unfold maxLen; omega) (by omega) hB ?_
  intro v' w' ho hg _
  refine h v' w' ?_ (below_grown hg hB (fun k hk => (hr.lt k hk).1)) hg
  show w'.ownsRow B 5 1 v' (t ++ s).size (Lib.strCells (t ++ s))
  rw [strCells_app, ByteArray.size_append]
  exact ho

end Go.Proofs.YtfeolbgenpknfaaGreat
namespace Go.Proofs.YtfeolbgenpknfaaGreat
open Go.RowKit

/-- A text that is being drawn. -/
structure TxtIn (w W : World) (b : Nat) (sa : Option Addr) (len cap : Nat) (v : Value) (t : ByteArray) : Prop where
  g : w.grownBy W (some b)
  s : Src W b sa len cap
  o : RowT W w.heap.size v t
theorem RowT.src {w w' : World} {B b : Nat} {v : Value} {t : ByteArray} (h : RowT w B v t) (hg : w.grownBy w' (some b)) (hb : b < B) : RowT w' B v t := by
  obtain ⟨hl, h⟩ := h
  refine ⟨hl, ?_⟩
  rcases h with h | ⟨g, cap, cur, h1, h2, h3, h4⟩
  · exact Or.inl h
  · refine Or.inr ⟨g, cap, cur, h1, h2, ?_, h4⟩
    rw [hg.block g (lt_of_block h3) (fun e => by injection e with e; omega)]
    exact h3
theorem TxtIn.src {w W W' : World} {b : Nat} {sa : Option Addr} {len cap : Nat} {v : Value} {t : ByteArray} (h : TxtIn w W b sa len cap v t) (hb : b < w.heap.size) (hg : W.grownBy W' (some b)) (hs : Src W' b sa len cap) : TxtIn w W' b sa len cap v t := ⟨h.g.trans hg, hs, h.o.src hg hb⟩
theorem TxtIn.app {w W W' : World} {b : Nat} {sa : Option Addr} {len cap : Nat} {v v' : Value} {t t' : ByteArray} (h : TxtIn w W b sa len cap v t) (hb : b < w.heap.size) (ho : RowT W' w.heap.size v' t') (hg : W.grownBy W' v.ownBlock) : TxtIn w W' b sa len cap v' t' :=
  ⟨⟨hg.os.trans h.g.os, hg.tape.trans h.g.tape, hg.output.trans h.g.output, Nat.le_trans h.g.size hg.size, fun k hk hne => (hg.block k (Nat.lt_of_lt_of_le hk h.g.size) (fun e => by have := (h.o.lt k e.symm).1; omega)).trans (h.g.block k hk hne)⟩, h.s.kept hg (fun j e => by have := (h.o.lt j e).1; omega), ho⟩
theorem rowT_start (w : World) (base : Nat) (hb : base ≤ w.heap.size) (C : Array Value) (hC : C.size = 0) : RowT (w.alloc (.cells C 5)) base (.slice (some ⟨w.heap.size, 0, none⟩) 0 0) ⟨#[]⟩ :=
  ⟨rfl, Or.inr ⟨w.heap.size, 0, C, rfl, hb, heap_alloc_new w _, Nat.le_refl _, Nat.zero_le _, by simp [hC], by show List.take (0 * 1) _ = []; simp⟩⟩
set_option maxRecDepth 100000 in
set_option maxHeartbeats 4000000 in
theorem l05Text_any (w : World) (b : Nat) (sa : Option Addr) (len cap : Nat) (hs : Src w b sa len cap) :
    Calls Tryz.prog 32 #[.pointer (some ⟨b, 0, none⟩)] w fun e w' => TextUpTo 8000 e ∧ w.grownBy w' (some b) ∧ Src w' b sa len cap := by
  have hb := hs.lt
  have P0 : Hid (TxtIn w (w.alloc (.cells #[] 5)) b sa len cap (.slice (some ⟨w.heap.size, 0, none⟩) 0 0) ⟨#[]⟩) :=
    ⟨World.grownBy_alloc w _ _, hs.after ((Below.refl _ _).alloc (Nat.le_refl _) _), rowT_start w w.heap.size (Nat.le_refl _) _ rfl⟩
  clear hs
  go_enter Tryz.func32, Tryz.ntmps32
  go_upto_region 2 with fail
  generalize w.alloc (.cells #[] 5) = v0 at *
  obtain ⟨hl, hby, k0, m0, z, hat, hz0, hz1⟩ := P0.out.s
  obtain ⟨c0, c1, c2, c3, f1, f2, f3⟩ := hat.cells
  have bl := lt_of_block hat.1
  clear hby hat c0 c1 c2 f1 f2 f3
  have hz2 : IntKind.i64.wrap (14 + z) = 14 + z := by rw [IntKind.wrap_i64]; omega
  go_wp2_with fail
  refine (n_any _ b sa len cap (14 + z) (by omega) P0.out.s).mono ?_
  rintro e w1 ⟨⟨r, rfl, hr0, hr1, _⟩, hg, hS⟩
  have hr2 : r < 14 + z := hr1 (by omega)
  have hr3 : r ≤ 26 := by omega
  have P1 : Hid (TxtIn w w1 b sa len cap (.slice (some ⟨w.heap.size, 0, none⟩) 0 0) ⟨#[]⟩) := P0.out.src hb hg hS
  clear hr1 hr2 hg hS P0 c3 bl hz2 hz0 hz1 hl
  go_wp2_with fail
  go_loopw [3, 4] (fun v kv wr => ∃ (t : ByteArray) (k : Int), kv = .int .i64 k ∧ 0 ≤ k ∧ (t.size : Int) + 256 * k ≤ 6656 ∧ TxtIn w wr b sa len cap v t) (fun _ kv _ => (intOf kv).toNat)
  case atStart => exact ⟨⟨#[]⟩, r, rfl, hr0, by show ((0 : Nat) : Int) + 256 * r ≤ 6656; omega, P1.out⟩
  case round =>
    obtain ⟨t, k, rfl, hk0, hkt, hp⟩ := hrel
    have HP : Hid (TxtIn w wr b sa len cap u3 t) := hp
    clear hp
    by_cases hk : 0 < k
    · go_wp2_with fail
      have hwb : b < wr.heap.size := HP.out.s.lt
      have PA : Hid (TxtIn w (wr.alloc (.cells #[.string ⟨#[97]⟩, .string ⟨#[98]⟩, .string ⟨#[97]⟩, .string ⟨#[98]⟩, .string ⟨#[99]⟩, .string ⟨#[97, 98]⟩, .string ⟨#[65]⟩] 9)) b sa len cap u3 t) := HP.out.src hb (World.grownBy_alloc _ _ _) (HP.out.s.after ((Below.refl _ _).alloc (Nat.le_refl _) _))
      refine (pick_any _ b sa len cap wr.heap.size 7 (by decide) (by decide) (by omega) ?_ PA.out.s).mono ?_
      · intro i hi
        rcases (show i = 0 ∨ i = 1 ∨ i = 2 ∨ i = 3 ∨ i = 4 ∨ i = 5 ∨ i = 6 from by omega) with rfl | rfl | rfl | rfl | rfl | rfl | rfl
        all_goals exact ⟨_, by rw [World.cell?_alloc_mark]; rfl, by decide⟩
      rintro e w2 ⟨⟨c, rfl, hcs⟩, hg, hS⟩
      have P2 : Hid (TxtIn w w2 b sa len cap u3 t) := PA.out.src hb hg hS
      have hlo : w.heap.size ≤ w2.heap.size := P2.out.g.size
      clear hg hS PA
      go_wp2_with (at_builtin; refine wpList_appT rfl (.tmp 17) (.tmp 20) rfl w.heap.size u3 t c rfl P2.out.o rfl (by omega) hlo ?_)
      intro v' w3 ho3 hb3 hg3
      have P3 : Hid (TxtIn w w3 b sa len cap v' (t ++ c)) := P2.out.app hb ho3 hg3
      have HS : Hid ((t ++ c).size = t.size + c.size) := ByteArray.size_append
      clear ho3 hb3 hg3 P2
      go_wp2_with fail
      go_roundw
      case rel => exact ⟨t ++ c, k - 1, by go_num, by omega, by have := HS.out; omega, P3.out⟩
      case measure => simp [intOf]; omega
    · have hts : t.size ≤ 6656 := by omega
      clear hk0 hkt
      go_wp2_with fail
      refine (one_any _ b sa len cap 8 (by decide) HP.out.s).mono ?_
      rintro e w2 ⟨⟨x, rfl⟩, hg, hS⟩
      have P2 : Hid (TxtIn w w2 b sa len cap u3 t) := HP.out.src hb hg hS
      clear hg hS
      cases x with
      | false =>
        have hcv := P2.out.o.conv
        go_wp2_with fail
        go_ret
        exact ⟨⟨t, rfl, by omega⟩, P2.out.g, P2.out.s⟩
      | true =>
        go_wp2_with fail
        refine (n_any _ b sa len cap 4 (by decide) P2.out.s).mono ?_
        rintro e w3 ⟨⟨q, rfl, hq0, hq1, _⟩, hg, hS⟩
        have hq2 : q < 4 := hq1 (by decide)
        obtain ⟨j, rfl⟩ := Int.eq_ofNat_of_zero_le hq0
        have P3 : Hid (TxtIn w w3 b sa len cap u3 t) := P2.out.src hb hg hS
        clear hq1 hg hS P2
        go_wp2_with fail
        refine (bytes_any _ b sa len cap j (by omega) P3.out.s).mono ?_
        rintro e w4 ⟨⟨c, rfl, hcs⟩, hg, hS⟩
        have P4 : Hid (TxtIn w w4 b sa len cap u3 t) := P3.out.src hb hg hS
        have hlo : w.heap.size ≤ w4.heap.size := P4.out.g.size
        clear hg hS P3
        go_wp2_with (at_builtin; refine wpList_appT rfl (.tmp 24) (.tmp 28) rfl w.heap.size u3 t c rfl P4.out.o rfl (by omega) hlo ?_)
        intro v' w5 ho5 hb5 hg5
        have P5 : Hid (TxtIn w w5 b sa len cap v' (t ++ c)) := P4.out.app hb ho5 hg5
        have HS : Hid ((t ++ c).size = t.size + c.size) := ByteArray.size_append
        clear ho5 hb5 hg5 P4
        have hcv := P5.out.o.conv
        go_wp2_with fail
        go_ret
        exact ⟨⟨t ++ c, rfl, by have := HS.out; omega⟩, P5.out.g, P5.out.s⟩
end Go.Proofs.YtfeolbgenpknfaaGreat
