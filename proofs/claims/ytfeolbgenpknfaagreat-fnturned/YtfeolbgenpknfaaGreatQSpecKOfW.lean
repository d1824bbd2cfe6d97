/- What is proved here: the specification's CellsOf hands back the cells of a right pattern, in new memory, else none; nothing that was there turns. -/
import Derived.Test.YtfeolbgenpknfaaGreatQAFarMToSpecPYesW
import Derived.Laws.AppendOwn
namespace Go.Proofs.YtfeolbgenpknfaaGreat
open Go.RowKit

/-- The first cells of an atom. -/
def preA (a : Atm) (j : Nat) : List Cel := (List.range j).map (cellA a)
theorem preA_succ (a : Atm) (j : Nat) : preA a (j + 1) = preA a j ++ [cellA a j] := by simp [preA, List.range_succ]
theorem preA_len (a : Atm) (j : Nat) : (preA a j).length = j := by simp [preA]
theorem preA_all (a : Atm) : preA a (cnt a) = cellsA a := rfl
theorem cells3_newK (W : World) (c : ByteArray) (x y : Bool) (ty : TypeId) : ∀ j u, [Value.string c, .bool x, .bool y][j]? = some u → (W.alloc (.cells #[.string c, .bool x, .bool y] ty)).cell? ((⟨W.heap.size, 0, none⟩ : Addr).add j) = some u := by
  intro j u hu
  match j, hu with
  | 0, hu => simp at hu; subst hu; simp [Addr.add]
  | 1, hu => simp at hu; subst hu; simp [Addr.add]
  | 2, hu => simp at hu; subst hu; simp [Addr.add]
  | j + 3, hu => simp at hu
theorem one3 (c : ByteArray) (x y : Bool) : ∀ u ∈ [Value.string c, .bool x, .bool y], u.oneCell' = true := by
  intro u hu
  simp at hu
  rcases hu with rfl | rfl | rfl <;> rfl
theorem World.size_le_alloc (W : World) (o : Obj) : W.heap.size ≤ (W.alloc o).heap.size := by simp
theorem cells_of_ownsK {W : World} {base : Nat} {v : Value} {L : List Cel} (h : W.ownsRow base 98 3 v L.length (kcells L)) : ∃ sa cap, v = .slice sa L.length cap ∧ CSl W base W.heap.size sa L.length (fun i => L.getD i cel0) := by
  obtain ⟨_, ⟨rfl, hx⟩ | ⟨g, cap, cur, rfl, hg, hh, hnc, hm, hs, ht⟩⟩ := h
  · have : L = [] := by
      cases L with
      | nil => rfl
      | cons a l => simp at hx
    subst this
    exact ⟨none, 0, rfl, Or.inl rfl⟩
  · refine ⟨_, _, rfl, Or.inr ⟨g, rfl, hg, lt_of_block hh, ⟨lt_of_block hh, fun i hi => ?_, fun j hj => frozen_of_row _ _ _ _ _ hh⟩⟩⟩
    have hc : ∀ j, j < L.length * 3 → W.cell? ⟨g, j, none⟩ = (kcells L)[j]? := fun j hj => by
      rw [← ht, List.getElem?_take_of_lt hj]
      simp [World.cell?, hh]
    obtain ⟨h0, h1, h2⟩ := kcells_get L i hi
    exact ⟨by rw [hc _ (by omega)]; exact h0, by rw [hc _ (by omega)]; exact h1, by rw [hc _ (by omega)]; exact h2⟩
/-- A row of cells that grows beside a box with an atom. -/
structure KGrow (w W : World) (v : Value) (p : Nat) (a : Atm) (L : List Cel) : Prop where
  below : Below w.heap.size w W
  own : W.ownsRow w.heap.size 98 3 v L.length (kcells L)
  box : ABox W p a
  ne : v.ownBlock ≠ some p
  lo : w.heap.size ≤ W.heap.size
theorem KGrow.app {w W W' : World} {v v' : Value} {p : Nat} {a : Atm} {L : List Cel} {x : Cel} {o : Obj} (h : KGrow w W v p a L) (hown : W'.ownsRow w.heap.size 98 3 v' (L.length + 1) (kcells L ++ [.string x.c, .bool x.k, .bool x.o])) (hg : (W.alloc o).grownBy W' v.ownBlock) (hloc : v'.ownBlock = v.ownBlock ∨ v'.ownBlock = some (W.heap.size + 1)) : KGrow w W' v' p a (L ++ [x]) := by
  have hg2 : W.grownBy W' v.ownBlock := (World.grownBy_alloc _ _ _).trans hg
  refine ⟨h.below.trans ⟨hg2.os, hg2.tape, hg2.output, hg2.size, fun j hj => hg2.block j (Nat.lt_of_lt_of_le hj h.lo) (fun e => by have := (h.own.lt j e.symm).1; omega)⟩, ?_, ?_, ?_, Nat.le_trans h.lo hg2.size⟩
  · rw [kcells_append, List.length_append]
    exact hown
  · have hb := hg2.block p h.box.lt (fun e => h.ne e.symm)
    exact ⟨by have := h.box.c0; simpa [World.cell?, hb] using this, by have := h.box.c1; simpa [World.cell?, hb] using this, by have := h.box.c2; simpa [World.cell?, hb] using this, Nat.lt_of_lt_of_le h.box.lt hg2.size⟩
  · have := h.box.lt
    rcases hloc with e | e
    · rw [e]; exact h.ne
    · rw [e]; intro h9; injection h9 with h9; omega
set_option maxRecDepth 100000 in
set_option maxHeartbeats 4000000 in
theorem l06Of_any (sa : Option Addr) (n cap : Nat) (f : Nat → Atm) (w : World) (hr : ARow w w.heap.size sa n f) (hP : PatRight n f) :
    Calls Tryz.prog 90 #[.slice sa n cap] w fun e w' => NewCells w (cellsP (atomsL f n)).length (fun i => (cellsP (atomsL f n)).getD i cel0) e w' := by
  obtain ⟨i0, hi, hz0, hz1, hz2⟩ := info_parts Tryz.cellInfo
  have HR : Hid (ARow w w.heap.size sa n f) := hr
  have HP : Hid (PatRight n f) := hP
  have hn20 := hP.2.1
  have HL : Hid (∀ k, k ≤ n → (cellsP (atomsL f k)).length ≤ 40) := fun k hk => by
    have h1 := sum_len k (fun i hi => hP.2.2.1 i (by omega))
    have h2 := sumTo_mono hk hP.2.2.1
    have h3 := hP.2.2.2
    omega
  have O0 : Hid ((w.alloc (.cells #[] 98)).ownsRow w.heap.size 98 3 (.slice (some ⟨w.heap.size, 0, none⟩) 0 0) (cellsP (atomsL f 0)).length (kcells (cellsP (atomsL f 0)))) := ⟨rfl, Or.inr ⟨w.heap.size, 0, #[], rfl, Nat.le_refl _, heap_alloc_new w _, Nat.le_refl _, Nat.zero_le _, rfl, rfl⟩⟩
  have B0 : Hid (Below w.heap.size w (w.alloc (.cells #[] 98))) := (Below.refl _ _).alloc (Nat.le_refl _) _
  clear hr hP
  go_enter Tryz.func90, Tryz.ntmps90
  go_wp2_with fail
  go_loopw [3, 4] (fun v iv wr => ∃ k : Nat, k ≤ n ∧ iv = .int .i64 (k : Int) ∧ wr.ownsRow w.heap.size 98 3 v (cellsP (atomsL f k)).length (kcells (cellsP (atomsL f k))) ∧ Below w.heap.size w wr) (fun _ iv _ => n - (intOf iv).toNat)
  case atStart => exact ⟨0, Nat.zero_le _, rfl, O0.out, B0.out⟩
  case round =>
    obtain ⟨k, hk, rfl, hown, hbel⟩ := hrel
    have HO : Hid (wr.ownsRow w.heap.size 98 3 u3 (cellsP (atomsL f k)).length (kcells (cellsP (atomsL f k)))) := hown
    have HB : Hid (Below w.heap.size w wr) := hbel
    by_cases hkl : k < n
    · have hki : (k : Int) < (n : Int) := by omega
      have hk0 : (0 : Int) ≤ (k : Int) := by omega
      obtain ⟨bb, off, rfl, hbb, hat⟩ := HR.out.at hbel hkl
      obtain ⟨c0, c1, c2⟩ := hat
      have har := HP.out.2.2.1 k hkl
      have hlen2 := HL.out (k + 1) (by omega)
      rw [atomsL_succ, cellsP_append, List.length_append, cellsA_len] at hlen2
      obtain ⟨⟨ac, al, am⟩, ha⟩ : ∃ a, f k = a := ⟨_, rfl⟩
      rw [ha] at c0 c1 c2 har hlen2
      simp only at c0 c1 c2
      have HST : Hid (cellsP (atomsL f (k + 1)) = cellsP (atomsL f k) ++ preA ⟨ac, al, am⟩ (cnt ⟨ac, al, am⟩)) := by
        show cellsP (atomsL f (k + 1)) = _
        rw [atomsL_succ, cellsP_append, ha]
        rfl
      obtain ⟨hr1, hr2, hr3, hr4, hr5⟩ := har
      simp only at hr3 hr4 hr5
      obtain ⟨l, rfl⟩ := Int.eq_ofNat_of_zero_le hr3
      have HCN : Hid ((am = -1 ∧ 1 ≤ l ∧ cnt ⟨ac, (l : Int), am⟩ = l) ∨ (am = -1 ∧ l = 0 ∧ cnt ⟨ac, (l : Int), am⟩ = 1) ∨ (∃ m : Nat, am = (m : Int) ∧ l ≤ m ∧ 1 ≤ m ∧ cnt ⟨ac, (l : Int), am⟩ = m)) := by
        show (am = -1 ∧ 1 ≤ l ∧ cnt ⟨ac, (l : Int), am⟩ = l) ∨ (am = -1 ∧ l = 0 ∧ cnt ⟨ac, (l : Int), am⟩ = 1) ∨ (∃ m : Nat, am = (m : Int) ∧ l ≤ m ∧ 1 ≤ m ∧ cnt ⟨ac, (l : Int), am⟩ = m)
        unfold cnt counted
        simp only
        rcases hr5 with h | ⟨h1, h2, h3⟩
        · rw [if_pos h]
          by_cases hl : (l : Int) < 1
          · rw [if_pos hl]; exact Or.inr (Or.inl ⟨h, by omega, rfl⟩)
          · rw [if_neg hl]; exact Or.inl ⟨h, by omega, by omega⟩
        · rw [if_neg (by omega)]
          exact Or.inr (Or.inr ⟨am.toNat, by omega, by omega, by omega, rfl⟩)
      have bx := ABox.new wr ⟨ac, (l : Int), am⟩ 135
      simp only at bx
      have hlt3 := hown.lt
      have G0 : Hid (KGrow w (wr.alloc (.cells #[.string ac, .int .i64 (l : Int), .int .i64 am] 135)) u3 wr.heap.size ⟨ac, (l : Int), am⟩ (cellsP (atomsL f k) ++ preA ⟨ac, (l : Int), am⟩ 0)) := ⟨HB.out.alloc HB.out.size _, by simpa [preA] using hown.alloc _, bx, fun e => by have := (hlt3 _ e).2; omega, by have := HB.out.size; simp; omega⟩
      clear hown hbel ha hr1 hr2 hr3 bx hlt3 HO HB
      generalize cellsP (atomsL f k) = LK at *
      go_wp2_with fail
      generalize wr.alloc (.cells #[.string ac, .int .i64 (l : Int), .int .i64 am] 135) = v2 at *
      generalize wr.heap.size = p at *
      clear c0 c1 c2
      go_loopw [3, 6] (fun v nv wr => ∃ j : Nat, j ≤ l ∧ nv = .int .i64 ((j + 1 : Nat) : Int) ∧ KGrow w wr v p ⟨ac, (l : Int), am⟩ (LK ++ preA ⟨ac, (l : Int), am⟩ j)) (fun _ nv _ => l + 1 - (intOf nv).toNat)
      case atStart => exact ⟨0, Nat.zero_le _, rfl, G0.out⟩
      case round =>
        obtain ⟨j, hj, rfl, hg⟩ := hrel
        have HG : Hid (KGrow w wr u3 p ⟨ac, (l : Int), am⟩ (LK ++ preA ⟨ac, (l : Int), am⟩ j)) := hg
        obtain ⟨x0, x1, x2, xl⟩ := hg.box.all
        simp only at x0 x1 x2
        clear hg
        by_cases hjl : j < l
        · have hj1 : ((j : Int) + 1) ≤ (l : Int) := by omega
          have hj2 : (((j + 1 : Nat)) : Int) ≤ (l : Int) := by omega
          have hl40 : LK.length + j + 1 ≤ 40 := by
            rcases HCN.out with ⟨_, _, h⟩ | ⟨_, h0, _⟩ | ⟨m, _, h1, _, h⟩
            · rw [h] at hlen2; omega
            · omega
            · rw [h] at hlen2; omega
          by_cases hop : am = -1
          · have hd1 : am < 0 := by omega
            have hd2 : decide (am < 0) = true := decide_eq_true hd1
            have hcn : cnt ⟨ac, (l : Int), am⟩ = l := by
              rcases HCN.out with ⟨_, _, h⟩ | ⟨_, h0, _⟩ | ⟨m, h1, _⟩ <;> first | exact h | omega
            by_cases hlast : j + 1 = l
            · have hb1 : (((j : Int) + 1) == (l : Int)) = true := by simp; omega
              have hb2 : ((((j + 1 : Nat)) : Int) == (l : Int)) = true := by simp; omega
              have hX : cellA ⟨ac, (l : Int), am⟩ j = ⟨ac, false, true⟩ := by
                unfold cellA
                simp only
                rw [decide_eq_false (by omega), decide_eq_true ⟨hop, by rw [hcn]; exact hlast⟩]
              have HX : Hid (cellA ⟨ac, (l : Int), am⟩ j = ⟨ac, false, true⟩) := hX
              have hjl9 : j + 1 ≤ l := by omega
              clear hX hop hcn hlast
              have hown := HG.out.own
              have hlo := HG.out.lo
              go_wp2_with (at_builtin; refine wpList_append_own_at _ rfl (.tmp 25) (.tmp 38) 23 rfl w.heap.size 98 i0 (.agg #[.string ⟨#[]⟩, .bool false, .bool false]) 3 24 Tryz.underlying23 hi hz0 hz1 hz2 rfl (by decide) _ _ _ rfl (hown.alloc _) ⟨wr.heap.size, 0, none⟩ 1 1 [.string ac, .bool false, .bool true] rfl rfl (cells3_newK wr ac false true _) (one3 ac false true) (by rw [List.length_append, preA_len]; unfold maxLen; omega) (by rw [List.length_append, preA_len]; omega) (Nat.le_trans hlo (World.size_le_alloc _ _)) ?_)
              intro v9 w9 hown9 hgrow9 _ hloc9
              have G9 : Hid (KGrow w w9 v9 p ⟨ac, (l : Int), am⟩ (LK ++ preA ⟨ac, (l : Int), am⟩ (j + 1))) := by
                have h9 := HG.out.app (x := ⟨ac, false, true⟩) (by rw [List.length_append]; exact hown9) hgrow9 hloc9
                rw [← HX.out, List.append_assoc, ← preA_succ] at h9
                exact h9
              clear hown hown9 hgrow9 hloc9
              go_wp2_with fail
              go_roundw
              case rel => exact ⟨j + 1, by omega, by go_num, G9.out⟩
              case measure => simp [intOf]; omega
            · have hb1 : (((j : Int) + 1) == (l : Int)) = false := by simp; omega
              have hb2 : ((((j + 1 : Nat)) : Int) == (l : Int)) = false := by simp; omega
              have hX : cellA ⟨ac, (l : Int), am⟩ j = ⟨ac, false, false⟩ := by
                unfold cellA
                simp only
                rw [decide_eq_false (by omega), decide_eq_false (fun h => hlast (by rw [hcn] at h; exact h.2))]
              have HX : Hid (cellA ⟨ac, (l : Int), am⟩ j = ⟨ac, false, false⟩) := hX
              clear hX hop hcn hlast
              have hown := HG.out.own
              have hlo := HG.out.lo
              go_wp2_with (at_builtin; refine wpList_append_own_at _ rfl (.tmp 25) (.tmp 38) 23 rfl w.heap.size 98 i0 (.agg #[.string ⟨#[]⟩, .bool false, .bool false]) 3 24 Tryz.underlying23 hi hz0 hz1 hz2 rfl (by decide) _ _ _ rfl (hown.alloc _) ⟨wr.heap.size, 0, none⟩ 1 1 [.string ac, .bool false, .bool false] rfl rfl (cells3_newK wr ac false false _) (one3 ac false false) (by rw [List.length_append, preA_len]; unfold maxLen; omega) (by rw [List.length_append, preA_len]; omega) (Nat.le_trans hlo (World.size_le_alloc _ _)) ?_)
              intro v9 w9 hown9 hgrow9 _ hloc9
              have G9 : Hid (KGrow w w9 v9 p ⟨ac, (l : Int), am⟩ (LK ++ preA ⟨ac, (l : Int), am⟩ (j + 1))) := by
                have h9 := HG.out.app (x := ⟨ac, false, false⟩) (by rw [List.length_append]; exact hown9) hgrow9 hloc9
                rw [← HX.out, List.append_assoc, ← preA_succ] at h9
                exact h9
              clear hown hown9 hgrow9 hloc9
              go_wp2_with fail
              go_roundw
              case rel => exact ⟨j + 1, by omega, by go_num, G9.out⟩
              case measure => simp [intOf]; omega
          · have hd1 : ¬ am < 0 := by omega
            have hd2 : decide (am < 0) = false := decide_eq_false hd1
            have hX : cellA ⟨ac, (l : Int), am⟩ j = ⟨ac, false, false⟩ := by
              unfold cellA
              simp only
              rw [decide_eq_false (by omega), decide_eq_false (fun h => hop h.1)]
            have HX : Hid (cellA ⟨ac, (l : Int), am⟩ j = ⟨ac, false, false⟩) := hX
            clear hX hop
            have hown := HG.out.own
            have hlo := HG.out.lo
            go_wp2_with (at_builtin; refine wpList_append_own_at _ rfl (.tmp 25) (.tmp 38) 23 rfl w.heap.size 98 i0 (.agg #[.string ⟨#[]⟩, .bool false, .bool false]) 3 24 Tryz.underlying23 hi hz0 hz1 hz2 rfl (by decide) _ _ _ rfl (hown.alloc _) ⟨wr.heap.size, 0, none⟩ 1 1 [.string ac, .bool false, .bool false] rfl rfl (cells3_newK wr ac false false _) (one3 ac false false) (by rw [List.length_append, preA_len]; unfold maxLen; omega) (by rw [List.length_append, preA_len]; omega) (Nat.le_trans hlo (World.size_le_alloc _ _)) ?_)
            intro v9 w9 hown9 hgrow9 _ hloc9
            have G9 : Hid (KGrow w w9 v9 p ⟨ac, (l : Int), am⟩ (LK ++ preA ⟨ac, (l : Int), am⟩ (j + 1))) := by
              have h9 := HG.out.app (x := ⟨ac, false, false⟩) (by rw [List.length_append]; exact hown9) hgrow9 hloc9
              rw [← HX.out, List.append_assoc, ← preA_succ] at h9
              exact h9
            clear hown hown9 hgrow9 hloc9
            go_wp2_with fail
            go_roundw
            case rel => exact ⟨j + 1, by omega, by go_num, G9.out⟩
            case measure => simp [intOf]; omega
        · have hj1 : ¬ ((j : Int) + 1) ≤ (l : Int) := by omega
          have hj2 : ¬ (((j + 1 : Nat)) : Int) ≤ (l : Int) := by omega
          obtain rfl : j = l := by omega
          rcases HCN.out with ⟨hop, h1, hcn⟩ | ⟨hop, h1, hcn⟩ | ⟨m, hop, h1, h2, hcn⟩
          · subst hop
            have hd2 : decide ((-1 : Int) < 0) = true := rfl
            have hl0 : ((j : Int) == 0) = false := by simp; omega
            have hl1 : ¬ (j : Int) < -1 := by omega
            have HST2 := HST.out
            rw [hcn] at HST2
            clear hj1 hj2
            go_wp2_with fail
            go_loopw [3, 7] (fun v nv wq => v = u3 ∧ nv = .int .i64 (j : Int) ∧ wq = wr) (fun _ _ _ => 0)
            case atStart => first | exact ⟨rfl, rfl, rfl⟩ | exact ⟨trivial, rfl, rfl⟩ | exact ⟨rfl, rfl, trivial⟩ | exact ⟨trivial, rfl, trivial⟩ | exact ⟨trivial, trivial, trivial⟩ | simp
            case round =>
              obtain ⟨rfl, rfl, rfl⟩ := hrel
              have FO : Hid (wr.ownsRow w.heap.size 98 3 u3 (cellsP (atomsL f (k + 1))).length (kcells (cellsP (atomsL f (k + 1)))) ∧ Below w.heap.size w wr) := by
                have h9 := HG.out.own
                rw [← HST2] at h9
                exact ⟨h9, HG.out.below⟩
              go_wp2_with fail
              go_roundw
              case rel => exact ⟨k + 1, by omega, by go_num, FO.out⟩
              case measure => simp [intOf]; omega
          · subst hop h1
            have hd2 : decide ((-1 : Int) < 0) = true := rfl
            have hX : cellA ⟨ac, ((0 : Nat) : Int), -1⟩ 0 = ⟨ac, true, true⟩ := by
              show (⟨ac, decide (((0 : Nat) : Int) ≤ ((0 : Nat) : Int)), decide ((-1 : Int) = -1 ∧ 0 + 1 = cnt ⟨ac, ((0 : Nat) : Int), -1⟩)⟩ : Cel) = _
              rw [hcn]
              rfl
            have HX : Hid (cellA ⟨ac, ((0 : Nat) : Int), -1⟩ 0 = ⟨ac, true, true⟩) := hX
            clear hX
            have HST2 := HST.out
            rw [hcn] at HST2
            have hl40 : LK.length + 1 ≤ 40 := by rw [hcn] at hlen2; omega
            clear hj1 hj2
            have hown := HG.out.own
            have hlo := HG.out.lo
            go_wp2_with (at_builtin; refine wpList_append_own_at _ rfl (.tmp 48) (.tmp 52) 23 rfl w.heap.size 98 i0 (.agg #[.string ⟨#[]⟩, .bool false, .bool false]) 3 24 Tryz.underlying23 hi hz0 hz1 hz2 rfl (by decide) _ _ _ rfl (hown.alloc _) ⟨wr.heap.size, 0, none⟩ 1 1 [.string ac, .bool true, .bool true] rfl rfl (cells3_newK wr ac true true _) (one3 ac true true) (by rw [List.length_append, preA_len]; unfold maxLen; omega) (by rw [List.length_append, preA_len]; omega) (Nat.le_trans hlo (World.size_le_alloc _ _)) ?_)
            intro v9 w9 hown9 hgrow9 _ hloc9
            have G9 : Hid (KGrow w w9 v9 p ⟨ac, ((0 : Nat) : Int), -1⟩ (LK ++ preA ⟨ac, ((0 : Nat) : Int), -1⟩ (0 + 1))) := by
              have h9 := HG.out.app (x := ⟨ac, true, true⟩) (by rw [List.length_append]; exact hown9) hgrow9 hloc9
              rw [← HX.out, List.append_assoc, ← preA_succ] at h9
              exact h9
            clear hown hown9 hgrow9 hloc9
            clear x0 x1 x2 xl
            obtain ⟨x0, x1, x2, xl⟩ := G9.out.box.all
            simp only at x0 x1 x2
            go_wp2_with fail
            go_loopw [3, 7] (fun v nv wq => v = v9 ∧ nv = .int .i64 0 ∧ wq = w9) (fun _ _ _ => 0)
            case atStart => first | exact ⟨rfl, rfl, rfl⟩ | exact ⟨trivial, rfl, rfl⟩ | exact ⟨rfl, rfl, trivial⟩ | exact ⟨trivial, rfl, trivial⟩ | exact ⟨trivial, trivial, trivial⟩ | simp
            case round =>
              obtain ⟨rfl, rfl, rfl⟩ := hrel
              have FO : Hid (wr.ownsRow w.heap.size 98 3 u3 (cellsP (atomsL f (k + 1))).length (kcells (cellsP (atomsL f (k + 1)))) ∧ Below w.heap.size w wr) := by
                have h9 := G9.out.own
                rw [← HST2] at h9
                exact ⟨h9, G9.out.below⟩
              go_wp2_with fail
              go_roundw
              case rel => exact ⟨k + 1, by omega, by go_num, FO.out⟩
              case measure => simp [intOf]; omega
          · subst hop
            have hd1 : ¬ (m : Int) < 0 := by omega
            have hd2 : decide ((m : Int) < 0) = false := decide_eq_false hd1
            have HST2 := HST.out
            rw [hcn] at HST2
            rw [hcn] at hlen2
            clear hj1 hj2
            go_wp2_with fail
            go_loopw [3, 7] (fun v nv wr => ∃ i : Nat, j ≤ i ∧ i ≤ m ∧ nv = .int .i64 (i : Int) ∧ KGrow w wr v p ⟨ac, (j : Int), (m : Int)⟩ (LK ++ preA ⟨ac, (j : Int), (m : Int)⟩ i)) (fun _ nv _ => m - (intOf nv).toNat)
            case atStart => exact ⟨j, Nat.le_refl _, h1, rfl, HG.out⟩
            case round =>
              clear HG x0 x1 x2
              obtain ⟨i, hi1, hi2, rfl, hg⟩ := hrel
              have HG : Hid (KGrow w wr u3 p ⟨ac, (j : Int), (m : Int)⟩ (LK ++ preA ⟨ac, (j : Int), (m : Int)⟩ i)) := hg
              obtain ⟨x0, x1, x2, _⟩ := hg.box.all
              simp only at x0 x1 x2
              clear hg
              by_cases him : i < m
              · have him2 : (i : Int) < (m : Int) := by omega
                have hX : cellA ⟨ac, (j : Int), (m : Int)⟩ i = ⟨ac, true, false⟩ := by
                  unfold cellA
                  simp only
                  rw [decide_eq_true (by omega), decide_eq_false (fun h => by have := h.1; omega)]
                have HX : Hid (cellA ⟨ac, (j : Int), (m : Int)⟩ i = ⟨ac, true, false⟩) := hX
                clear hX
                have hown := HG.out.own
                have hlo := HG.out.lo
                go_wp2_with (at_builtin; refine wpList_append_own_at _ rfl (.tmp 62) (.tmp 66) 23 rfl w.heap.size 98 i0 (.agg #[.string ⟨#[]⟩, .bool false, .bool false]) 3 24 Tryz.underlying23 hi hz0 hz1 hz2 rfl (by decide) _ _ _ rfl (hown.alloc _) ⟨wr.heap.size, 0, none⟩ 1 1 [.string ac, .bool true, .bool false] rfl rfl (cells3_newK wr ac true false _) (one3 ac true false) (by rw [List.length_append, preA_len]; unfold maxLen; omega) (by rw [List.length_append, preA_len]; omega) (Nat.le_trans hlo (World.size_le_alloc _ _)) ?_)
                intro v9 w9 hown9 hgrow9 _ hloc9
                have G9 : Hid (KGrow w w9 v9 p ⟨ac, (j : Int), (m : Int)⟩ (LK ++ preA ⟨ac, (j : Int), (m : Int)⟩ (i + 1))) := by
                  have h9 := HG.out.app (x := ⟨ac, true, false⟩) (by rw [List.length_append]; exact hown9) hgrow9 hloc9
                  rw [← HX.out, List.append_assoc, ← preA_succ] at h9
                  exact h9
                clear hown hown9 hgrow9 hloc9
                go_wp2_with fail
                go_roundw
                case rel => exact ⟨i + 1, by omega, by omega, by go_num, G9.out⟩
                case measure => simp [intOf]; omega
              · have him2 : ¬ (i : Int) < (m : Int) := by omega
                obtain rfl : i = m := by omega
                have FO : Hid (wr.ownsRow w.heap.size 98 3 u3 (cellsP (atomsL f (k + 1))).length (kcells (cellsP (atomsL f (k + 1)))) ∧ Below w.heap.size w wr) := by
                  have h9 := HG.out.own
                  rw [← HST2] at h9
                  exact ⟨h9, HG.out.below⟩
                go_wp2_with fail
                go_roundw
                case rel => exact ⟨k + 1, by omega, by go_num, FO.out⟩
                case measure => simp [intOf]; omega
    · have hki : ¬ (k : Int) < (n : Int) := by omega
      obtain rfl : k = n := by omega
      clear hown hbel
      have FIN : Hid (NewCells w (cellsP (atomsL f k)).length (fun i => (cellsP (atomsL f k)).getD i cel0) (.returned u3) wr) := by
        obtain ⟨s9, c9, e9, h9⟩ := cells_of_ownsK HO.out
        exact ⟨s9, c9, by rw [e9], HB.out, h9⟩
      go_wp2_with fail
      go_ret
      exact FIN.out
set_option maxHeartbeats 1000000 in
theorem specKOf_yes (sa : Option Addr) (n cap : Nat) (f : Nat → Atm) (w : World) (hn : n ≤ maxLen) (hr : ARow w w.heap.size sa n f) (hc : ∀ i, i < n → (f i).c.size ≤ maxLen) (hP : PatRight n f) :
    Calls Tryz.prog 62 #[.slice sa n cap] w fun e w' => NewCells w (cellsP (atomsL f n)).length (fun i => (cellsP (atomsL f n)).getD i cel0) e w' := by
  have C := specPRight_yes sa n cap f w hn hr hc hP
  have HP : Hid (PatRight n f) := hP
  have HR : Hid (ARow w w.heap.size sa n f) := hr
  clear hn hr hc hP
  go_enter Tryz.func62, Tryz.ntmps62
  go_wp2_with fail
  refine C.mono ?_
  rintro e w1 ⟨rfl, hb1⟩
  have B1 : Hid (Below w.heap.size w w1) := hb1
  clear hb1 C
  go_wp2_with fail
  refine (l06Of_any sa n cap f w1 (HR.out.late B1.out) HP.out).mono ?_
  rintro e w2 ⟨s2, c2, rfl, hb2, hs2⟩
  have N2 : Hid (NewCells w (cellsP (atomsL f n)).length (fun i => (cellsP (atomsL f n)).getD i cel0) (.returned (.slice s2 (cellsP (atomsL f n)).length c2)) w2) := ⟨s2, c2, rfl, B1.out.trans (hb2.mono B1.out.size), by
    rcases hs2 with h | ⟨g, h1, h2, h3, h4⟩
    · exact Or.inl h
    · exact Or.inr ⟨g, h1, Nat.le_trans B1.out.size h2, h3, h4⟩⟩
  clear hb2 hs2
  go_wp2_with fail
  go_ret
  exact N2.out
theorem specKOf_no (sa : Option Addr) (n cap : Nat) (f : Nat → Atm) (w : World) (hn : n ≤ maxLen) (hr : ARow w w.heap.size sa n f) (hc : ∀ i, i < n → (f i).c.size ≤ maxLen) (hP : ¬ PatRight n f) :
    Calls Tryz.prog 62 #[.slice sa n cap] w fun e w' => NewCells w 0 (fun _ => cel0) e w' := by
  have C := specPRight_no sa n cap f w hn hr hc hP
  have NI : Hid (∀ W x, Below w.heap.size w W → NewCells w 0 (fun _ => cel0) (.returned (.slice x 0 0)) W) := fun W x hb => ⟨x, 0, rfl, hb, Or.inl rfl⟩
  clear hn hr hc hP
  go_enter Tryz.func62, Tryz.ntmps62
  go_wp2_with fail
  refine C.mono ?_
  rintro e w1 ⟨rfl, hb1⟩
  have B1 : Hid (Below w.heap.size w w1) := hb1
  clear hb1 C
  go_wp2_with fail
  go_ret
  exact NI.out _ _ (B1.out.alloc B1.out.size _)
end Go.Proofs.YtfeolbgenpknfaaGreat
