/- What is proved here: the program writes a right pattern without open atoms of several times, in new memory; nothing that was there turns. -/
import Derived.Test.YtfeolbgenpknfaaQMeanM
import Derived.Test.YtfeolbgenpknfaaQAtomSToDrawPatW
namespace Go.Proofs.Ytfeolbgenpknfaa
open Go.RowKit

/-- The cells of a list of atoms. -/
def lcells : List Atm → List Value
  | [] => []
  | a :: ps => .string a.c :: .int .i64 a.l :: .int .i64 a.m :: lcells ps
theorem lcells_append : ∀ ps qs : List Atm, lcells (ps ++ qs) = lcells ps ++ lcells qs
  | [], _ => rfl
  | a :: ps, qs => by show _ :: _ :: _ :: lcells (ps ++ qs) = _; rw [lcells_append ps qs]; rfl
theorem lcells_atoms (f : Nat → Atm) : ∀ n, lcells (atomsL f n) = acells f n
  | 0 => rfl
  | n + 1 => by rw [atomsL_succ, lcells_append, lcells_atoms f n]; rfl
theorem lcells_list (ps : List Atm) : lcells ps = acells (fun i => ps.getD i atm0) ps.length := by
  have := lcells_atoms (fun i => ps.getD i atm0) ps.length
  rw [atomsL_getD] at this
  exact this
theorem grown_set (W : World) (a : Addr) (v : Value) : W.grownBy (W.setCell a v) (some a.block) :=
  ⟨rfl, rfl, rfl, by simp [World.setCell], fun k _ hne => by
    have h : a.block ≠ k := fun e => hne (by rw [e])
    simp [World.setCell, Array.getElem?_modify, h]⟩
theorem cells3_new (W : World) (c : ByteArray) (l m : Int) (ty : TypeId) : ∀ j u, [Value.string c, .int .i64 l, .int .i64 m][j]? = some u → (W.alloc (.cells #[.string c, .int .i64 l, .int .i64 m] ty)).cell? ((⟨W.heap.size, 0, none⟩ : Addr).add j) = some u := by
  intro j u hu
  match j, hu with
  | 0, hu => simp at hu; subst hu; simp [Addr.add]
  | 1, hu => simp at hu; subst hu; simp [Addr.add]
  | 2, hu => simp at hu; subst hu; simp [Addr.add]
  | j + 3, hu => simp at hu
theorem set_size (W : World) (a : Addr) (v : Value) : (W.setCell a v).heap.size = W.heap.size := by simp [World.setCell]
theorem below_grownP {w W W' : World} {row : Option Nat} (hb : Below w.heap.size w W) (hg : W.grownBy W' row) (hr : ∀ j, row = some j → w.heap.size ≤ j) : Below w.heap.size w W' :=
  hb.trans ⟨hg.os, hg.tape, hg.output, hg.size, fun j hj => hg.block j (Nat.lt_of_lt_of_le hj hb.size) (fun e => by have := hr j e.symm; omega)⟩
set_option maxRecDepth 100000 in
set_option maxHeartbeats 4000000 in
theorem parted_any (sa : Option Addr) (n cap : Nat) (f : Nat → Atm) (w : World) (hn20 : n ≤ 20) (hr : ARow w w.heap.size sa n f) :
    Calls Try.prog 94 #[.slice sa n cap] w fun e w' => NewAtoms w (partL (atomsL f n)).length (fun i => (partL (atomsL f n)).getD i atm0) e w' := by
  obtain ⟨i0, hi, hz0, hz1, hz2⟩ := info_parts Try.atomInfo
  have HR : Hid (ARow w w.heap.size sa n f) := hr
  have HL : Hid (∀ k, k ≤ n → (partL (atomsL f k)).length ≤ 40) := fun k hk => by have := partL_len (atomsL f k); rw [atomsL_len] at this; omega
  have HEND : Hid (∀ (v : Value) (W : World), W.ownsRow w.heap.size 89 3 v (partL (atomsL f n)).length (lcells (partL (atomsL f n))) → Below w.heap.size w W → NewAtoms w (partL (atomsL f n)).length (fun i => (partL (atomsL f n)).getD i atm0) (.returned v) W) := fun v W h1 h2 => new_of_owns (by rw [← lcells_list]; exact h1) h2
  clear hr
  go_enter Try.func94, Try.ntmps94
  go_wp2_with fail
  go_loopw [3, 8] (fun v i wr => ∃ k : Nat, k ≤ n ∧ i = .int .i64 (k : Int) ∧ wr.ownsRow w.heap.size 89 3 v (partL (atomsL f k)).length (lcells (partL (atomsL f k))) ∧ Below w.heap.size w wr) (fun _ i _ => n - (intOf i).toNat)
  case atStart => exact ⟨0, Nat.zero_le _, rfl, ⟨rfl, Or.inl ⟨rfl, rfl⟩⟩, Below.refl _ _⟩
  case round =>
    obtain ⟨k, hk, rfl, hown, hbel⟩ := hrel
    have HB : Hid (Below w.heap.size w wr) := hbel
    have HW : Hid (wr.ownsRow w.heap.size 89 3 u3 (partL (atomsL f k)).length (lcells (partL (atomsL f k)))) := hown
    by_cases hkl : k < n
    · have hki : (k : Int) < (n : Int) := by omega
      have hk0 : (0 : Int) ≤ (k : Int) := by omega
      obtain ⟨bb, off, rfl, hbb, hat⟩ := HR.out.at hbel hkl
      obtain ⟨c0, c1, c2⟩ := hat
      obtain ⟨⟨ac, al, am⟩, ha⟩ : ∃ a, f k = a := ⟨_, rfl⟩
      have HS : Hid (partL (atomsL f (k + 1)) = partL (atomsL f k) ++ part1 ⟨ac, al, am⟩) := by
        show partL (atomsL f (k + 1)) = _
        rw [atomsL_succ, partL_append, ha]
        show _ ++ (part1 _ ++ []) = _
        rw [List.append_nil]
      rw [ha] at c0 c1 c2
      simp only at c0 c1 c2
      have hl1 := HL.out k hk
      have hsz := HB.out.size
      have hlt3 := HW.out.lt
      generalize partL (atomsL f k) = pk at *
      clear hbel ha
      by_cases hopen : am = -1 ∧ 0 < al
      · obtain ⟨rfl, hal⟩ := hopen
        have HP1 : Hid (part1 ⟨ac, al, -1⟩ = [⟨ac, al, al⟩, ⟨ac, 0, -1⟩]) := by
          show part1 _ = _
          unfold part1
          rw [if_pos ⟨rfl, hal⟩]
        go_wp2_with (at_builtin; refine wpList_append_own_at _ rfl (.tmp 20) (.tmp 28) 23 rfl w.heap.size 89 i0 (.agg #[.string ⟨#[]⟩, .int .i64 0, .int .i64 0]) 3 32 Try.underlying23 hi hz0 hz1 hz2 rfl (by decide) _ _ _ rfl ((HW.out.alloc _).alloc _) ⟨wr.heap.size + 1, 0, none⟩ 1 1 [.string ac, .int .i64 al, .int .i64 al] rfl rfl ?c1 ?c2 ?c3 ?c4 ?c5 ?_)
        case c1 =>
          intro j u hu
          match j, hu with
          | 0, hu => simp at hu; subst hu; simp [Addr.add]
          | 1, hu => simp at hu; subst hu; simp [Addr.add]
          | 2, hu => simp at hu; subst hu; simp [Addr.add]
          | j + 3, hu => simp at hu
        case c2 => intro u hu; simp at hu; rcases hu with rfl | rfl | rfl <;> rfl
        case c3 => unfold maxLen; omega
        case c4 => omega
        case c5 => simp <;> omega
        intro v' w2 hown2 hgrow _ hloc
        have hne3 : u3.ownBlock ≠ some wr.heap.size := fun e => by have := (hlt3 _ e).2; omega
        have hneV : v'.ownBlock ≠ some wr.heap.size := by
          rcases hloc with e | e
          · rw [e]; exact hne3
          · rw [e]; simp <;> omega
        have hblk := hgrow.block wr.heap.size (by simp <;> omega) (fun e => hne3 e.symm)
        have hb0 : w2.heap[wr.heap.size]? = some (.cells #[.string ac, .int .i64 al, .int .i64 (-1)] 89) := hblk.trans (((World.grownBy_alloc _ _ none).block wr.heap.size (by simp) (by simp)).trans (heap_alloc_new wr _))
        have x0 : w2.cell? ⟨wr.heap.size, 0, none⟩ = some (.string ac) := by simp [World.cell?, hb0]
        have x1 : w2.cell? ⟨wr.heap.size, 1, none⟩ = some (.int .i64 al) := by simp [World.cell?, hb0]
        have x2 : w2.cell? ⟨wr.heap.size, 2, none⟩ = some (.int .i64 (-1)) := by simp [World.cell?, hb0]
        have fz : w2.frozen? ⟨wr.heap.size, 1, none⟩ = false := frozen_of_row _ _ _ _ _ hb0
        have hs2 : wr.heap.size < w2.heap.size := by have := hgrow.size; simp at this; omega
        have B2 : Hid (Below w.heap.size w w2) := below_grownP ((HB.out.alloc HB.out.size _).alloc (by simp; omega) _) hgrow (fun j e => (hlt3 j e).1)
        have B3 : Hid (Below w.heap.size w (w2.setCell ⟨wr.heap.size, 1, none⟩ (.int .i64 0))) := B2.out.setCell (by show w.heap.size ≤ wr.heap.size; omega) _
        have O3 : Hid ((w2.setCell ⟨wr.heap.size, 1, none⟩ (.int .i64 0)).ownsRow w.heap.size 89 3 v' (pk.length + 1) (lcells pk ++ [.string ac, .int .i64 al, .int .i64 al])) := hown2.kept (grown_set w2 ⟨wr.heap.size, 1, none⟩ (.int .i64 0)) (Or.inr hneV)
        clear hblk hb0 hown2 hgrow hloc HW HB hown
        generalize hpp : wr.heap.size = p at *
        clear hpp
        go_wp2_with (at_builtin; refine wpList_append_own_at _ rfl (.tmp 31) (.tmp 33) 23 rfl w.heap.size 89 i0 (.agg #[.string ⟨#[]⟩, .int .i64 0, .int .i64 0]) 3 32 Try.underlying23 hi hz0 hz1 hz2 rfl (by decide) _ _ _ rfl (O3.out.alloc _) ⟨w2.heap.size, 0, none⟩ 1 1 [.string ac, .int .i64 0, .int .i64 (-1)] rfl rfl ?d1 ?d2 ?d3 ?d4 ?d5 ?_)
        case d1 =>
          have h := cells3_new (w2.setCell ⟨p, 1, none⟩ (.int .i64 0)) ac 0 (-1) 89
          rw [set_size] at h
          exact h
        case d2 => intro u hu; simp at hu; rcases hu with rfl | rfl | rfl <;> rfl
        case d3 => unfold maxLen; omega
        case d4 => omega
        case d5 => simp <;> omega
        intro v4 w4 hown4 hgrow4 _ _
        have B4 : Hid (Below w.heap.size w w4) := below_grownP (B3.out.alloc B3.out.size _) hgrow4 (fun j e => (O3.out.lt j e).1)
        have O4 : Hid (w4.ownsRow w.heap.size 89 3 v4 (partL (atomsL f (k + 1))).length (lcells (partL (atomsL f (k + 1))))) := by
          show w4.ownsRow w.heap.size 89 3 v4 (partL (atomsL f (k + 1))).length (lcells (partL (atomsL f (k + 1))))
          rw [HS.out, HP1.out, lcells_append, List.length_append]
          have e : lcells pk ++ lcells [⟨ac, al, al⟩, ⟨ac, 0, -1⟩] = lcells pk ++ [.string ac, .int .i64 al, .int .i64 al] ++ [.string ac, .int .i64 0, .int .i64 (-1)] := by rw [List.append_assoc]; rfl
          rw [e]
          simpa using hown4
        clear hown4 hgrow4
        go_wp2_with fail
        go_roundw
        case rel => exact ⟨k + 1, by omega, by go_num, O4.out, B4.out⟩
        case measure => simp [intOf]; omega
      · have HP1 : Hid (part1 ⟨ac, al, am⟩ = [⟨ac, al, am⟩]) := by
          show part1 _ = _
          unfold part1
          rw [if_neg hopen]
        have hg : decide (am = -1) = false ∨ (am = -1 ∧ ¬ 0 < al) := by
          by_cases h : am = -1
          · exact Or.inr ⟨h, fun h2 => hopen ⟨h, h2⟩⟩
          · exact Or.inl (decide_eq_false h)
        have FIN : Hid (∀ (v4 : Value) (w4 : World), w4.ownsRow w.heap.size 89 3 v4 (pk.length + 1) (lcells pk ++ [.string ac, .int .i64 al, .int .i64 am]) → w4.ownsRow w.heap.size 89 3 v4 (partL (atomsL f (k + 1))).length (lcells (partL (atomsL f (k + 1))))) := fun v4 w4 h => by
          rw [HS.out, HP1.out, lcells_append, List.length_append]
          exact h
        clear hopen hown
        rcases hg with hg | ⟨rfl, hg⟩
        · have hgb : (am == -1) = false := by simpa using hg
          go_wp2_with (at_builtin; refine wpList_append_own_at _ rfl (.tmp 31) (.tmp 33) 23 rfl w.heap.size 89 i0 (.agg #[.string ⟨#[]⟩, .int .i64 0, .int .i64 0]) 3 32 Try.underlying23 hi hz0 hz1 hz2 rfl (by decide) _ _ _ rfl ((HW.out.alloc _).alloc _) ⟨wr.heap.size + 1, 0, none⟩ 1 1 [.string ac, .int .i64 al, .int .i64 am] rfl rfl ?d1 ?d2 ?d3 ?d4 ?d5 ?_)
          case d1 =>
            intro j u hu
            match j, hu with
            | 0, hu => simp at hu; subst hu; simp [Addr.add]
            | 1, hu => simp at hu; subst hu; simp [Addr.add]
            | 2, hu => simp at hu; subst hu; simp [Addr.add]
            | j + 3, hu => simp at hu
          case d2 => intro u hu; simp at hu; rcases hu with rfl | rfl | rfl <;> rfl
          case d3 => unfold maxLen; omega
          case d4 => omega
          case d5 => simp <;> omega
          intro v4 w4 hown4 hgrow4 _ _
          have B4 : Hid (Below w.heap.size w w4) := below_grownP ((HB.out.alloc HB.out.size _).alloc (by simp; omega) _) hgrow4 (fun j e => (hlt3 j e).1)
          have O4 := FIN.out _ _ hown4
          clear hown4 hgrow4 HW HB
          go_wp2_with fail
          go_roundw
          case rel => exact ⟨k + 1, by omega, by go_num, O4, B4.out⟩
          case measure => simp [intOf]; omega
        · have hd : decide (0 < al) = false := by simp; omega
          have hd2 : al ≤ 0 := by omega
          go_wp2_with (at_builtin; refine wpList_append_own_at _ rfl (.tmp 31) (.tmp 33) 23 rfl w.heap.size 89 i0 (.agg #[.string ⟨#[]⟩, .int .i64 0, .int .i64 0]) 3 32 Try.underlying23 hi hz0 hz1 hz2 rfl (by decide) _ _ _ rfl ((HW.out.alloc _).alloc _) ⟨wr.heap.size + 1, 0, none⟩ 1 1 [.string ac, .int .i64 al, .int .i64 (-1)] rfl rfl ?e1 ?e2 ?e3 ?e4 ?e5 ?_)
          case e2 => exact ⟨rfl, rfl, rfl⟩
          case e3 => first | (unfold maxLen; omega) | omega
          case e4 => omega
          case e5 => first | omega | (simp <;> omega)
          intro v4 w4 hown4 hgrow4 _ _
          have B4 : Hid (Below w.heap.size w w4) := below_grownP ((HB.out.alloc HB.out.size _).alloc (by simp; omega) _) hgrow4 (fun j e => (hlt3 j e).1)
          have O4 := FIN.out _ _ hown4
          clear hown4 hgrow4 HW HB
          go_wp2_with fail
          go_roundw
          case rel => exact ⟨k + 1, by omega, by go_num, O4, B4.out⟩
          case measure => simp [intOf]; omega
    · have hki : ¬ (k : Int) < (n : Int) := by omega
      obtain rfl : k = n := by omega
      clear hbel hown
      go_wp2_with fail
      go_ret
      exact HEND.out _ _ HW.out HB.out
end Go.Proofs.Ytfeolbgenpknfaa
