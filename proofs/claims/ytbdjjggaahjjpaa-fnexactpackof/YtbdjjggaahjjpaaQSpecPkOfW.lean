/- What is proved here: the specification's PackOf tells the pack of right rows, or a code, in new memory; nothing that was there turns. -/
import Derived.Test.YtbdjjggaahjjpaaQAppCW
import Derived.Test.YtbdjjggaahjjpaaQCloneCW
import Derived.Test.YtbdjjggaahjjpaaQPackOfW
import Derived.Test.YtbdjjggaahjjpaaQSpecKRightW
import Derived.Test.YtbdjjggaahjjpaaQSpecKVecW
import Derived.Test.YtbdjjggaahjjpaaQImplPkOfW
import Derived.Deep.RegionWith
import Derived.Deep.RegionLaw
namespace Go.Proofs.Ytbdjjggaahjjpaa
open Go.RowKit

theorem ill_any (c : Int) (w : World) :
    Calls Try.prog 41 #[.int .i64 c] w fun e w' => e = .returned (.agg #[.slice none 0 0, .slice none 0 0, .int .i64 0, .int .i64 0, .slice none 0 0, .slice none 0 0, .int .i64 c]) ∧ Below w.heap.size w w' := by
  go_enter Try.func41, Try.ntmps41
  go_wp2_with fail
  refine bodyPost_ret (v := .agg #[.slice none 0 0, .slice none 0 0, .int .i64 0, .int .i64 0, .slice none 0 0, .slice none 0 0, .int .i64 c]) (by simp [results, Try.results41, go_sem]) rfl ?_
  exact ⟨rfl, (Below.refl _ _).alloc (Nat.le_refl _) _⟩
theorem rows_apartP {W : World} {b1 b2 s1 s2 n1 n2 : Nat} {e1 e2 : TypeId} {v1 v2 : Value} {x1 x2 : List Value} (h : W.ownsRow b1 e1 s1 v1 n1 x1) (h' : W.ownsRow b2 e2 s2 v2 n2 x2) (hne : e1 ≠ e2) : v1.ownBlock = none ∨ v1.ownBlock ≠ v2.ownBlock := by
  rcases h.2 with ⟨rfl, _⟩ | ⟨g, cap, cur, rfl, _, hh, _⟩
  · exact .inl rfl
  · refine .inr (fun e => ?_)
    rcases h'.2 with ⟨rfl, _⟩ | ⟨g', cap', cur', rfl, _, hh', _⟩
    · simp [Value.ownBlock] at e
    · simp [Value.ownBlock] at e
      subst e
      rw [hh] at hh'
      injection hh' with h9
      injection h9 with _ h10 _
      exact hne h10
theorem rcells_first {s : Nat → Option Addr} {n c : Nat → Nat} {k : Nat} (h : 0 < k) : (rcells s n c k)[0]? = some (.slice (s 0) (n 0) (c 0)) := rcells_get s n c 0 k h
theorem atL_first {n : Nat → Nat} {k : Nat} (h : 0 < k) : (icells (atL n k))[0]? = some (.int .i64 (atP n 0 : Int)) := by simp [icells, atL, h]
theorem own_ne {W : World} {base size m : Nat} {e : TypeId} {v x y : Value} {xs : List Value} {g b : Nat} (h : W.ownsRow base e size v m xs) (hg : v.ownBlock = some g) (hx : xs[0]? = some x) (hc : W.cell? ⟨b, 0, none⟩ = some y) (hne : x ≠ y) : g ≠ b := by
  intro e9
  subst e9
  have h1 := h.cells hg 0 x hx
  have h2 : ((⟨g, 0, none⟩ : Addr).add 0) = ⟨g, 0, none⟩ := by unfold Addr.add; split <;> simp_all
  rw [h2, hc] at h1
  injection h1 with h1
  exact hne h1.symm
/-- Rows and beginnings that are told so far. -/
structure SpTo (W : World) (lo i m : Nat) (n : Nat → Nat) (f : Nat → Nat → Cel) (b c' : Nat → Nat) (v u : Value) : Prop where
  rows : W.ownsRow lo 58 1 v i (rcells (fun j => some ⟨b j, 0, none⟩) n c' i)
  ats : W.ownsRow lo 2 1 u m (icells (atL n m))
  own : ∀ j, j < i → lo ≤ b j ∧ 1 ≤ n j ∧ COwn W (b j) (n j) (f j)
  apart : ∀ j j', j < j' → j' < i → b j < b j'
theorem SpTo.kept {W W' : World} {lo i m : Nat} {n : Nat → Nat} {f : Nat → Nat → Cel} {b c' : Nat → Nat} {v u : Value} (h : SpTo W lo i m n f b c' v u) (hb : Below W.heap.size W W') : SpTo W' lo i m n f b c' v u :=
  ⟨ints_below h.rows hb rfl, ints_below h.ats hb rfl, fun j hj => ⟨(h.own j hj).1, (h.own j hj).2.1, (h.own j hj).2.2.kept hb (h.own j hj).2.2.lt⟩, h.apart⟩
theorem SpTo.set {W : World} {lo i m : Nat} {n : Nat → Nat} {f : Nat → Nat → Cel} {b c' : Nat → Nat} {v u : Value} (h : SpTo W lo i m n f b c' v u) (a : Addr) (x : Value) (ha : a.block < lo) : SpTo (W.setCell a x) lo i m n f b c' v u :=
  ⟨owns_set h.rows a x ha, owns_set h.ats a x ha, fun j hj => ⟨(h.own j hj).1, (h.own j hj).2.1, (h.own j hj).2.2.setOther a x (by have := (h.own j hj).1; omega)⟩, h.apart⟩
theorem SpTo.drew {W : World} {lo i m : Nat} {n : Nat → Nat} {f : Nat → Nat → Cel} {b c' : Nat → Nat} {v u : Value} (h : SpTo W lo i m n f b c' v u) : SpTo W.drew lo i m n f b c' v u := ⟨h.rows, h.ats, fun j hj => ⟨(h.own j hj).1, (h.own j hj).2.1, (h.own j hj).2.2.drew⟩, h.apart⟩
/-- One more row: a copy in new memory, and the list appended to. -/
theorem SpTo.push {W W1 W2 : World} {lo i m bi ci : Nat} {n : Nat → Nat} {f : Nat → Nat → Cel} {b c' : Nat → Nat} {v u v' : Value} (h : SpTo W lo i m n f b c' v u) (hi : m ≤ i) (hb : Below W.heap.size W W1) (hn : 1 ≤ n i) (ho : COwn W1 bi (n i) (f i)) (hbi : W.heap.size ≤ bi) (hlo : lo ≤ W.heap.size)
    (hw : W2.ownsRow lo 58 1 v' (i + 1) (rcells (fun j => some ⟨b j, 0, none⟩) n c' i ++ [.slice (some ⟨bi, 0, none⟩) (n i) ci])) (hg : W1.grownBy W2 v.ownBlock) :
    SpTo W2 lo (i + 1) m n f (fun j => if j = i then bi else b j) (fun j => if j = i then ci else c' j) v' u := by
  have h1 := h.kept hb
  have hvb : ∀ x, v.ownBlock = some x → x < W.heap.size := fun x hx => (h.rows.lt x hx).2
  refine ⟨?_, ?_, fun j hj => ?_, fun j j' hjj hj' => ?_⟩
  · have e : rcells (fun j => some ⟨if j = i then bi else b j, 0, none⟩) n (fun j => if j = i then ci else c' j) (i + 1) = rcells (fun j => some ⟨b j, 0, none⟩) n c' i ++ [.slice (some ⟨bi, 0, none⟩) (n i) ci] := by
      show rcells _ _ _ i ++ _ = _
      simp only [if_pos]
      rw [rcells_congr i (fun j hj => ⟨by rw [if_neg (by omega)], rfl, by rw [if_neg (by omega)]⟩)]
    rw [e]
    exact hw
  · exact h1.ats.kept hg (rows_apartP h1.ats h1.rows (by decide))
  · by_cases e : j = i
    · subst e
      simp only [if_pos]
      refine ⟨by omega, hn, ?_⟩
      refine ho.other hg (fun e9 => ?_)
      have := hvb bi e9
      omega
    · simp only [if_neg e]
      obtain ⟨a1, a2, a3⟩ := h1.own j (by omega)
      refine ⟨a1, a2, a3.other hg (fun e9 => ?_)⟩
      exact own_ne h1.rows e9 (rcells_first (by omega)) (by have := (a3.at' 0 (by omega)).c0; simpa using this) (by simp) rfl
  · by_cases e : j' = i
    · subst e
      simp only [if_pos]
      rw [if_neg (by omega)]
      have := (h.own j (by omega)).2.2.lt
      omega
    · simp only [if_neg e]
      rw [if_neg (by omega)]
      exact h.apart j j' hjj (by omega)
/-- One more beginning. -/
theorem SpTo.pushAt {W W2 : World} {lo i m : Nat} {n : Nat → Nat} {f : Nat → Nat → Cel} {b c' : Nat → Nat} {v u u' : Value} (h : SpTo W lo i m n f b c' v u)
    (hw : W2.ownsRow lo 2 1 u' (m + 1) (icells (atL n m) ++ [.int .i64 (atP n m : Int)])) (hg : W.grownBy W2 u.ownBlock) (hu : m = 0 → u.ownBlock = none) :
    SpTo W2 lo i (m + 1) n f b c' v u' := by
  refine ⟨?_, ?_, fun j hj => ?_, h.apart⟩
  · exact h.rows.kept hg (rows_apartP h.rows h.ats (by decide))
  · rw [atL_succ, icells_append]
    exact hw
  · obtain ⟨a1, a2, a3⟩ := h.own j hj
    refine ⟨a1, a2, a3.other hg (fun e9 => ?_)⟩
    by_cases h0 : m = 0
    · rw [hu h0] at e9
      cases e9
    · exact own_ne h.ats e9 (atL_first (by omega)) (by have := (a3.at' 0 (by omega)).c0; simpa using this) (by simp) rfl
section
variable {ops : Array Oper} {o : Oper} {a : Act} {w : World} {K : Act → World → Prop} {Q : Exit → Act → World → Prop}
theorem step_append_ownP {E : Prop} (hgd : o.guard = none) (s x : Operand) (t : TypeId)
    (ho : o.op = .call { callee := .builtin .append, args := #[s, x], argTypes := #[t, t] })
    (base : Nat) (e : TypeId) (i : TypeInfo) (z : Value) (size bytes : Nat) (ht : Try.prog.underlying t = some (.slice e)) (hi : Try.prog.info? e = some i) (hz : i.zero = some z)
    (hsize : i.size = size) (hby : i.bytes = bytes) (hzs : z.cells.size = size) (hsz : 0 < size)
    (v : Value) (n : Nat) (xs : List Value) (hs : a.eval s = v) (hown : w.ownsRow base e size v n xs)
    (ad : Addr) (m c : Nat) (news : List Value) (hx : a.eval x = .slice (some ad) m c) (hl : news.length = m * size) (hnews : ∀ j u, news[j]? = some u → w.cell? (ad.add j) = some u) (h1 : ∀ u ∈ news, u.oneCell' = true)
    (h63 : n + m ≤ maxLen) (hbytes : (n + m) * bytes ≤ 140737488355328) (hbase : base ≤ w.heap.size)
    (h : ∀ v' w', w'.ownsRow base e size v' (n + m) (xs ++ news) → w.grownBy w' v.ownBlock → (v' = .slice none 0 0 ↔ v = .slice none 0 0 ∧ m = 0) → K (a.put o.dst v') w') : if Region.wanted o (yielded ops a.tmps) = true then Oper.wp Try.prog o a w K Q else E := by
  rw [if_pos (by simp [Region.wanted, hgd])]
  exact wp_append_own w s x t ho base e i z size bytes ht hi hz hsize hby hzs hsz v n xs hs hown ad m c news hx hl hnews h1 h63 hbytes hbase h
end
theorem cellS_new (W : World) (x : Value) (ty : TypeId) : ∀ j u, [x][j]? = some u → (W.alloc (.cells #[x] ty)).cell? ((⟨W.heap.size, 0, none⟩ : Addr).add j) = some u := by
  intro j u hu
  match j, hu with
  | 0, hu => simp at hu; subst hu; simp [Addr.add]
  | j + 1, hu => simp at hu
theorem rows_val {W : World} {base k : Nat} {v : Value} {e : TypeId} {xs : List Value} (h : W.ownsRow base e 1 v (k + 1) xs) : ∃ g cap, v = .slice (some ⟨g, 0, none⟩) (k + 1) cap ∧ base ≤ g := by
  obtain ⟨_, ⟨_, hx⟩ | ⟨g, cap, cur, rfl, hg, _⟩⟩ := h
  · omega
  · exact ⟨g, _, rfl, hg⟩
open Classical in
set_option maxRecDepth 100000 in
set_option maxHeartbeats 8000000 in
theorem specPackOf_any (sr : Option Addr) (k cr : Nat) (n : Nat → Nat) (f : Nat → Nat → Cel) (w : World) (hk : k ≤ maxLen) (hn : ∀ i, i < k → n i ≤ maxLen) (hc : ∀ i, i < k → ∀ j, j < n i → (f i j).c.size ≤ maxLen) (hr : RowsRead w sr k n f) :
    Calls Try.prog 13 #[.slice sr k cr] w fun e w' => NewPo w (poOf k n f) e w' := by
  obtain ⟨i0, hi, hz0, hz1, hz2⟩ := info_parts Try.cellsInfo
  obtain ⟨j0, hj, hy0, hy1, hy2⟩ := info_parts Try.numInfo
  obtain ⟨s, c, hr⟩ := hr
  unfold maxLen at hk
  have B0 : Below w.heap.size w (w.alloc (.cells #[.slice none 0 0, .slice none 0 0, .int .i64 0, .int .i64 0, .slice none 0 0, .slice none 0 0, .int .i64 0] 38)) := (Below.refl _ _).alloc (Nat.le_refl _) _
  have X0 : (w.alloc (.cells #[.slice none 0 0, .slice none 0 0, .int .i64 0, .int .i64 0, .slice none 0 0, .slice none 0 0, .int .i64 0] 38)).heap[w.heap.size]? = some (.cells #[.slice none 0 0, .slice none 0 0, .int .i64 0, .int .i64 0, .slice none 0 0, .slice none 0 0, .int .i64 0] 38 (0, 0)) := heap_alloc_new w _
  have Z0 : (w.alloc (.cells #[.slice none 0 0, .slice none 0 0, .int .i64 0, .int .i64 0, .slice none 0 0, .slice none 0 0, .int .i64 0] 38)).heap.size = w.heap.size + 1 := by simp
  have HC : Hid (∀ (W : World) (c : Int), Below w.heap.size w W → NewPo w (poCode c) (.returned (.agg #[.slice none 0 0, .slice none 0 0, .int .i64 0, .int .i64 0, .slice none 0 0, .slice none 0 0, .int .i64 c])) W) := fun W c hW => ⟨none, none, none, none, 0, 0, 0, 0, rfl, hW, poOwn_code hW.size⟩
  have HR : Hid (∀ W, Below w.heap.size w W → CCRows W W.heap.size sr k s n c f) := fun W hW => hr.late hW
  have HNM : Hid (∀ i, i < k → n i ≤ maxLen) := hn
  have HCM : Hid (∀ i, i < k → ∀ j, j < n i → (f i j).c.size ≤ maxLen) := hc
  obtain ⟨R, hR⟩ : ∃ R, poOf k n f = R := ⟨_, rfl⟩
  have HRR : Hid (poOf k n f = R) := hR
  rw [hR]
  clear hr hn hc hR
  by_cases h4 : 400 < (k : Int)
  · obtain rfl : R = poCode 2 := by rw [← HRR.out]; unfold poOf; rw [if_pos (by omega)]
    go_enter Try.func13, Try.ntmps13
    go_wp2_with fail
    refine (ill_any 2 _).mono ?_
    rintro e wi ⟨rfl, hb⟩
    have BI := B0.trans (hb.mono B0.size)
    have XI : wi.heap[w.heap.size]? = some (.cells #[.slice none 0 0, .slice none 0 0, .int .i64 0, .int .i64 0, .slice none 0 0, .slice none 0 0, .int .i64 0] 38 (0, 0)) := (hb.block w.heap.size (lt_of_block X0)).trans X0
    clear hb
    have hx2 := XI
    have x0 : wi.cell? ⟨w.heap.size, 0, none⟩ = some (.slice none 0 0) := by simp [World.cell?, hx2]
    have x1 : wi.cell? ⟨w.heap.size, 1, none⟩ = some (.slice none 0 0) := by simp [World.cell?, hx2]
    have x2 : wi.cell? ⟨w.heap.size, 2, none⟩ = some (.int .i64 0) := by simp [World.cell?, hx2]
    have x3 : wi.cell? ⟨w.heap.size, 3, none⟩ = some (.int .i64 0) := by simp [World.cell?, hx2]
    have x4 : wi.cell? ⟨w.heap.size, 4, none⟩ = some (.slice none 0 0) := by simp [World.cell?, hx2]
    have x5 : wi.cell? ⟨w.heap.size, 5, none⟩ = some (.slice none 0 0) := by simp [World.cell?, hx2]
    have x6 : wi.cell? ⟨w.heap.size, 6, none⟩ = some (.int .i64 0) := by simp [World.cell?, hx2]
    have xf0 : wi.frozen? ⟨w.heap.size, 0, none⟩ = false := frozen_of_row _ _ _ _ _ hx2
    have xf1 : wi.frozen? ⟨w.heap.size, 1, none⟩ = false := frozen_of_row _ _ _ _ _ hx2
    have xf2 : wi.frozen? ⟨w.heap.size, 2, none⟩ = false := frozen_of_row _ _ _ _ _ hx2
    have xf3 : wi.frozen? ⟨w.heap.size, 3, none⟩ = false := frozen_of_row _ _ _ _ _ hx2
    have xf4 : wi.frozen? ⟨w.heap.size, 4, none⟩ = false := frozen_of_row _ _ _ _ _ hx2
    have xf5 : wi.frozen? ⟨w.heap.size, 5, none⟩ = false := frozen_of_row _ _ _ _ _ hx2
    have xf6 : wi.frozen? ⟨w.heap.size, 6, none⟩ = false := frozen_of_row _ _ _ _ _ hx2
    clear hx2
    go_wp2_with fail
    clear x0 xf0 x1 xf1 x2 xf2 x3 xf3 x4 xf4 x5 xf5 x6 xf6
    obtain ⟨r0, r1, r2, r3, r4, r5, r6⟩ := seven_set wi w.heap.size (.slice none 0 0) (.slice none 0 0) (.int .i64 0) (.int .i64 0) (.slice none 0 0) (.slice none 0 0) (.int .i64 2) (seven_there XI)
    have hm := seven_only wi w.heap.size (.slice none 0 0) (.slice none 0 0) (.int .i64 0) (.int .i64 0) (.slice none 0 0) (.slice none 0 0) (.int .i64 2)
    have hbl := BI.trans (hm.below (Nat.le_refl _) BI.size)
    generalize ((((((wi.setCell ⟨w.heap.size, 0, none⟩ (.slice none 0 0)).setCell ⟨w.heap.size, 1, none⟩ (.slice none 0 0)).setCell ⟨w.heap.size, 2, none⟩ (.int .i64 0)).setCell ⟨w.heap.size, 3, none⟩ (.int .i64 0)).setCell ⟨w.heap.size, 4, none⟩ (.slice none 0 0)).setCell ⟨w.heap.size, 5, none⟩ (.slice none 0 0)).setCell ⟨w.heap.size, 6, none⟩ (.int .i64 2) = w9 at *
    refine bodyPost_ret (v := .agg #[.slice none 0 0, .slice none 0 0, .int .i64 0, .int .i64 0, .slice none 0 0, .slice none 0 0, .int .i64 2]) (by simp [results, Try.results13, go_sem, r0, r1, r2, r3, r4, r5, r6]) rfl ?_
    exact HC.out _ _ hbl
  have hk4 : ¬ 400 < k := by omega
  by_cases h1 : (k : Int) < 1
  · obtain rfl : R = poCode 1 := by rw [← HRR.out]; unfold poOf; rw [if_neg hk4, if_pos (fun h : RowsOk k n f => by have := h.1; omega)]
    go_enter Try.func13, Try.ntmps13
    go_wp2_with fail
    refine (ill_any 1 _).mono ?_
    rintro e wi ⟨rfl, hb⟩
    have BI := B0.trans (hb.mono B0.size)
    have XI : wi.heap[w.heap.size]? = some (.cells #[.slice none 0 0, .slice none 0 0, .int .i64 0, .int .i64 0, .slice none 0 0, .slice none 0 0, .int .i64 0] 38 (0, 0)) := (hb.block w.heap.size (lt_of_block X0)).trans X0
    clear hb
    have hx2 := XI
    have x0 : wi.cell? ⟨w.heap.size, 0, none⟩ = some (.slice none 0 0) := by simp [World.cell?, hx2]
    have x1 : wi.cell? ⟨w.heap.size, 1, none⟩ = some (.slice none 0 0) := by simp [World.cell?, hx2]
    have x2 : wi.cell? ⟨w.heap.size, 2, none⟩ = some (.int .i64 0) := by simp [World.cell?, hx2]
    have x3 : wi.cell? ⟨w.heap.size, 3, none⟩ = some (.int .i64 0) := by simp [World.cell?, hx2]
    have x4 : wi.cell? ⟨w.heap.size, 4, none⟩ = some (.slice none 0 0) := by simp [World.cell?, hx2]
    have x5 : wi.cell? ⟨w.heap.size, 5, none⟩ = some (.slice none 0 0) := by simp [World.cell?, hx2]
    have x6 : wi.cell? ⟨w.heap.size, 6, none⟩ = some (.int .i64 0) := by simp [World.cell?, hx2]
    have xf0 : wi.frozen? ⟨w.heap.size, 0, none⟩ = false := frozen_of_row _ _ _ _ _ hx2
    have xf1 : wi.frozen? ⟨w.heap.size, 1, none⟩ = false := frozen_of_row _ _ _ _ _ hx2
    have xf2 : wi.frozen? ⟨w.heap.size, 2, none⟩ = false := frozen_of_row _ _ _ _ _ hx2
    have xf3 : wi.frozen? ⟨w.heap.size, 3, none⟩ = false := frozen_of_row _ _ _ _ _ hx2
    have xf4 : wi.frozen? ⟨w.heap.size, 4, none⟩ = false := frozen_of_row _ _ _ _ _ hx2
    have xf5 : wi.frozen? ⟨w.heap.size, 5, none⟩ = false := frozen_of_row _ _ _ _ _ hx2
    have xf6 : wi.frozen? ⟨w.heap.size, 6, none⟩ = false := frozen_of_row _ _ _ _ _ hx2
    clear hx2
    go_wp2_with fail
    clear x0 xf0 x1 xf1 x2 xf2 x3 xf3 x4 xf4 x5 xf5 x6 xf6
    obtain ⟨r0, r1, r2, r3, r4, r5, r6⟩ := seven_set wi w.heap.size (.slice none 0 0) (.slice none 0 0) (.int .i64 0) (.int .i64 0) (.slice none 0 0) (.slice none 0 0) (.int .i64 1) (seven_there XI)
    have hm := seven_only wi w.heap.size (.slice none 0 0) (.slice none 0 0) (.int .i64 0) (.int .i64 0) (.slice none 0 0) (.slice none 0 0) (.int .i64 1)
    have hbl := BI.trans (hm.below (Nat.le_refl _) BI.size)
    generalize ((((((wi.setCell ⟨w.heap.size, 0, none⟩ (.slice none 0 0)).setCell ⟨w.heap.size, 1, none⟩ (.slice none 0 0)).setCell ⟨w.heap.size, 2, none⟩ (.int .i64 0)).setCell ⟨w.heap.size, 3, none⟩ (.int .i64 0)).setCell ⟨w.heap.size, 4, none⟩ (.slice none 0 0)).setCell ⟨w.heap.size, 5, none⟩ (.slice none 0 0)).setCell ⟨w.heap.size, 6, none⟩ (.int .i64 1) = w9 at *
    refine bodyPost_ret (v := .agg #[.slice none 0 0, .slice none 0 0, .int .i64 0, .int .i64 0, .slice none 0 0, .slice none 0 0, .int .i64 1]) (by simp [results, Try.results13, go_sem, r0, r1, r2, r3, r4, r5, r6]) rfl ?_
    exact HC.out _ _ hbl
  by_cases h6 : 6 < (k : Int)
  · obtain rfl : R = poCode 1 := by rw [← HRR.out]; unfold poOf; rw [if_neg hk4, if_pos (fun h : RowsOk k n f => by have := h.2.1; omega)]
    go_enter Try.func13, Try.ntmps13
    go_wp2_with fail
    refine (ill_any 1 _).mono ?_
    rintro e wi ⟨rfl, hb⟩
    have BI := B0.trans (hb.mono B0.size)
    have XI : wi.heap[w.heap.size]? = some (.cells #[.slice none 0 0, .slice none 0 0, .int .i64 0, .int .i64 0, .slice none 0 0, .slice none 0 0, .int .i64 0] 38 (0, 0)) := (hb.block w.heap.size (lt_of_block X0)).trans X0
    clear hb
    have hx2 := XI
    have x0 : wi.cell? ⟨w.heap.size, 0, none⟩ = some (.slice none 0 0) := by simp [World.cell?, hx2]
    have x1 : wi.cell? ⟨w.heap.size, 1, none⟩ = some (.slice none 0 0) := by simp [World.cell?, hx2]
    have x2 : wi.cell? ⟨w.heap.size, 2, none⟩ = some (.int .i64 0) := by simp [World.cell?, hx2]
    have x3 : wi.cell? ⟨w.heap.size, 3, none⟩ = some (.int .i64 0) := by simp [World.cell?, hx2]
    have x4 : wi.cell? ⟨w.heap.size, 4, none⟩ = some (.slice none 0 0) := by simp [World.cell?, hx2]
    have x5 : wi.cell? ⟨w.heap.size, 5, none⟩ = some (.slice none 0 0) := by simp [World.cell?, hx2]
    have x6 : wi.cell? ⟨w.heap.size, 6, none⟩ = some (.int .i64 0) := by simp [World.cell?, hx2]
    have xf0 : wi.frozen? ⟨w.heap.size, 0, none⟩ = false := frozen_of_row _ _ _ _ _ hx2
    have xf1 : wi.frozen? ⟨w.heap.size, 1, none⟩ = false := frozen_of_row _ _ _ _ _ hx2
    have xf2 : wi.frozen? ⟨w.heap.size, 2, none⟩ = false := frozen_of_row _ _ _ _ _ hx2
    have xf3 : wi.frozen? ⟨w.heap.size, 3, none⟩ = false := frozen_of_row _ _ _ _ _ hx2
    have xf4 : wi.frozen? ⟨w.heap.size, 4, none⟩ = false := frozen_of_row _ _ _ _ _ hx2
    have xf5 : wi.frozen? ⟨w.heap.size, 5, none⟩ = false := frozen_of_row _ _ _ _ _ hx2
    have xf6 : wi.frozen? ⟨w.heap.size, 6, none⟩ = false := frozen_of_row _ _ _ _ _ hx2
    clear hx2
    go_wp2_with fail
    clear x0 xf0 x1 xf1 x2 xf2 x3 xf3 x4 xf4 x5 xf5 x6 xf6
    obtain ⟨r0, r1, r2, r3, r4, r5, r6⟩ := seven_set wi w.heap.size (.slice none 0 0) (.slice none 0 0) (.int .i64 0) (.int .i64 0) (.slice none 0 0) (.slice none 0 0) (.int .i64 1) (seven_there XI)
    have hm := seven_only wi w.heap.size (.slice none 0 0) (.slice none 0 0) (.int .i64 0) (.int .i64 0) (.slice none 0 0) (.slice none 0 0) (.int .i64 1)
    have hbl := BI.trans (hm.below (Nat.le_refl _) BI.size)
    generalize ((((((wi.setCell ⟨w.heap.size, 0, none⟩ (.slice none 0 0)).setCell ⟨w.heap.size, 1, none⟩ (.slice none 0 0)).setCell ⟨w.heap.size, 2, none⟩ (.int .i64 0)).setCell ⟨w.heap.size, 3, none⟩ (.int .i64 0)).setCell ⟨w.heap.size, 4, none⟩ (.slice none 0 0)).setCell ⟨w.heap.size, 5, none⟩ (.slice none 0 0)).setCell ⟨w.heap.size, 6, none⟩ (.int .i64 1) = w9 at *
    refine bodyPost_ret (v := .agg #[.slice none 0 0, .slice none 0 0, .int .i64 0, .int .i64 0, .slice none 0 0, .slice none 0 0, .int .i64 1]) (by simp [results, Try.results13, go_sem, r0, r1, r2, r3, r4, r5, r6]) rfl ?_
    exact HC.out _ _ hbl
  obtain ⟨w0, hw0⟩ : ∃ w0, w.alloc (.cells #[.slice none 0 0, .slice none 0 0, .int .i64 0, .int .i64 0, .slice none 0 0, .slice none 0 0, .int .i64 0] 38) = w0 := ⟨_, rfl⟩
  have hb1 : Below w0.heap.size w0 (w0.alloc (.cells #[.slice none 0 0, .slice none 0 0, .int .i64 0] 30)) := (Below.refl _ _).alloc (Nat.le_refl _) _
  rw [hw0] at B0 X0 Z0
  have B1 : Hid (Below w.heap.size w (w0.alloc (.cells #[.slice none 0 0, .slice none 0 0, .int .i64 0] 30))) := B0.trans (hb1.mono B0.size)
  have X1 : Hid ((w0.alloc (.cells #[.slice none 0 0, .slice none 0 0, .int .i64 0] 30)).heap[w.heap.size]? = some (.cells #[.slice none 0 0, .slice none 0 0, .int .i64 0, .int .i64 0, .slice none 0 0, .slice none 0 0, .int .i64 0] 38 (0, 0))) := (hb1.block w.heap.size (lt_of_block X0)).trans X0
  have Y1 : Hid (Box3 (w0.alloc (.cells #[.slice none 0 0, .slice none 0 0, .int .i64 0] 30)) (w.heap.size + 1) (.slice none 0 0) (.slice none 0 0) (.int .i64 0)) := by
    have h := Box3.new w0 (.slice none 0 0) (.slice none 0 0) (.int .i64 0) 30
    rw [Z0] at h
    exact h
  have Z1 : Hid ((w0.alloc (.cells #[.slice none 0 0, .slice none 0 0, .int .i64 0] 30)).heap.size = w.heap.size + 2) := by show _ = _; simp [Z0]
  go_enter Try.func13, Try.ntmps13
  go_wp2_with fail

  generalize w0.alloc (.cells #[.slice none 0 0, .slice none 0 0, .int .i64 0] 30) = w1 at *
  clear B0 X0 Z0 hb1 hw0
  go_loopw [4] (fun iv wr => ∃ (i : Nat) (b c' : Nat → Nat) (v u : Value), i ≤ k ∧ iv = .int .i64 (i : Int) ∧ Below w.heap.size w wr ∧ wr.heap[w.heap.size]? = some (.cells #[.slice none 0 0, .slice none 0 0, .int .i64 0, .int .i64 0, .slice none 0 0, .slice none 0 0, .int .i64 0] 38 (0, 0)) ∧ Box3 wr (w.heap.size + 1) v u (.int .i64 (atP n i : Int)) ∧ SpTo wr (w.heap.size + 2) i i n f b c' v u ∧ (∀ j, j < i → CellsOk (n j) (f j)) ∧ w.heap.size + 2 ≤ wr.heap.size ∧ (i = 0 → u = .slice none 0 0)) (fun iv _ => k - (intOf iv).toNat)
  case atStart => exact ⟨0, fun _ => 0, fun _ => 0, .slice none 0 0, .slice none 0 0, Nat.zero_le _, rfl, B1.out, X1.out, Y1.out, ⟨⟨rfl, Or.inl ⟨rfl, rfl⟩⟩, ⟨rfl, Or.inl ⟨rfl, rfl⟩⟩, fun j hj => absurd hj (Nat.not_lt_zero _), fun j j' _ h => absurd h (Nat.not_lt_zero _)⟩, fun j hj => absurd hj (Nat.not_lt_zero _), by have := Z1.out; omega, fun _ => rfl⟩
  case round =>
    obtain ⟨i, b, c', v, u, hik, rfl, hbel, hx, hy, hsp, hall, hsz, hu0⟩ := hrel
    have HB : Hid (Below w.heap.size w wr) := hbel
    have HX : Hid (wr.heap[w.heap.size]? = some (.cells #[.slice none 0 0, .slice none 0 0, .int .i64 0, .int .i64 0, .slice none 0 0, .slice none 0 0, .int .i64 0] 38 (0, 0))) := hx
    have HY : Hid (Box3 wr (w.heap.size + 1) v u (.int .i64 (atP n i : Int))) := hy
    have HP : Hid (SpTo wr (w.heap.size + 2) i i n f b c' v u) := hsp
    have HA : Hid (∀ j, j < i → CellsOk (n j) (f j)) := hall
    have HU : Hid (i = 0 → u = .slice none 0 0) := hu0
    have hat : atP n i ≤ 61 * i := atP_le (fun j hj => (hall j hj).2.1) i (Nat.le_refl _)
    clear hbel hx hy hsp hall hu0
    by_cases hil : i < k
    · have hii : (i : Int) < (k : Int) := by omega
      have hi0 : (0 : Int) ≤ (i : Int) := by omega
      obtain ⟨bb, off, rfl, hbb0, ci0, hrow0⟩ := (HR.out w (Below.refl _ _)).at hil
      have hbb : bb < wr.heap.size := Nat.lt_of_lt_of_le hbb0 HB.out.size
      have ci : wr.cell? ⟨bb, off + i, none⟩ = some (.slice (s i) (n i) (c i)) := (HB.out.cell (p := ⟨bb, off + i, none⟩) hbb0).trans ci0
      have hrow : CRow wr wr.heap.size (s i) (n i) (f i) := (hrow0.kept HB.out).up HB.out.size
      clear hrow0
      have C := specKRight_any (s i) (n i) (c i) (f i) wr (HNM.out i hil) hrow (HCM.out i hil)
      have HROW : Hid (CRow wr wr.heap.size (s i) (n i) (f i)) := hrow
      clear hrow
      by_cases hok : CellsOk (n i) (f i)
      · rw [decide_eq_true hok] at C
        have hn1 := hok.1
        have hn60 := hok.2.1
        have HOK : Hid (CellsOk (n i) (f i)) := hok
        have HAS : Hid (atP n (i + 1) = atP n i + (n i + 1)) := atP_succ n i
        have HLC : Hid (∀ W, Since wr W → Calls Try.prog 42 #[.slice (s i) (n i) (c i)] W fun e w' => NewCells W (n i) (f i) e w') := fun W hW => l10Cells_any (s i) (n i) (c i) (f i) W hn1 hn60 ((HROW.out.kept hW.below).up hW.below.size)
        obtain ⟨q, hq⟩ : ∃ q, atP n i = q := ⟨_, rfl⟩
        have HQ : Hid (atP n i = q) := hq
        rw [hq] at HY hat
        obtain ⟨si, hsi⟩ : ∃ x, s i = x := ⟨_, rfl⟩
        obtain ⟨c9, hc9⟩ : ∃ x, c i = x := ⟨_, rfl⟩
        obtain ⟨ni, hni⟩ : ∃ x, n i = x := ⟨_, rfl⟩
        have HNI : Hid (n i = ni) := hni
        rw [hsi, hni, hc9] at ci C HLC ci0
        have CI0 : Hid (w.cell? ⟨bb, off + i, none⟩ = some (.slice si ni c9)) := ci0
        clear ci0
        rw [hni] at hn1 hn60
        clear hok hq hsi hni hc9
        go_wp2_with fail
        refine C.mono ?_
        rintro e w3 ⟨rfl, hb⟩
        have B3 : Hid (Below w.heap.size w w3) := HB.out.trans (hb.mono HB.out.size)
        have X3 : Hid (w3.heap[w.heap.size]? = some (.cells #[.slice none 0 0, .slice none 0 0, .int .i64 0, .int .i64 0, .slice none 0 0, .slice none 0 0, .int .i64 0] 38 (0, 0))) := (hb.block w.heap.size (lt_of_block HX.out)).trans HX.out
        have Y3 : Hid (Box3 w3 (w.heap.size + 1) v u (.int .i64 (q : Int))) := HY.out.kept hb HY.out.lt
        have P3 : Hid (SpTo w3 (w.heap.size + 2) i i n f b c' v u) := HP.out.kept hb
        have Z3 : Hid (w.heap.size + 2 ≤ w3.heap.size) := Nat.le_trans hsz hb.size
        have S3 : Hid (Since wr w3) := ⟨hb⟩
        have ci3 : w3.cell? ⟨bb, off + i, none⟩ = some (.slice si ni c9) := (hb.cell (p := ⟨bb, off + i, none⟩) hbb).trans ci
        have hbb3 : bb < w3.heap.size := Nat.lt_of_lt_of_le hbb hb.size
        clear C hb ci HB HX HY HP hsz hbb
        obtain ⟨d0, d1, d2, fd0, fd1, fd2⟩ := Y3.out.all
        have hyl := Y3.out.lt
        go_upto_region 11 with fail
        go_cut [40] (fun pv wc => ∃ (g6 k6 : Nat) (b1 c1 : Nat → Nat), pv = .slice (some ⟨g6, 0, none⟩) (i + 1) k6 ∧ Below (w.heap.size + 1) w3 wc ∧ Box3 wc (w.heap.size + 1) (.slice (some ⟨g6, 0, none⟩) (i + 1) k6) u (.int .i64 (q : Int)) ∧ SpTo wc (w.heap.size + 2) (i + 1) i n f b1 c1 (.slice (some ⟨g6, 0, none⟩) (i + 1) k6) u)
        case first =>
          go_region_law (first
            | (refine step_append_ownP rfl (.tmp 33) (.tmp 39) 28 rfl (w.heap.size + 2) 58 i0 (.slice none 0 0) 1 24 Try.underlying28 hi hz0 hz1 hz2 rfl (by decide) v i _ (by simp [Act.eval]) (hown5.alloc _) ⟨w5.heap.size, 0, none⟩ 1 1 [.slice sx ni cx] (by simp [Act.eval]) rfl (cellS_new w5 _ _) (by intro u9 hu9; simp at hu9; subst hu9; rfl) (by unfold maxLen; omega) (by omega) (by have := Z3.out; have := B5.out.size; simp; omega) ?_; intro v6 w6 hown6 hgrow6 _; have B6 : Hid (Below (w.heap.size + 2) w5 w6) := grown_lo ((World.grownBy_alloc _ _ _).trans hgrow6) (fun j e => (hown5.lt j e).1) (Nat.le_refl _) (Nat.le_trans Z3.out B5.out.size); have y06 : w6.cell? ⟨w.heap.size + 1, 0, none⟩ = some v := (B6.out.cell (p := ⟨w.heap.size + 1, 0, none⟩) (by show w.heap.size + 1 < w.heap.size + 2; omega)).trans y0; have yf06 : w6.frozen? ⟨w.heap.size + 1, 0, none⟩ = false := (B6.out.frozen (p := ⟨w.heap.size + 1, 0, none⟩) (by show w.heap.size + 1 < w.heap.size + 2; omega)).trans yf0; have H6 : Hid (w6.ownsRow (w.heap.size + 2) 58 1 v6 (i + 1) (rcells (fun j => some ⟨b j, 0, none⟩) n c' i ++ [.slice sx ni cx]) ∧ w5.grownBy w6 v.ownBlock) := ⟨hown6, (World.grownBy_alloc _ _ _).trans hgrow6⟩; obtain ⟨g6, k6, hv6, _⟩ := rows_val hown6; subst hv6; clear hown6 hgrow6 hown5)
            | (go_simp; go_wp2_with (go_at_call 42; refine (HLC.out _ (since_drew S3.out)).mono ?_; rintro e w5 ⟨sx, cx, rfl, hb5, hsl5⟩; have B5 : Hid (Below w3.heap.size w3 w5) := ((Below.refl w3.heap.size w3).drew).trans hb5; have S5 : Hid (CSl w5 w3.heap.size w5.heap.size sx ni (f i)) := hsl5; have y0 : w5.cell? ⟨w.heap.size + 1, 0, none⟩ = some v := (B5.out.cell (p := ⟨w.heap.size + 1, 0, none⟩) hyl).trans d0; have yf0 : w5.frozen? ⟨w.heap.size + 1, 0, none⟩ = false := (B5.out.frozen (p := ⟨w.heap.size + 1, 0, none⟩) hyl).trans fd0; have hyl5 : w.heap.size + 1 < w5.heap.size := Nat.lt_of_lt_of_le hyl B5.out.size; have hown5 := (P3.out.kept B5.out).rows; clear hb5 hsl5)))
          all_goals
            go_wp2_with fail
            go_meet
            case rel =>
              obtain ⟨bi, hsx, hb1, hb2, hob⟩ : ∃ bi, sx = some ⟨bi, 0, none⟩ ∧ w3.heap.size ≤ bi ∧ bi < w5.heap.size ∧ COwn w5 bi ni (f i) := by
                rcases S5.out with h | h
                · omega
                · exact h
              have h6 := H6.out
              rw [hsx, ← HNI.out] at h6
              have hT := P3.out.push (Nat.le_refl i) B5.out (by rw [HNI.out]; exact hn1) (by rw [HNI.out]; exact hob) hb1 Z3.out h6.1 h6.2
              exact ⟨g6, k6, _, _, rfl, ((B5.out.mono (by have := Z3.out; omega)).trans (B6.out.mono (by omega))).setCell (by show w.heap.size + 1 ≤ w.heap.size + 1; omega) _, (((Y3.out.kept B5.out hyl).kept B6.out (by omega)).set0 _), hT.set _ _ (by show w.heap.size + 1 < w.heap.size + 2; omega)⟩
        case rest =>
          obtain ⟨g6, k6, b1, c1, rfl, hbw, hy, hp⟩ := hcut
          have hz3 := Z3.out
          have B7 : Hid (Below w.heap.size w wc) := B3.out.trans (hbw.mono (by omega))
          have X7 : Hid (wc.heap[w.heap.size]? = some (.cells #[.slice none 0 0, .slice none 0 0, .int .i64 0, .int .i64 0, .slice none 0 0, .slice none 0 0, .int .i64 0] 38 (0, 0))) := (hbw.block w.heap.size (Nat.lt_succ_self _)).trans X3.out
          have Y7 : Hid (Box3 wc (w.heap.size + 1) (.slice (some ⟨g6, 0, none⟩) (i + 1) k6) u (.int .i64 (q : Int))) := hy
          have P7 : Hid (SpTo wc (w.heap.size + 2) (i + 1) i n f b1 c1 (.slice (some ⟨g6, 0, none⟩) (i + 1) k6) u) := hp
          have Z7 : Hid (w.heap.size + 2 ≤ wc.heap.size) := Nat.le_trans hz3 hbw.size
          have hown7 := hp.ats
          clear d0 d1 d2 fd0 fd1 fd2 hyl ci3 hbb3 hbw hy hp hz3 B3 X3 Y3 P3 Z3 S3 HLC
          obtain ⟨d0, d1, d2, fd0, fd1, fd2⟩ := Y7.out.all
          obtain ⟨w7, hw7⟩ : ∃ x, x = wc := ⟨_, rfl⟩
          rw [← hw7] at B7 X7 Y7 P7 Z7 hown7 d0 d1 d2 fd0 fd1 fd2 ⊢
          clear hw7
          have hz7 := Z7.out
          go_wp2_with (at_builtin; refine wpList_append_own_at _ rfl (.tmp 43) (.tmp 46) 23 rfl (w.heap.size + 2) 2 j0 (.int .i64 0) 1 8 Try.underlying23 hj hy0 hy1 hy2 rfl (by decide) _ _ _ rfl (hown7.alloc _) ⟨w7.heap.size, 0, none⟩ 1 1 [.int .i64 (q : Int)] rfl rfl ?c1 ?c2 ?c3 ?c4 ?c5 ?_)
          case c1 => exact cell1_new w7 _ _
          case c2 => intro x9 hx9; simp at hx9; subst hx9; rfl
          case c3 => unfold maxLen; omega
          case c4 => omega
          case c5 => first | omega | (simp <;> omega)
          intro u8 w8 hown8 hgrow8 _ _
          have B8 : Hid (Below (w.heap.size + 2) w7 w8) := grown_lo ((World.grownBy_alloc _ _ _).trans hgrow8) (fun j e => (hown7.lt j e).1) (Nat.le_refl _) Z7.out
          have Y8 : Hid (Box3 w8 (w.heap.size + 1) (.slice (some ⟨g6, 0, none⟩) (i + 1) k6) u (.int .i64 (q : Int))) := Y7.out.kept B8.out (by omega)
          have P8 : Hid (SpTo w8 (w.heap.size + 2) (i + 1) (i + 1) n f b1 c1 (.slice (some ⟨g6, 0, none⟩) (i + 1) k6) u8) := P7.out.pushAt (by rw [HQ.out]; exact hown8) ((World.grownBy_alloc _ _ _).trans hgrow8) (fun h => by rw [HU.out h]; rfl)
          obtain ⟨s8, k8, hv8, _⟩ := own_of_intsL (atL_len n (i + 1)) P8.out.ats
          subst hv8
          clear d0 d1 d2 fd0 fd1 fd2 hown7 hown8 hgrow8
          obtain ⟨d0, d1, d2, fd0, fd1, fd2⟩ := Y8.out.all
          have ci8 : w8.cell? ⟨bb, off + i, none⟩ = some (.slice si ni c9) := by
            have h1 : w.cell? ⟨bb, off + i, none⟩ = some (.slice si ni c9) := CI0.out
            rw [B8.out.cell (p := ⟨bb, off + i, none⟩) (by show bb < w.heap.size + 2; omega), B7.out.cell (p := ⟨bb, off + i, none⟩) hbb0]
            exact h1
          have hq9 : (q : Int) ≤ 1000 := by omega
          have hn9 : (ni : Int) ≤ 60 := by omega
          go_wp2_with fail
          go_region_with (first
            | (go_at_call 34; refine (bits_spec _ _ _ _ hn60).mono ?_; rintro e wz ⟨rfl, hwz⟩; rw [hwz]; clear hwz wz))
          all_goals
            go_wp2_with fail
            go_roundw
            case rel =>
              have hBB := B7.out.trans (B8.out.mono (by omega))
              have hX9 : w8.heap[w.heap.size]? = some (.cells #[.slice none 0 0, .slice none 0 0, .int .i64 0, .int .i64 0, .slice none 0 0, .slice none 0 0, .int .i64 0] 38 (0, 0)) := (B8.out.block w.heap.size (by omega)).trans X7.out
              have eq9 : ((atP n (i + 1) : Nat) : Int) = (q : Int) + ((ni : Int) + 1) := by have := HAS.out; have := HQ.out; have := HNI.out; omega
              have hX99 : ((w8.setCell ⟨w.heap.size + 1, 1, none⟩ (.slice s8 (i + 1) k8)).setCell ⟨w.heap.size + 1, 2, none⟩ (.int .i64 ((q : Int) + ((ni : Int) + 1)))).heap[w.heap.size]? = some (.cells #[.slice none 0 0, .slice none 0 0, .int .i64 0, .int .i64 0, .slice none 0 0, .slice none 0 0, .int .i64 0] 38 (0, 0)) := by
                rw [Below.heap_setCell _ _ _ _ (by show _ ≠ w.heap.size + 1; omega), Below.heap_setCell _ _ _ _ (by show _ ≠ w.heap.size + 1; omega)]
                exact hX9
              have hB99 := (hBB.setCell (p := ⟨w.heap.size + 1, 1, none⟩) (by show w.heap.size ≤ w.heap.size + 1; omega) (.slice s8 (i + 1) k8)).setCell (p := ⟨w.heap.size + 1, 2, none⟩) (by show w.heap.size ≤ w.heap.size + 1; omega) (.int .i64 ((q : Int) + ((ni : Int) + 1)))
              have hY99 := (Y8.out.set1 (.slice s8 (i + 1) k8)).set2 (.int .i64 ((q : Int) + ((ni : Int) + 1)))
              rw [← eq9] at hY99 hX99 hB99
              have hP99 := (P8.out.set ⟨w.heap.size + 1, 1, none⟩ (.slice s8 (i + 1) k8) (by show w.heap.size + 1 < w.heap.size + 2; omega)).set ⟨w.heap.size + 1, 2, none⟩ (.int .i64 ((q : Int) + ((ni : Int) + 1))) (by show w.heap.size + 1 < w.heap.size + 2; omega)
              have hs99 : w.heap.size + 2 ≤ ((w8.setCell ⟨w.heap.size + 1, 1, none⟩ (.slice s8 (i + 1) k8)).setCell ⟨w.heap.size + 1, 2, none⟩ (.int .i64 ((q : Int) + ((ni : Int) + 1)))).heap.size := by
                have h1 := B8.out.size
                simp [World.setCell]
                omega
              rw [← eq9] at hP99 hs99 ⊢
              exact ⟨i + 1, b1, c1, .slice (some ⟨g6, 0, none⟩) (i + 1) k6, .slice s8 (i + 1) k8, by omega, by go_num, hB99.drew, hX99, ⟨hY99.c0, hY99.c1, hY99.c2, hY99.f0, hY99.f1, hY99.f2, hY99.lt⟩, hP99.drew, fun j9 hj9 => by
                by_cases e9 : j9 = i
                · rw [e9]; exact HOK.out
                · exact HA.out j9 (by omega), hs99, fun h9 => absurd h9 (Nat.succ_ne_zero i)⟩
            case measure => simp [intOf]; omega
      · rw [decide_eq_false hok] at C
        obtain rfl : R = poCode 1 := by rw [← HRR.out]; unfold poOf; rw [if_neg hk4, if_pos (fun h : RowsOk k n f => hok (h.2.2 i hil))]
        obtain ⟨si, hsi⟩ : ∃ x, s i = x := ⟨_, rfl⟩
        obtain ⟨c9, hc9⟩ : ∃ x, c i = x := ⟨_, rfl⟩
        obtain ⟨ni, hni⟩ : ∃ x, n i = x := ⟨_, rfl⟩
        rw [hsi, hni, hc9] at ci C
        clear hok hsi hni hc9 ci0
        go_wp2_with fail
        refine C.mono ?_
        rintro e w3 ⟨rfl, hb⟩
        have B3 := HB.out.trans (hb.mono HB.out.size)
        have X3 := (hb.block w.heap.size (lt_of_block HX.out)).trans HX.out
        clear C hb ci
        go_wp2_with fail
        refine (ill_any 1 _).mono ?_
        rintro e wi ⟨rfl, hb⟩
        have BI := B3.trans (hb.mono B3.size)
        have XI : wi.heap[w.heap.size]? = some (.cells #[.slice none 0 0, .slice none 0 0, .int .i64 0, .int .i64 0, .slice none 0 0, .slice none 0 0, .int .i64 0] 38 (0, 0)) := (hb.block w.heap.size (lt_of_block X3)).trans X3
        clear hb
        have hx2 := XI
        have x0 : wi.cell? ⟨w.heap.size, 0, none⟩ = some (.slice none 0 0) := by simp [World.cell?, hx2]
        have x1 : wi.cell? ⟨w.heap.size, 1, none⟩ = some (.slice none 0 0) := by simp [World.cell?, hx2]
        have x2 : wi.cell? ⟨w.heap.size, 2, none⟩ = some (.int .i64 0) := by simp [World.cell?, hx2]
        have x3 : wi.cell? ⟨w.heap.size, 3, none⟩ = some (.int .i64 0) := by simp [World.cell?, hx2]
        have x4 : wi.cell? ⟨w.heap.size, 4, none⟩ = some (.slice none 0 0) := by simp [World.cell?, hx2]
        have x5 : wi.cell? ⟨w.heap.size, 5, none⟩ = some (.slice none 0 0) := by simp [World.cell?, hx2]
        have x6 : wi.cell? ⟨w.heap.size, 6, none⟩ = some (.int .i64 0) := by simp [World.cell?, hx2]
        have xf0 : wi.frozen? ⟨w.heap.size, 0, none⟩ = false := frozen_of_row _ _ _ _ _ hx2
        have xf1 : wi.frozen? ⟨w.heap.size, 1, none⟩ = false := frozen_of_row _ _ _ _ _ hx2
        have xf2 : wi.frozen? ⟨w.heap.size, 2, none⟩ = false := frozen_of_row _ _ _ _ _ hx2
        have xf3 : wi.frozen? ⟨w.heap.size, 3, none⟩ = false := frozen_of_row _ _ _ _ _ hx2
        have xf4 : wi.frozen? ⟨w.heap.size, 4, none⟩ = false := frozen_of_row _ _ _ _ _ hx2
        have xf5 : wi.frozen? ⟨w.heap.size, 5, none⟩ = false := frozen_of_row _ _ _ _ _ hx2
        have xf6 : wi.frozen? ⟨w.heap.size, 6, none⟩ = false := frozen_of_row _ _ _ _ _ hx2
        clear hx2
        go_wp2_with fail
        clear x0 xf0 x1 xf1 x2 xf2 x3 xf3 x4 xf4 x5 xf5 x6 xf6
        obtain ⟨r0, r1, r2, r3, r4, r5, r6⟩ := seven_set wi w.heap.size (.slice none 0 0) (.slice none 0 0) (.int .i64 0) (.int .i64 0) (.slice none 0 0) (.slice none 0 0) (.int .i64 1) (seven_there XI)
        have hm := seven_only wi w.heap.size (.slice none 0 0) (.slice none 0 0) (.int .i64 0) (.int .i64 0) (.slice none 0 0) (.slice none 0 0) (.int .i64 1)
        have hbl := BI.trans (hm.below (Nat.le_refl _) BI.size)
        generalize ((((((wi.setCell ⟨w.heap.size, 0, none⟩ (.slice none 0 0)).setCell ⟨w.heap.size, 1, none⟩ (.slice none 0 0)).setCell ⟨w.heap.size, 2, none⟩ (.int .i64 0)).setCell ⟨w.heap.size, 3, none⟩ (.int .i64 0)).setCell ⟨w.heap.size, 4, none⟩ (.slice none 0 0)).setCell ⟨w.heap.size, 5, none⟩ (.slice none 0 0)).setCell ⟨w.heap.size, 6, none⟩ (.int .i64 1) = w9 at *
        refine bodyPost_ret (v := .agg #[.slice none 0 0, .slice none 0 0, .int .i64 0, .int .i64 0, .slice none 0 0, .slice none 0 0, .int .i64 1]) (by simp [results, Try.results13, go_sem, r0, r1, r2, r3, r4, r5, r6]) rfl ?_
        exact HC.out _ _ hbl
    · have hii : ¬ (i : Int) < (k : Int) := by omega
      obtain rfl : i = k := by omega
      have hk0 : 0 < i := by omega
      obtain ⟨q, hq⟩ : ∃ q, atP n i = q := ⟨_, rfl⟩
      have HQ : Hid (atP n i = q) := hq
      rw [hq] at HY hat
      clear hq
      have hrow : RowsOk i n f := ⟨by omega, by omega, HA.out⟩
      obtain ⟨d0, d1, d2, fd0, fd1, fd2⟩ := HY.out.all
      by_cases h9 : 320 < (q : Int)
      · obtain rfl : R = poCode 9 := by rw [← HRR.out]; unfold poOf; rw [if_neg hk4, if_neg (fun h => h hrow), if_pos (by rw [HQ.out]; omega)]
        go_wp2_with fail
        refine (ill_any 9 _).mono ?_
        rintro e wi ⟨rfl, hb⟩
        have BI := HB.out.trans (hb.mono HB.out.size)
        have XI : wi.heap[w.heap.size]? = some (.cells #[.slice none 0 0, .slice none 0 0, .int .i64 0, .int .i64 0, .slice none 0 0, .slice none 0 0, .int .i64 0] 38 (0, 0)) := (hb.block w.heap.size (lt_of_block HX.out)).trans HX.out
        clear hb
        have hx2 := XI
        have x0 : wi.cell? ⟨w.heap.size, 0, none⟩ = some (.slice none 0 0) := by simp [World.cell?, hx2]
        have x1 : wi.cell? ⟨w.heap.size, 1, none⟩ = some (.slice none 0 0) := by simp [World.cell?, hx2]
        have x2 : wi.cell? ⟨w.heap.size, 2, none⟩ = some (.int .i64 0) := by simp [World.cell?, hx2]
        have x3 : wi.cell? ⟨w.heap.size, 3, none⟩ = some (.int .i64 0) := by simp [World.cell?, hx2]
        have x4 : wi.cell? ⟨w.heap.size, 4, none⟩ = some (.slice none 0 0) := by simp [World.cell?, hx2]
        have x5 : wi.cell? ⟨w.heap.size, 5, none⟩ = some (.slice none 0 0) := by simp [World.cell?, hx2]
        have x6 : wi.cell? ⟨w.heap.size, 6, none⟩ = some (.int .i64 0) := by simp [World.cell?, hx2]
        have xf0 : wi.frozen? ⟨w.heap.size, 0, none⟩ = false := frozen_of_row _ _ _ _ _ hx2
        have xf1 : wi.frozen? ⟨w.heap.size, 1, none⟩ = false := frozen_of_row _ _ _ _ _ hx2
        have xf2 : wi.frozen? ⟨w.heap.size, 2, none⟩ = false := frozen_of_row _ _ _ _ _ hx2
        have xf3 : wi.frozen? ⟨w.heap.size, 3, none⟩ = false := frozen_of_row _ _ _ _ _ hx2
        have xf4 : wi.frozen? ⟨w.heap.size, 4, none⟩ = false := frozen_of_row _ _ _ _ _ hx2
        have xf5 : wi.frozen? ⟨w.heap.size, 5, none⟩ = false := frozen_of_row _ _ _ _ _ hx2
        have xf6 : wi.frozen? ⟨w.heap.size, 6, none⟩ = false := frozen_of_row _ _ _ _ _ hx2
        clear hx2
        go_wp2_with fail
        clear x0 xf0 x1 xf1 x2 xf2 x3 xf3 x4 xf4 x5 xf5 x6 xf6
        obtain ⟨r0, r1, r2, r3, r4, r5, r6⟩ := seven_set wi w.heap.size (.slice none 0 0) (.slice none 0 0) (.int .i64 0) (.int .i64 0) (.slice none 0 0) (.slice none 0 0) (.int .i64 9) (seven_there XI)
        have hm := seven_only wi w.heap.size (.slice none 0 0) (.slice none 0 0) (.int .i64 0) (.int .i64 0) (.slice none 0 0) (.slice none 0 0) (.int .i64 9)
        have hbl := BI.trans (hm.below (Nat.le_refl _) BI.size)
        generalize ((((((wi.setCell ⟨w.heap.size, 0, none⟩ (.slice none 0 0)).setCell ⟨w.heap.size, 1, none⟩ (.slice none 0 0)).setCell ⟨w.heap.size, 2, none⟩ (.int .i64 0)).setCell ⟨w.heap.size, 3, none⟩ (.int .i64 0)).setCell ⟨w.heap.size, 4, none⟩ (.slice none 0 0)).setCell ⟨w.heap.size, 5, none⟩ (.slice none 0 0)).setCell ⟨w.heap.size, 6, none⟩ (.int .i64 9) = w9 at *
        refine bodyPost_ret (v := .agg #[.slice none 0 0, .slice none 0 0, .int .i64 0, .int .i64 0, .slice none 0 0, .slice none 0 0, .int .i64 9]) (by simp [results, Try.results13, go_sem, r0, r1, r2, r3, r4, r5, r6]) rfl ?_
        exact HC.out _ _ hbl
      · obtain rfl : R = poPk (pkOf i n f) := by rw [← HRR.out]; unfold poOf; rw [if_neg hk4, if_neg (fun h => h hrow), if_neg (by rw [HQ.out]; omega)]
        obtain ⟨g6, k6, hv6, hg6, hro⟩ := rows_of_owns HP.out.rows hk0
        obtain ⟨sa6, ka, hv7, hos⟩ := own_of_intsL (atL_len n i) HP.out.ats
        obtain ⟨a6, ha7, ha6, hoa⟩ : ∃ a6, sa6 = some ⟨a6, 0, none⟩ ∧ w.heap.size + 2 ≤ a6 ∧ Own wr a6 i (fun j => (atP n j : Int)) := by
          rcases hos with h | ⟨a6, x1, x2, x3⟩
          · omega
          · exact ⟨a6, x1, x2, x3.congr (fun j hj => atL_get n hj)⟩
        subst ha7
        have hc0 : ∀ j, j < i → wr.cell? ⟨b j, 0, none⟩ = some (.string (f j 0).c) := fun j hj => by
          obtain ⟨x1, x2, x3⟩ := HP.out.own j hj
          have h9 := (x3.at' 0 (by omega)).c0
          simpa using h9
        have hgb : ∀ j, j < i → g6 ≠ b j := fun j hj => own_ne HP.out.rows (by rw [hv6]; rfl) (rcells_first hk0) (hc0 j hj) (by simp)
        have hab : ∀ j, j < i → a6 ≠ b j := fun j hj => own_ne HP.out.ats (by rw [hv7]; rfl) (atL_first hk0) (hc0 j hj) (by simp)
        have hag : a6 ≠ g6 := by
          rcases rows_apartP HP.out.ats HP.out.rows (by decide) with h | h
          · rw [hv7] at h; cases h
          · intro e
            apply h
            rw [hv6, hv7, e]
            rfl
        have PKO : Hid (PkOwn wr (w.heap.size + 2) wr.heap.size (some ⟨g6, 0, none⟩) (some ⟨a6, 0, none⟩) (pkOf i n f)) := by
          refine ⟨g6, a6, b, fun j => some ⟨b j, 0, none⟩, c', Or.inr ⟨rfl, ⟨hg6, hro.lt, Nat.le_refl _, hro.cells, fun j hj => Or.inr ⟨rfl, (HP.out.own j hj).1, (HP.out.own j hj).2.2.lt, fun e => hgb j hj e.symm, (HP.out.own j hj).2.2⟩, fun j j' h1 h2 => Or.inr (Or.inr (Nat.ne_of_lt (HP.out.apart j j' h1 h2)))⟩⟩, Or.inr ⟨rfl, ha6, hoa.1, Or.inr ⟨hag, ?_⟩, hoa⟩⟩
          rintro ⟨j, hj, _, he⟩
          exact hab j hj he
        clear hos hro hoa hgb hab hag hc0
        subst hv6 hv7
        have hx2 := HX.out
        have x0 : wr.cell? ⟨w.heap.size, 0, none⟩ = some (.slice none 0 0) := by simp [World.cell?, hx2]
        have x1 : wr.cell? ⟨w.heap.size, 1, none⟩ = some (.slice none 0 0) := by simp [World.cell?, hx2]
        have x2 : wr.cell? ⟨w.heap.size, 2, none⟩ = some (.int .i64 0) := by simp [World.cell?, hx2]
        have x3 : wr.cell? ⟨w.heap.size, 3, none⟩ = some (.int .i64 0) := by simp [World.cell?, hx2]
        have x4 : wr.cell? ⟨w.heap.size, 4, none⟩ = some (.slice none 0 0) := by simp [World.cell?, hx2]
        have x5 : wr.cell? ⟨w.heap.size, 5, none⟩ = some (.slice none 0 0) := by simp [World.cell?, hx2]
        have x6 : wr.cell? ⟨w.heap.size, 6, none⟩ = some (.int .i64 0) := by simp [World.cell?, hx2]
        have xf0 : wr.frozen? ⟨w.heap.size, 0, none⟩ = false := frozen_of_row _ _ _ _ _ hx2
        have xf1 : wr.frozen? ⟨w.heap.size, 1, none⟩ = false := frozen_of_row _ _ _ _ _ hx2
        have xf2 : wr.frozen? ⟨w.heap.size, 2, none⟩ = false := frozen_of_row _ _ _ _ _ hx2
        have xf3 : wr.frozen? ⟨w.heap.size, 3, none⟩ = false := frozen_of_row _ _ _ _ _ hx2
        have xf4 : wr.frozen? ⟨w.heap.size, 4, none⟩ = false := frozen_of_row _ _ _ _ _ hx2
        have xf5 : wr.frozen? ⟨w.heap.size, 5, none⟩ = false := frozen_of_row _ _ _ _ _ hx2
        have xf6 : wr.frozen? ⟨w.heap.size, 6, none⟩ = false := frozen_of_row _ _ _ _ _ hx2
        clear hx2
        go_wp2_with fail
        clear x0 xf0 x1 xf1 x2 xf2 x3 xf3 x4 xf4 x5 xf5 x6 xf6
        obtain ⟨r0, r1, r2, r3, r4, r5, r6⟩ := seven_set wr w.heap.size (.slice (some ⟨g6, 0, none⟩) i k6) (.slice (some ⟨a6, 0, none⟩) i ka) (.int .i64 (q : Int)) (.int .i64 0) (.slice none 0 0) (.slice none 0 0) (.int .i64 0) (seven_there HX.out)
        have hm := seven_only wr w.heap.size (.slice (some ⟨g6, 0, none⟩) i k6) (.slice (some ⟨a6, 0, none⟩) i ka) (.int .i64 (q : Int)) (.int .i64 0) (.slice none 0 0) (.slice none 0 0) (.int .i64 0)
        have hbl := HB.out.trans (hm.below (Nat.le_refl _) HB.out.size)
        have hT := PKO.out.onlyM hm (Or.inr (by omega))
        have hsz9 := hm.size
        have hwsz := hsz
        generalize ((((((wr.setCell ⟨w.heap.size, 0, none⟩ (.slice (some ⟨g6, 0, none⟩) i k6)).setCell ⟨w.heap.size, 1, none⟩ (.slice (some ⟨a6, 0, none⟩) i ka)).setCell ⟨w.heap.size, 2, none⟩ (.int .i64 (q : Int))).setCell ⟨w.heap.size, 3, none⟩ (.int .i64 0)).setCell ⟨w.heap.size, 4, none⟩ (.slice none 0 0)).setCell ⟨w.heap.size, 5, none⟩ (.slice none 0 0)).setCell ⟨w.heap.size, 6, none⟩ (.int .i64 0) = w9 at *
        refine bodyPost_ret (v := .agg #[.slice (some ⟨g6, 0, none⟩) i k6, .slice (some ⟨a6, 0, none⟩) i ka, .int .i64 (q : Int), .int .i64 0, .slice none 0 0, .slice none 0 0, .int .i64 0]) (by simp [results, Try.results13, go_sem, r0, r1, r2, r3, r4, r5, r6]) rfl ?_
        refine ⟨some ⟨g6, 0, none⟩, some ⟨a6, 0, none⟩, none, none, k6, ka, 0, 0, by rw [← HQ.out]; rfl, hbl, w.heap.size, w.heap.size, Nat.le_refl _, Nat.le_refl _, by omega, Nat.le_refl _, Or.inl rfl, Or.inl rfl, hT.wide (by omega) hsz9 (Nat.le_refl _)⟩
end Go.Proofs.Ytbdjjggaahjjpaa
