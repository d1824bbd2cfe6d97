/- What is proved here: the laws' helpers over slices of windows (the comparison, the marks laid and found again): what they hand back and what they leave as it was. -/
import Derived.Test.YtfeolbgenpknfaaQWinDToL03HasW
import Derived.Test.YtfeolbgenpknfaaQAtomSToOnlyBM
import Derived.Deep.RegionWith
namespace Go.Proofs.Ytfeolbgenpknfaa
open Go.RowKit

/-- Three numbers lie at a place. -/
structure TriAt (w : World) (b o : Nat) (a : Int × Int × Int) : Prop where
  c0 : w.cell? ⟨b, o, none⟩ = some (.int .i64 a.1)
  c1 : w.cell? ⟨b, o + 1, none⟩ = some (.int .i64 a.2.1)
  c2 : w.cell? ⟨b, o + 2, none⟩ = some (.int .i64 a.2.2)
theorem TriAt.same {w w' : World} {b o : Nat} {a : Int × Int × Int} (h : TriAt w b o a) (hc : ∀ o, w'.cell? ⟨b, o, none⟩ = w.cell? ⟨b, o, none⟩) : TriAt w' b o a := ⟨(hc _).trans h.c0, (hc _).trans h.c1, (hc _).trans h.c2⟩
/-- A slice of triples of numbers that is read. -/
def WRow (w : World) (B : Nat) (sa : Option Addr) (n : Nat) (f : Nat → Int × Int × Int) : Prop := n = 0 ∨ ∃ bb off : Nat, sa = some ⟨bb, off, none⟩ ∧ bb < B ∧ ∀ i, i < n → TriAt w bb (off + i * 3) (f i)
/-- A block of triples of numbers that may be written. -/
structure WOwn (w : World) (g n : Nat) (f : Nat → Int × Int × Int) : Prop where
  lt : g < w.heap.size
  at' : ∀ i, i < n → TriAt w g (i * 3) (f i)
  free : ∀ i, w.frozen? ⟨g, i, none⟩ = false
/-- A slice of triples in a stretch of blocks. -/
def WSl (W : World) (lo hi : Nat) (sa : Option Addr) (n : Nat) (f : Nat → Int × Int × Int) : Prop := n = 0 ∨ ∃ g, sa = some ⟨g, 0, none⟩ ∧ lo ≤ g ∧ g < hi ∧ WOwn W g n f
theorem WSl.row {W : World} {lo hi n : Nat} {sa : Option Addr} {f : Nat → Int × Int × Int} (h : WSl W lo hi sa n f) : WRow W W.heap.size sa n f := by
  rcases h with h | ⟨g, rfl, _, _, h3⟩
  · exact Or.inl h
  · exact Or.inr ⟨g, 0, rfl, h3.lt, fun i hi => by rw [Nat.zero_add]; exact h3.at' i hi⟩
theorem WOwn.same {W W' : World} {g n : Nat} {f : Nat → Int × Int × Int} (h : WOwn W g n f) (hs : W.heap.size ≤ W'.heap.size) (hb : W'.heap[g]? = W.heap[g]?) : WOwn W' g n f :=
  ⟨Nat.lt_of_lt_of_le h.lt hs, fun i hi => (h.at' i hi).same (fun o => by simp [World.cell?, hb]), fun i => by have := h.free i; simpa [World.frozen?, hb] using this⟩
theorem WSl.kept {W W' : World} {lo hi n : Nat} {sa : Option Addr} {f : Nat → Int × Int × Int} (h : WSl W lo hi sa n f) (hb : Below W.heap.size W W') : WSl W' lo hi sa n f := by
  rcases h with h | ⟨g, h1, h2, h4, h3⟩
  · exact Or.inl h
  · exact Or.inr ⟨g, h1, h2, h4, h3.same hb.size (hb.block g h3.lt)⟩
theorem WSl.onlyA {W W' : World} {lo hi lo' hi' n : Nat} {sa : Option Addr} {f : Nat → Int × Int × Int} (h : WSl W lo hi sa n f) (ho : OnlyA W W' lo' hi') (hd : hi ≤ lo' ∨ hi' ≤ lo) : WSl W' lo hi sa n f := by
  have hB := ho.wideB (Nat.le_refl _) (Nat.le_refl _)
  rcases h with h | ⟨g, h1, h2, h4, h3⟩
  · exact Or.inl h
  · exact Or.inr ⟨g, h1, h2, h4, h3.same hB.size (hB.block g h3.lt (by omega))⟩
theorem wcells_len : ∀ l, (wcells l).length = l.length * 3
  | [] => rfl
  | x :: l => by show (wcells l).length + 1 + 1 + 1 = (l.length + 1) * 3; rw [wcells_len l]; omega
theorem wcells_get : ∀ (l : List (Nat × Nat × Nat)) (i : Nat), i < l.length → (wcells l)[i * 3]? = some (.int .i64 ((l.getD i (0, 0, 0)).1 : Int)) ∧ (wcells l)[i * 3 + 1]? = some (.int .i64 ((l.getD i (0, 0, 0)).2.1 : Int)) ∧ (wcells l)[i * 3 + 2]? = some (.int .i64 ((l.getD i (0, 0, 0)).2.2 : Int))
  | [], i, h => by simp at h
  | x :: l, 0, _ => ⟨rfl, rfl, rfl⟩
  | x :: l, i + 1, h => by
    have h1 := wcells_get l i (by simpa using h)
    have e1 : (i + 1) * 3 = i * 3 + 1 + 1 + 1 := by omega
    rw [e1]
    exact h1
/-- The triples of a list of windows. -/
def triplesL (L : List (Nat × Nat × Nat)) (i : Nat) : Int × Int × Int := (((L.getD i (0, 0, 0)).1 : Int), ((L.getD i (0, 0, 0)).2.1 : Int), ((L.getD i (0, 0, 0)).2.2 : Int))
theorem wins_sl {W : World} {base : Nat} {v : Value} {L : List (Nat × Nat × Nat)} (h : OwnsW W base v L) : ∃ (sa : Option Addr) (cap : Nat), v = .slice sa L.length cap ∧ WSl W base W.heap.size sa L.length (triplesL L) := by
  obtain ⟨_, ⟨rfl, hx⟩ | ⟨g, cap, cur, rfl, hg, hh, hnc, hm, hs, ht⟩⟩ := h
  · have : L.length = 0 := hx
    rw [this]
    exact ⟨none, 0, rfl, Or.inl rfl⟩
  · refine ⟨_, _, rfl, Or.inr ⟨g, rfl, hg, lt_of_block hh, lt_of_block hh, fun i hi => ?_, fun i => frozen_of_row _ _ _ _ _ hh⟩⟩
    have hc : ∀ j, j < L.length * 3 → W.cell? ⟨g, j, none⟩ = (wcells L)[j]? := fun j hj => by
      rw [← ht, List.getElem?_take_of_lt (by omega)]
      simp [World.cell?, hh]
    obtain ⟨h1, h2, h3⟩ := wcells_get L i hi
    exact ⟨by rw [hc _ (by omega)]; exact h1, by rw [hc _ (by omega)]; exact h2, by rw [hc _ (by omega)]; exact h3⟩
theorem NewWins.sl {w w' : World} {L : List (Nat × Nat × Nat)} {e : Ending} (h : NewWins w L e w') : ∃ (sa : Option Addr) (cap : Nat), e = .returned (.slice sa L.length cap) ∧ Below w.heap.size w w' ∧ WSl w' w.heap.size w'.heap.size sa L.length (triplesL L) := by
  obtain ⟨v, rfl, hb, ho⟩ := h
  obtain ⟨sa, cap, rfl, hs⟩ := wins_sl ho
  exact ⟨sa, cap, rfl, hb, hs⟩
theorem eqWin_same (x y z : Int) (w : World) :
    Calls Try.prog 86 #[.agg #[.int .i64 x, .int .i64 y, .int .i64 z], .agg #[.int .i64 x, .int .i64 y, .int .i64 z]] w fun e w' => e = .returned (.bool true) ∧ Below w.heap.size w w' := by
  go_enter Try.func86, Try.ntmps86
  go_wp2
  go_ret
  exact ⟨rfl, ((Below.refl _ _).alloc (Nat.le_refl _) _).alloc (by simp) _⟩
theorem WRow.at {w w' : World} {n k : Nat} {sa : Option Addr} {f : Nat → Int × Int × Int} (h : WRow w w.heap.size sa n f) (hb : Below w.heap.size w w') (hk : k < n) : ∃ bb off : Nat, sa = some ⟨bb, off, none⟩ ∧ bb < w.heap.size ∧ TriAt w' bb (off + k * 3) (f k) := by
  rcases h with h | ⟨bb, off, h1, h2, h3⟩
  · omega
  · exact ⟨bb, off, h1, h2, (h3 k hk).same (fun o => hb.cell (p := ⟨bb, o, none⟩) h2)⟩
set_option maxHeartbeats 1000000 in
theorem eqWins_same (sa sb : Option Addr) (n ca cb : Nat) (f : Nat → Int × Int × Int) (w : World) (hn : n ≤ 4000000) (ha : WRow w w.heap.size sa n f) (hb : WRow w w.heap.size sb n f) :
    Calls Try.prog 43 #[.slice sa n ca, .slice sb n cb] w fun e w' => e = .returned (.bool true) ∧ Below w.heap.size w w' := by
  have HA : Hid (WRow w w.heap.size sa n f) := ha
  have HB : Hid (WRow w w.heap.size sb n f) := hb
  clear ha hb
  go_enter Try.func43, Try.ntmps43
  go_wp2
  go_loopw [5] (fun i wr => ∃ k : Nat, k ≤ n ∧ i = .int .i64 (k : Int) ∧ Below w.heap.size w wr) (fun i _ => n - (intOf i).toNat)
  case atStart => exact ⟨0, Nat.zero_le _, rfl, Below.refl _ _⟩
  case round =>
    obtain ⟨k, hk, rfl, hbel⟩ := hrel
    have HW : Hid (Below w.heap.size w wr) := hbel
    by_cases hkl : k < n
    · obtain ⟨ba, oa, rfl, hba, hta⟩ := HA.out.at hbel hkl
      obtain ⟨bb, ob, rfl, hbb, htb⟩ := HB.out.at hbel hkl
      obtain ⟨c0, c1, c2⟩ := hta
      obtain ⟨d0, d1, d2⟩ := htb
      generalize f k = a at c0 c1 c2 d0 d1 d2
      obtain ⟨x, y, z⟩ := a
      simp only at c0 c1 c2 d0 d1 d2
      clear hbel
      have hki : (k : Int) < (n : Int) := by omega
      have hk0 : (0 : Int) ≤ (k : Int) := by omega
      go_wp2
      go_region_with (go_at_call 86; refine (eqWin_same x y z _).mono ?_; rintro e w1 ⟨rfl, hb1⟩; have HB1 : Hid (Below w.heap.size w w1) := HW.out.drew.trans (hb1.mono HW.out.size); clear hb1)
      all_goals
        go_wp2
        go_roundw
        case rel => exact ⟨k + 1, by omega, by go_num, HB1.out⟩
        case measure => simp [intOf]; omega
    · have hki : ¬ (k : Int) < (n : Int) := by omega
      clear hbel
      go_wp2
      go_ret
      exact ⟨rfl, HW.out⟩
/-- The marks. -/
def markW3 (i : Nat) : Int × Int × Int := (((1 + i * 3 : Nat) : Int), ((1 + i * 3 + 1 : Nat) : Int), ((1 + i * 3 + 1 + 1 : Nat) : Int))
theorem WOwn.set {w : World} {g n p : Nat} {f : Nat → Int × Int × Int} (h : WOwn w g n f) (hp : p < n) (x y z : Int) :
    WOwn (((w.setCell ⟨g, p * 3, none⟩ (.int .i64 x)).setCell ⟨g, p * 3 + 1, none⟩ (.int .i64 y)).setCell ⟨g, p * 3 + 2, none⟩ (.int .i64 z)) g n (fun i => if i = p then (x, y, z) else f i) := by
  obtain ⟨q0, q1, q2⟩ := h.at' p hp
  have ne : ∀ a b : Nat, a ≠ b → (⟨g, b, none⟩ : Addr) ≠ ⟨g, a, none⟩ := fun a b hab hh => hab (by injection hh with _ h2 _; exact h2.symm)
  refine ⟨by simpa [World.setCell] using h.lt, fun i hi => ?_, fun i => by rw [World.frozen?_setCell, World.frozen?_setCell, World.frozen?_setCell]; exact h.free i⟩
  obtain ⟨r0, r1, r2⟩ := h.at' i hi
  by_cases e : i = p
  · subst e
    simp only [if_pos]
    have s1 : (w.setCell ⟨g, i * 3, none⟩ (.int .i64 x)).cell? ⟨g, i * 3 + 1, none⟩ = some (.int .i64 (f i).2.1) := by
      rw [World.cell?_setCell_other _ _ _ _ (ne _ _ (by omega))]; exact q1
    have s2 : ((w.setCell ⟨g, i * 3, none⟩ (.int .i64 x)).setCell ⟨g, i * 3 + 1, none⟩ (.int .i64 y)).cell? ⟨g, i * 3 + 2, none⟩ = some (.int .i64 (f i).2.2) := by
      rw [World.cell?_setCell_other _ _ _ _ (ne _ _ (by omega)), World.cell?_setCell_other _ _ _ _ (ne _ _ (by omega))]; exact q2
    exact ⟨by rw [World.cell?_setCell_other _ _ _ _ (ne _ _ (by omega)), World.cell?_setCell_other _ _ _ _ (ne _ _ (by omega))]; exact World.cell?_setCell_same _ _ _ q0, by rw [World.cell?_setCell_other _ _ _ _ (ne _ _ (by omega))]; exact World.cell?_setCell_same _ _ _ s1, World.cell?_setCell_same _ _ _ s2⟩
  · simp only [if_neg e]
    have o3 : ∀ j, (j = i * 3 ∨ j = i * 3 + 1 ∨ j = i * 3 + 2) → (((w.setCell ⟨g, p * 3, none⟩ (.int .i64 x)).setCell ⟨g, p * 3 + 1, none⟩ (.int .i64 y)).setCell ⟨g, p * 3 + 2, none⟩ (.int .i64 z)).cell? ⟨g, j, none⟩ = w.cell? ⟨g, j, none⟩ := fun j hj => by
      rw [World.cell?_setCell_other _ _ _ _ (ne _ _ (by omega)), World.cell?_setCell_other _ _ _ _ (ne _ _ (by omega)), World.cell?_setCell_other _ _ _ _ (ne _ _ (by omega))]
    exact ⟨(o3 _ (by omega)).trans r0, (o3 _ (by omega)).trans r1, (o3 _ (by omega)).trans r2⟩
theorem only_setWn {a w : World} {b i : Nat} {v : Value} (h : a.grownBy w (some b)) : a.grownBy (w.setCell ⟨b, i, none⟩ v) (some b) :=
  h.trans ⟨rfl, rfl, rfl, by simp [World.setCell], fun k _ hk => Below.heap_setCell _ _ _ _ (fun e => hk (by simp [e]))⟩
set_option maxHeartbeats 2000000 in
theorem markWins_own (g n cap : Nat) (f : Nat → Int × Int × Int) (w : World) (hn : n ≤ 4000000) (ho : WOwn w g n f) :
    Calls Try.prog 45 #[.slice (some ⟨g, 0, none⟩) n cap, .int .i64 1] w fun e w' => e = .returned (.int .i64 ((1 + n * 3 : Nat) : Int)) ∧ w.grownBy w' (some g) ∧ WOwn w' g n markW3 := by
  have HO : Hid (WOwn w g n f) := ho
  clear ho
  go_enter Try.func45, Try.ntmps45
  go_wp2
  go_loopw [1, 5] (fun kv i wr => ∃ j : Nat, j ≤ n ∧ kv = .int .i64 ((1 + j * 3 : Nat) : Int) ∧ i = .int .i64 (j : Int) ∧ w.grownBy wr (some g) ∧ WOwn wr g n (fun i => if i < j then markW3 i else f i)) (fun _ i _ => n - (intOf i).toNat)
  case atStart => exact ⟨0, Nat.zero_le _, rfl, rfl, World.grownBy.refl _ _, by simpa using HO.out⟩
  case round =>
    obtain ⟨j, hj, rfl, rfl, hgr, hown⟩ := hrel
    have HG : Hid (w.grownBy wr (some g)) := hgr
    have HW : Hid (WOwn wr g n (fun i => if i < j then markW3 i else f i)) := hown
    have hsz := hown.lt
    clear hgr hown
    by_cases hjl : j < n
    · have hji : (j : Int) < (n : Int) := by omega
      have hj0 : (0 : Int) ≤ (j : Int) := by omega
      obtain ⟨q, hq⟩ : ∃ q, 1 + j * 3 = q := ⟨_, rfl⟩
      have HQ : Hid (1 + j * 3 = q) := hq
      have hq1 : 0 < q := by omega
      have hq2 : q ≤ 12000001 := by omega
      rw [hq]
      clear hq
      obtain ⟨d0, d1, d2⟩ := HW.out.at' j hjl
      have e0 := HW.out.free (j * 3)
      have e1 := HW.out.free (j * 3 + 1)
      have e2 := HW.out.free (j * 3 + 2)
      have HN : Hid (WOwn (((wr.setCell ⟨g, j * 3, none⟩ (.int .i64 (q : Int))).setCell ⟨g, j * 3 + 1, none⟩ (.int .i64 ((q : Int) + 1))).setCell ⟨g, j * 3 + 2, none⟩ (.int .i64 ((q : Int) + 1 + 1))) g n (fun i => if i < j + 1 then markW3 i else f i)) := by
        have h1 := HW.out.set hjl (q : Int) ((q : Int) + 1) ((q : Int) + 1 + 1)
        have he : (fun i => if i = j then ((q : Int), (q : Int) + 1, (q : Int) + 1 + 1) else if i < j then markW3 i else f i) = fun i => if i < j + 1 then markW3 i else f i := by
          funext i
          by_cases e : i = j
          · subst e
            rw [if_pos rfl, if_pos (by omega)]
            unfold markW3
            rw [HQ.out]
            congr 1
          · rw [if_neg e]
            by_cases e2 : i < j
            · rw [if_pos e2, if_pos (by omega)]
            · rw [if_neg e2, if_neg (by omega)]
        rw [he] at h1
        exact h1
      go_wp2
      go_roundw
      case rel => exact ⟨j + 1, by omega, by have := HQ.out; (congr 1; omega), by go_num, only_setWn (only_setWn (only_setWn HG.out)), HN.out⟩
      case measure => simp [intOf]; omega
    · have hji : ¬ (j : Int) < (n : Int) := by omega
      obtain rfl : j = n := by omega
      have HE : Hid (WOwn wr g j markW3) := ⟨HW.out.lt, fun i hi => by have h9 := HW.out.at' i hi; rw [if_pos hi] at h9; exact h9, HW.out.free⟩
      go_wp2
      go_ret
      exact ⟨rfl, HG.out, HE.out⟩
theorem markWins_none (sa : Option Addr) (cap : Nat) (w : World) :
    Calls Try.prog 45 #[.slice sa 0 cap, .int .i64 1] w fun e w' => e = .returned (.int .i64 1) ∧ w' = w := by
  go_enter Try.func45, Try.ntmps45
  go_wp2
  go_loopw [1, 5] (fun kv i wr => kv = .int .i64 1 ∧ i = .int .i64 0 ∧ wr = w) (fun _ _ _ => 0)
  case atStart => exact ⟨rfl, rfl, rfl⟩
  case round =>
    obtain ⟨rfl, rfl, rfl⟩ := hrel
    go_wp2
    go_ret
    exact ⟨rfl, rfl⟩
theorem markWins_any (sa : Option Addr) (n cap lo hi : Nat) (f : Nat → Int × Int × Int) (w : World) (hn : n ≤ 4000000) (ho : WSl w lo hi sa n f) :
    Calls Try.prog 45 #[.slice sa n cap, .int .i64 1] w fun e w' => e = .returned (.int .i64 ((1 + n * 3 : Nat) : Int)) ∧ OnlyA w w' lo hi ∧ WSl w' lo hi sa n markW3 := by
  rcases Nat.eq_zero_or_pos n with rfl | hp
  · refine (markWins_none sa cap w).mono ?_
    rintro e w' ⟨rfl, rfl⟩
    exact ⟨rfl, ⟨none, World.grownBy.refl _ _, fun _ h => by cases h⟩, Or.inl rfl⟩
  · rcases ho with rfl | ⟨g, rfl, hlo, hhi, ho⟩
    · omega
    · refine (markWins_own g n cap f w hn ho).mono ?_
      rintro e w' ⟨rfl, hg, ho'⟩
      exact ⟨rfl, ⟨some g, hg, fun g' h => by cases h; exact ⟨hlo, hhi⟩⟩, Or.inr ⟨g, rfl, hlo, hhi, ho'⟩⟩
set_option maxHeartbeats 2000000 in
theorem heldWins_any (sa : Option Addr) (n cap : Nat) (w : World) (hn : n ≤ 4000000) (hr : WRow w w.heap.size sa n markW3) :
    Calls Try.prog 46 #[.slice sa n cap, .int .i64 1] w fun e w' => e = .returned (.int .i64 ((1 + n * 3 : Nat) : Int)) ∧ Below w.heap.size w w' := by
  have HR : Hid (WRow w w.heap.size sa n markW3) := hr
  clear hr
  go_enter Try.func46, Try.ntmps46
  go_wp2
  go_loopw [1, 5] (fun kv i wr => ∃ j : Nat, j ≤ n ∧ kv = .int .i64 ((1 + j * 3 : Nat) : Int) ∧ i = .int .i64 (j : Int) ∧ Below w.heap.size w wr) (fun _ i _ => n - (intOf i).toNat)
  case atStart => exact ⟨0, Nat.zero_le _, rfl, rfl, Below.refl _ _⟩
  case round =>
    obtain ⟨j, hj, rfl, rfl, hbel⟩ := hrel
    have HB : Hid (Below w.heap.size w wr) := hbel
    by_cases hjl : j < n
    · have hji : (j : Int) < (n : Int) := by omega
      have hj0 : (0 : Int) ≤ (j : Int) := by omega
      obtain ⟨bb, off, rfl, hbb, d0, d1, d2⟩ := HR.out.at hbel hjl
      obtain ⟨q, hq⟩ : ∃ q, 1 + j * 3 = q := ⟨_, rfl⟩
      have HQ : Hid (1 + j * 3 = q) := hq
      have hq1 : 0 < q := by omega
      have hq2 : q ≤ 12000001 := by omega
      rw [hq]
      have hm : markW3 j = ((q : Int), (q : Int) + 1, (q : Int) + 1 + 1) := by
        unfold markW3
        rw [hq]
        congr 1
      rw [hm] at d0 d1 d2
      simp only at d0 d1 d2
      clear hq hbel hm
      go_wp2
      go_roundw
      case rel => exact ⟨j + 1, by omega, by have := HQ.out; (congr 1; omega), by go_num, HB.out⟩
      case measure => simp [intOf]; omega
    · have hji : ¬ (j : Int) < (n : Int) := by omega
      obtain rfl : j = n := by omega
      clear hbel
      go_wp2
      go_ret
      exact ⟨rfl, HB.out⟩
end Go.Proofs.Ytfeolbgenpknfaa
