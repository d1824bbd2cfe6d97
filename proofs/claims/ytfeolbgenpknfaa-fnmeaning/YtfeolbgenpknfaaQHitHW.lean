/- What is proved here: the laws' helpers over slices of hits (the comparison, the marks laid and found again): what they hand back and what they leave as it was. -/
import Derived.Test.YtfeolbgenpknfaaQHitsMToHitD
import Derived.Test.YtfeolbgenpknfaaQVecSToOnlyBM
import Derived.Deep.RegionWith
namespace Go.Proofs.Ytfeolbgenpknfaa
open Go.RowKit

/-- A slice of pairs of numbers that is read. -/
def HRow (w : World) (B : Nat) (sa : Option Addr) (n : Nat) (f : Nat → Int × Int) : Prop := n = 0 ∨ ∃ bb off : Nat, sa = some ⟨bb, off, none⟩ ∧ bb < B ∧ ∀ i, i < n → w.cell? ⟨bb, off + i * 2, none⟩ = some (.int .i64 (f i).1) ∧ w.cell? ⟨bb, off + i * 2 + 1, none⟩ = some (.int .i64 (f i).2)
/-- A block of pairs of numbers that may be written. -/
structure HOwn (w : World) (g n : Nat) (f : Nat → Int × Int) : Prop where
  lt : g < w.heap.size
  at' : ∀ i, i < n → w.cell? ⟨g, i * 2, none⟩ = some (.int .i64 (f i).1) ∧ w.cell? ⟨g, i * 2 + 1, none⟩ = some (.int .i64 (f i).2)
  free : ∀ i, w.frozen? ⟨g, i, none⟩ = false
/-- A slice of pairs in a stretch of blocks. -/
def HSl (W : World) (lo hi : Nat) (sa : Option Addr) (n : Nat) (f : Nat → Int × Int) : Prop := n = 0 ∨ ∃ g, sa = some ⟨g, 0, none⟩ ∧ lo ≤ g ∧ g < hi ∧ HOwn W g n f
theorem HSl.row {W : World} {lo hi n : Nat} {sa : Option Addr} {f : Nat → Int × Int} (h : HSl W lo hi sa n f) : HRow W W.heap.size sa n f := by
  rcases h with h | ⟨g, rfl, _, _, h3⟩
  · exact Or.inl h
  · exact Or.inr ⟨g, 0, rfl, h3.lt, fun i hi => by rw [Nat.zero_add]; exact h3.at' i hi⟩
theorem HOwn.same {W W' : World} {g n : Nat} {f : Nat → Int × Int} (h : HOwn W g n f) (hs : W.heap.size ≤ W'.heap.size) (hb : W'.heap[g]? = W.heap[g]?) : HOwn W' g n f := by
  refine ⟨Nat.lt_of_lt_of_le h.lt hs, fun i hi => ⟨?_, ?_⟩, fun i => ?_⟩
  · have := (h.at' i hi).1
    simpa [World.cell?, hb] using this
  · have := (h.at' i hi).2
    simpa [World.cell?, hb] using this
  · have := h.free i
    simpa [World.frozen?, hb] using this
theorem HSl.kept {W W' : World} {lo hi n : Nat} {sa : Option Addr} {f : Nat → Int × Int} (h : HSl W lo hi sa n f) (hb : Below W.heap.size W W') : HSl W' lo hi sa n f := by
  rcases h with h | ⟨g, h1, h2, h4, h3⟩
  · exact Or.inl h
  · exact Or.inr ⟨g, h1, h2, h4, h3.same hb.size (hb.block g h3.lt)⟩
theorem HSl.onlyB {W W' : World} {lo hi lo' hi' n : Nat} {sa : Option Addr} {f : Nat → Int × Int} (h : HSl W lo hi sa n f) (ho : OnlyB W W' lo' hi') (hd : hi ≤ lo' ∨ hi' ≤ lo) : HSl W' lo hi sa n f := by
  rcases h with h | ⟨g, h1, h2, h4, h3⟩
  · exact Or.inl h
  · exact Or.inr ⟨g, h1, h2, h4, h3.same ho.size (ho.block g h3.lt (by omega))⟩
theorem HSl.onlyA {W W' : World} {lo hi lo' hi' n : Nat} {sa : Option Addr} {f : Nat → Int × Int} (h : HSl W lo hi sa n f) (ho : OnlyA W W' lo' hi') (hd : hi ≤ lo' ∨ hi' ≤ lo) : HSl W' lo hi sa n f := h.onlyB (ho.wideB (Nat.le_refl _) (Nat.le_refl _)) hd
theorem hcells_len : ∀ l, (hcells l).length = l.length * 2
  | [] => rfl
  | x :: l => by show (hcells l).length + 1 + 1 = (l.length + 1) * 2; rw [hcells_len l]; omega
theorem hcells_get : ∀ (l : List (Nat × Nat)) (i : Nat), i < l.length → (hcells l)[i * 2]? = some (.int .i64 ((l.getD i (0, 0)).1 : Int)) ∧ (hcells l)[i * 2 + 1]? = some (.int .i64 ((l.getD i (0, 0)).2 : Int))
  | [], i, h => by simp at h
  | x :: l, 0, _ => ⟨rfl, rfl⟩
  | x :: l, i + 1, h => by
    have h1 := hcells_get l i (by simpa using h)
    have e1 : (i + 1) * 2 = i * 2 + 1 + 1 := by omega
    rw [e1]
    exact h1
/-- The pairs of a list of hits. -/
def pairsL (L : List (Nat × Nat)) (i : Nat) : Int × Int := (((L.getD i (0, 0)).1 : Int), ((L.getD i (0, 0)).2 : Int))
theorem hits_sl {W : World} {base : Nat} {v : Value} {L : List (Nat × Nat)} (h : OwnsH W base v L) : ∃ (sa : Option Addr) (cap : Nat), v = .slice sa L.length cap ∧ HSl W base W.heap.size sa L.length (pairsL L) := by
  obtain ⟨_, ⟨rfl, hx⟩ | ⟨g, cap, cur, rfl, hg, hh, hnc, hm, hs, ht⟩⟩ := h
  · have : L.length = 0 := hx
    rw [this]
    exact ⟨none, 0, rfl, Or.inl rfl⟩
  · refine ⟨_, _, rfl, Or.inr ⟨g, rfl, hg, lt_of_block hh, lt_of_block hh, fun i hi => ?_, fun i => frozen_of_row _ _ _ _ _ hh⟩⟩
    have hc : ∀ j, j < L.length * 2 → W.cell? ⟨g, j, none⟩ = (hcells L)[j]? := fun j hj => by
      rw [← ht, List.getElem?_take_of_lt (by omega)]
      simp [World.cell?, hh]
    obtain ⟨h1, h2⟩ := hcells_get L i hi
    exact ⟨by rw [hc _ (by omega)]; exact h1, by rw [hc _ (by omega)]; exact h2⟩
theorem eqHit_same (x y : Int) (w : World) :
    Calls Try.prog 73 #[.agg #[.int .i64 x, .int .i64 y], .agg #[.int .i64 x, .int .i64 y]] w fun e w' => e = .returned (.bool true) ∧ Below w.heap.size w w' := by
  go_enter Try.func73, Try.ntmps73
  go_wp2
  go_ret
  exact ⟨rfl, ((Below.refl _ _).alloc (Nat.le_refl _) _).alloc (by simp) _⟩
theorem HRow.at {w w' : World} {n k : Nat} {sa : Option Addr} {f : Nat → Int × Int} (h : HRow w w.heap.size sa n f) (hb : Below w.heap.size w w') (hk : k < n) : ∃ bb off : Nat, sa = some ⟨bb, off, none⟩ ∧ bb < w.heap.size ∧ w'.cell? ⟨bb, off + k * 2, none⟩ = some (.int .i64 (f k).1) ∧ w'.cell? ⟨bb, off + k * 2 + 1, none⟩ = some (.int .i64 (f k).2) := by
  rcases h with h | ⟨bb, off, h1, h2, h3⟩
  · omega
  · exact ⟨bb, off, h1, h2, by rw [hb.cell (p := ⟨bb, off + k * 2, none⟩) h2]; exact (h3 k hk).1, by rw [hb.cell (p := ⟨bb, off + k * 2 + 1, none⟩) h2]; exact (h3 k hk).2⟩
set_option maxHeartbeats 1000000 in
theorem eqHits_same (sa sb : Option Addr) (n ca cb : Nat) (f : Nat → Int × Int) (w : World) (hn : n ≤ 4000000) (ha : HRow w w.heap.size sa n f) (hb : HRow w w.heap.size sb n f) :
    Calls Try.prog 29 #[.slice sa n ca, .slice sb n cb] w fun e w' => e = .returned (.bool true) ∧ Below w.heap.size w w' := by
  have HA : Hid (HRow w w.heap.size sa n f) := ha
  have HB : Hid (HRow w w.heap.size sb n f) := hb
  clear ha hb
  go_enter Try.func29, Try.ntmps29
  go_wp2
  go_loopw [5] (fun i wr => ∃ k : Nat, k ≤ n ∧ i = .int .i64 (k : Int) ∧ Below w.heap.size w wr) (fun i _ => n - (intOf i).toNat)
  case atStart => exact ⟨0, Nat.zero_le _, rfl, Below.refl _ _⟩
  case round =>
    obtain ⟨k, hk, rfl, hbel⟩ := hrel
    have HW : Hid (Below w.heap.size w wr) := hbel
    by_cases hkl : k < n
    · obtain ⟨ba, oa, rfl, hba, c0, c1⟩ := HA.out.at hbel hkl
      obtain ⟨bb, ob, rfl, hbb, d0, d1⟩ := HB.out.at hbel hkl
      generalize f k = a at c0 c1 d0 d1
      obtain ⟨x, y⟩ := a
      simp only at c0 c1 d0 d1
      clear hbel
      have hki : (k : Int) < (n : Int) := by omega
      have hk0 : (0 : Int) ≤ (k : Int) := by omega
      go_wp2
      go_region_with (go_at_call 73; refine (eqHit_same x y _).mono ?_; rintro e w1 ⟨rfl, hb1⟩; have HB1 : Hid (Below w.heap.size w w1) := HW.out.drew.trans (hb1.mono HW.out.size); clear hb1)
      all_goals
        go_wp2
        go_roundw
        case rel => exact ⟨k + 1, by omega, by go_num, HB1.out⟩
        case measure => simp [intOf]; omega
    · have hki : ¬ (k : Int) < (n : Int) := by omega
      clear hbel
      go_wp2
      go_ret
      exact ⟨rfl, HW.out⟩
/-- The marks. -/
def markP (i : Nat) : Int × Int := (((1 + i * 2 : Nat) : Int), ((1 + i * 2 + 1 : Nat) : Int))
theorem HOwn.set {w : World} {g n p : Nat} {f : Nat → Int × Int} (h : HOwn w g n f) (hp : p < n) (x y : Int) :
    HOwn ((w.setCell ⟨g, p * 2, none⟩ (.int .i64 x)).setCell ⟨g, p * 2 + 1, none⟩ (.int .i64 y)) g n (fun i => if i = p then (x, y) else f i) := by
  obtain ⟨q0, q1⟩ := h.at' p hp
  have ne : ∀ a b : Nat, a ≠ b → (⟨g, b, none⟩ : Addr) ≠ ⟨g, a, none⟩ := fun a b hab hh => hab (by injection hh with _ h2 _; exact h2.symm)
  refine ⟨by simpa [World.setCell] using h.lt, fun i hi => ?_, fun i => by rw [World.frozen?_setCell, World.frozen?_setCell]; exact h.free i⟩
  obtain ⟨r0, r1⟩ := h.at' i hi
  by_cases e : i = p
  · subst e
    simp only [if_pos]
    have s1 : (w.setCell ⟨g, i * 2, none⟩ (.int .i64 x)).cell? ⟨g, i * 2 + 1, none⟩ = some (.int .i64 (f i).2) := by
      rw [World.cell?_setCell_other _ _ _ _ (ne _ _ (by omega))]; exact q1
    exact ⟨by rw [World.cell?_setCell_other _ _ _ _ (ne _ _ (by omega))]; exact World.cell?_setCell_same _ _ _ q0, World.cell?_setCell_same _ _ _ s1⟩
  · simp only [if_neg e]
    exact ⟨by rw [World.cell?_setCell_other _ _ _ _ (ne _ _ (by omega)), World.cell?_setCell_other _ _ _ _ (ne _ _ (by omega))]; exact r0, by rw [World.cell?_setCell_other _ _ _ _ (ne _ _ (by omega)), World.cell?_setCell_other _ _ _ _ (ne _ _ (by omega))]; exact r1⟩
theorem only_setH {a w : World} {b i : Nat} {v : Value} (h : a.grownBy w (some b)) : a.grownBy (w.setCell ⟨b, i, none⟩ v) (some b) :=
  h.trans ⟨rfl, rfl, rfl, by simp [World.setCell], fun k _ hk => Below.heap_setCell _ _ _ _ (fun e => hk (by simp [e]))⟩
set_option maxHeartbeats 2000000 in
theorem markHits_own (g n cap : Nat) (f : Nat → Int × Int) (w : World) (hn : n ≤ 4000000) (ho : HOwn w g n f) :
    Calls Try.prog 32 #[.slice (some ⟨g, 0, none⟩) n cap, .int .i64 1] w fun e w' => e = .returned (.int .i64 ((1 + n * 2 : Nat) : Int)) ∧ w.grownBy w' (some g) ∧ HOwn w' g n markP := by
  have HO : Hid (HOwn w g n f) := ho
  clear ho
  go_enter Try.func32, Try.ntmps32
  go_wp2
  go_loopw [1, 5] (fun kv i wr => ∃ j : Nat, j ≤ n ∧ kv = .int .i64 ((1 + j * 2 : Nat) : Int) ∧ i = .int .i64 (j : Int) ∧ w.grownBy wr (some g) ∧ HOwn wr g n (fun i => if i < j then markP i else f i)) (fun _ i _ => n - (intOf i).toNat)
  case atStart => exact ⟨0, Nat.zero_le _, rfl, rfl, World.grownBy.refl _ _, by simpa using HO.out⟩
  case round =>
    obtain ⟨j, hj, rfl, rfl, hgr, hown⟩ := hrel
    have HG : Hid (w.grownBy wr (some g)) := hgr
    have HW : Hid (HOwn wr g n (fun i => if i < j then markP i else f i)) := hown
    have hsz := hown.lt
    clear hgr hown
    by_cases hjl : j < n
    · have hji : (j : Int) < (n : Int) := by omega
      have hj0 : (0 : Int) ≤ (j : Int) := by omega
      obtain ⟨q, hq⟩ : ∃ q, 1 + j * 2 = q := ⟨_, rfl⟩
      have HQ : Hid (1 + j * 2 = q) := hq
      have hq1 : 0 < q := by omega
      have hq2 : q ≤ 8000001 := by omega
      rw [hq]
      clear hq
      obtain ⟨d0, d1⟩ := HW.out.at' j hjl
      have e0 := HW.out.free (j * 2)
      have e1 := HW.out.free (j * 2 + 1)
      have HN : Hid (HOwn ((wr.setCell ⟨g, j * 2, none⟩ (.int .i64 (q : Int))).setCell ⟨g, j * 2 + 1, none⟩ (.int .i64 ((q : Int) + 1))) g n (fun i => if i < j + 1 then markP i else f i)) := by
        have h1 := HW.out.set hjl (q : Int) ((q : Int) + 1)
        have he : (fun i => if i = j then ((q : Int), (q : Int) + 1) else if i < j then markP i else f i) = fun i => if i < j + 1 then markP i else f i := by
          funext i
          by_cases e : i = j
          · subst e
            rw [if_pos rfl, if_pos (by omega)]
            unfold markP
            rw [HQ.out]
            congr 1
          · rw [if_neg e]
            by_cases e2 : i < j
            · rw [if_pos e2, if_pos (by omega)]
            · rw [if_neg e2, if_neg (by omega)]
        rw [he] at h1
        exact h1
      go_wp2
      go_roundw
      case rel => exact ⟨j + 1, by omega, by have := HQ.out; (congr 1; omega), by go_num, only_setH (only_setH HG.out), HN.out⟩
      case measure => simp [intOf]; omega
    · have hji : ¬ (j : Int) < (n : Int) := by omega
      obtain rfl : j = n := by omega
      have HE : Hid (HOwn wr g j markP) := ⟨HW.out.lt, fun i hi => by have h9 := HW.out.at' i hi; rw [if_pos hi] at h9; exact h9, HW.out.free⟩
      go_wp2
      go_ret
      exact ⟨rfl, HG.out, HE.out⟩
theorem markHits_none (sa : Option Addr) (cap : Nat) (w : World) :
    Calls Try.prog 32 #[.slice sa 0 cap, .int .i64 1] w fun e w' => e = .returned (.int .i64 1) ∧ w' = w := by
  go_enter Try.func32, Try.ntmps32
  go_wp2
  go_loopw [1, 5] (fun kv i wr => kv = .int .i64 1 ∧ i = .int .i64 0 ∧ wr = w) (fun _ _ _ => 0)
  case atStart => exact ⟨rfl, rfl, rfl⟩
  case round =>
    obtain ⟨rfl, rfl, rfl⟩ := hrel
    go_wp2
    go_ret
    exact ⟨rfl, rfl⟩
theorem markHits_any (sa : Option Addr) (n cap lo hi : Nat) (f : Nat → Int × Int) (w : World) (hn : n ≤ 4000000) (ho : HSl w lo hi sa n f) :
    Calls Try.prog 32 #[.slice sa n cap, .int .i64 1] w fun e w' => e = .returned (.int .i64 ((1 + n * 2 : Nat) : Int)) ∧ OnlyA w w' lo hi ∧ HSl w' lo hi sa n markP := by
  rcases Nat.eq_zero_or_pos n with rfl | hp
  · refine (markHits_none sa cap w).mono ?_
    rintro e w' ⟨rfl, rfl⟩
    exact ⟨rfl, ⟨none, World.grownBy.refl _ _, fun _ h => by cases h⟩, Or.inl rfl⟩
  · rcases ho with rfl | ⟨g, rfl, hlo, hhi, ho⟩
    · omega
    · refine (markHits_own g n cap f w hn ho).mono ?_
      rintro e w' ⟨rfl, hg, ho'⟩
      exact ⟨rfl, ⟨some g, hg, fun g' h => by cases h; exact ⟨hlo, hhi⟩⟩, Or.inr ⟨g, rfl, hlo, hhi, ho'⟩⟩
set_option maxHeartbeats 2000000 in
theorem heldHits_any (sa : Option Addr) (n cap : Nat) (w : World) (hn : n ≤ 4000000) (hr : HRow w w.heap.size sa n markP) :
    Calls Try.prog 33 #[.slice sa n cap, .int .i64 1] w fun e w' => e = .returned (.int .i64 ((1 + n * 2 : Nat) : Int)) ∧ Below w.heap.size w w' := by
  have HR : Hid (HRow w w.heap.size sa n markP) := hr
  clear hr
  go_enter Try.func33, Try.ntmps33
  go_wp2
  go_loopw [1, 5] (fun kv i wr => ∃ j : Nat, j ≤ n ∧ kv = .int .i64 ((1 + j * 2 : Nat) : Int) ∧ i = .int .i64 (j : Int) ∧ Below w.heap.size w wr) (fun _ i _ => n - (intOf i).toNat)
  case atStart => exact ⟨0, Nat.zero_le _, rfl, rfl, Below.refl _ _⟩
  case round =>
    obtain ⟨j, hj, rfl, rfl, hbel⟩ := hrel
    have HB : Hid (Below w.heap.size w wr) := hbel
    by_cases hjl : j < n
    · have hji : (j : Int) < (n : Int) := by omega
      have hj0 : (0 : Int) ≤ (j : Int) := by omega
      obtain ⟨bb, off, rfl, hbb, d0, d1⟩ := HR.out.at hbel hjl
      obtain ⟨q, hq⟩ : ∃ q, 1 + j * 2 = q := ⟨_, rfl⟩
      have HQ : Hid (1 + j * 2 = q) := hq
      have hq1 : 0 < q := by omega
      have hq2 : q ≤ 8000001 := by omega
      rw [hq]
      have hm : markP j = ((q : Int), (q : Int) + 1) := by
        unfold markP
        rw [hq]
        congr 1
      rw [hm] at d0 d1
      simp only at d0 d1
      clear hq hbel hm
      go_wp2
      go_roundw
      case rel => exact ⟨j + 1, by omega, by have := HQ.out; (congr 1; omega), by go_num, HB.out⟩
      case measure => simp [intOf]; omega
    · have hji : ¬ (j : Int) < (n : Int) := by omega
      obtain rfl : j = n := by omega
      clear hbel
      go_wp2
      go_ret
      exact ⟨rfl, HB.out⟩
end Go.Proofs.Ytfeolbgenpknfaa
