/- What is proved here: the laws' helpers over slices of slices of cells (their size, a copy, the comparison, the marks): what they hand back and what they leave as it was. -/
import Derived.Test.YtbdjjggaahjjpaaQCCAtW
import Derived.Test.YtbdjjggaahjjpaaQCCRowMToRowsD
import Derived.Test.YtbdjjggaahjjpaaQMaskD
namespace Go.Proofs.Ytbdjjggaahjjpaa
open Go.RowKit

/-- How many there are in the first slices. -/
def totC (n : Nat → Nat) : Nat → Nat
  | 0 => 0
  | k + 1 => totC n k + n k
theorem totC_le {n : Nat → Nat} : ∀ {k i : Nat}, i < k → n i ≤ totC n k
  | 0, i, h => absurd h (Nat.not_lt_zero _)
  | k + 1, i, h => by
    by_cases e : i = k
    · subst e; exact Nat.le_add_left _ _
    · exact Nat.le_trans (totC_le (by omega)) (Nat.le_add_right _ _)
theorem totC_mono {n : Nat → Nat} : ∀ {k i : Nat}, i ≤ k → totC n i ≤ totC n k
  | 0, i, h => by obtain rfl : i = 0 := by omega
                  exact Nat.le_refl _
  | k + 1, i, h => by
    by_cases e : i = k + 1
    · subst e; exact Nat.le_refl _
    · exact Nat.le_trans (totC_mono (by omega)) (Nat.le_add_right _ _)
set_option maxHeartbeats 1000000 in
theorem szCC_any (sa : Option Addr) (k cap : Nat) (s : Nat → Option Addr) (n c : Nat → Nat) (f : Nat → Nat → Cel) (w : World) (hk : k ≤ maxLen) (hr : CCRows w w.heap.size sa k s n c f) (hn : ∀ i, i < k → n i ≤ maxLen) (hc : ∀ i, i < k → ∀ j, j < n i → (f i j).c.size ≤ maxLen) :
    Calls Try.prog 12 #[.slice sa k cap, .int .i64 1048576] w fun e w' => (∃ z : Int, e = .returned (.int .i64 z) ∧ (z < 0 ∨ (0 ≤ z ∧ z ≤ 1048576 ∧ k ≤ 1048576 ∧ totC n k ≤ 1048576 ∧ ∀ i, i < k → ∀ j, j < n i → (f i j).c.size ≤ 1048576))) ∧ Below w.heap.size w w' := by
  unfold maxLen at hk
  have HR : Hid (CCRows w w.heap.size sa k s n c f) := hr
  have HZ : Hid (∀ i, i < k → ∀ (lf : Int) W, 0 ≤ lf → lf ≤ 1048576 → CRow W W.heap.size (s i) (n i) (f i) → Calls Try.prog 40 #[.slice (s i) (n i) (c i), .int .i64 lf] W fun e w' => (∃ z : Int, e = .returned (.int .i64 z) ∧ (z < 0 ∨ (0 ≤ z ∧ z + (n i : Int) ≤ lf ∧ ∀ j, j < n i → (f i j).c.size ≤ 1048576))) ∧ Below W.heap.size W w') := fun i hi lf W h0 h1 hW => szCellsAt_any (s i) (n i) (c i) (f i) lf W h0 h1 (hn i hi) hW (hc i hi)
  clear hr hn hc
  by_cases hb : (1048576 : Int) < (k : Int)
  · have h' : (1048576 : Int) - (k : Int) < 0 := by omega
    go_enter Try.func12, Try.ntmps12
    go_wp2_with fail
    go_ret
    exact ⟨⟨-1, rfl, Or.inl (by omega)⟩, Below.refl _ _⟩
  · have h' : ¬ (1048576 : Int) - (k : Int) < 0 := by omega
    go_enter Try.func12, Try.ntmps12
    go_wp2_with fail
    go_loopw [1, 5] (fun lv iv wr => ∃ (i : Nat) (left : Int), i ≤ k ∧ iv = .int .i64 (i : Int) ∧ lv = .int .i64 left ∧ 0 ≤ left ∧ left + (totC n i : Int) ≤ 1048576 ∧ Below w.heap.size w wr ∧ ∀ j, j < i → ∀ q, q < n j → (f j q).c.size ≤ 1048576) (fun _ iv _ => k - (intOf iv).toNat)
    case atStart => exact ⟨0, _, Nat.zero_le _, rfl, rfl, by omega, by show _ + ((0 : Nat) : Int) ≤ _; omega, Below.refl _ _, fun i hi => absurd hi (Nat.not_lt_zero _)⟩
    case round =>
      obtain ⟨i, left, hi, rfl, rfl, hl0, hl1, hbel, hall⟩ := hrel
      have HB : Hid (Below w.heap.size w wr) := hbel
      have HA : Hid (∀ j, j < i → ∀ q, q < n j → (f j q).c.size ≤ 1048576) := hall
      clear hall
      by_cases hil : i < k
      · obtain ⟨bb, off, rfl, hbb, ci, hrow⟩ := (HR.out.late HB.out).at hil
        have C := HZ.out i hil left wr hl0 (by omega) hrow
        have HT : Hid (totC n (i + 1) = totC n i + n i) := rfl
        clear hbel hrow
        have hii : (i : Int) < (k : Int) := by omega
        have hi0 : (0 : Int) ≤ (i : Int) := by omega
        obtain ⟨si, hsi⟩ : ∃ x, s i = x := ⟨_, rfl⟩
        obtain ⟨c9, hc9⟩ : ∃ x, c i = x := ⟨_, rfl⟩
        obtain ⟨ni, hni⟩ : ∃ x, n i = x := ⟨_, rfl⟩
        have HNI : Hid (n i = ni) := hni
        rw [hsi, hni, hc9] at ci C
        clear hsi hni hc9
        go_wp2_with fail
        refine C.mono ?_
        rintro e w1 ⟨⟨z, rfl, hz⟩, hb1⟩
        have HB1 : Hid (Below w.heap.size w w1) := HB.out.trans (hb1.mono HB.out.size)
        clear hb1 C ci
        rcases hz with hz | ⟨hz, hzl, hcs⟩
        · go_wp2_with fail
          go_ret
          exact ⟨⟨-1, rfl, Or.inl (by omega)⟩, HB1.out⟩
        · have hz' : ¬ z < 0 := by omega
          have HCS : Hid (∀ j, j < ni → (f i j).c.size ≤ 1048576) := hcs
          clear hcs
          go_wp2_with fail
          go_roundw
          case rel => exact ⟨i + 1, z, by omega, by go_num, rfl, hz, by have h9 := HT.out; have h8 := HNI.out; omega, HB1.out, fun j hj => by
            by_cases e : j = i
            · rw [e, HNI.out]; exact HCS.out
            · exact HA.out j (by omega)⟩
          case measure => simp [intOf]; omega
      · have hii : ¬ (i : Int) < (k : Int) := by omega
        obtain rfl : i = k := by omega
        clear hbel
        go_wp2_with fail
        go_ret
        exact ⟨⟨left, rfl, Or.inr ⟨hl0, by omega, by omega, by omega, HA.out⟩⟩, HB.out⟩

theorem Try.cellsInfo : (Try.prog.info? 58).map (fun i => (i.zero, i.size, i.bytes)) = some (some (.slice none 0 0), 1, 24) := by kernel_rfl
/-- Slices of cells that were copied: each in a stretch of blocks of its own. -/
structure CCOwnH (W : World) (g k : Nat) (h : Nat → Nat) (s : Nat → Option Addr) (n c : Nat → Nat) (f : Nat → Nat → Cel) : Prop where
  lt : g < h 0
  sz : h k ≤ W.heap.size
  mono : ∀ i, i < k → h i ≤ h (i + 1)
  cells : ∀ i, i < k → W.cell? ⟨g, i, none⟩ = some (.slice (s i) (n i) (c i))
  rows : ∀ i, i < k → CSl W (h i) (h (i + 1)) (s i) (n i) (f i)
theorem CCOwnH.le {W : World} {g k : Nat} {h : Nat → Nat} {s : Nat → Option Addr} {n c : Nat → Nat} {f : Nat → Nat → Cel} (o : CCOwnH W g k h s n c f) : ∀ {i j : Nat}, i ≤ j → j ≤ k → h i ≤ h j := by
  intro i j hij
  induction j with
  | zero => intro _; obtain rfl : i = 0 := by omega
            exact Nat.le_refl _
  | succ j ih =>
    intro hj
    by_cases e : i = j + 1
    · rw [e]; exact Nat.le_refl _
    · exact Nat.le_trans (ih (by omega) (by omega)) (o.mono j (by omega))
theorem CCOwnH.kept {W W' : World} {g k : Nat} {h : Nat → Nat} {s : Nat → Option Addr} {n c : Nat → Nat} {f : Nat → Nat → Cel} (o : CCOwnH W g k h s n c f) (hb : Below W.heap.size W W') : CCOwnH W' g k h s n c f :=
  ⟨o.lt, Nat.le_trans o.sz hb.size, o.mono, fun i hi => by rw [hb.cell (p := ⟨g, i, none⟩) (Nat.lt_of_lt_of_le o.lt (Nat.le_trans (o.le (Nat.zero_le _) (Nat.le_refl _)) o.sz))]; exact o.cells i hi, fun i hi => (o.rows i hi).kept hb⟩
theorem CCOwnH.read {W : World} {g k : Nat} {h : Nat → Nat} {s : Nat → Option Addr} {n c : Nat → Nat} {f : Nat → Nat → Cel} (o : CCOwnH W g k h s n c f) : CCRows W W.heap.size (some ⟨g, 0, none⟩) k s n c f :=
  Or.inr ⟨g, 0, rfl, Nat.lt_of_lt_of_le o.lt (Nat.le_trans (o.le (Nat.zero_le _) (Nat.le_refl _)) o.sz), fun i hi => ⟨by rw [Nat.zero_add]; exact o.cells i hi, (o.rows i hi).row⟩⟩
/-- New slices of cells, none of them told. -/
theorem make_cc (w : World) (k : Nat) (hk : k ≤ 1048576) : ∃ C : Array Value, (Instr.makeSlice 28 (.int .i64 (k : Int)) (.int .i64 (k : Int))).run Try.prog w = .ok (.slice (some ⟨w.heap.size, 0, none⟩) k k) (w.alloc (.cells C 58)) ∧ (∀ i, i < k → ∃ v, (w.alloc (.cells C 58)).cell? ⟨w.heap.size, i, none⟩ = some v) ∧ ∀ i, (w.alloc (.cells C 58)).frozen? ⟨w.heap.size, i, none⟩ = false := by
  obtain ⟨i0, hi, hz0, hz1, hz2⟩ := info_parts Try.cellsInfo
  refine ⟨madeCells (Value.slice none 0 0).cells (k * 1), ?_, fun i hi => ⟨.slice none 0 0, ?_⟩, fun i => frozen_of_row _ _ _ _ _ (heap_alloc_new w (.cells (madeCells (Value.slice none 0 0).cells (k * 1)) 58))⟩
  · have h := run_make (P := Try.prog) w 28 58 i0 (.slice none 0 0) Try.underlying28 hi hz0 .i64 .i64 (k : Int) (k : Int) (by omega) (Int.le_refl _) (by rw [hz2]; omega) (by omega)
    rw [h, hz1]
    simp
  · rw [World.cell?_alloc_mark]
    simp [madeCells, Value.cells, Nat.mod_one, hi]
set_option maxHeartbeats 2000000 in
theorem toCC_any (sa : Option Addr) (k cap : Nat) (s : Nat → Option Addr) (n c : Nat → Nat) (f : Nat → Nat → Cel) (w : World) (hk : k ≤ 1048576) (hn : ∀ i, i < k → n i ≤ 1048576) (hr : CCRows w w.heap.size sa k s n c f) :
    Calls Try.prog 14 #[.slice sa k cap] w fun e w' => ∃ (h : Nat → Nat) (s' : Nat → Option Addr) (c' : Nat → Nat), e = .returned (.slice (some ⟨w.heap.size, 0, none⟩) k k) ∧ Below w.heap.size w w' ∧ CCOwnH w' w.heap.size k h s' n c' f := by
  have HR : Hid (CCRows w w.heap.size sa k s n c f) := hr
  have HT : Hid (∀ i, i < k → ∀ W, CRow W W.heap.size (s i) (n i) (f i) → Calls Try.prog 43 #[.slice (s i) (n i) (c i)] W fun e w' => e = .returned (.slice (some ⟨W.heap.size, 0, none⟩) (n i) (n i)) ∧ Below W.heap.size W w' ∧ COwn w' W.heap.size (n i) (f i)) := fun i hi W hW => toCells_any (s i) (n i) (c i) (f i) W (hn i hi) hW
  obtain ⟨C0, hmk, hc0, hf0⟩ := make_cc w k hk
  have HC0 : Hid (∀ i, i < k → ∃ v, (w.alloc (.cells C0 58)).cell? ⟨w.heap.size, i, none⟩ = some v) := hc0
  have HF0 : Hid (∀ i, (w.alloc (.cells C0 58)).frozen? ⟨w.heap.size, i, none⟩ = false) := hf0
  have HBW : Hid (Below w.heap.size w (w.alloc (.cells C0 58))) := (Below.refl _ _).alloc (Nat.le_refl _) _
  have HSZ : Hid ((w.alloc (.cells C0 58)).heap.size = w.heap.size + 1) := by show _ = _; simp
  clear hc0 hf0
  clear hr hn
  go_enter Try.func14, Try.ntmps14
  go_wp2_with fail
  generalize w.alloc (.cells C0 58) = w2 at *
  obtain ⟨g, hg⟩ : ∃ g, w.heap.size = g := ⟨_, rfl⟩
  have HG : Hid (w.heap.size = g) := hg
  rw [hg] at HC0 HF0 HSZ ⊢
  clear hmk hg
  go_loopw [4] (fun iv wr => ∃ (i : Nat) (h : Nat → Nat) (s' : Nat → Option Addr) (c' : Nat → Nat), i ≤ k ∧ iv = .int .i64 (i : Int) ∧ Below w.heap.size w wr ∧ CCOwnH wr g i h s' n c' f ∧ ∀ j, j < k → (∃ v, wr.cell? ⟨g, j, none⟩ = some v) ∧ wr.frozen? ⟨g, j, none⟩ = false) (fun iv _ => k - (intOf iv).toNat)
  case atStart => exact ⟨0, fun _ => g + 1, s, c, Nat.zero_le _, rfl, HBW.out, ⟨by omega, by rw [HSZ.out]; exact Nat.le_refl _, fun i hi => absurd hi (Nat.not_lt_zero _), fun i hi => absurd hi (Nat.not_lt_zero _), fun i hi => absurd hi (Nat.not_lt_zero _)⟩, fun j hj => ⟨HC0.out j hj, HF0.out j⟩⟩
  case round =>
    obtain ⟨i, h, s', c', hik, rfl, hbel, hown, hcell⟩ := hrel
    have HB : Hid (Below w.heap.size w wr) := hbel
    have HO : Hid (CCOwnH wr g i h s' n c' f) := hown
    have HC : Hid (∀ j, j < k → (∃ v, wr.cell? ⟨g, j, none⟩ = some v) ∧ wr.frozen? ⟨g, j, none⟩ = false) := hcell
    clear hbel hown hcell
    by_cases hil : i < k
    · obtain ⟨bb, off, rfl, hbb, ci, hrow⟩ := (HR.out.late HB.out).at hil
      have C := HT.out i hil wr hrow
      have hii : (i : Int) < (k : Int) := by omega
      have hi0 : (0 : Int) ≤ (i : Int) := by omega
      obtain ⟨si, hsi⟩ : ∃ x, s i = x := ⟨_, rfl⟩
      obtain ⟨c9, hc9⟩ : ∃ x, c i = x := ⟨_, rfl⟩
      obtain ⟨ni, hni⟩ : ∃ x, n i = x := ⟨_, rfl⟩
      have HNI : Hid (n i = ni) := hni
      rw [hsi, hni, hc9] at ci
      rw [hsi, hni, hc9] at C
      clear hsi hni hc9 hrow
      go_wp2_with fail
      refine C.mono ?_
      rintro e w1 ⟨rfl, hb1, ho1⟩
      have hgr : g < wr.heap.size := Nat.lt_of_lt_of_le HO.out.lt (Nat.le_trans (HO.out.le (Nat.zero_le _) (Nat.le_refl _)) HO.out.sz)
      have HB1 : Hid (Below w.heap.size w w1) := HB.out.trans (hb1.mono HB.out.size)
      have hc1 : ∀ j, j < k → (∃ v, w1.cell? ⟨g, j, none⟩ = some v) ∧ w1.frozen? ⟨g, j, none⟩ = false := fun j hj => ⟨by rw [hb1.cell (p := ⟨g, j, none⟩) hgr]; exact (HC.out j hj).1, by rw [hb1.frozen (p := ⟨g, j, none⟩) hgr]; exact (HC.out j hj).2⟩
      obtain ⟨⟨v1, hv1⟩, hf1⟩ := hc1 i hil
      have HO1 : CCOwnH w1 g i h s' n c' f := HO.out.kept hb1
      have HN : Hid (CCOwnH (w1.setCell ⟨g, i, none⟩ (.slice (some ⟨wr.heap.size, 0, none⟩) ni ni)) g (i + 1) (fun j => if j ≤ i then h j else w1.heap.size) (fun j => if j = i then some ⟨wr.heap.size, 0, none⟩ else s' j) n (fun j => if j = i then ni else c' j) f) := by
        have hset : ∀ {lo hi n : Nat} {sx : Option Addr} {F : Nat → Cel}, g < lo → CSl w1 lo hi sx n F → CSl (w1.setCell ⟨g, i, none⟩ (.slice (some ⟨wr.heap.size, 0, none⟩) ni ni)) lo hi sx n F := fun hlo h9 => h9.only (lo' := g) (hi' := g + 1) ⟨some g, only_setMC (World.grownBy.refl _ _), fun g' e => by injection e with e; omega⟩ (Or.inr (by omega))
        have h1 : h i ≤ wr.heap.size := HO.out.sz
        have hs1 := hb1.size
        refine ⟨by rw [if_pos (Nat.zero_le _)]; exact HO.out.lt, by rw [if_neg (by omega)]; simp [World.setCell], fun j hj => ?_, fun j hj => ?_, fun j hj => ?_⟩
        · by_cases e : j = i
          · rw [if_pos (by omega), if_neg (by omega), e]; omega
          · rw [if_pos (by omega), if_pos (by omega)]; exact HO.out.mono j (by omega)
        · by_cases e : j = i
          · subst e
            simp only [if_pos]
            rw [HNI.out]
            exact World.cell?_setCell_same _ _ _ hv1
          · simp only [if_neg e]
            rw [World.cell?_setCell_other _ _ _ _ (fun hh => e (by injection hh with _ h2 _; exact h2.symm))]
            exact HO1.cells j (by omega)
        · by_cases e : j = i
          · subst e
            simp only [if_pos, Nat.le_refl]
            rw [if_neg (show ¬ j + 1 ≤ j by omega), HNI.out]
            exact hset (Nat.lt_of_lt_of_le HO.out.lt (HO.out.le (Nat.zero_le _) (Nat.le_refl _))) (Or.inr ⟨wr.heap.size, rfl, h1, ho1.lt, ho1⟩)
          · simp only [if_neg e]
            rw [if_pos (by omega), if_pos (by omega)]
            exact hset (Nat.lt_of_lt_of_le HO.out.lt (HO.out.le (Nat.zero_le _) (by omega))) (HO1.rows j (by omega))
      have HCN : Hid (∀ j, j < k → (∃ v, (w1.setCell ⟨g, i, none⟩ (.slice (some ⟨wr.heap.size, 0, none⟩) ni ni)).cell? ⟨g, j, none⟩ = some v) ∧ (w1.setCell ⟨g, i, none⟩ (.slice (some ⟨wr.heap.size, 0, none⟩) ni ni)).frozen? ⟨g, j, none⟩ = false) := fun j hj => ⟨by
        by_cases e : j = i
        · rw [e]; exact ⟨_, World.cell?_setCell_same _ _ _ hv1⟩
        · rw [World.cell?_setCell_other _ _ _ _ (fun hh => e (by injection hh with _ h2 _; exact h2.symm))]
          exact (hc1 j hj).1, by rw [World.frozen?_setCell]; exact (hc1 j hj).2⟩
      have HBS : Hid (Below w.heap.size w (w1.setCell ⟨g, i, none⟩ (.slice (some ⟨wr.heap.size, 0, none⟩) ni ni))) := HB1.out.setCell (p := ⟨g, i, none⟩) (by rw [HG.out]; exact Nat.le_refl _) _
      have hgw : g < w1.heap.size := Nat.lt_of_lt_of_le hgr hb1.size
      clear hb1 ho1 hc1 HO1 C ci
      go_wp2_with fail
      go_roundw
      case rel => exact ⟨i + 1, _, _, _, by omega, by go_num, HBS.out, HN.out, HCN.out⟩
      case measure => simp [intOf]; omega
    · have hii : ¬ (i : Int) < (k : Int) := by omega
      obtain rfl : i = k := by omega
      go_wp2_with fail
      go_ret
      exact ⟨by rw [HG.out]; rfl, HB.out, h, s', c', by rw [HG.out]; exact HO.out⟩
end Go.Proofs.Ytbdjjggaahjjpaa
