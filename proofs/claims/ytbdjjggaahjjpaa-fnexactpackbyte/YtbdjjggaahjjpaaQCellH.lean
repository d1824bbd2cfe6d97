/- What is proved here: the laws' helpers over slices of cells (their size, a copy, the comparison): what they hand back and what they leave as it was. -/
import Derived.Test.YtbdjjggaahjjpaaQCellD
import Derived.Deep.RegionWith
namespace Go.Proofs.Ytbdjjggaahjjpaa
open Go.RowKit

theorem szCell_any (a : Cel) (left : Int) (w : World) (hc : a.c.size ≤ maxLen) (h0 : 0 ≤ left) (h1 : left ≤ 1048576) :
    Calls Try.prog 71 #[.agg #[.string a.c, .bool a.k, .bool a.o], .int .i64 left] w fun e w' => e = .returned (.int .i64 (if left < a.c.size then -1 else left - a.c.size)) ∧ Below w.heap.size w w' := by
  unfold maxLen at hc
  by_cases h : left < (a.c.size : Int)
  · rw [if_pos h]
    have h' : left - (a.c.size : Int) < 0 := by omega
    go_enter Try.func71, Try.ntmps71
    go_wp2
    go_ret
    exact ⟨rfl, (Below.refl _ _).alloc (Nat.le_refl _) _⟩
  · rw [if_neg h]
    have h' : ¬ left - (a.c.size : Int) < 0 := by omega
    go_enter Try.func71, Try.ntmps71
    go_wp2
    go_ret
    exact ⟨rfl, (Below.refl _ _).alloc (Nat.le_refl _) _⟩

set_option maxHeartbeats 1000000 in
theorem szCells_any (sa : Option Addr) (n cap : Nat) (f : Nat → Cel) (w : World) (hn : n ≤ maxLen) (hr : CRow w w.heap.size sa n f) (hc : ∀ i, i < n → (f i).c.size ≤ maxLen) :
    Calls Try.prog 40 #[.slice sa n cap, .int .i64 1048576] w fun e w' => (∃ z : Int, e = .returned (.int .i64 z) ∧ (z < 0 ∨ (0 ≤ z ∧ n ≤ 1048576 ∧ ∀ i, i < n → (f i).c.size ≤ 1048576))) ∧ Below w.heap.size w w' := by
  unfold maxLen at hn
  have HC : Hid (∀ i, i < n → (f i).c.size ≤ maxLen) := hc
  have HR : Hid (CRow w w.heap.size sa n f) := hr
  clear hc hr
  by_cases hb : (1048576 : Int) < (n : Int)
  · have h' : (1048576 : Int) - (n : Int) < 0 := by omega
    go_enter Try.func40, Try.ntmps40
    go_wp2
    go_ret
    exact ⟨⟨-1, rfl, Or.inl (by omega)⟩, Below.refl _ _⟩
  · have h' : ¬ (1048576 : Int) - (n : Int) < 0 := by omega
    go_enter Try.func40, Try.ntmps40
    go_wp2
    go_loopw [1, 5] (fun lv i wr => ∃ (k : Nat) (left : Int), k ≤ n ∧ i = .int .i64 (k : Int) ∧ lv = .int .i64 left ∧ 0 ≤ left ∧ left ≤ 1048576 ∧ Below w.heap.size w wr ∧ ∀ i, i < k → (f i).c.size ≤ 1048576) (fun _ i _ => n - (intOf i).toNat)
    case atStart => exact ⟨0, _, Nat.zero_le _, rfl, rfl, by omega, by omega, Below.refl _ _, fun i hi => by omega⟩
    case round =>
      obtain ⟨k, left, hk, rfl, rfl, hl0, hl1, hbel, hall⟩ := hrel
      have HB : Hid (Below w.heap.size w wr) := hbel
      have HA : Hid (∀ i, i < k → (f i).c.size ≤ 1048576) := hall
      clear hall
      by_cases hkl : k < n
      · obtain ⟨bb, off, rfl, hbb, hat⟩ := HR.out.at hbel hkl
        obtain ⟨c0, c1, c2⟩ := hat
        have hck := HC.out k hkl
        have HK : Hid ((f k).c.size ≤ maxLen) := hck
        clear hbel hck
        have hki : (k : Int) < (n : Int) := by omega
        have hk0 : (0 : Int) ≤ (k : Int) := by omega
        obtain ⟨a, ha⟩ : ∃ a, f k = a := ⟨_, rfl⟩
        have HF : Hid (f k = a) := ha
        rw [ha] at c0 c1 c2 HK
        clear ha
        by_cases hs : left < (a.c.size : Int)
        · go_wp2_with (go_at_call 71; refine (szCell_any a left _ HK.out hl0 hl1).mono ?_; rintro e w1 ⟨rfl, hb1⟩; rw [if_pos hs]; have HB1 : Hid (Below w.heap.size w w1) := HB.out.trans (hb1.mono HB.out.size); clear hb1)
          go_ret
          exact ⟨⟨-1, rfl, Or.inl (by omega)⟩, HB1.out⟩
        · have hs' : ¬ left - (a.c.size : Int) < 0 := by omega
          go_wp2_with (go_at_call 71; refine (szCell_any a left _ HK.out hl0 hl1).mono ?_; rintro e w1 ⟨rfl, hb1⟩; rw [if_neg hs]; have HB1 : Hid (Below w.heap.size w w1) := HB.out.trans (hb1.mono HB.out.size); clear hb1)
          go_roundw
          case rel => exact ⟨k + 1, _, by omega, by go_num, rfl, by omega, by omega, HB1.out, fun i hi => by
            by_cases e : i = k
            · subst e; rw [HF.out]; omega
            · exact HA.out i (by omega)⟩
          case measure => simp [intOf]; omega
      · have hki : ¬ (k : Int) < (n : Int) := by omega
        clear hbel
        go_wp2
        go_ret
        exact ⟨⟨left, rfl, Or.inr ⟨hl0, by omega, fun i hi => HA.out i (by omega)⟩⟩, HB.out⟩

theorem toCell_any (a : Cel) (w : World) :
    Calls Try.prog 72 #[.agg #[.string a.c, .bool a.k, .bool a.o]] w fun e w' => e = .returned (.agg #[.string a.c, .bool a.k, .bool a.o]) ∧ Below w.heap.size w w' := by
  go_enter Try.func72, Try.ntmps72
  go_wp2
  refine bodyPost_ret (v := .agg #[.string a.c, .bool a.k, .bool a.o]) (by simp [results, Try.results72, go_sem]) rfl ⟨rfl, ?_⟩
  exact (((Below.refl _ _).alloc (Nat.le_refl _) _).alloc (by simp) _).alloc (by simp; omega) _

set_option maxHeartbeats 1000000 in
theorem toCells_any (sa : Option Addr) (n cap : Nat) (f : Nat → Cel) (w : World) (hn : n ≤ 1048576) (hr : CRow w w.heap.size sa n f) :
    Calls Try.prog 43 #[.slice sa n cap] w fun e w' => e = .returned (.slice (some ⟨w.heap.size, 0, none⟩) n n) ∧ Below w.heap.size w w' ∧ COwn w' w.heap.size n f := by
  obtain ⟨C, hmk, hown⟩ := make_cells w n (by omega)
  have HO : Hid (COwn (w.alloc (.cells C 85)) w.heap.size n (fun _ => cel0)) := hown
  have HR : Hid (CRow w w.heap.size sa n f) := hr
  clear hown hr
  go_enter Try.func43, Try.ntmps43
  go_wp2
  go_loopw [4] (fun i wr => ∃ k : Nat, k ≤ n ∧ i = .int .i64 (k : Int) ∧ Below w.heap.size w wr ∧ COwn wr w.heap.size n (fun i => if i < k then f i else cel0)) (fun i _ => n - (intOf i).toNat)
  case atStart => exact ⟨0, Nat.zero_le _, rfl, (Below.refl _ _).alloc (Nat.le_refl _) _, HO.out.congr (fun i _ => by simp)⟩
  case round =>
    obtain ⟨k, hk, rfl, hbel, hown⟩ := hrel
    have HB : Hid (Below w.heap.size w wr) := hbel
    by_cases hkl : k < n
    · obtain ⟨bb, off, rfl, hbb, hat⟩ := HR.out.at hbel hkl
      obtain ⟨c0, c1, c2⟩ := hat
      obtain ⟨a, ha⟩ : ∃ a, f k = a := ⟨_, rfl⟩
      have HF : Hid (f k = a) := ha
      rw [ha] at c0 c1 c2
      have HW : Hid (COwn wr w.heap.size n (fun i => if i < k then f i else cel0)) := hown
      have hsz := hown.lt
      clear hbel hown ha
      have hki : (k : Int) < (n : Int) := by omega
      have hk0 : (0 : Int) ≤ (k : Int) := by omega
      go_wp2_with (go_at_call 72; refine (toCell_any a _).mono ?_; rintro e w1 ⟨rfl, hb1⟩; have HW1 : Hid (COwn w1 w.heap.size n (fun i => if i < k then f i else cel0)) := HW.out.kept hb1 hsz; have HB1 : Hid (Below w.heap.size w w1) := HB.out.trans (hb1.mono HB.out.size); obtain ⟨⟨d0, d1, d2⟩, e0, e1, e2⟩ := HW1.out.parts hkl; clear hb1)
      go_roundw
      case rel => exact ⟨k + 1, by omega, by go_num, ((HB1.out.setCell (Nat.le_refl _) _).setCell (Nat.le_refl _) _).setCell (Nat.le_refl _) _, (HW1.out.set hkl a).congr (fun i hi => by
        by_cases e : i = k
        · subst e; simp [HF.out]
        · simp only [if_neg e]
          by_cases e2 : i < k
          · rw [if_pos e2, if_pos (by omega)]
          · rw [if_neg e2, if_neg (by omega)])⟩
      case measure => simp [intOf]; omega
    · have hki : ¬ (k : Int) < (n : Int) := by omega
      have HW : Hid (COwn wr w.heap.size n (fun i => if i < k then f i else cel0)) := hown
      clear hbel hown
      go_wp2
      go_ret
      exact ⟨rfl, HB.out, HW.out.congr (fun i hi => if_pos (by omega))⟩

theorem eqCell_same (a : Cel) (w : World) :
    Calls Try.prog 76 #[.agg #[.string a.c, .bool a.k, .bool a.o], .agg #[.string a.c, .bool a.k, .bool a.o]] w fun e w' => e = .returned (.bool true) ∧ Below w.heap.size w w' := by
  go_enter Try.func76, Try.ntmps76
  go_wp2
  go_ret
  exact ⟨rfl, ((Below.refl _ _).alloc (Nat.le_refl _) _).alloc (by simp) _⟩

set_option maxHeartbeats 1000000 in
theorem eqCells_same (sa sb : Option Addr) (n ca cb : Nat) (f : Nat → Cel) (w : World) (hn : n ≤ 1048576) (ha : CRow w w.heap.size sa n f) (hb : CRow w w.heap.size sb n f) :
    Calls Try.prog 45 #[.slice sa n ca, .slice sb n cb] w fun e w' => e = .returned (.bool true) ∧ Below w.heap.size w w' := by
  have HA : Hid (CRow w w.heap.size sa n f) := ha
  have HB : Hid (CRow w w.heap.size sb n f) := hb
  clear ha hb
  go_enter Try.func45, Try.ntmps45
  go_wp2
  go_loopw [5] (fun i wr => ∃ k : Nat, k ≤ n ∧ i = .int .i64 (k : Int) ∧ Below w.heap.size w wr) (fun i _ => n - (intOf i).toNat)
  case atStart => exact ⟨0, Nat.zero_le _, rfl, Below.refl _ _⟩
  case round =>
    obtain ⟨k, hk, rfl, hbel⟩ := hrel
    have HW : Hid (Below w.heap.size w wr) := hbel
    by_cases hkl : k < n
    · obtain ⟨ba, oa, rfl, hba, hca⟩ := HA.out.at hbel hkl
      obtain ⟨bb, ob, rfl, hbb, hcb⟩ := HB.out.at hbel hkl
      obtain ⟨c0, c1, c2⟩ := hca
      obtain ⟨d0, d1, d2⟩ := hcb
      generalize f k = a at c0 c1 c2 d0 d1 d2
      clear hbel
      have hki : (k : Int) < (n : Int) := by omega
      have hk0 : (0 : Int) ≤ (k : Int) := by omega
      go_wp2
      go_region_with (go_at_call 76; refine (eqCell_same a _).mono ?_; rintro e w1 ⟨rfl, hb1⟩; have HB1 : Hid (Below w.heap.size w w1) := HW.out.drew.trans (hb1.mono HW.out.size); clear hb1)
      all_goals
        go_wp2
        go_roundw
        case rel => exact ⟨k + 1, by omega, by go_num, HB1.out⟩
        case measure => simp [intOf]; omega
    · have hki : ¬ (k : Int) < (n : Int) := by omega
      clear hbel
      go_wp2
      go_ret
      exact ⟨rfl, HW.out⟩
end Go.Proofs.Ytbdjjggaahjjpaa
