/- What is proved here: the specification's PatternText hands back the text of a right pattern, else nothing; nothing that was there turns. -/
import Derived.Test.YtkkijmbpcffadajDoorPTextM
import Derived.Test.YtkkijmbpcffadajDoorSpecPRightW
import Derived.Test.YtkkijmbpcffadajDoorSpecClsW
import Derived.Test.YtkkijmbpcffadajDoorSpecOftW
import Derived.Deep.RegionWith
namespace Go.Proofs.YtkkijmbpcffadajDoor
open Go.RowKit

open Classical in
theorem specPText_no (sa : Option Addr) (n cap : Nat) (f : Nat → Atm) (w : World) (hn : n ≤ maxLen) (hr : ARow w w.heap.size sa n f) (hc : ∀ i, i < n → (f i).c.size ≤ maxLen) (h : ¬ PatRight n f) :
    Calls Tryd.prog 6 #[.slice sa n cap] w fun e w' => e = .returned (.string ⟨#[]⟩) ∧ Below w.heap.size w w' := by
  have HP : Hid (Calls Tryd.prog 16 #[.slice sa n cap] w fun e w' => e = .returned (.bool false) ∧ Below w.heap.size w w') := (specPRight_any sa n cap f w hn hr hc).mono fun _ _ h2 => ⟨by rw [h2.1, decide_eq_false h], h2.2⟩
  clear hn hr hc h
  go_enter Tryd.func6, Tryd.ntmps6
  go_wp2_with fail
  refine HP.out.mono ?_
  rintro e w1 ⟨rfl, hb⟩
  have B1 : Hid (Below w.heap.size w w1) := hb
  clear hb
  go_wp2_with fail
  go_ret
  exact ⟨rfl, B1.out⟩

open Classical in
set_option maxRecDepth 100000 in
set_option maxHeartbeats 8000000 in
theorem specPText_yes (sa : Option Addr) (n cap : Nat) (f : Nat → Atm) (w : World) (hn : n ≤ maxLen) (hr : ARow w w.heap.size sa n f) (hc : ∀ i, i < n → (f i).c.size ≤ maxLen) (h : PatRight n f) :
    Calls Tryd.prog 6 #[.slice sa n cap] w fun e w' => e = .returned (.string (patTo f n)) ∧ Below w.heap.size w w' := by
  have HP : Hid (Calls Tryd.prog 16 #[.slice sa n cap] w fun e w' => e = .returned (.bool true) ∧ Below w.heap.size w w') := (specPRight_any sa n cap f w hn hr hc).mono fun _ _ h2 => ⟨by rw [h2.1, decide_eq_true h], h2.2⟩
  have HR : Hid (ARow w w.heap.size sa n f) := hr
  have HH : Hid (PatRight n f) := h
  have hn20 := h.2.1
  clear hn hr hc h
  go_enter Tryd.func6, Tryd.ntmps6
  go_wp2_with fail
  refine HP.out.mono ?_
  rintro e w1 ⟨rfl, hb⟩
  have B1 : Hid (Below w.heap.size w w1) := hb
  clear hb HP
  go_wp2_with fail
  go_loopw [3, 4] (fun t i wr => ∃ k : Nat, k ≤ n ∧ i = .int .i64 (k : Int) ∧ t = .string (patTo f k) ∧ Below w.heap.size w wr) (fun _ i _ => n - (intOf i).toNat)
  case atStart => exact ⟨0, Nat.zero_le _, rfl, rfl, B1.out⟩
  case round =>
    obtain ⟨k, hk, rfl, rfl, hbel⟩ := hrel
    have HB : Hid (Below w.heap.size w wr) := hbel
    have hS := patTo_size (f := f) k (fun i hi => right_size (HH.out.2.2.1 i (by omega)).1)
    have hS2 : (patTo f k).size ≤ 100000 := by omega
    clear hS
    by_cases hkl : k < n
    · obtain ⟨bb, off, rfl, hbb, hat⟩ := HR.out.at hbel hkl
      obtain ⟨c0, c1, c2⟩ := hat
      have hA := HH.out.2.2.1 k hkl
      have hlt : bb < wr.heap.size := Nat.lt_of_lt_of_le hbb hbel.size
      clear hbel
      have hki : (k : Int) < (n : Int) := by omega
      have hk0 : (0 : Int) ≤ (k : Int) := by omega
      have HSU : Hid (patTo f (k + 1) = (patTo f k ++ clsP (f k).c) ++ oftT (f k).l (f k).m) := rfl
      obtain ⟨⟨ac, al, am⟩, ha⟩ : ∃ a, f k = a := ⟨_, rfl⟩
      rw [ha] at c0 c1 c2 HSU hA
      simp only at c0 c1 c2 HSU
      have h256 := right_size hA.1
      simp only at h256
      have HC : Hid (∀ W, Calls Tryd.prog 17 #[.string ac] W fun e w' => e = .returned (.string (clsP ac)) ∧ Below W.heap.size W w') := fun W => l04Class_any ac W hA.2.1 h256
      have HO : Hid (∀ W, Calls Tryd.prog 18 #[.agg #[.string ac, .int .i64 al, .int .i64 am]] W fun e w' => e = .returned (.string (oftT al am)) ∧ Below W.heap.size W w') := fun W => often_any ac al am W (ways_of hA.2.2.1 hA.2.2.2.1 hA.2.2.2.2)
      have z1 := clsP_size h256
      have z2 := oftT_size al am
      clear ha hA h256
      generalize clsP ac = x1 at *
      generalize oftT al am = x2 at *
      generalize patTo f k = T at *
      have z3 : (T ++ x1).size = T.size + x1.size := ByteArray.size_append
      have z4 : ¬ 9223372036854775807 < T.size + x1.size := by omega
      have z5 : ¬ 9223372036854775807 < (T ++ x1).size + x2.size := by omega
      go_wp2_with fail
      go_region_with (first | (go_at_call 17; refine (HC.out _).mono ?_; rintro e w2 ⟨rfl, hb⟩; have d0 := hb.cell (p := ⟨bb, off + k * 3, none⟩) hlt; have d1 := hb.cell (p := ⟨bb, off + k * 3 + 1, none⟩) hlt; have d2 := hb.cell (p := ⟨bb, off + k * 3 + 2, none⟩) hlt; simp [c0, c1, c2] at d0 d1 d2; have hlt2 : bb < w2.heap.size := Nat.lt_of_lt_of_le hlt hb.size; have B2 : Hid (Below w.heap.size w w2) := HB.out.drew.trans (hb.mono HB.out.size); clear hb) | (go_at_call 18; refine (HO.out _).mono ?_; rintro e w3 ⟨rfl, hb⟩; have B3 : Hid (Below w.heap.size w w3) := B2.out.trans (hb.mono B2.out.size); clear hb))
      all_goals
        go_wp2_with fail
        go_roundw
        case rel => exact ⟨k + 1, by omega, by go_num, by rw [HSU.out], B3.out⟩
        case measure => simp [intOf]; omega
    · have hki : ¬ (k : Int) < (n : Int) := by omega
      obtain rfl : k = n := by omega
      clear hbel
      go_wp2_with fail
      go_ret
      exact ⟨rfl, HB.out⟩
end Go.Proofs.YtkkijmbpcffadajDoor
