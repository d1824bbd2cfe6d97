/- What is proved here: l01Any, DrawPutNum and DrawPutText hand back some number or text in range; nothing that was there turns. -/
import Derived.Test.YtpdedggnjcnpgaaDoorEdgeW
namespace Go.Proofs.YtpdedggnjcnpgaaDoor
open Go.RowKit

set_option maxHeartbeats 2000000 in
theorem any_any (w : World) (b : Nat) (sa : Option Addr) (len cap : Nat) (hs : Src w b sa len cap) :
    Calls Tryd.prog 13 #[.pointer (some ⟨b, 0, none⟩)] w fun e w' => SomeInt e ∧ w.grownBy w' (some b) ∧ Src w' b sa len cap := by
  have HS : Hid (Src w b sa len cap) := hs
  clear hs
  go_enter Tryd.func13, Tryd.ntmps13
  go_wp2_with fail
  refine (one_any w b sa len cap 4 (by decide) HS.out).mono ?_
  rintro e w1 ⟨⟨x, rfl⟩, hg1, hS1⟩
  have HG1 : Hid (w.grownBy w1 (some b)) := hg1
  have HS1 : Hid (Src w1 b sa len cap) := hS1
  clear hg1 hS1 HS
  cases x
  · go_wp2_with fail
    refine (n_any w1 b sa len cap 1099511627776 (by decide) HS1.out).mono ?_
    rintro e w2 ⟨⟨r, rfl, hr0, hr1, _⟩, hg2, hS2⟩
    have hr2 : r < 1099511627776 := hr1 (by decide)
    have HG2 : Hid (w.grownBy w2 (some b)) := HG1.out.trans hg2
    have HS2 : Hid (Src w2 b sa len cap) := hS2
    clear hr1 hg2 hS2 HG1 HS1
    go_wp2
    go_ret
    exact ⟨⟨_, rfl, by omega, by omega⟩, HG2.out, HS2.out⟩
  · go_wp2_with fail
    refine (edge_any w1 b sa len cap HS1.out).mono ?_
    rintro e w2 ⟨⟨y, rfl, hy0, hy1⟩, hg2, hS2⟩
    have HG2 : Hid (w.grownBy w2 (some b)) := HG1.out.trans hg2
    have HS2 : Hid (Src w2 b sa len cap) := hS2
    clear hg2 hS2 HG1 HS1
    go_wp2
    go_ret
    exact ⟨⟨y, rfl, hy0, hy1⟩, HG2.out, HS2.out⟩

set_option maxHeartbeats 2000000 in
theorem drawPutNum_any (w : World) (sa : Option Addr) (len cap : Nat) (hl : len ≤ 1048576) (hby : Bytes8 w w.heap.size sa len) :
    Calls Tryd.prog 4 #[.slice sa len cap] w fun e w' => SomeInt e ∧ Below w.heap.size w w' := by
  have HY : Hid (Bytes8 w w.heap.size sa len) := hby
  clear hby
  go_enter Tryd.func4, Tryd.ntmps4
  go_wp2_with fail
  refine (source_any w sa len cap hl HY.out).mono ?_
  rintro e w1 ⟨rfl, hb1, hS1⟩
  have HB1 : Hid (Below w.heap.size w w1) := hb1
  have HS1 : Hid (Src w1 w.heap.size sa len cap) := hS1
  clear hb1 hS1 HY
  go_wp2_with fail
  refine (any_any w1 w.heap.size sa len cap HS1.out).mono ?_
  rintro e w2 ⟨⟨y, rfl, hy0, hy1⟩, hg2, hS2⟩
  have HB2 : Hid (Below w.heap.size w w2) := below_of_only HB1.out (Nat.le_refl _) HB1.out.size hg2
  clear hg2 hS2 HB1 HS1
  go_wp2
  go_ret
  exact ⟨⟨y, rfl, hy0, hy1⟩, HB2.out⟩

set_option maxHeartbeats 2000000 in
theorem drawPutText_any (w : World) (sa : Option Addr) (len cap : Nat) (hl : len ≤ 1048576) (hby : Bytes8 w w.heap.size sa len) :
    Calls Tryd.prog 8 #[.slice sa len cap] w fun e w' => TextUpTo 20001 e ∧ Below w.heap.size w w' := by
  have HY : Hid (Bytes8 w w.heap.size sa len) := hby
  clear hby
  go_enter Tryd.func8, Tryd.ntmps8
  go_wp2_with fail
  refine (source_any w sa len cap hl HY.out).mono ?_
  rintro e w1 ⟨rfl, hb1, hS1⟩
  have HB1 : Hid (Below w.heap.size w w1) := hb1
  have HS1 : Hid (Src w1 w.heap.size sa len cap) := hS1
  clear hb1 hS1 HY
  go_wp2_with fail
  refine (one_any w1 w.heap.size sa len cap 8 (by decide) HS1.out).mono ?_
  rintro e w2 ⟨⟨x, rfl⟩, hg2, hS2⟩
  have HB2 : Hid (Below w.heap.size w w2) := below_of_only HB1.out (Nat.le_refl _) HB1.out.size hg2
  have HS2 : Hid (Src w2 w.heap.size sa len cap) := hS2
  clear hg2 hS2 HB1 HS1
  cases x
  · go_wp2_with fail
    refine (n_any w2 w.heap.size sa len cap 20 (by decide) HS2.out).mono ?_
    rintro e w3 ⟨⟨r, rfl, hr0, hr1, _⟩, hg3, hS3⟩
    have hr2 : r < 20 := hr1 (by decide)
    obtain ⟨k, rfl⟩ := Int.eq_ofNat_of_zero_le hr0
    have HB3 : Hid (Below w.heap.size w w3) := below_of_only HB2.out (Nat.le_refl _) HB2.out.size hg3
    have HS3 : Hid (Src w3 w.heap.size sa len cap) := hS3
    clear hr1 hg3 hS3 HB2 HS2
    go_wp2_with fail
    refine (bytes_any w3 w.heap.size sa len cap k (by omega) HS3.out).mono ?_
    rintro e w4 ⟨⟨t, rfl, ht⟩, hg4, hS4⟩
    have HB4 : Hid (Below w.heap.size w w4) := below_of_only HB3.out (Nat.le_refl _) HB3.out.size hg4
    have HT : Hid (t.size = k) := ht
    clear hg4 hS4 HB3 HS3 ht
    go_wp2
    go_ret
    exact ⟨⟨t, rfl, by have := HT.out; omega⟩, HB4.out⟩
  · go_wp2_with fail
    refine (n_any w2 w.heap.size sa len cap 3 (by decide) HS2.out).mono ?_
    rintro e w3 ⟨⟨r, rfl, hr0, hr1, _⟩, hg3, hS3⟩
    have hr2 : r < 3 := hr1 (by decide)
    obtain ⟨k, rfl⟩ := Int.eq_ofNat_of_zero_le hr0
    have HB3 : Hid (Below w.heap.size w w3) := below_of_only HB2.out (Nat.le_refl _) HB2.out.size hg3
    clear hr1 hg3 hS3 HB2 HS2
    obtain ⟨w4, v, hmk, hown, hb4⟩ := make_zero w3 (19999 + k) (by omega)
    have hcv := convRow hown
    have e1 : ((19999 + k : Nat) : Int) = 19999 + (k : Int) := by omega
    rw [e1] at hmk
    have HB4 : Hid (Below w.heap.size w w4) := HB3.out.trans (hb4.mono HB3.out.size)
    clear e1 hown hb4 HB3
    go_wp2
    go_ret
    exact ⟨⟨_, rfl, by rw [strOfNums_size]; simp; omega⟩, HB4.out⟩
end Go.Proofs.YtpdedggnjcnpgaaDoor
