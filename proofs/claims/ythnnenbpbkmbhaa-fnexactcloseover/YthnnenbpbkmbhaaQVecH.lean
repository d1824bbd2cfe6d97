/- What is proved here: the laws' helpers over vectors (size, copy, comparison): what they hand back and what they leave as it was. -/
import Derived.Test.YthnnenbpbkmbhaaQRowsDToVecS
import Derived.Test.YthnnenbpbkmbhaaQRowsW
namespace Go.Proofs.Ythnnenbpbkmbhaa
open Go.RowKit

theorem szVec_any (b : Int) (sa : Option Addr) (n cap : Nat) (left : Int) (w : World) (hn : n ≤ maxLen) (h0 : 0 ≤ left) (h1 : left ≤ 1048576) :
    Calls Try.prog 30 #[.agg #[.int .i64 b, .slice sa n cap], .int .i64 left] w fun e w' => e = .returned (.int .i64 (szOf n left)) ∧ Below w.heap.size w w' := by
  have hs : szOf n left < 0 → szOf n left = -1 := by
    unfold szOf
    split <;> omega
  have HC := fun w => szRow_any sa n cap left w hn h0 h1
  have HQ : Hid (∀ w, Calls Try.prog 93 #[.slice sa n cap, .int .i64 left] w fun e w' => e = .returned (.int .i64 (szOf n left)) ∧ w' = w) := HC
  clear HC
  generalize szOf n left = z at *
  have hb : Below w.heap.size w (w.alloc (.cells #[.int .i64 b, .slice sa n cap] 48)) := (Below.refl _ _).alloc (Nat.le_refl _) _
  have HB : Hid (Below w.heap.size w (w.alloc (.cells #[.int .i64 b, .slice sa n cap] 48))) := hb
  clear hb
  by_cases hz : z < 0
  · obtain rfl := hs hz
    clear hs hz
    go_enter Try.func30, Try.ntmps30
    go_wp2_with fail
    refine (HQ.out _).mono ?_
    rintro e w1 ⟨rfl, hw⟩
    subst hw
    go_wp2
    go_ret
    exact ⟨rfl, HB.out⟩
  · clear hs
    go_enter Try.func30, Try.ntmps30
    go_wp2_with fail
    refine (HQ.out _).mono ?_
    rintro e w1 ⟨rfl, hw⟩
    subst hw
    go_wp2
    go_ret
    exact ⟨rfl, HB.out⟩

/-- A slice in a new block. -/
def NewRow (w : World) (n : Nat) (f : Nat → Int) (e : Ending) (w' : World) : Prop := ∃ g, e = .returned (.slice (some ⟨g, 0, none⟩) n n) ∧ w.heap.size ≤ g ∧ Below w.heap.size w w' ∧ Own w' g n f
theorem toRow_new (sa : Option Addr) (n cap : Nat) (f : Nat → Int) (w : World) (hn : n ≤ 1048576) (hr : Row w w.heap.size sa n f) :
    Calls Try.prog 96 #[.slice sa n cap] w fun e w' => NewRow w n f e w' :=
  (toRow_any sa n cap f w hn hr).mono fun _ _ h => ⟨_, h.1, Nat.le_refl _, h.2.1, h.2.2⟩

set_option maxHeartbeats 1000000 in
theorem toVec_any (b : Int) (sa : Option Addr) (n cap : Nat) (f : Nat → Int) (w : World) (hn : n ≤ 1048576) (hr : Row w w.heap.size sa n f) :
    Calls Try.prog 32 #[.agg #[.int .i64 b, .slice sa n cap]] w fun e w' => NewVec w b n f e w' := by
  have HR : Hid (Row w w.heap.size sa n f) := hr
  clear hr
  go_enter Try.func32, Try.ntmps32
  go_wp2_with fail
  have hb0 : Below w.heap.size w (((w.alloc (.cells #[.int .i64 b, .slice sa n cap] 48)).alloc (.cells #[.int .i64 0, .slice none 0 0] 26)).alloc (.cells #[.int .i64 b, .slice none 0 0] 26)) :=
    (((Below.refl _ _).alloc (Nat.le_refl _) _).alloc (by simp) _).alloc (by simp; omega) _
  have HB0 : Hid (Below w.heap.size w (((w.alloc (.cells #[.int .i64 b, .slice sa n cap] 48)).alloc (.cells #[.int .i64 0, .slice none 0 0] 26)).alloc (.cells #[.int .i64 b, .slice none 0 0] 26))) := hb0
  refine (toRow_new sa n cap f _ hn ((HR.out.kept hb0).up hb0.size)).mono ?_
  clear hb0
  rintro e w1 ⟨g, rfl, hlo, hb, ho⟩
  obtain ⟨hc2, hf2⟩ := bcells hb
  have hz2 : w.heap.size + 2 < w1.heap.size := by have := hb.size; simp at this; omega
  have hg : w.heap.size + 2 < g := by simp at hlo; omega
  have HB : Hid (Below w.heap.size w w1) := HB0.out.trans (hb.mono HB0.out.size)
  have HO : Hid (Own w1 g n f) := ho
  clear hb hlo ho HB0 HR
  go_wp2
  refine bodyPost_ret (v := vecV b (some ⟨g, 0, none⟩) n n) (by simp [results, Try.results32, go_sem, vecV, hc2]) rfl ?_
  exact ⟨_, _, rfl, ((HB.out.setCell (by show w.heap.size ≤ w.heap.size + 1 + 1; omega) _).setCell (by show w.heap.size ≤ w.heap.size + 1; omega) _).setCell (by show w.heap.size ≤ w.heap.size + 1; omega) _, Or.inr ⟨g, rfl, by omega, ((HO.out.setOther _ _ (by show w.heap.size + 1 + 1 ≠ g; omega)).setOther _ _ (by show w.heap.size + 1 ≠ g; omega)).setOther _ _ (by show w.heap.size + 1 ≠ g; omega)⟩⟩

end Go.Proofs.Ythnnenbpbkmbhaa
