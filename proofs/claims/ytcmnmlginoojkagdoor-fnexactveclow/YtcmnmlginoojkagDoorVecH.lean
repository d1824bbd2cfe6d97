/- What is proved here: the laws' helpers over vectors (size, copy, comparison, marks): what they hand back and what they leave as it was. -/
import Derived.Test.YtcmnmlginoojkagDoorRowsW
namespace Go.Proofs.YtcmnmlginoojkagDoor
open Go.RowKit

/-- A vector's value. -/
def vecV (b : Int) (sa : Option Addr) (n cap : Nat) : Value := .agg #[.int .i64 b, .slice sa n cap]
/-- A vector in new memory. -/
def NewVec (w : World) (b : Int) (n : Nat) (f : Nat → Int) (e : Ending) (w' : World) : Prop :=
  ∃ (sa : Option Addr) (cap : Nat), e = .returned (vecV b sa n cap) ∧ Below w.heap.size w w' ∧ OwnS w' w.heap.size sa n f

theorem szVec_any (b : Int) (sa : Option Addr) (n cap : Nat) (left : Int) (w : World) (hn : n ≤ maxLen) (h0 : 0 ≤ left) (h1 : left ≤ 1048576) :
    Calls Tryd.prog 4 #[.agg #[.int .i64 b, .slice sa n cap], .int .i64 left] w fun e w' => e = .returned (.int .i64 (szOf n left)) ∧ Below w.heap.size w w' := by
  have hs : szOf n left < 0 → szOf n left = -1 := by
    unfold szOf
    split <;> omega
  have HC := fun w => szRow_any sa n cap left w hn h0 h1
  have HQ : Hid (∀ w, Calls Tryd.prog 9 #[.slice sa n cap, .int .i64 left] w fun e w' => e = .returned (.int .i64 (szOf n left)) ∧ w' = w) := HC
  clear HC
  generalize szOf n left = z at *
  have hb : Below w.heap.size w (w.alloc (.cells #[.int .i64 b, .slice sa n cap] 24)) := (Below.refl _ _).alloc (Nat.le_refl _) _
  have HB : Hid (Below w.heap.size w (w.alloc (.cells #[.int .i64 b, .slice sa n cap] 24))) := hb
  clear hb
  by_cases hz : z < 0
  · obtain rfl := hs hz
    clear hs hz
    go_enter Tryd.func4, Tryd.ntmps4
    go_wp2_with fail
    refine (HQ.out _).mono ?_
    rintro e w1 ⟨rfl, hw⟩
    subst hw
    go_wp2
    go_ret
    exact ⟨rfl, HB.out⟩
  · clear hs
    go_enter Tryd.func4, Tryd.ntmps4
    go_wp2_with fail
    refine (HQ.out _).mono ?_
    rintro e w1 ⟨rfl, hw⟩
    subst hw
    go_wp2
    go_ret
    exact ⟨rfl, HB.out⟩

theorem bcells {W w1 : World} (hb : Below W.heap.size W w1) : (∀ b o, b < W.heap.size → w1.cell? ⟨b, o, none⟩ = W.cell? ⟨b, o, none⟩) ∧ (∀ b o, b < W.heap.size → w1.frozen? ⟨b, o, none⟩ = W.frozen? ⟨b, o, none⟩) :=
  ⟨fun b o h => hb.cell (p := ⟨b, o, none⟩) h, fun b o h => hb.frozen (p := ⟨b, o, none⟩) h⟩
theorem Own.setOther {w : World} {g n : Nat} {f : Nat → Int} (h : Own w g n f) (p : Addr) (v : Value) (hne : p.block ≠ g) : Own (w.setCell p v) g n f := by
  refine ⟨by simpa [World.setCell] using h.1, fun i hi => ?_, fun i hi => ?_⟩
  · rw [World.cell?_setCell_other _ _ _ _ (fun hh => hne (by rw [hh]))]
    exact h.2.1 i hi
  · rw [World.frozen?_setCell]
    exact h.2.2 i hi
theorem Own.alloc {w : World} {g n : Nat} {f : Nat → Int} (h : Own w g n f) (o : Obj) : Own (w.alloc o) g n f :=
  h.kept (B := w.heap.size) ((Below.refl _ _).alloc (Nat.le_refl _) _) h.1
/-- A slice in a new block. -/
def NewRow (w : World) (n : Nat) (f : Nat → Int) (e : Ending) (w' : World) : Prop := ∃ g, e = .returned (.slice (some ⟨g, 0, none⟩) n n) ∧ w.heap.size ≤ g ∧ Below w.heap.size w w' ∧ Own w' g n f
theorem toRow_new (sa : Option Addr) (n cap : Nat) (f : Nat → Int) (w : World) (hn : n ≤ 1048576) (hr : Row w w.heap.size sa n f) :
    Calls Tryd.prog 12 #[.slice sa n cap] w fun e w' => NewRow w n f e w' :=
  (toRow_any sa n cap f w hn hr).mono fun _ _ h => ⟨_, h.1, Nat.le_refl _, h.2.1, h.2.2⟩

set_option maxHeartbeats 1000000 in
theorem toVec_any (b : Int) (sa : Option Addr) (n cap : Nat) (f : Nat → Int) (w : World) (hn : n ≤ 1048576) (hr : Row w w.heap.size sa n f) :
    Calls Tryd.prog 6 #[.agg #[.int .i64 b, .slice sa n cap]] w fun e w' => NewVec w b n f e w' := by
  have HR : Hid (Row w w.heap.size sa n f) := hr
  clear hr
  go_enter Tryd.func6, Tryd.ntmps6
  go_wp2_with fail
  have hb0 : Below w.heap.size w (((w.alloc (.cells #[.int .i64 b, .slice sa n cap] 24)).alloc (.cells #[.int .i64 0, .slice none 0 0] 27)).alloc (.cells #[.int .i64 b, .slice none 0 0] 27)) :=
    (((Below.refl _ _).alloc (Nat.le_refl _) _).alloc (by simp) _).alloc (by simp; omega) _
  have HB0 : Hid (Below w.heap.size w (((w.alloc (.cells #[.int .i64 b, .slice sa n cap] 24)).alloc (.cells #[.int .i64 0, .slice none 0 0] 27)).alloc (.cells #[.int .i64 b, .slice none 0 0] 27))) := hb0
  refine (toRow_new sa n cap f _ hn ((HR.out.kept hb0).up hb0.size)).mono ?_
  clear hb0
  rintro e w1 ⟨g, rfl, hlo, hb, ho⟩
  obtain ⟨hc2, hf2⟩ := bcells hb
  have hz2 : w.heap.size + 2 < w1.heap.size := by have := hb.size; simp at this; omega
  have hg : w.heap.size + 2 < g := by simp at hlo; omega
  have HB : Hid (Below w.heap.size w w1) := HB0.out.trans (hb.mono HB0.out.size)
  have HO : Hid (Own w1 g n f) := ho
  clear hb hlo ho HB0 HR
  go_wp2
  refine bodyPost_ret (v := vecV b (some ⟨g, 0, none⟩) n n) (by simp [results, Tryd.results6, go_sem, vecV, hc2]) rfl ?_
  exact ⟨_, _, rfl, ((HB.out.setCell (by show w.heap.size ≤ w.heap.size + 1 + 1; omega) _).setCell (by show w.heap.size ≤ w.heap.size + 1; omega) _).setCell (by show w.heap.size ≤ w.heap.size + 1; omega) _, Or.inr ⟨g, rfl, by omega, ((HO.out.setOther _ _ (by show w.heap.size + 1 + 1 ≠ g; omega)).setOther _ _ (by show w.heap.size + 1 ≠ g; omega)).setOther _ _ (by show w.heap.size + 1 ≠ g; omega)⟩⟩

set_option maxHeartbeats 1000000 in
theorem eqVec_same (b : Int) (sa sb : Option Addr) (n ca cb : Nat) (f : Nat → Int) (w : World) (hn : n ≤ 1048576) (ha : Row w w.heap.size sa n f) (hb : Row w w.heap.size sb n f) :
    Calls Tryd.prog 8 #[.agg #[.int .i64 b, .slice sa n ca], .agg #[.int .i64 b, .slice sb n cb]] w fun e w' => e = .returned (.bool true) ∧ Below w.heap.size w w' := by
  have HA : Hid (Row w w.heap.size sa n f) := ha
  have HB : Hid (Row w w.heap.size sb n f) := hb
  clear ha hb
  have hb0 : Below w.heap.size w ((w.alloc (.cells #[.int .i64 b, .slice sa n ca] 27)).alloc (.cells #[.int .i64 b, .slice sb n cb] 27)) :=
    ((Below.refl _ _).alloc (Nat.le_refl _) _).alloc (by simp) _
  have HB0 : Hid (Below w.heap.size w ((w.alloc (.cells #[.int .i64 b, .slice sa n ca] 27)).alloc (.cells #[.int .i64 b, .slice sb n cb] 27))) := hb0
  clear hb0
  go_enter Tryd.func8, Tryd.ntmps8
  go_wp2_with fail
  refine (eqRow_same sa sb n ca cb f _ hn ((HA.out.kept HB0.out).up HB0.out.size) ((HB.out.kept HB0.out).up HB0.out.size)).mono ?_
  rintro e w1 ⟨rfl, hb1⟩
  have HB1 : Hid (Below w.heap.size w w1) := HB0.out.trans (hb1.mono HB0.out.size)
  clear hb1 HB0
  go_wp2
  go_ret
  exact ⟨rfl, HB1.out⟩

theorem OwnS.kept {w w' : World} {B lo n : Nat} {sa : Option Addr} {f : Nat → Int} (h : OwnS w lo sa n f) (hb : Below B w w') (hB : B = w.heap.size) : OwnS w' lo sa n f := by
  rcases h with h | ⟨g, h1, h2, h3⟩
  · exact Or.inl h
  · exact Or.inr ⟨g, h1, h2, h3.kept hb (by rw [hB]; exact h3.1)⟩
theorem OwnS.row {w : World} {lo n : Nat} {sa : Option Addr} {f : Nat → Int} (h : OwnS w lo sa n f) : Row w w.heap.size sa n f := by
  rcases h with h | ⟨g, rfl, _, h3⟩
  · exact Or.inl h
  · exact h3.row h3.1
theorem OwnS.congr {w : World} {lo n : Nat} {sa : Option Addr} {f f' : Nat → Int} (h : OwnS w lo sa n f) (he : ∀ i, i < n → f i = f' i) : OwnS w lo sa n f' := by
  rcases h with h | ⟨g, h1, h2, h3⟩
  · exact Or.inl h
  · exact Or.inr ⟨g, h1, h2, h3.congr he⟩
theorem OwnS.low {w : World} {lo lo' n : Nat} {sa : Option Addr} {f : Nat → Int} (h : OwnS w lo sa n f) (hl : lo' ≤ lo) : OwnS w lo' sa n f := by
  rcases h with h | ⟨g, h1, h2, h3⟩
  · exact Or.inl h
  · exact Or.inr ⟨g, h1, by omega, h3⟩
/-- Another slice's block turned: this one stays. -/
theorem OwnS.other {w w' : World} {lo n m : Nat} {sa sb : Option Addr} {f : Nat → Int} (h : OwnS w lo sa n f) (ho : OnlyS w w' sb m) (hne : ∀ g, sb = some ⟨g, 0, none⟩ → 0 < m → sa ≠ some ⟨g, 0, none⟩) : OwnS w' lo sa n f := by
  rcases h with h | ⟨g, rfl, h2, h3⟩
  · exact Or.inl h
  · obtain ⟨row, hg, hr⟩ := ho
    refine Or.inr ⟨g, rfl, h2, ?_⟩
    have hb := hg.block g h3.1 (fun e => by obtain ⟨h4, h5⟩ := hr g e.symm; exact hne g h5 h4 rfl)
    refine ⟨Nat.lt_of_lt_of_le h3.1 hg.size, fun i hi => ?_, fun i hi => ?_⟩
    · have := h3.2.1 i hi
      simpa [World.cell?, hb] using this
    · have := h3.2.2 i hi
      simpa [World.frozen?, hb] using this
/-- A turned block from lo on: what lies below stays. -/
theorem OnlyS.below {w w' : World} {lo n : Nat} {sa : Option Addr} (h : OnlyS w w' sa n) (hl : ∀ g, sa = some ⟨g, 0, none⟩ → 0 < n → lo ≤ g) (hs : lo ≤ w.heap.size) : Below lo w w' := by
  obtain ⟨row, hg, hr⟩ := h
  exact ⟨hg.os, hg.tape, hg.output, hg.size, fun k hk => hg.block k (by omega) (fun e => by
    obtain ⟨h4, h5⟩ := hr k e.symm
    have := hl k h5 h4
    omega)⟩
theorem OwnS.lo {w : World} {lo n : Nat} {sa : Option Addr} {f : Nat → Int} (h : OwnS w lo sa n f) : ∀ g, sa = some ⟨g, 0, none⟩ → 0 < n → lo ≤ g ∧ g < w.heap.size := by
  intro g hg hn
  rcases h with h | ⟨g', h1, h2, h3⟩
  · omega
  · rw [h1] at hg
    injection hg with hg
    injection hg with hg
    subst hg
    exact ⟨h2, h3.1⟩
end Go.Proofs.YtcmnmlginoojkagDoor
