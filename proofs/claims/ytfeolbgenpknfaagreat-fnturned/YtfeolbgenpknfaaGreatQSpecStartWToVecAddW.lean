/- What is proved here: the specification tells where each begins, in new memory, or nothing; nothing that was there turns.
   What is said here: a step's answer (a vector and whether it hit) in memory: its value, its box, a new one.
   What is proved here: the specification's l02Cut turns the bits behind the last off, in the vector's own words.
   What is proved here: the specification's l02Add hands back the sum, word by word with a carry, in new memory; nothing that was there turns. -/
import Derived.Test.YtfeolbgenpknfaaGreatQVecCopyWToSpecCloW
import Derived.Test.YtfeolbgenpknfaaGreatQSpecMaskLW
import Derived.Deep.RegionWith
import Derived.Test.YtfeolbgenpknfaaGreatQRowsDToVecS
import Derived.Test.YtfeolbgenpknfaaGreatQSpecKVecWToWordsForW
import Derived.BigRegion
namespace Go.Proofs.YtfeolbgenpknfaaGreat
open Go.RowKit

theorem mfield (b : Int) (s0 s1 s2 s3 s4 : Option Addr) (m c0 c1 c2 c3 c4 : Nat) (w : World) : (Instr.field 130 (.agg #[.int .i64 b, .slice s0 m c0, .int .i64 b, .slice s1 m c1, .int .i64 b, .slice s2 m c2, .int .i64 b, .slice s3 m c3, .int .i64 b, .slice s4 m c4]) 0).run Tryz.prog w = .ok (.agg #[.int .i64 b, .slice s0 m c0]) w := by kernel_rfl
set_option maxRecDepth 100000 in
set_option maxHeartbeats 4000000 in
theorem l07Start_any (sa : Option Addr) (n cap m : Nat) (f : Nat → Cel) (w : World) (hn0 : 1 ≤ n) (hn : n ≤ 60) (hr : CRow w w.heap.size sa n f) (hm : m = (n + 1 + 31) / 32) :
    Calls Tryz.prog 59 #[.slice sa n cap] w fun e w' => NewBits w ((n : Int) + 1) m (cloB (skipB f n) (fun j => decide (0 = j))) e w' := by
  have q0 := boxing w 29 0 none 0 0
  have HR : Hid (CRow w w.heap.size sa n f) := hr
  have HMS : Hid (∀ W, Since w W → Calls Tryz.prog 85 #[.slice sa n cap] W fun e w' => MasksAt W n m f e w') := fun W hW => l06Masks_any sa n cap m f W hn0 hn ((hr.kept hW.below).up hW.size) hm
  have HCL : Hid (∀ (W : World) (sv : Option Addr) (cv : Nat) (g0 : Nat → Int), Since w W → Row W W.heap.size sv m g0 → VecIs g0 (fun j => decide (0 = j)) m → Calls Tryz.prog 84 #[.slice sa n cap, .agg #[.int .i64 ((n : Int) + 1), .slice sv m cv]] W fun e w' => NewBits W ((n : Int) + 1) m (cloB (skipB f n) (fun j => decide (0 = j))) e w') := fun W sv cv g0 hW hv hg =>
    l07Close_any sa n cap m f sv cv g0 (fun j => decide (0 = j)) W hn ((hr.kept hW.below).up hW.size) hm hv hg (fun j hj => decide_eq_false (by omega))
  have X0 : Hid (Boxed (w.alloc (.cells #[.int .i64 0, .slice none 0 0] 29)) w.heap.size 29 0 none 0 0) := q0.2.1
  have S0 : Hid (Since w (w.alloc (.cells #[.int .i64 0, .slice none 0 0] 29))) := ⟨q0.1⟩
  clear hr hm q0
  go_enter Tryz.func59, Tryz.ntmps59
  go_wp2_with fail
  generalize w.alloc (.cells #[.int .i64 0, .slice none 0 0] 29) = v0 at *
  refine (HMS.out v0 S0.out).mono ?_
  rintro e w1 ⟨g0, g1, g2, g3, g4, c0, c1, c2, c3, c4, h0, h1, h2, h3, h4, rfl, hb1, hl, o0, o1, o2, o3, o4, v0', v1', v2', v3', v4'⟩
  dsimp only [masksV, five]
  have S1 : Hid (Since w w1) := since_call S0.out hb1
  have X1 : Hid (Boxed w1 w.heap.size 29 0 none 0 0) := X0.out.kept hb1 rfl
  have hmf := mfield ((n : Int) + 1) (some ⟨g0, 0, none⟩) (some ⟨g1, 0, none⟩) (some ⟨g2, 0, none⟩) (some ⟨g3, 0, none⟩) (some ⟨g4, 0, none⟩) m c0 c1 c2 c3 c4 w1
  have R1 : Hid (Row w1 w1.heap.size (some ⟨g0, 0, none⟩) m h0) := o0.row o0.1
  have V1 : Hid (VecIs h0 (fun j => decide (0 = j)) m) := v0'
  clear hb1 hl o0 o1 o2 o3 o4 v0' v1' v2' v3' v4' X0 S0 HMS
  go_wp2_with fail
  refine (HCL.out w1 _ _ h0 S1.out R1.out V1.out).mono ?_
  rintro e w2 ⟨h, ⟨s3, c9, rfl, hb5, ho5⟩, hv⟩
  unfold vecV
  obtain ⟨a0, a1, a2, a3⟩ := (X1.out.kept hb5 rfl).four
  have xlt := (X1.out.kept hb5 rfl).lt
  have xlt5 := X1.out.lt
  have S5 : Hid (Since w w2) := since_call S1.out hb5
  have O5 : Hid (OwnS w2 w1.heap.size s3 m h) := ho5
  have HV : Hid (VecIs h (cloB (skipB f n) (fun j => decide (0 = j))) m) := hv
  clear hb5 ho5 hv hmf
  go_wp2_with fail
  refine bodyPost_ret (v := vecV ((n : Int) + 1) s3 m c9) (by simp [results, Tryz.results59, go_sem, vecV, a0, a1]) rfl ?_
  refine ⟨h, ⟨_, _, rfl, (since_set (since_set S5.out (by show w.heap.size ≤ w.heap.size; omega)) (by show w.heap.size ≤ w.heap.size; omega)).below, ?_⟩, HV.out⟩
  rcases O5.out with h | ⟨g5, h1, h2, h3⟩
  · exact Or.inl h
  · exact Or.inr ⟨g5, h1, by omega, (h3.setOther _ _ (by show w.heap.size ≠ g5; omega)).setOther _ _ (by show w.heap.size ≠ g5; omega)⟩
end Go.Proofs.YtfeolbgenpknfaaGreat
namespace Go.Proofs.YtfeolbgenpknfaaGreat
open Go.RowKit

/-- A step's answer. -/
def stepV (b : Int) (sa : Option Addr) (n cap : Nat) (h : Bool) : Value := .agg #[.int .i64 b, .slice sa n cap, .bool h]
/-- A step's answer in new memory. -/
def NewStep (w : World) (b : Int) (n : Nat) (f : Nat → Int) (h : Bool) (e : Ending) (w' : World) : Prop :=
  ∃ (sa : Option Addr) (cap : Nat), e = .returned (stepV b sa n cap h) ∧ Below w.heap.size w w' ∧ OwnS w' w.heap.size sa n f
/-- A step's answer lies in a block. -/
def SBox (W : World) (p : Nat) (b : Int) (sa : Option Addr) (n cap : Nat) (h : Bool) : Prop := W.heap[p]? = some (.cells #[.int .i64 b, .slice sa n cap, .bool h] 39 (0, 0))
theorem SBox.cells {W : World} {p : Nat} {b : Int} {sa : Option Addr} {n cap : Nat} {t : Bool} (h : SBox W p b sa n cap t) : W.cell? ⟨p, 0, none⟩ = some (.int .i64 b) ∧ W.cell? ⟨p, 1, none⟩ = some (.slice sa n cap) ∧ W.cell? ⟨p, 2, none⟩ = some (.bool t) := by
  unfold SBox at h
  exact ⟨by simp [World.cell?, h], by simp [World.cell?, h], by simp [World.cell?, h]⟩
theorem SBox.lt {W : World} {p : Nat} {b : Int} {sa : Option Addr} {n cap : Nat} {t : Bool} (h : SBox W p b sa n cap t) : p < W.heap.size := lt_of_block h
theorem SBox.kept {W W' : World} {B p : Nat} {b : Int} {sa : Option Addr} {n cap : Nat} {t : Bool} (h : SBox W p b sa n cap t) (hb : Below B W W') (hB : B = W.heap.size) : SBox W' p b sa n cap t := by
  unfold SBox
  rw [hb.block p (by rw [hB]; exact h.lt)]
  exact h
theorem SBox.only {W W' : World} {lo hi p : Nat} {b : Int} {sa : Option Addr} {n cap : Nat} {t : Bool} (h : SBox W p b sa n cap t) (ho : OnlyIn W W' lo hi) (hp : p < lo ∨ hi ≤ p) : SBox W' p b sa n cap t := by
  obtain ⟨row, hg, hr⟩ := ho
  unfold SBox
  rw [hg.block p h.lt (fun e => by have := hr p e.symm; omega)]
  exact h
theorem SBox.since {w W : World} {p : Nat} {b : Int} {sa : Option Addr} {n cap : Nat} {t : Bool} (h : SBox w p b sa n cap t) (hs : Since w W) : SBox W p b sa n cap t := h.kept hs.below rfl
theorem SBox.six {W : World} {p : Nat} {b : Int} {sa : Option Addr} {n cap : Nat} {t : Bool} (h : SBox W p b sa n cap t) : W.cell? ⟨p, 0, none⟩ = some (.int .i64 b) ∧ W.cell? ⟨p, 1, none⟩ = some (.slice sa n cap) ∧ W.cell? ⟨p, 2, none⟩ = some (.bool t) ∧ W.frozen? ⟨p, 0, none⟩ = false ∧ W.frozen? ⟨p, 1, none⟩ = false ∧ W.frozen? ⟨p, 2, none⟩ = false :=
  ⟨h.cells.1, h.cells.2.1, h.cells.2.2, frozen_of_row _ _ _ _ _ h, frozen_of_row _ _ _ _ _ h, frozen_of_row _ _ _ _ _ h⟩
theorem SBox.setOther {W : World} {p : Nat} {b : Int} {sa : Option Addr} {n cap : Nat} {t : Bool} (h : SBox W p b sa n cap t) (a : Addr) (v : Value) (hne : a.block ≠ p) : SBox (W.setCell a v) p b sa n cap t := by
  unfold SBox
  rw [Below.heap_setCell _ _ _ _ (fun e => hne e.symm)]
  exact h
theorem SBox.drew {W : World} {p : Nat} {b : Int} {sa : Option Addr} {n cap : Nat} {t : Bool} (h : SBox W p b sa n cap t) : SBox W.drew p b sa n cap t := h
/-- A step's answer is put into a box. -/
theorem sboxing (W : World) (b : Int) (sa : Option Addr) (n cap : Nat) (t : Bool) : Below W.heap.size W (W.alloc (.cells #[.int .i64 b, .slice sa n cap, .bool t] 39)) ∧ SBox (W.alloc (.cells #[.int .i64 b, .slice sa n cap, .bool t] 39)) W.heap.size b sa n cap t ∧ (W.alloc (.cells #[.int .i64 b, .slice sa n cap, .bool t] 39)).heap.size = W.heap.size + 1 :=
  ⟨(Below.refl _ _).alloc (Nat.le_refl _) _, heap_alloc_new W _, by simp⟩
/-- What a statement 'x := f(..)' over steps' answers leaves: x's box, its words. -/
def CutS (w : World) (ro : Int) (rn : Nat) (rf : Nat → Int) (rh : Bool) (pv : Value) (wc : World) : Prop :=
  ∃ (p : Nat) (sx : Option Addr) (cx : Nat), pv = .pointer (some ⟨p, 0, none⟩) ∧ Since w wc ∧ w.heap.size ≤ p ∧ p < wc.heap.size ∧ SBox wc p ro sx rn cx rh ∧ Slice wc w.heap.size wc.heap.size sx rn rf
theorem cutS_late {w W : World} {ro : Int} {rn lo : Nat} {rf : Nat → Int} {rh : Bool} {sx : Option Addr} {cx : Nat} (hS : Since w W) (hlo : w.heap.size ≤ lo) (ho : OwnS W lo sx rn rf) :
    CutS w ro rn rf rh (.pointer (some ⟨W.heap.size, 0, none⟩)) (W.alloc (.cells #[.int .i64 ro, .slice sx rn cx, .bool rh] 39)) := by
  have hb := sboxing W ro sx rn cx rh
  refine ⟨_, sx, cx, rfl, since_alloc hS, hS.size, by rw [hb.2.2]; omega, hb.2.1, ?_⟩
  have hk := (ho.low hlo).kept hb.1 rfl
  exact hk.slice
theorem cutS_early {w W : World} {ro : Int} {rn lo p : Nat} {rf : Nat → Int} {rh : Bool} {sx : Option Addr} {cx : Nat} (hS : Since w W) (hx : SBox W p 0 none 0 0 false) (hp : w.heap.size ≤ p) (hlt : p < lo) (ho : OwnS W lo sx rn rf) :
    CutS w ro rn rf rh (.pointer (some ⟨p, 0, none⟩)) (((W.setCell ⟨p, 0, none⟩ (.int .i64 ro)).setCell ⟨p, 1, none⟩ (.slice sx rn cx)).setCell ⟨p, 2, none⟩ (.bool rh)) := by
  refine ⟨p, sx, cx, rfl, since_set (since_set (since_set hS hp) hp) hp, hp, by simpa [World.setCell] using hx.lt, ?_, ?_⟩
  · unfold SBox at hx ⊢
    have h1 := heap_setCell_same W p 0 _ _ (.int .i64 ro) hx
    have h2 := heap_setCell_same _ p 1 _ _ (.slice sx rn cx) h1
    have h3 := heap_setCell_same _ p 2 _ _ (.bool rh) h2
    rw [h3]
    rfl
  · rcases ho with h | ⟨g, h1, h2, h3⟩
    · exact Or.inl h
    · have h4 := ((h3.setOther ⟨p, 0, none⟩ (.int .i64 ro) (by show p ≠ g; omega)).setOther ⟨p, 1, none⟩ (.slice sx rn cx) (by show p ≠ g; omega)).setOther ⟨p, 2, none⟩ (.bool rh) (by show p ≠ g; omega)
      exact Or.inr ⟨g, h1, by omega, h4.1, h4⟩
end Go.Proofs.YtfeolbgenpknfaaGreat
namespace Go.Proofs.YtfeolbgenpknfaaGreat
open Go.RowKit

theorem grown_setNew {w W : World} {row : Option Nat} {p : Addr} {v : Value} (h : w.grownBy W row) (hp : w.heap.size ≤ p.block) : w.grownBy (W.setCell p v) row :=
  ⟨h.os, h.tape, h.output, by simpa [World.setCell] using h.size, fun k hk hr => by rw [Below.heap_setCell _ _ _ _ (fun e => by omega)]; exact h.block k hk hr⟩
theorem pow_over (b : Int) (h0 : 0 < b % 32) : ∃ P : Int, (2 : Int) ^ (b % 32).toNat = P ∧ 0 < P ∧ P ≤ 2147483648 := by
  refine ⟨_, rfl, Int.pow_pos (by decide), ?_⟩
  have h : (b % 32).toNat ≤ 31 := by omega
  have e : (2 : Int) ^ (b % 32).toNat = ((2 ^ (b % 32).toNat : Nat) : Int) := by simp
  have h2 : 2 ^ (b % 32).toNat ≤ 2 ^ 31 := Nat.pow_le_pow_right (by decide) h
  rw [e]
  omega

set_option maxRecDepth 100000 in
set_option maxHeartbeats 4000000 in
theorem cut_any (b : Int) (g n cap : Nat) (f : Nat → Int) (w : World) (hb1 : 1 ≤ b) (hb2 : b ≤ 320) (hn0 : 0 < n) (hn : n ≤ 1048576) (ho : Own w g n f) (hf : ∀ i, i < n → 0 ≤ f i) :
    Calls Tryz.prog 72 #[.agg #[.int .i64 b, .slice (some ⟨g, 0, none⟩) n cap]] w fun e w' => e = .returned (vecV b (some ⟨g, 0, none⟩) n cap) ∧ w.grownBy w' (some g) ∧ Own w' g n (cutF b n f) := by
  obtain ⟨m, rfl⟩ : ∃ m, n = m + 1 := ⟨n - 1, by omega⟩
  have hfm := hf m (by omega)
  have hglt := ho.1
  have HO : Hid (Own w g (m + 1) f) := ho
  clear hf ho
  go_enter Tryz.func72, Tryz.ntmps72
  have q1 := boxing w 29 b (some ⟨g, 0, none⟩) (m + 1) cap
  have q2 := boxing (w.alloc (.cells #[.int .i64 b, .slice (some ⟨g, 0, none⟩) (m + 1) cap] 29)) 29 0 none 0 0
  have hgr : w.grownBy ((w.alloc (.cells #[.int .i64 b, .slice (some ⟨g, 0, none⟩) (m + 1) cap] 29)).alloc (.cells #[.int .i64 0, .slice none 0 0] 29)) (some g) := (World.grownBy_alloc w _ _).trans (World.grownBy_alloc _ _ _)
  go_upto_region 1 with fail
  generalize w.alloc (.cells #[.int .i64 b, .slice (some ⟨g, 0, none⟩) (m + 1) cap] 29) = v1 at *
  generalize v1.alloc (.cells #[.int .i64 0, .slice none 0 0] 29) = v2 at *
  have X1 : Hid (Boxed v2 w.heap.size 29 b (some ⟨g, 0, none⟩) (m + 1) cap) := q1.2.1.kept q2.1 rfl
  have X2 : Hid (Boxed v2 (w.heap.size + 1) 29 0 none 0 0) := by rw [← q1.2.2]; exact q2.2.1
  have HG : Hid (w.grownBy v2 (some g)) := hgr
  have ho2 : Own v2 g (m + 1) f := (HO.out.kept q1.1 hglt).kept q2.1 (by rw [q1.2.2]; omega)
  have H2 : Hid (Own v2 g (m + 1) f) := ho2
  obtain ⟨ca0, ca1⟩ := X1.out.cells
  obtain ⟨cb0, cb1, cb2, cb3⟩ := X2.out.four
  have cy := ho2.2.1 m (by omega)
  have cf := ho2.2.2 m (by omega)
  have lg := ho2.1
  have l1 := X1.out.lt
  have l2 := X2.out.lt
  clear q1 q2 hgr ho2 HO
  by_cases h0 : b % 32 = 0
  · go_wp2
    refine bodyPost_ret (v := vecV b (some ⟨g, 0, none⟩) (m + 1) cap) (by simp [results, Tryz.results72, go_sem, vecV, cb0, cb1]) rfl ?_
    exact ⟨rfl, grown_setNew (grown_setNew HG.out (by show w.heap.size ≤ w.heap.size + 1; omega)) (by show w.heap.size ≤ w.heap.size + 1; omega), ((H2.out.congr (fun i hi => by unfold cutF; rw [if_neg (by omega)])).setOther _ _ (by show w.heap.size + 1 ≠ g; omega)).setOther _ _ (by show w.heap.size + 1 ≠ g; omega)⟩
  · have h1 : 0 < b % 32 := by omega
    obtain ⟨P, hP, hP0, hP1⟩ := pow_over b h1
    have hw : wrap64 P = P := by unfold wrap64; omega
    have hlt : (m : Int) < (m : Int) + 1 := by omega
    go_wp2
    go_region
    have Y1 : Hid (Boxed (v2.setCell ⟨g, m, none⟩ (.int .i64 (f m % P))).drew w.heap.size 29 b (some ⟨g, 0, none⟩) (m + 1) cap) := X1.out.setOther _ _ (by show g ≠ w.heap.size; omega)
    have Y2 : Hid (Boxed (v2.setCell ⟨g, m, none⟩ (.int .i64 (f m % P))).drew (w.heap.size + 1) 29 0 none 0 0) := X2.out.setOther _ _ (by show g ≠ w.heap.size + 1; omega)
    have G3 : Hid (w.grownBy (v2.setCell ⟨g, m, none⟩ (.int .i64 (f m % P))).drew (some g)) := only_drawn (only_set HG.out)
    have O3 : Hid (Own (v2.setCell ⟨g, m, none⟩ (.int .i64 (f m % P))).drew g (m + 1) (cutF b (m + 1) f)) := (H2.out.set (by omega) (f m % P)).congr (fun i hi => by
      unfold cutF
      by_cases e : i = m
      · subst e
        simp [h1, hP]
      · simp [e])
    clear ca0 ca1 cb0 cb1 cb2 cb3 cy cf lg l1 l2 X1 X2 HG H2
    generalize (v2.setCell ⟨g, m, none⟩ (.int .i64 (f m % P))).drew = v3 at *
    obtain ⟨ca0, ca1⟩ := Y1.out.cells
    obtain ⟨cb0, cb1, cb2, cb3⟩ := Y2.out.four
    go_wp2
    refine bodyPost_ret (v := vecV b (some ⟨g, 0, none⟩) (m + 1) cap) (by simp [results, Tryz.results72, go_sem, vecV, cb0, cb1]) rfl ?_
    exact ⟨rfl, grown_setNew (grown_setNew G3.out (by show w.heap.size ≤ w.heap.size + 1; omega)) (by show w.heap.size ≤ w.heap.size + 1; omega), (O3.out.setOther _ _ (by show w.heap.size + 1 ≠ g; omega)).setOther _ _ (by show w.heap.size + 1 ≠ g; omega)⟩
end Go.Proofs.YtfeolbgenpknfaaGreat
namespace Go.Proofs.YtfeolbgenpknfaaGreat
open Go.RowKit


set_option maxRecDepth 100000 in
set_option maxHeartbeats 4000000 in
theorem add_any (b c : Int) (sa sb : Option Addr) (n ka kb : Nat) (f g : Nat → Int) (cr : Int) (w : World) (hbb : 1 ≤ b) (hbc : b ≤ 320) (hr0 : 0 ≤ cr) (hr1 : cr ≤ 1) (hf : ∀ i, i < n → 0 ≤ f i ∧ f i ≤ 4294967295) (hg : ∀ i, i < n → 0 ≤ g i ∧ g i ≤ 4294967295) (hn0 : 0 < n) (hn : n ≤ 1048576) (ha : Row w w.heap.size sa n f) (hb : Row w w.heap.size sb n g) :
    Calls Tryz.prog 74 #[.agg #[.int .i64 b, .slice sa n ka], .agg #[.int .i64 c, .slice sb n kb], .int .i64 cr] w fun e w' => NewVec w b n (cutF b n (sumF cr f g)) e w' := by
  obtain ⟨b1, o1, rfl, hb1, hc1⟩ : ∃ bb off : Nat, sa = some ⟨bb, off, none⟩ ∧ bb < w.heap.size ∧ ∀ i, i < n → w.cell? ⟨bb, off + i, none⟩ = some (.int .i64 (f i)) := by
    rcases ha with h | h
    · omega
    · exact h
  obtain ⟨b2, o2, rfl, hb2, hc2⟩ : ∃ bb off : Nat, sb = some ⟨bb, off, none⟩ ∧ bb < w.heap.size ∧ ∀ i, i < n → w.cell? ⟨bb, off + i, none⟩ = some (.int .i64 (g i)) := by
    rcases hb with h | h
    · omega
    · exact h
  have HA : Hid (Row w w.heap.size (some ⟨b1, o1, none⟩) n f) := ha
  have HC1 : Hid (∀ i, i < n → w.cell? ⟨b1, o1 + i, none⟩ = some (.int .i64 (f i))) := hc1
  have HC2 : Hid (∀ i, i < n → w.cell? ⟨b2, o2 + i, none⟩ = some (.int .i64 (g i))) := hc2
  have HF : Hid (∀ i, i < n → 0 ≤ f i ∧ f i ≤ 4294967295) := hf
  have HGG : Hid (∀ i, i < n → 0 ≤ g i ∧ g i ≤ 4294967295) := hg
  have HCR : Hid (∀ k, k ≤ n → 0 ≤ carryF cr f g k ∧ carryF cr f g k ≤ 1) := carry_range hr0 hr1 hf hg
  clear ha hb hc1 hc2 hf hg
  go_enter Tryz.func74, Tryz.ntmps74
  go_wp2_with fail
  have q1 := boxing w 29 b (some ⟨b1, o1, none⟩) n ka
  generalize w.alloc (.cells #[.int .i64 b, .slice (some ⟨b1, o1, none⟩) n ka] 29) = v1 at *
  have q2 := boxing v1 29 c (some ⟨b2, o2, none⟩) n kb
  generalize v1.alloc (.cells #[.int .i64 c, .slice (some ⟨b2, o2, none⟩) n kb] 29) = v2 at *
  have q3 := boxing v2 29 0 none 0 0
  generalize v2.alloc (.cells #[.int .i64 0, .slice none 0 0] 29) = v3 at *
  have X1 : Hid (Boxed v3 w.heap.size 29 b (some ⟨b1, o1, none⟩) n ka) := (q1.2.1.kept q2.1 rfl).kept q3.1 rfl
  have X2 : Hid (Boxed v3 (w.heap.size + 1) 29 c (some ⟨b2, o2, none⟩) n kb) := by rw [← q1.2.2]; exact q2.2.1.kept q3.1 rfl
  have X3 : Hid (Boxed v3 (w.heap.size + 2) 29 0 none 0 0) := by rw [show w.heap.size + 2 = v2.heap.size by rw [q2.2.2, q1.2.2]]; exact q3.2.1
  have S3 : Hid (Since w v3) := since_call (since_call (since_call (since_refl _) q1.1) q2.1) q3.1
  have z3 : v3.heap.size = w.heap.size + 3 := by rw [q3.2.2, q2.2.2, q1.2.2]
  clear q1 q2 q3
  refine (copy_any b _ n ka f v3 hn0 hn (row_since HA.out S3.out)).mono ?_
  rintro e w4 ⟨s4, c4, rfl, hb4, ho4⟩
  obtain ⟨g4, rfl, hg1, ho⟩ : ∃ g, s4 = some ⟨g, 0, none⟩ ∧ v3.heap.size ≤ g ∧ Own w4 g n f := by
    rcases ho4 with h | h
    · omega
    · exact h
  have hg2 := ho.1
  have O4 : Hid (Own w4 g4 n f) := ho
  have Y1 : Hid (Boxed w4 w.heap.size 29 b (some ⟨b1, o1, none⟩) n ka) := X1.out.kept hb4 rfl
  have Y2 : Hid (Boxed w4 (w.heap.size + 1) 29 c (some ⟨b2, o2, none⟩) n kb) := X2.out.kept hb4 rfl
  have Y3 : Hid (Boxed w4 (w.heap.size + 2) 29 0 none 0 0) := X3.out.kept hb4 rfl
  have S4 : Hid (Since w w4) := since_call S3.out hb4
  unfold vecV
  clear hb4 ho4 ho X1 X2 X3 S3
  go_wp2
  have q5 := boxing w4 29 b (some ⟨g4, 0, none⟩) n c4
  generalize w4.alloc (.cells #[.int .i64 b, .slice (some ⟨g4, 0, none⟩) n c4] 29) = v5 at *
  obtain ⟨p5, hp5⟩ : ∃ p, p = w4.heap.size := ⟨_, rfl⟩
  rw [← hp5]
  have Y5 : Hid (Boxed v5 p5 29 b (some ⟨g4, 0, none⟩) n c4) := by rw [hp5]; exact q5.2.1
  have V1 : Hid (Boxed v5 w.heap.size 29 b (some ⟨b1, o1, none⟩) n ka) := Y1.out.kept q5.1 rfl
  have V2 : Hid (Boxed v5 (w.heap.size + 1) 29 c (some ⟨b2, o2, none⟩) n kb) := Y2.out.kept q5.1 rfl
  have V3 : Hid (Boxed v5 (w.heap.size + 2) 29 0 none 0 0) := Y3.out.kept q5.1 rfl
  have S5 : Hid (Since w v5) := since_call S4.out q5.1
  have O5 : Hid (Own v5 g4 n f) := O4.out.kept q5.1 hg2
  have hgp : g4 < p5 := by omega
  clear q5 Y1 Y2 Y3 S4 O4 hg2 hp5
  go_loopw [2, 8, 9] (fun cv i _ wr => ∃ k : Nat, k ≤ n ∧ i = .int .i64 (k : Int) ∧ cv = .int .i64 (carryF cr f g k) ∧ Since w wr ∧ Boxed wr w.heap.size 29 b (some ⟨b1, o1, none⟩) n ka ∧ Boxed wr (w.heap.size + 1) 29 c (some ⟨b2, o2, none⟩) n kb ∧ Boxed wr (w.heap.size + 2) 29 0 none 0 0 ∧ Boxed wr p5 29 b (some ⟨g4, 0, none⟩) n c4 ∧ Own wr g4 n (fun i => if i < k then sumF cr f g i else f i)) (fun _ i _ _ => n - (intOf i).toNat)
  case atStart => exact ⟨0, Nat.zero_le _, rfl, rfl, S5.out, V1.out, V2.out, V3.out, Y5.out, O5.out.congr (fun i _ => by simp)⟩
  case round =>
    obtain ⟨k, hk, rfl, rfl, hS, hx1, hx2, hx3, hx5, hown⟩ := hrel
    have HS : Hid (Since w wr) := hS
    have H1 : Hid (Boxed wr w.heap.size 29 b (some ⟨b1, o1, none⟩) n ka) := hx1
    have H2 : Hid (Boxed wr (w.heap.size + 1) 29 c (some ⟨b2, o2, none⟩) n kb) := hx2
    have H3 : Hid (Boxed wr (w.heap.size + 2) 29 0 none 0 0) := hx3
    have H5 : Hid (Boxed wr p5 29 b (some ⟨g4, 0, none⟩) n c4) := hx5
    have HW : Hid (Own wr g4 n (fun i => if i < k then sumF cr f g i else f i)) := hown
    obtain ⟨ca0, ca1⟩ := hx1.cells
    obtain ⟨cb0, cb1⟩ := hx2.cells
    obtain ⟨cc0, cc1, cc2, cc3⟩ := hx3.four
    obtain ⟨cd0, cd1⟩ := hx5.cells
    by_cases hkl : k < n
    · have cz : wr.cell? ⟨b1, o1 + k, none⟩ = some (.int .i64 (f k)) := by rw [hS.below.cell (p := ⟨b1, o1 + k, none⟩) hb1]; exact HC1.out k hkl
      have cy : wr.cell? ⟨b2, o2 + k, none⟩ = some (.int .i64 (g k)) := by rw [hS.below.cell (p := ⟨b2, o2 + k, none⟩) hb2]; exact HC2.out k hkl
      have cw := hown.2.1 k hkl
      have cf := hown.2.2 k hkl
      have hsz := hown.1
      have r1 := HF.out k hkl
      have r2 := HGG.out k hkl
      have r3 := HCR.out k (by omega)
      have ec : carryF cr f g (k + 1) = (f k + g k + carryF cr f g k) / 4294967296 := rfl
      have es : sumF cr f g k = (f k + g k + carryF cr f g k) % 4294967296 := rfl
      have EC : Hid (carryF cr f g (k + 1) = (f k + g k + carryF cr f g k) / 4294967296) := ec
      have ES : Hid (sumF cr f g k = (f k + g k + carryF cr f g k) % 4294967296) := es
      clear hS hx1 hx2 hx3 hx5 hown ec es
      have hki : (k : Int) < (n : Int) := by omega
      have hk0 : (0 : Int) ≤ (k : Int) := by omega
      obtain ⟨q, hq⟩ : ∃ q, carryF cr f g k = q := ⟨_, rfl⟩
      rw [hq] at r3 EC ES ⊢
      have HQ : Hid (carryF cr f g k = q) := hq
      clear hq
      go_wp2
      go_region
      all_goals
        go_wp2
        go_roundw
        case rel => exact ⟨k + 1, by omega, by go_num, by rw [EC.out], since_drew (since_set HS.out (by show w.heap.size ≤ g4; omega)), (H1.out.setOther _ _ (by show g4 ≠ w.heap.size; omega)).drew, (H2.out.setOther _ _ (by show g4 ≠ w.heap.size + 1; omega)).drew, (H3.out.setOther _ _ (by show g4 ≠ w.heap.size + 2; omega)).drew, (H5.out.setOther _ _ (by show g4 ≠ p5; omega)).drew, ((HW.out.set hkl ((f k + g k + q) % 4294967296)).congr (fun i hi => by
          by_cases e : i = k
          · subst e
            simp [ES.out]
          · simp only [if_neg e]
            by_cases e2 : i < k
            · rw [if_pos e2, if_pos (by omega)]
            · rw [if_neg e2, if_neg (by omega)])).drew⟩
        case measure => simp [intOf]; omega
    · have hki : ¬ (k : Int) < (n : Int) := by omega
      have lb := hx3.lt
      clear hS hx1 hx2 hx3 hx5 hown
      go_wp2_with fail
      refine (cut_any b g4 n c4 (sumF cr f g) wr hbb hbc hn0 hn (HW.out.congr (fun i hi => if_pos (by omega))) (fun i _ => by unfold sumF; omega)).mono ?_
      rintro e w6 ⟨rfl, hgr, ho6⟩
      have Z3 : Hid (Boxed w6 (w.heap.size + 2) 29 0 none 0 0) := by
        show Boxed w6 (w.heap.size + 2) 29 0 none 0 0
        unfold Boxed
        rw [hgr.block _ H3.out.lt (fun e => by injection e with e; omega)]
        exact H3.out
      have hin : OnlyIn wr w6 g4 (g4 + 1) := ⟨some g4, hgr, fun g' e => by injection e with e; omega⟩
      have S6 : Hid (Since w w6) := ⟨HS.out.below.trans (hin.below (by omega) HS.out.size)⟩
      have O6 : Hid (Own w6 g4 n (cutF b n (sumF cr f g))) := ho6
      unfold vecV
      clear ca0 ca1 cb0 cb1 cc0 cc1 cc2 cc3 cd0 cd1 hgr ho6 hin lb
      obtain ⟨cc0, cc1, cc2, cc3⟩ := Z3.out.four
      go_wp2
      refine bodyPost_ret (v := vecV b (some ⟨g4, 0, none⟩) n c4) (by simp [results, Tryz.results74, go_sem, vecV, cc0, cc1]) rfl ?_
      exact ⟨_, _, rfl, (since_set (since_set S6.out (by show w.heap.size ≤ w.heap.size + 2; omega)) (by show w.heap.size ≤ w.heap.size + 2; omega)).below, Or.inr ⟨g4, rfl, by omega, (O6.out.setOther _ _ (by show w.heap.size + 2 ≠ g4; omega)).setOther _ _ (by show w.heap.size + 2 ≠ g4; omega)⟩⟩
end Go.Proofs.YtfeolbgenpknfaaGreat
