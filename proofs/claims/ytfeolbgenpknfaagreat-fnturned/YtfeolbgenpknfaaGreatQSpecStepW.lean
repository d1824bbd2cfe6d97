/- What is proved here: the specification's step along a row by a byte, in new memory; nothing that was there turns. -/
import Derived.Test.YtfeolbgenpknfaaGreatQSpecStartWToVecAddW
import Derived.Test.YtfeolbgenpknfaaGreatQStepVMToMaskD
import Derived.Test.YtfeolbgenpknfaaGreatQVecAndWToGetS
import Derived.Deep.RegionHeld3
import Derived.Deep.RegionWith
import Derived.Deep.DeepCutAuto
namespace Go.Proofs.YtfeolbgenpknfaaGreat
open Go.RowKit

/-- A vector of these bits lies in memory. -/
def BitsAt (W : World) (s : Option Addr) (m : Nat) (P : Nat → Bool) : Prop := ∃ g : Nat → Int, Row W W.heap.size s m g ∧ VecIs g P m
theorem BitsAt.since {w W : World} {s : Option Addr} {m : Nat} {P : Nat → Bool} (h : BitsAt w s m P) (hS : Since w W) : BitsAt W s m P := by
  obtain ⟨g, h1, h2⟩ := h
  exact ⟨g, row_since h1 hS, h2⟩
theorem VecIs.range {f : Nat → Int} {P : Nat → Bool} {m : Nat} (h : VecIs f P m) : ∀ i, i < m → 0 ≤ f i ∧ f i ≤ 4294967295 := fun i hi => by
  obtain ⟨a, e1, h1, _⟩ := h i hi
  rw [e1]
  omega
theorem addB (n m : Nat) (s : Option Addr) (c : Nat) (P : Nat → Bool) (W : World) (hn : n ≤ 60) (hm : m = (n + 1 + 31) / 32) (h : BitsAt W s m P) :
    Calls Tryz.prog 74 #[.agg #[.int .i64 ((n : Int) + 1), .slice s m c], .agg #[.int .i64 ((n : Int) + 1), .slice s m c], .int .i64 0] W fun e W' => NewBits W ((n : Int) + 1) m (fun j => decide (1 ≤ j ∧ j ≤ n) && P (j - 1)) e W' := by
  obtain ⟨g, h1, h2⟩ := h
  exact (add_any ((n : Int) + 1) ((n : Int) + 1) s s m c c g g 0 W (by omega) (by omega) (by omega) (by omega) h2.range h2.range (by omega) (by omega) h1 h1).mono (fun _ _ h => ⟨_, h, h2.up hm⟩)
theorem andB (n m : Nat) (s s' : Option Addr) (c c' : Nat) (P Q : Nat → Bool) (W : World) (hm : 1 ≤ m ∧ m ≤ 1048576) (h : BitsAt W s m P) (h' : BitsAt W s' m Q) :
    Calls Tryz.prog 86 #[.agg #[.int .i64 ((n : Int) + 1), .slice s m c], .agg #[.int .i64 ((n : Int) + 1), .slice s' m c']] W fun e W' => NewBits W ((n : Int) + 1) m (fun j => P j && Q j) e W' := by
  obtain ⟨g, h1, h2⟩ := h
  obtain ⟨g', h3, h4⟩ := h'
  exact (l02And_any ((n : Int) + 1) ((n : Int) + 1) s s' m c c' g g' W hm.1 hm.2 h1 h3).mono (fun _ _ h => ⟨_, h, h2.and h4⟩)
theorem orB (n m : Nat) (s s' : Option Addr) (c c' : Nat) (P Q : Nat → Bool) (W : World) (hm : 1 ≤ m ∧ m ≤ 1048576) (h : BitsAt W s m P) (h' : BitsAt W s' m Q) :
    Calls Tryz.prog 73 #[.agg #[.int .i64 ((n : Int) + 1), .slice s m c], .agg #[.int .i64 ((n : Int) + 1), .slice s' m c']] W fun e W' => NewBits W ((n : Int) + 1) m (fun j => P j || Q j) e W' := by
  obtain ⟨g, h1, h2⟩ := h
  obtain ⟨g', h3, h4⟩ := h'
  exact (l02Or_any ((n : Int) + 1) ((n : Int) + 1) s s' m c c' g g' W hm.1 hm.2 h1 h3).mono (fun _ _ h => ⟨_, h, h2.or h4⟩)
theorem cloBits (sa : Option Addr) (n cap m : Nat) (f : Nat → Cel) (s : Option Addr) (c : Nat) (P : Nat → Bool) (W : World) (hn : n ≤ 60) (hr : CRow W W.heap.size sa n f) (hm : m = (n + 1 + 31) / 32) (h : BitsAt W s m P) (hP : ∀ j, n < j → P j = false) :
    Calls Tryz.prog 84 #[.slice sa n cap, .agg #[.int .i64 ((n : Int) + 1), .slice s m c]] W fun e W' => NewBits W ((n : Int) + 1) m (cloB (skipB f n) P) e W' := by
  obtain ⟨g, h1, h2⟩ := h
  exact l07Close_any sa n cap m f s c g P W hn hr hm h1 h2 hP
theorem byteB (sa : Option Addr) (n cap c m : Nat) (lp : Bool) (f : Nat → Cel) (w : World) (hn : n ≤ 60) (hr : CRow w w.heap.size sa n f) (hsz : ∀ i, i < n → (f i).c.size ≤ 256) (hc9 : c < 256) (hm : m = (n + 1 + 31) / 32) :
    Calls Tryz.prog 87 #[.slice sa n cap, .int .i64 (c : Int), .bool lp] w fun e w' => NewBits w ((n : Int) + 1) m (behind (asksB f c lp) n) e w' := by
  obtain ⟨x, hx⟩ := behind_ex (asksB f c lp) n (by omega)
  exact (l06Byte_any sa n cap c m x lp f w hn hr hsz hc9 hm hx).mono (fun _ _ h => ⟨_, h, vecIs_words hx m⟩)
theorem getBit (n m k : Nat) (s : Option Addr) (c : Nat) (P : Nat → Bool) (W : World) (hm : m = (n + 1 + 31) / 32) (hn : n ≤ 60) (hk : k ≤ n) (h : BitsAt W s m P) :
    Calls Tryz.prog 75 #[.agg #[.int .i64 ((n : Int) + 1), .slice s m c], .int .i64 (k : Int)] W fun e W' => e = .returned (.bool (P k)) ∧ Below W.heap.size W W' := by
  obtain ⟨g, h1, h2⟩ := h
  have h9 := l02Get_any ((n : Int) + 1) s m c (k / 32) (k % 32) g (k : Int) W (by omega) h1 (by omega) (by omega) (by omega) (by omega)
  rw [h2.get (by omega) (by omega), show 32 * (k / 32) + k % 32 = k by omega] at h9
  exact h9
/-- Where one stands behind a byte, ahead of what begins. -/
def stepB (f : Nat → Cel) (n : Nat) (A : Nat → Bool) (c : Nat) : Nat → Bool := cloB (skipB f n) (passB f n A c)
theorem step_le (f : Nat → Cel) (n : Nat) (A : Nat → Bool) (c : Nat) : ∀ j, n < j → stepB f n A c j = false := fun j hj => clo_le (skip_le f n) (fun j hj => by unfold passB; rw [behind_le _ n j hj]; rfl) j hj
theorem raw_pass (f : Nat → Cel) (n : Nat) (A : Nat → Bool) (c : Nat) : ∀ j, (((decide (1 ≤ j ∧ j ≤ n) && A (j - 1)) && behind (asksB f c false) n j) || (A j && behind (asksB f c true) n j)) = passB f n A c j := fun j => by
  unfold passB behind asksB
  dsimp only
  cases decide (1 ≤ j ∧ j ≤ n) <;> cases A (j - 1) <;> cases A j <;> cases hasByte (f (j - 1)).c c <;> cases (f (j - 1)).o <;> rfl
/-- What a statement 'w := ..' leaves: w's box, its bits. -/
def CutB (w : World) (b : Int) (m : Nat) (P : Nat → Bool) (pv : Value) (wc : World) : Prop := ∃ h : Nat → Int, CutP w 29 b m h pv wc ∧ VecIs h P m
/-- A step's answer of these bits, in new memory. -/
def StepBits (w : World) (b : Int) (m : Nat) (P : Nat → Bool) (t : Bool) (e : Ending) (w' : World) : Prop := ∃ h : Nat → Int, NewStep w b m h t e w' ∧ VecIs h P m

set_option maxRecDepth 100000 in
set_option maxHeartbeats 8000000 in
theorem l07Step_any (sa : Option Addr) (n cap c m : Nat) (f : Nat → Cel) (sv : Option Addr) (cv : Nat) (A : Nat → Bool) (w : World) (hn0 : 1 ≤ n) (hn : n ≤ 60) (hr : CRow w w.heap.size sa n f) (hsz : ∀ i, i < n → (f i).c.size ≤ 256) (hc9 : c < 256) (hm : m = (n + 1 + 31) / 32) (hv : BitsAt w sv m A) :
    Calls Tryz.prog 60 #[.slice sa n cap, .agg #[.int .i64 ((n : Int) + 1), .slice sv m cv], .int .i64 (c : Int)] w fun e w' => StepBits w ((n : Int) + 1) m (fun j => stepB f n A c j || cloB (skipB f n) (fun j => decide (0 = j)) j) (stepB f n A c n) e w' := by
  have q1 := boxing w 29 ((n : Int) + 1) sv m cv
  have q2 := sboxing (w.alloc (.cells #[.int .i64 ((n : Int) + 1), .slice sv m cv] 29)) 0 none 0 0 false
  obtain ⟨V, hV⟩ : ∃ V, (w.alloc (.cells #[.int .i64 ((n : Int) + 1), .slice sv m cv] 29)).alloc (.cells #[.int .i64 0, .slice none 0 0, .bool false] 39) = V := ⟨_, rfl⟩
  rw [hV] at q2
  have S0 : Hid (Since w V) := since_call (since_call (since_refl _) q1.1) q2.1
  have YV : Hid (Boxed V w.heap.size 29 ((n : Int) + 1) sv m cv) := q1.2.1.kept q2.1 rfl
  have ZV : Hid (SBox V (w.heap.size + 1) 0 none 0 0 false) := by rw [← q1.2.2]; exact q2.2.1
  have zv : Hid (V.heap.size = w.heap.size + 1 + 1) := by rw [← q1.2.2]; exact q2.2.2
  have hr2 : CRow V V.heap.size sa n f := (hr.kept S0.out.below).up S0.out.size
  have hv2 := hv.since S0.out
  have hm1 : 1 ≤ m ∧ m ≤ 1048576 := by omega
  have BV : Hid (∀ X, Since V X → BitsAt X sv m A) := fun X hX => hv2.since hX
  have HADD : Hid (∀ W, Since V W → Calls Tryz.prog 74 #[.agg #[.int .i64 ((n : Int) + 1), .slice sv m cv], .agg #[.int .i64 ((n : Int) + 1), .slice sv m cv], .int .i64 0] W fun e W' => NewBits W ((n : Int) + 1) m (fun j => decide (1 ≤ j ∧ j ≤ n) && A (j - 1)) e W') := fun W hW => addB n m sv cv A W hn hm (hv2.since hW)
  have HBY : Hid (∀ (lp : Bool) (W : World), Since V W → Calls Tryz.prog 87 #[.slice sa n cap, .int .i64 (c : Int), .bool lp] W fun e W' => NewBits W ((n : Int) + 1) m (behind (asksB f c lp) n) e W') := fun lp W hW => byteB sa n cap c m lp f W hn ((hr2.kept hW.below).up hW.size) hsz hc9 hm
  have HAND : Hid (∀ (W : World) (s s' : Option Addr) (c c' : Nat) (P Q : Nat → Bool), BitsAt W s m P → BitsAt W s' m Q → Calls Tryz.prog 86 #[.agg #[.int .i64 ((n : Int) + 1), .slice s m c], .agg #[.int .i64 ((n : Int) + 1), .slice s' m c']] W fun e W' => NewBits W ((n : Int) + 1) m (fun j => P j && Q j) e W') := fun W s s' c c' P Q h h' => andB n m s s' c c' P Q W hm1 h h'
  have HOR : Hid (∀ (W : World) (s s' : Option Addr) (c c' : Nat) (P Q : Nat → Bool), BitsAt W s m P → BitsAt W s' m Q → Calls Tryz.prog 73 #[.agg #[.int .i64 ((n : Int) + 1), .slice s m c], .agg #[.int .i64 ((n : Int) + 1), .slice s' m c']] W fun e W' => NewBits W ((n : Int) + 1) m (fun j => P j || Q j) e W') := fun W s s' c c' P Q h h' => orB n m s s' c c' P Q W hm1 h h'
  have HCLO : Hid (∀ (W : World) (s : Option Addr) (c' : Nat), Since V W → BitsAt W s m (passB f n A c) → Calls Tryz.prog 84 #[.slice sa n cap, .agg #[.int .i64 ((n : Int) + 1), .slice s m c']] W fun e W' => NewBits W ((n : Int) + 1) m (stepB f n A c) e W') := fun W s c' hW h => cloBits sa n cap m f s c' (passB f n A c) W hn ((hr2.kept hW.below).up hW.size) hm h (fun j hj => by unfold passB; rw [behind_le _ n j hj]; rfl)
  have HST : Hid (∀ W, Since V W → Calls Tryz.prog 59 #[.slice sa n cap] W fun e W' => NewBits W ((n : Int) + 1) m (cloB (skipB f n) (fun j => decide (0 = j))) e W') := fun W hW => l07Start_any sa n cap m f W hn0 hn ((hr2.kept hW.below).up hW.size) hm
  have HGET : Hid (∀ (W : World) (s : Option Addr) (c' : Nat), BitsAt W s m (stepB f n A c) → Calls Tryz.prog 75 #[.agg #[.int .i64 ((n : Int) + 1), .slice s m c'], .int .i64 (n : Int)] W fun e W' => e = .returned (.bool (stepB f n A c n)) ∧ Below W.heap.size W W') := fun W s c' h => getBit n m n s c' _ W hm hn (Nat.le_refl _) h
  clear q1 q2 hr hv hr2 hv2 hsz hm
  go_enter Tryz.func60, Tryz.ntmps60
  go_wp2_with fail
  go_upto_region 1 with fail
  clear hV
  go_cut [7] (fun pv wc => CutB V ((n : Int) + 1) m (stepB f n A c) pv wc)
  case first =>
    obtain ⟨y0, y1⟩ := YV.out.cells
    have yl := YV.out.lt
    have ne0 := Nat.ne_of_gt yl
    go_region_held3 (fun W => W.cell? ⟨w.heap.size, 0, none⟩ = some (.int .i64 ((n : Int) + 1)) ∧ W.cell? ⟨w.heap.size, 1, none⟩ = some (.slice sv m cv)) (go_keep) (first
      | (go_at_call 74; (with_reducible refine (HADD.out _ (by first | exact since_drew (since_refl _) | exact since_drew (since_alloc (since_refl _)) | exact since_alloc (since_drew (since_refl _)))).mono ?_); rintro e u1 ⟨h1, ⟨s1, c1, rfl, hb, ho⟩, hv⟩; unfold vecV; have S1 : Hid (Since V u1) := (by refine since_call ?_ hb; first | exact since_drew (since_refl _) | exact since_drew (since_alloc (since_refl _)) | exact since_alloc (since_drew (since_refl _))); have B1 : Hid (∀ X, Since u1 X → BitsAt X s1 m (fun j => decide (1 ≤ j ∧ j ≤ n) && A (j - 1))) := (fun X hX => ⟨h1, ownS_since ho hX, hv⟩); (try (have hbx : Boxed u1 _ 29 0 none 0 0 := Boxed.kept (by first | assumption | exact heap_alloc_new _ _ | exact Boxed.drew (heap_alloc_new _ _)) hb rfl; obtain ⟨d0, d1, d2, d3⟩ := hbx.four)); obtain ⟨y0, y1⟩ := (YV.out.since S1.out).cells; have yl := (YV.out.since S1.out).lt; have ne1 := Nat.ne_of_gt yl; clear hb ho hv)
      | (go_at_call 87; (with_reducible refine (HBY.out false _ (by first | exact S1.out | exact since_alloc S1.out)).mono ?_); rintro e u2 ⟨h2, ⟨s2, c2, rfl, hb, ho⟩, hv⟩; unfold vecV; have S2 : Hid (Since V u2) := (by refine since_call ?_ hb; first | exact S1.out | exact since_alloc S1.out); have T1_2 : Hid (Since u1 u2) := (by refine since_call ?_ hb; first | exact since_refl _ | exact since_alloc (since_refl _)); have B2 : Hid (∀ X, Since u2 X → BitsAt X s2 m (behind (asksB f c false) n)) := (fun X hX => ⟨h2, ownS_since ho hX, hv⟩); (try (have hbx : Boxed u2 _ 29 0 none 0 0 := Boxed.kept (by first | assumption | exact heap_alloc_new _ _ | exact Boxed.drew (heap_alloc_new _ _)) hb rfl; obtain ⟨d0, d1, d2, d3⟩ := hbx.four)); obtain ⟨y0, y1⟩ := (YV.out.since S2.out).cells; have yl := (YV.out.since S2.out).lt; have ne2 := Nat.ne_of_gt yl; clear hb ho hv)
      | (go_at_call 86; (with_reducible refine (HAND.out _ _ _ _ _ _ _ (B1.out _ (by first | exact T1_2.out | exact since_alloc T1_2.out)) (B2.out _ (by first | exact since_refl _ | exact since_alloc (since_refl _)))).mono ?_); rintro e u3 ⟨h3, ⟨s3, c3, rfl, hb, ho⟩, hv⟩; unfold vecV; have S3 : Hid (Since V u3) := (by refine since_call ?_ hb; first | exact S2.out | exact since_alloc S2.out); have B3 : Hid (∀ X, Since u3 X → BitsAt X s3 m (fun j => (decide (1 ≤ j ∧ j ≤ n) && A (j - 1)) && behind (asksB f c false) n j)) := (fun X hX => ⟨h3, ownS_since ho hX, hv⟩); (try (have hbx : Boxed u3 _ 29 0 none 0 0 := Boxed.kept (by first | assumption | exact heap_alloc_new _ _ | exact Boxed.drew (heap_alloc_new _ _)) hb rfl; obtain ⟨d0, d1, d2, d3⟩ := hbx.four)); obtain ⟨y0, y1⟩ := (YV.out.since S3.out).cells; have yl := (YV.out.since S3.out).lt; have ne3 := Nat.ne_of_gt yl; clear hb ho hv)
      | (go_at_call 87; (with_reducible refine (HBY.out true _ (by first | exact S3.out | exact since_alloc S3.out)).mono ?_); rintro e u4 ⟨h4, ⟨s4, c4, rfl, hb, ho⟩, hv⟩; unfold vecV; have S4 : Hid (Since V u4) := (by refine since_call ?_ hb; first | exact S3.out | exact since_alloc S3.out); have T3_4 : Hid (Since u3 u4) := (by refine since_call ?_ hb; first | exact since_refl _ | exact since_alloc (since_refl _)); have B4 : Hid (∀ X, Since u4 X → BitsAt X s4 m (behind (asksB f c true) n)) := (fun X hX => ⟨h4, ownS_since ho hX, hv⟩); (try (have hbx : Boxed u4 _ 29 0 none 0 0 := Boxed.kept (by first | assumption | exact heap_alloc_new _ _ | exact Boxed.drew (heap_alloc_new _ _)) hb rfl; obtain ⟨d0, d1, d2, d3⟩ := hbx.four)); obtain ⟨y0, y1⟩ := (YV.out.since S4.out).cells; have yl := (YV.out.since S4.out).lt; have ne4 := Nat.ne_of_gt yl; clear hb ho hv)
      | (go_at_call 86; (with_reducible refine (HAND.out _ _ _ _ _ _ _ (BV.out _ (by first | exact S4.out | exact since_alloc S4.out)) (B4.out _ (by first | exact since_refl _ | exact since_alloc (since_refl _)))).mono ?_); rintro e u5 ⟨h5, ⟨s5, c5, rfl, hb, ho⟩, hv⟩; unfold vecV; have S5 : Hid (Since V u5) := (by refine since_call ?_ hb; first | exact S4.out | exact since_alloc S4.out); have T3_5 : Hid (Since u3 u5) := (by refine since_call ?_ hb; first | exact T3_4.out | exact since_alloc T3_4.out); have B5 : Hid (∀ X, Since u5 X → BitsAt X s5 m (fun j => A j && behind (asksB f c true) n j)) := (fun X hX => ⟨h5, ownS_since ho hX, hv⟩); (try (have hbx : Boxed u5 _ 29 0 none 0 0 := Boxed.kept (by first | assumption | exact heap_alloc_new _ _ | exact Boxed.drew (heap_alloc_new _ _)) hb rfl; obtain ⟨d0, d1, d2, d3⟩ := hbx.four)); obtain ⟨y0, y1⟩ := (YV.out.since S5.out).cells; have yl := (YV.out.since S5.out).lt; have ne5 := Nat.ne_of_gt yl; clear hb ho hv)
      | (go_at_call 73; (with_reducible refine (HOR.out _ _ _ _ _ _ _ (B3.out _ (by first | exact T3_5.out | exact since_alloc T3_5.out)) (B5.out _ (by first | exact since_refl _ | exact since_alloc (since_refl _)))).mono ?_); rintro e u6 ⟨h6, ⟨s6, c6, rfl, hb, ho⟩, hv⟩; unfold vecV; have S6 : Hid (Since V u6) := (by refine since_call ?_ hb; first | exact S5.out | exact since_alloc S5.out); have PB : Hid (∀ X, Since u6 X → BitsAt X s6 m (passB f n A c)) := (fun X hX => ⟨h6, ownS_since ho hX, hv.congr (raw_pass f n A c)⟩); (try (have hbx : Boxed u6 _ 29 0 none 0 0 := Boxed.kept (by first | assumption | exact heap_alloc_new _ _ | exact Boxed.drew (heap_alloc_new _ _)) hb rfl; obtain ⟨d0, d1, d2, d3⟩ := hbx.four)); obtain ⟨y0, y1⟩ := (YV.out.since S6.out).cells; have yl := (YV.out.since S6.out).lt; have ne6 := Nat.ne_of_gt yl; clear hb ho hv)
      | (go_at_call 84; (with_reducible refine (HCLO.out _ _ _ (by first | exact S6.out | exact since_alloc S6.out) (PB.out _ (by first | exact since_refl _ | exact since_alloc (since_refl _)))).mono ?_); rintro e u7 ⟨h7, ⟨s7, c7, rfl, hb, ho⟩, hv⟩; unfold vecV; have S7 : Hid (Since V u7) := (by refine since_call ?_ hb; first | exact S6.out | exact since_alloc S6.out); (try (have hbx : Boxed u7 _ 29 0 none 0 0 := Boxed.kept (by first | assumption | exact heap_alloc_new _ _ | exact Boxed.drew (heap_alloc_new _ _)) hb rfl; obtain ⟨d0, d1, d2, d3⟩ := hbx.four)); obtain ⟨y0, y1⟩ := (YV.out.since S7.out).cells; have yl := (YV.out.since S7.out).lt; have ne7 := Nat.ne_of_gt yl; clear hb))
    all_goals
      go_wp2_with fail
      go_meet
      case rel => first
        | exact ⟨h7, cut_late S7.out (by first | exact S6.out.size | exact (since_alloc S6.out).size) ho, hv⟩
        | exact ⟨h7, cut_early S7.out (by assumption) (by first | exact Nat.le_refl _ | exact S1.out.size | exact S2.out.size | exact S3.out.size | exact S4.out.size | exact S5.out.size | exact S6.out.size) (by first | exact Boxed.lt (by assumption) | simp) ho, hv⟩
  case rest =>
    obtain ⟨h, ⟨p, s, c9, rfl, hS, hp1, hp2, hx, hsl⟩, hv⟩ := hcut
    obtain ⟨V2, hV2⟩ : ∃ y, y = wc := ⟨_, rfl⟩
    rw [← hV2] at hS hp2 hx hsl ⊢
    clear hV2
    have S8 : Hid (Since V V2) := hS
    have X8 : Hid (Boxed V2 p 29 ((n : Int) + 1) s m c9) := hx
    have B8 : Hid (∀ X, Since V2 X → BitsAt X s m (stepB f n A c)) := fun X hX => ⟨h, row_since hsl.row hX, hv⟩
    have Z8 : Hid (SBox V2 (w.heap.size + 1) 0 none 0 0 false) := ZV.out.kept hS.below rfl
    have hzp : w.heap.size + 1 ≠ p := by have := zv.out; omega
    have hw1 : IntKind.i64.wrap ((n : Int) + 1 - 1) = (n : Int) := by rw [IntKind.wrap_i64]; omega
    have hw2 : IntKind.i64.wrap (n : Int) = (n : Int) := by rw [IntKind.wrap_i64]; omega
    obtain ⟨x0, x1⟩ := hx.cells
    have xl := hx.lt
    clear hS hp1 hp2 hx hsl hv
    go_wp2_with fail
    go_region_held3 (fun W => W.cell? ⟨p, 0, none⟩ = some (.int .i64 ((n : Int) + 1)) ∧ W.cell? ⟨p, 1, none⟩ = some (.slice s m c9)) (go_keep) (first
      | (go_at_call 59; (with_reducible refine (HST.out _ (by first | exact since_drew S8.out)).mono ?_); rintro e u1 ⟨h1, ⟨s1, c1, rfl, hb, ho⟩, hv⟩; unfold vecV; have S9 : Hid (Since V2 u1) := (by refine since_call ?_ hb; exact since_drew (since_refl _)); have B9 : Hid (∀ X, Since u1 X → BitsAt X s1 m (cloB (skipB f n) (fun j => decide (0 = j)))) := (fun X hX => ⟨h1, ownS_since ho hX, hv⟩); obtain ⟨x0, x1⟩ := (X8.out.since S9.out).cells; have xl := (X8.out.since S9.out).lt; clear hb ho hv)
      | (go_at_call 73; (with_reducible refine (HOR.out _ _ _ _ _ _ _ (B8.out _ S9.out) (B9.out _ (since_refl _))).mono ?_); rintro e u2 ⟨h2, ⟨s2, c2, rfl, hb, ho⟩, hv⟩; unfold vecV; have S10 : Hid (Since V2 u2) := since_call S9.out hb; have O10 : Hid (OwnS u2 u1.heap.size s2 m h2 ∧ VecIs h2 (fun j => stepB f n A c j || cloB (skipB f n) (fun j => decide (0 = j)) j) m) := ⟨ho, hv⟩; obtain ⟨x0, x1⟩ := (X8.out.since S10.out).cells; have xl := (X8.out.since S10.out).lt; clear hb ho hv)
      | (go_at_call 75; (with_reducible refine (HGET.out _ _ _ (B8.out _ S10.out)).mono ?_); rintro e u3 ⟨rfl, hb⟩; have S11 : Hid (Since V2 u3) := since_call S10.out hb; have O11 : Hid (OwnS u3 u1.heap.size s2 m h2) := O10.out.1.kept hb rfl; obtain ⟨x0, x1⟩ := (X8.out.since S11.out).cells; have xl := (X8.out.since S11.out).lt; obtain ⟨a0, a1, a2, a3, a4, a5⟩ := (Z8.out.since S11.out).six; have zl := (Z8.out.since S11.out).lt; clear hb))
    all_goals
      go_wp2_with fail
      refine bodyPost_ret (v := stepV ((n : Int) + 1) s2 m c2 (stepB f n A c n)) (by simp [results, Tryz.results60, go_sem, stepV, a0, a1, a2]) rfl ?_
      have hS11 := since_call (since_call S0.out S8.out.below) S11.out.below
      have hlo : V.heap.size ≤ u1.heap.size := (since_call S8.out S9.out.below).size
      refine ⟨h2, ⟨_, _, rfl, (since_set (since_set (since_set hS11 (by show w.heap.size ≤ w.heap.size + 1; omega)) (by show w.heap.size ≤ w.heap.size + 1; omega)) (by show w.heap.size ≤ w.heap.size + 1; omega)).below, ?_⟩, O10.out.2⟩
      have hz9 := zv.out
      rcases O11.out with h | ⟨g5, h1, h2, h3⟩
      · exact Or.inl h
      · exact Or.inr ⟨g5, h1, by omega, ((h3.setOther _ _ (by show w.heap.size + 1 ≠ g5; omega)).setOther _ _ (by show w.heap.size + 1 ≠ g5; omega)).setOther _ _ (by show w.heap.size + 1 ≠ g5; omega)⟩
end Go.Proofs.YtfeolbgenpknfaaGreat
