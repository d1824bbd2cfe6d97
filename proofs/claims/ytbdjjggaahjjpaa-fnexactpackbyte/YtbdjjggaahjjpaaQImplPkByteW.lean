/- What is proved here: the program's PackByte tells the places of all rows, one behind the other, or nothing, in new memory; nothing that was there turns. -/
import Derived.Test.YtbdjjggaahjjpaaQLaidOfCW
import Derived.Test.YtbdjjggaahjjpaaQPackRightW
import Derived.Test.YtbdjjggaahjjpaaQImplKVecW
import Derived.Test.YtbdjjggaahjjpaaQSpecKVecW
import Derived.Test.YtbdjjggaahjjpaaQPVecWToFitKM
namespace Go.Proofs.Ytbdjjggaahjjpaa
open Go.RowKit

/-- The places of a row. -/
def rowB (f : Nat → Nat → Cel) (n : Nat → Nat) (c : Nat) (lp : Bool) : Nat → Nat → Bool := fun i => behind (asksB (f i) c lp) (n i)
theorem rowB_fit (f : Nat → Nat → Cel) (n : Nat → Nat) (c : Nat) (lp : Bool) (i q : Nat) (h : rowB f n c lp i q = true) : q < n i + 1 := by
  unfold rowB behind at h
  simp at h
  omega
theorem bitsTo_at (n : Nat → Nat) : ∀ i, bitsTo (fun i => n i + 1) i = atP n i
  | 0 => rfl
  | i + 1 => by rw [atP_succ]; show bitsTo (fun i => n i + 1) i + (n i + 1) = _; rw [bitsTo_at n i]
set_option maxRecDepth 100000 in
set_option maxHeartbeats 2000000 in
theorem byteC_any (sa : Option Addr) (n cap c pa pb : Nat) (lp : Bool) (f : Nat → Cel) (w : World) (hn : n ≤ maxLen) (hr : CRow w w.heap.size sa n f) (hc : ∀ i, i < n → (f i).c.size ≤ maxLen) (h : CellsOk n f) (hc9 : c < 256) (ha : w.cell? ⟨pa, 0, none⟩ = some (.bool lp)) (hb : w.cell? ⟨pb, 0, none⟩ = some (.int .i64 (c : Int))) (hpa : pa < w.heap.size) (hpb : pb < w.heap.size) :
    Calls Try.prog 64 #[.slice sa n cap, .pointer (some ⟨pa, 0, none⟩), .pointer (some ⟨pb, 0, none⟩)] w fun e w' => ∃ g, NewVec w ((n + 1 : Nat) : Int) ((n + 1 + 31) / 32) g e w' ∧ VecIs g (behind (asksB f c lp) n) ((n + 1 + 31) / 32) := by
  have hn60 := h.2.1
  obtain ⟨x, hx⟩ := behind_ex (asksB f c lp) n (by omega)
  have q0 := boxing w 36 0 none 0 0
  have HXV : Hid (VecIs (wordsN x) (behind (asksB f c lp) n) ((n + 1 + 31) / 32)) := vecIs_words hx _
  have a0 := (q0.1.cell (p := ⟨pa, 0, none⟩) hpa).trans ha
  have b0 := (q0.1.cell (p := ⟨pb, 0, none⟩) hpb).trans hb
  have B0 : Hid (Below w.heap.size w (w.alloc (.cells #[.int .i64 0, .slice none 0 0] 36))) := q0.1
  have X0 : Hid (Boxed (w.alloc (.cells #[.int .i64 0, .slice none 0 0] 36)) w.heap.size 36 0 none 0 0) := q0.2.1
  have CB : lp = false → Calls Try.prog 66 #[.slice sa n cap, .int .i64 (c : Int)] (w.alloc (.cells #[.int .i64 0, .slice none 0 0] 36)) _ := fun hl => implByte_yes sa n cap c _ x f _ hn ((hr.kept q0.1).up q0.1.size) hc h hc9 rfl (hx.congr (fun j => by unfold behind asksB; rw [hl]; simp))
  have CL : lp = true → Calls Try.prog 65 #[.slice sa n cap, .int .i64 (c : Int)] (w.alloc (.cells #[.int .i64 0, .slice none 0 0] 36)) _ := fun hl => implLoop_yes sa n cap c _ x f _ hn ((hr.kept q0.1).up q0.1.size) hc h hc9 rfl (hx.congr (fun j => by unfold behind asksB; rw [hl]; simp))
  have FIN : Hid (∀ (w5 : World) (s5 : Option Addr) (c5 : Nat), Below (w.alloc (.cells #[.int .i64 0, .slice none 0 0] 36)).heap.size (w.alloc (.cells #[.int .i64 0, .slice none 0 0] 36)) w5 → OwnS w5 (w.alloc (.cells #[.int .i64 0, .slice none 0 0] 36)).heap.size s5 ((n + 1 + 31) / 32) (wordsN x) → (w5.cell? ⟨w.heap.size, 0, none⟩ = some (.int .i64 0) ∧ w5.cell? ⟨w.heap.size, 1, none⟩ = some (.slice none 0 0) ∧ w5.frozen? ⟨w.heap.size, 0, none⟩ = false ∧ w5.frozen? ⟨w.heap.size, 1, none⟩ = false) ∧ ((w5.setCell ⟨w.heap.size, 0, none⟩ (.int .i64 ((n : Int) + 1))).setCell ⟨w.heap.size, 1, none⟩ (.slice s5 ((n + 1 + 31) / 32) c5)).cell? ⟨w.heap.size, 0, none⟩ = some (.int .i64 ((n : Int) + 1)) ∧ ((w5.setCell ⟨w.heap.size, 0, none⟩ (.int .i64 ((n : Int) + 1))).setCell ⟨w.heap.size, 1, none⟩ (.slice s5 ((n + 1 + 31) / 32) c5)).cell? ⟨w.heap.size, 1, none⟩ = some (.slice s5 ((n + 1 + 31) / 32) c5) ∧ NewVec w ((n + 1 : Nat) : Int) ((n + 1 + 31) / 32) (wordsN x) (.returned (vecV ((n : Int) + 1) s5 ((n + 1 + 31) / 32) c5)) ((w5.setCell ⟨w.heap.size, 0, none⟩ (.int .i64 ((n : Int) + 1))).setCell ⟨w.heap.size, 1, none⟩ (.slice s5 ((n + 1 + 31) / 32) c5))) := by
    intro w5 s5 c5 hb5 ho5
    have X5 := X0.out.kept hb5 rfl
    have hz := q0.2.2
    obtain ⟨x0, x1, xf0, xf1⟩ := X5.four
    have hne : ∀ {x y : Nat}, x ≠ y → (⟨w.heap.size, x, none⟩ : Addr) ≠ ⟨w.heap.size, y, none⟩ := fun hxy hh => hxy (by injection hh)
    refine ⟨⟨x0, x1, xf0, xf1⟩, by rw [World.cell?_setCell_other _ _ _ _ (hne (by decide))]; exact World.cell?_setCell_same _ _ _ x0, World.cell?_setCell_same _ _ _ (by rw [World.cell?_setCell_other _ _ _ _ (hne (by decide))]; exact x1), s5, c5, by simp, ((B0.out.trans (hb5.mono B0.out.size)).setCell (Nat.le_refl _) _).setCell (Nat.le_refl _) _, ho5.imp id (fun ⟨b, h1, h2, h3⟩ => ⟨b, h1, by omega, (h3.setOther _ _ (by show w.heap.size ≠ b; omega)).setOther _ _ (by show w.heap.size ≠ b; omega)⟩)⟩
  clear hn hr hc h hx q0 ha hb
  cases lp with
  | true =>
    have C := CL rfl
    clear CL CB
    go_enter Try.func64, Try.ntmps64
    go_wp2_with fail
    refine C.mono ?_
    rintro e w5 ⟨s5, c5, rfl, hb5, ho5⟩
    unfold vecV
    obtain ⟨⟨x0, x1, xf0, xf1⟩, r0, r1, hN⟩ := FIN.out w5 s5 c5 hb5 ho5
    have RR : Hid (((w5.setCell ⟨w.heap.size, 0, none⟩ (.int .i64 ((n : Int) + 1))).setCell ⟨w.heap.size, 1, none⟩ (.slice s5 ((n + 1 + 31) / 32) c5)).cell? ⟨w.heap.size, 0, none⟩ = some (.int .i64 ((n : Int) + 1)) ∧ ((w5.setCell ⟨w.heap.size, 0, none⟩ (.int .i64 ((n : Int) + 1))).setCell ⟨w.heap.size, 1, none⟩ (.slice s5 ((n + 1 + 31) / 32) c5)).cell? ⟨w.heap.size, 1, none⟩ = some (.slice s5 ((n + 1 + 31) / 32) c5)) := ⟨r0, r1⟩
    have NN : Hid (NewVec w ((n + 1 : Nat) : Int) ((n + 1 + 31) / 32) (wordsN x) (.returned (vecV ((n : Int) + 1) s5 ((n + 1 + 31) / 32) c5)) ((w5.setCell ⟨w.heap.size, 0, none⟩ (.int .i64 ((n : Int) + 1))).setCell ⟨w.heap.size, 1, none⟩ (.slice s5 ((n + 1 + 31) / 32) c5))) := hN
    clear C hb5 ho5 r0 r1 hN a0 b0
    go_wp2_with fail
    obtain ⟨r0, r1⟩ := RR.out
    have hN := NN.out
    generalize (w5.setCell ⟨w.heap.size, 0, none⟩ (.int .i64 ((n : Int) + 1))).setCell ⟨w.heap.size, 1, none⟩ (.slice s5 ((n + 1 + 31) / 32) c5) = w9 at *
    refine bodyPost_ret (v := vecV ((n : Int) + 1) s5 ((n + 1 + 31) / 32) c5) (by simp [results, Try.results64, go_sem, vecV, r0, r1]) rfl ?_
    exact ⟨_, hN, HXV.out⟩
  | false =>
    have C := CB rfl
    clear CL CB
    go_enter Try.func64, Try.ntmps64
    go_wp2_with fail
    refine C.mono ?_
    rintro e w5 ⟨s5, c5, rfl, hb5, ho5⟩
    unfold vecV
    obtain ⟨⟨x0, x1, xf0, xf1⟩, r0, r1, hN⟩ := FIN.out w5 s5 c5 hb5 ho5
    have RR : Hid (((w5.setCell ⟨w.heap.size, 0, none⟩ (.int .i64 ((n : Int) + 1))).setCell ⟨w.heap.size, 1, none⟩ (.slice s5 ((n + 1 + 31) / 32) c5)).cell? ⟨w.heap.size, 0, none⟩ = some (.int .i64 ((n : Int) + 1)) ∧ ((w5.setCell ⟨w.heap.size, 0, none⟩ (.int .i64 ((n : Int) + 1))).setCell ⟨w.heap.size, 1, none⟩ (.slice s5 ((n + 1 + 31) / 32) c5)).cell? ⟨w.heap.size, 1, none⟩ = some (.slice s5 ((n + 1 + 31) / 32) c5)) := ⟨r0, r1⟩
    have NN : Hid (NewVec w ((n + 1 : Nat) : Int) ((n + 1 + 31) / 32) (wordsN x) (.returned (vecV ((n : Int) + 1) s5 ((n + 1 + 31) / 32) c5)) ((w5.setCell ⟨w.heap.size, 0, none⟩ (.int .i64 ((n : Int) + 1))).setCell ⟨w.heap.size, 1, none⟩ (.slice s5 ((n + 1 + 31) / 32) c5))) := hN
    clear C hb5 ho5 r0 r1 hN a0 b0
    go_wp2_with fail
    obtain ⟨r0, r1⟩ := RR.out
    have hN := NN.out
    generalize (w5.setCell ⟨w.heap.size, 0, none⟩ (.int .i64 ((n : Int) + 1))).setCell ⟨w.heap.size, 1, none⟩ (.slice s5 ((n + 1 + 31) / 32) c5) = w9 at *
    refine bodyPost_ret (v := vecV ((n : Int) + 1) s5 ((n + 1 + 31) / 32) c5) (by simp [results, Try.results64, go_sem, vecV, r0, r1]) rfl ?_
    exact ⟨_, hN, HXV.out⟩
/-- A pack that is right, and a byte. -/
def PkByteP (P : Pk) (en : Int) : Prop := PkOk P ∧ 0 ≤ en ∧ en ≤ 255
open Classical in
set_option maxRecDepth 100000 in
set_option maxHeartbeats 4000000 in
theorem implPkByte_any (sr sm : Option Addr) (cr cm : Nat) (P : Pk) (en : Int) (lp : Bool) (w : World) (hz : PkSize P) (hr : PkRead w sr sm P) :
    Calls Try.prog 28 #[.agg #[.slice sr P.k cr, .slice sm P.m cm, .int .i64 P.b], .int .i64 en, .bool lp] w fun e w' => (PkByteP P en ∧ ∃ g, NewVec w P.b ((atP P.n P.k + 31) / 32) g e w' ∧ VecIs g (layK (fun i => P.n i + 1) (rowB P.f P.n en.toNat lp) P.k) ((atP P.n P.k + 31) / 32)) ∨ (¬ PkByteP P en ∧ NewVec w 0 0 (fun _ => 0) e w') := by
  have hb0 : Below w.heap.size w ((((w.alloc (.cells #[.slice sr P.k cr, .slice sm P.m cm, .int .i64 P.b] 30)).alloc (.cells #[.int .i64 en] 2)).alloc (.cells #[.bool lp] 4)).alloc (.cells #[.int .i64 0, .slice none 0 0] 36)) := ((((Below.refl _ _).alloc (Nat.le_refl _) _).alloc (by simp) _).alloc (by simp; omega) _).alloc (by simp; omega) _
  have C1 := implPackRight_any sr sm cr cm P ((((w.alloc (.cells #[.slice sr P.k cr, .slice sm P.m cm, .int .i64 P.b] 30)).alloc (.cells #[.int .i64 en] 2)).alloc (.cells #[.bool lp] 4)).alloc (.cells #[.int .i64 0, .slice none 0 0] 36)) hz (hr.late hb0)
  have HB0 : Hid (Below w.heap.size w ((((w.alloc (.cells #[.slice sr P.k cr, .slice sm P.m cm, .int .i64 P.b] 30)).alloc (.cells #[.int .i64 en] 2)).alloc (.cells #[.bool lp] 4)).alloc (.cells #[.int .i64 0, .slice none 0 0] 36))) := hb0
  have HA : Hid (BoxAt ((((w.alloc (.cells #[.slice sr P.k cr, .slice sm P.m cm, .int .i64 P.b] 30)).alloc (.cells #[.int .i64 en] 2)).alloc (.cells #[.bool lp] 4)).alloc (.cells #[.int .i64 0, .slice none 0 0] 36)) w.heap.size #[.slice sr P.k cr, .slice sm P.m cm, .int .i64 P.b] 30) := (((boxAt_new w _ _).2.1.kept (boxAt_new _ _ _).1).kept (boxAt_new _ _ _).1).kept (boxAt_new _ _ _).1
  have HE : Hid (BoxAt ((((w.alloc (.cells #[.slice sr P.k cr, .slice sm P.m cm, .int .i64 P.b] 30)).alloc (.cells #[.int .i64 en] 2)).alloc (.cells #[.bool lp] 4)).alloc (.cells #[.int .i64 0, .slice none 0 0] 36)) (w.heap.size + 1) #[.int .i64 en] 2) := by
    have h := (((boxAt_new (w.alloc (.cells #[.slice sr P.k cr, .slice sm P.m cm, .int .i64 P.b] 30)) #[.int .i64 en] 2).2.1.kept (boxAt_new _ #[.bool lp] 4).1).kept (boxAt_new _ #[.int .i64 0, .slice none 0 0] 36).1)
    exact (by simpa using h : BoxAt _ _ _ _)
  have HL : Hid (BoxAt ((((w.alloc (.cells #[.slice sr P.k cr, .slice sm P.m cm, .int .i64 P.b] 30)).alloc (.cells #[.int .i64 en] 2)).alloc (.cells #[.bool lp] 4)).alloc (.cells #[.int .i64 0, .slice none 0 0] 36)) (w.heap.size + 1 + 1) #[.bool lp] 4) := by
    have h := ((boxAt_new ((w.alloc (.cells #[.slice sr P.k cr, .slice sm P.m cm, .int .i64 P.b] 30)).alloc (.cells #[.int .i64 en] 2)) #[.bool lp] 4).2.1.kept (boxAt_new _ #[.int .i64 0, .slice none 0 0] 36).1)
    exact (by simpa using h : BoxAt _ _ _ _)
  have HX : Hid (BoxAt ((((w.alloc (.cells #[.slice sr P.k cr, .slice sm P.m cm, .int .i64 P.b] 30)).alloc (.cells #[.int .i64 en] 2)).alloc (.cells #[.bool lp] 4)).alloc (.cells #[.int .i64 0, .slice none 0 0] 36)) (w.heap.size + 1 + 1 + 1) #[.int .i64 0, .slice none 0 0] 36) := by
    have h := (boxAt_new (((w.alloc (.cells #[.slice sr P.k cr, .slice sm P.m cm, .int .i64 P.b] 30)).alloc (.cells #[.int .i64 en] 2)).alloc (.cells #[.bool lp] 4)) #[.int .i64 0, .slice none 0 0] 36).2.1
    exact (by simpa using h : BoxAt _ _ _ _)
  have HCR : Hid (PkRead w sr sm P) := hr
  have HZ : Hid (PkSize P) := hz
  obtain ⟨D, hD⟩ : ∃ D, decide (PkOk P) = D := ⟨_, rfl⟩
  have HD : Hid (decide (PkOk P) = D) := hD
  rw [hD] at C1
  obtain ⟨Post, hPost⟩ : ∃ Q : Ending → World → Prop, (fun e w' => (PkByteP P en ∧ ∃ g, NewVec w P.b ((atP P.n P.k + 31) / 32) g e w' ∧ VecIs g (layK (fun i => P.n i + 1) (rowB P.f P.n en.toNat lp) P.k) ((atP P.n P.k + 31) / 32)) ∨ (¬ PkByteP P en ∧ NewVec w 0 0 (fun _ => 0) e w')) = Q := ⟨_, rfl⟩
  have HPO : Hid ((fun e w' => (PkByteP P en ∧ ∃ g, NewVec w P.b ((atP P.n P.k + 31) / 32) g e w' ∧ VecIs g (layK (fun i => P.n i + 1) (rowB P.f P.n en.toNat lp) P.k) ((atP P.n P.k + 31) / 32)) ∨ (¬ PkByteP P en ∧ NewVec w 0 0 (fun _ => 0) e w')) = Post) := hPost
  rw [hPost]
  clear hb0 hr hz hD hPost
  go_enter Try.func28, Try.ntmps28
  have ca0 := HA.out.cell 0 _ rfl
  have ca1 := HA.out.cell 1 _ rfl
  have ca2 := HA.out.cell 2 _ rfl
  go_wp2_with fail
  generalize (((w.alloc (.cells #[.slice sr P.k cr, .slice sm P.m cm, .int .i64 P.b] 30)).alloc (.cells #[.int .i64 en] 2)).alloc (.cells #[.bool lp] 4)).alloc (.cells #[.int .i64 0, .slice none 0 0] 36) = w4 at *
  refine C1.mono ?_
  clear C1 ca0 ca1 ca2
  rintro e w5 ⟨rfl, hb⟩
  have B5 : Hid (Below w.heap.size w w5) := HB0.out.trans (hb.mono HB0.out.size)
  have A5 : Hid (BoxAt w5 w.heap.size #[.slice sr P.k cr, .slice sm P.m cm, .int .i64 P.b] 30) := HA.out.kept hb
  have E5 : Hid (BoxAt w5 (w.heap.size + 1) #[.int .i64 en] 2) := HE.out.kept hb
  have L5 : Hid (BoxAt w5 (w.heap.size + 1 + 1) #[.bool lp] 4) := HL.out.kept hb
  have X5 : Hid (BoxAt w5 (w.heap.size + 1 + 1 + 1) #[.int .i64 0, .slice none 0 0] 36) := HX.out.kept hb
  clear hb HB0 HA HE HL HX
  have ca0 := A5.out.cell 0 _ rfl
  have ca1 := A5.out.cell 1 _ rfl
  have ca2 := A5.out.cell 2 _ rfl
  have ce0 := E5.out.cell 0 _ rfl
  have cx0 := X5.out.cell 0 _ rfl
  have cx1 := X5.out.cell 1 _ rfl
  have fx0 := X5.out.free 0
  have fx1 := X5.out.free 1
  have ENDN : Hid (¬ PkByteP P en → Post (.returned (vecV 0 none 0 0)) ((w5.setCell ⟨w.heap.size + 1 + 1 + 1, 0, none⟩ (.int .i64 0)).setCell ⟨w.heap.size + 1 + 1 + 1, 1, none⟩ (.slice none 0 0))) := fun h => by
    rw [← HPO.out]
    exact Or.inr ⟨h, none, 0, rfl, (B5.out.setCell (by show w.heap.size ≤ w.heap.size + 1 + 1 + 1; omega) _).setCell (by show w.heap.size ≤ w.heap.size + 1 + 1 + 1; omega) _, Or.inl rfl⟩
  have hne : ∀ {x y : Nat}, x ≠ y → (⟨w.heap.size + 1 + 1 + 1, x, none⟩ : Addr) ≠ ⟨w.heap.size + 1 + 1 + 1, y, none⟩ := fun hxy hh => hxy (by injection hh)
  have RN : Hid (((w5.setCell ⟨w.heap.size + 1 + 1 + 1, 0, none⟩ (.int .i64 0)).setCell ⟨w.heap.size + 1 + 1 + 1, 1, none⟩ (.slice none 0 0)).cell? ⟨w.heap.size + 1 + 1 + 1, 0, none⟩ = some (.int .i64 0) ∧ ((w5.setCell ⟨w.heap.size + 1 + 1 + 1, 0, none⟩ (.int .i64 0)).setCell ⟨w.heap.size + 1 + 1 + 1, 1, none⟩ (.slice none 0 0)).cell? ⟨w.heap.size + 1 + 1 + 1, 1, none⟩ = some (.slice none 0 0)) := ⟨by rw [World.cell?_setCell_other _ _ _ _ (hne (by decide))]; exact World.cell?_setCell_same _ _ _ cx0, World.cell?_setCell_same _ _ _ (by rw [World.cell?_setCell_other _ _ _ _ (hne (by decide))]; exact cx1)⟩
  cases D with
  | false =>
    have hno : ¬ PkByteP P en := fun h => by have := decide_eq_true h.1; rw [HD.out] at this; cases this
    have EN := ENDN.out hno
    have HEN : Hid (Post (.returned (vecV 0 none 0 0)) ((w5.setCell ⟨w.heap.size + 1 + 1 + 1, 0, none⟩ (.int .i64 0)).setCell ⟨w.heap.size + 1 + 1 + 1, 1, none⟩ (.slice none 0 0))) := EN
    clear EN hno
    go_wp2_with fail
    obtain ⟨r0, r1⟩ := RN.out
    have hEN := HEN.out
    clear cx0 cx1 fx0 fx1
    generalize (w5.setCell ⟨w.heap.size + 1 + 1 + 1, 0, none⟩ (.int .i64 0)).setCell ⟨w.heap.size + 1 + 1 + 1, 1, none⟩ (.slice none 0 0) = w9 at *
    exact bodyPost_ret (v := vecV 0 none 0 0) (by simp [results, Try.results28, go_sem, vecV, r0, r1]) rfl hEN
  | true =>
    have hok : PkOk P := of_decide_eq_true HD.out
    by_cases he : 0 ≤ en ∧ en ≤ 255
    · have hyes : PkByteP P en := ⟨hok, he⟩
      obtain ⟨c, rfl⟩ := Int.eq_ofNat_of_zero_le he.1
      have hrows := hok.1
      have hb9 : P.b = (atP P.n P.k : Int) := hok.2.2.2.1
      have hb320 := hok.2.2.2.2
      obtain ⟨⟨s, cc, hcr⟩, _⟩ := HCR.out
      have CL := laidOfC_any sr P.k cr (w.heap.size + 1 + 1) (w.heap.size + 1) s P.n cc P.f (fun i => P.n i + 1) (fun i => (P.n i + 1 + 31) / 32) (rowB P.f P.n c lp) w5 hrows.1 hrows.2.1 (by rw [bitsTo_at]; omega) (fun i _ => by show 1 ≤ P.n i + 1; omega) (fun i _ => rfl) (fun i _ q hq => rowB_fit _ _ _ _ _ _ hq) (hcr.late B5.out) (fun i hi W hW => by
        obtain ⟨_, _, _, _, _, hrow⟩ := (hcr.late B5.out).at hi
        have hl := L5.out.lt
        have hl2 := E5.out.lt
        exact byteC_any (s i) (P.n i) (cc i) c (w.heap.size + 1 + 1) (w.heap.size + 1) lp (P.f i) W (HZ.out.2.2.1 i hi) ((hrow.kept hW).up hW.size) (HZ.out.2.2.2 i hi) (hrows.2.2 i hi) (by omega) ((hW.cell (p := ⟨w.heap.size + 1 + 1, 0, none⟩) hl).trans (L5.out.cell 0 _ rfl)) ((hW.cell (p := ⟨w.heap.size + 1, 0, none⟩) hl2).trans (E5.out.cell 0 _ rfl)) (Nat.lt_of_lt_of_le hl hW.size) (Nat.lt_of_lt_of_le hl2 hW.size))
      rw [bitsTo_at] at CL
      have HYES : Hid (PkByteP P (c : Int)) := hyes
      have HB9 : Hid (P.b = (atP P.n P.k : Int)) := hb9
      have hc0 : (0 : Int) ≤ (c : Int) := he.1
      have hc1 : (c : Int) ≤ 255 := he.2
      have hmf : ∀ (fn : Fn) (first cap : Array Value) (w : World), (Instr.makeFunc fn first cap).run Try.prog w = .ok (.func fn first cap) w := fun _ _ _ _ => rfl
      clear hok he hyes hrows hb9 hb320 hcr ENDN RN
      go_wp2_with fail
      refine (isByte_yes (c : Int) w5 hc0 hc1).mono ?_
      rintro e w6 ⟨rfl, hw6⟩
      subst hw6
      go_wp2_with fail
      refine CL.mono ?_
      clear CL ca0 ca1 ca2 ce0 cx0 cx1 fx0 fx1
      rintro e w7 ⟨g7, ⟨s7, c7, rfl, hb7, ho7⟩, hv7⟩
      unfold vecV
      have X7 := X5.out.kept hb7
      have B7 : Hid (Below w.heap.size w w7) := B5.out.trans (hb7.mono B5.out.size)
      have O7 : Hid (OwnS w7 w6.heap.size s7 ((atP P.n P.k + 31) / 32) g7) := ho7
      have Z7 : Hid (w.heap.size + 1 + 1 + 1 < w6.heap.size) := X5.out.lt
      have cx0 := X7.cell 0 _ rfl
      have cx1 := X7.cell 1 _ rfl
      have fx0 := X7.free 0
      have fx1 := X7.free 1
      clear hb7 ho7 X7
      go_wp2_with fail
      have hzz := Z7.out
      have r0 : ((w7.setCell ⟨w.heap.size + 1 + 1 + 1, 0, none⟩ (.int .i64 (atP P.n P.k : Int))).setCell ⟨w.heap.size + 1 + 1 + 1, 1, none⟩ (.slice s7 ((atP P.n P.k + 31) / 32) c7)).cell? ⟨w.heap.size + 1 + 1 + 1, 0, none⟩ = some (.int .i64 (atP P.n P.k : Int)) := by
        rw [World.cell?_setCell_other _ _ _ _ (hne (by decide))]; exact World.cell?_setCell_same _ _ _ cx0
      have r1 : ((w7.setCell ⟨w.heap.size + 1 + 1 + 1, 0, none⟩ (.int .i64 (atP P.n P.k : Int))).setCell ⟨w.heap.size + 1 + 1 + 1, 1, none⟩ (.slice s7 ((atP P.n P.k + 31) / 32) c7)).cell? ⟨w.heap.size + 1 + 1 + 1, 1, none⟩ = some (.slice s7 ((atP P.n P.k + 31) / 32) c7) := World.cell?_setCell_same _ _ _ (by rw [World.cell?_setCell_other _ _ _ _ (hne (by decide))]; exact cx1)
      have hbl := (B7.out.setCell (p := ⟨w.heap.size + 1 + 1 + 1, 0, none⟩) (by show w.heap.size ≤ w.heap.size + 1 + 1 + 1; omega) (.int .i64 (atP P.n P.k : Int))).setCell (p := ⟨w.heap.size + 1 + 1 + 1, 1, none⟩) (by show w.heap.size ≤ w.heap.size + 1 + 1 + 1; omega) (.slice s7 ((atP P.n P.k + 31) / 32) c7)
      have hoo : OwnS ((w7.setCell ⟨w.heap.size + 1 + 1 + 1, 0, none⟩ (.int .i64 (atP P.n P.k : Int))).setCell ⟨w.heap.size + 1 + 1 + 1, 1, none⟩ (.slice s7 ((atP P.n P.k + 31) / 32) c7)) w.heap.size s7 ((atP P.n P.k + 31) / 32) g7 := O7.out.imp id (fun ⟨b, h1, h2, h3⟩ => ⟨b, h1, by omega, (h3.setOther _ _ (by show w.heap.size + 1 + 1 + 1 ≠ b; omega)).setOther _ _ (by show w.heap.size + 1 + 1 + 1 ≠ b; omega)⟩)
      clear cx0 cx1 fx0 fx1
      generalize (w7.setCell ⟨w.heap.size + 1 + 1 + 1, 0, none⟩ (.int .i64 (atP P.n P.k : Int))).setCell ⟨w.heap.size + 1 + 1 + 1, 1, none⟩ (.slice s7 ((atP P.n P.k + 31) / 32) c7) = w9 at *
      refine bodyPost_ret (v := vecV (atP P.n P.k : Int) s7 ((atP P.n P.k + 31) / 32) c7) (by simp [results, Try.results28, go_sem, vecV, r0, r1]) rfl ?_
      rw [← HPO.out]
      refine Or.inl ⟨HYES.out, g7, ⟨s7, c7, by rw [HB9.out], hbl, hoo⟩, ?_⟩
      exact hv7
    · have hno : ¬ PkByteP P en := fun h => he h.2
      have EN := ENDN.out hno
      have HEN : Hid (Post (.returned (vecV 0 none 0 0)) ((w5.setCell ⟨w.heap.size + 1 + 1 + 1, 0, none⟩ (.int .i64 0)).setCell ⟨w.heap.size + 1 + 1 + 1, 1, none⟩ (.slice none 0 0))) := EN
      have CI := isByte_no en w5 he
      clear EN hno he hok
      go_wp2_with fail
      refine CI.mono ?_
      rintro e w6 ⟨rfl, hw6⟩
      subst hw6
      clear CI
      go_wp2_with fail
      obtain ⟨r0, r1⟩ := RN.out
      have hEN := HEN.out
      clear cx0 cx1 fx0 fx1 ca0 ca1 ca2 ce0
      generalize (w6.setCell ⟨w.heap.size + 1 + 1 + 1, 0, none⟩ (.int .i64 0)).setCell ⟨w.heap.size + 1 + 1 + 1, 1, none⟩ (.slice none 0 0) = w9 at *
      exact bodyPost_ret (v := vecV 0 none 0 0) (by simp [results, Try.results28, go_sem, vecV, r0, r1]) rfl hEN
end Go.Proofs.Ytbdjjggaahjjpaa
