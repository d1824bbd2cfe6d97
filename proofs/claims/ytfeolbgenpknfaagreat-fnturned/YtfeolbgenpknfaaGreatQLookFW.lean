/- What is proved here: the program's look tells how many bytes of a piece were looked at from behind, the border, and whether the whole piece is a factor; nothing that was there turns but the row's own block. -/
import Derived.Test.YtfeolbgenpknfaaGreatQFromBehWToLookM
namespace Go.Proofs.YtfeolbgenpknfaaGreat
open Go.RowKit Go.Shelf

attribute [local go_sem] Oper.semAt_some

theorem and_low (x : Nat) : bits .and .u64 (x : Int) 1 = ((x % 2 : Nat) : Int) := by
  have h : (x % 2 ^ 64 &&& 1 % 2 ^ 64 : Nat) = x % 2 := by rw [show (1 : Nat) % 2 ^ 64 = 1 from rfl, Nat.and_one_is_mod]; omega
  have hb : IntKind.u64.bits = 64 := rfl
  unfold bits
  simp only [BitVec.toNat_and, BitVec.ofInt_natCast, BitVec.toNat_ofNat, hb]
  rw [show (BitVec.ofInt IntKind.u64.bits 1).toNat = 1 % 2 ^ 64 from rfl, h, IntKind.wrap_u64]
  omega
theorem Ready.c0 {W : World} {b : Nat} {sa : Option Addr} {n cap sk lo : Nat} {f : Nat → Cel} (h : Ready W b sa n cap sk lo f) : W.cell? ⟨b, 0, none⟩ = some (.slice sa n cap) := by
  rcases h with h | ⟨tab, h, _⟩
  · exact h.c0
  · exact h.c0
theorem kept_put {ex : Nat → Prop} {W : World} {l B : Nat} {o : Obj} (h : B ≤ l) : KeptEx ex W (W.putObj l o) B := ⟨by simp, fun _ hk _ => World.putObj_heap_other (by omega)⟩
theorem kept_set {W : World} {p o B : Nat} {v : Value} : KeptEx (fun k => k = p) W (W.setCell ⟨p, o, none⟩ v) B := ⟨by simp [World.setCell], fun k _ hne => Below.heap_setCell _ _ _ _ hne⟩
/-- A sight lies in a box. -/
structure SightAt (W : World) (p : Nat) (lk bd : Nat) (fc : Bool) : Prop where
  c0 : W.cell? ⟨p, 0, none⟩ = some (.int .i64 (lk : Int))
  c1 : W.cell? ⟨p, 1, none⟩ = some (.int .i64 (bd : Int))
  c2 : W.cell? ⟨p, 2, none⟩ = some (.bool fc)
  f : ∀ i, W.frozen? ⟨p, i, none⟩ = false
  lt : p < W.heap.size
theorem addr_ne {p i j : Nat} (h : i ≠ j) : (⟨p, j, none⟩ : Addr) ≠ ⟨p, i, none⟩ := fun hh => h (by injection hh with _ h2 _; exact h2.symm)
theorem SightAt.set0 {W : World} {p lk bd : Nat} {fc : Bool} (h : SightAt W p lk bd fc) (x : Nat) : SightAt (W.setCell ⟨p, 0, none⟩ (.int .i64 (x : Int))) p x bd fc :=
  ⟨World.cell?_setCell_same _ _ _ h.c0, by rw [World.cell?_setCell_other _ _ _ _ (addr_ne (by decide))]; exact h.c1, by rw [World.cell?_setCell_other _ _ _ _ (addr_ne (by decide))]; exact h.c2, fun i => by rw [World.frozen?_setCell]; exact h.f i, by simpa [World.setCell] using h.lt⟩
theorem SightAt.set1 {W : World} {p lk bd : Nat} {fc : Bool} (h : SightAt W p lk bd fc) (x : Nat) : SightAt (W.setCell ⟨p, 1, none⟩ (.int .i64 (x : Int))) p lk x fc :=
  ⟨by rw [World.cell?_setCell_other _ _ _ _ (addr_ne (by decide))]; exact h.c0, World.cell?_setCell_same _ _ _ h.c1, by rw [World.cell?_setCell_other _ _ _ _ (addr_ne (by decide))]; exact h.c2, fun i => by rw [World.frozen?_setCell]; exact h.f i, by simpa [World.setCell] using h.lt⟩
theorem SightAt.set2 {W : World} {p lk bd : Nat} {fc : Bool} (h : SightAt W p lk bd fc) (x : Bool) : SightAt (W.setCell ⟨p, 2, none⟩ (.bool x)) p lk bd x :=
  ⟨by rw [World.cell?_setCell_other _ _ _ _ (addr_ne (by decide))]; exact h.c0, by rw [World.cell?_setCell_other _ _ _ _ (addr_ne (by decide))]; exact h.c1, World.cell?_setCell_same _ _ _ h.c2, fun i => by rw [World.frozen?_setCell]; exact h.f i, by simpa [World.setCell] using h.lt⟩
theorem SightAt.sameB {W V : World} {p lk bd : Nat} {fc : Bool} (h : SightAt W p lk bd fc) (hs : W.heap.size ≤ V.heap.size) (hb : V.heap[p]? = W.heap[p]?) : SightAt V p lk bd fc :=
  ⟨by have := h.c0; simpa [World.cell?, hb] using this, by have := h.c1; simpa [World.cell?, hb] using this, by have := h.c2; simpa [World.cell?, hb] using this, fun i => by have := h.f i; simpa [World.frozen?, hb] using this, Nat.lt_of_lt_of_le h.lt hs⟩
/-- What is held while a piece is gone back along: the sight so far, the boxes, the row. -/
structure Seeing (w W : World) (pr br : Nat) (sa : Option Addr) (n cap sk lo : Nat) (f : Nat → Cel) (lk bd : Nat) (fc : Bool) : Prop where
  g : w.grownBy W (some br)
  r : BackAt W pr br sa n cap sk lo f
  b2 : W.cell? ⟨w.heap.size, 0, none⟩ = some (.pointer (some ⟨pr, 0, none⟩))
  b4 : SightAt W (w.heap.size + 1) 0 0 false
  b5 : SightAt W (w.heap.size + 2) lk bd fc
  pr : pr < w.heap.size
theorem Seeing.turn {w A C : World} {row : Option Nat} {pr br : Nat} {sa : Option Addr} {n cap sk lo : Nat} {f : Nat → Cel} {lk bd : Nat} {fc : Bool} (h : Seeing w A pr br sa n cap sk lo f lk bd fc) (hg : A.grownBy C row) (hr : ∀ r, row = some r → r = br ∨ w.heap.size + 3 ≤ r) (hv : Ready C br sa n cap sk lo f) : Seeing w C pr br sa n cap sk lo f lk bd fc := by
  have hne := h.r.ne
  have hpr := h.pr
  have same : ∀ k, k < A.heap.size → k < w.heap.size + 3 → k ≠ br → C.heap[k]? = A.heap[k]? := fun k h1 h2 h3 => hg.block k h1 (fun e => by rcases hr k e.symm with h9 | h9 <;> omega)
  have l4 := h.b4.lt
  have l5 := h.b5.lt
  have hsz := h.g.size
  refine ⟨⟨hg.os.trans h.g.os, hg.tape.trans h.g.tape, hg.output.trans h.g.output, Nat.le_trans h.g.size hg.size, fun k hk hk2 => (same k (by omega) (by omega) (fun e => hk2 (by rw [e]))).trans (h.g.block k hk hk2)⟩, ?_, ?_, h.b4.sameB hg.size (same _ l4 (by omega) (by omega)), h.b5.sameB hg.size (same _ l5 (by omega) (by omega)), hpr⟩
  · exact h.r.later (ex := fun k => k = br) (B := pr + 1) ⟨hg.size, fun k hk hk2 => same k (by omega) (by omega) hk2⟩ hv (by omega) ⟨by omega, fun b hb => by omega⟩
  · have hb := same w.heap.size (by omega) (by omega) (by omega)
    have := h.b2
    simpa [World.cell?, hb] using this
theorem Seeing.box {w W : World} {pr br : Nat} {sa : Option Addr} {n cap sk lo : Nat} {f : Nat → Cel} {lk bd lk' bd' o : Nat} {fc fc' : Bool} {v : Value} (h : Seeing w W pr br sa n cap sk lo f lk bd fc) (hb : SightAt (W.setCell ⟨w.heap.size + 2, o, none⟩ v) (w.heap.size + 2) lk' bd' fc') : Seeing w (W.setCell ⟨w.heap.size + 2, o, none⟩ v) pr br sa n cap sk lo f lk' bd' fc' := by
  have hne := h.r.ne
  have hpr := h.pr
  have hk : KeptEx (fun k => k = w.heap.size + 2) W (W.setCell ⟨w.heap.size + 2, o, none⟩ v) (w.heap.size + 2) := kept_set
  have hs : (W.setCell ⟨w.heap.size + 2, o, none⟩ v).heap.size = W.heap.size := by simp [World.setCell]
  refine ⟨⟨h.g.os, h.g.tape, h.g.output, by rw [hs]; exact h.g.size, fun k h1 h2 => (hk.block k (by omega) (by omega)).trans (h.g.block k h1 h2)⟩, h.r.later hk (h.r.ready.keptEx hk (by omega) (by omega)) (by omega) ⟨by omega, fun b hb => by omega⟩, by rw [hk.cell (by omega) (by omega)]; exact h.b2, h.b4.sameB (by rw [hs]; exact Nat.le_refl _) (hk.block _ (by omega) (by omega)), hb, hpr⟩
theorem sight_new (W : World) (lk bd : Nat) (fc : Bool) (ty : TypeId) : SightAt (W.alloc (.cells #[.int .i64 (lk : Int), .int .i64 (bd : Int), .bool fc] ty)) W.heap.size lk bd fc :=
  ⟨by rw [World.cell?_alloc_mark]; rfl, by rw [World.cell?_alloc_mark]; rfl, by rw [World.cell?_alloc_mark]; rfl, fun i => frozen_of_row _ _ _ _ _ (heap_alloc_new W _), by simp⟩
theorem SightAt.later {W V : World} {p lk bd : Nat} {fc : Bool} (h : SightAt W p lk bd fc) (hb : Below W.heap.size W V) : SightAt V p lk bd fc := h.sameB hb.size (hb.block p h.lt)
/-- The boxes are laid, nothing is seen yet. -/
theorem see_new (w : World) (pr br : Nat) (sa : Option Addr) (n cap sk lo : Nat) (f : Nat → Cel) (t : ByteArray) (T1 T2 T3 : TypeId) (hR : BackAt w pr br sa n cap sk lo f) (hpr : pr < w.heap.size) :
    ∃ V, V = (((((w.alloc (.cells #[.pointer (some ⟨pr, 0, none⟩)] T1)).alloc (.cells #[.int .i64 0, .int .i64 0, .bool false] T2)).alloc (.cells #[.int .i64 0, .int .i64 0, .bool true] T2)).alloc (.cells #[.pointer (some ⟨pr, 0, none⟩)] T1)).alloc (.cells #[.string t] T3)) ∧
      V.heap.size = w.heap.size + 5 ∧ Seeing w V pr br sa n cap sk lo f 0 0 true ∧ V.cell? ⟨w.heap.size + 3, 0, none⟩ = some (.pointer (some ⟨pr, 0, none⟩)) ∧ V.cell? ⟨w.heap.size + 4, 0, none⟩ = some (.string t) := by
  refine ⟨_, rfl, ?_⟩
  have step : ∀ (W : World) (o : Obj), Below W.heap.size W (W.alloc o) := fun W o => (Below.refl _ _).alloc (Nat.le_refl _) _
  obtain ⟨W1, h1⟩ : ∃ W, w.alloc (.cells #[.pointer (some ⟨pr, 0, none⟩)] T1) = W := ⟨_, rfl⟩
  have s1 : W1.heap.size = w.heap.size + 1 := by rw [← h1]; simp
  have b1 : Below w.heap.size w W1 := by rw [← h1]; exact step w _
  have c1 : W1.cell? ⟨w.heap.size, 0, none⟩ = some (.pointer (some ⟨pr, 0, none⟩)) := by rw [← h1, World.cell?_alloc_mark]; rfl
  rw [h1]
  have i2 := sight_new W1 0 0 false T2
  obtain ⟨W2, h2⟩ : ∃ W, W1.alloc (.cells #[.int .i64 0, .int .i64 0, .bool false] T2) = W := ⟨_, rfl⟩
  have s2 : W2.heap.size = w.heap.size + 2 := by rw [← h2]; simp [s1]
  have b2 : Below W1.heap.size W1 W2 := by rw [← h2]; exact step W1 _
  have i2' : SightAt W2 (w.heap.size + 1) 0 0 false := by rw [← s1, ← h2]; exact i2
  rw [h2]
  have i3 := sight_new W2 0 0 true T2
  obtain ⟨W3, h3⟩ : ∃ W, W2.alloc (.cells #[.int .i64 0, .int .i64 0, .bool true] T2) = W := ⟨_, rfl⟩
  have s3 : W3.heap.size = w.heap.size + 3 := by rw [← h3]; simp [s2]
  have b3 : Below W2.heap.size W2 W3 := by rw [← h3]; exact step W2 _
  have i3' : SightAt W3 (w.heap.size + 2) 0 0 true := by rw [← s2, ← h3]; exact i3
  rw [h3]
  obtain ⟨W4, h4⟩ : ∃ W, W3.alloc (.cells #[.pointer (some ⟨pr, 0, none⟩)] T1) = W := ⟨_, rfl⟩
  have s4 : W4.heap.size = w.heap.size + 4 := by rw [← h4]; simp [s3]
  have b4 : Below W3.heap.size W3 W4 := by rw [← h4]; exact step W3 _
  have c4 : W4.cell? ⟨w.heap.size + 3, 0, none⟩ = some (.pointer (some ⟨pr, 0, none⟩)) := by rw [← h4, ← s3, World.cell?_alloc_mark]; rfl
  rw [h4]
  obtain ⟨W5, h5⟩ : ∃ W, W4.alloc (.cells #[.string t] T3) = W := ⟨_, rfl⟩
  have s5 : W5.heap.size = w.heap.size + 5 := by rw [← h5]; simp [s4]
  have b5 : Below W4.heap.size W4 W5 := by rw [← h5]; exact step W4 _
  have c5 : W5.cell? ⟨w.heap.size + 4, 0, none⟩ = some (.string t) := by rw [← h5, ← s4, World.cell?_alloc_mark]; rfl
  rw [h5]
  have e35 : Below W3.heap.size W3 W5 := b4.trans (b5.mono b4.size)
  have e25 : Below W2.heap.size W2 W5 := b3.trans (e35.mono b3.size)
  have e15 : Below W1.heap.size W1 W5 := b2.trans (e25.mono b2.size)
  have e05 : Below w.heap.size w W5 := b1.trans (e15.mono b1.size)
  have hne := hR.ne
  refine ⟨s5, ⟨⟨e05.os, e05.tape, e05.output, e05.size, fun k hk _ => e05.block k hk⟩, hR.later (ex := fun _ => False) (B := w.heap.size) (KeptEx.below e05) (hR.ready.kept e05 (by omega)) hpr ⟨id, fun _ _ => id⟩, ?_, i2'.later e25, i3'.later e35, hpr⟩, ?_, c5⟩
  · rw [e15.cell (p := ⟨w.heap.size, 0, none⟩) (by rw [s1]; exact Nat.lt_succ_self _)]; exact c1
  · rw [b5.cell (p := ⟨w.heap.size + 3, 0, none⟩) (by show w.heap.size + 3 < _; omega)]; exact c4
theorem Seeing.stays {w : World} {pr br : Nat} {sa : Option Addr} {n cap sk lo : Nat} {f : Nat → Cel} {α : Type} {lk bd : List α → Nat} {fc : Bool} {Z : List α → Prop} : Stays (fun r => r = br) (fun V => Ready V br sa n cap sk lo f) (w.heap.size + 5) (fun (pre : List α) W => Seeing w W pr br sa n cap sk lo f (lk pre) (bd pre) fc ∧ Z pre) :=
  ⟨fun _ _ _ _ hs hg hr hv => ⟨hs.1.turn hg (fun r e => Or.inl (hr r e)) hv, hs.2⟩, fun s A C row hs hg hr => ⟨hs.1.turn hg (fun r e => Or.inr (by have := (hr r e).1; omega)) (by
    have hne := hs.1.r.ne
    have hpr := hs.1.pr
    have hl := hs.1.r.ready.cells.2.2
    exact hs.1.r.ready.keptEx (ex := fun _ => False) (B := br + 1) ⟨hg.size, fun k hk _ => hg.block k (by omega) (fun e => by have := (hr k e.symm).1; omega)⟩ (by omega) id), hs.2⟩⟩
/-- The sight is handed back, the loop's block is shut. -/
theorem look_end {w W : World} {pr br D : Nat} {sa : Option Addr} {n cap sk lo : Nat} {f : Nat → Cel} {lk bd : Nat} {fc : Bool} (h : Seeing w W pr br sa n cap sk lo f lk bd fc) (hD : w.heap.size + 5 ≤ D) (hK : W.heap[D]? = some (.deferred (some []))) :
    (((W.setCell ⟨w.heap.size + 1, 0, none⟩ (.int .i64 (lk : Int))).setCell ⟨w.heap.size + 1, 1, none⟩ (.int .i64 (bd : Int))).setCell ⟨w.heap.size + 1, 2, none⟩ (.bool fc)).heap[D]? = some (.deferred (some [])) ∧
    SightAt ((((W.setCell ⟨w.heap.size + 1, 0, none⟩ (.int .i64 (lk : Int))).setCell ⟨w.heap.size + 1, 1, none⟩ (.int .i64 (bd : Int))).setCell ⟨w.heap.size + 1, 2, none⟩ (.bool fc)).putObj D (.deferred none)) (w.heap.size + 1) lk bd fc ∧
    w.grownBy ((((W.setCell ⟨w.heap.size + 1, 0, none⟩ (.int .i64 (lk : Int))).setCell ⟨w.heap.size + 1, 1, none⟩ (.int .i64 (bd : Int))).setCell ⟨w.heap.size + 1, 2, none⟩ (.bool fc)).putObj D (.deferred none)) (some br) ∧
    Ready ((((W.setCell ⟨w.heap.size + 1, 0, none⟩ (.int .i64 (lk : Int))).setCell ⟨w.heap.size + 1, 1, none⟩ (.int .i64 (bd : Int))).setCell ⟨w.heap.size + 1, 2, none⟩ (.bool fc)).putObj D (.deferred none)) br sa n cap sk lo f := by
  have hne := h.r.ne
  have hpr := h.pr
  have hsz := h.g.size
  have k1 : KeptEx (fun k => k = w.heap.size + 1) W (((W.setCell ⟨w.heap.size + 1, 0, none⟩ (.int .i64 (lk : Int))).setCell ⟨w.heap.size + 1, 1, none⟩ (.int .i64 (bd : Int))).setCell ⟨w.heap.size + 1, 2, none⟩ (.bool fc)) (D + 1) := (kept_set.trans kept_set).trans kept_set
  have s1 : SightAt (((W.setCell ⟨w.heap.size + 1, 0, none⟩ (.int .i64 (lk : Int))).setCell ⟨w.heap.size + 1, 1, none⟩ (.int .i64 (bd : Int))).setCell ⟨w.heap.size + 1, 2, none⟩ (.bool fc)) (w.heap.size + 1) lk bd fc := ((h.b4.set0 lk).set1 bd).set2 fc
  obtain ⟨U, hU⟩ : ∃ U, ((W.setCell ⟨w.heap.size + 1, 0, none⟩ (.int .i64 (lk : Int))).setCell ⟨w.heap.size + 1, 1, none⟩ (.int .i64 (bd : Int))).setCell ⟨w.heap.size + 1, 2, none⟩ (.bool fc) = U := ⟨_, rfl⟩
  have hos : U.os = W.os ∧ U.tape = W.tape ∧ U.output = W.output := by rw [← hU]; exact ⟨rfl, rfl, rfl⟩
  rw [hU] at k1 s1 ⊢
  have k2 : KeptEx (fun k => k = w.heap.size + 1) W (U.putObj D (.deferred none)) D := KeptEx.trans ⟨k1.size, fun k hk => k1.block k (by omega)⟩ (kept_put (Nat.le_refl _))
  refine ⟨(k1.block D (Nat.lt_succ_self _) (by omega)).trans hK, s1.sameB (by simp) (World.putObj_heap_other (by omega)), ⟨hos.1.trans h.g.os, hos.2.1.trans h.g.tape, hos.2.2.trans h.g.output, Nat.le_trans hsz k2.size, fun k hk hk2 => (k2.block k (by omega) (by omega)).trans (h.g.block k hk hk2)⟩, h.r.ready.keptEx k2 (by omega) (by omega)⟩
set_option maxRecDepth 100000 in
set_option maxHeartbeats 4000000 in
theorem look_in (m : Nat) (hm : 3 ≤ m) (pr br : Nat) (sa : Option Addr) (n cap sk lo : Nat) (f : Nat → Cel) (t : ByteArray) (w : World) (hn : n ≤ 60) (hsz : ∀ i, i < n → (f i).c.size ≤ 256) (ht : t.size ≤ 8000) (hR : BackAt w pr br sa n cap sk lo f) (hpr : pr < w.heap.size) :
    CallsIn Fence.wide m Tryz.prog 54 #[.pointer (some ⟨pr, 0, none⟩), .string t] w fun e W' => (∃ (lk bd : Nat) (fc : Bool), e = .returned (.agg #[.int .i64 (lk : Int), .int .i64 (bd : Int), .bool fc]) ∧ LookP n f t lk bd fc) ∧ w.grownBy W' (some br) ∧ Ready W' br sa n cap sk lo f := by
  have h1 : 1 ≤ m := by omega
  have hnepr := hR.ne
  have HR : Hid (BackAt w pr br sa n cap sk lo f) := hR
  refine callsIn_of_wp_marks Tryz.func54 rfl trivial ?_ rfl
  simp only [Tryz.ntmps54, List.size_toArray, List.length_cons, List.length_nil, Nat.reduceAdd, Nat.reduceSub, Array.replicate_succ, Array.replicate_zero, List.push_toArray, List.append_toArray, List.nil_append, List.cons_append]
  gi_wp2
  refine scope_wide ?_
  gi_wp2
  refine wpIn_label ?_
  gi_wp2_with (first | (gi_at_call 80; refine (fromBehind_in (m - 1) ⟨pr, 0, none⟩ t _).mono ?_; rintro e w' ⟨rfl, rfl⟩) | (refine ⟨trivial, ?_⟩; gi_at_call 80; refine (fromBehind_in (m - 1) ⟨pr, 0, none⟩ t _).mono ?_; rintro e w' ⟨rfl, rfl⟩))
  obtain ⟨V, hV, hVs, hSee, hc3, hc4⟩ := see_new w pr br sa n cap sk lo f t 57 79 9 hR hpr
  rw [← hV]
  have HSee : Hid (Seeing w V pr br sa n cap sk lo f 0 0 true) := hSee
  clear hV hSee
  refine range_turns rfl h1 (gf := 99) (lb := #[.pointer (some ⟨w.heap.size + 1 + 1 + 1, 0, none⟩), .pointer (some ⟨w.heap.size + 1 + 1 + 1 + 1, 0, none⟩)]) rfl trivial (enters_of Tryz.func99 (by kernel_rfl) rfl)
    (behind_turns (m - 1) (w.heap.size + 3) (w.heap.size + 4) (w.heap.size + 5) pr br (w.heap.size + 2) sa n cap sk lo f t V (by omega) hn hsz ht hc3 hc4 (by omega) (by omega) (by omega) (by omega) HSee.out.r)
    (fun r e => by rw [hVs]; omega) (fun W => KeptEx.refl _ _ _) (fun h k => h.trans k) (fun W l o o' hl _ _ _ => kept_put (by rw [hVs] at hl; exact hl)) (Below.refl _ _) (fun _ => rfl)
    (fun pre W => Seeing w W pr br sa n cap sk lo f (lookedL pre) (borderL n pre) true ∧ ∀ x, x ∈ pre → x.2 ≠ 0)
    (fun c pre' W => Seeing w W pr br sa n cap sk lo f (lookedL pre') (borderL n pre'.dropLast) false ∧ (c = .exit 0 ∧ ∃ pre x, pre' = pre ++ [x] ∧ x.2 = 0 ∧ ∀ y, y ∈ pre → y.2 ≠ 0))
    (by rw [hVs]; exact Seeing.stays) (fun c => by rw [hVs]; exact Seeing.stays) ⟨HSee.out, fun x hx => by cases hx⟩
    (fun x => { tmps := #[.pointer (some ⟨pr, 0, none⟩), .string t, .pointer (some ⟨w.heap.size, 0, none⟩), undef, .pointer (some ⟨w.heap.size + 1, 0, none⟩), .pointer (some ⟨w.heap.size + 1 + 1, 0, none⟩), .int .i64 (x.1 : Int), .int .u64 (x.2 : Int), .agg #[.int .i64 0, .int .i64 0, .bool true], .pointer (some ⟨pr, 0, none⟩), .string t, .func (.func 99) #[] #[.pointer (some ⟨w.heap.size + 1 + 1 + 1, 0, none⟩), .pointer (some ⟨w.heap.size + 1 + 1 + 1 + 1, 0, none⟩)], .int .i64 (x.1 : Int), .int .u64 (x.2 : Int), undef, undef, undef, undef, undef, undef, undef, undef, undef, undef, undef, undef, undef, undef, undef, undef, undef, undef, undef, undef, undef, undef, undef, undef, undef], defers := [] }) ?assign ?body ?done ?stop
  case assign =>
    intro l x W K hK
    gi_wp2
    exact hK
  case body =>
    rintro l pre ⟨x1, x2⟩ W ⟨hS, hnz⟩ hlen
    have HS : Hid (Seeing w W pr br sa n cap sk lo f (lookedL pre) (borderL n pre) true) := hS
    have HNZ : Hid (∀ y, y ∈ pre → y.2 ≠ 0) := hnz
    have HPR : Hid (pr < w.heap.size ∧ br < pr) := ⟨hpr, hnepr⟩
    have i1 := hS.b5.set0 x1
    have S1 : Hid (Seeing w (W.setCell ⟨w.heap.size + 1 + 1, 0, none⟩ (.int .i64 (x1 : Int))) pr br sa n cap sk lo f x1 (borderL n pre) true) := hS.box i1
    have c0 : W.cell? ⟨w.heap.size + 1 + 1, 0, none⟩ = some (.int .i64 ((lookedL pre : Nat) : Int)) := hS.b5.c0
    have f0 : W.frozen? ⟨w.heap.size + 1 + 1, 0, none⟩ = false := hS.b5.f 0
    have KF : ∀ (A : World) (o : Nat) (v : Value), KeepsFrom V.heap.size A (A.setCell ⟨w.heap.size + 1 + 1, o, none⟩ v) ∧ KeptEx (fun k => k = w.heap.size + 2) A (A.setCell ⟨w.heap.size + 1 + 1, o, none⟩ v) (w.heap.size + 5) := fun A o v => ⟨(KeepsOthers.setCell _ _ _).from _, kept_set⟩
    have HKF : Hid (∀ (A : World) (o : Nat) (v : Value), KeepsFrom V.heap.size A (A.setCell ⟨w.heap.size + 1 + 1, o, none⟩ v) ∧ KeptEx (fun k => k = w.heap.size + 2) A (A.setCell ⟨w.heap.size + 1 + 1, o, none⟩ v) (w.heap.size + 5)) := KF
    clear hS hnz KF hpr hnepr i1
    by_cases hz : x2 = 0
    · subst hz
      have i2 := S1.out.b5.set2 false
      have S2 : Hid (Seeing w ((W.setCell ⟨w.heap.size + 1 + 1, 0, none⟩ (.int .i64 (x1 : Int))).setCell ⟨w.heap.size + 1 + 1, 2, none⟩ (.bool false)) pr br sa n cap sk lo f x1 (borderL n pre) false) := S1.out.box i2
      have c2 : (W.setCell ⟨w.heap.size + 1 + 1, 0, none⟩ (.int .i64 (x1 : Int))).cell? ⟨w.heap.size + 1 + 1, 2, none⟩ = some (.bool true) := S1.out.b5.c2
      have f2 : (W.setCell ⟨w.heap.size + 1 + 1, 0, none⟩ (.int .i64 (x1 : Int))).frozen? ⟨w.heap.size + 1 + 1, 2, none⟩ = false := S1.out.b5.f 2
      clear i2
      gi_wp2
      exact ⟨(HKF.out _ _ _).1.trans (HKF.out _ _ _).1, by rw [lookedL_app, List.dropLast_concat]; exact S2.out, rfl, pre, (x1, 0), rfl, rfl, HNZ.out⟩
    · have hzi : ¬ (x2 : Int) = 0 := by omega
      have hzb : ((x2 : Int) == 0) = false := beq_eq_false_iff_ne.2 hzi
      have hand := and_low x2
      have S1o := S1.out
      have d2 : (W.setCell ⟨w.heap.size + 1 + 1, 0, none⟩ (.int .i64 (x1 : Int))).cell? ⟨w.heap.size, 0, none⟩ = some (.pointer (some ⟨pr, 0, none⟩)) := S1o.b2
      have dp : (W.setCell ⟨w.heap.size + 1 + 1, 0, none⟩ (.int .i64 (x1 : Int))).cell? ⟨pr, 0, none⟩ = some (.pointer (some ⟨br, 0, none⟩)) := S1o.r.p0
      have db : (W.setCell ⟨w.heap.size + 1 + 1, 0, none⟩ (.int .i64 (x1 : Int))).cell? ⟨br, 0, none⟩ = some (.slice sa n cap) := S1o.r.ready.c0
      have HAPP : Hid (∀ y, y ∈ pre ++ [(x1, x2)] → y.2 ≠ 0) := fun y hy => by
        rcases List.mem_append.1 hy with h | h
        · exact HNZ.out y h
        · obtain rfl : y = (x1, x2) := by simpa using h
          exact hz
      obtain ⟨r, hr⟩ : ∃ r, x2 % 2 = r := ⟨_, rfl⟩
      have HRR : Hid (x2 % 2 = r) := hr
      have hr2 : r < 2 := by omega
      rw [hr] at hand
      clear S1o hr
      by_cases hr1 : r = 1
      · subst hr1
        by_cases hxn : x1 < n
        · have hxi : (x1 : Int) < (n : Int) := by omega
          have i2 := S1.out.b5.set1 x1
          have S2 : Hid (Seeing w ((W.setCell ⟨w.heap.size + 1 + 1, 0, none⟩ (.int .i64 (x1 : Int))).setCell ⟨w.heap.size + 1 + 1, 1, none⟩ (.int .i64 (x1 : Int))) pr br sa n cap sk lo f x1 x1 true) := S1.out.box i2
          have c1 : (W.setCell ⟨w.heap.size + 1 + 1, 0, none⟩ (.int .i64 (x1 : Int))).cell? ⟨w.heap.size + 1 + 1, 1, none⟩ = some (.int .i64 ((borderL n pre : Nat) : Int)) := S1.out.b5.c1
          have f1 : (W.setCell ⟨w.heap.size + 1 + 1, 0, none⟩ (.int .i64 (x1 : Int))).frozen? ⟨w.heap.size + 1 + 1, 1, none⟩ = false := S1.out.b5.f 1
          clear i2
          gi_wp2
          exact ⟨(HKF.out _ _ _).1.trans (HKF.out _ _ _).1, (HKF.out _ _ _).2.trans (HKF.out _ _ _).2, by rw [lookedL_app, borderL_app, if_pos ⟨HRR.out, hxn⟩]; exact S2.out, HAPP.out⟩
        · have hxi : ¬ (x1 : Int) < (n : Int) := by omega
          gi_wp2
          have hK9 := (HKF.out W 0 (.int .i64 (x1 : Int)))
          have hS9 : Seeing w (W.setCell ⟨w.heap.size + 1 + 1, 0, none⟩ (.int .i64 (x1 : Int))) pr br sa n cap sk lo f (lookedL (pre ++ [(x1, x2)])) (borderL n (pre ++ [(x1, x2)])) true := by rw [lookedL_app, borderL_app, if_neg (fun h => hxn h.2)]; exact S1.out
          first
            | exact ⟨hK9.1, hK9.2, hS9, HAPP.out⟩
            | (rw [hVs] at hK9; exact ⟨hK9.1, hK9.2, hS9, fun a b h => HAPP.out (a, b) h⟩)
      · obtain rfl : r = 0 := by omega
        gi_wp2
        have hK9 := (HKF.out W 0 (.int .i64 (x1 : Int)))
        have hS9 : Seeing w (W.setCell ⟨w.heap.size + 1 + 1, 0, none⟩ (.int .i64 (x1 : Int))) pr br sa n cap sk lo f (lookedL (pre ++ [(x1, x2)])) (borderL n (pre ++ [(x1, x2)])) true := by rw [lookedL_app, borderL_app, if_neg (fun h => by have := HRR.out; have := h.1; omega)]; exact S1.out
        first
          | exact ⟨hK9.1, hK9.2, hS9, HAPP.out⟩
          | (rw [hVs] at hK9; exact ⟨hK9.1, hK9.2, hS9, fun a b h => HAPP.out (a, b) h⟩)
  case done =>
    rintro D ys W hD rfl ⟨hS, hnz⟩ hK
    have HL := look_all (f := f) hn hnz
    have HLP : Hid (LookP n f t (lookedL (uptoB n f t t.size)) (borderL n (uptoB n f t t.size)) true) := HL
    have HS : Hid (Seeing w W pr br sa n cap sk lo f (lookedL (uptoB n f t t.size)) (borderL n (uptoB n f t t.size)) true) := hS
    generalize lookedL (uptoB n f t t.size) = lk at *
    generalize borderL n (uptoB n f t t.size) = bd at *
    have c0 : W.cell? ⟨w.heap.size + 1 + 1, 0, none⟩ = some (.int .i64 (lk : Int)) := hS.b5.c0
    have c1 : W.cell? ⟨w.heap.size + 1 + 1, 1, none⟩ = some (.int .i64 (bd : Int)) := hS.b5.c1
    have c2 : W.cell? ⟨w.heap.size + 1 + 1, 2, none⟩ = some (.bool true) := hS.b5.c2
    have d0 := hS.b4.c0
    have d1 := hS.b4.c1
    have d2 := hS.b4.c2
    have g0 := hS.b4.f 0
    have g1 := hS.b4.f 1
    have g2 := hS.b4.f 2
    clear hS hnz HL
    gi_wp2
    obtain ⟨hK2, hS4, hg4, hr4⟩ := look_end HS.out (by omega) hK
    have q0 := hS4.c0
    have q1 := hS4.c1
    have q2 := hS4.c2
    refine ⟨by simp, .inl ⟨_, _, rfl, run_takeDeferred hK2, ?_⟩⟩
    exact ⟨.agg #[.int .i64 (lk : Int), .int .i64 (bd : Int), .bool true], by simp [results, Tryz.results54, go_sem, q0, q1, q2], ⟨lk, bd, true, rfl, HLP.out⟩, hg4, hr4⟩
  case stop =>
    rintro D c pre' W hD ⟨k, hk, rfl⟩ ⟨hS, rfl, pre, x, he, hx0, hnz⟩ hK
    have HL := look_less (f := f) hn hk he.symm hx0 hnz
    have e1 : lookedL (uptoB n f t k) = x.1 := by rw [he, lookedL_app]
    have e2 : borderL n (uptoB n f t k).dropLast = borderL n pre := by rw [he, List.dropLast_concat]
    rw [e1, e2] at hS
    have HLP : Hid (LookP n f t x.1 (borderL n pre) false) := HL
    have HS : Hid (Seeing w W pr br sa n cap sk lo f x.1 (borderL n pre) false) := hS
    clear HL he e1 e2 hx0 hnz
    generalize x.1 = lk at *
    generalize borderL n pre = bd at *
    have c0 : W.cell? ⟨w.heap.size + 1 + 1, 0, none⟩ = some (.int .i64 (lk : Int)) := hS.b5.c0
    have c1 : W.cell? ⟨w.heap.size + 1 + 1, 1, none⟩ = some (.int .i64 (bd : Int)) := hS.b5.c1
    have c2 : W.cell? ⟨w.heap.size + 1 + 1, 2, none⟩ = some (.bool false) := hS.b5.c2
    have d0 := hS.b4.c0
    have d1 := hS.b4.c1
    have d2 := hS.b4.c2
    have g0 := hS.b4.f 0
    have g1 := hS.b4.f 1
    have g2 := hS.b4.f 2
    clear hS
    gi_wp2
    obtain ⟨hK2, hS4, hg4, hr4⟩ := look_end HS.out (by omega) hK
    have q0 := hS4.c0
    have q1 := hS4.c1
    have q2 := hS4.c2
    refine ⟨by simp, .inl ⟨_, _, rfl, run_takeDeferred hK2, ?_⟩⟩
    exact ⟨.agg #[.int .i64 (lk : Int), .int .i64 (bd : Int), .bool false], by simp [results, Tryz.results54, go_sem, q0, q1, q2], ⟨lk, bd, false, rfl, HLP.out⟩, hg4, hr4⟩
end Go.Proofs.YtfeolbgenpknfaaGreat
