/- What is proved here: the program's Windows hands back the windows of a text, in order, in new memory; nothing that was there turns. -/
import Derived.Test.YtfeolbgenpknfaaGreatQWinMToWinSeqW
import Derived.Test.YtfeolbgenpknfaaGreatQIntRowWToSpecGoesW
import Derived.Test.YtfeolbgenpknfaaGreatQPlainWToImplFactorW
import Derived.RangeFuncBox
namespace Go.Proofs.YtfeolbgenpknfaaGreat
open Go.RowKit Go.Shelf

attribute [local go_sem] Oper.semAt_some

theorem cell_put {W : World} {l : Nat} {o o' : Obj} {p : Addr} {v : Value} (h : W.cell? p = some v) (hl : W.heap[l]? = some o) (ho : o.isCells = false) : (W.putObj l o').cell? p = some v := by
  refine (grownBy_putObj' W l o').cell h (fun e => ?_)
  obtain rfl : p.block = l := by injection e
  cases o <;> simp [Obj.isCells] at ho <;> simp [World.cell?, hl] at h
theorem kept_low {W : World} {l B : Nat} {o : Obj} (h : B ≤ l) (_ : B ≤ W.heap.size) : Below B W (W.putObj l o) := ⟨rfl, rfl, rfl, by simp, fun k hk => World.putObj_heap_other (by omega)⟩
/-- What is held while windows are gathered. -/
def Gath (w : World) (po : Nat) (pre : List ((Nat × Nat × Nat) × Bool)) (W : World) : Prop := (∃ v, Go.Boxed W po 32 v ∧ W.ownsRow (po + 3) 47 3 v (pre.map Prod.fst).length (wcells (pre.map Prod.fst)) ∧ True) ∧ Below w.heap.size w W ∧ po + 3 ≤ W.heap.size
theorem Gath.stays {w : World} {po br : Nat} {Inv : World → Prop} (h1 : w.heap.size ≤ br) (h2 : br < po) : Stays (fun r => r = br) Inv (po + 3) (Gath w po) :=
  ⟨fun s A B row ⟨⟨v, hv, hr, _⟩, hb, hz⟩ hg hrow _ => ⟨⟨v, hv.kept hg (fun e => by have := hrow _ e.symm; omega), hr.kept hg (by
      cases ho : v.ownBlock with
      | none => exact .inl rfl
      | some k => exact .inr (fun e => by have h9 := (World.ownsRow.lt hr k ho).1; have := hrow _ e.symm; omega)), trivial⟩, hb.trans ⟨hg.os, hg.tape, hg.output, hg.size, fun k hk => hg.block k (Nat.lt_of_lt_of_le hk hb.size) (fun e => by have := hrow _ e.symm; omega)⟩, Nat.le_trans hz hg.size⟩,
   fun s A C row ⟨hx, hb, hz⟩ hg hrow => ⟨holdsRow_own (po + 3) po 32 47 3 (fun s : List ((Nat × Nat × Nat) × Bool) => (s.map Prod.fst).length) (fun s => wcells (s.map Prod.fst)) (fun _ _ => True) s A C row hx hg (fun r e => (hrow r e).2), hb.trans ⟨hg.os, hg.tape, hg.output, hg.size, fun k hk => hg.block k (Nat.lt_of_lt_of_le hk hb.size) (fun e => by have := (hrow _ e.symm).1; omega)⟩, Nat.le_trans hz hg.size⟩⟩
/-- A window is put behind: all that is owed. -/
theorem Gath.step {w W w2 : World} {po : Nat} {pre : List ((Nat × Nat × Nat) × Bool)} {x : (Nat × Nat × Nat) × Bool} {v v' : Value} {tmp : Obj} (hb : Below w.heap.size w W) (hpo : w.heap.size ≤ po) (hW : po + 3 ≤ W.heap.size) (hv : Go.Boxed W po 32 v) (hr : W.ownsRow (po + 3) 47 3 v (pre.map Prod.fst).length (wcells (pre.map Prod.fst)))
    (hown : w2.ownsRow (po + 3) 47 3 v' ((pre.map Prod.fst).length + 1) (wcells (pre.map Prod.fst) ++ [.int .i64 (x.1.1 : Int), .int .i64 (x.1.2.1 : Int), .int .i64 (x.1.2.2 : Int)])) (hg : (W.alloc tmp).grownBy w2 v.ownBlock) :
    w2.cell? ⟨po, 0, none⟩ = some v ∧ w2.frozen? ⟨po, 0, none⟩ = false ∧ KeepsFrom (po + 3) W (w2.setCell ⟨po, 0, none⟩ v') ∧ KeptEx (fun k => k = po) W (w2.setCell ⟨po, 0, none⟩ v') (po + 3) ∧ Gath w po (pre ++ [x]) (w2.setCell ⟨po, 0, none⟩ v') := by
  obtain ⟨a1, a2, a3, a4, a5⟩ := Go.Boxed.appended (n₀ := po) hv (by decide) (ints_low hr (by omega)) (by omega) (Nat.le_refl _) (ints_low hown (by omega)) hg
  have hkx : KeptEx (fun k => k = po) W (w2.setCell ⟨po, 0, none⟩ v') (po + 3) := by
    refine ⟨a5.size, fun k hk hne => ?_⟩
    rw [Below.heap_setCell _ _ _ _ (by show k ≠ po; exact hne)]
    refine (hg.block k (by simp; omega) (fun e => ?_)).trans (Below.heap_alloc _ _ _ (by omega))
    have := (World.ownsRow.lt hr k e.symm).1
    omega
  refine ⟨a1.cell, a1.frozen, a4.from _, hkx, ⟨v', a2, ?_, trivial⟩, hb.trans (a5.mono hpo), Nat.le_trans hW a5.size⟩
  have h9 : (w2.setCell ⟨po, 0, none⟩ v').ownsRow (po + 3) 47 3 v' ((pre.map Prod.fst).length + 1) (wcells (pre.map Prod.fst) ++ [.int .i64 (x.1.1 : Int), .int .i64 (x.1.2.1 : Int), .int .i64 (x.1.2.2 : Int)]) := by
    refine hown.kept (grownBy_setCell' w2 po v') ?_
    cases ho : v'.ownBlock with
    | none => exact .inl rfl
    | some k => exact .inr (fun e => by have h9 := (World.ownsRow.lt hown k ho).1; injection e with e; omega)
  rw [List.map_append, wcells_append, List.length_append]
  exact h9
/-- A window lies in a box. -/
def WinAt (W : World) (q : Nat) (x : Nat × Nat × Nat) : Prop := W.cell? ⟨q, 0, none⟩ = some (.int .i64 (x.1 : Int)) ∧ W.cell? ⟨q, 1, none⟩ = some (.int .i64 (x.2.1 : Int)) ∧ W.cell? ⟨q, 2, none⟩ = some (.int .i64 (x.2.2 : Int))
theorem WinAt.put {W : World} {q : Nat} {x : Nat × Nat × Nat} {l : Nat} {o : Obj} (h : WinAt W q x) (o' : Obj) (hl : W.heap[l]? = some o) (ho : o.isCells = false) : WinAt (W.putObj l o') q x := ⟨cell_put h.1 hl ho, cell_put h.2.1 hl ho, cell_put h.2.2 hl ho⟩
/-- The boxes are laid, nothing is gathered yet. -/
theorem gath_new (w w1 : World) (pr br : Nat) (sa : Option Addr) (n cap sk lo : Nat) (f : Nat → Cel) (t : ByteArray) (T1 T3 : TypeId) (hb : Below w.heap.size w w1) (hR : BackAt w1 pr br sa n cap sk lo f) (hpr : pr < w1.heap.size) :
    ∃ V, V = ((w1.alloc (.cells #[.slice none 0 0] 32)).alloc (.cells #[.pointer (some ⟨pr, 0, none⟩)] T1)).alloc (.cells #[.string t] T3) ∧
      V.heap.size = w1.heap.size + 3 ∧ Gath w w1.heap.size [] V ∧ BackAt V pr br sa n cap sk lo f ∧ V.cell? ⟨w1.heap.size + 1, 0, none⟩ = some (.pointer (some ⟨pr, 0, none⟩)) ∧ V.cell? ⟨w1.heap.size + 2, 0, none⟩ = some (.string t) := by
  refine ⟨_, rfl, by simp, ?_⟩
  have bO := Go.Boxed.new w1 32 (.slice none 0 0)
  have bP := Go.Boxed.new (w1.alloc (.cells #[.slice none 0 0] 32)) T1 (.pointer (some ⟨pr, 0, none⟩))
  have bT := Go.Boxed.new ((w1.alloc (.cells #[.slice none 0 0] 32)).alloc (.cells #[.pointer (some ⟨pr, 0, none⟩)] T1)) T3 (.string t)
  rw [World.size_alloc] at bP
  rw [World.size_alloc, World.size_alloc] at bT
  have h0 : Below w1.heap.size w1 (((w1.alloc (.cells #[.slice none 0 0] 32)).alloc (.cells #[.pointer (some ⟨pr, 0, none⟩)] T1)).alloc (.cells #[.string t] T3)) := (((Below.refl _ w1).alloc (Nat.le_refl _) _).alloc (by simp) _).alloc (by simp; omega) _
  have hne := hR.ne
  refine ⟨⟨⟨_, (bO.alloc _).alloc _, ⟨rfl, .inl ⟨rfl, rfl⟩⟩, trivial⟩, hb.trans (h0.mono hb.size), by simp⟩, hR.later (ex := fun _ => False) (B := w1.heap.size) (KeptEx.below h0) (hR.ready.kept h0 (by omega)) hpr ⟨id, fun _ _ => id⟩, (bP.alloc _).cell, bT.cell⟩
set_option maxRecDepth 100000 in
set_option maxHeartbeats 4000000 in
theorem implWin_in (m : Nat) (hm : 6 ≤ m) (sa : Option Addr) (n cap : Nat) (f : Nat → Cel) (t : ByteArray) (w : World) (hn : n ≤ maxLen) (hr : CRow w w.heap.size sa n f) (hc : ∀ i, i < n → (f i).c.size ≤ maxLen) (ht : t.size ≤ 8000) (h60 : n ≤ 60) (hP : PlainP n f) :
    CallsIn Fence.wide m Tryz.prog 9 #[.slice sa n cap, .string t] w fun e w' => ∃ k, LastW n f t h60 k ∧ NewWins w ((uptoW n f t h60 k).map Prod.fst) e w' := by
  obtain ⟨i0, hi, hz0, hz1, hz2⟩ := info_parts Tryz.winInfo
  have h1 : 1 ≤ m := by omega
  have hti : ¬ (8000 : Int) < (t.size : Int) := by omega
  have C := backRowOf_yes sa n cap f w hn hr hc hP
  have HP : Hid (PlainP n f) := hP
  clear hn hr hc hP
  refine callsIn_of_wp_marks Tryz.func9 rfl trivial ?_ rfl
  simp only [Tryz.ntmps9, List.size_toArray, List.length_cons, List.length_nil, Nat.reduceAdd, Nat.reduceSub, Array.replicate_succ, Array.replicate_zero, List.push_toArray, List.append_toArray, List.nil_append, List.cons_append]
  gi_wp2_with (first | (gi_at_call 35; refine (callsIn_wide.2 C).mono ?_; rintro e w1 ⟨pr, br, rfl, sk, lo, hbl, hpl, hb, hba⟩; have HB : Hid (Below w.heap.size w w1 ∧ w.heap.size ≤ br ∧ pr < w1.heap.size ∧ BackAt w1 pr br sa n cap sk lo f) := ⟨hb, hbl, hpl, hba⟩; clear hb hbl hpl hba C) | (refine ⟨trivial, ?_⟩; gi_at_call 35; refine (callsIn_wide.2 C).mono ?_; rintro e w1 ⟨pr, br, rfl, sk, lo, hbl, hpl, hb, hba⟩; have HB : Hid (Below w.heap.size w w1 ∧ w.heap.size ≤ br ∧ pr < w1.heap.size ∧ BackAt w1 pr br sa n cap sk lo f) := ⟨hb, hbl, hpl, hba⟩; clear hb hbl hpl hba C))
  gi_wp2_with (first | (gi_at_call 36; refine (windows_in (m - 1) ⟨pr, 0, none⟩ t _).mono ?_; rintro e w' ⟨rfl, rfl⟩) | (refine ⟨trivial, ?_⟩; gi_at_call 36; refine (windows_in (m - 1) ⟨pr, 0, none⟩ t _).mono ?_; rintro e w' ⟨rfl, rfl⟩))
  obtain ⟨V, hV, hVs, hG, hBV, hc1, hc2⟩ := gath_new w w1 pr br sa n cap sk lo f t 57 9 HB.out.1 HB.out.2.2.2 HB.out.2.2.1
  rw [← hV]
  clear hV
  obtain ⟨po, hpo⟩ : ∃ po, w1.heap.size = po := ⟨_, rfl⟩
  have HPO : Hid (pr < po ∧ br < pr ∧ w.heap.size ≤ br) := by show _ ∧ _; rw [← hpo]; exact ⟨HB.out.2.2.1, HB.out.2.2.2.ne, HB.out.2.1⟩
  rw [hpo] at hVs hG hc1 hc2 ⊢
  clear hpo
  have HG : Hid (Gath w po [] V) := hG
  have hpo1 := HPO.out.1
  have hpo2 := HPO.out.2.1
  have hpo3 := HPO.out.2.2
  clear hG
  refine range_turnsA rfl h1 (gf := 68) (lb := #[.pointer (some ⟨po + 1, 0, none⟩), .pointer (some ⟨po + 2, 0, none⟩)]) rfl trivial (enters_of Tryz.func68 (by kernel_rfl) rfl)
    (windows_turns (m - 1) (po + 1) (po + 2) (po + 3) pr br po sa n cap sk lo f t h60 V (by omega) HP.out.1.1 (cels_max HP.out.1) ht hc1 hc2 (by omega) (by omega) (by omega) (by omega) hBV)
    (fun r e => by rw [hVs]; omega) (fun h k => h.trans k) (fun W l o o' hl _ _ _ => kept_put (by rw [hVs] at hl; exact hl)) (Below.refl _ _) (fun _ => rfl)
    (Gath w po) (fun _ _ _ => False) (by rw [hVs]; exact Gath.stays hpo3 (by omega)) (fun _ => ⟨fun _ _ _ _ h _ _ _ => h, fun _ _ _ _ h _ _ => h⟩) HG.out
    (fun x a' W => ∃ q : Nat, a' = { tmps := #[.slice sa n cap, .string t, undef, undef, .slice none 0 0, .pointer (some ⟨pr, 0, none⟩), .pointer (some ⟨po, 0, none⟩), .pointer (some ⟨q, 0, none⟩), .string t, .int .i64 (t.size : Int), .bool false, .slice sa n cap, .pointer (some ⟨pr, 0, none⟩), .pointer (some ⟨pr, 0, none⟩), .bool false, .pointer (some ⟨pr, 0, none⟩), .string t, .func (.func 68) #[] #[.pointer (some ⟨po + 1, 0, none⟩), .pointer (some ⟨po + 1 + 1, 0, none⟩)], .agg #[.int .i64 (x.1.1 : Int), .int .i64 (x.1.2.1 : Int), .int .i64 (x.1.2.2 : Int)], .bool x.2, undef, undef, undef, undef, undef], defers := [] } ∧ WinAt W q x.1)
    (fun x a' W l o o' ⟨q, h1, h2⟩ _ hl ho => ⟨q, h1, h2.put o' hl ho⟩) ?assign ?body ?done ?stop
  case assign =>
    intro l pre x W K hI hK
    gi_wp2
    refine hK _ _ ?_ ?_ ?_ ⟨_, rfl, ?_⟩
    · exact (KeepsOthers.alloc _ _).from _
    · have h9 := hI.2.2
      exact ⟨by simp, fun k hk _ => Below.heap_alloc _ _ _ (by omega)⟩
    · exact (Gath.stays (Inv := fun _ => True) hpo3 (by omega)).new _ hI
    · exact ⟨by rw [World.cell?_alloc_mark]; rfl, by rw [World.cell?_alloc_mark]; rfl, by rw [World.cell?_alloc_mark]; rfl⟩
  case body =>
    rintro l pre ⟨⟨x1, x2, x3⟩, xb⟩ a' W ⟨⟨v, hv, hr, _⟩, hb, hWs⟩ ⟨q, rfl, hw0, hw1, hw2⟩ hlen
    have hHV : Hid (Go.Boxed W po 32 v) := hv
    have hHR : Hid (W.ownsRow (po + 3) 47 3 v (pre.map Prod.fst).length (wcells (pre.map Prod.fst))) := hr
    have hHB : Hid (Below w.heap.size w W ∧ po + 3 ≤ W.heap.size) := ⟨hb, hWs⟩
    have cv := hv.cell
    clear hv hb
    gi_wp2_with (gi_at_builtin; refine wpListIn_append_own _ rfl _ _ 32 rfl (po + 3) 47 i0 (.agg #[.int .i64 0, .int .i64 0, .int .i64 0]) 3 24 Tryz.underlying32 hi hz0 hz1 hz2 rfl (by decide) _ _ _ rfl (hr.alloc _) ⟨W.heap.size, 0, none⟩ 1 1 [.int .i64 (x1 : Int), .int .i64 (x2 : Int), .int .i64 (x3 : Int)] rfl rfl ?c1 ?c2 ?c3 ?c4 ?c5 ?_)
    case c2 => exact ⟨rfl, rfl, rfl⟩
    case c3 => unfold maxLen; omega
    case c4 => omega
    case c5 => omega
    intro v' w2 hown hgrow _
    have hown' : w2.ownsRow (po + 3) 47 3 v' ((pre.map Prod.fst).length + 1) (wcells (pre.map Prod.fst) ++ [.int .i64 (x1 : Int), .int .i64 (x2 : Int), .int .i64 (x3 : Int)]) := by rw [List.length_map]; exact hown
    obtain ⟨d1, d2, d3, d4, d5⟩ := Gath.step (x := ((x1, x2, x3), xb)) hHB.out.1 (by omega) hHB.out.2 hHV.out hHR.out hown' hgrow
    have HEND : Hid (KeepsFrom (po + 3) W (w2.setCell ⟨po, 0, none⟩ v') ∧ KeptEx (fun k => k = po) W (w2.setCell ⟨po, 0, none⟩ v') (po + 3) ∧ Gath w po (pre ++ [((x1, x2, x3), xb)]) (w2.setCell ⟨po, 0, none⟩ v')) := ⟨d3, d4, d5⟩
    have HVS : Hid (V.heap.size = po + 3) := hVs
    obtain ⟨g9, c9, rfl⟩ := ownsRow_succ hown'
    clear d3 d4 d5 hown' hown hgrow hr
    gi_wp2
    show KeepsFrom V.heap.size _ _ ∧ _ ∧ _
    rw [HVS.out]
    first | exact HEND.out | (have h9 := HEND.out; simp only [List.length_map] at h9; exact h9)
  case done =>
    rintro D ys W hD ⟨k, hk, rfl⟩ ⟨⟨v, hv, hr, _⟩, hb, hWs⟩ hK
    have HK : Hid (LastW n f t h60 k) := hk
    have cv := hv.cell
    have HR9 : Hid (W.ownsRow (po + 3) 47 3 v ((uptoW n f t h60 k).map Prod.fst).length (wcells ((uptoW n f t h60 k).map Prod.fst))) := hr
    have HB9 : Hid (Below w.heap.size w W) := hb
    clear hr hb hk hv
    gi_wp2
    refine ⟨by simp, .inl ⟨_, _, rfl, run_takeDeferred hK, ?_⟩⟩
    exact ⟨_, results_tmp rfl _ _ _, k, HK.out, v, rfl, HB9.out.trans ((kept_low (by rw [hVs] at hD; omega) HB9.out.size)), ints_low (ownsRow_putObj HR9.out _ hK rfl) (by omega)⟩
  case stop =>
    rintro D c pre W _ _ h _
    exact h.elim
/-- The windows that are told. -/
def WinP (n : Nat) (f : Nat → Cel) (t : ByteArray) (L : List (Nat × Nat × Nat)) : Prop := ((t.size ≤ 8000 ∧ PlainP n f) → ∃ (h60 : n ≤ 60) (k : Nat), LastW n f t h60 k ∧ L = (uptoW n f t h60 k).map Prod.fst) ∧ (¬ (t.size ≤ 8000 ∧ PlainP n f) → L = [])
theorem winP_one {n : Nat} {f : Nat → Cel} {t : ByteArray} {L M : List (Nat × Nat × Nat)} (h : WinP n f t L) (h' : WinP n f t M) : L = M := by
  by_cases hh : t.size ≤ 8000 ∧ PlainP n f
  · obtain ⟨h60, k, h1, rfl⟩ := h.1 hh
    obtain ⟨h60', k', h2, rfl⟩ := h'.1 hh
    obtain rfl := last_one h1 h2
    rfl
  · rw [h.2 hh, h'.2 hh]
theorem newWins_nil {w W : World} (h : Below w.heap.size w W) : NewWins w [] (.returned (.slice none 0 0)) W := ⟨_, rfl, h, rfl, .inl ⟨rfl, rfl⟩⟩
set_option maxRecDepth 100000 in
set_option maxHeartbeats 2000000 in
theorem implWin_any (sa : Option Addr) (n cap : Nat) (f : Nat → Cel) (t : ByteArray) (w : World) (hn : n ≤ maxLen) (hr : CRow w w.heap.size sa n f) (hc : ∀ i, i < n → (f i).c.size ≤ maxLen) (ht : t.size ≤ maxLen) :
    Calls Tryz.prog 9 #[.slice sa n cap, .string t] w fun e w' => ∃ L, WinP n f t L ∧ NewWins w L e w' := by
  unfold maxLen at ht
  by_cases h8 : t.size ≤ 8000
  case neg =>
    have hti : (8000 : Int) < (t.size : Int) := by omega
    have hF : Hid (WinP n f t []) := ⟨fun h => absurd h.1 h8, fun _ => rfl⟩
    clear hr hc
    go_enter Tryz.func9, Tryz.ntmps9
    go_wp2_with fail
    go_ret
    exact ⟨[], hF.out, newWins_nil (Below.refl _ _)⟩
  have hti : ¬ (8000 : Int) < (t.size : Int) := by omega
  by_cases hP : PlainP n f
  case neg =>
    have C := backRowOf_no sa n cap f w hn hr hc hP
    have hF : Hid (WinP n f t []) := ⟨fun h => absurd h.2 hP, fun _ => rfl⟩
    clear hr hc
    go_enter Tryz.func9, Tryz.ntmps9
    go_wp2_with fail
    refine C.mono ?_
    rintro e w1 ⟨rfl, hb⟩
    have HB : Hid (Below w.heap.size w w1) := hb
    clear hb C
    go_wp2_with fail
    go_ret
    exact ⟨[], hF.out, newWins_nil HB.out⟩
  refine (callsIn_wide.1 (implWin_in 6 (Nat.le_refl _) sa n cap f t w hn hr hc h8 hP.1.2.1 hP)).mono ?_
  rintro e w' ⟨k, hk, h9⟩
  exact ⟨_, ⟨fun _ => ⟨hP.1.2.1, k, hk, rfl⟩, fun h => absurd ⟨h8, hP⟩ h⟩, h9⟩
end Go.Proofs.YtfeolbgenpknfaaGreat
