/- What is proved here: the program's BackRun hands back the ends of the windows that go with the cells, in order, in new memory; nothing that was there turns. -/
import Derived.Test.YtfeolbgenpknfaaGreatQImplWinW
import Derived.Test.YtfeolbgenpknfaaGreatQIntRowWToSpecGoesW
import Derived.Test.YtfeolbgenpknfaaGreatQRowsDToVecS
namespace Go.Proofs.YtfeolbgenpknfaaGreat
open Go.RowKit Go.Shelf

attribute [local go_sem] Oper.semAt_some

/-- The ends, as they are reckoned. -/
def endsV (n : Nat) (L : List ((Nat × Nat × Nat) × Bool)) : List Int := (L.filter (fun x => x.2)).map (fun x => IntKind.i64.wrap ((x.1.1 : Int) + (n : Int)))
theorem endsV_yes {n : Nat} {L : List ((Nat × Nat × Nat) × Bool)} {x : (Nat × Nat × Nat) × Bool} (h : x.2 = true) : endsV n (L ++ [x]) = endsV n L ++ [IntKind.i64.wrap ((x.1.1 : Int) + (n : Int))] := by simp [endsV, List.filter_append, h]
theorem endsV_no {n : Nat} {L : List ((Nat × Nat × Nat) × Bool)} {x : (Nat × Nat × Nat) × Bool} (h : x.2 = false) : endsV n (L ++ [x]) = endsV n L := by simp [endsV, List.filter_append, h]
theorem endsV_len (n : Nat) (L : List ((Nat × Nat × Nat) × Bool)) : (endsV n L).length ≤ L.length := by unfold endsV; rw [List.length_map]; exact List.length_filter_le _ _
theorem endsV_last {n : Nat} {f : Nat → Cel} {t : ByteArray} {hn : n ≤ 60} {k : Nat} (ht : t.size ≤ 8000) (h : LastW n f t hn k) : endsV n (uptoW n f t hn k) = endsW n (uptoW n f t hn k) := by
  unfold endsV endsW
  refine List.map_congr_left (fun x hx => ?_)
  obtain ⟨i, hi, rfl⟩ := List.mem_map.1 (List.mem_filter.1 hx).1
  have h1 := h.1 i (List.mem_range.1 hi)
  show IntKind.i64.wrap (((posW n f t hn i : Nat) : Int) + (n : Int)) = ((posW n f t hn i + n : Nat) : Int)
  rw [IntKind.wrap_i64] <;> omega
/-- What is held while ends are gathered. -/
def GathE (w : World) (sa : Option Addr) (n cap po : Nat) (pre : List ((Nat × Nat × Nat) × Bool)) (W : World) : Prop := ((∃ v, Go.Boxed W po 26 v ∧ W.ownsRow (po + 3) 2 1 v (endsV n pre).length (icells (endsV n pre)) ∧ True) ∧ Go.Boxed W w.heap.size 23 (.slice sa n cap)) ∧ Below w.heap.size w W ∧ po + 3 ≤ W.heap.size
theorem GathE.stays {w : World} {sa : Option Addr} {n cap po br : Nat} {Inv : World → Prop} (h1 : w.heap.size < br) (h2 : br < po) : Stays (fun r => r = br) Inv (po + 3) (GathE w sa n cap po) :=
  ⟨fun s A B row ⟨⟨⟨v, hv, hr, _⟩, hc⟩, hb, hz⟩ hg hrow _ => ⟨⟨⟨v, hv.kept hg (fun e => by have := hrow _ e.symm; omega), hr.kept hg (by
      cases ho : v.ownBlock with
      | none => exact .inl rfl
      | some k => exact .inr (fun e => by have h9 := (World.ownsRow.lt hr k ho).1; have := hrow _ e.symm; omega)), trivial⟩, hc.kept hg (fun e => by have := hrow _ e.symm; omega)⟩, hb.trans ⟨hg.os, hg.tape, hg.output, hg.size, fun k hk => hg.block k (Nat.lt_of_lt_of_le hk hb.size) (fun e => by have := hrow _ e.symm; omega)⟩, Nat.le_trans hz hg.size⟩,
   fun s A C row ⟨⟨hx, hc⟩, hb, hz⟩ hg hrow => ⟨⟨holdsRow_own (po + 3) po 26 2 1 (fun s : List ((Nat × Nat × Nat) × Bool) => (endsV n s).length) (fun s => icells (endsV n s)) (fun _ _ => True) s A C row hx hg (fun r e => (hrow r e).2), hc.kept hg (fun e => by have := (hrow _ e.symm).1; omega)⟩, hb.trans ⟨hg.os, hg.tape, hg.output, hg.size, fun k hk => hg.block k (Nat.lt_of_lt_of_le hk hb.size) (fun e => by have := (hrow _ e.symm).1; omega)⟩, Nat.le_trans hz hg.size⟩⟩
/-- An end is put behind: all that is owed. -/
theorem GathE.step {w W w2 : World} {sa : Option Addr} {n cap po : Nat} {pre : List ((Nat × Nat × Nat) × Bool)} {x : (Nat × Nat × Nat) × Bool} {v v' : Value} {tmp : Obj} (hx : x.2 = true) (hb : Below w.heap.size w W) (hpo : w.heap.size < po) (hW : po + 3 ≤ W.heap.size) (hv : Go.Boxed W po 26 v) (hc : Go.Boxed W w.heap.size 23 (.slice sa n cap)) (hr : W.ownsRow (po + 3) 2 1 v (endsV n pre).length (icells (endsV n pre)))
    (hown : w2.ownsRow (po + 3) 2 1 v' ((endsV n pre).length + 1) (icells (endsV n pre) ++ [.int .i64 (IntKind.i64.wrap ((x.1.1 : Int) + (n : Int)))])) (hg : (W.alloc tmp).grownBy w2 v.ownBlock) :
    w2.cell? ⟨po, 0, none⟩ = some v ∧ w2.frozen? ⟨po, 0, none⟩ = false ∧ KeepsFrom (po + 3) W (w2.setCell ⟨po, 0, none⟩ v') ∧ KeptEx (fun k => k = po) W (w2.setCell ⟨po, 0, none⟩ v') (po + 3) ∧ GathE w sa n cap po (pre ++ [x]) (w2.setCell ⟨po, 0, none⟩ v') := by
  obtain ⟨a1, a2, a3, a4, a5⟩ := Go.Boxed.appended (n₀ := po) hv (by decide) (ints_low hr (by omega)) (by omega) (Nat.le_refl _) (ints_low hown (by omega)) hg
  have hkx : KeptEx (fun k => k = po) W (w2.setCell ⟨po, 0, none⟩ v') (po + 3) := by
    refine ⟨a5.size, fun k hk hne => ?_⟩
    rw [Below.heap_setCell _ _ _ _ (by show k ≠ po; exact hne)]
    refine (hg.block k (by simp; omega) (fun e => ?_)).trans (Below.heap_alloc _ _ _ (by omega))
    have := (World.ownsRow.lt hr k e.symm).1
    omega
  refine ⟨a1.cell, a1.frozen, a4.from _, hkx, ⟨⟨v', a2, ?_, trivial⟩, (hkx.block _ (by omega) (by omega)).trans hc⟩, hb.trans (a5.mono (by omega)), Nat.le_trans hW a5.size⟩
  have h9 : (w2.setCell ⟨po, 0, none⟩ v').ownsRow (po + 3) 2 1 v' ((endsV n pre).length + 1) (icells (endsV n pre) ++ [.int .i64 (IntKind.i64.wrap ((x.1.1 : Int) + (n : Int)))]) := by
    refine hown.kept (grownBy_setCell' w2 po v') ?_
    cases ho : v'.ownBlock with
    | none => exact .inl rfl
    | some k => exact .inr (fun e => by have h9 := (World.ownsRow.lt hown k ho).1; injection e with e; omega)
  rw [endsV_yes hx, icells_append, List.length_append]
  exact h9
/-- The boxes are laid, nothing is gathered yet. -/
theorem gathE_new (w wA w1 : World) (pr br : Nat) (sa : Option Addr) (n cap sk lo : Nat) (f : Nat → Cel) (t : ByteArray) (T1 T3 : TypeId) (hA : wA = w.alloc (.cells #[.slice sa n cap] 23)) (hb : Below wA.heap.size wA w1) (hR : BackAt w1 pr br sa n cap sk lo f) (hpr : pr < w1.heap.size) :
    ∃ V, V = ((w1.alloc (.cells #[.slice none 0 0] 26)).alloc (.cells #[.pointer (some ⟨pr, 0, none⟩)] T1)).alloc (.cells #[.string t] T3) ∧
      V.heap.size = w1.heap.size + 3 ∧ GathE w sa n cap w1.heap.size [] V ∧ BackAt V pr br sa n cap sk lo f ∧ V.cell? ⟨w1.heap.size + 1, 0, none⟩ = some (.pointer (some ⟨pr, 0, none⟩)) ∧ V.cell? ⟨w1.heap.size + 2, 0, none⟩ = some (.string t) := by
  refine ⟨_, rfl, by simp, ?_⟩
  have bO := Go.Boxed.new w1 26 (.slice none 0 0)
  have bP := Go.Boxed.new (w1.alloc (.cells #[.slice none 0 0] 26)) T1 (.pointer (some ⟨pr, 0, none⟩))
  have bT := Go.Boxed.new ((w1.alloc (.cells #[.slice none 0 0] 26)).alloc (.cells #[.pointer (some ⟨pr, 0, none⟩)] T1)) T3 (.string t)
  have bC := Go.Boxed.new w 23 (.slice sa n cap)
  rw [← hA] at bC
  have bC1 : Go.Boxed w1 w.heap.size 23 (.slice sa n cap) := (hb.block _ bC.lt).trans bC
  rw [World.size_alloc] at bP
  rw [World.size_alloc, World.size_alloc] at bT
  have h0 : Below w1.heap.size w1 (((w1.alloc (.cells #[.slice none 0 0] 26)).alloc (.cells #[.pointer (some ⟨pr, 0, none⟩)] T1)).alloc (.cells #[.string t] T3)) := (((Below.refl _ w1).alloc (Nat.le_refl _) _).alloc (by simp) _).alloc (by simp; omega) _
  have hne := hR.ne
  have hwA : Below w.heap.size w wA := by rw [hA]; exact (Below.refl _ w).alloc (Nat.le_refl _) _
  have hb1 : Below w.heap.size w w1 := hwA.trans (hb.mono hwA.size)
  refine ⟨⟨⟨⟨_, (bO.alloc _).alloc _, ⟨rfl, .inl ⟨rfl, rfl⟩⟩, trivial⟩, ((bC1.alloc _).alloc _).alloc _⟩, hb1.trans (h0.mono hb1.size), by simp⟩, hR.later (ex := fun _ => False) (B := w1.heap.size) (KeptEx.below h0) (hR.ready.kept h0 (by omega)) hpr ⟨id, fun _ _ => id⟩, (bP.alloc _).cell, bT.cell⟩
/-- The ends that are told. -/
def EndsB (n : Nat) (f : Nat → Cel) (t : ByteArray) (l : List Int) : Prop := ((t.size ≤ 8000 ∧ PlainP n f) → ∃ (h60 : n ≤ 60) (k : Nat), LastW n f t h60 k ∧ l = endsW n (uptoW n f t h60 k)) ∧ (¬ (t.size ≤ 8000 ∧ PlainP n f) → l = [])
theorem endsB_one {n : Nat} {f : Nat → Cel} {t : ByteArray} {l m : List Int} (h : EndsB n f t l) (h' : EndsB n f t m) : l = m := by
  by_cases hh : t.size ≤ 8000 ∧ PlainP n f
  · obtain ⟨h60, k, h1, rfl⟩ := h.1 hh
    obtain ⟨h60', k', h2, rfl⟩ := h'.1 hh
    obtain rfl := last_one h1 h2
    rfl
  · rw [h.2 hh, h'.2 hh]
/-- Numbers in new memory, handed back. -/
def NewL (w : World) (l : List Int) (e : Ending) (w' : World) : Prop := NewInts w l.length (fun i => l.getD i 0) e w'
theorem newL_nil {w W : World} (h : Below w.heap.size w W) : NewL w [] (.returned (.slice none 0 0)) W := new_of_ints (l := []) ⟨rfl, .inl ⟨rfl, rfl⟩⟩ h
set_option maxRecDepth 100000 in
set_option maxHeartbeats 4000000 in
theorem implBack_in (m : Nat) (hm : 6 ≤ m) (sa : Option Addr) (n cap : Nat) (f : Nat → Cel) (t : ByteArray) (w : World) (hn : n ≤ maxLen) (hr : CRow w w.heap.size sa n f) (hc : ∀ i, i < n → (f i).c.size ≤ maxLen) (ht : t.size ≤ 8000) (h60 : n ≤ 60) (hP : PlainP n f) :
    CallsIn Fence.wide m Tryz.prog 6 #[.slice sa n cap, .string t] w fun e w' => ∃ k, LastW n f t h60 k ∧ NewL w (endsW n (uptoW n f t h60 k)) e w' := by
  obtain ⟨i0, hi, hz0, hz1, hz2⟩ := info_parts Tryz.numInfo
  have h1 : 1 ≤ m := by omega
  have hti : ¬ (8000 : Int) < (t.size : Int) := by omega
  obtain ⟨wA, hA⟩ : ∃ wA, w.alloc (.cells #[.slice sa n cap] 23) = wA := ⟨_, rfl⟩
  have HA : Hid (wA = w.alloc (.cells #[.slice sa n cap] 23)) := hA.symm
  have hbA : Below w.heap.size w wA := by rw [← hA]; exact (Below.refl _ w).alloc (Nat.le_refl _) _
  have hsA : wA.heap.size = w.heap.size + 1 := by rw [← hA]; simp
  have hcA : wA.cell? ⟨w.heap.size, 0, none⟩ = some (.slice sa n cap) := by rw [← hA, World.cell?_alloc_mark]; rfl
  have C := backRowOf_yes sa n cap f wA hn ((hr.kept hbA).up hbA.size) hc hP
  have HP : Hid (PlainP n f) := hP
  clear hn hr hc hP hbA
  refine callsIn_of_wp_marks Tryz.func6 rfl trivial ?_ rfl
  simp only [Tryz.ntmps6, List.size_toArray, List.length_cons, List.length_nil, Nat.reduceAdd, Nat.reduceSub, Array.replicate_succ, Array.replicate_zero, List.push_toArray, List.append_toArray, List.nil_append, List.cons_append]
  have HSA : Hid (wA.heap.size = w.heap.size + 1) := hsA
  clear hsA
  gi_wp2_with (first | (gi_at_call 35; (try rw [hA]); refine (callsIn_wide.2 C).mono ?_; rintro e w1 ⟨pr, br, rfl, sk, lo, hbl, hpl, hb, hba⟩; have HB : Hid (Below wA.heap.size wA w1 ∧ w.heap.size < br ∧ pr < w1.heap.size ∧ BackAt w1 pr br sa n cap sk lo f) := ⟨hb, by have := HSA.out; omega, hpl, hba⟩; clear hb hbl hpl hba C) | (refine ⟨trivial, ?_⟩; gi_at_call 35; (try rw [hA]); refine (callsIn_wide.2 C).mono ?_; rintro e w1 ⟨pr, br, rfl, sk, lo, hbl, hpl, hb, hba⟩; have HB : Hid (Below wA.heap.size wA w1 ∧ w.heap.size < br ∧ pr < w1.heap.size ∧ BackAt w1 pr br sa n cap sk lo f) := ⟨hb, by have := HSA.out; omega, hpl, hba⟩; clear hb hbl hpl hba C))
  gi_wp2_with (first | (gi_at_call 36; refine (windows_in (m - 1) ⟨pr, 0, none⟩ t _).mono ?_; rintro e w' ⟨rfl, rfl⟩) | (refine ⟨trivial, ?_⟩; gi_at_call 36; refine (windows_in (m - 1) ⟨pr, 0, none⟩ t _).mono ?_; rintro e w' ⟨rfl, rfl⟩))
  obtain ⟨V, hV, hVs, hG, hBV, hc1, hc2⟩ := gathE_new w wA w1 pr br sa n cap sk lo f t 57 9 HA.out HB.out.1 HB.out.2.2.2 HB.out.2.2.1
  rw [← hV]
  clear hV
  obtain ⟨po, hpo⟩ : ∃ po, w1.heap.size = po := ⟨_, rfl⟩
  have HPO : Hid (pr < po ∧ br < pr ∧ w.heap.size < br) := by show _ ∧ _; rw [← hpo]; exact ⟨HB.out.2.2.1, HB.out.2.2.2.ne, HB.out.2.1⟩
  rw [hpo] at hVs hG hc1 hc2 ⊢
  clear hpo
  have HG : Hid (GathE w sa n cap po [] V) := hG
  have hpo1 := HPO.out.1
  have hpo2 := HPO.out.2.1
  have hpo3 := HPO.out.2.2
  clear hG hA hcA
  refine range_turnsA rfl h1 (gf := 68) (lb := #[.pointer (some ⟨po + 1, 0, none⟩), .pointer (some ⟨po + 2, 0, none⟩)]) rfl trivial (enters_of Tryz.func68 (by kernel_rfl) rfl)
    (windows_turns (m - 1) (po + 1) (po + 2) (po + 3) pr br po sa n cap sk lo f t h60 V (by omega) HP.out.1.1 (cels_max HP.out.1) ht hc1 hc2 (by omega) (by omega) (by omega) (by omega) hBV)
    (fun r e => by rw [hVs]; omega) (fun h k => h.trans k) (fun W l o o' hl _ _ _ => kept_put (by rw [hVs] at hl; exact hl)) (Below.refl _ _) (fun _ => rfl)
    (GathE w sa n cap po) (fun _ _ _ => False) (by rw [hVs]; exact GathE.stays hpo3 (by omega)) (fun _ => ⟨fun _ _ _ _ h _ _ _ => h, fun _ _ _ _ h _ _ => h⟩) HG.out
    (fun x a' W => ∃ q : Nat, a' = { tmps := #[.slice sa n cap, .string t, .pointer (some ⟨w.heap.size, 0, none⟩), undef, .slice none 0 0, .pointer (some ⟨pr, 0, none⟩), .pointer (some ⟨po, 0, none⟩), .pointer (some ⟨q, 0, none⟩), .bool x.2, .string t, .int .i64 (t.size : Int), .bool false, .slice sa n cap, .pointer (some ⟨pr, 0, none⟩), .pointer (some ⟨pr, 0, none⟩), .bool false, .pointer (some ⟨pr, 0, none⟩), .string t, .func (.func 68) #[] #[.pointer (some ⟨po + 1, 0, none⟩), .pointer (some ⟨po + 1 + 1, 0, none⟩)], .agg #[.int .i64 (x.1.1 : Int), .int .i64 (x.1.2.1 : Int), .int .i64 (x.1.2.2 : Int)], .bool x.2, undef, undef, undef, undef, undef, undef, undef, undef, undef, undef], defers := [] } ∧ WinAt W q x.1)
    (fun x a' W l o o' ⟨q, h1, h2⟩ _ hl ho => ⟨q, h1, h2.put o' hl ho⟩) ?assign ?body ?done ?stop
  case assign =>
    intro l pre x W K hI hK
    gi_wp2
    refine hK _ _ ?_ ?_ ?_ ⟨_, rfl, ?_⟩
    · exact (KeepsOthers.alloc _ _).from _
    · have h9 := hI.2.2
      exact ⟨by simp, fun k hk _ => Below.heap_alloc _ _ _ (by omega)⟩
    · exact (GathE.stays (Inv := fun _ => True) hpo3 (by omega)).new _ hI
    · exact ⟨by rw [World.cell?_alloc_mark]; rfl, by rw [World.cell?_alloc_mark]; rfl, by rw [World.cell?_alloc_mark]; rfl⟩
  case body =>
    rintro l pre ⟨⟨x1, x2, x3⟩, xb⟩ a' W ⟨⟨⟨v, hv, hr, hq9⟩, hc⟩, hb, hWs⟩ ⟨q, rfl, hw0, hw1, hw2⟩ hlen
    have HVS : Hid (V.heap.size = po + 3) := hVs
    cases xb with
    | false =>
      have HEND : Hid (KeepsFrom (po + 3) W W ∧ KeptEx (fun k => k = po) W W (po + 3) ∧ GathE w sa n cap po (pre ++ [((x1, x2, x3), false)]) W) := ⟨KeepsFrom.refl _ _, KeptEx.refl _ _ _, ⟨⟨v, hv, by rw [endsV_no rfl]; exact hr, trivial⟩, hc⟩, hb, hWs⟩
      clear hv hr hq9 hc hb hWs
      gi_wp2
      first | exact HEND.out | (show KeepsFrom V.heap.size _ _ ∧ _ ∧ _; rw [HVS.out]; exact HEND.out)
    | true =>
      have hHV : Hid (Go.Boxed W po 26 v) := hv
      have hHC : Hid (Go.Boxed W w.heap.size 23 (.slice sa n cap)) := hc
      have hHR : Hid (W.ownsRow (po + 3) 2 1 v (endsV n pre).length (icells (endsV n pre))) := hr
      have hHB : Hid (Below w.heap.size w W ∧ po + 3 ≤ W.heap.size) := ⟨hb, hWs⟩
      have cv := hv.cell
      have cc := hc.cell
      have hel := endsV_len n pre
      obtain ⟨E, hE⟩ : ∃ E, IntKind.i64.wrap ((x1 : Int) + (n : Int)) = E := ⟨_, rfl⟩
      have HE : Hid (IntKind.i64.wrap ((x1 : Int) + (n : Int)) = E) := hE
      clear hv hb hc hq9
      gi_wp2_with (gi_at_builtin; refine wpListIn_append_own _ rfl _ _ 26 rfl (po + 3) 2 i0 (.int .i64 0) 1 8 Tryz.underlying26 hi hz0 hz1 hz2 rfl (by decide) _ _ _ rfl (hr.alloc _) ⟨W.heap.size, 0, none⟩ 1 1 [.int .i64 E] rfl rfl ?c1 ?c2 ?c3 ?c4 ?c5 ?_)
      case c2 => rfl
      case c3 => unfold maxLen; omega
      case c4 => omega
      case c5 => omega
      intro v' w2 hown hgrow _
      have hown2 : w2.ownsRow (po + 3) 2 1 v' ((endsV n pre).length + 1) (icells (endsV n pre) ++ [.int .i64 (IntKind.i64.wrap ((x1 : Int) + (n : Int)))]) := by rw [HE.out]; exact hown
      obtain ⟨d1, d2, d3, d4, d5⟩ := GathE.step (x := ((x1, x2, x3), true)) rfl hHB.out.1 (by omega) hHB.out.2 hHV.out hHC.out hHR.out hown2 hgrow
      have HEND : Hid (KeepsFrom (po + 3) W (w2.setCell ⟨po, 0, none⟩ v') ∧ KeptEx (fun k => k = po) W (w2.setCell ⟨po, 0, none⟩ v') (po + 3) ∧ GathE w sa n cap po (pre ++ [((x1, x2, x3), true)]) (w2.setCell ⟨po, 0, none⟩ v')) := ⟨d3, d4, d5⟩
      obtain ⟨g9, c9, rfl⟩ := ownsRow_succ hown
      clear d3 d4 d5 hown2 hown hgrow hr
      gi_wp2
      first | exact HEND.out | (show KeepsFrom V.heap.size _ _ ∧ _ ∧ _; rw [HVS.out]; exact HEND.out)
  case done =>
    rintro D ys W hD ⟨k, hk, rfl⟩ ⟨⟨⟨v, hv, hr, _⟩, _⟩, hb, hWs⟩ hK
    have HK : Hid (LastW n f t h60 k) := hk
    have cv := hv.cell
    have HR9 : Hid (W.ownsRow (po + 3) 2 1 v (endsW n (uptoW n f t h60 k)).length (icells (endsW n (uptoW n f t h60 k)))) := by
      have h9 := hr
      rw [endsV_last ht hk] at h9
      exact h9
    have HB9 : Hid (Below w.heap.size w W) := hb
    clear hr hb hk hv
    gi_wp2
    refine ⟨by simp, .inl ⟨_, _, rfl, run_takeDeferred hK, ?_⟩⟩
    exact ⟨_, results_tmp rfl _ _ _, k, HK.out, new_of_ints (ints_low (ownsRow_putObj HR9.out _ hK rfl) (by omega)) (HB9.out.trans ((kept_low (by rw [hVs] at hD; omega) HB9.out.size)))⟩
  case stop =>
    rintro D c pre W _ _ h _
    exact h.elim
set_option maxRecDepth 100000 in
set_option maxHeartbeats 2000000 in
theorem implBack_any (sa : Option Addr) (n cap : Nat) (f : Nat → Cel) (t : ByteArray) (w : World) (hn : n ≤ maxLen) (hr : CRow w w.heap.size sa n f) (hc : ∀ i, i < n → (f i).c.size ≤ maxLen) (ht : t.size ≤ maxLen) :
    Calls Tryz.prog 6 #[.slice sa n cap, .string t] w fun e w' => ∃ l, EndsB n f t l ∧ NewL w l e w' := by
  unfold maxLen at ht
  obtain ⟨wA, hA⟩ : ∃ wA, w.alloc (.cells #[.slice sa n cap] 23) = wA := ⟨_, rfl⟩
  have hbA : Below w.heap.size w wA := by rw [← hA]; exact (Below.refl _ w).alloc (Nat.le_refl _) _
  have HBA : Hid (Below w.heap.size w wA) := hbA
  have hcA : wA.cell? ⟨w.heap.size, 0, none⟩ = some (.slice sa n cap) := by rw [← hA, World.cell?_alloc_mark]; rfl
  by_cases h8 : t.size ≤ 8000
  case neg =>
    have hti : (8000 : Int) < (t.size : Int) := by omega
    have hF : Hid (EndsB n f t []) := ⟨fun h => absurd h.1 h8, fun _ => rfl⟩
    clear hr hc hbA
    go_enter Tryz.func6, Tryz.ntmps6
    go_wp2_with fail
    go_ret
    exact ⟨[], hF.out, newL_nil HBA.out⟩
  have hti : ¬ (8000 : Int) < (t.size : Int) := by omega
  by_cases hP : PlainP n f
  case neg =>
    have C := backRowOf_no sa n cap f wA hn ((hr.kept hbA).up hbA.size) hc hP
    have hF : Hid (EndsB n f t []) := ⟨fun h => absurd h.2 hP, fun _ => rfl⟩
    clear hr hc hbA
    go_enter Tryz.func6, Tryz.ntmps6
    go_wp2_with fail
    refine C.mono ?_
    rintro e w1 ⟨rfl, hb⟩
    have HB : Hid (Below w.heap.size w w1) := HBA.out.trans (hb.mono HBA.out.size)
    clear hb C hcA
    go_wp2_with fail
    go_ret
    exact ⟨[], hF.out, newL_nil HB.out⟩
  refine (callsIn_wide.1 (implBack_in 6 (Nat.le_refl _) sa n cap f t w hn hr hc h8 hP.1.2.1 hP)).mono ?_
  rintro e w' ⟨k, hk, h9⟩
  exact ⟨_, ⟨fun _ => ⟨hP.1.2.1, k, hk, rfl⟩, fun h => absurd ⟨h8, hP⟩ h⟩, h9⟩
end Go.Proofs.YtfeolbgenpknfaaGreat
