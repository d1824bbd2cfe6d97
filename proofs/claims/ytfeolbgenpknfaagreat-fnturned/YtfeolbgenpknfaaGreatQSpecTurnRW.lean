/- What is proved here: the specification's TurnRun hands back the ends at which turned bits of plain cells hit, rising, in new memory, or none; nothing that was there turns. -/
import Derived.Test.YtfeolbgenpknfaaGreatQSpecTurnSWToTurnTabM
import Derived.Test.YtfeolbgenpknfaaGreatQImplTurnWToIntsNeW
import Derived.Test.YtfeolbgenpknfaaGreatQIntRowWToSpecGoesW
import Derived.Deep.RegionHeld3
import Derived.Deep.RegionWith
import Derived.Deep.DeepCutAuto
namespace Go.Proofs.YtfeolbgenpknfaaGreat
open Go.RowKit

open Classical in
theorem specTurnRun_no (sa : Option Addr) (n cap : Nat) (f : Nat → Cel) (t : ByteArray) (w : World) (hn : n ≤ maxLen) (hr : CRow w w.heap.size sa n f) (hc : ∀ i, i < n → (f i).c.size ≤ maxLen) (ht : t.size ≤ maxLen) (h : ¬ (t.size ≤ 8000 ∧ PlainP n f)) :
    Calls Tryz.prog 14 #[.slice sa n cap, .string t] w fun r w' => NewInts w 0 (fun _ => 0) r w' := by
  unfold maxLen at ht
  have NI : Hid (∀ W x, Below w.heap.size w W → NewInts w 0 (fun _ => 0) (.returned (.slice x 0 0)) W) := fun W x hb => ⟨x, 0, rfl, hb, Or.inl rfl⟩
  by_cases h8 : 8000 < (t.size : Int)
  · go_enter Tryz.func14, Tryz.ntmps14
    go_wp2_with fail
    go_ret
    exact NI.out _ _ ((Below.refl _ _).alloc (Nat.le_refl _) _)
  · have hb0 : ∀ o : Obj, Below w.heap.size w (w.alloc o) := fun o => (Below.refl _ _).alloc (Nat.le_refl _) _
    have HK : Hid (∀ W, Below w.heap.size w W → Calls Tryz.prog 28 #[.slice sa n cap] W fun e w' => e = .returned (.bool false) ∧ Below W.heap.size W w') := fun W hW => by
      have h9 := specPlain_any sa n cap f W hn ((hr.kept hW).up hW.size) hc
      rw [decide_eq_false (fun h9 => h ⟨by omega, h9⟩)] at h9
      exact h9
    clear hn hr hc h
    go_enter Tryz.func14, Tryz.ntmps14
    go_wp2_with (first | (go_at_call 28; refine (HK.out _ (hb0 _)).mono ?_; rintro e w1 ⟨rfl, hb1⟩; have B1 : Hid (Below w.heap.size w w1) := (hb0 _).trans (hb1.mono (hb0 _).size); clear hb1))
    go_ret
    exact NI.out _ _ B1.out
/-- A walk that goes on, by the specification, and what it has told. -/
structure GoesT (w wr : World) (p : Nat) (n m : Nat) (f : Nat → Cel) (t : ByteArray) (k : Nat) (v : Value) : Prop where
  at' : ∃ (s : Option Addr) (c : Nat), Boxed wr p 29 (n : Int) s m c ∧ BitsAt wr s m (turnS f n t k)
  since : Since w wr
  own : wr.ownsRow w.heap.size 2 1 v (classL (hitT f n t) (k + 1)).length (icells (classL (hitT f n t) (k + 1)))
  lt : w.heap.size ≤ p ∧ p < wr.heap.size
open Classical in
set_option maxRecDepth 100000 in
set_option maxHeartbeats 4000000 in
theorem specTurnRun_yes (sa : Option Addr) (n cap : Nat) (f : Nat → Cel) (t : ByteArray) (w : World) (hn : n ≤ maxLen) (hr : CRow w w.heap.size sa n f) (hc : ∀ i, i < n → (f i).c.size ≤ maxLen) (ht : t.size ≤ 8000) (h : PlainP n f) :
    Calls Tryz.prog 14 #[.slice sa n cap, .string t] w fun r w' => NewInts w (turnL f n t).length (fun i => (turnL f n t).getD i 0) r w' := by
  obtain ⟨i0, hi, hz0, hz1, hz2⟩ := info_parts Tryz.numInfo
  have h8 : ¬ 8000 < (t.size : Int) := by omega
  have hb0 : ∀ o : Obj, Below w.heap.size w (w.alloc o) := fun o => (Below.refl _ _).alloc (Nat.le_refl _) _
  have hn60 := h.1.2.1
  have hsz : ∀ i, i < n → (f i).c.size ≤ 256 := plain_small h
  obtain ⟨m, hm⟩ : ∃ m, m = (n + 31) / 32 := ⟨_, rfl⟩
  have HK : Hid (∀ W, Below w.heap.size w W → Calls Tryz.prog 28 #[.slice sa n cap] W fun e w' => e = .returned (.bool true) ∧ Below W.heap.size W w') := fun W hW => by
    have h9 := specPlain_any sa n cap f W hn ((hr.kept hW).up hW.size) hc
    rw [decide_eq_true h] at h9
    exact h9
  have HST : Hid (∀ W, Since w W → Calls Tryz.prog 43 #[.slice sa n cap] W fun e w' => NewBits W (n : Int) m (allB n) e w') := fun W hW => l08Start_any sa n cap m W h.1.1 hn60 hm
  have HSP : Hid (∀ (W : World) (s : Option Addr) (c' : Nat) (c : Nat) (A : Nat → Bool), Since w W → c < 256 → BitsAt W s m A → Calls Tryz.prog 44 #[.slice sa n cap, .agg #[.int .i64 (n : Int), .slice s m c'], .int .i64 (c : Int)] W fun e w' => StepBits W (n : Int) m (turnB f n A c) (!turnB f n A c (n - 1)) e w') := fun W s c' c A hW hc9 hA =>
    l08Step_any sa n cap c m f s c' A W h.1.1 hn60 ((hr.kept hW.below).up hW.size) hsz hc9 hm hA
  clear hn hr hc h hsz hm
  go_enter Tryz.func14, Tryz.ntmps14
  go_wp2_with (first | (go_at_call 28; refine (HK.out _ (hb0 _)).mono ?_; rintro e w1 ⟨rfl, hb1⟩; have S1 : Hid (Since w w1) := since_call ⟨hb0 _⟩ hb1; have hown1 : w1.ownsRow w.heap.size 2 1 (.slice (some ⟨w.heap.size, 0, none⟩) 0 0) 0 [] := ints_below (ints_start w w.heap.size (Nat.le_refl _) _ rfl) hb1 rfl; have l1 := hb1.size; clear hb1))
  refine (HST.out w1 S1.out).mono ?_
  rintro e w2 ⟨h0, ⟨s0, c0, rfl, hb2, ho2⟩, hv2⟩
  unfold vecV
  have q3 := boxing w2 29 (n : Int) s0 m c0
  have hB2 : BitsAt w2 s0 m (allB n) := ⟨h0, ho2.row, hv2⟩
  have G3 : Hid (GoesT w (w2.alloc (.cells #[.int .i64 (n : Int), .slice s0 m c0] 29)) w2.heap.size n m f t 0 (.slice (some ⟨w.heap.size, 0, none⟩) 0 0)) := ⟨⟨s0, c0, q3.2.1, hB2.since ⟨q3.1⟩⟩, since_call (since_call S1.out hb2) q3.1, (ints_below hown1 hb2 rfl).alloc _, (since_call S1.out hb2).size, by rw [q3.2.2]; omega⟩
  clear S1 hown1 l1 hb2 ho2 hv2 hB2 q3
  go_wp2_with fail
  generalize w2.alloc (.cells #[.int .i64 (n : Int), .slice s0 m c0] 29) = v3 at *
  generalize w2.heap.size = p at *
  go_loopw [5, 7] (fun v i wr => ∃ k : Nat, k ≤ t.size ∧ i = .int .i64 (k : Int) ∧ GoesT w wr p n m f t k v) (fun _ i _ => t.size - (intOf i).toNat)
  case atStart => exact ⟨0, Nat.zero_le _, rfl, G3.out⟩
  case round =>
    obtain ⟨k, hk, rfl, hg⟩ := hrel
    have HG : Hid (GoesT w wr p n m f t k u5) := hg
    obtain ⟨⟨s, c', hx, hb⟩, hS, how, hpl⟩ := hg
    by_cases hkl : k < t.size
    · have hki : (k : Int) < (t.size : Int) := by omega
      have hk0 : (0 : Int) ≤ (k : Int) := by omega
      obtain ⟨c, hc⟩ : ∃ c, t[k].toNat = c := ⟨_, rfl⟩
      have hc9 : c < 256 := by rw [← hc]; exact UInt8.toNat_lt _
      have HB : Hid (byteT t k = c) := by show byteT t k = c; unfold byteT; rw [dif_pos hkl, hc]
      have hwc : IntKind.i64.wrap (c : Int) = (c : Int) := by rw [IntKind.wrap_i64]; omega
      obtain ⟨hit, hhit⟩ : ∃ hit, (!turnB f n (turnS f n t k) c (n - 1)) = hit := ⟨_, rfl⟩
      have HSTEP : Hid (∀ W, Since wr W → Calls Tryz.prog 44 #[.slice sa n cap, .agg #[.int .i64 (n : Int), .slice s m c'], .int .i64 (c : Int)] W fun e w' => StepBits W (n : Int) m (turnS f n t (k + 1)) hit e w') := fun W hW => by
        have h9 := HSP.out W s c' c (turnS f n t k) (since_call hS hW.below) hc9 (hb.since hW)
        rw [hhit] at h9
        show Calls Tryz.prog 44 _ W fun e w' => StepBits W (n : Int) m (turnB f n (turnS f n t k) (byteT t k)) hit e w'
        rw [HB.out]
        exact h9
      have XR : Hid (Boxed wr p 29 (n : Int) s m c') := hx
      obtain ⟨x0, x1⟩ := hx.cells
      have xl := hx.lt
      have hnep := Nat.ne_of_gt xl
      have HH : Hid (hitT f n t (k + 1) = hit) := by show (!turnB f n (turnS f n t k) (byteT t k) (n - 1)) = hit; rw [HB.out]; exact hhit
      clear hx hb hS how hpl hhit
      go_upto_region 8 with fail
      go_cut [8] (fun pv wc => CutT wr (n : Int) m (turnS f n t (k + 1)) hit pv wc)
      case first =>
        go_region_held3 (fun W => W.cell? ⟨p, 0, none⟩ = some (.int .i64 (n : Int)) ∧ W.cell? ⟨p, 1, none⟩ = some (.slice s m c')) (go_keep) (first
          | (go_at_call 44; (with_reducible refine (HSTEP.out _ (by first | exact since_drew (since_refl _) | exact since_drew (since_alloc (since_refl _)) | exact since_alloc (since_drew (since_refl _)))).mono ?_); rintro e u1 ⟨h1, ⟨s1, c1, rfl, hb, ho⟩, hv⟩; unfold stepV; have S1 : Hid (Since wr u1) := (by refine since_call ?_ hb; first | exact since_drew (since_refl _) | exact since_drew (since_alloc (since_refl _)) | exact since_alloc (since_drew (since_refl _))); (try (have hbx : SBox u1 _ 0 none 0 0 false := SBox.kept (by first | exact heap_alloc_new _ _ | exact SBox.drew (heap_alloc_new _ _)) hb rfl; obtain ⟨d0, d1, d2, d3, d4, d5⟩ := hbx.six)); obtain ⟨x0, x1⟩ := (XR.out.since S1.out).cells; have xl := (XR.out.since S1.out).lt; have hnep1 := Nat.ne_of_gt xl; clear hb))
        all_goals
          go_wp2_with fail
          go_meet
          case rel => first
            | exact ⟨h1, cutS_late S1.out (by first | exact Nat.le_refl _ | exact (since_alloc (since_refl _)).size) ho, hv⟩
            | exact ⟨h1, cutS_early S1.out (by assumption) (Nat.le_refl _) (by first | exact SBox.lt (by assumption) | simp) ho, hv⟩
      case rest =>
        obtain ⟨h, ⟨y, s', c'', rfl, hS, hy1, hy2, hyx, hsl⟩, hv⟩ := hcut
        obtain ⟨V, hV⟩ : ∃ y, y = wc := ⟨_, rfl⟩
        rw [← hV] at hS hy2 hyx hsl ⊢
        clear hV
        have SV : Hid (Since wr V) := hS
        have hXV : Boxed V p 29 (n : Int) s m c' := XR.out.since hS
        have hyp : y ≠ p := by omega
        have hownV : V.ownsRow w.heap.size 2 1 u5 (classL (hitT f n t) (k + 1)).length (icells (classL (hitT f n t) (k + 1))) := ints_below HG.out.own hS.below rfl
        have HNE : Hid (u5.ownBlock ≠ some p) := ints_ne hownV hXV
        have hg9 : V.grownBy ((V.setCell ⟨p, 0, none⟩ (.int .i64 (n : Int))).setCell ⟨p, 1, none⟩ (.slice s' m c'')) (some p) := only_set (only_set (World.grownBy.refl _ _))
        have OWN9 : Hid (((V.setCell ⟨p, 0, none⟩ (.int .i64 (n : Int))).setCell ⟨p, 1, none⟩ (.slice s' m c'')).ownsRow w.heap.size 2 1 u5 (classL (hitT f n t) (k + 1)).length (icells (classL (hitT f n t) (k + 1)))) := ints_other hownV hg9 HNE.out
        have X9 : Hid (Boxed ((V.setCell ⟨p, 0, none⟩ (.int .i64 (n : Int))).setCell ⟨p, 1, none⟩ (.slice s' m c'')) p 29 (n : Int) s' m c'') := boxed_store hXV
        have Y9 : Hid (SBox ((V.setCell ⟨p, 0, none⟩ (.int .i64 (n : Int))).setCell ⟨p, 1, none⟩ (.slice s' m c'')) y (n : Int) s' m c'' hit) := (hyx.setOther _ _ (by show p ≠ y; omega)).setOther _ _ (by show p ≠ y; omega)
        have HV : Hid (VecIs h (turnS f n t (k + 1)) m) := hv
        have OS : Hid (m = 0 ∨ ∃ g, s' = some ⟨g, 0, none⟩ ∧ wr.heap.size ≤ g ∧ Own ((V.setCell ⟨p, 0, none⟩ (.int .i64 (n : Int))).setCell ⟨p, 1, none⟩ (.slice s' m c'')) g m h) := by
          rcases hsl with h9 | ⟨g, e1, e2, _, e3⟩
          · exact Or.inl h9
          · exact Or.inr ⟨g, e1, e2, (e3.setOther _ _ (by show p ≠ g; omega)).setOther _ _ (by show p ≠ g; omega)⟩
        have S9 : Hid (Since w ((V.setCell ⟨p, 0, none⟩ (.int .i64 (n : Int))).setCell ⟨p, 1, none⟩ (.slice s' m c''))) := since_set (since_set (since_call HG.out.since hS.below) HG.out.lt.1) HG.out.lt.1
        have HPL : Hid (w.heap.size ≤ p) := HG.out.lt.1
        have HOB : Hid (∀ j, u5.ownBlock = some j → w.heap.size ≤ j ∧ j < wr.heap.size) := HG.out.own.lt
        obtain ⟨p0, p1, pf0, pf1⟩ := hXV.four
        have pl := hXV.lt
        obtain ⟨b0, b1, b2⟩ := hyx.cells
        clear hS hy1 hsl hv hownV hg9 hXV
        go_upto_region 10 with fail
        clear p0 p1 pf0 pf1 pl b0 b1 b2 hyx hy2
        generalize (V.setCell ⟨p, 0, none⟩ (.int .i64 (n : Int))).setCell ⟨p, 1, none⟩ (.slice s' m c'') = w9 at *
        obtain ⟨b0, b1, b2⟩ := Y9.out.cells
        have yl := Y9.out.lt
        have hlen := classL_len (hitT f n t) (k + 1)
        cases hit with
        | false =>
          have HL : Hid (classL (hitT f n t) (k + 1 + 1) = classL (hitT f n t) (k + 1)) := classL_no HH.out
          have G9 : Hid (GoesT w w9 p n m f t (k + 1) u5) := ⟨⟨s', c'', X9.out, h, by
            rcases OS.out with h9 | ⟨g, e1, e2, e3⟩
            · exact Or.inl h9
            · exact e1 ▸ e3.row e3.1, HV.out⟩, S9.out, by rw [HL.out]; exact OWN9.out, HPL.out, X9.out.lt⟩
          go_wp2_with fail
          go_roundw
          case rel => exact ⟨k + 1, hkl, by go_num, G9.out⟩
          case measure => simp [intOf]; omega
        | true =>
          have HL : Hid (classL (hitT f n t) (k + 1 + 1) = classL (hitT f n t) (k + 1) ++ [((k + 1 : Nat) : Int)]) := classL_yes HH.out
          have hown := OWN9.out
          have hbs := S9.out.size
          go_wp2_with (at_builtin; refine wpList_append_own_at _ rfl (.tmp 38) (.tmp 41) 26 rfl w.heap.size 2 i0 (.int .i64 0) 1 8 Tryz.underlying26 hi hz0 hz1 hz2 rfl (by decide) _ _ _ rfl (hown.alloc _) ⟨w9.heap.size, 0, none⟩ 1 1 [.int .i64 ((k : Int) + 1)] rfl rfl ?c1 ?c2 ?c3 ?c4 ?c5 ?_)
          case c1 => exact cell1_new w9 _ _
          case c2 => intro u hu; simp at hu; subst hu; rfl
          case c3 => unfold maxLen; omega
          case c4 => omega
          case c5 => first | omega | (simp <;> omega)
          intro v5 w5 hown5 hgrow5 _ _
          have hg5 := (World.grownBy_alloc w9 _ _).trans hgrow5
          have G5 : Hid (GoesT w w5 p n m f t (k + 1) v5) := ⟨⟨s', c'', boxed_row X9.out hg5 HNE.out, h, by
            rcases OS.out with h9 | ⟨g, e1, e2, e3⟩
            · exact Or.inl h9
            · have e4 := own_row e3 hg5 (fun e => by have := HOB.out g e; omega)
              exact e1 ▸ e4.row e4.1, HV.out⟩, ⟨S9.out.below.trans (grown_lo hg5 (fun j e => (HOB.out j e).1) (Nat.le_refl _) S9.out.size)⟩, by rw [HL.out, icells_append, List.length_append]; exact hown5, HPL.out, Nat.lt_of_lt_of_le X9.out.lt hg5.size⟩
          clear hown5 hgrow5 hg5 hown
          go_wp2_with fail
          go_roundw
          case rel => exact ⟨k + 1, hkl, by go_num, G5.out⟩
          case measure => simp [intOf]; omega
    · have hki : ¬ (k : Int) < (t.size : Int) := by omega
      obtain rfl : k = t.size := by omega
      clear hx hb hS how hpl
      go_wp2_with fail
      go_ret
      exact new_of_ints HG.out.own HG.out.since.below
end Go.Proofs.YtfeolbgenpknfaaGreat
