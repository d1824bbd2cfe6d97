/- What is proved here: the program's HitsOf tells the hits of right patterns in a text, in order, in new memory, and none where a pattern is not right or the text is too long; nothing that was there turns. -/
import Derived.Test.YtfeolbgenpknfaaQImplEndsYesWToImplEndsAllW
namespace Go.Proofs.Ytfeolbgenpknfaa
open Go.RowKit

/-- What is left of each row, in the midst of an end: the first ones are passed. -/
def midL (P : Nat → Nat → Bool) (e N i : Nat) : Nat → List Int := fun j => if j < i then tailL (P j) (e + 1) N else tailL (P j) e N
theorem slice_tail (w : World) (b off n cap : Nat) (hn : 1 ≤ n) : (Instr.slice 27 (.slice (some ⟨b, off, none⟩) n cap) (some (.int .i64 1)) none none).run Try.prog w = .ok (.slice (if cap = 1 then some ⟨b, off, none⟩ else some ⟨b, off + 1, none⟩) (n - 1) (cap - 1)) w := by
  obtain ⟨i0, hi, hz0, hz1, hz2⟩ := info_parts Try.numInfo
  have hs : (sizeOf 2).run Try.prog w = .ok 1 w := by simp [sizeOf, typeInfo, hi, hz1]
  have he : Try.prog.elem 27 = 2 := by kernel_rfl
  rw [run_slice_l (ht := by rw [he]; exact Try.underlying27) (kl := .i64) (l := 1) (h0 := by omega) (h1 := by omega), he, hs]
  simp [Result.andThen, sliced, Addr.add]
/-- A row in new memory stays, where a block that lay there before turns. -/
theorem row_setOther {w : World} {base n size g i : Nat} {e : TypeId} {v u : Value} {xs : List Value} (h : w.ownsRow base e size v n xs) (hg : g < base) : (w.setCell ⟨g, i, none⟩ u).ownsRow base e size v n xs := by
  obtain ⟨hl, h⟩ := h
  refine ⟨hl, ?_⟩
  rcases h with h | ⟨g', cap, cur, h1, h2, h3, h4⟩
  · exact Or.inl h
  · refine Or.inr ⟨g', cap, cur, h1, h2, ?_, h4⟩
    rw [Below.heap_setCell _ _ _ _ (by show g' ≠ g; omega)]
    exact h3
set_option maxRecDepth 100000 in
set_option maxHeartbeats 4000000 in
theorem implHits_yes (sa : Option Addr) (k cap : Nat) (s : Nat → Option Addr) (n c : Nat → Nat) (f : Nat → Nat → Atm) (t : ByteArray) (P : Nat → Nat → Bool) (w : World) (hk : k ≤ 400) (ht : t.size ≤ 8000) (hr : AARows w w.heap.size sa k s n c f) (hc : ∀ i, i < k → ∀ j, j < n i → (f i j).c.size ≤ maxLen) (hR : ∀ i, i < k → PatRight (n i) (f i)) (hp : ∀ i, i < k → ∀ e, e ≤ t.size → (P i e = true ↔ ∃ s, s < e ∧ Cuts t (atomsL (f i) (n i)) s e)) :
    Calls Try.prog 21 #[.slice sa k cap, .string t] w fun e w' => NewHits w (hitsTo P k t.size) e w' := by
  obtain ⟨i0, hi, hz0, hz1, hz2⟩ := info_parts Try.hitInfo
  have C := endsAll_yes sa k cap s n c f t P w hk ht hr (fun i hi => by have := (hR i hi).2.1; unfold maxLen; omega) hc hR hp
  have h8 : ¬ 8000 < (t.size : Int) := by omega
  have h4 : ¬ 400 < (k : Int) := by omega
  have HP0 : Hid (∀ i, i < k → classL (P i) (t.size + 1) = tailL (P i) 1 (t.size + 1)) := fun i hi => (tail_all (by
    cases h : P i 0 with
    | false => rfl
    | true => (obtain ⟨s, hs, _⟩ := (hp i hi 0 (Nat.zero_le _)).1 h; omega))).symm
  clear hr hc hR hp
  go_enter Try.func21, Try.ntmps21
  go_wp2_with fail
  refine C.mono ?_
  rintro e w1 ⟨g, s1, c1, rfl, hlo, hb, hheads⟩
  have HB1 : Hid (Below w.heap.size w w1) := hb
  have HH1 : Hid (Heads w1 g w1.heap.size k s1 c1 (fun i => tailL (P i) 1 (t.size + 1))) := hheads.congr (fun i hi => HP0.out i hi)
  have HO1 : Hid (OwnsH w1 w1.heap.size (.slice none 0 0) []) := ⟨rfl, Or.inl ⟨rfl, rfl⟩⟩
  have HGW : Hid (w1.heap.size ≤ w1.heap.size) := Nat.le_refl _
  have HGL : Hid (w.heap.size ≤ w1.heap.size) := hb.size
  have HWG : Hid (w.heap.size ≤ g) := hlo
  clear C hb hheads HP0
  go_wp2_with fail
  obtain ⟨B, hB⟩ : ∃ B, w1.heap.size = B := ⟨_, rfl⟩
  rw [hB] at HH1 HO1 HGL
  have HB0 : Hid (w1.heap.size = B) := hB
  clear hB HGW
  go_loopw [7, 8] (fun v ev wr => ∃ (j : Nat) (s' : Nat → Option Addr) (c' : Nat → Nat), j ≤ t.size ∧ ev = .int .i64 ((j + 1 : Nat) : Int) ∧ OwnsH wr B v (hitsTo P k j) ∧ Heads wr g B k s' c' (fun i => tailL (P i) (j + 1) (t.size + 1)) ∧ Below w.heap.size w wr) (fun _ ev _ => t.size + 1 - (intOf ev).toNat)
  case atStart => exact ⟨0, _, _, Nat.zero_le _, rfl, HO1.out, HH1.out, HB1.out⟩
  case round =>
    obtain ⟨j1, s2, c2, hj, rfl, hown, hheads, hbel⟩ := hrel
    obtain ⟨j, hj1⟩ : ∃ j, j1 + 1 = j := ⟨_, rfl⟩
    rw [hj1] at hheads ⊢
    have HJ : Hid (j1 + 1 = j) := hj1
    have HO : Hid (OwnsH wr B u7 (hitsTo P k j1)) := hown
    have HH : Hid (Heads wr g B k s2 c2 (fun i => tailL (P i) j (t.size + 1))) := hheads
    have HB : Hid (Below w.heap.size w wr) := hbel
    have hjb : j ≤ t.size + 1 := by omega
    have hj0 : 1 ≤ j := by omega
    clear hown hheads hbel hj1 hj
    by_cases hjl : j ≤ t.size
    · have hji : (j : Int) ≤ (t.size : Int) := by omega
      have hlt := hitsTo_len P k j1
      have hmul : j1 * k ≤ 8000 * 400 := Nat.mul_le_mul (by have := HJ.out; omega) hk
      have HLEN : Hid ((hitsTo P k j1).length ≤ 3200000) := by show _ ≤ 3200000; omega
      clear hlt hmul
      go_wp2_with fail
      go_loopw [7, 34] (fun v iv wx => ∃ (i : Nat) (s' : Nat → Option Addr) (c' : Nat → Nat), i ≤ k ∧ iv = .int .i64 (i : Int) ∧ OwnsH wx B v (hitsTo P k j1 ++ hitsAt P j i) ∧ Heads wx g B k s' c' (midL P j (t.size + 1) i) ∧ Below w.heap.size w wx) (fun _ iv _ => k - (intOf iv).toNat)
      case atStart => exact ⟨0, s2, c2, Nat.zero_le _, rfl, by rw [hitsAt_zero, List.append_nil]; exact HO.out, HH.out.congr (fun i hi => by unfold midL; rw [if_neg (by omega)]), HB.out⟩
      case round =>
        obtain ⟨i, s3, c3, hik, rfl, hown, hheads, hbel⟩ := hrel
        rename World => wx
        have HX : Hid (OwnsH wx B u7 (hitsTo P k j1 ++ hitsAt P j i)) := hown
        have HHX : Hid (Heads wx g B k s3 c3 (midL P j (t.size + 1) i)) := hheads
        have HBX : Hid (Below w.heap.size w wx) := hbel
        by_cases hil : i < k
        · have hii : (i : Int) < (k : Int) := by omega
          have hi0 : (0 : Int) ≤ (i : Int) := by omega
          have hcell := hheads.cells i hil
          have hrow := hheads.rows i hil
          have hmid : midL P j (t.size + 1) i i = tailL (P i) j (t.size + 1) := by unfold midL; rw [if_neg (by omega)]
          rw [hmid] at hcell hrow
          have hat := hitsAt_len P j i
          have hsz := hheads.sz
          have hgB := hheads.lt
          clear hown hheads hbel hmid
          obtain ⟨si, hsi⟩ : ∃ x, s3 i = x := ⟨_, rfl⟩
          obtain ⟨ci, hci⟩ : ∃ x, c3 i = x := ⟨_, rfl⟩
          rw [hsi, hci] at hcell hrow
          clear hsi hci
          cases hP : P i j with
          | true =>
            have HA : Hid (hitsAt P j (i + 1) = hitsAt P j i ++ [(j, i)]) := hitsAt_yes hP
            have htl : tailL (P i) j (t.size + 1) = (j : Int) :: tailL (P i) (j + 1) (t.size + 1) := tail_yes (by omega) hP
            rw [htl] at hcell hrow
            obtain ⟨l, hl⟩ : ∃ l, tailL (P i) (j + 1) (t.size + 1) = l := ⟨_, rfl⟩
            rw [hl] at hcell hrow
            have HL : Hid (tailL (P i) (j + 1) (t.size + 1) = l) := hl
            have hcl : l.length + 1 ≤ ci := hrow.1
            obtain ⟨b, off, rfl, hbB, hbg, hcs⟩ : ∃ b off : Nat, si = some ⟨b, off, none⟩ ∧ b < B ∧ b ≠ g ∧ ∀ q, q < ((j : Int) :: l).length → wx.cell? ⟨b, off + q, none⟩ = some (.int .i64 (((j : Int) :: l).getD q 0)) := by
              rcases hrow.2 with h | h
              · cases h
              · exact h
            have cq : wx.cell? ⟨b, off, none⟩ = some (.int .i64 (j : Int)) := by have h9 := hcs 0 (by simp); simpa using h9
            have HT : Hid (LeftAt wx B g (if ci = 1 then some ⟨b, off, none⟩ else some ⟨b, off + 1, none⟩) (ci - 1) l) := hrow.tail
            have HSL : ∀ W : World, (Instr.slice 27 (.slice (some ⟨b, off, none⟩) (l.length + 1) ci) (some (.int .i64 1)) none none).run Try.prog W = .ok (.slice (if ci = 1 then some ⟨b, off, none⟩ else some ⟨b, off + 1, none⟩) l.length (ci - 1)) W := fun W => slice_tail W b off (l.length + 1) ci (by omega)
            have hcell2 : wx.cell? ⟨g, i, none⟩ = some (.slice (some ⟨b, off, none⟩) (l.length + 1) ci) ∧ wx.frozen? ⟨g, i, none⟩ = false := hcell
            obtain ⟨hc1, hc2⟩ := hcell2
            obtain ⟨s9, hs9⟩ : ∃ x, (if ci = 1 then some (⟨b, off, none⟩ : Addr) else some ⟨b, off + 1, none⟩) = x := ⟨_, rfl⟩
            rw [hs9] at HT HSL
            obtain ⟨c9, hc9⟩ : ∃ x, ci - 1 = x := ⟨_, rfl⟩
            rw [hc9] at HT HSL
            obtain ⟨n9, hn9⟩ : ∃ x, l.length = x := ⟨_, rfl⟩
            have HN9 : Hid (l.length = n9) := hn9
            rw [hn9] at hc1 HSL
            have hpos : 0 < (n9 : Int) + 1 := by omega
            have hcast : ((n9 + 1 : Nat) : Int) = (n9 : Int) + 1 := by omega
            have CF : Hid (∀ W, Below B wx W → W.cell? ⟨g, i, none⟩ = some (.slice (some ⟨b, off, none⟩) (n9 + 1) ci) ∧ W.frozen? ⟨g, i, none⟩ = false) := fun W hW => ⟨by rw [hW.cell (p := ⟨g, i, none⟩) hgB]; exact hc1, by rw [hW.frozen (p := ⟨g, i, none⟩) hgB]; exact hc2⟩
            have hown : OwnsH wx B u7 (hitsTo P k j1 ++ hitsAt P j i) := HX.out
            have hll : (hitsTo P k j1 ++ hitsAt P j i).length ≤ 3200400 := by rw [List.length_append]; have := HLEN.out; omega
            have O1 : Hid (OwnsH wx B u7 (hitsTo P k j1 ++ hitsAt P j i)) := hown
            clear hP htl hl hcell hrow hcs hs9 hc9 hn9 hcl hat
            obtain ⟨LX, hLX⟩ : ∃ LX, hitsTo P k j1 ++ hitsAt P j i = LX := ⟨_, rfl⟩
            have HLX : Hid (hitsTo P k j1 ++ hitsAt P j i = LX) := hLX
            rw [hLX] at hown hll O1
            clear hLX
            unfold OwnsH at hown
            go_wp2_with (at_builtin; refine wpList_append_own _ rfl (.tmp 53) (.tmp 57) 37 rfl B 83 i0 (.agg #[.int .i64 0, .int .i64 0]) 2 16 Try.underlying37 hi hz0 hz1 hz2 rfl (by decide) _ _ _ rfl (hown.alloc _) ⟨wx.heap.size, 0, none⟩ 1 1 [.int .i64 (j : Int), .int .i64 (i : Int)] rfl rfl ?c1 ?c2 ?c3 ?c4 ?c5 ?_)
            case c1 =>
              intro j u hu
              match j, hu with
              | 0, hu => simp at hu; subst hu; simp [Addr.add]
              | 1, hu => simp at hu; subst hu; simp [Addr.add]
              | j + 2, hu => simp at hu
            case c2 => intro u hu; simp at hu; rcases hu with rfl | rfl <;> rfl
            case c3 => unfold maxLen; omega
            case c4 => omega
            case c5 => first | omega | (simp <;> omega)
            intro v' w2 hown2 hgrow _
            have hg3 : wx.grownBy w2 u7.ownBlock := (World.grownBy_alloc wx _ u7.ownBlock).trans hgrow
            have hB2 : Below B wx w2 := ⟨hg3.os, hg3.tape, hg3.output, hg3.size, fun a ha => hg3.block a (by omega) (fun e => by have := (World.ownsRow.lt O1.out a e.symm).1; omega)⟩
            have hbw : w.heap.size ≤ B := HGL.out
            have HW2 : Hid (Below w.heap.size w w2) := HBX.out.trans (hB2.mono hbw)
            have HO2 : Hid (OwnsH w2 B v' (LX ++ [(j, i)])) := by
              show w2.ownsRow _ _ _ _ (LX ++ [(j, i)]).length (hcells (LX ++ [(j, i)]))
              rw [hcells_append, List.length_append]
              exact hown2
            have HH2 : Hid (Heads w2 g B k s3 c3 (midL P j (t.size + 1) i)) := HHX.out.call hB2 (Nat.le_refl _)
            obtain ⟨d1, d2⟩ := CF.out w2 hB2
            have HSET := HH2.out.set hil (HT.out.kept hB2 (Nat.le_refl _))
            rw [HN9.out] at HSET
            have HS : Hid (Heads (w2.setCell ⟨g, i, none⟩ (.slice s9 n9 c9)) g B k (fun q => if q = i then s9 else s3 q) (fun q => if q = i then c9 else c3 q) (midL P j (t.size + 1) (i + 1))) := HSET.congr (fun q hq => by
              unfold midL
              by_cases e : q = i
              · rw [if_pos e, if_pos (by omega), e, HL.out]
              · rw [if_neg e]
                by_cases e2 : q < i
                · rw [if_pos e2, if_pos (by omega)]
                · rw [if_neg e2, if_neg (by omega)])
            have HOS : Hid (OwnsH (w2.setCell ⟨g, i, none⟩ (.slice s9 n9 c9)) B v' (LX ++ [(j, i)])) := by
              show World.ownsRow _ _ _ _ _ _ _
              exact row_setOther HO2.out hgB
            have HWS : Hid (Below w.heap.size w (w2.setCell ⟨g, i, none⟩ (.slice s9 n9 c9))) := HW2.out.setCell (p := ⟨g, i, none⟩) HWG.out _
            have hg2 : g < w2.heap.size := Nat.lt_of_lt_of_le hgB HH2.out.sz
            clear hown2 hgrow hg3 hown hc1 hc2 HSET
            go_wp2_with fail
            go_roundw
            case rel => exact ⟨i + 1, _, _, by omega, by go_num, by rw [HA.out, ← List.append_assoc, HLX.out]; exact HOS.out, HS.out, HWS.out⟩
            case measure => simp [intOf]; omega
          | false =>
            have HA : Hid (hitsAt P j (i + 1) = hitsAt P j i) := hitsAt_no hP
            have HM : Hid (Heads wx g B k s3 c3 (midL P j (t.size + 1) (i + 1))) := HHX.out.congr (fun q hq => by
              unfold midL
              by_cases e : q = i
              · subst e
                rw [if_neg (by omega), if_pos (by omega)]
                exact tail_no hP
              · by_cases e2 : q < i
                · rw [if_pos e2, if_pos (by omega)]
                · rw [if_neg e2, if_neg (by omega)])
            have hth := tail_head (p := P i) (e := j) (n := t.size + 1) (by omega)
            rw [hP] at hth
            obtain ⟨l, hl⟩ : ∃ l, tailL (P i) j (t.size + 1) = l := ⟨_, rfl⟩
            rw [hl] at hcell hrow hth
            clear hl hP
            obtain ⟨hc1, hc2⟩ := hcell
            cases l with
            | nil =>
              have hc1' : wx.cell? ⟨g, i, none⟩ = some (.slice si 0 ci) := hc1
              clear hc1 hrow hth
              go_wp2_with fail
              go_roundw
              case rel => exact ⟨i + 1, s3, c3, by omega, by go_num, by rw [HA.out]; exact HX.out, HM.out, HBX.out⟩
              case measure => simp [intOf]; omega
            | cons x l =>
              obtain ⟨b, off, rfl, hbB, hbg, hcs⟩ : ∃ b off : Nat, si = some ⟨b, off, none⟩ ∧ b < B ∧ b ≠ g ∧ ∀ q, q < (x :: l).length → wx.cell? ⟨b, off + q, none⟩ = some (.int .i64 ((x :: l).getD q 0)) := by
                rcases hrow.2 with h | h
                · cases h
                · exact h
              have cq : wx.cell? ⟨b, off, none⟩ = some (.int .i64 x) := by have h9 := hcs 0 (by simp); simpa using h9
              have hx : ¬ x = (j : Int) := fun e => by
                have h9 := hth.1 ⟨by simp, by simpa using e⟩
                cases h9
              have hc1' : wx.cell? ⟨g, i, none⟩ = some (.slice (some ⟨b, off, none⟩) (l.length + 1) ci) := hc1
              obtain ⟨n9, hn9⟩ : ∃ x, l.length = x := ⟨_, rfl⟩
              rw [hn9] at hc1'
              have hpos : 0 < (n9 : Int) + 1 := by omega
              have hcast : ((n9 + 1 : Nat) : Int) = (n9 : Int) + 1 := by omega
              clear hc1 hrow hth hcs hn9
              go_wp2_with fail
              go_roundw
              case rel => exact ⟨i + 1, s3, c3, by omega, by go_num, by rw [HA.out]; exact HX.out, HM.out, HBX.out⟩
              case measure => simp [intOf]; omega
        · have hii : ¬ (i : Int) < (k : Int) := by omega
          obtain rfl : i = k := by omega
          have HF : Hid (OwnsH wx B u7 (hitsTo P i (j1 + 1))) := by show OwnsH _ _ _ _; rw [hitsTo_succ, HJ.out]; exact HX.out
          have HHF : Hid (Heads wx g B i s3 c3 (fun q => tailL (P q) (j1 + 1 + 1) (t.size + 1))) := HHX.out.congr (fun q hq => by unfold midL; rw [if_pos hq, HJ.out])
          clear hown hheads hbel
          have hjj := HJ.out
          go_wp2_with fail
          go_roundw
          case rel => exact ⟨j1 + 1, s3, c3, by omega, by go_num, HF.out, HHF.out, HBX.out⟩
          case measure => simp [intOf]; omega
    · have hji : ¬ (j : Int) ≤ (t.size : Int) := by omega
      have hjj := HJ.out
      obtain rfl : j1 = t.size := by omega
      clear hjj
      go_wp2_with fail
      go_ret
      exact ⟨_, rfl, HB.out, ints_low HO.out HGL.out⟩
end Go.Proofs.Ytfeolbgenpknfaa
