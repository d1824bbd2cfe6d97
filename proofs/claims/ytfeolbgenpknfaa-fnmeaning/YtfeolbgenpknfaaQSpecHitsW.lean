/- What is proved here: the specification's HitsOf tells the hits of right patterns in a text, in order, in new memory; nothing that was there turns. -/
import Derived.Test.YtfeolbgenpknfaaQEndRowsMToAARowM
import Derived.Test.YtfeolbgenpknfaaQSpecHitsLW
import Derived.Test.YtfeolbgenpknfaaQSpecEndsW
import Derived.Test.YtfeolbgenpknfaaQSpecPYesWToIntRowW
namespace Go.Proofs.Ytfeolbgenpknfaa
open Go.RowKit

set_option maxRecDepth 100000 in
set_option maxHeartbeats 4000000 in
theorem specHits_yes (sa : Option Addr) (k cap : Nat) (s : Nat → Option Addr) (n c : Nat → Nat) (f : Nat → Nat → Atm) (t : ByteArray) (P : Nat → Nat → Bool) (w : World) (hk : k ≤ 400) (ht : t.size ≤ 8000) (hr : AARows w w.heap.size sa k s n c f) (hc : ∀ i, i < k → ∀ j, j < n i → (f i j).c.size ≤ maxLen) (hR : ∀ i, i < k → PatRight (n i) (f i)) (hp : ∀ i, i < k → ∀ e, e ≤ t.size → (P i e = true ↔ ∃ s, s < e ∧ Cuts t (atomsL (f i) (n i)) s e)) :
    Calls Try.prog 22 #[.slice sa k cap, .string t] w fun e w' => NewHits w (hitsTo P k t.size) e w' := by
  obtain ⟨i0, hi, hz0, hz1, hz2⟩ := info_parts Try.rowInfo
  have HR : Hid (AARows w w.heap.size sa k s n c f) := hr
  have HPR : Hid (∀ i, i < k → ∀ W, ARow W W.heap.size (s i) (n i) (f i) → Calls Try.prog 23 #[.slice (s i) (n i) (c i)] W fun e w' => e = .returned (.bool true) ∧ Below W.heap.size W w') := fun i hi W hW => specPRight_yes (s i) (n i) (c i) (f i) W (by have := (hR i hi).2.1; unfold maxLen; omega) hW (hc i hi) (hR i hi)
  have HEN : Hid (∀ i, i < k → ∀ W, ARow W W.heap.size (s i) (n i) (f i) → Calls Try.prog 65 #[.slice (s i) (n i) (c i), .string t] W fun e w' => NewInts W (classL (P i) (t.size + 1)).length (fun j => (classL (P i) (t.size + 1)).getD j 0) e w') := fun i hi W hW => l05Ends_any (s i) (n i) (c i) (f i) t (P i) W (hR i hi).2.1 hW ht (hR i hi).2.2.1 (hp i hi)
  have h8 : ¬ 8000 < (t.size : Int) := by omega
  have h4 : ¬ 400 < (k : Int) := by omega
  obtain ⟨LE, hLE⟩ : ∃ LE : Nat → Nat, LE = fun i => (classL (P i) (t.size + 1)).length := ⟨_, rfl⟩
  obtain ⟨FF, hFF⟩ : ∃ FF : Nat → Nat → Int, FF = fun i j => (classL (P i) (t.size + 1)).getD j 0 := ⟨_, rfl⟩
  have HEN2 : Hid (∀ i, i < k → ∀ W, ARow W W.heap.size (s i) (n i) (f i) → Calls Try.prog 65 #[.slice (s i) (n i) (c i), .string t] W fun e w' => NewInts W (LE i) (FF i) e w') := by rw [hLE, hFF]; exact HEN.out
  have HHI : Hid (∀ (W : World) (sx : Option Addr) (cx : Nat) (s' : Nat → Option Addr) (c' : Nat → Nat), ERows W W.heap.size sx k s' LE c' FF → Calls Try.prog 68 #[.slice sx k cx, .int .i64 (t.size : Int)] W fun e w' => NewHits W (hitsTo P k t.size) e w') := by rw [hLE, hFF]; exact fun W sx cx s' c' h => l05Hits_any sx k cx t.size s' c' P W hk ht h
  have HBase : Hid (Below w.heap.size w (w.alloc (.cells #[] 27))) := (Below.refl _ _).alloc (Nat.le_refl _) _
  have HE0 : Hid (EndsAt (w.alloc (.cells #[] 27)) w.heap.size (.slice (some ⟨w.heap.size, 0, none⟩) 0 0) 0 (fun _ => none) LE (fun _ => 0) FF) := rows_start w _ (Nat.le_refl _) _ _ _ _
  clear hr hc hR hp HEN hLE hFF
  go_enter Try.func22, Try.ntmps22
  go_wp2_with fail
  go_loopw [5, 6] (fun v iv wr => ∃ (i : Nat) (s' : Nat → Option Addr) (c' : Nat → Nat), i ≤ k ∧ iv = .int .i64 (i : Int) ∧ EndsAt wr w.heap.size v i s' LE c' FF ∧ Below w.heap.size w wr) (fun _ iv _ => k - (intOf iv).toNat)
  case atStart => exact ⟨0, _, _, Nat.zero_le _, rfl, HE0.out, HBase.out⟩
  case round =>
    obtain ⟨i, s', c', hik, rfl, hends, hbel⟩ := hrel
    have HB : Hid (Below w.heap.size w wr) := hbel
    have HE : Hid (EndsAt wr w.heap.size u5 i s' LE c' FF) := hends
    clear hends hbel
    by_cases hil : i < k
    · have hii : (i : Int) < (k : Int) := by omega
      have hi0 : (0 : Int) ≤ (i : Int) := by omega
      obtain ⟨bb, off, rfl, hbb, ci, hrow⟩ := (HR.out.late HB.out).at hil
      have CI : Hid (∀ W, Below wr.heap.size wr W → W.cell? ⟨bb, off + i, none⟩ = some (.slice (s i) (n i) (c i)) ∧ ARow W W.heap.size (s i) (n i) (f i)) := fun W hW => ⟨by rw [hW.cell (p := ⟨bb, off + i, none⟩) hbb]; exact ci, (hrow.kept hW).up hW.size⟩
      have C1 := HPR.out i hil wr hrow
      have C2 := HEN2.out i hil
      clear hrow
      obtain ⟨si, hsi⟩ : ∃ x, s i = x := ⟨_, rfl⟩
      obtain ⟨ni, hni⟩ : ∃ x, n i = x := ⟨_, rfl⟩
      obtain ⟨c9, hc9⟩ : ∃ x, c i = x := ⟨_, rfl⟩
      rw [hsi, hni, hc9] at ci CI C1 C2
      clear hsi hni hc9
      have C2H : Hid (∀ W, ARow W W.heap.size si ni (f i) → Calls Try.prog 65 #[.slice si ni c9, .string t] W fun e w' => NewInts W (LE i) (FF i) e w') := C2
      clear C2
      go_wp2_with fail
      refine C1.mono ?_
      rintro e w1 ⟨rfl, hb⟩
      have B1 : Hid (Below wr.heap.size wr w1) := hb
      obtain ⟨ci1, hrow1⟩ := CI.out w1 hb
      have C3 := C2H.out w1 hrow1
      clear hb ci hrow1 C1
      go_wp2_with fail
      refine C3.mono ?_
      rintro e w2 ⟨s3, c3, rfl, hb, ho⟩
      have W2 : Hid (Below w1.heap.size w1 w2 ∧ OwnS w2 w1.heap.size s3 (LE i) (FF i)) := ⟨hb, ho⟩
      have E1 : Hid (EndsAt w1 w.heap.size u5 i s' LE c' FF) := HE.out.call B1.out
      have hown := (E1.out.call hb).own
      have hsz : w.heap.size ≤ w2.heap.size := Nat.le_trans (Nat.le_trans HB.out.size B1.out.size) hb.size
      obtain ⟨li, hli⟩ : ∃ x, LE i = x := ⟨_, rfl⟩
      have HLI : Hid (LE i = li) := hli
      rw [hli]
      clear hli
      clear hb ho C3
      go_wp2_with (at_builtin; refine wpList_append_own_at _ rfl (.tmp 30) (.tmp 37) 84 rfl w.heap.size 27 i0 (.slice none 0 0) 1 24 Try.underlying84 hi hz0 hz1 hz2 rfl (by decide) _ _ _ rfl (hown.alloc _) ⟨w2.heap.size, 0, none⟩ 1 1 [.slice s3 li c3] rfl rfl ?c1 ?c2 ?c3 ?c4 ?c5 ?_)
      case c1 =>
        intro j u hu
        match j, hu with
        | 0, hu => simp at hu; subst hu; simp [Addr.add]
        | j + 1, hu => simp at hu
      case c2 => intro u hu; simp at hu; subst hu; rfl
      case c3 => unfold maxLen; omega
      case c4 => omega
      case c5 => first | omega | (simp <;> omega)
      intro v5 w5 hown5 hgrow5 _ hvb
      have HD : Hid (EndsAt w5 w.heap.size v5 (i + 1) (fun j => if j = i then s3 else s' j) LE (fun j => if j = i then c3 else c' j) FF) := by
        have hal : Below w2.heap.size w2 (w2.alloc (.cells #[.slice s3 li c3] 27)) := (Below.refl _ _).alloc (Nat.le_refl _) _
        have h9 : EndsAt w1 w.heap.size u5 i (fun j => if j = i then s3 else s' j) LE (fun j => if j = i then c3 else c' j) FF := E1.out.rest (fun j hj => ⟨(if_neg (by omega)).symm, rfl, (if_neg (by omega)).symm, rfl⟩)
        refine h9.push (W1 := w2.alloc (.cells #[.slice s3 li c3] 27)) (Nat.le_trans HB.out.size B1.out.size) (W2.out.1.trans (hal.mono W2.out.1.size)) ?_ ?_ hgrow5 ?_
        · simp only [if_pos]
          exact W2.out.2.kept hal rfl
        · rw [scells_congr (s' := s') (n' := LE) (c' := c') i (fun j hj => ⟨if_neg (by omega), rfl, if_neg (by omega)⟩)]
          simp only [if_pos]
          rw [HLI.out]
          exact hown5
        · exact hvb.imp id (fun h => ⟨_, h, by simp⟩)
      have HB5 : Hid (Below w.heap.size w w5) := by
        have h1 : Below w.heap.size w w2 := HB.out.trans ((B1.out.trans (W2.out.1.mono B1.out.size)).mono HB.out.size)
        have hg3 : w2.grownBy w5 u5.ownBlock := (World.grownBy_alloc w2 _ u5.ownBlock).trans hgrow5
        exact h1.trans ⟨hg3.os, hg3.tape, hg3.output, hg3.size, fun a ha => hg3.block a (by have := h1.size; omega) (fun e => by have := (E1.out.own.lt a e.symm).1; omega)⟩
      clear hown5 hgrow5 hvb hown
      go_wp2_with fail
      go_roundw
      case rel => exact ⟨i + 1, _, _, by omega, by go_num, HD.out, HB5.out⟩
      case measure => simp [intOf]; omega
    · have hii : ¬ (i : Int) < (k : Int) := by omega
      obtain rfl : i = k := by omega
      obtain ⟨sx, cx, rfl, her⟩ := HE.out.out
      have C := HHI.out wr sx cx s' c' her
      clear her
      go_wp2_with fail
      refine C.mono ?_
      rintro e w1 ⟨v, rfl, hb, ho⟩
      have H1 : Hid (Below wr.heap.size wr w1 ∧ OwnsH w1 wr.heap.size v (hitsTo P i t.size)) := ⟨hb, ho⟩
      clear hb ho C
      go_wp2_with fail
      go_ret
      exact ⟨v, rfl, HB.out.trans (H1.out.1.mono HB.out.size), ints_low H1.out.2 HB.out.size⟩
end Go.Proofs.Ytfeolbgenpknfaa
