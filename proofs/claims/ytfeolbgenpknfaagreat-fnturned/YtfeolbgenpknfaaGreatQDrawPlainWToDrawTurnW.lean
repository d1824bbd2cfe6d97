/- What is proved here: a plain pattern that is drawn is a slice of at most five small atoms, each of them once, in new memory; nothing turns but the source's own block.
   What is proved here: l08Cells draws some row of cells, in new memory; the source's block alone turns.
   What is proved here: the inputs that FnTurned draws: some cells and a byte, or none; some cells and a text. -/
import Derived.Test.YtfeolbgenpknfaaGreatQAtomRowWToSpecPRightW
import Derived.Test.YtfeolbgenpknfaaGreatQDrawCellW
import Derived.Test.YtfeolbgenpknfaaGreatQBytesRowWToBoolRowsW
import Derived.Test.YtfeolbgenpknfaaGreatQBehMToBehindW
import Derived.Deep.RegionHeld3
import Derived.Deep.RegionWith
namespace Go.Proofs.YtfeolbgenpknfaaGreat
open Go.RowKit

set_option maxRecDepth 100000 in
set_option maxHeartbeats 4000000 in
theorem l04Plain_any (w : World) (b : Nat) (sa : Option Addr) (len cap : Nat) (hs : Src w b sa len cap) :
    Calls Tryz.prog 63 #[.pointer (some ⟨b, 0, none⟩)] w fun e w' => SomePat w e w' ∧ w.grownBy w' (some b) ∧ Src w' b sa len cap := by
  obtain ⟨i0, hi, hz0, hz1, hz2⟩ := info_parts Tryz.atomInfo
  have hb := hs.lt
  have P0 : Hid (PatIn w (w.alloc (.cells #[] 135)) b sa len cap 0 (fun _ => atm0) (.slice (some ⟨w.heap.size, 0, none⟩) 0 0)) :=
    ⟨World.grownBy_alloc w _ _, hs.after ((Below.refl _ _).alloc (Nat.le_refl _) _), owns_start w w.heap.size (Nat.le_refl _) _ rfl, fun i hi => by omega⟩
  clear hs
  go_enter Tryz.func63, Tryz.ntmps63
  go_wp2_with fail
  generalize w.alloc (.cells #[] 135) = v0 at *
  refine (n_any _ b sa len cap 5 (by decide) P0.out.s).mono ?_
  rintro e w1 ⟨⟨r, rfl, hr0, hr1, _⟩, hg, hS⟩
  have hr2 : r < 5 := hr1 (by decide)
  have P1 : Hid (PatIn w w1 b sa len cap 0 (fun _ => atm0) (.slice (some ⟨w.heap.size, 0, none⟩) 0 0)) := ⟨P0.out.g.trans hg, hS, owns_src P0.out.o hg hb, P0.out.sm⟩
  clear hr1 hg hS P0
  go_wp2_with fail
  go_loopw [3, 4] (fun v kv wr => ∃ (m : Nat) (f : Nat → Atm) (k : Int), kv = .int .i64 k ∧ 0 ≤ k ∧ k + (m : Int) ≤ 5 ∧ PatIn w wr b sa len cap m f v) (fun _ kv _ => (intOf kv).toNat)
  case atStart => exact ⟨0, _, 1 + r, rfl, by omega, by omega, P1.out⟩
  case round =>
    obtain ⟨m, f, k, rfl, hk0, hkm, hp⟩ := hrel
    have HP : Hid (PatIn w wr b sa len cap m f u3) := hp
    clear hp
    by_cases hk : 0 < k
    · go_wp2_with fail
      have hwb : b < wr.heap.size := HP.out.s.lt
      have PA : Hid (PatIn w (wr.alloc (.cells #[.string ⟨#[97]⟩, .string ⟨#[98]⟩, .string ⟨#[97, 98]⟩, .string ⟨#[99]⟩, .string ⟨#[97, 98, 99]⟩] 9)) b sa len cap m f u3) := ⟨HP.out.g.trans (World.grownBy_alloc _ _ _), HP.out.s.after ((Below.refl _ _).alloc (Nat.le_refl _) _), HP.out.o.alloc _, HP.out.sm⟩
      refine (pick_any _ b sa len cap wr.heap.size 5 (by decide) (by decide) (by omega) ?_ PA.out.s).mono ?_
      · intro i hi
        rcases (show i = 0 ∨ i = 1 ∨ i = 2 ∨ i = 3 ∨ i = 4 from by omega) with rfl | rfl | rfl | rfl | rfl
        all_goals exact ⟨_, by rw [World.cell?_alloc_mark]; rfl, by decide⟩
      rintro e w2 ⟨⟨cl, rfl, hcs⟩, hg, hS⟩
      have G2 : Hid (w.grownBy w2 (some b)) := PA.out.g.trans hg
      have hown := owns_src PA.out.o hg hb
      have S2 : Hid (Src w2 b sa len cap) := hS
      have HA : Hid (SmallA ⟨cl, 1, 1⟩) := ⟨hcs, ⟨(by show (-2 : Int) ≤ 1; decide), (by show (1 : Int) ≤ 30; decide)⟩, (by show (-2 : Int) ≤ 1; decide), (by show (1 : Int) ≤ 30; decide)⟩
      have hlo : w.heap.size ≤ w2.heap.size := G2.out.size
      clear hg hS hcs
      go_wp2_with (at_builtin; refine wpList_append_own _ rfl (.tmp 13) (.tmp 18) 102 rfl w.heap.size 135 i0 (.agg #[.string ⟨#[]⟩, .int .i64 0, .int .i64 0]) 3 32 Tryz.underlying102 hi hz0 hz1 hz2 rfl (by decide) _ _ _ rfl (hown.alloc _) ⟨w2.heap.size, 0, none⟩ 1 1 [.string cl, .int .i64 1, .int .i64 1] rfl rfl ?c1 ?c2 ?c3 ?c4 ?c5 ?_)
      case c1 =>
        intro j u hu
        match j, hu with
        | 0, hu => simp at hu; subst hu; simp [Addr.add]
        | 1, hu => simp at hu; subst hu; simp [Addr.add]
        | 2, hu => simp at hu; subst hu; simp [Addr.add]
        | j + 3, hu => simp at hu
      case c2 => intro u hu; simp at hu; rcases hu with rfl | rfl | rfl <;> rfl
      case c3 => unfold maxLen; omega
      case c4 => omega
      case c5 => simp <;> omega
      intro v' w3 hown3 hgrow _
      have hg3 : w2.grownBy w3 u3.ownBlock := (World.grownBy_alloc w2 _ u3.ownBlock).trans hgrow
      have P3 : Hid (PatIn w w3 b sa len cap (m + 1) (fun i => if i = m then ⟨cl, 1, 1⟩ else f i) v') := ⟨grown_row G2.out hg3 (fun j e => (hown.lt j e).1), S2.out.kept hg3 (fun j e => by have := (hown.lt j e).1; omega), by
        show w3.ownsRow w.heap.size 135 3 v' (m + 1) (acells (fun i => if i = m then ⟨cl, 1, 1⟩ else f i) m ++ [.string (if m = m then (⟨cl, 1, 1⟩ : Atm) else f m).c, .int .i64 (if m = m then (⟨cl, 1, 1⟩ : Atm) else f m).l, .int .i64 (if m = m then (⟨cl, 1, 1⟩ : Atm) else f m).m])
        rw [if_pos rfl, acells_congr m (fun i hi => if_neg (by omega))]
        exact hown3, fun i hi => by
          by_cases e : i = m
          · rw [if_pos e]; exact HA.out
          · rw [if_neg e]; exact HP.out.sm i (by omega)⟩
      clear hown3 hgrow hg3 hown
      go_wp2_with fail
      go_roundw
      case rel => exact ⟨m + 1, _, k - 1, by go_num, by omega, by omega, P3.out⟩
      case measure => simp [intOf]; omega
    · obtain ⟨s, cp, rfl, hsl⟩ := atoms_of_owns HP.out.o
      have HSL : Hid (ASl wr w.heap.size wr.heap.size s m f) := hsl
      clear hsl
      go_wp2_with fail
      go_ret
      exact ⟨⟨_, m, _, f, rfl, by omega, HSL.out, HP.out.sm⟩, HP.out.g, HP.out.s⟩
end Go.Proofs.YtfeolbgenpknfaaGreat
namespace Go.Proofs.YtfeolbgenpknfaaGreat
open Go.RowKit

set_option maxRecDepth 100000 in
set_option maxHeartbeats 4000000 in
theorem l08Cells_any (w : World) (b : Nat) (sa : Option Addr) (len cap : Nat) (hs : Src w b sa len cap) :
    Calls Tryz.prog 31 #[.pointer (some ⟨b, 0, none⟩)] w fun e w' => SomeCells w e w' ∧ w.grownBy w' (some b) ∧ Src w' b sa len cap := by
  have hb := hs.lt
  have HS : Hid (Src w b sa len cap) := hs
  clear hs
  go_enter Tryz.func31, Tryz.ntmps31
  go_wp2_with fail
  refine (one_any _ b sa len cap 10 (by decide) HS.out).mono ?_
  rintro e w1 ⟨⟨x, rfl⟩, hg, hS⟩
  have S1 : Hid (Src w1 b sa len cap ∧ w.grownBy w1 (some b)) := ⟨hS, hg⟩
  clear hg hS
  cases x with
  | true =>
    go_wp2_with fail
    refine (l06Cells_any w1 b sa len cap S1.out.1).mono ?_
    rintro e w2 ⟨⟨s, n, cp, f, rfl, hn, hsl, hc⟩, hg, hS⟩
    have HE : Hid (n ≤ 60 ∧ CSl w2 w.heap.size w2.heap.size s n f ∧ (∀ i, i < n → (f i).c.size ≤ 256) ∧ w.grownBy w2 (some b) ∧ Src w2 b sa len cap) := ⟨hn, hsl.low S1.out.2.size, hc, S1.out.2.trans hg, hS⟩
    clear hn hsl hc hg hS
    go_wp2_with fail
    go_ret
    exact ⟨⟨s, n, cp, f, rfl, HE.out.1, HE.out.2.1, HE.out.2.2.1⟩, HE.out.2.2.2⟩
  | false =>
    go_wp2_with fail
    refine (l04Plain_any w1 b sa len cap S1.out.1).mono ?_
    rintro e w2 ⟨⟨s, n, cp, f, rfl, hn5, hsl, hsm⟩, hg, hS⟩
    have HE : Hid (w.grownBy w2 (some b) ∧ Src w2 b sa len cap ∧ w.heap.size ≤ w2.heap.size) := ⟨S1.out.2.trans hg, hS, (S1.out.2.trans hg).size⟩
    have hfar := hsl.far
    have hcs : ∀ i, i < n → (f i).c.size ≤ maxLen := fun i hi => by have := (hsm i hi).1; unfold maxLen; omega
    have HK : Hid (Calls Tryz.prog 62 #[.slice s n cp] w2 fun e w' => ∃ (s2 : Option Addr) (m c2 : Nat) (g : Nat → Cel), e = .returned (.slice s2 m c2) ∧ m ≤ 60 ∧ CSl w' w2.heap.size w'.heap.size s2 m g ∧ (∀ i, i < m → (g i).c.size ≤ 256) ∧ Below w2.heap.size w2 w') := by
      by_cases hR : PatRight n f
      · have hl := pat_len hR
        refine (specKOf_yes s n cp f w2 (by unfold maxLen; omega) hfar.row hcs hR).mono ?_
        rintro e w' ⟨s3, c3, rfl, hb3, hs3⟩
        exact ⟨s3, _, c3, _, rfl, by omega, hs3, fun i hi => celsP_class (fun a ha => by obtain ⟨j, hj, rfl⟩ := atomsL_mem ha; exact (hsm j hj).1) _ (getD_mem hi), hb3⟩
      · refine (specKOf_no s n cp f w2 (by unfold maxLen; omega) hfar.row hcs hR).mono ?_
        rintro e w' ⟨s3, c3, rfl, hb3, hs3⟩
        exact ⟨s3, 0, c3, (fun _ => cel0), rfl, by omega, Or.inl rfl, fun i hi => by omega, hb3⟩
    clear hcs hfar hsl hsm hg hS
    go_wp2_with fail
    refine HK.out.mono ?_
    rintro e w3 ⟨s2, m, c2, g, rfl, hm, hs2, hg2, hb4⟩
    have HF : Hid (m ≤ 60 ∧ CSl w3 w.heap.size w3.heap.size s2 m g ∧ (∀ i, i < m → (g i).c.size ≤ 256) ∧ w.grownBy w3 (some b) ∧ Src w3 b sa len cap) := ⟨hm, hs2.low HE.out.2.2, hg2, HE.out.1.trans ⟨hb4.os, hb4.tape, hb4.output, hb4.size, fun k hk _ => hb4.block k hk⟩, HE.out.2.1.after hb4⟩
    clear hm hs2 hg2 hb4 HK
    go_wp2_with fail
    go_ret
    exact ⟨⟨s2, m, c2, g, rfl, HF.out.1, HF.out.2.1, HF.out.2.2.1⟩, HF.out.2.2.2⟩
end Go.Proofs.YtfeolbgenpknfaaGreat
namespace Go.Proofs.YtfeolbgenpknfaaGreat
open Go.RowKit

/-- Some cells and some number. -/
def CelIntT (e : Ending) (w' : World) : Prop := ∃ (s : Option Addr) (n cap : Nat) (f : Nat → Cel) (x : Int), e = .returned (.tuple #[.slice s n cap, .int .i64 x]) ∧ n ≤ 60 ∧ CRow w' w'.heap.size s n f ∧ (∀ i, i < n → (f i).c.size ≤ 256) ∧ -1 ≤ x ∧ x ≤ 256
/-- Some cells and some text. -/
def CelTxtT (m : Nat) (e : Ending) (w' : World) : Prop := ∃ (s : Option Addr) (n cap : Nat) (f : Nat → Cel) (t : ByteArray), e = .returned (.tuple #[.slice s n cap, .string t]) ∧ n ≤ 60 ∧ CRow w' w'.heap.size s n f ∧ (∀ i, i < n → (f i).c.size ≤ 256) ∧ t.size ≤ m
theorem grown_drawT {w W : World} {b : Nat} (hg : w.drew.grownBy W (some b)) : w.grownBy W (some b) := ⟨hg.os, hg.tape, hg.output, hg.size, hg.block⟩
theorem grown_lateT {w W : World} {b : Nat} {o : Obj} (hg : (w.alloc o).drew.grownBy W (some b)) : w.grownBy W (some b) := (World.grownBy_alloc w o _).trans (grown_drawT hg)
theorem eightT (k : Nat) (hk : k < 8) : ∃ x : Int, (#[Value.int .i64 97, .int .i64 98, .int .i64 99, .int .i64 65, .int .i64 0, .int .i64 255, .int .i64 256, .int .i64 (-1)] : Array Value)[k]? = some (.int .i64 x) ∧ -1 ≤ x ∧ x ≤ 256 := by
  rcases (show k = 0 ∨ k = 1 ∨ k = 2 ∨ k = 3 ∨ k = 4 ∨ k = 5 ∨ k = 6 ∨ k = 7 from by omega) with rfl | rfl | rfl | rfl | rfl | rfl | rfl | rfl
  all_goals exact ⟨_, rfl, by decide, by decide⟩
set_option maxRecDepth 100000 in
set_option maxHeartbeats 4000000 in
theorem drawTurnByte_any (w : World) (sa : Option Addr) (len cap : Nat) (hl : len ≤ 1048576) (hby : Bytes8 w w.heap.size sa len) :
    Calls Tryz.prog 12 #[.slice sa len cap] w fun e w' => CelIntT e w' ∧ Below w.heap.size w w' := by
  have HY : Hid (Bytes8 w w.heap.size sa len) := hby
  clear hby
  go_enter Tryz.func12, Tryz.ntmps12
  go_wp2_with fail
  refine (source_any w sa len cap hl HY.out).mono ?_
  rintro e w1 ⟨rfl, hb1, hS1⟩
  have HB1 : Hid (Below w.heap.size w w1) := hb1
  have HS1 : Hid (Src w1 w.heap.size sa len cap) := hS1
  clear hb1 hS1 HY
  go_wp2_with fail
  refine (l08Cells_any _ w.heap.size sa len cap HS1.out).mono ?_
  rintro e w2 ⟨⟨s, n, cp, f, rfl, hn60, hsl, hsm⟩, hg2, hS2⟩
  have HB2 : Hid (Below w.heap.size w w2) := below_of_only HB1.out (Nat.le_refl _) HB1.out.size hg2
  have HS2 : Hid (Src w2 w.heap.size sa len cap) := hS2
  have HF : Hid (CSl w2 w1.heap.size w2.heap.size s n f ∧ (∀ i, i < n → (f i).c.size ≤ 256) ∧ w.heap.size < w1.heap.size) := ⟨hsl, hsm, HS1.out.lt⟩
  have hwb := hS2.lt
  clear hg2 hS2 hsl hsm HB1 HS1
  go_wp2_with fail
  go_region_with (first
    | (go_at_call 37; (with_reducible refine (n_any _ w.heap.size sa len cap 8 (by decide) (by first | exact HS2.out.after ⟨rfl, rfl, rfl, Nat.le_refl _, fun _ _ => rfl⟩ | exact (HS2.out.after ((Below.refl _ _).alloc (Nat.le_refl _) _)).after ⟨rfl, rfl, rfl, Nat.le_refl _, fun _ _ => rfl⟩)).mono ?_); rintro e w3 ⟨⟨r, rfl, hr0, hr1, _⟩, hg, hS⟩; have hr2 : r < 8 := hr1 (by decide); obtain ⟨k, rfl⟩ := Int.eq_ofNat_of_zero_le hr0; obtain ⟨x, hx, hx0, hx1⟩ := eightT k (by omega); have hki : (k : Int) < 8 := (by omega); have hfut : (w3.alloc (.cells #[.int .i64 97, .int .i64 98, .int .i64 99, .int .i64 65, .int .i64 0, .int .i64 255, .int .i64 256, .int .i64 (-1)] 2)).cell? ⟨w3.heap.size, k, none⟩ = some (.int .i64 x) := (by rw [World.cell?_alloc_mark]; exact hx); (try (have hpast := hg.cell (a := ⟨w2.heap.size, k, none⟩) (v := .int .i64 x) (by show (w2.alloc (.cells #[.int .i64 97, .int .i64 98, .int .i64 99, .int .i64 65, .int .i64 0, .int .i64 255, .int .i64 256, .int .i64 (-1)] 2)).cell? ⟨w2.heap.size, k, none⟩ = _; rw [World.cell?_alloc_mark]; exact hx) (by simp; omega))); have hg2 : w2.grownBy w3 (some w.heap.size) := (by first | exact grown_drawT hg | exact grown_lateT hg); have S3 : Hid (Below w.heap.size w w3 ∧ CSl w3 w1.heap.size w3.heap.size s n f) := ⟨below_of_only HB2.out (Nat.le_refl _) HB2.out.size hg2, HF.out.1.src hg2 HF.out.2.2⟩; clear hr1 hg2 hg hS hx))
  all_goals
    go_wp2_with fail
    go_ret2
    first
      | exact ⟨⟨s, n, cp, f, x, rfl, hn60, S3.out.2.row, HF.out.2.1, hx0, hx1⟩, S3.out.1⟩
      | exact ⟨⟨s, n, cp, f, x, rfl, hn60, (S3.out.2.kept ((Below.refl _ _).alloc (Nat.le_refl _) _)).row, HF.out.2.1, hx0, hx1⟩, S3.out.1.alloc S3.out.1.size _⟩
set_option maxRecDepth 100000 in
set_option maxHeartbeats 4000000 in
theorem drawTurnRun_any (w : World) (sa : Option Addr) (len cap : Nat) (hl : len ≤ 1048576) (hby : Bytes8 w w.heap.size sa len) :
    Calls Tryz.prog 4 #[.slice sa len cap] w fun e w' => CelTxtT 16000 e w' ∧ Below w.heap.size w w' := by
  have HY : Hid (Bytes8 w w.heap.size sa len) := hby
  clear hby
  go_enter Tryz.func4, Tryz.ntmps4
  go_wp2_with fail
  refine (source_any w sa len cap hl HY.out).mono ?_
  rintro e w1 ⟨rfl, hb1, hS1⟩
  have HB1 : Hid (Below w.heap.size w w1) := hb1
  have HS1 : Hid (Src w1 w.heap.size sa len cap) := hS1
  clear hb1 hS1 HY
  go_wp2_with fail
  refine (l08Cells_any _ w.heap.size sa len cap HS1.out).mono ?_
  rintro e w2 ⟨⟨s, n, cp, f, rfl, hn60, hsl, hsm⟩, hg2, hS2⟩
  have HB2 : Hid (Below w.heap.size w w2) := below_of_only HB1.out (Nat.le_refl _) HB1.out.size hg2
  have HS2 : Hid (Src w2 w.heap.size sa len cap) := hS2
  have HF : Hid (CSl w2 w1.heap.size w2.heap.size s n f ∧ (∀ i, i < n → (f i).c.size ≤ 256) ∧ w.heap.size < w1.heap.size) := ⟨hsl, hsm, HS1.out.lt⟩
  clear hg2 hS2 hsl hsm HB1 HS1
  go_wp2_with fail
  refine (l05Text_any _ w.heap.size sa len cap HS2.out).mono ?_
  rintro e w3 ⟨⟨t1, rfl, ht1⟩, hg3, hS3⟩
  have HB3 : Hid (Below w.heap.size w w3) := below_of_only HB2.out (Nat.le_refl _) HB2.out.size hg3
  have HS3 : Hid (Src w3 w.heap.size sa len cap) := hS3
  have HF3 : Hid (CSl w3 w1.heap.size w3.heap.size s n f) := HF.out.1.src hg3 HF.out.2.2
  clear hg3 hS3 HB2 HS2
  go_wp2_with fail
  refine (l05Text_any _ w.heap.size sa len cap HS3.out).mono ?_
  rintro e w4 ⟨⟨t2, rfl, ht2⟩, hg4, hS4⟩
  have HB4 : Hid (Below w.heap.size w w4) := below_of_only HB3.out (Nat.le_refl _) HB3.out.size hg4
  have HF4 : Hid (CRow w4 w4.heap.size s n f) := (HF3.out.src hg4 HF.out.2.2).row
  clear hg4 hS4 HB3 HS3
  go_wp2_with fail
  go_ret2
  exact ⟨⟨s, n, cp, f, _, rfl, hn60, HF4.out, HF.out.2.1, by simp; omega⟩, HB4.out⟩
set_option maxRecDepth 100000 in
set_option maxHeartbeats 4000000 in
theorem drawWindows_any (w : World) (sa : Option Addr) (len cap : Nat) (hl : len ≤ 1048576) (hby : Bytes8 w w.heap.size sa len) :
    Calls Tryz.prog 8 #[.slice sa len cap] w fun e w' => CelTxtT 16000 e w' ∧ Below w.heap.size w w' := by
  have C := drawTurnRun_any w sa len cap hl hby
  clear hby
  go_enter Tryz.func8, Tryz.ntmps8
  go_wp2_with fail
  refine C.mono ?_
  rintro e w1 ⟨⟨s, n, cp, f, t, rfl, h⟩, hb⟩
  have H : Hid ((n ≤ 60 ∧ CRow w1 w1.heap.size s n f ∧ (∀ i, i < n → (f i).c.size ≤ 256) ∧ t.size ≤ 16000) ∧ Below w.heap.size w w1) := ⟨h, hb⟩
  clear C h hb
  go_wp2_with fail
  go_ret2
  exact ⟨⟨s, n, cp, f, t, rfl, H.out.1⟩, H.out.2⟩
theorem slice_upto (t : ByteArray) (q : Nat) (hq : q ≤ t.size) (w : World) : (Instr.slice 9 (.string t) none (some (.int .i64 (q : Int))) none).run Tryz.prog w = .ok (.string (t.extract 0 q)) w := by
  have h2 : (0 : Int) ≤ (q : Int) := by omega
  have h3 : (q : Int) ≤ (t.size : Int) := by omega
  go_simp
set_option maxRecDepth 100000 in
set_option maxHeartbeats 4000000 in
theorem drawIsFactor_any (w : World) (sa : Option Addr) (len cap : Nat) (hl : len ≤ 1048576) (hby : Bytes8 w w.heap.size sa len) :
    Calls Tryz.prog 11 #[.slice sa len cap] w fun e w' => CelTxtT 16000 e w' ∧ Below w.heap.size w w' := by
  have HY : Hid (Bytes8 w w.heap.size sa len) := hby
  clear hby
  go_enter Tryz.func11, Tryz.ntmps11
  go_wp2_with fail
  refine (source_any w sa len cap hl HY.out).mono ?_
  rintro e w1 ⟨rfl, hb1, hS1⟩
  have HB1 : Hid (Below w.heap.size w w1) := hb1
  have HS1 : Hid (Src w1 w.heap.size sa len cap) := hS1
  clear hb1 hS1 HY
  go_wp2_with fail
  refine (l08Cells_any _ w.heap.size sa len cap HS1.out).mono ?_
  rintro e w2 ⟨⟨s, n, cp, f, rfl, hn60, hsl, hsm⟩, hg2, hS2⟩
  have HB2 : Hid (Below w.heap.size w w2) := below_of_only HB1.out (Nat.le_refl _) HB1.out.size hg2
  have HS2 : Hid (Src w2 w.heap.size sa len cap) := hS2
  have HF : Hid (CSl w2 w1.heap.size w2.heap.size s n f ∧ (∀ i, i < n → (f i).c.size ≤ 256) ∧ w.heap.size < w1.heap.size) := ⟨hsl, hsm, HS1.out.lt⟩
  clear hg2 hS2 hsl hsm HB1 HS1
  go_wp2_with fail
  refine (l05Text_any _ w.heap.size sa len cap HS2.out).mono ?_
  rintro e w3 ⟨⟨t, rfl, ht⟩, hg3, hS3⟩
  have HB3 : Hid (Below w.heap.size w w3) := below_of_only HB2.out (Nat.le_refl _) HB2.out.size hg3
  have HS3 : Hid (Src w3 w.heap.size sa len cap) := hS3
  have HF3 : Hid (CSl w3 w1.heap.size w3.heap.size s n f) := HF.out.1.src hg3 HF.out.2.2
  clear hg3 hS3 HB2 HS2
  by_cases h3 : 3 < t.size
  · have h3i : (3 : Int) < (t.size : Int) := by omega
    go_wp2_with fail
    refine (n_any _ w.heap.size sa len cap 4 (by decide) HS3.out).mono ?_
    rintro e w4 ⟨⟨r, rfl, hr0, hr1, _⟩, hg4, hS4⟩
    have hr2 : r < 4 := hr1 (by decide)
    obtain ⟨k, rfl⟩ := Int.eq_ofNat_of_zero_le hr0
    have hsu := slice_upto t k (by omega)
    have HB4 : Hid (Below w.heap.size w w4) := below_of_only HB3.out (Nat.le_refl _) HB3.out.size hg4
    have HF4 : Hid (CRow w4 w4.heap.size s n f) := (HF3.out.src hg4 HF.out.2.2).row
    clear hg4 hS4 HB3 HS3 hr1
    go_wp2_with fail
    go_ret2
    exact ⟨⟨s, n, cp, f, _, rfl, hn60, HF4.out, HF.out.2.1, by rw [cut_size (by omega)]; omega⟩, HB4.out⟩
  · have h3i : ¬ (3 : Int) < (t.size : Int) := by omega
    have HF4 : Hid (CRow w3 w3.heap.size s n f) := HF3.out.row
    go_wp2_with fail
    go_ret2
    exact ⟨⟨s, n, cp, f, _, rfl, hn60, HF4.out, HF.out.2.1, by omega⟩, HB3.out⟩
end Go.Proofs.YtfeolbgenpknfaaGreat
