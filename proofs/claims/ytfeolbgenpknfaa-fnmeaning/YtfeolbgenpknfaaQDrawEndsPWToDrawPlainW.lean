/- What is proved here: the input that is drawn for EndsOf: a small pattern and a text.
   What is proved here: a plain pattern that is drawn is a slice of at most five small atoms, each of them once, in new memory; nothing turns but the source's own block. -/
import Derived.Test.YtfeolbgenpknfaaQDrawMeantW
import Derived.Test.YtfeolbgenpknfaaQDrawBytesWToBoolRowsW
import Derived.Deep.RegionHeld3
import Derived.Deep.RegionWith
import Derived.Test.YtfeolbgenpknfaaQAtomSToDrawPatW
namespace Go.Proofs.Ytfeolbgenpknfaa
open Go.RowKit

/-- Some pattern and some text. -/
def PatAndTxt (m : Nat) (e : Ending) (w' : World) : Prop := ∃ (s : Option Addr) (n cap : Nat) (f : Nat → Atm) (t : ByteArray), e = .returned (.tuple #[.slice s n cap, .string t]) ∧ n ≤ 5 ∧ ARow w' w'.heap.size s n f ∧ (∀ i, i < n → SmallA (f i)) ∧ t.size ≤ m
set_option maxRecDepth 100000 in
set_option maxHeartbeats 4000000 in
theorem drawEndsOf_any (w : World) (sa : Option Addr) (len cap : Nat) (hl : len ≤ 1048576) (hby : Bytes8 w w.heap.size sa len) :
    Calls Try.prog 11 #[.slice sa len cap] w fun e w' => PatAndTxt 28000 e w' ∧ Below w.heap.size w w' := by
  have HY : Hid (Bytes8 w w.heap.size sa len) := hby
  clear hby
  go_enter Try.func11, Try.ntmps11
  go_wp2_with fail
  refine (source_any w sa len cap hl HY.out).mono ?_
  rintro e w1 ⟨rfl, hb1, hS1⟩
  have HB1 : Hid (Below w.heap.size w w1) := hb1
  have HS1 : Hid (Src w1 w.heap.size sa len cap) := hS1
  clear hb1 hS1 HY
  go_wp2_with fail
  refine (l04Pattern_any _ w.heap.size sa len cap HS1.out).mono ?_
  rintro e w2 ⟨⟨s, n, cp, f, rfl, hn5, hsl, hsm⟩, hg2, hS2⟩
  have HB2 : Hid (Below w.heap.size w w2) := below_of_only HB1.out (Nat.le_refl _) HB1.out.size hg2
  have HS2 : Hid (Src w2 w.heap.size sa len cap) := hS2
  have HF : Hid (AFar w2 w1.heap.size s n f ∧ (∀ i, i < n → SmallA (f i)) ∧ w.heap.size < w1.heap.size) := ⟨hsl.far, hsm, HS1.out.lt⟩
  clear hg2 hS2 hsl hsm HB1
  go_wp2_with fail
  refine (l05Text_any _ w.heap.size sa len cap HS2.out).mono ?_
  rintro e w3 ⟨⟨t1, rfl, ht1⟩, hg3, hS3⟩
  have HB3 : Hid (Below w.heap.size w w3) := below_of_only HB2.out (Nat.le_refl _) HB2.out.size hg3
  have HS3 : Hid (Src w3 w.heap.size sa len cap) := hS3
  have HF3 : Hid (AFar w3 w1.heap.size s n f) := HF.out.1.kept hg3 (fun k hk => by injection hk with hk; have := HF.out.2.2; omega)
  clear hg3 hS3 HB2 HS2
  go_wp2_with fail
  refine (l05Meant_any _ w.heap.size sa len cap w1.heap.size s n cp f HS3.out hn5 HF3.out HF.out.2.2 HF.out.2.1).mono ?_
  rintro e w4 ⟨⟨t2, rfl, ht2⟩, hg4, hS4⟩
  have HB4 : Hid (Below w.heap.size w w4) := below_of_only HB3.out (Nat.le_refl _) HB3.out.size hg4
  have HF4 : Hid (AFar w4 w1.heap.size s n f) := HF3.out.kept hg4 (fun k hk => by injection hk with hk; have := HF.out.2.2; omega)
  have ht : (t1 ++ t2).size ≤ 28000 := by rw [ByteArray.size_append]; omega
  clear hg4 hS4 HB3
  go_wp2_with fail
  go_ret2
  exact ⟨⟨s, n, cp, f, _, rfl, hn5, HF4.out.row, HF.out.2.1, ht⟩, HB4.out⟩
end Go.Proofs.Ytfeolbgenpknfaa
namespace Go.Proofs.Ytfeolbgenpknfaa
open Go.RowKit

set_option maxRecDepth 100000 in
set_option maxHeartbeats 4000000 in
theorem l04Plain_any (w : World) (b : Nat) (sa : Option Addr) (len cap : Nat) (hs : Src w b sa len cap) :
    Calls Try.prog 98 #[.pointer (some ⟨b, 0, none⟩)] w fun e w' => SomePat w e w' ∧ w.grownBy w' (some b) ∧ Src w' b sa len cap := by
  obtain ⟨i0, hi, hz0, hz1, hz2⟩ := info_parts Try.atomInfo
  have hb := hs.lt
  have P0 : Hid (PatIn w (w.alloc (.cells #[] 89)) b sa len cap 0 (fun _ => atm0) (.slice (some ⟨w.heap.size, 0, none⟩) 0 0)) :=
    ⟨World.grownBy_alloc w _ _, hs.after ((Below.refl _ _).alloc (Nat.le_refl _) _), owns_start w w.heap.size (Nat.le_refl _) _ rfl, fun i hi => by omega⟩
  clear hs
  go_enter Try.func98, Try.ntmps98
  go_wp2_with fail
  generalize w.alloc (.cells #[] 89) = v0 at *
  refine (n_any _ b sa len cap 5 (by decide) P0.out.s).mono ?_
  rintro e w1 ⟨⟨r, rfl, hr0, hr1, _⟩, hg, hS⟩
  have hr2 : r < 5 := hr1 (by decide)
  have P1 : Hid (PatIn w w1 b sa len cap 0 (fun _ => atm0) (.slice (some ⟨w.heap.size, 0, none⟩) 0 0)) := ⟨P0.out.g.trans hg, hS, owns_src P0.out.o hg hb, P0.out.sm⟩
  clear hr1 hg hS P0
  go_wp2_with fail
  go_loopw [3, 4] (fun v kv wr => ∃ (m : Nat) (f : Nat → Atm) (k : Int), kv = .int .i64 k ∧ 0 ≤ k ∧ k + (m : Int) ≤ 5 ∧ PatIn w wr b sa len cap m f v) (fun _ kv _ => (intOf kv).toNat)
  case atStart => exact ⟨0, _, 1 + r, rfl, by omega, by omega, P1.out⟩
  case round =>
    obtain ⟨m, f, k, rfl, hk0, hkm, hp⟩ := hrel
    have HP : Hid (PatIn w wr b sa len cap m f u3) := hp
    clear hp
    by_cases hk : 0 < k
    · go_wp2_with fail
      have hwb : b < wr.heap.size := HP.out.s.lt
      have PA : Hid (PatIn w (wr.alloc (.cells #[.string ⟨#[97]⟩, .string ⟨#[98]⟩, .string ⟨#[97, 98]⟩, .string ⟨#[99]⟩, .string ⟨#[97, 98, 99]⟩] 9)) b sa len cap m f u3) := ⟨HP.out.g.trans (World.grownBy_alloc _ _ _), HP.out.s.after ((Below.refl _ _).alloc (Nat.le_refl _) _), HP.out.o.alloc _, HP.out.sm⟩
      refine (pick_any _ b sa len cap wr.heap.size 5 (by decide) (by decide) (by omega) ?_ PA.out.s).mono ?_
      · intro i hi
        rcases (show i = 0 ∨ i = 1 ∨ i = 2 ∨ i = 3 ∨ i = 4 from by omega) with rfl | rfl | rfl | rfl | rfl
        all_goals exact ⟨_, by rw [World.cell?_alloc_mark]; rfl, by decide⟩
      rintro e w2 ⟨⟨cl, rfl, hcs⟩, hg, hS⟩
      have G2 : Hid (w.grownBy w2 (some b)) := PA.out.g.trans hg
      have hown := owns_src PA.out.o hg hb
      have S2 : Hid (Src w2 b sa len cap) := hS
      have HA : Hid (SmallA ⟨cl, 1, 1⟩) := ⟨hcs, ⟨(by show (-2 : Int) ≤ 1; decide), (by show (1 : Int) ≤ 30; decide)⟩, (by show (-2 : Int) ≤ 1; decide), (by show (1 : Int) ≤ 30; decide)⟩
      have hlo : w.heap.size ≤ w2.heap.size := G2.out.size
      clear hg hS hcs
      go_wp2_with (at_builtin; refine wpList_append_own _ rfl (.tmp 13) (.tmp 18) 23 rfl w.heap.size 89 i0 (.agg #[.string ⟨#[]⟩, .int .i64 0, .int .i64 0]) 3 32 Try.underlying23 hi hz0 hz1 hz2 rfl (by decide) _ _ _ rfl (hown.alloc _) ⟨w2.heap.size, 0, none⟩ 1 1 [.string cl, .int .i64 1, .int .i64 1] rfl rfl ?c1 ?c2 ?c3 ?c4 ?c5 ?_)
      case c1 =>
        intro j u hu
        match j, hu with
        | 0, hu => simp at hu; subst hu; simp [Addr.add]
        | 1, hu => simp at hu; subst hu; simp [Addr.add]
        | 2, hu => simp at hu; subst hu; simp [Addr.add]
        | j + 3, hu => simp at hu
      case c2 => intro u hu; simp at hu; rcases hu with rfl | rfl | rfl <;> rfl
      case c3 => unfold maxLen; omega
      case c4 => omega
      case c5 => simp <;> omega
      intro v' w3 hown3 hgrow _
      have hg3 : w2.grownBy w3 u3.ownBlock := (World.grownBy_alloc w2 _ u3.ownBlock).trans hgrow
      have P3 : Hid (PatIn w w3 b sa len cap (m + 1) (fun i => if i = m then ⟨cl, 1, 1⟩ else f i) v') := ⟨grown_row G2.out hg3 (fun j e => (hown.lt j e).1), S2.out.kept hg3 (fun j e => by have := (hown.lt j e).1; omega), by
        show w3.ownsRow w.heap.size 89 3 v' (m + 1) (acells (fun i => if i = m then ⟨cl, 1, 1⟩ else f i) m ++ [.string (if m = m then (⟨cl, 1, 1⟩ : Atm) else f m).c, .int .i64 (if m = m then (⟨cl, 1, 1⟩ : Atm) else f m).l, .int .i64 (if m = m then (⟨cl, 1, 1⟩ : Atm) else f m).m])
        rw [if_pos rfl, acells_congr m (fun i hi => if_neg (by omega))]
        exact hown3, fun i hi => by
          by_cases e : i = m
          · rw [if_pos e]; exact HA.out
          · rw [if_neg e]; exact HP.out.sm i (by omega)⟩
      clear hown3 hgrow hg3 hown
      go_wp2_with fail
      go_roundw
      case rel => exact ⟨m + 1, _, k - 1, by go_num, by omega, by omega, P3.out⟩
      case measure => simp [intOf]; omega
    · obtain ⟨s, cp, rfl, hsl⟩ := atoms_of_owns HP.out.o
      have HSL : Hid (ASl wr w.heap.size wr.heap.size s m f) := hsl
      clear hsl
      go_wp2_with fail
      go_ret
      exact ⟨⟨_, m, _, f, rfl, by omega, HSL.out, HP.out.sm⟩, HP.out.g, HP.out.s⟩
end Go.Proofs.Ytfeolbgenpknfaa
