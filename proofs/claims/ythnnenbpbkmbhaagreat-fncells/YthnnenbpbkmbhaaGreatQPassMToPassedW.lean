/- What is said here: the places to which one comes by a byte, as bits.
   What is proved here: the program goes on by a byte from all places at once; but for the row's own block nothing that was there turns. -/
import Derived.Test.YthnnenbpbkmbhaaGreatQCellMToFitKM
import Derived.Test.YthnnenbpbkmbhaaGreatQRowOfWToFillW
import Derived.Test.YthnnenbpbkmbhaaGreatQOnceW
import Derived.Deep.RegionHeld3
namespace Go.Proofs.YthnnenbpbkmbhaaGreat
open Go.RowKit

theorem pass_bits {y x n c : Nat} {f : Nat → Cel} {A : Nat → Bool} (h : IsBits y (fun j => (decide (1 ≤ j) && A (j - 1)) || (A j && behind (fun i => (f i).o) n j))) (h2 : IsBits x (behind (fun i => hasByte (f i).c c) n)) : IsBits (y &&& x) (passB f n A c) :=
  (h.and h2).congr (fun j => by
    unfold passB
    by_cases e : 1 ≤ j
    · rw [decide_eq_true e, Bool.true_and, Bool.and_comm]
    · have : behind (fun i => hasByte (f i).c c) n j = false := by unfold behind; rw [decide_eq_false (by omega)]; rfl
      rw [this]
      simp)
end Go.Proofs.YthnnenbpbkmbhaaGreat
namespace Go.Proofs.YthnnenbpbkmbhaaGreat
open Go.RowKit

theorem ready_drew {W : World} {b : Nat} {sa : Option Addr} {n cap sk lo : Nat} {f : Nat → Cel} (h : Ready W b sa n cap sk lo f) : Ready W.drew b sa n cap sk lo f := h.kept (B := W.heap.size) ⟨rfl, rfl, rfl, Nat.le_refl _, fun _ _ => rfl⟩ h.cells.2.2
set_option maxRecDepth 100000 in
set_option maxHeartbeats 4000000 in
theorem passed_any (b : Nat) (sa : Option Addr) (n cap sk lo a c : Nat) (f : Nat → Cel) (A : Nat → Bool) (w : World) (hn : n ≤ 60) (hc : c < 256) (hsz : ∀ i, i < n → (f i).c.size ≤ 256) (hr : CRow w b sa n f) (hk : Ready w b sa n cap sk lo f) (hsk : IsBits sk (behind (fun i => (f i).k) n)) (hlo : IsBits lo (behind (fun i => (f i).o) n)) (ha : IsBits a A) (hA : ∀ j, n < j → A j = false) :
    Calls Tryz.prog 59 #[.pointer (some ⟨b, 0, none⟩), .int .u64 (a : Int), .int .u8 (c : Int)] w fun e w' => ∃ x : Nat, e = .returned (.int .u64 (x : Int)) ∧ IsBits x (cloB (behind (fun i => (f i).k) n) (passB f n A c)) ∧ Ready w' b sa n cap sk lo f ∧ w.grownBy w' (some b) := by
  obtain ⟨c1, c2, hlt⟩ := hk.cells
  have hal := lt_pow_of ha hA
  have ha2 : a * 2 < 2 ^ 62 := by
    have : 2 ^ (n + 1) ≤ 2 ^ 61 := Nat.pow_le_pow_right (by decide) (by omega)
    omega
  have hwr : IntKind.u64.wrap ((a : Int) * 2) = (a : Int) * 2 := by rw [IntKind.wrap_u64]; omega
  have s1 := bits_shl ha (fun j hj => hA j (by omega))
  have s2 := ha.and hlo
  have s3 := s1.or s2
  have e1 : bits .and .u64 (a : Int) (lo : Int) = ((a &&& lo : Nat) : Int) := and64 ha.lt hlo.lt
  have e2 : bits .or .u64 ((a : Int) * 2) ((a &&& lo : Nat) : Int) = ((a * 2 ||| (a &&& lo) : Nat) : Int) := or64 (a := a * 2) s1.lt s2.lt
  have hlt0 := hlt
  have bd : Below w.heap.size w w.drew := ⟨rfl, rfl, rfl, Nat.le_refl _, fun _ _ => rfl⟩
  have HV : Hid (Calls Tryz.prog 55 #[.pointer (some ⟨b, 0, none⟩), .int .u8 (c : Int)] w.drew fun e w' => ∃ x : Nat, e = .returned (.int .u64 (x : Int)) ∧ IsBits x (behind (fun i => hasByte (f i).c c) n) ∧ Ready w' b sa n cap sk lo f ∧ w.grownBy w' (some b)) := (having_any b sa n cap sk lo c f w.drew hn hc hsz (hr.kept (bd.mono (Nat.le_of_lt hlt))) (hk.kept bd hlt)).mono (fun e w' h => by
    obtain ⟨x, h1, h2, h3, h4⟩ := h
    exact ⟨x, h1, h2, h3, World.grownBy.trans ⟨bd.os, bd.tape, bd.output, bd.size, fun k hk _ => bd.block k hk⟩ h4⟩)
  clear bd
  have HR : Hid (CRow w b sa n f) := hr
  have HK : Hid (Ready w b sa n cap sk lo f) := hk
  have HSK : Hid (IsBits sk (behind (fun i => (f i).k) n)) := hsk
  have S3 : Hid (IsBits (a * 2 ||| (a &&& lo)) (fun j => (decide (1 ≤ j) && A (j - 1)) || (A j && behind (fun i => (f i).o) n j))) := s3
  generalize a * 2 ||| (a &&& lo) = y at *
  generalize ((a &&& lo : Nat) : Int) = z at *
  clear hr hk hsk hlo ha hA s1 s2 s3 hsz
  go_enter Tryz.func59, Tryz.ntmps59
  go_wp2_with fail
  go_region_held3 (fun W => W.cell? ⟨b, 2, none⟩ = some (.int .u64 (lo : Int))) (go_keep) (first | (go_at_call 55; refine HV.out.mono ?_; rintro e w2 ⟨x, rfl, hx, hrd, hg⟩; have e3 := and64 S3.out.lt hx.lt; obtain ⟨k1, k2, klt⟩ := hrd.cells; have PX : Hid (IsBits (y &&& x) (passB f n A c)) := pass_bits S3.out hx; have HD : Hid (Ready w2 b sa n cap sk lo f ∧ w.grownBy w2 (some b)) := ⟨hrd, hg⟩; clear hrd hg hx; generalize y &&& x = q at *) | (go_at_call 58; refine (closed_any b q sk n _ _ _ hn k1 klt HSK.out (behind_le _ n) PX.out (fun j hj => by unfold passB; rw [behind_le _ n j hj]; rfl)).mono ?_; rintro e w3 ⟨x3, rfl, hx3, hw3⟩; have HX3 : Hid (IsBits x3 (cloB (behind (fun i => (f i).k) n) (passB f n A c))) := hx3; rw [hw3]; clear hx3 hw3 w3))
  all_goals
    go_wp2_with fail
    go_ret
    exact ⟨x3, rfl, HX3.out, HD.out⟩
end Go.Proofs.YthnnenbpbkmbhaaGreat
