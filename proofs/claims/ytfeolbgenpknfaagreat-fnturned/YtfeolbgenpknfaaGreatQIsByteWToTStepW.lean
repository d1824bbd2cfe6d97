/- What is proved here: the program's isByte says whether a number is a byte's; the world stays.
   What is proved here: the program reads the places that a vector holds as one number, and tells whether a vector is one of a row; nothing that was there turns.
   What is proved here: a step of the program by turned bits, what kind of step it is, whether a vector is turned bits, and how they are written; but for the row's own block nothing that was there turns. -/
import Derived.Test.YtfeolbgenpknfaaGreatProg
import Derived.WalkKit
import Derived.Test.YtfeolbgenpknfaaGreatQStepVMToMaskD
import Derived.Test.YtfeolbgenpknfaaGreatQImplRightWToVecM
import Derived.Test.YtfeolbgenpknfaaGreatQTFillWToPVecW
import Derived.Deep.RegionHeld3
import Derived.Deep.RegionWith
namespace Go.Proofs.YtfeolbgenpknfaaGreat
open Go.RowKit

theorem isByte_yes (n : Int) (w : World) (h0 : 0 ≤ n) (h1 : n ≤ 255) :
    Calls Tryz.prog 47 #[.int .i64 n] w fun e w' => e = .returned (.bool true) ∧ w' = w := by
  go_enter Tryz.func47, Tryz.ntmps47
  go_wp2
  go_ret
  exact ⟨rfl, rfl⟩
theorem isByte_no (n : Int) (w : World) (h : ¬ (0 ≤ n ∧ n ≤ 255)) :
    Calls Tryz.prog 47 #[.int .i64 n] w fun e w' => e = .returned (.bool false) ∧ w' = w := by
  by_cases h0 : 0 ≤ n
  · have h1 : ¬ n ≤ 255 := fun h2 => h ⟨h0, h2⟩
    clear h
    go_enter Tryz.func47, Tryz.ntmps47
    go_wp2
    go_ret
    exact ⟨rfl, rfl⟩
  · clear h
    go_enter Tryz.func47, Tryz.ntmps47
    go_wp2
    go_ret
    exact ⟨rfl, rfl⟩
end Go.Proofs.YtfeolbgenpknfaaGreat
namespace Go.Proofs.YtfeolbgenpknfaaGreat
open Go.RowKit

theorem bits_shlN {a s : Nat} (ha : a < 2 ^ 32) (hs : s ≤ 32) : IsBits (a * 2 ^ s) (fun j => decide (s ≤ j) && a.testBit (j - s)) := by
  refine ⟨?_, fun j => ?_⟩
  · have h1 : 2 ^ s ≤ 2 ^ 32 := Nat.pow_le_pow_right (by decide) hs
    calc a * 2 ^ s < 2 ^ 32 * 2 ^ s := Nat.mul_lt_mul_of_pos_right ha (Nat.pow_pos (by decide))
      _ ≤ 2 ^ 32 * 2 ^ 32 := Nat.mul_le_mul_left _ h1
      _ = 18446744073709551616 := by decide
  · rw [Nat.mul_comm, Nat.testBit_two_pow_mul]
/-- The bits of the first k words. -/
def firstW (P : Nat → Bool) (k : Nat) : Nat → Bool := fun j => decide (j < 32 * k) && P j
theorem word_or {b a k : Nat} {P : Nat → Bool} (hb : IsBits b (firstW P k)) (ha : a < 2 ^ 32) (hk : k < 2) (h : ∀ q, q < 32 → a.testBit q = P (32 * k + q)) : IsBits (b ||| a * 2 ^ (k * 32)) (firstW P (k + 1)) :=
  (hb.or (bits_shlN ha (by omega))).congr (fun j => by
    unfold firstW
    by_cases h1 : j < 32 * k
    · rw [decide_eq_true h1, decide_eq_false (show ¬ k * 32 ≤ j by omega), decide_eq_true (show j < 32 * (k + 1) by omega)]
      simp
    · rw [decide_eq_false h1, decide_eq_true (show k * 32 ≤ j by omega)]
      by_cases h2 : j < 32 * (k + 1)
      · rw [decide_eq_true h2, h (j - k * 32) (by omega), show 32 * k + (j - k * 32) = j by omega]
        simp
      · rw [decide_eq_false h2, Nat.testBit_lt_two_pow (Nat.lt_of_lt_of_le ha (Nat.pow_le_pow_right (by decide) (by omega)))]
        simp)
set_option maxRecDepth 100000 in
set_option maxHeartbeats 4000000 in
theorem placesOf_any (b : Int) (sa : Option Addr) (m cap : Nat) (f : Nat → Int) (P : Nat → Bool) (w : World) (hm : m ≤ 2) (hr : Row w w.heap.size sa m f) (hv : VecIs f P m) (hP : ∀ j, 32 * m ≤ j → P j = false) :
    Calls Tryz.prog 49 #[.agg #[.int .i64 b, .slice sa m cap]] w fun e w' => ∃ x : Nat, e = .returned (.int .u64 (x : Int)) ∧ IsBits x P ∧ Below w.heap.size w w' := by
  have HV : Hid (VecIs f P m) := hv
  have HP : Hid (∀ j, 32 * m ≤ j → P j = false) := hP
  have HR : Hid (Row w w.heap.size sa m f) := hr
  have q1 := boxing w 29 b sa m cap
  clear hr hv hP
  go_enter Tryz.func49, Tryz.ntmps49
  go_wp2_with fail
  generalize w.alloc (.cells #[.int .i64 b, .slice sa m cap] 29) = v1 at *
  go_loopw [3, 9] (fun ov iv wr => ∃ k x : Nat, k ≤ m ∧ iv = .int .i64 (k : Int) ∧ ov = .int .u64 (x : Int) ∧ wr = v1 ∧ IsBits x (firstW P k)) (fun _ iv _ => m - (intOf iv).toNat)
  case atStart => exact ⟨0, 0, Nat.zero_le _, rfl, rfl, rfl, bits_zero.congr (fun j => by unfold firstW; rw [decide_eq_false (by omega)]; rfl)⟩
  case round =>
    obtain ⟨k, x, hk, rfl, rfl, rfl, hx⟩ := hrel
    have HX : Hid (IsBits x (firstW P k)) := hx
    clear hx
    by_cases hkl : k < m
    · obtain ⟨bb, off, rfl, hbb, hca⟩ : ∃ bb off : Nat, sa = some ⟨bb, off, none⟩ ∧ bb < w.heap.size ∧ ∀ i, i < m → w.cell? ⟨bb, off + i, none⟩ = some (.int .i64 (f i)) := by
        rcases HR.out with h | h
        · omega
        · exact h
      obtain ⟨a, e1, h1, h2⟩ := HV.out k hkl
      have ck : wr.cell? ⟨bb, off + k, none⟩ = some (.int .i64 (a : Int)) := by rw [q1.1.cell (p := ⟨bb, off + k, none⟩) hbb, ← e1]; exact hca k hkl
      have HN : Hid (IsBits (x ||| a * 2 ^ (k * 32)) (firstW P (k + 1))) := word_or HX.out h1 (by omega) h2
      have hwa : IntKind.u64.wrap (a : Int) = (a : Int) := by rw [IntKind.wrap_u64]; omega
      obtain ⟨s, hs⟩ : ∃ s, k * 32 = s := ⟨_, rfl⟩
      have hsi : (k : Int) * 32 = (s : Int) := by omega
      have hs0 : (0 : Int) ≤ (s : Int) := by omega
      have hs64 : (s : Int) < 64 := by omega
      rw [hs] at HN
      have hlt := (bits_shlN (s := s) h1 (by omega)).lt
      have hwp : IntKind.u64.wrap ((a : Int) * 2 ^ s) = ((a * 2 ^ s : Nat) : Int) := by
        rw [show (a : Int) * 2 ^ s = ((a * 2 ^ s : Nat) : Int) by simp, IntKind.wrap_u64]
        omega
      have hor : bits .or .u64 (x : Int) ((a * 2 ^ s : Nat) : Int) = ((x ||| a * 2 ^ s : Nat) : Int) := or64 HX.out.lt hlt
      generalize x ||| a * 2 ^ s = x2 at *
      generalize ((a * 2 ^ s : Nat) : Int) = y at *
      have hki : (k : Int) < (m : Int) := by omega
      have hk0 : (0 : Int) ≤ (k : Int) := by omega
      clear hca h1 h2 e1 hlt
      go_wp2_with fail
      go_roundw
      case rel => exact ⟨k + 1, x2, by omega, by go_num, rfl, by first | rfl | trivial, HN.out⟩
      case measure => simp [intOf]; omega
    · have hki : ¬ (k : Int) < (m : Int) := by omega
      obtain rfl : k = m := by omega
      go_wp2_with fail
      go_ret
      exact ⟨x, rfl, HX.out.congr (fun j => by
        unfold firstW
        by_cases h : j < 32 * k
        · rw [decide_eq_true h, Bool.true_and]
        · rw [decide_eq_false h, HP.out j (by omega)]; rfl), q1.1⟩
/-- A right vector of so many places. -/
def OfRow (b : Int) (m : Nat) (f : Nat → Int) (n : Nat) : Prop := Right b m f ∧ b = (n : Int) + 1
end Go.Proofs.YtfeolbgenpknfaaGreat
namespace Go.Proofs.YtfeolbgenpknfaaGreat
open Go.RowKit

theorem turn_ready_drew {W : World} {b : Nat} {sa : Option Addr} {n cap : Nat} {f : Nat → Cel} (h : TReady W b sa n cap f) : TReady W.drew b sa n cap f := h.kept (B := W.heap.size) ⟨rfl, rfl, rfl, Nat.le_refl _, fun _ _ => rfl⟩ h.cells.2.2
set_option maxRecDepth 100000 in
set_option maxHeartbeats 4000000 in
theorem turnStep_any (b : Nat) (sa : Option Addr) (n cap x c : Nat) (f : Nat → Cel) (T : Nat → Bool) (w : World) (hn : n ≤ 60) (hc : c < 256) (hsz : ∀ i, i < n → (f i).c.size ≤ 256) (hr : CRow w b sa n f) (hk : TReady w b sa n cap f) (hx : IsBits x T) (hT : ∀ j, n ≤ j → T j = false) :
    Calls Tryz.prog 48 #[.pointer (some ⟨b, 0, none⟩), .int .u64 (x : Int), .int .u8 (c : Int)] w fun e w' => ∃ z : Nat, e = .returned (.int .u64 (z : Int)) ∧ IsBits z (turnB f n T c) ∧ TReady w' b sa n cap f ∧ w.grownBy w' (some b) := by
  obtain ⟨c0, c1, hlt⟩ := hk.cells
  have hxl := lt_pow_of hx (n := n) (fun j hj => hT j (by omega))
  have ha2 : x * 2 < 2 ^ 62 := by
    have : 2 ^ (n + 1) ≤ 2 ^ 61 := Nat.pow_le_pow_right (by decide) (by omega)
    omega
  have hwr : IntKind.u64.wrap ((x : Int) * 2) = (x : Int) * 2 := by rw [IntKind.wrap_u64]; omega
  have bd : Below w.heap.size w w.drew := ⟨rfl, rfl, rfl, Nat.le_refl _, fun _ _ => rfl⟩
  have HV : Hid (Calls Tryz.prog 56 #[.pointer (some ⟨b, 0, none⟩), .int .u8 (c : Int)] w.drew fun e w' => ∃ y : Nat, e = .returned (.int .u64 (y : Int)) ∧ IsBits y (lackB f n c) ∧ TReady w' b sa n cap f ∧ w.grownBy w' (some b)) := (lacking_any b sa n cap c f w.drew hn hc hsz (hr.kept (bd.mono (Nat.le_of_lt hlt))) (turn_ready_drew hk)).mono (fun e w' h => by
    obtain ⟨y, h1, h2, h3, h4⟩ := h
    exact ⟨y, h1, h2, h3, World.grownBy.trans ⟨bd.os, bd.tape, bd.output, bd.size, fun k hk _ => bd.block k hk⟩ h4⟩)
  have HE : Hid (∀ y, IsBits y (lackB f n c) → bits .or .u64 ((x : Int) * 2) (y : Int) = ((x * 2 ||| y : Nat) : Int) ∧ bits .and .u64 ((x * 2 ||| y : Nat) : Int) ((2 ^ n - 1 : Nat) : Int) = (((x * 2 ||| y) &&& (2 ^ n - 1) : Nat) : Int) ∧ IsBits ((x * 2 ||| y) &&& (2 ^ n - 1)) (turnB f n T c)) := fun y hy => by
    have s1 := bits_shl hx (fun j hj => hT j (by omega))
    have s2 := s1.or hy
    exact ⟨or64 (a := x * 2) s1.lt hy.lt, and64 s2.lt (bits_all (by omega)).lt, bits_turn (by omega) hx hT hy⟩
  clear bd hr hk hx hT hsz hxl ha2
  obtain ⟨al, hae⟩ : ∃ al, 2 ^ n - 1 = al := ⟨_, rfl⟩
  rw [hae] at c1 HE
  have HAE : Hid (2 ^ n - 1 = al) := hae
  clear hae
  go_enter Tryz.func48, Tryz.ntmps48
  go_wp2_with fail
  go_region_held3 (fun W => W.cell? ⟨b, 1, none⟩ = some (.int .u64 (al : Int))) (go_keep) (first | (go_at_call 56; refine HV.out.mono ?_; rintro e w2 ⟨y, rfl, hy, hrd, hg⟩; obtain ⟨e1, e2, hz⟩ := HE.out y hy; obtain ⟨_, k1, klt⟩ := hrd.cells; rw [HAE.out] at k1; have HD : Hid (TReady w2 b sa n cap f ∧ w.grownBy w2 (some b)) := ⟨hrd, hg⟩; have HZ : Hid (IsBits ((x * 2 ||| y) &&& al) (turnB f n T c)) := hz; clear hrd hg hy hz))
  all_goals
    go_wp2_with fail
    go_ret
    exact ⟨_, rfl, HZ.out, HD.out⟩
end Go.Proofs.YtfeolbgenpknfaaGreat
