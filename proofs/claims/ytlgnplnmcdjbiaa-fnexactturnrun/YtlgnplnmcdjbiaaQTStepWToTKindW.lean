/- What is proved here: a step of the program by turned bits, what kind of step it is, whether a vector is turned bits, and how they are written; but for the row's own block nothing that was there turns.
   What is proved here: what kind of step leads to turned bits, whether a vector is turned bits of a row, and how they are written as a vector. -/
import Derived.Test.YtlgnplnmcdjbiaaQTRowWToTOnceW
import Derived.Test.YtlgnplnmcdjbiaaQNewWToPlacesW
import Derived.Deep.RegionHeld3
import Derived.Deep.RegionWith
import Derived.Test.YtlgnplnmcdjbiaaQImplRightW
namespace Go.Proofs.Ytlgnplnmcdjbiaa
open Go.RowKit

theorem turn_ready_drew {W : World} {b : Nat} {sa : Option Addr} {n cap : Nat} {f : Nat → Cel} (h : TReady W b sa n cap f) : TReady W.drew b sa n cap f := h.kept (B := W.heap.size) ⟨rfl, rfl, rfl, Nat.le_refl _, fun _ _ => rfl⟩ h.cells.2.2
set_option maxRecDepth 100000 in
set_option maxHeartbeats 4000000 in
theorem turnStep_any (b : Nat) (sa : Option Addr) (n cap x c : Nat) (f : Nat → Cel) (T : Nat → Bool) (w : World) (hn : n ≤ 60) (hc : c < 256) (hsz : ∀ i, i < n → (f i).c.size ≤ 256) (hr : CRow w b sa n f) (hk : TReady w b sa n cap f) (hx : IsBits x T) (hT : ∀ j, n ≤ j → T j = false) :
    Calls Try.prog 148 #[.pointer (some ⟨b, 0, none⟩), .int .u64 (x : Int), .int .u8 (c : Int)] w fun e w' => ∃ z : Nat, e = .returned (.int .u64 (z : Int)) ∧ IsBits z (turnB f n T c) ∧ TReady w' b sa n cap f ∧ w.grownBy w' (some b) := by
  obtain ⟨c0, c1, hlt⟩ := hk.cells
  have hxl := lt_pow_of hx (n := n) (fun j hj => hT j (by omega))
  have ha2 : x * 2 < 2 ^ 62 := by
    have : 2 ^ (n + 1) ≤ 2 ^ 61 := Nat.pow_le_pow_right (by decide) (by omega)
    omega
  have hwr : IntKind.u64.wrap ((x : Int) * 2) = (x : Int) * 2 := by rw [IntKind.wrap_u64]; omega
  have bd : Below w.heap.size w w.drew := ⟨rfl, rfl, rfl, Nat.le_refl _, fun _ _ => rfl⟩
  have HV : Hid (Calls Try.prog 145 #[.pointer (some ⟨b, 0, none⟩), .int .u8 (c : Int)] w.drew fun e w' => ∃ y : Nat, e = .returned (.int .u64 (y : Int)) ∧ IsBits y (lackB f n c) ∧ TReady w' b sa n cap f ∧ w.grownBy w' (some b)) := (lacking_any b sa n cap c f w.drew hn hc hsz (hr.kept (bd.mono (Nat.le_of_lt hlt))) (turn_ready_drew hk)).mono (fun e w' h => by
    obtain ⟨y, h1, h2, h3, h4⟩ := h
    exact ⟨y, h1, h2, h3, World.grownBy.trans ⟨bd.os, bd.tape, bd.output, bd.size, fun k hk _ => bd.block k hk⟩ h4⟩)
  have HE : Hid (∀ y, IsBits y (lackB f n c) → bits .or .u64 ((x : Int) * 2) (y : Int) = ((x * 2 ||| y : Nat) : Int) ∧ bits .and .u64 ((x * 2 ||| y : Nat) : Int) ((2 ^ n - 1 : Nat) : Int) = (((x * 2 ||| y) &&& (2 ^ n - 1) : Nat) : Int) ∧ IsBits ((x * 2 ||| y) &&& (2 ^ n - 1)) (turnB f n T c)) := fun y hy => by
    have s1 := bits_shl hx (fun j hj => hT j (by omega))
    have s2 := s1.or hy
    exact ⟨or64 (a := x * 2) s1.lt hy.lt, and64 s2.lt (bits_all (by omega)).lt, bits_turn (by omega) hx hT hy⟩
  clear bd hr hk hx hT hsz hxl ha2
  obtain ⟨al, hae⟩ : ∃ al, 2 ^ n - 1 = al := ⟨_, rfl⟩
  rw [hae] at c1 HE
  have HAE : Hid (2 ^ n - 1 = al) := hae
  clear hae
  go_enter Try.func148, Try.ntmps148
  go_wp2_with fail
  go_region_held3 (fun W => W.cell? ⟨b, 1, none⟩ = some (.int .u64 (al : Int))) (go_keep) (first | (go_at_call 145; refine HV.out.mono ?_; rintro e w2 ⟨y, rfl, hy, hrd, hg⟩; obtain ⟨e1, e2, hz⟩ := HE.out y hy; obtain ⟨_, k1, klt⟩ := hrd.cells; rw [HAE.out] at k1; have HD : Hid (TReady w2 b sa n cap f ∧ w.grownBy w2 (some b)) := ⟨hrd, hg⟩; have HZ : Hid (IsBits ((x * 2 ||| y) &&& al) (turnB f n T c)) := hz; clear hrd hg hy hz))
  all_goals
    go_wp2_with fail
    go_ret
    exact ⟨_, rfl, HZ.out, HD.out⟩
end Go.Proofs.Ytlgnplnmcdjbiaa
namespace Go.Proofs.Ytlgnplnmcdjbiaa
open Go.RowKit

set_option maxRecDepth 100000 in
set_option maxHeartbeats 4000000 in
/-- 0: no cell was passed; 2: all were; 1: else. -/
theorem turnKind_any (b : Nat) (sa : Option Addr) (n cap x : Nat) (f : Nat → Cel) (T : Nat → Bool) (w : World) (hn0 : 1 ≤ n) (hn : n ≤ 60) (hk : TReady w b sa n cap f) (hx : IsBits x T) (hT : ∀ j, n ≤ j → T j = false) :
    Calls Try.prog 149 #[.pointer (some ⟨b, 0, none⟩), .int .u64 (x : Int)] w fun e w' => ∃ k : Nat, e = .returned (.int .i64 (k : Int)) ∧ k ≤ 2 ∧ (k = 2 ↔ T (n - 1) = false) ∧ (k = 0 → ∀ j, T j = allB n j) ∧ w' = w := by
  obtain ⟨c0, c1, hlt⟩ := hk.cells
  have hh := hit_turn hn0 hx hT
  have ha := all_turn (n := n) (by omega) hx
  have hlast : (∀ j, T j = allB n j) → T (n - 1) = true := fun h => by rw [h]; exact decide_eq_true (by omega)
  have hsh : (n : Int) - 1 = ((n - 1 : Nat) : Int) := by omega
  have hs0 : (0 : Int) ≤ ((n - 1 : Nat) : Int) := by omega
  have hdv : (x : Int) / 2 ^ (n - 1) = ((x / 2 ^ (n - 1) : Nat) : Int) := by simp
  obtain ⟨al, hae⟩ : ∃ al, 2 ^ n - 1 = al := ⟨_, rfl⟩
  rw [hae] at c1 ha
  clear hae hk hx hT
  by_cases h0 : x = al
  · have hall := ha.1 h0
    have hl := hlast hall
    have HA : Hid (∀ j, T j = allB n j) := hall
    have HL : Hid (T (n - 1) = true) := hl
    have heq : ((x : Int) == (al : Int)) = true := by rw [h0]; simp
    clear hh ha hlast hall hl h0
    go_enter Try.func149, Try.ntmps149
    go_wp2_with fail
    go_ret
    exact ⟨0, rfl, by omega, ⟨fun h => by omega, fun h => by rw [HL.out] at h; cases h⟩, fun _ => HA.out, rfl⟩
  · have hxa : ¬ (x : Int) = (al : Int) := by omega
    have heq : ((x : Int) == (al : Int)) = false := by simpa using hxa
    generalize x / 2 ^ (n - 1) = q at *
    cases hl : T (n - 1) with
    | false =>
      have HL : Hid (T (n - 1) = false) := hl
      rw [hl] at hh
      simp only [Bool.false_eq_true, if_false] at hh
      subst hh
      clear ha hlast hl h0 hxa
      generalize n - 1 = s at *
      go_enter Try.func149, Try.ntmps149
      go_wp2_with fail
      go_ret
      exact ⟨2, rfl, by omega, by simp, fun h => by omega, rfl⟩
    | true =>
      have HL : Hid (T (n - 1) = true) := hl
      rw [hl] at hh
      simp only [if_true] at hh
      subst hh
      clear ha hlast hl h0 hxa
      generalize n - 1 = s at *
      go_enter Try.func149, Try.ntmps149
      go_wp2_with fail
      go_ret
      exact ⟨1, rfl, by omega, by simp, fun h => by omega, rfl⟩
set_option maxRecDepth 100000 in
set_option maxHeartbeats 4000000 in
theorem turnVec_any (b : Nat) (sa : Option Addr) (n cap x m : Nat) (f : Nat → Cel) (w : World) (hx : x < 18446744073709551616) (hn0 : 1 ≤ n) (hn : n ≤ 60) (hm : m = (n + 31) / 32) (hk : TReady w b sa n cap f) :
    Calls Try.prog 140 #[.pointer (some ⟨b, 0, none⟩), .int .u64 (x : Int)] w fun e w' => NewVec w (n : Int) m (wordsN x) e w' := by
  obtain ⟨c0, c1, hlt⟩ := hk.cells
  obtain ⟨k, rfl⟩ : ∃ k, n = k + 1 := ⟨n - 1, by omega⟩
  have q0 := boxing w 45 0 none 0 0
  have PV := fun W => pvec_any x k m W hx (by omega) (by omega)
  have hs : ((k + 1 : Nat) : Int) - 1 = (k : Int) := by omega
  have hn1 : ((k + 1 : Nat) : Int) = (k : Int) + 1 := by omega
  rw [hn1]
  obtain ⟨z, hz⟩ : ∃ z : Int, (k : Int) + 1 = z := ⟨_, rfl⟩
  rw [hz] at PV ⊢
  have HPV : Hid (∀ W, Calls Try.prog 102 #[.int .u64 (x : Int), .int .i64 (k : Int)] W fun e w' => NewVec W z m (wordsN x) e w') := PV
  have hlen : IntKind.i64.wrap (((k + 1 : Nat) : Int) - 1) = (k : Int) := by rw [IntKind.wrap_i64]; omega
  clear hk hz hn1 PV hm
  have c9 : (w.alloc (.cells #[.int .i64 0, .slice none 0 0] 45)).cell? ⟨b, 0, none⟩ = some (.slice sa (k + 1) cap) := by rw [q0.1.cell (p := ⟨b, 0, none⟩) hlt]; exact c0
  generalize k + 1 = kk at *
  go_enter Try.func140, Try.ntmps140
  go_wp2_with fail
  generalize w.alloc (.cells #[.int .i64 0, .slice none 0 0] 45) = v0 at *
  refine (HPV.out _).mono ?_
  rintro e w3 ⟨s3, c3, rfl, hb3, ho3⟩
  unfold vecV
  obtain ⟨a0, a1, a2, a3⟩ := (q0.2.1.kept hb3 rfl).four
  have S3 : Hid (Since w w3) := since_call (since_call (since_refl _) q0.1) hb3
  have O3 : Hid (OwnS w3 v0.heap.size s3 m (wordsN x)) := ho3
  have l3 := q0.2.2
  clear hb3 ho3
  go_wp2_with fail
  refine bodyPost_ret (v := vecV z s3 m c3) (by simp [results, Try.results140, go_sem, vecV, a0, a1]) rfl ?_
  refine ⟨_, _, rfl, (since_set (since_set S3.out (by show w.heap.size ≤ w.heap.size; omega)) (by show w.heap.size ≤ w.heap.size; omega)).below, ?_⟩
  rcases O3.out with h | ⟨g5, h1, h2, h3⟩
  · exact Or.inl h
  · exact Or.inr ⟨g5, h1, by omega, (h3.setOther _ _ (by show w.heap.size ≠ g5; omega)).setOther _ _ (by show w.heap.size ≠ g5; omega)⟩
open Classical in
set_option maxRecDepth 100000 in
set_option maxHeartbeats 4000000 in
theorem isTurned_any (b : Nat) (sa : Option Addr) (n cap : Nat) (f : Nat → Cel) (bv : Int) (sv : Option Addr) (m cv : Nat) (g : Nat → Int) (w : World) (hm : m ≤ 1048576) (hr : Row w w.heap.size sv m g) (hk : TReady w b sa n cap f) :
    Calls Try.prog 147 #[.pointer (some ⟨b, 0, none⟩), .agg #[.int .i64 bv, .slice sv m cv]] w fun e w' => e = .returned (.bool (decide (Right bv m g ∧ bv = (n : Int)))) ∧ Below w.heap.size w w' := by
  obtain ⟨c0, c1, hlt⟩ := hk.cells
  have q0 := boxing w 45 bv sv m cv
  have HR : Hid (Row w w.heap.size sv m g) := hr
  have X0 : Hid (Boxed (w.alloc (.cells #[.int .i64 bv, .slice sv m cv] 45)) w.heap.size 45 bv sv m cv) := q0.2.1
  have S0 : Hid (Since w (w.alloc (.cells #[.int .i64 bv, .slice sv m cv] 45))) := since_call (since_refl _) q0.1
  have c9 : (w.alloc (.cells #[.int .i64 bv, .slice sv m cv] 45)).cell? ⟨b, 0, none⟩ = some (.slice sa n cap) := by rw [q0.1.cell (p := ⟨b, 0, none⟩) hlt]; exact c0
  have hbs : b < (w.alloc (.cells #[.int .i64 bv, .slice sv m cv] 45)).heap.size := by have := q0.2.2; omega
  clear hk hr q0 c0 c1 hlt
  generalize hv0 : w.alloc (.cells #[.int .i64 bv, .slice sv m cv] 45) = v0 at *
  have CB : Hid (∀ W, Since v0 W → W.cell? ⟨b, 0, none⟩ = some (.slice sa n cap) ∧ b < W.heap.size) := fun W hW => ⟨by rw [hW.below.cell (p := ⟨b, 0, none⟩) hbs]; exact c9, Nat.lt_of_lt_of_le hbs hW.size⟩
  by_cases hR : Right bv m g
  · have HV : Hid (∀ W, Since v0 W → Calls Try.prog 108 #[.agg #[.int .i64 bv, .slice sv m cv]] W fun e w' => e = .returned (.bool true) ∧ Below W.heap.size W w') := fun W hW => by
      have h := implRight_any bv sv m cv g W hm (row_since HR.out (since_call S0.out hW.below))
      rw [decide_eq_true hR] at h
      exact h
    by_cases hbn : bv = (n : Int)
    · have hd : decide (Right bv m g ∧ bv = (n : Int)) = true := decide_eq_true ⟨hR, hbn⟩
      rw [hd]
      have heq : (bv == (n : Int)) = true := by simpa using hbn
      clear hR hd hbn
      go_enter Try.func147, Try.ntmps147
      go_wp2_with fail
      try rw [hv0]
      clear hv0
      obtain ⟨x0, x1⟩ := X0.out.cells
      have xl := X0.out.lt
      go_region_held3 (fun W => W.cell? ⟨w.heap.size, 0, none⟩ = some (.int .i64 bv) ∧ W.cell? ⟨w.heap.size, 1, none⟩ = some (.slice sv m cv) ∧ W.cell? ⟨b, 0, none⟩ = some (.slice sa n cap)) (go_keep) (first | (go_at_call 108; (with_reducible refine (HV.out _ (by first | exact since_drew (since_refl _) | exact since_refl _)).mono ?_); rintro e u1 ⟨rfl, hb⟩; have T1 : Hid (Since v0 u1) := (by refine since_call ?_ hb; first | exact since_drew (since_refl _) | exact since_refl _); obtain ⟨x0, x1⟩ := (X0.out.since T1.out).cells; have xl := (X0.out.since T1.out).lt; obtain ⟨k0, kl⟩ := CB.out u1 T1.out; clear hb))
      all_goals
        go_wp2_with fail
        go_ret
        exact ⟨rfl, (since_call S0.out T1.out.below).below⟩
    · have hd : decide (Right bv m g ∧ bv = (n : Int)) = false := decide_eq_false (fun h => hbn h.2)
      rw [hd]
      have heq : (bv == (n : Int)) = false := by simpa using hbn
      clear hR hd
      go_enter Try.func147, Try.ntmps147
      go_wp2_with fail
      try rw [hv0]
      clear hv0
      obtain ⟨x0, x1⟩ := X0.out.cells
      have xl := X0.out.lt
      go_region_held3 (fun W => W.cell? ⟨w.heap.size, 0, none⟩ = some (.int .i64 bv) ∧ W.cell? ⟨w.heap.size, 1, none⟩ = some (.slice sv m cv) ∧ W.cell? ⟨b, 0, none⟩ = some (.slice sa n cap)) (go_keep) (first | (go_at_call 108; (with_reducible refine (HV.out _ (by first | exact since_drew (since_refl _) | exact since_refl _)).mono ?_); rintro e u1 ⟨rfl, hb⟩; have T1 : Hid (Since v0 u1) := (by refine since_call ?_ hb; first | exact since_drew (since_refl _) | exact since_refl _); obtain ⟨x0, x1⟩ := (X0.out.since T1.out).cells; have xl := (X0.out.since T1.out).lt; obtain ⟨k0, kl⟩ := CB.out u1 T1.out; clear hb))
      all_goals
        go_wp2_with fail
        go_ret
        exact ⟨rfl, (since_call S0.out T1.out.below).below⟩
  · have HV : Hid (∀ W, Since v0 W → Calls Try.prog 108 #[.agg #[.int .i64 bv, .slice sv m cv]] W fun e w' => e = .returned (.bool false) ∧ Below W.heap.size W w') := fun W hW => by
      have h := implRight_any bv sv m cv g W hm (row_since HR.out (since_call S0.out hW.below))
      rw [decide_eq_false hR] at h
      exact h
    have hd : decide (Right bv m g ∧ bv = (n : Int)) = false := decide_eq_false (fun h => hR h.1)
    rw [hd]
    clear hR hd
    go_enter Try.func147, Try.ntmps147
    go_wp2_with fail
    try rw [hv0]
    clear hv0
    obtain ⟨x0, x1⟩ := X0.out.cells
    have xl := X0.out.lt
    first | (go_region_with (first | (go_at_call 108; (refine (HV.out _ (by first | exact since_drew (since_refl _) | exact since_refl _)).mono ?_); rintro e u1 ⟨rfl, hb⟩; have T1 : Hid (Since v0 u1) := (by refine since_call ?_ hb; first | exact since_drew (since_refl _) | exact since_refl _); clear hb))) | fail
    all_goals
      go_wp2_with fail
      go_ret
      exact ⟨rfl, (since_call S0.out T1.out.below).below⟩
end Go.Proofs.Ytlgnplnmcdjbiaa
