/- What is proved here: what kind of step leads to turned bits, whether a vector is turned bits of a row, and how they are written as a vector.
   What is proved here: the program goes along plain cells by turned bits, and holds the ends; but for the row's own block nothing that was there turns. -/
import Derived.Test.YtfeolbgenpknfaaGreatQTFillWToPVecW
import Derived.Test.YtfeolbgenpknfaaGreatQIsByteWToTStepW
import Derived.Test.YtfeolbgenpknfaaGreatQImplRightWToVecM
import Derived.Deep.RegionHeld3
import Derived.Deep.RegionWith
import Derived.Test.YtfeolbgenpknfaaGreatQIntRowWToSpecGoesW
namespace Go.Proofs.YtfeolbgenpknfaaGreat
open Go.RowKit

set_option maxRecDepth 100000 in
set_option maxHeartbeats 4000000 in
/-- 0: no cell was passed; 2: all were; 1: else. -/
theorem turnKind_any (b : Nat) (sa : Option Addr) (n cap x : Nat) (f : Nat → Cel) (T : Nat → Bool) (w : World) (hn0 : 1 ≤ n) (hn : n ≤ 60) (hk : TReady w b sa n cap f) (hx : IsBits x T) (hT : ∀ j, n ≤ j → T j = false) :
    Calls Tryz.prog 51 #[.pointer (some ⟨b, 0, none⟩), .int .u64 (x : Int)] w fun e w' => ∃ k : Nat, e = .returned (.int .i64 (k : Int)) ∧ k ≤ 2 ∧ (k = 2 ↔ T (n - 1) = false) ∧ (k = 0 → ∀ j, T j = allB n j) ∧ w' = w := by
  obtain ⟨c0, c1, hlt⟩ := hk.cells
  have hh := hit_turn hn0 hx hT
  have ha := all_turn (n := n) (by omega) hx
  have hlast : (∀ j, T j = allB n j) → T (n - 1) = true := fun h => by rw [h]; exact decide_eq_true (by omega)
  have hsh : (n : Int) - 1 = ((n - 1 : Nat) : Int) := by omega
  have hs0 : (0 : Int) ≤ ((n - 1 : Nat) : Int) := by omega
  have hdv : (x : Int) / 2 ^ (n - 1) = ((x / 2 ^ (n - 1) : Nat) : Int) := by simp
  obtain ⟨al, hae⟩ : ∃ al, 2 ^ n - 1 = al := ⟨_, rfl⟩
  rw [hae] at c1 ha
  clear hae hk hx hT
  by_cases h0 : x = al
  · have hall := ha.1 h0
    have hl := hlast hall
    have HA : Hid (∀ j, T j = allB n j) := hall
    have HL : Hid (T (n - 1) = true) := hl
    have heq : ((x : Int) == (al : Int)) = true := by rw [h0]; simp
    clear hh ha hlast hall hl h0
    go_enter Tryz.func51, Tryz.ntmps51
    go_wp2_with fail
    go_ret
    exact ⟨0, rfl, by omega, ⟨fun h => by omega, fun h => by rw [HL.out] at h; cases h⟩, fun _ => HA.out, rfl⟩
  · have hxa : ¬ (x : Int) = (al : Int) := by omega
    have heq : ((x : Int) == (al : Int)) = false := by simpa using hxa
    generalize x / 2 ^ (n - 1) = q at *
    cases hl : T (n - 1) with
    | false =>
      have HL : Hid (T (n - 1) = false) := hl
      rw [hl] at hh
      simp only [Bool.false_eq_true, if_false] at hh
      subst hh
      clear ha hlast hl h0 hxa
      generalize n - 1 = s at *
      go_enter Tryz.func51, Tryz.ntmps51
      go_wp2_with fail
      go_ret
      exact ⟨2, rfl, by omega, by simp, fun h => by omega, rfl⟩
    | true =>
      have HL : Hid (T (n - 1) = true) := hl
      rw [hl] at hh
      simp only [if_true] at hh
      subst hh
      clear ha hlast hl h0 hxa
      generalize n - 1 = s at *
      go_enter Tryz.func51, Tryz.ntmps51
      go_wp2_with fail
      go_ret
      exact ⟨1, rfl, by omega, by simp, fun h => by omega, rfl⟩
set_option maxRecDepth 100000 in
set_option maxHeartbeats 4000000 in
theorem turnVec_any (b : Nat) (sa : Option Addr) (n cap x m : Nat) (f : Nat → Cel) (w : World) (hx : x < 18446744073709551616) (hn0 : 1 ≤ n) (hn : n ≤ 60) (hm : m = (n + 31) / 32) (hk : TReady w b sa n cap f) :
    Calls Tryz.prog 50 #[.pointer (some ⟨b, 0, none⟩), .int .u64 (x : Int)] w fun e w' => NewVec w (n : Int) m (wordsN x) e w' := by
  obtain ⟨c0, c1, hlt⟩ := hk.cells
  obtain ⟨k, rfl⟩ : ∃ k, n = k + 1 := ⟨n - 1, by omega⟩
  have q0 := boxing w 29 0 none 0 0
  have PV := fun W => pvec_any x k m W hx (by omega) (by omega)
  have hs : ((k + 1 : Nat) : Int) - 1 = (k : Int) := by omega
  have hn1 : ((k + 1 : Nat) : Int) = (k : Int) + 1 := by omega
  rw [hn1]
  obtain ⟨z, hz⟩ : ∃ z : Int, (k : Int) + 1 = z := ⟨_, rfl⟩
  rw [hz] at PV ⊢
  have HPV : Hid (∀ W, Calls Tryz.prog 78 #[.int .u64 (x : Int), .int .i64 (k : Int)] W fun e w' => NewVec W z m (wordsN x) e w') := PV
  have hlen : IntKind.i64.wrap (((k + 1 : Nat) : Int) - 1) = (k : Int) := by rw [IntKind.wrap_i64]; omega
  clear hk hz hn1 PV hm
  have c9 : (w.alloc (.cells #[.int .i64 0, .slice none 0 0] 29)).cell? ⟨b, 0, none⟩ = some (.slice sa (k + 1) cap) := by rw [q0.1.cell (p := ⟨b, 0, none⟩) hlt]; exact c0
  generalize k + 1 = kk at *
  go_enter Tryz.func50, Tryz.ntmps50
  go_wp2_with fail
  generalize w.alloc (.cells #[.int .i64 0, .slice none 0 0] 29) = v0 at *
  refine (HPV.out _).mono ?_
  rintro e w3 ⟨s3, c3, rfl, hb3, ho3⟩
  unfold vecV
  obtain ⟨a0, a1, a2, a3⟩ := (q0.2.1.kept hb3 rfl).four
  have S3 : Hid (Since w w3) := since_call (since_call (since_refl _) q0.1) hb3
  have O3 : Hid (OwnS w3 v0.heap.size s3 m (wordsN x)) := ho3
  have l3 := q0.2.2
  clear hb3 ho3
  go_wp2_with fail
  refine bodyPost_ret (v := vecV z s3 m c3) (by simp [results, Tryz.results50, go_sem, vecV, a0, a1]) rfl ?_
  refine ⟨_, _, rfl, (since_set (since_set S3.out (by show w.heap.size ≤ w.heap.size; omega)) (by show w.heap.size ≤ w.heap.size; omega)).below, ?_⟩
  rcases O3.out with h | ⟨g5, h1, h2, h3⟩
  · exact Or.inl h
  · exact Or.inr ⟨g5, h1, by omega, (h3.setOther _ _ (by show w.heap.size ≠ g5; omega)).setOther _ _ (by show w.heap.size ≠ g5; omega)⟩
open Classical in
set_option maxRecDepth 100000 in
set_option maxHeartbeats 4000000 in
theorem isTurned_any (b : Nat) (sa : Option Addr) (n cap : Nat) (f : Nat → Cel) (bv : Int) (sv : Option Addr) (m cv : Nat) (g : Nat → Int) (w : World) (hm : m ≤ 1048576) (hr : Row w w.heap.size sv m g) (hk : TReady w b sa n cap f) :
    Calls Tryz.prog 46 #[.pointer (some ⟨b, 0, none⟩), .agg #[.int .i64 bv, .slice sv m cv]] w fun e w' => e = .returned (.bool (decide (Right bv m g ∧ bv = (n : Int)))) ∧ Below w.heap.size w w' := by
  obtain ⟨c0, c1, hlt⟩ := hk.cells
  have q0 := boxing w 29 bv sv m cv
  have HR : Hid (Row w w.heap.size sv m g) := hr
  have X0 : Hid (Boxed (w.alloc (.cells #[.int .i64 bv, .slice sv m cv] 29)) w.heap.size 29 bv sv m cv) := q0.2.1
  have S0 : Hid (Since w (w.alloc (.cells #[.int .i64 bv, .slice sv m cv] 29))) := since_call (since_refl _) q0.1
  have c9 : (w.alloc (.cells #[.int .i64 bv, .slice sv m cv] 29)).cell? ⟨b, 0, none⟩ = some (.slice sa n cap) := by rw [q0.1.cell (p := ⟨b, 0, none⟩) hlt]; exact c0
  have hbs : b < (w.alloc (.cells #[.int .i64 bv, .slice sv m cv] 29)).heap.size := by have := q0.2.2; omega
  clear hk hr q0 c0 c1 hlt
  generalize hv0 : w.alloc (.cells #[.int .i64 bv, .slice sv m cv] 29) = v0 at *
  have CB : Hid (∀ W, Since v0 W → W.cell? ⟨b, 0, none⟩ = some (.slice sa n cap) ∧ b < W.heap.size) := fun W hW => ⟨by rw [hW.below.cell (p := ⟨b, 0, none⟩) hbs]; exact c9, Nat.lt_of_lt_of_le hbs hW.size⟩
  by_cases hR : Right bv m g
  · have HV : Hid (∀ W, Since v0 W → Calls Tryz.prog 77 #[.agg #[.int .i64 bv, .slice sv m cv]] W fun e w' => e = .returned (.bool true) ∧ Below W.heap.size W w') := fun W hW => by
      have h := implRight_any bv sv m cv g W hm (row_since HR.out (since_call S0.out hW.below))
      rw [decide_eq_true hR] at h
      exact h
    by_cases hbn : bv = (n : Int)
    · have hd : decide (Right bv m g ∧ bv = (n : Int)) = true := decide_eq_true ⟨hR, hbn⟩
      rw [hd]
      have heq : (bv == (n : Int)) = true := by simpa using hbn
      clear hR hd hbn
      go_enter Tryz.func46, Tryz.ntmps46
      go_wp2_with fail
      try rw [hv0]
      clear hv0
      obtain ⟨x0, x1⟩ := X0.out.cells
      have xl := X0.out.lt
      go_region_held3 (fun W => W.cell? ⟨w.heap.size, 0, none⟩ = some (.int .i64 bv) ∧ W.cell? ⟨w.heap.size, 1, none⟩ = some (.slice sv m cv) ∧ W.cell? ⟨b, 0, none⟩ = some (.slice sa n cap)) (go_keep) (first | (go_at_call 77; (with_reducible refine (HV.out _ (by first | exact since_drew (since_refl _) | exact since_refl _)).mono ?_); rintro e u1 ⟨rfl, hb⟩; have T1 : Hid (Since v0 u1) := (by refine since_call ?_ hb; first | exact since_drew (since_refl _) | exact since_refl _); obtain ⟨x0, x1⟩ := (X0.out.since T1.out).cells; have xl := (X0.out.since T1.out).lt; obtain ⟨k0, kl⟩ := CB.out u1 T1.out; clear hb))
      all_goals
        go_wp2_with fail
        go_ret
        exact ⟨rfl, (since_call S0.out T1.out.below).below⟩
    · have hd : decide (Right bv m g ∧ bv = (n : Int)) = false := decide_eq_false (fun h => hbn h.2)
      rw [hd]
      have heq : (bv == (n : Int)) = false := by simpa using hbn
      clear hR hd
      go_enter Tryz.func46, Tryz.ntmps46
      go_wp2_with fail
      try rw [hv0]
      clear hv0
      obtain ⟨x0, x1⟩ := X0.out.cells
      have xl := X0.out.lt
      go_region_held3 (fun W => W.cell? ⟨w.heap.size, 0, none⟩ = some (.int .i64 bv) ∧ W.cell? ⟨w.heap.size, 1, none⟩ = some (.slice sv m cv) ∧ W.cell? ⟨b, 0, none⟩ = some (.slice sa n cap)) (go_keep) (first | (go_at_call 77; (with_reducible refine (HV.out _ (by first | exact since_drew (since_refl _) | exact since_refl _)).mono ?_); rintro e u1 ⟨rfl, hb⟩; have T1 : Hid (Since v0 u1) := (by refine since_call ?_ hb; first | exact since_drew (since_refl _) | exact since_refl _); obtain ⟨x0, x1⟩ := (X0.out.since T1.out).cells; have xl := (X0.out.since T1.out).lt; obtain ⟨k0, kl⟩ := CB.out u1 T1.out; clear hb))
      all_goals
        go_wp2_with fail
        go_ret
        exact ⟨rfl, (since_call S0.out T1.out.below).below⟩
  · have HV : Hid (∀ W, Since v0 W → Calls Tryz.prog 77 #[.agg #[.int .i64 bv, .slice sv m cv]] W fun e w' => e = .returned (.bool false) ∧ Below W.heap.size W w') := fun W hW => by
      have h := implRight_any bv sv m cv g W hm (row_since HR.out (since_call S0.out hW.below))
      rw [decide_eq_false hR] at h
      exact h
    have hd : decide (Right bv m g ∧ bv = (n : Int)) = false := decide_eq_false (fun h => hR h.1)
    rw [hd]
    clear hR hd
    go_enter Tryz.func46, Tryz.ntmps46
    go_wp2_with fail
    try rw [hv0]
    clear hv0
    obtain ⟨x0, x1⟩ := X0.out.cells
    have xl := X0.out.lt
    first | (go_region_with (first | (go_at_call 77; (refine (HV.out _ (by first | exact since_drew (since_refl _) | exact since_refl _)).mono ?_); rintro e u1 ⟨rfl, hb⟩; have T1 : Hid (Since v0 u1) := (by refine since_call ?_ hb; first | exact since_drew (since_refl _) | exact since_refl _); clear hb))) | fail
    all_goals
      go_wp2_with fail
      go_ret
      exact ⟨rfl, (since_call S0.out T1.out.below).below⟩
end Go.Proofs.YtfeolbgenpknfaaGreat
namespace Go.Proofs.YtfeolbgenpknfaaGreat
open Go.RowKit

theorem ints_row {w w' : World} {base n size : Nat} {e : TypeId} {v : Value} {xs : List Value} {p : Nat} (h : w.ownsRow base e size v n xs) (hg : w.grownBy w' (some p)) (hp : p < base) : w'.ownsRow base e size v n xs := by
  obtain ⟨hl, h⟩ := h
  refine ⟨hl, ?_⟩
  rcases h with h | ⟨g, cap, cur, h1, h2, h3, h4⟩
  · exact Or.inl h
  · refine Or.inr ⟨g, cap, cur, h1, h2, ?_, h4⟩
    rw [hg.block g (lt_of_block h3) (fun e => by injection e with e; omega)]
    exact h3
theorem ends_of_ints {W : World} {base : Nat} {l : List Int} {v : Value} (h : W.ownsRow base 2 1 v l.length (icells l)) : ∃ (s : Option Addr) (cap : Nat), v = .slice s l.length cap ∧ OwnS W base s l.length (fun i => l.getD i 0) := by
  obtain ⟨_, ⟨rfl, hx⟩ | ⟨g, cap, cur, rfl, hg, hh, hnc, hm, hs, ht⟩⟩ := h
  · have : l = [] := by simpa [icells] using hx
    subst this
    exact ⟨none, 0, rfl, Or.inl rfl⟩
  · refine ⟨_, _, rfl, Or.inr ⟨g, rfl, hg, lt_of_block hh, fun i hi => ?_, fun i hi => frozen_of_row _ _ _ _ _ hh⟩⟩
    have hc : W.cell? ⟨g, i, none⟩ = (icells l)[i]? := by
      rw [← ht, List.getElem?_take_of_lt (by omega)]
      simp [World.cell?, hh]
    rw [hc]
    simp [icells, hi]
/-- A walk by turned bits that goes on, and what it has told. -/
structure TurnGo (w wr : World) (b : Nat) (sa : Option Addr) (n cap : Nat) (f : Nat → Cel) (t : ByteArray) (k x : Nat) (v : Value) : Prop where
  row : TReady wr b sa n cap f
  below : Below b w wr
  bits : IsBits x (turnS f n t k)
  own : wr.ownsRow w.heap.size 2 1 v (classL (hitT f n t) (k + 1)).length (icells (classL (hitT f n t) (k + 1)))
/-- Ends in new memory; only blocks from b on turned. -/
def TurnEnds (w : World) (b : Nat) (l : List Int) (e : Ending) (w' : World) : Prop := ∃ (s : Option Addr) (c : Nat), e = .returned (.slice s l.length c) ∧ Below b w w' ∧ OwnS w' w.heap.size s l.length (fun i => l.getD i 0)
set_option maxRecDepth 100000 in
set_option maxHeartbeats 4000000 in
theorem turnEnds_any (b : Nat) (sa : Option Addr) (n cap : Nat) (f : Nat → Cel) (t : ByteArray) (w : World) (hn0 : 1 ≤ n) (hn : n ≤ 60) (ht : t.size ≤ 8000) (hsz : ∀ i, i < n → (f i).c.size ≤ 256) (hr : CRow w b sa n f) (hk : TReady w b sa n cap f) :
    Calls Tryz.prog 34 #[.pointer (some ⟨b, 0, none⟩), .string t] w fun e w' => TurnEnds w b (turnL f n t) e w' := by
  obtain ⟨i0, hi, hz0, hz1, hz2⟩ := info_parts Tryz.numInfo
  have HR : Hid (CRow w b sa n f) := hr
  have HSZ : Hid (∀ i, i < n → (f i).c.size ≤ 256) := hsz
  have HK : Hid (TReady w b sa n cap f) := hk
  have HB : Hid (b < w.heap.size) := hk.cells.2.2
  obtain ⟨c0, c1, hlt⟩ := hk.cells
  obtain ⟨al, hae⟩ : ∃ al, 2 ^ n - 1 = al := ⟨_, rfl⟩
  have B0 : Hid (IsBits al (turnS f n t 0)) := by rw [← hae]; exact bits_all (by omega)
  rw [hae] at c1
  clear hr hk hsz hae
  go_enter Tryz.func34, Tryz.ntmps34
  go_wp2_with fail
  clear c0 c1 hlt
  go_loopw [5, 6, 7] (fun v y i wr => ∃ k x : Nat, k ≤ t.size ∧ i = .int .i64 (k : Int) ∧ y = .int .u64 (x : Int) ∧ TurnGo w wr b sa n cap f t k x v) (fun _ _ i _ => t.size - (intOf i).toNat)
  case atStart => exact ⟨0, al, Nat.zero_le _, rfl, rfl, HK.out, Below.refl _ _, B0.out, ⟨rfl, Or.inl ⟨rfl, rfl⟩⟩⟩
  case round =>
    obtain ⟨k, x, hk, rfl, rfl, hg⟩ := hrel
    have HG : Hid (TurnGo w wr b sa n cap f t k x u5) := hg
    clear hg
    by_cases hkl : k < t.size
    · have hki : (k : Int) < (t.size : Int) := by omega
      have hk0 : (0 : Int) ≤ (k : Int) := by omega
      obtain ⟨c, hc⟩ : ∃ c, t[k].toNat = c := ⟨_, rfl⟩
      have hc9 : c < 256 := by rw [← hc]; exact UInt8.toNat_lt _
      have HBY : Hid (byteT t k = c) := by show byteT t k = c; rw [byteT_at hkl, hc]
      have CS := turnStep_any b sa n cap x c f (turnS f n t k) wr hn hc9 HSZ.out (HR.out.kept HG.out.below) HG.out.row HG.out.bits (turnS_le f n t k)
      have hlen := classL_len (hitT f n t) (k + 1)
      go_wp2_with fail
      refine CS.mono ?_
      rintro e w4 ⟨z, rfl, hz, hrd4, hg4⟩
      have hz' : IsBits z (turnS f n t (k + 1)) := by
        show IsBits z (turnB f n (turnS f n t k) (byteT t k))
        rw [HBY.out]
        exact hz
      have CK := turnKind_any b sa n cap z f (turnS f n t (k + 1)) w4 hn0 hn hrd4 hz' (turnS_le f n t (k + 1))
      have HZ : Hid (IsBits z (turnS f n t (k + 1))) := hz'
      have R4 : Hid (TReady w4 b sa n cap f) := hrd4
      have O4 : Hid (w4.ownsRow w.heap.size 2 1 u5 (classL (hitT f n t) (k + 1)).length (icells (classL (hitT f n t) (k + 1)))) := ints_row HG.out.own hg4 HB.out
      have B4 : Hid (Below b w w4) := HG.out.below.trans ⟨hg4.os, hg4.tape, hg4.output, hg4.size, fun j hj => hg4.block j (by have := HG.out.below.size; have := HB.out; omega) (fun e => by injection e with e; omega)⟩
      clear CS hz hrd4 hg4 hz'
      go_wp2_with fail
      refine CK.mono ?_
      rintro e w5 ⟨q, rfl, hq2, hqh, hqa, hw5⟩
      rw [hw5]
      clear CK hw5 w5
      have HQ : Hid ((q = 2 ↔ turnS f n t (k + 1) (n - 1) = false) ∧ (q = 0 → ∀ j, turnS f n t (k + 1) j = allB n j)) := ⟨hqh, hqa⟩
      clear hqh hqa
      have hwb : w.heap.size ≤ w4.heap.size := B4.out.size
      by_cases hq : q = 2
      · subst hq
        have HL : Hid (classL (hitT f n t) (k + 1 + 1) = classL (hitT f n t) (k + 1) ++ [((k + 1 : Nat) : Int)]) := classL_yes (by show (!turnS f n t (k + 1) (n - 1)) = true; rw [HQ.out.1.1 rfl]; rfl)
        have hown := O4.out
        go_wp2_with (at_builtin; refine wpList_append_own_at _ rfl (.tmp 30) (.tmp 33) 26 rfl w.heap.size 2 i0 (.int .i64 0) 1 8 Tryz.underlying26 hi hz0 hz1 hz2 rfl (by decide) _ _ _ rfl (hown.alloc _) ⟨w4.heap.size, 0, none⟩ 1 1 [.int .i64 ((k : Int) + 1)] rfl rfl ?c1 ?c2 ?c3 ?c4 ?c5 ?_)
        case c1 => exact cell1_new w4 _ _
        case c2 => intro u hu; simp at hu; subst hu; rfl
        case c3 => unfold maxLen; omega
        case c4 => omega
        case c5 => first | omega | (simp <;> omega)
        intro v5 w5 hown5 hgrow5 _ _
        have hb5 : Below (b + 1) w4 w5 := grown_lo ((World.grownBy_alloc _ _ _).trans hgrow5) (fun j e => (hown.lt j e).1) HB.out (by have := B4.out.size; have := HB.out; omega)
        have G5 : Hid (TurnGo w w5 b sa n cap f t (k + 1) z v5) := ⟨R4.out.kept hb5 (Nat.lt_succ_self b), B4.out.trans (hb5.mono (by omega)), HZ.out, by rw [HL.out, icells_append, List.length_append]; exact hown5⟩
        clear hown5 hgrow5 hown hb5
        go_wp2_with fail
        go_roundw
        case rel => exact ⟨k + 1, z, hkl, by go_num, rfl, G5.out⟩
        case measure => simp [intOf]; omega
      · have HL : Hid (classL (hitT f n t) (k + 1 + 1) = classL (hitT f n t) (k + 1)) := classL_no (by
          show (!turnS f n t (k + 1) (n - 1)) = false
          cases h9 : turnS f n t (k + 1) (n - 1) with
          | true => rfl
          | false => exact absurd (HQ.out.1.2 h9) hq)
        have G4 : Hid (TurnGo w w4 b sa n cap f t (k + 1) z u5) := ⟨R4.out, B4.out, HZ.out, by rw [HL.out]; exact O4.out⟩
        have hq' : ((q : Int) == 2) = false := by simp; omega
        by_cases hq0 : q = 0
        · subst hq0
          obtain ⟨c0, c1, hlt⟩ := R4.out.cells
          by_cases hleft : t.size - (k + 1) < n
          · have hli : (t.size : Int) - (k : Int) - 1 < (n : Int) := by omega
            have HE : Hid (classL (hitT f n t) (k + 1 + 1) = turnL f n t) := turn_early (HQ.out.2 rfl) hkl hleft
            have EN : Hid (∃ (s : Option Addr) (c : Nat), u5 = .slice s (turnL f n t).length c ∧ OwnS w4 w.heap.size s (turnL f n t).length (fun i => (turnL f n t).getD i 0)) := by
              have h9 := G4.out.own
              rw [HE.out] at h9
              exact ends_of_ints h9
            go_wp2_with fail
            go_ret
            obtain ⟨s, c, e1, ho⟩ := EN.out
            exact ⟨s, c, congrArg Ending.returned e1, B4.out, ho⟩
          · have hli : ¬ (t.size : Int) - (k : Int) - 1 < (n : Int) := by omega
            go_wp2_with fail
            go_roundw
            case rel => exact ⟨k + 1, z, hkl, by go_num, rfl, G4.out⟩
            case measure => simp [intOf]; omega
        · have hq1 : q = 1 := by omega
          subst hq1
          go_wp2_with fail
          go_roundw
          case rel => exact ⟨k + 1, z, hkl, by go_num, rfl, G4.out⟩
          case measure => simp [intOf]; omega
    · have hki : ¬ (k : Int) < (t.size : Int) := by omega
      obtain rfl : k = t.size := by omega
      have EN : Hid (∃ (s : Option Addr) (c : Nat), u5 = .slice s (turnL f n t).length c ∧ OwnS wr w.heap.size s (turnL f n t).length (fun i => (turnL f n t).getD i 0)) := ends_of_ints HG.out.own
      go_wp2_with fail
      go_ret
      obtain ⟨s, c, e1, ho⟩ := EN.out
      exact ⟨s, c, congrArg Ending.returned e1, HG.out.below, ho⟩
end Go.Proofs.YtfeolbgenpknfaaGreat
