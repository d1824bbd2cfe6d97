/- What is proved here: the program's ByteVec and LoopVec hand back the places whose cells have a byte, or have it and may be passed again, in new memory, or nothing; nothing that was there turns. -/
import Derived.Test.YtbdjjggaahjjpaaQOnceW
import Derived.Test.YtbdjjggaahjjpaaQPVecWToFitKM
import Derived.Test.YtbdjjggaahjjpaaQClassAlg
import Derived.Deep.RegionHeld3
namespace Go.Proofs.Ytbdjjggaahjjpaa
open Go.RowKit

set_option maxRecDepth 100000 in
set_option maxHeartbeats 4000000 in
theorem implByte_yes (sa : Option Addr) (n cap c m x : Nat) (f : Nat → Cel) (w : World) (hn : n ≤ maxLen) (hr : CRow w w.heap.size sa n f) (hc : ∀ i, i < n → (f i).c.size ≤ maxLen) (h : CellsOk n f) (hc9 : c < 256) (hm : m = (n + 1 + 31) / 32) (hx : IsBits x (behind (fun i => hasByte (f i).c c) n)) :
    Calls Try.prog 66 #[.slice sa n cap, .int .i64 (c : Int)] w fun e w' => NewVec w ((n : Int) + 1) m (wordsN x) e w' := by
  have hn60 := h.2.1
  have HSZ : Hid (∀ i, i < n → (f i).c.size ≤ 256) := okSize (fun i _ hi => right_size hi) h
  have HX : Hid (IsBits x (behind (fun i => hasByte (f i).c c) n)) := hx
  have HR : Hid (CRow w w.heap.size sa n f) := hr
  have q0 := boxing w 36 0 none 0 0
  have C := rowOf_yes sa n cap f (w.alloc (.cells #[.int .i64 0, .slice none 0 0] 36)) hn ((hr.kept q0.1).up q0.1.size) hc h
  have hc0 : (0 : Int) ≤ (c : Int) := by omega
  have hc1 : (c : Int) ≤ 255 := by omega
  have hwc : IntKind.u8.wrap (c : Int) = (c : Int) := by rw [IntKind.wrap_u8]; omega
  have HM : Hid (m = (n + 1 + 31) / 32) := hm
  clear hn hr hc h hx hm
  go_enter Try.func66, Try.ntmps66
  go_wp2_with fail
  generalize w.alloc (.cells #[.int .i64 0, .slice none 0 0] 36) = v0 at *
  refine C.mono ?_
  rintro e w1 ⟨b, sk, lo, rfl, hbl, hb1, hsk, hlo, hrow⟩
  have X1 : Hid (Boxed w1 w.heap.size 36 0 none 0 0) := q0.2.1.kept hb1 rfl
  have S1 : Hid (Since w w1) := since_call (since_call (since_refl _) q0.1) hb1
  have R1 : Hid (CRow w1 b sa n f) := ((HR.out.kept q0.1).kept (hb1.mono q0.1.size)).up (by have := q0.1.size; omega)
  have K1 : Hid (Ready w1 b sa n cap sk lo f) := Or.inl hrow
  have hbw : w.heap.size < b := by have := q0.2.2; omega
  have hblt := hrow.lt
  clear C hb1 hsk hlo hrow q0
  go_wp2_with (first | (go_at_call 62; refine (isByte_yes _ _ hc0 hc1).mono ?_; rintro e w9 ⟨rfl, hw9⟩; rw [hw9]; clear hw9 w9))
  refine (having_any b sa n cap sk lo c f w1 hn60 hc9 HSZ.out R1.out K1.out).mono ?_
  rintro e w2 ⟨y, rfl, hy, hrd, hg⟩
  obtain rfl := HX.out.uniq hy
  have S2 : Hid (Since w w2) := ⟨S1.out.below.trans ⟨hg.os, hg.tape, hg.output, hg.size, fun j hj => hg.block j (Nat.lt_of_lt_of_le hj S1.out.size) (fun e => by injection e with e; omega)⟩⟩
  have X2 : Hid (Boxed w2 w.heap.size 36 0 none 0 0) := by
    have h9 := hg.block w.heap.size X1.out.lt (fun e => by injection e with e; omega)
    show Boxed w2 w.heap.size 36 0 none 0 0
    unfold Boxed
    rw [h9]
    exact X1.out
  clear hy hrd hg
  go_wp2_with fail
  refine (pvec_any x n m w2 HX.out.lt hn60 HM.out).mono ?_
  rintro e w3 ⟨s3, c3, rfl, hb3, ho3⟩
  unfold vecV
  obtain ⟨a0, a1, a2, a3⟩ := (X2.out.kept hb3 rfl).four
  have S3 : Hid (Since w w3) := since_call S2.out hb3
  have O3 : Hid (OwnS w3 w2.heap.size s3 m (wordsN x)) := ho3
  have l3 : w.heap.size < w3.heap.size := by have := hb3.size; have := X2.out.lt; omega
  have l2 : w.heap.size < w2.heap.size := X2.out.lt
  clear hb3 ho3
  go_wp2_with fail
  refine bodyPost_ret (v := vecV ((n : Int) + 1) s3 m c3) (by simp [results, Try.results66, go_sem, vecV, a0, a1]) rfl ?_
  refine ⟨_, _, rfl, (since_set (since_set S3.out (by show w.heap.size ≤ w.heap.size; omega)) (by show w.heap.size ≤ w.heap.size; omega)).below, ?_⟩
  rcases O3.out with h | ⟨g5, h1, h2, h3⟩
  · exact Or.inl h
  · exact Or.inr ⟨g5, h1, by omega, (h3.setOther _ _ (by show w.heap.size ≠ g5; omega)).setOther _ _ (by show w.heap.size ≠ g5; omega)⟩
set_option maxRecDepth 100000 in
set_option maxHeartbeats 4000000 in
theorem implByte_no (sa : Option Addr) (n cap : Nat) (en : Int) (f : Nat → Cel) (w : World) (hn : n ≤ maxLen) (hr : CRow w w.heap.size sa n f) (hc : ∀ i, i < n → (f i).c.size ≤ maxLen) (h : ¬ ByteP n f en) :
    Calls Try.prog 66 #[.slice sa n cap, .int .i64 en] w fun e w' => NewVec w 0 0 (fun _ => 0) e w' := by
  have q0 := boxing w 36 0 none 0 0
  by_cases hk : CellsOk n f
  · have C := rowOf_yes sa n cap f (w.alloc (.cells #[.int .i64 0, .slice none 0 0] 36)) hn ((hr.kept q0.1).up q0.1.size) hc hk
    have HEN : Hid (¬ (0 ≤ en ∧ en ≤ 255)) := fun h9 => h ⟨hk, h9.1, h9.2⟩
    clear hn hr hc h hk
    go_enter Try.func66, Try.ntmps66
    go_wp2_with fail
    generalize w.alloc (.cells #[.int .i64 0, .slice none 0 0] 36) = v0 at *
    refine C.mono ?_
    rintro e w1 ⟨b, sk, lo, rfl, hbl, hb1, hsk, hlo, hrow⟩
    obtain ⟨a0, a1, a2, a3⟩ := (q0.2.1.kept hb1 rfl).four
    have S1 : Hid (Since w w1) := since_call (since_call (since_refl _) q0.1) hb1
    clear C hb1 hsk hlo hrow q0
    go_wp2_with (first | (go_at_call 62; refine (isByte_no _ _ HEN.out).mono ?_; rintro e w9 ⟨rfl, hw9⟩; rw [hw9]; clear hw9 w9))
    refine bodyPost_ret (v := vecV 0 none 0 0) (by simp [results, Try.results66, go_sem, vecV, a0, a1]) rfl ?_
    exact ⟨_, _, rfl, (since_set (since_set S1.out (by show w.heap.size ≤ w.heap.size; omega)) (by show w.heap.size ≤ w.heap.size; omega)).below, Or.inl rfl⟩
  · have C := rowOf_no sa n cap f (w.alloc (.cells #[.int .i64 0, .slice none 0 0] 36)) hn ((hr.kept q0.1).up q0.1.size) hc hk
    clear hn hr hc h hk
    go_enter Try.func66, Try.ntmps66
    go_wp2_with fail
    generalize w.alloc (.cells #[.int .i64 0, .slice none 0 0] 36) = v0 at *
    refine C.mono ?_
    rintro e w1 ⟨rfl, hb1⟩
    obtain ⟨a0, a1, a2, a3⟩ := (q0.2.1.kept hb1 rfl).four
    have S1 : Hid (Since w w1) := since_call (since_call (since_refl _) q0.1) hb1
    clear C hb1 q0
    go_wp2_with fail
    refine bodyPost_ret (v := vecV 0 none 0 0) (by simp [results, Try.results66, go_sem, vecV, a0, a1]) rfl ?_
    exact ⟨_, _, rfl, (since_set (since_set S1.out (by show w.heap.size ≤ w.heap.size; omega)) (by show w.heap.size ≤ w.heap.size; omega)).below, Or.inl rfl⟩
set_option maxRecDepth 100000 in
set_option maxHeartbeats 4000000 in
theorem implLoop_yes (sa : Option Addr) (n cap c m x : Nat) (f : Nat → Cel) (w : World) (hn : n ≤ maxLen) (hr : CRow w w.heap.size sa n f) (hc : ∀ i, i < n → (f i).c.size ≤ maxLen) (h : CellsOk n f) (hc9 : c < 256) (hm : m = (n + 1 + 31) / 32) (hx : IsBits x (behind (fun i => hasByte (f i).c c && (f i).o) n)) :
    Calls Try.prog 65 #[.slice sa n cap, .int .i64 (c : Int)] w fun e w' => NewVec w ((n : Int) + 1) m (wordsN x) e w' := by
  have hn60 := h.2.1
  have HSZ : Hid (∀ i, i < n → (f i).c.size ≤ 256) := okSize (fun i _ hi => right_size hi) h
  have HX : Hid (IsBits x (behind (fun i => hasByte (f i).c c && (f i).o) n)) := hx
  have HR : Hid (CRow w w.heap.size sa n f) := hr
  have q0 := boxing w 36 0 none 0 0
  have C := rowOf_yes sa n cap f (w.alloc (.cells #[.int .i64 0, .slice none 0 0] 36)) hn ((hr.kept q0.1).up q0.1.size) hc h
  have hc0 : (0 : Int) ≤ (c : Int) := by omega
  have hc1 : (c : Int) ≤ 255 := by omega
  have hwc : IntKind.u8.wrap (c : Int) = (c : Int) := by rw [IntKind.wrap_u8]; omega
  have HM : Hid (m = (n + 1 + 31) / 32) := hm
  clear hn hr hc h hx hm
  go_enter Try.func65, Try.ntmps65
  go_wp2_with fail
  generalize w.alloc (.cells #[.int .i64 0, .slice none 0 0] 36) = v0 at *
  refine C.mono ?_
  rintro e w1 ⟨b, sk, lo, rfl, hbl, hb1, hsk, hlo, hrow⟩
  have X1 : Hid (Boxed w1 w.heap.size 36 0 none 0 0) := q0.2.1.kept hb1 rfl
  have S1 : Hid (Since w w1) := since_call (since_call (since_refl _) q0.1) hb1
  have R1 : Hid (CRow w1 b sa n f) := ((HR.out.kept q0.1).kept (hb1.mono q0.1.size)).up (by have := q0.1.size; omega)
  have K1 : Hid (Ready w1 b sa n cap sk lo f) := Or.inl hrow
  have hbw : w.heap.size < b := by have := q0.2.2; omega
  have hblt := hrow.lt
  have HLO : Hid (IsBits lo (behind (fun i => (f i).o) n)) := hlo
  have k2 := hrow.c2
  clear C hb1 hsk hlo hrow q0
  go_wp2_with (first | (go_at_call 62; refine (isByte_yes _ _ hc0 hc1).mono ?_; rintro e w9 ⟨rfl, hw9⟩; rw [hw9]; clear hw9 w9))
  have bd : Below w1.heap.size w1 w1.drew := ⟨rfl, rfl, rfl, Nat.le_refl _, fun _ _ => rfl⟩
  have HV : Hid (Calls Try.prog 86 #[.pointer (some ⟨b, 0, none⟩), .int .u8 (c : Int)] w1.drew fun e w' => ∃ y : Nat, e = .returned (.int .u64 (y : Int)) ∧ IsBits y (behind (fun i => hasByte (f i).c c) n) ∧ Ready w' b sa n cap sk lo f ∧ w1.grownBy w' (some b)) := (having_any b sa n cap sk lo c f w1.drew hn60 hc9 HSZ.out (R1.out.kept (bd.mono (Nat.le_of_lt hblt))) (K1.out.kept bd hblt)).mono (fun e w' h => by
    obtain ⟨y, h1, h2, h3, h4⟩ := h
    exact ⟨y, h1, h2, h3, World.grownBy.trans ⟨bd.os, bd.tape, bd.output, bd.size, fun k hk _ => bd.block k hk⟩ h4⟩)
  have hxlt := X1.out.lt
  have hnb1 : w.heap.size ≠ b := by omega
  have hnb2 : b ≠ w.heap.size := by omega
  have FIN : Hid (∀ (w2 w3 : World) (s3 : Option Addr) (c3 : Nat), w1.grownBy w2 (some b) → Below w2.heap.size w2 w3 → OwnS w3 w2.heap.size s3 m (wordsN x) → NewVec w ((n : Int) + 1) m (wordsN x) (.returned (vecV ((n : Int) + 1) s3 m c3)) ((w3.setCell ⟨w.heap.size, 0, none⟩ (.int .i64 ((n : Int) + 1))).setCell ⟨w.heap.size, 1, none⟩ (.slice s3 m c3))) := fun w2 w3 s3 c3 hg hb3 ho3 => by
    have S2 : Since w w2 := ⟨S1.out.below.trans ⟨hg.os, hg.tape, hg.output, hg.size, fun j hj => hg.block j (Nat.lt_of_lt_of_le hj S1.out.size) (fun e => by injection e with e; omega)⟩⟩
    have S3 : Since w w3 := since_call S2 hb3
    refine ⟨_, _, rfl, (since_set (since_set S3 (by show w.heap.size ≤ w.heap.size; omega)) (by show w.heap.size ≤ w.heap.size; omega)).below, ?_⟩
    rcases ho3 with h | ⟨g5, h1, h2, h3⟩
    · exact Or.inl h
    · have := hg.size
      exact Or.inr ⟨g5, h1, by omega, (h3.setOther _ _ (by show w.heap.size ≠ g5; omega)).setOther _ _ (by show w.heap.size ≠ g5; omega)⟩
  go_region_held3 (fun W => W.cell? ⟨b, 2, none⟩ = some (.int .u64 (lo : Int))) (go_keep) (first | (go_at_call 86; refine HV.out.mono ?_; rintro e w2 ⟨y, rfl, hy, hrd, hg⟩; have e3 := and64 hy.lt HLO.out.lt; rw [((hy.and HLO.out).congr (behind_and _ _ n)).uniq HX.out] at e3; obtain ⟨_, k3, klt⟩ := hrd.cells; have HG2 : Hid (w1.grownBy w2 (some b)) := hg; have X2 : Hid (Boxed w2 w.heap.size 36 0 none 0 0) := boxed_grown X1.out hg (by omega); clear hy hrd hg) | (go_at_call 83; refine (pvec_any x n m _ HX.out.lt hn60 HM.out).mono ?_; rintro e w3 ⟨s3, c3, rfl, hb3, ho3⟩; unfold vecV; obtain ⟨a0, a1, a2, a3⟩ := (X2.out.kept hb3 rfl).four; have k4 := (hb3.cell (p := ⟨b, 2, none⟩) klt).trans k3; have HB3 : Hid (Below w2.heap.size w2 w3) := hb3; have HO3 : Hid (OwnS w3 w2.heap.size s3 m (wordsN x)) := ho3; have l3 : w.heap.size < w3.heap.size := (by have := hb3.size; have := X2.out.lt; omega); clear hb3 ho3))
  all_goals
    go_wp2_with fail
    refine bodyPost_ret (v := vecV ((n : Int) + 1) s3 m c3) (by simp [results, Try.results65, go_sem, vecV, a0, a1]) rfl ?_
    exact FIN.out w2 w3 s3 c3 HG2.out HB3.out HO3.out

set_option maxRecDepth 100000 in
set_option maxHeartbeats 4000000 in
theorem implLoop_no (sa : Option Addr) (n cap : Nat) (en : Int) (f : Nat → Cel) (w : World) (hn : n ≤ maxLen) (hr : CRow w w.heap.size sa n f) (hc : ∀ i, i < n → (f i).c.size ≤ maxLen) (h : ¬ ByteP n f en) :
    Calls Try.prog 65 #[.slice sa n cap, .int .i64 en] w fun e w' => NewVec w 0 0 (fun _ => 0) e w' := by
  have q0 := boxing w 36 0 none 0 0
  by_cases hk : CellsOk n f
  · have C := rowOf_yes sa n cap f (w.alloc (.cells #[.int .i64 0, .slice none 0 0] 36)) hn ((hr.kept q0.1).up q0.1.size) hc hk
    have HEN : Hid (¬ (0 ≤ en ∧ en ≤ 255)) := fun h9 => h ⟨hk, h9.1, h9.2⟩
    clear hn hr hc h hk
    go_enter Try.func65, Try.ntmps65
    go_wp2_with fail
    generalize w.alloc (.cells #[.int .i64 0, .slice none 0 0] 36) = v0 at *
    refine C.mono ?_
    rintro e w1 ⟨b, sk, lo, rfl, hbl, hb1, hsk, hlo, hrow⟩
    obtain ⟨a0, a1, a2, a3⟩ := (q0.2.1.kept hb1 rfl).four
    have S1 : Hid (Since w w1) := since_call (since_call (since_refl _) q0.1) hb1
    clear C hb1 hsk hlo hrow q0
    go_wp2_with (first | (go_at_call 62; refine (isByte_no _ _ HEN.out).mono ?_; rintro e w9 ⟨rfl, hw9⟩; rw [hw9]; clear hw9 w9))
    refine bodyPost_ret (v := vecV 0 none 0 0) (by simp [results, Try.results65, go_sem, vecV, a0, a1]) rfl ?_
    exact ⟨_, _, rfl, (since_set (since_set S1.out (by show w.heap.size ≤ w.heap.size; omega)) (by show w.heap.size ≤ w.heap.size; omega)).below, Or.inl rfl⟩
  · have C := rowOf_no sa n cap f (w.alloc (.cells #[.int .i64 0, .slice none 0 0] 36)) hn ((hr.kept q0.1).up q0.1.size) hc hk
    clear hn hr hc h hk
    go_enter Try.func65, Try.ntmps65
    go_wp2_with fail
    generalize w.alloc (.cells #[.int .i64 0, .slice none 0 0] 36) = v0 at *
    refine C.mono ?_
    rintro e w1 ⟨rfl, hb1⟩
    obtain ⟨a0, a1, a2, a3⟩ := (q0.2.1.kept hb1 rfl).four
    have S1 : Hid (Since w w1) := since_call (since_call (since_refl _) q0.1) hb1
    clear C hb1 q0
    go_wp2_with fail
    refine bodyPost_ret (v := vecV 0 none 0 0) (by simp [results, Try.results65, go_sem, vecV, a0, a1]) rfl ?_
    exact ⟨_, _, rfl, (since_set (since_set S1.out (by show w.heap.size ≤ w.heap.size; omega)) (by show w.heap.size ≤ w.heap.size; omega)).below, Or.inl rfl⟩
end Go.Proofs.Ytbdjjggaahjjpaa
