/- What is proved here: the specification's CloseOver hands back the places of a right vector, closed, in new memory, or nothing; nothing that was there turns.
   What is proved here: the specification's StepOn hands back a step's answer in new memory, or nothing; nothing that was there turns.
   What is proved here: slices of int64 that are appended to. -/
import Derived.Test.YtlgnplnmcdjbiaaGreatQVecCopyWToSpecCloW
import Derived.Test.YtlgnplnmcdjbiaaGreatQImplMaskWToSkipExM
import Derived.Test.YtlgnplnmcdjbiaaGreatQSpecKVecWToWordsForW
import Derived.Deep.RegionHeld3
import Derived.Deep.RegionWith
import Derived.Test.YtlgnplnmcdjbiaaGreatQSpecStepW
import Derived.Test.YtlgnplnmcdjbiaaGreatQImplSOnW
import Derived.Test.YtlgnplnmcdjbiaaGreatQRowsDToVecS
import Derived.Laws.AppendOwn
namespace Go.Proofs.YtlgnplnmcdjbiaaGreat
open Go.RowKit

open Classical in
set_option maxRecDepth 100000 in
set_option maxHeartbeats 4000000 in
theorem l07Vec_any (sa : Option Addr) (n cap : Nat) (f : Nat → Cel) (b : Int) (sv : Option Addr) (m cv : Nat) (g : Nat → Int) (w : World) (hn : n ≤ maxLen) (hr : CRow w w.heap.size sa n f) (hc : ∀ i, i < n → (f i).c.size ≤ maxLen) (hm : m ≤ 1048576) (hv : Row w w.heap.size sv m g) :
    Calls Tryz.prog 40 #[.slice sa n cap, .agg #[.int .i64 b, .slice sv m cv]] w fun e w' => e = .returned (.bool (decide (CellsOk n f ∧ OfRow b m g n))) ∧ Below w.heap.size w w' := by
  have q1 := boxing w 26 b sv m cv
  have HK : Hid (∀ W, Since w W → Calls Tryz.prog 43 #[.slice sa n cap] W fun e w' => e = .returned (.bool (decide (CellsOk n f))) ∧ Below W.heap.size W w') := fun W hW => specKRight_any sa n cap f W hn (hr.late hW.below) hc
  have HV : Hid (∀ W, Since w W → Calls Tryz.prog 55 #[.agg #[.int .i64 b, .slice sv m cv]] W fun e w' => e = .returned (.bool (decide (Right b m g))) ∧ Below W.heap.size W w') := fun W hW => specRight_any b sv m cv g W hm (row_since hv hW)
  clear hr hv hc hn
  by_cases h1 : CellsOk n f
  · have hn60 := h1.2.1
    by_cases h2 : Right b m g
    · have h3 : Hid ((b == (n : Int) + 1) = decide (CellsOk n f ∧ OfRow b m g n)) := by
        show (b == (n : Int) + 1) = _
        by_cases h4 : b = (n : Int) + 1
        · rw [decide_eq_true (show CellsOk n f ∧ OfRow b m g n from ⟨h1, h2, h4⟩)]; simpa using h4
        · rw [decide_eq_false (show ¬ (CellsOk n f ∧ OfRow b m g n) from fun h => h4 h.2.2)]; simpa using h4
      rw [decide_eq_true h1] at HK
      rw [decide_eq_true h2] at HV
      generalize decide (CellsOk n f ∧ OfRow b m g n) = r at *
      clear h1 h2
      go_enter Tryz.func40, Tryz.ntmps40
      go_wp2_with fail
      generalize w.alloc (.cells #[.int .i64 b, .slice sv m cv] 26) = v1 at *
      obtain ⟨y0, y1⟩ := q1.2.1.cells
      have ylt := q1.2.1.lt
      have S1 : Hid (Since w v1) := ⟨q1.1⟩
      have Y1 : Hid (Boxed v1 w.heap.size 26 b sv m cv) := q1.2.1
      clear q1
      first | (go_region_with (first | (go_at_call 43; refine (HK.out _ (since_drew S1.out)).mono ?_; rintro e w2 ⟨rfl, hb2⟩; have S2 : Hid (Since w w2) := since_call (since_drew S1.out) hb2; have Y2 : Hid (Boxed w2 w.heap.size 26 b sv m cv) := Y1.out.drew.kept hb2 rfl; obtain ⟨k0, k1⟩ := Y2.out.cells; have kl := Y2.out.lt; clear hb2) | (go_at_call 55; refine (HV.out _ S2.out).mono ?_; rintro e w3 ⟨rfl, hb3⟩; have S3 : Hid (Since w w3) := since_call S2.out hb3; obtain ⟨j0, j1⟩ := (Y2.out.kept hb3 rfl).cells; have jl := (Y2.out.kept hb3 rfl).lt; clear hb3) | (go_at_call 70; refine (bits_spec _ _ _ _ hn60).mono ?_; rintro e w9 ⟨rfl, hw9⟩; rw [hw9]; clear hw9 w9))) | fail
      all_goals
        go_wp2_with fail
        go_ret
        exact ⟨by rw [h3.out]; rfl, S3.out.below⟩
    · rw [decide_eq_false (show ¬ (CellsOk n f ∧ OfRow b m g n) from fun h => h2 h.2.1)]
      rw [decide_eq_true h1] at HK
      rw [decide_eq_false h2] at HV
      clear h1 h2
      go_enter Tryz.func40, Tryz.ntmps40
      go_wp2_with fail
      generalize w.alloc (.cells #[.int .i64 b, .slice sv m cv] 26) = v1 at *
      obtain ⟨y0, y1⟩ := q1.2.1.cells
      have ylt := q1.2.1.lt
      have S1 : Hid (Since w v1) := ⟨q1.1⟩
      have Y1 : Hid (Boxed v1 w.heap.size 26 b sv m cv) := q1.2.1
      clear q1
      first | (go_region_with (first | (go_at_call 43; refine (HK.out _ (since_drew S1.out)).mono ?_; rintro e w2 ⟨rfl, hb2⟩; have S2 : Hid (Since w w2) := since_call (since_drew S1.out) hb2; have Y2 : Hid (Boxed w2 w.heap.size 26 b sv m cv) := Y1.out.drew.kept hb2 rfl; obtain ⟨k0, k1⟩ := Y2.out.cells; have kl := Y2.out.lt; clear hb2) | (go_at_call 55; refine (HV.out _ S2.out).mono ?_; rintro e w3 ⟨rfl, hb3⟩; have S3 : Hid (Since w w3) := since_call S2.out hb3; obtain ⟨j0, j1⟩ := (Y2.out.kept hb3 rfl).cells; have jl := (Y2.out.kept hb3 rfl).lt; clear hb3) | (go_at_call 70; refine (bits_spec _ _ _ _ hn60).mono ?_; rintro e w9 ⟨rfl, hw9⟩; rw [hw9]; clear hw9 w9))) | fail
      all_goals
        go_wp2_with fail
        go_ret
        exact ⟨rfl, S3.out.below⟩
  · rw [decide_eq_false (show ¬ (CellsOk n f ∧ OfRow b m g n) from fun h => h1 h.1)]
    rw [decide_eq_false h1] at HK
    clear h1 HV
    go_enter Tryz.func40, Tryz.ntmps40
    go_wp2_with fail
    generalize w.alloc (.cells #[.int .i64 b, .slice sv m cv] 26) = v1 at *
    obtain ⟨y0, y1⟩ := q1.2.1.cells
    have ylt := q1.2.1.lt
    have S1 : Hid (Since w v1) := ⟨q1.1⟩
    have Y1 : Hid (Boxed v1 w.heap.size 26 b sv m cv) := q1.2.1
    clear q1
    first | (go_region_with (first | (go_at_call 43; refine (HK.out _ (since_drew S1.out)).mono ?_; rintro e w2 ⟨rfl, hb2⟩; have S2 : Hid (Since w w2) := since_call (since_drew S1.out) hb2; have Y2 : Hid (Boxed w2 w.heap.size 26 b sv m cv) := Y1.out.drew.kept hb2 rfl; obtain ⟨k0, k1⟩ := Y2.out.cells; have kl := Y2.out.lt; clear hb2))) | fail
    all_goals
      go_wp2_with fail
      go_ret
      exact ⟨rfl, S2.out.below⟩
end Go.Proofs.YtlgnplnmcdjbiaaGreat
namespace Go.Proofs.YtlgnplnmcdjbiaaGreat
open Go.RowKit

theorem stepBits_words {w w' : World} {b : Int} {m x : Nat} {P : Nat → Bool} {t : Bool} {e : Ending} (h : StepBits w b m P t e w') (hx : IsBits x P) : NewStep w b m (wordsN x) t e w' := by
  obtain ⟨h, ⟨s, c, e1, hb, ho⟩, hv⟩ := h
  exact ⟨s, c, e1, hb, ho.congr (fun i hi => hv.uniq (vecIs_words hx m) i hi)⟩
open Classical in
set_option maxRecDepth 100000 in
set_option maxHeartbeats 4000000 in
theorem specSOn_no (sa : Option Addr) (n cap : Nat) (f : Nat → Cel) (b : Int) (sv : Option Addr) (m cv : Nat) (g : Nat → Int) (en : Int) (w : World) (hn : n ≤ maxLen) (hr : CRow w w.heap.size sa n f) (hc : ∀ i, i < n → (f i).c.size ≤ maxLen) (hm : m ≤ 1048576) (hv : Row w w.heap.size sv m g) (h : ¬ StepP n f b m g en) :
    Calls Tryz.prog 10 #[.slice sa n cap, .agg #[.int .i64 b, .slice sv m cv], .int .i64 en] w fun e w' => NewStep w 0 0 (fun _ => 0) false e w' := by
  have q1 := boxing w 26 b sv m cv
  have q2 := sboxing (w.alloc (.cells #[.int .i64 b, .slice sv m cv] 26)) 0 none 0 0 false
  have S2 : Hid (Since w ((w.alloc (.cells #[.int .i64 b, .slice sv m cv] 26)).alloc (.cells #[.int .i64 0, .slice none 0 0, .bool false] 30))) := since_call (since_call (since_refl _) q1.1) q2.1
  have C := l07Vec_any sa n cap f b sv m cv g _ hn ((hr.kept S2.out.below).up S2.out.size) hc hm (row_since hv S2.out)
  have Y2 := q1.2.1.kept q2.1 rfl
  have X2 := q2.2.1
  rw [q1.2.2] at X2
  clear q1 q2
  by_cases hk : CellsOk n f ∧ OfRow b m g n
  · have HEN : Hid (¬ (0 ≤ en ∧ en ≤ 255)) := fun h9 => h ⟨hk.1, hk.2, h9.1, h9.2⟩
    rw [decide_eq_true hk] at C
    clear hn hr hc hm hv h hk
    go_enter Tryz.func10, Tryz.ntmps10
    go_wp2_with fail
    generalize (w.alloc (.cells #[.int .i64 b, .slice sv m cv] 26)).alloc (.cells #[.int .i64 0, .slice none 0 0, .bool false] 30) = v2 at *
    refine C.mono ?_
    rintro e w3 ⟨rfl, hb3⟩
    obtain ⟨a0, a1, a2, a3, a4, a5⟩ := (X2.kept hb3 rfl).six
    have xlt := (X2.kept hb3 rfl).lt
    have S3 : Hid (Since w w3) := since_call S2.out hb3
    clear C hb3 X2 Y2 S2
    go_wp2_with (first | (go_at_call 41; refine (is_no _ _ _ _ HEN.out).mono ?_; rintro e w9 ⟨rfl, hw9⟩; rw [hw9]; clear hw9 w9))
    refine bodyPost_ret (v := stepV 0 none 0 0 false) (by simp [results, Tryz.results10, go_sem, stepV, a0, a1, a2]) rfl ?_
    exact newStep_zero S3.out (by omega)
  · rw [decide_eq_false hk] at C
    clear hn hr hc hm hv h hk
    go_enter Tryz.func10, Tryz.ntmps10
    go_wp2_with fail
    generalize (w.alloc (.cells #[.int .i64 b, .slice sv m cv] 26)).alloc (.cells #[.int .i64 0, .slice none 0 0, .bool false] 30) = v2 at *
    refine C.mono ?_
    rintro e w3 ⟨rfl, hb3⟩
    obtain ⟨a0, a1, a2, a3, a4, a5⟩ := (X2.kept hb3 rfl).six
    have xlt := (X2.kept hb3 rfl).lt
    have S3 : Hid (Since w w3) := since_call S2.out hb3
    clear C hb3 X2 Y2 S2
    go_wp2_with fail
    refine bodyPost_ret (v := stepV 0 none 0 0 false) (by simp [results, Tryz.results10, go_sem, stepV, a0, a1, a2]) rfl ?_
    exact newStep_zero S3.out (by omega)
open Classical in
set_option maxRecDepth 100000 in
set_option maxHeartbeats 4000000 in
theorem specSOn_yes (sa : Option Addr) (n cap c : Nat) (f : Nat → Cel) (sv : Option Addr) (m cv x : Nat) (g : Nat → Int) (w : World) (hn : n ≤ maxLen) (hr : CRow w w.heap.size sa n f) (hc : ∀ i, i < n → (f i).c.size ≤ maxLen) (hv : Row w w.heap.size sv m g) (hk : CellsOk n f) (hm : m = (n + 1 + 31) / 32) (hR : Right ((n : Int) + 1) m g) (hc9 : c < 256) (hx : IsBits x (fun j => stepB f n (bitsOf g n) c j || startB f n j)) :
    Calls Tryz.prog 10 #[.slice sa n cap, .agg #[.int .i64 ((n : Int) + 1), .slice sv m cv], .int .i64 (c : Int)] w fun e w' => NewStep w ((n : Int) + 1) m (wordsN x) (stepB f n (bitsOf g n) c n) e w' := by
  have q1 := boxing w 26 ((n : Int) + 1) sv m cv
  have q2 := sboxing (w.alloc (.cells #[.int .i64 ((n : Int) + 1), .slice sv m cv] 26)) 0 none 0 0 false
  have S2 : Hid (Since w ((w.alloc (.cells #[.int .i64 ((n : Int) + 1), .slice sv m cv] 26)).alloc (.cells #[.int .i64 0, .slice none 0 0, .bool false] 30))) := since_call (since_call (since_refl _) q1.1) q2.1
  have hn60 := hk.2.1
  have C := l07Vec_any sa n cap f ((n : Int) + 1) sv m cv g _ hn ((hr.kept S2.out.below).up S2.out.size) hc (by omega) (row_since hv S2.out)
  rw [decide_eq_true (show CellsOk n f ∧ OfRow ((n : Int) + 1) m g n from ⟨hk, hR, rfl⟩)] at C
  have hsz : ∀ i, i < n → (f i).c.size ≤ 256 := okSize (fun i _ hi => right_size hi) hk
  have HST : Hid (∀ W, Since w W → Calls Tryz.prog 42 #[.slice sa n cap, .agg #[.int .i64 ((n : Int) + 1), .slice sv m cv], .int .i64 (c : Int)] W fun e w' => NewStep W ((n : Int) + 1) m (wordsN x) (stepB f n (bitsOf g n) c n) e w') := fun W hW =>
    (l07Step_any sa n cap c m f sv cv (bitsOf g n) W hk.1 hn60 ((hr.kept hW.below).up hW.size) hsz hc9 hm ⟨g, row_since hv hW, vecIs_right hm hR⟩).mono (fun _ _ h => stepBits_words h hx)
  have Y2 := q1.2.1.kept q2.1 rfl
  have X2 := q2.2.1
  rw [q1.2.2] at X2
  have hc0 : (0 : Int) ≤ (c : Int) := by omega
  have hc1 : (c : Int) ≤ 255 := by omega
  clear hn hr hc hm hv hk hR hx hsz q1 q2
  go_enter Tryz.func10, Tryz.ntmps10
  go_wp2_with fail
  generalize (w.alloc (.cells #[.int .i64 ((n : Int) + 1), .slice sv m cv] 26)).alloc (.cells #[.int .i64 0, .slice none 0 0, .bool false] 30) = v2 at *
  refine C.mono ?_
  rintro e w3 ⟨rfl, hb3⟩
  have X3 : Hid (SBox w3 (w.heap.size + 1) 0 none 0 0 false) := X2.kept hb3 rfl
  obtain ⟨y0, y1⟩ := (Y2.kept hb3 rfl).cells
  have ylt := (Y2.kept hb3 rfl).lt
  have S3 : Hid (Since w w3) := since_call S2.out hb3
  clear C hb3 X2 Y2 S2
  go_wp2_with (first | (go_at_call 41; refine (is_yes _ _ _ _ hc0 hc1).mono ?_; rintro e w9 ⟨rfl, hw9⟩; rw [hw9]; clear hw9 w9))
  refine (HST.out w3 S3.out).mono ?_
  rintro e w8 ⟨s3, c3, rfl, hb8, ho8⟩
  unfold stepV
  obtain ⟨a0, a1, a2, a3, a4, a5⟩ := (X3.out.kept hb8 rfl).six
  have xlt := (X3.out.kept hb8 rfl).lt
  have xlt7 := X3.out.lt
  have S8 : Hid (Since w w8) := since_call S3.out hb8
  have O8 : Hid (OwnS w8 w3.heap.size s3 m (wordsN x)) := ho8
  clear hb8 ho8
  go_wp2_with fail
  refine bodyPost_ret (v := stepV ((n : Int) + 1) s3 m c3 (stepB f n (bitsOf g n) c n)) (by simp [results, Tryz.results10, go_sem, stepV, a0, a1, a2]) rfl ?_
  refine ⟨_, _, rfl, (since_set (since_set (since_set S8.out (by show w.heap.size ≤ w.heap.size + 1; omega)) (by show w.heap.size ≤ w.heap.size + 1; omega)) (by show w.heap.size ≤ w.heap.size + 1; omega)).below, ?_⟩
  rcases O8.out with h | ⟨g5, h1, h2, h3⟩
  · exact Or.inl h
  · exact Or.inr ⟨g5, h1, by omega, ((h3.setOther _ _ (by show w.heap.size + 1 ≠ g5; omega)).setOther _ _ (by show w.heap.size + 1 ≠ g5; omega)).setOther _ _ (by show w.heap.size + 1 ≠ g5; omega)⟩
end Go.Proofs.YtlgnplnmcdjbiaaGreat
namespace Go.Proofs.YtlgnplnmcdjbiaaGreat
open Go.RowKit

/-- A slice of int64 in new memory. -/
def NewInts (w : World) (n : Nat) (f : Nat → Int) (e : Ending) (w' : World) : Prop := ∃ (sa : Option Addr) (cap : Nat), e = .returned (.slice sa n cap) ∧ Below w.heap.size w w' ∧ OwnS w' w.heap.size sa n f
/-- The cells of a list of numbers. -/
def icells (l : List Int) : List Value := l.map (fun x => .int .i64 x)
theorem icells_append (l : List Int) (x : Int) : icells (l ++ [x]) = icells l ++ [.int .i64 x] := by simp [icells]
theorem new_of_ints {w W : World} {l : List Int} {v : Value} (h : W.ownsRow w.heap.size 2 1 v l.length (icells l)) (hb : Below w.heap.size w W) : NewInts w l.length (fun i => l.getD i 0) (.returned v) W := by
  obtain ⟨_, ⟨rfl, hx⟩ | ⟨g, cap, cur, rfl, hg, hh, hnc, hm, hs, ht⟩⟩ := h
  · have : l = [] := by simpa [icells] using hx
    subst this
    exact ⟨none, 0, rfl, hb, Or.inl rfl⟩
  · refine ⟨_, _, rfl, hb, Or.inr ⟨g, rfl, hg, lt_of_block hh, fun i hi => ?_, fun i hi => frozen_of_row _ _ _ _ _ hh⟩⟩
    have hc : W.cell? ⟨g, i, none⟩ = (icells l)[i]? := by
      rw [← ht, List.getElem?_take_of_lt (by omega)]
      simp [World.cell?, hh]
    rw [hc]
    simp [icells, hi]
theorem ints_below {w w' : World} {base n size B : Nat} {e : TypeId} {v : Value} {xs : List Value} (h : w.ownsRow base e size v n xs) (hb : Below B w w') (hB : B = w.heap.size) : w'.ownsRow base e size v n xs := by
  obtain ⟨hl, h⟩ := h
  refine ⟨hl, ?_⟩
  rcases h with h | ⟨g, cap, cur, h1, h2, h3, h4⟩
  · exact Or.inl h
  · refine Or.inr ⟨g, cap, cur, h1, h2, ?_, h4⟩
    rw [hb.block g (by rw [hB]; exact lt_of_block h3)]
    exact h3
theorem ints_start (w : World) (base : Nat) (hb : base ≤ w.heap.size) (C : Array Value) (hC : C.size = 0) : (w.alloc (.cells C 2)).ownsRow base 2 1 (.slice (some ⟨w.heap.size, 0, none⟩) 0 0) 0 [] :=
  ⟨rfl, Or.inr ⟨w.heap.size, 0, C, rfl, hb, heap_alloc_new w _, Nat.le_refl _, Nat.zero_le _, by omega, by simp⟩⟩
theorem ints_low {w : World} {base base' n size : Nat} {e : TypeId} {v : Value} {xs : List Value} (h : w.ownsRow base e size v n xs) (hb : base' ≤ base) : w.ownsRow base' e size v n xs := by
  obtain ⟨hl, h⟩ := h
  refine ⟨hl, ?_⟩
  rcases h with h | ⟨g, cap, cur, h1, h2, h3, h4⟩
  · exact Or.inl h
  · exact Or.inr ⟨g, cap, cur, h1, Nat.le_trans hb h2, h3, h4⟩
theorem cell1_new (W : World) (x : Int) (ty : TypeId) : ∀ j u, [Value.int .i64 x][j]? = some u → (W.alloc (.cells #[.int .i64 x] ty)).cell? ((⟨W.heap.size, 0, none⟩ : Addr).add j) = some u := by
  intro j u hu
  match j, hu with
  | 0, hu => simp at hu; subst hu; simp [Addr.add]
  | j + 1, hu => simp at hu
theorem grown_lo {base lo : Nat} {W W' : World} {row : Option Nat} (hg : W.grownBy W' row) (hr : ∀ j, row = some j → base ≤ j) (hl : lo ≤ base) (hs : lo ≤ W.heap.size) : Below lo W W' :=
  ⟨hg.os, hg.tape, hg.output, hg.size, fun j hj => hg.block j (by omega) (fun e => by have := hr j e.symm; omega)⟩
end Go.Proofs.YtlgnplnmcdjbiaaGreat
