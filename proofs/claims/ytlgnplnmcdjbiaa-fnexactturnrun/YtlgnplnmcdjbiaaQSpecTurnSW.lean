/- What is proved here: the specification's step by turned bits, in new memory; nothing that was there turns. -/
import Derived.Test.YtlgnplnmcdjbiaaQSpecTurnW
namespace Go.Proofs.Ytlgnplnmcdjbiaa
open Go.RowKit

theorem addT (n m : Nat) (s : Option Addr) (c : Nat) (P : Nat → Bool) (W : World) (hn0 : 1 ≤ n) (hn : n ≤ 60) (hm : m = (n + 31) / 32) (h : BitsAt W s m P) :
    Calls Try.prog 185 #[.agg #[.int .i64 (n : Int), .slice s m c], .agg #[.int .i64 (n : Int), .slice s m c], .int .i64 0] W fun e W' => NewBits W (n : Int) m (fun j => decide (1 ≤ j ∧ j < n) && P (j - 1)) e W' := by
  obtain ⟨k, hk⟩ : ∃ k, n = k + 1 := ⟨n - 1, by omega⟩
  have h9 := addB k m s c P W (by omega) (by omega) h
  rw [← int_succ hk] at h9
  refine h9.mono (fun _ _ ⟨h, h1, h2⟩ => ⟨h, h1, h2.congr (fun j => ?_)⟩)
  congr 1
  rw [decide_eq_decide]
  omega
theorem orT (n m : Nat) (s s' : Option Addr) (c c' : Nat) (P Q : Nat → Bool) (W : World) (hn0 : 1 ≤ n) (hm : 1 ≤ m ∧ m ≤ 1048576) (h : BitsAt W s m P) (h' : BitsAt W s' m Q) :
    Calls Try.prog 116 #[.agg #[.int .i64 (n : Int), .slice s m c], .agg #[.int .i64 (n : Int), .slice s' m c']] W fun e W' => NewBits W (n : Int) m (fun j => P j || Q j) e W' := by
  obtain ⟨k, hk⟩ : ∃ k, n = k + 1 := ⟨n - 1, by omega⟩
  have h9 := orB k m s s' c c' P Q W hm h h'
  rw [← int_succ hk] at h9
  exact h9
theorem getT (n m k : Nat) (s : Option Addr) (c : Nat) (P : Nat → Bool) (W : World) (hm : m = (n + 31) / 32) (hn : n ≤ 60) (hk : k < n) (h : BitsAt W s m P) :
    Calls Try.prog 174 #[.agg #[.int .i64 (n : Int), .slice s m c], .int .i64 (k : Int)] W fun e W' => e = .returned (.bool (P k)) ∧ Below W.heap.size W W' := by
  obtain ⟨j, hj⟩ : ∃ j, n = j + 1 := ⟨n - 1, by omega⟩
  have h9 := getBit j m k s c P W (by omega) (by omega) (by omega) h
  rw [← int_succ hj] at h9
  exact h9
set_option maxRecDepth 100000 in
set_option maxHeartbeats 8000000 in
theorem l08Step_any (sa : Option Addr) (n cap c m : Nat) (f : Nat → Cel) (sv : Option Addr) (cv : Nat) (T : Nat → Bool) (w : World) (hn0 : 1 ≤ n) (hn : n ≤ 60) (hr : CRow w w.heap.size sa n f) (hsz : ∀ i, i < n → (f i).c.size ≤ 256) (hc9 : c < 256) (hm : m = (n + 31) / 32) (hv : BitsAt w sv m T) :
    Calls Try.prog 146 #[.slice sa n cap, .agg #[.int .i64 (n : Int), .slice sv m cv], .int .i64 (c : Int)] w fun e w' => StepBits w (n : Int) m (turnB f n T c) (!turnB f n T c (n - 1)) e w' := by
  have q1 := boxing w 45 (n : Int) sv m cv
  have q2 := sboxing (w.alloc (.cells #[.int .i64 (n : Int), .slice sv m cv] 45)) 0 none 0 0 false
  obtain ⟨V, hV⟩ : ∃ V, (w.alloc (.cells #[.int .i64 (n : Int), .slice sv m cv] 45)).alloc (.cells #[.int .i64 0, .slice none 0 0, .bool false] 88) = V := ⟨_, rfl⟩
  rw [hV] at q2
  have S0 : Hid (Since w V) := since_call (since_call (since_refl _) q1.1) q2.1
  have YV : Hid (Boxed V w.heap.size 45 (n : Int) sv m cv) := q1.2.1.kept q2.1 rfl
  have ZV : Hid (SBox V (w.heap.size + 1) 0 none 0 0 false) := by rw [← q1.2.2]; exact q2.2.1
  have zv : Hid (V.heap.size = w.heap.size + 1 + 1) := by rw [← q1.2.2]; exact q2.2.2
  have hr2 : CRow V V.heap.size sa n f := (hr.kept S0.out.below).up S0.out.size
  have hv2 := hv.since S0.out
  have hm1 : 1 ≤ m ∧ m ≤ 1048576 := by omega
  have HADD : Hid (∀ W, Since V W → Calls Try.prog 185 #[.agg #[.int .i64 (n : Int), .slice sv m cv], .agg #[.int .i64 (n : Int), .slice sv m cv], .int .i64 0] W fun e W' => NewBits W (n : Int) m (fun j => decide (1 ≤ j ∧ j < n) && T (j - 1)) e W') := fun W hW => addT n m sv cv T W hn0 hn hm (hv2.since hW)
  have HBY : Hid (∀ (W : World), Since V W → Calls Try.prog 143 #[.slice sa n cap, .int .i64 (c : Int)] W fun e W' => NewBits W (n : Int) m (lackB f n c) e W') := fun W hW => l08Byte_any sa n cap c m f W hn0 hn ((hr2.kept hW.below).up hW.size) hsz hc9 hm
  have HOR : Hid (∀ (W : World) (s s' : Option Addr) (c c' : Nat) (P Q : Nat → Bool), BitsAt W s m P → BitsAt W s' m Q → Calls Try.prog 116 #[.agg #[.int .i64 (n : Int), .slice s m c], .agg #[.int .i64 (n : Int), .slice s' m c']] W fun e W' => NewBits W (n : Int) m (fun j => P j || Q j) e W') := fun W s s' c c' P Q h h' => orT n m s s' c c' P Q W hn0 hm1 h h'
  obtain ⟨l, hl⟩ : ∃ l, n - 1 = l := ⟨_, rfl⟩
  rw [hl]
  have HGET : Hid (∀ (W : World) (s : Option Addr) (c' : Nat), BitsAt W s m (turnB f n T c) → Calls Try.prog 174 #[.agg #[.int .i64 (n : Int), .slice s m c'], .int .i64 (l : Int)] W fun e W' => e = .returned (.bool (turnB f n T c l)) ∧ Below W.heap.size W W') := fun W s c' h => getT n m l s c' _ W hm hn (by omega) h
  have hli : (n : Int) - 1 = (l : Int) := by omega
  have hlw : IntKind.i64.wrap ((n : Int) - 1) = (l : Int) := by rw [IntKind.wrap_i64]; omega
  have hlw2 : IntKind.i64.wrap (l : Int) = (l : Int) := by rw [IntKind.wrap_i64]; omega
  clear q1 q2 hr hv hr2 hv2 hsz hm hl
  obtain ⟨y0, y1⟩ := YV.out.cells
  have yl := YV.out.lt
  go_enter Try.func146, Try.ntmps146
  go_wp2_with fail
  clear hV
  refine (HADD.out V (since_refl _)).mono ?_
  rintro e u1 ⟨h1, ⟨s1, c1, rfl, hb, ho⟩, hv⟩
  unfold vecV
  have S1 : Hid (Since V u1) := ⟨hb⟩
  have B1 : Hid (∀ X, Since u1 X → BitsAt X s1 m (fun j => decide (1 ≤ j ∧ j < n) && T (j - 1))) := fun X hX => ⟨h1, ownS_since ho hX, hv⟩
  clear hb ho hv y0 y1 yl
  go_wp2_with fail
  refine (HBY.out u1 S1.out).mono ?_
  rintro e u2 ⟨h2, ⟨s2, c2, rfl, hb, ho⟩, hv⟩
  unfold vecV
  have S2 : Hid (Since V u2) := since_call S1.out hb
  have T12 : Hid (Since u1 u2) := ⟨hb⟩
  have B2 : Hid (∀ X, Since u2 X → BitsAt X s2 m (lackB f n c)) := fun X hX => ⟨h2, ownS_since ho hX, hv⟩
  clear hb ho hv
  go_wp2_with fail
  refine (HOR.out u2 s1 s2 c1 c2 _ _ (B1.out u2 T12.out) (B2.out u2 (since_refl _))).mono ?_
  rintro e u3 ⟨h3, ⟨s3, c3, rfl, hb, ho⟩, hv⟩
  unfold vecV
  have S3 : Hid (Since V u3) := since_call S2.out hb
  have O3 : Hid (OwnS u3 u2.heap.size s3 m h3 ∧ VecIs h3 (turnB f n T c) m) := ⟨ho, hv⟩
  have q3 := boxing u3 45 (n : Int) s3 m c3
  clear hb ho hv
  go_wp2_with fail
  generalize hV4 : u3.alloc (.cells #[.int .i64 (n : Int), .slice s3 m c3] 45) = V4 at *
  have S4 : Hid (Since V V4) := since_call S3.out q3.1
  have X4 : Hid (Boxed V4 u3.heap.size 45 (n : Int) s3 m c3) := q3.2.1
  have O4 : Hid (OwnS V4 u2.heap.size s3 m h3) := O3.out.1.kept q3.1 rfl
  have B4 : Hid (∀ X, Since V4 X → BitsAt X s3 m (turnB f n T c)) := fun X hX => ⟨h3, ownS_since O4.out hX, O3.out.2⟩
  have Z4 : Hid (SBox V4 (w.heap.size + 1) 0 none 0 0 false) := ZV.out.kept S4.out.below rfl
  have hzp : Hid (V.heap.size ≤ u2.heap.size) := S2.out.size
  have hnp1 : w.heap.size + 1 ≠ u3.heap.size := by have := S3.out.size; have := zv.out; omega
  have hnp2 : u3.heap.size ≠ w.heap.size + 1 := fun h => hnp1 h.symm
  clear q3 hV4
  generalize u3.heap.size = p at *
  obtain ⟨x0, x1⟩ := X4.out.cells
  have xl := X4.out.lt
  go_region_held3 (fun W => W.cell? ⟨p, 0, none⟩ = some (.int .i64 (n : Int)) ∧ W.cell? ⟨p, 1, none⟩ = some (.slice s3 m c3)) (go_keep) (first
    | (go_at_call 174; (refine (HGET.out _ _ _ (B4.out _ (by first | exact since_drew (since_refl _) | exact since_refl _))).mono ?_); rintro e u5 ⟨rfl, hb⟩; have S5 : Hid (Since V4 u5) := (by refine since_call ?_ hb; first | exact since_drew (since_refl _) | exact since_refl _); obtain ⟨x0, x1⟩ := (X4.out.since S5.out).cells; have xl := (X4.out.since S5.out).lt; obtain ⟨a0, a1, a2, a3, a4, a5⟩ := (Z4.out.since S5.out).six; have zl := (Z4.out.since S5.out).lt; clear hb))
  all_goals
    go_wp2_with fail
    refine bodyPost_ret (v := stepV (n : Int) s3 m c3 (!turnB f n T c l)) (by simp [results, Try.results146, go_sem, stepV, a0, a1, a2]) rfl ?_
    have hS9 := since_call (since_call S0.out S4.out.below) S5.out.below
    refine ⟨h3, ⟨_, _, rfl, (since_set (since_set (since_set hS9 (by show w.heap.size ≤ w.heap.size + 1; omega)) (by show w.heap.size ≤ w.heap.size + 1; omega)) (by show w.heap.size ≤ w.heap.size + 1; omega)).below, ?_⟩, O3.out.2⟩
    have hz9 := zv.out
    have hz8 := hzp.out
    rcases O4.out.kept S5.out.below rfl with h | ⟨g5, h1, h2, h3⟩
    · exact Or.inl h
    · exact Or.inr ⟨g5, h1, by omega, ((h3.setOther _ _ (by show w.heap.size + 1 ≠ g5; omega)).setOther _ _ (by show w.heap.size + 1 ≠ g5; omega)).setOther _ _ (by show w.heap.size + 1 ≠ g5; omega)⟩
end Go.Proofs.Ytlgnplnmcdjbiaa
