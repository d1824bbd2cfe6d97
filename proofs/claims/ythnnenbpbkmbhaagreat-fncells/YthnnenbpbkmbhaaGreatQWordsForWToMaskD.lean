/- What is proved here: how many words so many bits want, as the program says it; the world stays.
   What is proved here: a new slice of so many zeros, in a world and a block of which nothing more is said.
   What is proved here: VecNew, the program's and the specification's, hands back so many bits, none of them on, in new memory, or nothing; nothing that was there turns.
   What is proved here: the program writes places as a vector, in new memory; nothing that was there turns.
   What is said here: five vectors in one struct: its value, its box, its words in a stretch of blocks. -/
import Derived.Test.YthnnenbpbkmbhaaGreatQWordMToVecIsM
import Derived.RegionTactic
import Derived.BigRegion
import Derived.Test.YthnnenbpbkmbhaaGreatQCellDToCopy3W
namespace Go.Proofs.YthnnenbpbkmbhaaGreat
open Go.RowKit

theorem wordsFor_any (b : Int) (w : World) (h0 : 0 ≤ b) (h1 : b ≤ 320) :
    Calls Tryz.prog 117 #[.int .i64 b] w fun e w' => e = .returned (.int .i64 ((b + 31) / 32)) ∧ w' = w := by
  have h2 : b + 32 - 1 = b + 31 := by omega
  go_enter Tryz.func117, Tryz.ntmps117
  go_wp2
  go_ret
  exact ⟨by first | rfl | (rw [h2]), rfl⟩
end Go.Proofs.YthnnenbpbkmbhaaGreat
namespace Go.Proofs.YthnnenbpbkmbhaaGreat
open Go.RowKit

theorem make_new (w : World) (N : Nat) (hN : N ≤ 10000000) : ∃ (w' : World) (g : Nat), (Instr.makeSlice 33 (.int .i64 (N : Int)) (.int .i64 (N : Int))).run Tryz.prog w = .ok (.slice (some ⟨g, 0, none⟩) N N) w' ∧ w.heap.size ≤ g ∧ g < w'.heap.size ∧ Below w.heap.size w w' ∧ Own w' g N (fun _ => 0) := by
  obtain ⟨C, hmk, hown⟩ := make_row w N hN
  exact ⟨_, _, hmk, Nat.le_refl _, by simp, (Below.refl _ _).alloc (Nat.le_refl _) _, hown⟩
end Go.Proofs.YthnnenbpbkmbhaaGreat
namespace Go.Proofs.YthnnenbpbkmbhaaGreat
open Go.RowKit

set_option maxHeartbeats 1000000 in
theorem implNew_yes (b : Int) (m : Nat) (w : World) (h0 : 1 ≤ b) (h1 : b ≤ 320) (hm : (m : Int) = (b + 31) / 32) :
    Calls Tryz.prog 104 #[.int .i64 b] w fun e w' => NewVec w b m (fun _ => 0) e w' := by
  have HM : Hid ((m : Int) = (b + 31) / 32) := hm
  have hm1 : m ≤ 10 := by omega
  clear hm
  go_enter Tryz.func104, Tryz.ntmps104
  go_wp2_with fail
  refine (wordsFor_any b _ (by omega) h1).mono ?_
  rintro e w1 ⟨rfl, hw⟩
  subst hw
  rw [← HM.out]
  have q3 := boxing w 35 0 none 0 0
  generalize w.alloc (.cells #[.int .i64 0, .slice none 0 0] 35) = v at *
  obtain ⟨u, g, hmk, hg1, hg2, hbu, hown⟩ := make_new v m (by omega)
  have HO : Hid (Own u g m (fun _ => 0)) := hown
  have S : Hid (Since w u) := since_call (since_call (since_refl _) q3.1) hbu
  obtain ⟨cb0, cb1, cb2, cb3⟩ := (q3.2.1.kept hbu rfl).four
  have l1 : w.heap.size < g := by have := q3.2.2; omega
  have l2 : w.heap.size < u.heap.size := by omega
  clear q3 hown hbu hg1
  go_wp2
  refine bodyPost_ret (v := vecV b (some ⟨g, 0, none⟩) m m) (by simp [results, Tryz.results104, go_sem, vecV, cb0, cb1]) rfl ?_
  exact ⟨_, _, rfl, (since_set (since_set S.out (by show w.heap.size ≤ w.heap.size; omega)) (by show w.heap.size ≤ w.heap.size; omega)).below, Or.inr ⟨_, rfl, by omega, (HO.out.setOther _ _ (by show w.heap.size ≠ g; omega)).setOther _ _ (by show w.heap.size ≠ g; omega)⟩⟩
set_option maxHeartbeats 1000000 in
theorem implNew_no (b : Int) (w : World) (h : ¬ (1 ≤ b ∧ b ≤ 320)) :
    Calls Tryz.prog 104 #[.int .i64 b] w fun e w' => NewVec w 0 0 (fun _ => 0) e w' := by
  have S : Hid (Since w (w.alloc (.cells #[.int .i64 0, .slice none 0 0] 35))) := since_alloc (since_refl _)
  rcases (show b < 1 ∨ 1 ≤ b ∧ 320 < b from by omega) with hx | ⟨hx, hx2⟩
  · clear h
    go_enter Tryz.func104, Tryz.ntmps104
    go_wp2
    refine bodyPost_ret (v := vecV 0 none 0 0) (by simp [results, Tryz.results104, go_sem, vecV]) rfl ?_
    exact ⟨_, _, rfl, S.out.below, Or.inl rfl⟩
  · clear h
    go_enter Tryz.func104, Tryz.ntmps104
    go_wp2
    refine bodyPost_ret (v := vecV 0 none 0 0) (by simp [results, Tryz.results104, go_sem, vecV]) rfl ?_
    exact ⟨_, _, rfl, S.out.below, Or.inl rfl⟩
end Go.Proofs.YthnnenbpbkmbhaaGreat
namespace Go.Proofs.YthnnenbpbkmbhaaGreat
open Go.RowKit

set_option maxRecDepth 100000 in
set_option maxHeartbeats 4000000 in
theorem pvec_any (x n m : Nat) (w : World) (hx : x < 18446744073709551616) (hn : n ≤ 60) (hm : m = (n + 1 + 31) / 32) :
    Calls Tryz.prog 56 #[.int .u64 (x : Int), .int .i64 (n : Int)] w fun e w' => NewVec w ((n : Int) + 1) m (wordsN x) e w' := by
  have hm2 : m ≤ 2 := by omega
  have hm1 : 1 ≤ m := by omega
  have C := fun W => implNew_yes ((n : Int) + 1) m W (by omega) (by omega) (by omega)
  have HC : Hid (∀ W, Calls Tryz.prog 104 #[.int .i64 ((n : Int) + 1)] W fun e w' => NewVec W ((n : Int) + 1) m (fun _ => 0) e w') := C
  clear C hm
  go_enter Tryz.func56, Tryz.ntmps56
  go_wp2_with fail
  have q0 := boxing w 35 0 none 0 0
  generalize w.alloc (.cells #[.int .i64 0, .slice none 0 0] 35) = v0 at *
  refine (HC.out v0).mono ?_
  rintro e w1 ⟨s1, c1, rfl, hb1, ho1⟩
  unfold vecV
  have X0 : Hid (Boxed w1 w.heap.size 35 0 none 0 0) := q0.2.1.kept hb1 rfl
  have S1 : Hid (Since w w1) := since_call (since_call (since_refl _) q0.1) hb1
  obtain ⟨g, rfl, hgl, ho⟩ : ∃ g, s1 = some ⟨g, 0, none⟩ ∧ v0.heap.size ≤ g ∧ Own w1 g m (fun _ => 0) := by
    rcases ho1 with h | h
    · omega
    · exact h
  have O1 : Hid (Own w1 g m (fun _ => 0)) := ho
  have hg0 : w.heap.size < g := by have := q0.2.2; omega
  have hg1 := ho.1
  have q2 := boxing w1 35 ((n : Int) + 1) (some ⟨g, 0, none⟩) m c1
  clear q0 hb1 ho1 ho hgl
  go_wp2_with fail
  generalize w1.alloc (.cells #[.int .i64 ((n : Int) + 1), .slice (some ⟨g, 0, none⟩) m c1] 35) = v2 at *
  have X2 : Hid (Boxed v2 w.heap.size 35 0 none 0 0) := X0.out.kept q2.1 rfl
  have Y2 : Hid (Boxed v2 w1.heap.size 35 ((n : Int) + 1) (some ⟨g, 0, none⟩) m c1) := q2.2.1
  have S2 : Hid (Since w v2) := since_call S1.out q2.1
  have O2 : Hid (Own v2 g m (fun _ => 0)) := O1.out.kept q2.1 hg1
  clear q2 X0 S1 O1
  generalize w1.heap.size = p at *
  go_loopw [13] (fun iv wr => ∃ k : Nat, k ≤ m ∧ iv = .int .i64 (k : Int) ∧ Boxed wr w.heap.size 35 0 none 0 0 ∧ Boxed wr p 35 ((n : Int) + 1) (some ⟨g, 0, none⟩) m c1 ∧ Since w wr ∧ Own wr g m (fun i => if i < k then wordsN x i else 0)) (fun iv _ => m - (intOf iv).toNat)
  case atStart => exact ⟨0, Nat.zero_le _, rfl, X2.out, Y2.out, S2.out, O2.out.congr (fun i _ => by simp)⟩
  case round =>
    obtain ⟨k, hk, rfl, hX, hY, hS, hO⟩ := hrel
    have HX : Hid (Boxed wr w.heap.size 35 0 none 0 0) := hX
    have HY : Hid (Boxed wr p 35 ((n : Int) + 1) (some ⟨g, 0, none⟩) m c1) := hY
    have HS : Hid (Since w wr) := hS
    have HO : Hid (Own wr g m (fun i => if i < k then wordsN x i else 0)) := hO
    obtain ⟨y0, y1⟩ := hY.cells
    have ylt := hY.lt
    by_cases hkl : k < m
    · have hki : (k : Int) < (m : Int) := by omega
      have hk0 : (0 : Int) ≤ (k : Int) := by omega
      have ck := hO.2.1 k hkl
      have fk := hO.2.2 k hkl
      have hglt := hO.1
      obtain ⟨s, hs⟩ : ∃ s, k * 32 = s := ⟨_, rfl⟩
      have hsi : (k : Int) * 32 = (s : Int) := by omega
      have hsw : IntKind.i64.wrap ((k : Int) * 32) = (s : Int) := by rw [IntKind.wrap_i64]; omega
      have hs0 : (0 : Int) ≤ (s : Int) := by omega
      have hsh : (x : Int) / 2 ^ s = ((x / 2 ^ s : Nat) : Int) := by simp
      have hxl : x / 2 ^ s < 18446744073709551616 := Nat.lt_of_le_of_lt (Nat.div_le_self _ _) hx
      have hand := and_word64 hxl
      have HW : Hid (wordsN x k = ((x / 2 ^ s % 4294967296 : Nat) : Int)) := by show wordsN x k = _; unfold wordsN; rw [hs]
      have hzl : x / 2 ^ s % 4294967296 < 4294967296 := Nat.mod_lt _ (by decide)
      generalize x / 2 ^ s % 4294967296 = z at *
      generalize x / 2 ^ s = y at *
      have hwz : IntKind.i64.wrap (z : Int) = (z : Int) := by rw [IntKind.wrap_i64]; omega
      have hwy : IntKind.u64.wrap (y : Int) = (y : Int) := by rw [IntKind.wrap_u64]; omega
      have hpg : g ≠ p := by omega
      have hwg : g ≠ w.heap.size := by omega
      clear hX hY hS hO hs
      go_wp2_with fail
      go_region
      all_goals
        go_wp2_with fail
        go_roundw
        case rel => exact ⟨k + 1, by omega, by go_num, (HX.out.setOther _ _ hwg).drew, (HY.out.setOther _ _ hpg).drew, since_drew (since_set HS.out (by show w.heap.size ≤ g; omega)), ((HO.out.set hkl (z : Int)).congr (fun i hi => by
          by_cases e : i = k
          · subst e; rw [if_pos rfl, if_pos (by omega), HW.out]
          · rw [if_neg e]
            by_cases e2 : i < k
            · rw [if_pos e2, if_pos (by omega)]
            · rw [if_neg e2, if_neg (by omega)])).drew⟩
        case measure => simp [intOf]; omega
    · have hki : ¬ (k : Int) < (m : Int) := by omega
      obtain rfl : k = m := by omega
      obtain ⟨a0, a1, a2, a3⟩ := hX.four
      have xlt := hX.lt
      have hne1 : w.heap.size ≠ p := by omega
      clear hX hY hS hO
      go_wp2_with fail
      refine bodyPost_ret (v := vecV ((n : Int) + 1) (some ⟨g, 0, none⟩) k c1) (by simp [results, Tryz.results56, go_sem, vecV, a0, a1]) rfl ?_
      exact ⟨_, _, rfl, (since_set (since_set HS.out (by show w.heap.size ≤ w.heap.size; omega)) (by show w.heap.size ≤ w.heap.size; omega)).below, Or.inr ⟨g, rfl, by omega, ((HO.out.congr (fun i hi => if_pos hi)).setOther _ _ (by show w.heap.size ≠ g; omega)).setOther _ _ (by show w.heap.size ≠ g; omega)⟩⟩
end Go.Proofs.YthnnenbpbkmbhaaGreat
namespace Go.Proofs.YthnnenbpbkmbhaaGreat
open Go.RowKit

/-- Five vectors of so many bits. -/
def masksV (b : Int) (s : Nat → Option Addr) (n : Nat) (c : Nat → Nat) : Value := .agg #[.int .i64 b, .slice (s 0) n (c 0), .int .i64 b, .slice (s 1) n (c 1), .int .i64 b, .slice (s 2) n (c 2), .int .i64 b, .slice (s 3) n (c 3), .int .i64 b, .slice (s 4) n (c 4)]
/-- A box of five vectors. -/
def MBox (W : World) (p : Nat) (b : Int) (s : Nat → Option Addr) (n : Nat) (c : Nat → Nat) : Prop := W.heap[p]? = some (.cells #[.int .i64 b, .slice (s 0) n (c 0), .int .i64 b, .slice (s 1) n (c 1), .int .i64 b, .slice (s 2) n (c 2), .int .i64 b, .slice (s 3) n (c 3), .int .i64 b, .slice (s 4) n (c 4)] 41 (0, 0))
theorem MBox.lt {W : World} {p : Nat} {b : Int} {s : Nat → Option Addr} {n : Nat} {c : Nat → Nat} (h : MBox W p b s n c) : p < W.heap.size := lt_of_block h
theorem MBox.cells {W : World} {p : Nat} {b : Int} {s : Nat → Option Addr} {n : Nat} {c : Nat → Nat} (h : MBox W p b s n c) : W.cell? ⟨p, 0, none⟩ = some (.int .i64 b) ∧ W.cell? ⟨p, 1, none⟩ = some (.slice (s 0) n (c 0)) ∧ W.cell? ⟨p, 2, none⟩ = some (.int .i64 b) ∧ W.cell? ⟨p, 3, none⟩ = some (.slice (s 1) n (c 1)) ∧ W.cell? ⟨p, 4, none⟩ = some (.int .i64 b) ∧ W.cell? ⟨p, 5, none⟩ = some (.slice (s 2) n (c 2)) ∧ W.cell? ⟨p, 6, none⟩ = some (.int .i64 b) ∧ W.cell? ⟨p, 7, none⟩ = some (.slice (s 3) n (c 3)) ∧ W.cell? ⟨p, 8, none⟩ = some (.int .i64 b) ∧ W.cell? ⟨p, 9, none⟩ = some (.slice (s 4) n (c 4)) := by
  unfold MBox at h
  simp [World.cell?, h]
theorem MBox.free {W : World} {p : Nat} {b : Int} {s : Nat → Option Addr} {n : Nat} {c : Nat → Nat} (h : MBox W p b s n c) : W.frozen? ⟨p, 0, none⟩ = false ∧ W.frozen? ⟨p, 1, none⟩ = false ∧ W.frozen? ⟨p, 2, none⟩ = false ∧ W.frozen? ⟨p, 3, none⟩ = false ∧ W.frozen? ⟨p, 4, none⟩ = false ∧ W.frozen? ⟨p, 5, none⟩ = false ∧ W.frozen? ⟨p, 6, none⟩ = false ∧ W.frozen? ⟨p, 7, none⟩ = false ∧ W.frozen? ⟨p, 8, none⟩ = false ∧ W.frozen? ⟨p, 9, none⟩ = false :=
  ⟨frozen_of_row _ _ _ _ _ h, frozen_of_row _ _ _ _ _ h, frozen_of_row _ _ _ _ _ h, frozen_of_row _ _ _ _ _ h, frozen_of_row _ _ _ _ _ h, frozen_of_row _ _ _ _ _ h, frozen_of_row _ _ _ _ _ h, frozen_of_row _ _ _ _ _ h, frozen_of_row _ _ _ _ _ h, frozen_of_row _ _ _ _ _ h⟩
theorem MBox.kept {W W' : World} {B p : Nat} {b : Int} {s : Nat → Option Addr} {n : Nat} {c : Nat → Nat} (h : MBox W p b s n c) (hb : Below B W W') (hB : B = W.heap.size) : MBox W' p b s n c := by
  unfold MBox
  rw [hb.block p (by rw [hB]; exact h.lt)]
  exact h
theorem MBox.setOther {W : World} {p : Nat} {b : Int} {s : Nat → Option Addr} {n : Nat} {c : Nat → Nat} (h : MBox W p b s n c) (a : Addr) (v : Value) (hne : a.block ≠ p) : MBox (W.setCell a v) p b s n c := by
  unfold MBox
  rw [Below.heap_setCell _ _ _ _ (fun e => hne e.symm)]
  exact h
theorem MBox.grown {W W' : World} {g p : Nat} {b : Int} {s : Nat → Option Addr} {n : Nat} {c : Nat → Nat} (h : MBox W p b s n c) (hg : W.grownBy W' (some g)) (hne : p ≠ g) : MBox W' p b s n c := by
  unfold MBox
  rw [hg.block p h.lt (fun e => hne (by injection e))]
  exact h
/-- Five vectors are put into a box. -/
theorem mboxing (W : World) (b : Int) (s : Nat → Option Addr) (n : Nat) (c : Nat → Nat) : Below W.heap.size W (W.alloc (.cells #[.int .i64 b, .slice (s 0) n (c 0), .int .i64 b, .slice (s 1) n (c 1), .int .i64 b, .slice (s 2) n (c 2), .int .i64 b, .slice (s 3) n (c 3), .int .i64 b, .slice (s 4) n (c 4)] 41)) ∧ MBox (W.alloc (.cells #[.int .i64 b, .slice (s 0) n (c 0), .int .i64 b, .slice (s 1) n (c 1), .int .i64 b, .slice (s 2) n (c 2), .int .i64 b, .slice (s 3) n (c 3), .int .i64 b, .slice (s 4) n (c 4)] 41)) W.heap.size b s n c ∧ (W.alloc (.cells #[.int .i64 b, .slice (s 0) n (c 0), .int .i64 b, .slice (s 1) n (c 1), .int .i64 b, .slice (s 2) n (c 2), .int .i64 b, .slice (s 3) n (c 3), .int .i64 b, .slice (s 4) n (c 4)] 41)).heap.size = W.heap.size + 1 :=
  ⟨(Below.refl _ _).alloc (Nat.le_refl _) _, heap_alloc_new W _, by simp⟩
/-- Blocks of a stretch turned, no others. -/
structure OnlyM (W W' : World) (lo hi : Nat) : Prop where
  os : W'.os = W.os
  tape : W'.tape = W.tape
  output : W'.output = W.output
  size : W.heap.size ≤ W'.heap.size
  block : ∀ k, k < W.heap.size → (k < lo ∨ hi ≤ k) → W'.heap[k]? = W.heap[k]?
theorem OnlyM.refl (W : World) (lo hi : Nat) : OnlyM W W lo hi := ⟨rfl, rfl, rfl, Nat.le_refl _, fun _ _ _ => rfl⟩
theorem OnlyM.trans {W W1 W2 : World} {lo hi : Nat} (h : OnlyM W W1 lo hi) (h' : OnlyM W1 W2 lo hi) : OnlyM W W2 lo hi :=
  ⟨h'.os.trans h.os, h'.tape.trans h.tape, h'.output.trans h.output, Nat.le_trans h.size h'.size, fun k hk hd => (h'.block k (Nat.lt_of_lt_of_le hk h.size) hd).trans (h.block k hk hd)⟩
theorem OnlyM.of {W W' : World} {lo hi lo' hi' : Nat} (h : OnlyIn W W' lo hi) (hl : lo' ≤ lo) (hh : hi ≤ hi') : OnlyM W W' lo' hi' := by
  obtain ⟨row, hg, hr⟩ := h
  exact ⟨hg.os, hg.tape, hg.output, hg.size, fun k hk hd => hg.block k hk (fun e => by have := hr k e.symm; omega)⟩
theorem OnlyM.ofBelow {W W' : World} {lo hi : Nat} (h : Below W.heap.size W W') : OnlyM W W' lo hi := ⟨h.os, h.tape, h.output, h.size, fun k hk _ => h.block k hk⟩
theorem OnlyM.below {W W' : World} {lo hi B : Nat} (h : OnlyM W W' lo hi) (hB : B ≤ lo) (hs : B ≤ W.heap.size) : Below B W W' :=
  ⟨h.os, h.tape, h.output, h.size, fun k hk => h.block k (by omega) (Or.inl (by omega))⟩
theorem MBox.onlyM {W W' : World} {lo hi p : Nat} {b : Int} {s : Nat → Option Addr} {n : Nat} {c : Nat → Nat} (h : MBox W p b s n c) (ho : OnlyM W W' lo hi) (hp : p < lo ∨ hi ≤ p) : MBox W' p b s n c := by
  unfold MBox
  rw [ho.block p h.lt hp]
  exact h
theorem MBox.only {W W' : World} {lo hi p : Nat} {b : Int} {s : Nat → Option Addr} {n : Nat} {c : Nat → Nat} (h : MBox W p b s n c) (ho : OnlyIn W W' lo hi) (hp : p < lo ∨ hi ≤ p) : MBox W' p b s n c := h.onlyM (OnlyM.of ho (Nat.le_refl _) (Nat.le_refl _)) hp
theorem CSl.onlyM {W W' : World} {lo hi lo' hi' n : Nat} {sa : Option Addr} {f : Nat → Cel} (h : CSl W lo hi sa n f) (ho : OnlyM W W' lo' hi') (hd : hi ≤ lo' ∨ hi' ≤ lo) : CSl W' lo hi sa n f := by
  rcases h with h | ⟨g, h1, h2, h4, h⟩
  · exact Or.inl h
  · have hb := ho.block g h.lt (by omega)
    refine Or.inr ⟨g, h1, h2, h4, ⟨Nat.lt_of_lt_of_le h.lt ho.size, fun i hi => ⟨?_, ?_, ?_⟩, fun i hi => ?_⟩⟩
    · have := (h.at' i hi).c0
      simpa [World.cell?, hb] using this
    · have := (h.at' i hi).c1
      simpa [World.cell?, hb] using this
    · have := (h.at' i hi).c2
      simpa [World.cell?, hb] using this
    · have := h.free i hi
      simpa [World.frozen?, hb] using this
theorem Slice.onlyM {W W' : World} {lo hi lo' hi' n : Nat} {sa : Option Addr} {f : Nat → Int} (h : Slice W lo hi sa n f) (ho : OnlyM W W' lo' hi') (hd : hi ≤ lo' ∨ hi' ≤ lo) : Slice W' lo hi sa n f := by
  rcases h with h | ⟨g, h1, h2, h4, h3⟩
  · exact Or.inl h
  · refine Or.inr ⟨g, h1, h2, h4, ?_⟩
    have hb := ho.block g h3.1 (by omega)
    refine ⟨Nat.lt_of_lt_of_le h3.1 ho.size, fun i hi => ?_, fun i hi => ?_⟩
    · have := h3.2.1 i hi
      simpa [World.cell?, hb] using this
    · have := h3.2.2 i hi
      simpa [World.frozen?, hb] using this
/-- Five rows, each in a stretch of blocks of its own. -/
structure MSl (W : World) (h : Nat → Nat) (s : Nat → Option Addr) (n : Nat) (F : Nat → Nat → Int) : Prop where
  r0 : Slice W (h 0) (h 1) (s 0) n (F 0)
  r1 : Slice W (h 1) (h 2) (s 1) n (F 1)
  r2 : Slice W (h 2) (h 3) (s 2) n (F 2)
  r3 : Slice W (h 3) (h 4) (s 3) n (F 3)
  r4 : Slice W (h 4) (h 5) (s 4) n (F 4)
  up : h 0 ≤ h 1 ∧ h 1 ≤ h 2 ∧ h 2 ≤ h 3 ∧ h 3 ≤ h 4 ∧ h 4 ≤ h 5
theorem MSl.kept {W W' : World} {h : Nat → Nat} {s : Nat → Option Addr} {n : Nat} {F : Nat → Nat → Int} (m : MSl W h s n F) (hb : Below W.heap.size W W') : MSl W' h s n F :=
  ⟨m.r0.kept hb rfl, m.r1.kept hb rfl, m.r2.kept hb rfl, m.r3.kept hb rfl, m.r4.kept hb rfl, m.up⟩
theorem MSl.onlyM {W W' : World} {lo hi : Nat} {h : Nat → Nat} {s : Nat → Option Addr} {n : Nat} {F : Nat → Nat → Int} (m : MSl W h s n F) (ho : OnlyM W W' lo hi) (hd : h 5 ≤ lo ∨ hi ≤ h 0) : MSl W' h s n F := by
  have := m.up
  exact ⟨m.r0.onlyM ho (by omega), m.r1.onlyM ho (by omega), m.r2.onlyM ho (by omega), m.r3.onlyM ho (by omega), m.r4.onlyM ho (by omega), m.up⟩
theorem MSl.only {W W' : World} {lo hi : Nat} {h : Nat → Nat} {s : Nat → Option Addr} {n : Nat} {F : Nat → Nat → Int} (m : MSl W h s n F) (ho : OnlyC W W' lo hi) (hd : h 5 ≤ lo ∨ hi ≤ h 0) : MSl W' h s n F := by
  obtain ⟨row, hg, hr⟩ := ho
  exact m.onlyM (OnlyM.of ⟨row, hg, hr⟩ (Nat.le_refl _) (Nat.le_refl _)) hd
/-- Five vectors in new memory. -/
def NewMasks (w : World) (b : Int) (n : Nat) (F : Nat → Nat → Int) (e : Ending) (w' : World) : Prop :=
  ∃ (s : Nat → Option Addr) (c : Nat → Nat) (h : Nat → Nat), e = .returned (masksV b s n c) ∧ Below w.heap.size w w' ∧ MSl w' h s n F ∧ w.heap.size ≤ h 0 ∧ h 5 ≤ w'.heap.size
/-- Five addresses. -/
def five {α : Type} (a0 a1 a2 a3 a4 : α) : Nat → α := fun i => match i with
  | 0 => a0
  | 1 => a1
  | 2 => a2
  | 3 => a3
  | _ => a4
end Go.Proofs.YthnnenbpbkmbhaaGreat
