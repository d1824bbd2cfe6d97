/- What is said here: slices of cells that may be written, each in a block of its own; what turns in some blocks alone. -/
import Derived.Test.YtbdjjggaahjjpaaQCCHW
namespace Go.Proofs.Ytbdjjggaahjjpaa
open Go.RowKit

/-- Some blocks turned, none besides; new ones may have come. -/
structure OnlyAt (W W' : World) (S : Nat → Prop) : Prop where
  os : W'.os = W.os
  tape : W'.tape = W.tape
  output : W'.output = W.output
  size : W.heap.size ≤ W'.heap.size
  block : ∀ k, k < W.heap.size → ¬ S k → W'.heap[k]? = W.heap[k]?
theorem OnlyAt.refl (W : World) (S : Nat → Prop) : OnlyAt W W S := ⟨rfl, rfl, rfl, Nat.le_refl _, fun _ _ _ => rfl⟩
theorem OnlyAt.trans {W W1 W2 : World} {S : Nat → Prop} (h : OnlyAt W W1 S) (h' : OnlyAt W1 W2 S) : OnlyAt W W2 S :=
  ⟨h'.os.trans h.os, h'.tape.trans h.tape, h'.output.trans h.output, Nat.le_trans h.size h'.size, fun k hk hd => (h'.block k (Nat.lt_of_lt_of_le hk h.size) hd).trans (h.block k hk hd)⟩
theorem OnlyAt.wide {W W' : World} {S S' : Nat → Prop} (h : OnlyAt W W' S) (hs : ∀ p, S p → S' p) : OnlyAt W W' S' :=
  ⟨h.os, h.tape, h.output, h.size, fun k hk hd => h.block k hk (fun h9 => hd (hs k h9))⟩
theorem OnlyAt.ofBelow {W W' : World} {S : Nat → Prop} (h : Below W.heap.size W W') : OnlyAt W W' S := ⟨h.os, h.tape, h.output, h.size, fun k hk _ => h.block k hk⟩
theorem OnlyAt.toM {W W' : World} {S : Nat → Prop} {lo hi : Nat} (h : OnlyAt W W' S) (hs : ∀ p, S p → lo ≤ p ∧ p < hi) : OnlyM W W' lo hi :=
  ⟨h.os, h.tape, h.output, h.size, fun k hk hd => h.block k hk (fun h9 => by have := hs k h9; omega)⟩
theorem OnlyAt.cell {W W' : World} {S : Nat → Prop} {p : Addr} (h : OnlyAt W W' S) (hp : p.block < W.heap.size) (hs : ¬ S p.block) : W'.cell? p = W.cell? p := by
  have := h.block p.block hp hs
  simp [World.cell?, this]
theorem OnlyAt.frozen {W W' : World} {S : Nat → Prop} {p : Addr} (h : OnlyAt W W' S) (hp : p.block < W.heap.size) (hs : ¬ S p.block) : W'.frozen? p = W.frozen? p := by
  have := h.block p.block hp hs
  simp [World.frozen?, this]
theorem COwn.onlyAt {W W' : World} {S : Nat → Prop} {g n : Nat} {f : Nat → Cel} (h : COwn W g n f) (ho : OnlyAt W W' S) (hs : ¬ S g) : COwn W' g n f :=
  ⟨Nat.lt_of_lt_of_le h.lt ho.size, fun i hi => ⟨by rw [ho.cell (p := ⟨g, i * 3, none⟩) h.lt hs]; exact (h.at' i hi).c0, by rw [ho.cell (p := ⟨g, i * 3 + 1, none⟩) h.lt hs]; exact (h.at' i hi).c1, by rw [ho.cell (p := ⟨g, i * 3 + 2, none⟩) h.lt hs]; exact (h.at' i hi).c2⟩, fun i hi => by rw [ho.frozen (p := ⟨g, i, none⟩) h.lt hs]; exact h.free i hi⟩
theorem Own.onlyAt {W W' : World} {S : Nat → Prop} {g n : Nat} {f : Nat → Int} (h : Own W g n f) (ho : OnlyAt W W' S) (hs : ¬ S g) : Own W' g n f :=
  ⟨Nat.lt_of_lt_of_le h.1 ho.size, fun i hi => by rw [ho.cell (p := ⟨g, i, none⟩) h.1 hs]; exact h.2.1 i hi, fun i hi => by rw [ho.frozen (p := ⟨g, i, none⟩) h.1 hs]; exact h.2.2 i hi⟩
theorem OnlyAt.of_grown {W W' : World} {S : Nat → Prop} {g : Nat} (h : W.grownBy W' (some g)) (hs : S g) : OnlyAt W W' S :=
  ⟨h.os, h.tape, h.output, h.size, fun k hk hd => h.block k hk (fun e => hd (by injection e with e; subst e; exact hs))⟩

/-- Slices of cells, each in a block of its own, and the block that lists them. -/
structure CCOwn (W : World) (lo hi g k : Nat) (b : Nat → Nat) (s : Nat → Option Addr) (n c : Nat → Nat) (f : Nat → Nat → Cel) : Prop where
  glo : lo ≤ g
  ghi : g < hi
  gsz : hi ≤ W.heap.size
  cells : ∀ i, i < k → W.cell? ⟨g, i, none⟩ = some (.slice (s i) (n i) (c i))
  rows : ∀ i, i < k → n i = 0 ∨ (s i = some ⟨b i, 0, none⟩ ∧ lo ≤ b i ∧ b i < hi ∧ b i ≠ g ∧ COwn W (b i) (n i) (f i))
  apart : ∀ i j, i < j → j < k → n i = 0 ∨ n j = 0 ∨ b i ≠ b j
/-- The blocks of the slices. -/
def inRows (k : Nat) (n b : Nat → Nat) (p : Nat) : Prop := ∃ i, i < k ∧ n i ≠ 0 ∧ p = b i
theorem CCOwn.kept {W W' : World} {lo hi g k : Nat} {b : Nat → Nat} {s : Nat → Option Addr} {n c : Nat → Nat} {f : Nat → Nat → Cel} (o : CCOwn W lo hi g k b s n c f) (hb : Below W.heap.size W W') : CCOwn W' lo hi g k b s n c f :=
  ⟨o.glo, o.ghi, Nat.le_trans o.gsz hb.size, fun i hi => by rw [hb.cell (p := ⟨g, i, none⟩) (Nat.lt_of_lt_of_le o.ghi o.gsz)]; exact o.cells i hi, fun i hi => (o.rows i hi).imp id (fun ⟨h1, h2, h3, h4, h5⟩ => ⟨h1, h2, h3, h4, h5.kept hb h5.lt⟩), o.apart⟩
theorem CCOwn.onlyM {W W' : World} {lo hi lo' hi' g k : Nat} {b : Nat → Nat} {s : Nat → Option Addr} {n c : Nat → Nat} {f : Nat → Nat → Cel} (o : CCOwn W lo hi g k b s n c f) (ho : OnlyM W W' lo' hi') (hd : hi ≤ lo' ∨ hi' ≤ lo) : CCOwn W' lo hi g k b s n c f := by
  have h9 : OnlyAt W W' (fun p => lo' ≤ p ∧ p < hi') := ⟨ho.os, ho.tape, ho.output, ho.size, fun q hq hn => ho.block q hq (by omega)⟩
  have hg := o.glo
  have hg2 := o.ghi
  refine ⟨o.glo, o.ghi, Nat.le_trans o.gsz ho.size, fun i hi => by rw [h9.cell (p := ⟨g, i, none⟩) (Nat.lt_of_lt_of_le o.ghi o.gsz) (by show ¬ (lo' ≤ g ∧ g < hi'); omega)]; exact o.cells i hi, fun i hi => (o.rows i hi).imp id (fun ⟨h1, h2, h3, h4, h5⟩ => ⟨h1, h2, h3, h4, h5.onlyAt h9 (by omega)⟩), o.apart⟩
theorem CCOwn.read {W : World} {lo hi g k : Nat} {b : Nat → Nat} {s : Nat → Option Addr} {n c : Nat → Nat} {f : Nat → Nat → Cel} (o : CCOwn W lo hi g k b s n c f) : CCRows W W.heap.size (some ⟨g, 0, none⟩) k s n c f :=
  Or.inr ⟨g, 0, rfl, Nat.lt_of_lt_of_le o.ghi o.gsz, fun i hi => ⟨by rw [Nat.zero_add]; exact o.cells i hi, by
    rcases o.rows i hi with h | ⟨h1, h2, h3, h4, h5⟩
    · exact Or.inl h
    · rw [h1]; exact h5.row h5.lt⟩⟩
/-- Stretches of blocks are blocks. -/
theorem CCOwnH.own {W : World} {g k lo hi : Nat} {h : Nat → Nat} {s : Nat → Option Addr} {n c : Nat → Nat} {f : Nat → Nat → Cel} (o : CCOwnH W g k h s n c f) (hlo : lo ≤ g) (hhi : h k ≤ hi) (hsz : hi ≤ W.heap.size) : CCOwn W lo hi g k (fun i => ((s i).map (·.block)).getD 0) s n c f := by
  have h0 := o.lt
  refine ⟨hlo, Nat.lt_of_lt_of_le o.lt (Nat.le_trans (o.le (Nat.zero_le _) (Nat.le_refl _)) hhi), hsz, o.cells, fun i hi => ?_, fun i j hij hj => ?_⟩
  · rcases o.rows i hi with h | ⟨g', h1, h2, h3, h4⟩
    · exact Or.inl h
    · have h5 := o.le (Nat.zero_le i) (Nat.le_of_lt hi)
      have h6 := o.le (show i + 1 ≤ k by omega) (Nat.le_refl _)
      refine Or.inr ?_
      rw [h1]
      exact ⟨rfl, by simp; omega, by simp; omega, by simp; omega, h4⟩
  · rcases o.rows i (by omega) with h | ⟨g1, h1, h2, h3, h4⟩
    · exact Or.inl h
    · rcases o.rows j hj with h | ⟨g2, h5, h6, h7, h8⟩
      · exact Or.inr (Or.inl h)
      · have h9 := o.le (show i + 1 ≤ j by omega) (Nat.le_of_lt hj)
        refine Or.inr (Or.inr ?_)
        simp only [h1, h5, Option.map_some, Option.getD_some]
        omega
set_option maxHeartbeats 2000000 in
theorem markCC_own (g k cap lo hi q0 : Nat) (b : Nat → Nat) (s : Nat → Option Addr) (n c : Nat → Nat) (f : Nat → Nat → Cel) (w : World) (ht : totC n k ≤ 1048576) (hq0 : 0 < q0) (hq9 : q0 ≤ 4000000) (hk : k ≤ 1048576) (ho : CCOwn w lo hi g k b s n c f) :
    Calls Try.prog 18 #[.slice (some ⟨g, 0, none⟩) k cap, .int .i64 (q0 : Int)] w fun e w' => e = .returned (.int .i64 ((q0 + totC n k * 3 : Nat) : Int)) ∧ OnlyAt w w' (inRows k n b) ∧ CCOwn w' lo hi g k b s n c (fun i => markD (q0 + totC n i * 3)) := by
  have HO : Hid (CCOwn w lo hi g k b s n c f) := ho
  have HT : Hid (∀ i, i ≤ k → totC n i ≤ 1048576) := fun i hi => Nat.le_trans (totC_mono hi) ht
  have HN : Hid (∀ i, i < k → n i ≤ 1048576) := fun i hi => Nat.le_trans (totC_le hi) ht
  clear ho ht
  go_enter Try.func18, Try.ntmps18
  go_wp2_with fail
  go_loopw [1, 5] (fun qv iv wr => ∃ i : Nat, i ≤ k ∧ qv = .int .i64 ((q0 + totC n i * 3 : Nat) : Int) ∧ iv = .int .i64 (i : Int) ∧ OnlyAt w wr (inRows k n b) ∧ CCOwn wr lo hi g k b s n c (fun j => if j < i then markD (q0 + totC n j * 3) else f j)) (fun _ iv _ => k - (intOf iv).toNat)
  case atStart => exact ⟨0, Nat.zero_le _, rfl, rfl, OnlyAt.refl _ _, by simpa using HO.out⟩
  case round =>
    obtain ⟨i, hik, rfl, rfl, hon, hown⟩ := hrel
    have HON : Hid (OnlyAt w wr (inRows k n b)) := hon
    have HRW : Hid (CCOwn wr lo hi g k b s n c (fun j => if j < i then markD (q0 + totC n j * 3) else f j)) := hown
    clear hon hown
    have htot := HT.out i hik
    obtain ⟨q, hq⟩ : ∃ q, q0 + totC n i * 3 = q := ⟨_, rfl⟩
    have HQ : Hid (q0 + totC n i * 3 = q) := hq
    rw [hq]
    have hq1 : 0 < q := by omega
    have hq2 : q ≤ 8000000 := by omega
    clear hq htot
    by_cases hil : i < k
    · have hii : (i : Int) < (k : Int) := by omega
      have hi0 : (0 : Int) ≤ (i : Int) := by omega
      have ci : wr.cell? ⟨g, i, none⟩ = some (.slice (s i) (n i) (c i)) := HRW.out.cells i hil
      have C : Calls Try.prog 46 #[.slice (s i) (n i) (c i), .int .i64 (q : Int)] wr fun e w' => e = .returned (.int .i64 ((q + n i * 3 : Nat) : Int)) ∧ OnlyAt wr w' (inRows k n b) ∧ CCOwn w' lo hi g k b s n c (fun j => if j < i + 1 then markD (q0 + totC n j * 3) else f j) := by
        rcases HRW.out.rows i hil with h0 | ⟨h1, h2, h3, h4, h5⟩
        · rw [h0]
          refine (markCAt_none _ _ _ _).mono ?_
          rintro e w' ⟨rfl, rfl⟩
          refine ⟨by simp, OnlyAt.refl _ _, ⟨HRW.out.glo, HRW.out.ghi, HRW.out.gsz, HRW.out.cells, fun j hj => ?_, HRW.out.apart⟩⟩
          by_cases e : j = i
          · subst e; exact Or.inl h0
          · have := HRW.out.rows j hj
            have e2 : (j < i + 1) = (j < i) := by apply propext; omega
            simp only [e2]
            exact this
        · by_cases hz : n i = 0
          · rw [hz]
            refine (markCAt_none _ _ _ _).mono ?_
            rintro e w' ⟨rfl, rfl⟩
            refine ⟨by simp, OnlyAt.refl _ _, ⟨HRW.out.glo, HRW.out.ghi, HRW.out.gsz, HRW.out.cells, fun j hj => ?_, HRW.out.apart⟩⟩
            by_cases e : j = i
            · subst e; exact Or.inl hz
            · have := HRW.out.rows j hj
              have e2 : (j < i + 1) = (j < i) := by apply propext; omega
              simp only [e2]
              exact this
          rw [h1]
          refine (markCAt_own (b i) (n i) (c i) q _ wr (HN.out i hil) hq1 hq2 h5).mono ?_
          rintro e w' ⟨rfl, hg, how⟩
          have hon : OnlyAt wr w' (fun p => p = b i) := OnlyAt.of_grown hg rfl
          refine ⟨rfl, hon.wide (fun p e => ⟨i, hil, hz, e⟩), ⟨HRW.out.glo, HRW.out.ghi, Nat.le_trans HRW.out.gsz hon.size, fun j hj => by rw [hon.cell (p := ⟨g, j, none⟩) (Nat.lt_of_lt_of_le HRW.out.ghi HRW.out.gsz) (fun e => h4 e.symm)]; exact HRW.out.cells j hj, fun j hj => ?_, HRW.out.apart⟩⟩
          by_cases e : j = i
          · subst e
            refine Or.inr ⟨h1, h2, h3, h4, ?_⟩
            simp only [Nat.lt_succ_self, if_pos]
            rw [HQ.out]
            exact how
          · rcases HRW.out.rows j hj with h6 | ⟨h6, h7, h8, h9, h10⟩
            · exact Or.inl h6
            · by_cases hzj : n j = 0
              · exact Or.inl hzj
              have hne : b j ≠ b i := by
                rcases Nat.lt_or_gt_of_ne e with h | h
                · rcases HRW.out.apart j i h hil with h | h | h
                  · exact absurd h hzj
                  · exact absurd h hz
                  · exact h
                · rcases HRW.out.apart i j h hj with h | h | h
                  · exact absurd h hz
                  · exact absurd h hzj
                  · exact fun e9 => h e9.symm
              have e2 : (j < i + 1) = (j < i) := by apply propext; omega
              simp only [e2]
              exact Or.inr ⟨h6, h7, h8, h9, h10.onlyAt hon hne⟩
      have HTN : Hid (totC n (i + 1) = totC n i + n i) := rfl
      obtain ⟨si, hsi⟩ : ∃ x, s i = x := ⟨_, rfl⟩
      obtain ⟨c9, hc9⟩ : ∃ x, c i = x := ⟨_, rfl⟩
      obtain ⟨ni, hni⟩ : ∃ x, n i = x := ⟨_, rfl⟩
      have HNI : Hid (n i = ni) := hni
      rw [hsi, hni, hc9] at ci C
      clear hsi hni hc9
      go_wp2_with fail
      refine C.mono ?_
      rintro e w1 ⟨rfl, hon, hown⟩
      have HN1 : Hid (OnlyAt w w1 (inRows k n b)) := HON.out.trans hon
      have HR1 : Hid (CCOwn w1 lo hi g k b s n c (fun j => if j < i + 1 then markD (q0 + totC n j * 3) else f j)) := hown
      clear hon hown C ci
      go_wp2_with fail
      go_roundw
      case rel => exact ⟨i + 1, by omega, by have h1 := HQ.out; have h2 := HTN.out; have h3 := HNI.out; (congr 1; omega), by go_num, HN1.out, HR1.out⟩
      case measure => simp [intOf]; omega
    · have hii : ¬ (i : Int) < (k : Int) := by omega
      obtain rfl : i = k := by omega
      go_wp2_with fail
      go_ret
      refine ⟨by have h9 := HQ.out; (show Ending.returned (Value.int .i64 (q : Int)) = _); (congr 2; omega), HON.out, ⟨HRW.out.glo, HRW.out.ghi, HRW.out.gsz, HRW.out.cells, fun j hj => ?_, HRW.out.apart⟩⟩
      have h9 := HRW.out.rows j hj
      simp only [if_pos hj] at h9
      exact h9
theorem markCC_none (sa : Option Addr) (cap q0 : Nat) (w : World) :
    Calls Try.prog 18 #[.slice sa 0 cap, .int .i64 (q0 : Int)] w fun e w' => e = .returned (.int .i64 (q0 : Int)) ∧ w' = w := by
  go_enter Try.func18, Try.ntmps18
  go_wp2
  go_loopw [1, 5] (fun kv i wr => kv = .int .i64 (q0 : Int) ∧ i = .int .i64 0 ∧ wr = w) (fun _ _ _ => 0)
  case atStart => exact ⟨rfl, rfl, rfl⟩
  case round =>
    obtain ⟨rfl, rfl, rfl⟩ := hrel
    go_wp2
    go_ret
    exact ⟨rfl, rfl⟩
end Go.Proofs.Ytbdjjggaahjjpaa
