/- What is proved here: the specification's copy of a vector lies in new memory; nothing that was there turns. -/
import Derived.Test.YtlgnplnmcdjbiaaQVecSpecW
import Derived.Deep.AppendLies
import Derived.Deep.RegionLaw
namespace Go.Proofs.Ytlgnplnmcdjbiaa
open Go.RowKit

theorem news_row {W : World} {B bb off n : Nat} {f : Nat → Int} (h : Row W B (some ⟨bb, off, none⟩) n f) (hn : 0 < n) : ∀ (j : Nat) (u : Value), ((List.range n).map fun i => Value.int .i64 (f i))[j]? = some u → W.cell? ((⟨bb, off, none⟩ : Addr).add j) = some u := by
  intro j u hu
  rcases h with h | ⟨b', o', he, _, hc⟩
  · omega
  · injection he with he
    injection he with h1 h2
    subst h1 h2
    have hj : j < n := by
      rcases Nat.lt_or_ge j n with h | h
      · exact h
      · rw [List.getElem?_eq_none (by simp; omega)] at hu
        cases hu
    have hp : (⟨bb, off, none⟩ : Addr).add j = ⟨bb, off + j, none⟩ := by unfold Addr.add; split <;> simp_all
    rw [hp, hc j hj]
    simpa [List.getElem?_map, List.getElem?_range hj] using hu
theorem own_of {W : World} {base g n cap : Nat} {f : Nat → Int} (h : W.ownsRow base 2 1 (.slice (some ⟨g, 0, none⟩) n cap) n ((List.range n).map fun i => Value.int .i64 (f i))) (hn : 0 < n) : Own W g n f := by
  obtain ⟨_, ⟨_, h0⟩ | ⟨g', cap', cur, hv, hg, hh, hnc, hm, hs, ht⟩⟩ := h
  · omega
  · injection hv with h1 h2 h3
    injection h1 with h1
    injection h1 with h1
    subst h1
    refine ⟨lt_of_block hh, fun i hi => ?_, fun i hi => frozen_of_row _ _ _ _ _ hh⟩
    have h1 : (cur.toList.take (n * 1))[i]? = ((List.range n).map fun i => Value.int .i64 (f i))[i]? := by rw [ht]
    rw [List.getElem?_take_of_lt (by omega), List.getElem?_map, List.getElem?_range hi] at h1
    simpa [World.cell?, hh] using h1

theorem grown_below {V w1 : World} {o : Obj} (hg : (V.drew.alloc o).grownBy w1 (some V.heap.size)) : Below V.heap.size V w1 := by
  have h := (since_alloc (o := o) (since_drew (since_refl V))).below
  exact h.trans ⟨hg.os, hg.tape, hg.output, hg.size, fun k hk => hg.block k (Nat.lt_of_lt_of_le hk h.size) (fun e => by injection e with e; omega)⟩

theorem lies_ge {V : World} {o : Obj} {g : Nat} (hat : (Value.slice (some ⟨V.heap.size, 0, none⟩) 0 0).ownBlock = some g ∨ g = (V.drew.alloc o).heap.size) : V.heap.size ≤ g := by
  rcases hat with h | h
  · simp [Value.ownBlock] at h
    omega
  · rw [h]
    exact (since_alloc (o := o) (since_drew (since_refl V))).size

set_option maxHeartbeats 2000000 in
theorem copy_any (b : Int) (sa : Option Addr) (n cap : Nat) (f : Nat → Int) (w : World) (hn0 : 0 < n) (hn : n ≤ 1048576) (hr : Row w w.heap.size sa n f) :
    Calls Try.prog 126 #[.agg #[.int .i64 b, .slice sa n cap]] w fun e w' => NewVec w b n f e w' := by
  obtain ⟨bb, off, rfl⟩ : ∃ bb off : Nat, sa = some ⟨bb, off, none⟩ := by
    rcases hr with h | ⟨bb, off, h, _⟩
    · omega
    · exact ⟨bb, off, h⟩
  obtain ⟨i0, hi, hz0, hz1, hz2⟩ := info_parts Try.numInfo
  have HR : Hid (Row w w.heap.size (some ⟨bb, off, none⟩) n f) := hr
  clear hr
  have hlen : ((List.range n).map fun i => Value.int .i64 (f i)).length = n * 1 := by simp
  have hone : ∀ u ∈ (List.range n).map fun i => Value.int .i64 (f i), u.oneCell' = true := by
    intro u hu
    obtain ⟨i, _, rfl⟩ := List.mem_map.1 hu
    rfl
  go_enter Try.func126, Try.ntmps126
  go_wp2_with fail
  have q1 := boxing w 45 b (some ⟨bb, off, none⟩) n cap
  generalize w.alloc (.cells #[.int .i64 b, .slice (some ⟨bb, off, none⟩) n cap] 45) = v1 at *
  have q2 := boxing v1 45 0 none 0 0
  generalize v1.alloc (.cells #[.int .i64 0, .slice none 0 0] 45) = v2 at *
  have hx1 : Boxed v2 w.heap.size 45 b (some ⟨bb, off, none⟩) n cap := q1.2.1.kept q2.1 rfl
  have hx2 : Boxed v2 (w.heap.size + 1) 45 0 none 0 0 := by rw [← q1.2.2]; exact q2.2.1
  have hS : Since w v2 := since_call (since_call (since_refl _) q1.1) q2.1
  have hz : v2.heap.size = w.heap.size + 2 := by rw [q2.2.2, q1.2.2]
  have hnw : ∀ W : World, Since w W → ∀ (j : Nat) (u : Value), ((List.range n).map fun i => Value.int .i64 (f i))[j]? = some u → W.cell? ((⟨bb, off, none⟩ : Addr).add j) = some u := fun W h => news_row (row_since HR.out h) hn0
  have HNW : Hid (∀ W : World, Since w W → ∀ (j : Nat) (u : Value), ((List.range n).map fun i => Value.int .i64 (f i))[j]? = some u → W.cell? ((⟨bb, off, none⟩ : Addr).add j) = some u) := hnw
  have HX1 : Hid (Boxed v2 w.heap.size 45 b (some ⟨bb, off, none⟩) n cap) := hx1
  have HX2 : Hid (Boxed v2 (w.heap.size + 1) 45 0 none 0 0) := hx2
  have HS : Hid (Since w v2) := hS
  have HL : Hid (((List.range n).map fun i => Value.int .i64 (f i)).length = n * 1) := hlen
  have HO : Hid (∀ u ∈ (List.range n).map fun i => Value.int .i64 (f i), u.oneCell' = true) := hone
  clear q1 q2 hnw hlen hone hS
  obtain ⟨ca0, ca1⟩ := hx1.cells
  obtain ⟨cb0, cb1, cb2, cb3⟩ := hx2.four
  clear hx1 hx2
  have l1 : w.heap.size < v2.heap.size := by omega
  have l2 : w.heap.size + 1 < v2.heap.size := by omega
  go_region_law (refine step_append_lies _ rfl (.tmp 5) (.tmp 7) 27 rfl w.heap.size 2 i0 (.int .i64 0) 1 8 Try.underlying27 hi hz0 hz1 hz2 rfl (by decide) (.slice (some ⟨v2.heap.size, 0, none⟩) 0 0) 0 [] (by simp [Act.eval]) (World.ownsRow_made v2.drew #[] 0 (by show w.heap.size ≤ v2.heap.size; omega) (by decide) rfl) ⟨bb, off, none⟩ n cap _ (by simp [Act.eval]) HL.out (HNW.out _ (since_alloc (since_drew HS.out))) HO.out hn0 (by unfold maxLen; omega) (by omega) (since_alloc (since_drew HS.out)).size _ rfl ?_; intro g cp w1 hown hgrow hat hlt; have hb1 : Below v2.heap.size v2 w1 := grown_below hgrow; obtain ⟨ea0, ea1⟩ := (HX1.out.kept hb1 rfl).cells; obtain ⟨eb0, eb1, eb2, eb3⟩ := (HX2.out.kept hb1 rfl).four; have HB1 : Hid (Since w w1) := since_call HS.out hb1; have hgl : v2.heap.size ≤ g := lies_ge hat; have HOW : Hid (Own w1 g n f) := own_of (by simpa using hown) hn0; clear hown hgrow hat hb1)
  all_goals
    go_wp2
    refine bodyPost_ret (v := vecV b (some ⟨g, 0, none⟩) n cp) (by simp [results, Try.results126, go_sem, vecV, eb0, eb1]) rfl ?_
    exact ⟨_, _, rfl, (since_set (since_set HB1.out (by show w.heap.size ≤ w.heap.size + 1; omega)) (by show w.heap.size ≤ w.heap.size + 1; omega)).below, Or.inr ⟨g, rfl, by omega, (HOW.out.setOther _ _ (by show w.heap.size + 1 ≠ g; omega)).setOther _ _ (by show w.heap.size + 1 ≠ g; omega)⟩⟩
end Go.Proofs.Ytlgnplnmcdjbiaa
