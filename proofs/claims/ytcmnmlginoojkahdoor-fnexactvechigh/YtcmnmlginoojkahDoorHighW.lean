/- What is proved here: the program's VecHigh hands back the last of the bits that come; nothing that was there turns. -/
import Derived.Test.YtcmnmlginoojkahDoorBitsSeqW
namespace Go.Proofs.YtcmnmlginoojkahDoor
open Go.RowKit Go.Shelf

attribute [local go_sem] Oper.semAt_some

set_option maxRecDepth 100000 in
set_option maxHeartbeats 4000000 in
theorem high_in (n : Nat) (hn : 3 ≤ n) (b : Int) (sa : Option Addr) (m cap : Nat) (f : Nat → Int) (L : List Int) (hL : Come b m f L) (w : World) (hm : m ≤ 1048576) (hr : Row w w.heap.size sa m f) (hT : Tab w) (hp0 : 0 < w.heap.size) :
    CallsIn Fence.wide n Tryd.prog 8 #[.agg #[.int .i64 b, .slice sa m cap]] w fun e W' => e = .returned (.int .i64 (L.getLast?.getD (-1))) ∧ Below w.heap.size w W' := by
  have h1 : 1 ≤ n := by omega
  refine callsIn_of_wp_marks Tryd.func8 rfl trivial ?_ rfl
  simp only [Tryd.ntmps8, List.size_toArray, List.length_cons, List.length_nil, Nat.reduceAdd, Nat.reduceSub, Array.replicate_succ, Array.replicate_zero, List.push_toArray, List.append_toArray, List.nil_append, List.cons_append]
  gi_wp2_with (first | (gi_at_call 16; refine (bitsOn_in (n - 1) b sa m cap _).mono ?_; rintro e w' ⟨rfl, rfl⟩) | (refine ⟨trivial, ?_⟩; gi_at_call 16; refine (bitsOn_in (n - 1) b sa m cap _).mono ?_; rintro e w' ⟨rfl, rfl⟩))
  have bR := Go.Boxed.new (w.alloc (.cells #[.int .i64 b, .slice sa m cap] 27)) 2 (.int .i64 (-1))
  rw [World.size_alloc] at bR
  have bN := (boxing ((w.alloc (.cells #[.int .i64 b, .slice sa m cap] 27)).alloc (.cells #[.int .i64 (-1)] 2)) 27 b sa m cap).2.1
  rw [World.size_alloc, World.size_alloc] at bN
  have hB0 : Below w.heap.size w (((w.alloc (.cells #[.int .i64 b, .slice sa m cap] 27)).alloc (.cells #[.int .i64 (-1)] 2)).alloc (.cells #[.int .i64 b, .slice sa m cap] 27)) := (((Below.refl _ w).alloc (Nat.le_refl _) _).alloc (by simp) _).alloc (by simp; omega) _
  refine wpIn_rangeFunc_ownG rfl h1 (gf := 20) (lb := #[.pointer (some ⟨w.heap.size + 1 + 1, 0, none⟩)]) rfl trivial (enters_of Tryd.func20 (by kernel_rfl) rfl)
    (bits_stops (n - 1) (w.heap.size + 1 + 1) w.heap.size (by omega) b sa m cap f L hL _ bN hm (hr.kept hB0) hp0 hB0.size (hT.kept hB0 hp0)) belowK_t (belowK_b (by simp; omega)) (Below.refl _ _) (fun _ => rfl)
    (fun pre W => (W.cell? ⟨w.heap.size + 1, 0, none⟩ = some (.int .i64 (pre.getLast?.getD (-1))) ∧ W.frozen? ⟨w.heap.size + 1, 0, none⟩ = false) ∧ Below w.heap.size w W)
    (fun _ _ _ => False)
    (OwnFrom.and (Own.from (fun s A B row hs hg hr => ⟨cell_kept hs.1 hg hr, (frozen_kept hs.1 hg hr).trans hs.2⟩) _) (ownFrom_below (Nat.le_refl _) (by simp; omega)))
    (fun _ _ _ _ _ hs _ _ => hs)
    ⟨⟨(bR.alloc _).cell, (bR.alloc _).frozen⟩, hB0⟩
    (fun x => { tmps := #[.agg #[.int .i64 b, .slice sa m cap], .pointer (some ⟨w.heap.size, 0, none⟩), .int .i64 0, .pointer (some ⟨w.heap.size + 1, 0, none⟩), .int .i64 x, .agg #[.int .i64 b, .slice sa m cap], .func (.func 20) #[] #[.pointer (some ⟨w.heap.size + 1 + 1, 0, none⟩)], .int .i64 x, undef, undef], defers := [] }) ?assign ?body ?done ?stop
  case assign =>
    intro l x W K hK
    gi_wp2
    exact hK
  case body =>
    rintro l pre x W ⟨⟨hc, hf⟩, hB⟩ hlen
    gi_wp2
    exact ⟨(KeepsOthers.setCell _ _ _).from _, (Below.refl w.heap.size W).setCell (p := ⟨w.heap.size + 1, 0, none⟩) (by show w.heap.size ≤ w.heap.size + 1; omega) _, ⟨by simpa using World.cell?_setCell_same' W ⟨w.heap.size + 1, 0, none⟩ (.int .i64 x) (by rw [hc]; rfl), by rw [World.frozen?_setCell]; exact hf⟩, hB.setCell (p := ⟨w.heap.size + 1, 0, none⟩) (by show w.heap.size ≤ w.heap.size + 1; omega) _⟩
  case done =>
    rintro D ys W hD rfl ⟨⟨hc, _⟩, hB⟩ hK
    gi_wp2
    refine ⟨by simp, .inl ⟨_, _, rfl, run_takeDeferred hK, ?_⟩⟩
    exact ⟨_, results_tmp rfl _ _ _, rfl, hB.trans (belowK_b (w := w) (Nat.le_refl _) W D _ _ (by simp at hD; omega) hK rfl rfl)⟩
  case stop =>
    rintro D c pre W _ _ h _
    exact h.elim
end Go.Proofs.YtcmnmlginoojkahDoor
