/- What is proved here: the specification's l02Cut turns the bits behind the last off, in the vector's own words. -/
import Derived.Test.YtlgnplnmcdjbiaaQVecCopyW
import Derived.Test.YtlgnplnmcdjbiaaQVecFToWordsForW
import Derived.BigRegion
namespace Go.Proofs.Ytlgnplnmcdjbiaa
open Go.RowKit

theorem grown_setNew {w W : World} {row : Option Nat} {p : Addr} {v : Value} (h : w.grownBy W row) (hp : w.heap.size ≤ p.block) : w.grownBy (W.setCell p v) row :=
  ⟨h.os, h.tape, h.output, by simpa [World.setCell] using h.size, fun k hk hr => by rw [Below.heap_setCell _ _ _ _ (fun e => by omega)]; exact h.block k hk hr⟩
theorem pow_over (b : Int) (h0 : 0 < b % 32) : ∃ P : Int, (2 : Int) ^ (b % 32).toNat = P ∧ 0 < P ∧ P ≤ 2147483648 := by
  refine ⟨_, rfl, Int.pow_pos (by decide), ?_⟩
  have h : (b % 32).toNat ≤ 31 := by omega
  have e : (2 : Int) ^ (b % 32).toNat = ((2 ^ (b % 32).toNat : Nat) : Int) := by simp
  have h2 : 2 ^ (b % 32).toNat ≤ 2 ^ 31 := Nat.pow_le_pow_right (by decide) h
  rw [e]
  omega

set_option maxRecDepth 100000 in
set_option maxHeartbeats 4000000 in
theorem cut_any (b : Int) (g n cap : Nat) (f : Nat → Int) (w : World) (hb1 : 1 ≤ b) (hb2 : b ≤ 320) (hn0 : 0 < n) (hn : n ≤ 1048576) (ho : Own w g n f) (hf : ∀ i, i < n → 0 ≤ f i) :
    Calls Try.prog 184 #[.agg #[.int .i64 b, .slice (some ⟨g, 0, none⟩) n cap]] w fun e w' => e = .returned (vecV b (some ⟨g, 0, none⟩) n cap) ∧ w.grownBy w' (some g) ∧ Own w' g n (cutF b n f) := by
  obtain ⟨m, rfl⟩ : ∃ m, n = m + 1 := ⟨n - 1, by omega⟩
  have hfm := hf m (by omega)
  have hglt := ho.1
  have HO : Hid (Own w g (m + 1) f) := ho
  clear hf ho
  go_enter Try.func184, Try.ntmps184
  have q1 := boxing w 45 b (some ⟨g, 0, none⟩) (m + 1) cap
  have q2 := boxing (w.alloc (.cells #[.int .i64 b, .slice (some ⟨g, 0, none⟩) (m + 1) cap] 45)) 45 0 none 0 0
  have hgr : w.grownBy ((w.alloc (.cells #[.int .i64 b, .slice (some ⟨g, 0, none⟩) (m + 1) cap] 45)).alloc (.cells #[.int .i64 0, .slice none 0 0] 45)) (some g) := (World.grownBy_alloc w _ _).trans (World.grownBy_alloc _ _ _)
  go_upto_region 1 with fail
  generalize w.alloc (.cells #[.int .i64 b, .slice (some ⟨g, 0, none⟩) (m + 1) cap] 45) = v1 at *
  generalize v1.alloc (.cells #[.int .i64 0, .slice none 0 0] 45) = v2 at *
  have X1 : Hid (Boxed v2 w.heap.size 45 b (some ⟨g, 0, none⟩) (m + 1) cap) := q1.2.1.kept q2.1 rfl
  have X2 : Hid (Boxed v2 (w.heap.size + 1) 45 0 none 0 0) := by rw [← q1.2.2]; exact q2.2.1
  have HG : Hid (w.grownBy v2 (some g)) := hgr
  have ho2 : Own v2 g (m + 1) f := (HO.out.kept q1.1 hglt).kept q2.1 (by rw [q1.2.2]; omega)
  have H2 : Hid (Own v2 g (m + 1) f) := ho2
  obtain ⟨ca0, ca1⟩ := X1.out.cells
  obtain ⟨cb0, cb1, cb2, cb3⟩ := X2.out.four
  have cy := ho2.2.1 m (by omega)
  have cf := ho2.2.2 m (by omega)
  have lg := ho2.1
  have l1 := X1.out.lt
  have l2 := X2.out.lt
  clear q1 q2 hgr ho2 HO
  by_cases h0 : b % 32 = 0
  · go_wp2
    refine bodyPost_ret (v := vecV b (some ⟨g, 0, none⟩) (m + 1) cap) (by simp [results, Try.results184, go_sem, vecV, cb0, cb1]) rfl ?_
    exact ⟨rfl, grown_setNew (grown_setNew HG.out (by show w.heap.size ≤ w.heap.size + 1; omega)) (by show w.heap.size ≤ w.heap.size + 1; omega), ((H2.out.congr (fun i hi => by unfold cutF; rw [if_neg (by omega)])).setOther _ _ (by show w.heap.size + 1 ≠ g; omega)).setOther _ _ (by show w.heap.size + 1 ≠ g; omega)⟩
  · have h1 : 0 < b % 32 := by omega
    obtain ⟨P, hP, hP0, hP1⟩ := pow_over b h1
    have hw : wrap64 P = P := by unfold wrap64; omega
    have hlt : (m : Int) < (m : Int) + 1 := by omega
    go_wp2
    go_region
    have Y1 : Hid (Boxed (v2.setCell ⟨g, m, none⟩ (.int .i64 (f m % P))).drew w.heap.size 45 b (some ⟨g, 0, none⟩) (m + 1) cap) := X1.out.setOther _ _ (by show g ≠ w.heap.size; omega)
    have Y2 : Hid (Boxed (v2.setCell ⟨g, m, none⟩ (.int .i64 (f m % P))).drew (w.heap.size + 1) 45 0 none 0 0) := X2.out.setOther _ _ (by show g ≠ w.heap.size + 1; omega)
    have G3 : Hid (w.grownBy (v2.setCell ⟨g, m, none⟩ (.int .i64 (f m % P))).drew (some g)) := only_drawn (only_set HG.out)
    have O3 : Hid (Own (v2.setCell ⟨g, m, none⟩ (.int .i64 (f m % P))).drew g (m + 1) (cutF b (m + 1) f)) := (H2.out.set (by omega) (f m % P)).congr (fun i hi => by
      unfold cutF
      by_cases e : i = m
      · subst e
        simp [h1, hP]
      · simp [e])
    clear ca0 ca1 cb0 cb1 cb2 cb3 cy cf lg l1 l2 X1 X2 HG H2
    generalize (v2.setCell ⟨g, m, none⟩ (.int .i64 (f m % P))).drew = v3 at *
    obtain ⟨ca0, ca1⟩ := Y1.out.cells
    obtain ⟨cb0, cb1, cb2, cb3⟩ := Y2.out.four
    go_wp2
    refine bodyPost_ret (v := vecV b (some ⟨g, 0, none⟩) (m + 1) cap) (by simp [results, Try.results184, go_sem, vecV, cb0, cb1]) rfl ?_
    exact ⟨rfl, grown_setNew (grown_setNew G3.out (by show w.heap.size ≤ w.heap.size + 1; omega)) (by show w.heap.size ≤ w.heap.size + 1; omega), (O3.out.setOther _ _ (by show w.heap.size + 1 ≠ g; omega)).setOther _ _ (by show w.heap.size + 1 ≠ g; omega)⟩
end Go.Proofs.Ytlgnplnmcdjbiaa
