/- What is proved here: the program's laidOf, over rows of cells, lays what is told of each one behind the other, in new memory; nothing that was there turns. -/
import Derived.Test.YtbdjjggaahjjpaaQLaidW
import Derived.Test.YtbdjjggaahjjpaaQPartM
import Derived.Test.YtbdjjggaahjjpaaQCCRowMToRowsD
import Derived.Deep.RegionHeld3
namespace Go.Proofs.Ytbdjjggaahjjpaa
open Go.RowKit

set_option maxRecDepth 100000 in
set_option maxHeartbeats 4000000 in
theorem laidOfC_any (sr : Option Addr) (k cr pa pb : Nat) (s : Nat → Option Addr) (n c : Nat → Nat) (f : Nat → Nat → Cel) (B m : Nat → Nat) (R : Nat → Nat → Bool) (w : World) (hk0 : 1 ≤ k) (hk : k ≤ 6) (hT : bitsTo B k ≤ 320) (hB : ∀ i, i < k → 1 ≤ B i) (hm : ∀ i, i < k → m i = (B i + 31) / 32) (hR : ∀ i, i < k → ∀ q, R i q = true → q < B i) (hr : CCRows w w.heap.size sr k s n c f)
    (hf : ∀ i, i < k → ∀ W, Below w.heap.size w W → Calls Try.prog 64 #[.slice (s i) (n i) (c i), .pointer (some ⟨pa, 0, none⟩), .pointer (some ⟨pb, 0, none⟩)] W fun e W' => ∃ g, NewVec W (B i : Int) (m i) g e W' ∧ VecIs g (R i) (m i)) :
    Calls Try.prog 63 #[.slice sr k cr, .func (.func 64) #[] #[.pointer (some ⟨pa, 0, none⟩), .pointer (some ⟨pb, 0, none⟩)]] w fun e w' => ∃ g, NewVec w (bitsTo B k : Int) ((bitsTo B k + 31) / 32) g e w' ∧ VecIs g (layK B R k) ((bitsTo B k + 31) / 32) := by
  have HR : Hid (CCRows w w.heap.size sr k s n c f) := hr
  have HF : Hid (∀ i, i < k → ∀ W, Below w.heap.size w W → Calls Try.prog 64 #[.slice (s i) (n i) (c i), .pointer (some ⟨pa, 0, none⟩), .pointer (some ⟨pb, 0, none⟩)] W fun e W' => ∃ g, NewVec W (B i : Int) (m i) g e W' ∧ VecIs g (R i) (m i)) := hf
  have HB9 : Hid (∀ i, i < k → 1 ≤ B i) := hB
  have HM9 : Hid (∀ i, i < k → m i = (B i + 31) / 32) := hm
  have HR9 : Hid (∀ i, i < k → ∀ q, R i q = true → q < B i) := hR
  have HT9 : Hid (bitsTo B k ≤ 320) := hT
  have B0 : Hid (Below w.heap.size w (w.alloc (.cells #[.int .i64 0, .slice none 0 0] 36))) := (boxing w 36 0 none 0 0).1
  have X0 : Hid (Boxed (w.alloc (.cells #[.int .i64 0, .slice none 0 0] 36)) w.heap.size 36 0 none 0 0) := (boxing w 36 0 none 0 0).2.1
  have Z0 : Hid ((w.alloc (.cells #[.int .i64 0, .slice none 0 0] 36)).heap.size = w.heap.size + 1) := (boxing w 36 0 none 0 0).2.2
  obtain ⟨C0, hmk, hpt⟩ := make_vecs (w.alloc (.cells #[.int .i64 0, .slice none 0 0] 36)) k (by omega)
  have HPT : Hid (∀ B s m c F, PartTo ((w.alloc (.cells #[.int .i64 0, .slice none 0 0] 36)).alloc (.cells C0 36)) (w.alloc (.cells #[.int .i64 0, .slice none 0 0] 36)).heap.size (w.alloc (.cells #[.int .i64 0, .slice none 0 0] 36)).heap.size k 0 B s m c F) := hpt
  obtain ⟨Post, hPost⟩ : ∃ P : Ending → World → Prop, (fun e w' => ∃ g, NewVec w (bitsTo B k : Int) ((bitsTo B k + 31) / 32) g e w' ∧ VecIs g (layK B R k) ((bitsTo B k + 31) / 32)) = P := ⟨_, rfl⟩
  have HPO : Hid ((fun e w' => ∃ g, NewVec w (bitsTo B k : Int) ((bitsTo B k + 31) / 32) g e w' ∧ VecIs g (layK B R k) ((bitsTo B k + 31) / 32)) = Post) := hPost
  rw [hPost]
  clear hr hf hB hm hR hT hpt hPost
  go_enter Try.func63, Try.ntmps63
  go_wp2_with fail
  clear hmk
  have hz0 := Z0.out
  rw [hz0] at HPT
  have B1 : Hid (Below w.heap.size w ((w.alloc (.cells #[.int .i64 0, .slice none 0 0] 36)).alloc (.cells C0 36))) := B0.out.alloc B0.out.size _
  have X1 : Hid (Boxed ((w.alloc (.cells #[.int .i64 0, .slice none 0 0] 36)).alloc (.cells C0 36)) w.heap.size 36 0 none 0 0) := X0.out.kept ((Below.refl _ _).alloc (Nat.le_refl _) _) rfl
  generalize (w.alloc (.cells #[.int .i64 0, .slice none 0 0] 36)).alloc (.cells C0 36) = w1 at *
  clear hz0 B0 X0 Z0
  go_loopw [13] (fun iv wr => ∃ (i : Nat) (sv : Nat → Option Addr) (cv : Nat → Nat) (F : Nat → Nat → Int), i ≤ k ∧ iv = .int .i64 (i : Int) ∧ Below w.heap.size w wr ∧ Boxed wr w.heap.size 36 0 none 0 0 ∧ PartTo wr (w.heap.size + 1) (w.heap.size + 1) k i B sv m cv F ∧ ∀ j, j < i → VecIs (F j) (R j) (m j)) (fun iv _ => k - (intOf iv).toNat)
  case atStart => exact ⟨0, fun _ => none, fun _ => 0, fun _ _ => 0, Nat.zero_le _, rfl, B1.out, X1.out, HPT.out B _ m _ _, fun j hj => absurd hj (Nat.not_lt_zero _)⟩
  case round =>
    obtain ⟨i, sv, cv, F, hik, rfl, hbel, hx, hpt, hvs⟩ := hrel
    have HB : Hid (Below w.heap.size w wr) := hbel
    have HX : Hid (Boxed wr w.heap.size 36 0 none 0 0) := hx
    have HP : Hid (PartTo wr (w.heap.size + 1) (w.heap.size + 1) k i B sv m cv F) := hpt
    have HV : Hid (∀ j, j < i → VecIs (F j) (R j) (m j)) := hvs
    clear hx hpt hvs
    by_cases hil : i < k
    · have hii : (i : Int) < (k : Int) := by omega
      have hi0 : (0 : Int) ≤ (i : Int) := by omega
      obtain ⟨bb, off, rfl, hbb, ci, _⟩ := (HR.out.late hbel).at hil
      have CC : Hid (Calls Try.prog 64 #[.slice (s i) (n i) (c i), .pointer (some ⟨pa, 0, none⟩), .pointer (some ⟨pb, 0, none⟩)] wr fun e W' => ∃ g, NewVec wr (B i : Int) (m i) g e W' ∧ VecIs g (R i) (m i)) := HF.out i hil wr hbel
      obtain ⟨v0, hv0⟩ := HP.out.there (i * 2) (by omega)
      obtain ⟨v1, hv1⟩ := HP.out.there (i * 2 + 1) (by omega)
      have hf0 := HP.out.free (i * 2)
      have hf1 := HP.out.free (i * 2 + 1)
      have hpl := HP.out.lt
      clear hbel
      obtain ⟨si, hsi⟩ : ∃ x, s i = x := ⟨_, rfl⟩
      obtain ⟨ni, hni⟩ : ∃ x, n i = x := ⟨_, rfl⟩
      obtain ⟨c9, hc9⟩ : ∃ x, c i = x := ⟨_, rfl⟩
      rw [hsi, hni, hc9] at ci CC
      clear hsi hni hc9
      go_wp2_with fail
      refine CC.out.mono ?_
      rintro e w5 ⟨g5, ⟨s5, c5, rfl, hb5, ho5⟩, hv5⟩
      unfold vecV
      have B5 : Hid (Below wr.heap.size wr w5) := hb5
      have O5 : Hid (OwnS w5 wr.heap.size s5 (m i) g5) := ho5
      have V5 : Hid (VecIs g5 (R i) (m i)) := hv5
      have hv05 := (B5.out.cell (p := ⟨w.heap.size + 1, i * 2, none⟩) hpl).trans hv0
      have hv15 := (B5.out.cell (p := ⟨w.heap.size + 1, i * 2 + 1, none⟩) hpl).trans hv1
      have hf05 := (B5.out.frozen (p := ⟨w.heap.size + 1, i * 2, none⟩) hpl).trans hf0
      have hf15 := (B5.out.frozen (p := ⟨w.heap.size + 1, i * 2 + 1, none⟩) hpl).trans hf1
      clear hb5 ho5 hv5
      all_goals
        go_wp2_with fail
        go_roundw
        case rel =>
          have hN := (HP.out.kept B5.out).next hil s5 c5 g5 (O5.out.imp id (fun ⟨b, h1, h2, h3⟩ => ⟨b, h1, by omega, h3⟩))
          exact ⟨i + 1, _, _, _, by omega, by go_num, ((HB.out.trans (B5.out.mono HB.out.size)).setCell (by show w.heap.size ≤ w.heap.size + 1; omega) _).setCell (by show w.heap.size ≤ w.heap.size + 1; omega) _, ((HX.out.kept B5.out rfl).setOther _ _ (by show w.heap.size + 1 ≠ w.heap.size; omega)).setOther _ _ (by show w.heap.size + 1 ≠ w.heap.size; omega), hN, fun j hj => by
            by_cases e : j = i
            · subst e; simp only [if_pos]; exact V5.out
            · simp only [if_neg e]; exact HV.out j (by omega)⟩
        case measure => simp [intOf]; omega
    · have hii : ¬ (i : Int) < (k : Int) := by omega
      obtain rfl : i = k := by omega
      clear hbel
      have CL := laid_any (some ⟨w.heap.size + 1, 0, none⟩) i i B sv m cv F R wr hk0 (by omega) HT9.out HP.out.read ⟨HB9.out, HM9.out, HV.out, HR9.out⟩
      go_wp2_with fail
      refine CL.mono ?_
      clear CL
      rintro e w5 ⟨g5, ⟨s5, c5, rfl, hb5, ho5⟩, hv5⟩
      unfold vecV
      have B5 : Hid (Below w.heap.size w w5) := HB.out.trans (hb5.mono HB.out.size)
      have O5 : Hid (OwnS w5 wr.heap.size s5 ((bitsTo B i + 31) / 32) g5) := ho5
      have X5 : Hid (Boxed w5 w.heap.size 36 0 none 0 0) := HX.out.kept hb5 rfl
      have Z5 : Hid (w.heap.size < wr.heap.size) := HX.out.lt
      clear hb5 ho5 HP
      obtain ⟨x0, x1, xf0, xf1⟩ := X5.out.four
      obtain ⟨T, hTT⟩ : ∃ T, bitsTo B i = T := ⟨_, rfl⟩
      have HTT : Hid (bitsTo B i = T) := hTT
      rw [hTT] at O5 hv5 ⊢
      clear hTT
      go_wp2_with fail
      have hne : ∀ {x y : Nat}, x ≠ y → (⟨w.heap.size, x, none⟩ : Addr) ≠ ⟨w.heap.size, y, none⟩ := fun hxy hh => hxy (by injection hh)
      have r0 : ((w5.setCell ⟨w.heap.size, 0, none⟩ (.int .i64 (T : Int))).setCell ⟨w.heap.size, 1, none⟩ (.slice s5 ((T + 31) / 32) c5)).cell? ⟨w.heap.size, 0, none⟩ = some (.int .i64 (T : Int)) := by
        rw [World.cell?_setCell_other _ _ _ _ (hne (by decide))]
        exact World.cell?_setCell_same _ _ _ x0
      have r1 : ((w5.setCell ⟨w.heap.size, 0, none⟩ (.int .i64 (T : Int))).setCell ⟨w.heap.size, 1, none⟩ (.slice s5 ((T + 31) / 32) c5)).cell? ⟨w.heap.size, 1, none⟩ = some (.slice s5 ((T + 31) / 32) c5) :=
        World.cell?_setCell_same _ _ _ (by rw [World.cell?_setCell_other _ _ _ _ (hne (by decide))]; exact x1)
      have hbl := (B5.out.setCell (p := ⟨w.heap.size, 0, none⟩) (Nat.le_refl _) (.int .i64 (T : Int))).setCell (p := ⟨w.heap.size, 1, none⟩) (Nat.le_refl _) (.slice s5 ((T + 31) / 32) c5)
      have hzz := Z5.out
      have hoo : OwnS ((w5.setCell ⟨w.heap.size, 0, none⟩ (.int .i64 (T : Int))).setCell ⟨w.heap.size, 1, none⟩ (.slice s5 ((T + 31) / 32) c5)) w.heap.size s5 ((T + 31) / 32) g5 := O5.out.imp id (fun ⟨b, h1, h2, h3⟩ => ⟨b, h1, by omega, (h3.setOther _ _ (by show w.heap.size ≠ b; omega)).setOther _ _ (by show w.heap.size ≠ b; omega)⟩)
      generalize (w5.setCell ⟨w.heap.size, 0, none⟩ (.int .i64 (T : Int))).setCell ⟨w.heap.size, 1, none⟩ (.slice s5 ((T + 31) / 32) c5) = w9 at *
      refine bodyPost_ret (v := vecV (T : Int) s5 ((T + 31) / 32) c5) (by simp [results, Try.results63, go_sem, vecV, r0, r1]) rfl ?_
      rw [← HPO.out, HTT.out]
      exact ⟨g5, ⟨_, _, rfl, hbl, hoo⟩, hv5⟩
end Go.Proofs.Ytbdjjggaahjjpaa
