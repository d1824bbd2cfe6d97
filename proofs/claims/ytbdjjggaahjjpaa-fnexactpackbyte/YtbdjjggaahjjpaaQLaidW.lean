/- What is proved here: the program's laid puts vectors one behind the other, in new memory; nothing that was there turns. -/
import Derived.Test.YtbdjjggaahjjpaaQLaidMToEqualW
import Derived.Test.YtbdjjggaahjjpaaQLayUpW
import Derived.Test.YtbdjjggaahjjpaaQWordsForWToNewW
import Derived.Test.YtbdjjggaahjjpaaQVecEqWToBoxAtM
import Derived.Deep.RegionHeld3
namespace Go.Proofs.Ytbdjjggaahjjpaa
open Go.RowKit

theorem boxed_grownL {W W' : World} {b p : Nat} {t : TypeId} {x : Int} {sa : Option Addr} {n cap : Nat} (h : Boxed W p t x sa n cap) (hg : W.grownBy W' (some b)) (hne : p ≠ b) : Boxed W' p t x sa n cap := by
  unfold Boxed
  rw [hg.block p h.lt (fun e => hne (by injection e))]
  exact h
set_option maxHeartbeats 1000000 in
theorem implNewC_any (b : Int) (m : Nat) (w : World) (h0 : 1 ≤ b) (h1 : b ≤ 320) (hm : (m : Int) = (b + 31) / 32) :
    Calls Try.prog 94 #[.int .i64 b] w fun e w' => ∃ g, e = .returned (vecV b (some ⟨g, 0, none⟩) m m) ∧ Below w.heap.size w w' ∧ w.heap.size ≤ g ∧ Own w' g m (fun _ => 0) := by
  have HM : Hid ((m : Int) = (b + 31) / 32) := hm
  have hm1 : m ≤ 10 := by omega
  clear hm
  go_enter Try.func94, Try.ntmps94
  go_wp2_with fail
  refine (wordsFor_any b _ (by omega) h1).mono ?_
  rintro e w1 ⟨rfl, hw⟩
  subst hw
  rw [← HM.out]
  have q3 := boxing w 36 0 none 0 0
  generalize w.alloc (.cells #[.int .i64 0, .slice none 0 0] 36) = v at *
  obtain ⟨u, g, hmk, hg1, hg2, hbu, hown⟩ := make_new v m (by omega)
  have HO : Hid (Own u g m (fun _ => 0)) := hown
  have S : Hid (Since w u) := since_call (since_call (since_refl _) q3.1) hbu
  obtain ⟨cb0, cb1, cb2, cb3⟩ := (q3.2.1.kept hbu rfl).four
  have l1 : w.heap.size < g := by have := q3.2.2; omega
  have l2 : w.heap.size < u.heap.size := by omega
  clear q3 hown hbu hg1
  go_wp2
  refine bodyPost_ret (v := vecV b (some ⟨g, 0, none⟩) m m) (by simp [results, Try.results94, go_sem, vecV, cb0, cb1]) rfl ?_
  exact ⟨g, rfl, (since_set (since_set S.out (by show w.heap.size ≤ w.heap.size; omega)) (by show w.heap.size ≤ w.heap.size; omega)).below, by omega, (HO.out.setOther _ _ (by show w.heap.size ≠ g; omega)).setOther _ _ (by show w.heap.size ≠ g; omega)⟩
set_option maxRecDepth 100000 in
set_option maxHeartbeats 4000000 in
theorem laid_any (sp : Option Addr) (k cp : Nat) (B : Nat → Nat) (s : Nat → Option Addr) (m c : Nat → Nat) (F : Nat → Nat → Int) (R : Nat → Nat → Bool) (w : World) (hk0 : 1 ≤ k) (hk : k ≤ 400) (hT : bitsTo B k ≤ 320) (hr : VecRows w w.heap.size sp k B s m c F) (ho : VecsOk k B m F R) :
    Calls Try.prog 84 #[.slice sp k cp] w fun e w' => ∃ f, NewVec w (bitsTo B k : Int) ((bitsTo B k + 31) / 32) f e w' ∧ VecIs f (layK B R k) ((bitsTo B k + 31) / 32) := by
  have HR : Hid (VecRows w w.heap.size sp k B s m c F) := hr
  have HO : Hid (VecsOk k B m F R) := ho
  have HM : Hid (∀ i, i ≤ k → bitsTo B i ≤ 320) := fun i hi => Nat.le_trans (bitsTo_mono hi) hT
  have B0 : Hid (Below w.heap.size w (w.alloc (.cells #[.int .i64 0, .slice none 0 0] 36))) := (boxing w 36 0 none 0 0).1
  have X0 : Hid (Boxed (w.alloc (.cells #[.int .i64 0, .slice none 0 0] 36)) w.heap.size 36 0 none 0 0) := (boxing w 36 0 none 0 0).2.1
  have hpos : 1 ≤ bitsTo B k := by
    have h1 := ho.pos 0 (by omega)
    have h2 : bitsTo B 1 ≤ bitsTo B k := bitsTo_mono hk0
    have h3 : bitsTo B 1 = B 0 := by simp [bitsTo]
    omega
  clear hr ho
  obtain ⟨T, hTT⟩ : ∃ T, bitsTo B k = T := ⟨_, rfl⟩
  have HT : Hid (bitsTo B k = T) := hTT
  rw [hTT] at hT hpos ⊢
  clear hTT
  go_enter Try.func84, Try.ntmps84
  go_wp2_with fail
  generalize w.alloc (.cells #[.int .i64 0, .slice none 0 0] 36) = w0 at *
  go_loopw [3, 14] (fun cv iv wr => ∃ i : Nat, i ≤ k ∧ cv = .int .i64 (bitsTo B i : Int) ∧ iv = .int .i64 (i : Int) ∧ Below w.heap.size w wr ∧ Boxed wr w.heap.size 36 0 none 0 0) (fun _ iv _ => k - (intOf iv).toNat)
  case atStart => exact ⟨0, Nat.zero_le _, rfl, rfl, B0.out, X0.out⟩
  case round =>
    obtain ⟨i, hik, rfl, rfl, hbel, hx⟩ := hrel
    have HB : Hid (Below w.heap.size w wr) := hbel
    have HX : Hid (Boxed wr w.heap.size 36 0 none 0 0) := hx
    by_cases hil : i < k
    · have hii : (i : Int) < (k : Int) := by omega
      have hi0 : (0 : Int) ≤ (i : Int) := by omega
      obtain ⟨g, off, rfl, hg, hrow⟩ := HR.out.late hbel
      obtain ⟨c0, c1, _⟩ := hrow i hil
      have h1 := HM.out i hik
      have h2 := HM.out (i + 1) hil
      have HS : Hid (bitsTo B (i + 1) = bitsTo B i + B i) := rfl
      obtain ⟨q, hq⟩ : ∃ q, bitsTo B i = q := ⟨_, rfl⟩
      have HQ : Hid (bitsTo B i = q) := hq
      obtain ⟨b, hb9⟩ : ∃ b, B i = b := ⟨_, rfl⟩
      have HBI : Hid (B i = b) := hb9
      rw [hb9] at c0
      rw [hq] at h1 ⊢
      have h3 : q + b ≤ 320 := by rw [← hq, ← hb9]; exact h2
      clear hrow hbel hx hq hb9 h2
      obtain ⟨si, hsi⟩ : ∃ x, s i = x := ⟨_, rfl⟩
      obtain ⟨mi, hmi⟩ : ∃ x, m i = x := ⟨_, rfl⟩
      obtain ⟨ki, hki⟩ : ∃ x, c i = x := ⟨_, rfl⟩
      rw [hsi, hmi, hki] at c1
      clear hsi hmi hki
      go_wp2_with fail
      go_roundw
      case rel => exact ⟨i + 1, by omega, by have h1 := HS.out; have h2 := HQ.out; have h3 := HBI.out; (congr 1; omega), by go_num, HB.out.alloc HB.out.size _, HX.out.kept ((Below.refl wr.heap.size wr).alloc (Nat.le_refl _) _) rfl⟩
      case measure => simp [intOf]; omega
    · have hii : ¬ (i : Int) < (k : Int) := by omega
      obtain rfl : i = k := by omega
      have CN := implNewC_any (T : Int) ((T + 31) / 32) wr (by omega) (by omega) (by omega)
      clear hbel hx
      rw [HT.out]
      go_wp2_with fail
      refine CN.mono ?_
      clear CN
      rintro e w2 ⟨go, rfl, hb, hgl, hoo⟩
      unfold vecV
      have B2 : Hid (Below w.heap.size w w2) := HB.out.trans (hb.mono HB.out.size)
      have X2 : Hid (Boxed w2 w.heap.size 36 0 none 0 0) := HX.out.kept hb rfl
      have O2 : Hid (Own w2 go ((T + 31) / 32) (fun _ => 0)) := hoo
      have Z2 : Hid (w.heap.size < go) := Nat.lt_of_lt_of_le HX.out.lt hgl
      clear hb hoo hgl HB HX
      obtain ⟨hb3, hx3, hz3⟩ := boxing w2 36 (T : Int) (some ⟨go, 0, none⟩) ((T + 31) / 32) ((T + 31) / 32)
      have B3 : Hid (Below w.heap.size w (w2.alloc (.cells #[.int .i64 (T : Int), .slice (some ⟨go, 0, none⟩) ((T + 31) / 32) ((T + 31) / 32)] 36))) := B2.out.trans (hb3.mono B2.out.size)
      have X3 : Hid (Boxed (w2.alloc (.cells #[.int .i64 (T : Int), .slice (some ⟨go, 0, none⟩) ((T + 31) / 32) ((T + 31) / 32)] 36)) w.heap.size 36 0 none 0 0) := X2.out.kept hb3 rfl
      have Y3 : Hid (Boxed (w2.alloc (.cells #[.int .i64 (T : Int), .slice (some ⟨go, 0, none⟩) ((T + 31) / 32) ((T + 31) / 32)] 36)) w2.heap.size 36 (T : Int) (some ⟨go, 0, none⟩) ((T + 31) / 32) ((T + 31) / 32)) := hx3
      have O3 : Hid (Own (w2.alloc (.cells #[.int .i64 (T : Int), .slice (some ⟨go, 0, none⟩) ((T + 31) / 32) ((T + 31) / 32)] 36)) go ((T + 31) / 32) (fun _ => 0)) := O2.out.kept hb3 O2.out.1
      have ZG : Hid (go < w2.heap.size) := O2.out.1
      clear hb3 hx3 hz3 B2 X2 O2
      go_wp2_with fail
      obtain ⟨pv, hpv⟩ : ∃ p, w2.heap.size = p := ⟨_, rfl⟩
      rw [hpv] at Y3 ZG ⊢
      clear hpv
      obtain ⟨M, hMM⟩ : ∃ M, (T + 31) / 32 = M := ⟨_, rfl⟩
      have HMM : Hid ((T + 31) / 32 = M) := hMM
      rw [hMM] at B3 X3 Y3 O3 ⊢
      have hM10 : M ≤ 10 := by omega
      generalize w2.alloc (.cells #[.int .i64 (T : Int), .slice (some ⟨go, 0, none⟩) M M] 36) = w3 at *
      clear hMM
      go_loopw [7, 27] (fun av jv wr => ∃ (j : Nat) (G : Nat → Int), j ≤ i ∧ av = .int .i64 (bitsTo B j : Int) ∧ jv = .int .i64 (j : Int) ∧ Below w.heap.size w wr ∧ Boxed wr w.heap.size 36 0 none 0 0 ∧ Boxed wr pv 36 (T : Int) (some ⟨go, 0, none⟩) M M ∧ Own wr go M G ∧ VecIs G (layK B R j) M) (fun _ jv _ => i - (intOf jv).toNat)
      case atStart => exact ⟨0, fun _ => 0, Nat.zero_le _, rfl, rfl, B3.out, X3.out, Y3.out, O3.out, vecIs_zero M⟩
      case round =>
        obtain ⟨j, G, hji, rfl, rfl, hbel, hx, hy, hG, hV⟩ := hrel
        have HB : Hid (Below w.heap.size w wr) := hbel
        have HX : Hid (Boxed wr w.heap.size 36 0 none 0 0) := hx
        have HY : Hid (Boxed wr pv 36 (T : Int) (some ⟨go, 0, none⟩) M M) := hy
        have HG : Hid (Own wr go M G) := hG
        have HV : Hid (VecIs G (layK B R j) M) := hV
        clear hx hy hG hV
        by_cases hjl : j < i
        · have hjj : (j : Int) < (i : Int) := by omega
          have hj0 : (0 : Int) ≤ (j : Int) := by omega
          obtain ⟨g, off, rfl, hg, hrow⟩ := HR.out.late hbel
          obtain ⟨c0, c1, hrw⟩ := hrow j hjl
          have h1 := HM.out j (by omega)
          have h2 := HM.out (j + 1) hjl
          have HS : Hid (bitsTo B (j + 1) = bitsTo B j + B j) := rfl
          have hbp := HO.out.pos j hjl
          have hml := HO.out.len j hjl
          have hvb := HO.out.bits j hjl
          have hft := HO.out.fit j hjl
          have hTk := bitsTo_mono (B := B) (show j + 1 ≤ i by omega)
          rw [HT.out] at hTk
          -- where the words of this one lie
          have hnot : ∀ bb o9 : Nat, s j = some ⟨bb, o9, none⟩ → bb ≠ go := by
            intro bb o9 e9
            obtain ⟨g8, off8, _, _, hrow8⟩ := HR.out
            rcases (hrow8 j hjl).2.2 with h8 | ⟨b8, o8, h8, h7, _⟩
            · omega
            · rw [h8] at e9
              injection e9 with e9
              injection e9 with e9
              have := Z2.out
              omega
          have LU := fun (W : World) (hW : Own W go M G) (hR9 : Row W W.heap.size (s j) (m j) (F j)) => layUp_any go (bitsTo B j / 32) ((bitsTo B j + B j + 31) / 32 - bitsTo B j / 32) ((bitsTo B j + B j + 31) / 32 - bitsTo B j / 32) M (m j) (c j) (bitsTo B j % 32) (s j) G (F j) (layK B R j) (R j) W (by omega) (by omega) (by rw [hml]; omega) (by have := HMM.out; have := HS.out; omega) hW hR9 hnot HV.out hvb (fun q9 hq9 => by have := hft q9 hq9; omega)
          have HLU : Hid (∀ (W : World), Own W go M G → Row W W.heap.size (s j) (m j) (F j) → Calls Try.prog 96 #[.slice (some ⟨go, bitsTo B j / 32, none⟩) ((bitsTo B j + B j + 31) / 32 - bitsTo B j / 32) ((bitsTo B j + B j + 31) / 32 - bitsTo B j / 32), .slice (s j) (m j) (c j), .int .i64 ((bitsTo B j % 32 : Nat) : Int)] W fun e w' => e = .returned (.tuple #[]) ∧ W.grownBy w' (some go) ∧ ∃ F', Own w' go M F' ∧ VecIs F' (layK B R (j + 1)) M) := fun W h3 h4 => (LU W h3 h4).mono (fun _ _ ⟨e1, e2, F', e3, e4⟩ => ⟨e1, e2, F', e3, e4.congr (fun j9 => by
            rw [show 32 * (bitsTo B j / 32) + bitsTo B j % 32 = bitsTo B j by omega]
            exact layK_next (by rw [hml]; omega) hft j9)⟩)
          clear LU hnot hvb hft hbel hrow
          have HRW : Hid (Row wr wr.heap.size (s j) (m j) (F j)) := hrw
          obtain ⟨q, hq⟩ : ∃ q, bitsTo B j = q := ⟨_, rfl⟩
          have HQ : Hid (bitsTo B j = q) := hq
          obtain ⟨b, hb9⟩ : ∃ b, B j = b := ⟨_, rfl⟩
          have HBI : Hid (B j = b) := hb9
          obtain ⟨si, hsi⟩ : ∃ x, s j = x := ⟨_, rfl⟩
          obtain ⟨mi, hmi⟩ : ∃ x, m j = x := ⟨_, rfl⟩
          obtain ⟨ki, hki⟩ : ∃ x, c j = x := ⟨_, rfl⟩
          have h3 : q + b ≤ T := by rw [← hq, ← hb9]; exact hTk
          rw [hb9] at c0 hbp
          rw [hq] at h1 ⊢
          rw [hq, hb9, hsi, hmi, hki] at HLU
          rw [hsi, hmi, hki] at c1
          rw [hsi, hmi] at HRW
          clear hrw hq hb9 h2 hTk hsi hmi hki hml
          obtain ⟨hb4, hx4, hz4⟩ := boxing wr 36 (b : Int) si mi ki
          have HB4 : Hid (Below w.heap.size w (wr.alloc (.cells #[.int .i64 (b : Int), .slice si mi ki] 36))) := HB.out.trans (hb4.mono HB.out.size)
          have HX4 : Hid (Boxed (wr.alloc (.cells #[.int .i64 (b : Int), .slice si mi ki] 36)) w.heap.size 36 0 none 0 0) := HX.out.kept hb4 rfl
          have HY4 : Hid (Boxed (wr.alloc (.cells #[.int .i64 (b : Int), .slice si mi ki] 36)) pv 36 (T : Int) (some ⟨go, 0, none⟩) M M) := HY.out.kept hb4 rfl
          have HG4 : Hid (Own (wr.alloc (.cells #[.int .i64 (b : Int), .slice si mi ki] 36)) go M G) := HG.out.kept hb4 HG.out.1
          have HW4 : Hid (Row (wr.alloc (.cells #[.int .i64 (b : Int), .slice si mi ki] 36)) (wr.alloc (.cells #[.int .i64 (b : Int), .slice si mi ki] 36)).heap.size si mi (F j)) := (HRW.out.kept hb4).up hb4.size
          have HQ4 : Hid (Boxed (wr.alloc (.cells #[.int .i64 (b : Int), .slice si mi ki] 36)) wr.heap.size 36 (b : Int) si mi ki) := hx4
          have hpl := HY.out.lt
          have hgl := HG.out.1
          obtain ⟨x0, x1⟩ := HY4.out.cells
          obtain ⟨y0, y1⟩ := HQ4.out.cells
          clear hb4 hx4 hz4 HB HX HY HG HV HRW
          have hq0 : (0 : Int) ≤ (q : Int) := by omega
          have hdiv : (q : Int).tdiv 32 = ((q / 32 : Nat) : Int) := by rw [Int.tdiv_eq_ediv_of_nonneg hq0]; rfl
          have hrem : (q : Int).tmod 32 = ((q % 32 : Nat) : Int) := by rw [Int.tmod_eq_emod_of_nonneg hq0]; rfl
          have hend9 : ((q : Int) + (b : Int) + 31) / 32 = (((q + b + 31) / 32 : Nat) : Int) := by omega
          go_wp2_with fail
          refine (wordsFor_any _ _ (by omega) (by omega)).mono ?_
          rintro e w5 ⟨rfl, hw5⟩
          subst hw5
          rw [hend9]
          obtain ⟨y, hyy⟩ : ∃ y, wr.heap.size = y := ⟨_, rfl⟩
          rw [hyy] at HQ4 y0 y1 hpl hgl ⊢
          generalize wr.alloc (.cells #[.int .i64 (b : Int), .slice si mi ki] 36) = w4 at *
          obtain ⟨lo, hlo⟩ : ∃ lo, q / 32 = lo := ⟨_, rfl⟩
          obtain ⟨en, hen⟩ : ∃ en, (q + b + 31) / 32 = en := ⟨_, rfl⟩
          obtain ⟨up, hup⟩ : ∃ up, q % 32 = up := ⟨_, rfl⟩
          have hle : lo < en := by omega
          have heM : en ≤ M := by have := HMM.out; omega
          rw [hlo, hen, hup] at HLU
          rw [hlo] at hdiv
          rw [hup] at hrem
          rw [hen]
          have hlo2 : (q : Int) / 32 = (lo : Int) := by omega
          have hdy : pv ≠ y := by omega
          have hdy2 : y ≠ pv := by omega
          have hgy : go ≠ y := by omega
          have hgpv := ZG.out
          have hpg : pv ≠ go := by omega
          have hyg : y ≠ go := by omega
          have HLO : Hid (q / 32 = lo ∧ (q + b + 31) / 32 = en ∧ q % 32 = up) := ⟨hlo, hen, hup⟩
          clear hlo hen hup hyy
          have hl0 : (0 : Int) ≤ (lo : Int) := by omega
          have hl1 : (lo : Int) ≤ (en : Int) := by omega
          have hl2 : (en : Int) ≤ (M : Int) := by omega
          have hne1 : ¬ en - lo = 0 := by omega
          have hne2 : ¬ en = lo := by omega
          have CC : Hid (Calls Try.prog 96 #[.slice (some ⟨go, lo, none⟩) (en - lo) (en - lo), .slice si mi ki, .int .i64 (up : Int)] w4.drew fun e w' => e = .returned (.tuple #[]) ∧ w4.drew.grownBy w' (some go) ∧ ∃ F', Own w' go M F' ∧ VecIs F' (layK B R (j + 1)) M) := HLU.out w4.drew HG4.out.drew ((HW4.out.kept (Below.refl _ _).drew).up (Nat.le_refl _))
          go_wp2_with fail
          go_region_held3 (fun W => W.cell? ⟨pv, 1, none⟩ = some (.slice (some ⟨go, 0, none⟩) M M) ∧ W.cell? ⟨y, 1, none⟩ = some (.slice si mi ki)) (go_keep) (first | (go_at_call 96; refine CC.out.mono ?_; rintro e w6 ⟨rfl, hgr6, F6, hO6, hV6⟩; have GR6 : Hid (w4.grownBy w6 (some go)) := ⟨hgr6.os, hgr6.tape, hgr6.output, hgr6.size, hgr6.block⟩; have Y6 : Hid (Boxed w6 pv 36 (T : Int) (some ⟨go, 0, none⟩) M M) := boxed_grownL HY4.out GR6.out hpg; have Q6 : Hid (Boxed w6 y 36 (b : Int) si mi ki) := boxed_grownL HQ4.out GR6.out hyg; have z0 : w6.cell? ⟨pv, 1, none⟩ = some (.slice (some ⟨go, 0, none⟩) M M) := Y6.out.cells.2; have z1 : w6.cell? ⟨y, 1, none⟩ = some (.slice si mi ki) := Q6.out.cells.2; have O6 : Hid (Own w6 go M F6 ∧ VecIs F6 (layK B R (j + 1)) M) := ⟨hO6, hV6⟩; clear hgr6 hO6 hV6))
          clear z0 z1 x0 x1 y0 y1
          obtain ⟨y0, y1⟩ := Q6.out.cells
          go_wp2_with fail
          go_roundw
          case rel => exact ⟨j + 1, F6, by omega, by have h1 := HS.out; have h2 := HQ.out; have h3 := HBI.out; (congr 1; omega), by go_num, HB4.out.trans (by
            refine ⟨GR6.out.os, GR6.out.tape, GR6.out.output, GR6.out.size, fun k9 hk9 => GR6.out.block k9 (by have := HB4.out.size; omega) (fun e => by injection e with e; have := Z2.out; omega)⟩ : Below w.heap.size w4 w6), boxed_grownL HX4.out GR6.out (by have := Z2.out; omega), Y6.out, O6.out.1, O6.out.2⟩
          case measure => simp [intOf]; omega
        · have hjj : ¬ (j : Int) < (i : Int) := by omega
          obtain rfl : j = i := by omega
          obtain ⟨x0, x1, xf0, xf1⟩ := HX.out.four
          obtain ⟨y0, y1⟩ := HY.out.cells
          clear hbel
          go_wp2_with fail
          have hne : ∀ {x y : Nat}, x ≠ y → (⟨w.heap.size, x, none⟩ : Addr) ≠ ⟨w.heap.size, y, none⟩ := fun hxy hh => hxy (by injection hh)
          have r0 : ((wr.setCell ⟨w.heap.size, 0, none⟩ (.int .i64 (T : Int))).setCell ⟨w.heap.size, 1, none⟩ (.slice (some ⟨go, 0, none⟩) M M)).cell? ⟨w.heap.size, 0, none⟩ = some (.int .i64 (T : Int)) := by
            rw [World.cell?_setCell_other _ _ _ _ (hne (by decide))]
            exact World.cell?_setCell_same _ _ _ x0
          have r1 : ((wr.setCell ⟨w.heap.size, 0, none⟩ (.int .i64 (T : Int))).setCell ⟨w.heap.size, 1, none⟩ (.slice (some ⟨go, 0, none⟩) M M)).cell? ⟨w.heap.size, 1, none⟩ = some (.slice (some ⟨go, 0, none⟩) M M) :=
            World.cell?_setCell_same _ _ _ (by rw [World.cell?_setCell_other _ _ _ _ (hne (by decide))]; exact x1)
          have hbl := (HB.out.setCell (p := ⟨w.heap.size, 0, none⟩) (Nat.le_refl _) (.int .i64 (T : Int))).setCell (p := ⟨w.heap.size, 1, none⟩) (Nat.le_refl _) (.slice (some ⟨go, 0, none⟩) M M)
          have hzz := Z2.out
          have hoo := (HG.out.setOther ⟨w.heap.size, 0, none⟩ (.int .i64 (T : Int)) (by show w.heap.size ≠ go; omega)).setOther ⟨w.heap.size, 1, none⟩ (.slice (some ⟨go, 0, none⟩) M M) (by show w.heap.size ≠ go; omega)
          generalize (wr.setCell ⟨w.heap.size, 0, none⟩ (.int .i64 (T : Int))).setCell ⟨w.heap.size, 1, none⟩ (.slice (some ⟨go, 0, none⟩) M M) = w9 at *
          refine bodyPost_ret (v := vecV (T : Int) (some ⟨go, 0, none⟩) M M) (by simp [results, Try.results84, go_sem, vecV, r0, r1]) rfl ?_
          rw [HMM.out]
          exact ⟨G, ⟨_, _, rfl, hbl, Or.inr ⟨go, rfl, by omega, hoo⟩⟩, HV.out⟩
end Go.Proofs.Ytbdjjggaahjjpaa
