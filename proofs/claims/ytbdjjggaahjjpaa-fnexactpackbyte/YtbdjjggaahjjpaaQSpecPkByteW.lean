/- What is proved here: the specification's PackByte tells the places of all rows, one behind the other, or nothing, in new memory; nothing that was there turns. -/
import Derived.Test.YtbdjjggaahjjpaaQSpecLayW
import Derived.Test.YtbdjjggaahjjpaaQSpecPkRightW
import Derived.Test.YtbdjjggaahjjpaaQSpecKVecW
import Derived.Test.YtbdjjggaahjjpaaQImplPkByteW
import Derived.Test.YtbdjjggaahjjpaaQWordsWToL02SetW
namespace Go.Proofs.Ytbdjjggaahjjpaa
open Go.RowKit

theorem owns_ofNew {w : World} {n : Nat} {s : Option Addr} {f : Nat → Int} {lo : Nat} (h : OwnS w lo s n f) (hn : 0 < n) : ∃ g, s = some ⟨g, 0, none⟩ ∧ lo ≤ g ∧ Own w g n f := by
  rcases h with h | h
  · omega
  · exact h
theorem cell_grownT {W W' : World} {b : Nat} {p : Addr} (hg : W.grownBy W' (some b)) (hp : p.block < W.heap.size) (hne : p.block ≠ b) : W'.cell? p = W.cell? p := by
  have h := hg.block p.block hp (fun e => hne (by injection e))
  simp [World.cell?, h]
open Classical in
set_option maxRecDepth 100000 in
set_option maxHeartbeats 4000000 in
theorem specPkByte_any (sr sm : Option Addr) (cr cm : Nat) (P : Pk) (en : Int) (lp : Bool) (w : World) (hz : PkSizeS P) (hr : PkRead w sr sm P) :
    Calls Try.prog 27 #[.agg #[.slice sr P.k cr, .slice sm P.m cm, .int .i64 P.b], .int .i64 en, .bool lp] w fun e w' => (PkByteP P en ∧ ∃ g, NewVec w P.b ((atP P.n P.k + 31) / 32) g e w' ∧ VecIs g (layK (fun i => P.n i + 1) (rowB P.f P.n en.toNat lp) P.k) ((atP P.n P.k + 31) / 32)) ∨ (¬ PkByteP P en ∧ NewVec w 0 0 (fun _ => 0) e w') := by
  have hb0 : Below w.heap.size w ((w.alloc (.cells #[.slice sr P.k cr, .slice sm P.m cm, .int .i64 P.b] 30)).alloc (.cells #[.int .i64 0, .slice none 0 0] 36)) := ((Below.refl _ _).alloc (Nat.le_refl _) _).alloc (by simp) _
  have C1 := specPackRight_any sr sm cr cm P ((w.alloc (.cells #[.slice sr P.k cr, .slice sm P.m cm, .int .i64 P.b] 30)).alloc (.cells #[.int .i64 0, .slice none 0 0] 36)) hz (hr.late hb0)
  have HB0 : Hid (Below w.heap.size w ((w.alloc (.cells #[.slice sr P.k cr, .slice sm P.m cm, .int .i64 P.b] 30)).alloc (.cells #[.int .i64 0, .slice none 0 0] 36))) := hb0
  have HA : Hid (BoxAt ((w.alloc (.cells #[.slice sr P.k cr, .slice sm P.m cm, .int .i64 P.b] 30)).alloc (.cells #[.int .i64 0, .slice none 0 0] 36)) w.heap.size #[.slice sr P.k cr, .slice sm P.m cm, .int .i64 P.b] 30) := (boxAt_new w _ _).2.1.kept (boxAt_new _ _ _).1
  have HX : Hid (BoxAt ((w.alloc (.cells #[.slice sr P.k cr, .slice sm P.m cm, .int .i64 P.b] 30)).alloc (.cells #[.int .i64 0, .slice none 0 0] 36)) (w.heap.size + 1) #[.int .i64 0, .slice none 0 0] 36) := by
    have h := (boxAt_new (w.alloc (.cells #[.slice sr P.k cr, .slice sm P.m cm, .int .i64 P.b] 30)) #[.int .i64 0, .slice none 0 0] 36).2.1
    exact (by simpa using h : BoxAt _ _ _ _)
  have HCR : Hid (PkRead w sr sm P) := hr
  have HZ : Hid (PkSizeS P) := hz
  obtain ⟨D, hD⟩ : ∃ D, decide (PkOk P) = D := ⟨_, rfl⟩
  have HD : Hid (decide (PkOk P) = D) := hD
  rw [hD] at C1
  obtain ⟨Post, hPost⟩ : ∃ Q : Ending → World → Prop, (fun e w' => (PkByteP P en ∧ ∃ g, NewVec w P.b ((atP P.n P.k + 31) / 32) g e w' ∧ VecIs g (layK (fun i => P.n i + 1) (rowB P.f P.n en.toNat lp) P.k) ((atP P.n P.k + 31) / 32)) ∨ (¬ PkByteP P en ∧ NewVec w 0 0 (fun _ => 0) e w')) = Q := ⟨_, rfl⟩
  have HPO : Hid ((fun e w' => (PkByteP P en ∧ ∃ g, NewVec w P.b ((atP P.n P.k + 31) / 32) g e w' ∧ VecIs g (layK (fun i => P.n i + 1) (rowB P.f P.n en.toNat lp) P.k) ((atP P.n P.k + 31) / 32)) ∨ (¬ PkByteP P en ∧ NewVec w 0 0 (fun _ => 0) e w')) = Post) := hPost
  rw [hPost]
  clear hb0 hr hz hD hPost
  go_enter Try.func27, Try.ntmps27
  have ca0 := HA.out.cell 0 _ rfl
  have ca1 := HA.out.cell 1 _ rfl
  have ca2 := HA.out.cell 2 _ rfl
  go_wp2_with fail
  generalize (w.alloc (.cells #[.slice sr P.k cr, .slice sm P.m cm, .int .i64 P.b] 30)).alloc (.cells #[.int .i64 0, .slice none 0 0] 36) = w4 at *
  refine C1.mono ?_
  clear C1 ca0 ca1 ca2
  rintro e w5 ⟨rfl, hb⟩
  have B5 : Hid (Below w.heap.size w w5) := HB0.out.trans (hb.mono HB0.out.size)
  have A5 : Hid (BoxAt w5 w.heap.size #[.slice sr P.k cr, .slice sm P.m cm, .int .i64 P.b] 30) := HA.out.kept hb
  have X5 : Hid (BoxAt w5 (w.heap.size + 1) #[.int .i64 0, .slice none 0 0] 36) := HX.out.kept hb
  clear hb HB0 HA HX
  have ca0 := A5.out.cell 0 _ rfl
  have ca1 := A5.out.cell 1 _ rfl
  have ca2 := A5.out.cell 2 _ rfl
  have cx0 := X5.out.cell 0 _ rfl
  have cx1 := X5.out.cell 1 _ rfl
  have fx0 := X5.out.free 0
  have fx1 := X5.out.free 1
  have ENDN : Hid (¬ PkByteP P en → Post (.returned (vecV 0 none 0 0)) ((w5.setCell ⟨w.heap.size + 1, 0, none⟩ (.int .i64 0)).setCell ⟨w.heap.size + 1, 1, none⟩ (.slice none 0 0))) := fun h => by
    rw [← HPO.out]
    exact Or.inr ⟨h, none, 0, rfl, (B5.out.setCell (by show w.heap.size ≤ w.heap.size + 1; omega) _).setCell (by show w.heap.size ≤ w.heap.size + 1; omega) _, Or.inl rfl⟩
  have hne : ∀ {x y : Nat}, x ≠ y → (⟨w.heap.size + 1, x, none⟩ : Addr) ≠ ⟨w.heap.size + 1, y, none⟩ := fun hxy hh => hxy (by injection hh)
  have RN : Hid (((w5.setCell ⟨w.heap.size + 1, 0, none⟩ (.int .i64 0)).setCell ⟨w.heap.size + 1, 1, none⟩ (.slice none 0 0)).cell? ⟨w.heap.size + 1, 0, none⟩ = some (.int .i64 0) ∧ ((w5.setCell ⟨w.heap.size + 1, 0, none⟩ (.int .i64 0)).setCell ⟨w.heap.size + 1, 1, none⟩ (.slice none 0 0)).cell? ⟨w.heap.size + 1, 1, none⟩ = some (.slice none 0 0)) := ⟨by rw [World.cell?_setCell_other _ _ _ _ (hne (by decide))]; exact World.cell?_setCell_same _ _ _ cx0, World.cell?_setCell_same _ _ _ (by rw [World.cell?_setCell_other _ _ _ _ (hne (by decide))]; exact cx1)⟩
  cases D with
  | false =>
    have hno : ¬ PkByteP P en := fun h => by have := decide_eq_true h.1; rw [HD.out] at this; cases this
    have HEN : Hid (Post (.returned (vecV 0 none 0 0)) ((w5.setCell ⟨w.heap.size + 1, 0, none⟩ (.int .i64 0)).setCell ⟨w.heap.size + 1, 1, none⟩ (.slice none 0 0))) := ENDN.out hno
    clear hno
    go_wp2_with fail
    obtain ⟨r0, r1⟩ := RN.out
    have hEN := HEN.out
    clear cx0 cx1 fx0 fx1
    generalize (w5.setCell ⟨w.heap.size + 1, 0, none⟩ (.int .i64 0)).setCell ⟨w.heap.size + 1, 1, none⟩ (.slice none 0 0) = w9 at *
    exact bodyPost_ret (v := vecV 0 none 0 0) (by simp [results, Try.results27, go_sem, vecV, r0, r1]) rfl hEN
  | true =>
    have hok : PkOk P := of_decide_eq_true HD.out
    by_cases he : 0 ≤ en ∧ en ≤ 255
    case neg =>
      have hno : ¬ PkByteP P en := fun h => he h.2
      have HEN : Hid (Post (.returned (vecV 0 none 0 0)) ((w5.setCell ⟨w.heap.size + 1, 0, none⟩ (.int .i64 0)).setCell ⟨w.heap.size + 1, 1, none⟩ (.slice none 0 0))) := ENDN.out hno
      have CI := is_no en 0 255 w5 he
      clear hno he hok
      go_wp2_with fail
      refine CI.mono ?_
      rintro e w6 ⟨rfl, hw6⟩
      subst hw6
      clear CI
      go_wp2_with fail
      obtain ⟨r0, r1⟩ := RN.out
      have hEN := HEN.out
      clear cx0 cx1 fx0 fx1 ca0 ca1 ca2
      generalize (w6.setCell ⟨w.heap.size + 1, 0, none⟩ (.int .i64 0)).setCell ⟨w.heap.size + 1, 1, none⟩ (.slice none 0 0) = w9 at *
      exact bodyPost_ret (v := vecV 0 none 0 0) (by simp [results, Try.results27, go_sem, vecV, r0, r1]) rfl hEN
    case pos =>
      have HYES : Hid (PkByteP P en) := ⟨hok, he⟩
      obtain ⟨c, rfl⟩ := Int.eq_ofNat_of_zero_le he.1
      have HOK : Hid (PkOk P) := hok
      have hk1 := hok.1.1
      have hk6 := hok.1.2.1
      have hmk : P.m = P.k := hok.2.1
      have hb9 : P.b = (atP P.n P.k : Int) := hok.2.2.2.1
      have hb320 := hok.2.2.2.2
      have hpos : 1 ≤ atP P.n P.k := by
        have h1 := atP_mono (n := P.n) hk1
        have h2 : atP P.n 1 = P.n 0 + 1 := by rw [atP_succ, atP_zero]; omega
        omega
      have CI := is_yes (c : Int) 0 255 w5 he.1 he.2
      have hc9 : c < 256 := by omega
      obtain ⟨T, hT⟩ : ∃ T, atP P.n P.k = T := ⟨_, rfl⟩
      have HT : Hid (atP P.n P.k = T) := hT
      rw [hT] at hb9 hpos
      have CN := l02New_any P.b ((T + 31) / 32) w5 (by omega) (by omega) (by omega)
      have HB9 : Hid (P.b = (T : Int)) := hb9
      have HMK : Hid (P.m = P.k) := hmk
      have hT320 : T ≤ 320 := by omega
      clear hok he hT hb9 hmk ENDN RN hb320
      go_wp2_with fail
      refine CI.mono ?_
      rintro e w6 ⟨rfl, hw6⟩
      subst hw6
      clear CI
      go_wp2_with fail
      refine CN.mono ?_
      clear CN ca0 ca1 ca2 cx0 cx1 fx0 fx1
      rintro e w7 ⟨s7, c7, rfl, hb7, ho7⟩
      unfold vecV
      obtain ⟨go, rfl, hgl, hoo⟩ := owns_ofNew ho7 (by omega)
      have B7 : Hid (Below w.heap.size w w7) := B5.out.trans (hb7.mono B5.out.size)
      have A7 := A5.out.kept hb7
      have X7 := X5.out.kept hb7
      have hxl := X5.out.lt
      obtain ⟨hb8, hx8, hz8⟩ := boxAt_new w7 #[.int .i64 P.b, .slice (some ⟨go, 0, none⟩) ((T + 31) / 32) c7] 36
      have B8 : Hid (Below w.heap.size w (w7.alloc (.cells #[.int .i64 P.b, .slice (some ⟨go, 0, none⟩) ((T + 31) / 32) c7] 36))) := B7.out.trans (hb8.mono B7.out.size)
      have A8 : Hid (BoxAt (w7.alloc (.cells #[.int .i64 P.b, .slice (some ⟨go, 0, none⟩) ((T + 31) / 32) c7] 36)) w.heap.size #[.slice sr P.k cr, .slice sm P.m cm, .int .i64 P.b] 30) := A7.kept hb8
      have X8 : Hid (BoxAt (w7.alloc (.cells #[.int .i64 P.b, .slice (some ⟨go, 0, none⟩) ((T + 31) / 32) c7] 36)) (w.heap.size + 1) #[.int .i64 0, .slice none 0 0] 36) := X7.kept hb8
      have V8 : Hid (BoxAt (w7.alloc (.cells #[.int .i64 P.b, .slice (some ⟨go, 0, none⟩) ((T + 31) / 32) c7] 36)) w7.heap.size #[.int .i64 P.b, .slice (some ⟨go, 0, none⟩) ((T + 31) / 32) c7] 36) := hx8
      have O8 : Hid (Own (w7.alloc (.cells #[.int .i64 P.b, .slice (some ⟨go, 0, none⟩) ((T + 31) / 32) c7] 36)) go ((T + 31) / 32) (fun _ => 0)) := hoo.kept hb8 hoo.1
      have ZZ : Hid (w.heap.size + 1 < go ∧ go < w7.heap.size) := ⟨by omega, hoo.1⟩
      clear hb7 hgl hoo ho7 A7 X7 hxl hb8 hx8 hz8 B5 A5 X5 B7
      go_wp2_with fail
      obtain ⟨pv, hpv⟩ : ∃ p, w7.heap.size = p := ⟨_, rfl⟩
      rw [hpv] at V8 ZZ ⊢
      obtain ⟨M, hM⟩ : ∃ M, (T + 31) / 32 = M := ⟨_, rfl⟩
      have HM : Hid ((T + 31) / 32 = M) := hM
      rw [hM] at B8 A8 X8 V8 O8 ⊢
      have hM10 : M ≤ 10 := by omega
      generalize w7.alloc (.cells #[.int .i64 P.b, .slice (some ⟨go, 0, none⟩) M c7] 36) = w8 at *
      clear hpv hM
      go_loopw [8] (fun iv wr => ∃ (i : Nat) (G : Nat → Int), i ≤ P.k ∧ iv = .int .i64 (i : Int) ∧ Below w.heap.size w wr ∧ BoxAt wr w.heap.size #[.slice sr P.k cr, .slice sm P.m cm, .int .i64 P.b] 30 ∧ BoxAt wr (w.heap.size + 1) #[.int .i64 0, .slice none 0 0] 36 ∧ BoxAt wr pv #[.int .i64 P.b, .slice (some ⟨go, 0, none⟩) M c7] 36 ∧ Own wr go M G ∧ VecIs G (layK (fun i => P.n i + 1) (rowB P.f P.n c lp) i) M) (fun iv _ => P.k - (intOf iv).toNat)
      case atStart => exact ⟨0, fun _ => 0, Nat.zero_le _, rfl, B8.out, A8.out, X8.out, V8.out, O8.out, vecIs_zero M⟩
      case round =>
        obtain ⟨i, G, hik, rfl, hbel, ha, hx, hv, hO, hV⟩ := hrel
        have HB : Hid (Below w.heap.size w wr) := hbel
        have HA : Hid (BoxAt wr w.heap.size #[.slice sr P.k cr, .slice sm P.m cm, .int .i64 P.b] 30) := ha
        have HX : Hid (BoxAt wr (w.heap.size + 1) #[.int .i64 0, .slice none 0 0] 36) := hx
        have HV : Hid (BoxAt wr pv #[.int .i64 P.b, .slice (some ⟨go, 0, none⟩) M c7] 36) := hv
        have HO : Hid (Own wr go M G) := hO
        have HVI : Hid (VecIs G (layK (fun i => P.n i + 1) (rowB P.f P.n c lp) i) M) := hV
        have ca0 := ha.cell 0 _ rfl
        have ca1 := ha.cell 1 _ rfl
        have ca2 := ha.cell 2 _ rfl
        have cv0 := hv.cell 0 _ rfl
        have cv1 := hv.cell 1 _ rfl
        by_cases hil : i < P.k
        · have hii : (i : Int) < (P.k : Int) := by omega
          have him : (i : Int) < (P.m : Int) := by have := HMK.out; omega
          have hi0 : (0 : Int) ≤ (i : Int) := by omega
          obtain ⟨⟨s, cc, hcr⟩, hra⟩ := HCR.out
          obtain ⟨bb, off, hsr, hbb, ci0, hrow0⟩ := hcr.at hil
          obtain ⟨ba, oa, hsm, hba, di0⟩ := hra.getP (i := i) (by have := HMK.out; omega)
          have ci : wr.cell? ⟨bb, off + i, none⟩ = some (.slice (s i) (P.n i) (cc i)) := (hbel.cell (p := ⟨bb, off + i, none⟩) hbb).trans ci0
          have di : wr.cell? ⟨ba, oa + i, none⟩ = some (.int .i64 (P.a i)) := (hbel.cell (p := ⟨ba, oa + i, none⟩) hba).trans di0
          rw [HOK.out.2.2.1 i hil] at di
          subst hsr hsm
          have hcell := HOK.out.1.2.2 i hil
          obtain ⟨x, hx9⟩ := behind_ex (asksB (P.f i) c lp) (P.n i) (by have := hcell.2.1; omega)
          have HXV : Hid (VecIs (wordsN x) (rowB P.f P.n c lp i) ((P.n i + 1 + 31) / 32)) := vecIs_words hx9 _
          have CB : Hid (Calls Try.prog 61 #[.slice (s i) (P.n i) (cc i), .int .i64 (c : Int), .bool lp] wr.drew fun e w' => NewVec wr.drew ((P.n i : Int) + 1) ((P.n i + 1 + 31) / 32) (wordsN x) e w') := l06Byte_any (s i) (P.n i) (cc i) c _ x lp (P.f i) wr.drew hcell.2.1 (((hrow0.kept hbel).up hbel.size).kept (Below.refl _ _).drew) (okSize (fun _ _ hh => right_size hh) hcell) hc9 rfl hx9
          have hle : atP P.n i + (P.n i + 1) ≤ T := by
            have h1 := atP_mono (n := P.n) (show i + 1 ≤ P.k by omega)
            rw [atP_succ, HT.out] at h1
            exact h1
          have CLAY : Hid (∀ (W : World) (sx : Option Addr) (cx : Nat), Own W go M G → Row W W.heap.size sx ((P.n i + 1 + 31) / 32) (wordsN x) → (∀ b9 o9 : Nat, sx = some ⟨b9, o9, none⟩ → b9 ≠ go) → Calls Try.prog 52 #[.agg #[.int .i64 P.b, .slice (some ⟨go, 0, none⟩) M c7], .int .i64 (atP P.n i : Int), .agg #[.int .i64 ((P.n i : Int) + 1), .slice sx ((P.n i + 1 + 31) / 32) cx]] W fun e w' => e = .returned (.tuple #[]) ∧ W.grownBy w' (some go) ∧ ∃ G', Own w' go M G' ∧ VecIs G' (layK (fun i => P.n i + 1) (rowB P.f P.n c lp) (i + 1)) M) := fun W sx cx h1 h2 h3 => by
            have hl := l10Lay_any P.b go M c7 (atP P.n i) (P.n i + 1) ((P.n i + 1 + 31) / 32) cx sx G (wordsN x) (layK (fun i => P.n i + 1) (rowB P.f P.n c lp) i) (rowB P.f P.n c lp i) W hM10 rfl (by have := HM.out; omega) h1 h2 h3 HVI.out HXV.out (fun j hj => layK_end (k := P.k) (fun i _ q hq => rowB_fit _ _ _ _ _ _ hq) i hik j (by rw [bitsTo_at]; exact hj))
            rw [show (((P.n i + 1 : Nat)) : Int) = (P.n i : Int) + 1 by omega] at hl
            refine hl.mono ?_
            rintro e w' ⟨rfl, h4, G', h5, h6⟩
            refine ⟨rfl, h4, G', h5, h6.congr (fun j => ?_)⟩
            have h7 := layB_next (B := fun i => P.n i + 1) (R := rowB P.f P.n c lp) (i := i) (fun q hq => rowB_fit _ _ _ _ _ _ hq) j
            rw [bitsTo_at] at h7
            exact h7
          obtain ⟨q, hq⟩ : ∃ q, atP P.n i = q := ⟨_, rfl⟩
          rw [hq] at di CLAY
          obtain ⟨si, hsi⟩ : ∃ y, s i = y := ⟨_, rfl⟩
          obtain ⟨ni, hni⟩ : ∃ y, P.n i = y := ⟨_, rfl⟩
          obtain ⟨ki, hki⟩ : ∃ y, cc i = y := ⟨_, rfl⟩
          rw [hsi, hni, hki] at ci CB
          rw [hni] at CLAY
          obtain ⟨mi, hmi⟩ : ∃ y, (ni + 1 + 31) / 32 = y := ⟨_, rfl⟩
          have HMI : Hid (mi = 0 → False) := fun h => by omega
          rw [hmi] at CB CLAY
          have hol := HO.out.1
          have hzz := ZZ.out
          have hvl := HV.out.lt
          have hg1 : w.heap.size ≠ go := by omega
          have hg2 : w.heap.size + 1 ≠ go := by omega
          have hg3 : pv ≠ go := by omega
          have hbbl : bb < wr.heap.size := Nat.lt_of_lt_of_le hbb hbel.size
          have hbal : ba < wr.heap.size := Nat.lt_of_lt_of_le hba hbel.size
          have hbg : bb ≠ go := by omega
          have hag : ba ≠ go := by omega
          clear hbel ha hx hv hO hV hq hsi hni hki hmi hx9 hcell hrow0 ci0 di0 hcr hra hle
          go_wp2_with fail
          go_region_held3 (fun W => W.cell? ⟨pv, 0, none⟩ = some (.int .i64 P.b) ∧ W.cell? ⟨pv, 1, none⟩ = some (.slice (some ⟨go, 0, none⟩) M c7) ∧ W.cell? ⟨w.heap.size, 0, none⟩ = some (.slice (some ⟨bb, off, none⟩) P.k cr) ∧ W.cell? ⟨w.heap.size, 1, none⟩ = some (.slice (some ⟨ba, oa, none⟩) P.m cm) ∧ W.cell? ⟨bb, off + i, none⟩ = some (.slice si ni ki) ∧ W.cell? ⟨ba, oa + i, none⟩ = some (.int .i64 (q : Int))) (go_keep) (first
            | (go_at_call 61; refine CB.out.mono ?_; rintro e y5 ⟨s5, c5, rfl, hb5, ho5⟩; unfold vecV; have B5 : Hid (Below wr.heap.size wr y5) := ((Below.refl wr.heap.size wr).drew).trans hb5; have O5 : Hid (OwnS y5 wr.heap.size s5 mi (wordsN x)) := ho5; have V5 : Hid (BoxAt y5 pv #[.int .i64 P.b, .slice (some ⟨go, 0, none⟩) M c7] 36) := HV.out.kept B5.out; have A5 := HA.out.kept B5.out; have y0 := V5.out.cell 0 _ rfl; have y1 := V5.out.cell 1 _ rfl; have y2 := A5.cell 0 _ rfl; have y3 := A5.cell 1 _ rfl; have y4 := (B5.out.cell (p := ⟨bb, off + i, none⟩) hbbl).trans ci; have yy := (B5.out.cell (p := ⟨ba, oa + i, none⟩) hbal).trans di; clear hb5 ho5)
            | (go_at_call 52; refine (CLAY.out _ _ _ (HO.out.kept B5.out hol) O5.out.row (fun b9 o9 e9 => by rcases O5.out with h | ⟨b8, h8, h7, _⟩; (· exfalso; revert h; exact HMI.out); (· rw [h8] at e9; injection e9 with e9; injection e9 with e9; omega))).mono ?_; rintro e y6 ⟨rfl, hgr6, F6, hO6, hV6⟩; have G6 : Hid (y5.grownBy y6 (some go)) := hgr6; have V6 : Hid (BoxAt y6 pv #[.int .i64 P.b, .slice (some ⟨go, 0, none⟩) M c7] 36) := boxed_grownT V5.out hgr6 hg3; have A6 : Hid (BoxAt y6 w.heap.size #[.slice (some ⟨bb, off, none⟩) P.k cr, .slice (some ⟨ba, oa, none⟩) P.m cm, .int .i64 P.b] 30) := boxed_grownT A5 hgr6 hg1; have O6 : Hid (Own y6 go M F6 ∧ VecIs F6 (layK (fun i => P.n i + 1) (rowB P.f P.n c lp) (i + 1)) M) := ⟨hO6, hV6⟩; have z0 := V6.out.cell 0 _ rfl; have z1 := V6.out.cell 1 _ rfl; have z2 := A6.out.cell 0 _ rfl; have z3 := A6.out.cell 1 _ rfl; have z4 : y6.cell? ⟨bb, off + i, none⟩ = some (.slice si ni ki) := (cell_grownT hgr6 (p := ⟨bb, off + i, none⟩) (Nat.lt_of_lt_of_le hbbl B5.out.size) hbg).trans y4; have zz : y6.cell? ⟨ba, oa + i, none⟩ = some (.int .i64 (q : Int)) := (cell_grownT hgr6 (p := ⟨ba, oa + i, none⟩) (Nat.lt_of_lt_of_le hbal B5.out.size) hag).trans yy; clear hgr6 hO6 hV6))
          clear y0 y1 y2 y3 y4 yy z0 z1 z2 z3 z4 zz ca0 ca1 ca2 cv0 cv1
          go_wp2_with fail
          go_roundw
          case rel =>
            have hB6 : Below w.heap.size w y6 := (HB.out.trans (B5.out.mono HB.out.size)).trans ⟨G6.out.os, G6.out.tape, G6.out.output, G6.out.size, fun k9 hk9 => G6.out.block k9 (by have := HB.out.size; have := B5.out.size; omega) (fun e => by injection e with e; omega)⟩
            exact ⟨i + 1, F6, by omega, by go_num, hB6, A6.out, boxed_grownT (HX.out.kept B5.out) G6.out hg2, V6.out, O6.out.1, O6.out.2⟩
          case measure => simp [intOf]; omega
        · have hii : ¬ (i : Int) < (P.k : Int) := by omega
          obtain rfl : i = P.k := by omega
          have cx0 := hx.cell 0 _ rfl
          have cx1 := hx.cell 1 _ rfl
          have fx0 := hx.free 0
          have fx1 := hx.free 1
          clear hbel ha hx hv hO hV
          go_wp2_with fail
          have hzz := ZZ.out
          have r0 : ((wr.setCell ⟨w.heap.size + 1, 0, none⟩ (.int .i64 P.b)).setCell ⟨w.heap.size + 1, 1, none⟩ (.slice (some ⟨go, 0, none⟩) M c7)).cell? ⟨w.heap.size + 1, 0, none⟩ = some (.int .i64 P.b) := by
            rw [World.cell?_setCell_other _ _ _ _ (hne (by decide))]; exact World.cell?_setCell_same _ _ _ cx0
          have r1 : ((wr.setCell ⟨w.heap.size + 1, 0, none⟩ (.int .i64 P.b)).setCell ⟨w.heap.size + 1, 1, none⟩ (.slice (some ⟨go, 0, none⟩) M c7)).cell? ⟨w.heap.size + 1, 1, none⟩ = some (.slice (some ⟨go, 0, none⟩) M c7) := World.cell?_setCell_same _ _ _ (by rw [World.cell?_setCell_other _ _ _ _ (hne (by decide))]; exact cx1)
          have hbl := (HB.out.setCell (p := ⟨w.heap.size + 1, 0, none⟩) (by show w.heap.size ≤ w.heap.size + 1; omega) (.int .i64 P.b)).setCell (p := ⟨w.heap.size + 1, 1, none⟩) (by show w.heap.size ≤ w.heap.size + 1; omega) (.slice (some ⟨go, 0, none⟩) M c7)
          have hoo := (HO.out.setOther ⟨w.heap.size + 1, 0, none⟩ (.int .i64 P.b) (by show w.heap.size + 1 ≠ go; omega)).setOther ⟨w.heap.size + 1, 1, none⟩ (.slice (some ⟨go, 0, none⟩) M c7) (by show w.heap.size + 1 ≠ go; omega)
          clear cx0 cx1 fx0 fx1 ca0 ca1 ca2 cv0 cv1
          generalize (wr.setCell ⟨w.heap.size + 1, 0, none⟩ (.int .i64 P.b)).setCell ⟨w.heap.size + 1, 1, none⟩ (.slice (some ⟨go, 0, none⟩) M c7) = w9 at *
          refine bodyPost_ret (v := vecV P.b (some ⟨go, 0, none⟩) M c7) (by simp [results, Try.results27, go_sem, vecV, r0, r1]) rfl ?_
          rw [← HPO.out, HT.out, HM.out]
          exact Or.inl ⟨HYES.out, G, ⟨_, _, rfl, hbl, Or.inr ⟨go, rfl, by omega, hoo⟩⟩, HVI.out⟩
end Go.Proofs.Ytbdjjggaahjjpaa
