/- What is proved here: the specification's new vectors with the room that their blocks have (an append behind them wants it). -/
import Derived.Test.YtfeolbgenpknfaaGreatQTurnEqMToVecNotBM
import Derived.Test.YtfeolbgenpknfaaGreatQSpecKVecWToWordsForW
import Derived.Test.YtfeolbgenpknfaaGreatQGetBWToClassRightW
namespace Go.Proofs.YtfeolbgenpknfaaGreat
open Go.RowKit

/-- A block of so many numbers that may be written. -/
def Room (w : World) (g cap : Nat) : Prop := ∃ cur, w.heap[g]? = some (.cells cur 2 (0, 0)) ∧ cap ≤ maxLen ∧ cur.size = cap
theorem Room.only {w w' : World} {g cap : Nat} {row : Option Nat} (h : Room w g cap) (hg : w.grownBy w' row) (hne : row ≠ some g) : Room w' g cap := by
  obtain ⟨cur, h1, h2, h3⟩ := h
  exact ⟨cur, by rw [hg.block g (lt_of_block h1) (fun e => hne e.symm)]; exact h1, h2, h3⟩
theorem Room.kept {w w' : World} {B g cap : Nat} (h : Room w g cap) (hb : Below B w w') (hg : g < B) : Room w' g cap := by
  obtain ⟨cur, h1, h2, h3⟩ := h
  exact ⟨cur, by rw [hb.block g hg]; exact h1, h2, h3⟩
theorem Room.drew {w : World} {g cap : Nat} (h : Room w g cap) : Room w.drew g cap := h
theorem Room.set {w : World} {g cap i : Nat} (h : Room w g cap) (v : Value) : Room (w.setCell ⟨g, i, none⟩ v) g cap := by
  obtain ⟨cur, h1, h2, h3⟩ := h
  exact ⟨_, heap_setCell_same _ _ _ _ _ _ h1, h2, by simpa using h3⟩
theorem Room.setOther {w : World} {g cap : Nat} (h : Room w g cap) (p : Addr) (v : Value) (hp : p.block ≠ g) : Room (w.setCell p v) g cap := by
  obtain ⟨cur, h1, h2, h3⟩ := h
  exact ⟨cur, by rw [Below.heap_setCell _ _ _ _ (fun e => hp e.symm)]; exact h1, h2, h3⟩
theorem room_of {W : World} {base g n cap : Nat} {xs : List Value} (h : W.ownsRow base 2 1 (.slice (some ⟨g, 0, none⟩) n cap) n xs) : Room W g cap ∧ n ≤ cap := by
  obtain ⟨_, ⟨h0, _⟩ | ⟨g', cap', cur, hv, hg, hh, hnc, hm, hs, ht⟩⟩ := h
  · cases h0
  · injection hv with h1 h2 h3
    injection h1 with h1
    injection h1 with h1
    subst h1 h3
    exact ⟨⟨cur, hh, hm, by omega⟩, hnc⟩
theorem owns_of {W : World} {base g n cap : Nat} {f : Nat → Int} (ho : Own W g n f) (hr : Room W g cap) (hn : n ≤ cap) (hb : base ≤ g) : W.ownsRow base 2 1 (.slice (some ⟨g, 0, none⟩) n cap) n ((List.range n).map fun i => Value.int .i64 (f i)) := by
  obtain ⟨cur, h1, h2, h3⟩ := hr
  refine ⟨by simp, Or.inr ⟨g, cap, cur, rfl, hb, h1, hn, h2, by omega, ?_⟩⟩
  apply List.ext_getElem?
  intro i
  by_cases hi : i < n
  · have h := ho.2.1 i hi
    rw [List.getElem?_take_of_lt (by omega), List.getElem?_map, List.getElem?_range hi]
    simpa [World.cell?, h1] using h
  · rw [List.getElem?_eq_none (by simp; omega), List.getElem?_eq_none (by simp; omega)]
/-- A vector in new memory, and its block's room. -/
def NewCap (w : World) (b : Int) (n : Nat) (f : Nat → Int) (e : Ending) (w' : World) : Prop :=
  ∃ g cap : Nat, e = .returned (vecV b (some ⟨g, 0, none⟩) n cap) ∧ Below w.heap.size w w' ∧ w.heap.size ≤ g ∧ Own w' g n f ∧ Room w' g cap ∧ n ≤ cap

theorem make_cap (w : World) (N : Nat) (hN : N ≤ 10000000) : ∃ (w' : World) (g : Nat), (Instr.makeSlice 26 (.int .i64 (N : Int)) (.int .i64 (N : Int))).run Tryz.prog w = .ok (.slice (some ⟨g, 0, none⟩) N N) w' ∧ w.heap.size ≤ g ∧ g < w'.heap.size ∧ Below w.heap.size w w' ∧ Own w' g N (fun _ => 0) ∧ Room w' g N := by
  obtain ⟨C, hmk, hown⟩ := make_row w N hN
  obtain ⟨i0, hi, hz0, hz1, hz2⟩ := info_parts Tryz.numInfo
  obtain ⟨w', hrun, hrow, hg⟩ := run_make_full (P := Tryz.prog) w w.heap.size 26 2 i0 (.int .i64 0) 1 Tryz.underlying26 hi hz0 hz1 .i64 .i64 N (by rw [hz2]; omega) (by unfold maxLen; omega) (Nat.le_refl _)
  rw [hmk] at hrun
  injection hrun with h1 h2
  subst h2
  exact ⟨_, _, hmk, Nat.le_refl _, by simp, (Below.refl _ _).alloc (Nat.le_refl _) _, hown, (room_of (by rw [h1]; exact hrow)).1⟩
set_option maxHeartbeats 1000000 in
theorem l02New_cap (b : Int) (m : Nat) (w : World) (h0 : 1 ≤ b) (h1 : b ≤ 320) (hm : (m : Int) = (b + 31) / 32) :
    Calls Tryz.prog 70 #[.int .i64 b] w fun e w' => NewCap w b m (fun _ => 0) e w' := by
  have HM : Hid ((m : Int) = (b + 31) / 32) := hm
  have hm1 : m ≤ 10 := by omega
  clear hm
  go_enter Tryz.func70, Tryz.ntmps70
  go_wp2_with fail
  refine (words_any b _ (by omega) h1).mono ?_
  rintro e w1 ⟨rfl, hw⟩
  subst hw
  rw [← HM.out]
  have q3 := boxing w 29 0 none 0 0
  generalize w.alloc (.cells #[.int .i64 0, .slice none 0 0] 29) = v at *
  obtain ⟨u, g, hmk, hg1, hg2, hbu, hown, hroom⟩ := make_cap v m (by omega)
  have HR : Hid (Room u g m) := hroom
  have HO : Hid (Own u g m (fun _ => 0)) := hown
  have S : Hid (Since w u) := since_call (since_call (since_refl _) q3.1) hbu
  obtain ⟨cb0, cb1, cb2, cb3⟩ := (q3.2.1.kept hbu rfl).four
  have l1 : w.heap.size < g := by have := q3.2.2; omega
  have l2 : w.heap.size < u.heap.size := by omega
  clear q3 hown hbu hg1 hroom
  go_wp2
  refine bodyPost_ret (v := vecV b (some ⟨g, 0, none⟩) m m) (by simp [results, Tryz.results70, go_sem, vecV, cb0, cb1]) rfl ?_
  exact ⟨_, _, rfl, (since_set (since_set S.out (by show w.heap.size ≤ w.heap.size; omega)) (by show w.heap.size ≤ w.heap.size; omega)).below, by omega, (HO.out.setOther _ _ (by show w.heap.size ≠ g; omega)).setOther _ _ (by show w.heap.size ≠ g; omega), (HR.out.setOther _ _ (by show w.heap.size ≠ g; omega)).setOther _ _ (by show w.heap.size ≠ g; omega), Nat.le_refl _⟩
set_option maxHeartbeats 2000000 in
theorem copy_cap (b : Int) (sa : Option Addr) (n cap : Nat) (f : Nat → Int) (w : World) (hn0 : 0 < n) (hn : n ≤ 1048576) (hr : Row w w.heap.size sa n f) :
    Calls Tryz.prog 95 #[.agg #[.int .i64 b, .slice sa n cap]] w fun e w' => NewCap w b n f e w' := by
  obtain ⟨bb, off, rfl⟩ : ∃ bb off : Nat, sa = some ⟨bb, off, none⟩ := by
    rcases hr with h | ⟨bb, off, h, _⟩
    · omega
    · exact ⟨bb, off, h⟩
  obtain ⟨i0, hi, hz0, hz1, hz2⟩ := info_parts Tryz.numInfo
  have HR : Hid (Row w w.heap.size (some ⟨bb, off, none⟩) n f) := hr
  clear hr
  have hlen : ((List.range n).map fun i => Value.int .i64 (f i)).length = n * 1 := by simp
  have hone : ∀ u ∈ (List.range n).map fun i => Value.int .i64 (f i), u.oneCell' = true := by
    intro u hu
    obtain ⟨i, _, rfl⟩ := List.mem_map.1 hu
    rfl
  go_enter Tryz.func95, Tryz.ntmps95
  go_wp2_with fail
  have q1 := boxing w 29 b (some ⟨bb, off, none⟩) n cap
  generalize w.alloc (.cells #[.int .i64 b, .slice (some ⟨bb, off, none⟩) n cap] 29) = v1 at *
  have q2 := boxing v1 29 0 none 0 0
  generalize v1.alloc (.cells #[.int .i64 0, .slice none 0 0] 29) = v2 at *
  have hx1 : Boxed v2 w.heap.size 29 b (some ⟨bb, off, none⟩) n cap := q1.2.1.kept q2.1 rfl
  have hx2 : Boxed v2 (w.heap.size + 1) 29 0 none 0 0 := by rw [← q1.2.2]; exact q2.2.1
  have hS : Since w v2 := since_call (since_call (since_refl _) q1.1) q2.1
  have hz : v2.heap.size = w.heap.size + 2 := by rw [q2.2.2, q1.2.2]
  have hnw : ∀ W : World, Since w W → ∀ (j : Nat) (u : Value), ((List.range n).map fun i => Value.int .i64 (f i))[j]? = some u → W.cell? ((⟨bb, off, none⟩ : Addr).add j) = some u := fun W h => news_row (row_since HR.out h) hn0
  have HNW : Hid (∀ W : World, Since w W → ∀ (j : Nat) (u : Value), ((List.range n).map fun i => Value.int .i64 (f i))[j]? = some u → W.cell? ((⟨bb, off, none⟩ : Addr).add j) = some u) := hnw
  have HX1 : Hid (Boxed v2 w.heap.size 29 b (some ⟨bb, off, none⟩) n cap) := hx1
  have HX2 : Hid (Boxed v2 (w.heap.size + 1) 29 0 none 0 0) := hx2
  have HS : Hid (Since w v2) := hS
  have HL : Hid (((List.range n).map fun i => Value.int .i64 (f i)).length = n * 1) := hlen
  have HO : Hid (∀ u ∈ (List.range n).map fun i => Value.int .i64 (f i), u.oneCell' = true) := hone
  clear q1 q2 hnw hlen hone hS
  obtain ⟨ca0, ca1⟩ := hx1.cells
  obtain ⟨cb0, cb1, cb2, cb3⟩ := hx2.four
  clear hx1 hx2
  have l1 : w.heap.size < v2.heap.size := by omega
  have l2 : w.heap.size + 1 < v2.heap.size := by omega
  go_region_law (refine step_append_lies _ rfl (.tmp 5) (.tmp 7) 26 rfl w.heap.size 2 i0 (.int .i64 0) 1 8 Tryz.underlying26 hi hz0 hz1 hz2 rfl (by decide) (.slice (some ⟨v2.heap.size, 0, none⟩) 0 0) 0 [] (by simp [Act.eval]) (World.ownsRow_made v2.drew #[] 0 (by show w.heap.size ≤ v2.heap.size; omega) (by decide) rfl) ⟨bb, off, none⟩ n cap _ (by simp [Act.eval]) HL.out (HNW.out _ (since_alloc (since_drew HS.out))) HO.out hn0 (by unfold maxLen; omega) (by omega) (since_alloc (since_drew HS.out)).size _ rfl ?_; intro g cp w1 hown hgrow hat hlt; have hb1 : Below v2.heap.size v2 w1 := grown_below hgrow; obtain ⟨ea0, ea1⟩ := (HX1.out.kept hb1 rfl).cells; obtain ⟨eb0, eb1, eb2, eb3⟩ := (HX2.out.kept hb1 rfl).four; have HB1 : Hid (Since w w1) := since_call HS.out hb1; have hgl : v2.heap.size ≤ g := lies_ge hat; have HOW : Hid (Own w1 g n f) := own_of (by simpa using hown) hn0; have hroom := room_of hown; have HRM : Hid (Room w1 g cp) := hroom.1; have hcp : n ≤ cp := (by have := hroom.2; omega); clear hroom; clear hown hgrow hat hb1)
  all_goals
    go_wp2
    refine bodyPost_ret (v := vecV b (some ⟨g, 0, none⟩) n cp) (by simp [results, Tryz.results95, go_sem, vecV, eb0, eb1]) rfl ?_
    exact ⟨_, _, rfl, (since_set (since_set HB1.out (by show w.heap.size ≤ w.heap.size + 1; omega)) (by show w.heap.size ≤ w.heap.size + 1; omega)).below, by omega, (HOW.out.setOther _ _ (by show w.heap.size + 1 ≠ g; omega)).setOther _ _ (by show w.heap.size + 1 ≠ g; omega), (HRM.out.setOther _ _ (by show w.heap.size + 1 ≠ g; omega)).setOther _ _ (by show w.heap.size + 1 ≠ g; omega), hcp⟩
set_option maxRecDepth 100000 in
set_option maxHeartbeats 4000000 in
theorem cut_cap (b : Int) (g n cap : Nat) (f : Nat → Int) (w : World) (hb1 : 1 ≤ b) (hb2 : b ≤ 320) (hn0 : 0 < n) (hn : n ≤ 1048576) (ho : Own w g n f) (hr : Room w g cap) (hf : ∀ i, i < n → 0 ≤ f i) :
    Calls Tryz.prog 72 #[.agg #[.int .i64 b, .slice (some ⟨g, 0, none⟩) n cap]] w fun e w' => e = .returned (vecV b (some ⟨g, 0, none⟩) n cap) ∧ w.grownBy w' (some g) ∧ Own w' g n (cutF b n f) ∧ Room w' g cap := by
  obtain ⟨m, rfl⟩ : ∃ m, n = m + 1 := ⟨n - 1, by omega⟩
  have hfm := hf m (by omega)
  have hglt := ho.1
  have HO : Hid (Own w g (m + 1) f) := ho
  have HRM : Hid (Room w g cap) := hr
  clear hf ho hr
  go_enter Tryz.func72, Tryz.ntmps72
  have q1 := boxing w 29 b (some ⟨g, 0, none⟩) (m + 1) cap
  have q2 := boxing (w.alloc (.cells #[.int .i64 b, .slice (some ⟨g, 0, none⟩) (m + 1) cap] 29)) 29 0 none 0 0
  have hgr : w.grownBy ((w.alloc (.cells #[.int .i64 b, .slice (some ⟨g, 0, none⟩) (m + 1) cap] 29)).alloc (.cells #[.int .i64 0, .slice none 0 0] 29)) (some g) := (World.grownBy_alloc w _ _).trans (World.grownBy_alloc _ _ _)
  go_upto_region 1 with fail
  generalize w.alloc (.cells #[.int .i64 b, .slice (some ⟨g, 0, none⟩) (m + 1) cap] 29) = v1 at *
  generalize v1.alloc (.cells #[.int .i64 0, .slice none 0 0] 29) = v2 at *
  have X1 : Hid (Boxed v2 w.heap.size 29 b (some ⟨g, 0, none⟩) (m + 1) cap) := q1.2.1.kept q2.1 rfl
  have X2 : Hid (Boxed v2 (w.heap.size + 1) 29 0 none 0 0) := by rw [← q1.2.2]; exact q2.2.1
  have HG : Hid (w.grownBy v2 (some g)) := hgr
  have ho2 : Own v2 g (m + 1) f := (HO.out.kept q1.1 hglt).kept q2.1 (by rw [q1.2.2]; omega)
  have H2 : Hid (Own v2 g (m + 1) f) := ho2
  have R2 : Hid (Room v2 g cap) := (HRM.out.kept q1.1 hglt).kept q2.1 (by rw [q1.2.2]; omega)
  obtain ⟨ca0, ca1⟩ := X1.out.cells
  obtain ⟨cb0, cb1, cb2, cb3⟩ := X2.out.four
  have cy := ho2.2.1 m (by omega)
  have cf := ho2.2.2 m (by omega)
  have lg := ho2.1
  have l1 := X1.out.lt
  have l2 := X2.out.lt
  clear q1 q2 hgr ho2 HO HRM
  by_cases h0 : b % 32 = 0
  · go_wp2
    refine bodyPost_ret (v := vecV b (some ⟨g, 0, none⟩) (m + 1) cap) (by simp [results, Tryz.results72, go_sem, vecV, cb0, cb1]) rfl ?_
    exact ⟨rfl, grown_setNew (grown_setNew HG.out (by show w.heap.size ≤ w.heap.size + 1; omega)) (by show w.heap.size ≤ w.heap.size + 1; omega), ((H2.out.congr (fun i hi => by unfold cutF; rw [if_neg (by omega)])).setOther _ _ (by show w.heap.size + 1 ≠ g; omega)).setOther _ _ (by show w.heap.size + 1 ≠ g; omega), (R2.out.setOther _ _ (by show w.heap.size + 1 ≠ g; omega)).setOther _ _ (by show w.heap.size + 1 ≠ g; omega)⟩
  · have h1 : 0 < b % 32 := by omega
    obtain ⟨P, hP, hP0, hP1⟩ := pow_over b h1
    have hw : wrap64 P = P := by unfold wrap64; omega
    have hlt : (m : Int) < (m : Int) + 1 := by omega
    go_wp2
    go_region
    have Y1 : Hid (Boxed (v2.setCell ⟨g, m, none⟩ (.int .i64 (f m % P))).drew w.heap.size 29 b (some ⟨g, 0, none⟩) (m + 1) cap) := X1.out.setOther _ _ (by show g ≠ w.heap.size; omega)
    have Y2 : Hid (Boxed (v2.setCell ⟨g, m, none⟩ (.int .i64 (f m % P))).drew (w.heap.size + 1) 29 0 none 0 0) := X2.out.setOther _ _ (by show g ≠ w.heap.size + 1; omega)
    have G3 : Hid (w.grownBy (v2.setCell ⟨g, m, none⟩ (.int .i64 (f m % P))).drew (some g)) := only_drawn (only_set HG.out)
    have R3 : Hid (Room (v2.setCell ⟨g, m, none⟩ (.int .i64 (f m % P))).drew g cap) := R2.out.set _
    have O3 : Hid (Own (v2.setCell ⟨g, m, none⟩ (.int .i64 (f m % P))).drew g (m + 1) (cutF b (m + 1) f)) := (H2.out.set (by omega) (f m % P)).congr (fun i hi => by
      unfold cutF
      by_cases e : i = m
      · subst e
        simp [h1, hP]
      · simp [e])
    clear ca0 ca1 cb0 cb1 cb2 cb3 cy cf lg l1 l2 X1 X2 HG H2 R2
    generalize (v2.setCell ⟨g, m, none⟩ (.int .i64 (f m % P))).drew = v3 at *
    obtain ⟨ca0, ca1⟩ := Y1.out.cells
    obtain ⟨cb0, cb1, cb2, cb3⟩ := Y2.out.four
    go_wp2
    refine bodyPost_ret (v := vecV b (some ⟨g, 0, none⟩) (m + 1) cap) (by simp [results, Tryz.results72, go_sem, vecV, cb0, cb1]) rfl ?_
    exact ⟨rfl, grown_setNew (grown_setNew G3.out (by show w.heap.size ≤ w.heap.size + 1; omega)) (by show w.heap.size ≤ w.heap.size + 1; omega), (O3.out.setOther _ _ (by show w.heap.size + 1 ≠ g; omega)).setOther _ _ (by show w.heap.size + 1 ≠ g; omega), (R3.out.setOther _ _ (by show w.heap.size + 1 ≠ g; omega)).setOther _ _ (by show w.heap.size + 1 ≠ g; omega)⟩
set_option maxRecDepth 100000 in
set_option maxHeartbeats 4000000 in
theorem not_cap (b : Int) (sa : Option Addr) (n ka : Nat) (f : Nat → Int) (w : World) (hbb : 1 ≤ b) (hbc : b ≤ 320) (hf : ∀ i, i < n → 0 ≤ f i ∧ f i ≤ 4294967295) (hn0 : 0 < n) (hn : n ≤ 1048576) (ha : Row w w.heap.size sa n f) :
    Calls Tryz.prog 71 #[.agg #[.int .i64 b, .slice sa n ka]] w fun e w' => NewCap w b n (cutF b n (notF f)) e w' := by
  obtain ⟨b1, o1, rfl, hb1, hc1⟩ : ∃ bb off : Nat, sa = some ⟨bb, off, none⟩ ∧ bb < w.heap.size ∧ ∀ i, i < n → w.cell? ⟨bb, off + i, none⟩ = some (.int .i64 (f i)) := by
    rcases ha with h | h
    · omega
    · exact h
  have HA : Hid (Row w w.heap.size (some ⟨b1, o1, none⟩) n f) := ha
  have HC1 : Hid (∀ i, i < n → w.cell? ⟨b1, o1 + i, none⟩ = some (.int .i64 (f i))) := hc1
  have HF : Hid (∀ i, i < n → 0 ≤ f i ∧ f i ≤ 4294967295) := hf
  clear ha hc1 hf
  go_enter Tryz.func71, Tryz.ntmps71
  go_wp2_with fail
  have q1 := boxing w 29 b (some ⟨b1, o1, none⟩) n ka
  generalize w.alloc (.cells #[.int .i64 b, .slice (some ⟨b1, o1, none⟩) n ka] 29) = v1 at *
  have q3 := boxing v1 29 0 none 0 0
  generalize v1.alloc (.cells #[.int .i64 0, .slice none 0 0] 29) = v3 at *
  have X1 : Hid (Boxed v3 w.heap.size 29 b (some ⟨b1, o1, none⟩) n ka) := q1.2.1.kept q3.1 rfl
  have X3 : Hid (Boxed v3 (w.heap.size + 1) 29 0 none 0 0) := by rw [← q1.2.2]; exact q3.2.1
  have S3 : Hid (Since w v3) := since_call (since_call (since_refl _) q1.1) q3.1
  have z3 : v3.heap.size = w.heap.size + 2 := by rw [q3.2.2, q1.2.2]
  clear q1 q3
  refine (copy_cap b _ n ka f v3 hn0 hn (row_since HA.out S3.out)).mono ?_
  rintro e w4 ⟨g4, c4, rfl, hb4, hg1, ho, hrm, hc4⟩
  have R4 : Hid (Room w4 g4 c4) := hrm
  have hg2 := ho.1
  have O4 : Hid (Own w4 g4 n f) := ho
  have Y1 : Hid (Boxed w4 w.heap.size 29 b (some ⟨b1, o1, none⟩) n ka) := X1.out.kept hb4 rfl
  have Y3 : Hid (Boxed w4 (w.heap.size + 1) 29 0 none 0 0) := X3.out.kept hb4 rfl
  have S4 : Hid (Since w w4) := since_call S3.out hb4
  unfold vecV
  clear hb4 ho hrm X1 X3 S3
  go_wp2
  have q5 := boxing w4 29 b (some ⟨g4, 0, none⟩) n c4
  generalize w4.alloc (.cells #[.int .i64 b, .slice (some ⟨g4, 0, none⟩) n c4] 29) = v5 at *
  obtain ⟨p5, hp5⟩ : ∃ p, p = w4.heap.size := ⟨_, rfl⟩
  rw [← hp5]
  have Y5 : Hid (Boxed v5 p5 29 b (some ⟨g4, 0, none⟩) n c4) := by rw [hp5]; exact q5.2.1
  have V1 : Hid (Boxed v5 w.heap.size 29 b (some ⟨b1, o1, none⟩) n ka) := Y1.out.kept q5.1 rfl
  have V3 : Hid (Boxed v5 (w.heap.size + 1) 29 0 none 0 0) := Y3.out.kept q5.1 rfl
  have S5 : Hid (Since w v5) := since_call S4.out q5.1
  have O5 : Hid (Own v5 g4 n f) := O4.out.kept q5.1 hg2
  have R5 : Hid (Room v5 g4 c4) := R4.out.kept q5.1 hg2
  have hgp : g4 < p5 := by omega
  clear q5 Y1 Y3 S4 O4 R4 hg2 hp5
  go_loopw [4] (fun i wr => ∃ k : Nat, k ≤ n ∧ i = .int .i64 (k : Int) ∧ Since w wr ∧ Boxed wr w.heap.size 29 b (some ⟨b1, o1, none⟩) n ka ∧ Boxed wr (w.heap.size + 1) 29 0 none 0 0 ∧ Boxed wr p5 29 b (some ⟨g4, 0, none⟩) n c4 ∧ Own wr g4 n (fun i => if i < k then notF f i else f i) ∧ Room wr g4 c4) (fun i _ => n - (intOf i).toNat)
  case atStart => exact ⟨0, Nat.zero_le _, rfl, S5.out, V1.out, V3.out, Y5.out, O5.out.congr (fun i _ => by simp), R5.out⟩
  case round =>
    obtain ⟨k, hk, rfl, hS, hx1, hx3, hx5, hown, hrm⟩ := hrel
    have HRM : Hid (Room wr g4 c4) := hrm
    have HS : Hid (Since w wr) := hS
    have H1 : Hid (Boxed wr w.heap.size 29 b (some ⟨b1, o1, none⟩) n ka) := hx1
    have H3 : Hid (Boxed wr (w.heap.size + 1) 29 0 none 0 0) := hx3
    have H5 : Hid (Boxed wr p5 29 b (some ⟨g4, 0, none⟩) n c4) := hx5
    have HW : Hid (Own wr g4 n (fun i => if i < k then notF f i else f i)) := hown
    obtain ⟨ca0, ca1⟩ := hx1.cells
    obtain ⟨cc0, cc1, cc2, cc3⟩ := hx3.four
    obtain ⟨cd0, cd1⟩ := hx5.cells
    by_cases hkl : k < n
    · have cz : wr.cell? ⟨b1, o1 + k, none⟩ = some (.int .i64 (f k)) := by rw [hS.below.cell (p := ⟨b1, o1 + k, none⟩) hb1]; exact HC1.out k hkl
      have cw := hown.2.1 k hkl
      have cf := hown.2.2 k hkl
      have hsz := hown.1
      have r1 := HF.out k hkl
      clear hS hx1 hx3 hx5 hown hrm
      have hki : (k : Int) < (n : Int) := by omega
      have hk0 : (0 : Int) ≤ (k : Int) := by omega
      go_wp2
      go_region
      all_goals
        go_wp2
        go_roundw
        case rel => exact ⟨k + 1, by omega, by go_num, since_drew (since_set HS.out (by show w.heap.size ≤ g4; omega)), (H1.out.setOther _ _ (by show g4 ≠ w.heap.size; omega)).drew, (H3.out.setOther _ _ (by show g4 ≠ w.heap.size + 1; omega)).drew, (H5.out.setOther _ _ (by show g4 ≠ p5; omega)).drew, ((HW.out.set hkl (4294967295 - f k)).congr (fun i hi => by
          by_cases e : i = k
          · subst e
            simp [notF]
          · simp only [if_neg e]
            by_cases e2 : i < k
            · rw [if_pos e2, if_pos (by omega)]
            · rw [if_neg e2, if_neg (by omega)])).drew, (HRM.out.set _).drew⟩
        case measure => simp [intOf]; omega
    · have hki : ¬ (k : Int) < (n : Int) := by omega
      clear hS hx1 hx3 hx5 hown hrm
      go_wp2_with fail
      refine (cut_cap b g4 n c4 (notF f) wr hbb hbc hn0 hn (HW.out.congr (fun i hi => if_pos (by omega))) HRM.out (fun i hi => by unfold notF; have := HF.out i hi; omega)).mono ?_
      rintro e w6 ⟨rfl, hgr, ho6, hr6⟩
      have R6 : Hid (Room w6 g4 c4) := hr6
      have Z3 : Hid (Boxed w6 (w.heap.size + 1) 29 0 none 0 0) := by
        show Boxed w6 (w.heap.size + 1) 29 0 none 0 0
        unfold Boxed
        rw [hgr.block _ H3.out.lt (fun e => by injection e with e; omega)]
        exact H3.out
      have hin : OnlyIn wr w6 g4 (g4 + 1) := ⟨some g4, hgr, fun g' e => by injection e with e; omega⟩
      have S6 : Hid (Since w w6) := ⟨HS.out.below.trans (hin.below (by omega) HS.out.size)⟩
      have O6 : Hid (Own w6 g4 n (cutF b n (notF f))) := ho6
      unfold vecV
      clear ca0 ca1 cc0 cc1 cc2 cc3 cd0 cd1 hgr ho6 hr6 hin
      obtain ⟨cc0, cc1, cc2, cc3⟩ := Z3.out.four
      go_wp2
      refine bodyPost_ret (v := vecV b (some ⟨g4, 0, none⟩) n c4) (by simp [results, Tryz.results71, go_sem, vecV, cc0, cc1]) rfl ?_
      exact ⟨_, _, rfl, (since_set (since_set S6.out (by show w.heap.size ≤ w.heap.size + 1; omega)) (by show w.heap.size ≤ w.heap.size + 1; omega)).below, by omega, (O6.out.setOther _ _ (by show w.heap.size + 1 ≠ g4; omega)).setOther _ _ (by show w.heap.size + 1 ≠ g4; omega), (R6.out.setOther _ _ (by show w.heap.size + 1 ≠ g4; omega)).setOther _ _ (by show w.heap.size + 1 ≠ g4; omega), hc4⟩
end Go.Proofs.YtfeolbgenpknfaaGreat
