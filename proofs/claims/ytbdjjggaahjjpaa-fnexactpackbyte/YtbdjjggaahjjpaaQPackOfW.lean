/- What is proved here: the program's packOf lays rows one behind the other; nothing that was there turns. -/
import Derived.Test.YtbdjjggaahjjpaaQAtPMToIntRowW
import Derived.Test.YtbdjjggaahjjpaaQPkHW
namespace Go.Proofs.Ytbdjjggaahjjpaa
open Go.RowKit

theorem owns_set {W : World} {base n size : Nat} {e : TypeId} {v : Value} {xs : List Value} (h : W.ownsRow base e size v n xs) (a : Addr) (x : Value) (hb : a.block < base) : (W.setCell a x).ownsRow base e size v n xs := by
  obtain ⟨hl, h⟩ := h
  refine ⟨hl, ?_⟩
  rcases h with h | ⟨g, cap, cur, h1, h2, h3, h4⟩
  · exact Or.inl h
  · refine Or.inr ⟨g, cap, cur, h1, h2, ?_, h4⟩
    rw [Below.heap_setCell _ _ _ _ (fun e => by omega)]
    exact h3
theorem own_of_intsP {W : World} {base : Nat} {l : List Int} {v : Value} (h : W.ownsRow base 2 1 v l.length (icells l)) : ∃ (s : Option Addr) (cap : Nat), v = .slice s l.length cap ∧ OwnS W base s l.length (fun i => l.getD i 0) := by
  obtain ⟨_, ⟨rfl, hx⟩ | ⟨g, cap, cur, rfl, hg, hh, hnc, hm, hs, ht⟩⟩ := h
  · have : l = [] := by simpa [icells] using hx
    subst this
    exact ⟨none, 0, rfl, Or.inl rfl⟩
  · refine ⟨_, _, rfl, Or.inr ⟨g, rfl, hg, lt_of_block hh, fun i hi => ?_, fun i hi => frozen_of_row _ _ _ _ _ hh⟩⟩
    have hc : W.cell? ⟨g, i, none⟩ = (icells l)[i]? := by
      rw [← ht, List.getElem?_take_of_lt (by omega)]
      simp [World.cell?, hh]
    rw [hc]
    simp [icells, hi]
theorem own_of_intsL {W : World} {base m : Nat} {l : List Int} {v : Value} (hl : l.length = m) (h : W.ownsRow base 2 1 v m (icells l)) : ∃ (s : Option Addr) (cap : Nat), v = .slice s m cap ∧ OwnS W base s m (fun i => l.getD i 0) := by
  subst hl
  exact own_of_intsP h
set_option maxRecDepth 100000 in
set_option maxHeartbeats 2000000 in
theorem packOf_any (sr : Option Addr) (k cr : Nat) (s : Nat → Option Addr) (n c : Nat → Nat) (f : Nat → Nat → Cel) (w : World) (hk : k ≤ 6) (hn : ∀ i, i < k → n i ≤ 60) (hr : CCRows w w.heap.size sr k s n c f) :
    Calls Try.prog 37 #[.slice sr k cr] w fun e w' => ∃ (sm : Option Addr) (cm : Nat), e = .returned (.agg #[.slice sr k cr, .slice sm k cm, .int .i64 (atP n k : Int)]) ∧ Below w.heap.size w w' ∧ OwnS w' w.heap.size sm k (fun i => (atP n i : Int)) := by
  obtain ⟨i0, hi, hz0, hz1, hz2⟩ := info_parts Try.numInfo
  have HR : Hid (CCRows w w.heap.size sr k s n c f) := hr
  have HN : Hid (∀ i, i < k → n i ≤ 60) := hn
  have HB0 : Hid (Below w.heap.size w ((w.alloc (.cells #[.slice none 0 0, .slice none 0 0, .int .i64 0] 30)).alloc (.cells #[.slice sr k cr, .slice none 0 0, .int .i64 0] 30))) := ((Below.refl _ _).alloc (Nat.le_refl _) _).alloc (by simp) _
  have HA0 : Hid (Box3 ((w.alloc (.cells #[.slice none 0 0, .slice none 0 0, .int .i64 0] 30)).alloc (.cells #[.slice sr k cr, .slice none 0 0, .int .i64 0] 30)) w.heap.size (.slice none 0 0) (.slice none 0 0) (.int .i64 0)) := (Box3.new w _ _ _ _).grow _
  have HA1 : Hid (Box3 ((w.alloc (.cells #[.slice none 0 0, .slice none 0 0, .int .i64 0] 30)).alloc (.cells #[.slice sr k cr, .slice none 0 0, .int .i64 0] 30)) (w.heap.size + 1) (.slice sr k cr) (.slice none 0 0) (.int .i64 0)) := by
    have h := Box3.new (w.alloc (.cells #[.slice none 0 0, .slice none 0 0, .int .i64 0] 30)) (.slice sr k cr) (.slice none 0 0) (.int .i64 0) 30
    exact (by simpa using h : Box3 _ _ _ _ _)
  have HZ0 : Hid (((w.alloc (.cells #[.slice none 0 0, .slice none 0 0, .int .i64 0] 30)).alloc (.cells #[.slice sr k cr, .slice none 0 0, .int .i64 0] 30)).heap.size = w.heap.size + 2) := by show _ = _; simp
  clear hr hn
  go_enter Try.func37, Try.ntmps37
  go_wp2_with fail
  generalize (w.alloc (.cells #[.slice none 0 0, .slice none 0 0, .int .i64 0] 30)).alloc (.cells #[.slice sr k cr, .slice none 0 0, .int .i64 0] 30) = w0 at *
  go_loopw [10] (fun iv wr => ∃ (i : Nat) (v : Value), i ≤ k ∧ iv = .int .i64 (i : Int) ∧ Below w.heap.size w wr ∧ Box3 wr w.heap.size (.slice none 0 0) (.slice none 0 0) (.int .i64 0) ∧ Box3 wr (w.heap.size + 1) (.slice sr k cr) v (.int .i64 (atP n i : Int)) ∧ wr.ownsRow (w.heap.size + 2) 2 1 v i (icells (atL n i)) ∧ w.heap.size + 2 ≤ wr.heap.size) (fun iv _ => k - (intOf iv).toNat)
  case atStart => exact ⟨0, .slice none 0 0, Nat.zero_le _, rfl, HB0.out, HA0.out, HA1.out, ⟨rfl, Or.inl ⟨rfl, rfl⟩⟩, by have := HZ0.out; omega⟩
  case round =>
    obtain ⟨i, v, hik, rfl, hbel, ha0, ha1, hown, hsz⟩ := hrel
    have HB : Hid (Below w.heap.size w wr) := hbel
    have H0 : Hid (Box3 wr w.heap.size (.slice none 0 0) (.slice none 0 0) (.int .i64 0)) := ha0
    have H1 : Hid (Box3 wr (w.heap.size + 1) (.slice sr k cr) v (.int .i64 (atP n i : Int))) := ha1
    have HS : Hid (w.heap.size + 2 ≤ wr.heap.size) := hsz
    clear hbel ha0 ha1
    by_cases hil : i < k
    · have hii : (i : Int) < (k : Int) := by omega
      have hi0 : (0 : Int) ≤ (i : Int) := by omega
      obtain ⟨bb, off, rfl, hbb, ci, hrow⟩ := (HR.out.late HB.out).at hil
      clear hrow
      obtain ⟨d0, d1, d2, fd0, fd1, fd2⟩ := H1.out.all
      have hat := atP_le HN.out i (by omega)
      have hni := HN.out i hil
      have HAS : Hid (atP n (i + 1) = atP n i + (n i + 1)) := atP_succ n i
      obtain ⟨q, hq⟩ : ∃ q, atP n i = q := ⟨_, rfl⟩
      have HQ : Hid (atP n i = q) := hq
      rw [hq] at d2 hat
      obtain ⟨ni, hni9⟩ : ∃ x, n i = x := ⟨_, rfl⟩
      have HNI : Hid (n i = ni) := hni9
      rw [hni9] at ci hni
      clear hq hni9
      go_wp2_with (at_builtin; refine wpList_append_own_at _ rfl (.tmp 15) (.tmp 18) 23 rfl (w.heap.size + 2) 2 i0 (.int .i64 0) 1 8 Try.underlying23 hi hz0 hz1 hz2 rfl (by decide) _ _ _ rfl (hown.alloc _) ⟨wr.heap.size, 0, none⟩ 1 1 [.int .i64 (q : Int)] rfl rfl ?c1 ?c2 ?c3 ?c4 ?c5 ?_)
      case c1 => exact cell1_new wr _ _
      case c2 => intro u hu; simp at hu; subst hu; rfl
      case c3 => unfold maxLen; omega
      case c4 => omega
      case c5 => first | omega | (simp <;> omega)
      intro v5 w5 hown5 hgrow5 _ _
      have hb5 : Below (w.heap.size + 2) wr w5 := grown_lo ((World.grownBy_alloc _ _ _).trans hgrow5) (fun j e => (hown.lt j e).1) (Nat.le_refl _) HS.out
      have B5 : Hid (Below w.heap.size w w5) := HB.out.trans (hb5.mono (by omega))
      have A5 : Hid (Box3 w5 w.heap.size (.slice none 0 0) (.slice none 0 0) (.int .i64 0)) := H0.out.kept hb5 (by omega)
      have X5 : Hid (Box3 w5 (w.heap.size + 1) (.slice (some ⟨bb, off, none⟩) k cr) v (.int .i64 (q : Int))) := by have h := H1.out.kept hb5 (by omega); rw [HQ.out] at h; exact h
      have S5 : Hid (w.heap.size + 2 ≤ w5.heap.size) := Nat.le_trans HS.out hb5.size
      have O5 : Hid (w5.ownsRow (w.heap.size + 2) 2 1 v5 (i + 1) (icells (atL n (i + 1)))) := by rw [atL_succ, icells_append, HQ.out]; exact hown5
      clear d0 d1 d2 fd0 fd1 fd2 hb5 hown5 hgrow5 hown ci hsz
      obtain ⟨d0, d1, d2, fd0, fd1, fd2⟩ := X5.out.all
      obtain ⟨s5, c5, hv5, _⟩ := own_of_intsL (atL_len n (i + 1)) O5.out
      subst hv5
      go_wp2_with fail
      go_roundw
      case rel =>
        have h1 := ((X5.out.set1 (.slice s5 (i + 1) c5)).set2 (.int .i64 ((q : Int) + ((ni : Int) + 1))))
        refine ⟨i + 1, .slice s5 (i + 1) c5, by omega, by go_num, (B5.out.setCell (by show w.heap.size ≤ w.heap.size + 1; omega) _).setCell (by show w.heap.size ≤ w.heap.size + 1; omega) _, (A5.out.setOther _ _ (by show w.heap.size + 1 ≠ w.heap.size; omega)).setOther _ _ (by show w.heap.size + 1 ≠ w.heap.size; omega), ?_, ?_, ?_⟩
        · have e : ((atP n (i + 1) : Nat) : Int) = (q : Int) + ((ni : Int) + 1) := by have := HAS.out; have := HQ.out; have := HNI.out; omega
          rw [e]
          exact h1
        · exact owns_set (owns_set O5.out _ _ (by show w.heap.size + 1 < w.heap.size + 2; omega)) _ _ (by show w.heap.size + 1 < w.heap.size + 2; omega)
        · have := S5.out
          simpa [World.setCell] using this
      case measure => simp [intOf]; omega
    · have hii : ¬ (i : Int) < (k : Int) := by omega
      obtain rfl : i = k := by omega
      obtain ⟨d0, d1, d2, fd0, fd1, fd2⟩ := H1.out.all
      obtain ⟨x0, x1, x2, fx0, fx1, fx2⟩ := H0.out.all
      obtain ⟨s5, c5, hv5, ho5⟩ := own_of_intsL (atL_len n i) hown
      subst hv5
      have HO5 : Hid (OwnS wr (w.heap.size + 1) s5 i (fun j => (atP n j : Int))) := by
        rcases ho5 with h | ⟨g, h1, h2, h3⟩
        · exact Or.inl h
        · exact Or.inr ⟨g, h1, by omega, h3.congr (fun j hj => atL_get n hj)⟩
      clear ho5 hown
      go_wp2_with fail
      have X := ((H0.out.set0 (.slice sr i cr)).set1 (.slice s5 i c5)).set2 (.int .i64 (atP n i : Int))
      obtain ⟨r0, r1, r2, _, _, _⟩ := X.all
      have hbl : Below w.heap.size w (((wr.setCell ⟨w.heap.size, 0, none⟩ (.slice sr i cr)).setCell ⟨w.heap.size, 1, none⟩ (.slice s5 i c5)).setCell ⟨w.heap.size, 2, none⟩ (.int .i64 (atP n i : Int))) := ((HB.out.setCell (Nat.le_refl _) _).setCell (Nat.le_refl _) _).setCell (Nat.le_refl _) _
      have hO : OwnS (((wr.setCell ⟨w.heap.size, 0, none⟩ (.slice sr i cr)).setCell ⟨w.heap.size, 1, none⟩ (.slice s5 i c5)).setCell ⟨w.heap.size, 2, none⟩ (.int .i64 (atP n i : Int))) w.heap.size s5 i (fun j => (atP n j : Int)) := by
        rcases HO5.out with h | ⟨g, h1, h2, h3⟩
        · exact Or.inl h
        · exact Or.inr ⟨g, h1, by omega, ((h3.setOther _ _ (by show w.heap.size ≠ g; omega)).setOther _ _ (by show w.heap.size ≠ g; omega)).setOther _ _ (by show w.heap.size ≠ g; omega)⟩
      generalize ((wr.setCell ⟨w.heap.size, 0, none⟩ (.slice sr i cr)).setCell ⟨w.heap.size, 1, none⟩ (.slice s5 i c5)).setCell ⟨w.heap.size, 2, none⟩ (.int .i64 (atP n i : Int)) = w9 at *
      refine bodyPost_ret (v := .agg #[.slice sr i cr, .slice s5 i c5, .int .i64 (atP n i : Int)]) (by simp [results, Try.results37, go_sem, r0, r1, r2]) rfl ?_
      exact ⟨s5, ⟨c5, rfl⟩, hbl, hO⟩
end Go.Proofs.Ytbdjjggaahjjpaa
