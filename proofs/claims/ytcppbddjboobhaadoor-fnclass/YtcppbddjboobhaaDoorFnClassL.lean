/- What is proved here: the law FnClass walks to true at every two slices of bytes, where the table of the library lies as its initialiser lays it; nothing that was there turns. -/
import Derived.Test.YtcppbddjboobhaaDoorClassCallW
import Derived.Test.YtcppbddjboobhaaDoorDrawClassW
namespace Go.Proofs.YtcppbddjboobhaaDoor
open Go.RowKit

theorem late_bytes {w W : World} {sa : Option Addr} {len : Nat} (h : Bytes8 w w.heap.size sa len) (hL : Late w W) : Bytes8 W W.heap.size sa len := by
  have h1 : Bytes8 W w.heap.size sa len := h.kept (row := none) ⟨hL.below.os, hL.below.tape, hL.below.output, hL.below.size, fun k hk _ => hL.below.block k hk⟩ (fun k hk => by cases hk)
  rcases h1 with h | ⟨bb, off, zs, h1, h2, h3⟩
  · exact Or.inl h
  · exact Or.inr ⟨bb, off, zs, h1, Nat.lt_of_lt_of_le h2 hL.below.size, h3⟩
set_option maxRecDepth 100000 in
set_option maxHeartbeats 8000000 in
theorem law_fnClass (s1 : Option Addr) (l1 c1 : Nat) (s2 : Option Addr) (l2 c2 : Nat) (w : World) (hm1 : l1 ≤ maxLen) (hm2 : l2 ≤ maxLen) (hy1 : Bytes8 w w.heap.size s1 l1) (hy2 : Bytes8 w w.heap.size s2 l2) (hT : Tab64 w) (hp0 : 2 < w.heap.size) :
    Calls Tryd.prog 5 #[.slice s1 l1 c1, .slice s2 l2 c2] w fun e w' => e = .returned (.bool true) ∧ Below w.heap.size w w' := by
  unfold maxLen at hm1 hm2
  have HY1 : Hid (Bytes8 w w.heap.size s1 l1) := hy1
  have HY2 : Hid (Bytes8 w w.heap.size s2 l2) := hy2
  have L0 : Late w w := ⟨Below.refl _ _, hT, hp0⟩
  clear hy1 hy2 hT
  by_cases hbig1 : 1048576 < (l1 : Int)
  · go_enter Tryd.func5, Tryd.ntmps5
    go_wp2
    go_ret
    exact ⟨rfl, Below.refl _ _⟩
  by_cases hbig2 : 1048576 < (l2 : Int)
  · go_enter Tryd.func5, Tryd.ntmps5
    go_wp2
    go_ret
    exact ⟨rfl, Below.refl _ _⟩
  have hl1 : l1 ≤ 1048576 := by omega
  have hl2 : l2 ≤ 1048576 := by omega
  obtain ⟨O, A, N, F, H, R, g⟩ := alg_some
  go_enter Tryd.func5, Tryd.ntmps5
  go_wp2_with fail
  refine (drawClassOr_any w s1 l1 c1 hl1 HY1.out).mono ?_
  rintro e w1 ⟨⟨a, b, rfl, ha, hb⟩, hb1⟩
  have L1 : Late w w1 := L0.step hb1
  clear hb1
  go_wp2_with fail
  refine (drawClassOf_any w1 s2 l2 c2 hl2 (late_bytes HY2.out L1)).mono ?_
  rintro e w2 ⟨⟨t, rfl, ht⟩, hb2⟩
  have L2 : Late w w2 := L1.step hb2
  clear hb2
  go_wp2_with fail
  refine (drawClassSpan_any w2 s2 l2 c2 hl2 (late_bytes HY2.out L2)).mono ?_
  rintro e w3 ⟨⟨lo, hi, rfl⟩, hb3⟩
  have L3 : Late w w3 := L2.step hb3
  clear hb3
  go_wp2_with fail
  refine (drawClassFold_any w3 s1 l1 c1 hl1 (late_bytes HY1.out L3)).mono ?_
  rintro e w4 ⟨⟨f, rfl, hf⟩, hb4⟩
  have L4 : Late w w4 := L3.step hb4
  clear hb4 L3 L2 L1
  obtain ⟨s, hs1, hs2⟩ := span_both w lo hi
  obtain ⟨ho1, ho2⟩ := of_both w ht
  have G1 := g.implOr w ha hb
  have G2 := g.implAnd w ha hb
  have G3 := g.implNot w ha
  have G4 := g.specOr w ha hb
  have G5 := g.specAnd w ha hb
  have G6 := g.specNot w ha
  have G7 := g.implFold w hf
  have G8 := g.specFold w hf
  have G9 := g.implRight w ha
  have GA := g.specRight w ha
  have sx := g.o_size a b
  have sy := g.a_size a b
  have sz := g.n_size a
  have sg := g.f_size f
  have sc := classT_size (hasByte t)
  go_wp2_with (first
    | (go_at_call 50; refine Calls.mono (G1 _ (by assumption)) ?_; rintro e w' ⟨rfl, hL⟩)
    | (go_at_call 51; refine Calls.mono (G2 _ (by assumption)) ?_; rintro e w' ⟨rfl, hL⟩)
    | (go_at_call 52; refine Calls.mono (G3 _ (by assumption)) ?_; rintro e w' ⟨rfl, hL⟩)
    | (go_at_call 56; refine Calls.mono (G4 _ (by assumption)) ?_; rintro e w' ⟨rfl, hL⟩)
    | (go_at_call 57; refine Calls.mono (G5 _ (by assumption)) ?_; rintro e w' ⟨rfl, hL⟩)
    | (go_at_call 58; refine Calls.mono (G6 _ (by assumption)) ?_; rintro e w' ⟨rfl, hL⟩)
    | (go_at_call 53; refine Calls.mono (ho1 _ (by assumption)) ?_; rintro e w' ⟨rfl, hL⟩)
    | (go_at_call 59; refine Calls.mono (ho2 _ (by assumption)) ?_; rintro e w' ⟨rfl, hL⟩)
    | (go_at_call 54; refine Calls.mono (hs1 _ (by assumption)) ?_; rintro e w' ⟨rfl, hL⟩)
    | (go_at_call 60; refine Calls.mono (hs2 _ (by assumption)) ?_; rintro e w' ⟨rfl, hL⟩)
    | (go_at_call 55; refine Calls.mono (G7 _ (by assumption)) ?_; rintro e w' ⟨rfl, hL⟩)
    | (go_at_call 61; refine Calls.mono (G8 _ (by assumption)) ?_; rintro e w' ⟨rfl, hL⟩)
    | (go_at_call 62; refine Calls.mono (G9 _ (by assumption)) ?_; rintro e w' ⟨rfl, hL⟩)
    | (go_at_call 63; refine Calls.mono (GA _ (by assumption)) ?_; rintro e w' ⟨rfl, hL⟩))
  rename_i LL
  have hff := g.ff f
  have hlet := g.letter f
  have GB := g.implFold w sg
  rw [hff] at GB
  clear G1 G2 G3 G4 G5 G6 G7 G8 G9 ho1 ho2 hs1 hs2 hff
  go_loopw [17] (fun i wr => ∃ k : Nat, k ≤ t.size ∧ i = .int .i64 (k : Int) ∧ Late w wr) (fun i _ => t.size - (intOf i).toNat)
  case atStart => exact ⟨0, Nat.zero_le _, rfl, by assumption⟩
  case round =>
    obtain ⟨k, hk, rfl, hLr⟩ := hrel
    by_cases hlt : k < t.size
    · have hlt' : (k : Int) < (t.size : Int) := by omega
      have hmade := g.made t k hlt
      have hx0 : t[k].toNat < 256 := t[k].toNat_lt
      have GH := g.implHas w sc (t[k].toNat : Int)
      rw [hmade] at GH
      have hw1 : IntKind.i64.wrap (t[k].toNat : Int) = t[k].toNat := by rw [IntKind.wrap_i64]; omega
      have HGH : Hid (Gives w 64 #[.string (classT (hasByte t)), .int .i64 (t[k].toNat : Int)] (.bool true)) := GH
      clear GH hmade hx0
      go_wp2_with (first | (go_at_call 64; refine Calls.mono (HGH.out _ (by assumption)) ?_; rintro e w' ⟨rfl, hL⟩))
      go_roundw
      case rel => exact ⟨k + 1, by omega, by go_num, by assumption⟩
      case measure => simp [intOf]; omega
    · have hge : ¬ (k : Int) < (t.size : Int) := by omega
      have GH1 := g.implHas w sg 97
      have GH2 := g.implHas w sg 65
      rw [hlet] at GH1
      have GD := g.specRight w hb
      by_cases hr : RightC a ∧ RightC b
      · have ra : R a = true := (g.r1 a).2 hr.1
        have rb : R b = true := (g.r1 b).2 hr.2
        have HR : Hid (RightC a ∧ RightC b) := hr
        clear hr
        go_wp2_with (first
          | (go_at_call 55; refine Calls.mono (GB _ (by assumption)) ?_; rintro e w' ⟨rfl, hL⟩)
          | (go_at_call_of 64 (Value.int IntKind.i64 97); refine Calls.mono (GH1 _ (by assumption)) ?_; rintro e w' ⟨rfl, hL⟩)
          | (go_at_call_of 64 (Value.int IntKind.i64 65); refine Calls.mono (GH2 _ (by assumption)) ?_; rintro e w' ⟨rfl, hL⟩)
          | (go_at_call_of 63 (Value.string a); refine Calls.mono (GA _ (by assumption)) ?_; rintro e w' ⟨rfl, hL⟩)
          | (go_at_call_of 63 (Value.string b); refine Calls.mono (GD _ (by assumption)) ?_; rintro e w' ⟨rfl, hL⟩))
        have hnn := g.nn HR.out.1
        have GN := g.implNot w sz
        rw [hnn] at GN
        clear GB GH1 GH2 GA GD hnn hlet
        go_loopw [18] (fun i wr => ∃ k : Nat, k ≤ 256 ∧ i = .int .i64 (k : Int) ∧ Late w wr) (fun i _ => 256 - (intOf i).toNat)
        case atStart => exact ⟨0, Nat.zero_le _, rfl, by assumption⟩
        case round =>
          obtain ⟨j, hj, rfl, hLq⟩ := hrel
          by_cases hlj : j < 256
          · have hlj' : (j : Int) < 256 := by omega
            have P1 := g.specHas w ha (j : Int)
            have P2 := g.specHas w hb (j : Int)
            have P3 := g.implHas w sx (j : Int)
            have P4 := g.implHas w sy (j : Int)
            have P5 := g.implHas w sz (j : Int)
            rw [g.or HR.out.1 HR.out.2 j hlj] at P3
            rw [g.and HR.out.1 HR.out.2 j hlj] at P4
            rw [g.not HR.out.1 j hlj] at P5
            generalize H a (j : Int) = p at P1 P3 P4 P5
            generalize H b (j : Int) = q at P2 P3 P4
            cases p <;> cases q
            all_goals
              simp only [Bool.or_self, Bool.true_or, Bool.false_or, Bool.and_self, Bool.true_and, Bool.false_and, Bool.not_true, Bool.not_false] at P3 P4 P5
              go_wp2_with (first
                | (go_at_call_of 65 (Value.string a); refine Calls.mono (P1 _ (by assumption)) ?_; rintro e w' ⟨rfl, hL⟩)
                | (go_at_call_of 65 (Value.string b); refine Calls.mono (P2 _ (by assumption)) ?_; rintro e w' ⟨rfl, hL⟩)
                | (go_at_call_of 64 (Value.string (O a b)); refine Calls.mono (P3 _ (by assumption)) ?_; rintro e w' ⟨rfl, hL⟩)
                | (go_at_call_of 64 (Value.string (A a b)); refine Calls.mono (P4 _ (by assumption)) ?_; rintro e w' ⟨rfl, hL⟩)
                | (go_at_call_of 64 (Value.string (N a)); refine Calls.mono (P5 _ (by assumption)) ?_; rintro e w' ⟨rfl, hL⟩))
              go_roundw
              case rel => exact ⟨j + 1, by omega, by go_num, by assumption⟩
              case measure => simp [intOf]; omega
          · have hge2 : ¬ (j : Int) < 256 := by omega
            go_wp2_with (first | (go_at_call 52; refine Calls.mono (GN _ (by assumption)) ?_; rintro e w' ⟨rfl, hL⟩))
            go_ret
            exact ⟨rfl, by rename_i hL; exact hL.below⟩
      · have ex := g.o2 a b hr
        have ey := g.a2 a b hr
        have HR : Hid (¬ (RightC a ∧ RightC b)) := hr
        clear hr
        cases ra : R a
        · go_wp2_with (first
            | (go_at_call 55; refine Calls.mono (GB _ (by assumption)) ?_; rintro e w' ⟨rfl, hL⟩)
            | (go_at_call_of 64 (Value.int IntKind.i64 97); refine Calls.mono (GH1 _ (by assumption)) ?_; rintro e w' ⟨rfl, hL⟩)
            | (go_at_call_of 64 (Value.int IntKind.i64 65); refine Calls.mono (GH2 _ (by assumption)) ?_; rintro e w' ⟨rfl, hL⟩)
            | (go_at_call_of 63 (Value.string a); refine Calls.mono (GA _ (by assumption)) ?_; rintro e w' ⟨rfl, hL⟩))
          go_ret
          exact ⟨rfl, by rename_i hL; exact hL.below⟩
        · have rb : R b = false := by
            cases h : R b
            · rfl
            · exact absurd ⟨(g.r1 a).1 ra, (g.r1 b).1 h⟩ HR.out
          go_wp2_with (first
            | (go_at_call 55; refine Calls.mono (GB _ (by assumption)) ?_; rintro e w' ⟨rfl, hL⟩)
            | (go_at_call_of 64 (Value.int IntKind.i64 97); refine Calls.mono (GH1 _ (by assumption)) ?_; rintro e w' ⟨rfl, hL⟩)
            | (go_at_call_of 64 (Value.int IntKind.i64 65); refine Calls.mono (GH2 _ (by assumption)) ?_; rintro e w' ⟨rfl, hL⟩)
            | (go_at_call_of 63 (Value.string a); refine Calls.mono (GA _ (by assumption)) ?_; rintro e w' ⟨rfl, hL⟩)
            | (go_at_call_of 63 (Value.string b); refine Calls.mono (GD _ (by assumption)) ?_; rintro e w' ⟨rfl, hL⟩))
          go_ret
          exact ⟨rfl, by rename_i hL; exact hL.below⟩
end Go.Proofs.YtcppbddjboobhaaDoor
