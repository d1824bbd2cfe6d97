/- What is proved here: patterns that are drawn, at most three of them, each of at most five small atoms, in new memory; nothing turns but the source's own block. -/
import Derived.Test.YtfeolbgenpknfaaQDrawEndsPWToDrawPlainW
import Derived.Test.YtfeolbgenpknfaaQEndRowsMToAARowM
namespace Go.Proofs.Ytfeolbgenpknfaa
open Go.RowKit

theorem Try.patInfo : (Try.prog.info? 23).map (fun i => (i.zero, i.size, i.bytes)) = some (some (.slice none 0 0), 1, 24) := by kernel_rfl
/-- Patterns that are being drawn. -/
structure PatsIn (w W : World) (b : Nat) (sa : Option Addr) (len cap k : Nat) (s : Nat → Option Addr) (n c : Nat → Nat) (f : Nat → Nat → Atm) (v : Value) : Prop where
  g : w.grownBy W (some b)
  r : Src W b sa len cap
  o : W.ownsRow w.heap.size 23 1 v k (scells s n c k)
  rows : ∀ i, i < k → ASl W w.heap.size W.heap.size (s i) (n i) (f i)
  apart : ∀ i, i < k → 0 < n i → ∀ g, s i = some ⟨g, 0, none⟩ → v.ownBlock ≠ some g
  sm : ∀ i, i < k → n i ≤ 5 ∧ ∀ j, j < n i → SmallA (f i j)
theorem ASl.grow {W W' : World} {lo n : Nat} {sa : Option Addr} {row : Option Nat} {f : Nat → Atm} (h : ASl W lo W.heap.size sa n f) (hg : W.grownBy W' row) (hr : 0 < n → ∀ g, sa = some ⟨g, 0, none⟩ → lo ≤ g → row ≠ some g) : ASl W' lo W'.heap.size sa n f := by
  rcases h with h | ⟨g, h1, h2, h4, h3⟩
  · exact Or.inl h
  · by_cases h0 : n = 0
    · exact Or.inl h0
    · have hd := hr (by omega) g h1 h2
      have h9 := h3.other hg hd
      exact Or.inr ⟨g, h1, h2, h9.lt, h9⟩
theorem PatsIn.src {w W W' : World} {b : Nat} {sa : Option Addr} {len cap k : Nat} {s : Nat → Option Addr} {n c : Nat → Nat} {f : Nat → Nat → Atm} {v : Value} (h : PatsIn w W b sa len cap k s n c f v) (hb : b < w.heap.size) (hg : W.grownBy W' (some b)) (hs : Src W' b sa len cap) : PatsIn w W' b sa len cap k s n c f v :=
  ⟨h.g.trans hg, hs, owns_src h.o hg hb, fun i hi => (h.rows i hi).grow hg (fun _ g _ hl e => by injection e with e; omega), h.apart, h.sm⟩
/-- One pattern more. -/
theorem PatsIn.push {w W W3 : World} {b : Nat} {sa : Option Addr} {len cap k : Nat} {s : Nat → Option Addr} {n c : Nat → Nat} {f : Nat → Nat → Atm} {v v' : Value} {sx : Option Addr} {nx cx : Nat} {fx : Nat → Atm} {o : Obj} (h : PatsIn w W b sa len cap k s n c f v) (hb : b < w.heap.size) (hx : ASl W w.heap.size W.heap.size sx nx fx) (ha : 0 < nx → ∀ g, sx = some ⟨g, 0, none⟩ → v.ownBlock ≠ some g) (hsm : nx ≤ 5 ∧ ∀ j, j < nx → SmallA (fx j))
    (ho : W3.ownsRow w.heap.size 23 1 v' (k + 1) (scells s n c k ++ [.slice sx nx cx])) (hg : (W.alloc o).grownBy W3 v.ownBlock) (hv : v'.ownBlock = v.ownBlock ∨ ∃ z, v'.ownBlock = some z ∧ W.heap.size ≤ z) :
    PatsIn w W3 b sa len cap (k + 1) (fun i => if i = k then sx else s i) (fun i => if i = k then nx else n i) (fun i => if i = k then cx else c i) (fun i => if i = k then fx else f i) v' := by
  have hg3 : W.grownBy W3 v.ownBlock := (World.grownBy_alloc W o v.ownBlock).trans hg
  have hlt := h.o.lt
  have inW : ∀ {lo m : Nat} {s : Option Addr} {F : Nat → Atm}, ASl W lo W.heap.size s m F → 0 < m → ∀ g, s = some ⟨g, 0, none⟩ → g < W.heap.size := fun hh h0 g e => by
    rcases hh with h9 | ⟨g', h1, _, h4, _⟩
    · omega
    · rw [e] at h1
      injection h1 with h1
      injection h1 with h1
      omega
  refine ⟨grown_row h.g hg3 (fun j e => (hlt j e).1), h.r.kept hg3 (fun j e => by have := (hlt j e).1; omega), ?_, fun i hi => ?_, fun i hi => ?_, fun i hi => ?_⟩
  · have e : scells (fun i => if i = k then sx else s i) (fun i => if i = k then nx else n i) (fun i => if i = k then cx else c i) (k + 1) = scells s n c k ++ [.slice sx nx cx] := by
      show scells _ _ _ k ++ [Value.slice (if k = k then sx else s k) (if k = k then nx else n k) (if k = k then cx else c k)] = _
      rw [scells_congr (s := fun i => if i = k then sx else s i) (s' := s) (n := fun i => if i = k then nx else n i) (n' := n) (c := fun i => if i = k then cx else c i) (c' := c) k (fun i hi => ⟨if_neg (by omega), if_neg (by omega), if_neg (by omega)⟩)]
      simp only [if_pos]
    rw [e]
    exact ho
  · by_cases e : i = k
    · simp only [if_pos e]
      exact hx.grow hg3 (fun h0 g hg9 _ => ha h0 g hg9)
    · simp only [if_neg e]
      exact (h.rows i (by omega)).grow hg3 (fun h0 g hg9 _ => h.apart i (by omega) h0 g hg9)
  · by_cases e : i = k
    · simp only [if_pos e]
      intro h0 g hg9
      rcases hv with hv | ⟨z, hv, hz⟩
      · rw [hv]; exact ha h0 g hg9
      · rw [hv]
        intro e9
        injection e9 with e9
        have := inW hx h0 g hg9
        omega
    · simp only [if_neg e]
      intro h0 g hg9
      rcases hv with hv | ⟨z, hv, hz⟩
      · rw [hv]; exact h.apart i (by omega) h0 g hg9
      · rw [hv]
        intro e9
        injection e9 with e9
        have := inW (h.rows i (by omega)) h0 g hg9
        omega
  · by_cases e : i = k
    · simp only [if_pos e]; exact hsm
    · simp only [if_neg e]; exact h.sm i (by omega)
/-- Patterns in new memory. -/
structure FarPats (W : World) (lo : Nat) (sx : Option Addr) (k : Nat) (s : Nat → Option Addr) (n c : Nat → Nat) (f : Nat → Nat → Atm) : Prop where
  cells : k = 0 ∨ ∃ g, sx = some ⟨g, 0, none⟩ ∧ lo ≤ g ∧ g < W.heap.size ∧ ∀ i, i < k → W.cell? ⟨g, i, none⟩ = some (.slice (s i) (n i) (c i))
  rows : ∀ i, i < k → ASl W lo W.heap.size (s i) (n i) (f i)
theorem FarPats.kept {W W' : World} {lo k b : Nat} {sx : Option Addr} {s : Nat → Option Addr} {n c : Nat → Nat} {f : Nat → Nat → Atm} (h : FarPats W lo sx k s n c f) (hg : W.grownBy W' (some b)) (hb : b < lo) : FarPats W' lo sx k s n c f := by
  refine ⟨?_, fun i hi => (h.rows i hi).grow hg (fun _ g _ hl e => by injection e with e; omega)⟩
  rcases h.cells with h9 | ⟨g, h1, h2, h3, h4⟩
  · exact Or.inl h9
  · refine Or.inr ⟨g, h1, h2, Nat.lt_of_lt_of_le h3 hg.size, fun i hi => ?_⟩
    have h5 := hg.block g h3 (fun e => by injection e with e; omega)
    have h6 := h4 i hi
    simpa [World.cell?, h5] using h6
theorem FarPats.read {W : World} {lo k : Nat} {sx : Option Addr} {s : Nat → Option Addr} {n c : Nat → Nat} {f : Nat → Nat → Atm} (h : FarPats W lo sx k s n c f) : AARows W W.heap.size sx k s n c f := by
  rcases h.cells with h9 | ⟨g, h1, h2, h3, h4⟩
  · exact Or.inl h9
  · exact Or.inr ⟨g, 0, h1, h3, fun i hi => ⟨by rw [Nat.zero_add]; exact h4 i hi, (h.rows i hi).row⟩⟩
theorem PatsIn.out {w W : World} {b : Nat} {sa : Option Addr} {len cap k : Nat} {s : Nat → Option Addr} {n c : Nat → Nat} {f : Nat → Nat → Atm} {v : Value} (h : PatsIn w W b sa len cap k s n c f v) : ∃ (sx : Option Addr) (cx : Nat), v = .slice sx k cx ∧ FarPats W w.heap.size sx k s n c f := by
  have hrows := h.rows
  obtain ⟨_, ⟨rfl, hx⟩ | ⟨g, cap, cur, rfl, hg, hh, hnc, hm, hs, ht⟩⟩ := h.o
  · have h1 : k = 0 := hx
    subst h1
    exact ⟨none, 0, rfl, Or.inl rfl, hrows⟩
  · refine ⟨_, _, rfl, Or.inr ⟨g, rfl, hg, lt_of_block hh, fun i hi => ?_⟩, hrows⟩
    have hc : W.cell? ⟨g, i, none⟩ = (scells s n c k)[i]? := by
      rw [← ht, List.getElem?_take_of_lt (by omega)]
      simp [World.cell?, hh]
    rw [hc]
    exact scells_get s n c i k hi
/-- Some patterns. -/
def SomePats (w : World) (e : Ending) (w' : World) : Prop := ∃ (sx : Option Addr) (k cx : Nat) (s : Nat → Option Addr) (n c : Nat → Nat) (f : Nat → Nat → Atm), e = .returned (.slice sx k cx) ∧ k ≤ 3 ∧ FarPats w' w.heap.size sx k s n c f ∧ ∀ i, i < k → n i ≤ 5 ∧ ∀ j, j < n i → SmallA (f i j)
set_option maxRecDepth 100000 in
set_option maxHeartbeats 4000000 in
theorem l05Some_any (w : World) (b : Nat) (sa : Option Addr) (len cap : Nat) (hs : Src w b sa len cap) :
    Calls Try.prog 63 #[.pointer (some ⟨b, 0, none⟩)] w fun e w' => SomePats w e w' ∧ w.grownBy w' (some b) ∧ Src w' b sa len cap := by
  obtain ⟨i0, hi, hz0, hz1, hz2⟩ := info_parts Try.patInfo
  have hb := hs.lt
  have P0 : Hid (PatsIn w (w.alloc (.cells #[] 23)) b sa len cap 0 (fun _ => none) (fun _ => 0) (fun _ => 0) (fun _ _ => atm0) (.slice (some ⟨w.heap.size, 0, none⟩) 0 0)) :=
    ⟨World.grownBy_alloc w _ _, hs.after ((Below.refl _ _).alloc (Nat.le_refl _) _), ⟨rfl, Or.inr ⟨w.heap.size, 0, #[], rfl, Nat.le_refl _, heap_alloc_new w _, Nat.le_refl _, Nat.zero_le _, rfl, by simp [scells]⟩⟩, fun i hi => absurd hi (Nat.not_lt_zero _), fun i hi => absurd hi (Nat.not_lt_zero _), fun i hi => absurd hi (Nat.not_lt_zero _)⟩
  clear hs
  go_enter Try.func63, Try.ntmps63
  go_wp2_with fail
  generalize w.alloc (.cells #[] 23) = v0 at *
  refine (n_any _ b sa len cap 4 (by decide) P0.out.r).mono ?_
  rintro e w1 ⟨⟨r, rfl, hr0, hr1, _⟩, hg, hS⟩
  have hr2 : r < 4 := hr1 (by decide)
  have P1 : Hid (PatsIn w w1 b sa len cap 0 (fun _ => none) (fun _ => 0) (fun _ => 0) (fun _ _ => atm0) (.slice (some ⟨w.heap.size, 0, none⟩) 0 0)) := P0.out.src hb hg hS
  clear hr1 hg hS P0
  go_wp2_with fail
  go_loopw [3, 4] (fun v kv wr => ∃ (m : Nat) (s : Nat → Option Addr) (n c : Nat → Nat) (f : Nat → Nat → Atm) (k : Int), kv = .int .i64 k ∧ 0 ≤ k ∧ k + (m : Int) ≤ 3 ∧ PatsIn w wr b sa len cap m s n c f v) (fun _ kv _ => (intOf kv).toNat)
  case atStart => exact ⟨0, _, _, _, _, r, rfl, by omega, by omega, P1.out⟩
  case round =>
    obtain ⟨m, s, n, c, f, k, rfl, hk0, hkm, hp⟩ := hrel
    have HP : Hid (PatsIn w wr b sa len cap m s n c f u3) := hp
    clear hp
    by_cases hk : 0 < k
    · -- what is appended, whichever pattern it is
      have APP : Hid (∀ (W : World) (sx : Option Addr) (nx cx : Nat) (fx : Nat → Atm), ASl W wr.heap.size W.heap.size sx nx fx → (nx ≤ 5 ∧ ∀ j, j < nx → SmallA (fx j)) → PatsIn w W b sa len cap m s n c f u3 → ASl W w.heap.size W.heap.size sx nx fx ∧ (0 < nx → ∀ g, sx = some ⟨g, 0, none⟩ → u3.ownBlock ≠ some g)) := fun W sx nx cx fx hx _ hP => by
        refine ⟨?_, fun h0 g hg9 => ?_⟩
        · rcases hx with h9 | ⟨g, h1, h2, h4, h3⟩
          · exact Or.inl h9
          · exact Or.inr ⟨g, h1, Nat.le_trans HP.out.g.size h2, h4, h3⟩
        · rcases hx with h9 | ⟨g', h1, h2, h4, h3⟩
          · omega
          · rw [hg9] at h1
            injection h1 with h1
            injection h1 with h1
            intro e9
            have := (HP.out.o.lt g e9).2
            omega
      go_wp2_with fail
      refine (l04Pattern_any _ b sa len cap HP.out.r).mono ?_
      rintro e w2 ⟨⟨s2, n2, c2, f2, rfl, hn2, hsl2, hsm2⟩, hg, hS⟩
      have P2 : Hid (PatsIn w w2 b sa len cap m s n c f u3) := HP.out.src hb hg hS
      have X2 : Hid (ASl w2 wr.heap.size w2.heap.size s2 n2 f2 ∧ ∀ j, j < n2 → SmallA (f2 j)) := ⟨hsl2, hsm2⟩
      have Z2 : Hid (wr.heap.size ≤ w2.heap.size) := hg.size
      have hbr : b < wr.heap.size := HP.out.r.lt
      clear hg hS hsl2 hsm2
      go_wp2_with fail
      refine (one_any _ b sa len cap 3 (by decide) P2.out.r).mono ?_
      rintro e w3 ⟨⟨x, rfl⟩, hg, hS⟩
      have P3 : Hid (PatsIn w w3 b sa len cap m s n c f u3) := P2.out.src hb hg hS
      have X3 : Hid (ASl w3 wr.heap.size w3.heap.size s2 n2 f2) := X2.out.1.grow hg (fun _ g _ hl e => by injection e with e; omega)
      have Z3 : Hid (wr.heap.size ≤ w3.heap.size) := Nat.le_trans Z2.out hg.size
      clear hg hS P2
      cases x with
      | true =>
        clear X3
        go_wp2_with fail
        refine (l04Plain_any _ b sa len cap P3.out.r).mono ?_
        rintro e w4 ⟨⟨s4, n4, c4, f4, rfl, hn4, hsl4, hsm4⟩, hg, hS⟩
        have P4 : Hid (PatsIn w w4 b sa len cap m s n c f u3) := P3.out.src hb hg hS
        have X4 : Hid (ASl w4 wr.heap.size w4.heap.size s4 n4 f4 ∧ n4 ≤ 5 ∧ ∀ j, j < n4 → SmallA (f4 j)) := ⟨by
          rcases hsl4 with h9 | ⟨g, h1, h2, h4, h3⟩
          · exact Or.inl h9
          · exact Or.inr ⟨g, h1, Nat.le_trans Z3.out h2, h4, h3⟩, hn4, hsm4⟩
        have Y4 : Hid (ASl w4 w.heap.size w4.heap.size s4 n4 f4 ∧ (0 < n4 → ∀ g, s4 = some ⟨g, 0, none⟩ → u3.ownBlock ≠ some g)) := APP.out w4 s4 n4 c4 f4 X4.out.1 X4.out.2 P4.out
        have hown := P4.out.o
        have hlo : w.heap.size ≤ w4.heap.size := P4.out.g.size
        clear hg hS hsl4 hsm4 P3
        go_wp2_with (at_builtin; refine wpList_append_own_at _ rfl (.tmp 19) (.tmp 21) 31 rfl w.heap.size 23 i0 (.slice none 0 0) 1 24 Try.underlying31 hi hz0 hz1 hz2 rfl (by decide) _ _ _ rfl (hown.alloc _) ⟨w4.heap.size, 0, none⟩ 1 1 [.slice s4 n4 c4] rfl rfl ?c1 ?c2 ?c3 ?c4 ?c5 ?_)
        case c1 =>
          intro j u hu
          match j, hu with
          | 0, hu => simp at hu; subst hu; simp [Addr.add]
          | j + 1, hu => simp at hu
        case c2 => intro u hu; simp at hu; subst hu; rfl
        case c3 => unfold maxLen; omega
        case c4 => omega
        case c5 => first | omega | (simp <;> omega)
        intro v5 w5 hown5 hgrow5 _ hvb
        have P5 : Hid (PatsIn w w5 b sa len cap (m + 1) (fun i => if i = m then s4 else s i) (fun i => if i = m then n4 else n i) (fun i => if i = m then c4 else c i) (fun i => if i = m then f4 else f i) v5) := P4.out.push hb Y4.out.1 Y4.out.2 X4.out.2 hown5 hgrow5 (hvb.imp id (fun h => ⟨_, h, by simp⟩))
        clear hown5 hgrow5 hvb hown
        go_wp2_with fail
        go_roundw
        case rel => exact ⟨m + 1, _, _, _, _, k - 1, by go_num, by omega, by omega, P5.out⟩
        case measure => simp [intOf]; omega
      | false =>
        have Y3 : Hid (ASl w3 w.heap.size w3.heap.size s2 n2 f2 ∧ (0 < n2 → ∀ g, s2 = some ⟨g, 0, none⟩ → u3.ownBlock ≠ some g)) := APP.out w3 s2 n2 c2 f2 X3.out ⟨hn2, X2.out.2⟩ P3.out
        have hown := P3.out.o
        have hlo : w.heap.size ≤ w3.heap.size := P3.out.g.size
        go_wp2_with (at_builtin; refine wpList_append_own_at _ rfl (.tmp 19) (.tmp 21) 31 rfl w.heap.size 23 i0 (.slice none 0 0) 1 24 Try.underlying31 hi hz0 hz1 hz2 rfl (by decide) _ _ _ rfl (hown.alloc _) ⟨w3.heap.size, 0, none⟩ 1 1 [.slice s2 n2 c2] rfl rfl ?c1 ?c2 ?c3 ?c4 ?c5 ?_)
        case c1 =>
          intro j u hu
          match j, hu with
          | 0, hu => simp at hu; subst hu; simp [Addr.add]
          | j + 1, hu => simp at hu
        case c2 => intro u hu; simp at hu; subst hu; rfl
        case c3 => unfold maxLen; omega
        case c4 => omega
        case c5 => first | omega | (simp <;> omega)
        intro v5 w5 hown5 hgrow5 _ hvb
        have P5 : Hid (PatsIn w w5 b sa len cap (m + 1) (fun i => if i = m then s2 else s i) (fun i => if i = m then n2 else n i) (fun i => if i = m then c2 else c i) (fun i => if i = m then f2 else f i) v5) := P3.out.push hb Y3.out.1 Y3.out.2 ⟨hn2, X2.out.2⟩ hown5 hgrow5 (hvb.imp id (fun h => ⟨_, h, by simp⟩))
        clear hown5 hgrow5 hvb hown
        go_wp2_with fail
        go_roundw
        case rel => exact ⟨m + 1, _, _, _, _, k - 1, by go_num, by omega, by omega, P5.out⟩
        case measure => simp [intOf]; omega
    · obtain ⟨sx, cx, rfl, hfp⟩ := HP.out.out
      have HF : Hid (FarPats wr w.heap.size sx m s n c f) := hfp
      clear hfp
      go_wp2_with fail
      go_ret
      exact ⟨⟨_, m, _, s, n, c, f, rfl, by omega, HF.out, HP.out.sm⟩, HP.out.g, HP.out.r⟩
end Go.Proofs.Ytfeolbgenpknfaa
