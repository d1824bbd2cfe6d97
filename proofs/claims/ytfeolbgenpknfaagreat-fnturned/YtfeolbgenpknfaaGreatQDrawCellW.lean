/- What is proved here: a row of cells that is drawn is a slice of at most sixty cells in new memory; nothing turns but the source's own block. -/
import Derived.Test.YtfeolbgenpknfaaGreatQAFarMToSpecPYesW
import Derived.Deep.DeepCutAuto
import Derived.Deep.CutBlock
import Derived.Deep.RegionHeldLaw
import Derived.Test.YtfeolbgenpknfaaGreatQSpecKOfW
namespace Go.Proofs.YtfeolbgenpknfaaGreat
open Go.RowKit

/-- A row of cells that is being drawn. -/
def CelIn (w W : World) (b : Nat) (sa : Option Addr) (len cap : Nat) (v : Value) : Prop :=
  ∃ (s : Option Addr) (n cp : Nat) (f : Nat → Cel), v = .slice s n cp ∧ n ≤ 60 ∧ CSl W w.heap.size W.heap.size s n f ∧ (∀ i, i < n → (f i).c.size ≤ 256) ∧ w.grownBy W (some b) ∧ Src W b sa len cap
/-- Some row of cells, in new memory. -/
def SomeCells (w : World) (e : Ending) (w' : World) : Prop := ∃ (s : Option Addr) (n cp : Nat) (f : Nat → Cel), e = .returned (.slice s n cp) ∧ n ≤ 60 ∧ CSl w' w.heap.size w'.heap.size s n f ∧ ∀ i, i < n → (f i).c.size ≤ 256
theorem CSl.low {W : World} {lo lo' hi n : Nat} {s : Option Addr} {f : Nat → Cel} (h : CSl W lo hi s n f) (hl : lo' ≤ lo) : CSl W lo' hi s n f := by
  rcases h with h | ⟨g, h1, h2, h3⟩
  · exact Or.inl h
  · exact Or.inr ⟨g, h1, by omega, h3⟩
theorem CSl.src {W W' : World} {lo b n : Nat} {s : Option Addr} {f : Nat → Cel} (h : CSl W lo W.heap.size s n f) (hg : W.grownBy W' (some b)) (hb : b < lo) : CSl W' lo W'.heap.size s n f := by
  rcases h with h | ⟨g, h1, h2, h3, h4⟩
  · exact Or.inl h
  · exact Or.inr ⟨g, h1, h2, Nat.lt_of_lt_of_le h3 hg.size, h4.other hg (fun e => by injection e with e; omega)⟩
theorem COwn.cls {W : World} {g n : Nat} {f : Nat → Cel} (h : COwn W g n f) (hn : 0 < n) (t : ByteArray) : COwn (W.setCell ⟨g, 0, none⟩ (.string t)) g n (fun i => if i = 0 then ⟨t, (f 0).k, (f 0).o⟩ else f i) := by
  have hne : ∀ {x : Nat}, 0 ≠ x → (⟨g, 0, none⟩ : Addr) ≠ ⟨g, x, none⟩ := fun hxy hh => hxy (by injection hh)
  refine ⟨by simpa [World.setCell] using h.lt, fun i hi => ?_, fun i hi => by rw [World.frozen?_setCell]; exact h.free i hi⟩
  by_cases e : i = 0
  · subst e
    obtain ⟨a0, a1, a2⟩ := h.at' 0 hn
    rw [if_pos rfl]
    refine ⟨?_, ?_, ?_⟩
    · exact World.cell?_setCell_same _ _ _ (by simpa using a0)
    · rw [World.cell?_setCell_other _ _ _ _ (hne (by omega))]; exact a1
    · rw [World.cell?_setCell_other _ _ _ _ (hne (by omega))]; exact a2
  · rw [if_neg e]
    obtain ⟨a0, a1, a2⟩ := h.at' i hi
    refine ⟨?_, ?_, ?_⟩
    all_goals rw [World.cell?_setCell_other _ _ _ _ (hne (by omega))]
    · exact a0
    · exact a1
    · exact a2
theorem pat_len {n : Nat} {f : Nat → Atm} (h : PatRight n f) : (cellsP (atomsL f n)).length ≤ 40 := by
  have h1 := sum_len n h.2.2.1
  have h2 := h.2.2.2
  omega
theorem celsP_class {L : List Atm} (h : ∀ a ∈ L, a.c.size ≤ 256) : ∀ c ∈ cellsP L, c.c.size ≤ 256 := fun c hc => by
  obtain ⟨a, ha, hc2⟩ := List.mem_flatMap.1 hc
  unfold cellsA at hc2
  obtain ⟨k, _, rfl⟩ := List.mem_map.1 hc2
  exact h a ha
/-- Cells that are drawn one by one. -/
structure CelGo (w W : World) (b : Nat) (sa : Option Addr) (len cap : Nat) (v : Value) (L : List Cel) : Prop where
  o : W.ownsRow w.heap.size 98 3 v L.length (kcells L)
  c : ∀ x ∈ L, x.c.size ≤ 256
  g : w.grownBy W (some b)
  s : Src W b sa len cap
theorem CelGo.src {w W W' : World} {b : Nat} {sa : Option Addr} {len cap : Nat} {v : Value} {L : List Cel} (h : CelGo w W b sa len cap v L) (hb : b < w.heap.size) (hg : W.grownBy W' (some b)) (hs : Src W' b sa len cap) : CelGo w W' b sa len cap v L :=
  ⟨owns_src h.o hg hb, h.c, h.g.trans hg, hs⟩
theorem getD_mem {L : List Cel} {i : Nat} (h : i < L.length) : L.getD i cel0 ∈ L := by simp [List.getD, h]
open Classical in
set_option maxRecDepth 100000 in
set_option maxHeartbeats 8000000 in
theorem l06Cells_any (w : World) (b : Nat) (sa : Option Addr) (len cap : Nat) (hs : Src w b sa len cap) :
    Calls Tryz.prog 61 #[.pointer (some ⟨b, 0, none⟩)] w fun e w' => SomeCells w e w' ∧ w.grownBy w' (some b) ∧ Src w' b sa len cap := by
  obtain ⟨i0, hi, hz0, hz1, hz2⟩ := info_parts Tryz.cellInfo
  have hb := hs.lt
  have P0 : Hid (CelGo w (w.alloc (.cells #[] 98)) b sa len cap (.slice (some ⟨w.heap.size, 0, none⟩) 0 0) []) :=
    ⟨⟨rfl, Or.inr ⟨w.heap.size, 0, #[], rfl, Nat.le_refl _, heap_alloc_new w _, Nat.le_refl _, Nat.zero_le _, rfl, rfl⟩⟩, (fun x hx => by cases hx), World.grownBy_alloc w _ _, hs.after ((Below.refl _ _).alloc (Nat.le_refl _) _)⟩
  clear hs
  go_enter Tryz.func61, Tryz.ntmps61
  go_wp2_with fail
  generalize w.alloc (.cells #[] 98) = v0 at *
  refine (one_any _ b sa len cap 2 (by decide) P0.out.s).mono ?_
  rintro e w1 ⟨⟨x, rfl⟩, hg, hS⟩
  have P1 : Hid (CelGo w w1 b sa len cap (.slice (some ⟨w.heap.size, 0, none⟩) 0 0) []) := P0.out.src hb hg hS
  clear hg hS P0
  go_upto_if 7 with fail
  go_cut [3] (fun v wc => CelIn w wc b sa len cap v)
  case first =>
    cases x with
    | true =>
      go_wp2_with fail
      refine (l04Pattern_any _ b sa len cap P1.out.s).mono ?_
      rintro e w2 ⟨⟨s, n, cp, f, rfl, hn5, hsl, hsm⟩, hg, hS⟩
      have P2 : Hid (CelGo w w2 b sa len cap (.slice (some ⟨w.heap.size, 0, none⟩) 0 0) []) := P1.out.src hb hg hS
      have R2 : Hid (ARow w2 w2.heap.size s n f) := hsl.row
      have HSM : Hid (∀ i, i < n → SmallA (f i)) := hsm
      have hcs : ∀ i, i < n → (f i).c.size ≤ maxLen := fun i hi => by have := (hsm i hi).1; unfold maxLen; omega
      clear hg hS hsl hsm
      by_cases hR : PatRight n f
      · have C := specKOf_yes s n cp f w2 (by unfold maxLen; omega) R2.out hcs hR
        have hl := pat_len hR
        clear hcs hR
        go_wp2_with fail
        refine C.mono ?_
        rintro e w3 ⟨s3, c3, rfl, hb3, hs3⟩
        have HC : Hid (CelIn w w3 b sa len cap (.slice s3 (cellsP (atomsL f n)).length c3)) := ⟨s3, _, c3, _, rfl, by omega, hs3.low P2.out.g.size, fun i hi => celsP_class (fun a ha => by obtain ⟨j, hj, rfl⟩ := atomsL_mem ha; exact (HSM.out j hj).1) _ (getD_mem hi), P2.out.g.trans (only_of_below hb3), P2.out.s.after hb3⟩
        clear C hb3 hs3
        go_wp2_with fail
        go_meet
        case rel => exact HC.out
      · have C := specKOf_no s n cp f w2 (by unfold maxLen; omega) R2.out hcs hR
        clear hcs hR
        go_wp2_with fail
        refine C.mono ?_
        rintro e w3 ⟨s3, c3, rfl, hb3, hs3⟩
        have HC : Hid (CelIn w w3 b sa len cap (.slice s3 0 c3)) := ⟨s3, 0, c3, (fun _ => cel0), rfl, by omega, Or.inl rfl, fun i hi => by omega, P2.out.g.trans (only_of_below hb3), P2.out.s.after hb3⟩
        clear C hb3 hs3
        go_wp2_with fail
        go_meet
        case rel => exact HC.out
    | false =>
      go_wp2_with fail
      refine (n_any _ b sa len cap 6 (by decide) P1.out.s).mono ?_
      rintro e w2 ⟨⟨r, rfl, hr0, hr1, _⟩, hg, hS⟩
      have hr2 : r < 6 := hr1 (by decide)
      have P2 : Hid (CelGo w w2 b sa len cap (.slice (some ⟨w.heap.size, 0, none⟩) 0 0) []) := P1.out.src hb hg hS
      clear hr1 hg hS P1
      go_wp2_with fail
      go_loopw [3, 4] (fun v kv wr => ∃ (L : List Cel) (k : Int), kv = .int .i64 k ∧ 0 ≤ k ∧ k + (L.length : Int) ≤ 6 ∧ CelGo w wr b sa len cap v L) (fun _ kv _ => (intOf kv).toNat)
      case atStart => exact ⟨[], 1 + r, rfl, by omega, by show 1 + r + ((0 : Nat) : Int) ≤ 6; omega, P2.out⟩
      case round =>
        obtain ⟨L, k, rfl, hk0, hkl, hp⟩ := hrel
        have HP : Hid (CelGo w wr b sa len cap u3 L) := hp
        clear hp
        by_cases hk : 0 < k
        · go_wp2_with fail
          have hwb : b < wr.heap.size := HP.out.s.lt
          have PA : Hid (CelGo w (wr.alloc (.cells #[.string ⟨#[97]⟩, .string ⟨#[98]⟩, .string ⟨#[97, 98]⟩, .string ⟨#[99]⟩] 9)) b sa len cap u3 L) := HP.out.src hb (World.grownBy_alloc _ _ _) (HP.out.s.after ((Below.refl _ _).alloc (Nat.le_refl _) _))
          refine (pick_any _ b sa len cap wr.heap.size 4 (by decide) (by decide) (by omega) ?_ PA.out.s).mono ?_
          · intro i hi
            rcases (show i = 0 ∨ i = 1 ∨ i = 2 ∨ i = 3 from by omega) with rfl | rfl | rfl | rfl
            all_goals exact ⟨_, by rw [World.cell?_alloc_mark]; rfl, by decide⟩
          rintro e w3 ⟨⟨c, rfl, hcs⟩, hg, hS⟩
          have P3 : Hid (CelGo w w3 b sa len cap u3 L) := PA.out.src hb hg hS
          clear hg hS PA
          go_wp2_with fail
          refine (one_any _ b sa len cap 3 (by decide) P3.out.s).mono ?_
          rintro e w4 ⟨⟨y, rfl⟩, hg, hS⟩
          have P4 : Hid (CelGo w w4 b sa len cap u3 L) := P3.out.src hb hg hS
          clear hg hS P3
          go_wp2_with fail
          refine (one_any _ b sa len cap 4 (by decide) P4.out.s).mono ?_
          rintro e w5 ⟨⟨z, rfl⟩, hg, hS⟩
          have P5 : Hid (CelGo w w5 b sa len cap u3 L) := P4.out.src hb hg hS
          have hown := P5.out.o
          have hlo := P5.out.g.size
          clear hg hS P4
          go_wp2_with (at_builtin; refine wpList_append_own _ rfl (.tmp 18) (.tmp 27) 23 rfl w.heap.size 98 i0 (.agg #[.string ⟨#[]⟩, .bool false, .bool false]) 3 24 Tryz.underlying23 hi hz0 hz1 hz2 rfl (by decide) _ _ _ rfl (hown.alloc _) ⟨w5.heap.size, 0, none⟩ 1 1 [.string c, .bool y, .bool z] rfl rfl (cells3_newK w5 c y z _) (one3 c y z) (by unfold maxLen; omega) (by omega) (Nat.le_trans hlo (World.size_le_alloc _ _)) ?_)
          intro v' w6 hown6 hgrow _
          have hg6 : w5.grownBy w6 u3.ownBlock := (World.grownBy_alloc w5 _ u3.ownBlock).trans hgrow
          have P6 : Hid (CelGo w w6 b sa len cap v' (L ++ [⟨c, y, z⟩])) := ⟨by rw [List.length_append, kcells_append]; exact hown6, (fun x hx => by
            rcases List.mem_append.1 hx with h | h
            · exact P5.out.c x h
            · rw [List.mem_singleton.1 h]; exact hcs), grown_row P5.out.g hg6 (fun j e => (hown.lt j e).1), P5.out.s.kept hg6 (fun j e => by have := (hown.lt j e).1; omega)⟩
          have HL : Hid ((L ++ [(⟨c, y, z⟩ : Cel)]).length = L.length + 1) := by show (L ++ [(⟨c, y, z⟩ : Cel)]).length = L.length + 1; simp
          clear hown6 hgrow hg6 hown
          go_wp2_with fail
          go_roundw
          case rel => exact ⟨L ++ [⟨c, y, z⟩], k - 1, by go_num, by omega, by have := HL.out; omega, P6.out⟩
          case measure => simp [intOf]; omega
        · go_wp2_with fail
          go_meet
          case rel =>
            obtain ⟨s, cp, e1, hsl⟩ := cells_of_ownsK HP.out.o
            exact ⟨s, L.length, cp, _, e1, by omega, hsl, fun i hi => HP.out.c _ (getD_mem hi), HP.out.g, HP.out.s⟩
  case rest =>
    obtain ⟨s, n, cp, f, rfl, hn60, hsl, hcs, hg, hS⟩ := hcut
    have HC : Hid (CSl wc w.heap.size wc.heap.size s n f ∧ (∀ i, i < n → (f i).c.size ≤ 256) ∧ w.grownBy wc (some b) ∧ Src wc b sa len cap) := ⟨hsl, hcs, hg, hS⟩
    clear hsl hcs hg hS P1
    go_wp2_with fail
    refine (one_any _ b sa len cap 25 (by decide) HC.out.2.2.2).mono ?_
    rintro e w2 ⟨⟨y, rfl⟩, hg, hS⟩
    have H2 : Hid (CSl w2 w.heap.size w2.heap.size s n f ∧ (∀ i, i < n → (f i).c.size ≤ 256) ∧ w.grownBy w2 (some b) ∧ Src w2 b sa len cap) := ⟨HC.out.1.src hg hb, HC.out.2.1, HC.out.2.2.1.trans hg, hS⟩
    clear hg hS HC
    cases y with
    | false =>
      go_wp2_with fail
      go_ret
      exact ⟨⟨s, n, cp, f, rfl, hn60, H2.out.1, H2.out.2.1⟩, H2.out.2.2⟩
    | true =>
      by_cases hn0 : n = 0
      · subst hn0
        go_wp2_with fail
        go_ret
        exact ⟨⟨s, 0, cp, f, rfl, hn60, H2.out.1, H2.out.2.1⟩, H2.out.2.2⟩
      · have hnp : (0 : Int) < (n : Int) := by omega
        obtain ⟨g, rfl, hgl, hgs, hgo⟩ : ∃ g, s = some ⟨g, 0, none⟩ ∧ w.heap.size ≤ g ∧ g < w2.heap.size ∧ COwn w2 g n f := by
          rcases H2.out.1 with h | h
          · omega
          · exact h
        have HG : Hid (COwn w2 g n f ∧ w.heap.size ≤ g) := ⟨hgo, hgl⟩
        have hwb : b < w2.heap.size := H2.out.2.2.2.lt
        clear hgo
        go_wp2_with fail
        refine (pick_any _ b sa len cap w2.heap.size 2 (by decide) (by decide) (by omega) ?_ (H2.out.2.2.2.after ((Below.refl _ _).alloc (Nat.le_refl _) _))).mono ?_
        · intro i hi
          rcases (show i = 0 ∨ i = 1 from by omega) with rfl | rfl
          all_goals exact ⟨_, by rw [World.cell?_alloc_mark]; rfl, by decide⟩
        rintro e w3 ⟨⟨c, rfl, hcs⟩, hg, hS⟩
        have O3 : Hid (COwn w3 g n f) := ((HG.out.1.kept ((Below.refl _ _).alloc (Nat.le_refl _) _) hgs).other hg (fun e => by injection e with e; omega))
        have H3 : Hid (w.grownBy w3 (some b) ∧ Src w3 b sa len cap ∧ c.size ≤ 256) := ⟨(H2.out.2.2.1.trans (World.grownBy_alloc _ _ _)).trans hg, hS, hcs⟩
        have c0 := (O3.out.at' 0 (by omega)).c0
        have f0 := O3.out.free 0 (by omega)
        have gl3 := O3.out.lt
        simp only [Nat.zero_mul] at c0
        clear hg hS hcs
        go_wp2_with fail
        go_ret
        have O4 := O3.out.cls (by omega) c
        exact ⟨⟨_, n, cp, _, rfl, hn60, Or.inr ⟨g, rfl, hgl, O4.lt, O4⟩, fun i hi => by
          by_cases e : i = 0
          · rw [if_pos e]; exact H3.out.2.2
          · rw [if_neg e]; exact H2.out.2.1 i hi⟩, grown_newA H3.out.1 hgl, src_set H3.out.2.1 g 0 _ (by omega)⟩
end Go.Proofs.YtfeolbgenpknfaaGreat
