/- What is proved here: a slice of bytes that the call owns, made into a text.
   What is proved here: the source of draws: n hands back a number in its range, whatever the bytes; its one block alone turns.
   What is proved here: bytes that are drawn are a text of so many bytes; nothing turns but the source's own block.
   What is proved here: l01Source makes a source over the bytes that it is handed, in a new block.
   What is said here: what is drawn from a source leaves what was there ahead of it; some text.
   What is said here: a slice of 256 bools that the call owns: what is read, what is stored. -/
import Derived.Test.YtfeolbgenpknfaaGreatProg
import Derived.WalkKit
import Derived.Laws.BytesArg
import Derived.Maps.AppendAt
import Derived.Maps.Range
import Derived.WalkSpells
import Derived.RegionTactic
import Derived.BigRegion
import Derived.Deep.QuietTactic
import Derived.BigQuiet
import Derived.Deep.DeepCutAuto
import Derived.Laws.BitsAllLaws
import Derived.Test.YtfeolbgenpknfaaGreatQClassMToCellD
namespace Go.Proofs.YtfeolbgenpknfaaGreat
open Go.RowKit

theorem Tryz.drawInfo : (Tryz.prog.info? 5).map (fun i => (i.zero, i.size, i.bytes)) = some (some (.int .u8 0), 1, 1) := by kernel_rfl
theorem convRow {w : World} {base n : Nat} {v : Value} {M : List Int} (h : w.ownsRow base 5 1 v n (M.map (Value.int .u8))) :
    (convert 22 9 v).run Tryz.prog w = .ok (.string (strOfNums M)) w := by
  have hl : M.length = n := by simpa using h.1
  obtain ⟨_, ⟨rfl, h0⟩ | ⟨g, cap, cur, rfl, hg, hh, hnc, hm, hs, ht⟩⟩ := h
  · obtain rfl : M = [] := List.length_eq_zero_iff.1 (by omega)
    exact run_convert_bytes_nil (P := Tryz.prog) w 22 5 Tryz.underlying22 Tryz.underlying5 0 0 9 Tryz.underlying9
  · refine run_convert_bytes_arg (P := Tryz.prog) w 22 5 Tryz.underlying22 Tryz.underlying5 g 0 n cap M hl (fun i hi => ?_) 9 Tryz.underlying9
    have h1 : (cur.toList.take (n * 1))[i]? = (M.map (Value.int .u8))[i]? := by rw [ht]
    rw [List.getElem?_take_of_lt (by omega), List.getElem?_map] at h1
    have h2 : M[i]? = some (M.getD i 0) := by rw [List.getD, List.getElem?_eq_getElem (by omega)]; rfl
    rw [h2] at h1
    simpa [World.cell?, hh] using h1
end Go.Proofs.YtfeolbgenpknfaaGreat
namespace Go.Proofs.YtfeolbgenpknfaaGreat
open Go.RowKit

theorem bits_range64 (op : BinOp) (x y : Int) : 0 ≤ bits op .u64 x y ∧ bits op .u64 x y ≤ 18446744073709551615 := by
  show 0 ≤ IntKind.u64.wrap _ ∧ IntKind.u64.wrap _ ≤ 18446744073709551615
  rw [IntKind.wrap_u64]
  omega

/-- The bytes that are drawn from: none, or cells of a block below B. -/
def Bytes8 (w : World) (B : Nat) (sa : Option Addr) (len : Nat) : Prop :=
  len = 0 ∨ ∃ (bb off : Nat) (zs : Nat → Int), sa = some ⟨bb, off, none⟩ ∧ bb < B ∧ (∀ i, i < len → w.cell? ⟨bb, off + i, none⟩ = some (.int .u8 (zs i))) ∧ ∀ i : Nat, 0 ≤ zs i ∧ zs i ≤ 255
/-- The source's block, its number of bytes passed, its mix. -/
def SrcAt (w : World) (b : Nat) (sa : Option Addr) (len cap k : Nat) (m z : Int) : Prop :=
  w.heap[b]? = some (.cells #[.slice sa len cap, .int .i64 (k : Int), .int .u64 m, .int .i64 z] 100 (0, 0)) ∧ k ≤ len ∧ 0 ≤ m ∧ m ≤ 18446744073709551615
/-- A source. -/
def Src (w : World) (b : Nat) (sa : Option Addr) (len cap : Nat) : Prop :=
  len ≤ 1048576 ∧ Bytes8 w b sa len ∧ ∃ (k : Nat) (m z : Int), SrcAt w b sa len cap k m z ∧ 0 ≤ z ∧ z ≤ 12

theorem SrcAt.cells {w : World} {b : Nat} {sa : Option Addr} {len cap k : Nat} {m z : Int} (h : SrcAt w b sa len cap k m z) :
    w.cell? ⟨b, 0, none⟩ = some (.slice sa len cap) ∧ w.cell? ⟨b, 1, none⟩ = some (.int .i64 (k : Int)) ∧ w.cell? ⟨b, 2, none⟩ = some (.int .u64 m) ∧ w.cell? ⟨b, 3, none⟩ = some (.int .i64 z) ∧
    w.frozen? ⟨b, 1, none⟩ = false ∧ w.frozen? ⟨b, 2, none⟩ = false ∧ w.frozen? ⟨b, 3, none⟩ = false := by
  obtain ⟨h, _⟩ := h
  refine ⟨by simp [World.cell?, h], by simp [World.cell?, h], by simp [World.cell?, h], by simp [World.cell?, h], ?_, ?_, ?_⟩ <;> exact frozen_of_row w b _ _ _ h
theorem SrcAt.setAt {w : World} {b : Nat} {sa : Option Addr} {len cap k k' : Nat} {m z : Int} (h : SrcAt w b sa len cap k m z) (hk : k' ≤ len) : SrcAt (w.setCell ⟨b, 1, none⟩ (.int .i64 (k' : Int))) b sa len cap k' m z := by
  obtain ⟨h, _, h0, h1⟩ := h
  exact ⟨by rw [heap_setCell_same w b 1 _ _ _ h]; rfl, hk, h0, h1⟩
theorem SrcAt.setMix {w : World} {b : Nat} {sa : Option Addr} {len cap k : Nat} {m z m' : Int} (h : SrcAt w b sa len cap k m z) (h0 : 0 ≤ m') (h1 : m' ≤ 18446744073709551615) : SrcAt (w.setCell ⟨b, 2, none⟩ (.int .u64 m')) b sa len cap k m' z := by
  obtain ⟨h, hk, _, _⟩ := h
  exact ⟨by rw [heap_setCell_same w b 2 _ _ _ h]; rfl, hk, h0, h1⟩
theorem SrcAt.drew {w : World} {b : Nat} {sa : Option Addr} {len cap k : Nat} {m z : Int} (h : SrcAt w b sa len cap k m z) : SrcAt w.drew b sa len cap k m z := h
theorem SrcAt.drewN {w : World} {b : Nat} {sa : Option Addr} {len cap k : Nat} {m z : Int} (n : Nat) (h : SrcAt w b sa len cap k m z) : SrcAt (w.drewN n) b sa len cap k m z := h
theorem only_setCell {a w : World} {b i : Nat} {v : Value} (h : a.grownBy w (some b)) : a.grownBy (w.setCell ⟨b, i, none⟩ v) (some b) :=
  h.trans ⟨rfl, rfl, rfl, by simp [World.setCell], fun k _ hk => Below.heap_setCell _ _ _ _ (fun e => hk (by simp [e]))⟩
theorem only_drew {a w : World} {b : Nat} (h : a.grownBy w (some b)) : a.grownBy w.drew (some b) := ⟨h.os, h.tape, h.output, h.size, h.block⟩
theorem only_drewN {a w : World} {b : Nat} (n : Nat) (h : a.grownBy w (some b)) : a.grownBy (w.drewN n) (some b) := ⟨h.os, h.tape, h.output, h.size, h.block⟩
theorem Bytes8.kept {w w' : World} {B : Nat} {sa : Option Addr} {len : Nat} {row : Option Nat} (h : Bytes8 w B sa len) (hg : w.grownBy w' row) (hr : ∀ k, row = some k → B ≤ k) : Bytes8 w' B sa len := by
  rcases h with h | ⟨bb, off, zs, h1, h2, h3, h4⟩
  · exact Or.inl h
  · exact Or.inr ⟨bb, off, zs, h1, h2, fun i hi => hg.cell (h3 i hi) (fun e => by have := hr bb e.symm; omega), h4⟩

/-- What n hands back. -/
def InRange (most : Int) (e : Ending) : Prop := ∃ r : Int, e = .returned (.int .i64 r) ∧ 0 ≤ r ∧ (1 < most → r < most) ∧ (most ≤ 1 → r = 0)

theorem in_range {v most : Int} (h1 : 1 < most) (h2 : most ≤ 9223372036854775807) : InRange most (.returned (.int .i64 (wrap64 (v % most)))) := by
  have e0 := Int.emod_nonneg v (show most ≠ 0 by omega)
  have e1 := Int.emod_lt_of_pos v (show 0 < most by omega)
  refine ⟨v % most, ?_, e0, fun _ => e1, fun h => by omega⟩
  have : wrap64 (v % most) = v % most := by unfold wrap64; omega
  rw [this]
theorem Src.kept {w w' : World} {b : Nat} {sa : Option Addr} {len cap : Nat} {row : Option Nat} (h : Src w b sa len cap) (hg : w.grownBy w' row) (hr : ∀ k, row = some k → b < k) : Src w' b sa len cap := by
  obtain ⟨hl, hby, k, m, z, ⟨hat, r⟩, hz⟩ := h
  refine ⟨hl, hby.kept hg (fun k hk => Nat.le_of_lt (hr k hk)), k, m, z, ⟨?_, r⟩, hz⟩
  rw [hg.block b (lt_of_block hat) (fun e => Nat.lt_irrefl _ (hr b e.symm))]
  exact hat
theorem Src.lt {w : World} {b : Nat} {sa : Option Addr} {len cap : Nat} (h : Src w b sa len cap) : b < w.heap.size := by
  obtain ⟨_, _, _, _, _, ⟨hat, _⟩, _⟩ := h
  exact lt_of_block hat

set_option maxRecDepth 100000 in
set_option maxHeartbeats 4000000 in
theorem n_any (w : World) (b : Nat) (sa : Option Addr) (len cap : Nat) (most : Int) (h2 : most ≤ 9223372036854775807) (hs : Src w b sa len cap) :
    Calls Tryz.prog 37 #[.pointer (some ⟨b, 0, none⟩), .int .i64 most] w fun e w' => InRange most e ∧ w.grownBy w' (some b) ∧ Src w' b sa len cap := by
  obtain ⟨hl, hby, k, m, z, hat, hz⟩ := hs
  have HZ : Hid (0 ≤ z ∧ z ≤ 12) := hz
  clear hz
  by_cases h1 : 1 < most
  · have HBY : Hid (Bytes8 w b sa len) := hby
    have HAT : Hid (SrcAt w b sa len cap k m z) := hat
    obtain ⟨c0, c1, c2, c3, f1, f2, f3⟩ := hat.cells
    obtain ⟨_, hk, hm0, hm1⟩ := hat
    clear hby
    go_enter Tryz.func37, Tryz.ntmps37
    go_upto_region 4 with fail
    go_quiet (fail)
    go_upto_if 17 with fail
    go_cut [5] (fun v wx => ∃ (x : Int) (k' : Nat), v = .int .u64 x ∧ 0 ≤ x ∧ x ≤ 255 ∧ w.grownBy wx (some b) ∧ SrcAt wx b sa len cap k' m z)
    case first =>
      by_cases hkl : k < len
      · obtain ⟨bb, off, zs, rfl, hbb, hcell, hzs⟩ : ∃ (bb off : Nat) (zs : Nat → Int), sa = some ⟨bb, off, none⟩ ∧ bb < b ∧ (∀ i, i < len → w.cell? ⟨bb, off + i, none⟩ = some (.int .u8 (zs i))) ∧ ∀ i : Nat, 0 ≤ zs i ∧ zs i ≤ 255 := by
          rcases HBY.out with h | h
          · omega
          · exact h
        have cz := hcell k hkl
        have hz := hzs k
        clear hcell hzs
        have hki : (k : Int) < (len : Int) := by omega
        have hk0 : (0 : Int) ≤ (k : Int) := by omega
        go_wp2
        go_quiet (fail)
        go_wp2
        go_meet
        case rel => exact ⟨zs k, k + 1, by go_num, hz.1, hz.2, only_setCell (only_drewN _ (World.grownBy.refl _ _)), by simpa using (HAT.out.drewN _).setAt (k' := k + 1) hkl⟩
      · have hki : ¬ (k : Int) < (len : Int) := by omega
        go_wp2
        go_meet
        case rel => exact ⟨0, k, rfl, by decide, by decide, only_drewN _ (World.grownBy.refl _ _), HAT.out⟩
    case rest =>
      clear c0 c1 c2 c3 f1 f2 f3 hk hm0 hm1 HAT
      obtain ⟨x, k', rfl, hx0, hx1, hg, hS⟩ := hcut
      have HG : Hid (w.grownBy wc (some b)) := hg
      have HS : Hid (SrcAt wc b sa len cap k' m z) := hS
      obtain ⟨c0, c1, c2, c3, f1, f2, f3⟩ := hS.cells
      obtain ⟨_, hk, hm0, hm1⟩ := hS
      clear hg
      go_upto_region 7 with fail
      go_cut [] (fun wx => ∃ m' : Int, w.grownBy wx (some b) ∧ SrcAt wx b sa len cap k' m' z)
      case first =>
        go_region
        go_wp2
        go_meet
        case rel => exact ⟨_, only_drew (only_setCell HG.out), (HS.out.setMix (bits_range64 _ _ _).1 (bits_range64 _ _ _).2).drew⟩
      case rest =>
        clear c0 c1 c2 c3 f1 f2 f3 hk hm0 hm1 HG HS
        obtain ⟨m1, hg, hS⟩ := hcut
        have HG : Hid (w.grownBy wc (some b)) := hg
        have HS : Hid (SrcAt wc b sa len cap k' m1 z) := hS
        obtain ⟨c0, c1, c2, c3, f1, f2, f3⟩ := hS.cells
        obtain ⟨_, hk, hm0, hm1⟩ := hS
        clear hg
        go_upto_region 8 with fail
        go_cut [] (fun wx => ∃ m' : Int, w.grownBy wx (some b) ∧ SrcAt wx b sa len cap k' m' z)
        case first =>
          go_region
          go_wp2
          go_meet
          case rel => exact ⟨_, only_drew (only_setCell HG.out), (HS.out.setMix (bits_range64 _ _ _).1 (bits_range64 _ _ _).2).drew⟩
        case rest =>
          clear c0 c1 c2 c3 f1 f2 f3 hk hm0 hm1 HG HS
          obtain ⟨m2, hg, hS⟩ := hcut
          have HG : Hid (w.grownBy wc (some b)) := hg
          have HS : Hid (SrcAt wc b sa len cap k' m2 z) := hS
          obtain ⟨c0, c1, c2, c3, f1, f2, f3⟩ := hS.cells
          obtain ⟨_, hk, hm0, hm1⟩ := hS
          clear hg
          go_upto_region 9 with fail
          go_cut [] (fun wx => ∃ m' : Int, w.grownBy wx (some b) ∧ SrcAt wx b sa len cap k' m' z)
          case first =>
            go_region
            go_wp2
            go_meet
            case rel => exact ⟨_, only_drew (only_setCell HG.out), (HS.out.setMix (bits_range64 _ _ _).1 (bits_range64 _ _ _).2).drew⟩
          case rest =>
            clear c0 c1 c2 c3 f1 f2 f3 hk hm0 hm1 HG HS
            obtain ⟨m3, hg, hS⟩ := hcut
            have HG : Hid (w.grownBy wc (some b)) := hg
            have HS : Hid (SrcAt wc b sa len cap k' m3 z) := hS
            obtain ⟨c0, c1, c2, c3, f1, f2, f3⟩ := hS.cells
            obtain ⟨_, hk, hm0, hm1⟩ := hS
            clear hg
            go_wp2
            go_ret
            exact ⟨in_range h1 h2, HG.out, hl, HBY.out.kept HG.out (fun k hk => by cases hk; exact Nat.le_refl _), k', m3, z, HS.out, HZ.out⟩
  · go_enter Tryz.func37, Tryz.ntmps37
    go_wp2
    go_ret
    exact ⟨⟨0, rfl, by decide, fun h => by omega, fun _ => rfl⟩, World.grownBy.refl _ _, hl, hby, k, m, z, hat, HZ.out⟩
/-- Some bool. -/
def SomeBool (e : Ending) : Prop := ∃ x : Bool, e = .returned (.bool x)
set_option maxHeartbeats 1000000 in
theorem one_any (w : World) (b : Nat) (sa : Option Addr) (len cap : Nat) (most : Int) (h2 : most ≤ 9223372036854775807) (hs : Src w b sa len cap) :
    Calls Tryz.prog 38 #[.pointer (some ⟨b, 0, none⟩), .int .i64 most] w fun e w' => SomeBool e ∧ w.grownBy w' (some b) ∧ Src w' b sa len cap := by
  have HS : Hid (Src w b sa len cap) := hs
  clear hs
  go_enter Tryz.func38, Tryz.ntmps38
  go_wp2_with fail
  refine (n_any _ b sa len cap most h2 HS.out).mono ?_
  rintro e w1 ⟨⟨r, rfl, hr⟩, hg, hS⟩
  have HG : Hid (w.grownBy w1 (some b)) := hg
  have HS1 : Hid (Src w1 b sa len cap) := hS
  clear hr hg hS HS
  go_wp2
  go_ret
  exact ⟨⟨_, rfl⟩, HG.out, HS1.out⟩

end Go.Proofs.YtfeolbgenpknfaaGreat
namespace Go.Proofs.YtfeolbgenpknfaaGreat
open Go.RowKit

/-- Some text of so many bytes. -/
def SomeText (n : Nat) (e : Ending) : Prop := ∃ t : ByteArray, e = .returned (.string t) ∧ t.size = n
set_option maxHeartbeats 2000000 in
theorem bytes_any (w : World) (b : Nat) (sa : Option Addr) (len cap : Nat) (n : Nat) (hn : n ≤ 1000000) (hs : Src w b sa len cap) :
    Calls Tryz.prog 65 #[.pointer (some ⟨b, 0, none⟩), .int .i64 (n : Int)] w fun e w' => SomeText n e ∧ w.grownBy w' (some b) ∧ Src w' b sa len cap := by
  obtain ⟨i0, hi, hz0, hz1, hz2⟩ := info_parts Tryz.drawInfo
  have hbl := hs.lt
  have HS : Hid (Src w b sa len cap) := hs
  clear hs
  go_enter Tryz.func65, Tryz.ntmps65
  go_wp2
  go_loopw [5, 6] (fun v i wr => ∃ L : List Int, L.length ≤ n ∧ i = .int .i64 (L.length : Int) ∧ wr.ownsRow w.heap.size 5 1 v L.length (L.map (Value.int .u8)) ∧ w.grownBy wr (some b) ∧ Src wr b sa len cap) (fun _ i _ => n - (intOf i).toNat)
  case atStart => exact ⟨[], Nat.zero_le _, rfl, World.ownsRow_made w #[] 0 (Nat.le_refl _) (by decide) rfl, World.grownBy_alloc w _ _, HS.out.kept (World.grownBy_alloc w _ none) (fun k hk => by cases hk)⟩
  case round =>
    obtain ⟨L, hL, rfl, hown, hg, hS⟩ := hrel
    by_cases hlt : L.length < n
    · have hlt' : (L.length : Int) < (n : Int) := by omega
      have HO : Hid (wr.ownsRow w.heap.size 5 1 u5 L.length (L.map (Value.int .u8))) := hown
      have HG : Hid (w.grownBy wr (some b)) := hg
      have HS2 : Hid (Src wr b sa len cap) := hS
      clear hown hg hS HS
      go_wp2_with fail
      refine (n_any _ b sa len cap 256 (by decide) HS2.out).mono ?_
      rintro e w1 ⟨⟨r, rfl, hr0, hr1, _⟩, hg1, hS1⟩
      have hr2 : r < 256 := hr1 (by decide)
      have hown1 : w1.ownsRow w.heap.size 5 1 u5 L.length (L.map (Value.int .u8)) := HO.out.kept hg1 (by
        rcases hb : u5.ownBlock with _ | g
        · exact Or.inl rfl
        · refine Or.inr ?_
          have := (HO.out.lt g hb).1
          intro e
          cases e
          omega)
      have HG1 : Hid (w.grownBy w1 (some b)) := HG.out.trans hg1
      have HS1 : Hid (Src w1 b sa len cap) := hS1
      have hsz : w.heap.size ≤ w1.heap.size := HG1.out.size
      clear hr1 hg1 hS1 HO HG HS2
      go_wp2_with (at_builtin; refine wpList_append_own _ rfl (.tmp 13) (.tmp 17) 22 rfl w.heap.size 5 i0 (.int .u8 0) 1 1 Tryz.underlying22 hi hz0 hz1 hz2 rfl (by decide) _ _ _ rfl (hown1.alloc _) ⟨w1.heap.size, 0, none⟩ 1 1 [.int .u8 r] rfl rfl ?c1 ?c2 ?c3 ?c4 ?c5 ?_)
      case c1 => exact cell_one_new _ _ _
      case c2 => intro u hu; simp at hu; subst hu; rfl
      case c3 => unfold maxLen; omega
      case c4 => omega
      case c5 => simp; omega
      intro v' w2 hown2 hgrow _
      have hg3 : w1.grownBy w2 u5.ownBlock := (World.grownBy_alloc w1 _ u5.ownBlock).trans hgrow
      have HG2 : Hid (w.grownBy w2 (some b)) := HG1.out.andThen hg3 (fun j hj => Or.inl (hown1.lt j hj).1)
      have HS3 : Hid (Src w2 b sa len cap) := HS1.out.kept hg3 (fun k hk => Nat.lt_of_lt_of_le hbl (hown1.lt k hk).1)
      have hown3 : w2.ownsRow w.heap.size 5 1 v' (L ++ [r]).length ((L ++ [r]).map (Value.int .u8)) := by simpa using hown2
      have HO2 : Hid (w2.ownsRow w.heap.size 5 1 v' (L ++ [r]).length ((L ++ [r]).map (Value.int .u8))) := hown3
      clear hown3 hg3 hown2 hgrow hown1
      go_wp2
      go_roundw
      case rel => exact ⟨L ++ [r], by simp; omega, by simp, HO2.out, HG2.out, HS3.out⟩
      case measure => simp [intOf]; omega
    · have hge : ¬ (L.length : Int) < (n : Int) := by omega
      have hcv := convRow hown
      have HG : Hid (w.grownBy wr (some b)) := hg
      have HS2 : Hid (Src wr b sa len cap) := hS
      clear hown hg hS HS
      go_wp2
      go_ret
      exact ⟨⟨_, rfl, by rw [strOfNums_size]; omega⟩, HG.out, HS2.out⟩
end Go.Proofs.YtfeolbgenpknfaaGreat
namespace Go.Proofs.YtfeolbgenpknfaaGreat
open Go.RowKit

/-- A pointer to a source in a new block. -/
def NewSrc (w : World) (sa : Option Addr) (len cap : Nat) (e : Ending) (w' : World) : Prop := e = .returned (.pointer (some ⟨w.heap.size, 0, none⟩)) ∧ Below w.heap.size w w' ∧ Src w' w.heap.size sa len cap
theorem SrcAt.setSize {w : World} {b : Nat} {sa : Option Addr} {len cap k : Nat} {m z z' : Int} (h : SrcAt w b sa len cap k m z) : SrcAt (w.setCell ⟨b, 3, none⟩ (.int .i64 z')) b sa len cap k m z' := by
  obtain ⟨h, r⟩ := h
  exact ⟨by rw [heap_setCell_same w b 3 _ _ _ h]; rfl, r⟩

theorem wrap_range64 (x : Int) : 0 ≤ IntKind.u64.wrap x ∧ IntKind.u64.wrap x ≤ 18446744073709551615 := by
  rw [IntKind.wrap_u64]
  omega

set_option maxRecDepth 100000 in
set_option maxHeartbeats 4000000 in
theorem source_any (w : World) (sa : Option Addr) (len cap : Nat) (hl : len ≤ 1048576) (hby : Bytes8 w w.heap.size sa len) :
    Calls Tryz.prog 30 #[.slice sa len cap] w fun e w' => NewSrc w sa len cap e w' := by
  have HBY : Hid (Bytes8 w w.heap.size sa len) := hby
  clear hby
  go_enter Tryz.func30, Tryz.ntmps30
  go_wp2
  go_loopw [4] (fun i wr => ∃ (k : Nat) (m : Int), k ≤ len ∧ i = .int .i64 (k : Int) ∧ Below w.heap.size w wr ∧ SrcAt wr w.heap.size sa len cap 0 m 0) (fun i _ => len - (intOf i).toNat)
  case atStart => exact ⟨0, _, Nat.zero_le _, rfl, (Below.refl _ _).alloc (Nat.le_refl _) _, heap_alloc_new w _, Nat.zero_le _, by decide, by decide⟩
  case round =>
    obtain ⟨k, m, hk, rfl, hbel, hat⟩ := hrel
    have HB : Hid (Below w.heap.size w wr) := hbel
    have HS : Hid (SrcAt wr w.heap.size sa len cap 0 m 0) := hat
    obtain ⟨c0, c1, c2, c3, f1, f2, f3⟩ := hat.cells
    obtain ⟨_, _, hm0, hm1⟩ := hat
    clear hbel
    by_cases hkl : k < len ∧ k < 64
    · obtain ⟨hk1, hk2⟩ := hkl
      obtain ⟨bb, off, zs, rfl, hbb, hcell, hzs⟩ : ∃ (bb off : Nat) (zs : Nat → Int), sa = some ⟨bb, off, none⟩ ∧ bb < w.heap.size ∧ (∀ i, i < len → w.cell? ⟨bb, off + i, none⟩ = some (.int .u8 (zs i))) ∧ ∀ i : Nat, 0 ≤ zs i ∧ zs i ≤ 255 := by
        rcases HBY.out with h | h
        · omega
        · exact h
      have cz : wr.cell? ⟨bb, off + k, none⟩ = some (.int .u8 (zs k)) := by rw [HB.out.cell (p := ⟨bb, off + k, none⟩) hbb]; exact hcell k hk1
      have hz := hzs k
      clear hcell hzs
      have hki : (k : Int) < (len : Int) := by omega
      have hk0 : (0 : Int) ≤ (k : Int) := by omega
      have hk64 : (k : Int) < 64 := by omega
      go_wp2
      go_region
      go_wp2
      go_roundw
      case rel => exact ⟨k + 1, _, by omega, by go_num, (HB.out.setCell (Nat.le_refl _) _).drew, (HS.out.setMix (wrap_range64 _).1 (wrap_range64 _).2).drew⟩
      case measure => simp [intOf]; omega
    · have HK : Hid (∀ {w' : World}, Below w.heap.size w w' → w.grownBy w' none) := fun h => ⟨h.os, h.tape, h.output, h.size, fun k hk _ => h.block k hk⟩
      by_cases hkl1 : k < len
      · have hk64 : ¬ (k : Int) < 64 := by omega
        have hki : (k : Int) < (len : Int) := by omega
        go_wp2
        all_goals go_ret
        all_goals first
          | exact ⟨rfl, HB.out.setCell (Nat.le_refl _) _, hl, HBY.out.kept (HK.out (HB.out.setCell (p := ⟨w.heap.size, 3, none⟩) (Nat.le_refl _) _)) (fun k hk => by cases hk), 0, m, _, HS.out.setSize, by constructor <;> omega⟩
          | exact ⟨rfl, (HB.out.setCell (Nat.le_refl _) _).setCell (Nat.le_refl _) _, hl, HBY.out.kept (HK.out ((HB.out.setCell (p := ⟨w.heap.size, 3, none⟩) (Nat.le_refl _) _).setCell (p := ⟨w.heap.size, 3, none⟩) (Nat.le_refl _) _)) (fun k hk => by cases hk), 0, m, _, HS.out.setSize.setSize, by decide⟩
      · have hki : ¬ (k : Int) < (len : Int) := by omega
        go_wp2
        all_goals go_ret
        all_goals first
          | exact ⟨rfl, HB.out.setCell (Nat.le_refl _) _, hl, HBY.out.kept (HK.out (HB.out.setCell (p := ⟨w.heap.size, 3, none⟩) (Nat.le_refl _) _)) (fun k hk => by cases hk), 0, m, _, HS.out.setSize, by constructor <;> omega⟩
          | exact ⟨rfl, (HB.out.setCell (Nat.le_refl _) _).setCell (Nat.le_refl _) _, hl, HBY.out.kept (HK.out ((HB.out.setCell (p := ⟨w.heap.size, 3, none⟩) (Nat.le_refl _) _).setCell (p := ⟨w.heap.size, 3, none⟩) (Nat.le_refl _) _)) (fun k hk => by cases hk), 0, m, _, HS.out.setSize.setSize, by decide⟩
end Go.Proofs.YtfeolbgenpknfaaGreat
namespace Go.Proofs.YtfeolbgenpknfaaGreat
open Go.RowKit

theorem below_of_only {w0 w w' : World} {b B : Nat} (h : Below B w0 w) (hB : B ≤ b) (hBs : B ≤ w.heap.size) (hg : w.grownBy w' (some b)) : Below B w0 w' :=
  h.trans ⟨hg.os, hg.tape, hg.output, hg.size, fun k hk => hg.block k (by omega) (fun e => by cases e; omega)⟩

/-- Some text of at most n bytes. -/
def TextUpTo (n : Nat) (e : Ending) : Prop := ∃ t : ByteArray, e = .returned (.string t) ∧ t.size ≤ n
end Go.Proofs.YtfeolbgenpknfaaGreat
namespace Go.Proofs.YtfeolbgenpknfaaGreat
open Go.RowKit

/-- A row of bools that may be written. -/
def OwnB (w : World) (g n : Nat) (f : Nat → Bool) : Prop :=
  g < w.heap.size ∧ (∀ i, i < n → w.cell? ⟨g, i, none⟩ = some (.bool (f i))) ∧ ∀ i, i < n → w.frozen? ⟨g, i, none⟩ = false
theorem OwnB.congr {w : World} {g n : Nat} {f f' : Nat → Bool} (h : OwnB w g n f) (he : ∀ i, i < n → f i = f' i) : OwnB w g n f' :=
  ⟨h.1, fun i hi => by rw [← he i hi]; exact h.2.1 i hi, h.2.2⟩
theorem OwnB.kept {w w' : World} {B g n : Nat} {f : Nat → Bool} (h : OwnB w g n f) (hb : Below B w w') (hg : g < B) : OwnB w' g n f :=
  ⟨Nat.lt_of_lt_of_le h.1 hb.size, fun i hi => by rw [hb.cell (p := ⟨g, i, none⟩) hg]; exact h.2.1 i hi, fun i hi => by rw [hb.frozen (p := ⟨g, i, none⟩) hg]; exact h.2.2 i hi⟩
theorem OwnB.set {w : World} {g n p : Nat} {f : Nat → Bool} (h : OwnB w g n f) (hp : p < n) (v : Bool) : OwnB (w.setCell ⟨g, p, none⟩ (.bool v)) g n (fun i => if i = p then v else f i) := by
  refine ⟨by simpa [World.setCell] using h.1, fun i hi => ?_, fun i hi => ?_⟩
  · by_cases e : i = p
    · subst e
      rw [World.cell?_setCell_same _ _ _ (h.2.1 i hi)]
      simp
    · rw [World.cell?_setCell_other _ _ _ _ (fun hh => e (by injection hh with _ h2 _; exact h2.symm)), h.2.1 i hi]
      simp [e]
  · rw [World.frozen?_setCell]
    exact h.2.2 i hi
theorem OwnB.setOther {w : World} {g n : Nat} {f : Nat → Bool} (h : OwnB w g n f) (p : Addr) (v : Value) (hne : p.block ≠ g) : OwnB (w.setCell p v) g n f := by
  refine ⟨by simpa [World.setCell] using h.1, fun i hi => ?_, fun i hi => ?_⟩
  · rw [World.cell?_setCell_other _ _ _ _ (fun hh => hne (by rw [hh]))]
    exact h.2.1 i hi
  · rw [World.frozen?_setCell]
    exact h.2.2 i hi
theorem Tryz.boolInfo : (Tryz.prog.info? 4).map (fun i => (i.zero, i.size, i.bytes)) = some (some (.bool false), 1, 1) := by kernel_rfl
/-- A new slice of 256 bools, none of them true. -/
theorem make_bools (w : World) : ∃ (w' : World) (g : Nat), (Instr.makeSlice 166 (.int .i64 256) (.int .i64 256)).run Tryz.prog w = .ok (.slice (some ⟨g, 0, none⟩) 256 256) w' ∧ w.heap.size ≤ g ∧ g < w'.heap.size ∧ Below w.heap.size w w' ∧ OwnB w' g 256 (fun _ => false) := by
  obtain ⟨i0, hi, hz0, hz1, hz2⟩ := info_parts Tryz.boolInfo
  have h := run_make (P := Tryz.prog) w 166 4 i0 (.bool false) Tryz.underlying166 hi hz0 .i64 .i64 256 256 (by omega) (Int.le_refl _) (by rw [hz2]; omega) (by omega)
  rw [hz1] at h
  refine ⟨_, _, h, Nat.le_refl _, by simp, (Below.refl _ _).alloc (Nat.le_refl _) _, by simp, fun i hi => ?_, fun i hi => ?_⟩
  · rw [World.cell?_alloc_mark]
    simp [madeCells, Value.cells, Nat.mod_one, hi]
  · exact frozen_of_row _ _ _ _ _ (heap_alloc_new w _)
end Go.Proofs.YtfeolbgenpknfaaGreat
