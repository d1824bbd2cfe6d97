/- What is proved here: the source of draws: n hands back a number in its range, whatever the bytes; its one block alone turns. -/
import Derived.Test.YtfeolbgenpknfaaProg
import Derived.WalkKit
import Derived.WalkSpells
import Derived.RegionTactic
import Derived.BigRegion
import Derived.Deep.QuietTactic
import Derived.BigQuiet
import Derived.Deep.DeepCutAuto
import Derived.Laws.BitsAllLaws
import Derived.Laws.BytesArg
import Derived.Maps.AppendAt
import Derived.Maps.Range
import Derived.Test.YtfeolbgenpknfaaQBackMToBytesRowW
namespace Go.Proofs.Ytfeolbgenpknfaa
open Go.RowKit

theorem bits_range64 (op : BinOp) (x y : Int) : 0 ≤ bits op .u64 x y ∧ bits op .u64 x y ≤ 18446744073709551615 := by
  show 0 ≤ IntKind.u64.wrap _ ∧ IntKind.u64.wrap _ ≤ 18446744073709551615
  rw [IntKind.wrap_u64]
  omega

/-- The bytes that are drawn from: none, or cells of a block below B. -/
def Bytes8 (w : World) (B : Nat) (sa : Option Addr) (len : Nat) : Prop :=
  len = 0 ∨ ∃ (bb off : Nat) (zs : Nat → Int), sa = some ⟨bb, off, none⟩ ∧ bb < B ∧ (∀ i, i < len → w.cell? ⟨bb, off + i, none⟩ = some (.int .u8 (zs i))) ∧ ∀ i : Nat, 0 ≤ zs i ∧ zs i ≤ 255
/-- The source's block, its number of bytes passed, its mix. -/
def SrcAt (w : World) (b : Nat) (sa : Option Addr) (len cap k : Nat) (m z : Int) : Prop :=
  w.heap[b]? = some (.cells #[.slice sa len cap, .int .i64 (k : Int), .int .u64 m, .int .i64 z] 121 (0, 0)) ∧ k ≤ len ∧ 0 ≤ m ∧ m ≤ 18446744073709551615
/-- A source. -/
def Src (w : World) (b : Nat) (sa : Option Addr) (len cap : Nat) : Prop :=
  len ≤ 1048576 ∧ Bytes8 w b sa len ∧ ∃ (k : Nat) (m z : Int), SrcAt w b sa len cap k m z ∧ 0 ≤ z ∧ z ≤ 12

theorem SrcAt.cells {w : World} {b : Nat} {sa : Option Addr} {len cap k : Nat} {m z : Int} (h : SrcAt w b sa len cap k m z) :
    w.cell? ⟨b, 0, none⟩ = some (.slice sa len cap) ∧ w.cell? ⟨b, 1, none⟩ = some (.int .i64 (k : Int)) ∧ w.cell? ⟨b, 2, none⟩ = some (.int .u64 m) ∧ w.cell? ⟨b, 3, none⟩ = some (.int .i64 z) ∧
    w.frozen? ⟨b, 1, none⟩ = false ∧ w.frozen? ⟨b, 2, none⟩ = false ∧ w.frozen? ⟨b, 3, none⟩ = false := by
  obtain ⟨h, _⟩ := h
  refine ⟨by simp [World.cell?, h], by simp [World.cell?, h], by simp [World.cell?, h], by simp [World.cell?, h], ?_, ?_, ?_⟩ <;> exact frozen_of_row w b _ _ _ h
theorem SrcAt.setAt {w : World} {b : Nat} {sa : Option Addr} {len cap k k' : Nat} {m z : Int} (h : SrcAt w b sa len cap k m z) (hk : k' ≤ len) : SrcAt (w.setCell ⟨b, 1, none⟩ (.int .i64 (k' : Int))) b sa len cap k' m z := by
  obtain ⟨h, _, h0, h1⟩ := h
  exact ⟨by rw [heap_setCell_same w b 1 _ _ _ h]; rfl, hk, h0, h1⟩
theorem SrcAt.setMix {w : World} {b : Nat} {sa : Option Addr} {len cap k : Nat} {m z m' : Int} (h : SrcAt w b sa len cap k m z) (h0 : 0 ≤ m') (h1 : m' ≤ 18446744073709551615) : SrcAt (w.setCell ⟨b, 2, none⟩ (.int .u64 m')) b sa len cap k m' z := by
  obtain ⟨h, hk, _, _⟩ := h
  exact ⟨by rw [heap_setCell_same w b 2 _ _ _ h]; rfl, hk, h0, h1⟩
theorem SrcAt.drew {w : World} {b : Nat} {sa : Option Addr} {len cap k : Nat} {m z : Int} (h : SrcAt w b sa len cap k m z) : SrcAt w.drew b sa len cap k m z := h
theorem SrcAt.drewN {w : World} {b : Nat} {sa : Option Addr} {len cap k : Nat} {m z : Int} (n : Nat) (h : SrcAt w b sa len cap k m z) : SrcAt (w.drewN n) b sa len cap k m z := h
theorem only_setCell {a w : World} {b i : Nat} {v : Value} (h : a.grownBy w (some b)) : a.grownBy (w.setCell ⟨b, i, none⟩ v) (some b) :=
  h.trans ⟨rfl, rfl, rfl, by simp [World.setCell], fun k _ hk => Below.heap_setCell _ _ _ _ (fun e => hk (by simp [e]))⟩
theorem only_drew {a w : World} {b : Nat} (h : a.grownBy w (some b)) : a.grownBy w.drew (some b) := ⟨h.os, h.tape, h.output, h.size, h.block⟩
theorem only_drewN {a w : World} {b : Nat} (n : Nat) (h : a.grownBy w (some b)) : a.grownBy (w.drewN n) (some b) := ⟨h.os, h.tape, h.output, h.size, h.block⟩
theorem Bytes8.kept {w w' : World} {B : Nat} {sa : Option Addr} {len : Nat} {row : Option Nat} (h : Bytes8 w B sa len) (hg : w.grownBy w' row) (hr : ∀ k, row = some k → B ≤ k) : Bytes8 w' B sa len := by
  rcases h with h | ⟨bb, off, zs, h1, h2, h3, h4⟩
  · exact Or.inl h
  · exact Or.inr ⟨bb, off, zs, h1, h2, fun i hi => hg.cell (h3 i hi) (fun e => by have := hr bb e.symm; omega), h4⟩

/-- What n hands back. -/
def InRange (most : Int) (e : Ending) : Prop := ∃ r : Int, e = .returned (.int .i64 r) ∧ 0 ≤ r ∧ (1 < most → r < most) ∧ (most ≤ 1 → r = 0)

theorem in_range {v most : Int} (h1 : 1 < most) (h2 : most ≤ 9223372036854775807) : InRange most (.returned (.int .i64 (wrap64 (v % most)))) := by
  have e0 := Int.emod_nonneg v (show most ≠ 0 by omega)
  have e1 := Int.emod_lt_of_pos v (show 0 < most by omega)
  refine ⟨v % most, ?_, e0, fun _ => e1, fun h => by omega⟩
  have : wrap64 (v % most) = v % most := by unfold wrap64; omega
  rw [this]
theorem Src.kept {w w' : World} {b : Nat} {sa : Option Addr} {len cap : Nat} {row : Option Nat} (h : Src w b sa len cap) (hg : w.grownBy w' row) (hr : ∀ k, row = some k → b < k) : Src w' b sa len cap := by
  obtain ⟨hl, hby, k, m, z, ⟨hat, r⟩, hz⟩ := h
  refine ⟨hl, hby.kept hg (fun k hk => Nat.le_of_lt (hr k hk)), k, m, z, ⟨?_, r⟩, hz⟩
  rw [hg.block b (lt_of_block hat) (fun e => Nat.lt_irrefl _ (hr b e.symm))]
  exact hat
theorem Src.lt {w : World} {b : Nat} {sa : Option Addr} {len cap : Nat} (h : Src w b sa len cap) : b < w.heap.size := by
  obtain ⟨_, _, _, _, _, ⟨hat, _⟩, _⟩ := h
  exact lt_of_block hat

set_option maxRecDepth 100000 in
set_option maxHeartbeats 4000000 in
theorem n_any (w : World) (b : Nat) (sa : Option Addr) (len cap : Nat) (most : Int) (h2 : most ≤ 9223372036854775807) (hs : Src w b sa len cap) :
    Calls Try.prog 62 #[.pointer (some ⟨b, 0, none⟩), .int .i64 most] w fun e w' => InRange most e ∧ w.grownBy w' (some b) ∧ Src w' b sa len cap := by
  obtain ⟨hl, hby, k, m, z, hat, hz⟩ := hs
  have HZ : Hid (0 ≤ z ∧ z ≤ 12) := hz
  clear hz
  by_cases h1 : 1 < most
  · have HBY : Hid (Bytes8 w b sa len) := hby
    have HAT : Hid (SrcAt w b sa len cap k m z) := hat
    obtain ⟨c0, c1, c2, c3, f1, f2, f3⟩ := hat.cells
    obtain ⟨_, hk, hm0, hm1⟩ := hat
    clear hby
    go_enter Try.func62, Try.ntmps62
    go_upto_region 4 with fail
    go_quiet (fail)
    go_upto_if 17 with fail
    go_cut [5] (fun v wx => ∃ (x : Int) (k' : Nat), v = .int .u64 x ∧ 0 ≤ x ∧ x ≤ 255 ∧ w.grownBy wx (some b) ∧ SrcAt wx b sa len cap k' m z)
    case first =>
      by_cases hkl : k < len
      · obtain ⟨bb, off, zs, rfl, hbb, hcell, hzs⟩ : ∃ (bb off : Nat) (zs : Nat → Int), sa = some ⟨bb, off, none⟩ ∧ bb < b ∧ (∀ i, i < len → w.cell? ⟨bb, off + i, none⟩ = some (.int .u8 (zs i))) ∧ ∀ i : Nat, 0 ≤ zs i ∧ zs i ≤ 255 := by
          rcases HBY.out with h | h
          · omega
          · exact h
        have cz := hcell k hkl
        have hz := hzs k
        clear hcell hzs
        have hki : (k : Int) < (len : Int) := by omega
        have hk0 : (0 : Int) ≤ (k : Int) := by omega
        go_wp2
        go_quiet (fail)
        go_wp2
        go_meet
        case rel => exact ⟨zs k, k + 1, by go_num, hz.1, hz.2, only_setCell (only_drewN _ (World.grownBy.refl _ _)), by simpa using (HAT.out.drewN _).setAt (k' := k + 1) hkl⟩
      · have hki : ¬ (k : Int) < (len : Int) := by omega
        go_wp2
        go_meet
        case rel => exact ⟨0, k, rfl, by decide, by decide, only_drewN _ (World.grownBy.refl _ _), HAT.out⟩
    case rest =>
      clear c0 c1 c2 c3 f1 f2 f3 hk hm0 hm1 HAT
      obtain ⟨x, k', rfl, hx0, hx1, hg, hS⟩ := hcut
      have HG : Hid (w.grownBy wc (some b)) := hg
      have HS : Hid (SrcAt wc b sa len cap k' m z) := hS
      obtain ⟨c0, c1, c2, c3, f1, f2, f3⟩ := hS.cells
      obtain ⟨_, hk, hm0, hm1⟩ := hS
      clear hg
      go_upto_region 7 with fail
      go_cut [] (fun wx => ∃ m' : Int, w.grownBy wx (some b) ∧ SrcAt wx b sa len cap k' m' z)
      case first =>
        go_region
        go_wp2
        go_meet
        case rel => exact ⟨_, only_drew (only_setCell HG.out), (HS.out.setMix (bits_range64 _ _ _).1 (bits_range64 _ _ _).2).drew⟩
      case rest =>
        clear c0 c1 c2 c3 f1 f2 f3 hk hm0 hm1 HG HS
        obtain ⟨m1, hg, hS⟩ := hcut
        have HG : Hid (w.grownBy wc (some b)) := hg
        have HS : Hid (SrcAt wc b sa len cap k' m1 z) := hS
        obtain ⟨c0, c1, c2, c3, f1, f2, f3⟩ := hS.cells
        obtain ⟨_, hk, hm0, hm1⟩ := hS
        clear hg
        go_upto_region 8 with fail
        go_cut [] (fun wx => ∃ m' : Int, w.grownBy wx (some b) ∧ SrcAt wx b sa len cap k' m' z)
        case first =>
          go_region
          go_wp2
          go_meet
          case rel => exact ⟨_, only_drew (only_setCell HG.out), (HS.out.setMix (bits_range64 _ _ _).1 (bits_range64 _ _ _).2).drew⟩
        case rest =>
          clear c0 c1 c2 c3 f1 f2 f3 hk hm0 hm1 HG HS
          obtain ⟨m2, hg, hS⟩ := hcut
          have HG : Hid (w.grownBy wc (some b)) := hg
          have HS : Hid (SrcAt wc b sa len cap k' m2 z) := hS
          obtain ⟨c0, c1, c2, c3, f1, f2, f3⟩ := hS.cells
          obtain ⟨_, hk, hm0, hm1⟩ := hS
          clear hg
          go_upto_region 9 with fail
          go_cut [] (fun wx => ∃ m' : Int, w.grownBy wx (some b) ∧ SrcAt wx b sa len cap k' m' z)
          case first =>
            go_region
            go_wp2
            go_meet
            case rel => exact ⟨_, only_drew (only_setCell HG.out), (HS.out.setMix (bits_range64 _ _ _).1 (bits_range64 _ _ _).2).drew⟩
          case rest =>
            clear c0 c1 c2 c3 f1 f2 f3 hk hm0 hm1 HG HS
            obtain ⟨m3, hg, hS⟩ := hcut
            have HG : Hid (w.grownBy wc (some b)) := hg
            have HS : Hid (SrcAt wc b sa len cap k' m3 z) := hS
            obtain ⟨c0, c1, c2, c3, f1, f2, f3⟩ := hS.cells
            obtain ⟨_, hk, hm0, hm1⟩ := hS
            clear hg
            go_wp2
            go_ret
            exact ⟨in_range h1 h2, HG.out, hl, HBY.out.kept HG.out (fun k hk => by cases hk; exact Nat.le_refl _), k', m3, z, HS.out, HZ.out⟩
  · go_enter Try.func62, Try.ntmps62
    go_wp2
    go_ret
    exact ⟨⟨0, rfl, by decide, fun h => by omega, fun _ => rfl⟩, World.grownBy.refl _ _, hl, hby, k, m, z, hat, HZ.out⟩
/-- Some bool. -/
def SomeBool (e : Ending) : Prop := ∃ x : Bool, e = .returned (.bool x)
set_option maxHeartbeats 1000000 in
theorem one_any (w : World) (b : Nat) (sa : Option Addr) (len cap : Nat) (most : Int) (h2 : most ≤ 9223372036854775807) (hs : Src w b sa len cap) :
    Calls Try.prog 54 #[.pointer (some ⟨b, 0, none⟩), .int .i64 most] w fun e w' => SomeBool e ∧ w.grownBy w' (some b) ∧ Src w' b sa len cap := by
  have HS : Hid (Src w b sa len cap) := hs
  clear hs
  go_enter Try.func54, Try.ntmps54
  go_wp2_with fail
  refine (n_any _ b sa len cap most h2 HS.out).mono ?_
  rintro e w1 ⟨⟨r, rfl, hr⟩, hg, hS⟩
  have HG : Hid (w.grownBy w1 (some b)) := hg
  have HS1 : Hid (Src w1 b sa len cap) := hS
  clear hr hg hS HS
  go_wp2
  go_ret
  exact ⟨⟨_, rfl⟩, HG.out, HS1.out⟩

end Go.Proofs.Ytfeolbgenpknfaa
