/- What is proved here: a text that a drawn pattern may mean is a text of at most 20000 bytes; nothing turns but the source's own block.
   What is proved here: 'copy' from a slice of cells into a stretch of a slice of cells that the call owns.
   What is proved here: the specification's PatternRight says yes of a right pattern, no of another. -/
import Derived.Test.YtlgnplnmcdjbiaaGreatQPickWToDrawTxtW
import Derived.Test.YtlgnplnmcdjbiaaGreatQAtomSToSpecPRightW
import Derived.Deep.DeepCutAuto
import Derived.Deep.CutBlock
import Derived.Deep.RegionHeldLaw
import Derived.Test.YtlgnplnmcdjbiaaGreatQImplRightWToCellS
import Derived.Laws.IdiomCopy
namespace Go.Proofs.YtlgnplnmcdjbiaaGreat
open Go.RowKit

/-- A pattern that was drawn: atoms of a block from lo on. -/
def AFar (w : World) (lo : Nat) (s : Option Addr) (n : Nat) (f : Nat → Atm) : Prop := n = 0 ∨ ∃ bb off : Nat, s = some ⟨bb, off, none⟩ ∧ lo ≤ bb ∧ bb < w.heap.size ∧ ∀ i, i < n → AtomAt w bb (off + i * 3) (f i)
theorem AFar.kept {w w' : World} {lo n : Nat} {row : Option Nat} {s : Option Addr} {f : Nat → Atm} (h : AFar w lo s n f) (hg : w.grownBy w' row) (hr : ∀ k, row = some k → k < lo) : AFar w' lo s n f := by
  rcases h with h | ⟨bb, off, h1, h2, h3, h4⟩
  · exact Or.inl h
  · have hb := hg.block bb h3 (fun e => by have := hr bb e.symm; omega)
    refine Or.inr ⟨bb, off, h1, h2, Nat.lt_of_lt_of_le h3 hg.size, fun i hi => ⟨?_, ?_, ?_⟩⟩
    · have := (h4 i hi).c0
      simpa [World.cell?, hb] using this
    · have := (h4 i hi).c1
      simpa [World.cell?, hb] using this
    · have := (h4 i hi).c2
      simpa [World.cell?, hb] using this
theorem AFar.row {w : World} {lo n : Nat} {s : Option Addr} {f : Nat → Atm} (h : AFar w lo s n f) : ARow w w.heap.size s n f := by
  rcases h with h | ⟨bb, off, h1, _, h3, h4⟩
  · exact Or.inl h
  · exact Or.inr ⟨bb, off, h1, h3, h4⟩
theorem ASl.far {w : World} {lo hi n : Nat} {s : Option Addr} {f : Nat → Atm} (h : ASl w lo hi s n f) : AFar w lo s n f := by
  rcases h with h | ⟨g, h1, h2, _, h3⟩
  · exact Or.inl h
  · exact Or.inr ⟨g, 0, h1, h2, h3.lt, fun i hi => by rw [Nat.zero_add]; exact h3.at' i hi⟩
theorem RowT.bytes {w : World} {B : Nat} {v : Value} {t : ByteArray} (h : RowT w B v t) : Row8 w B v (t.data.toList.map fun b => (b.toNat : Int)) := by
  have e : (t.data.toList.map fun b => (b.toNat : Int)).map (Value.int .u8) = Lib.strCells t := by simp [Lib.strCells]
  have e2 : (t.data.toList.map fun b => (b.toNat : Int)).length = t.size := by simp
  unfold Row8
  rw [e, e2]
  exact h
theorem RowT.of8 {w : World} {B : Nat} {v : Value} {t : ByteArray} {x : UInt8} (h : Row8 w B v ((t.data.toList.map fun b => (b.toNat : Int)) ++ [(x.toNat : Int)])) : RowT w B v (t.push x) := by
  have e : ((t.data.toList.map fun b => (b.toNat : Int)) ++ [(x.toNat : Int)]).map (Value.int .u8) = Lib.strCells (t.push x) := by simp [Lib.strCells]
  have e2 : ((t.data.toList.map fun b => (b.toNat : Int)) ++ [(x.toNat : Int)]).length = (t.push x).size := by simp
  unfold Row8 at h
  rw [e, e2] at h
  exact h
theorem Src.below {w w' : World} {b B : Nat} {sa : Option Addr} {len cap : Nat} (h : Src w b sa len cap) (hb : Below B w w') (hB : b < B) : Src w' b sa len cap := by
  obtain ⟨hl, hby, k, m, z, ⟨hat, r⟩, hz⟩ := h
  refine ⟨hl, ?_, k, m, z, ⟨by rw [hb.block b hB]; exact hat, r⟩, hz⟩
  rcases hby with h | ⟨bb, off, zs, h1, h2, h3, h4⟩
  · exact Or.inl h
  · exact Or.inr ⟨bb, off, zs, h1, h2, fun i hi => by rw [hb.cell (p := ⟨bb, off + i, none⟩) (show bb < B by omega)]; exact h3 i hi, h4⟩
theorem TxtIn.low {w W W' : World} {b : Nat} {sa : Option Addr} {len cap : Nat} {v v' : Value} {t t' : ByteArray} (h : TxtIn w W b sa len cap v t) (hb : b < w.heap.size) (ho : RowT W' w.heap.size v' t') (hg : Below w.heap.size W W') : TxtIn w W' b sa len cap v' t' :=
  ⟨⟨hg.os.trans h.g.os, hg.tape.trans h.g.tape, hg.output.trans h.g.output, Nat.le_trans h.g.size hg.size, fun k hk hne => (hg.block k hk).trans (h.g.block k hk hne)⟩, h.s.below hg hb, ho⟩
theorem TxtIn.drew {w W : World} {b : Nat} {sa : Option Addr} {len cap : Nat} {v : Value} {t : ByteArray} (h : TxtIn w W b sa len cap v t) : TxtIn w W.drew b sa len cap v t :=
  ⟨⟨h.g.os, h.g.tape, h.g.output, h.g.size, h.g.block⟩, h.s.after ⟨rfl, rfl, rfl, Nat.le_refl _, fun _ _ => rfl⟩, h.o⟩
theorem push_size (t : ByteArray) (x : UInt8) : (t.push x).size = t.size + 1 := by simp
open Classical in
set_option maxRecDepth 100000 in
set_option maxHeartbeats 8000000 in
theorem l05Meant_any (w : World) (b : Nat) (sa : Option Addr) (len cap lo : Nat) (s : Option Addr) (n cp : Nat) (f : Nat → Atm) (hs : Src w b sa len cap) (hn : n ≤ 5) (hf : AFar w lo s n f) (hlo : b < lo) (hsm : ∀ i, i < n → SmallA (f i)) :
    Calls Tryz.prog 39 #[.pointer (some ⟨b, 0, none⟩), .slice s n cp] w fun e w' => TextUpTo 20000 e ∧ w.grownBy w' (some b) ∧ Src w' b sa len cap := by
  obtain ⟨i0, hi, hz0, hz1, hz2⟩ := info_parts Tryz.drawInfo
  have hb := hs.lt
  have P0 : Hid (TxtIn w (w.alloc (.cells #[] 5)) b sa len cap (.slice (some ⟨w.heap.size, 0, none⟩) 0 0) ⟨#[]⟩) :=
    ⟨World.grownBy_alloc w _ _, hs.after ((Below.refl _ _).alloc (Nat.le_refl _) _), rowT_start w w.heap.size (Nat.le_refl _) _ rfl⟩
  have HF : Hid (∀ W, w.grownBy W (some b) → AFar W lo s n f) := fun W hg => hf.kept hg (fun k hk => by injection hk with hk; omega)
  have HSM : Hid (∀ i, i < n → SmallA (f i)) := hsm
  have HLO : Hid (∀ W, w.grownBy W (some b) → w.heap.size ≤ W.heap.size) := fun W hg => hg.size
  have HPR : Hid (∀ W, w.grownBy W (some b) → Calls Tryz.prog 13 #[.slice s n cp] W fun e w' => e = .returned (.bool (decide (PatRight n f))) ∧ Below W.heap.size W w') := fun W hg => specPRight_any s n cp f W (by unfold maxLen; omega) (HF.out W hg).row (fun i hi => by have := (hsm i hi).1; unfold maxLen; omega)
  clear hs hf hsm
  go_enter Tryz.func39, Tryz.ntmps39
  go_wp2_with fail
  generalize w.alloc (.cells #[] 5) = v0 at *
  go_loopw [5, 6, 7] (fun v iv nv wr => ∃ (t : ByteArray) (i : Nat), iv = .int .i64 (i : Int) ∧ i ≤ n ∧ t.size ≤ 100 * i ∧ TxtIn w wr b sa len cap v t) (fun _ iv _ _ => n - (intOf iv).toNat)
  case atStart => exact ⟨⟨#[]⟩, 0, rfl, Nat.zero_le _, Nat.le_refl _, P0.out⟩
  case round =>
    obtain ⟨t, i, rfl, hin, ht, hp⟩ := hrel
    have HP : Hid (TxtIn w wr b sa len cap u5 t) := hp
    clear hp
    by_cases hgo : i < n ∧ PatRight n f
    · obtain ⟨hil, hR⟩ := hgo
      have hii : (i : Int) < (n : Int) := by omega
      have hi0 : (0 : Int) ≤ (i : Int) := by omega
      obtain ⟨⟨ac, al, am⟩, ha⟩ : ∃ a, f i = a := ⟨_, rfl⟩
      have hat := hR.2.2.1 i hil
      rw [ha] at hat
      obtain ⟨_, hc0, hl0, hl1, hm⟩ := hat
      simp only at hc0 hl0 hl1 hm
      have CP := HPR.out wr HP.out.g
      rw [decide_eq_true hR] at CP
      have HA : Hid (f i = ⟨ac, al, am⟩) := ha
      clear ha hR
      obtain ⟨bb, off, rfl, hAT⟩ : ∃ bb off : Nat, s = some ⟨bb, off, none⟩ ∧ ∀ W, w.grownBy W (some b) → W.cell? ⟨bb, off + i * 3, none⟩ = some (.string ac) ∧ W.cell? ⟨bb, off + i * 3 + 1, none⟩ = some (.int .i64 al) ∧ W.cell? ⟨bb, off + i * 3 + 2, none⟩ = some (.int .i64 am) ∧ bb < W.heap.size ∧ bb < w.heap.size := by
        rcases HF.out w (World.grownBy.refl _ _) with h | ⟨bb, off, e, _, hltw, _⟩
        · omega
        · refine ⟨bb, off, e, fun W hg => ?_⟩
          rcases HF.out W hg with h | ⟨bb', off', e', hl', hlt, h4⟩
          · omega
          · rw [e] at e'
            injection e' with e'
            injection e' with e1 e2
            subst e1 e2
            have h5 := h4 i hil
            rw [HA.out] at h5
            exact ⟨h5.c0, h5.c1, h5.c2, hlt, hltw⟩
      have HAT : Hid (∀ W, w.grownBy W (some b) → W.cell? ⟨bb, off + i * 3, none⟩ = some (.string ac) ∧ W.cell? ⟨bb, off + i * 3 + 1, none⟩ = some (.int .i64 al) ∧ W.cell? ⟨bb, off + i * 3 + 2, none⟩ = some (.int .i64 am) ∧ bb < W.heap.size ∧ bb < w.heap.size) := hAT
      clear hAT
      go_upto_region 6 with (first | (go_at_call 13; refine CP.mono ?_; rintro e w1 ⟨rfl, hb1⟩; have P1 : Hid (TxtIn w w1 b sa len cap u5 t) := HP.out.src hb (only_of_below hb1) (HP.out.s.after hb1); obtain ⟨d0, d1, d2, dl, _⟩ := HAT.out w1 P1.out.g; clear CP hb1))
      go_cut [34] (fun v wc => ∃ x : Bool, v = .bool x ∧ (x = true → al < am) ∧ TxtIn w wc b sa len cap u5 t)
      case first =>
        by_cases hlt : al < am
        · go_wp2_with (first | (go_at_call 67; refine (one_any _ b sa len cap 2 (by decide) P1.out.s).mono ?_; rintro e w2 ⟨⟨x, rfl⟩, hg, hS⟩; have P2 : Hid (TxtIn w w2 b sa len cap u5 t) := P1.out.src hb hg hS; clear hg hS))
          go_meet
          case rel => exact ⟨x, rfl, fun _ => hlt, P2.out⟩
        · go_wp2_with fail
          go_meet
          case rel => exact ⟨false, rfl, (fun h => by cases h), P1.out⟩
      case rest =>
        obtain ⟨x, rfl, hx, hp⟩ := hcut
        have P3 : Hid (TxtIn w wc b sa len cap u5 t) := hp
        obtain ⟨e0, e1, e2, el, _⟩ := HAT.out wc hp.g
        clear hp P1 d0 d1 d2 dl
        go_upto_if 34 with fail
        go_cut [7] (fun nv wx => ∃ k : Nat, nv = .int .i64 (k : Int) ∧ k ≤ 20 ∧ TxtIn w wx b sa len cap u5 t)
        case first =>
          cases x with
          | false =>
            obtain ⟨l, hl⟩ := Int.eq_ofNat_of_zero_le hl0
            have HL : Hid (al = (l : Int)) := hl
            clear hl
            go_wp2_with fail
            go_meet
            case rel => exact ⟨l, by rw [HL.out], by have := HL.out; omega, P3.out⟩
          | true =>
            have hlt := hx rfl
            have hw1 : IntKind.i64.wrap (am - al + 1) = am - al + 1 := by rw [IntKind.wrap_i64]; omega
            go_wp2_with fail
            refine (n_any _ b sa len cap (am - al + 1) (by omega) P3.out.s).mono ?_
            rintro e w4 ⟨⟨r, rfl, hr0, hr1, _⟩, hg, hS⟩
            have hr2 : r < am - al + 1 := hr1 (by omega)
            have P4 : Hid (TxtIn w w4 b sa len cap u5 t) := P3.out.src hb hg hS
            obtain ⟨l, hl⟩ := Int.eq_ofNat_of_zero_le (show 0 ≤ al + r by omega)
            have HL : Hid (al + r = (l : Int)) := hl
            clear hr1 hg hS hl
            go_wp2_with fail
            go_meet
            case rel => exact ⟨l, by rw [HL.out], by have := HL.out; omega, P4.out⟩
        case rest =>
          obtain ⟨k, rfl, hk, hp⟩ := hcut
          have P5 : Hid (TxtIn w wc b sa len cap u5 t) := hp
          obtain ⟨f0, f1, f2, fl, _⟩ := HAT.out wc hp.g
          clear hp P3 e0 e1 e2 el hx
          go_upto_if 52 with fail
          go_cut [7] (fun nv wx => ∃ k : Nat, nv = .int .i64 (k : Int) ∧ k ≤ 22 ∧ TxtIn w wx b sa len cap u5 t)
          case first =>
            by_cases hneg : am < 0
            · go_wp2_with fail
              refine (n_any _ b sa len cap 3 (by decide) P5.out.s).mono ?_
              rintro e w4 ⟨⟨r, rfl, hr0, hr1, _⟩, hg, hS⟩
              have hr2 : r < 3 := hr1 (by decide)
              have P6 : Hid (TxtIn w w4 b sa len cap u5 t) := P5.out.src hb hg hS
              obtain ⟨q, rfl⟩ := Int.eq_ofNat_of_zero_le hr0
              clear hr1 hg hS
              go_wp2_with fail
              go_meet
              case rel => exact ⟨k + q, by go_num, by omega, P6.out⟩
            · go_wp2_with fail
              go_meet
              case rel => exact ⟨k, rfl, by omega, P5.out⟩
          case rest =>
            obtain ⟨k2, rfl, hk2, hp⟩ := hcut
            have P6 : Hid (TxtIn w wc b sa len cap u5 t) := hp
            clear hp P5 f0 f1 f2 fl
            go_wp2_with fail
            go_loopw [5, 7] (fun v nv wr2 => ∃ (t2 : ByteArray) (k : Nat), nv = .int .i64 (k : Int) ∧ t2.size + k ≤ t.size + 22 ∧ TxtIn w wr2 b sa len cap v t2) (fun _ nv _ => (intOf nv).toNat)
            case atStart => exact ⟨t, k2, rfl, by omega, P6.out⟩
            case round =>
              obtain ⟨t2, k3, rfl, hk3, hp⟩ := hrel
              have P7 : Hid (TxtIn w wr b sa len cap u5 t2) := hp
              obtain ⟨g0, g1, g2, gl, gw⟩ := HAT.out wr hp.g
              clear hp g1 g2
              by_cases hkp : k3 = 0
              · subst hkp
                go_wp2_with fail
                go_roundw
                case rel => exact ⟨t2, i + 1, by go_num, by omega, by omega, P7.out⟩
                case measure => simp [intOf]; omega
              · have hkp2 : (0 : Int) < (k3 : Int) := by omega
                have hcs : ac.size ≤ 256 := by have := (HSM.out i hil).1; rw [HA.out] at this; exact this
                have hci : (ac.size : Int) ≤ 9223372036854775807 := by omega
                have hts : t2.size ≤ 8000 := by omega
                go_wp2_with fail
                go_region_held_law (fun W => W.cell? ⟨bb, off + i * 3, none⟩ = some (.string ac)) (go_keep) (first
                  | (refine step_app8 rfl (.tmp 61) (.tmp 76) rfl w.heap.size u5 (t2.data.toList.map fun b => (b.toNat : Int)) [(ac[j].toNat : Int)] (by simp [Act.eval]) (X8.out.alloc _) (by simp; omega) ⟨w6.heap.size, 0, none⟩ 1 (by simp [Act.eval]) (by simp) (by exact new_cells w6 [(ac[j].toNat : Int)] _ _ rfl) (by simp; omega) ?_; intro v' w7 hrow hbel; have P9 : Hid (TxtIn w w7 b sa len cap v' (t2.push ac[j])) := P8.out.low hb (RowT.of8 hrow) (((Below.refl w.heap.size w6).alloc hlo8 _).trans hbel); obtain ⟨g0, _, _, gl, _⟩ := HAT.out w7 P9.out.g; clear hrow hbel)
                  | (go_at_call 28; refine (n_any _ b sa len cap (ac.size : Int) hci P7.out.drew.s).mono ?_; rintro e w6 ⟨⟨r, rfl, hr0, hr1, hr2⟩, hg, hS⟩; obtain ⟨j, rfl⟩ := Int.eq_ofNat_of_zero_le hr0; have hj : j < ac.size := (by by_cases h1 : 1 < ac.size; (have := hr1 (by omega); omega); (have := hr2 (by omega); omega)); have hji : (j : Int) < (ac.size : Int) := (by omega); have P8 : Hid (TxtIn w w6 b sa len cap u5 t2) := P7.out.drew.src hb hg hS; have X8 : Hid (RowX w6 w.heap.size u5 (t2.data.toList.map fun b => (b.toNat : Int))) := P8.out.o.bytes.x; have hlo8 := P8.out.g.size; obtain ⟨g0, _, _, gl, _⟩ := HAT.out w6 P8.out.g; clear hr1 hr2 hg hS))
                all_goals
                  go_wp2_with fail
                  refine ⟨⟨t2.push ac[j], k3 - 1, ?_, ?_, P9.out⟩, ?_⟩
                  · congr 1
                    omega
                  · rw [push_size]
                    omega
                  · simp only [intOf]
                    omega
    · have hts : t.size ≤ 1000 := by omega
      have CP := HPR.out wr HP.out.g
      have HNO : Hid (¬ (i < n ∧ PatRight n f)) := hgo
      clear hgo
      by_cases hil : i < n
      · have hii : (i : Int) < (n : Int) := by omega
        rw [decide_eq_false (fun h => HNO.out ⟨hil, h⟩)] at CP
        go_wp2_with (first | (go_at_call 13; refine CP.mono ?_; rintro e w1 ⟨rfl, hb1⟩; have P1 : Hid (TxtIn w w1 b sa len cap u5 t) := HP.out.src hb (only_of_below hb1) (HP.out.s.after hb1); clear CP hb1))
        refine (one_any _ b sa len cap 4 (by decide) P1.out.s).mono ?_
        rintro e w2 ⟨⟨x, rfl⟩, hg, hS⟩
        have P2 : Hid (TxtIn w w2 b sa len cap u5 t) := P1.out.src hb hg hS
        clear hg hS
        cases x with
        | false =>
          have hcv := P2.out.o.conv
          go_wp2_with fail
          go_ret
          exact ⟨⟨t, rfl, by omega⟩, P2.out.g, P2.out.s⟩
        | true =>
          go_wp2_with fail
          refine (l05Text_any _ b sa len cap P2.out.s).mono ?_
          rintro e w4 ⟨⟨c, rfl, hcs⟩, hg, hS⟩
          have P4 : Hid (TxtIn w w4 b sa len cap u5 t) := P2.out.src hb hg hS
          have hlo4 : w.heap.size ≤ w4.heap.size := P4.out.g.size
          clear hg hS
          go_wp2_with (at_builtin; refine wpList_appT rfl (.tmp 80) (.tmp 82) rfl w.heap.size u5 t c rfl P4.out.o rfl (by omega) hlo4 ?_)
          intro v' w5 ho5 hb5 hg5
          have P5 : Hid (TxtIn w w5 b sa len cap v' (t ++ c)) := P4.out.app hb ho5 hg5
          have HS : Hid ((t ++ c).size = t.size + c.size) := ByteArray.size_append
          clear ho5 hb5 hg5 P4
          have hcv := P5.out.o.conv
          go_wp2_with fail
          go_ret
          exact ⟨⟨t ++ c, rfl, by have := HS.out; omega⟩, P5.out.g, P5.out.s⟩
      · have hii : ¬ (i : Int) < (n : Int) := by omega
        clear CP
        go_wp2_with fail
        refine (one_any _ b sa len cap 4 (by decide) HP.out.s).mono ?_
        rintro e w2 ⟨⟨x, rfl⟩, hg, hS⟩
        have P2 : Hid (TxtIn w w2 b sa len cap u5 t) := HP.out.src hb hg hS
        clear hg hS
        cases x with
        | false =>
          have hcv := P2.out.o.conv
          go_wp2_with fail
          go_ret
          exact ⟨⟨t, rfl, by omega⟩, P2.out.g, P2.out.s⟩
        | true =>
          go_wp2_with fail
          refine (l05Text_any _ b sa len cap P2.out.s).mono ?_
          rintro e w4 ⟨⟨c, rfl, hcs⟩, hg, hS⟩
          have P4 : Hid (TxtIn w w4 b sa len cap u5 t) := P2.out.src hb hg hS
          have hlo4 : w.heap.size ≤ w4.heap.size := P4.out.g.size
          clear hg hS
          go_wp2_with (at_builtin; refine wpList_appT rfl (.tmp 80) (.tmp 82) rfl w.heap.size u5 t c rfl P4.out.o rfl (by omega) hlo4 ?_)
          intro v' w5 ho5 hb5 hg5
          have P5 : Hid (TxtIn w w5 b sa len cap v' (t ++ c)) := P4.out.app hb ho5 hg5
          have HS : Hid ((t ++ c).size = t.size + c.size) := ByteArray.size_append
          clear ho5 hb5 hg5 P4
          have hcv := P5.out.o.conv
          go_wp2_with fail
          go_ret
          exact ⟨⟨t ++ c, rfl, by have := HS.out; omega⟩, P5.out.g, P5.out.s⟩
end Go.Proofs.YtlgnplnmcdjbiaaGreat
namespace Go.Proofs.YtlgnplnmcdjbiaaGreat
open Go.RowKit

theorem run_copy3 {P : Program} (w : World) (dT sT ty elem : TypeId) (b o dLen dCap : Nat) (a : Addr) (sLen sCap : Nat) (cs : List Value)
    (hu : P.underlying dT = some (.slice elem)) (hs : (P.info? elem).map (·.size) = some 3) (hn : cs.length = Nat.min sLen dLen * 3)
    (hsrc : ∀ j v, cs[j]? = some v → w.cell? (a.add j) = some v) (hc : ∀ j, j < cs.length → (w.cell? ⟨b, o + j, none⟩).isSome = true) (hf : ∀ j, j < cs.length → w.frozen? ⟨b, o + j, none⟩ = false) (h1 : ∀ v ∈ cs, v.oneCell' = true) :
    (Builtin.copy_ #[dT, sT] ty #[.slice (some ⟨b, o, none⟩) dLen dCap, .slice (some a) sLen sCap]).run P w = .ok (goInt (Nat.min sLen dLen)) (w.setCells b o cs) := by
  have hl := run_loadCells_list (P := P) w a cs hsrc
  have hst := run_storeCells_cells (P := P) b o cs 0 w (by simpa using hc) (by simpa using hf) h1
  cases hq : P.info? elem with
  | none => simp [hq] at hs
  | some i =>
    have hi : i.size = 3 := by simpa [hq] using hs
    simp [Builtin.copy_, run_underlying hu, Builtin.lenOf, Builtin.firstCells, sizeOf, typeInfo, hq, hi, ← hn, hl, hst]
/-- The cells of a list. -/
def kcells : List Cel → List Value
  | [] => []
  | a :: l => .string a.c :: .bool a.k :: .bool a.o :: kcells l
theorem kcells_len : ∀ l : List Cel, (kcells l).length = l.length * 3
  | [] => rfl
  | a :: l => by simp [kcells, kcells_len l]; omega
theorem kcells_append : ∀ l m : List Cel, kcells (l ++ m) = kcells l ++ kcells m
  | [], _ => rfl
  | a :: l, m => by show _ :: _ :: _ :: kcells (l ++ m) = _; rw [kcells_append l m]; rfl
theorem kcells_get : ∀ (l : List Cel) (i : Nat), i < l.length → (kcells l)[i * 3]? = some (.string (l.getD i cel0).c) ∧ (kcells l)[i * 3 + 1]? = some (.bool (l.getD i cel0).k) ∧ (kcells l)[i * 3 + 2]? = some (.bool (l.getD i cel0).o)
  | [], i, h => by simp at h
  | a :: l, 0, _ => ⟨rfl, rfl, rfl⟩
  | a :: l, i + 1, h => by
    have h1 := kcells_get l i (by simpa using h)
    have e1 : (i + 1) * 3 = i * 3 + 1 + 1 + 1 := by omega
    have e2 : i * 3 + 1 + 1 + 1 + 2 = i * 3 + 2 + 1 + 1 + 1 := by omega
    unfold kcells
    rw [e1, e2]
    simp only [List.getElem?_cons_succ, List.getD_cons_succ]
    exact h1
theorem kcells_one (l : List Cel) : ∀ v ∈ kcells l, v.oneCell' = true := by
  induction l with
  | nil => intro v hv; cases hv
  | cons a l ih =>
    intro v hv
    simp only [kcells, List.mem_cons] at hv
    rcases hv with rfl | rfl | rfl | hv
    · rfl
    · rfl
    · rfl
    · exact ih v hv
theorem only_setCells3 {a : World} (g : Nat) : ∀ (vs : List Value) (o : Nat) {w : World}, a.grownBy w (some g) → a.grownBy (w.setCells g o vs) (some g)
  | [], _, _, h => h
  | _ :: r, o, _, h => only_setCells3 g r (o + 1) (h.trans ⟨rfl, rfl, rfl, by simp [World.setCell], fun k _ hk => Below.heap_setCell _ _ _ _ (fun e => hk (by simp [e]))⟩)
/-- So many cells of a row are copied behind those that lie there. -/
theorem copy_cells (w : World) (g N K k m cd cs2 : Nat) (sb : Option Addr) (F f : Nat → Cel) (hm : 0 < m) (hk : k + m ≤ N) (hK : K = N - k) (ho : COwn w g N F) (hr : CRow w w.heap.size sb m f) :
    ∃ w', (Builtin.copy_ #[23, 23] 3 #[.slice (some ⟨g, k * 3, none⟩) K cd, .slice sb m cs2]).run Tryz.prog w = .ok (.int .i64 (m : Int)) w' ∧ w.grownBy w' (some g) ∧ COwn w' g N (fun i => if k ≤ i ∧ i < k + m then f (i - k) else F i) := by
  obtain ⟨bb, off, rfl, hbb, hca⟩ : ∃ bb off : Nat, sb = some ⟨bb, off, none⟩ ∧ bb < w.heap.size ∧ ∀ i, i < m → CellAt w bb (off + i * 3) (f i) := by
    rcases hr with h | h
    · omega
    · exact h
  obtain ⟨i0, hi, hz0, hz1, hz2⟩ := info_parts Tryz.cellInfo
  have hlen : ((List.range m).map f).length = m := by simp
  have hl : (kcells ((List.range m).map f)).length = m * 3 := by rw [kcells_len, hlen]
  have hget : ∀ i, i < m → ((List.range m).map f).getD i cel0 = f i := fun i hi => by simp [List.getD, hi]
  have hall : ∀ j, j < m * 3 → ∃ i r, i < m ∧ r < 3 ∧ j = i * 3 + r := fun j hj => ⟨j / 3, j % 3, by omega, by omega, by omega⟩
  have hcellg : ∀ j, j < m * 3 → (w.cell? ⟨g, k * 3 + j, none⟩).isSome = true := fun j hj => by
    obtain ⟨i, r, h1, h2, rfl⟩ := hall j hj
    obtain ⟨a0, a1, a2⟩ := ho.at' (k + i) (by omega)
    rcases (show r = 0 ∨ r = 1 ∨ r = 2 by omega) with rfl | rfl | rfl
    · rw [show k * 3 + (i * 3 + 0) = (k + i) * 3 by omega, a0]; rfl
    · rw [show k * 3 + (i * 3 + 1) = (k + i) * 3 + 1 by omega, a1]; rfl
    · rw [show k * 3 + (i * 3 + 2) = (k + i) * 3 + 2 by omega, a2]; rfl
  have hmin : Nat.min m K = m := by rw [hK]; exact Nat.min_eq_left (by omega)
  have h := run_copy3 (P := Tryz.prog) w 23 23 3 123 g (k * 3) K cd ⟨bb, off, none⟩ m cs2 (kcells ((List.range m).map f)) Tryz.underlying23 (by rw [hi]; simp [hz1]) (by rw [hl, hmin])
    (fun j v hv => by
      have hj : j < m * 3 := by
        rcases Nat.lt_or_ge j (m * 3) with h | h
        · exact h
        · rw [List.getElem?_eq_none (by omega)] at hv
          cases hv
      have hp : (⟨bb, off, none⟩ : Addr).add j = ⟨bb, off + j, none⟩ := by unfold Addr.add; split <;> simp_all
      rw [hp]
      obtain ⟨i, r, h1, h2, rfl⟩ := hall j hj
      obtain ⟨a0, a1, a2⟩ := hca i h1
      obtain ⟨b0, b1, b2⟩ := kcells_get ((List.range m).map f) i (by rw [hlen]; exact h1)
      rw [hget i h1] at b0 b1 b2
      rcases (show r = 0 ∨ r = 1 ∨ r = 2 by omega) with rfl | rfl | rfl
      · rw [← hv, show i * 3 + 0 = i * 3 by omega, a0, b0]
      · rw [← hv, ← Nat.add_assoc, a1, b1]
      · rw [← hv, ← Nat.add_assoc, a2, b2])
    (fun j hj => hcellg j (by omega)) (fun j hj => ho.free _ (by omega)) (kcells_one _)
  rw [hmin] at h
  refine ⟨_, h, only_setCells3 g _ _ (World.grownBy.refl _ _), Nat.lt_of_lt_of_le ho.lt (only_setCells3 g _ _ (World.grownBy.refl _ _)).size, fun i hi => ?_, fun i hi => by rw [World.frozen?_setCells]; exact ho.free i hi⟩
  have hin := fun j (hj : j < m * 3) => World.cell?_setCells_in g (kcells ((List.range m).map f)) (k * 3) w (fun i hi => hcellg i (by omega)) j (by rw [hl]; exact hj)
  have hout := fun (j : Nat) (hj : j < k * 3 ∨ k * 3 + m * 3 ≤ j) => World.cell?_setCells_out g (kcells ((List.range m).map f)) (k * 3) w ⟨g, j, none⟩ (fun _ _ => by rw [hl]; exact hj)
  by_cases e : k ≤ i ∧ i < k + m
  · rw [if_pos e]
    obtain ⟨b0, b1, b2⟩ := kcells_get ((List.range m).map f) (i - k) (by rw [hlen]; omega)
    rw [hget (i - k) (by omega)] at b0 b1 b2
    have h0 := hin ((i - k) * 3) (by omega)
    have h1 := hin ((i - k) * 3 + 1) (by omega)
    have h2 := hin ((i - k) * 3 + 2) (by omega)
    rw [show k * 3 + (i - k) * 3 = i * 3 by omega] at h0
    rw [show k * 3 + ((i - k) * 3 + 1) = i * 3 + 1 by omega] at h1
    rw [show k * 3 + ((i - k) * 3 + 2) = i * 3 + 2 by omega] at h2
    rw [← List.getElem?_eq_getElem] at h0 h1 h2
    exact ⟨h0.trans b0, h1.trans b1, h2.trans b2⟩
  · rw [if_neg e]
    obtain ⟨a0, a1, a2⟩ := ho.at' i hi
    exact ⟨(hout (i * 3) (by omega)).trans a0, (hout (i * 3 + 1) (by omega)).trans a1, (hout (i * 3 + 2) (by omega)).trans a2⟩
end Go.Proofs.YtlgnplnmcdjbiaaGreat
namespace Go.Proofs.YtlgnplnmcdjbiaaGreat
open Go.RowKit

open Classical in
theorem specPRight_yes (sa : Option Addr) (n cap : Nat) (f : Nat → Atm) (w : World) (hn : n ≤ maxLen) (hr : ARow w w.heap.size sa n f) (hc : ∀ i, i < n → (f i).c.size ≤ maxLen) (h : PatRight n f) :
    Calls Tryz.prog 13 #[.slice sa n cap] w fun e w' => e = .returned (.bool true) ∧ Below w.heap.size w w' :=
  (specPRight_any sa n cap f w hn hr hc).mono fun _ _ h2 => ⟨by rw [h2.1, decide_eq_true h], h2.2⟩
open Classical in
theorem specPRight_no (sa : Option Addr) (n cap : Nat) (f : Nat → Atm) (w : World) (hn : n ≤ maxLen) (hr : ARow w w.heap.size sa n f) (hc : ∀ i, i < n → (f i).c.size ≤ maxLen) (h : ¬ PatRight n f) :
    Calls Tryz.prog 13 #[.slice sa n cap] w fun e w' => e = .returned (.bool false) ∧ Below w.heap.size w w' :=
  (specPRight_any sa n cap f w hn hr hc).mono fun _ _ h2 => ⟨by rw [h2.1, decide_eq_false h], h2.2⟩
end Go.Proofs.YtlgnplnmcdjbiaaGreat
