/- What is proved here: a text that a drawn pattern may mean is a text of at most 20000 bytes; nothing turns but the source's own block. -/
import Derived.Test.YtfeolbgenpknfaaQRow8WToDrawTxtW
import Derived.Test.YtfeolbgenpknfaaQAtomSToDrawPatW
import Derived.Test.YtfeolbgenpknfaaQSpecPRightW
import Derived.Deep.DeepCutAuto
import Derived.Deep.CutBlock
import Derived.Deep.RegionHeldLaw
namespace Go.Proofs.Ytfeolbgenpknfaa
open Go.RowKit

/-- A pattern that was drawn: atoms of a block from lo on. -/
def AFar (w : World) (lo : Nat) (s : Option Addr) (n : Nat) (f : Nat → Atm) : Prop := n = 0 ∨ ∃ bb off : Nat, s = some ⟨bb, off, none⟩ ∧ lo ≤ bb ∧ bb < w.heap.size ∧ ∀ i, i < n → AtomAt w bb (off + i * 3) (f i)
theorem AFar.kept {w w' : World} {lo n : Nat} {row : Option Nat} {s : Option Addr} {f : Nat → Atm} (h : AFar w lo s n f) (hg : w.grownBy w' row) (hr : ∀ k, row = some k → k < lo) : AFar w' lo s n f := by
  rcases h with h | ⟨bb, off, h1, h2, h3, h4⟩
  · exact Or.inl h
  · have hb := hg.block bb h3 (fun e => by have := hr bb e.symm; omega)
    refine Or.inr ⟨bb, off, h1, h2, Nat.lt_of_lt_of_le h3 hg.size, fun i hi => ⟨?_, ?_, ?_⟩⟩
    · have := (h4 i hi).c0
      simpa [World.cell?, hb] using this
    · have := (h4 i hi).c1
      simpa [World.cell?, hb] using this
    · have := (h4 i hi).c2
      simpa [World.cell?, hb] using this
theorem AFar.row {w : World} {lo n : Nat} {s : Option Addr} {f : Nat → Atm} (h : AFar w lo s n f) : ARow w w.heap.size s n f := by
  rcases h with h | ⟨bb, off, h1, _, h3, h4⟩
  · exact Or.inl h
  · exact Or.inr ⟨bb, off, h1, h3, h4⟩
theorem ASl.far {w : World} {lo hi n : Nat} {s : Option Addr} {f : Nat → Atm} (h : ASl w lo hi s n f) : AFar w lo s n f := by
  rcases h with h | ⟨g, h1, h2, _, h3⟩
  · exact Or.inl h
  · exact Or.inr ⟨g, 0, h1, h2, h3.lt, fun i hi => by rw [Nat.zero_add]; exact h3.at' i hi⟩
theorem RowT.bytes {w : World} {B : Nat} {v : Value} {t : ByteArray} (h : RowT w B v t) : Row8 w B v (t.data.toList.map fun b => (b.toNat : Int)) := by
  have e : (t.data.toList.map fun b => (b.toNat : Int)).map (Value.int .u8) = Lib.strCells t := by simp [Lib.strCells]
  have e2 : (t.data.toList.map fun b => (b.toNat : Int)).length = t.size := by simp
  unfold Row8
  rw [e, e2]
  exact h
theorem RowT.of8 {w : World} {B : Nat} {v : Value} {t : ByteArray} {x : UInt8} (h : Row8 w B v ((t.data.toList.map fun b => (b.toNat : Int)) ++ [(x.toNat : Int)])) : RowT w B v (t.push x) := by
  have e : ((t.data.toList.map fun b => (b.toNat : Int)) ++ [(x.toNat : Int)]).map (Value.int .u8) = Lib.strCells (t.push x) := by simp [Lib.strCells]
  have e2 : ((t.data.toList.map fun b => (b.toNat : Int)) ++ [(x.toNat : Int)]).length = (t.push x).size := by simp
  unfold Row8 at h
  rw [e, e2] at h
  exact h
theorem Src.below {w w' : World} {b B : Nat} {sa : Option Addr} {len cap : Nat} (h : Src w b sa len cap) (hb : Below B w w') (hB : b < B) : Src w' b sa len cap := by
  obtain ⟨hl, hby, k, m, z, ⟨hat, r⟩, hz⟩ := h
  refine ⟨hl, ?_, k, m, z, ⟨by rw [hb.block b hB]; exact hat, r⟩, hz⟩
  rcases hby with h | ⟨bb, off, zs, h1, h2, h3, h4⟩
  · exact Or.inl h
  · exact Or.inr ⟨bb, off, zs, h1, h2, fun i hi => by rw [hb.cell (p := ⟨bb, off + i, none⟩) (show bb < B by omega)]; exact h3 i hi, h4⟩
theorem TxtIn.low {w W W' : World} {b : Nat} {sa : Option Addr} {len cap : Nat} {v v' : Value} {t t' : ByteArray} (h : TxtIn w W b sa len cap v t) (hb : b < w.heap.size) (ho : RowT W' w.heap.size v' t') (hg : Below w.heap.size W W') : TxtIn w W' b sa len cap v' t' :=
  ⟨⟨hg.os.trans h.g.os, hg.tape.trans h.g.tape, hg.output.trans h.g.output, Nat.le_trans h.g.size hg.size, fun k hk hne => (hg.block k hk).trans (h.g.block k hk hne)⟩, h.s.below hg hb, ho⟩
theorem TxtIn.drew {w W : World} {b : Nat} {sa : Option Addr} {len cap : Nat} {v : Value} {t : ByteArray} (h : TxtIn w W b sa len cap v t) : TxtIn w W.drew b sa len cap v t :=
  ⟨⟨h.g.os, h.g.tape, h.g.output, h.g.size, h.g.block⟩, h.s.after ⟨rfl, rfl, rfl, Nat.le_refl _, fun _ _ => rfl⟩, h.o⟩
theorem push_size (t : ByteArray) (x : UInt8) : (t.push x).size = t.size + 1 := by simp
open Classical in
set_option maxRecDepth 100000 in
set_option maxHeartbeats 8000000 in
theorem l05Meant_any (w : World) (b : Nat) (sa : Option Addr) (len cap lo : Nat) (s : Option Addr) (n cp : Nat) (f : Nat → Atm) (hs : Src w b sa len cap) (hn : n ≤ 5) (hf : AFar w lo s n f) (hlo : b < lo) (hsm : ∀ i, i < n → SmallA (f i)) :
    Calls Try.prog 56 #[.pointer (some ⟨b, 0, none⟩), .slice s n cp] w fun e w' => TextUpTo 20000 e ∧ w.grownBy w' (some b) ∧ Src w' b sa len cap := by
  obtain ⟨i0, hi, hz0, hz1, hz2⟩ := info_parts Try.drawInfo
  have hb := hs.lt
  have P0 : Hid (TxtIn w (w.alloc (.cells #[] 5)) b sa len cap (.slice (some ⟨w.heap.size, 0, none⟩) 0 0) ⟨#[]⟩) :=
    ⟨World.grownBy_alloc w _ _, hs.after ((Below.refl _ _).alloc (Nat.le_refl _) _), rowT_start w w.heap.size (Nat.le_refl _) _ rfl⟩
  have HF : Hid (∀ W, w.grownBy W (some b) → AFar W lo s n f) := fun W hg => hf.kept hg (fun k hk => by injection hk with hk; omega)
  have HSM : Hid (∀ i, i < n → SmallA (f i)) := hsm
  have HLO : Hid (∀ W, w.grownBy W (some b) → w.heap.size ≤ W.heap.size) := fun W hg => hg.size
  have HPR : Hid (∀ W, w.grownBy W (some b) → Calls Try.prog 23 #[.slice s n cp] W fun e w' => e = .returned (.bool (decide (PatRight n f))) ∧ Below W.heap.size W w') := fun W hg => specPRight_any s n cp f W (by unfold maxLen; omega) (HF.out W hg).row (fun i hi => by have := (hsm i hi).1; unfold maxLen; omega)
  clear hs hf hsm
  go_enter Try.func56, Try.ntmps56
  go_wp2_with fail
  generalize w.alloc (.cells #[] 5) = v0 at *
  go_loopw [5, 6, 7] (fun v iv nv wr => ∃ (t : ByteArray) (i : Nat), iv = .int .i64 (i : Int) ∧ i ≤ n ∧ t.size ≤ 100 * i ∧ TxtIn w wr b sa len cap v t) (fun _ iv _ _ => n - (intOf iv).toNat)
  case atStart => exact ⟨⟨#[]⟩, 0, rfl, Nat.zero_le _, Nat.le_refl _, P0.out⟩
  case round =>
    obtain ⟨t, i, rfl, hin, ht, hp⟩ := hrel
    have HP : Hid (TxtIn w wr b sa len cap u5 t) := hp
    clear hp
    by_cases hgo : i < n ∧ PatRight n f
    · obtain ⟨hil, hR⟩ := hgo
      have hii : (i : Int) < (n : Int) := by omega
      have hi0 : (0 : Int) ≤ (i : Int) := by omega
      obtain ⟨⟨ac, al, am⟩, ha⟩ : ∃ a, f i = a := ⟨_, rfl⟩
      have hat := hR.2.2.1 i hil
      rw [ha] at hat
      obtain ⟨_, hc0, hl0, hl1, hm⟩ := hat
      simp only at hc0 hl0 hl1 hm
      have CP := HPR.out wr HP.out.g
      rw [decide_eq_true hR] at CP
      have HA : Hid (f i = ⟨ac, al, am⟩) := ha
      clear ha hR
      obtain ⟨bb, off, rfl, hAT⟩ : ∃ bb off : Nat, s = some ⟨bb, off, none⟩ ∧ ∀ W, w.grownBy W (some b) → W.cell? ⟨bb, off + i * 3, none⟩ = some (.string ac) ∧ W.cell? ⟨bb, off + i * 3 + 1, none⟩ = some (.int .i64 al) ∧ W.cell? ⟨bb, off + i * 3 + 2, none⟩ = some (.int .i64 am) ∧ bb < W.heap.size ∧ bb < w.heap.size := by
        rcases HF.out w (World.grownBy.refl _ _) with h | ⟨bb, off, e, _, hltw, _⟩
        · omega
        · refine ⟨bb, off, e, fun W hg => ?_⟩
          rcases HF.out W hg with h | ⟨bb', off', e', hl', hlt, h4⟩
          · omega
          · rw [e] at e'
            injection e' with e'
            injection e' with e1 e2
            subst e1 e2
            have h5 := h4 i hil
            rw [HA.out] at h5
            exact ⟨h5.c0, h5.c1, h5.c2, hlt, hltw⟩
      have HAT : Hid (∀ W, w.grownBy W (some b) → W.cell? ⟨bb, off + i * 3, none⟩ = some (.string ac) ∧ W.cell? ⟨bb, off + i * 3 + 1, none⟩ = some (.int .i64 al) ∧ W.cell? ⟨bb, off + i * 3 + 2, none⟩ = some (.int .i64 am) ∧ bb < W.heap.size ∧ bb < w.heap.size) := hAT
      clear hAT
      go_upto_region 6 with (first | (go_at_call 23; refine CP.mono ?_; rintro e w1 ⟨rfl, hb1⟩; have P1 : Hid (TxtIn w w1 b sa len cap u5 t) := HP.out.src hb (only_of_below hb1) (HP.out.s.after hb1); obtain ⟨d0, d1, d2, dl, _⟩ := HAT.out w1 P1.out.g; clear CP hb1))
      go_cut [34] (fun v wc => ∃ x : Bool, v = .bool x ∧ (x = true → al < am) ∧ TxtIn w wc b sa len cap u5 t)
      case first =>
        by_cases hlt : al < am
        · go_wp2_with (first | (go_at_call 54; refine (one_any _ b sa len cap 2 (by decide) P1.out.s).mono ?_; rintro e w2 ⟨⟨x, rfl⟩, hg, hS⟩; have P2 : Hid (TxtIn w w2 b sa len cap u5 t) := P1.out.src hb hg hS; clear hg hS))
          go_meet
          case rel => exact ⟨x, rfl, fun _ => hlt, P2.out⟩
        · go_wp2_with fail
          go_meet
          case rel => exact ⟨false, rfl, (fun h => by cases h), P1.out⟩
      case rest =>
        obtain ⟨x, rfl, hx, hp⟩ := hcut
        have P3 : Hid (TxtIn w wc b sa len cap u5 t) := hp
        obtain ⟨e0, e1, e2, el, _⟩ := HAT.out wc hp.g
        clear hp P1 d0 d1 d2 dl
        go_upto_if 34 with fail
        go_cut [7] (fun nv wx => ∃ k : Nat, nv = .int .i64 (k : Int) ∧ k ≤ 20 ∧ TxtIn w wx b sa len cap u5 t)
        case first =>
          cases x with
          | false =>
            obtain ⟨l, hl⟩ := Int.eq_ofNat_of_zero_le hl0
            have HL : Hid (al = (l : Int)) := hl
            clear hl
            go_wp2_with fail
            go_meet
            case rel => exact ⟨l, by rw [HL.out], by have := HL.out; omega, P3.out⟩
          | true =>
            have hlt := hx rfl
            have hw1 : IntKind.i64.wrap (am - al + 1) = am - al + 1 := by rw [IntKind.wrap_i64]; omega
            go_wp2_with fail
            refine (n_any _ b sa len cap (am - al + 1) (by omega) P3.out.s).mono ?_
            rintro e w4 ⟨⟨r, rfl, hr0, hr1, _⟩, hg, hS⟩
            have hr2 : r < am - al + 1 := hr1 (by omega)
            have P4 : Hid (TxtIn w w4 b sa len cap u5 t) := P3.out.src hb hg hS
            obtain ⟨l, hl⟩ := Int.eq_ofNat_of_zero_le (show 0 ≤ al + r by omega)
            have HL : Hid (al + r = (l : Int)) := hl
            clear hr1 hg hS hl
            go_wp2_with fail
            go_meet
            case rel => exact ⟨l, by rw [HL.out], by have := HL.out; omega, P4.out⟩
        case rest =>
          obtain ⟨k, rfl, hk, hp⟩ := hcut
          have P5 : Hid (TxtIn w wc b sa len cap u5 t) := hp
          obtain ⟨f0, f1, f2, fl, _⟩ := HAT.out wc hp.g
          clear hp P3 e0 e1 e2 el hx
          go_upto_if 52 with fail
          go_cut [7] (fun nv wx => ∃ k : Nat, nv = .int .i64 (k : Int) ∧ k ≤ 22 ∧ TxtIn w wx b sa len cap u5 t)
          case first =>
            by_cases hneg : am < 0
            · go_wp2_with fail
              refine (n_any _ b sa len cap 3 (by decide) P5.out.s).mono ?_
              rintro e w4 ⟨⟨r, rfl, hr0, hr1, _⟩, hg, hS⟩
              have hr2 : r < 3 := hr1 (by decide)
              have P6 : Hid (TxtIn w w4 b sa len cap u5 t) := P5.out.src hb hg hS
              obtain ⟨q, rfl⟩ := Int.eq_ofNat_of_zero_le hr0
              clear hr1 hg hS
              go_wp2_with fail
              go_meet
              case rel => exact ⟨k + q, by go_num, by omega, P6.out⟩
            · go_wp2_with fail
              go_meet
              case rel => exact ⟨k, rfl, by omega, P5.out⟩
          case rest =>
            obtain ⟨k2, rfl, hk2, hp⟩ := hcut
            have P6 : Hid (TxtIn w wc b sa len cap u5 t) := hp
            clear hp P5 f0 f1 f2 fl
            go_wp2_with fail
            go_loopw [5, 7] (fun v nv wr2 => ∃ (t2 : ByteArray) (k : Nat), nv = .int .i64 (k : Int) ∧ t2.size + k ≤ t.size + 22 ∧ TxtIn w wr2 b sa len cap v t2) (fun _ nv _ => (intOf nv).toNat)
            case atStart => exact ⟨t, k2, rfl, by omega, P6.out⟩
            case round =>
              obtain ⟨t2, k3, rfl, hk3, hp⟩ := hrel
              have P7 : Hid (TxtIn w wr b sa len cap u5 t2) := hp
              obtain ⟨g0, g1, g2, gl, gw⟩ := HAT.out wr hp.g
              clear hp g1 g2
              by_cases hkp : k3 = 0
              · subst hkp
                go_wp2_with fail
                go_roundw
                case rel => exact ⟨t2, i + 1, by go_num, by omega, by omega, P7.out⟩
                case measure => simp [intOf]; omega
              · have hkp2 : (0 : Int) < (k3 : Int) := by omega
                have hcs : ac.size ≤ 256 := by have := (HSM.out i hil).1; rw [HA.out] at this; exact this
                have hci : (ac.size : Int) ≤ 9223372036854775807 := by omega
                have hts : t2.size ≤ 8000 := by omega
                go_wp2_with fail
                go_region_held_law (fun W => W.cell? ⟨bb, off + i * 3, none⟩ = some (.string ac)) (go_keep) (first
                  | (refine step_app8 rfl (.tmp 61) (.tmp 76) rfl w.heap.size u5 (t2.data.toList.map fun b => (b.toNat : Int)) [(ac[j].toNat : Int)] (by simp [Act.eval]) (X8.out.alloc _) (by simp; omega) ⟨w6.heap.size, 0, none⟩ 1 (by simp [Act.eval]) (by simp) (by exact new_cells w6 [(ac[j].toNat : Int)] _ _ rfl) (by simp; omega) ?_; intro v' w7 hrow hbel; have P9 : Hid (TxtIn w w7 b sa len cap v' (t2.push ac[j])) := P8.out.low hb (RowT.of8 hrow) (((Below.refl w.heap.size w6).alloc hlo8 _).trans hbel); obtain ⟨g0, _, _, gl, _⟩ := HAT.out w7 P9.out.g; clear hrow hbel)
                  | (go_at_call 62; refine (n_any _ b sa len cap (ac.size : Int) hci P7.out.drew.s).mono ?_; rintro e w6 ⟨⟨r, rfl, hr0, hr1, hr2⟩, hg, hS⟩; obtain ⟨j, rfl⟩ := Int.eq_ofNat_of_zero_le hr0; have hj : j < ac.size := (by by_cases h1 : 1 < ac.size; (have := hr1 (by omega); omega); (have := hr2 (by omega); omega)); have hji : (j : Int) < (ac.size : Int) := (by omega); have P8 : Hid (TxtIn w w6 b sa len cap u5 t2) := P7.out.drew.src hb hg hS; have X8 : Hid (RowX w6 w.heap.size u5 (t2.data.toList.map fun b => (b.toNat : Int))) := P8.out.o.bytes.x; have hlo8 := P8.out.g.size; obtain ⟨g0, _, _, gl, _⟩ := HAT.out w6 P8.out.g; clear hr1 hr2 hg hS))
                all_goals
                  go_wp2_with fail
                  refine ⟨⟨t2.push ac[j], k3 - 1, ?_, ?_, P9.out⟩, ?_⟩
                  · congr 1
                    omega
                  · rw [push_size]
                    omega
                  · simp only [intOf]
                    omega
    · have hts : t.size ≤ 1000 := by omega
      have CP := HPR.out wr HP.out.g
      have HNO : Hid (¬ (i < n ∧ PatRight n f)) := hgo
      clear hgo
      by_cases hil : i < n
      · have hii : (i : Int) < (n : Int) := by omega
        rw [decide_eq_false (fun h => HNO.out ⟨hil, h⟩)] at CP
        go_wp2_with (first | (go_at_call 23; refine CP.mono ?_; rintro e w1 ⟨rfl, hb1⟩; have P1 : Hid (TxtIn w w1 b sa len cap u5 t) := HP.out.src hb (only_of_below hb1) (HP.out.s.after hb1); clear CP hb1))
        refine (one_any _ b sa len cap 4 (by decide) P1.out.s).mono ?_
        rintro e w2 ⟨⟨x, rfl⟩, hg, hS⟩
        have P2 : Hid (TxtIn w w2 b sa len cap u5 t) := P1.out.src hb hg hS
        clear hg hS
        cases x with
        | false =>
          have hcv := P2.out.o.conv
          go_wp2_with fail
          go_ret
          exact ⟨⟨t, rfl, by omega⟩, P2.out.g, P2.out.s⟩
        | true =>
          go_wp2_with fail
          refine (l05Text_any _ b sa len cap P2.out.s).mono ?_
          rintro e w4 ⟨⟨c, rfl, hcs⟩, hg, hS⟩
          have P4 : Hid (TxtIn w w4 b sa len cap u5 t) := P2.out.src hb hg hS
          have hlo4 : w.heap.size ≤ w4.heap.size := P4.out.g.size
          clear hg hS
          go_wp2_with (at_builtin; refine wpList_appT rfl (.tmp 80) (.tmp 82) rfl w.heap.size u5 t c rfl P4.out.o rfl (by omega) hlo4 ?_)
          intro v' w5 ho5 hb5 hg5
          have P5 : Hid (TxtIn w w5 b sa len cap v' (t ++ c)) := P4.out.app hb ho5 hg5
          have HS : Hid ((t ++ c).size = t.size + c.size) := ByteArray.size_append
          clear ho5 hb5 hg5 P4
          have hcv := P5.out.o.conv
          go_wp2_with fail
          go_ret
          exact ⟨⟨t ++ c, rfl, by have := HS.out; omega⟩, P5.out.g, P5.out.s⟩
      · have hii : ¬ (i : Int) < (n : Int) := by omega
        clear CP
        go_wp2_with fail
        refine (one_any _ b sa len cap 4 (by decide) HP.out.s).mono ?_
        rintro e w2 ⟨⟨x, rfl⟩, hg, hS⟩
        have P2 : Hid (TxtIn w w2 b sa len cap u5 t) := HP.out.src hb hg hS
        clear hg hS
        cases x with
        | false =>
          have hcv := P2.out.o.conv
          go_wp2_with fail
          go_ret
          exact ⟨⟨t, rfl, by omega⟩, P2.out.g, P2.out.s⟩
        | true =>
          go_wp2_with fail
          refine (l05Text_any _ b sa len cap P2.out.s).mono ?_
          rintro e w4 ⟨⟨c, rfl, hcs⟩, hg, hS⟩
          have P4 : Hid (TxtIn w w4 b sa len cap u5 t) := P2.out.src hb hg hS
          have hlo4 : w.heap.size ≤ w4.heap.size := P4.out.g.size
          clear hg hS
          go_wp2_with (at_builtin; refine wpList_appT rfl (.tmp 80) (.tmp 82) rfl w.heap.size u5 t c rfl P4.out.o rfl (by omega) hlo4 ?_)
          intro v' w5 ho5 hb5 hg5
          have P5 : Hid (TxtIn w w5 b sa len cap v' (t ++ c)) := P4.out.app hb ho5 hg5
          have HS : Hid ((t ++ c).size = t.size + c.size) := ByteArray.size_append
          clear ho5 hb5 hg5 P4
          have hcv := P5.out.o.conv
          go_wp2_with fail
          go_ret
          exact ⟨⟨t ++ c, rfl, by have := HS.out; omega⟩, P5.out.g, P5.out.s⟩
end Go.Proofs.Ytfeolbgenpknfaa
