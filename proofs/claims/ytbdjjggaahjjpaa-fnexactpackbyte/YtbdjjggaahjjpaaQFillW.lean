/- What is proved here: the program writes down for each byte the places behind the cells that have it, in the row's own block; nothing else that was there turns. -/
import Derived.Test.YtbdjjggaahjjpaaQFillM
import Derived.RegionTactic
import Derived.BigRegion
namespace Go.Proofs.Ytbdjjggaahjjpaa
open Go.RowKit

set_option maxRecDepth 100000 in
set_option maxHeartbeats 4000000 in
theorem fill_any (b : Nat) (sa : Option Addr) (n cap sk lo : Nat) (d u : Int) (f : Nat → Cel) (w : World) (hn : n ≤ 60) (hsz : ∀ i, i < n → (f i).c.size ≤ 256) (hr : CRow w b sa n f) (hk : KRow w b sa n cap sk lo d u (fun _ => 0)) :
    Calls Try.prog 98 #[.pointer (some ⟨b, 0, none⟩)] w fun e w' => ∃ tab : Nat → Nat, e = .returned (.tuple #[]) ∧ w.grownBy w' (some b) ∧ KRow w' b sa n cap sk lo d u tab ∧ TabAt f n tab := by
  have HR : Hid (CRow w b sa n f) := hr
  have HK : Hid (KRow w b sa n cap sk lo d u (fun _ => 0)) := hk
  have HSZ : Hid (∀ i, i < n → (f i).c.size ≤ 256) := hsz
  have k0 := hk.c0
  have hblt := hk.lt
  clear hr hk hsz
  go_enter Try.func98, Try.ntmps98
  go_wp2_with fail
  go_loopw [10] (fun i wr => ∃ (k : Nat) (tab : Nat → Nat), k ≤ n ∧ i = .int .i64 (k : Int) ∧ w.grownBy wr (some b) ∧ KRow wr b sa n cap sk lo d u tab ∧ TabAt f k tab) (fun i _ => n - (intOf i).toNat)
  case atStart => exact ⟨0, _, Nat.zero_le _, rfl, World.grownBy.refl _ _, HK.out, tab_zero f⟩
  case round =>
    obtain ⟨k, tab, hk, rfl, hgr, hrow, htab⟩ := hrel
    have HG : Hid (w.grownBy wr (some b)) := hgr
    have HW : Hid (KRow wr b sa n cap sk lo d u tab) := hrow
    have HT : Hid (TabAt f k tab) := htab
    by_cases hkl : k < n
    · obtain ⟨bb, off, rfl, hbb, hat⟩ := (cells_grown HR.out hgr hblt).atK hkl
      obtain ⟨c0, c1, c2⟩ := hat
      have hki : (k : Int) < (n : Int) := by omega
      have hk0 : (0 : Int) ≤ (k : Int) := by omega
      obtain ⟨⟨ac, al, am⟩, ha⟩ : ∃ a, f k = a := ⟨_, rfl⟩
      have hacs := HSZ.out k hkl
      rw [ha] at c0 c1 c2 hacs
      simp only at c0 c1 c2 hacs
      have TB : Hid (TabTo f k 0 tab) := tab_begin htab
      have HEN : Hid (∀ tb, TabTo f k ac.size tb → TabAt f (k + 1) tb) := fun tb h9 => tab_end (by rw [ha]; exact h9)
      have HST : Hid (∀ m tb (hm : m < ac.size), TabTo f k m tb → TabTo f k (m + 1) (fun j => if j = ac[m].toNat then tb j ||| 2 ^ (k + 1) else tb j)) := fun m tb hm h9 => by
        have h8 := tab_step h9 (by omega) (by rw [ha]; exact hm)
        simp only [ha] at h8
        exact h8
      have W2 : Hid (KRow (wr.alloc (.cells #[.string ac, .bool al, .bool am] 85)) b (some ⟨bb, off, none⟩) n cap sk lo d u tab) := HW.out.alloc _
      have G2 : Hid (w.grownBy (wr.alloc (.cells #[.string ac, .bool al, .bool am] 85)) (some b)) := HG.out.trans (World.grownBy_alloc _ _ _)
      have X2 : Hid (CBox (wr.alloc (.cells #[.string ac, .bool al, .bool am] 85)) wr.heap.size ⟨ac, al, am⟩) := CBox.new wr ⟨ac, al, am⟩ _
      have hpb : wr.heap.size ≠ b := by have := HW.out.lt; omega
      clear ha hgr hrow htab
      go_wp2_with fail
      generalize wr.alloc (.cells #[.string ac, .bool al, .bool am] 85) = v at *
      generalize wr.heap.size = p at *
      clear c0 c1 c2 HW HG HT
      go_loopw [4] (fun iv wr => ∃ (m : Nat) (tb : Nat → Nat), m ≤ ac.size ∧ iv = .int .i64 (m : Int) ∧ v.grownBy wr (some b) ∧ KRow wr b (some ⟨bb, off, none⟩) n cap sk lo d u tb ∧ TabTo f k m tb) (fun iv _ => ac.size - (intOf iv).toNat)
      case atStart => exact ⟨0, tab, Nat.zero_le _, rfl, World.grownBy.refl _ _, W2.out, TB.out⟩
      case round =>
        obtain ⟨m, tb, hm, rfl, hgr, hrow, htb⟩ := hrel
        have HG3 : Hid (v.grownBy wr (some b)) := hgr
        have HW3 : Hid (KRow wr b (some ⟨bb, off, none⟩) n cap sk lo d u tb) := hrow
        have HT3 : Hid (TabTo f k m tb) := htb
        have hpl := X2.out.lt
        have x0 : wr.cell? ⟨p, 0, none⟩ = some (.string ac) := by
          have h9 := hgr.block p hpl (fun e => hpb (by injection e))
          have h8 := X2.out.c0
          simpa [World.cell?, h9] using h8
        by_cases hml : m < ac.size
        · have hmi : (m : Int) < (ac.size : Int) := by omega
          have hm0 : (0 : Int) ≤ (m : Int) := by omega
          obtain ⟨x, hx⟩ : ∃ x, ac[m].toNat = x := ⟨_, rfl⟩
          have hx256 : x < 256 := by rw [← hx]; exact ac[m].toNat_lt
          have HT4 := HST.out m tb hml htb
          rw [hx] at HT4
          have HT5 : Hid (TabTo f k (m + 1) (fun j => if j = x then tb j ||| 2 ^ (k + 1) else tb j)) := HT4
          have cx := hrow.tb x hx256
          have fx := hrow.fr (6 + x) (by omega)
          have hlb := hrow.lt
          have hx0 : (0 : Int) ≤ (x : Int) := by omega
          have hx1 : (x : Int) < 256 := by omega
          obtain ⟨r, hr⟩ : ∃ r, k + 1 = r := ⟨_, rfl⟩
          have hri : (k : Int) + 1 = (r : Int) := by omega
          have hr0 : (0 : Int) ≤ (r : Int) := by omega
          rw [hr] at HT5
          have hpw := wrap_powP (r := r) (by omega)
          have hor : bits .or .u64 (tb x : Int) ((2 ^ r : Nat) : Int) = ((tb x ||| 2 ^ r : Nat) : Int) := or64 (htb x hx256).lt (pow_lt64 (by omega))
          have W5 : Hid (KRow (wr.setCell ⟨b, 6 + x, none⟩ (.int .u64 ((tb x ||| 2 ^ r : Nat) : Int))) b (some ⟨bb, off, none⟩) n cap sk lo d u (fun j => if j = x then tb j ||| 2 ^ r else tb j)) := by
            have h9 := HW3.out.set hx256 (tb x ||| 2 ^ r)
            refine ⟨h9.c0, h9.c1, h9.c2, h9.c3, h9.c4, fun j hj => ?_, h9.fr, h9.lt⟩
            rw [h9.tb j hj]
            by_cases e : j = x
            · subst e; simp
            · simp [e]
          generalize ((tb x ||| 2 ^ r : Nat) : Int) = z at *
          generalize ((2 ^ r : Nat) : Int) = P at *
          clear HT4 hgr hrow htb
          go_wp2_with fail
          go_region
          all_goals
            go_wp2_with fail
            go_roundw
            case rel => exact ⟨m + 1, _, by omega, by go_num, grown_drewK (only_setK HG3.out), W5.out.drew, HT5.out⟩
            case measure => simp [intOf]; omega
        · have hmi : ¬ (m : Int) < (ac.size : Int) := by omega
          obtain rfl : m = ac.size := by omega
          have HT6 : Hid (TabAt f (k + 1) tb) := HEN.out tb htb
          clear hgr hrow htb
          go_wp2_with fail
          go_roundw
          case rel => exact ⟨k + 1, tb, by omega, by go_num, G2.out.trans HG3.out, HW3.out, HT6.out⟩
          case measure => simp [intOf]; omega
    · have hki : ¬ (k : Int) < (n : Int) := by omega
      obtain rfl : k = n := by omega
      clear hgr hrow htab
      go_wp2_with fail
      go_end0
      exact ⟨rfl, HG.out, tab, HW.out, HT.out⟩
end Go.Proofs.Ytbdjjggaahjjpaa
