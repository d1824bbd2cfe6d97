/- What is proved here: the program writes down for each byte the places behind the cells that have it, in the row's own block; nothing else that was there turns.
   What is proved here: the parts of sync.Once's two roads at a free lock, one goroutine.
   What is said here: a row whose table is not made yet, or is made.
   What is proved here: the parts of sync.Once's slow road at a free lock, one goroutine; a row's table is filled by it just once. -/
import Derived.Test.YtfeolbgenpknfaaGreatQSetOfWToFillM
import Derived.RegionTactic
import Derived.BigRegion
import Derived.Test.YtfeolbgenpknfaaGreatProg
import Derived.WalkKit
import Derived.Defers
import Derived.Laws.Pointers
import Derived.Laws.LoneSync
import Derived.RegionCalls
namespace Go.Proofs.YtfeolbgenpknfaaGreat
open Go.RowKit

set_option maxRecDepth 100000 in
set_option maxHeartbeats 4000000 in
theorem fill_any (b : Nat) (sa : Option Addr) (n cap sk lo : Nat) (d u : Int) (f : Nat → Cel) (w : World) (hn : n ≤ 60) (hsz : ∀ i, i < n → (f i).c.size ≤ 256) (hr : CRow w b sa n f) (hk : KRow w b sa n cap sk lo d u (fun _ => 0)) :
    Calls Tryz.prog 107 #[.pointer (some ⟨b, 0, none⟩)] w fun e w' => ∃ tab : Nat → Nat, e = .returned (.tuple #[]) ∧ w.grownBy w' (some b) ∧ KRow w' b sa n cap sk lo d u tab ∧ TabAt f n tab := by
  have HR : Hid (CRow w b sa n f) := hr
  have HK : Hid (KRow w b sa n cap sk lo d u (fun _ => 0)) := hk
  have HSZ : Hid (∀ i, i < n → (f i).c.size ≤ 256) := hsz
  have k0 := hk.c0
  have hblt := hk.lt
  clear hr hk hsz
  go_enter Tryz.func107, Tryz.ntmps107
  go_wp2_with fail
  go_loopw [10] (fun i wr => ∃ (k : Nat) (tab : Nat → Nat), k ≤ n ∧ i = .int .i64 (k : Int) ∧ w.grownBy wr (some b) ∧ KRow wr b sa n cap sk lo d u tab ∧ TabAt f k tab) (fun i _ => n - (intOf i).toNat)
  case atStart => exact ⟨0, _, Nat.zero_le _, rfl, World.grownBy.refl _ _, HK.out, tab_zero f⟩
  case round =>
    obtain ⟨k, tab, hk, rfl, hgr, hrow, htab⟩ := hrel
    have HG : Hid (w.grownBy wr (some b)) := hgr
    have HW : Hid (KRow wr b sa n cap sk lo d u tab) := hrow
    have HT : Hid (TabAt f k tab) := htab
    by_cases hkl : k < n
    · obtain ⟨bb, off, rfl, hbb, hat⟩ := (cells_grown HR.out hgr hblt).atK hkl
      obtain ⟨c0, c1, c2⟩ := hat
      have hki : (k : Int) < (n : Int) := by omega
      have hk0 : (0 : Int) ≤ (k : Int) := by omega
      obtain ⟨⟨ac, al, am⟩, ha⟩ : ∃ a, f k = a := ⟨_, rfl⟩
      have hacs := HSZ.out k hkl
      rw [ha] at c0 c1 c2 hacs
      simp only at c0 c1 c2 hacs
      have TB : Hid (TabTo f k 0 tab) := tab_begin htab
      have HEN : Hid (∀ tb, TabTo f k ac.size tb → TabAt f (k + 1) tb) := fun tb h9 => tab_end (by rw [ha]; exact h9)
      have HST : Hid (∀ m tb (hm : m < ac.size), TabTo f k m tb → TabTo f k (m + 1) (fun j => if j = ac[m].toNat then tb j ||| 2 ^ (k + 1) else tb j)) := fun m tb hm h9 => by
        have h8 := tab_step h9 (by omega) (by rw [ha]; exact hm)
        simp only [ha] at h8
        exact h8
      have W2 : Hid (KRow (wr.alloc (.cells #[.string ac, .bool al, .bool am] 98)) b (some ⟨bb, off, none⟩) n cap sk lo d u tab) := HW.out.alloc _
      have G2 : Hid (w.grownBy (wr.alloc (.cells #[.string ac, .bool al, .bool am] 98)) (some b)) := HG.out.trans (World.grownBy_alloc _ _ _)
      have X2 : Hid (CBox (wr.alloc (.cells #[.string ac, .bool al, .bool am] 98)) wr.heap.size ⟨ac, al, am⟩) := CBox.new wr ⟨ac, al, am⟩ _
      have hpb : wr.heap.size ≠ b := by have := HW.out.lt; omega
      clear ha hgr hrow htab
      go_wp2_with fail
      generalize wr.alloc (.cells #[.string ac, .bool al, .bool am] 98) = v at *
      generalize wr.heap.size = p at *
      clear c0 c1 c2 HW HG HT
      go_loopw [4] (fun iv wr => ∃ (m : Nat) (tb : Nat → Nat), m ≤ ac.size ∧ iv = .int .i64 (m : Int) ∧ v.grownBy wr (some b) ∧ KRow wr b (some ⟨bb, off, none⟩) n cap sk lo d u tb ∧ TabTo f k m tb) (fun iv _ => ac.size - (intOf iv).toNat)
      case atStart => exact ⟨0, tab, Nat.zero_le _, rfl, World.grownBy.refl _ _, W2.out, TB.out⟩
      case round =>
        obtain ⟨m, tb, hm, rfl, hgr, hrow, htb⟩ := hrel
        have HG3 : Hid (v.grownBy wr (some b)) := hgr
        have HW3 : Hid (KRow wr b (some ⟨bb, off, none⟩) n cap sk lo d u tb) := hrow
        have HT3 : Hid (TabTo f k m tb) := htb
        have hpl := X2.out.lt
        have x0 : wr.cell? ⟨p, 0, none⟩ = some (.string ac) := by
          have h9 := hgr.block p hpl (fun e => hpb (by injection e))
          have h8 := X2.out.c0
          simpa [World.cell?, h9] using h8
        by_cases hml : m < ac.size
        · have hmi : (m : Int) < (ac.size : Int) := by omega
          have hm0 : (0 : Int) ≤ (m : Int) := by omega
          obtain ⟨x, hx⟩ : ∃ x, ac[m].toNat = x := ⟨_, rfl⟩
          have hx256 : x < 256 := by rw [← hx]; exact ac[m].toNat_lt
          have HT4 := HST.out m tb hml htb
          rw [hx] at HT4
          have HT5 : Hid (TabTo f k (m + 1) (fun j => if j = x then tb j ||| 2 ^ (k + 1) else tb j)) := HT4
          have cx := hrow.tb x hx256
          have fx := hrow.fr (6 + x) (by omega)
          have hlb := hrow.lt
          have hx0 : (0 : Int) ≤ (x : Int) := by omega
          have hx1 : (x : Int) < 256 := by omega
          obtain ⟨r, hr⟩ : ∃ r, k + 1 = r := ⟨_, rfl⟩
          have hri : (k : Int) + 1 = (r : Int) := by omega
          have hr0 : (0 : Int) ≤ (r : Int) := by omega
          rw [hr] at HT5
          have hpw := wrap_powP (r := r) (by omega)
          have hor : bits .or .u64 (tb x : Int) ((2 ^ r : Nat) : Int) = ((tb x ||| 2 ^ r : Nat) : Int) := or64 (htb x hx256).lt (pow_lt64 (by omega))
          have W5 : Hid (KRow (wr.setCell ⟨b, 6 + x, none⟩ (.int .u64 ((tb x ||| 2 ^ r : Nat) : Int))) b (some ⟨bb, off, none⟩) n cap sk lo d u (fun j => if j = x then tb j ||| 2 ^ r else tb j)) := by
            have h9 := HW3.out.set hx256 (tb x ||| 2 ^ r)
            refine ⟨h9.c0, h9.c1, h9.c2, h9.c3, h9.c4, fun j hj => ?_, h9.fr, h9.lt⟩
            rw [h9.tb j hj]
            by_cases e : j = x
            · subst e; simp
            · simp [e]
          generalize ((tb x ||| 2 ^ r : Nat) : Int) = z at *
          generalize ((2 ^ r : Nat) : Int) = P at *
          clear HT4 hgr hrow htb
          go_wp2_with fail
          go_region
          all_goals
            go_wp2_with fail
            go_roundw
            case rel => exact ⟨m + 1, _, by omega, by go_num, grown_drewK (only_setK HG3.out), W5.out.drew, HT5.out⟩
            case measure => simp [intOf]; omega
        · have hmi : ¬ (m : Int) < (ac.size : Int) := by omega
          obtain rfl : m = ac.size := by omega
          have HT6 : Hid (TabAt f (k + 1) tb) := HEN.out tb htb
          clear hgr hrow htb
          go_wp2_with fail
          go_roundw
          case rel => exact ⟨k + 1, tb, by omega, by go_num, G2.out.trans HG3.out, HW3.out, HT6.out⟩
          case measure => simp [intOf]; omega
    · have hki : ¬ (k : Int) < (n : Int) := by omega
      obtain rfl : k = n := by omega
      clear hgr hrow htab
      go_wp2_with fail
      go_end0
      exact ⟨rfl, HG.out, tab, HW.out, HT.out⟩
end Go.Proofs.YtfeolbgenpknfaaGreat
namespace Go.Proofs.YtfeolbgenpknfaaGreat
open Go.RowKit

theorem mkDisable (w : World) : (callFunc 122 #[]).run Tryz.prog w = .ok (.value (.tuple #[])) w := run_call_mark0 Tryz.func122 (by kernel_rfl) (by kernel_rfl) (by kernel_rfl) .disable (by kernel_rfl) w
theorem mkEnable (w : World) : (callFunc 124 #[]).run Tryz.prog w = .ok (.value (.tuple #[])) w := run_call_mark0 Tryz.func124 (by kernel_rfl) (by kernel_rfl) (by kernel_rfl) .enable (by kernel_rfl) w
theorem mkAcquire (a : Addr) (w : World) : (callFunc 125 #[.pointer (some a)]).run Tryz.prog w = .ok (.value (.tuple #[])) w := run_call_marked Tryz.func125 (by kernel_rfl) (by kernel_rfl) (by kernel_rfl) .acquire (by kernel_rfl) a w
theorem mkRelease (a : Addr) (w : World) : (callFunc 127 #[.pointer (some a)]).run Tryz.prog w = .ok (.value (.tuple #[])) w := run_call_marked Tryz.func127 (by kernel_rfl) (by kernel_rfl) (by kernel_rfl) .releaseMerge (by kernel_rfl) a w
theorem store_deferred (a : Addr) (x : Value) (u : FrameMode) (w : World) (hc : w.cell? a = some x) (hz : w.frozen? a = false) :
    CallsD Tryz.prog 111 #[.pointer (some a), .bool true] u w fun e u' w' => u' = u ∧ (e = .returned (.tuple #[]) ∧ w' = w.drew.setCell a (.int .u32 1)) := by
  have hc' : w.drew.cell? a = some x := by go_simp
  have hz' : w.drew.frozen? a = false := by go_simp
  have hst := run_call_store (P := Tryz.prog) Tryz.func116 (by kernel_rfl) (by kernel_rfl) (by kernel_rfl) (by kernel_rfl) (k := .u32) (y := 1) hc' hz'
  go_enter_d Tryz.func111, Tryz.ntmps111
  go_wp2
  go_region_calls
  all_goals (go_end0; exact ⟨rfl, rfl⟩)
set_option maxRecDepth 100000 in
set_option maxHeartbeats 1600000 in
theorem unlock_deferred (a : Addr) (u : FrameMode) (w : World) (hc : w.cell? a = some (.int .i32 1)) (hz : w.frozen? a = false) :
    CallsD Tryz.prog 110 #[.pointer (some a)] u w fun e u' w' => u' = u ∧ (e = .returned (.tuple #[]) ∧ w' = w.setCell a (.int .i32 0)) := by
  have hd := mkDisable
  have he := mkEnable
  have hr := mkRelease
  have hadd := run_call_add (P := Tryz.prog) Tryz.func128 (by kernel_rfl) (by kernel_rfl) (by kernel_rfl) .i32 (by kernel_rfl) (y := -1) (s := 0) hc hz (by simp [go_sem]; rfl)
  have hcv := run_convert_to_unsafe (P := Tryz.prog) (src := 159) (dst := 163) Tryz.underlying159 Tryz.underlying163 (by kernel_rfl) hc
  go_enter_d Tryz.func110, Tryz.ntmps110
  go_wp2
  go_end0
  go_wp2
  go_end0
  exact ⟨rfl, rfl⟩
set_option maxRecDepth 100000 in
set_option maxHeartbeats 1600000 in
theorem lock_free (a : Addr) (w : World) (hc : w.cell? a = some (.int .i32 0)) (hz : w.frozen? a = false) :
    Calls Tryz.prog 109 #[.pointer (some a)] w fun e w' => e = .returned (.tuple #[]) ∧ w' = w.setCell a (.int .i32 1) := by
  have hd := mkDisable
  have he := mkEnable
  have ha := mkAcquire
  have hcas := run_call_cas_hit (P := Tryz.prog) Tryz.func123 (by kernel_rfl) (by kernel_rfl) (by kernel_rfl) .i32 (by kernel_rfl) (y := 1) hc hz
  have hc' : (w.setCell a (.int .i32 1)).cell? a = some (.int .i32 1) := World.cell?_setCell_same w a _ hc
  have hcv := run_convert_to_unsafe (P := Tryz.prog) (src := 159) (dst := 163) Tryz.underlying159 Tryz.underlying163 (by kernel_rfl) hc'
  go_enter Tryz.func109, Tryz.ntmps109
  go_wp2
  first | go_end0 | (simp only [Exit.inBlock, Exit.then]; refine bodyPost_ret (results_none rfl _ _ _) rfl ?_) | refine bodyPost_ret (results_none rfl _ _ _) rfl ?_
  go_wp2
  go_end0
  exact ⟨rfl, rfl⟩
theorem do_done (a : Addr) (fv : Value) (w : World) (h0 : w.cell? a = some (.int .u32 1)) :
    Calls Tryz.prog 81 #[.pointer (some a), fv] w fun e w' => e = .returned (.tuple #[]) ∧ w' = w := by
  have hl := run_call_load (P := Tryz.prog) Tryz.func108 (by kernel_rfl) (by kernel_rfl) (by kernel_rfl) .u32 (by kernel_rfl) h0
  have hnot : ∀ (x : Bool) (w : World), (Op.unary .not (.bool x)).run Tryz.prog w = .ok (.bool (!x)) w := fun _ _ => rfl
  have hd' : ((1 : Int) != 0) = true := by simp
  go_enter Tryz.func81, Tryz.ntmps81
  go_wp2
  go_end0
  exact ⟨rfl, rfl⟩
end Go.Proofs.YtfeolbgenpknfaaGreat
namespace Go.Proofs.YtfeolbgenpknfaaGreat
open Go.RowKit

/-- A row that is ready: its table is not made yet, or it is made. -/
def Ready (W : World) (b : Nat) (sa : Option Addr) (n cap sk lo : Nat) (f : Nat → Cel) : Prop := KRow W b sa n cap sk lo 0 0 (fun _ => 0) ∨ ∃ tab, KRow W b sa n cap sk lo 1 0 tab ∧ TabAt f n tab
theorem Ready.cells {W : World} {b : Nat} {sa : Option Addr} {n cap sk lo : Nat} {f : Nat → Cel} (h : Ready W b sa n cap sk lo f) : W.cell? ⟨b, 1, none⟩ = some (.int .u64 (sk : Int)) ∧ W.cell? ⟨b, 2, none⟩ = some (.int .u64 (lo : Int)) ∧ b < W.heap.size := by
  rcases h with h | ⟨tab, h, _⟩
  · exact ⟨h.c1, h.c2, h.lt⟩
  · exact ⟨h.c1, h.c2, h.lt⟩
theorem Ready.kept {W W' : World} {B b : Nat} {sa : Option Addr} {n cap sk lo : Nat} {f : Nat → Cel} (h : Ready W b sa n cap sk lo f) (hb : Below B W W') (hB : b < B) : Ready W' b sa n cap sk lo f := by
  rcases h with h | ⟨tab, h, h2⟩
  · exact Or.inl (h.kept hb hB)
  · exact Or.inr ⟨tab, h.kept hb hB, h2⟩
end Go.Proofs.YtfeolbgenpknfaaGreat
namespace Go.Proofs.YtfeolbgenpknfaaGreat
open Go.RowKit

theorem KRow.done {W : World} {b : Nat} {sa : Option Addr} {n cap sk lo : Nat} {d u : Int} {tab : Nat → Nat} (h : KRow W b sa n cap sk lo d u tab) (x : Int) : KRow (W.setCell ⟨b, 3, none⟩ (.int .u32 x)) b sa n cap sk lo x u tab := by
  have hne : ∀ {i : Nat}, i ≠ 3 → (⟨b, 3, none⟩ : Addr) ≠ ⟨b, i, none⟩ := fun hi hh => hi (by injection hh with _ h2; exact h2.symm)
  refine ⟨?_, ?_, ?_, World.cell?_setCell_same _ _ _ h.c3, ?_, fun j hj => ?_, fun j hj => by rw [World.frozen?_setCell]; exact h.fr j hj, by simpa [World.setCell] using h.lt⟩
  · rw [World.cell?_setCell_other _ _ _ _ (hne (by omega))]; exact h.c0
  · rw [World.cell?_setCell_other _ _ _ _ (hne (by omega))]; exact h.c1
  · rw [World.cell?_setCell_other _ _ _ _ (hne (by omega))]; exact h.c2
  · rw [World.cell?_setCell_other _ _ _ _ (hne (by omega))]; exact h.c4
  · rw [World.cell?_setCell_other _ _ _ _ (hne (by omega))]; exact h.tb j hj
theorem KRow.lock {W : World} {b : Nat} {sa : Option Addr} {n cap sk lo : Nat} {d u : Int} {tab : Nat → Nat} (h : KRow W b sa n cap sk lo d u tab) (x : Int) : KRow (W.setCell ⟨b, 4, none⟩ (.int .i32 x)) b sa n cap sk lo d x tab := by
  have hne : ∀ {i : Nat}, i ≠ 4 → (⟨b, 4, none⟩ : Addr) ≠ ⟨b, i, none⟩ := fun hi hh => hi (by injection hh with _ h2; exact h2.symm)
  refine ⟨?_, ?_, ?_, ?_, World.cell?_setCell_same _ _ _ h.c4, fun j hj => ?_, fun j hj => by rw [World.frozen?_setCell]; exact h.fr j hj, by simpa [World.setCell] using h.lt⟩
  · rw [World.cell?_setCell_other _ _ _ _ (hne (by omega))]; exact h.c0
  · rw [World.cell?_setCell_other _ _ _ _ (hne (by omega))]; exact h.c1
  · rw [World.cell?_setCell_other _ _ _ _ (hne (by omega))]; exact h.c2
  · rw [World.cell?_setCell_other _ _ _ _ (hne (by omega))]; exact h.c3
  · rw [World.cell?_setCell_other _ _ _ _ (hne (by omega))]; exact h.tb j hj
set_option maxRecDepth 100000 in
set_option maxHeartbeats 4000000 in
theorem slow_any (b : Nat) (sa : Option Addr) (n cap sk lo : Nat) (f : Nat → Cel) (w : World) (hn : n ≤ 60) (hsz : ∀ i, i < n → (f i).c.size ≤ 256) (hr : CRow w b sa n f) (hk : KRow w b sa n cap sk lo 0 0 (fun _ => 0)) :
    Calls Tryz.prog 102 #[.pointer (some ⟨b, 3, none⟩), .func (.func 107) #[.pointer (some ⟨b, 0, none⟩)] #[]] w fun e w' => ∃ tab : Nat → Nat, e = .returned (.tuple #[]) ∧ w.grownBy w' (some b) ∧ KRow w' b sa n cap sk lo 1 0 tab ∧ TabAt f n tab := by
  have k1 := hk.lock 1
  have g1 : w.grownBy (w.setCell ⟨b, 4, none⟩ (.int .i32 1)) (some b) := only_setK (World.grownBy.refl _ _)
  have r1 := cells_grown hr g1 hk.lt
  have hl := run_call_load (P := Tryz.prog) Tryz.func108 (by kernel_rfl) (by kernel_rfl) (by kernel_rfl) .u32 (by kernel_rfl) (w := w.setCell ⟨b, 4, none⟩ (.int .i32 1)) (a := ⟨b, 3, none⟩) (x := 0) k1.c3
  have hnot : ∀ (x : Bool) (w : World), (Op.unary .not (.bool x)).run Tryz.prog w = .ok (.bool (!x)) w := fun _ _ => rfl
  have FC := fill_any b sa n cap sk lo 0 1 f (w.setCell ⟨b, 4, none⟩ (.int .i32 1)) hn hsz r1 k1
  have c4 := hk.c4
  have f4 := hk.fr 4 (by omega)
  have HK : Hid (KRow w b sa n cap sk lo 0 0 (fun _ => 0)) := hk
  have G1 : Hid (w.grownBy (w.setCell ⟨b, 4, none⟩ (.int .i32 1)) (some b)) := g1
  clear k1 r1 hr hk hsz g1
  go_enter_defers Tryz.func102, Tryz.ntmps102
  go_wp2_with (first | (go_at_call 109; refine (lock_free ⟨b, 4, none⟩ _ (by first | exact c4 | go_simp) (by first | exact f4 | go_simp)).mono ?_; rintro e w' ⟨rfl, rfl⟩) | (go_at_call 101; go_in))
  refine FC.mono ?_
  rintro e w1 ⟨tab, rfl, hg, hk1, htab⟩
  have G2 : Hid (w.grownBy w1 (some b)) := G1.out.trans hg
  have HT : Hid (TabAt f n tab) := htab
  have HK1 : Hid (KRow w1 b sa n cap sk lo 0 1 tab) := hk1
  clear hg hk1 htab FC hl
  go_wp2_with fail
  refine leaves_cons (f := 111) (args := #[.pointer (some ⟨b, 3, none⟩), .bool true]) (by simp) (by simp [go_sem]) ?_
  refine (store_deferred ⟨b, 3, none⟩ (.int .u32 0) .returning _ HK1.out.c3 (HK1.out.fr 3 (by omega))).mono ?_
  rintro e u' w2 ⟨rfl, rfl, rfl⟩
  have HK2 := HK1.out.drew.done 1
  have G3 : Hid (w.grownBy (w1.drew.setCell ⟨b, 3, none⟩ (.int .u32 1)) (some b)) := only_setK (grown_drewK G2.out)
  refine leaves_cons (f := 110) (args := #[.pointer (some ⟨b, 4, none⟩)]) (by simp [settle]) (by simp [go_sem]) ?_
  refine (unlock_deferred ⟨b, 4, none⟩ _ _ HK2.c4 (HK2.fr 4 (by omega))).mono ?_
  rintro e u' w3 ⟨rfl, rfl, rfl⟩
  have FIN : ∃ tab : Nat → Nat, Ending.returned (.tuple #[]) = .returned (.tuple #[]) ∧ w.grownBy ((w1.drew.setCell ⟨b, 3, none⟩ (.int .u32 1)).setCell ⟨b, 4, none⟩ (.int .i32 0)) (some b) ∧ KRow ((w1.drew.setCell ⟨b, 3, none⟩ (.int .u32 1)).setCell ⟨b, 4, none⟩ (.int .i32 0)) b sa n cap sk lo 1 0 tab ∧ TabAt f n tab := ⟨tab, rfl, only_setK G3.out, HK2.lock 0, HT.out⟩
  simp [Leaves, settle, results, Tryz.results102]
  simpa using FIN
set_option maxRecDepth 100000 in
set_option maxHeartbeats 1600000 in
theorem do_first (b : Nat) (sa : Option Addr) (n cap sk lo : Nat) (f : Nat → Cel) (w : World) (hn : n ≤ 60) (hsz : ∀ i, i < n → (f i).c.size ≤ 256) (hr : CRow w b sa n f) (hk : KRow w b sa n cap sk lo 0 0 (fun _ => 0)) :
    Calls Tryz.prog 81 #[.pointer (some ⟨b, 3, none⟩), .func (.func 107) #[.pointer (some ⟨b, 0, none⟩)] #[]] w fun e w' => ∃ tab : Nat → Nat, e = .returned (.tuple #[]) ∧ w.grownBy w' (some b) ∧ KRow w' b sa n cap sk lo 1 0 tab ∧ TabAt f n tab := by
  have hl := run_call_load (P := Tryz.prog) Tryz.func108 (by kernel_rfl) (by kernel_rfl) (by kernel_rfl) .u32 (by kernel_rfl) hk.c3
  have hnot : ∀ (x : Bool) (w : World), (Op.unary .not (.bool x)).run Tryz.prog w = .ok (.bool (!x)) w := fun _ _ => rfl
  have SL := slow_any b sa n cap sk lo f w hn hsz hr hk
  clear hr hk hsz
  go_enter Tryz.func81, Tryz.ntmps81
  go_wp2_with (first | (go_at_call 101; go_in))
  refine SL.mono ?_
  rintro e w1 ⟨tab, rfl, hg, hk1, htab⟩
  have HH : Hid (w.grownBy w1 (some b) ∧ KRow w1 b sa n cap sk lo 1 0 tab ∧ TabAt f n tab) := ⟨hg, hk1, htab⟩
  clear hg hk1 htab SL hl
  go_wp2_with fail
  go_end0
  first | exact ⟨rfl, HH.out.1, tab, HH.out.2⟩ | exact ⟨tab, rfl, HH.out⟩
set_option maxRecDepth 100000 in
set_option maxHeartbeats 1600000 in
theorem having_any (b : Nat) (sa : Option Addr) (n cap sk lo c : Nat) (f : Nat → Cel) (w : World) (hn : n ≤ 60) (hc : c < 256) (hsz : ∀ i, i < n → (f i).c.size ≤ 256) (hr : CRow w b sa n f) (hk : Ready w b sa n cap sk lo f) :
    Calls Tryz.prog 100 #[.pointer (some ⟨b, 0, none⟩), .int .u8 (c : Int)] w fun e w' => ∃ x : Nat, e = .returned (.int .u64 (x : Int)) ∧ IsBits x (behind (fun i => hasByte (f i).c c) n) ∧ Ready w' b sa n cap sk lo f ∧ w.grownBy w' (some b) := by
  have hmf : ∀ (fn : Fn) (first cap : Array Value) (w : World), (Instr.makeFunc fn first cap).run Tryz.prog w = .ok (.func fn first cap) w := fun _ _ _ _ => rfl
  have hc0 : (0 : Int) ≤ (c : Int) := by omega
  have hc1 : (c : Int) < 256 := by omega
  rcases hk with hk | ⟨tab, hk, ht⟩
  · have DO := do_first b sa n cap sk lo f w hn hsz hr hk
    have hlt := hk.lt
    clear hr hk hsz
    go_enter Tryz.func100, Tryz.ntmps100
    go_wp2_with fail
    refine DO.mono ?_
    rintro e w1 ⟨tab, rfl, hg, hk1, htab⟩
    have HH : Hid (IsBits (tab c) (behind (fun i => hasByte (f i).c c) n) ∧ Ready w1 b sa n cap sk lo f ∧ w.grownBy w1 (some b)) := ⟨htab c hc, Or.inr ⟨tab, hk1, htab⟩, hg⟩
    have cx := hk1.tb c hc
    have hlt1 := hk1.lt
    clear DO hg hk1 htab
    go_wp2_with fail
    go_ret
    exact ⟨tab c, rfl, HH.out⟩
  · have DO := do_done ⟨b, 3, none⟩ (.func (.func 107) #[.pointer (some ⟨b, 0, none⟩)] #[]) w hk.c3
    have hlt := hk.lt
    have cx := hk.tb c hc
    have HH : Hid (IsBits (tab c) (behind (fun i => hasByte (f i).c c) n) ∧ Ready w b sa n cap sk lo f) := ⟨ht c hc, Or.inr ⟨tab, hk, ht⟩⟩
    clear hr hk hsz ht
    go_enter Tryz.func100, Tryz.ntmps100
    go_wp2_with fail
    refine DO.mono ?_
    rintro e w1 ⟨rfl, hw⟩
    rw [hw]
    clear DO hw w1
    go_wp2_with fail
    go_ret
    exact ⟨tab c, rfl, HH.out.1, HH.out.2, World.grownBy.refl _ _⟩
end Go.Proofs.YtfeolbgenpknfaaGreat
