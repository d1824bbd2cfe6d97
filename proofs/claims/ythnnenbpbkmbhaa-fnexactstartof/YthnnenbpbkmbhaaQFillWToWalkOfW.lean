/- What is proved here: the program writes down for each byte the places behind the cells that have it, in the row's own block; nothing else that was there turns.
   What is proved here: the parts of sync.Once's slow road at a free lock, one goroutine; a row's table is filled by it just once.
   What is proved here: the program makes a walk that stands where each begins, tells where it stands, and tells where each begins; nothing that was there turns. -/
import Derived.Test.YthnnenbpbkmbhaaQRowOfW
import Derived.RegionTactic
import Derived.BigRegion
import Derived.Defers
import Derived.Laws.Pointers
import Derived.Laws.LoneSync
import Derived.RegionCalls
import Derived.Test.YthnnenbpbkmbhaaQPlacesWToMRowOfW
import Derived.Deep.RegionHeld3
namespace Go.Proofs.Ythnnenbpbkmbhaa
open Go.RowKit

theorem only_setK {a w : World} {b i : Nat} {v : Value} (h : a.grownBy w (some b)) : a.grownBy (w.setCell ⟨b, i, none⟩ v) (some b) :=
  h.trans ⟨rfl, rfl, rfl, by simp [World.setCell], fun k _ hk => Below.heap_setCell _ _ _ _ (fun e => hk (by simp [e]))⟩
theorem grown_drewK {a w : World} {b : Nat} (h : a.grownBy w (some b)) : a.grownBy w.drew (some b) := ⟨h.os, h.tape, h.output, h.size, h.block⟩
theorem KRow.drew {W : World} {b : Nat} {sa : Option Addr} {n cap sk lo : Nat} {d u : Int} {tab : Nat → Nat} (h : KRow W b sa n cap sk lo d u tab) : KRow W.drew b sa n cap sk lo d u tab := ⟨h.c0, h.c1, h.c2, h.c3, h.c4, h.tb, h.fr, h.lt⟩
theorem KRow.set {W : World} {b : Nat} {sa : Option Addr} {n cap sk lo : Nat} {d u : Int} {tab : Nat → Nat} (h : KRow W b sa n cap sk lo d u tab) {x : Nat} (hx : x < 256) (v : Nat) : KRow (W.setCell ⟨b, 6 + x, none⟩ (.int .u64 (v : Int))) b sa n cap sk lo d u (fun j => if j = x then v else tab j) := by
  have hne : ∀ {i : Nat}, i ≠ 6 + x → (⟨b, 6 + x, none⟩ : Addr) ≠ ⟨b, i, none⟩ := fun hi hh => hi (by injection hh with _ h2; exact h2.symm)
  refine ⟨?_, ?_, ?_, ?_, ?_, fun j hj => ?_, fun j hj => by rw [World.frozen?_setCell]; exact h.fr j hj, by simpa [World.setCell] using h.lt⟩
  · rw [World.cell?_setCell_other _ _ _ _ (hne (by omega))]; exact h.c0
  · rw [World.cell?_setCell_other _ _ _ _ (hne (by omega))]; exact h.c1
  · rw [World.cell?_setCell_other _ _ _ _ (hne (by omega))]; exact h.c2
  · rw [World.cell?_setCell_other _ _ _ _ (hne (by omega))]; exact h.c3
  · rw [World.cell?_setCell_other _ _ _ _ (hne (by omega))]; exact h.c4
  · by_cases e : j = x
    · subst e
      rw [World.cell?_setCell_same _ _ _ (h.tb j hj)]
      simp
    · rw [World.cell?_setCell_other _ _ _ _ (hne (by omega)), h.tb j hj]
      simp [e]
/-- The table of a row that is filled for the first k cells, and for the first m bytes of the next one. -/
def TabTo (f : Nat → Cel) (k m : Nat) (tab : Nat → Nat) : Prop := ∀ c, c < 256 → IsBits (tab c) (fun j => behind (fun i => hasByte (f i).c c) k j || (decide (k + 1 = j) && hasUpTo (f k).c m c))
def TabAt (f : Nat → Cel) (k : Nat) (tab : Nat → Nat) : Prop := ∀ c, c < 256 → IsBits (tab c) (behind (fun i => hasByte (f i).c c) k)
theorem tab_zero (f : Nat → Cel) : TabAt f 0 (fun _ => 0) := fun _ _ => behind_zero _
theorem tab_begin {f : Nat → Cel} {k : Nat} {tab : Nat → Nat} (h : TabAt f k tab) : TabTo f k 0 tab := fun c hc => (h c hc).congr (fun j => by rw [hasUpTo_zero, Bool.and_false, Bool.or_false])
theorem tab_end {f : Nat → Cel} {k : Nat} {tab : Nat → Nat} (h : TabTo f k (f k).c.size tab) : TabAt f (k + 1) tab := fun c hc => (h c hc).congr (fun j => by
  rw [hasUpTo_all]
  unfold behind
  by_cases e : k + 1 = j
  · subst e
    simp
  · rw [decide_eq_false e, Bool.false_and, Bool.or_false]
    by_cases e2 : 1 ≤ j ∧ j ≤ k
    · rw [decide_eq_true e2, decide_eq_true (show 1 ≤ j ∧ j ≤ k + 1 by omega)]
    · rw [decide_eq_false e2, decide_eq_false (show ¬ (1 ≤ j ∧ j ≤ k + 1) by omega)])
theorem tab_step {f : Nat → Cel} {k m : Nat} {tab : Nat → Nat} (h : TabTo f k m tab) (hk : k < 63) (hm : m < (f k).c.size) : TabTo f k (m + 1) (fun j => if j = (f k).c[m].toNat then tab j ||| 2 ^ (k + 1) else tab j) := fun c hc => by
  show IsBits (if c = (f k).c[m].toNat then tab c ||| 2 ^ (k + 1) else tab c) _
  by_cases e : c = (f k).c[m].toNat
  · rw [if_pos e]
    refine ((h c hc).or (bits_pow (by omega))).congr (fun j => ?_)
    rw [hasUpTo_succ _ _ _ hm]
    have : ((f k).c[m].toNat == c) = true := by rw [e]; simp
    rw [this]
    by_cases e2 : k + 1 = j
    · subst e2; simp
    · simp [e2]
  · rw [if_neg e]
    refine (h c hc).congr (fun j => ?_)
    rw [hasUpTo_succ _ _ _ hm]
    have : ((f k).c[m].toNat == c) = false := by simp; exact fun h => e h.symm
    rw [this, Bool.or_false]
theorem cells_grown {w W : World} {b n : Nat} {sa : Option Addr} {f : Nat → Cel} (h : CRow w b sa n f) (hg : w.grownBy W (some b)) (hb : b < w.heap.size) : CRow W b sa n f :=
  h.kept ⟨hg.os, hg.tape, hg.output, hg.size, fun j hj => hg.block j (by omega) (fun e => by injection e with e; omega)⟩
theorem KRow.alloc {W : World} {b : Nat} {sa : Option Addr} {n cap sk lo : Nat} {d u : Int} {tab : Nat → Nat} (h : KRow W b sa n cap sk lo d u tab) (o : Obj) : KRow (W.alloc o) b sa n cap sk lo d u tab := h.kept (B := W.heap.size) ((Below.refl _ _).alloc (Nat.le_refl _) _) h.lt
theorem CRow.atK {w : World} {B n k : Nat} {sa : Option Addr} {f : Nat → Cel} (h : CRow w B sa n f) (hk : k < n) : ∃ bb off : Nat, sa = some ⟨bb, off, none⟩ ∧ bb < B ∧ CellAt w bb (off + k * 3) (f k) := by
  rcases h with h | ⟨bb, off, h1, h2, h3⟩
  · omega
  · exact ⟨bb, off, h1, h2, h3 k hk⟩
set_option maxRecDepth 100000 in
set_option maxHeartbeats 4000000 in
theorem fill_any (b : Nat) (sa : Option Addr) (n cap sk lo : Nat) (d u : Int) (f : Nat → Cel) (w : World) (hn : n ≤ 60) (hsz : ∀ i, i < n → (f i).c.size ≤ 256) (hr : CRow w b sa n f) (hk : KRow w b sa n cap sk lo d u (fun _ => 0)) :
    Calls Try.prog 187 #[.pointer (some ⟨b, 0, none⟩)] w fun e w' => ∃ tab : Nat → Nat, e = .returned (.tuple #[]) ∧ w.grownBy w' (some b) ∧ KRow w' b sa n cap sk lo d u tab ∧ TabAt f n tab := by
  have HR : Hid (CRow w b sa n f) := hr
  have HK : Hid (KRow w b sa n cap sk lo d u (fun _ => 0)) := hk
  have HSZ : Hid (∀ i, i < n → (f i).c.size ≤ 256) := hsz
  have k0 := hk.c0
  have hblt := hk.lt
  clear hr hk hsz
  go_enter Try.func187, Try.ntmps187
  go_wp2_with fail
  go_loopw [10] (fun i wr => ∃ (k : Nat) (tab : Nat → Nat), k ≤ n ∧ i = .int .i64 (k : Int) ∧ w.grownBy wr (some b) ∧ KRow wr b sa n cap sk lo d u tab ∧ TabAt f k tab) (fun i _ => n - (intOf i).toNat)
  case atStart => exact ⟨0, _, Nat.zero_le _, rfl, World.grownBy.refl _ _, HK.out, tab_zero f⟩
  case round =>
    obtain ⟨k, tab, hk, rfl, hgr, hrow, htab⟩ := hrel
    have HG : Hid (w.grownBy wr (some b)) := hgr
    have HW : Hid (KRow wr b sa n cap sk lo d u tab) := hrow
    have HT : Hid (TabAt f k tab) := htab
    by_cases hkl : k < n
    · obtain ⟨bb, off, rfl, hbb, hat⟩ := (cells_grown HR.out hgr hblt).atK hkl
      obtain ⟨c0, c1, c2⟩ := hat
      have hki : (k : Int) < (n : Int) := by omega
      have hk0 : (0 : Int) ≤ (k : Int) := by omega
      obtain ⟨⟨ac, al, am⟩, ha⟩ : ∃ a, f k = a := ⟨_, rfl⟩
      have hacs := HSZ.out k hkl
      rw [ha] at c0 c1 c2 hacs
      simp only at c0 c1 c2 hacs
      have TB : Hid (TabTo f k 0 tab) := tab_begin htab
      have HEN : Hid (∀ tb, TabTo f k ac.size tb → TabAt f (k + 1) tb) := fun tb h9 => tab_end (by rw [ha]; exact h9)
      have HST : Hid (∀ m tb (hm : m < ac.size), TabTo f k m tb → TabTo f k (m + 1) (fun j => if j = ac[m].toNat then tb j ||| 2 ^ (k + 1) else tb j)) := fun m tb hm h9 => by
        have h8 := tab_step h9 (by omega) (by rw [ha]; exact hm)
        simp only [ha] at h8
        exact h8
      have W2 : Hid (KRow (wr.alloc (.cells #[.string ac, .bool al, .bool am] 99)) b (some ⟨bb, off, none⟩) n cap sk lo d u tab) := HW.out.alloc _
      have G2 : Hid (w.grownBy (wr.alloc (.cells #[.string ac, .bool al, .bool am] 99)) (some b)) := HG.out.trans (World.grownBy_alloc _ _ _)
      have X2 : Hid (CBox (wr.alloc (.cells #[.string ac, .bool al, .bool am] 99)) wr.heap.size ⟨ac, al, am⟩) := CBox.new wr ⟨ac, al, am⟩ _
      have hpb : wr.heap.size ≠ b := by have := HW.out.lt; omega
      clear ha hgr hrow htab
      go_wp2_with fail
      generalize wr.alloc (.cells #[.string ac, .bool al, .bool am] 99) = v at *
      generalize wr.heap.size = p at *
      clear c0 c1 c2 HW HG HT
      go_loopw [4] (fun iv wr => ∃ (m : Nat) (tb : Nat → Nat), m ≤ ac.size ∧ iv = .int .i64 (m : Int) ∧ v.grownBy wr (some b) ∧ KRow wr b (some ⟨bb, off, none⟩) n cap sk lo d u tb ∧ TabTo f k m tb) (fun iv _ => ac.size - (intOf iv).toNat)
      case atStart => exact ⟨0, tab, Nat.zero_le _, rfl, World.grownBy.refl _ _, W2.out, TB.out⟩
      case round =>
        obtain ⟨m, tb, hm, rfl, hgr, hrow, htb⟩ := hrel
        have HG3 : Hid (v.grownBy wr (some b)) := hgr
        have HW3 : Hid (KRow wr b (some ⟨bb, off, none⟩) n cap sk lo d u tb) := hrow
        have HT3 : Hid (TabTo f k m tb) := htb
        have hpl := X2.out.lt
        have x0 : wr.cell? ⟨p, 0, none⟩ = some (.string ac) := by
          have h9 := hgr.block p hpl (fun e => hpb (by injection e))
          have h8 := X2.out.c0
          simpa [World.cell?, h9] using h8
        by_cases hml : m < ac.size
        · have hmi : (m : Int) < (ac.size : Int) := by omega
          have hm0 : (0 : Int) ≤ (m : Int) := by omega
          obtain ⟨x, hx⟩ : ∃ x, ac[m].toNat = x := ⟨_, rfl⟩
          have hx256 : x < 256 := by rw [← hx]; exact ac[m].toNat_lt
          have HT4 := HST.out m tb hml htb
          rw [hx] at HT4
          have HT5 : Hid (TabTo f k (m + 1) (fun j => if j = x then tb j ||| 2 ^ (k + 1) else tb j)) := HT4
          have cx := hrow.tb x hx256
          have fx := hrow.fr (6 + x) (by omega)
          have hlb := hrow.lt
          have hx0 : (0 : Int) ≤ (x : Int) := by omega
          have hx1 : (x : Int) < 256 := by omega
          obtain ⟨r, hr⟩ : ∃ r, k + 1 = r := ⟨_, rfl⟩
          have hri : (k : Int) + 1 = (r : Int) := by omega
          have hr0 : (0 : Int) ≤ (r : Int) := by omega
          rw [hr] at HT5
          have hpw := wrap_powP (r := r) (by omega)
          have hor : bits .or .u64 (tb x : Int) ((2 ^ r : Nat) : Int) = ((tb x ||| 2 ^ r : Nat) : Int) := or64 (htb x hx256).lt (pow_lt64 (by omega))
          have W5 : Hid (KRow (wr.setCell ⟨b, 6 + x, none⟩ (.int .u64 ((tb x ||| 2 ^ r : Nat) : Int))) b (some ⟨bb, off, none⟩) n cap sk lo d u (fun j => if j = x then tb j ||| 2 ^ r else tb j)) := by
            have h9 := HW3.out.set hx256 (tb x ||| 2 ^ r)
            refine ⟨h9.c0, h9.c1, h9.c2, h9.c3, h9.c4, fun j hj => ?_, h9.fr, h9.lt⟩
            rw [h9.tb j hj]
            by_cases e : j = x
            · subst e; simp
            · simp [e]
          generalize ((tb x ||| 2 ^ r : Nat) : Int) = z at *
          generalize ((2 ^ r : Nat) : Int) = P at *
          clear HT4 hgr hrow htb
          go_wp2_with fail
          go_region
          all_goals
            go_wp2_with fail
            go_roundw
            case rel => exact ⟨m + 1, _, by omega, by go_num, grown_drewK (only_setK HG3.out), W5.out.drew, HT5.out⟩
            case measure => simp [intOf]; omega
        · have hmi : ¬ (m : Int) < (ac.size : Int) := by omega
          obtain rfl : m = ac.size := by omega
          have HT6 : Hid (TabAt f (k + 1) tb) := HEN.out tb htb
          clear hgr hrow htb
          go_wp2_with fail
          go_roundw
          case rel => exact ⟨k + 1, tb, by omega, by go_num, G2.out.trans HG3.out, HW3.out, HT6.out⟩
          case measure => simp [intOf]; omega
    · have hki : ¬ (k : Int) < (n : Int) := by omega
      obtain rfl : k = n := by omega
      clear hgr hrow htab
      go_wp2_with fail
      go_end0
      exact ⟨rfl, HG.out, tab, HW.out, HT.out⟩
end Go.Proofs.Ythnnenbpbkmbhaa
namespace Go.Proofs.Ythnnenbpbkmbhaa
open Go.RowKit

theorem mkDisable (w : World) : (callFunc 213 #[]).run Try.prog w = .ok (.value (.tuple #[])) w := run_call_mark0 Try.func213 (by kernel_rfl) (by kernel_rfl) (by kernel_rfl) .disable (by kernel_rfl) w
theorem mkEnable (w : World) : (callFunc 215 #[]).run Try.prog w = .ok (.value (.tuple #[])) w := run_call_mark0 Try.func215 (by kernel_rfl) (by kernel_rfl) (by kernel_rfl) .enable (by kernel_rfl) w
theorem mkAcquire (a : Addr) (w : World) : (callFunc 216 #[.pointer (some a)]).run Try.prog w = .ok (.value (.tuple #[])) w := run_call_marked Try.func216 (by kernel_rfl) (by kernel_rfl) (by kernel_rfl) .acquire (by kernel_rfl) a w
theorem mkRelease (a : Addr) (w : World) : (callFunc 218 #[.pointer (some a)]).run Try.prog w = .ok (.value (.tuple #[])) w := run_call_marked Try.func218 (by kernel_rfl) (by kernel_rfl) (by kernel_rfl) .releaseMerge (by kernel_rfl) a w
theorem store_deferred (a : Addr) (x : Value) (u : FrameMode) (w : World) (hc : w.cell? a = some x) (hz : w.frozen? a = false) :
    CallsD Try.prog 204 #[.pointer (some a), .bool true] u w fun e u' w' => u' = u ∧ (e = .returned (.tuple #[]) ∧ w' = w.drew.setCell a (.int .u32 1)) := by
  have hc' : w.drew.cell? a = some x := by go_simp
  have hz' : w.drew.frozen? a = false := by go_simp
  have hst := run_call_store (P := Try.prog) Try.func210 (by kernel_rfl) (by kernel_rfl) (by kernel_rfl) (by kernel_rfl) (k := .u32) (y := 1) hc' hz'
  go_enter_d Try.func204, Try.ntmps204
  go_wp2
  go_region_calls
  all_goals (go_end0; exact ⟨rfl, rfl⟩)
set_option maxRecDepth 100000 in
set_option maxHeartbeats 1600000 in
theorem unlock_deferred (a : Addr) (u : FrameMode) (w : World) (hc : w.cell? a = some (.int .i32 1)) (hz : w.frozen? a = false) :
    CallsD Try.prog 203 #[.pointer (some a)] u w fun e u' w' => u' = u ∧ (e = .returned (.tuple #[]) ∧ w' = w.setCell a (.int .i32 0)) := by
  have hd := mkDisable
  have he := mkEnable
  have hr := mkRelease
  have hadd := run_call_add (P := Try.prog) Try.func219 (by kernel_rfl) (by kernel_rfl) (by kernel_rfl) .i32 (by kernel_rfl) (y := -1) (s := 0) hc hz (by simp [go_sem]; rfl)
  have hcv := run_convert_to_unsafe (P := Try.prog) (src := 231) (dst := 235) Try.underlying231 Try.underlying235 (by kernel_rfl) hc
  go_enter_d Try.func203, Try.ntmps203
  go_wp2
  go_end0
  go_wp2
  go_end0
  exact ⟨rfl, rfl⟩
set_option maxRecDepth 100000 in
set_option maxHeartbeats 1600000 in
theorem lock_free (a : Addr) (w : World) (hc : w.cell? a = some (.int .i32 0)) (hz : w.frozen? a = false) :
    Calls Try.prog 202 #[.pointer (some a)] w fun e w' => e = .returned (.tuple #[]) ∧ w' = w.setCell a (.int .i32 1) := by
  have hd := mkDisable
  have he := mkEnable
  have ha := mkAcquire
  have hcas := run_call_cas_hit (P := Try.prog) Try.func214 (by kernel_rfl) (by kernel_rfl) (by kernel_rfl) .i32 (by kernel_rfl) (y := 1) hc hz
  have hc' : (w.setCell a (.int .i32 1)).cell? a = some (.int .i32 1) := World.cell?_setCell_same w a _ hc
  have hcv := run_convert_to_unsafe (P := Try.prog) (src := 231) (dst := 235) Try.underlying231 Try.underlying235 (by kernel_rfl) hc'
  go_enter Try.func202, Try.ntmps202
  go_wp2
  first | go_end0 | (simp only [Exit.inBlock, Exit.then]; refine bodyPost_ret (results_none rfl _ _ _) rfl ?_) | refine bodyPost_ret (results_none rfl _ _ _) rfl ?_
  go_wp2
  go_end0
  exact ⟨rfl, rfl⟩
theorem KRow.done {W : World} {b : Nat} {sa : Option Addr} {n cap sk lo : Nat} {d u : Int} {tab : Nat → Nat} (h : KRow W b sa n cap sk lo d u tab) (x : Int) : KRow (W.setCell ⟨b, 3, none⟩ (.int .u32 x)) b sa n cap sk lo x u tab := by
  have hne : ∀ {i : Nat}, i ≠ 3 → (⟨b, 3, none⟩ : Addr) ≠ ⟨b, i, none⟩ := fun hi hh => hi (by injection hh with _ h2; exact h2.symm)
  refine ⟨?_, ?_, ?_, World.cell?_setCell_same _ _ _ h.c3, ?_, fun j hj => ?_, fun j hj => by rw [World.frozen?_setCell]; exact h.fr j hj, by simpa [World.setCell] using h.lt⟩
  · rw [World.cell?_setCell_other _ _ _ _ (hne (by omega))]; exact h.c0
  · rw [World.cell?_setCell_other _ _ _ _ (hne (by omega))]; exact h.c1
  · rw [World.cell?_setCell_other _ _ _ _ (hne (by omega))]; exact h.c2
  · rw [World.cell?_setCell_other _ _ _ _ (hne (by omega))]; exact h.c4
  · rw [World.cell?_setCell_other _ _ _ _ (hne (by omega))]; exact h.tb j hj
theorem KRow.lock {W : World} {b : Nat} {sa : Option Addr} {n cap sk lo : Nat} {d u : Int} {tab : Nat → Nat} (h : KRow W b sa n cap sk lo d u tab) (x : Int) : KRow (W.setCell ⟨b, 4, none⟩ (.int .i32 x)) b sa n cap sk lo d x tab := by
  have hne : ∀ {i : Nat}, i ≠ 4 → (⟨b, 4, none⟩ : Addr) ≠ ⟨b, i, none⟩ := fun hi hh => hi (by injection hh with _ h2; exact h2.symm)
  refine ⟨?_, ?_, ?_, ?_, World.cell?_setCell_same _ _ _ h.c4, fun j hj => ?_, fun j hj => by rw [World.frozen?_setCell]; exact h.fr j hj, by simpa [World.setCell] using h.lt⟩
  · rw [World.cell?_setCell_other _ _ _ _ (hne (by omega))]; exact h.c0
  · rw [World.cell?_setCell_other _ _ _ _ (hne (by omega))]; exact h.c1
  · rw [World.cell?_setCell_other _ _ _ _ (hne (by omega))]; exact h.c2
  · rw [World.cell?_setCell_other _ _ _ _ (hne (by omega))]; exact h.c3
  · rw [World.cell?_setCell_other _ _ _ _ (hne (by omega))]; exact h.tb j hj
set_option maxRecDepth 100000 in
set_option maxHeartbeats 4000000 in
theorem slow_any (b : Nat) (sa : Option Addr) (n cap sk lo : Nat) (f : Nat → Cel) (w : World) (hn : n ≤ 60) (hsz : ∀ i, i < n → (f i).c.size ≤ 256) (hr : CRow w b sa n f) (hk : KRow w b sa n cap sk lo 0 0 (fun _ => 0)) :
    Calls Try.prog 195 #[.pointer (some ⟨b, 3, none⟩), .func (.func 187) #[.pointer (some ⟨b, 0, none⟩)] #[]] w fun e w' => ∃ tab : Nat → Nat, e = .returned (.tuple #[]) ∧ w.grownBy w' (some b) ∧ KRow w' b sa n cap sk lo 1 0 tab ∧ TabAt f n tab := by
  have k1 := hk.lock 1
  have g1 : w.grownBy (w.setCell ⟨b, 4, none⟩ (.int .i32 1)) (some b) := only_setK (World.grownBy.refl _ _)
  have r1 := cells_grown hr g1 hk.lt
  have hl := run_call_load (P := Try.prog) Try.func201 (by kernel_rfl) (by kernel_rfl) (by kernel_rfl) .u32 (by kernel_rfl) (w := w.setCell ⟨b, 4, none⟩ (.int .i32 1)) (a := ⟨b, 3, none⟩) (x := 0) k1.c3
  have hnot : ∀ (x : Bool) (w : World), (Op.unary .not (.bool x)).run Try.prog w = .ok (.bool (!x)) w := fun _ _ => rfl
  have FC := fill_any b sa n cap sk lo 0 1 f (w.setCell ⟨b, 4, none⟩ (.int .i32 1)) hn hsz r1 k1
  have c4 := hk.c4
  have f4 := hk.fr 4 (by omega)
  have HK : Hid (KRow w b sa n cap sk lo 0 0 (fun _ => 0)) := hk
  have G1 : Hid (w.grownBy (w.setCell ⟨b, 4, none⟩ (.int .i32 1)) (some b)) := g1
  clear k1 r1 hr hk hsz g1
  go_enter_defers Try.func195, Try.ntmps195
  go_wp2_with (first | (go_at_call 202; refine (lock_free ⟨b, 4, none⟩ _ (by first | exact c4 | go_simp) (by first | exact f4 | go_simp)).mono ?_; rintro e w' ⟨rfl, rfl⟩) | (go_at_call 194; go_in))
  refine FC.mono ?_
  rintro e w1 ⟨tab, rfl, hg, hk1, htab⟩
  have G2 : Hid (w.grownBy w1 (some b)) := G1.out.trans hg
  have HT : Hid (TabAt f n tab) := htab
  have HK1 : Hid (KRow w1 b sa n cap sk lo 0 1 tab) := hk1
  clear hg hk1 htab FC hl
  go_wp2_with fail
  refine leaves_cons (f := 204) (args := #[.pointer (some ⟨b, 3, none⟩), .bool true]) (by simp) (by simp [go_sem]) ?_
  refine (store_deferred ⟨b, 3, none⟩ (.int .u32 0) .returning _ HK1.out.c3 (HK1.out.fr 3 (by omega))).mono ?_
  rintro e u' w2 ⟨rfl, rfl, rfl⟩
  have HK2 := HK1.out.drew.done 1
  have G3 : Hid (w.grownBy (w1.drew.setCell ⟨b, 3, none⟩ (.int .u32 1)) (some b)) := only_setK (grown_drewK G2.out)
  refine leaves_cons (f := 203) (args := #[.pointer (some ⟨b, 4, none⟩)]) (by simp [settle]) (by simp [go_sem]) ?_
  refine (unlock_deferred ⟨b, 4, none⟩ _ _ HK2.c4 (HK2.fr 4 (by omega))).mono ?_
  rintro e u' w3 ⟨rfl, rfl, rfl⟩
  have FIN : ∃ tab : Nat → Nat, Ending.returned (.tuple #[]) = .returned (.tuple #[]) ∧ w.grownBy ((w1.drew.setCell ⟨b, 3, none⟩ (.int .u32 1)).setCell ⟨b, 4, none⟩ (.int .i32 0)) (some b) ∧ KRow ((w1.drew.setCell ⟨b, 3, none⟩ (.int .u32 1)).setCell ⟨b, 4, none⟩ (.int .i32 0)) b sa n cap sk lo 1 0 tab ∧ TabAt f n tab := ⟨tab, rfl, only_setK G3.out, HK2.lock 0, HT.out⟩
  simp [Leaves, settle, results, Try.results195]
  simpa using FIN
set_option maxRecDepth 100000 in
set_option maxHeartbeats 1600000 in
theorem do_first (b : Nat) (sa : Option Addr) (n cap sk lo : Nat) (f : Nat → Cel) (w : World) (hn : n ≤ 60) (hsz : ∀ i, i < n → (f i).c.size ≤ 256) (hr : CRow w b sa n f) (hk : KRow w b sa n cap sk lo 0 0 (fun _ => 0)) :
    Calls Try.prog 186 #[.pointer (some ⟨b, 3, none⟩), .func (.func 187) #[.pointer (some ⟨b, 0, none⟩)] #[]] w fun e w' => ∃ tab : Nat → Nat, e = .returned (.tuple #[]) ∧ w.grownBy w' (some b) ∧ KRow w' b sa n cap sk lo 1 0 tab ∧ TabAt f n tab := by
  have hl := run_call_load (P := Try.prog) Try.func201 (by kernel_rfl) (by kernel_rfl) (by kernel_rfl) .u32 (by kernel_rfl) hk.c3
  have hnot : ∀ (x : Bool) (w : World), (Op.unary .not (.bool x)).run Try.prog w = .ok (.bool (!x)) w := fun _ _ => rfl
  have SL := slow_any b sa n cap sk lo f w hn hsz hr hk
  clear hr hk hsz
  go_enter Try.func186, Try.ntmps186
  go_wp2_with (first | (go_at_call 194; go_in))
  refine SL.mono ?_
  rintro e w1 ⟨tab, rfl, hg, hk1, htab⟩
  have HH : Hid (w.grownBy w1 (some b) ∧ KRow w1 b sa n cap sk lo 1 0 tab ∧ TabAt f n tab) := ⟨hg, hk1, htab⟩
  clear hg hk1 htab SL hl
  go_wp2_with fail
  go_end0
  first | exact ⟨rfl, HH.out.1, tab, HH.out.2⟩ | exact ⟨tab, rfl, HH.out⟩
theorem do_done (a : Addr) (fv : Value) (w : World) (h0 : w.cell? a = some (.int .u32 1)) :
    Calls Try.prog 186 #[.pointer (some a), fv] w fun e w' => e = .returned (.tuple #[]) ∧ w' = w := by
  have hl := run_call_load (P := Try.prog) Try.func201 (by kernel_rfl) (by kernel_rfl) (by kernel_rfl) .u32 (by kernel_rfl) h0
  have hnot : ∀ (x : Bool) (w : World), (Op.unary .not (.bool x)).run Try.prog w = .ok (.bool (!x)) w := fun _ _ => rfl
  have hd' : ((1 : Int) != 0) = true := by simp
  go_enter Try.func186, Try.ntmps186
  go_wp2
  go_end0
  exact ⟨rfl, rfl⟩
/-- A row that is ready: its table is not made yet, or it is made. -/
def Ready (W : World) (b : Nat) (sa : Option Addr) (n cap sk lo : Nat) (f : Nat → Cel) : Prop := KRow W b sa n cap sk lo 0 0 (fun _ => 0) ∨ ∃ tab, KRow W b sa n cap sk lo 1 0 tab ∧ TabAt f n tab
theorem Ready.cells {W : World} {b : Nat} {sa : Option Addr} {n cap sk lo : Nat} {f : Nat → Cel} (h : Ready W b sa n cap sk lo f) : W.cell? ⟨b, 1, none⟩ = some (.int .u64 (sk : Int)) ∧ W.cell? ⟨b, 2, none⟩ = some (.int .u64 (lo : Int)) ∧ b < W.heap.size := by
  rcases h with h | ⟨tab, h, _⟩
  · exact ⟨h.c1, h.c2, h.lt⟩
  · exact ⟨h.c1, h.c2, h.lt⟩
theorem Ready.kept {W W' : World} {B b : Nat} {sa : Option Addr} {n cap sk lo : Nat} {f : Nat → Cel} (h : Ready W b sa n cap sk lo f) (hb : Below B W W') (hB : b < B) : Ready W' b sa n cap sk lo f := by
  rcases h with h | ⟨tab, h, h2⟩
  · exact Or.inl (h.kept hb hB)
  · exact Or.inr ⟨tab, h.kept hb hB, h2⟩
set_option maxRecDepth 100000 in
set_option maxHeartbeats 1600000 in
theorem having_any (b : Nat) (sa : Option Addr) (n cap sk lo c : Nat) (f : Nat → Cel) (w : World) (hn : n ≤ 60) (hc : c < 256) (hsz : ∀ i, i < n → (f i).c.size ≤ 256) (hr : CRow w b sa n f) (hk : Ready w b sa n cap sk lo f) :
    Calls Try.prog 169 #[.pointer (some ⟨b, 0, none⟩), .int .u8 (c : Int)] w fun e w' => ∃ x : Nat, e = .returned (.int .u64 (x : Int)) ∧ IsBits x (behind (fun i => hasByte (f i).c c) n) ∧ Ready w' b sa n cap sk lo f ∧ w.grownBy w' (some b) := by
  have hmf : ∀ (fn : Fn) (first cap : Array Value) (w : World), (Instr.makeFunc fn first cap).run Try.prog w = .ok (.func fn first cap) w := fun _ _ _ _ => rfl
  have hc0 : (0 : Int) ≤ (c : Int) := by omega
  have hc1 : (c : Int) < 256 := by omega
  rcases hk with hk | ⟨tab, hk, ht⟩
  · have DO := do_first b sa n cap sk lo f w hn hsz hr hk
    have hlt := hk.lt
    clear hr hk hsz
    go_enter Try.func169, Try.ntmps169
    go_wp2_with fail
    refine DO.mono ?_
    rintro e w1 ⟨tab, rfl, hg, hk1, htab⟩
    have HH : Hid (IsBits (tab c) (behind (fun i => hasByte (f i).c c) n) ∧ Ready w1 b sa n cap sk lo f ∧ w.grownBy w1 (some b)) := ⟨htab c hc, Or.inr ⟨tab, hk1, htab⟩, hg⟩
    have cx := hk1.tb c hc
    have hlt1 := hk1.lt
    clear DO hg hk1 htab
    go_wp2_with fail
    go_ret
    exact ⟨tab c, rfl, HH.out⟩
  · have DO := do_done ⟨b, 3, none⟩ (.func (.func 187) #[.pointer (some ⟨b, 0, none⟩)] #[]) w hk.c3
    have hlt := hk.lt
    have cx := hk.tb c hc
    have HH : Hid (IsBits (tab c) (behind (fun i => hasByte (f i).c c) n) ∧ Ready w b sa n cap sk lo f) := ⟨ht c hc, Or.inr ⟨tab, hk, ht⟩⟩
    clear hr hk hsz ht
    go_enter Try.func169, Try.ntmps169
    go_wp2_with fail
    refine DO.mono ?_
    rintro e w1 ⟨rfl, hw⟩
    rw [hw]
    clear DO hw w1
    go_wp2_with fail
    go_ret
    exact ⟨tab c, rfl, HH.out.1, HH.out.2, World.grownBy.refl _ _⟩
end Go.Proofs.Ythnnenbpbkmbhaa
namespace Go.Proofs.Ythnnenbpbkmbhaa
open Go.RowKit

/-- Where each begins. -/
def startB (f : Nat → Cel) (n : Nat) : Nat → Bool := cloB (skipB f n) (fun j => decide (0 = j))
theorem start_le (f : Nat → Cel) (n : Nat) : ∀ j, n < j → startB f n j = false := fun j hj => clo_le (skip_le f n) (fun j hj => decide_eq_false (by omega)) j hj
/-- A walk in its block. -/
structure WBox (W : World) (q r be at' : Nat) : Prop where
  c0 : W.cell? ⟨q, 0, none⟩ = some (.pointer (some ⟨r, 0, none⟩))
  c1 : W.cell? ⟨q, 1, none⟩ = some (.int .u64 (be : Int))
  c2 : W.cell? ⟨q, 2, none⟩ = some (.int .u64 (at' : Int))
  f2 : W.frozen? ⟨q, 2, none⟩ = false
  lt : q < W.heap.size
theorem WBox.kept {W W' : World} {B q r be a : Nat} (h : WBox W q r be a) (hb : Below B W W') (hB : q < B) : WBox W' q r be a :=
  ⟨by rw [hb.cell (p := ⟨q, 0, none⟩) hB]; exact h.c0, by rw [hb.cell (p := ⟨q, 1, none⟩) hB]; exact h.c1, by rw [hb.cell (p := ⟨q, 2, none⟩) hB]; exact h.c2, by rw [hb.frozen (p := ⟨q, 2, none⟩) hB]; exact h.f2, Nat.lt_of_lt_of_le h.lt hb.size⟩
theorem WBox.grown {W W' : World} {g q r be a : Nat} (h : WBox W q r be a) (hg : W.grownBy W' (some g)) (hne : q ≠ g) : WBox W' q r be a := by
  have hb := hg.block q h.lt (fun e => hne (by injection e))
  refine ⟨?_, ?_, ?_, ?_, Nat.lt_of_lt_of_le h.lt hg.size⟩
  · have := h.c0
    simpa [World.cell?, hb] using this
  · have := h.c1
    simpa [World.cell?, hb] using this
  · have := h.c2
    simpa [World.cell?, hb] using this
  · have := h.f2
    simpa [World.frozen?, hb] using this
theorem wbox_new (W : World) (r be a : Nat) (t : TypeId) : WBox (W.alloc (.cells #[.pointer (some ⟨r, 0, none⟩), .int .u64 (be : Int), .int .u64 (a : Int)] t)) W.heap.size r be a :=
  ⟨by simp, by simp, by simp, frozen_of_row _ _ _ _ _ (heap_alloc_new W _), by simp⟩
/-- A walk, its row and its masks: three blocks. -/
structure Walks (W : World) (q r b : Nat) (sa : Option Addr) (n cap : Nat) (f : Nat → Cel) (be at' sk lo fi la bl st fin : Nat) : Prop where
  w : WBox W q r be at'
  m : MRow W r b fi la bl st fin
  k : Ready W b sa n cap sk lo f
  ne : b < r ∧ r < q
  ok : MasksOk (skipB f n) n fi la bl st fin
  sk : IsBits sk (behind (fun i => (f i).k) n)
  lo : IsBits lo (behind (fun i => (f i).o) n)
  be : IsBits be (startB f n)
/-- A walk that stands at some places. -/
def WalkAt (W : World) (lo : Nat) (q : Nat) (sa : Option Addr) (n cap : Nat) (f : Nat → Cel) (P : Nat → Bool) : Prop :=
  ∃ r b be a sk l fi la bl st fin : Nat, Walks W q r b sa n cap f be a sk l fi la bl st fin ∧ lo ≤ b ∧ IsBits a P
theorem walkOf_no (sa : Option Addr) (n cap : Nat) (f : Nat → Cel) (w : World) (hn : n ≤ maxLen) (hr : CRow w w.heap.size sa n f) (hc : ∀ i, i < n → (f i).c.size ≤ maxLen) (h : ¬ CellsOk n f) :
    Calls Try.prog 114 #[.slice sa n cap] w fun e w' => e = .returned (.pointer none) ∧ Below w.heap.size w w' := by
  have C := mrowOf_no sa n cap f w hn hr hc h
  clear hn hr hc h
  go_enter Try.func114, Try.ntmps114
  go_wp2_with fail
  refine C.mono ?_
  rintro e w1 ⟨rfl, hb1⟩
  have B1 : Hid (Below w.heap.size w w1) := hb1
  clear hb1 C
  go_wp2_with fail
  go_ret
  exact ⟨rfl, B1.out⟩
set_option maxRecDepth 100000 in
set_option maxHeartbeats 4000000 in
theorem walkOf_yes (sa : Option Addr) (n cap : Nat) (f : Nat → Cel) (w : World) (hn : n ≤ maxLen) (hr : CRow w w.heap.size sa n f) (hc : ∀ i, i < n → (f i).c.size ≤ maxLen) (h : CellsOk n f) :
    Calls Try.prog 114 #[.slice sa n cap] w fun e w' => ∃ q : Nat, e = .returned (.pointer (some ⟨q, 0, none⟩)) ∧ Below w.heap.size w w' ∧ WalkAt w' w.heap.size q sa n cap f (startB f n) := by
  have C := mrowOf_yes sa n cap f w hn hr hc h
  have hn60 := h.2.1
  clear hn hr hc h
  go_enter Try.func114, Try.ntmps114
  go_wp2_with fail
  refine C.mono ?_
  rintro e w1 ⟨r, b, sk, lo, fi, la, bl, st, fin, rfl, hbl, hbr, hb1, hsk, hlo, hk, hm, hok⟩
  have S1 : Hid (Since w w1) := ⟨hb1⟩
  have F1 : Hid (w.heap.size ≤ b ∧ b < r ∧ IsBits sk (behind (fun i => (f i).k) n) ∧ IsBits lo (behind (fun i => (f i).o) n) ∧ KRow w1 b sa n cap sk lo 0 0 (fun _ => 0) ∧ MRow w1 r b fi la bl st fin ∧ MasksOk (skipB f n) n fi la bl st fin) := ⟨hbl, hbr, hsk, hlo, hk, hm, hok⟩
  have m4 := hm.c4
  have ml := hm.lt
  clear C hbl hbr hb1 hsk hlo hk hm hok
  go_wp2_with fail
  refine (once_any r b st fi la bl st fin n (skipB f n) (fun j => decide (0 = j)) _ hn60 F1.out.2.2.2.2.2.1 F1.out.2.2.2.2.2.2 F1.out.2.2.2.2.2.2.s (fun j hj => decide_eq_false (by omega))).mono ?_
  rintro e w2 ⟨be, rfl, hbe, hb2⟩
  have S2 : Hid (Since w w2) := since_call S1.out hb2
  have F2 : Hid (w.heap.size ≤ b ∧ b < r ∧ IsBits sk (behind (fun i => (f i).k) n) ∧ IsBits lo (behind (fun i => (f i).o) n) ∧ KRow w2 b sa n cap sk lo 0 0 (fun _ => 0) ∧ MRow w2 r b fi la bl st fin ∧ MasksOk (skipB f n) n fi la bl st fin ∧ IsBits be (startB f n) ∧ r < w2.heap.size) := ⟨F1.out.1, F1.out.2.1, F1.out.2.2.1, F1.out.2.2.2.1, F1.out.2.2.2.2.1.kept hb2 F1.out.2.2.2.2.1.lt, F1.out.2.2.2.2.2.1.kept hb2 ml, F1.out.2.2.2.2.2.2, hbe, (F1.out.2.2.2.2.2.1.kept hb2 ml).lt⟩
  clear hb2 hbe S1 F1 m4 ml
  go_wp2_with fail
  go_ret
  obtain ⟨g1, g2, g3, g4, g5, g6, g7, g8, g9⟩ := F2.out
  have hal : Below w2.heap.size w2 (w2.alloc (.cells #[.pointer (some ⟨r, 0, none⟩), .int .u64 (be : Int), .int .u64 (be : Int)] 149)) := (Below.refl _ _).alloc (Nat.le_refl _) _
  exact ⟨w2.heap.size, rfl, (since_call S2.out hal).below, r, b, be, be, sk, lo, fi, la, bl, st, fin, ⟨wbox_new w2 r be be _, g6.kept hal g9, Or.inl (g5.kept hal g5.lt), ⟨g2, g9⟩, g7, g3, g4, g8⟩, g1, g8⟩
set_option maxRecDepth 100000 in
set_option maxHeartbeats 4000000 in
theorem vecAt_any (q : Nat) (sa : Option Addr) (n cap m lo x : Nat) (f : Nat → Cel) (P : Nat → Bool) (w : World) (hn : n ≤ 60) (hm : m = (n + 1 + 31) / 32) (hw : WalkAt w lo q sa n cap f P) (hx : IsBits x P) :
    Calls Try.prog 115 #[.pointer (some ⟨q, 0, none⟩)] w fun e w' => NewVec w ((n : Int) + 1) m (wordsN x) e w' := by
  obtain ⟨r, b, be, a, sk, l, fi, la, bl, st, fin, ⟨h1, h2, h3, h4, h5, h6, h7, h8⟩, h9, h10⟩ := hw
  obtain rfl := hx.uniq h10
  have k0 : w.cell? ⟨b, 0, none⟩ = some (.slice sa n cap) := by
    rcases h3 with h | ⟨tab, h, _⟩
    · exact h.c0
    · exact h.c0
  have kl := h3.cells.2.2
  obtain ⟨c0, c1, c2, f2, wl⟩ := h1
  have r0 := h2.c0
  have rl := h2.lt
  have q0 := boxing w 26 0 none 0 0
  have HP : Hid (∀ W, Calls Try.prog 82 #[.int .u64 (x : Int), .int .i64 (n : Int)] W fun e w' => NewVec W ((n : Int) + 1) m (wordsN x) e w') := fun W => pvec_any x n m W hx.lt hn hm
  have hb0 := q0.1
  have wq := wl
  have wr := rl
  have wb := kl
  have d0 := (hb0.cell (p := ⟨q, 0, none⟩) wl).trans c0
  have d2 := (hb0.cell (p := ⟨q, 2, none⟩) wl).trans c2
  have s0 := (hb0.cell (p := ⟨r, 0, none⟩) rl).trans r0
  have t0 := (hb0.cell (p := ⟨b, 0, none⟩) kl).trans k0
  have wl' := Nat.lt_of_lt_of_le wl hb0.size
  have rl' := Nat.lt_of_lt_of_le rl hb0.size
  have kl' := Nat.lt_of_lt_of_le kl hb0.size
  have X0 : Hid (Boxed (w.alloc (.cells #[.int .i64 0, .slice none 0 0] 26)) w.heap.size 26 0 none 0 0) := q0.2.1
  have S0 : Hid (Since w (w.alloc (.cells #[.int .i64 0, .slice none 0 0] 26))) := ⟨hb0⟩
  have hz := q0.2.2
  clear h2 h3 h4 h5 h6 h7 h8 h9 h10 hx hm c0 c1 c2 f2 r0 k0 wl rl kl hb0 q0
  go_enter Try.func115, Try.ntmps115
  go_wp2_with fail
  generalize w.alloc (.cells #[.int .i64 0, .slice none 0 0] 26) = v0 at *
  obtain ⟨x0, x1, xf0, xf1⟩ := X0.out.four
  have xl := X0.out.lt
  have hqn : w.heap.size ≠ q := Nat.ne_of_gt wq
  have hrn : w.heap.size ≠ r := Nat.ne_of_gt wr
  have hbn : w.heap.size ≠ b := Nat.ne_of_gt wb
  have bd : Below v0.heap.size v0 v0.drew := ⟨rfl, rfl, rfl, Nat.le_refl _, fun _ _ => rfl⟩
  go_region_held3 (fun W => W.cell? ⟨q, 0, none⟩ = some (.pointer (some ⟨r, 0, none⟩)) ∧ W.cell? ⟨q, 2, none⟩ = some (.int .u64 (x : Int)) ∧ W.cell? ⟨r, 0, none⟩ = some (.pointer (some ⟨b, 0, none⟩)) ∧ W.cell? ⟨b, 0, none⟩ = some (.slice sa n cap)) (go_keep) (first | (go_at_call 82; (with_reducible refine (HP.out _).mono ?_); rintro e w2 ⟨s2, c2, rfl, hb, ho⟩; unfold vecV; have hb' := bd.trans hb; obtain ⟨a0, a1, af0, af1⟩ := (X0.out.kept hb' rfl).four; have al := (X0.out.kept hb' rfl).lt; have d0' := (hb'.cell (p := ⟨q, 0, none⟩) wl').trans d0; have d2' := (hb'.cell (p := ⟨q, 2, none⟩) wl').trans d2; have s0' := (hb'.cell (p := ⟨r, 0, none⟩) rl').trans s0; have t0' := (hb'.cell (p := ⟨b, 0, none⟩) kl').trans t0; have wl2 := Nat.lt_of_lt_of_le wl' hb'.size; have rl2 := Nat.lt_of_lt_of_le rl' hb'.size; have kl2 := Nat.lt_of_lt_of_le kl' hb'.size; have S2 : Hid (Since w w2) := since_call S0.out hb'; have O2 : Hid (OwnS w2 v0.heap.size s2 m (wordsN x)) := ho; clear hb ho hb'))
  all_goals
    go_wp2_with fail
    refine bodyPost_ret (v := vecV ((n : Int) + 1) s2 m c2) (by simp [results, Try.results115, go_sem, vecV, a0, a1]) rfl ?_
    refine ⟨_, _, rfl, (since_set (since_set S2.out (by show w.heap.size ≤ w.heap.size; omega)) (by show w.heap.size ≤ w.heap.size; omega)).below, ?_⟩
    rcases O2.out with h | ⟨g5, h1, h2, h3⟩
    · exact Or.inl h
    · exact Or.inr ⟨g5, h1, by omega, (h3.setOther _ _ (by show w.heap.size ≠ g5; omega)).setOther _ _ (by show w.heap.size ≠ g5; omega)⟩
theorem implStart_no (sa : Option Addr) (n cap : Nat) (f : Nat → Cel) (w : World) (hn : n ≤ maxLen) (hr : CRow w w.heap.size sa n f) (hc : ∀ i, i < n → (f i).c.size ≤ maxLen) (h : ¬ CellsOk n f) :
    Calls Try.prog 42 #[.slice sa n cap] w fun e w' => NewVec w 0 0 (fun _ => 0) e w' := by
  have q0 := boxing w 26 0 none 0 0
  have C := walkOf_no sa n cap f (w.alloc (.cells #[.int .i64 0, .slice none 0 0] 26)) hn ((hr.kept q0.1).up q0.1.size) hc h
  clear hn hr hc h
  go_enter Try.func42, Try.ntmps42
  go_wp2_with fail
  generalize w.alloc (.cells #[.int .i64 0, .slice none 0 0] 26) = v0 at *
  refine C.mono ?_
  rintro e w1 ⟨rfl, hb1⟩
  obtain ⟨a0, a1, a2, a3⟩ := (q0.2.1.kept hb1 rfl).four
  have S1 : Hid (Since w w1) := since_call (since_call (since_refl _) q0.1) hb1
  have xl := (q0.2.1.kept hb1 rfl).lt
  clear C hb1 q0
  go_wp2_with fail
  refine bodyPost_ret (v := vecV 0 none 0 0) (by simp [results, Try.results42, go_sem, vecV, a0, a1]) rfl ?_
  exact ⟨_, _, rfl, (since_set (since_set S1.out (by show w.heap.size ≤ w.heap.size; omega)) (by show w.heap.size ≤ w.heap.size; omega)).below, Or.inl rfl⟩
theorem implStart_yes (sa : Option Addr) (n cap m x : Nat) (f : Nat → Cel) (w : World) (hn : n ≤ maxLen) (hr : CRow w w.heap.size sa n f) (hc : ∀ i, i < n → (f i).c.size ≤ maxLen) (h : CellsOk n f) (hm : m = (n + 1 + 31) / 32) (hx : IsBits x (startB f n)) :
    Calls Try.prog 42 #[.slice sa n cap] w fun e w' => NewVec w ((n : Int) + 1) m (wordsN x) e w' := by
  have q0 := boxing w 26 0 none 0 0
  have C := walkOf_yes sa n cap f (w.alloc (.cells #[.int .i64 0, .slice none 0 0] 26)) hn ((hr.kept q0.1).up q0.1.size) hc h
  have hn60 := h.2.1
  have HX : Hid (IsBits x (startB f n)) := hx
  have HM : Hid (m = (n + 1 + 31) / 32) := hm
  clear hn hr hc h hx hm
  go_enter Try.func42, Try.ntmps42
  go_wp2_with fail
  generalize w.alloc (.cells #[.int .i64 0, .slice none 0 0] 26) = v0 at *
  refine C.mono ?_
  rintro e w1 ⟨q, rfl, hb1, hw1⟩
  have X1 : Hid (Boxed w1 w.heap.size 26 0 none 0 0) := q0.2.1.kept hb1 rfl
  have S1 : Hid (Since w w1) := since_call (since_call (since_refl _) q0.1) hb1
  have W1 : Hid (WalkAt w1 v0.heap.size q sa n cap f (startB f n)) := hw1
  clear C hb1 q0 hw1
  go_wp2_with fail
  refine (vecAt_any q sa n cap m _ x f _ w1 hn60 HM.out W1.out HX.out).mono ?_
  rintro e w3 ⟨s3, c3, rfl, hb3, ho3⟩
  unfold vecV
  obtain ⟨a0, a1, a2, a3⟩ := (X1.out.kept hb3 rfl).four
  have S3 : Hid (Since w w3) := since_call S1.out hb3
  have O3 : Hid (OwnS w3 w1.heap.size s3 m (wordsN x)) := ho3
  have l3 : w.heap.size < w3.heap.size := by have := hb3.size; have := X1.out.lt; omega
  have l2 : w.heap.size < w1.heap.size := X1.out.lt
  clear hb3 ho3
  go_wp2_with fail
  refine bodyPost_ret (v := vecV ((n : Int) + 1) s3 m c3) (by simp [results, Try.results42, go_sem, vecV, a0, a1]) rfl ?_
  refine ⟨_, _, rfl, (since_set (since_set S3.out (by show w.heap.size ≤ w.heap.size; omega)) (by show w.heap.size ≤ w.heap.size; omega)).below, ?_⟩
  rcases O3.out with h | ⟨g5, h1, h2, h3⟩
  · exact Or.inl h
  · exact Or.inr ⟨g5, h1, by omega, (h3.setOther _ _ (by show w.heap.size ≠ g5; omega)).setOther _ _ (by show w.heap.size ≠ g5; omega)⟩
end Go.Proofs.Ythnnenbpbkmbhaa
