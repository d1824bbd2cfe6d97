/- What is proved here: the program writes down for each byte the bits of the cells that lack it, in the row's own block; nothing else that was there turns.
   What is proved here: a turned row's table is filled just once, whatever byte comes by first; what a byte's bits are.
   What is proved here: VecNew, the program's and the specification's, hands back so many bits, none of them on, in new memory, or nothing; nothing that was there turns.
   What is proved here: the program writes places as a vector, in new memory; nothing that was there turns. -/
import Derived.Test.YtfeolbgenpknfaaGreatQSpecTurnSWToTurnTabM
import Derived.RegionTactic
import Derived.BigRegion
import Derived.Test.YtfeolbgenpknfaaGreatQFillWToOnceW
import Derived.Test.YtfeolbgenpknfaaGreatQSpecKVecWToWordsForW
import Derived.Test.YtfeolbgenpknfaaGreatQGetBWToClassRightW
namespace Go.Proofs.YtfeolbgenpknfaaGreat
open Go.RowKit

theorem TRow.alloc {W : World} {b : Nat} {sa : Option Addr} {n cap al : Nat} {d u : Int} {tab : Nat → Nat} (h : TRow W b sa n cap al d u tab) (o : Obj) : TRow (W.alloc o) b sa n cap al d u tab := h.kept (B := W.heap.size) ((Below.refl _ _).alloc (Nat.le_refl _) _) h.lt
theorem CRow.atT {w : World} {B n k : Nat} {sa : Option Addr} {f : Nat → Cel} (h : CRow w B sa n f) (hk : k < n) : ∃ bb off : Nat, sa = some ⟨bb, off, none⟩ ∧ bb < B ∧ CellAt w bb (off + k * 3) (f k) := by
  rcases h with h | ⟨bb, off, h1, h2, h3⟩
  · omega
  · exact ⟨bb, off, h1, h2, h3 k hk⟩
set_option maxRecDepth 100000 in
set_option maxHeartbeats 4000000 in
theorem turnFill_any (b : Nat) (sa : Option Addr) (n cap : Nat) (d u : Int) (f : Nat → Cel) (w : World) (hn : n ≤ 60) (hsz : ∀ i, i < n → (f i).c.size ≤ 256) (hr : CRow w b sa n f) (hk : TRow w b sa n cap (2 ^ n - 1) d u (fun _ => 0)) :
    Calls Tryz.prog 82 #[.pointer (some ⟨b, 0, none⟩)] w fun e w' => ∃ tab : Nat → Nat, e = .returned (.tuple #[]) ∧ w.grownBy w' (some b) ∧ TRow w' b sa n cap (2 ^ n - 1) d u tab ∧ TurnAt f n n tab := by
  obtain ⟨al, hal⟩ : ∃ al, 2 ^ n - 1 = al := ⟨_, rfl⟩
  have H0 : Hid (TurnAt f n 0 (fun _ => al)) := by
    have h := turnAt_zero f (n := n) (by omega)
    rw [hal] at h
    exact h
  rw [hal] at hk ⊢
  have HR : Hid (CRow w b sa n f) := hr
  have HK : Hid (TRow w b sa n cap al d u (fun _ => 0)) := hk
  have HSZ : Hid (∀ i, i < n → (f i).c.size ≤ 256) := hsz
  have hblt := hk.lt
  clear hr hk hsz hal
  go_enter Tryz.func82, Tryz.ntmps82
  go_wp2_with fail
  go_loopw [6] (fun i wr => ∃ (k : Nat) (tab : Nat → Nat), k ≤ 256 ∧ i = .int .i64 (k : Int) ∧ w.grownBy wr (some b) ∧ TRow wr b sa n cap al d u tab ∧ ∀ j, j < k → tab j = al) (fun i _ => 256 - (intOf i).toNat)
  case atStart => exact ⟨0, _, Nat.zero_le _, rfl, World.grownBy.refl _ _, HK.out, fun j hj => by omega⟩
  case round =>
    obtain ⟨k, tab, hk, rfl, hgr, hrow, htab⟩ := hrel
    have HG : Hid (w.grownBy wr (some b)) := hgr
    have HW : Hid (TRow wr b sa n cap al d u tab) := hrow
    have HT : Hid (∀ j, j < k → tab j = al) := htab
    by_cases hkl : k < 256
    · have hki : (k : Int) < 256 := by omega
      have hk0 : (0 : Int) ≤ (k : Int) := by omega
      have c1 := hrow.c1
      have cx := hrow.tb k hkl
      have fx := hrow.fr (5 + k) (by omega)
      have hlb := hrow.lt
      have W5 : Hid (TRow (wr.setCell ⟨b, 5 + k, none⟩ (.int .u64 (al : Int))) b sa n cap al d u (fun j => if j = k then al else tab j)) := HW.out.set hkl al
      have HT5 : Hid (∀ j, j < k + 1 → (if j = k then al else tab j) = al) := fun j hj => by
        by_cases e : j = k
        · rw [if_pos e]
        · rw [if_neg e]; exact HT.out j (by omega)
      clear hgr hrow htab
      go_wp2_with fail
      go_region
      all_goals
        go_wp2_with fail
        go_roundw
        case rel => exact ⟨k + 1, _, by omega, by go_num, grown_drewT (only_setT HG.out), W5.out.drew, HT5.out⟩
        case measure => simp [intOf]; omega
    · have hki : ¬ (k : Int) < 256 := by omega
      obtain rfl : k = 256 := by omega
      have k0 := hrow.c0
      have hlb := hrow.lt
      have HT0 : Hid (TurnAt f n 0 tab) := H0.out.same (fun j hj => htab j hj)
      clear hgr hrow htab H0 HT HK
      go_wp2_with fail
      go_loopw [24] (fun i wr => ∃ (k : Nat) (tab : Nat → Nat), k ≤ n ∧ i = .int .i64 (k : Int) ∧ w.grownBy wr (some b) ∧ TRow wr b sa n cap al d u tab ∧ TurnAt f n k tab) (fun i _ => n - (intOf i).toNat)
      case atStart => exact ⟨0, _, Nat.zero_le _, rfl, HG.out, HW.out, HT0.out⟩
      case round =>
        clear k0 hlb HG HW HT0 hki hk
        obtain ⟨k, tab, hk, rfl, hgr, hrow, htab⟩ := hrel
        have HG : Hid (w.grownBy wr (some b)) := hgr
        have HW : Hid (TRow wr b sa n cap al d u tab) := hrow
        have HT : Hid (TurnAt f n k tab) := htab
        by_cases hkl : k < n
        · obtain ⟨bb, off, rfl, hbb, hat⟩ := (cells_grownT HR.out hgr hblt).atT hkl
          obtain ⟨c0, c1, c2⟩ := hat
          have hki : (k : Int) < (n : Int) := by omega
          have hk0 : (0 : Int) ≤ (k : Int) := by omega
          obtain ⟨⟨ac, al2, am⟩, ha⟩ : ∃ a, f k = a := ⟨_, rfl⟩
          have hacs := HSZ.out k hkl
          rw [ha] at c0 c1 c2 hacs
          simp only at c0 c1 c2 hacs
          have TB : Hid (TurnTo f n k 0 tab) := turnTo_begin htab
          have HEN : Hid (∀ tb, TurnTo f n k ac.size tb → TurnAt f n (k + 1) tb) := fun tb h9 => turnTo_end (by rw [ha]; exact h9)
          have HST : Hid (∀ m tb (hm : m < ac.size), TurnTo f n k m tb → TurnTo f n k (m + 1) (fun j => if j = ac[m].toNat then tb j ^^^ (tb j &&& 2 ^ k) else tb j)) := fun m tb hm h9 => by
            have h8 := turnTo_step h9 (by omega) (by rw [ha]; exact hm)
            simp only [ha] at h8
            exact h8
          have W2 : Hid (TRow (wr.alloc (.cells #[.string ac, .bool al2, .bool am] 98)) b (some ⟨bb, off, none⟩) n cap al d u tab) := HW.out.alloc _
          have G2 : Hid (w.grownBy (wr.alloc (.cells #[.string ac, .bool al2, .bool am] 98)) (some b)) := HG.out.trans (World.grownBy_alloc _ _ _)
          have X2 : Hid (CBox (wr.alloc (.cells #[.string ac, .bool al2, .bool am] 98)) wr.heap.size ⟨ac, al2, am⟩) := CBox.new wr ⟨ac, al2, am⟩ _
          have hpb : wr.heap.size ≠ b := by have := HW.out.lt; omega
          clear ha hgr hrow htab
          go_wp2_with fail
          generalize wr.alloc (.cells #[.string ac, .bool al2, .bool am] 98) = v at *
          generalize wr.heap.size = p at *
          clear c0 c1 c2 HW HG HT
          go_loopw [5] (fun iv wr => ∃ (m : Nat) (tb : Nat → Nat), m ≤ ac.size ∧ iv = .int .i64 (m : Int) ∧ v.grownBy wr (some b) ∧ TRow wr b (some ⟨bb, off, none⟩) n cap al d u tb ∧ TurnTo f n k m tb) (fun iv _ => ac.size - (intOf iv).toNat)
          case atStart => exact ⟨0, tab, Nat.zero_le _, rfl, World.grownBy.refl _ _, W2.out, TB.out⟩
          case round =>
            obtain ⟨m, tb, hm, rfl, hgr, hrow, htb⟩ := hrel
            have HG3 : Hid (v.grownBy wr (some b)) := hgr
            have HW3 : Hid (TRow wr b (some ⟨bb, off, none⟩) n cap al d u tb) := hrow
            have HT3 : Hid (TurnTo f n k m tb) := htb
            have hpl := X2.out.lt
            have x0 : wr.cell? ⟨p, 0, none⟩ = some (.string ac) := by
              have h9 := hgr.block p hpl (fun e => hpb (by injection e))
              have h8 := X2.out.c0
              simpa [World.cell?, h9] using h8
            by_cases hml : m < ac.size
            · have hmi : (m : Int) < (ac.size : Int) := by omega
              have hm0 : (0 : Int) ≤ (m : Int) := by omega
              obtain ⟨x, hx⟩ : ∃ x, ac[m].toNat = x := ⟨_, rfl⟩
              have hx256 : x < 256 := by rw [← hx]; exact ac[m].toNat_lt
              have HT4 := HST.out m tb hml htb
              rw [hx] at HT4
              have HT5 : Hid (TurnTo f n k (m + 1) (fun j => if j = x then tb j ^^^ (tb j &&& 2 ^ k) else tb j)) := HT4
              have cx := hrow.tb x hx256
              have fx := hrow.fr (5 + x) (by omega)
              have hlb := hrow.lt
              have hx0 : (0 : Int) ≤ (x : Int) := by omega
              have hx1 : (x : Int) < 256 := by omega
              have hpw := wrap_powP (r := k) (by omega)
              have hor : bits .andNot .u64 (tb x : Int) ((2 ^ k : Nat) : Int) = ((tb x ^^^ (tb x &&& 2 ^ k) : Nat) : Int) := andNot64 (htb x hx256).lt
              have W5 : Hid (TRow (wr.setCell ⟨b, 5 + x, none⟩ (.int .u64 ((tb x ^^^ (tb x &&& 2 ^ k) : Nat) : Int))) b (some ⟨bb, off, none⟩) n cap al d u (fun j => if j = x then tb j ^^^ (tb j &&& 2 ^ k) else tb j)) := by
                have h9 := HW3.out.set hx256 (tb x ^^^ (tb x &&& 2 ^ k))
                refine ⟨h9.c0, h9.c1, h9.c2, h9.c3, fun j hj => ?_, h9.fr, h9.lt⟩
                rw [h9.tb j hj]
                by_cases e : j = x
                · subst e; simp
                · simp [e]
              generalize ((tb x ^^^ (tb x &&& 2 ^ k) : Nat) : Int) = z at *
              generalize ((2 ^ k : Nat) : Int) = P at *
              clear HT4 hgr hrow htb
              go_wp2_with fail
              go_region
              all_goals
                go_wp2_with fail
                go_roundw
                case rel => exact ⟨m + 1, _, by omega, by go_num, grown_drewT (only_setT HG3.out), W5.out.drew, HT5.out⟩
                case measure => simp [intOf]; omega
            · have hmi : ¬ (m : Int) < (ac.size : Int) := by omega
              obtain rfl : m = ac.size := by omega
              have HT6 : Hid (TurnAt f n (k + 1) tb) := HEN.out tb htb
              clear hgr hrow htb
              go_wp2_with fail
              go_roundw
              case rel => exact ⟨k + 1, tb, by omega, by go_num, G2.out.trans HG3.out, HW3.out, HT6.out⟩
              case measure => simp [intOf]; omega
        · have hki : ¬ (k : Int) < (n : Int) := by omega
          obtain rfl : k = n := by omega
          clear hgr hrow htab
          go_wp2_with fail
          go_end0
          exact ⟨rfl, HG.out, tab, HW.out, HT.out⟩
end Go.Proofs.YtfeolbgenpknfaaGreat
namespace Go.Proofs.YtfeolbgenpknfaaGreat
open Go.RowKit

set_option maxRecDepth 100000 in
set_option maxHeartbeats 4000000 in
theorem turnSlow_any (b : Nat) (sa : Option Addr) (n cap : Nat) (f : Nat → Cel) (w : World) (hn : n ≤ 60) (hsz : ∀ i, i < n → (f i).c.size ≤ 256) (hr : CRow w b sa n f) (hk : TRow w b sa n cap (2 ^ n - 1) 0 0 (fun _ => 0)) :
    Calls Tryz.prog 102 #[.pointer (some ⟨b, 2, none⟩), .func (.func 82) #[.pointer (some ⟨b, 0, none⟩)] #[]] w fun e w' => ∃ tab : Nat → Nat, e = .returned (.tuple #[]) ∧ w.grownBy w' (some b) ∧ TRow w' b sa n cap (2 ^ n - 1) 1 0 tab ∧ TurnAt f n n tab := by
  have k1 := hk.lock 1
  have g1 : w.grownBy (w.setCell ⟨b, 3, none⟩ (.int .i32 1)) (some b) := only_setT (World.grownBy.refl _ _)
  have r1 := cells_grownT hr g1 hk.lt
  have hl := run_call_load (P := Tryz.prog) Tryz.func108 (by kernel_rfl) (by kernel_rfl) (by kernel_rfl) .u32 (by kernel_rfl) (w := w.setCell ⟨b, 3, none⟩ (.int .i32 1)) (a := ⟨b, 2, none⟩) (x := 0) k1.c2
  have hnot : ∀ (x : Bool) (w : World), (Op.unary .not (.bool x)).run Tryz.prog w = .ok (.bool (!x)) w := fun _ _ => rfl
  have FC := turnFill_any b sa n cap 0 1 f (w.setCell ⟨b, 3, none⟩ (.int .i32 1)) hn hsz r1 k1
  have c4 := hk.c3
  have f4 := hk.fr 3 (by omega)
  have G1 : Hid (w.grownBy (w.setCell ⟨b, 3, none⟩ (.int .i32 1)) (some b)) := g1
  clear k1 r1 hr hk hsz g1
  go_enter_defers Tryz.func102, Tryz.ntmps102
  go_wp2_with (first | (go_at_call 109; refine (lock_free ⟨b, 3, none⟩ _ (by first | exact c4 | go_simp) (by first | exact f4 | go_simp)).mono ?_; rintro e w' ⟨rfl, rfl⟩) | (go_at_call 101; go_in))
  refine FC.mono ?_
  rintro e w1 ⟨tab, rfl, hg, hk1, htab⟩
  have G2 : Hid (w.grownBy w1 (some b)) := G1.out.trans hg
  have HT : Hid (TurnAt f n n tab) := htab
  have HK1 : Hid (TRow w1 b sa n cap (2 ^ n - 1) 0 1 tab) := hk1
  clear hg hk1 htab FC hl
  go_wp2_with fail
  refine leaves_cons (f := 111) (args := #[.pointer (some ⟨b, 2, none⟩), .bool true]) (by simp) (by simp [go_sem]) ?_
  refine (store_deferred ⟨b, 2, none⟩ (.int .u32 0) .returning _ HK1.out.c2 (HK1.out.fr 2 (by omega))).mono ?_
  rintro e u' w2 ⟨rfl, rfl, rfl⟩
  have HK2 := HK1.out.drew.done 1
  have G3 : Hid (w.grownBy (w1.drew.setCell ⟨b, 2, none⟩ (.int .u32 1)) (some b)) := only_setT (grown_drewT G2.out)
  refine leaves_cons (f := 110) (args := #[.pointer (some ⟨b, 3, none⟩)]) (by simp [settle]) (by simp [go_sem]) ?_
  refine (unlock_deferred ⟨b, 3, none⟩ _ _ HK2.c3 (HK2.fr 3 (by omega))).mono ?_
  rintro e u' w3 ⟨rfl, rfl, rfl⟩
  have FIN : ∃ tab : Nat → Nat, Ending.returned (.tuple #[]) = .returned (.tuple #[]) ∧ w.grownBy ((w1.drew.setCell ⟨b, 2, none⟩ (.int .u32 1)).setCell ⟨b, 3, none⟩ (.int .i32 0)) (some b) ∧ TRow ((w1.drew.setCell ⟨b, 2, none⟩ (.int .u32 1)).setCell ⟨b, 3, none⟩ (.int .i32 0)) b sa n cap (2 ^ n - 1) 1 0 tab ∧ TurnAt f n n tab := ⟨tab, rfl, only_setT G3.out, HK2.lock 0, HT.out⟩
  simp [Leaves, settle, results, Tryz.results102]
  simpa using FIN
set_option maxRecDepth 100000 in
set_option maxHeartbeats 1600000 in
theorem turnDo_first (b : Nat) (sa : Option Addr) (n cap : Nat) (f : Nat → Cel) (w : World) (hn : n ≤ 60) (hsz : ∀ i, i < n → (f i).c.size ≤ 256) (hr : CRow w b sa n f) (hk : TRow w b sa n cap (2 ^ n - 1) 0 0 (fun _ => 0)) :
    Calls Tryz.prog 81 #[.pointer (some ⟨b, 2, none⟩), .func (.func 82) #[.pointer (some ⟨b, 0, none⟩)] #[]] w fun e w' => ∃ tab : Nat → Nat, e = .returned (.tuple #[]) ∧ w.grownBy w' (some b) ∧ TRow w' b sa n cap (2 ^ n - 1) 1 0 tab ∧ TurnAt f n n tab := by
  have hl := run_call_load (P := Tryz.prog) Tryz.func108 (by kernel_rfl) (by kernel_rfl) (by kernel_rfl) .u32 (by kernel_rfl) hk.c2
  have hnot : ∀ (x : Bool) (w : World), (Op.unary .not (.bool x)).run Tryz.prog w = .ok (.bool (!x)) w := fun _ _ => rfl
  have SL := turnSlow_any b sa n cap f w hn hsz hr hk
  clear hr hk hsz
  go_enter Tryz.func81, Tryz.ntmps81
  go_wp2_with (first | (go_at_call 101; go_in))
  refine SL.mono ?_
  rintro e w1 ⟨tab, rfl, hg, hk1, htab⟩
  have HH : Hid (w.grownBy w1 (some b) ∧ TRow w1 b sa n cap (2 ^ n - 1) 1 0 tab ∧ TurnAt f n n tab) := ⟨hg, hk1, htab⟩
  clear hg hk1 htab SL hl
  go_wp2_with fail
  go_end0
  first | exact ⟨rfl, HH.out.1, tab, HH.out.2⟩ | exact ⟨tab, rfl, HH.out⟩
/-- A turned row that is ready: its table is not made yet, or it is made. -/
def TReady (W : World) (b : Nat) (sa : Option Addr) (n cap : Nat) (f : Nat → Cel) : Prop := TRow W b sa n cap (2 ^ n - 1) 0 0 (fun _ => 0) ∨ ∃ tab, TRow W b sa n cap (2 ^ n - 1) 1 0 tab ∧ TurnAt f n n tab
theorem TReady.cells {W : World} {b : Nat} {sa : Option Addr} {n cap : Nat} {f : Nat → Cel} (h : TReady W b sa n cap f) : W.cell? ⟨b, 0, none⟩ = some (.slice sa n cap) ∧ W.cell? ⟨b, 1, none⟩ = some (.int .u64 ((2 ^ n - 1 : Nat) : Int)) ∧ b < W.heap.size := by
  rcases h with h | ⟨tab, h, _⟩
  · exact ⟨h.c0, h.c1, h.lt⟩
  · exact ⟨h.c0, h.c1, h.lt⟩
theorem TReady.kept {W W' : World} {B b : Nat} {sa : Option Addr} {n cap : Nat} {f : Nat → Cel} (h : TReady W b sa n cap f) (hb : Below B W W') (hB : b < B) : TReady W' b sa n cap f := by
  rcases h with h | ⟨tab, h, h2⟩
  · exact Or.inl (h.kept hb hB)
  · exact Or.inr ⟨tab, h.kept hb hB, h2⟩
set_option maxRecDepth 100000 in
set_option maxHeartbeats 1600000 in
theorem lacking_any (b : Nat) (sa : Option Addr) (n cap c : Nat) (f : Nat → Cel) (w : World) (hn : n ≤ 60) (hc : c < 256) (hsz : ∀ i, i < n → (f i).c.size ≤ 256) (hr : CRow w b sa n f) (hk : TReady w b sa n cap f) :
    Calls Tryz.prog 56 #[.pointer (some ⟨b, 0, none⟩), .int .u8 (c : Int)] w fun e w' => ∃ x : Nat, e = .returned (.int .u64 (x : Int)) ∧ IsBits x (lackB f n c) ∧ TReady w' b sa n cap f ∧ w.grownBy w' (some b) := by
  have hmf : ∀ (fn : Fn) (first cap : Array Value) (w : World), (Instr.makeFunc fn first cap).run Tryz.prog w = .ok (.func fn first cap) w := fun _ _ _ _ => rfl
  have hc0 : (0 : Int) ≤ (c : Int) := by omega
  have hc1 : (c : Int) < 256 := by omega
  rcases hk with hk | ⟨tab, hk, ht⟩
  · have DO := turnDo_first b sa n cap f w hn hsz hr hk
    have hlt := hk.lt
    clear hr hk hsz
    go_enter Tryz.func56, Tryz.ntmps56
    go_wp2_with fail
    refine DO.mono ?_
    rintro e w1 ⟨tab, rfl, hg, hk1, htab⟩
    have HH : Hid (IsBits (tab c) (lackB f n c) ∧ TReady w1 b sa n cap f ∧ w.grownBy w1 (some b)) := ⟨turnAt_lack htab hc, Or.inr ⟨tab, hk1, htab⟩, hg⟩
    have cx := hk1.tb c hc
    have hlt1 := hk1.lt
    clear DO hg hk1 htab
    go_wp2_with fail
    go_ret
    exact ⟨tab c, rfl, HH.out⟩
  · have DO := do_done ⟨b, 2, none⟩ (.func (.func 82) #[.pointer (some ⟨b, 0, none⟩)] #[]) w hk.c2
    have hlt := hk.lt
    have cx := hk.tb c hc
    have HH : Hid (IsBits (tab c) (lackB f n c) ∧ TReady w b sa n cap f) := ⟨turnAt_lack ht hc, Or.inr ⟨tab, hk, ht⟩⟩
    clear hr hk hsz ht
    go_enter Tryz.func56, Tryz.ntmps56
    go_wp2_with fail
    refine DO.mono ?_
    rintro e w1 ⟨rfl, hw⟩
    rw [hw]
    clear DO hw w1
    go_wp2_with fail
    go_ret
    exact ⟨tab c, rfl, HH.out.1, HH.out.2, World.grownBy.refl _ _⟩
end Go.Proofs.YtfeolbgenpknfaaGreat
namespace Go.Proofs.YtfeolbgenpknfaaGreat
open Go.RowKit

set_option maxHeartbeats 1000000 in
theorem implNew_yes (b : Int) (m : Nat) (w : World) (h0 : 1 ≤ b) (h1 : b ≤ 320) (hm : (m : Int) = (b + 31) / 32) :
    Calls Tryz.prog 98 #[.int .i64 b] w fun e w' => NewVec w b m (fun _ => 0) e w' := by
  have HM : Hid ((m : Int) = (b + 31) / 32) := hm
  have hm1 : m ≤ 10 := by omega
  clear hm
  go_enter Tryz.func98, Tryz.ntmps98
  go_wp2_with fail
  refine (wordsFor_any b _ (by omega) h1).mono ?_
  rintro e w1 ⟨rfl, hw⟩
  subst hw
  rw [← HM.out]
  have q3 := boxing w 29 0 none 0 0
  generalize w.alloc (.cells #[.int .i64 0, .slice none 0 0] 29) = v at *
  obtain ⟨u, g, hmk, hg1, hg2, hbu, hown⟩ := make_new v m (by omega)
  have HO : Hid (Own u g m (fun _ => 0)) := hown
  have S : Hid (Since w u) := since_call (since_call (since_refl _) q3.1) hbu
  obtain ⟨cb0, cb1, cb2, cb3⟩ := (q3.2.1.kept hbu rfl).four
  have l1 : w.heap.size < g := by have := q3.2.2; omega
  have l2 : w.heap.size < u.heap.size := by omega
  clear q3 hown hbu hg1
  go_wp2
  refine bodyPost_ret (v := vecV b (some ⟨g, 0, none⟩) m m) (by simp [results, Tryz.results98, go_sem, vecV, cb0, cb1]) rfl ?_
  exact ⟨_, _, rfl, (since_set (since_set S.out (by show w.heap.size ≤ w.heap.size; omega)) (by show w.heap.size ≤ w.heap.size; omega)).below, Or.inr ⟨_, rfl, by omega, (HO.out.setOther _ _ (by show w.heap.size ≠ g; omega)).setOther _ _ (by show w.heap.size ≠ g; omega)⟩⟩
set_option maxHeartbeats 1000000 in
theorem implNew_no (b : Int) (w : World) (h : ¬ (1 ≤ b ∧ b ≤ 320)) :
    Calls Tryz.prog 98 #[.int .i64 b] w fun e w' => NewVec w 0 0 (fun _ => 0) e w' := by
  have S : Hid (Since w (w.alloc (.cells #[.int .i64 0, .slice none 0 0] 29))) := since_alloc (since_refl _)
  rcases (show b < 1 ∨ 1 ≤ b ∧ 320 < b from by omega) with hx | ⟨hx, hx2⟩
  · clear h
    go_enter Tryz.func98, Tryz.ntmps98
    go_wp2
    refine bodyPost_ret (v := vecV 0 none 0 0) (by simp [results, Tryz.results98, go_sem, vecV]) rfl ?_
    exact ⟨_, _, rfl, S.out.below, Or.inl rfl⟩
  · clear h
    go_enter Tryz.func98, Tryz.ntmps98
    go_wp2
    refine bodyPost_ret (v := vecV 0 none 0 0) (by simp [results, Tryz.results98, go_sem, vecV]) rfl ?_
    exact ⟨_, _, rfl, S.out.below, Or.inl rfl⟩
end Go.Proofs.YtfeolbgenpknfaaGreat
namespace Go.Proofs.YtfeolbgenpknfaaGreat
open Go.RowKit

set_option maxRecDepth 100000 in
set_option maxHeartbeats 4000000 in
theorem pvec_any (x n m : Nat) (w : World) (hx : x < 18446744073709551616) (hn : n ≤ 60) (hm : m = (n + 1 + 31) / 32) :
    Calls Tryz.prog 78 #[.int .u64 (x : Int), .int .i64 (n : Int)] w fun e w' => NewVec w ((n : Int) + 1) m (wordsN x) e w' := by
  have hm2 : m ≤ 2 := by omega
  have hm1 : 1 ≤ m := by omega
  have C := fun W => implNew_yes ((n : Int) + 1) m W (by omega) (by omega) (by omega)
  have HC : Hid (∀ W, Calls Tryz.prog 98 #[.int .i64 ((n : Int) + 1)] W fun e w' => NewVec W ((n : Int) + 1) m (fun _ => 0) e w') := C
  clear C hm
  go_enter Tryz.func78, Tryz.ntmps78
  go_wp2_with fail
  have q0 := boxing w 29 0 none 0 0
  generalize w.alloc (.cells #[.int .i64 0, .slice none 0 0] 29) = v0 at *
  refine (HC.out v0).mono ?_
  rintro e w1 ⟨s1, c1, rfl, hb1, ho1⟩
  unfold vecV
  have X0 : Hid (Boxed w1 w.heap.size 29 0 none 0 0) := q0.2.1.kept hb1 rfl
  have S1 : Hid (Since w w1) := since_call (since_call (since_refl _) q0.1) hb1
  obtain ⟨g, rfl, hgl, ho⟩ : ∃ g, s1 = some ⟨g, 0, none⟩ ∧ v0.heap.size ≤ g ∧ Own w1 g m (fun _ => 0) := by
    rcases ho1 with h | h
    · omega
    · exact h
  have O1 : Hid (Own w1 g m (fun _ => 0)) := ho
  have hg0 : w.heap.size < g := by have := q0.2.2; omega
  have hg1 := ho.1
  have q2 := boxing w1 29 ((n : Int) + 1) (some ⟨g, 0, none⟩) m c1
  clear q0 hb1 ho1 ho hgl
  go_wp2_with fail
  generalize w1.alloc (.cells #[.int .i64 ((n : Int) + 1), .slice (some ⟨g, 0, none⟩) m c1] 29) = v2 at *
  have X2 : Hid (Boxed v2 w.heap.size 29 0 none 0 0) := X0.out.kept q2.1 rfl
  have Y2 : Hid (Boxed v2 w1.heap.size 29 ((n : Int) + 1) (some ⟨g, 0, none⟩) m c1) := q2.2.1
  have S2 : Hid (Since w v2) := since_call S1.out q2.1
  have O2 : Hid (Own v2 g m (fun _ => 0)) := O1.out.kept q2.1 hg1
  clear q2 X0 S1 O1
  generalize w1.heap.size = p at *
  go_loopw [13] (fun iv wr => ∃ k : Nat, k ≤ m ∧ iv = .int .i64 (k : Int) ∧ Boxed wr w.heap.size 29 0 none 0 0 ∧ Boxed wr p 29 ((n : Int) + 1) (some ⟨g, 0, none⟩) m c1 ∧ Since w wr ∧ Own wr g m (fun i => if i < k then wordsN x i else 0)) (fun iv _ => m - (intOf iv).toNat)
  case atStart => exact ⟨0, Nat.zero_le _, rfl, X2.out, Y2.out, S2.out, O2.out.congr (fun i _ => by simp)⟩
  case round =>
    obtain ⟨k, hk, rfl, hX, hY, hS, hO⟩ := hrel
    have HX : Hid (Boxed wr w.heap.size 29 0 none 0 0) := hX
    have HY : Hid (Boxed wr p 29 ((n : Int) + 1) (some ⟨g, 0, none⟩) m c1) := hY
    have HS : Hid (Since w wr) := hS
    have HO : Hid (Own wr g m (fun i => if i < k then wordsN x i else 0)) := hO
    obtain ⟨y0, y1⟩ := hY.cells
    have ylt := hY.lt
    by_cases hkl : k < m
    · have hki : (k : Int) < (m : Int) := by omega
      have hk0 : (0 : Int) ≤ (k : Int) := by omega
      have ck := hO.2.1 k hkl
      have fk := hO.2.2 k hkl
      have hglt := hO.1
      obtain ⟨s, hs⟩ : ∃ s, k * 32 = s := ⟨_, rfl⟩
      have hsi : (k : Int) * 32 = (s : Int) := by omega
      have hsw : IntKind.i64.wrap ((k : Int) * 32) = (s : Int) := by rw [IntKind.wrap_i64]; omega
      have hs0 : (0 : Int) ≤ (s : Int) := by omega
      have hsh : (x : Int) / 2 ^ s = ((x / 2 ^ s : Nat) : Int) := by simp
      have hxl : x / 2 ^ s < 18446744073709551616 := Nat.lt_of_le_of_lt (Nat.div_le_self _ _) hx
      have hand := and_word64 hxl
      have HW : Hid (wordsN x k = ((x / 2 ^ s % 4294967296 : Nat) : Int)) := by show wordsN x k = _; unfold wordsN; rw [hs]
      have hzl : x / 2 ^ s % 4294967296 < 4294967296 := Nat.mod_lt _ (by decide)
      generalize x / 2 ^ s % 4294967296 = z at *
      generalize x / 2 ^ s = y at *
      have hwz : IntKind.i64.wrap (z : Int) = (z : Int) := by rw [IntKind.wrap_i64]; omega
      have hwy : IntKind.u64.wrap (y : Int) = (y : Int) := by rw [IntKind.wrap_u64]; omega
      have hpg : g ≠ p := by omega
      have hwg : g ≠ w.heap.size := by omega
      clear hX hY hS hO hs
      go_wp2_with fail
      go_region
      all_goals
        go_wp2_with fail
        go_roundw
        case rel => exact ⟨k + 1, by omega, by go_num, (HX.out.setOther _ _ hwg).drew, (HY.out.setOther _ _ hpg).drew, since_drew (since_set HS.out (by show w.heap.size ≤ g; omega)), ((HO.out.set hkl (z : Int)).congr (fun i hi => by
          by_cases e : i = k
          · subst e; rw [if_pos rfl, if_pos (by omega), HW.out]
          · rw [if_neg e]
            by_cases e2 : i < k
            · rw [if_pos e2, if_pos (by omega)]
            · rw [if_neg e2, if_neg (by omega)])).drew⟩
        case measure => simp [intOf]; omega
    · have hki : ¬ (k : Int) < (m : Int) := by omega
      obtain rfl : k = m := by omega
      obtain ⟨a0, a1, a2, a3⟩ := hX.four
      have xlt := hX.lt
      have hne1 : w.heap.size ≠ p := by omega
      clear hX hY hS hO
      go_wp2_with fail
      refine bodyPost_ret (v := vecV ((n : Int) + 1) (some ⟨g, 0, none⟩) k c1) (by simp [results, Tryz.results78, go_sem, vecV, a0, a1]) rfl ?_
      exact ⟨_, _, rfl, (since_set (since_set HS.out (by show w.heap.size ≤ w.heap.size; omega)) (by show w.heap.size ≤ w.heap.size; omega)).below, Or.inr ⟨g, rfl, by omega, ((HO.out.congr (fun i hi => if_pos hi)).setOther _ _ (by show w.heap.size ≠ g; omega)).setOther _ _ (by show w.heap.size ≠ g; omega)⟩⟩
end Go.Proofs.YtfeolbgenpknfaaGreat
