/- What is proved here: the program's endsOfAll hands back the ends of right patterns in a text, slice by slice, in new memory; nothing that was there turns.
   What is proved here: the program's endsOfAll says that a pattern is not right; nothing that was there turns. -/
import Derived.Test.YtfeolbgenpknfaaQSpecHitsNWToCapIntsM
import Derived.Test.YtfeolbgenpknfaaQHeadsMToImplEndsCW
import Derived.Test.YtfeolbgenpknfaaQEndRowsMToAARowM
namespace Go.Proofs.Ytfeolbgenpknfaa
open Go.RowKit

open Classical in
set_option maxRecDepth 100000 in
set_option maxHeartbeats 4000000 in
theorem endsAll_yes (sa : Option Addr) (k cap : Nat) (s : Nat → Option Addr) (n c : Nat → Nat) (f : Nat → Nat → Atm) (t : ByteArray) (P : Nat → Nat → Bool) (w : World) (hk : k ≤ 400) (ht : t.size ≤ 8000) (hr : AARows w w.heap.size sa k s n c f) (hn : ∀ i, i < k → n i ≤ maxLen) (hc : ∀ i, i < k → ∀ j, j < n i → (f i j).c.size ≤ maxLen) (hR : ∀ i, i < k → PatRight (n i) (f i)) (hp : ∀ i, i < k → ∀ e, e ≤ t.size → (P i e = true ↔ ∃ s, s < e ∧ Cuts t (atomsL (f i) (n i)) s e)) :
    Calls Try.prog 67 #[.slice sa k cap, .string t] w fun e w' => ∃ (g : Nat) (s' : Nat → Option Addr) (c' : Nat → Nat), e = .returned (.tuple #[.slice (some ⟨g, 0, none⟩) k k, .bool true]) ∧ w.heap.size ≤ g ∧ Below w.heap.size w w' ∧ Heads w' g w'.heap.size k s' c' (fun i => classL (P i) (t.size + 1)) := by
  have C := containsP_any sa k cap s n c f w (by omega) hr (fun i hi W hW => implPRight_any (s i) (n i) (c i) (f i) W (hn i hi) hW (hc i hi))
  rw [decide_eq_false (fun ⟨i, h1, h2⟩ => h2 (hR i h1))] at C
  have HR : Hid (AARows w w.heap.size sa k s n c f) := hr
  have HEN : Hid (∀ i, i < k → ∀ W, ARow W W.heap.size (s i) (n i) (f i) → Calls Try.prog 12 #[.slice (s i) (n i) (c i), .string t] W fun e w' => NewIntsC W (classL (P i) (t.size + 1)).length (fun j => (classL (P i) (t.size + 1)).getD j 0) e w') := fun i hi W hW => implEnds_cap (s i) (n i) (c i) (f i) t (P i) W (hn i hi) hW (hc i hi) ht (hR i hi) (hp i hi)
  obtain ⟨LL, hLL⟩ : ∃ LL : Nat → List Int, LL = fun i => classL (P i) (t.size + 1) := ⟨_, rfl⟩
  have HEN2 : Hid (∀ i, i < k → ∀ W, ARow W W.heap.size (s i) (n i) (f i) → Calls Try.prog 12 #[.slice (s i) (n i) (c i), .string t] W fun e w' => NewIntsC W (LL i).length (fun j => (LL i).getD j 0) e w') := by rw [hLL]; exact HEN.out
  rw [← hLL]
  clear hr hn hc hR hp HEN hLL
  go_enter Try.func67, Try.ntmps67
  go_wp2_with fail
  refine C.mono ?_
  rintro e w1 ⟨rfl, hb⟩
  have HB1 : Hid (Below w.heap.size w w1) := hb
  clear C hb
  obtain ⟨C1, hmk, hheads⟩ := make_heads w1 k (by omega)
  have HH0 : Hid (Heads (w1.alloc (.cells C1 27)) w1.heap.size (w1.heap.size + 1) k (fun _ => none) (fun _ => 0) (fun _ => [])) := hheads
  have HBW : Hid (Below w.heap.size w (w1.alloc (.cells C1 27))) := HB1.out.alloc HB1.out.size _
  have hsz : (w1.alloc (.cells C1 27)).heap.size = w1.heap.size + 1 := by simp
  have HSZ : Hid ((w1.alloc (.cells C1 27)).heap.size = w1.heap.size + 1) := hsz
  have HGL : Hid (w.heap.size ≤ w1.heap.size) := HB1.out.size
  clear hheads hsz
  go_wp2_with fail
  generalize w1.alloc (.cells C1 27) = w2 at *
  generalize w1.heap.size = g at *
  clear hmk HB1
  go_loopw [16] (fun iv wr => ∃ (i : Nat) (s' : Nat → Option Addr) (c' : Nat → Nat), i ≤ k ∧ iv = .int .i64 (i : Int) ∧ Below w.heap.size w wr ∧ Heads wr g wr.heap.size k s' c' (fun j => if j < i then LL j else [])) (fun iv _ => k - (intOf iv).toNat)
  case atStart => exact ⟨0, _, _, Nat.zero_le _, rfl, HBW.out, ((HH0.out.up (by have := HSZ.out; omega) (Nat.le_refl _)).congr (fun i hi => by simp))⟩
  case round =>
    obtain ⟨i, s', c', hik, rfl, hbel, hheads⟩ := hrel
    have HB : Hid (Below w.heap.size w wr) := hbel
    have HH : Hid (Heads wr g wr.heap.size k s' c' (fun j => if j < i then LL j else [])) := hheads
    by_cases hil : i < k
    · have hii : (i : Int) < (k : Int) := by omega
      have hi0 : (0 : Int) ≤ (i : Int) := by omega
      obtain ⟨bb, off, rfl, hbb, ci, hrow⟩ := (HR.out.late HB.out).at hil
      have C := HEN2.out i hil wr hrow
      clear hbel hheads hrow
      obtain ⟨si, hsi⟩ : ∃ x, s i = x := ⟨_, rfl⟩
      obtain ⟨ni, hni⟩ : ∃ x, n i = x := ⟨_, rfl⟩
      obtain ⟨c9, hc9⟩ : ∃ x, c i = x := ⟨_, rfl⟩
      rw [hsi, hni, hc9] at ci C
      clear hsi hni hc9
      go_wp2_with fail
      refine C.mono ?_
      rintro e w3 ⟨s3, c3, rfl, hcap, hb, ho⟩
      have HB3 : Hid (Below w.heap.size w w3) := HB.out.trans (hb.mono HB.out.size)
      have HH3 : Heads w3 g w3.heap.size k s' c' (fun j => if j < i then LL j else []) := (HH.out.call hb (Nat.le_refl _)).up hb.size (Nat.le_refl _)
      have hcell := HH3.cells i hil
      have HL : LeftAt w3 w3.heap.size g s3 c3 (LL i) := left_new hcap ho (Nat.le_refl _) HH.out.lt
      have HNEW := HH3.set hil HL
      have HN : Hid (Heads (w3.setCell ⟨g, i, none⟩ (.slice s3 (LL i).length c3)) g w3.heap.size k (fun j => if j = i then s3 else s' j) (fun j => if j = i then c3 else c' j) (fun j => if j < i + 1 then LL j else [])) := HNEW.congr (fun j hj => by
        by_cases e : j = i
        · rw [if_pos e, if_pos (by omega), e]
        · rw [if_neg e]
          by_cases e2 : j < i
          · rw [if_pos e2, if_pos (by omega)]
          · rw [if_neg e2, if_neg (by omega)])
      have HBS : Hid (Below w.heap.size w (w3.setCell ⟨g, i, none⟩ (.slice s3 (LL i).length c3))) := HB3.out.setCell (p := ⟨g, i, none⟩) HGL.out _
      have hgl : g < w3.heap.size := HH3.lt
      obtain ⟨hc1, hc2⟩ := hcell
      clear HNEW HL HH3 ho hb hcap C HH HB
      generalize (LL i).length = li at *
      go_wp2_with fail
      go_roundw
      case rel => exact ⟨i + 1, _, _, by omega, by go_num, HBS.out, HN.out.up (by simp [World.setCell]) (Nat.le_refl _)⟩
      case measure => simp [intOf]; omega
    · have hii : ¬ (i : Int) < (k : Int) := by omega
      have HF : Hid (Heads wr g wr.heap.size k s' c' LL) := hheads.congr (fun j hj => by rw [if_pos (by omega)])
      clear hbel hheads
      go_wp2_with fail
      go_ret2
      exact ⟨g, rfl, HGL.out, HB.out, s', c', HF.out⟩
end Go.Proofs.Ytfeolbgenpknfaa
namespace Go.Proofs.Ytfeolbgenpknfaa
open Go.RowKit

open Classical in
set_option maxHeartbeats 1000000 in
theorem endsAll_no (sa : Option Addr) (k cap : Nat) (s : Nat → Option Addr) (n c : Nat → Nat) (f : Nat → Nat → Atm) (t : ByteArray) (w : World) (hk : k ≤ 1048576) (hr : AARows w w.heap.size sa k s n c f) (hn : ∀ i, i < k → n i ≤ maxLen) (hc : ∀ i, i < k → ∀ j, j < n i → (f i j).c.size ≤ maxLen) (hR : ∃ i, i < k ∧ ¬ PatRight (n i) (f i)) :
    Calls Try.prog 67 #[.slice sa k cap, .string t] w fun e w' => e = .returned (.tuple #[.slice none 0 0, .bool false]) ∧ Below w.heap.size w w' := by
  have C := containsP_any sa k cap s n c f w hk hr (fun i hi W hW => implPRight_any (s i) (n i) (c i) (f i) W (hn i hi) hW (hc i hi))
  rw [decide_eq_true hR] at C
  clear hr hn hc hR
  go_enter Try.func67, Try.ntmps67
  go_wp2_with fail
  refine C.mono ?_
  rintro e w1 ⟨rfl, hb⟩
  have HB : Hid (Below w.heap.size w w1) := hb
  clear C hb
  go_wp2_with fail
  go_ret2
  exact ⟨rfl, HB.out⟩
end Go.Proofs.Ytfeolbgenpknfaa
