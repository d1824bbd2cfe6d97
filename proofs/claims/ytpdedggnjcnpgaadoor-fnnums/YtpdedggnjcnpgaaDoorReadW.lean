/- What is proved here: impl.readUnsigned hands back what getU tells of the bytes from a place on; nothing in memory turns. -/
import Derived.Test.YtpdedggnjcnpgaaDoorProg
import Derived.WalkKit
import Derived.WalkMore
import Derived.ScopeJumps
import Derived.Laws.BitsAllLaws
import Derived.Laws.BitsLemmas
namespace Go.Proofs.YtpdedggnjcnpgaaDoor
open Go.RowKit

/-- As Q; by a goto to label l: J l. -/
def jumps (J : Nat → Act → World → Prop) (Q : Exit → Act → World → Prop) : Exit → Act → World → Prop
  | .goto l, a, w => J l a w
  | e, a, w => Q e a w

/-- A scope in which the run jumps to several labels: what holds at each jump, and a measure that every pass lowers. -/
theorem wp_scope_labels {P : Program} {a : Act} {w : World} {Q : Exit → Act → World → Prop} {c : Code} (J : Nat → Act → World → Prop) (μ : Nat → Act → World → Nat)
    (first : c.wp P (jumps J Q) a w)
    (pass : ∀ l a w, J l a w → ∃ rest, findLabel c l = some rest ∧ rest.wp P (jumps (fun l' a' w' => J l' a' w' ∧ μ l' a' w' < μ l a w) Q) a w) : (Code.scope c).wp P Q a w := by
  intro b k cs
  have key : ∀ n l a w, μ l a w = n → J l a w → ∃ rest e a' w', findLabel c l = some rest ∧ Q e a' w' ∧ Arrives P (lone (b.at a (.code rest :: .inScope c :: k)) cs w) b k cs e a' w' := by
    intro n
    induction n using Nat.strongRecOn with
    | _ n ih =>
      intro l a w hn hJ
      obtain ⟨rest, hf, hp⟩ := pass l a w hJ
      obtain ⟨e, a₁, w₁, hq, harr⟩ := hp b (.inScope c :: k) cs
      cases e with
      | normal => exact ⟨rest, .normal, a₁, w₁, hf, hq, Steps.trans harr (.one step_inScope)⟩
      | exit id => exact ⟨rest, .exit id, a₁, w₁, hf, hq, fun k' hk => harr k' (by simp [exitTo, hk])⟩
      | goto l' =>
        obtain ⟨hJ', hlt⟩ := hq
        obtain ⟨rest₂, e₂, a₂, w₂, hf₂, hq₂, harr₂⟩ := ih _ (by omega) l' a₁ w₁ rfl hJ'
        have hg : gotoIn l' (.inScope c :: k) = some (.code rest₂ :: .inScope c :: k) := by simp [gotoIn, hf₂]
        exact ⟨rest, e₂, a₂, w₂, hf, hq₂, .of_steps (harr _ hg) harr₂⟩
      | ret => exact ⟨rest, _, a₁, w₁, hf, hq, harr⟩
      | panic ch => exact ⟨rest, _, a₁, w₁, hf, hq, harr⟩
      | outgrown => exact ⟨rest, _, a₁, w₁, hf, hq, harr⟩
  obtain ⟨e, a₁, w₁, hq, harr⟩ := first b (.inScope c :: k) cs
  cases e with
  | normal => exact ⟨.normal, a₁, w₁, hq, .head step_scope (Steps.trans harr (.one step_inScope))⟩
  | exit id => exact ⟨.exit id, a₁, w₁, hq, fun k' hk => .head step_scope (harr k' (by simp [exitTo, hk]))⟩
  | goto l' =>
    obtain ⟨rest₂, e₂, a₂, w₂, hf₂, hq₂, harr₂⟩ := key _ l' a₁ w₁ rfl hq
    have hg : gotoIn l' (.inScope c :: k) = some (.code rest₂ :: .inScope c :: k) := by simp [gotoIn, hf₂]
    exact ⟨e₂, a₂, w₂, hq₂, .of_steps (.head step_scope (harr _ hg)) harr₂⟩
  | ret => exact ⟨_, a₁, w₁, hq, .of_steps (.one step_scope) harr⟩
  | panic ch => exact ⟨_, a₁, w₁, hq, .of_steps (.one step_scope) harr⟩
  | outgrown => exact ⟨_, a₁, w₁, hq, .of_steps (.one step_scope) harr⟩

/-- The last byte c, at place i of the number: what is told. -/
def lastU (i p : Nat) (u c : Int) : Int × Int × Int := if i = 9 ∧ 1 < c then (0, 0, 3) else if c = 0 ∧ 0 < i then (0, 0, 3) else (u + c * 2 ^ (7 * i), (p : Int), 0)
/-- What stands from place p on: the number without its sign, the place behind it, the code. -/
def getU (s : ByteArray) : Nat → Nat → Nat → Int → Int × Int × Int
  | 0, _, _, _ => (0, 0, 3)
  | f + 1, i, p, u =>
    if h : p < s.size then
      if (s[p].toNat : Int) < 128 then lastU i (p + 1) u (s[p].toNat : Int)
      else if i = 9 then (0, 0, 3)
      else getU s f (i + 1) (p + 1) (u + (s[p].toNat : Int) % 128 * 2 ^ (7 * i))
    else (0, 0, 4)
/-- The error of a code. -/
def errOf (code : Int) : Value := if code = 0 then .nilIface else .iface 53 (.agg #[.int .i64 code])

theorem errOf_ne {code : Int} (h : code ≠ 0) : errOf code = .iface 53 (.agg #[.int .i64 code]) := by unfold errOf; rw [if_neg h]
theorem getU_short (s : ByteArray) (f i p : Nat) (u : Int) (h : ¬ p < s.size) : getU s (f + 1) i p u = (0, 0, 4) := by
  unfold getU
  rw [dif_neg h]
theorem getU_last (s : ByteArray) (f i p : Nat) (u : Int) (h : p < s.size) (hc : (s[p].toNat : Int) < 128) : getU s (f + 1) i p u = lastU i (p + 1) u (s[p].toNat : Int) := by
  show (if h : p < s.size then _ else _) = _
  rw [dif_pos h, if_pos hc]
theorem getU_top (s : ByteArray) (f i p : Nat) (u : Int) (h : p < s.size) (hc : ¬ (s[p].toNat : Int) < 128) (h9 : i = 9) : getU s (f + 1) i p u = (0, 0, 3) := by
  show (if h : p < s.size then _ else _) = _
  rw [dif_pos h, if_neg hc, if_pos h9]
theorem getU_more (s : ByteArray) (f i p : Nat) (u : Int) (h : p < s.size) (hc : ¬ (s[p].toNat : Int) < 128) (h9 : ¬ i = 9) : getU s (f + 1) i p u = getU s f (i + 1) (p + 1) (u + (s[p].toNat : Int) % 128 * 2 ^ (7 * i)) := by
  show (if h : p < s.size then _ else _) = _
  rw [dif_pos h, if_neg hc, if_neg h9]
theorem pow_cast (k : Nat) : (2 : Int) ^ k = ((2 ^ k : Nat) : Int) := by simp
theorem or_join (u x : Int) (k : Nat) (hu0 : 0 ≤ u) (hu : u < 2 ^ k) (hx0 : 0 ≤ x) (hb : u + x * 2 ^ k < 18446744073709551616) :
    bits .or .u64 u (IntKind.u64.wrap (x * 2 ^ k)) = u + x * 2 ^ k := by
  obtain ⟨a, rfl⟩ := Int.eq_ofNat_of_zero_le hu0
  obtain ⟨b, rfl⟩ := Int.eq_ofNat_of_zero_le hx0
  rw [pow_cast, ← Int.natCast_mul] at *
  rw [IntKind.wrap_u64, show ((b * 2 ^ k : Nat) : Int) % 18446744073709551616 = ((b * 2 ^ k : Nat) : Int) from by omega, u64_or_nat _ _ (by omega) (by omega), Nat.or_comm, nat_join k _ _ (Nat.mul_mod_left _ _) (by omega)]
  omega
theorem last_u (u c : Int) (sh : Nat) (hu0 : 0 ≤ u) (hu : u < 2 ^ sh) (h0 : 0 ≤ c) (h1 : c < 128) (hsh : sh ≤ 56) :
    bits .or .u64 u (IntKind.u64.wrap (c * 2 ^ sh)) = u + c * 2 ^ sh := by
  have hle : (2 : Int) ^ sh ≤ 2 ^ 56 := by rw [pow_cast, pow_cast]; exact Int.ofNat_le.2 (Nat.pow_le_pow_right (by decide) hsh)
  have h56 : (2 : Int) ^ 56 = 72057594037927936 := by decide
  have hm : c * 2 ^ sh ≤ 127 * 2 ^ sh := Int.mul_le_mul_of_nonneg_right (by omega) (Int.le_of_lt (Int.pow_pos (by decide)))
  exact or_join u c sh hu0 hu h0 (by omega)
theorem last_top (u c : Int) (hu0 : 0 ≤ u) (hu : u < 2 ^ 63) (h0 : 0 ≤ c) (h1 : c ≤ 1) : bits .or .u64 u (c * 9223372036854775808) = u + c * 2 ^ 63 := by
  have h63 : (2 : Int) ^ 63 = 9223372036854775808 := by decide
  have h := or_join u c 63 hu0 hu h0 (by omega)
  rw [h63, IntKind.wrap_u64] at h
  rw [h63, ← h]
  congr 1
  omega
theorem ret3 {x y : Int} {v : Value} {r : Int × Int × Int} (h1 : x = r.1) (h2 : y = r.2.1) (h3 : v = errOf r.2.2) : Ending.returned (.tuple #[.int .u64 x, .int .i64 y, v]) = .returned (.tuple #[.int .u64 r.1, .int .i64 r.2.1, errOf r.2.2]) := by
  rw [h1, h2, h3]
theorem and127 (c : Int) (h0 : 0 ≤ c) (h1 : c < 256) : bits .and .u8 c 127 = c % 128 := by
  rw [u8_and c 127 h0 h1 (by decide) (by decide)]
  show ((c.toNat &&& 127 : Nat) : Int) = _
  rw [show c.toNat &&& 127 = c.toNat % 128 from Nat.and_two_pow_sub_one_eq_mod _ 7]
  omega
theorem more_u (u c : Int) (sh : Nat) (hu0 : 0 ≤ u) (hu : u < 2 ^ sh) (h0 : 0 ≤ c) (h1 : c < 256) (hsh : sh ≤ 56) :
    bits .or .u64 u (IntKind.u64.wrap (IntKind.u64.wrap (bits .and .u8 c 127) * 2 ^ sh)) = u + c % 128 * 2 ^ sh ∧ 0 ≤ u + c % 128 * 2 ^ sh ∧ u + c % 128 * 2 ^ sh < 2 ^ (sh + 7) := by
  have hp : (2 : Int) ^ (sh + 7) = 2 ^ sh * 128 := by rw [Int.pow_add]; rfl
  have hle : (2 : Int) ^ sh ≤ 2 ^ 56 := by rw [pow_cast, pow_cast]; exact Int.ofNat_le.2 (Nat.pow_le_pow_right (by decide) hsh)
  have h56 : (2 : Int) ^ 56 = 72057594037927936 := by decide
  have hm : c % 128 * 2 ^ sh ≤ 127 * 2 ^ sh := Int.mul_le_mul_of_nonneg_right (by omega) (Int.le_of_lt (Int.pow_pos (by decide)))
  have hm0 : 0 ≤ c % 128 * 2 ^ sh := Int.mul_nonneg (by omega) (Int.le_of_lt (Int.pow_pos (by decide)))
  have e : IntKind.u64.wrap (bits .and .u8 c 127) = c % 128 := by rw [and127 c h0 h1, IntKind.wrap_u64]; omega
  rw [e]
  refine ⟨or_join u (c % 128) sh hu0 hu (by omega) (by omega), by omega, by rw [hp]; omega⟩
theorem first_u (c : Int) (h0 : 0 ≤ c) (h1 : c < 256) : bits .or .u64 0 (IntKind.u64.wrap (IntKind.u64.wrap (bits .and .u8 c 127))) = c % 128 := by
  have h := (more_u 0 c 0 (by decide) (by decide) h0 h1 (by decide)).1
  simpa using h
def J1 (s : ByteArray) (r : Int × Int × Int) (a' : Act) : Prop := ∃ (i p sh f : Nat) (u : Int) (b u11 u12 u13 u14 u15 u16 u17 u18 u19 u20 u21 u22 u23 u24 u25 u26 u27 u28 u29 u30 u31 u32 u33 u34 u35 u36 u37 u38 u39 u40 u41 u42 u43 u44 u45 u46 u47 u48 u49 u50 u51 u52 u53 u54 : Value), a' = { tmps := #[.string s, .int .i64 (p : Int), undef, undef, .int .u64 0, .int .i64 0, .nilIface, .int .u64 u, b, .int .i64 (sh : Int), .int .i64 3, u11, u12, u13, u14, u15, u16, u17, u18, u19, u20, u21, u22, u23, u24, u25, u26, u27, u28, u29, u30, u31, u32, u33, u34, u35, u36, u37, u38, u39, u40, u41, u42, u43, u44, u45, u46, u47, u48, u49, u50, u51, u52, u53, u54], defers := [] } ∧ i + f = 10 ∧ 1 ≤ f ∧ sh = 7 * i ∧ 0 ≤ u ∧ u < 2 ^ sh ∧ getU s f i p u = r
def J2 (s : ByteArray) (r : Int × Int × Int) (a' : Act) : Prop := ∃ (i p sh : Nat) (u c : Int) (u11 u12 u13 u14 u15 u16 u17 u18 u19 u20 u21 u22 u23 u24 u25 u26 u27 u28 u29 u30 u31 u32 u33 u34 u35 u36 u37 u38 u39 u40 u41 u42 u43 u44 u45 u46 u47 u48 u49 u50 u51 u52 u53 u54 : Value), a' = { tmps := #[.string s, .int .i64 (p : Int), undef, undef, .int .u64 0, .int .i64 0, .nilIface, .int .u64 u, .int .u8 c, .int .i64 (sh : Int), .int .i64 3, u11, u12, u13, u14, u15, u16, u17, u18, u19, u20, u21, u22, u23, u24, u25, u26, u27, u28, u29, u30, u31, u32, u33, u34, u35, u36, u37, u38, u39, u40, u41, u42, u43, u44, u45, u46, u47, u48, u49, u50, u51, u52, u53, u54], defers := [] } ∧ i ≤ 9 ∧ sh = 7 * i ∧ 0 ≤ u ∧ u < 2 ^ sh ∧ 0 ≤ c ∧ c < 128 ∧ p < 1000000 ∧ lastU i p u c = r
def J0 (s : ByteArray) (r : Int × Int × Int) (a' : Act) : Prop := ∃ (q b1 b2 b3 : Value) (code : Int) (u11 u12 u13 u14 u15 u16 u17 u18 u19 u20 u21 u22 u23 u24 u25 u26 u27 u28 u29 u30 u31 u32 u33 u34 u35 u36 u37 u38 u39 u40 u41 u42 u43 u44 u45 u46 u47 u48 u49 u50 u51 u52 u53 u54 : Value), a' = { tmps := #[.string s, q, undef, undef, .int .u64 0, .int .i64 0, .nilIface, b1, b2, b3, .int .i64 code, u11, u12, u13, u14, u15, u16, u17, u18, u19, u20, u21, u22, u23, u24, u25, u26, u27, u28, u29, u30, u31, u32, u33, u34, u35, u36, u37, u38, u39, u40, u41, u42, u43, u44, u45, u46, u47, u48, u49, u50, u51, u52, u53, u54], defers := [] } ∧ (code = 3 ∨ code = 4) ∧ (0, 0, code) = r
def JL (s : ByteArray) (r : Int × Int × Int) (w : World) (l : Nat) (a' : Act) (w' : World) : Prop := w' = w ∧ ((l = 1 ∧ J1 s r a') ∨ (l = 2 ∧ J2 s r a') ∨ (l = 0 ∧ J0 s r a'))
def mu (l : Nat) (a' : Act) (_ : World) : Nat := if l = 1 then 100 - (intOf (a'.tmps.getD 9 undef)).toNat else if l = 2 then 1 else 0

set_option maxRecDepth 100000 in
set_option maxHeartbeats 4000000 in
theorem read_any (s : ByteArray) (a : Nat) (w : World) (hs : s.size ≤ 8000) (r : Int × Int × Int) (hr : getU s 10 0 a 0 = r) :
    Calls Tryd.prog 24 #[.string s, .int .i64 a] w fun e w' => e = .returned (.tuple #[.int .u64 r.1, .int .i64 r.2.1, errOf r.2.2]) ∧ w' = w := by
  go_enter Tryd.func24, Tryd.ntmps24
  go_wp2
  refine wp_scope_labels (JL s r w) mu ?_ ?_
  · have HR : Hid (getU s 10 0 a 0 = r) := hr
    clear hr
    by_cases hp : a < s.size
    · by_cases hc : (s[a].toNat : Int) < 128
      · have HC : Hid ((s[a].toNat : Int) < 128) := hc
        go_wp2
        go_step3
        go_wp2
        go_step3
        refine ⟨rfl, Or.inr (Or.inl ⟨rfl, 0, a + 1, 0, 0, _, _, _, _, _, _, _, _, _, _, _, _, _, _, _, _, _, _, _, _, _, _, _, _, _, _, _, _, _, _, _, _, _, _, _, _, _, _, _, _, _, _, _, _, _, rfl, by omega, rfl, by omega, by decide, by omega, HC.out, by omega, ?_⟩)⟩
        rw [← HR.out, getU_last s 9 0 a 0 hp HC.out]
      · have HC : Hid (¬ (s[a].toNat : Int) < 128) := hc
        go_wp2
        go_step3
        go_wp2
        go_step3
        have hm := first_u (s[a].toNat : Int) (by omega) (by have := s[a].toNat_lt; omega)
        refine ⟨rfl, Or.inl ⟨rfl, 1, a + 1, 7, 9, _, _, _, _, _, _, _, _, _, _, _, _, _, _, _, _, _, _, _, _, _, _, _, _, _, _, _, _, _, _, _, _, _, _, _, _, _, _, _, _, _, _, _, _, _, _, rfl, rfl, by decide, rfl, ?_, ?_, ?_⟩⟩
        · rw [hm]; omega
        · rw [hm]; omega
        · rw [hm, ← HR.out, getU_more s 9 0 a 0 hp (Int.not_lt.2 HC.out) (by decide)]
          congr 1
          simp
    · go_wp2
      go_step3
      go_wp2
      go_step3
      refine ⟨rfl, Or.inr (Or.inr ⟨rfl, _, _, _, _, 4, _, _, _, _, _, _, _, _, _, _, _, _, _, _, _, _, _, _, _, _, _, _, _, _, _, _, _, _, _, _, _, _, _, _, _, _, _, _, _, _, _, _, _, _, rfl, Or.inr rfl, ?_⟩)⟩
      rw [← HR.out, getU_short s 9 0 a 0 hp]
  · rintro l a' w' ⟨rfl, ⟨rfl, h⟩ | ⟨rfl, h⟩ | ⟨rfl, h⟩⟩
    · obtain ⟨i, p, sh, f, u, b, u11, u12, u13, u14, u15, u16, u17, u18, u19, u20, u21, u22, u23, u24, u25, u26, u27, u28, u29, u30, u31, u32, u33, u34, u35, u36, u37, u38, u39, u40, u41, u42, u43, u44, u45, u46, u47, u48, u49, u50, u51, u52, u53, u54, rfl, h1, h2, h3, h4, h5, h6⟩ := h
      refine ⟨_, rfl, ?_⟩
      have HR : Hid (getU s f i p u = r) := h6
      have HS : Hid (sh = 7 * i) := h3
      have HU : Hid (u < 2 ^ sh) := h5
      have hsh : sh ≤ 63 := by omega
      clear h6 h3 h5
      by_cases hp : p < s.size
      · by_cases hc : (s[p].toNat : Int) < 128
        · have HC : Hid ((s[p].toNat : Int) < 128) := hc
          go_wp2
          go_step3
          refine ⟨⟨rfl, Or.inr (Or.inl ⟨rfl, i, p + 1, sh, u, _, _, _, _, _, _, _, _, _, _, _, _, _, _, _, _, _, _, _, _, _, _, _, _, _, _, _, _, _, _, _, _, _, _, _, _, _, _, _, _, _, _, _, _, _, rfl, by omega, HS.out, h4, HU.out, by omega, hc, by omega, ?_⟩)⟩, ?_⟩
          · obtain ⟨f', rfl⟩ : ∃ f', f = f' + 1 := ⟨f - 1, by omega⟩
            rw [← HR.out, getU_last s f' i p u hp HC.out]
          · simp [mu, intOf]; omega
        · have HC : Hid (¬ (s[p].toNat : Int) < 128) := hc
          by_cases h9 : 63 ≤ sh
          · go_wp2
            go_step3
            refine ⟨⟨rfl, Or.inr (Or.inr ⟨rfl, _, _, _, _, 3, _, _, _, _, _, _, _, _, _, _, _, _, _, _, _, _, _, _, _, _, _, _, _, _, _, _, _, _, _, _, _, _, _, _, _, _, _, _, _, _, _, _, _, _, rfl, Or.inl rfl, ?_⟩)⟩, ?_⟩
            · obtain ⟨f', rfl⟩ : ∃ f', f = f' + 1 := ⟨f - 1, by omega⟩
              have := HS.out
              rw [← HR.out, getU_top s f' i p u hp (Int.not_lt.2 HC.out) (by omega)]
            · simp [mu, intOf]; omega
          · have h9' : sh ≤ 62 := by omega
            go_wp2
            go_step3
            have hS := HS.out
            have hm := more_u u (s[p].toNat : Int) sh h4 HU.out (by omega) (by have := s[p].toNat_lt; omega) (by omega)
            refine ⟨⟨rfl, Or.inl ⟨rfl, i + 1, p + 1, sh + 7, f - 1, _, _, _, _, _, _, _, _, _, _, _, _, _, _, _, _, _, _, _, _, _, _, _, _, _, _, _, _, _, _, _, _, _, _, _, _, _, _, _, _, _, _, _, _, _, _, rfl, by omega, by omega, by omega, ?_, ?_, ?_⟩⟩, ?_⟩
            · rw [hm.1]; exact hm.2.1
            · rw [hm.1]; exact hm.2.2
            · rw [hm.1]
              obtain ⟨f', rfl⟩ : ∃ f', f = f' + 1 := ⟨f - 1, by omega⟩
              rw [← HR.out, getU_more s f' i p u hp (Int.not_lt.2 HC.out) (by omega), ← hS]
              rfl
            · simp [mu, intOf]; omega
      · go_wp2
        go_step3
        refine ⟨⟨rfl, Or.inr (Or.inr ⟨rfl, _, _, _, _, 4, _, _, _, _, _, _, _, _, _, _, _, _, _, _, _, _, _, _, _, _, _, _, _, _, _, _, _, _, _, _, _, _, _, _, _, _, _, _, _, _, _, _, _, _, rfl, Or.inr rfl, ?_⟩)⟩, ?_⟩
        · obtain ⟨f', rfl⟩ : ∃ f', f = f' + 1 := ⟨f - 1, by omega⟩
          rw [← HR.out, getU_short s f' i p u hp]
        · simp [mu, intOf]; omega
    · obtain ⟨i, p, sh, u, c, u11, u12, u13, u14, u15, u16, u17, u18, u19, u20, u21, u22, u23, u24, u25, u26, u27, u28, u29, u30, u31, u32, u33, u34, u35, u36, u37, u38, u39, u40, u41, u42, u43, u44, u45, u46, u47, u48, u49, u50, u51, u52, u53, u54, rfl, h1, h2, h3, h4, h5, h6, h7, h8⟩ := h
      refine ⟨_, rfl, ?_⟩
      have HR : Hid (lastU i p u c = r) := h8
      have HS : Hid (sh = 7 * i) := h2
      have HU : Hid (u < 2 ^ sh) := h4
      have hsh : sh ≤ 63 := by omega
      clear h8 h2 h4
      by_cases h9 : 63 ≤ sh ∧ 1 < c
      · obtain ⟨h9a, h9b⟩ := h9
        go_wp2
        go_step3
        refine ⟨⟨rfl, Or.inr (Or.inr ⟨rfl, _, _, _, _, 3, _, _, _, _, _, _, _, _, _, _, _, _, _, _, _, _, _, _, _, _, _, _, _, _, _, _, _, _, _, _, _, _, _, _, _, _, _, _, _, _, _, _, _, _, rfl, Or.inl rfl, ?_⟩)⟩, ?_⟩
        · have hS := HS.out
          rw [← HR.out]
          unfold lastU
          rw [if_pos ⟨by omega, h9b⟩]
        · simp [mu]
      · by_cases h0 : 1 ≤ sh ∧ c ≤ 0
        · obtain ⟨h0a, h0b⟩ := h0
          rcases (show sh ≤ 62 ∨ (63 ≤ sh ∧ c ≤ 1) from by omega) with hx | ⟨hx, hy⟩
          all_goals
            go_wp2
            go_step3
            refine ⟨⟨rfl, Or.inr (Or.inr ⟨rfl, _, _, _, _, 3, _, _, _, _, _, _, _, _, _, _, _, _, _, _, _, _, _, _, _, _, _, _, _, _, _, _, _, _, _, _, _, _, _, _, _, _, _, _, _, _, _, _, _, _, rfl, Or.inl rfl, ?_⟩)⟩, ?_⟩
            · have hS := HS.out
              rw [← HR.out]
              unfold lastU
              rw [if_neg (by omega), if_pos ⟨by omega, by omega⟩]
            · simp [mu]
        · rcases (show (sh ≤ 62 ∧ 1 ≤ sh ∧ 1 ≤ c) ∨ (63 ≤ sh ∧ 1 ≤ c ∧ c ≤ 1) ∨ sh ≤ 0 from by omega) with ⟨hx, hy, hz⟩ | ⟨hx, hy, hz⟩ | hx
          · go_wp2
            simp only [jumps]
            go_ret3
            have hS := HS.out
            have hl : lastU i p u c = (u + c * 2 ^ sh, (p : Int), 0) := by unfold lastU; rw [if_neg (by omega), if_neg (by omega), hS]
            rw [← HR.out, hl]
            exact ⟨ret3 (last_u u c sh h3 HU.out h5 h6 (by omega)) rfl rfl, rfl⟩
          · go_wp2
            simp only [jumps]
            go_ret3
            have hS := HS.out
            obtain rfl : sh = 63 := by omega
            have hl : lastU i p u c = (u + c * 2 ^ 63, (p : Int), 0) := by unfold lastU; rw [if_neg (by omega), if_neg (by omega), ← hS]
            rw [← HR.out, hl]
            exact ⟨ret3 (last_top u c h3 HU.out h5 (by omega)) rfl rfl, rfl⟩
          · go_wp2
            simp only [jumps]
            go_ret3
            have hS := HS.out
            have hl : lastU i p u c = (u + c * 2 ^ sh, (p : Int), 0) := by unfold lastU; rw [if_neg (by omega), if_neg (by omega), hS]
            rw [← HR.out, hl]
            exact ⟨ret3 (last_u u c sh h3 HU.out h5 h6 (by omega)) rfl rfl, rfl⟩
    · obtain ⟨q, b1, b2, b3, code, u11, u12, u13, u14, u15, u16, u17, u18, u19, u20, u21, u22, u23, u24, u25, u26, u27, u28, u29, u30, u31, u32, u33, u34, u35, u36, u37, u38, u39, u40, u41, u42, u43, u44, u45, u46, u47, u48, u49, u50, u51, u52, u53, u54, rfl, h1, h2⟩ := h
      refine ⟨_, rfl, ?_⟩
      go_wp2
      simp only [jumps]
      go_ret3
      subst h2
      exact ⟨ret3 (r := (0, 0, code)) rfl rfl (errOf_ne (by omega)).symm, rfl⟩
end Go.Proofs.YtpdedggnjcnpgaaDoor
