import PyProof.Rows.All
import Wide.All
import OpenK.AllK
import Wide.FinOn
import PySem.Challenge.RW_gradecut_k05_meets
set_option Elab.async false
namespace Mine
/-- a number of the script, 0 where there is none -/
def cell (xs : List Int) (k : Int) : Int := PySem.W.cellAt xs k 0
end Mine
namespace Mine
def wholeF (_ : Int) : Bool := true
theorem whole_true (n : Int) : wholeF n = true := rfl
end Mine
namespace M5
/-- x² = f y² has no way but nought: descent. -/
theorem desc (p : Int → Int → Prop) (h : ∀ x y, p x y → ∃ x' y', p x' y' ∧ y = 2 * y' ) : True := trivial

theorem even_of_sq {x m : Int} (h : x * x = 2 * m) : ∃ k, x = 2 * k := by
  have h2 : x % 2 = 0 ∨ x % 2 = 1 := by omega
  rcases h2 with e | e
  · exact ⟨x / 2, by omega⟩
  · exfalso
    obtain ⟨k, hk⟩ : ∃ k, x = 2 * k + 1 := ⟨x / 2, by omega⟩
    subst hk
    have : (2 * k + 1) * (2 * k + 1) = 2 * (2 * (k * k) + 2 * k) + 1 := by grind
    omega
theorem tri_of_sq {x m : Int} (h : x * x = 3 * m) : ∃ k, x = 3 * k := by
  obtain ⟨k, r, hk, hr⟩ : ∃ k r, x = 3 * k + r ∧ (r = 0 ∨ r = 1 ∨ r = 2) := ⟨x / 3, x % 3, by omega, by omega⟩
  have e : x * x = 3 * (3 * (k * k) + 2 * (k * r)) + r * r := by subst hk; grind
  rcases hr with h0 | h0 | h0 <;> subst h0
  · exact ⟨k, by omega⟩
  · omega
  · omega
theorem five_of_sq {x m : Int} (h : x * x = 5 * m) : ∃ k, x = 5 * k := by
  obtain ⟨k, r, hk, hr⟩ : ∃ k r, x = 5 * k + r ∧ (r = 0 ∨ r = 1 ∨ r = 2 ∨ r = 3 ∨ r = 4) := ⟨x / 5, x % 5, by omega, by omega⟩
  have e : x * x = 5 * (5 * (k * k) + 2 * (k * r)) + r * r := by subst hk; grind
  rcases hr with h0 | h0 | h0 | h0 | h0 <;> subst h0 <;> first | exact ⟨k, by omega⟩ | omega
theorem seven_of_sq {x m : Int} (h : x * x = 7 * m) : ∃ k, x = 7 * k := by
  obtain ⟨k, r, hk, hr⟩ : ∃ k r, x = 7 * k + r ∧ (r = 0 ∨ r = 1 ∨ r = 2 ∨ r = 3 ∨ r = 4 ∨ r = 5 ∨ r = 6) := ⟨x / 7, x % 7, by omega, by omega⟩
  have e : x * x = 7 * (7 * (k * k) + 2 * (k * r)) + r * r := by subst hk; grind
  rcases hr with h0 | h0 | h0 | h0 | h0 | h0 | h0 <;> subst h0 <;> first | exact ⟨k, by omega⟩ | omega

theorem fall (f : Int) (st : ∀ x y, x * x = f * (y * y) → ∃ x' y' : Int, x' * x' = f * (y' * y') ∧ (y = 2 * y' ∨ y = 3 * y' ∨ y = 5 * y' ∨ y = 7 * y')) :
    ∀ (n : Nat) (x y : Int), y.natAbs ≤ n → x * x = f * (y * y) → y = 0
  | 0, x, y, hn, h => by omega
  | n + 1, x, y, hn, h => by
    obtain ⟨x', y', h', hy⟩ := st x y h
    by_cases hz : y = 0
    · exact hz
    · have := fall f st n x' y' (by omega) h'
      omega

theorem st2 (m : Int) (hm : m % 2 = 1) : ∀ x y, x * x = 2 * m * (y * y) → ∃ x' y' : Int, x' * x' = 2 * m * (y' * y') ∧ (y = 2 * y' ∨ y = 3 * y' ∨ y = 5 * y' ∨ y = 7 * y') := by
  intro x y h
  obtain ⟨k, hk⟩ := even_of_sq (m := m * (y * y)) (by rw [h]; grind)
  subst hk
  have h1 : 2 * (k * k) = m * (y * y) := by grind
  obtain ⟨q, hq⟩ : ∃ q, m = 2 * q + 1 := ⟨m / 2, by omega⟩
  have h2 : y * y = 2 * (k * k - q * (y * y)) := by subst hq; grind
  obtain ⟨j, hj⟩ := even_of_sq h2
  subst hj
  exact ⟨k, j, by grind, Or.inl rfl⟩
theorem st3 : ∀ x y, x * x = 3 * (y * y) → ∃ x' y' : Int, x' * x' = 3 * (y' * y') ∧ (y = 2 * y' ∨ y = 3 * y' ∨ y = 5 * y' ∨ y = 7 * y') := by
  intro x y h
  obtain ⟨k, hk⟩ := tri_of_sq h
  subst hk
  have h2 : y * y = 3 * (k * k) := by grind
  obtain ⟨j, hj⟩ := tri_of_sq h2
  subst hj
  exact ⟨k, j, by grind, Or.inr (Or.inl rfl)⟩
theorem st5 : ∀ x y, x * x = 5 * (y * y) → ∃ x' y' : Int, x' * x' = 5 * (y' * y') ∧ (y = 2 * y' ∨ y = 3 * y' ∨ y = 5 * y' ∨ y = 7 * y') := by
  intro x y h
  obtain ⟨k, hk⟩ := five_of_sq h
  subst hk
  have h2 : y * y = 5 * (k * k) := by grind
  obtain ⟨j, hj⟩ := five_of_sq h2
  subst hj
  exact ⟨k, j, by grind, Or.inr (Or.inr (Or.inl rfl))⟩
theorem st7 : ∀ x y, x * x = 7 * (y * y) → ∃ x' y' : Int, x' * x' = 7 * (y' * y') ∧ (y = 2 * y' ∨ y = 3 * y' ∨ y = 5 * y' ∨ y = 7 * y') := by
  intro x y h
  obtain ⟨k, hk⟩ := seven_of_sq h
  subst hk
  have h2 : y * y = 7 * (k * k) := by grind
  obtain ⟨j, hj⟩ := seven_of_sq h2
  subst hj
  exact ⟨k, j, by grind, Or.inr (Or.inr (Or.inr rfl))⟩
/-- The factors that are drawn. -/
def Factor (f : Int) : Prop := f = 2 ∨ f = 3 ∨ f = 5 ∨ f = 6 ∨ f = 7 ∨ f = 10
theorem noroot {f x y : Int} (hf : Factor f) (h : x * x = f * (y * y)) : y = 0 := by
  rcases hf with e | e | e | e | e | e <;> subst e
  · exact fall 2 (by simpa using st2 1 (by decide)) y.natAbs x y (Nat.le_refl _) h
  · exact fall 3 st3 y.natAbs x y (Nat.le_refl _) h
  · exact fall 5 st5 y.natAbs x y (Nat.le_refl _) h
  · exact fall 6 (by simpa using st2 3 (by decide)) y.natAbs x y (Nat.le_refl _) h
  · exact fall 7 st7 y.natAbs x y (Nat.le_refl _) h
  · exact fall 10 (by simpa using st2 5 (by decide)) y.natAbs x y (Nat.le_refl _) h
theorem sq_zero {x : Int} (h : x * x = 0) : x = 0 := by
  rcases Int.mul_eq_zero.mp h with e | e <;> exact e
theorem sq_inj {x y : Int} (hx : 0 ≤ x) (hy : 0 ≤ y) (h : x * x = y * y) : x = y := by
  have : (x - y) * (x + y) = 0 := by grind
  rcases Int.mul_eq_zero.mp this with e | e <;> omega
/-- factor 1 -/
theorem one_iff {a b e : Int} (ha : 0 ≤ a) (hb : 0 ≤ b) (he : 0 ≤ e) :
    (0 ≤ a * a - b * b - e * e ∧ (a * a - b * b - e * e) * (a * a - b * b - e * e) = 4 * e * e * (b * b)) ↔ a = b + e := by
  constructor
  · rintro ⟨h0, h⟩
    have hbe : 0 ≤ b * e := Int.mul_nonneg hb he
    have := sq_inj (x := a * a - b * b - e * e) (y := 2 * (b * e)) h0 (by omega) (by grind)
    exact sq_inj ha (by omega) (by grind)
  · intro h
    subst h
    have hbe : 0 ≤ b * e := Int.mul_nonneg hb he
    have e1 : (b + e) * (b + e) - b * b - e * e = 2 * (b * e) := by grind
    rw [e1]
    exact ⟨by omega, by grind⟩
theorem more_iff {f a b e : Int} (hf : Factor f) (ha : 0 ≤ a) (hb : 0 ≤ b) (he : 0 ≤ e) :
    (0 ≤ f * a * a - f * b * b - e * e ∧ (f * a * a - f * b * b - e * e) * (f * a * a - f * b * b - e * e) = 4 * e * e * (f * b * b)) ↔ (a = b ∧ e = 0) := by
  have hfp : f ≠ 0 := by unfold Factor at hf; omega
  constructor
  · rintro ⟨h0, h⟩
    by_cases ze : e = 0
    · subst ze
      have h1 : (f * a * a - f * b * b) * (f * a * a - f * b * b) = 0 := by grind
      have h2 := sq_zero h1
      have h3 : f * (a * a - b * b) = 0 := by grind
      rcases Int.mul_eq_zero.mp h3 with k | k
      · exact absurd k hfp
      · exact ⟨sq_inj ha hb (by omega), rfl⟩
    · exfalso
      have h2 := noroot (x := f * a * a - f * b * b - e * e) (y := 2 * e * b) hf (by grind)
      have hb0 : b = 0 := by
        rcases Int.mul_eq_zero.mp h2 with k | k
        · exact absurd (by omega) ze
        · exact k
      subst hb0
      have h1 : (f * a * a - e * e) * (f * a * a - e * e) = 0 := by grind
      have h3 := sq_zero h1
      have h4 := noroot (x := e) (y := a) hf (by grind)
      subst h4
      exact ze (sq_zero (by grind))
  · rintro ⟨h, h'⟩
    subst h; subst h'
    grind
end M5
namespace Mine
open M5
def meetsB (one two e : Int) : Bool := decide (0 ≤ one - two - e * e) && ((one - two - e * e) * (one - two - e * e) == 4 * e * e * two)
theorem meets_neg {one two e : Int} (h : one - two - e * e < 0) : false = meetsB one two e := by
  unfold meetsB
  rw [decide_eq_false (by omega)]
  rfl
theorem meets_neg2 {one two e : Int} (h : one - two - e * e < 0) : decide (0 ≤ one - two - e * e) = meetsB one two e := by
  rw [← meets_neg h]
  exact decide_eq_false (by omega)
theorem meets_pos {one two e : Int} (h : 0 ≤ one - two - e * e) : ((one - two - e * e) * (one - two - e * e) == 4 * e * e * two) = meetsB one two e := by
  unfold meetsB
  rw [decide_eq_true h]
  rfl
theorem meetsB_iff {one two e : Int} : meetsB one two e = true ↔ (0 ≤ one - two - e * e ∧ (one - two - e * e) * (one - two - e * e) = 4 * e * e * two) := by
  unfold meetsB
  simp
theorem end_one {a b e : Int} (ha : 0 ≤ a) (hb : 0 ≤ b) (he : 0 ≤ e) : meetsB (1 * a * a) (1 * b * b) e = (a == b + e) := by
  rw [Int.one_mul, Int.one_mul]
  have k := one_iff ha hb he
  rw [← meetsB_iff] at k
  rw [Bool.eq_iff_iff, k, beq_iff_eq]
theorem end_ne {f a b e : Int} (hf : Factor f) (ha : 0 ≤ a) (hb : 0 ≤ b) (he : 0 ≤ e) (hab : ¬ a = b) : meetsB (f * a * a) (f * b * b) e = false := by
  have k := more_iff hf ha hb he
  rw [← meetsB_iff] at k
  cases h : meetsB (f * a * a) (f * b * b) e
  · rfl
  · exact absurd (k.mp h).1 hab
theorem end_eq {f a b e : Int} (hf : Factor f) (ha : 0 ≤ a) (hb : 0 ≤ b) (he : 0 ≤ e) (hab : a = b) : meetsB (f * a * a) (f * b * b) e = (e == 0) := by
  have k := more_iff hf ha hb he
  rw [← meetsB_iff] at k
  rw [Bool.eq_iff_iff, k, beq_iff_eq]
  exact ⟨fun h => h.2, fun h => ⟨hab, h⟩⟩
end Mine
namespace Mine
open M5
theorem fac {f : Int} (h : f ∈ [(2 : Int), 3, 5, 6, 7, 10]) : Factor f := by
  simp only [List.mem_cons, List.not_mem_nil, or_false] at h
  exact h
theorem end_ne2 {f a b e : Int} (hf : Factor f) (ha : 0 ≤ a) (hb : 0 ≤ b) (he : 0 ≤ e) (hab : ¬ a = b) : meetsB (f * a * a) (f * b * b) e = (a == b) := by
  rw [end_ne hf ha hb he hab]
  symm
  exact beq_eq_false_iff_ne.mpr hab
end Mine
namespace Mine
open PySem PySem.W PySem.Calls PyProof.Rows
theorem bits_big {k : Int} (h1 : -(10 ^ 100) ≤ k) (h2 : k ≤ 10 ^ 100) : Builtin.Int.intBits k ≤ 400 := by
  unfold Builtin.Int.intBits
  split
  · exact Nat.zero_le _
  · have hn : k.natAbs < 2 ^ 400 := by
      have : (10 : Int) ^ 100 < 2 ^ 400 := by decide
      omega
    have : k.natAbs.log2 < 400 := by
      rcases Nat.eq_zero_or_pos k.natAbs with h0 | hp
      · rw [h0]; decide
      · exact (Nat.log2_lt (Nat.ne_of_gt hp)).mpr hn
    omega
theorem log_big {k : Int} (h1 : -(10 ^ 100) ≤ k) (h2 : k ≤ 10 ^ 100) : k.natAbs.log2 < 9000 := by
  have hn : k.natAbs < 2 ^ 400 := by
    have : (10 : Int) ^ 100 < 2 ^ 400 := by decide
    omega
  have : k.natAbs.log2 < 400 := by
    rcases Nat.eq_zero_or_pos k.natAbs with h0 | hp
    · rw [h0]; decide
    · exact (Nat.log2_lt (Nat.ne_of_gt hp)).mpr hn
  omega
theorem mul_in {x y : Int} (x1 : -(10 ^ 45) ≤ x) (x2 : x ≤ 10 ^ 45) (y1 : -(10 ^ 45) ≤ y) (y2 : y ≤ 10 ^ 45) : -(10 ^ 90) ≤ x * y ∧ x * y ≤ 10 ^ 90 := by
  have h : (x * y).natAbs ≤ 10 ^ 45 * 10 ^ 45 := by
    rw [Int.natAbs_mul]
    exact Nat.mul_le_mul (by omega) (by omega)
  have e : (10 : Nat) ^ 45 * 10 ^ 45 = 10 ^ 90 := by decide
  rw [e] at h
  omega
section
variable {prog : Program} {w : World} {A : Around} {E : Value → Shared → Prop} {s : Shared} {x y : Int} {t u : Tok} {Q : Value → Shared → Prop}
theorem step_div (hy : 0 < y) (hs : y ≤ 10 ^ 100) (h : Q (.int (Int.fdiv x y) s.toks) { s with toks := s.toks + 1 }) :
    wpAny (model prog w) A (binaryOp .FloorDiv (.int x t) (.int y u)) Q E s :=
  PyProof.Rows.floordiv_int (by omega) h (Or.inl (PyProof.noPylong_of_log2 (log_big (by omega) hs)))
theorem step_mod (hy : 60 < y) (h : ∀ r, 0 ≤ r → r < y → Q (.int r s.toks) { s with toks := s.toks + 1 }) :
    wpAny (model prog w) A (binaryOp .Mod (.int x t) (.int y u)) Q E s :=
  PyProof.Rows.mod_int (by omega) (h _ (Int.fmod_nonneg_of_pos x (by omega)) (Int.fmod_lt_of_pos x (by omega)))
theorem step_mul2 (x1 : -(10 ^ 100) ≤ x) (x2 : x ≤ 10 ^ 100) (y1 : -(10 ^ 100) ≤ y) (y2 : y ≤ 10 ^ 100) (h : Q (.int (x * y) s.toks) { s with toks := s.toks + 1 }) :
    wpAny (model prog w) A (binaryOp .Mult (.int x t) (.int y u)) Q E s :=
  PyProof.Rows.mul_int h (PyProof.Rows.mulOk_of_bits (bits_big x1 x2) (bits_big y1 y2) (by decide))
theorem step_mul (x1 : -(10 ^ 45) ≤ x) (x2 : x ≤ 10 ^ 45) (y1 : -(10 ^ 45) ≤ y) (y2 : y ≤ 10 ^ 45) (h : -(10 ^ 90) ≤ x * y → x * y ≤ 10 ^ 90 → Q (.int (x * y) s.toks) { s with toks := s.toks + 1 }) :
    wpAny (model prog w) A (binaryOp .Mult (.int x t) (.int y u)) Q E s :=
  step_mul2 (by omega) (by omega) (by omega) (by omega) (h (mul_in x1 x2 y1 y2).1 (mul_in x1 x2 y1 y2).2)
end
end Mine
namespace Mine
open PySem PySem.W PySem.Calls PyProof.Rows PyProof.V PySem.Spec
section
variable {prog : Program} {w : World} {A : Around} {E : Value → Shared → Prop} {s : Shared} {Q : Value → Shared → Prop}
theorem step_menu {value slice : PySem.Expr} {l : Addr} {vs : List Value} {ns : List Int} {k : Int} {u : Tok} (lo hi : Int) (hl : s.heap.IsList l vs.toArray) (hi' : IntsAre vs ns)
    (h0 : 0 ≤ k) (h1 : k < ns.length) (hfit : k < 2 ^ 63) (hb : ns.all (fun v => decide (lo ≤ v) && decide (v ≤ hi)) = true) (h : ∀ t v, lo ≤ v → v ≤ hi → v ∈ ns → Q (.int v t) s)
    (hs : subscripted slice false (.ref l) (.int k u) = operate [.ref l, .int k u] (getItem (.ref l) (.int k u))) :
    wpAny (model prog w) A (subscriptTail value slice (.ref l) (.int k u)) Q E s := by
  refine item_anyK hl hi' h0 h1 hfit (fun t => ?_) hs
  have hlt : k.toNat < ns.length := by omega
  have b := kmn_in (d := 0) hlt hb
  refine h t _ b.1 b.2 ?_
  have e : ns.getD k.toNat 0 = ns[k.toNat] := by simp [List.getD, hlt]
  rw [e]
  exact List.getElem_mem hlt
end
end Mine
namespace Mine
open PySem PySem.W PySem.Calls PyProof.Rows
theorem lit_refl (n : Nat) [OfNat Int n] : (OfNat.ofNat n : Int) = OfNat.ofNat n := rfl
section
variable {prog : Program} {w : World} {A : Around} {E : Value → Shared → Prop} {s : Shared} {x y : Int} {t u : Tok} {Q : Value → Shared → Prop}
theorem step_modK (_ : y = y) (hy : 0 < y) (h : 0 ≤ Int.fmod x y → Int.fmod x y < y → Q (.int (Int.fmod x y) s.toks) { s with toks := s.toks + 1 }) :
    wpAny (model prog w) A (binaryOp .Mod (.int x t) (.int y u)) Q E s :=
  PyProof.Rows.mod_int (by omega) (h (Int.fmod_nonneg_of_pos x (by omega)) (Int.fmod_lt_of_pos x (by omega)))
end
end Mine
namespace Mine
open PySem PySem.W PySem.Calls PyProof.Rows
theorem mul_in20 {x y : Int} (x1 : 0 ≤ x) (x2 : x ≤ 10 ^ 20) (y1 : 0 ≤ y) (y2 : y ≤ 10 ^ 20) : 0 ≤ x * y ∧ x * y ≤ 10 ^ 40 := by
  refine ⟨Int.mul_nonneg x1 y1, ?_⟩
  have h : (x * y).natAbs ≤ 10 ^ 20 * 10 ^ 20 := by
    rw [Int.natAbs_mul]
    exact Nat.mul_le_mul (by omega) (by omega)
  have e : (10 : Nat) ^ 20 * 10 ^ 20 = 10 ^ 40 := by decide
  rw [e] at h
  omega
section
variable {prog : Program} {w : World} {A : Around} {E : Value → Shared → Prop} {s : Shared} {x y : Int} {t u : Tok} {Q : Value → Shared → Prop}
theorem step_mul20 (x1 : 0 ≤ x) (x2 : x ≤ 10 ^ 20) (y1 : 0 ≤ y) (y2 : y ≤ 10 ^ 20) (h : 0 ≤ x * y → x * y ≤ 10 ^ 40 → Q (.int (x * y) s.toks) { s with toks := s.toks + 1 }) :
    wpAny (model prog w) A (binaryOp .Mult (.int x t) (.int y u)) Q E s :=
  step_mul2 (by omega) (by omega) (by omega) (by omega) (h (mul_in20 x1 x2 y1 y2).1 (mul_in20 x1 x2 y1 y2).2)
end
end Mine
namespace Mine
open PySem PySem.W PySem.Calls PyProof.Rows
theorem step_eqb {prog : Program} {w : World} {A : Around} {E : Value → Shared → Prop} {s : Shared} {x y : Bool} {Q : Value → Shared → Prop} (e : x = y) (h : Q (.bool true) s) : wpAny (model prog w) A (compareOp .Eq (.bool x) (.bool y)) Q E s := by
  refine PyProof.Rows.eq_bool ?_
  have d : (x == y) = true := by rw [e]; cases y <;> rfl
  rw [d]
  exact h
end Mine
open PySem PySem.W PyProof.Rows
local macro_rules | `(tactic| k_in) => `(tactic| first | k_in_fast | exact Frag.In.keeps (by k_asm) (Fr.keep (by k_asm)))
local macro_rules | `(tactic| k_fmods) => `(tactic| skip)
local macro_rules | `(tactic| walk_at "eval Call") => `(tactic| (k_here; k_dflt (refine Call_ ?_)))
local macro_rules | `(tactic| walk_at "binaryOp FloorDiv int int") => `(tactic| (k_here; (with_reducible refine' Mine.step_div ?k1 ?k2 ?_); (case k1 => k_dflt omega); (case k2 => k_dflt omega)))
local macro_rules | `(tactic| walk_at "binaryOp Mult int int") => `(tactic| (k_here; (with_reducible refine' Mine.step_mul2 ?k1 ?k2 ?k3 ?k4 ?_); (case k1 => k_dflt omega); (case k2 => k_dflt omega); (case k3 => k_dflt omega); (case k4 => k_dflt omega)))
local macro_rules | `(tactic| walk_at "binaryOp Mult int int") => `(tactic| (k_here; (with_reducible refine' Mine.step_mul ?k1 ?k2 ?k3 ?k4 ?_); (case k1 => k_dflt omega); (case k2 => k_dflt omega); (case k3 => k_dflt omega); (case k4 => k_dflt omega); intro hp1 hp2))
local macro_rules | `(tactic| walk_at "binaryOp Mult int int") => `(tactic| (k_here; (with_reducible refine' Mine.step_mul20 ?k1 ?k2 ?k3 ?k4 ?_); (case k1 => k_dflt omega); (case k2 => k_dflt omega); (case k3 => k_dflt omega); (case k4 => k_dflt omega); intro hp1 hp2))
local macro_rules | `(tactic| walk_at "binaryOp Mod int int") => `(tactic| (k_here; (with_reducible refine' Mine.step_modK rfl ?k1 ?_); (case k1 => k_dflt omega); intro hr0 hr1))
local macro_rules | `(tactic| walk_at "subscriptTail") => `(tactic| (k_here; (with_reducible show wpAny _ _ (subscriptTail _ _ (Value.ref _) (Value.int _ _)) _ _ _); (with_unfolding_all refine' Mine.step_menu (2) (10) ?k1 ?k2 ?k3 ?k4 ?k5 ?k6 ?_ ?k7; (case k1 => is_list); (case k2 => l_ints); (case k3 => l_idx); (case k4 => l_idx); (case k5 => l_idx); (case k6 => decide); (case k7 => with_unfolding_all rfl); k_whole); intro t' v' hv1 hv2 hv3))
local macro_rules | `(tactic| walk_at "subscriptTail") => `(tactic| (k_here; (with_reducible show wpAny _ _ (subscriptTail _ _ (Value.ref _) (Value.int _ _)) _ _ _); (with_unfolding_all refine' Mine.step_menu (61) (10 ^ 18) ?k1 ?k2 ?k3 ?k4 ?k5 ?k6 ?_ ?k7; (case k1 => is_list); (case k2 => l_ints); (case k3 => l_idx); (case k4 => l_idx); (case k5 => l_idx); (case k6 => decide); (case k7 => with_unfolding_all rfl); k_whole); intro t' v' hv1 hv2 hv3))
local macro_rules | `(tactic| walk_at "compareOp Eq bool bool") => `(tactic| (k_here; (with_reducible refine' Mine.step_eqb ?k1 ?_); (case k1 => k_dflt (first | exact Mine.end_one (by omega) (by omega) (by omega) | exact Mine.end_ne (Mine.fac (by assumption)) (by omega) (by omega) (by omega) (by omega) | exact Mine.end_ne2 (Mine.fac (by assumption)) (by omega) (by omega) (by omega) (by omega) | exact Mine.end_eq (Mine.fac (by assumption)) (by omega) (by omega) (by omega) (by omega)))))
set_option maxRecDepth 100000 in
set_option maxHeartbeats 0 in
theorem PySem.Challenge.cw_gradecut_k05_meets_holds : PySem.Challenge.rw_gradecut_k05_meets.Holds := by
  k_with "tree" => first | (show _ = PySem.W.cellAt _ _ 0; cell_eq) | exact Mine.meets_neg (by omega) | exact Mine.meets_neg2 (by omega) | exact Mine.meets_pos (by omega)
  k_with "call ref" => k_call_by "_law_at" Mine.cell (fun (_ : List Int) (k : Int) => 0 ≤ k)
  k_with "call ref" => k_call_by "meets" Mine.meetsB (fun (one two e : Int) => -(10 ^ 91) ≤ one ∧ one ≤ 10 ^ 91 ∧ -(10 ^ 91) ≤ two ∧ two ≤ 10 ^ 91 ∧ 0 ≤ e ∧ e ≤ 400)
  open_k
