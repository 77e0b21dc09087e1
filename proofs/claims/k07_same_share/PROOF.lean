import PyProof.Rows.All
import Wide.All
import OpenK.AllK
import Wide.FinOn
import PySem.Challenge.RW_gradecut_k07_same_share
set_option Elab.async false
namespace Mine
/-- a number of the script, 0 where there is none -/
def cell (xs : List Int) (k : Int) : Int := PySem.W.cellAt xs k 0
end Mine
namespace M7
def gcdF (a b : Int) : Int := (Int.gcd a b : Nat)
def absI (a : Int) : Int := if a < 0 then -a else a
theorem gcdF_nonneg (a b : Int) : 0 ≤ gcdF a b := Int.natCast_nonneg _
theorem gcdF_pos {a b : Int} (h : 0 < b) : 0 < gcdF a b := by
  have : 0 < Int.gcd a b := Int.gcd_pos_of_ne_zero_right a (by omega)
  unfold gcdF; omega
theorem gcdF_le {a b : Int} (h : 0 < b) : gcdF a b ≤ b := by
  unfold gcdF
  exact Int.le_of_dvd h (Int.gcd_dvd_right a b)
theorem gcdF_in (a b : Int) : 0 ≤ gcdF a b ∧ (0 < b → 0 < gcdF a b ∧ gcdF a b ≤ b) := ⟨gcdF_nonneg a b, fun h => ⟨gcdF_pos h, gcdF_le h⟩⟩
structure G (a b big less : Int) : Prop where
  e : gcdF big less = gcdF a b
theorem g_start {a b : Int} : G a b (if a < 0 then -a else a) (if b < 0 then -b else b) := by
  constructor
  unfold gcdF
  split <;> split <;> simp
theorem g_turn {a b big less : Int} (h : G a b big less) (hl : 0 < less) : G a b less (Int.fmod big less) := by
  constructor
  rw [← h.e, Int.fmod_eq_emod_of_nonneg _ (by omega)]
  unfold gcdF
  have e : big % less = big - less * (big / less) := by
    have := Int.mul_ediv_add_emod big less
    omega
  have d1 : (Int.gcd less (big % less) : Int) ∣ big := by
    have h1 : (Int.gcd less (big % less) : Int) ∣ less * (big / less) := Int.dvd_trans (Int.gcd_dvd_left _ _) (Int.dvd_mul_right _ _)
    have h2 : (Int.gcd less (big % less) : Int) ∣ big % less := Int.gcd_dvd_right _ _
    have h3 := Int.dvd_add h1 h2
    rwa [Int.mul_ediv_add_emod] at h3
  have d2 : (Int.gcd big less : Int) ∣ big % less := by
    rw [e]
    exact Int.dvd_sub (Int.gcd_dvd_left _ _) (Int.dvd_trans (Int.gcd_dvd_right _ _) (Int.dvd_mul_right _ _))
  have x1 : Int.gcd less (big % less) ∣ Int.gcd big less := Int.dvd_gcd d1 (Int.gcd_dvd_left _ _)
  have x2 : Int.gcd big less ∣ Int.gcd less (big % less) := Int.dvd_gcd (Int.gcd_dvd_right _ _) d2
  rw [Nat.dvd_antisymm x1 x2]
theorem g_out {a b big less : Int} (h : G a b big less) (hb : 0 ≤ big) (hl : less = 0) : big = gcdF a b := by
  rw [← h.e, hl]
  unfold gcdF
  simp
  omega
theorem fmod_in {big less : Int} (hl : 0 < less) : 0 ≤ Int.fmod big less ∧ Int.fmod big less < less := ⟨Int.fmod_nonneg_of_pos _ hl, Int.fmod_lt_of_pos _ hl⟩
/-- part // g and whole // g, made whole again -/
theorem low_mul {p q : Int} (hq : 0 < q) : Int.fdiv p (gcdF p q) * gcdF p q = p ∧ Int.fdiv q (gcdF p q) * gcdF p q = q := by
  have hg := gcdF_pos (a := p) hq
  rw [Int.fdiv_eq_ediv_of_nonneg _ (by omega), Int.fdiv_eq_ediv_of_nonneg _ (by omega)]
  exact ⟨Int.ediv_mul_cancel (Int.gcd_dvd_left p q), Int.ediv_mul_cancel (Int.gcd_dvd_right p q)⟩
theorem low_pos {p q : Int} (hq : 0 < q) : 1 ≤ Int.fdiv q (gcdF p q) := by
  have hg := gcdF_pos (a := p) hq
  have e := (low_mul (p := p) hq).2
  rcases Int.lt_or_le 0 (Int.fdiv q (gcdF p q)) with hc | hc
  · omega
  exfalso
  have : Int.fdiv q (gcdF p q) * gcdF p q ≤ 0 * gcdF p q := Int.mul_le_mul_of_nonneg_right (by omega) (by omega)
  omega
theorem low_gcd {p q : Int} (hq : 0 < q) : gcdF (Int.fdiv p (gcdF p q)) (Int.fdiv q (gcdF p q)) = 1 := by
  have hg := gcdF_pos (a := p) hq
  rw [Int.fdiv_eq_ediv_of_nonneg _ (by omega), Int.fdiv_eq_ediv_of_nonneg _ (by omega)]
  unfold gcdF at *
  have := Int.gcd_ediv_gcd_ediv_gcd (i := p) (j := q) (by omega)
  rw [this]; rfl
theorem cancel {g x y : Int} (hg : 0 < g) (h : x * g = y * g) : x = y := Int.eq_of_mul_eq_mul_right (by omega) h
theorem dvd_one {b a d : Int} (h : b ∣ a * d) (c : Int.gcd b a = 1) : b ∣ d := by
  have := Int.dvd_gcd_mul_iff_dvd_mul.mpr h
  rw [c] at this
  simpa using this
/-- lowest terms are the same just where the fractions are -/
theorem low_iff {p q s t : Int} (hq : 0 < q) (ht : 0 < t) :
    (Int.fdiv p (gcdF p q) = Int.fdiv s (gcdF s t) ∧ Int.fdiv q (gcdF p q) = Int.fdiv t (gcdF s t)) ↔ p * t = s * q := by
  have e1 := low_mul (p := p) hq
  have e2 := low_mul (p := s) ht
  have k1 := low_gcd (p := p) hq
  have k2 := low_gcd (p := s) ht
  have q1 := low_pos (p := p) hq
  have q2 := low_pos (p := s) ht
  have g1 := gcdF_pos (a := p) hq
  have g2 := gcdF_pos (a := s) ht
  generalize gcdF p q = g at *
  generalize gcdF s t = h at *
  generalize Int.fdiv p g = a at *
  generalize Int.fdiv q g = b at *
  generalize Int.fdiv s h = c at *
  generalize Int.fdiv t h = d at *
  obtain ⟨e1, e1'⟩ := e1
  obtain ⟨e2, e2'⟩ := e2
  subst e1 e1' e2 e2'
  constructor
  · rintro ⟨rfl, rfl⟩
    grind
  · intro hh
    have h1 : a * d = c * b := by
      have : (a * d) * (g * h) = (c * b) * (g * h) := by grind
      exact cancel (Int.mul_pos g1 g2) this
    -- b ∣ d and d ∣ b
    have hb : b ∣ d := by
      have : b ∣ a * d := ⟨c, by rw [h1, Int.mul_comm]⟩
      have cop : Int.gcd b a = 1 := by rw [Int.gcd_comm]; unfold gcdF at k1; omega
      exact dvd_one this cop
    have hd : d ∣ b := by
      have : d ∣ c * b := ⟨a, by rw [← h1, Int.mul_comm]⟩
      have cop : Int.gcd d c = 1 := by rw [Int.gcd_comm]; unfold gcdF at k2; omega
      exact dvd_one this cop
    have hbd : b = d := Int.dvd_antisymm (by omega) (by omega) hb hd
    subst hbd
    exact ⟨cancel (by omega) h1, rfl⟩
end M7
namespace Mine
open M7
theorem g_startW {a b : Int} : 0 ≤ (if a < 0 then -a else a) ∧ 0 ≤ (if b < 0 then -b else b) ∧ G a b (if a < 0 then -a else a) (if b < 0 then -b else b) :=
  ⟨by split <;> omega, by split <;> omega, g_start⟩
theorem g_turnW {a b big less : Int} (h : G a b big less) (hl : 0 < less) : 0 ≤ less ∧ 0 ≤ Int.fmod big less ∧ G a b less (Int.fmod big less) :=
  ⟨by omega, (fmod_in hl).1, g_turn h hl⟩
theorem g_less {big less : Int} (hl : 0 < less) : (Int.fmod big less).toNat < less.toNat := by
  have := fmod_in (big := big) hl
  omega
end Mine
namespace Mine
open M7
theorem k7_b {p q s t : Int} (hq : 0 < q) (ht : 0 < t) (h : Int.fdiv p (gcdF p q) = Int.fdiv s (gcdF s t)) : (p * t == s * q) = (Int.fdiv q (gcdF p q) == Int.fdiv t (gcdF s t)) := by
  have k := low_iff (p := p) (s := s) hq ht
  rw [Bool.eq_iff_iff, beq_iff_eq, beq_iff_eq, ← k]
  exact ⟨fun x => x.2, fun x => ⟨h, x⟩⟩
theorem k7_a {p q s t : Int} (hq : 0 < q) (ht : 0 < t) (h : ¬ Int.fdiv p (gcdF p q) = Int.fdiv s (gcdF s t)) : (p * t == s * q) = false := by
  have k := low_iff (p := p) (s := s) hq ht
  exact beq_eq_false_iff_ne.mpr fun e => h (k.mpr e).1
theorem k7_a2 {p q s t : Int} (hq : 0 < q) (ht : 0 < t) (h : ¬ Int.fdiv p (gcdF p q) = Int.fdiv s (gcdF s t)) : (p * t == s * q) = (Int.fdiv p (gcdF p q) == Int.fdiv s (gcdF s t)) := by
  rw [k7_a hq ht h]
  symm
  exact beq_eq_false_iff_ne.mpr h
theorem flip_eq {p q s t : Int} : (p * t + s * q == q * t) = (p * t == (t - s) * q) := by
  rw [Bool.eq_iff_iff, beq_iff_eq, beq_iff_eq]
  have e : (t - s) * q = q * t - s * q := by grind
  rw [e]
  omega
theorem k7_fb {p q s t : Int} (hq : 0 < q) (ht : 0 < t) (h : Int.fdiv p (gcdF p q) = Int.fdiv (t - s) (gcdF (t - s) t)) : (p * t + s * q == q * t) = (Int.fdiv q (gcdF p q) == Int.fdiv t (gcdF (t - s) t)) := by
  rw [flip_eq]; exact k7_b hq ht h
theorem k7_fa {p q s t : Int} (hq : 0 < q) (ht : 0 < t) (h : ¬ Int.fdiv p (gcdF p q) = Int.fdiv (t - s) (gcdF (t - s) t)) : (p * t + s * q == q * t) = false := by
  rw [flip_eq]; exact k7_a hq ht h
theorem k7_fa2 {p q s t : Int} (hq : 0 < q) (ht : 0 < t) (h : ¬ Int.fdiv p (gcdF p q) = Int.fdiv (t - s) (gcdF (t - s) t)) : (p * t + s * q == q * t) = (Int.fdiv p (gcdF p q) == Int.fdiv (t - s) (gcdF (t - s) t)) := by
  rw [flip_eq]; exact k7_a2 hq ht h
end Mine
namespace Mine
open PySem PySem.W PySem.Calls PyProof.Rows
theorem bits_big {k : Int} (h1 : -(10 ^ 100) ≤ k) (h2 : k ≤ 10 ^ 100) : Builtin.Int.intBits k ≤ 400 := by
  unfold Builtin.Int.intBits
  split
  · exact Nat.zero_le _
  · have hn : k.natAbs < 2 ^ 400 := by
      have : (10 : Int) ^ 100 < 2 ^ 400 := by decide
      omega
    have : k.natAbs.log2 < 400 := by
      rcases Nat.eq_zero_or_pos k.natAbs with h0 | hp
      · rw [h0]; decide
      · exact (Nat.log2_lt (Nat.ne_of_gt hp)).mpr hn
    omega
theorem log_big {k : Int} (h1 : -(10 ^ 100) ≤ k) (h2 : k ≤ 10 ^ 100) : k.natAbs.log2 < 9000 := by
  have hn : k.natAbs < 2 ^ 400 := by
    have : (10 : Int) ^ 100 < 2 ^ 400 := by decide
    omega
  have : k.natAbs.log2 < 400 := by
    rcases Nat.eq_zero_or_pos k.natAbs with h0 | hp
    · rw [h0]; decide
    · exact (Nat.log2_lt (Nat.ne_of_gt hp)).mpr hn
  omega
theorem mul_in {x y : Int} (x1 : -(10 ^ 45) ≤ x) (x2 : x ≤ 10 ^ 45) (y1 : -(10 ^ 45) ≤ y) (y2 : y ≤ 10 ^ 45) : -(10 ^ 90) ≤ x * y ∧ x * y ≤ 10 ^ 90 := by
  have h : (x * y).natAbs ≤ 10 ^ 45 * 10 ^ 45 := by
    rw [Int.natAbs_mul]
    exact Nat.mul_le_mul (by omega) (by omega)
  have e : (10 : Nat) ^ 45 * 10 ^ 45 = 10 ^ 90 := by decide
  rw [e] at h
  omega
section
variable {prog : Program} {w : World} {A : Around} {E : Value → Shared → Prop} {s : Shared} {x y : Int} {t u : Tok} {Q : Value → Shared → Prop}
theorem step_div (hy : 0 < y) (hs : y ≤ 10 ^ 100) (h : Q (.int (Int.fdiv x y) s.toks) { s with toks := s.toks + 1 }) :
    wpAny (model prog w) A (binaryOp .FloorDiv (.int x t) (.int y u)) Q E s :=
  PyProof.Rows.floordiv_int (by omega) h (Or.inl (PyProof.noPylong_of_log2 (log_big (by omega) hs)))
theorem step_mod (hy : 60 < y) (h : ∀ r, 0 ≤ r → r < y → Q (.int r s.toks) { s with toks := s.toks + 1 }) :
    wpAny (model prog w) A (binaryOp .Mod (.int x t) (.int y u)) Q E s :=
  PyProof.Rows.mod_int (by omega) (h _ (Int.fmod_nonneg_of_pos x (by omega)) (Int.fmod_lt_of_pos x (by omega)))
theorem step_mul2 (x1 : -(10 ^ 100) ≤ x) (x2 : x ≤ 10 ^ 100) (y1 : -(10 ^ 100) ≤ y) (y2 : y ≤ 10 ^ 100) (h : Q (.int (x * y) s.toks) { s with toks := s.toks + 1 }) :
    wpAny (model prog w) A (binaryOp .Mult (.int x t) (.int y u)) Q E s :=
  PyProof.Rows.mul_int h (PyProof.Rows.mulOk_of_bits (bits_big x1 x2) (bits_big y1 y2) (by decide))
theorem step_mul (x1 : -(10 ^ 45) ≤ x) (x2 : x ≤ 10 ^ 45) (y1 : -(10 ^ 45) ≤ y) (y2 : y ≤ 10 ^ 45) (h : -(10 ^ 90) ≤ x * y → x * y ≤ 10 ^ 90 → Q (.int (x * y) s.toks) { s with toks := s.toks + 1 }) :
    wpAny (model prog w) A (binaryOp .Mult (.int x t) (.int y u)) Q E s :=
  step_mul2 (by omega) (by omega) (by omega) (by omega) (h (mul_in x1 x2 y1 y2).1 (mul_in x1 x2 y1 y2).2)
end
end Mine
namespace Mine
open PySem PySem.W PySem.Calls PyProof.Rows
theorem lit_refl (n : Nat) [OfNat Int n] : (OfNat.ofNat n : Int) = OfNat.ofNat n := rfl
section
variable {prog : Program} {w : World} {A : Around} {E : Value → Shared → Prop} {s : Shared} {x y : Int} {t u : Tok} {Q : Value → Shared → Prop}
theorem step_modK (_ : y = y) (hy : 0 < y) (h : 0 ≤ Int.fmod x y → Int.fmod x y < y → Q (.int (Int.fmod x y) s.toks) { s with toks := s.toks + 1 }) :
    wpAny (model prog w) A (binaryOp .Mod (.int x t) (.int y u)) Q E s :=
  PyProof.Rows.mod_int (by omega) (h (Int.fmod_nonneg_of_pos x (by omega)) (Int.fmod_lt_of_pos x (by omega)))
end
end Mine
namespace Mine
open PySem PySem.W PySem.Calls PyProof.Rows PyProof.V PySem.Spec
section
variable {prog : Program} {w : World} {A : Around} {E : Value → Shared → Prop} {s : Shared} {Q : Value → Shared → Prop}
theorem step_menu {value slice : PySem.Expr} {l : Addr} {vs : List Value} {ns : List Int} {k : Int} {u : Tok} (lo hi : Int) (hl : s.heap.IsList l vs.toArray) (hi' : IntsAre vs ns)
    (h0 : 0 ≤ k) (h1 : k < ns.length) (hfit : k < 2 ^ 63) (hb : ns.all (fun v => decide (lo ≤ v) && decide (v ≤ hi)) = true) (h : ∀ t v, lo ≤ v → v ≤ hi → v ∈ ns → Q (.int v t) s)
    (hs : subscripted slice false (.ref l) (.int k u) = operate [.ref l, .int k u] (getItem (.ref l) (.int k u))) :
    wpAny (model prog w) A (subscriptTail value slice (.ref l) (.int k u)) Q E s := by
  refine item_anyK hl hi' h0 h1 hfit (fun t => ?_) hs
  have hlt : k.toNat < ns.length := by omega
  have b := kmn_in (d := 0) hlt hb
  refine h t _ b.1 b.2 ?_
  have e : ns.getD k.toNat 0 = ns[k.toNat] := by simp [List.getD, hlt]
  rw [e]
  exact List.getElem_mem hlt
end
end Mine
namespace Mine
open PySem PySem.W PySem.Calls PyProof.Rows
section
variable {prog : Program} {w : World} {A : Around} {E : Value → Shared → Prop} {s : Shared} {x y : Int} {t u : Tok} {Q : Value → Shared → Prop}
theorem step_mulp (x1 : 0 < x) (x2 : x ≤ 10 ^ 45) (y1 : 0 < y) (y2 : y ≤ 10 ^ 45) (h : 0 < x * y → x * y ≤ 10 ^ 90 → Q (.int (x * y) s.toks) { s with toks := s.toks + 1 }) :
    wpAny (model prog w) A (binaryOp .Mult (.int x t) (.int y u)) Q E s :=
  step_mul2 (by omega) (by omega) (by omega) (by omega) (h (Int.mul_pos x1 y1) (mul_in (by omega) x2 (by omega) y2).2)
end
theorem step_eqb {prog : Program} {w : World} {A : Around} {E : Value → Shared → Prop} {s : Shared} {x y : Bool} {Q : Value → Shared → Prop} (e : x = y) (h : Q (.bool true) s) : wpAny (model prog w) A (compareOp .Eq (.bool x) (.bool y)) Q E s := by
  refine PyProof.Rows.eq_bool ?_
  have d : (x == y) = true := by rw [e]; cases y <;> rfl
  rw [d]
  exact h
end Mine
open PySem PySem.W PyProof.Rows
local macro_rules | `(tactic| k_in) => `(tactic| first | k_in_fast | exact Frag.In.keeps (by k_asm) (Fr.keep (by k_asm)))
local macro_rules | `(tactic| k_fmods) => `(tactic| skip)
local macro_rules | `(tactic| walk_at "eval Call") => `(tactic| (k_here; k_dflt (refine Call_ ?_)))
local macro_rules | `(tactic| walk_at "binaryOp FloorDiv int int") => `(tactic| (k_here; (with_reducible refine' Mine.step_div ?k1 ?k2 ?_); (case k1 => k_dflt omega); (case k2 => k_dflt omega)))
local macro_rules | `(tactic| walk_at "binaryOp Mult int int") => `(tactic| (k_here; (with_reducible refine' Mine.step_mul2 ?k1 ?k2 ?k3 ?k4 ?_); (case k1 => k_dflt omega); (case k2 => k_dflt omega); (case k3 => k_dflt omega); (case k4 => k_dflt omega)))
local macro_rules | `(tactic| walk_at "binaryOp Mult int int") => `(tactic| (k_here; (with_reducible refine' Mine.step_mul ?k1 ?k2 ?k3 ?k4 ?_); (case k1 => k_dflt omega); (case k2 => k_dflt omega); (case k3 => k_dflt omega); (case k4 => k_dflt omega); intro hp1 hp2))
local macro_rules | `(tactic| walk_at "binaryOp Mult int int") => `(tactic| (k_here; (with_reducible refine' Mine.step_mulp ?k1 ?k2 ?k3 ?k4 ?_); (case k1 => k_dflt omega); (case k2 => k_dflt omega); (case k3 => k_dflt omega); (case k4 => k_dflt omega); intro hp1 hp2))
local macro_rules | `(tactic| walk_at "binaryOp Mod int int") => `(tactic| (k_here; (with_reducible refine' Mine.step_modK rfl ?k1 ?_); (case k1 => k_dflt omega); intro hr0 hr1))
local macro_rules | `(tactic| walk_at "subscriptTail") => `(tactic| (k_here; (with_reducible show wpAny _ _ (subscriptTail _ _ (Value.ref _) (Value.int _ _)) _ _ _); (with_unfolding_all refine' Mine.step_menu (60) (10 ^ 9) ?k1 ?k2 ?k3 ?k4 ?k5 ?k6 ?_ ?k7; (case k1 => is_list); (case k2 => l_ints); (case k3 => l_idx); (case k4 => l_idx); (case k5 => l_idx); (case k6 => decide); (case k7 => with_unfolding_all rfl); k_whole); intro t' v' hv1 hv2 hv3))
local macro_rules | `(tactic| walk_at "compareOp Eq bool bool") => `(tactic| (k_here; (with_reducible refine' Mine.step_eqb ?k1 ?_); (case k1 => k_dflt (first | exact Mine.k7_b (by omega) (by omega) (by assumption) | exact Mine.k7_a (by omega) (by omega) (by assumption) | exact Mine.k7_a2 (by omega) (by omega) (by assumption) | exact Mine.k7_fb (by omega) (by omega) (by assumption) | exact Mine.k7_fa (by omega) (by omega) (by assumption) | exact Mine.k7_fa2 (by omega) (by omega) (by assumption))))) 
set_option maxRecDepth 100000 in
set_option maxHeartbeats 8000000 in
theorem PySem.Challenge.cw_gradecut_k07_same_share_holds : PySem.Challenge.rw_gradecut_k07_same_share.Holds := by
  k_with "tree" => first | (show _ = PySem.W.cellAt _ _ 0; cell_eq) | exact M7.g_out (by assumption) (by omega) (by omega)
  k_with "call ref" => k_call_by "_law_at" Mine.cell (fun (_ : List Int) (k : Int) => 0 ≤ k)
  k_with "fact _law_gcd" => exact M7.gcdF_in
  k_with "call ref" => k_call_by "_law_gcd" M7.gcdF (fun (_ b : Int) => 0 < b)
  k_with "state" => first | exact Mine.g_startW | exact Mine.g_turnW (by assumption) (by omega)
  k_with "measure" => exact Mine.g_less (by omega)
  k_with "exec While Compare cons nil" => k_while_given ["_law_one", "_law_two"] (fun a b _ big less => 0 ≤ big ∧ 0 ≤ less ∧ M7.G a b big less) (fun _ _ _ _ less => less.toNat) "_law_big" "_law_less"
  open_k
