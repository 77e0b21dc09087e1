import PyProof.Rows.All
import Wide.All
import OpenK.AllK
import Wide.FinOn
import PySem.Challenge.RW_gradecut_k02_square
set_option Elab.async false
namespace Mine
/-- a number of the script, 0 where there is none -/
def cell (xs : List Int) (k : Int) : Int := PySem.W.cellAt xs k 0
end Mine
namespace Mine
def wholeF (_ : Int) : Bool := true
theorem whole_true (n : Int) : wholeF n = true := rfl
end Mine
namespace Mine
/-- a drawn number, as the statement draws it -/
def drawn (c m : Int) : Int :=
  if Int.fmod c 5 = 1 then
    (if Int.fmod (Int.fdiv c 5) 5 = 0 then 0 else if Int.fmod (Int.fdiv c 5) 5 = 1 then 1 else if Int.fmod (Int.fdiv c 5) 5 = 2 then -1 else if Int.fmod (Int.fdiv c 5) 5 = 3 then m else 0 - m)
  else Int.fmod (Int.fdiv c 5) (2 * m + 1) - m
theorem drawn_in (c m : Int) : 0 < m → -m ≤ drawn c m ∧ drawn c m ≤ m := by
  intro h
  unfold drawn
  have a := Int.fmod_nonneg_of_pos (Int.fdiv c 5) (show 0 < 2 * m + 1 by omega)
  have b := Int.fmod_lt_of_pos (Int.fdiv c 5) (show 0 < 2 * m + 1 by omega)
  repeat' split
  all_goals omega
end Mine
namespace Mine
open PySem PySem.W PySem.Calls PyProof.Rows
section
variable {prog : Program} {w : World} {A : Around} {E : Value → Shared → Prop} {s : Shared} {x y : Int} {t u : Tok} {Q : Value → Shared → Prop}
theorem step_eq (e : x = y) (h : Q (.bool true) s) : wpAny (model prog w) A (compareOp .Eq (.int x t) (.int y u)) Q E s := by
  refine PyProof.Rows.eq_int ?_
  have d : (x == y) = true := beq_iff_eq.mpr e
  rw [d]
  exact h
end
end Mine
namespace Mine
open PySem PySem.W PySem.Calls PyProof.Rows
theorem step_pow {prog : Program} {w : World} {A : Around} {E : Value → Shared → Prop} {s : Shared} {x : Int} {t u : Tok} {Q : Value → Shared → Prop} (h1 : -(10 ^ 13) ≤ x) (h2 : x ≤ 10 ^ 13) (h : Q (.int (x ^ (Int.toNat 2)) s.toks) { s with toks := s.toks + 1 }) :
    wpAny (model prog w) A (binaryOp .Pow (.int x t) (.int 2 u)) Q E s :=
  PyProof.Rows.pow_int_small (by omega) (by omega) (by omega) h
end Mine
namespace Mine
open PySem PySem.W PySem.Calls PyProof.Rows
theorem bits_big {k : Int} (h1 : -(10 ^ 100) ≤ k) (h2 : k ≤ 10 ^ 100) : Builtin.Int.intBits k ≤ 400 := by
  unfold Builtin.Int.intBits
  split
  · exact Nat.zero_le _
  · have hn : k.natAbs < 2 ^ 400 := by
      have : (10 : Int) ^ 100 < 2 ^ 400 := by decide
      omega
    have : k.natAbs.log2 < 400 := by
      rcases Nat.eq_zero_or_pos k.natAbs with h0 | hp
      · rw [h0]; decide
      · exact (Nat.log2_lt (Nat.ne_of_gt hp)).mpr hn
    omega
theorem log_big {k : Int} (h1 : -(10 ^ 100) ≤ k) (h2 : k ≤ 10 ^ 100) : k.natAbs.log2 < 9000 := by
  have hn : k.natAbs < 2 ^ 400 := by
    have : (10 : Int) ^ 100 < 2 ^ 400 := by decide
    omega
  have : k.natAbs.log2 < 400 := by
    rcases Nat.eq_zero_or_pos k.natAbs with h0 | hp
    · rw [h0]; decide
    · exact (Nat.log2_lt (Nat.ne_of_gt hp)).mpr hn
  omega
theorem mul_in {x y : Int} (x1 : -(10 ^ 45) ≤ x) (x2 : x ≤ 10 ^ 45) (y1 : -(10 ^ 45) ≤ y) (y2 : y ≤ 10 ^ 45) : -(10 ^ 90) ≤ x * y ∧ x * y ≤ 10 ^ 90 := by
  have h : (x * y).natAbs ≤ 10 ^ 45 * 10 ^ 45 := by
    rw [Int.natAbs_mul]
    exact Nat.mul_le_mul (by omega) (by omega)
  have e : (10 : Nat) ^ 45 * 10 ^ 45 = 10 ^ 90 := by decide
  rw [e] at h
  omega
section
variable {prog : Program} {w : World} {A : Around} {E : Value → Shared → Prop} {s : Shared} {x y : Int} {t u : Tok} {Q : Value → Shared → Prop}
theorem step_div (hy : 0 < y) (hs : y ≤ 10 ^ 100) (h : Q (.int (Int.fdiv x y) s.toks) { s with toks := s.toks + 1 }) :
    wpAny (model prog w) A (binaryOp .FloorDiv (.int x t) (.int y u)) Q E s :=
  PyProof.Rows.floordiv_int (by omega) h (Or.inl (PyProof.noPylong_of_log2 (log_big (by omega) hs)))
theorem step_mod (hy : 60 < y) (h : ∀ r, 0 ≤ r → r < y → Q (.int r s.toks) { s with toks := s.toks + 1 }) :
    wpAny (model prog w) A (binaryOp .Mod (.int x t) (.int y u)) Q E s :=
  PyProof.Rows.mod_int (by omega) (h _ (Int.fmod_nonneg_of_pos x (by omega)) (Int.fmod_lt_of_pos x (by omega)))
theorem step_mul2 (x1 : -(10 ^ 100) ≤ x) (x2 : x ≤ 10 ^ 100) (y1 : -(10 ^ 100) ≤ y) (y2 : y ≤ 10 ^ 100) (h : Q (.int (x * y) s.toks) { s with toks := s.toks + 1 }) :
    wpAny (model prog w) A (binaryOp .Mult (.int x t) (.int y u)) Q E s :=
  PyProof.Rows.mul_int h (PyProof.Rows.mulOk_of_bits (bits_big x1 x2) (bits_big y1 y2) (by decide))
theorem step_mul (x1 : -(10 ^ 45) ≤ x) (x2 : x ≤ 10 ^ 45) (y1 : -(10 ^ 45) ≤ y) (y2 : y ≤ 10 ^ 45) (h : -(10 ^ 90) ≤ x * y → x * y ≤ 10 ^ 90 → Q (.int (x * y) s.toks) { s with toks := s.toks + 1 }) :
    wpAny (model prog w) A (binaryOp .Mult (.int x t) (.int y u)) Q E s :=
  step_mul2 (by omega) (by omega) (by omega) (by omega) (h (mul_in x1 x2 y1 y2).1 (mul_in x1 x2 y1 y2).2)
end
end Mine
namespace Mine
open PySem PySem.W PySem.Calls PyProof.Rows
theorem lit_refl (n : Nat) [OfNat Int n] : (OfNat.ofNat n : Int) = OfNat.ofNat n := rfl
section
variable {prog : Program} {w : World} {A : Around} {E : Value → Shared → Prop} {s : Shared} {x y : Int} {t u : Tok} {Q : Value → Shared → Prop}
theorem step_modK (_ : y = y) (hy : 0 < y) (h : 0 ≤ Int.fmod x y → Int.fmod x y < y → Q (.int (Int.fmod x y) s.toks) { s with toks := s.toks + 1 }) :
    wpAny (model prog w) A (binaryOp .Mod (.int x t) (.int y u)) Q E s :=
  PyProof.Rows.mod_int (by omega) (h (Int.fmod_nonneg_of_pos x (by omega)) (Int.fmod_lt_of_pos x (by omega)))
end
end Mine
namespace Mine
theorem due {a0 a1 b0 b1 : Int} : (b0 - a0) ^ (Int.toNat 2) + (b1 - a1) ^ (Int.toNat 2) = a0 * a0 + b0 * b0 - 2 * a0 * b0 + a1 * a1 + b1 * b1 - 2 * a1 * b1 := by
  show (b0 - a0) ^ 2 + (b1 - a1) ^ 2 = _
  grind
theorem due_back {a0 a1 b0 b1 : Int} : (a0 - b0) ^ (Int.toNat 2) + (a1 - b1) ^ (Int.toNat 2) = a0 * a0 + b0 * b0 - 2 * a0 * b0 + a1 * a1 + b1 * b1 - 2 * a1 * b1 := by
  show (a0 - b0) ^ 2 + (a1 - b1) ^ 2 = _
  grind
end Mine
open PySem PySem.W PyProof.Rows
local macro_rules | `(tactic| k_in) => `(tactic| first | k_in_fast | exact Frag.In.keeps (by k_asm) (Fr.keep (by k_asm)))
local macro_rules | `(tactic| k_fmods) => `(tactic| skip)
local macro_rules | `(tactic| walk_at "eval Call") => `(tactic| (k_here; k_dflt (refine Call_ ?_)))
local macro_rules | `(tactic| walk_at "binaryOp Mod int int") => `(tactic| (k_here; (with_reducible refine' Mine.step_modK rfl ?k1 ?_); (case k1 => k_dflt omega); intro hr0 hr1))
local macro_rules | `(tactic| walk_at "binaryOp FloorDiv int int") => `(tactic| (k_here; (with_reducible refine' Mine.step_div ?k1 ?k2 ?_); (case k1 => k_dflt omega); (case k2 => k_dflt omega)))
local macro_rules | `(tactic| walk_at "binaryOp Pow int int") => `(tactic| (k_here; (with_reducible refine' Mine.step_pow ?k1 ?k2 ?_); (case k1 => k_dflt omega); (case k2 => k_dflt omega)))
local macro_rules | `(tactic| walk_at "compareOp Eq int int") => `(tactic| (k_here; (with_reducible refine' Mine.step_eq ?k1 ?_); (case k1 => k_dflt (first | exact Mine.due | exact Mine.due_back))))
set_option maxRecDepth 100000 in
set_option maxHeartbeats 0 in
theorem PySem.Challenge.cw_gradecut_k02_square_holds : PySem.Challenge.rw_gradecut_k02_square.Holds := by
  k_with "tree" => first | (show _ = PySem.W.cellAt _ _ 0; cell_eq) | (show _ = true; rfl) | simp only [Mine.drawn]
  k_with "fact _law_drawn" => exact Mine.drawn_in
  k_with "fact _law_whole" => exact Mine.whole_true
  k_with "call ref" => k_call_by "_law_whole" Mine.wholeF
  k_with "call ref" => k_call_by "_law_at" Mine.cell (fun (_ : List Int) (k : Int) => 0 ≤ k)
  k_with "call ref" => k_call_by "_law_drawn" Mine.drawn (fun (_ m : Int) => 0 < m ∧ m ≤ 30000)
  open_k
