import PyProof.Rows.All
import Wide.All
import OpenK.AllK
import Wide.FinOn
import PySem.Challenge.RW_gradecut_k02_square
set_option Elab.async false
namespace Mine
/-- a drawn number, as the statement draws it -/
def drawn (c m : Int) : Int :=
  if Int.fmod c 5 = 1 then
    (if Int.fmod (Int.fdiv c 5) 5 = 0 then 0 else if Int.fmod (Int.fdiv c 5) 5 = 1 then 1 else if Int.fmod (Int.fdiv c 5) 5 = 2 then -1 else if Int.fmod (Int.fdiv c 5) 5 = 3 then m else 0 - m)
  else Int.fmod (Int.fdiv c 5) (2 * m + 1) - m
theorem drawn_in (c m : Int) : 0 < m → -m ≤ drawn c m ∧ drawn c m ≤ m := by
  intro h
  unfold drawn
  have a := Int.fmod_nonneg_of_pos (Int.fdiv c 5) (show 0 < 2 * m + 1 by omega)
  have b := Int.fmod_lt_of_pos (Int.fdiv c 5) (show 0 < 2 * m + 1 by omega)
  repeat' split
  all_goals omega
end Mine
namespace Mine
open PySem PySem.W PySem.Calls PyProof.Rows
section
variable {prog : Program} {w : World} {A : Around} {E : Value → Shared → Prop} {s : Shared} {x y : Int} {t u : Tok} {Q : Value → Shared → Prop}
theorem step_eq (e : x = y) (h : Q (.bool true) s) : wpAny (model prog w) A (compareOp .Eq (.int x t) (.int y u)) Q E s := by
  refine PyProof.Rows.eq_int ?_
  have d : (x == y) = true := beq_iff_eq.mpr e
  rw [d]
  exact h
end
end Mine
namespace Mine
theorem due {a0 a1 b0 b1 : Int} : (b0 - a0) ^ (Int.toNat 2) + (b1 - a1) ^ (Int.toNat 2) = a0 * a0 + b0 * b0 - 2 * a0 * b0 + a1 * a1 + b1 * b1 - 2 * a1 * b1 := by
  show (b0 - a0) ^ 2 + (b1 - a1) ^ 2 = _
  grind
theorem due_back {a0 a1 b0 b1 : Int} : (a0 - b0) ^ (Int.toNat 2) + (a1 - b1) ^ (Int.toNat 2) = a0 * a0 + b0 * b0 - 2 * a0 * b0 + a1 * a1 + b1 * b1 - 2 * a1 * b1 := by
  show (a0 - b0) ^ 2 + (a1 - b1) ^ 2 = _
  grind
end Mine
open PySem PySem.W PyProof.Rows
local macro_rules | `(tactic| walk_at "compareOp Eq int int") => `(tactic| (k_here; (with_reducible refine' Mine.step_eq ?k1 ?_); (case k1 => k_dflt (first | exact Mine.due | exact Mine.due_back))))
set_option maxRecDepth 100000 in
set_option maxHeartbeats 8000000 in
theorem PySem.Challenge.cw_gradecut_k02_square_holds : PySem.Challenge.rw_gradecut_k02_square.Holds := by
  k_with "tree" => simp only [Mine.drawn]
  k_with "fact _law_drawn" => exact Mine.drawn_in
  k_with "call ref" => k_call_by "_law_drawn" Mine.drawn (fun (_ m : Int) => 0 < m ∧ m ≤ 30000)
  open_k
