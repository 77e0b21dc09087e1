import PyProof.Rows.All
import Wide.All
import OpenK.AllK
import Wide.FinOn
import PySem.Challenge.RW_gradecut_k06_share
set_option Elab.async false
namespace Mine
/-- a number of the script, 0 where there is none -/
def cell (xs : List Int) (k : Int) : Int := PySem.W.cellAt xs k 0
end Mine
namespace Mine
def wholeF (_ : Int) : Bool := true
theorem whole_true (n : Int) : wholeF n = true := rfl
end Mine
namespace Mine
/-- a drawn number, as the statement draws it -/
def drawn (c m : Int) : Int :=
  if Int.fmod c 5 = 1 then
    (if Int.fmod (Int.fdiv c 5) 5 = 0 then 0 else if Int.fmod (Int.fdiv c 5) 5 = 1 then 1 else if Int.fmod (Int.fdiv c 5) 5 = 2 then -1 else if Int.fmod (Int.fdiv c 5) 5 = 3 then m else 0 - m)
  else Int.fmod (Int.fdiv c 5) (2 * m + 1) - m
theorem drawn_in (c m : Int) : 0 < m → -m ≤ drawn c m ∧ drawn c m ≤ m := by
  intro h
  unfold drawn
  have a := Int.fmod_nonneg_of_pos (Int.fdiv c 5) (show 0 < 2 * m + 1 by omega)
  have b := Int.fmod_lt_of_pos (Int.fdiv c 5) (show 0 < 2 * m + 1 by omega)
  repeat' split
  all_goals omega
end Mine
namespace M7
def gcdF (a b : Int) : Int := (Int.gcd a b : Nat)
def absI (a : Int) : Int := if a < 0 then -a else a
theorem gcdF_nonneg (a b : Int) : 0 ≤ gcdF a b := Int.natCast_nonneg _
theorem gcdF_pos {a b : Int} (h : 0 < b) : 0 < gcdF a b := by
  have : 0 < Int.gcd a b := Int.gcd_pos_of_ne_zero_right a (by omega)
  unfold gcdF; omega
theorem gcdF_le {a b : Int} (h : 0 < b) : gcdF a b ≤ b := by
  unfold gcdF
  exact Int.le_of_dvd h (Int.gcd_dvd_right a b)
theorem gcdF_in (a b : Int) : 0 ≤ gcdF a b ∧ (0 < b → 0 < gcdF a b ∧ gcdF a b ≤ b) := ⟨gcdF_nonneg a b, fun h => ⟨gcdF_pos h, gcdF_le h⟩⟩
structure G (a b big less : Int) : Prop where
  e : gcdF big less = gcdF a b
theorem g_start {a b : Int} : G a b (if a < 0 then -a else a) (if b < 0 then -b else b) := by
  constructor
  unfold gcdF
  split <;> split <;> simp
theorem g_turn {a b big less : Int} (h : G a b big less) (hl : 0 < less) : G a b less (Int.fmod big less) := by
  constructor
  rw [← h.e, Int.fmod_eq_emod_of_nonneg _ (by omega)]
  unfold gcdF
  have e : big % less = big - less * (big / less) := by
    have := Int.mul_ediv_add_emod big less
    omega
  have d1 : (Int.gcd less (big % less) : Int) ∣ big := by
    have h1 : (Int.gcd less (big % less) : Int) ∣ less * (big / less) := Int.dvd_trans (Int.gcd_dvd_left _ _) (Int.dvd_mul_right _ _)
    have h2 : (Int.gcd less (big % less) : Int) ∣ big % less := Int.gcd_dvd_right _ _
    have h3 := Int.dvd_add h1 h2
    rwa [Int.mul_ediv_add_emod] at h3
  have d2 : (Int.gcd big less : Int) ∣ big % less := by
    rw [e]
    exact Int.dvd_sub (Int.gcd_dvd_left _ _) (Int.dvd_trans (Int.gcd_dvd_right _ _) (Int.dvd_mul_right _ _))
  have x1 : Int.gcd less (big % less) ∣ Int.gcd big less := Int.dvd_gcd d1 (Int.gcd_dvd_left _ _)
  have x2 : Int.gcd big less ∣ Int.gcd less (big % less) := Int.dvd_gcd (Int.gcd_dvd_right _ _) d2
  rw [Nat.dvd_antisymm x1 x2]
theorem g_out {a b big less : Int} (h : G a b big less) (hb : 0 ≤ big) (hl : less = 0) : big = gcdF a b := by
  rw [← h.e, hl]
  unfold gcdF
  simp
  omega
theorem fmod_in {big less : Int} (hl : 0 < less) : 0 ≤ Int.fmod big less ∧ Int.fmod big less < less := ⟨Int.fmod_nonneg_of_pos _ hl, Int.fmod_lt_of_pos _ hl⟩
/-- part // g and whole // g, made whole again -/
theorem low_mul {p q : Int} (hq : 0 < q) : Int.fdiv p (gcdF p q) * gcdF p q = p ∧ Int.fdiv q (gcdF p q) * gcdF p q = q := by
  have hg := gcdF_pos (a := p) hq
  rw [Int.fdiv_eq_ediv_of_nonneg _ (by omega), Int.fdiv_eq_ediv_of_nonneg _ (by omega)]
  exact ⟨Int.ediv_mul_cancel (Int.gcd_dvd_left p q), Int.ediv_mul_cancel (Int.gcd_dvd_right p q)⟩
theorem low_pos {p q : Int} (hq : 0 < q) : 1 ≤ Int.fdiv q (gcdF p q) := by
  have hg := gcdF_pos (a := p) hq
  have e := (low_mul (p := p) hq).2
  rcases Int.lt_or_le 0 (Int.fdiv q (gcdF p q)) with hc | hc
  · omega
  exfalso
  have : Int.fdiv q (gcdF p q) * gcdF p q ≤ 0 * gcdF p q := Int.mul_le_mul_of_nonneg_right (by omega) (by omega)
  omega
theorem low_gcd {p q : Int} (hq : 0 < q) : gcdF (Int.fdiv p (gcdF p q)) (Int.fdiv q (gcdF p q)) = 1 := by
  have hg := gcdF_pos (a := p) hq
  rw [Int.fdiv_eq_ediv_of_nonneg _ (by omega), Int.fdiv_eq_ediv_of_nonneg _ (by omega)]
  unfold gcdF at *
  have := Int.gcd_ediv_gcd_ediv_gcd (i := p) (j := q) (by omega)
  rw [this]; rfl
theorem cancel {g x y : Int} (hg : 0 < g) (h : x * g = y * g) : x = y := Int.eq_of_mul_eq_mul_right (by omega) h
theorem dvd_one {b a d : Int} (h : b ∣ a * d) (c : Int.gcd b a = 1) : b ∣ d := by
  have := Int.dvd_gcd_mul_iff_dvd_mul.mpr h
  rw [c] at this
  simpa using this
/-- lowest terms are the same just where the fractions are -/
theorem low_iff {p q s t : Int} (hq : 0 < q) (ht : 0 < t) :
    (Int.fdiv p (gcdF p q) = Int.fdiv s (gcdF s t) ∧ Int.fdiv q (gcdF p q) = Int.fdiv t (gcdF s t)) ↔ p * t = s * q := by
  have e1 := low_mul (p := p) hq
  have e2 := low_mul (p := s) ht
  have k1 := low_gcd (p := p) hq
  have k2 := low_gcd (p := s) ht
  have q1 := low_pos (p := p) hq
  have q2 := low_pos (p := s) ht
  have g1 := gcdF_pos (a := p) hq
  have g2 := gcdF_pos (a := s) ht
  generalize gcdF p q = g at *
  generalize gcdF s t = h at *
  generalize Int.fdiv p g = a at *
  generalize Int.fdiv q g = b at *
  generalize Int.fdiv s h = c at *
  generalize Int.fdiv t h = d at *
  obtain ⟨e1, e1'⟩ := e1
  obtain ⟨e2, e2'⟩ := e2
  subst e1 e1' e2 e2'
  constructor
  · rintro ⟨rfl, rfl⟩
    grind
  · intro hh
    have h1 : a * d = c * b := by
      have : (a * d) * (g * h) = (c * b) * (g * h) := by grind
      exact cancel (Int.mul_pos g1 g2) this
    -- b ∣ d and d ∣ b
    have hb : b ∣ d := by
      have : b ∣ a * d := ⟨c, by rw [h1, Int.mul_comm]⟩
      have cop : Int.gcd b a = 1 := by rw [Int.gcd_comm]; unfold gcdF at k1; omega
      exact dvd_one this cop
    have hd : d ∣ b := by
      have : d ∣ c * b := ⟨a, by rw [← h1, Int.mul_comm]⟩
      have cop : Int.gcd d c = 1 := by rw [Int.gcd_comm]; unfold gcdF at k2; omega
      exact dvd_one this cop
    have hbd : b = d := Int.dvd_antisymm (by omega) (by omega) hb hd
    subst hbd
    exact ⟨cancel (by omega) h1, rfl⟩
end M7
namespace Mine
open M7
theorem g_startW {a b : Int} : 0 ≤ (if a < 0 then -a else a) ∧ 0 ≤ (if b < 0 then -b else b) ∧ G a b (if a < 0 then -a else a) (if b < 0 then -b else b) :=
  ⟨by split <;> omega, by split <;> omega, g_start⟩
theorem g_turnW {a b big less : Int} (h : G a b big less) (hl : 0 < less) : 0 ≤ less ∧ 0 ≤ Int.fmod big less ∧ G a b less (Int.fmod big less) :=
  ⟨by omega, (fmod_in hl).1, g_turn h hl⟩
theorem g_less {big less : Int} (hl : 0 < less) : (Int.fmod big less).toNat < less.toNat := by
  have := fmod_in (big := big) hl
  omega
end Mine
namespace M6
open M7
theorem gcdF_abs (p q : Int) : gcdF (if p < 0 then -p else p) q = gcdF p q := by
  unfold gcdF
  split <;> simp
theorem frac {P W a o : Int} (hW : 0 < W) (h : P * o = a * W) : Int.fdiv P (gcdF (if P < 0 then -P else P) W) * o = a * Int.fdiv W (gcdF (if P < 0 then -P else P) W) := by
  rw [gcdF_abs]
  have e := low_mul (p := P) hW
  have g := gcdF_pos (a := P) hW
  generalize gcdF P W = d at *
  generalize Int.fdiv P d = p at *
  generalize Int.fdiv W d = q at *
  obtain ⟨e1, e2⟩ := e
  subst e1 e2
  exact cancel g (by grind)
theorem low1 {P W : Int} (hW : 0 < W) : gcdF (Int.fdiv P (gcdF (if P < 0 then -P else P) W)) (Int.fdiv W (gcdF (if P < 0 then -P else P) W)) = 1 := by
  rw [gcdF_abs]; exact low_gcd hW
theorem whole1 {P W : Int} (hW : 0 < W) : 1 ≤ Int.fdiv W (gcdF (if P < 0 then -P else P) W) := by
  rw [gcdF_abs]; exact low_pos hW
theorem found_a {fx fy st x y al sd : Int} (h : 0 < (fx + st * x - fx) ^ (Int.toNat 2) + (fy + st * y - fy) ^ (Int.toNat 2)) :
    ((fx + al * x - sd * y - fx) * (fx + st * x - fx) + (fy + al * y + sd * x - fy) * (fy + st * y - fy)) * st
      = al * ((fx + st * x - fx) ^ (Int.toNat 2) + (fy + st * y - fy) ^ (Int.toNat 2)) := by
  show _ = al * ((fx + st * x - fx) ^ 2 + (fy + st * y - fy) ^ 2)
  grind
theorem found_b {fx fy st x y sx sy : Int} (h : 0 < (fx + st * x - fx) ^ (Int.toNat 2) + (fy + st * y - fy) ^ (Int.toNat 2)) :
    ((sx - fx) * (fx + st * x - fx) + (sy - fy) * (fy + st * y - fy)) * (st * (x * x + y * y))
      = ((sx - fx) * x + (sy - fy) * y) * ((fx + st * x - fx) ^ (Int.toNat 2) + (fy + st * y - fy) ^ (Int.toNat 2)) := by
  show _ = _ * ((fx + st * x - fx) ^ 2 + (fy + st * y - fy) ^ 2)
  grind
theorem sq_pos {a : Int} (h : a ≠ 0) : 0 < a ^ 2 := by
  have e : a ^ 2 = a * a := by grind
  rw [e]
  rcases Int.lt_trichotomy a 0 with k | k | k
  · have := Int.mul_pos (show 0 < -a by omega) (show 0 < -a by omega)
    grind
  · exact absurd k h
  · exact Int.mul_pos k k
theorem sq_nn {a : Int} : 0 ≤ a ^ 2 := by
  by_cases h : a = 0
  · subst h; decide
  · have := sq_pos h; omega
theorem len_pos {fx fy st x y : Int} (hs : 1 ≤ st) (h : x ≠ 0 ∨ y ≠ 0) : 0 < (fx + st * x - fx) ^ (Int.toNat 2) + (fy + st * y - fy) ^ (Int.toNat 2) := by
  show 0 < (fx + st * x - fx) ^ 2 + (fy + st * y - fy) ^ 2
  have e1 : fx + st * x - fx = st * x := by omega
  have e2 : fy + st * y - fy = st * y := by omega
  rw [e1, e2]
  have a1 : 0 ≤ (st * x) ^ 2 := sq_nn
  have a2 : 0 ≤ (st * y) ^ 2 := sq_nn
  rcases h with h | h
  · have : st * x ≠ 0 := Int.mul_ne_zero (by omega) h
    have := sq_pos this
    omega
  · have : st * y ≠ 0 := Int.mul_ne_zero (by omega) h
    have := sq_pos this
    omega
theorem sq_in {a : Int} (h1 : -(10 ^ 13) ≤ a) (h2 : a ≤ 10 ^ 13) : 0 ≤ a ^ (Int.toNat 2) ∧ a ^ (Int.toNat 2) ≤ 10 ^ 26 := by
  show 0 ≤ a ^ 2 ∧ a ^ 2 ≤ 10 ^ 26
  refine ⟨sq_nn, ?_⟩
  have e : a ^ 2 = ((a.natAbs * a.natAbs : Nat) : Int) := by
    rw [Int.natAbs_mul_self]; grind
  rw [e]
  have : a.natAbs * a.natAbs ≤ 10 ^ 13 * 10 ^ 13 := Nat.mul_le_mul (by omega) (by omega)
  have k : (10 : Nat) ^ 13 * 10 ^ 13 = 10 ^ 26 := by decide
  rw [k] at this
  omega
theorem mul_in6 {x y : Int} (x1 : -(10 ^ 6) ≤ x) (x2 : x ≤ 10 ^ 6) (y1 : -(10 ^ 6) ≤ y) (y2 : y ≤ 10 ^ 6) : -(10 ^ 12) ≤ x * y ∧ x * y ≤ 10 ^ 12 := by
  have h : (x * y).natAbs ≤ 10 ^ 6 * 10 ^ 6 := by
    rw [Int.natAbs_mul]
    exact Nat.mul_le_mul (by omega) (by omega)
  have e : (10 : Nat) ^ 6 * 10 ^ 6 = 10 ^ 12 := by decide
  rw [e] at h
  omega
end M6
namespace Mine
open M7
theorem h_start {a b : Int} (ha : 0 ≤ a) (hb : 0 ≤ b) : 0 ≤ a ∧ 0 ≤ b ∧ G a b a b := ⟨ha, hb, ⟨rfl⟩⟩
end Mine
namespace Mine
open PySem PySem.W PySem.Spec PySem.Calls PyProof.Rows Builtin Builtin.ObjectAttr Builtin.Getset_descriptor
/-- what is known of a caught error: that it is there, and its class -/
def Err (x D : Addr) (hp : Heap) : Prop := ∃ ob, hp.get? x = some ob ∧ ob.cls = .ref D
section
variable {KK : Frag} {x D : Addr}
theorem err_ty (M : Model) (hp : Heap) (p : Err x D hp) : Looks M hp (typeOf (.ref x)) (.ref D) := by
  obtain ⟨ob, k1, k2⟩ := p
  exact k2 ▸ (Looks.ld k1).andThen .now
variable {prog : Program} {w : World} {A : Around} {E : Value → Shared → Prop}
theorem err_is {c : Value} (e : kitOne KK (.ref D) c = some true) : Answers (fun s => KK.In s.heap ∧ Err x D s.heap) (.ref x) c true := by
  intro dep tk prog w A R s hs
  obtain ⟨hp, gg, dd, tt, oo⟩ := s
  obtain ⟨⟨X, p⟩, hq⟩ := hs
  have T0 := err_ty (model prog w) hp p
  unfold kitOne at e
  unfold Builtin.«isinstance.nested»
  refine wpAny_bind (T0.at ?_)
  by_cases same : (Value.ref D == c) = true
  · rw [if_pos same]
    first
      | ((repeat lk); exact hq tt)
      | (refine wpAny_bind (wpAny_rule ?_); first | exact hq tt | exact wpAny_pure (hq tt))
  · rw [if_neg same] at e
    rw [if_neg same]
    obtain ⟨c1, c2, c3⟩ := kit_cls (M := model prog w) X e
    have c4 : Looks (model prog w) hp (isInstance (.ref x) c) true := T0.andThen c3
    refine wpAny_bind (c1.at ?_)
    rw [if_pos (by decide)]
    k_delta "plainIsInstance"
    refine wpAny_bind (wpAny_bind (c2.at ?_))
    simp only [Bool.not_true, Bool.false_eq_true, if_false]
    refine wpAny_bind (c4.at ?_)
    first
      | exact wpAny_pure (wpAny_pure (hq tt))
      | (simp only [if_true]; first | exact wpAny_pure (wpAny_pure (hq tt)) | exact wpAny_pure (hq tt) | exact wpAny_bind (wpAny_pure (wpAny_pure (hq tt))))
theorem err_isi {s : Shared} {Q : Value → Shared → Prop} {c : Value} (p : Err x D s.heap) (X : KK.In s.heap) (e : kitOne KK (.ref D) c = some true) (h : ∀ tk, Q (.bool true) { s with toks := tk }) :
    wpAny (model prog w) A (call (.builtin "isinstance") [.ref x, c]) Q E s :=
  call_isinstance (S := fun _ R s => (KK.In s.heap ∧ Err x D s.heap) ∧ ∀ tk, R (.ok (.ret (.bool true))) { s with toks := tk })
    (fun prog w A R s hs => isinstance_outer (err_is e 0 _ prog w A R s hs) (by intro q; cases q)) ⟨⟨X, p⟩, h⟩
theorem err_of {h0 hp : Heap} {L t : Addr} {news : List (Addr × Obj)} {vs : List Value} (G : Got news x t (.ref D) vs) (N : News h0 L hp news) : Err x D hp := by
  obtain ⟨oe, _, _, _, m1, _, c1, _⟩ := G
  exact ⟨oe, (N _ m1).1, c1⟩
end
end Mine
namespace Mine
open PySem PySem.W PySem.Calls PyProof.Rows
theorem bits_big {k : Int} (h1 : -(10 ^ 100) ≤ k) (h2 : k ≤ 10 ^ 100) : Builtin.Int.intBits k ≤ 400 := by
  unfold Builtin.Int.intBits
  split
  · exact Nat.zero_le _
  · have hn : k.natAbs < 2 ^ 400 := by
      have : (10 : Int) ^ 100 < 2 ^ 400 := by decide
      omega
    have : k.natAbs.log2 < 400 := by
      rcases Nat.eq_zero_or_pos k.natAbs with h0 | hp
      · rw [h0]; decide
      · exact (Nat.log2_lt (Nat.ne_of_gt hp)).mpr hn
    omega
theorem log_big {k : Int} (h1 : -(10 ^ 100) ≤ k) (h2 : k ≤ 10 ^ 100) : k.natAbs.log2 < 9000 := by
  have hn : k.natAbs < 2 ^ 400 := by
    have : (10 : Int) ^ 100 < 2 ^ 400 := by decide
    omega
  have : k.natAbs.log2 < 400 := by
    rcases Nat.eq_zero_or_pos k.natAbs with h0 | hp
    · rw [h0]; decide
    · exact (Nat.log2_lt (Nat.ne_of_gt hp)).mpr hn
  omega
theorem mul_in {x y : Int} (x1 : -(10 ^ 45) ≤ x) (x2 : x ≤ 10 ^ 45) (y1 : -(10 ^ 45) ≤ y) (y2 : y ≤ 10 ^ 45) : -(10 ^ 90) ≤ x * y ∧ x * y ≤ 10 ^ 90 := by
  have h : (x * y).natAbs ≤ 10 ^ 45 * 10 ^ 45 := by
    rw [Int.natAbs_mul]
    exact Nat.mul_le_mul (by omega) (by omega)
  have e : (10 : Nat) ^ 45 * 10 ^ 45 = 10 ^ 90 := by decide
  rw [e] at h
  omega
section
variable {prog : Program} {w : World} {A : Around} {E : Value → Shared → Prop} {s : Shared} {x y : Int} {t u : Tok} {Q : Value → Shared → Prop}
theorem step_div (hy : 0 < y) (hs : y ≤ 10 ^ 100) (h : Q (.int (Int.fdiv x y) s.toks) { s with toks := s.toks + 1 }) :
    wpAny (model prog w) A (binaryOp .FloorDiv (.int x t) (.int y u)) Q E s :=
  PyProof.Rows.floordiv_int (by omega) h (Or.inl (PyProof.noPylong_of_log2 (log_big (by omega) hs)))
theorem step_mod (hy : 60 < y) (h : ∀ r, 0 ≤ r → r < y → Q (.int r s.toks) { s with toks := s.toks + 1 }) :
    wpAny (model prog w) A (binaryOp .Mod (.int x t) (.int y u)) Q E s :=
  PyProof.Rows.mod_int (by omega) (h _ (Int.fmod_nonneg_of_pos x (by omega)) (Int.fmod_lt_of_pos x (by omega)))
theorem step_mul2 (x1 : -(10 ^ 100) ≤ x) (x2 : x ≤ 10 ^ 100) (y1 : -(10 ^ 100) ≤ y) (y2 : y ≤ 10 ^ 100) (h : Q (.int (x * y) s.toks) { s with toks := s.toks + 1 }) :
    wpAny (model prog w) A (binaryOp .Mult (.int x t) (.int y u)) Q E s :=
  PyProof.Rows.mul_int h (PyProof.Rows.mulOk_of_bits (bits_big x1 x2) (bits_big y1 y2) (by decide))
theorem step_mul (x1 : -(10 ^ 45) ≤ x) (x2 : x ≤ 10 ^ 45) (y1 : -(10 ^ 45) ≤ y) (y2 : y ≤ 10 ^ 45) (h : -(10 ^ 90) ≤ x * y → x * y ≤ 10 ^ 90 → Q (.int (x * y) s.toks) { s with toks := s.toks + 1 }) :
    wpAny (model prog w) A (binaryOp .Mult (.int x t) (.int y u)) Q E s :=
  step_mul2 (by omega) (by omega) (by omega) (by omega) (h (mul_in x1 x2 y1 y2).1 (mul_in x1 x2 y1 y2).2)
end
end Mine
namespace Mine
open PySem PySem.W PySem.Calls PyProof.Rows
theorem lit_refl (n : Nat) [OfNat Int n] : (OfNat.ofNat n : Int) = OfNat.ofNat n := rfl
section
variable {prog : Program} {w : World} {A : Around} {E : Value → Shared → Prop} {s : Shared} {x y : Int} {t u : Tok} {Q : Value → Shared → Prop}
theorem step_modK (_ : y = y) (hy : 0 < y) (h : 0 ≤ Int.fmod x y → Int.fmod x y < y → Q (.int (Int.fmod x y) s.toks) { s with toks := s.toks + 1 }) :
    wpAny (model prog w) A (binaryOp .Mod (.int x t) (.int y u)) Q E s :=
  PyProof.Rows.mod_int (by omega) (h (Int.fmod_nonneg_of_pos x (by omega)) (Int.fmod_lt_of_pos x (by omega)))
end
end Mine
namespace Mine
open PySem PySem.W PySem.Calls PyProof.Rows
section
variable {prog : Program} {w : World} {A : Around} {E : Value → Shared → Prop} {s : Shared} {x y : Int} {t u : Tok} {Q : Value → Shared → Prop}
theorem step_pow2 (h1 : -(10 ^ 13) ≤ x) (h2 : x ≤ 10 ^ 13) (h : 0 ≤ x ^ (Int.toNat 2) → x ^ (Int.toNat 2) ≤ 10 ^ 26 → Q (.int (x ^ (Int.toNat 2)) s.toks) { s with toks := s.toks + 1 }) :
    wpAny (model prog w) A (binaryOp .Pow (.int x t) (.int 2 u)) Q E s :=
  PyProof.Rows.pow_int_small (by omega) (by omega) (by omega) (h (M6.sq_in h1 h2).1 (M6.sq_in h1 h2).2)
theorem step_mul6 (x1 : -(10 ^ 6) ≤ x) (x2 : x ≤ 10 ^ 6) (y1 : -(10 ^ 6) ≤ y) (y2 : y ≤ 10 ^ 6) (h : -(10 ^ 12) ≤ x * y → x * y ≤ 10 ^ 12 → Q (.int (x * y) s.toks) { s with toks := s.toks + 1 }) :
    wpAny (model prog w) A (binaryOp .Mult (.int x t) (.int y u)) Q E s :=
  step_mul2 (by omega) (by omega) (by omega) (by omega) (h (M6.mul_in6 x1 x2 y1 y2).1 (M6.mul_in6 x1 x2 y1 y2).2)
theorem step_len (e : 0 < x) (h : 0 < x → Q (.bool false) s) : wpAny (model prog w) A (compareOp .Eq (.int x t) (.int 0 u)) Q E s := by
  refine PyProof.Rows.eq_int ?_
  have d : (x == 0) = false := beq_eq_false_iff_ne.mpr (by omega)
  rw [d]
  exact h e
theorem step_zero {a b : Int} (ha : a = 0) (hb : b = 0) (h : Q (.bool true) s) : wpAny (model prog w) A (compareOp .Eq (.int (a ^ (Int.toNat 2) + b ^ (Int.toNat 2)) t) (.int 0 u)) Q E s := by
  refine PyProof.Rows.eq_int ?_
  subst ha hb
  exact h
theorem step_neq (e : x = y) (h : Q (.bool false) s) : wpAny (model prog w) A (compareOp .NotEq (.int x t) (.int y u)) Q E s := by
  refine PyProof.Rows.ne_int ?_
  subst e
  have d : (x != x) = false := by simp
  first | (rw [d]; exact h) | simpa using h
theorem step_nlt (e : y ≤ x) (h : y ≤ x → Q (.bool false) s) : wpAny (model prog w) A (compareOp .Lt (.int x t) (.int y u)) Q E s := by
  refine PyProof.Rows.lt_int ?_
  have d : decide (x < y) = false := decide_eq_false (by omega)
  rw [d]
  exact h e
end
end Mine
namespace Mine
open PySem PySem.W PySem.Calls PyProof.Rows
/-- the two ways of an if meet again: two names hold ints of which P is known, all else is as it was -/
def J2Post (h₀ : Heap) (L : Addr) (led : List (Addr × Obj)) (m₀ : Str → Option Value) (x y : Str) (P : Int → Int → Prop) (s₁ : Shared) (f : Flow) (s₂ : Shared) : Prop :=
  f = .next ∧ ∃ h tk m' a ta b tb, s₂ = { s₁ with heap := h, toks := tk } ∧ Fr h₀ L h m' ∧ News h₀ L h led ∧ m' x = some (.int a ta) ∧ m' y = some (.int b tb) ∧ (∀ z, z ≠ x → z ≠ y → m' z = m₀ z) ∧ P a b
section
variable {prog : Program} {w : World} {A : Around} {E : Value → Shared → Prop} {s : Shared} {env : Env} {h₀ : Heap} {Q : Flow → Shared → Prop} {m₀ : Str → Option Value} {led : List (Addr × Obj)} {st : Stmt}
theorem if_join2 (x y : Str) (P : Int → Int → Prop) (F : Fr h₀ env.locals s.heap m₀) (N : News h₀ env.locals s.heap led)
    (h1 : wpAny (model prog w) A (exec st env) (J2Post h₀ env.locals led m₀ x y P s) E s)
    (h2 : ∀ a ta b tb h tk, P a b → Fr h₀ env.locals h (fun z => if z = y then some (.int b tb) else if z = x then some (.int a ta) else m₀ z) → News h₀ env.locals h led → Q .next { s with heap := h, toks := tk }) :
    wpAny (model prog w) A (exec st env) Q E s := by
  refine wpAny_mono h1 ?_ (fun _ _ q => q)
  rintro f s₂ ⟨rfl, h, tk, m', a, ta, b, tb, rfl, F', N', hx, hy, hz, p⟩
  refine h2 a ta b tb h tk p ?_ N'
  have e : (fun z => if z = y then some (.int b tb) else if z = x then some (.int a ta) else m₀ z) = m' := by
    funext z
    by_cases e1 : z = y
    · rw [if_pos e1, e1, hy]
    · rw [if_neg e1]
      by_cases e2 : z = x
      · rw [if_pos e2, e2, hx]
      · rw [if_neg e2, hz z e2 e1]
  rw [e]
  exact F'
theorem j2_end {L : Addr} {x y : Str} {P : Int → Int → Prop} {s₁ : Shared} {h : Heap} {tk : Nat} {m' : Str → Option Value} {news' : List (Addr × Obj)} {a b : Int} {ta tb : Tok}
    (F : Fr h₀ L h m') (N : News h₀ L h news') (hn : ∀ p ∈ led, p ∈ news') (hx : m' x = some (.int a ta)) (hy : m' y = some (.int b tb)) (hz : ∀ z, z ≠ x → z ≠ y → m' z = m₀ z) (p : P a b) :
    J2Post h₀ L led m₀ x y P s₁ .next { s₁ with heap := h, toks := tk } :=
  ⟨rfl, h, tk, m', a, ta, b, tb, rfl, F, fun q hq => N q (hn q hq), hx, hy, hz, p⟩
end
/-- the same for one name, beside one that is only read -/
def J1Post (h₀ : Heap) (L : Addr) (led : List (Addr × Obj)) (m₀ : Str → Option Value) (x : Str) (P : Int → Prop) (s₁ : Shared) (f : Flow) (s₂ : Shared) : Prop :=
  f = .next ∧ ∃ h tk m' a ta, s₂ = { s₁ with heap := h, toks := tk } ∧ Fr h₀ L h m' ∧ News h₀ L h led ∧ m' x = some (.int a ta) ∧ (∀ z, z ≠ x → m' z = m₀ z) ∧ P a
section
variable {prog : Program} {w : World} {A : Around} {E : Value → Shared → Prop} {s : Shared} {env : Env} {h₀ : Heap} {Q : Flow → Shared → Prop} {m₀ : Str → Option Value} {led : List (Addr × Obj)} {st : Stmt}
theorem if_join1 (x g : Str) (P : Int → Int → Prop) {c : Int} {tc : Tok} (hg : m₀ g = some (.int c tc)) (F : Fr h₀ env.locals s.heap m₀) (N : News h₀ env.locals s.heap led)
    (h1 : wpAny (model prog w) A (exec st env) (J1Post h₀ env.locals led m₀ x (P c) s) E s)
    (h2 : ∀ a ta h tk, P c a → Fr h₀ env.locals h (fun z => if z = x then some (.int a ta) else m₀ z) → News h₀ env.locals h led → Q .next { s with heap := h, toks := tk }) :
    wpAny (model prog w) A (exec st env) Q E s := by
  refine wpAny_mono h1 ?_ (fun _ _ q => q)
  rintro f s₂ ⟨rfl, h, tk, m', a, ta, rfl, F', N', hx, hz, p⟩
  refine h2 a ta h tk p ?_ N'
  have e : (fun z => if z = x then some (.int a ta) else m₀ z) = m' := by
    funext z
    by_cases e2 : z = x
    · rw [if_pos e2, e2, hx]
    · rw [if_neg e2, hz z e2]
  rw [e]
  exact F'
theorem j1_end {L : Addr} {x : Str} {P : Int → Prop} {s₁ : Shared} {h : Heap} {tk : Nat} {m' : Str → Option Value} {news' : List (Addr × Obj)} {a : Int} {ta : Tok}
    (F : Fr h₀ L h m') (N : News h₀ L h news') (hn : ∀ p ∈ led, p ∈ news') (hx : m' x = some (.int a ta)) (hz : ∀ z, z ≠ x → m' z = m₀ z) (p : P a) :
    J1Post h₀ L led m₀ x P s₁ .next { s₁ with heap := h, toks := tk } :=
  ⟨rfl, h, tk, m', a, ta, rfl, F, fun q hq => N q (hn q hq), hx, hz, p⟩
end
end Mine
open PySem PySem.W PyProof.Rows
local macro_rules | `(tactic| k_in) => `(tactic| first | k_in_fast | exact Frag.In.keeps (by k_asm) (Fr.keep (by k_asm)))
local macro_rules | `(tactic| k_fmods) => `(tactic| skip)
local macro_rules | `(tactic| walk_at "eval Call") => `(tactic| (k_here; k_dflt (refine Call_ ?_)))
local macro_rules | `(tactic| walk_at "call builtin:isinstance") => `(tactic| (k_here; (with_reducible show wpAny _ _ (call _ [Value.ref _, _]) _ _ _); k_dflt (refine' Mine.err_isi ?I ?X ?ee ?_; (case I => exact Mine.err_of (by assumption) (by assumption)); (case X => k_in); (case ee => kit_is); k_whole; intro _)))
local macro_rules | `(tactic| walk_at "binaryOp FloorDiv int int") => `(tactic| (k_here; (with_reducible refine' Mine.step_div ?k1 ?k2 ?_); (case k1 => k_dflt omega); (case k2 => k_dflt omega)))
local macro_rules | `(tactic| walk_at "binaryOp Mult int int") => `(tactic| (k_here; (with_reducible refine' Mine.step_mul2 ?k1 ?k2 ?k3 ?k4 ?_); (case k1 => k_dflt omega); (case k2 => k_dflt omega); (case k3 => k_dflt omega); (case k4 => k_dflt omega)))
local macro_rules | `(tactic| walk_at "binaryOp Mult int int") => `(tactic| (k_here; (with_reducible refine' Mine.step_mul ?k1 ?k2 ?k3 ?k4 ?_); (case k1 => k_dflt omega); (case k2 => k_dflt omega); (case k3 => k_dflt omega); (case k4 => k_dflt omega); intro hp1 hp2))
local macro_rules | `(tactic| walk_at "binaryOp Mult int int") => `(tactic| (k_here; (with_reducible refine' Mine.step_mul6 ?k1 ?k2 ?k3 ?k4 ?_); (case k1 => k_dflt omega); (case k2 => k_dflt omega); (case k3 => k_dflt omega); (case k4 => k_dflt omega); intro hp1 hp2))
local macro_rules | `(tactic| walk_at "binaryOp Pow int int") => `(tactic| (k_here; (with_reducible refine' Mine.step_pow2 ?k1 ?k2 ?_); (case k1 => k_dflt omega); (case k2 => k_dflt omega); intro hp1 hp2))
local macro_rules | `(tactic| walk_at "compareOp Eq int int") => `(tactic| (k_here; (with_reducible refine' Mine.step_zero ?k1 ?k2 ?_); (case k1 => k_dflt omega); (case k2 => k_dflt omega)))
local macro_rules | `(tactic| walk_at "compareOp Eq int int") => `(tactic| (k_here; (with_reducible refine' Mine.step_len ?k1 ?_); (case k1 => k_dflt (exact M6.len_pos (by omega) (by omega))); intro hlen))
local macro_rules | `(tactic| walk_at "compareOp NotEq int int") => `(tactic| (k_here; (with_reducible refine' Mine.step_neq ?k1 ?_); (case k1 => k_dflt (first | exact M6.low1 (by assumption) | exact M6.frac (by assumption) (M6.found_a (by assumption)) | exact M6.frac (by assumption) (M6.found_b (by assumption))))))
local macro_rules | `(tactic| walk_at "compareOp Lt int int") => `(tactic| (k_here; (with_reducible refine' Mine.step_nlt ?k1 ?_); (case k1 => k_dflt (exact M6.whole1 (by assumption))); intro hone))
local macro_rules | `(tactic| walk_at "binaryOp Mod int int") => `(tactic| (k_here; (with_reducible refine' Mine.step_modK rfl ?k1 ?_); (case k1 => k_dflt omega); intro hr0 hr1))
local macro_rules | `(tactic| k_mem) => `(tactic| with_reducible (first | (apply List.mem_cons_self) | (apply List.mem_cons_of_mem; apply List.mem_cons_self) | (apply List.mem_cons_of_mem; apply List.mem_cons_of_mem; apply List.mem_cons_self) | (apply List.mem_cons_of_mem; apply List.mem_cons_of_mem; apply List.mem_cons_of_mem; apply List.mem_cons_self) | (apply List.mem_cons_of_mem; apply List.mem_cons_of_mem; apply List.mem_cons_of_mem; apply List.mem_cons_of_mem; apply List.mem_cons_self) | (apply List.mem_cons_of_mem; apply List.mem_cons_of_mem; apply List.mem_cons_of_mem; apply List.mem_cons_of_mem; apply List.mem_cons_of_mem; apply List.mem_cons_self) | (apply List.mem_cons_of_mem; apply List.mem_cons_of_mem; apply List.mem_cons_of_mem; apply List.mem_cons_of_mem; apply List.mem_cons_of_mem; apply List.mem_cons_of_mem; apply List.mem_cons_self) | (apply List.mem_cons_of_mem; apply List.mem_cons_of_mem; apply List.mem_cons_of_mem; apply List.mem_cons_of_mem; apply List.mem_cons_of_mem; apply List.mem_cons_of_mem; apply List.mem_cons_of_mem; apply List.mem_cons_self) | (apply List.mem_cons_of_mem; apply List.mem_cons_of_mem; apply List.mem_cons_of_mem; apply List.mem_cons_of_mem; apply List.mem_cons_of_mem; apply List.mem_cons_of_mem; apply List.mem_cons_of_mem; apply List.mem_cons_of_mem; apply List.mem_cons_self) | (apply List.mem_cons_of_mem; apply List.mem_cons_of_mem; apply List.mem_cons_of_mem; apply List.mem_cons_of_mem; apply List.mem_cons_of_mem; apply List.mem_cons_of_mem; apply List.mem_cons_of_mem; apply List.mem_cons_of_mem; apply List.mem_cons_of_mem; apply List.mem_cons_self) | (apply List.mem_cons_of_mem; apply List.mem_cons_of_mem; apply List.mem_cons_of_mem; apply List.mem_cons_of_mem; apply List.mem_cons_of_mem; apply List.mem_cons_of_mem; apply List.mem_cons_of_mem; apply List.mem_cons_of_mem; apply List.mem_cons_of_mem; apply List.mem_cons_of_mem; apply List.mem_cons_self) | (apply List.mem_cons_of_mem; apply List.mem_cons_of_mem; apply List.mem_cons_of_mem; apply List.mem_cons_of_mem; apply List.mem_cons_of_mem; apply List.mem_cons_of_mem; apply List.mem_cons_of_mem; apply List.mem_cons_of_mem; apply List.mem_cons_of_mem; apply List.mem_cons_of_mem; apply List.mem_cons_of_mem; apply List.mem_cons_self) | (apply List.mem_cons_of_mem; apply List.mem_cons_of_mem; apply List.mem_cons_of_mem; apply List.mem_cons_of_mem; apply List.mem_cons_of_mem; apply List.mem_cons_of_mem; apply List.mem_cons_of_mem; apply List.mem_cons_of_mem; apply List.mem_cons_of_mem; apply List.mem_cons_of_mem; apply List.mem_cons_of_mem; apply List.mem_cons_of_mem; apply List.mem_cons_self) | (apply List.mem_cons_of_mem; apply List.mem_cons_of_mem; apply List.mem_cons_of_mem; apply List.mem_cons_of_mem; apply List.mem_cons_of_mem; apply List.mem_cons_of_mem; apply List.mem_cons_of_mem; apply List.mem_cons_of_mem; apply List.mem_cons_of_mem; apply List.mem_cons_of_mem; apply List.mem_cons_of_mem; apply List.mem_cons_of_mem; apply List.mem_cons_of_mem; apply List.mem_cons_self)))
local macro_rules | `(tactic| walk_at "exec If") => `(tactic| (k_here; (first | (with_reducible show wpAny _ _ (exec (PySem.Stmt.If _ _ _ ⟨56, _, _, _⟩) _) _ _ _) | (with_reducible show wpAny _ _ (exec (PySem.Stmt.If _ _ _ ⟨59, _, _, _⟩) _) _ _ _)); (rename Fr _ _ _ _ => lF'); (rename News _ _ _ _ => lN'); (k_dflt refine' Mine.if_join2 (Str.ofString "_law_x") (Str.ofString "_law_y") (fun a b => -60 ≤ a ∧ a ≤ 60 ∧ -60 ≤ b ∧ b ≤ 60 ∧ (a ≠ 0 ∨ b ≠ 0)) lF' lN' (wpAny_If ?_) ?_); rotate_left; (clear lF' lN'); (intro jA jT jB jU jH jK jP jF jN); (obtain ⟨jp1, jp2, jp3, jp4, jp5⟩ := jP); (try k_fold); rotate_left; (try k_fold); k_whole))
local macro_rules | `(tactic| walk_at "J2Post") => `(tactic| ((try k_fold); (k_dflt (refine' Mine.j2_end ?fF ?fN ?hn ?hx ?hy ?hz ?pp; (case fF => assumption); (case fN => assumption); (case hn => first | exact (fun _ h => h) | kst_in | kst_inAny); (case hx => with_unfolding_all rfl); (case hy => with_unfolding_all rfl); (case hz => (intro z h1 h2; first | rfl | exact (if_neg h2).trans (if_neg h1) | exact (if_neg h1).trans (if_neg h2) | exact (if_neg h1) | exact (if_neg h2) )); (case pp => ((try dsimp only); omega))))))
set_option maxRecDepth 100000 in
set_option maxHeartbeats 0 in
theorem PySem.Challenge.cw_gradecut_k06_share_holds : PySem.Challenge.rw_gradecut_k06_share.Holds := by
  k_with "tree" => first | (show _ = PySem.W.cellAt _ _ 0; cell_eq) | (show _ = true; rfl) | exact M7.g_out (by assumption) (by omega) (by omega) | simp only [Mine.drawn]
  k_with "fact _law_whole" => exact Mine.whole_true
  k_with "call ref" => k_call_by "_law_whole" Mine.wholeF
  k_with "call ref" => k_call_by "_law_at" Mine.cell (fun (_ : List Int) (k : Int) => 0 ≤ k)
  k_with "fact _law_drawn" => exact Mine.drawn_in
  k_with "fact _law_gcd" => exact M7.gcdF_in
  k_with "fact greatest_divisor" => exact M7.gcdF_in
  k_with "call ref" => k_call_by "_law_drawn" Mine.drawn (fun (_ m : Int) => 0 < m ∧ m ≤ 30000)
  k_with "call ref" => k_call_by "_law_gcd" M7.gcdF (fun (_ b : Int) => 0 < b)
  k_with "call ref" => k_call_by "greatest_divisor" M7.gcdF (fun (a b : Int) => 0 ≤ a ∧ 0 < b)
  k_with "state" => first | exact Mine.h_start (by omega) (by omega) | exact Mine.g_startW | exact Mine.g_turnW (by assumption) (by omega)
  k_with "measure" => exact Mine.g_less (by omega)
  k_with "exec While Compare cons nil" => k_while_given ["_law_one", "_law_two"] (fun a b _ big less => 0 ≤ big ∧ 0 ≤ less ∧ M7.G a b big less) (fun _ _ _ _ less => less.toNat) "_law_big" "_law_less"
  k_with "exec While Compare cons nil" => k_while_given ["one!", "two!"] (fun a b _ one two => 0 ≤ one ∧ 0 ≤ two ∧ M7.G a b one two) (fun _ _ _ _ two => two.toNat) "one" "two"
  open_k
