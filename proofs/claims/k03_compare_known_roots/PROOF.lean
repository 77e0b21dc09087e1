import PyProof.Rows.All
import Wide.All
import OpenK.AllK
import Wide.FinOn
import PySem.Challenge.RW_gradecut_k03_compare_known_roots
set_option Elab.async false
set_option Elab.async false
namespace Mine
/-- a number of the script, 0 where there is none -/
def cell (xs : List Int) (k : Int) : Int := PySem.W.cellAt xs k 0
end Mine
namespace Mine
def wholeF (_ : Int) : Bool := true
theorem whole_true (n : Int) : wholeF n = true := rfl
end Mine
namespace M3
/-- the whole root -/
def rootN : Nat → Nat
  | 0 => 0
  | n + 1 => if (rootN n + 1) * (rootN n + 1) ≤ n + 1 then rootN n + 1 else rootN n
theorem rootN_spec : ∀ n, rootN n * rootN n ≤ n ∧ n < (rootN n + 1) * (rootN n + 1)
  | 0 => by decide
  | n + 1 => by
    have ih := rootN_spec n
    unfold rootN
    split
    · rename_i h
      refine ⟨h, ?_⟩
      have : (rootN n + 1 + 1) * (rootN n + 1 + 1) = (rootN n + 1) * (rootN n + 1) + 2 * rootN n + 3 := by grind
      omega
    · omega
def wroot (n : Int) : Int := (rootN n.toNat : Nat)
theorem wroot_nonneg (n : Int) : 0 ≤ wroot n := Int.natCast_nonneg _
theorem wroot_le (n : Int) (h : 0 ≤ n) : wroot n * wroot n ≤ n := by
  have := (rootN_spec n.toNat).1
  show ((rootN n.toNat : Nat) : Int) * ((rootN n.toNat : Nat) : Int) ≤ n
  have e : ((rootN n.toNat : Nat) : Int) * ((rootN n.toNat : Nat) : Int) = ((rootN n.toNat * rootN n.toNat : Nat) : Int) := by simp
  rw [e]; omega
theorem wroot_lt (n : Int) (h : 0 ≤ n) : n < (wroot n + 1) * (wroot n + 1) := by
  have := (rootN_spec n.toNat).2
  show n < ((rootN n.toNat : Nat) + 1 : Int) * ((rootN n.toNat : Nat) + 1 : Int)
  have e : ((rootN n.toNat : Nat) + 1 : Int) * ((rootN n.toNat : Nat) + 1 : Int) = (((rootN n.toNat + 1) * (rootN n.toNat + 1) : Nat) : Int) := by simp
  rw [e]; omega
theorem sq_lt {a b : Int} (ha : 0 ≤ a) (h : a * a < b * b) (hb : 0 ≤ b) : a < b := by
  apply Int.lt_of_not_ge
  intro hc
  have := Int.mul_le_mul hc hc hb ha
  omega
theorem sq_le {a b : Int} (h : a * a ≤ b * b) (ha : 0 ≤ a) (hb : 0 ≤ b) : a ≤ b := by
  have : a < b + 1 := by
    apply sq_lt ha _ (by omega)
    have : (b + 1) * (b + 1) = b * b + 2 * b + 1 := by grind
    omega
  omega
theorem root_unique {n r : Int} (h0 : 0 ≤ r) (h1 : r * r ≤ n) (h2 : n < (r + 1) * (r + 1)) (hn : 0 ≤ n) : wroot n = r := by
  have a := wroot_le n hn
  have b := wroot_lt n hn
  have c := wroot_nonneg n
  have x : wroot n < r + 1 := sq_lt c (by omega) (by omega)
  have y : r < wroot n + 1 := sq_lt h0 (by omega) (by omega)
  omega
theorem newton {n r q : Int} (hn : 0 ≤ n) (hr : 0 < r) (hq : q = n / r) : wroot n ≤ (r + q) / 2 := by
  have a := wroot_le n hn
  have c := wroot_nonneg n
  generalize hs : wroot n = s at *
  have h1 : n < r * (q + 1) := by
    have := Int.lt_ediv_add_one_mul_self n hr
    rw [hq]; rw [Int.mul_comm]; exact this
  have h2 : 0 ≤ (s - r) * (s - r) := by
    rcases Int.le_total s r with h | h
    · have : 0 ≤ (r - s) * (r - s) := Int.mul_nonneg (by omega) (by omega)
      grind
    · exact Int.mul_nonneg (by omega) (by omega)
  -- 2 s r ≤ s² + r² ≤ n + r² < r (q + 1) + r²
  have h3 : r * (2 * s) < r * (q + 1 + r) := by grind
  have h4 : 2 * s < q + 1 + r := Int.lt_of_mul_lt_mul_left h3 (by omega)
  omega
/-- what holds between two turns -/
structure Inv (n r m : Int) : Prop where
  r0 : 0 ≤ r
  rn : r ≤ n
  sr : wroot n ≤ r
  sm : wroot n ≤ m
  e : r ≤ m → r = wroot n
theorem root_pos {n : Int} (h : 0 < n) : 1 ≤ wroot n := by
  have b := wroot_lt n (by omega)
  have c := wroot_nonneg n
  rcases (by omega : wroot n = 0 ∨ 1 ≤ wroot n) with z | z
  · rw [z] at b; omega
  · exact z
theorem inv_start {n : Int} (h : 0 ≤ n) : Inv n n (Int.fdiv (n + 1) 2) := by
  rw [Int.fdiv_eq_ediv_of_nonneg _ (by decide)]
  have a := wroot_le n h
  have b := wroot_lt n h
  have c := wroot_nonneg n
  have d : 0 ≤ (wroot n - 1) * (wroot n - 1) := by
    rcases (by omega : wroot n = 0 ∨ 1 ≤ wroot n) with z | z
    · rw [z]; decide
    · exact Int.mul_nonneg (by omega) (by omega)
  have d2 : (wroot n - 1) * (wroot n - 1) = wroot n * wroot n - 2 * wroot n + 1 := by grind
  refine ⟨h, Int.le_refl _, ?_, by omega, ?_⟩
  · rcases (by omega : wroot n = 0 ∨ 1 ≤ wroot n) with z | z
    · omega
    · have := Int.mul_le_mul_of_nonneg_left z c
      omega
  · intro hc
    have : n = 0 ∨ n = 1 := by omega
    rcases this with z | z
    · exact (root_unique (by omega) (by subst z; decide) (by subst z; decide) h).symm
    · exact (root_unique (by omega) (by subst z; decide) (by subst z; decide) h).symm
theorem inv_pos {n r m : Int} (h : Inv n r m) (hlt : m < r) : 0 < m := by
  have := h.sm
  have := root_pos (n := n) (by have := h.rn; have := h.sm; have := wroot_nonneg n; omega)
  omega
theorem inv_turn {n r m : Int} (h : Inv n r m) (hlt : m < r) : Inv n m (Int.fdiv (m + Int.fdiv n m) 2) := by
  have mp := inv_pos h hlt
  have n0 : 0 ≤ n := by have := h.rn; have := h.r0; omega
  rw [Int.fdiv_eq_ediv_of_nonneg _ (by decide), Int.fdiv_eq_ediv_of_nonneg n (by omega : 0 ≤ m)]
  have nw := newton n0 mp rfl
  refine ⟨by omega, by have := h.rn; omega, h.sm, nw, ?_⟩
  intro hc
  have h2 : m ≤ n / m := by omega
  have h3 : m * m ≤ n := by
    have e1 : n / m * m ≤ n := Int.ediv_mul_le n (by omega)
    have e2 : m * m ≤ n / m * m := Int.mul_le_mul_of_nonneg_right h2 (by omega)
    omega
  have b := wroot_lt n n0
  have : m < wroot n + 1 := sq_lt (by omega) (by omega) (by have := wroot_nonneg n; omega)
  have := h.sm
  omega
theorem inv_out {n r m : Int} (h : Inv n r m) (hlt : ¬ m < r) : r = wroot n := h.e (by omega)

/-- reaches, as a bool -/
def Fits (g s t : Int) : Prop := 0 ≤ g - s - t * t ∧ 4 * t * t * s ≤ (g - s - t * t) * (g - s - t * t)
theorem nn {a : Int} : 0 ≤ a * a := by
  rcases Int.le_total 0 a with h | h
  · exact Int.mul_nonneg h h
  · have : 0 ≤ (-a) * (-a) := Int.mul_nonneg (by omega) (by omega)
    grind
theorem nn4 {t : Int} : 0 ≤ 4 * t * t := by
  have h : 0 ≤ t * t := nn
  have e : 4 * t * t = 4 * (t * t) := by grind
  omega
/-- with t whole tenths more than the root of s still no longer than the root of g: by whole numbers c with .. no roots -/
theorem fits_low {g s : Int} (hs : 0 ≤ s) (hsg : s ≤ g) (h : ¬ Fits g s (wroot g - wroot s)) : Fits g s (wroot g - wroot s - 1) ∧ 0 ≤ wroot g - wroot s - 1 := by
  have hg : 0 ≤ g := by omega
  have a1 := wroot_le g hg
  have a2 := wroot_lt g hg
  have b1 := wroot_le s hs
  have b2 := wroot_lt s hs
  have cg := wroot_nonneg g
  have cs := wroot_nonneg s
  generalize hu : wroot g = u at *
  generalize hv : wroot s = v at *
  have huv : v ≤ u := by
    have : v < u + 1 := sq_lt cs (by omega) (by omega)
    omega
  have hne : v ≠ u := by
    intro e
    subst e
    apply h
    unfold Fits
    have : v - v = 0 := by omega
    rw [this]
    refine ⟨by omega, ?_⟩
    have : 0 ≤ (g - s - 0 * 0) * (g - s - 0 * 0) := nn
    omega
  refine ⟨?_, by omega⟩
  -- √s < v + 1, so √s + (u - v - 1) < u ≤ √g
  generalize ht : u - v - 1 = t
  have t0 : 0 ≤ t := by omega
  have hut : u = v + 1 + t := by omega
  have k1 : g ≥ (v + 1 + t) * (v + 1 + t) := by rw [← hut]; omega
  have k2 : (v + 1 + t) * (v + 1 + t) = (v + 1) * (v + 1) + 2 * (t * (v + 1)) + t * t := by grind
  have k3 : 0 ≤ t * (v + 1) := Int.mul_nonneg t0 (by omega)
  have k4 : 2 * (t * (v + 1)) ≤ g - s - t * t := by omega
  refine ⟨by omega, ?_⟩
  have k5 := Int.mul_le_mul k4 k4 (by omega) (by omega)
  have k6 : 2 * (t * (v + 1)) * (2 * (t * (v + 1))) = 4 * t * t * ((v + 1) * (v + 1)) := by grind
  have k7 : 4 * t * t * s ≤ 4 * t * t * ((v + 1) * (v + 1)) := Int.mul_le_mul_of_nonneg_left (by omega) nn4
  omega
/-- one tenth beyond the gap of the whole roots is too much -/
theorem fits_high {g s : Int} (hs : 0 ≤ s) (hsg : s ≤ g) : ¬ Fits g s (wroot g - wroot s + 1) := by
  have hg : 0 ≤ g := by omega
  have a1 := wroot_le g hg
  have a2 := wroot_lt g hg
  have b1 := wroot_le s hs
  have b2 := wroot_lt s hs
  have cg := wroot_nonneg g
  have cs := wroot_nonneg s
  generalize hu : wroot g = u at *
  generalize hv : wroot s = v at *
  have huv : v ≤ u := by
    have : v < u + 1 := sq_lt cs (by omega) (by omega)
    omega
  rintro ⟨h0, h1⟩
  generalize ht : u - v + 1 = t at *
  have t1 : 1 ≤ t := by omega
  have hut : u + 1 = v + t := by omega
  rw [hut] at a2
  have k2 : (v + t) * (v + t) = v * v + 2 * (t * v) + t * t := by grind
  have k3 : 0 ≤ t * v := Int.mul_nonneg (by omega) cs
  -- g - s - t² < 2 t v + v² - s ≤ 2 t v
  have k4 : g - s - t * t < 2 * (t * v) := by omega
  have k5 : (g - s - t * t) * (g - s - t * t) < 2 * (t * v) * (2 * (t * v)) := by
    have := Int.mul_lt_mul' (Int.le_of_lt k4) k4 h0 (by omega)
    exact this
  have k6 : 2 * (t * v) * (2 * (t * v)) = 4 * t * t * (v * v) := by grind
  have k7 : 4 * t * t * (v * v) ≤ 4 * t * t * s := Int.mul_le_mul_of_nonneg_left (by omega) nn4
  omega

/-- of two whole numbers the greatest t that fits: no t lies between -/
theorem fits_mono {g s t u : Int} (hs : 0 ≤ s) (t0 : 0 ≤ t) (htu : t ≤ u) (h : Fits g s u) : Fits g s t := by
  obtain ⟨h0, h1⟩ := h
  have k1 : t * t ≤ u * u := Int.mul_le_mul htu htu t0 (by omega)
  refine ⟨by omega, ?_⟩
  have k2 : (g - s - u * u) * (g - s - u * u) ≤ (g - s - t * t) * (g - s - t * t) := Int.mul_le_mul (by omega) (by omega) h0 (by omega)
  have k3 : 4 * t * t * s ≤ 4 * u * u * s := by
    apply Int.mul_le_mul_of_nonneg_right _ hs
    have e1 : 4 * t * t = 4 * (t * t) := by grind
    have e2 : 4 * u * u = 4 * (u * u) := by grind
    omega
  omega
end M3
namespace Mine
open M3
def fitsB (g s t : Int) : Bool := decide (0 ≤ g - s - t * t) && decide (4 * t * t * s ≤ (g - s - t * t) * (g - s - t * t))
theorem fitsB_iff {g s t : Int} : fitsB g s t = true ↔ Fits g s t := by
  unfold fitsB Fits
  simp
theorem fits_neg {g s t : Int} (h : g - s - t * t < 0) : false = fitsB g s t := by
  unfold fitsB
  rw [decide_eq_false (by omega)]
  rfl
theorem fits_neg2 {g s t : Int} (h : g - s - t * t < 0) : decide (0 ≤ g - s - t * t) = fitsB g s t := by
  rw [← fits_neg h]
  exact decide_eq_false (by omega)
theorem fits_pos {g s t : Int} (h : 0 ≤ g - s - t * t) : decide (4 * t * t * s ≤ (g - s - t * t) * (g - s - t * t)) = fitsB g s t := by
  unfold fitsB
  rw [decide_eq_true h]
  rfl
theorem wroot_in (n : Int) : 0 ≤ wroot n ∧ (0 ≤ n → wroot n ≤ n) := by
  refine ⟨wroot_nonneg n, fun h => ?_⟩
  exact (inv_start h).sr
theorem w_start {n : Int} (h : 0 ≤ n) : 0 ≤ n ∧ n ≤ n ∧ (Int.fdiv (n + 1) 2 < n → 0 < Int.fdiv (n + 1) 2) ∧ Inv n n (Int.fdiv (n + 1) 2) :=
  ⟨h, Int.le_refl _, fun hl => inv_pos (inv_start h) hl, inv_start h⟩
theorem w_turn {n r m : Int} (h : Inv n r m) (hlt : m < r) : 0 ≤ m ∧ m ≤ n ∧ (Int.fdiv (m + Int.fdiv n m) 2 < m → 0 < Int.fdiv (m + Int.fdiv n m) 2) ∧ Inv n m (Int.fdiv (m + Int.fdiv n m) 2) :=
  ⟨Int.le_of_lt (inv_pos h hlt), by have := h.rn; omega, fun hl => inv_pos (inv_turn h hlt) hl, inv_turn h hlt⟩
theorem end_low {g s : Int} (hs : 0 ≤ s) (hsg : s ≤ g) (h : ¬ fitsB g s (wroot g - wroot s) = true) : fitsB g s (wroot g - wroot s - 1) = true ∧ 0 ≤ wroot g - wroot s - 1 := by
  have := fits_low hs hsg (fun k => h (fitsB_iff.mpr k))
  exact ⟨fitsB_iff.mpr this.1, this.2⟩
theorem end_low1 {g s : Int} (h : ¬ fitsB g s (wroot g - wroot s) = true) : fitsB g s (wroot g - wroot s - 1 + 1) = false := by
  have e : wroot g - wroot s - 1 + 1 = wroot g - wroot s := by omega
  rw [e]
  simpa using h
theorem end_high {g s : Int} (hs : 0 ≤ s) (hsg : s ≤ g) : fitsB g s (wroot g - wroot s + 1) = false := by
  have := fits_high hs hsg
  have k : ¬ fitsB g s (wroot g - wroot s + 1) = true := fun c => this (fitsB_iff.mp c)
  simpa using k
theorem gap_nonneg {g s : Int} (hs : 0 ≤ s) (hsg : s ≤ g) : 0 ≤ wroot g - wroot s := by
  have a2 := wroot_lt g (by omega)
  have b1 := wroot_le s hs
  have cg := wroot_nonneg g
  have cs := wroot_nonneg s
  have : wroot s < wroot g + 1 := sq_lt cs (by omega) (by omega)
  omega
theorem end_same {a b : Int} (h : a = b) (h0 : 0 ≤ a) : fitsB (max a b) (min a b) 0 = true ∧ fitsB (max a b) (min a b) 1 = false := by
  subst h
  have e1 : max a a = a := by omega
  have e2 : min a a = a := by omega
  rw [e1, e2]
  unfold fitsB
  simp
end Mine
namespace Mine
open M3
def gapF (l s : Int) : Int := if fitsB l s (wroot l - wroot s) = true then wroot l - wroot s else wroot l - wroot s - 1
theorem gap_t {l s : Int} (h : fitsB l s (wroot l - wroot s) = true) : wroot l - wroot s = gapF l s := by
  unfold gapF; rw [if_pos h]
theorem gap_f {l s : Int} (h : ¬ fitsB l s (wroot l - wroot s) = true) : wroot l - wroot s - 1 = gapF l s := by
  unfold gapF; rw [if_neg h]
theorem gap_fits {l s : Int} (hs : 0 ≤ s) (hsl : s ≤ l) : 0 ≤ gapF l s ∧ fitsB l s (gapF l s) = true ∧ fitsB l s (gapF l s + 1) = false := by
  unfold gapF
  by_cases h : fitsB l s (wroot l - wroot s) = true
  · rw [if_pos h]
    exact ⟨gap_nonneg hs hsl, h, end_high hs hsl⟩
  · rw [if_neg h]
    exact ⟨(end_low hs hsl h).2, (end_low hs hsl h).1, end_low1 h⟩
theorem gap_le (l s : Int) : (0 ≤ s → s ≤ l → 0 ≤ gapF l s ∧ gapF l s ≤ l) := by
  intro hs hsl
  have a := gap_fits hs hsl
  refine ⟨a.1, ?_⟩
  have b := (inv_start (n := l) (by omega)).sr
  have c := wroot_nonneg s
  unfold gapF
  split <;> omega
/-- the gap is the one number that fits and whose next does not -/
theorem gap_is {l s t : Int} (hs : 0 ≤ s) (hsl : s ≤ l) (h0 : 0 ≤ t) (h1 : Fits l s t) (h2 : ¬ Fits l s (t + 1)) : gapF l s = t := by
  obtain ⟨g0, g1, g2⟩ := gap_fits hs hsl
  have g1' := fitsB_iff.mp g1
  have g2' : ¬ Fits l s (gapF l s + 1) := fun k => by rw [fitsB_iff.mpr k] at g2; exact absurd g2 (by decide)
  rcases Int.lt_trichotomy (gapF l s) t with k | k | k
  · exact absurd (fits_mono hs (by omega) (by omega : gapF l s + 1 ≤ t) h1) g2'
  · exact k
  · exact absurd (fits_mono hs (by omega) (by omega : t + 1 ≤ gapF l s) g1') h2
theorem gap_1 {g s x y : Int} (h1 : x * x ≤ g) (h2 : g ≤ x * x + 2 * x) (h3 : s = y * y) (hy : 0 ≤ y) (hyx : y ≤ x) : gapF g s = x - y := by
  subst h3
  have q : y * y ≤ x * x := Int.mul_le_mul hyx hyx hy (by omega)
  have yy : 0 ≤ y * y := Int.mul_nonneg hy hy
  refine gap_is yy (by omega) (by omega) ?_ ?_
  · -- (x - y) fits
    generalize ht : x - y = t
    have hx : x = y + t := by omega
    have e : x * x = y * y + 2 * (t * y) + t * t := by subst hx; grind
    have p : 0 ≤ t * y := Int.mul_nonneg (by omega) hy
    refine ⟨by omega, ?_⟩
    have k4 : 2 * (t * y) ≤ g - y * y - t * t := by omega
    have k5 := Int.mul_le_mul k4 k4 (by omega) (by omega)
    have k6 : 2 * (t * y) * (2 * (t * y)) = 4 * t * t * (y * y) := by grind
    omega
  · rintro ⟨a, b⟩
    generalize ht : x - y + 1 = t at *
    have hx : x + 1 = y + t := by omega
    have e : (x + 1) * (x + 1) = y * y + 2 * (t * y) + t * t := by rw [hx]; grind
    have e' : (x + 1) * (x + 1) = x * x + 2 * x + 1 := by grind
    have p : 0 ≤ t * y := Int.mul_nonneg (by omega) hy
    have k4 : g - y * y - t * t < 2 * (t * y) := by omega
    have k5 := Int.mul_lt_mul' (Int.le_of_lt k4) k4 a (by omega)
    have k6 : 2 * (t * y) * (2 * (t * y)) = 4 * t * t * (y * y) := by grind
    omega
theorem gap_3 {g s x y : Int} (h1 : g = x * x) (h2 : y * y < s) (h3 : s ≤ y * y + 2 * y) (hy : 0 ≤ y) (hyx : y < x) : gapF g s = x - y - 1 := by
  subst h1
  have yy : 0 ≤ y * y := Int.mul_nonneg hy hy
  have q : (y + 1) * (y + 1) ≤ x * x := Int.mul_le_mul (by omega) (by omega) (by omega) (by omega)
  have q' : (y + 1) * (y + 1) = y * y + 2 * y + 1 := by grind
  refine gap_is (by omega) (by omega) (by omega) ?_ ?_
  · generalize ht : x - y - 1 = t
    have hx : x = (y + 1) + t := by omega
    have e : x * x = (y + 1) * (y + 1) + 2 * (t * (y + 1)) + t * t := by subst hx; grind
    have p : 0 ≤ t * (y + 1) := Int.mul_nonneg (by omega) (by omega)
    refine ⟨by omega, ?_⟩
    have k4 : 2 * (t * (y + 1)) ≤ x * x - s - t * t := by omega
    have k5 := Int.mul_le_mul k4 k4 (by omega) (by omega)
    have k6 : 2 * (t * (y + 1)) * (2 * (t * (y + 1))) = 4 * t * t * ((y + 1) * (y + 1)) := by grind
    have k7 : 4 * t * t * s ≤ 4 * t * t * ((y + 1) * (y + 1)) := Int.mul_le_mul_of_nonneg_left (by omega) nn4
    omega
  · have et : x - y - 1 + 1 = x - y := by omega
    rw [et]
    rintro ⟨a, b⟩
    generalize ht : x - y = t at *
    have t1 : 1 ≤ t := by omega
    have hx : x = y + t := by omega
    have e : x * x = y * y + 2 * (t * y) + t * t := by subst hx; grind
    have p : 0 ≤ t * y := Int.mul_nonneg (by omega) hy
    have k4 : x * x - s - t * t < 2 * (t * y) := by omega
    have k5 := Int.mul_lt_mul' (Int.le_of_lt k4) k4 a (by omega)
    have k6 : 2 * (t * y) * (2 * (t * y)) = 4 * t * t * (y * y) := by grind
    have k7 : 4 * t * t * (y * y) ≤ 4 * t * t * s := Int.mul_le_mul_of_nonneg_left (by omega) nn4
    omega
theorem gap_1n {g s x y : Int} (h1 : x * x ≤ g) (h2 : g ≤ x * x + 2 * x) (h3 : s = y * y) (hy : 0 ≤ y) (hyx : y ≤ x) : gapF g s + 1 = x - y + 1 := by
  rw [gap_1 h1 h2 h3 hy hyx]
theorem gap_3n {g s x y : Int} (h1 : g = x * x) (h2 : y * y < s) (h3 : s ≤ y * y + 2 * y) (hy : 0 ≤ y) (hyx : y < x) : gapF g s + 1 = x - y := by
  rw [gap_3 h1 h2 h3 hy hyx]; omega
/-- how the squares lie -/
theorem sq_gt {a b m : Int} (hb : 0 ≤ b) (hba : b ≤ a) (hm : 0 ≤ m) (h : ¬ (a = b ∧ m = 0)) : b * b < a * a + m := by
  rcases (by omega : a = b ∨ b + 1 ≤ a) with e | e
  · subst e; omega
  · have q : (b + 1) * (b + 1) ≤ a * a := Int.mul_le_mul e e (by omega) (by omega)
    have q' : (b + 1) * (b + 1) = b * b + 2 * b + 1 := by grind
    omega
theorem sq_ls {a b m : Int} (ha : 0 ≤ a) (hab : a < b) (hm : m ≤ 2 * a) : a * a + m < b * b := by
  have q : (a + 1) * (a + 1) ≤ b * b := Int.mul_le_mul (by omega) (by omega) (by omega) (by omega)
  have q' : (a + 1) * (a + 1) = a * a + 2 * a + 1 := by grind
  omega
end Mine
namespace Mine
theorem of_false {b : Bool} (h : b = false) : ¬ b = true := by rw [h]; decide
end Mine
namespace Mine
open PySem PySem.W PySem.Calls PyProof.Rows
theorem bits_big {k : Int} (h1 : -(10 ^ 100) ≤ k) (h2 : k ≤ 10 ^ 100) : Builtin.Int.intBits k ≤ 400 := by
  unfold Builtin.Int.intBits
  split
  · exact Nat.zero_le _
  · have hn : k.natAbs < 2 ^ 400 := by
      have : (10 : Int) ^ 100 < 2 ^ 400 := by decide
      omega
    have : k.natAbs.log2 < 400 := by
      rcases Nat.eq_zero_or_pos k.natAbs with h0 | hp
      · rw [h0]; decide
      · exact (Nat.log2_lt (Nat.ne_of_gt hp)).mpr hn
    omega
theorem log_big {k : Int} (h1 : -(10 ^ 100) ≤ k) (h2 : k ≤ 10 ^ 100) : k.natAbs.log2 < 9000 := by
  have hn : k.natAbs < 2 ^ 400 := by
    have : (10 : Int) ^ 100 < 2 ^ 400 := by decide
    omega
  have : k.natAbs.log2 < 400 := by
    rcases Nat.eq_zero_or_pos k.natAbs with h0 | hp
    · rw [h0]; decide
    · exact (Nat.log2_lt (Nat.ne_of_gt hp)).mpr hn
  omega
theorem mul_in {x y : Int} (x1 : -(10 ^ 45) ≤ x) (x2 : x ≤ 10 ^ 45) (y1 : -(10 ^ 45) ≤ y) (y2 : y ≤ 10 ^ 45) : -(10 ^ 90) ≤ x * y ∧ x * y ≤ 10 ^ 90 := by
  have h : (x * y).natAbs ≤ 10 ^ 45 * 10 ^ 45 := by
    rw [Int.natAbs_mul]
    exact Nat.mul_le_mul (by omega) (by omega)
  have e : (10 : Nat) ^ 45 * 10 ^ 45 = 10 ^ 90 := by decide
  rw [e] at h
  omega
section
variable {prog : Program} {w : World} {A : Around} {E : Value → Shared → Prop} {s : Shared} {x y : Int} {t u : Tok} {Q : Value → Shared → Prop}
theorem step_div (hy : 0 < y) (hs : y ≤ 10 ^ 100) (h : Q (.int (Int.fdiv x y) s.toks) { s with toks := s.toks + 1 }) :
    wpAny (model prog w) A (binaryOp .FloorDiv (.int x t) (.int y u)) Q E s :=
  PyProof.Rows.floordiv_int (by omega) h (Or.inl (PyProof.noPylong_of_log2 (log_big (by omega) hs)))
theorem step_mod (hy : 60 < y) (h : ∀ r, 0 ≤ r → r < y → Q (.int r s.toks) { s with toks := s.toks + 1 }) :
    wpAny (model prog w) A (binaryOp .Mod (.int x t) (.int y u)) Q E s :=
  PyProof.Rows.mod_int (by omega) (h _ (Int.fmod_nonneg_of_pos x (by omega)) (Int.fmod_lt_of_pos x (by omega)))
theorem step_mul2 (x1 : -(10 ^ 100) ≤ x) (x2 : x ≤ 10 ^ 100) (y1 : -(10 ^ 100) ≤ y) (y2 : y ≤ 10 ^ 100) (h : Q (.int (x * y) s.toks) { s with toks := s.toks + 1 }) :
    wpAny (model prog w) A (binaryOp .Mult (.int x t) (.int y u)) Q E s :=
  PyProof.Rows.mul_int h (PyProof.Rows.mulOk_of_bits (bits_big x1 x2) (bits_big y1 y2) (by decide))
theorem step_mul (x1 : -(10 ^ 45) ≤ x) (x2 : x ≤ 10 ^ 45) (y1 : -(10 ^ 45) ≤ y) (y2 : y ≤ 10 ^ 45) (h : -(10 ^ 90) ≤ x * y → x * y ≤ 10 ^ 90 → Q (.int (x * y) s.toks) { s with toks := s.toks + 1 }) :
    wpAny (model prog w) A (binaryOp .Mult (.int x t) (.int y u)) Q E s :=
  step_mul2 (by omega) (by omega) (by omega) (by omega) (h (mul_in x1 x2 y1 y2).1 (mul_in x1 x2 y1 y2).2)
end
end Mine
namespace Mine
open PySem PySem.W PySem.Calls PyProof.Rows
section
variable {prog : Program} {w : World} {A : Around} {E : Value → Shared → Prop} {s : Shared} {h₀ : Heap} {L : Addr} {m : Str → Option Value} {news : List (Addr × Obj)} {a b : Int} {t u : Tok} {Q : Value → Shared → Prop}
theorem min_letter (hh : A.handled = none) (F : Fr h₀ L s.heap m) (N : News h₀ L s.heap news)
    (h : ∀ hp tk, Fr h₀ L hp m → News h₀ L hp news → ∀ v tv, v ≤ a → v ≤ b → (v = a ∨ v = b) → Q (.int v tv) { s with heap := hp, toks := tk }) :
    wpAny (model prog w) A (call (.builtin "min") [.int a t, .int b u]) Q E s :=
  min_two_N hh F N fun hp tk F' N' => h hp tk F' N' _ _ (by split <;> omega) (by split <;> omega) (by split <;> omega)
theorem max_letter (hh : A.handled = none) (F : Fr h₀ L s.heap m) (N : News h₀ L s.heap news)
    (h : ∀ hp tk, Fr h₀ L hp m → News h₀ L hp news → ∀ v tv, a ≤ v → b ≤ v → (v = a ∨ v = b) → Q (.int v tv) { s with heap := hp, toks := tk }) :
    wpAny (model prog w) A (call (.builtin "max") [.int a t, .int b u]) Q E s :=
  max_two_N hh F N fun hp tk F' N' => h hp tk F' N' _ _ (by split <;> omega) (by split <;> omega) (by split <;> omega)
end
end Mine
namespace Mine
open PySem PySem.W PySem.Calls PyProof.Rows PyProof.V PySem.Spec
section
variable {prog : Program} {w : World} {A : Around} {E : Value → Shared → Prop} {s : Shared} {Q : Value → Shared → Prop}
theorem step_menu {value slice : PySem.Expr} {l : Addr} {vs : List Value} {ns : List Int} {k : Int} {u : Tok} (lo hi : Int) (hl : s.heap.IsList l vs.toArray) (hi' : IntsAre vs ns)
    (h0 : 0 ≤ k) (h1 : k < ns.length) (hfit : k < 2 ^ 63) (hb : ns.all (fun v => decide (lo ≤ v) && decide (v ≤ hi)) = true) (h : ∀ t v, lo ≤ v → v ≤ hi → v ∈ ns → Q (.int v t) s)
    (hs : subscripted slice false (.ref l) (.int k u) = operate [.ref l, .int k u] (getItem (.ref l) (.int k u))) :
    wpAny (model prog w) A (subscriptTail value slice (.ref l) (.int k u)) Q E s := by
  refine item_anyK hl hi' h0 h1 hfit (fun t => ?_) hs
  have hlt : k.toNat < ns.length := by omega
  have b := kmn_in (d := 0) hlt hb
  refine h t _ b.1 b.2 ?_
  have e : ns.getD k.toNat 0 = ns[k.toNat] := by simp [List.getD, hlt]
  rw [e]
  exact List.getElem_mem hlt
end
end Mine
namespace Mine
open PySem PySem.W PySem.Calls PyProof.Rows
theorem lit_refl (n : Nat) [OfNat Int n] : (OfNat.ofNat n : Int) = OfNat.ofNat n := rfl
section
variable {prog : Program} {w : World} {A : Around} {E : Value → Shared → Prop} {s : Shared} {x y : Int} {t u : Tok} {Q : Value → Shared → Prop}
theorem step_modK (_ : y = y) (hy : 0 < y) (h : 0 ≤ Int.fmod x y → Int.fmod x y < y → Q (.int (Int.fmod x y) s.toks) { s with toks := s.toks + 1 }) :
    wpAny (model prog w) A (binaryOp .Mod (.int x t) (.int y u)) Q E s :=
  PyProof.Rows.mod_int (by omega) (h (Int.fmod_nonneg_of_pos x (by omega)) (Int.fmod_lt_of_pos x (by omega)))
end
end Mine
namespace Mine
open PySem PySem.W PySem.Calls PyProof.Rows
theorem mul_in20 {x y : Int} (x1 : 0 ≤ x) (x2 : x ≤ 10 ^ 20) (y1 : 0 ≤ y) (y2 : y ≤ 10 ^ 20) : 0 ≤ x * y ∧ x * y ≤ 10 ^ 40 := by
  refine ⟨Int.mul_nonneg x1 y1, ?_⟩
  have h : (x * y).natAbs ≤ 10 ^ 20 * 10 ^ 20 := by
    rw [Int.natAbs_mul]
    exact Nat.mul_le_mul (by omega) (by omega)
  have e : (10 : Nat) ^ 20 * 10 ^ 20 = 10 ^ 40 := by decide
  rw [e] at h
  omega
section
variable {prog : Program} {w : World} {A : Around} {E : Value → Shared → Prop} {s : Shared} {x y a b m : Int} {t u : Tok} {Q : Value → Shared → Prop}
theorem step_mul20 (x1 : 0 ≤ x) (x2 : x ≤ 10 ^ 20) (y1 : 0 ≤ y) (y2 : y ≤ 10 ^ 20) (h : 0 ≤ x * y → x * y ≤ 10 ^ 40 → Q (.int (x * y) s.toks) { s with toks := s.toks + 1 }) :
    wpAny (model prog w) A (binaryOp .Mult (.int x t) (.int y u)) Q E s :=
  step_mul2 (by omega) (by omega) (by omega) (by omega) (h (mul_in20 x1 x2 y1 y2).1 (mul_in20 x1 x2 y1 y2).2)
theorem eqF (e : x ≠ y) (h : Q (.bool false) s) : wpAny (model prog w) A (compareOp .Eq (.int x t) (.int y u)) Q E s := by
  refine PyProof.Rows.eq_int ?_
  have d : (x == y) = false := beq_eq_false_iff_ne.mpr e
  rw [d]
  exact h
theorem eqT (e : x = y) (h : Q (.bool true) s) : wpAny (model prog w) A (compareOp .Eq (.int x t) (.int y u)) Q E s := by
  refine PyProof.Rows.eq_int ?_
  have d : (x == y) = true := beq_iff_eq.mpr e
  rw [d]
  exact h
theorem s_ne1 (hb : 0 ≤ b) (hba : b ≤ a) (hm : 0 ≤ m) (hn : ¬ (a = b ∧ m = 0)) (h : b * b < a * a + m → Q (.bool false) s) : wpAny (model prog w) A (compareOp .Eq (.int (a * a + m) t) (.int (b * b) u)) Q E s :=
  eqF (Int.ne_of_gt (sq_gt hb hba hm hn)) (h (sq_gt hb hba hm hn))
theorem s_ne2 (ha : 0 ≤ a) (hab : a < b) (hm : m ≤ 2 * a) (h : a * a + m < b * b → Q (.bool false) s) : wpAny (model prog w) A (compareOp .Eq (.int (a * a + m) t) (.int (b * b) u)) Q E s :=
  eqF (Int.ne_of_lt (sq_ls ha hab hm)) (h (sq_ls ha hab hm))
theorem s_eq1 (hab : a = b) (hm : m = 0) (h : a * a + m = b * b → Q (.bool true) s) : wpAny (model prog w) A (compareOp .Eq (.int (a * a + m) t) (.int (b * b) u)) Q E s := by
  have e : a * a + m = b * b := by subst hab; omega
  exact eqT e (h e)
theorem s_ne3 (hb : 0 ≤ b) (hba : b ≤ a) (hm : 0 ≤ m) (hn : ¬ (a = b ∧ m = 0)) (h : b * b < a * a + m → Q (.bool false) s) : wpAny (model prog w) A (compareOp .Eq (.int (b * b) t) (.int (a * a + m) u)) Q E s :=
  eqF (Int.ne_of_lt (sq_gt hb hba hm hn)) (h (sq_gt hb hba hm hn))
theorem s_ne4 (ha : 0 ≤ a) (hab : a < b) (hm : m ≤ 2 * a) (h : a * a + m < b * b → Q (.bool false) s) : wpAny (model prog w) A (compareOp .Eq (.int (b * b) t) (.int (a * a + m) u)) Q E s :=
  eqF (Int.ne_of_gt (sq_ls ha hab hm)) (h (sq_ls ha hab hm))
theorem s_eq2 (hab : a = b) (hm : m = 0) (h : a * a + m = b * b → Q (.bool true) s) : wpAny (model prog w) A (compareOp .Eq (.int (b * b) t) (.int (a * a + m) u)) Q E s := by
  have e : a * a + m = b * b := by subst hab; omega
  exact eqT e.symm (h e)
theorem neF (e : x = y) (h : Q (.bool false) s) : wpAny (model prog w) A (compareOp .NotEq (.int x t) (.int y u)) Q E s := by
  refine PyProof.Rows.ne_int ?_
  subst e
  have d : (x != x) = false := by simp
  first | (rw [d]; exact h) | simpa using h
theorem s_neqG {g r : Int} (e : gapF g r = y) (h : Q (.bool false) s) : wpAny (model prog w) A (compareOp .NotEq (.int (gapF g r) t) (.int y u)) Q E s := neF e h
theorem s_neqN {g r : Int} (e : gapF g r + 1 = y) (h : Q (.bool false) s) : wpAny (model prog w) A (compareOp .NotEq (.int (gapF g r + 1) t) (.int y u)) Q E s := neF e h
end
end Mine
namespace Mine
open PySem PySem.W PySem.Calls PyProof.Rows
theorem ne_F {prog : Program} {w : World} {A : Around} {E : Value → Shared → Prop} {s : Shared} {x y : Int} {t u : Tok} {Q : Value → Shared → Prop} (e : x = y) (h : Q (.bool false) s) : wpAny (model prog w) A (compareOp .NotEq (.int x t) (.int y u)) Q E s := by
  refine PyProof.Rows.ne_int ?_
  subst e
  have d : (x != x) = false := by simp
  first | (rw [d]; exact h) | simpa using h
end Mine
namespace Mine
open PySem PySem.W PySem.Calls PyProof.Rows
/-- the two ways of an if meet again: two names hold ints of which P is known, all else is as it was -/
def J2Post (h₀ : Heap) (L : Addr) (led : List (Addr × Obj)) (m₀ : Str → Option Value) (x y : Str) (P : Int → Int → Prop) (s₁ : Shared) (f : Flow) (s₂ : Shared) : Prop :=
  f = .next ∧ ∃ h tk m' a ta b tb, s₂ = { s₁ with heap := h, toks := tk } ∧ Fr h₀ L h m' ∧ News h₀ L h led ∧ m' x = some (.int a ta) ∧ m' y = some (.int b tb) ∧ (∀ z, z ≠ x → z ≠ y → m' z = m₀ z) ∧ P a b
section
variable {prog : Program} {w : World} {A : Around} {E : Value → Shared → Prop} {s : Shared} {env : Env} {h₀ : Heap} {Q : Flow → Shared → Prop} {m₀ : Str → Option Value} {led : List (Addr × Obj)} {st : Stmt}
theorem if_join2 (x y : Str) (P : Int → Int → Prop) (F : Fr h₀ env.locals s.heap m₀) (N : News h₀ env.locals s.heap led)
    (h1 : wpAny (model prog w) A (exec st env) (J2Post h₀ env.locals led m₀ x y P s) E s)
    (h2 : ∀ a ta b tb h tk, P a b → Fr h₀ env.locals h (fun z => if z = y then some (.int b tb) else if z = x then some (.int a ta) else m₀ z) → News h₀ env.locals h led → Q .next { s with heap := h, toks := tk }) :
    wpAny (model prog w) A (exec st env) Q E s := by
  refine wpAny_mono h1 ?_ (fun _ _ q => q)
  rintro f s₂ ⟨rfl, h, tk, m', a, ta, b, tb, rfl, F', N', hx, hy, hz, p⟩
  refine h2 a ta b tb h tk p ?_ N'
  have e : (fun z => if z = y then some (.int b tb) else if z = x then some (.int a ta) else m₀ z) = m' := by
    funext z
    by_cases e1 : z = y
    · rw [if_pos e1, e1, hy]
    · rw [if_neg e1]
      by_cases e2 : z = x
      · rw [if_pos e2, e2, hx]
      · rw [if_neg e2, hz z e2 e1]
  rw [e]
  exact F'
theorem j2_end {L : Addr} {x y : Str} {P : Int → Int → Prop} {s₁ : Shared} {h : Heap} {tk : Nat} {m' : Str → Option Value} {news' : List (Addr × Obj)} {a b : Int} {ta tb : Tok}
    (F : Fr h₀ L h m') (N : News h₀ L h news') (hn : ∀ p ∈ led, p ∈ news') (hx : m' x = some (.int a ta)) (hy : m' y = some (.int b tb)) (hz : ∀ z, z ≠ x → z ≠ y → m' z = m₀ z) (p : P a b) :
    J2Post h₀ L led m₀ x y P s₁ .next { s₁ with heap := h, toks := tk } :=
  ⟨rfl, h, tk, m', a, ta, b, tb, rfl, F, fun q hq => N q (hn q hq), hx, hy, hz, p⟩
end
/-- the same for one name, beside one that is only read -/
def J1Post (h₀ : Heap) (L : Addr) (led : List (Addr × Obj)) (m₀ : Str → Option Value) (x : Str) (P : Int → Prop) (s₁ : Shared) (f : Flow) (s₂ : Shared) : Prop :=
  f = .next ∧ ∃ h tk m' a ta, s₂ = { s₁ with heap := h, toks := tk } ∧ Fr h₀ L h m' ∧ News h₀ L h led ∧ m' x = some (.int a ta) ∧ (∀ z, z ≠ x → m' z = m₀ z) ∧ P a
section
variable {prog : Program} {w : World} {A : Around} {E : Value → Shared → Prop} {s : Shared} {env : Env} {h₀ : Heap} {Q : Flow → Shared → Prop} {m₀ : Str → Option Value} {led : List (Addr × Obj)} {st : Stmt}
theorem if_join1 (x g : Str) (P : Int → Int → Prop) {c : Int} {tc : Tok} (hg : m₀ g = some (.int c tc)) (F : Fr h₀ env.locals s.heap m₀) (N : News h₀ env.locals s.heap led)
    (h1 : wpAny (model prog w) A (exec st env) (J1Post h₀ env.locals led m₀ x (P c) s) E s)
    (h2 : ∀ a ta h tk, P c a → Fr h₀ env.locals h (fun z => if z = x then some (.int a ta) else m₀ z) → News h₀ env.locals h led → Q .next { s with heap := h, toks := tk }) :
    wpAny (model prog w) A (exec st env) Q E s := by
  refine wpAny_mono h1 ?_ (fun _ _ q => q)
  rintro f s₂ ⟨rfl, h, tk, m', a, ta, rfl, F', N', hx, hz, p⟩
  refine h2 a ta h tk p ?_ N'
  have e : (fun z => if z = x then some (.int a ta) else m₀ z) = m' := by
    funext z
    by_cases e2 : z = x
    · rw [if_pos e2, e2, hx]
    · rw [if_neg e2, hz z e2]
  rw [e]
  exact F'
theorem j1_end {L : Addr} {x : Str} {P : Int → Prop} {s₁ : Shared} {h : Heap} {tk : Nat} {m' : Str → Option Value} {news' : List (Addr × Obj)} {a : Int} {ta : Tok}
    (F : Fr h₀ L h m') (N : News h₀ L h news') (hn : ∀ p ∈ led, p ∈ news') (hx : m' x = some (.int a ta)) (hz : ∀ z, z ≠ x → m' z = m₀ z) (p : P a) :
    J1Post h₀ L led m₀ x P s₁ .next { s₁ with heap := h, toks := tk } :=
  ⟨rfl, h, tk, m', a, ta, rfl, F, fun q hq => N q (hn q hq), hx, hz, p⟩
end
end Mine
namespace Mine
open PySem PySem.W PySem.Calls PyProof.Rows
theorem step_p19 {prog : Program} {w : World} {A : Around} {E : Value → Shared → Prop} {s : Shared} {t u : Tok} {Q : Value → Shared → Prop} (h : Q (.int (10 ^ 19) s.toks) { s with toks := s.toks + 1 }) :
    wpAny (model prog w) A (binaryOp .Pow (.int 10 t) (.int 19 u)) Q E s :=
  PyProof.Rows.pow_int_small (by omega) (by omega) (by decide) h
end Mine
open PySem PySem.W PyProof.Rows
local macro_rules | `(tactic| k_in) => `(tactic| first | k_in_fast | exact Frag.In.keeps (by k_asm) (Fr.keep (by k_asm)))
local macro_rules | `(tactic| k_fmods) => `(tactic| skip)
local macro_rules | `(tactic| walk_at "eval Call") => `(tactic| (k_here; k_dflt (refine Call_ ?_)))
local macro_rules | `(tactic| k_mem) => `(tactic| with_reducible (first | (apply List.mem_cons_self) | (apply List.mem_cons_of_mem; apply List.mem_cons_self) | (apply List.mem_cons_of_mem; apply List.mem_cons_of_mem; apply List.mem_cons_self) | (apply List.mem_cons_of_mem; apply List.mem_cons_of_mem; apply List.mem_cons_of_mem; apply List.mem_cons_self) | (apply List.mem_cons_of_mem; apply List.mem_cons_of_mem; apply List.mem_cons_of_mem; apply List.mem_cons_of_mem; apply List.mem_cons_self) | (apply List.mem_cons_of_mem; apply List.mem_cons_of_mem; apply List.mem_cons_of_mem; apply List.mem_cons_of_mem; apply List.mem_cons_of_mem; apply List.mem_cons_self) | (apply List.mem_cons_of_mem; apply List.mem_cons_of_mem; apply List.mem_cons_of_mem; apply List.mem_cons_of_mem; apply List.mem_cons_of_mem; apply List.mem_cons_of_mem; apply List.mem_cons_self) | (apply List.mem_cons_of_mem; apply List.mem_cons_of_mem; apply List.mem_cons_of_mem; apply List.mem_cons_of_mem; apply List.mem_cons_of_mem; apply List.mem_cons_of_mem; apply List.mem_cons_of_mem; apply List.mem_cons_self) | (apply List.mem_cons_of_mem; apply List.mem_cons_of_mem; apply List.mem_cons_of_mem; apply List.mem_cons_of_mem; apply List.mem_cons_of_mem; apply List.mem_cons_of_mem; apply List.mem_cons_of_mem; apply List.mem_cons_of_mem; apply List.mem_cons_self) | (apply List.mem_cons_of_mem; apply List.mem_cons_of_mem; apply List.mem_cons_of_mem; apply List.mem_cons_of_mem; apply List.mem_cons_of_mem; apply List.mem_cons_of_mem; apply List.mem_cons_of_mem; apply List.mem_cons_of_mem; apply List.mem_cons_of_mem; apply List.mem_cons_self) | (apply List.mem_cons_of_mem; apply List.mem_cons_of_mem; apply List.mem_cons_of_mem; apply List.mem_cons_of_mem; apply List.mem_cons_of_mem; apply List.mem_cons_of_mem; apply List.mem_cons_of_mem; apply List.mem_cons_of_mem; apply List.mem_cons_of_mem; apply List.mem_cons_of_mem; apply List.mem_cons_self) | (apply List.mem_cons_of_mem; apply List.mem_cons_of_mem; apply List.mem_cons_of_mem; apply List.mem_cons_of_mem; apply List.mem_cons_of_mem; apply List.mem_cons_of_mem; apply List.mem_cons_of_mem; apply List.mem_cons_of_mem; apply List.mem_cons_of_mem; apply List.mem_cons_of_mem; apply List.mem_cons_of_mem; apply List.mem_cons_self) | (apply List.mem_cons_of_mem; apply List.mem_cons_of_mem; apply List.mem_cons_of_mem; apply List.mem_cons_of_mem; apply List.mem_cons_of_mem; apply List.mem_cons_of_mem; apply List.mem_cons_of_mem; apply List.mem_cons_of_mem; apply List.mem_cons_of_mem; apply List.mem_cons_of_mem; apply List.mem_cons_of_mem; apply List.mem_cons_of_mem; apply List.mem_cons_self) | (apply List.mem_cons_of_mem; apply List.mem_cons_of_mem; apply List.mem_cons_of_mem; apply List.mem_cons_of_mem; apply List.mem_cons_of_mem; apply List.mem_cons_of_mem; apply List.mem_cons_of_mem; apply List.mem_cons_of_mem; apply List.mem_cons_of_mem; apply List.mem_cons_of_mem; apply List.mem_cons_of_mem; apply List.mem_cons_of_mem; apply List.mem_cons_of_mem; apply List.mem_cons_self)))
local macro_rules | `(tactic| walk_at "exec If") => `(tactic| (k_here; (first | (with_reducible show wpAny _ _ (exec (PySem.Stmt.If _ _ _ ⟨41, _, _, _⟩) _) _ _ _)); (rename Fr _ _ _ _ => lF'); (rename News _ _ _ _ => lN'); (k_dflt refine' Mine.if_join1 (Str.ofString "_law_b") (Str.ofString "_law_a") (fun _ b => 0 ≤ b ∧ b ≤ 10 ^ 19) rfl lF' lN' (wpAny_If ?_) ?_); rotate_left; (clear lF' lN'); (intro jA jT jH jK jP jF jN); (obtain ⟨jp1, jp2⟩ := jP); (try k_fold); rotate_left; (try k_fold); k_whole))
local macro_rules | `(tactic| walk_at "exec If") => `(tactic| (k_here; (first | (with_reducible show wpAny _ _ (exec (PySem.Stmt.If _ _ _ ⟨44, _, _, _⟩) _) _ _ _)); (rename Fr _ _ _ _ => lF'); (rename News _ _ _ _ => lN'); (k_dflt refine' Mine.if_join1 (Str.ofString "_law_more") (Str.ofString "_law_a") (fun a m => 0 ≤ m ∧ m ≤ 2 * a) rfl lF' lN' (wpAny_If ?_) ?_); rotate_left; (clear lF' lN'); (intro jA jT jH jK jP jF jN); (obtain ⟨jp1, jp2⟩ := jP); (try k_fold); rotate_left; (try k_fold); k_whole))
local macro_rules | `(tactic| walk_at "J1Post") => `(tactic| ((try k_fold); (k_dflt (refine' Mine.j1_end ?fF ?fN ?hn ?hx ?hz ?pp; (case fF => assumption); (case fN => assumption); (case hn => first | exact (fun _ h => h) | kst_in | kst_inAny); (case hx => with_unfolding_all rfl); (case hz => (intro z h1; first | rfl | exact (if_neg h1))); (case pp => ((try dsimp only); omega))))))
local macro_rules | `(tactic| walk_at "call builtin:min") => `(tactic| (k_here; (with_reducible show wpAny _ _ (call (Value.builtin _) [Value.int _ _, Value.int _ _]) _ _ _); (with_reducible rename News _ _ _ _ => N'); (with_unfolding_all apply Mine.min_letter); (case hh => with_unfolding_all rfl); (case N => exact N'); (case F => assumption); clear N'; intro _ _ _ _ v' tv' hv1 hv2 hv3))
local macro_rules | `(tactic| walk_at "call builtin:max") => `(tactic| (k_here; (with_reducible show wpAny _ _ (call (Value.builtin _) [Value.int _ _, Value.int _ _]) _ _ _); (with_reducible rename News _ _ _ _ => N'); (with_unfolding_all apply Mine.max_letter); (case hh => with_unfolding_all rfl); (case N => exact N'); (case F => assumption); clear N'; intro _ _ _ _ v' tv' hv1 hv2 hv3))
local macro_rules | `(tactic| walk_at "binaryOp FloorDiv int int") => `(tactic| (k_here; (with_reducible refine' Mine.step_div ?k1 ?k2 ?_); (case k1 => k_dflt omega); (case k2 => k_dflt omega)))
local macro_rules | `(tactic| walk_at "binaryOp Mult int int") => `(tactic| (k_here; (with_reducible refine' Mine.step_mul2 ?k1 ?k2 ?k3 ?k4 ?_); (case k1 => k_dflt omega); (case k2 => k_dflt omega); (case k3 => k_dflt omega); (case k4 => k_dflt omega)))
local macro_rules | `(tactic| walk_at "binaryOp Mult int int") => `(tactic| (k_here; (with_reducible refine' Mine.step_mul ?k1 ?k2 ?k3 ?k4 ?_); (case k1 => k_dflt omega); (case k2 => k_dflt omega); (case k3 => k_dflt omega); (case k4 => k_dflt omega); intro hp1 hp2))
local macro_rules | `(tactic| walk_at "binaryOp Mult int int") => `(tactic| (k_here; (with_reducible refine' Mine.step_mul20 ?k1 ?k2 ?k3 ?k4 ?_); (case k1 => k_dflt omega); (case k2 => k_dflt omega); (case k3 => k_dflt omega); (case k4 => k_dflt omega); intro hp1 hp2))
local macro_rules | `(tactic| walk_at "binaryOp Mod int int") => `(tactic| (k_here; (with_reducible refine' Mine.step_modK rfl ?k1 ?_); (case k1 => k_dflt omega); intro hr0 hr1))
local macro_rules | `(tactic| walk_at "subscriptTail") => `(tactic| (k_here; (with_reducible show wpAny _ _ (subscriptTail _ _ (Value.ref _) (Value.int (Int.fmod _ _) _)) _ _ _); (with_unfolding_all refine' Mine.step_menu (61) (10 ^ 19) ?k1 ?k2 ?k3 ?k4 ?k5 ?k6 ?_ ?k7; (case k1 => is_list); (case k2 => l_ints); (case k3 => l_idx); (case k4 => l_idx); (case k5 => l_idx); (case k6 => decide); (case k7 => with_unfolding_all rfl); k_whole); intro t' v' hv1 hv2 hv3))
local macro_rules | `(tactic| walk_at "binaryOp Pow int int") => `(tactic| (k_here; (with_reducible refine' Mine.step_p19 ?_)))
local macro_rules | `(tactic| walk_at "compareOp NotEq int int") => `(tactic| (k_here; (with_reducible refine' Mine.ne_F ?k1 ?_); (case k1 => k_dflt (first | omega | exact Mine.gap_1 (by omega) (by omega) (by omega) (by omega) (by omega) | exact Mine.gap_1n (by omega) (by omega) (by omega) (by omega) (by omega) | exact Mine.gap_3 (by omega) (by omega) (by omega) (by omega) (by omega) | exact Mine.gap_3n (by omega) (by omega) (by omega) (by omega) (by omega)))))
local macro_rules | `(tactic| walk_at "compareOp Eq int int") => `(tactic| (k_here; (with_reducible refine' Mine.s_ne1 ?k1 ?k2 ?k3 ?k4 ?_); (case k1 => k_dflt omega); (case k2 => k_dflt omega); (case k3 => k_dflt omega); (case k4 => k_dflt omega); intro hs1))
local macro_rules | `(tactic| walk_at "compareOp Eq int int") => `(tactic| (k_here; (with_reducible refine' Mine.s_ne2 ?k1 ?k2 ?k3 ?_); (case k1 => k_dflt omega); (case k2 => k_dflt omega); (case k3 => k_dflt omega); intro hs1))
local macro_rules | `(tactic| walk_at "compareOp Eq int int") => `(tactic| (k_here; (with_reducible refine' Mine.s_eq1 ?k1 ?k2 ?_); (case k1 => k_dflt omega); (case k2 => k_dflt omega); intro hs1))
local macro_rules | `(tactic| walk_at "compareOp Eq int int") => `(tactic| (k_here; (with_reducible refine' Mine.s_ne3 ?k1 ?k2 ?k3 ?k4 ?_); (case k1 => k_dflt omega); (case k2 => k_dflt omega); (case k3 => k_dflt omega); (case k4 => k_dflt omega); intro hs1))
local macro_rules | `(tactic| walk_at "compareOp Eq int int") => `(tactic| (k_here; (with_reducible refine' Mine.s_ne4 ?k1 ?k2 ?k3 ?_); (case k1 => k_dflt omega); (case k2 => k_dflt omega); (case k3 => k_dflt omega); intro hs1))
local macro_rules | `(tactic| walk_at "compareOp Eq int int") => `(tactic| (k_here; (with_reducible refine' Mine.s_eq2 ?k1 ?k2 ?_); (case k1 => k_dflt omega); (case k2 => k_dflt omega); intro hs1))
set_option maxRecDepth 100000 in
set_option maxHeartbeats 0 in
theorem PySem.Challenge.cw_gradecut_k03_compare_known_roots_holds : PySem.Challenge.rw_gradecut_k03_compare_known_roots.Holds := by
  k_with "tree" => first | (show _ = PySem.W.cellAt _ _ 0; cell_eq) | (show _ = true; rfl) | exact M3.inv_out (by assumption) (by omega) | exact Mine.fits_neg (by omega) | exact Mine.fits_neg2 (by omega) | exact Mine.fits_pos (by omega) | exact Mine.gap_t (by assumption) | exact Mine.gap_f (by assumption) | exact Mine.gap_f (Mine.of_false (by assumption)) | (unfold Mine.gapF; split <;> simp_all)
  k_with "fact _law_whole" => exact Mine.whole_true
  k_with "call ref" => k_call_by "_law_whole" Mine.wholeF
  k_with "call ref" => k_call_by "_law_at" Mine.cell (fun (_ : List Int) (k : Int) => 0 ≤ k)
  k_with "fact whole_root" => exact Mine.wroot_in
  k_with "fact whole_gap" => exact Mine.gap_le
  k_with "call ref" => k_call_by "whole_root" M3.wroot (fun (n : Int) => 0 ≤ n ∧ n ≤ 10 ^ 41)
  k_with "call ref" => k_call_by "reaches" Mine.fitsB (fun (g s t : Int) => 0 ≤ g ∧ g ≤ 10 ^ 41 ∧ 0 ≤ s ∧ s ≤ 10 ^ 41 ∧ -(10 ^ 42) ≤ t ∧ t ≤ 10 ^ 42)
  k_with "call ref" => k_call_rec "whole_gap" Mine.gapF (fun (l s : Int) => 0 ≤ s ∧ s ≤ l ∧ l ≤ 10 ^ 41) (fun (_ _ : Int) => 5)
  k_with "state" => first | exact Mine.w_start (by omega) | exact Mine.w_turn (by assumption) (by omega)
  k_with "exec While Compare cons nil" => k_while_given ["number"] (fun n _ r m => 0 ≤ r ∧ r ≤ n ∧ (m < r → 0 < m) ∧ M3.Inv n r m) (fun _ _ r _ => r.toNat) "root" "nearer"
  open_k
