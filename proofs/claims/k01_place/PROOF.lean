import PyProof.Rows.All
import Wide.All
import OpenK.AllK
import Wide.FinOn
import PySem.Challenge.RW_gradecut_k01_place
set_option Elab.async false
namespace Mine
/-- a number of the script, 0 where there is none -/
def cell (xs : List Int) (k : Int) : Int := PySem.W.cellAt xs k 0
end Mine
namespace Mine
def wholeF (_ : Int) : Bool := true
theorem whole_true (n : Int) : wholeF n = true := rfl
end Mine
namespace Mine
/-- a drawn number, as the statement draws it -/
def drawn (c m : Int) : Int :=
  if Int.fmod c 5 = 1 then
    (if Int.fmod (Int.fdiv c 5) 5 = 0 then 0 else if Int.fmod (Int.fdiv c 5) 5 = 1 then 1 else if Int.fmod (Int.fdiv c 5) 5 = 2 then -1 else if Int.fmod (Int.fdiv c 5) 5 = 3 then m else 0 - m)
  else Int.fmod (Int.fdiv c 5) (2 * m + 1) - m
theorem drawn_in (c m : Int) : 0 < m → -m ≤ drawn c m ∧ drawn c m ≤ m := by
  intro h
  unfold drawn
  have a := Int.fmod_nonneg_of_pos (Int.fdiv c 5) (show 0 < 2 * m + 1 by omega)
  have b := Int.fmod_lt_of_pos (Int.fdiv c 5) (show 0 < 2 * m + 1 by omega)
  repeat' split
  all_goals omega
end Mine
namespace Mine
open PySem PySem.W PySem.Calls PyProof.Rows
theorem unr_head {h₀ : Heap} {L I : Addr} {it : Obj} {rest : (Str → Option Value) → List (Addr × Obj) → Prop} {s₁ : Shared} {h' : Heap} {tk : Nat} {m' : Str → Option Value} {news' : List (Addr × Obj)}
    (F : Fr h₀ L h' m') (N : News h₀ L h' ((I, it) :: news')) (off : OffI I it news') (r : rest m' news') : UnrEnd h₀ L s₁ I it rest { s₁ with heap := h', toks := tk } :=
  UnrEnd.intro F N news' (fun _ hp => hp) (fun p hp e => by
    rcases off.at p hp with h | h
    · exact h e
    · have h1 := (N _ (List.mem_cons_of_mem _ hp)).1
      have h2 := (N _ (List.mem_cons_self ..)).1
      rw [e] at h1
      exact h (congrArg Obj.cls (Option.some.inj (h1.symm.trans h2)))) r
end Mine
namespace Mine
open PySem PySem.W PySem.Calls PyProof.Rows
theorem ne_F {prog : Program} {w : World} {A : Around} {E : Value → Shared → Prop} {s : Shared} {x y : Int} {t u : Tok} {Q : Value → Shared → Prop} (e : x = y) (h : Q (.bool false) s) : wpAny (model prog w) A (compareOp .NotEq (.int x t) (.int y u)) Q E s := by
  refine PyProof.Rows.ne_int ?_
  subst e
  have d : (x != x) = false := by simp
  first | (rw [d]; exact h) | simpa using h
end Mine
namespace Mine
open PySem PySem.W PySem.Calls PyProof.Rows
theorem step_p40 {prog : Program} {w : World} {A : Around} {E : Value → Shared → Prop} {s : Shared} {t u : Tok} {Q : Value → Shared → Prop} (h : Q (.int (10 ^ 40) s.toks) { s with toks := s.toks + 1 }) :
    wpAny (model prog w) A (binaryOp .Pow (.int 10 t) (.int 40 u)) Q E s :=
  PyProof.Rows.pow_int_small (by omega) (by omega) (by decide) h
end Mine
namespace Mine
open PySem PySem.W PySem.Spec PySem.Calls PyProof.Rows Builtin Builtin.ObjectAttr Builtin.Getset_descriptor
/-- what is known of a caught error: that it is there, and its class -/
def Err (x D : Addr) (hp : Heap) : Prop := ∃ ob, hp.get? x = some ob ∧ ob.cls = .ref D
section
variable {KK : Frag} {x D : Addr}
theorem err_ty (M : Model) (hp : Heap) (p : Err x D hp) : Looks M hp (typeOf (.ref x)) (.ref D) := by
  obtain ⟨ob, k1, k2⟩ := p
  exact k2 ▸ (Looks.ld k1).andThen .now
variable {prog : Program} {w : World} {A : Around} {E : Value → Shared → Prop}
theorem err_is {c : Value} (e : kitOne KK (.ref D) c = some true) : Answers (fun s => KK.In s.heap ∧ Err x D s.heap) (.ref x) c true := by
  intro dep tk prog w A R s hs
  obtain ⟨hp, gg, dd, tt, oo⟩ := s
  obtain ⟨⟨X, p⟩, hq⟩ := hs
  have T0 := err_ty (model prog w) hp p
  unfold kitOne at e
  unfold Builtin.«isinstance.nested»
  refine wpAny_bind (T0.at ?_)
  by_cases same : (Value.ref D == c) = true
  · rw [if_pos same]
    first
      | ((repeat lk); exact hq tt)
      | (refine wpAny_bind (wpAny_rule ?_); first | exact hq tt | exact wpAny_pure (hq tt))
  · rw [if_neg same] at e
    rw [if_neg same]
    obtain ⟨c1, c2, c3⟩ := kit_cls (M := model prog w) X e
    have c4 : Looks (model prog w) hp (isInstance (.ref x) c) true := T0.andThen c3
    refine wpAny_bind (c1.at ?_)
    rw [if_pos (by decide)]
    k_delta "plainIsInstance"
    refine wpAny_bind (wpAny_bind (c2.at ?_))
    simp only [Bool.not_true, Bool.false_eq_true, if_false]
    refine wpAny_bind (c4.at ?_)
    first
      | exact wpAny_pure (wpAny_pure (hq tt))
      | (simp only [if_true]; first | exact wpAny_pure (wpAny_pure (hq tt)) | exact wpAny_pure (hq tt) | exact wpAny_bind (wpAny_pure (wpAny_pure (hq tt))))
theorem err_isi {s : Shared} {Q : Value → Shared → Prop} {c : Value} (p : Err x D s.heap) (X : KK.In s.heap) (e : kitOne KK (.ref D) c = some true) (h : ∀ tk, Q (.bool true) { s with toks := tk }) :
    wpAny (model prog w) A (call (.builtin "isinstance") [.ref x, c]) Q E s :=
  call_isinstance (S := fun _ R s => (KK.In s.heap ∧ Err x D s.heap) ∧ ∀ tk, R (.ok (.ret (.bool true))) { s with toks := tk })
    (fun prog w A R s hs => isinstance_outer (err_is e 0 _ prog w A R s hs) (by intro q; cases q)) ⟨⟨X, p⟩, h⟩
theorem err_of {h0 hp : Heap} {L t : Addr} {news : List (Addr × Obj)} {vs : List Value} (G : Got news x t (.ref D) vs) (N : News h0 L hp news) : Err x D hp := by
  obtain ⟨oe, _, _, _, m1, _, c1, _⟩ := G
  exact ⟨oe, (N _ m1).1, c1⟩
end
end Mine
namespace Mine
open PySem PySem.W PySem.Spec PySem.Calls PyProof.Rows Builtin Builtin.ObjectAttr Builtin.Getset_descriptor
section
variable {KK : Frag} {x D : Addr} {prog : Program} {w : World} {A : Around} {E : Value → Shared → Prop}
theorem err_class {Q : Option Value → Shared → Prop} {s : Shared}
    (hga : findIn KK (.ref D) "__getattribute__" = some (some (.builtin "BaseException.__getattribute__")))
    (hgn : findIn KK (.ref D) "__getattr__" = some none)
    (ha : findIn KK (.ref D) "__class__" = some (some (.builtin "object.__class__")))
    (hn : specialIn KK (.builtin "object.__class__") "__get__" = some (some (.builtin "getset_descriptor.__get__")))
    (htk : takesIn KK (.builtin "object.__class__") = some true)
    (hm : mroIn KK D (.type "object") = some true) (hb : mroIn KK D (.type "BaseException") = some true)
    (X : KK.In s.heap) (p : Err x D s.heap) (k : Q (some (.ref D)) { s with toks := s.toks + 1 }) :
    wpAny (model prog w) A (getAttr? (.ref x) "__class__") Q E s := by
  obtain ⟨hp, gg, dd, tt, oo⟩ := s
  have T0 := err_ty (model prog w) hp p
  have T1 := looks_findIn (M := model prog w) X hga
  have T2 := looks_findIn (M := model prog w) X hgn
  have TF : Looks (model prog w) hp (find (.ref x) (.ref D) "__class__") (.bind (.builtin "getset_descriptor.__get__") (.builtin "object.__class__")) := by
    have a1 := looks_findIn (M := model prog w) X ha
    have a2 := looks_specialIn (M := model prog w) X hn
    have a3 := looks_takesIn (M := model prog w) X htk
    refine a1.andThen ?_
    refine Looks.andThen (show Looks (model prog w) hp (getOf (some (.builtin "object.__class__"))) (some (.builtin "getset_descriptor.__get__")) from a2) ?_
    refine Looks.andThen (show Looks (model prog w) hp (dataDescriptor? (some (.builtin "object.__class__")) (some (.builtin "getset_descriptor.__get__"))) (some (.builtin "getset_descriptor.__get__", .builtin "object.__class__")) from a3.andThen .now) ?_
    exact Looks.tag .now
  have T3 := looks_mroIn (M := model prog w) X hm
  have T4 := looks_mroIn (M := model prog w) X hb
  have TI : Looks (model prog w) hp (isInstance (.ref x) (.type "BaseException")) true := T0.andThen T4
  have f3 := F.excAttr_ValueError.ga.bind (.ref x)
  unfold getAttr? getAttrBy? getAttrBy
  refine wpAny_bind (wpAny_mkText ?_)
  refine wpAny_bind (wpAny_attempt ?_)
  refine wpAny_holding ?_
  refine wpAny_bind (T0.at ?_)
  refine wpAny_bind (T1.at ?_)
  have c0 : (onTheHeap (Value.ref D) && Value.builtin "BaseException.__getattribute__" == Value.builtin "object.__getattribute__") = false := by
    have : (Value.builtin "BaseException.__getattribute__" == Value.builtin "object.__getattribute__") = false := by decide +kernel
    rw [this]; rfl
  dsimp only
  rw [c0]
  simp only [Bool.false_eq_true, if_false]
  unfold getAttrByItsOwn
  refine wpAny_bind (Looks.at (show Looks (model prog w) hp (hookBefore (.ref D)) none from T2) ?_)
  refine wpAny_bind (wpAny_attempt ?_)
  refine wpAny_holding ?_
  unfold callGetattribute boundAndCalled
  simp only [Bool.false_and, Bool.false_eq_true, if_false]
  rw [f3]
  refine wpAny_bind (wpAny_pure ?_)
  refine wpAny_call ?_
  refine codeAny_call_builtin F.excAttr_ValueError.ga.plain F.entry_bexc_ga ?_
  have hk : builtinKind "BaseException.__getattribute__" = some .slot := by decide +kernel
  have hsplit : splitId "BaseException.__getattribute__" = some ("BaseException", "__getattribute__") := by decide +kernel
  have hargs := F.args_bexc_ga (.ref x) (.str "__class__" tt)
  show wpAny _ _ (checkBuiltinCall "BaseException.__getattribute__" ⟨[.ref x, .str "__class__" tt], []⟩) _ _ _
  simp only [checkBuiltinCall, hk, hsplit]
  refine wpAny_bind ?_
  refine TI.at ?_
  repeat (first | exact hargs | wp_step)
  obtain ⟨ob, k1, k2⟩ := p
  refine wpAny_loadPart k1 ?_
  refine wpAny_pure ?_
  rw [k2]
  refine wpAny_bind (TF.at ?_)
  show wpAny _ _ (bindTo (.builtin "getset_descriptor.__get__") (.builtin "object.__class__") (.ref x) (.ref D)) _ _ _
  show wpAny _ _ (holding [Value.builtin "object.__class__"] (call (.builtin "getset_descriptor.__get__") [Value.builtin "object.__class__", .ref x, .ref D]) >>= ret) _ _ _
  refine wpAny_bind (wpAny_holding ?_)
  refine wpAny_call ?_
  refine codeAny_call_builtin KF.slot_gs.plain KF.entry_gs (KF.slot_gs.check _ _ _ _ _ _ _ _ KF.type_class (KF.args_gs _ _ _) ?_)
  unfold Builtin.«getset_descriptor.__get__» descrGet
  rw [dga_obj]
  refine wpAny_bind (wpAny_pure ?_)
  unfold descrGetter descrCheckInstance descrNameAndClass isInstance
  simp only [KF.owner_class]
  repeat lk
  refine ⟨Code.quiet_builtin _ (by decide +kernel), ?_⟩
  refine codeAny_builtin KF.entry_class ?_
  unfold Builtin.«object.__class__» shownTypeOf
  repeat lk
  exact k
theorem err_kit (hga : findIn KK (.ref D) "__getattribute__" = some (some (.builtin "BaseException.__getattribute__")))
    (hgn : findIn KK (.ref D) "__getattr__" = some none) (hdct : hasDictIn KK D = true)
    (ha : findIn KK (.ref D) "__class__" = some (some (.builtin "object.__class__")))
    (hn : specialIn KK (.builtin "object.__class__") "__get__" = some (some (.builtin "getset_descriptor.__get__")))
    (htk : takesIn KK (.builtin "object.__class__") = some true) (hm : mroIn KK D (.type "object") = some true)
    (hb : mroIn KK D (.type "BaseException") = some true) :
    KitX KK (.ref x) (.ref D) (Err x D) where
  ty := fun M hp _ p => err_ty M hp p
  it := fun _ _ X _ => by
    obtain ⟨cdD, hcD, _⟩ := any_some hdct
    unfold clsIn at hcD
    split at hcD
    · rename_i ho
      intro A' Q' E' s' kk q
      unfold isType loadHead
      refine wpAny_bind ?_
      exact wpAny_loadPart (kk _ _ (X _ _ ho)) (wpAny_pure q)
    · cases hcD
  ne := fun hp tp dd its n sl X htp => by
    obtain ⟨cdD, hcD, _⟩ := any_some hdct
    refine Bool.eq_false_iff.mpr fun q => ?_
    have e : D = tp := Value.ref.inj (beq_iff_eq.mp q)
    subst e
    unfold clsIn at hcD
    split at hcD
    · rename_i ho
      cases (X _ _ ho).symm.trans htp
    · cases hcD
  ca := fun X p k => err_class hga hgn ha hn htk hm hb X p k
theorem err_ledger {h0 hp : Heap} {L t : Addr} {n2 news : List (Addr × Obj)} {vs : List Value} (G : Got n2 x t (.ref D) vs) (N2 : News h0 L hp n2) (N : News h0 L hp news) :
    ∃ (d : Option Addr) (ws : Array Value) (sl : Array (Option Value)), News h0 L hp ((x, (⟨.ref D, d, .fields ws, sl⟩ : Obj)) :: news) := by
  obtain ⟨oe, _, ws, _, m1, _, c1, c2, _⟩ := G
  obtain ⟨oc, od, oda, osl⟩ := oe
  dsimp only at c1 c2
  subst c1 c2
  refine ⟨od, ws, osl, ?_⟩
  intro q hq
  rcases List.mem_cons.mp hq with e | e
  · subst e; exact N2 _ m1
  · exact N q e
theorem err_mem {h0 hp : Heap} {L : Addr} {news : List (Addr × Obj)} {d : Option Addr} {ws : Array Value} {sl : Array (Option Value)} (N : News h0 L hp news) (hm : (x, (⟨.ref D, d, .fields ws, sl⟩ : Obj)) ∈ news) : Err x D hp :=
  ⟨_, (N _ hm).1, rfl⟩
end
end Mine
namespace Mine
open PySem PySem.W PySem.Calls PyProof.Rows
theorem bits_big {k : Int} (h1 : -(10 ^ 100) ≤ k) (h2 : k ≤ 10 ^ 100) : Builtin.Int.intBits k ≤ 400 := by
  unfold Builtin.Int.intBits
  split
  · exact Nat.zero_le _
  · have hn : k.natAbs < 2 ^ 400 := by
      have : (10 : Int) ^ 100 < 2 ^ 400 := by decide
      omega
    have : k.natAbs.log2 < 400 := by
      rcases Nat.eq_zero_or_pos k.natAbs with h0 | hp
      · rw [h0]; decide
      · exact (Nat.log2_lt (Nat.ne_of_gt hp)).mpr hn
    omega
theorem log_big {k : Int} (h1 : -(10 ^ 100) ≤ k) (h2 : k ≤ 10 ^ 100) : k.natAbs.log2 < 9000 := by
  have hn : k.natAbs < 2 ^ 400 := by
    have : (10 : Int) ^ 100 < 2 ^ 400 := by decide
    omega
  have : k.natAbs.log2 < 400 := by
    rcases Nat.eq_zero_or_pos k.natAbs with h0 | hp
    · rw [h0]; decide
    · exact (Nat.log2_lt (Nat.ne_of_gt hp)).mpr hn
  omega
theorem mul_in {x y : Int} (x1 : -(10 ^ 45) ≤ x) (x2 : x ≤ 10 ^ 45) (y1 : -(10 ^ 45) ≤ y) (y2 : y ≤ 10 ^ 45) : -(10 ^ 90) ≤ x * y ∧ x * y ≤ 10 ^ 90 := by
  have h : (x * y).natAbs ≤ 10 ^ 45 * 10 ^ 45 := by
    rw [Int.natAbs_mul]
    exact Nat.mul_le_mul (by omega) (by omega)
  have e : (10 : Nat) ^ 45 * 10 ^ 45 = 10 ^ 90 := by decide
  rw [e] at h
  omega
section
variable {prog : Program} {w : World} {A : Around} {E : Value → Shared → Prop} {s : Shared} {x y : Int} {t u : Tok} {Q : Value → Shared → Prop}
theorem step_div (hy : 0 < y) (hs : y ≤ 10 ^ 100) (h : Q (.int (Int.fdiv x y) s.toks) { s with toks := s.toks + 1 }) :
    wpAny (model prog w) A (binaryOp .FloorDiv (.int x t) (.int y u)) Q E s :=
  PyProof.Rows.floordiv_int (by omega) h (Or.inl (PyProof.noPylong_of_log2 (log_big (by omega) hs)))
theorem step_mod (hy : 60 < y) (h : ∀ r, 0 ≤ r → r < y → Q (.int r s.toks) { s with toks := s.toks + 1 }) :
    wpAny (model prog w) A (binaryOp .Mod (.int x t) (.int y u)) Q E s :=
  PyProof.Rows.mod_int (by omega) (h _ (Int.fmod_nonneg_of_pos x (by omega)) (Int.fmod_lt_of_pos x (by omega)))
theorem step_mul2 (x1 : -(10 ^ 100) ≤ x) (x2 : x ≤ 10 ^ 100) (y1 : -(10 ^ 100) ≤ y) (y2 : y ≤ 10 ^ 100) (h : Q (.int (x * y) s.toks) { s with toks := s.toks + 1 }) :
    wpAny (model prog w) A (binaryOp .Mult (.int x t) (.int y u)) Q E s :=
  PyProof.Rows.mul_int h (PyProof.Rows.mulOk_of_bits (bits_big x1 x2) (bits_big y1 y2) (by decide))
theorem step_mul (x1 : -(10 ^ 45) ≤ x) (x2 : x ≤ 10 ^ 45) (y1 : -(10 ^ 45) ≤ y) (y2 : y ≤ 10 ^ 45) (h : -(10 ^ 90) ≤ x * y → x * y ≤ 10 ^ 90 → Q (.int (x * y) s.toks) { s with toks := s.toks + 1 }) :
    wpAny (model prog w) A (binaryOp .Mult (.int x t) (.int y u)) Q E s :=
  step_mul2 (by omega) (by omega) (by omega) (by omega) (h (mul_in x1 x2 y1 y2).1 (mul_in x1 x2 y1 y2).2)
end
end Mine
namespace Mine
open PySem PySem.W PySem.Calls PyProof.Rows
theorem lit_refl (n : Nat) [OfNat Int n] : (OfNat.ofNat n : Int) = OfNat.ofNat n := rfl
section
variable {prog : Program} {w : World} {A : Around} {E : Value → Shared → Prop} {s : Shared} {x y : Int} {t u : Tok} {Q : Value → Shared → Prop}
theorem step_modK (_ : y = y) (hy : 0 < y) (h : 0 ≤ Int.fmod x y → Int.fmod x y < y → Q (.int (Int.fmod x y) s.toks) { s with toks := s.toks + 1 }) :
    wpAny (model prog w) A (binaryOp .Mod (.int x t) (.int y u)) Q E s :=
  PyProof.Rows.mod_int (by omega) (h (Int.fmod_nonneg_of_pos x (by omega)) (Int.fmod_lt_of_pos x (by omega)))
end
end Mine
namespace Mine
open PySem PySem.W PySem.Calls PyProof.Rows
theorem range_gen {prog : Program} {w : World} {A : Around} {E : Value → Shared → Prop} {s : Shared} {t u : Tok} {Q : Value → Shared → Prop} (h : ∀ b : Int, b = 7 → wpAny (model prog w) A (call (.type "range") [.int 0 t, .int b u]) Q E s) :
    wpAny (model prog w) A (call (.type "range") [.int 0 t, .int 7 u]) Q E s := h 7 rfl
theorem range_gen1 {prog : Program} {w : World} {A : Around} {E : Value → Shared → Prop} {s : Shared} {u : Tok} {n : Int} {Q : Value → Shared → Prop} (e : n = 2) (h : ∀ b : Int, b = 2 → wpAny (model prog w) A (call (.type "range") [.int b u]) Q E s) :
    wpAny (model prog w) A (call (.type "range") [.int n u]) Q E s := h n e
theorem getD2 {a b x y : Int} {n : Nat} (h1 : a = x) (h2 : b = y) : [a, b].getD n 0 = [x, y].getD n 0 := by
  subst h1; subst h2; rfl
theorem sub_in {α : Type} {a b c : α} {O o : List α} : ∀ p ∈ a :: b :: c :: O, p ∈ a :: b :: c :: (O ++ o) := by
  intro p hp
  simp only [List.mem_cons, List.mem_append] at hp ⊢
  rcases hp with h | h | h | h
  · exact Or.inl h
  · exact Or.inr (Or.inl h)
  · exact Or.inr (Or.inr (Or.inl h))
  · exact Or.inr (Or.inr (Or.inr (Or.inl h)))
theorem sub_own {α : Type} {a b c : α} {O o : List α} : ∀ p ∈ o, p ∈ a :: b :: c :: (O ++ o) := by
  intro p hp
  simp only [List.mem_cons, List.mem_append]
  exact Or.inr (Or.inr (Or.inr (Or.inr hp)))
theorem turn_in {x X G k : Int} {pre : List Int} (h : x = X + (pre.length : Int) * G) : x + G = X + ((pre ++ [k]).length : Int) * G := by
  subst h
  simp only [List.length_append, List.length_cons, List.length_nil]
  grind
theorem start_in {X G : Int} : X = X + (([] : List Int).length : Int) * G := by
  simp only [List.length_nil]
  grind
theorem neA {k x X G : Int} {n : Nat} (hk : k = 0 + (n : Int)) (h : x = X + (n : Int) * G) : X + k * G = x := by
  subst hk; subst h; grind
theorem neB {k x X G : Int} {n : Nat} (hk : k = 0 + (n : Int)) (h : x = X + (n : Int) * G) : X + (-(0 - k)) * G = x := by
  subst hk; subst h; grind
theorem neC {k x X G H : Int} {n : Nat} (hk : k = 0 + (n : Int)) (h : x = X + (n : Int) * G) (h0 : k ≤ 0) : X + (0 - k) * H = x := by
  have : n = 0 := by omega
  subst this; subst hk; subst h; grind
end Mine
open PySem PySem.W PyProof.Rows
local macro_rules | `(tactic| k_mem) => `(tactic| with_reducible (first | (apply List.mem_cons_self) | (apply List.mem_cons_of_mem; apply List.mem_cons_self) | (apply List.mem_cons_of_mem; apply List.mem_cons_of_mem; apply List.mem_cons_self) | (apply List.mem_cons_of_mem; apply List.mem_cons_of_mem; apply List.mem_cons_of_mem; apply List.mem_cons_self) | (apply List.mem_cons_of_mem; apply List.mem_cons_of_mem; apply List.mem_cons_of_mem; apply List.mem_cons_of_mem; apply List.mem_cons_self) | (apply List.mem_cons_of_mem; apply List.mem_cons_of_mem; apply List.mem_cons_of_mem; apply List.mem_cons_of_mem; apply List.mem_cons_of_mem; apply List.mem_cons_self) | (apply List.mem_cons_of_mem; apply List.mem_cons_of_mem; apply List.mem_cons_of_mem; apply List.mem_cons_of_mem; apply List.mem_cons_of_mem; apply List.mem_cons_of_mem; apply List.mem_cons_self) | (apply List.mem_cons_of_mem; apply List.mem_cons_of_mem; apply List.mem_cons_of_mem; apply List.mem_cons_of_mem; apply List.mem_cons_of_mem; apply List.mem_cons_of_mem; apply List.mem_cons_of_mem; apply List.mem_cons_self) | (apply List.mem_cons_of_mem; apply List.mem_cons_of_mem; apply List.mem_cons_of_mem; apply List.mem_cons_of_mem; apply List.mem_cons_of_mem; apply List.mem_cons_of_mem; apply List.mem_cons_of_mem; apply List.mem_cons_of_mem; apply List.mem_cons_self) | (apply List.mem_cons_of_mem; apply List.mem_cons_of_mem; apply List.mem_cons_of_mem; apply List.mem_cons_of_mem; apply List.mem_cons_of_mem; apply List.mem_cons_of_mem; apply List.mem_cons_of_mem; apply List.mem_cons_of_mem; apply List.mem_cons_of_mem; apply List.mem_cons_self) | (apply List.mem_cons_of_mem; apply List.mem_cons_of_mem; apply List.mem_cons_of_mem; apply List.mem_cons_of_mem; apply List.mem_cons_of_mem; apply List.mem_cons_of_mem; apply List.mem_cons_of_mem; apply List.mem_cons_of_mem; apply List.mem_cons_of_mem; apply List.mem_cons_of_mem; apply List.mem_cons_self) | (apply List.mem_cons_of_mem; apply List.mem_cons_of_mem; apply List.mem_cons_of_mem; apply List.mem_cons_of_mem; apply List.mem_cons_of_mem; apply List.mem_cons_of_mem; apply List.mem_cons_of_mem; apply List.mem_cons_of_mem; apply List.mem_cons_of_mem; apply List.mem_cons_of_mem; apply List.mem_cons_of_mem; apply List.mem_cons_self) | (apply List.mem_cons_of_mem; apply List.mem_cons_of_mem; apply List.mem_cons_of_mem; apply List.mem_cons_of_mem; apply List.mem_cons_of_mem; apply List.mem_cons_of_mem; apply List.mem_cons_of_mem; apply List.mem_cons_of_mem; apply List.mem_cons_of_mem; apply List.mem_cons_of_mem; apply List.mem_cons_of_mem; apply List.mem_cons_of_mem; apply List.mem_cons_self) | (apply List.mem_cons_of_mem; apply List.mem_cons_of_mem; apply List.mem_cons_of_mem; apply List.mem_cons_of_mem; apply List.mem_cons_of_mem; apply List.mem_cons_of_mem; apply List.mem_cons_of_mem; apply List.mem_cons_of_mem; apply List.mem_cons_of_mem; apply List.mem_cons_of_mem; apply List.mem_cons_of_mem; apply List.mem_cons_of_mem; apply List.mem_cons_of_mem; apply List.mem_cons_self)))
local macro_rules | `(tactic| k_in) => `(tactic| first | k_in_fast | exact Frag.In.keeps (by k_asm) (Fr.keep (by k_asm)))
local macro_rules | `(tactic| k_fmods) => `(tactic| skip)
local macro_rules | `(tactic| walk_at "eval Call") => `(tactic| (k_here; k_dflt (refine Call_ ?_)))
local macro_rules | `(tactic| walk_at "binaryOp Pow int int") => `(tactic| (k_here; (with_reducible refine' Mine.step_p40 ?_)))
local macro_rules | `(tactic| walk_at "call builtin:isinstance") => `(tactic| (k_here; (with_reducible show wpAny _ _ (call _ [Value.ref _, _]) _ _ _); (with_reducible rename Got _ _ _ _ _ => gE'); (with_reducible rename News _ _ _ _ => nO'); (obtain ⟨dE', wE', sE', nE'⟩ := Mine.err_ledger gE' (by assumption) nO'); k_dflt (first | (refine' Mine.err_isi ?I ?X ?ee ?_; (case I => exact Mine.err_mem nE' (List.mem_cons_self ..)); (case X => k_in); (case ee => kit_is); k_whole; intro _) | (refine' kia_one (Mine.err_kit ?k1 ?k2 ?k3 ?k4 ?k5 ?k6 ?k7 ?k8) ?X ?I ?ee ?nb ?_; (case I => exact Mine.err_mem nE' (List.mem_cons_self ..)); (case X => k_in); (case ee => kit_is); (case nb => kit_nb); (case k1 => k_is); (case k2 => k_is); (case k3 => k_is); (case k4 => k_is); (case k5 => k_is); (case k6 => k_is); (case k7 => k_is); (case k8 => k_is); k_whole; intro _))))
local macro_rules | `(tactic| walk_at "call builtin:isinstance") => `(tactic| (k_here; (with_reducible show wpAny _ _ (call _ [Value.ref _, _]) _ _ _); k_dflt (first | (refine' Mine.err_isi ?I ?X ?ee ?_; (case I => exact Mine.err_mem (by assumption) (by k_mem)); (case X => k_in); (case ee => kit_is); k_whole; intro _) | (refine' kia_one (Mine.err_kit ?k1 ?k2 ?k3 ?k4 ?k5 ?k6 ?k7 ?k8) ?X ?I ?ee ?nb ?_; (case I => exact Mine.err_mem (by assumption) (by k_mem)); (case X => k_in); (case ee => kit_is); (case nb => kit_nb); (case k1 => k_is); (case k2 => k_is); (case k3 => k_is); (case k4 => k_is); (case k5 => k_is); (case k6 => k_is); (case k7 => k_is); (case k8 => k_is); k_whole; intro _))))
local macro_rules | `(tactic| walk_at "compareOp NotEq int int") => `(tactic| (k_here; (with_reducible refine' Mine.ne_F ?k1 ?_); (case k1 => k_dflt (first | exact Mine.getD2 (by (first | exact Mine.neA (by assumption) (by assumption) | exact Mine.neB (by assumption) (by assumption) | exact Mine.neC (by assumption) (by assumption) (by omega) | omega)) (by (first | exact Mine.neA (by assumption) (by assumption) | exact Mine.neB (by assumption) (by assumption) | exact Mine.neC (by assumption) (by assumption) (by omega) | omega)) | omega))))
local macro_rules | `(tactic| walk_at "binaryOp Mod int int") => `(tactic| (k_here; (with_reducible refine' Mine.step_modK rfl ?k1 ?_); (case k1 => k_dflt omega); intro hr0 hr1))
local macro_rules | `(tactic| walk_at "binaryOp FloorDiv int int") => `(tactic| (k_here; (with_reducible refine' Mine.step_div ?k1 ?k2 ?_); (case k1 => k_dflt omega); (case k2 => k_dflt omega)))
local macro_rules | `(tactic| walk_at "UnrEnd") => `(tactic| first | krn_end | k_unrEnd | (refine' Mine.unr_head ?k1 ?k2 ?k3 ?_; (case k1 => assumption); (case k2 => assumption); (case k3 => krn_off)))
local macro_rules | `(tactic| walk_at "binaryOp Mult int int") => `(tactic| (k_here; (with_reducible refine' Mine.step_mul ?k1 ?k2 ?k3 ?k4 ?_); (case k1 => k_dflt omega); (case k2 => k_dflt omega); (case k3 => k_dflt omega); (case k4 => k_dflt omega); intro hm0 hm1))
local macro_rules | `(tactic| walk_at "call type:range") => `(tactic| (k_here; (with_reducible refine' Mine.range_gen1 ?k1 ?_); (case k1 => k_dflt (first | rfl | omega)); intro b2 hb2; (rename Fr _ _ _ _ => F'); (rename News _ _ _ _ => N'); (with_unfolding_all refine range1_rows F' N' ?_; intro _ _ _ _ _ _ _ _ _)))
local macro_rules | `(tactic| walk_at "InvEndN") => `(tactic| (k_here; (with_reducible rename News _ _ _ _ => nE'); (k_dflt (refine' kst_end () ?fF nE' ?hn ?ho ?hr True.intro (List.forall_mem_nil _) ?hs ?hp; (case fF => assumption); (case hn => apply Mine.sub_in); (case ho => apply Mine.sub_own); (case hr => rfl); (case hs => kst_same); (case hp => exact True.intro)))))
set_option maxRecDepth 100000 in
set_option maxHeartbeats 0 in
theorem PySem.Challenge.cw_gradecut_k01_place_holds : PySem.Challenge.rw_gradecut_k01_place.Holds := by
  k_with "tree" => first | (show _ = PySem.W.cellAt _ _ 0; cell_eq) | (show _ = true; rfl) | simp only [Mine.drawn]
  k_with "fact _law_whole" => exact Mine.whole_true
  k_with "call ref" => k_call_by "_law_whole" Mine.wholeF
  k_with "call ref" => k_call_by "_law_at" Mine.cell (fun (_ : List Int) (k : Int) => 0 ≤ k)
  k_with "fact _law_drawn" => exact Mine.drawn_in
  k_with "call ref" => k_call_by "_law_drawn" Mine.drawn (fun (_ m : Int) => 0 < m ∧ m ≤ 30000)
  k_with "state" => first | exact ⟨Mine.start_in, Mine.start_in⟩ | exact ⟨Mine.turn_in (by assumption), Mine.turn_in (by assumption)⟩ | (constructor <;> (simp only [List.length_nil]; grind))
  k_with "pyIter ref" => (k_of "_law_size" => (rename List Int => sc; k_state_short (fun pre x y => x = Mine.drawn (PySem.W.cellAt sc 0 0) 20000 + (pre.length : Int) * Mine.drawn (PySem.W.cellAt sc 2 0) 200 ∧ y = Mine.drawn (PySem.W.cellAt sc 1 0) 20000 + (pre.length : Int) * Mine.drawn (PySem.W.cellAt sc 3 0) 200) "_law_x" "_law_y"))
  k_with "pyIter ref" => (k_of "_law_step" => (rename List Int => sc; k_state_short (fun pre x y => x = Mine.drawn (PySem.W.cellAt sc 0 0) 20000 + (pre.length : Int) * Mine.drawn (PySem.W.cellAt sc 4 0) 200 ∧ y = Mine.drawn (PySem.W.cellAt sc 1 0) 20000 + (pre.length : Int) * Mine.drawn (PySem.W.cellAt sc 5 0) 200) "_law_x" "_law_y"))
  k_with "pyIter ref" => (k_of "_law_k" => (k_search (fun _ => True)))
  open_k
