import PyProof.Rows.All
import Wide.All
import OpenK.AllK
import Wide.FinOn
import Lean
import PyProof.EqAt
import PyProof.EqKinds
import PyProof.TupleCall
import PyProof.NeKinds
import KE.KTryMore
import PyProof.EnumStmt
import PySem.Challenge.RW_gradecut_k15_not_laid
section
set_option Elab.async false
set_option linter.all false
set_option maxRecDepth 100000
namespace L2
open PySem PySem.Spec PyProof.Rows
abbrev Key := Sum Int Str
def keyIs : Key → Value → Bool
  | .inl k, v => Value.isInt k v
  | .inr x, v => Value.isStrOf x v
def keyH (w : World) : Key → Int
  | .inl k => hashInt k
  | .inr x => hashStr w x
theorem zaaj : ∀ {k : Key} {v : Value}, keyIs k v = true → (∃ i t, k = Sum.inl i ∧ v = Value.int i t) ∨ (∃ x t, k = Sum.inr x ∧ v = Value.str x t)
  | .inl i, v, h => by
    obtain ⟨t, e⟩ := Value.isInt_shape (k := i) (v := v) h
    exact .inl ⟨i, t, rfl, e⟩
  | .inr x, v, h => by
    obtain ⟨t, e⟩ := Value.isStrOf_shape (x := x) (v := v) h
    exact .inr ⟨x, t, rfl, e⟩
theorem key_ll (a b : Int) : decide ((Sum.inl a : Key) = Sum.inl b) = (a == b) := by
  by_cases e : a = b
  · subst e; simp
  · have h : ¬ (Sum.inl a : Key) = Sum.inl b := fun q => e (Sum.inl.inj q)
    rw [decide_eq_false h]
    exact (beq_eq_false_iff_ne.mpr e).symm
theorem key_rr (a b : Str) : decide ((Sum.inr a : Key) = Sum.inr b) = decide (a = b) := by
  by_cases e : a = b
  · subst e; simp
  · have h : ¬ (Sum.inr a : Key) = Sum.inr b := fun q => e (Sum.inr.inj q)
    rw [decide_eq_false h, decide_eq_false e]
theorem key_lr (a : Int) (b : Str) : decide ((Sum.inl a : Key) = Sum.inr b) = false := decide_eq_false (fun q => nomatch q)
theorem key_rl (a : Str) (b : Int) : decide ((Sum.inr a : Key) = Sum.inl b) = false := decide_eq_false (fun q => nomatch q)
def zady (prog : Program) (w : World) : PySem.KeyKind prog w Key where
  is := keyIs
  hash := keyH w
  inj := fun v a b ha hb => by
    rcases zaaj ha with ⟨i, t, rfl, rfl⟩ | ⟨x, t, rfl, rfl⟩
    · rcases zaaj hb with ⟨j, u, rfl, e⟩ | ⟨y, u, rfl, e⟩
      · injection e with e1 _; rw [e1]
      · exact nomatch e
    · rcases zaaj hb with ⟨j, u, rfl, e⟩ | ⟨y, u, rfl, e⟩
      · exact nomatch e
      · injection e with e1 _; rw [e1]
  byValue := fun k v h => by
    rcases zaaj h with ⟨i, t, rfl, rfl⟩ | ⟨x, t, rfl, rfl⟩ <;> rfl
  pyHash := fun hv h => by
    rcases zaaj hv with ⟨i, t, rfl, rfl⟩ | ⟨x, t, rfl, rfl⟩
    · exact wpAny_pyHash_int h
    · exact wpAny_pyHash_str h
  eqBool := fun hu hv h => by
    rcases zaaj hu with ⟨i, t, rfl, rfl⟩ | ⟨x, t, rfl, rfl⟩
    · rcases zaaj hv with ⟨j, u, rfl, rfl⟩ | ⟨y, u, rfl, rfl⟩
      · rw [key_ll] at h; exact wpAny_eqBool_int h
      · rw [key_lr] at h; exact SeqAt.EqAt.int_str i t y u _ _ _ _ h
    · rcases zaaj hv with ⟨j, u, rfl, rfl⟩ | ⟨y, u, rfl, rfl⟩
      · rw [key_rl] at h; exact SeqAt.EqAt.str_int x t j u _ _ _ _ h
      · rw [key_rr] at h; exact wpAny_eqBool_str h
  «strs» := fun k x t v h => by
    rcases zaaj h with ⟨i, u, rfl, e⟩ | ⟨y, u, rfl, e⟩
    · exact nomatch e
    · injection e with e1 _
      subst e1
      cases v <;> rfl
end L2
namespace L2
open PySem PySem.Spec PyProof.Rows
inductive V where
  | non | bl (b : Bool) | int (i : Int) | str (x : Str) | byt (b : Array UInt8) | flt (b : UInt64) | ref (a : Addr) | ty (n : String)
  deriving DecidableEq
def RelV : V → Value → Prop
  | .non, u => u = Value.none
  | .bl b, u => u = Value.bool b
  | .int i, u => ∃ t, u = Value.int i t
  | .str x, u => ∃ t, u = Value.str x t
  | .byt b, u => ∃ t, u = Value.bytes b t
  | .flt b, u => ∃ t, u = Value.float b t
  | .ref a, u => u = Value.ref a
  | .ty n, u => u = Value.type n
abbrev Vals : List V → List Value → Prop := Paired RelV
theorem Vals.length {xs : List V} {us : List Value} (r : Vals xs us) : xs.length = us.length := Paired.length r
theorem Vals.get : ∀ {xs : List V} {us : List Value} {i : Nat} {x : V}, Vals xs us → xs[i]? = some x → ∃ u, us[i]? = some u ∧ RelV x u
  | _, _, _, _, .nil, e => by simp at e
  | _, _, 0, _, .cons r _, e => by simp at e; subst e; exact ⟨_, rfl, r⟩
  | _, _, i + 1, x, .cons _ t, e => by
    obtain ⟨u, h1, h2⟩ := Vals.get (i := i) (x := x) t (by simpa using e)
    exact ⟨u, by simpa using h1, h2⟩
theorem Vals.set {x : V} {u : Value} (r : RelV x u) : ∀ {xs : List V} {us : List Value} (i : Nat), Vals xs us → Vals (xs.set i x) (us.set i u)
  | _, _, _, .nil => .nil
  | _, _, 0, .cons _ t => .cons r t
  | _, _, i + 1, .cons q t => .cons q (Vals.set r i t)
theorem Vals.append : ∀ {xs ys : List V} {us ws : List Value}, Vals xs us → Vals ys ws → Vals (xs ++ ys) (us ++ ws)
  | _, _, _, _, .nil, s => s
  | _, _, _, _, .cons r t, s => .cons r (Vals.append t s)
theorem Vals.take : ∀ {xs : List V} {us : List Value} (n : Nat), Vals xs us → Vals (xs.take n) (us.take n)
  | _, _, 0, _ => .nil
  | _, _, _ + 1, .nil => .nil
  | _, _, n + 1, .cons r t => .cons r (Vals.take n t)
theorem Vals.drop : ∀ {xs : List V} {us : List Value} (n : Nat), Vals xs us → Vals (xs.drop n) (us.drop n)
  | _, _, 0, r => r
  | _, _, _ + 1, .nil => .nil
  | _, _, n + 1, .cons _ t => Vals.drop n t
def RelO : Option V → Option Value → Prop
  | some v, some u => RelV v u
  | none, none => True
  | _, _ => False
def KV {κ : Type} : List (κ × V) → List (κ × Value) → Prop := Paired fun (p : κ × V) (q : κ × Value) => p.1 = q.1 ∧ RelV p.2 q.2
def kV : Key → V
  | .inl i => .int i
  | .inr x => .str x
inductive HO where
  | lst (xs : List V)
  | tup (xs : List V)
  | dK (kvs : List (Key × V)) | dT (kvs : List (List Key × V))
  | set (S : Int → Bool) (n : Nat)
  | ins (C dx : Addr) (fs : List (Str × V))
  | own (x : Addr)
  | xd (fs : List (Str × V))
  | met (f x : Addr)
  | rng (lo hi : Int)
  | frz (o : Obj) (u : HO)
  | tbl (ps : Array Value)
  | ext (φ : Heap → Prop)
abbrev Hp := Addr → Option HO
def upd (H : Hp) (a : Addr) (o : HO) : Hp := fun b => if b = a then some o else H b
theorem zaae {H : Hp} {a : Addr} {o : HO} : upd H a o a = some o := by unfold upd; rw [if_pos rfl]
theorem upd_ne {H : Hp} {a b : Addr} {o : HO} (h : b ≠ a) : upd H a o b = H b := by unfold upd; rw [if_neg h]
theorem ne_of {H : Hp} {a b : Addr} {o u : HO} (h : H a = some o) (h' : H b = some u) (d : o ≠ u) : a ≠ b := by
  intro e; subst e; rw [h] at h'; exact d (Option.some.inj h')
theorem zaaq {H : Hp} {a b : Addr} {o : HO} (h : H a = some o) (h' : H b = none) : a ≠ b := by
  intro e; subst e; rw [h] at h'; cases h'
section
variable (P : Program) (w : World)
def ObjOk (H : Hp) (h : Heap) (a : Addr) : HO → Prop
  | .lst xs => xs.length ≤ sizeLine ∧ ∃ (its : List Value) (n : Nat), Vals xs its ∧ h.get? a = some { cls := .type "list", data := .seq its.toArray n }
  | .tup xs => xs.length ≤ sizeLine ∧ ∃ its : List Value, Vals xs its ∧ IsTup h a its.toArray
  | .dK kvs => kvs.length ≤ sizeLine ∧ (a == sysModules) = false ∧ ∃ vs, KV kvs vs ∧ h.DictOf (zady P w) a vs
  | .dT kvs => kvs.length ≤ sizeLine ∧ (a == sysModules) = false ∧ ∃ xs : List (List Key × Addr × Value),
      Paired (fun (p : List Key × V) (q : List Key × Addr × Value) => p.1 = q.1 ∧ H q.2.1 = some (.tup (p.1.map kV)) ∧ RelV p.2 q.2.2) kvs xs ∧
      ∃ o es ep, h.get? a = some o ∧ o.ExactDict ∧ o.data = .dict es ep ∧ es.toList = xs.map (entryOfKey (tupleKind (zady P w))) ∧ (xs.map (·.1)).Nodup
  | .set S n => h.SetOf (intKind P w) a S n
  | .ins C dx fs => H dx = some (.own a) ∧ fs.length ≤ 1000 ∧ dx ≠ a ∧ h.get? a = some (PySem.W.instObj C dx) ∧
      ∃ mA, h.Ns1 dx mA ∧ (∀ f, RelO (fs.lookup f) (mA f)) ∧ PySem.Within mA (fs.map (·.1))
  | .own _ => ∃ o, h.get? a = some o
  | .xd fs => ∃ mA, h.Ns1 a mA ∧ ∀ f, RelO (fs.lookup f) (mA f)
  | .rng lo hi => ∃ t u v, h.get? a = some { cls := .type "range", data := .fields #[.int lo t, .int hi u, .int 1 v] }
  | .frz o u => h.get? a = some o ∧ ObjOk H h a u
  | .tbl ps => h.get? a = some { cls := .none, data := .fields ps }
  | .met f x => h.get? a = some (PySem.W.methodObj (.ref f) (.ref x))
  | .ext φ => φ h ∧ (∃ o, h.get? a = some o) ∧ ∀ h1 h2 : Heap, φ h1 → (∀ o, h1.get? a = some o → h2.get? a = some o) → φ h2
def HOk (H : Hp) (h : Heap) : Prop := ∀ a o, H a = some o → ObjOk P w H h a o
end
section
variable {P : Program} {w : World} {H H' : Hp} {h h' : Heap} {a : Addr} {o : HO}
theorem ObjOk.lt (x : ObjOk P w H h a o) : a < h.objs.size := by
  cases o with
  | lst xs => obtain ⟨_, _, _, _, e⟩ := x; exact Heap.lt_size e
  | tup xs => obtain ⟨_, _, _, p⟩ := x; exact p.lt
  | dK kvs => obtain ⟨_, _, _, _, o, _, _, e, _⟩ := x; exact Heap.lt_size e
  | dT kvs => obtain ⟨_, _, _, _, o, _, _, e, _⟩ := x; exact Heap.lt_size e
  | set S n => obtain ⟨o, _, _, _, e, _⟩ := x; exact Heap.lt_size e
  | ins C dx fs => obtain ⟨_, _, _, e, _⟩ := x; exact Heap.lt_size e
  | own y => obtain ⟨_, e⟩ := x; exact Heap.lt_size e
  | xd fs => obtain ⟨_, ⟨_, _, _, e, _⟩, _⟩ := x; exact Heap.lt_size e
  | rng lo hi => obtain ⟨_, _, _, e⟩ := x; exact Heap.lt_size e
  | frz ob u => obtain ⟨e, _⟩ := x; exact Heap.lt_size e
  | tbl ps => exact Heap.lt_size (show h.get? a = some _ from x)
  | met f y => exact Heap.lt_size (show h.get? a = some _ from x)
  | ext φ => obtain ⟨_, ⟨_, e⟩, _⟩ := x; exact Heap.lt_size e
theorem Paired.mapP {α β : Type} {F G : α → β → Prop} : ∀ {l₁ : List α} {l₂ : List β}, Paired F l₁ l₂ → (∀ a b, F a b → G a b) → Paired G l₁ l₂
  | _, _, .nil, _ => .nil
  | _, _, .cons r t, f => .cons (f _ _ r) (Paired.mapP t f)
theorem ObjOk.stay (x : ObjOk P w H h a o) (k : ∀ b u, (b = a ∨ H b = some (.own a)) → h.get? b = some u → h'.get? b = some u)
    (ho : ∀ b, H b = some (.own a) → H' b = some (.own a)) (ht : ∀ b xs, H b = some (.tup xs) → H' b = some (.tup xs)) : ObjOk P w H' h' a o := by
  induction o with
  | lst xs => obtain ⟨z, its, n, r, e⟩ := x; exact ⟨z, its, n, r, k _ _ (.inl rfl) e⟩
  | tup xs => obtain ⟨z, its, r, ob, e, c⟩ := x; exact ⟨z, its, r, ob, k _ _ (.inl rfl) e, c⟩
  | dK kvs => obtain ⟨z, y, vs, r, ob, es, ep, e, c⟩ := x; exact ⟨z, y, vs, r, ob, es, ep, k _ _ (.inl rfl) e, c⟩
  | dT kvs =>
    obtain ⟨z, y, xs, r, ob, es, ep, e, c⟩ := x
    exact ⟨z, y, xs, Paired.mapP r fun p q z => ⟨z.1, ht _ _ z.2.1, z.2.2⟩, ob, es, ep, k _ _ (.inl rfl) e, c⟩
  | set S n => obtain ⟨ob, es, ep, t, e, c⟩ := x; exact ⟨ob, es, ep, t, k _ _ (.inl rfl) e, c⟩
  | ins C dx fs =>
    obtain ⟨d, z, ne, e, mA, ⟨od, es, ep, e2, c⟩, r⟩ := x
    exact ⟨ho _ d, z, ne, k _ _ (.inl rfl) e, mA, ⟨od, es, ep, k _ _ (.inr d) e2, c⟩, r⟩
  | own y => obtain ⟨ob, e⟩ := x; exact ⟨ob, k _ _ (.inl rfl) e⟩
  | xd fs => obtain ⟨mA, ⟨od, es, ep, e, c⟩, r⟩ := x; exact ⟨mA, ⟨od, es, ep, k _ _ (.inl rfl) e, c⟩, r⟩
  | rng lo hi => obtain ⟨t, u, v, e⟩ := x; exact ⟨t, u, v, k _ _ (.inl rfl) e⟩
  | frz ob u ih => obtain ⟨e, q⟩ := x; exact ⟨k _ _ (.inl rfl) e, ih q⟩
  | tbl ps =>
    have e : h.get? a = some { cls := .none, data := .fields ps } := x
    show h'.get? a = some { cls := .none, data := .fields ps }
    exact k a _ (.inl rfl) e
  | met f y =>
    have e : h.get? a = some (PySem.W.methodObj (.ref f) (.ref y)) := x
    show h'.get? a = some (PySem.W.methodObj (.ref f) (.ref y))
    exact k a _ (.inl rfl) e
  | ext φ => obtain ⟨p, ⟨o, e⟩, st⟩ := x; exact ⟨st _ _ p fun o q => k _ _ (.inl rfl) q, ⟨o, k _ _ (.inl rfl) e⟩, st⟩
theorem HOk.lt (x : HOk P w H h) (e : H a = some o) : a < h.objs.size := (x a o e).lt
theorem HOk.fresh (x : HOk P w H h) (e : h.objs.size ≤ a) : H a = none := by
  cases q : H a with
  | none => rfl
  | some u => exact absurd (Nat.lt_of_lt_of_le (x.lt q) e) (Nat.lt_irrefl _)
theorem HOk.kept (x : HOk P w H h) (k : ∀ b u, h.get? b = some u → h'.get? b = some u) : HOk P w H h' := fun a o e =>
  (x a o e).stay (fun b u _ q => k b u q) (fun _ q => q) fun _ _ q => q
theorem HOk.laid (x : HOk P w H h) (k : ∀ b u, h.get? b = some u → h'.get? b = some u) (hp : h.objs.size ≤ a) (new : ObjOk P w (upd H a o) h' a o) : HOk P w (upd H a o) h' := fun b u e => by
  have hn := x.fresh hp
  by_cases hb : b = a
  · subst hb; rw [zaae] at e; cases e; exact new
  · rw [upd_ne hb] at e
    exact (x b u e).stay (fun c v _ q => k c v q) (fun c q => by rw [upd_ne (zaaq q hn)]; exact q) fun c xs q => by rw [upd_ne (zaaq q hn)]; exact q
end
def Rd (H : Hp) (a : Addr) (u : HO) : Prop := H a = some u ∨ ∃ o, H a = some (.frz o u)
theorem Rd.of {H : Hp} {a : Addr} {u : HO} (h : H a = some u) : Rd H a u := .inl h
theorem Rd.ok {P : Program} {w : World} {H : Hp} {h : Heap} {a : Addr} {u : HO} (r : Rd H a u) (x : HOk P w H h) : ObjOk P w H h a u := by
  rcases r with r | ⟨o, r⟩
  · exact x a u r
  · obtain ⟨_, q⟩ := x a _ r
    exact q
def Mut : Option HO → Prop
  | some (.lst _) => True
  | some (.dK _) => True
  | some (.dT _) => True
  | some (.set _ _) => True
  | some (.ins _ _ _) => True
  | some (.ext _) => True
  | _ => False
section
variable {P : Program} {w : World} {H : Hp} {h h' : Heap} {x e : Addr} {o' : HO}
theorem HOk.write (ok : HOk P w H h) (mu : Mut (H x)) (he : e = x ∨ H e = some (.own x)) (k : ∀ b u, b ≠ e → h.get? b = some u → h'.get? b = some u) (heo : ∃ u, h'.get? e = some u)
    (new : ObjOk P w (upd H x o') h' x o') : HOk P w (upd H x o') h' := fun b u q => by
  have nown : ∀ c y, H c = some (.own y) → c ≠ x := fun c y r z => by subst z; rw [r] at mu; exact mu
  have ntup : ∀ c xs, H c = some (.tup xs) → c ≠ x := fun c xs r z => by subst z; rw [r] at mu; exact mu
  by_cases hb : b = x
  · subst hb; rw [zaae] at q; cases q; exact new
  · rw [upd_ne hb] at q
    by_cases hbe : b = e
    · have q' : H b = some (.own x) := by
        rcases he with z | z
        · exact absurd (hbe.trans z) hb
        · rw [hbe]; exact z
      rw [q] at q'; cases q'
      obtain ⟨v, hv⟩ := heo
      exact ⟨v, by rw [hbe]; exact hv⟩
    · refine (ok b u q).stay (fun c v hc r => k c v ?_ r) (fun c r => by rw [upd_ne (nown c b r)]; exact r) fun c xs r => by rw [upd_ne (ntup c xs r)]; exact r
      rcases hc with rfl | hc
      · exact hbe
      · rintro rfl
        rcases he with z | z
        · exact nown c b hc z
        · rw [hc] at z; cases z; exact hb rfl
end
structure Un (fs ex : List Addr) (H H' : Hp) (h h' : Heap) : Prop where
  keep : ∀ b o, h.get? b = some o → H b = none → b ∉ fs → b ∉ ex → h'.get? b = some o
  slot : ∀ b o, h.get? b = some o → H b = none → b ∈ fs → b ∉ ex → ∃ sl, h'.get? b = some { o with slots := sl }
  free : ∀ b o, h.get? b = some o → H b = none → b ∉ ex → H' b = none
  there : ∀ b o, h.get? b = some o → b ∉ ex → ∃ o', h'.get? b = some o'
  tups : ∀ b xs, H b = some (.tup xs) → H' b = some (.tup xs)
  frzs : ∀ b o u, H b = some (.frz o u) → H' b = some (.frz o u)
  tbls : ∀ b ps, H b = some (.tbl ps) → ∃ more, H' b = some (.tbl (ps ++ more))
section
variable {fs fs' ex ex' : List Addr} {H H1 H2 : Hp} {h h1 h2 h' : Heap} {a x e : Addr} {o : HO}
theorem Un.any (u : Un fs ex H H1 h h1) {b : Addr} {ob : Obj} (q : h.get? b = some ob) (n : H b = none) (hx : b ∉ ex) : ∃ sl, h1.get? b = some { ob with slots := sl } := by
  by_cases hb : b ∈ fs
  · exact u.slot b ob q n hb hx
  · exact ⟨ob.slots, u.keep b ob q n hb hx⟩
theorem Un.trans (a : Un fs ex H H1 h h1) (b : Un fs ex H1 H2 h1 h2) : Un fs ex H H2 h h2 where
  keep := fun c ob q n hc hx => b.keep c ob (a.keep c ob q n hc hx) (a.free c ob q n hx) hc hx
  slot := fun c ob q n hc hx => by
    obtain ⟨sl, e1⟩ := a.slot c ob q n hc hx
    obtain ⟨sl', e2⟩ := b.slot c _ e1 (a.free c ob q n hx) hc hx
    exact ⟨sl', e2⟩
  free := fun c ob q n hx => by
    obtain ⟨o', e1⟩ := a.there c ob q hx
    exact b.free c o' e1 (a.free c ob q n hx) hx
  there := fun c ob q hx => by
    obtain ⟨o', e1⟩ := a.there c ob q hx
    exact b.there c o' e1 hx
  tups := fun c xs q => b.tups c xs (a.tups c xs q)
  frzs := fun c ob xs q => b.frzs c ob xs (a.frzs c ob xs q)
  tbls := fun c ps q => by
    obtain ⟨m1, e1⟩ := a.tbls c ps q
    obtain ⟨m2, e2⟩ := b.tbls c _ e1
    exact ⟨m1 ++ m2, by rw [e2, Array.append_assoc]⟩
theorem Un.kept (k : ∀ b u, h.get? b = some u → h'.get? b = some u) : Un fs ex H H h h' :=
  ⟨fun b ob q _ _ _ => k b ob q, fun b ob q _ _ _ => ⟨ob.slots, k b ob q⟩, fun _ _ _ n _ => n, fun b ob q _ => ⟨ob, k b ob q⟩, fun _ _ q => q, fun _ _ _ q => q, fun _ ps q => ⟨#[], by rw [q]; simp⟩⟩
theorem Un.refl : Un fs ex H H h h := Un.kept fun _ _ q => q
theorem Un.laid (k : ∀ b u, h.get? b = some u → h'.get? b = some u) (hp : h.objs.size ≤ a) (hn : H a = none) : Un fs ex H (upd H a o) h h' where
  keep := fun b u q _ _ _ => k b u q
  slot := fun b u q _ _ _ => ⟨u.slots, k b u q⟩
  free := fun b u q n _ => by rw [upd_ne (Nat.ne_of_lt (Nat.lt_of_lt_of_le (Heap.lt_size q) hp))]; exact n
  there := fun b u q _ => ⟨u, k b u q⟩
  tups := fun b xs q => by rw [upd_ne (zaaq q hn)]; exact q
  frzs := fun b u xs q => by rw [upd_ne (zaaq q hn)]; exact q
  tbls := fun b ps q => ⟨#[], by rw [upd_ne (zaaq q hn), q]; simp⟩
theorem Un.write (mu : Mut (H x)) (he : e = x ∨ H e = some (.own x)) (k : ∀ b u, b ≠ e → h.get? b = some u → h'.get? b = some u) (heo : ∃ u, h'.get? e = some u) : Un fs ex H (upd H x o) h h' := by
  have hx : ∀ b, H b = none → b ≠ x := fun b n z => by subst z; rw [n] at mu; exact mu
  have hb : ∀ b, H b = none → b ≠ e := fun b n z => by
    subst z
    rcases he with r | r
    · exact hx b n r
    · rw [n] at r; cases r
  have hm : ∀ b u, H b = some u → ¬ Mut (some u) → b ≠ x := fun b u q nm z => by subst z; rw [q] at mu; exact nm mu
  refine ⟨fun b u q n _ _ => k b u (hb b n) q, fun b u q n _ _ => ⟨u.slots, k b u (hb b n) q⟩, fun b u q n _ => by rw [upd_ne (hx b n)]; exact n, fun b u q _ => ?_,
    fun b xs q => by rw [upd_ne (hm b _ q fun z => z)]; exact q, fun b u xs q => by rw [upd_ne (hm b _ q fun z => z)]; exact q, fun b ps q => ⟨#[], by rw [upd_ne (hm b _ q fun z => z), q]; simp⟩⟩
  by_cases hbe : b = e
  · subst hbe; exact heo
  · exact ⟨u, k b u hbe q⟩
theorem Un.mono (u : Un fs ex H H1 h h1) (hs : ∀ b ∈ fs, b ∈ fs') (hx : ∀ b ∈ ex, b ∈ ex') : Un fs' ex' H H1 h h1 :=
  ⟨fun b ob q n hb he => u.keep b ob q n (fun z => hb (hs b z)) fun z => he (hx b z), fun _ _ q n _ he => u.any q n fun z => he (hx _ z), fun b ob q n he => u.free b ob q n fun z => he (hx b z), fun b ob q he => u.there b ob q fun z => he (hx b z), u.tups, u.frzs, u.tbls⟩
end
def trk (h : Heap) (H : Hp) : List Addr := (List.range h.objs.size).filter fun a => (H a).isSome
def hidT (h : Heap) (H : Hp) : Heap := PySem.W.hideAll h (trk h H)
theorem zac2 (h : Heap) (H : Hp) : (hidT h H).objs.size = h.objs.size := PySem.W.hideAll_size _ _
theorem zad4 {h : Heap} {H : Hp} {b : Addr} {o : Obj} (e : h.get? b = some o) (n : H b = none) : (hidT h H).get? b = some o :=
  PySem.W.hideAll_get _ e fun hm => by
    have q : (H b).isSome = true := (List.mem_filter.mp hm).2
    rw [n] at q; simp at q
theorem of_hidT {h : Heap} {H : Hp} {b : Addr} {o : Obj} (e : (hidT h H).get? b = some o) : h.get? b = some o ∧ H b = none := by
  have e' : h.get? b = some o := PySem.W.of_hideAll (trk h H) e
  refine ⟨e', ?_⟩
  cases q : H b with
  | none => rfl
  | some x =>
    have hm : b ∈ trk h H := List.mem_filter.mpr ⟨List.mem_range.mpr (Heap.lt_size e'), by simp [q]⟩
    have z : (hidT h H).get? b = none := PySem.W.hideAll_none (trk h H) hm
    rw [z] at e; cases e
def allNews (g h : Heap) (L : Addr) : List (Addr × Obj) := (List.range h.objs.size).filterMap fun a => if a = L ∨ (g.get? a).isSome = true then none else (h.get? a).map fun o => (a, o)
def rest (g h : Heap) (L d : Addr) : List (Addr × Obj) := (allNews g h L).filter fun p => decide (p.1 ≠ d)
end L2
namespace L2
open PySem PySem.Spec PyProof.Rows
structure Mod (K : PySem.W.Frag) (mg : Str → Option Value) (base : Heap) : Prop where
  kin : K.In base
  glob : base.Ns mainGlobals mg
  blt : ∃ mb, base.Ns builtinsNs mb ∧ ∀ x : Str, x ≠ "__name__" → mb x = bootBuiltins x
  nolimit : base.NoLimit
structure Cx where
  prog : Program
  w : World
  K : PySem.W.Frag
  mg : Str → Option Value
  base : Heap
  A : Around
  N : List Str
  s₀ : Shared
  H₀ : Hp
  env : Env
  outer : List Env
  stack : List Env
  ex : List Addr
  fn : Str → Bool
  calm : Bool
  pn : List (Addr × Obj)
  xe : Value → Shared → Prop
def frs (l : List Env) : List Addr := l.filterMap (·.frame)
abbrev Cx.fs (X : Cx) : List Addr := frs X.outer
def Vis (sc : Scope) (x : Str) : Prop := sc.names.lookup x = some .local ∨ sc.names.lookup x = some .cell ∨ sc.names.lookup x = some .free
def Loc (sc : Scope) (x : Str) : Prop := sc.names.lookup x = some .local ∨ sc.names.lookup x = some .cell
def Look (env : Env) (h : Heap) (m : Str → Option Value) (x : Str) (u : Value) : Prop :=
  (env.kindOf x = some .local ∧ m x = some u) ∨ ((env.kindOf x = some .cell ∨ env.kindOf x = some .free) ∧ ∃ c, env.cells.lookup x = some c ∧ h.IsCell c (some u))
structure Cx.Ok (X : Cx) : Prop where
  mod : Mod X.K X.mg X.base
  kind : X.env.scope.kind = .function
  glob : X.env.globals = mainGlobals
  blt : X.env.builtins = builtinsNs
  above : X.s₀.heap.objs.size ≤ X.env.locals
  inj : ∀ x y c, X.env.cells.lookup x = some c → X.env.cells.lookup y = some c → x = y
  has : ∀ x, (X.env.kindOf x = some .cell ∨ X.env.kindOf x = some .free) → ∃ c, X.env.cells.lookup x = some c
  cab : ∀ x c, X.fn x = true → X.env.cells.lookup x = some c → X.s₀.heap.objs.size ≤ c
  hd : X.calm = true → X.A.handled = none
  frames : X.A.frames = some X.stack
  stk : X.stack = X.outer ∨ (X.stack = X.env :: X.outer ∧ X.env.frame = some X.env.locals)
  exf : ∀ b ∈ X.ex, b ≠ X.env.locals ∧ ∀ x c, X.env.cells.lookup x = some c → c ≠ b
  bs : ∀ b o, X.base.get? b = some o → X.s₀.heap.get? b = some o ∧ X.H₀ b = none
  bsz : X.base.objs.size ≤ X.s₀.heap.objs.size
  noex : ∀ b o, X.base.get? b = some o → b ∉ X.ex
  exfs : ∀ b ∈ X.ex, b ∉ X.fs
  funs : X.s₀.heap.FunFrames X.base X.outer
  frf : ∀ b ∈ X.fs, X.H₀ b = none
structure Inv (X : Cx) (pins : List (Addr × Obj)) (σ : List (Option V)) (H : Hp) (s : Shared) : Prop where
  ok : X.Ok
  os : s.os = X.s₀.os
  bare : AllBare s.gens
  base : Un X.fs X.ex X.H₀ H X.s₀.heap s.heap
  loc : ∃ m, s.heap.Ns X.env.locals m ∧ ∀ (i : Nat) (x : Str) (v : V), X.N[i]? = some x → σ[i]? = some (some v) → Vis X.env.scope x → ∃ u, RelV v u ∧ Look X.env s.heap m x u
  cell : ∀ x c, X.env.cells.lookup x = some c → ∃ v, s.heap.IsCell c v
  free : H X.env.locals = none
  freeC : ∀ x c, X.env.cells.lookup x = some c → H c = none
  pin : ∀ p ∈ X.pn ++ pins, s.heap.get? p.1 = some p.2 ∧ H p.1 = none ∧ p.1 ≠ X.env.locals ∧ p.1 ∉ X.fs ∧ ∀ v, p.2.data ≠ .cell v
  hok : HOk X.prog X.w H s.heap
  len : σ.length = X.N.length
section
variable {X : Cx} {pins : List (Addr × Obj)} {σ : List (Option V)} {H H' : Hp} {s : Shared} {h' : Heap}
theorem Cx.Ok.nofr (ok : X.Ok) {b : Addr} {o : Obj} (e : X.base.get? b = some o) : b ∉ X.fs := fun hb => by
  have := (ok.funs.mem hb).1
  rw [e] at this; cases this
theorem Inv.bs (I : Inv X pins σ H s) : ∀ b o, X.base.get? b = some o → s.heap.get? b = some o ∧ H b = none := fun b o e =>
  ⟨I.base.keep b o (I.ok.bs b o e).1 (I.ok.bs b o e).2 (I.ok.nofr e) (I.ok.noex b o e), I.base.free b o (I.ok.bs b o e).1 (I.ok.bs b o e).2 (I.ok.noex b o e)⟩
theorem Inv.bk (I : Inv X pins σ H s) : ∀ b o, X.base.get? b = some o → s.heap.get? b = some o := fun b o e => (I.bs b o e).1
theorem Inv.mod (I : Inv X pins σ H s) : Mod X.K X.mg X.base := I.ok.mod
theorem Inv.kIn (I : Inv X pins σ H s) : X.K.In s.heap := I.ok.mod.kin.keeps I.bk
theorem Inv.nolimit (I : Inv X pins σ H s) : s.heap.NoLimit := I.ok.mod.nolimit.keeps I.bk
theorem Inv.fr (I : Inv X pins σ H s) : ∃ m, Fr X.base X.env.locals s.heap m :=
  let ⟨m, hn, _⟩ := I.loc
  ⟨m, hn, I.bk, Nat.le_trans I.ok.bsz I.ok.above⟩
theorem Inv.lt (I : Inv X pins σ H s) : X.env.locals < s.heap.objs.size := let ⟨_, hn, _⟩ := I.loc; hn.lt
theorem Inv.sz (I : Inv X pins σ H s) : X.s₀.heap.objs.size ≤ s.heap.objs.size := Nat.le_trans I.ok.above (Nat.le_of_lt I.lt)
theorem Inv.nofs (I : Inv X pins σ H s) {a : Addr} (h : s.heap.objs.size ≤ a) : a ∉ X.fs := fun hb => by
  obtain ⟨_, o, ho, _⟩ := I.ok.funs.mem hb
  exact absurd (Nat.lt_of_lt_of_le (Heap.lt_size ho) (Nat.le_trans I.sz h)) (Nat.lt_irrefl _)
theorem Inv.cne (I : Inv X pins σ H s) : ∀ x c, X.env.cells.lookup x = some c → c ≠ X.env.locals := fun x c e z => by
  obtain ⟨v, o, ho, hd⟩ := I.cell x c e
  obtain ⟨m, ⟨o', es, ep, ho', hd', _⟩, _⟩ := I.loc
  rw [z, ho'] at ho; cases ho; rw [hd'] at hd; cases hd
theorem Inv.funs (I : Inv X pins σ H s) : s.heap.FunFrames X.base X.outer := by
  have all : ∀ (l : List Env), (∀ b ∈ frs l, b ∈ X.fs) → X.s₀.heap.FunFrames X.base l → s.heap.FunFrames X.base l := by
    intro l
    induction l with
    | nil => intro _ _; trivial
    | cons env r ih =>
      intro hs hl
      obtain ⟨hk, ⟨L, o, hf, hn, ho, hd⟩, hr⟩ := hl
      have hL : L ∈ X.fs := hs L (by unfold frs; rw [List.filterMap_cons, hf]; exact List.mem_cons_self)
      obtain ⟨sl, e⟩ := I.base.slot L o ho (I.ok.frf L hL) hL fun z => I.ok.exfs L z hL
      exact ⟨hk, ⟨L, _, hf, hn, e, hd⟩, ih (fun b hb => hs b (by unfold frs; rw [List.filterMap_cons, hf]; exact List.mem_cons_of_mem _ hb)) hr⟩
  exact all X.outer (fun _ hb => hb) I.ok.funs
theorem Inv.stack (I : Inv X pins σ H s) : s.heap.FunFrames X.base X.stack := by
  rcases I.ok.stk with e | ⟨e, hf⟩
  · rw [e]; exact I.funs
  · rw [e]
    obtain ⟨m, hn, _⟩ := I.loc
    refine .cons (by rw [I.ok.kind]; decide) hf hn ?_ I.funs
    exact Heap.get?_none_of_le (Nat.le_trans I.ok.bsz I.ok.above)
theorem Inv.stkSub (I : Inv X pins σ H s) : ∀ b ∈ frs X.stack, b ∈ X.env.locals :: X.fs := fun b hb => by
  rcases I.ok.stk with e | ⟨e, hf⟩
  · rw [e] at hb; exact List.mem_cons_of_mem _ hb
  · rw [e] at hb
    unfold frs at hb
    rw [List.filterMap_cons, hf] at hb
    exact hb
theorem Inv.stkFree (I : Inv X pins σ H s) : ∀ b ∈ frs X.stack, H b = none := fun b hb => by
  rcases List.mem_cons.mp (I.stkSub b hb) with e | hb
  · rw [e]; exact I.free
  · obtain ⟨_, o, ho, _⟩ := I.ok.funs.mem hb
    exact I.base.free b o ho (I.ok.frf b hb) fun z => I.ok.exfs b z hb
theorem Inv.step {g' : Array GenState} {t' : Nat} {d' : Drawn} {ch : List Addr} (I : Inv X pins σ H s)
    (hch : ∀ b ∈ ch, (b ∈ X.ex ∨ X.s₀.heap.objs.size ≤ b) ∧ b ≠ X.env.locals ∧ (∀ x c, X.env.cells.lookup x = some c → c ≠ b) ∧ ∀ p ∈ X.pn ++ pins, p.1 ≠ b)
    (keep : ∀ b o, b ≠ X.env.locals → b ∉ X.fs → b ∉ ch → s.heap.get? b = some o → H b = none → h'.get? b = some o)
    (slot : ∀ b o, b ≠ X.env.locals → b ∈ X.fs → b ∉ ch → s.heap.get? b = some o → H b = none → ∃ sl, h'.get? b = some { o with slots := sl }) (free : ∀ b o, b ∉ ch → s.heap.get? b = some o → H b = none → H' b = none)
    (there : ∀ b o, b ∉ ch → s.heap.get? b = some o → ∃ o', h'.get? b = some o')
    (tups : ∀ b xs, H b = some (.tup xs) → H' b = some (.tup xs)) (frzs : ∀ b o u, H b = some (.frz o u) → H' b = some (.frz o u)) (tbls : ∀ b ps, H b = some (.tbl ps) → ∃ more, H' b = some (.tbl (ps ++ more)))
    (ns : ∀ m, s.heap.Ns X.env.locals m → h'.Ns X.env.locals m) (hok : HOk X.prog X.w H' h') (hg : AllBare g') :
    Inv X pins σ H' { s with heap := h', gens := g', drawn := d', toks := t' } := by
  have neL : ∀ b o, X.s₀.heap.get? b = some o → b ≠ X.env.locals := fun b o e => Nat.ne_of_lt (Nat.lt_of_lt_of_le (Heap.lt_size e) I.ok.above)
  have neC : ∀ b o, X.s₀.heap.get? b = some o → b ∉ X.ex → b ∉ ch := fun b o e hx hb => by
    rcases (hch b hb).1 with z | z
    · exact hx z
    · exact absurd (Nat.lt_of_lt_of_le (Heap.lt_size e) z) (Nat.lt_irrefl _)
  have cellK : ∀ x c, X.env.cells.lookup x = some c → ∀ v, s.heap.IsCell c v → h'.IsCell c v := fun x c e v ⟨o, ho, hd⟩ => by
    have nch : c ∉ ch := fun z => (hch c z).2.2.1 x c e rfl
    by_cases hc : c ∈ X.fs
    · obtain ⟨sl, q⟩ := slot c o (I.cne x c e) hc nch ho (I.freeC x c e)
      exact ⟨_, q, hd⟩
    · exact ⟨o, keep c o (I.cne x c e) hc nch ho (I.freeC x c e), hd⟩
  refine ⟨I.ok, I.os, hg, ⟨fun b o e n hb hx => ?_, fun b o e n hb hx => ?_, fun b o e n hx => ?_, fun b o e hx => ?_, fun b xs e => tups b xs (I.base.tups b xs e), fun b o xs e => frzs b o xs (I.base.frzs b o xs e), fun b ps e => ?_⟩, ?_, fun x c e => ?_, ?_, fun x c e => ?_, fun p hp => ?_, hok, I.len⟩
  · exact keep b o (neL b o e) hb (neC b o e hx) (I.base.keep b o e n hb hx) (I.base.free b o e n hx)
  · obtain ⟨sl, e1⟩ := I.base.slot b o e n hb hx
    obtain ⟨sl', e2⟩ := slot b _ (neL b o e) hb (neC b o e hx) e1 (I.base.free b o e n hx)
    exact ⟨sl', e2⟩
  · obtain ⟨o', e1⟩ := I.base.there b o e hx
    exact free b o' (neC b o e hx) e1 (I.base.free b o e n hx)
  · obtain ⟨o', e1⟩ := I.base.there b o e hx
    exact there b o' (neC b o e hx) e1
  · obtain ⟨m1, e1⟩ := I.base.tbls b ps e
    obtain ⟨m2, e2⟩ := tbls b _ e1
    exact ⟨m1 ++ m2, by rw [e2, Array.append_assoc]⟩
  · obtain ⟨m, hn, hl⟩ := I.loc
    refine ⟨m, ns m hn, fun i x v e1 e2 e3 => ?_⟩
    obtain ⟨u, r, l⟩ := hl i x v e1 e2 e3
    refine ⟨u, r, ?_⟩
    rcases l with l | ⟨k, c, e, z⟩
    · exact .inl l
    · exact .inr ⟨k, c, e, cellK x c e _ z⟩
  · obtain ⟨v, z⟩ := I.cell x c e
    exact ⟨v, cellK x c e v z⟩
  · obtain ⟨m, ⟨o, _, _, ho, _⟩, _⟩ := I.loc
    exact free _ o (fun z => (hch _ z).2.1 rfl) ho I.free
  · obtain ⟨v, o, ho, hd⟩ := I.cell x c e
    exact free c o (fun z => (hch c z).2.2.1 x c e rfl) ho (I.freeC x c e)
  · obtain ⟨e, n, ne, nf, d⟩ := I.pin p hp
    have nch : p.1 ∉ ch := fun z => (hch p.1 z).2.2.2 p hp rfl
    exact ⟨keep p.1 p.2 ne nf nch e n, free p.1 p.2 nch e n, ne, nf, d⟩
theorem Inv.un {t' : Nat} (I : Inv X pins σ H s) (u : Un X.fs [] H H' s.heap h') (hok : HOk X.prog X.w H' h') : Inv X pins σ H' { s with heap := h', toks := t' } := by
  obtain ⟨m, ⟨o, es, ep, ho, r⟩, _⟩ := id I.loc
  obtain ⟨sl, hL⟩ := u.any ho I.free (by simp)
  exact I.step (g' := s.gens) (d' := s.drawn) (ch := []) (fun _ z => nomatch z) (fun b o _ hb _ e n => u.keep b o e n hb (by simp)) (fun b o _ hb _ e n => u.slot b o e n hb (by simp)) (fun b o _ e n => u.free b o e n (by simp)) (fun b o _ e => u.there b o e (by simp)) u.tups u.frzs u.tbls (fun m' hm => by
    obtain ⟨o', es', ep', ho', r'⟩ := hm
    rw [ho] at ho'; cases ho'
    exact ⟨_, es', ep', hL, r'⟩) hok I.bare
theorem Inv.call {g' : Array GenState} {t' : Nat} {d' : Drawn} {ch : List Addr} (I : Inv X pins σ H s) (u : Un (frs X.stack) ch H H' s.heap h') (hok : HOk X.prog X.w H' h') (hg : AllBare g')
    (hch : ∀ b ∈ ch, (b ∈ X.ex ∨ X.s₀.heap.objs.size ≤ b) ∧ b ≠ X.env.locals ∧ (∀ x c, X.env.cells.lookup x = some c → c ≠ b) ∧ ∀ p ∈ X.pn ++ pins, p.1 ≠ b) :
    Inv X pins σ H' { s with heap := h', gens := g', drawn := d', toks := t' } := by
  obtain ⟨m, ⟨o, es, ep, ho, r⟩, _⟩ := id I.loc
  obtain ⟨sl, hL⟩ := u.any ho I.free fun z => (hch _ z).2.1 rfl
  exact I.step (ch := ch) hch (fun b o hL hb hc e n => u.keep b o e n (fun z => (List.mem_cons.mp (I.stkSub b z)).elim hL hb) hc) (fun b o _ _ hc e n => u.any e n hc) (fun b o hc e n => u.free b o e n hc) (fun b o hc e => u.there b o e hc) u.tups u.frzs u.tbls (fun m' hm => by
    obtain ⟨o', es', ep', ho', r'⟩ := hm
    rw [ho] at ho'; cases ho'
    exact ⟨_, es', ep', hL, r'⟩) hok hg
theorem Inv.turned {t' : Nat} {it : Addr} (I : Inv X pins σ H s) (k : ∀ b o, b ≠ it → s.heap.get? b = some o → h'.get? b = some o) (hn : H it = none) (hL : it ≠ X.env.locals)
    (h1 : it ∈ X.ex ∨ X.s₀.heap.objs.size ≤ it) (h2 : ∀ x c, X.env.cells.lookup x = some c → c ≠ it) (h3 : ∀ p ∈ X.pn ++ pins, p.1 ≠ it) : Inv X pins σ H { s with heap := h', toks := t' } := by
  have nit : ∀ b u, H b = some u → b ≠ it := fun b u e z => by rw [z, hn] at e; cases e
  refine I.step (g' := s.gens) (d' := s.drawn) (ch := [it]) (fun b hb => ?_) (fun b o _ _ hc e _ => k b o (fun z => hc (by simp [z])) e) (fun b o _ _ hc e _ => ⟨o.slots, k b o (fun z => hc (by simp [z])) e⟩) (fun _ _ _ _ n => n)
    (fun b o hc e => ⟨o, k b o (fun z => hc (by simp [z])) e⟩) (fun _ _ e => e) (fun _ _ _ e => e) (fun b ps e => ⟨#[], by rw [e]; simp⟩) (fun m hm => ?_) (fun b u e => ?_) I.bare
  · have e : b = it := by simpa using hb
    subst e
    exact ⟨h1, hL, h2, h3⟩
  · obtain ⟨o, es, ep, ho, r⟩ := hm
    exact ⟨o, es, ep, k _ o (Ne.symm hL) ho, r⟩
  · refine (I.hok b u e).stay (fun c v hc q => k c v ?_ q) (fun _ q => q) fun _ _ q => q
    rcases hc with z | z
    · rw [z]; exact nit b u e
    · exact nit c _ z
theorem Inv.tok (I : Inv X pins σ H s) (t : Nat) : Inv X pins σ H { s with toks := t } := I.un (h' := s.heap) (t' := t) Un.refl I.hok
theorem Inv.kept {t' : Nat} (I : Inv X pins σ H s) (k : ∀ b u, s.heap.get? b = some u → h'.get? b = some u) : Inv X pins σ H { s with heap := h', toks := t' } := I.un (Un.kept k) (I.hok.kept k)
theorem Inv.laid {a : Addr} {o : HO} {t' : Nat} (I : Inv X pins σ H s) (k : ∀ b u, s.heap.get? b = some u → h'.get? b = some u) (hp : s.heap.objs.size ≤ a) (new : ObjOk X.prog X.w (upd H a o) h' a o) :
    Inv X pins σ (upd H a o) { s with heap := h', toks := t' } := I.un (Un.laid k hp (I.hok.fresh hp)) (I.hok.laid k hp new)
theorem Inv.write {x e : Addr} {o : HO} {t' : Nat} (I : Inv X pins σ H s) (mu : Mut (H x)) (he : e = x ∨ H e = some (.own x)) (k : ∀ b u, b ≠ e → s.heap.get? b = some u → h'.get? b = some u) (heo : ∃ u, h'.get? e = some u)
    (new : ObjOk X.prog X.w (upd H x o) h' x o) : Inv X pins σ (upd H x o) { s with heap := h', toks := t' } := I.un (Un.write mu he k heo) (I.hok.write mu he k heo new)
theorem Inv.weak {σ' : List (Option V)} (I : Inv X pins σ H s) (hl : σ'.length = σ.length) (w : ∀ (i : Nat) v, σ'[i]? = some (some v) → σ[i]? = some (some v)) : Inv X pins σ' H s :=
  ⟨I.ok, I.os, I.bare, I.base, let ⟨m, hn, hl'⟩ := I.loc; ⟨m, hn, fun i x v e1 e2 e3 => hl' i x v e1 (w i v e2) e3⟩, I.cell, I.free, I.freeC, I.pin, I.hok, hl.trans I.len⟩
theorem Inv.pins_of {pins' : List (Addr × Obj)} (I : Inv X pins σ H s) (h : ∀ p ∈ pins', s.heap.get? p.1 = some p.2 ∧ H p.1 = none ∧ p.1 ≠ X.env.locals ∧ p.1 ∉ X.fs ∧ ∀ v, p.2.data ≠ .cell v) : Inv X pins' σ H s :=
  ⟨I.ok, I.os, I.bare, I.base, I.loc, I.cell, I.free, I.freeC, fun p hp => (List.mem_append.mp hp).elim (fun z => I.pin p (List.mem_append_left _ z)) (h p), I.hok, I.len⟩
theorem zacv {N : List Str} (hN : N.Nodup) {i j : Nat} {x : Str} (a : N[i]? = some x) (b : N[j]? = some x) : i = j := by
  obtain ⟨h1, e1⟩ := List.getElem?_eq_some_iff.mp a
  obtain ⟨h2, e2⟩ := List.getElem?_eq_some_iff.mp b
  exact (List.getElem_inj hN).mp (e1.trans e2.symm)
theorem store_ok2 {M : Model} {A : Around} {E : Value → Shared → Prop} {i : Nat} {x : Str} {v : V} {u : Value} {Q : Unit → Shared → Prop} (I : Inv X pins σ H s) (hN : X.N.Nodup) (hi : X.N[i]? = some x) (hx : Loc X.env.scope x) (r : RelV v u)
    (h : ∀ s', Inv X pins (σ.set i (some v)) H s' → (∃ a, Heap.SameBut a s.heap s'.heap ∧ (a = X.env.locals ∨ X.env.cells.lookup x = some a)) → Q () s') (hf : X.fn x = true ∨ X.env.scope.names.lookup x = some .local := by first | exact .inl rfl | exact .inr rfl | assumption) : wpAny M A (storeName X.env x u) Q E s := by
  obtain ⟨m, hn, hl⟩ := id I.loc
  have hcls : (X.env.scope.kind == .class || (X.env.scope.kind == .module && X.env.locals != X.env.globals)) = false := by rw [I.ok.kind]; rfl
  have hiσ : i < σ.length := by rw [I.len]; exact (List.getElem?_eq_some_iff.mp hi).1
  have cne := I.cne
  have tracked : ∀ {a : Addr} {h' : Heap}, (∃ o, s.heap.get? a = some o ∧ H a = none) → Heap.SameBut a s.heap h' → HOk X.prog X.w H h' := fun {a h'} ha hs b ob e => by
    obtain ⟨_, _, hfree⟩ := ha
    refine (I.hok b ob e).stay (fun c w' hc q => (hs.2 c ?_).trans q) (fun _ q => q) fun _ _ q => q
    rintro rfl
    rcases hc with rfl | hc
    · rw [hfree] at e; cases e
    · rw [hfree] at hc; cases hc
  rcases hx with hk | hk
  · refine wpAny_storeName_local hk hn (fun h' hn' hs => ?_) hcls
    obtain ⟨oL, _, _, hoL, _⟩ := id hn
    refine h _ ⟨I.ok, I.os, I.bare, ⟨fun b o e n hb hx => ?_, fun b o e n hb hx => ?_, I.base.free, fun b o e hx => ?_, I.base.tups, I.base.frzs, I.base.tbls⟩, ⟨_, hn', fun j y v' e1 e2 e3 => ?_⟩, fun y c e => ?_, I.free, I.freeC, fun p hp => ?_, tracked ⟨oL, hoL, I.free⟩ hs, by simpa using I.len⟩ ⟨_, hs, .inl rfl⟩
    · exact (hs.2 b (Nat.ne_of_lt (Nat.lt_of_lt_of_le (Heap.lt_size e) I.ok.above))).trans (I.base.keep b o e n hb hx)
    · obtain ⟨sl, e1⟩ := I.base.slot b o e n hb hx
      exact ⟨sl, (hs.2 b (Nat.ne_of_lt (Nat.lt_of_lt_of_le (Heap.lt_size e) I.ok.above))).trans e1⟩
    · obtain ⟨o', e1⟩ := I.base.there b o e hx
      exact ⟨o', (hs.2 b (Nat.ne_of_lt (Nat.lt_of_lt_of_le (Heap.lt_size e) I.ok.above))).trans e1⟩
    · by_cases hj : j = i
      · subst hj
        rw [hi] at e1; cases e1
        rw [List.getElem?_set_self hiσ] at e2
        cases e2
        exact ⟨u, r, .inl ⟨hk, by simp⟩⟩
      · rw [List.getElem?_set_ne (Ne.symm hj)] at e2
        obtain ⟨u', r', q⟩ := hl j y v' e1 e2 e3
        refine ⟨u', r', ?_⟩
        rcases q with ⟨k, e⟩ | ⟨k, c, e, z⟩
        · refine .inl ⟨k, ?_⟩
          have : y ≠ x := fun e => hj (zacv hN e1 (e ▸ hi))
          simp [this, e]
        · exact .inr ⟨k, c, e, z.sameBut hs (cne y c e)⟩
    · obtain ⟨w', z⟩ := I.cell y c e
      exact ⟨w', z.sameBut hs (cne y c e)⟩
    · obtain ⟨e, n, ne, nf, d⟩ := I.pin p hp
      exact ⟨(hs.2 p.1 ne).trans e, n, ne, nf, d⟩
  · have hfn : X.fn x = true := by
      rcases hf with z | z
      · exact z
      · rw [z] at hk; cases hk
    obtain ⟨c, hc⟩ := I.ok.has x (.inl hk)
    obtain ⟨w', z⟩ := I.cell x c hc
    refine wpAny_storeName_cell I.ok.kind hk hc z (fun h' hc' hs => ?_)
    obtain ⟨oc, hoc, hocd⟩ := id z
    refine h { s with heap := h' } ⟨I.ok, I.os, I.bare, ⟨fun b o e n hb hx => ?_, fun b o e n hb hx => ?_, I.base.free, fun b o e hx => ?_, I.base.tups, I.base.frzs, I.base.tbls⟩, ⟨m, hn.sameBut hs (Ne.symm (cne x c hc)), fun j y v' e1 e2 e3 => ?_⟩, fun y c' e => ?_, I.free, I.freeC, fun p hp => ?_, tracked ⟨oc, hoc, I.freeC x c hc⟩ hs, by simpa using I.len⟩ ⟨c, hs, .inr hc⟩
    · exact (hs.2 b (Nat.ne_of_lt (Nat.lt_of_lt_of_le (Heap.lt_size e) (I.ok.cab x c hfn hc)))).trans (I.base.keep b o e n hb hx)
    · obtain ⟨sl, e1⟩ := I.base.slot b o e n hb hx
      exact ⟨sl, (hs.2 b (Nat.ne_of_lt (Nat.lt_of_lt_of_le (Heap.lt_size e) (I.ok.cab x c hfn hc)))).trans e1⟩
    · obtain ⟨o', e1⟩ := I.base.there b o e hx
      exact ⟨o', (hs.2 b (Nat.ne_of_lt (Nat.lt_of_lt_of_le (Heap.lt_size e) (I.ok.cab x c hfn hc)))).trans e1⟩
    · by_cases hj : j = i
      · subst hj
        rw [hi] at e1; cases e1
        rw [List.getElem?_set_self hiσ] at e2
        cases e2
        exact ⟨u, r, .inr ⟨.inl hk, c, hc, hc'⟩⟩
      · rw [List.getElem?_set_ne (Ne.symm hj)] at e2
        obtain ⟨u', r', q⟩ := hl j y v' e1 e2 e3
        refine ⟨u', r', ?_⟩
        rcases q with q | ⟨k, c', e, z'⟩
        · exact .inl q
        · refine .inr ⟨k, c', e, z'.sameBut hs ?_⟩
          rintro rfl
          exact hj (zacv hN e1 (I.ok.inj _ _ _ e hc ▸ hi))
    · by_cases hcc : c' = c
      · subst hcc; exact ⟨_, hc'⟩
      · obtain ⟨w2, z2⟩ := I.cell y c' e
        exact ⟨w2, z2.sameBut hs hcc⟩
    · obtain ⟨e, n, ne, nf, d⟩ := I.pin p hp
      refine ⟨(hs.2 p.1 ?_).trans e, n, ne, nf, d⟩
      intro q
      rw [q, hoc] at e
      have q' : oc = p.2 := Option.some.inj e
      exact d w' (by rw [← q']; exact hocd)
theorem zab0 {M : Model} {A : Around} {E : Value → Shared → Prop} {i : Nat} {x : Str} {v : V} {u : Value} {Q : Unit → Shared → Prop} (I : Inv X pins σ H s) (hN : X.N.Nodup) (hi : X.N[i]? = some x) (hx : Loc X.env.scope x) (r : RelV v u)
    (h : ∀ s', Inv X pins (σ.set i (some v)) H s' → Q () s') (hf : X.fn x = true ∨ X.env.scope.names.lookup x = some .local := by first | exact .inl rfl | exact .inr rfl | assumption) : wpAny M A (storeName X.env x u) Q E s :=
  store_ok2 I hN hi hx r (fun s' I' _ => h s' I') hf
theorem Inv.call' {s' : Shared} {ch : List Addr} (I : Inv X pins σ H s) (ho : s'.os = s.os) (u : Un (frs X.stack) ch H H' s.heap s'.heap) (hok : HOk X.prog X.w H' s'.heap) (hg : AllBare s'.gens)
    (hch : ∀ b ∈ ch, (b ∈ X.ex ∨ X.s₀.heap.objs.size ≤ b) ∧ b ≠ X.env.locals ∧ (∀ x c, X.env.cells.lookup x = some c → c ≠ b) ∧ ∀ p ∈ X.pn ++ pins, p.1 ≠ b) : Inv X pins σ H' s' := by
  obtain ⟨h', g', d', t', o'⟩ := s'
  have e : o' = s.os := ho
  subst e
  exact I.call (g' := g') (t' := t') (d' := d') u hok hg hch
end
abbrev XK := Value → Option Addr → Hp → Prop
abbrev St := List (Option V)
abbrev VK := V → Hp → Prop
abbrev TE := St → Hp → VK → Prop
abbrev TT := St → Hp → (Bool → Hp → Prop) → Prop
abbrev TA := St → Hp → (List V → Hp → Prop) → Prop
structure Ends where
  nx : St → Hp → Prop
  rt : VK
  bk : St → Hp → Prop := fun _ _ => False
  ct : St → Hp → Prop := fun _ _ => False
abbrev TS := Ends → St → Hp → Prop
def EP (X : Cx) (pins : List (Addr × Obj)) (σ : St) (Q : VK) (u : Value) (s' : Shared) : Prop := ∃ v H', Inv X pins σ H' s' ∧ RelV v u ∧ Q v H'
def TP (X : Cx) (pins : List (Addr × Obj)) (σ : St) (Q : Bool → Hp → Prop) (b : Bool) (s' : Shared) : Prop := ∃ H', Inv X pins σ H' s' ∧ Q b H'
def AP (X : Cx) (pins : List (Addr × Obj)) (σ : St) (Q : List V → Hp → Prop) (us : List Value) (s' : Shared) : Prop := ∃ vs H', Inv X pins σ H' s' ∧ Vals vs us ∧ Q vs H'
def SP (X : Cx) (pins : List (Addr × Obj)) (D : Ends) (f : Flow) (s' : Shared) : Prop :=
  match f with
  | .next => ∃ σ' H', Inv X pins σ' H' s' ∧ D.nx σ' H'
  | .brk => ∃ σ' H', Inv X pins σ' H' s' ∧ D.bk σ' H'
  | .cont => ∃ σ' H', Inv X pins σ' H' s' ∧ D.ct σ' H'
  | .ret u => ∃ v σ' H', Inv X pins σ' H' s' ∧ RelV v u ∧ D.rt v H'
def PE (X : Cx) (e : Expr) (t : TE) : Prop :=
  ∀ (pins : List (Addr × Obj)) (s : Shared) (σ : St) (H : Hp) (Q : VK), Inv X pins σ H s → t σ H Q → wpAny (model X.prog X.w) X.A (eval e X.env) (EP X pins σ Q) X.xe s
def PT (X : Cx) (e : Expr) (t : TT) : Prop :=
  ∀ (pins : List (Addr × Obj)) (s : Shared) (σ : St) (H : Hp) (Q : Bool → Hp → Prop), Inv X pins σ H s → t σ H Q → wpAny (model X.prog X.w) X.A (isTrue e X.env (eval e X.env)) (TP X pins σ Q) X.xe s
def PW (X : Cx) (e : Expr) (t : TT) : Prop :=
  ∀ (whole : Sem Value) (pins : List (Addr × Obj)) (s : Shared) (σ : St) (H : Hp) (Q : Bool → Hp → Prop), Inv X pins σ H s → t σ H Q → wpAny (model X.prog X.w) X.A (isTrue e X.env whole) (TP X pins σ Q) X.xe s
theorem PW.pt {X : Cx} {e : Expr} {t : TT} (h : PW X e t) : PT X e t := h _
def PA (X : Cx) (es : List Expr) (t : TA) : Prop :=
  ∀ (pos : Pos) (pins : List (Addr × Obj)) (s : Shared) (σ : St) (H : Hp) (Q : List V → Hp → Prop), Inv X pins σ H s → t σ H Q → wpAny (model X.prog X.w) X.A (spliced (backTo pos (starEach es X.env))) (AP X pins σ Q) X.xe s
def PS (X : Cx) (st : Stmt) (t : TS) : Prop :=
  ∀ (pins : List (Addr × Obj)) (s : Shared) (σ : St) (H : Hp) (D : Ends), Inv X pins σ H s → t D σ H → wpAny (model X.prog X.w) X.A (exec st X.env) (SP X pins D) X.xe s
def PSs (X : Cx) (st : List Stmt) (t : TS) : Prop :=
  ∀ (pins : List (Addr × Obj)) (s : Shared) (σ : St) (H : Hp) (D : Ends), Inv X pins σ H s → t D σ H → wpAny (model X.prog X.w) X.A (execs st X.env) (SP X pins D) X.xe s
theorem thn {α : Type} {t : Sem α} {Q Q' : α → Shared → Prop} {M : Model} {A : Around} {E : Value → Shared → Prop} {s : Shared} (h : wpAny M A t Q E s) (hQ : ∀ a s, Q a s → Q' a s) : wpAny M A t Q' E s := wpAny_mono h hQ fun _ _ x => x
end L2
namespace L2
open PySem PySem.Spec PyProof.Rows
section
variable {X : Cx}
theorem bin {a b : Expr} {ta tb : TE} (ha : PE X a ta) (hb : PE X b tb) {pins : List (Addr × Obj)} {s : Shared} {σ : St} {H : Hp} {R : V → V → Hp → Prop} (I : Inv X pins σ H s) (h : ta σ H fun x H1 => tb σ H1 fun y H2 => R x y H2)
    {α : Type} {Q : α → Shared → Prop} {f : Value → Value → Sem α}
    (hf : ∀ v u s2 x y H2, Inv X pins σ H2 s2 → RelV x v → RelV y u → R x y H2 → wpAny (model X.prog X.w) X.A (f v u) Q X.xe s2) :
    wpAny (model X.prog X.w) X.A (eval a X.env) (fun v s₁ => wpAny (model X.prog X.w) X.A (eval b X.env) (fun u s₂ => wpAny (model X.prog X.w) X.A (f v u) Q X.xe s₂) X.xe s₁) X.xe s := by
  refine thn (ha pins s σ H _ I h) fun v s1 ⟨x, H1, I1, r1, q1⟩ => ?_
  refine thn (hb pins s1 σ H1 _ I1 q1) fun u s2 ⟨y, H2, I2, r2, q2⟩ => ?_
  exact hf v u s2 x y H2 I2 r1 r2 q2
def tVar (i : Nat) : TE := fun σ H Q => ∃ v, σ[i]? = some (some v) ∧ Q v H
def tC (v : V) : TE := fun _ H Q => Q v H
theorem pe_var {i : Nat} {x : Str} {pos : Pos} (hN : X.N[i]? = some x) (hv : Vis X.env.scope x) (hd : (x == ("__debug__" : Str)) = false := by decide) (hcd : (x == ("__classdict__" : Str)) = false := by decide) : PE X (.Name x pos) (tVar i) := by
  intro pins s σ H Q I h
  obtain ⟨v, e, h⟩ := h
  obtain ⟨m, hn, hl⟩ := I.loc
  obtain ⟨u, r, l⟩ := hl i x v hN e hv
  have fin : EP X pins σ Q u s := ⟨v, H, I, r, h⟩
  rcases l with ⟨hk, hm⟩ | ⟨hk, c, hc, hcell⟩
  · exact wpAny_Name (wpAny_loadName_local I.ok.kind hk hn hm fin) hd
  · rcases hk with hk | hk
    · exact wpAny_Name (wpAny_loadName_cell I.ok.kind hk hc hcell fin) hd
    · exact wpAny_Name (wpAny_loadName_free I.ok.kind hk hc hcell fin hcd) hd
theorem pe_int {i j pos} : PE X (.Constant (.int i) j pos) (tC (.int i)) := fun _ _ _ H _ I h => wpAny_Constant_int ⟨.int i, H, I.tok _, ⟨_, rfl⟩, h⟩
theorem pe_bl {b j pos} : PE X (.Constant (.bool b) j pos) (tC (.bl b)) := fun _ _ _ H _ I h => Constant_bool ⟨.bl b, H, I, rfl, h⟩
theorem pe_non {j pos} : PE X (.Constant .none j pos) (tC .non) := fun _ _ _ H _ I h => Constant_none ⟨.non, H, I, rfl, h⟩
theorem pe_str {x j pos} : PE X (.Constant (.str x) j pos) (tC (.str x)) := fun _ _ _ H _ I h => Calls.Constant_str ⟨.str x, H, I.tok _, ⟨_, rfl⟩, h⟩
def Gl (X : Cx) (x : Str) : Prop := X.env.kindOf x = some .globalImplicit
theorem zacy {E : Value → Shared → Prop} {pins : List (Addr × Obj)} {s : Shared} {σ : St} {H : Hp} {x : Str} {u : Value} {pos : Pos} {Q : Value → Shared → Prop} (I : Inv X pins σ H s) (hg : Gl X x) (hm : X.mg x = some u) (h : Q u s)
    (hd : (x == ("__debug__" : Str)) = false := by decide) : wpAny (model X.prog X.w) X.A (eval (.Name x pos) X.env) Q E s :=
  Calls.Name_function_global I.ok.kind hg (Calls.loadGlobal_global (by rw [I.ok.glob]; exact I.mod.glob.keeps I.bk) hm h) hd
theorem ld_blt {E : Value → Shared → Prop} {pins : List (Addr × Obj)} {s : Shared} {σ : St} {H : Hp} {x : Str} {u : Value} {pos : Pos} {Q : Value → Shared → Prop} (I : Inv X pins σ H s) (hg : Gl X x) (hm : X.mg x = none) (hv : bootBuiltins x = some u) (h : Q u s)
    (hn : x ≠ "__name__" := by decide) (hd : (x == ("__debug__" : Str)) = false := by decide) : wpAny (model X.prog X.w) X.A (eval (.Name x pos) X.env) Q E s := by
  obtain ⟨mb, h1, h2⟩ := I.mod.blt
  exact Calls.Name_function_global I.ok.kind hg (Calls.loadGlobal_builtin (by rw [I.ok.glob]; exact I.mod.glob.keeps I.bk) hm (by rw [I.ok.blt]; exact h1.keeps I.bk) ((h2 x hn).trans hv) h) hd
theorem pe_glob {x : Str} {v : V} {u : Value} {pos : Pos} (hg : Gl X x) (hm : X.mg x = some u) (r : RelV v u) (hd : (x == ("__debug__" : Str)) = false := by decide) : PE X (.Name x pos) (tC v) :=
  fun _ _ _ H _ I h => zacy I hg hm ⟨v, H, I, r, h⟩ hd
theorem pe_bltn {x : Str} {v : V} {u : Value} {pos : Pos} (hg : Gl X x) (hm : X.mg x = none) (hv : bootBuiltins x = some u) (r : RelV v u) (hn : x ≠ "__name__" := by decide) (hd : (x == ("__debug__" : Str)) = false := by decide) : PE X (.Name x pos) (tC v) :=
  fun _ _ _ H _ I h => ld_blt I hg hm hv ⟨v, H, I, r, h⟩ hn hd
variable {a b : Expr} {ta tb : TE} {pos : Pos}
variable {tA tB' : TT} {rest : List Expr}
def tAnd (t u : TT) : TT := fun σ H Q => t σ H fun c H1 => if c = true then u σ H1 Q else Q false H1
def tOr (t u : TT) : TT := fun σ H Q => t σ H fun c H1 => if c = true then Q true H1 else u σ H1 Q
def tNot (t : TT) : TT := fun σ H Q => t σ H fun c H1 => Q (!c) H1
theorem pw_and1 (ha : PT X a tA) : PW X (.BoolOp .And [a] pos) tA := by
  intro wh pins s σ H Q I h
  refine isTrue_and (thn (ha pins s σ H Q I h) fun c s1 e => ?_)
  cases c with
  | true => exact isTrue_and_nil e
  | false => exact e
theorem pw_or1 (ha : PT X a tA) : PW X (.BoolOp .Or [a] pos) tA := by
  intro wh pins s σ H Q I h
  refine isTrue_or (thn (ha pins s σ H Q I h) fun c s1 e => ?_)
  cases c with
  | false => exact isTrue_or_nil e
  | true => exact e
theorem pw_and (ha : PT X a tA) (hb : PW X (.BoolOp .And (b :: rest) pos) tB') : PW X (.BoolOp .And (a :: b :: rest) pos) (tAnd tA tB') := by
  intro wh pins s σ H Q I h
  refine isTrue_and (thn (ha pins s σ H _ I h) fun c s1 ⟨H1, I1, q1⟩ => ?_)
  cases c with
  | true => exact hb wh pins s1 σ H1 Q I1 q1
  | false => exact ⟨H1, I1, q1⟩
theorem pw_or (ha : PT X a tA) (hb : PW X (.BoolOp .Or (b :: rest) pos) tB') : PW X (.BoolOp .Or (a :: b :: rest) pos) (tOr tA tB') := by
  intro wh pins s σ H Q I h
  refine isTrue_or (thn (ha pins s σ H _ I h) fun c s1 ⟨H1, I1, q1⟩ => ?_)
  cases c with
  | true => exact ⟨H1, I1, q1⟩
  | false => exact hb wh pins s1 σ H1 Q I1 q1
theorem pt_not (ha : PT X a tA) : PT X (.UnaryOp .Not a pos) (tNot tA) := by
  intro pins s σ H Q I h
  exact isTrue_not (ha pins s σ H (fun c H1 => Q (!c) H1) I h)
def tAndV (ta tb : TE) : TE := fun σ H Q => ta σ H fun x H1 => ∃ c, x = .bl c ∧ if c = true then tb σ H1 Q else Q (.bl false) H1
def tOrV (ta tb : TE) : TE := fun σ H Q => ta σ H fun x H1 => ∃ c, x = .bl c ∧ if c = true then Q (.bl true) H1 else tb σ H1 Q
theorem pe_one {op} {t : TE} (h : PE X a t) : PE X (.BoolOp op [a] pos) t := fun pins s σ H Q I hw => BoolOp_one (h pins s σ H Q I hw)
theorem pe_and (ha : PE X a ta) (hb : PE X (.BoolOp .And (b :: rest) pos) tb) : PE X (.BoolOp .And (a :: b :: rest) pos) (tAndV ta tb) := by
  intro pins s σ H Q I h
  refine BoolOp_and (thn (ha pins s σ H _ I h) fun v s1 ⟨x, H1, I1, r1, q1⟩ => ?_)
  obtain ⟨c, rfl, q1⟩ := q1
  cases r1
  refine wpAny_truthy_bool ?_
  cases c with
  | true => exact hb pins s1 σ H1 Q I1 q1
  | false => exact ⟨.bl false, H1, I1, rfl, q1⟩
theorem pe_or (ha : PE X a ta) (hb : PE X (.BoolOp .Or (b :: rest) pos) tb) : PE X (.BoolOp .Or (a :: b :: rest) pos) (tOrV ta tb) := by
  intro pins s σ H Q I h
  refine BoolOp_or (thn (ha pins s σ H _ I h) fun v s1 ⟨x, H1, I1, r1, q1⟩ => ?_)
  obtain ⟨c, rfl, q1⟩ := q1
  cases r1
  refine wpAny_truthy_bool ?_
  cases c with
  | false => exact hb pins s1 σ H1 Q I1 q1
  | true => exact ⟨.bl true, H1, I1, rfl, q1⟩
end
end L2
namespace L2
open PySem PySem.Spec PyProof.Rows
def SqL (K : PySem.W.Frag) (H : Hp) (a : Addr) (xs : List V) : Prop :=
  Rd H a (.lst xs) ∨
    ∃ (o : Obj) (its : Array Value) (n : Nat), K.lookup a = some o ∧ o.cls = .type "list" ∧ o.dict = none ∧ o.data = .seq its n ∧ its.size ≤ sizeLine ∧ Vals xs its.toList
def SqT (K : PySem.W.Frag) (H : Hp) (a : Addr) (xs : List V) : Prop :=
  Rd H a (.tup xs) ∨
    ∃ (o : Obj) (its : Array Value) (n : Nat), K.lookup a = some o ∧ o.cls = .type "tuple" ∧ o.data = .seq its n ∧ its.size ≤ sizeLine ∧ Vals xs its.toList
def absV : Value → Option V
  | .none => some .non
  | .bool b => some (.bl b)
  | .int i _ => some (.int i)
  | .str x _ => some (.str x)
  | .bytes b _ => some (.byt b)
  | .float b _ => some (.flt b)
  | .ref a => some (.ref a)
  | .type n => some (.ty n)
  | _ => none
theorem RelV.abs {x : V} {u : Value} (r : RelV x u) : absV u = some x := by
  cases x with
  | non => cases r; rfl
  | bl _ => cases r; rfl
  | int _ => obtain ⟨t, rfl⟩ := r; rfl
  | str _ => obtain ⟨t, rfl⟩ := r; rfl
  | byt _ => obtain ⟨t, rfl⟩ := r; rfl
  | flt _ => obtain ⟨t, rfl⟩ := r; rfl
  | ref _ => cases r; rfl
  | ty _ => cases r; rfl
theorem RelV.inj {x y : V} {u : Value} (r : RelV x u) (q : RelV y u) : x = y := Option.some.inj (r.abs.symm.trans q.abs)
theorem Vals.inj : ∀ {xs ys : List V} {us : List Value}, Vals xs us → Vals ys us → xs = ys
  | _, _, _, .nil, .nil => rfl
  | _, _, _, .cons r t, .cons r' t' => by rw [r.inj r', Vals.inj t t']
section
variable {X : Cx} {pins : List (Addr × Obj)} {σ : St} {H : Hp} {s : Shared} {a : Addr} {xs ys : List V}
theorem SqL.of {K : PySem.W.Frag} (h : H a = some (.lst xs)) : SqL K H a xs := .inl (.inl h)
theorem SqT.of {K : PySem.W.Frag} (h : H a = some (.tup xs)) : SqT K H a xs := .inl (.inl h)
theorem Inv.list (I : Inv X pins σ H s) (h : SqL X.K H a xs) : ∃ its : List Value, Vals xs its ∧ PlainL s.heap a its.toArray ∧ xs.length ≤ sizeLine := by
  rcases h with h | ⟨o, its, n, hk, hc, hd, hs, hz, r⟩
  · obtain ⟨z, its, n, r, e⟩ := h.ok I.hok
    exact ⟨its, r, ⟨_, n, e, rfl, rfl, rfl⟩, z⟩
  · refine ⟨its.toList, r, ⟨o, n, I.kIn a o hk, hc, hd, by simpa using hs⟩, ?_⟩
    have e := r.length
    simp only [Array.length_toList] at e
    omega
theorem Inv.tuple (I : Inv X pins σ H s) (h : SqT X.K H a xs) : ∃ its : List Value, Vals xs its ∧ IsTup s.heap a its.toArray ∧ xs.length ≤ sizeLine := by
  rcases h with h | ⟨o, its, n, hk, hc, hs, hz, r⟩
  · obtain ⟨z, its, r, p⟩ := h.ok I.hok
    exact ⟨its, r, p, z⟩
  · refine ⟨its.toList, r, ⟨o, I.kIn a o hk, hc, n, by simpa using hs⟩, ?_⟩
    have e := r.length
    simp only [Array.length_toList] at e
    omega
theorem Inv.list_inj (I : Inv X pins σ H s) (h : SqL X.K H a xs) (h' : SqL X.K H a ys) : xs = ys := by
  obtain ⟨its, r, ⟨o, n, e, _, _, d⟩, _⟩ := I.list h
  obtain ⟨its', r', ⟨o', n', e', _, _, d'⟩, _⟩ := I.list h'
  rw [e] at e'; cases e'
  rw [d] at d'
  injection d' with d1 _
  have : its = its' := by simpa using congrArg Array.toList d1
  subst this
  exact r.inj r'
theorem Inv.tuple_inj (I : Inv X pins σ H s) (h : SqT X.K H a xs) (h' : SqT X.K H a ys) : xs = ys := by
  obtain ⟨its, r, ⟨o, e, _, n, d⟩, _⟩ := I.tuple h
  obtain ⟨its', r', ⟨o', e', _, n', d'⟩, _⟩ := I.tuple h'
  rw [e] at e'; cases e'
  rw [d] at d'
  injection d' with d1 _
  have : its = its' := by simpa using congrArg Array.toList d1
  subst this
  exact r.inj r'
end
abbrev Cx.wish (X : Cx) (E : Value → Shared → Prop) : Cx := { X with xe := E }
abbrev Cx.nox (X : Cx) : Cx := X.wish fun _ _ => False
theorem Cx.Ok.wish {X : Cx} (ok : X.Ok) (E : Value → Shared → Prop) : (X.wish E).Ok :=
  ⟨ok.mod, ok.kind, ok.glob, ok.blt, ok.above, ok.inj, ok.has, ok.cab, ok.hd, ok.frames, ok.stk, ok.exf, ok.bs, ok.bsz, ok.noex, ok.exfs, ok.funs, ok.frf⟩
theorem Cx.Ok.unwish {X : Cx} {E : Value → Shared → Prop} (ok : (X.wish E).Ok) : X.Ok :=
  ⟨ok.mod, ok.kind, ok.glob, ok.blt, ok.above, ok.inj, ok.has, ok.cab, ok.hd, ok.frames, ok.stk, ok.exf, ok.bs, ok.bsz, ok.noex, ok.exfs, ok.funs, ok.frf⟩
section
variable {X : Cx} {pins : List (Addr × Obj)} {σ : St} {H : Hp} {s : Shared} {E : Value → Shared → Prop}
theorem Inv.wish (I : Inv X pins σ H s) (E : Value → Shared → Prop) : Inv (X.wish E) pins σ H s := ⟨I.ok.wish E, I.os, I.bare, I.base, I.loc, I.cell, I.free, I.freeC, I.pin, I.hok, I.len⟩
theorem Inv.unwish (I : Inv (X.wish E) pins σ H s) : Inv X pins σ H s := ⟨I.ok.unwish, I.os, I.bare, I.base, I.loc, I.cell, I.free, I.freeC, I.pin, I.hok, I.len⟩
theorem SP.unwish {D : Ends} {f : Flow} {s' : Shared} (h : SP (X.wish E) pins D f s') : SP X pins D f s' := by
  cases f with
  | next => obtain ⟨σ', H', I, q⟩ := h; exact ⟨σ', H', I.unwish, q⟩
  | brk => obtain ⟨σ', H', I, q⟩ := h; exact ⟨σ', H', I.unwish, q⟩
  | cont => obtain ⟨σ', H', I, q⟩ := h; exact ⟨σ', H', I.unwish, q⟩
  | ret u => obtain ⟨v, σ', H', I, r, q⟩ := h; exact ⟨v, σ', H', I.unwish, r, q⟩
theorem PE.nox {e : Expr} {t : TE} (h : PE X.nox e t) : PE X e t := fun pins s σ H Q I hw =>
  wpAny_mono (h pins s σ H Q (I.wish _) hw) (fun _ _ ⟨v, H', I', r, q⟩ => ⟨v, H', I'.unwish, r, q⟩) fun _ _ z => False.elim z
theorem PT.nox {e : Expr} {t : TT} (h : PT X.nox e t) : PT X e t := fun pins s σ H Q I hw =>
  wpAny_mono (h pins s σ H Q (I.wish _) hw) (fun _ _ ⟨H', I', q⟩ => ⟨H', I'.unwish, q⟩) fun _ _ z => False.elim z
theorem PSs.nox {st : List Stmt} {t : TS} (h : PSs X.nox st t) : PSs X st t := fun pins s σ H D I hw =>
  wpAny_mono (h pins s σ H D (I.wish _) hw) (fun _ _ q => q.unwish) fun _ _ z => False.elim z
end
section
variable {X : Cx} {st : Stmt} {rest : List Stmt} {t u : TS} {e : Expr} {te : TE} {pos : Pos}
def tNext : TS := fun D σ H => D.nx σ H
def tSeq (t u : TS) : TS := fun D σ H => t { D with nx := u D } σ H
theorem pss_nil : PSs X [] tNext := fun _ _ σ H _ I h => wpAny_execs_nil ⟨σ, H, I, h⟩
theorem pss_cons (h1 : PS X st t) (h2 : PSs X rest u) : PSs X (st :: rest) (tSeq t u) := by
  intro pins s σ H D I h
  refine wpAny_execs_cons (thn (h1 pins s σ H { D with nx := u D } I h) fun f s1 q => ?_)
  cases f with
  | next =>
    obtain ⟨σ', H', I', q⟩ := q
    exact h2 pins s1 σ' H' D I' q
  | ret v => exact q
  | brk => exact q
  | cont => exact q
theorem Inv.quiet {pins : List (Addr × Obj)} {σ : St} {H : Hp} {s : Shared} (I : Inv X pins σ H s) : interactive X.env = false := by simp [interactive, I.ok.kind]
def tDrop (te : TE) : TS := fun D σ H => te σ H fun _ H1 => D.nx σ H1
theorem ps_expr (he : PE X e te) (hs : swapsWith e none pos.line X.env = pure false := by rfl) : PS X (.Expr e pos) (tDrop te) := by
  intro pins s σ H D I h
  exact wpAny_Expr_any (thn (he pins s σ H _ I h) fun v s1 ⟨x, H1, I1, r1, q1⟩ => ⟨σ, H1, I1, q1⟩) I.quiet hs
def tRet (te : TE) : TS := fun D σ H => te σ H D.rt
theorem ps_ret (he : PE X e te) : PS X (.Return (some e) pos) (tRet te) := by
  intro pins s σ H D I h
  exact wpAny_Return_some (thn (he pins s σ H _ I h) fun v s1 ⟨x, H1, I1, r1, q1⟩ => ⟨x, σ, H1, I1, r1, q1⟩)
def tIfS (c : TT) (t u : TS) : TS := fun D σ H => c σ H fun b H1 => if b = true then t D σ H1 else u D σ H1
theorem ps_if {c : Expr} {a b : List Stmt} {tc : TT} (hc : PT X c tc) (ha : PSs X a t) (hb : PSs X b u) : PS X (.If c a b pos) (tIfS tc t u) := by
  intro pins s σ H D I h
  refine wpAny_If (thn (hc pins s σ H _ I h) fun d s1 ⟨H1, I1, q1⟩ => ?_)
  cases d with
  | true => exact ha pins s1 σ H1 D I1 q1
  | false => exact hb pins s1 σ H1 D I1 q1
end
abbrev TG := V → St → Hp → (St → Hp → Prop) → Prop
abbrev TGs := List V → St → Hp → (St → Hp → Prop) → Prop
def PG (X : Cx) (target : Expr) (t : TG) : Prop :=
  ∀ (pins : List (Addr × Obj)) (s : Shared) (σ : St) (H : Hp) (v : V) (u : Value) (Q : St → Hp → Prop), Inv X pins σ H s → RelV v u → t v σ H Q →
    wpAny (model X.prog X.w) X.A (assign target X.env u) (fun _ s' => ∃ σ' H', Inv X pins σ' H' s' ∧ Q σ' H') X.xe s
def PGs (X : Cx) (ts : List Expr) (t : TGs) : Prop :=
  ∀ (pins : List (Addr × Obj)) (s : Shared) (σ : St) (H : Hp) (vs : List V) (us : List Value) (Q : St → Hp → Prop), Inv X pins σ H s → Vals vs us → t vs σ H Q →
    wpAny (model X.prog X.w) X.A (assignInOrder ((assignEach ts X.env).map (·.2)) us) (fun _ s' => ∃ σ' H', Inv X pins σ' H' s' ∧ Q σ' H') X.xe s
abbrev TSet := V → V → V → Hp → (Hp → Prop) → Prop
def PSet (X : Cx) (t : TSet) : Prop :=
  ∀ (pins : List (Addr × Obj)) (s : Shared) (σ : St) (H : Hp) (o i v : V) (ov iv u : Value) (Q : Hp → Prop), Inv X pins σ H s → RelV o ov → RelV i iv → RelV v u → t o i v H Q →
    wpAny (model X.prog X.w) X.A (setItem ov iv u) (fun _ s' => ∃ H', Inv X pins σ H' s' ∧ Q H') X.xe s
section
variable {X : Cx} {pos : Pos}
def gName (i : Nat) : TG := fun v σ H Q => Q (σ.set i (some v)) H
theorem pg_name {i : Nat} {x : Str} (hN : X.N.Nodup) (hi : X.N[i]? = some x) (hx : Loc X.env.scope x) (hf : X.fn x = true ∨ X.env.scope.names.lookup x = some .local := by first | exact .inl rfl | exact .inr rfl | assumption) : PG X (.Name x pos) (gName i) := by
  intro pins s σ H v u Q I r h
  exact wpAny_assign_Name (zab0 I hN hi hx r (fun s' I' => ⟨_, H, I', h⟩) hf)
def gSub (to ti : TE) (t : TSet) : TG := fun v σ H Q => to σ H fun o H1 => ti σ H1 fun i H2 => t o i v H2 fun H3 => Q σ H3
theorem pg_sub {o i : Expr} {to ti : TE} {t : TSet} (ho : PE X o to) (hi : PE X i ti) (hs : PSet X t)
    (ha : ∀ v, assign (.Subscript o i pos) X.env v = (do
      let ov ← holding [v] (eval o X.env)
      let iv ← holding [v, ov] (eval i X.env)
      standAt pos
      holding [v, ov, iv] (setItem ov iv v)
      release [v, ov, iv] []) := by intro _; rfl) : PG X (.Subscript o i pos) (gSub to ti t) := by
  intro pins s σ H v u Q I r h
  rw [ha]
  refine wpAny_bind (wpAny_holding (thn (ho pins s σ H _ I h) fun ov s1 ⟨x, H1, I1, r1, q1⟩ => ?_))
  refine wpAny_bind (wpAny_holding (thn (hi pins s1 σ H1 _ I1 q1) fun iv s2 ⟨y, H2, I2, r2, q2⟩ => ?_))
  refine wpAny_bind (wpAny_standAt (wpAny_bind (wpAny_holding (thn (hs pins s2 σ H2 x y v ov iv u _ I2 r1 r2 r q2) fun _ s3 ⟨H3, I3, q3⟩ => ?_))))
  exact wpAny_release ⟨σ, H3, I3, q3⟩
def tAsg (te : TE) (g : TG) : TS := fun D σ H => te σ H fun x H1 => g x σ H1 D.nx
theorem ps_asg {tg e : Expr} {te : TE} {g : TG} (he : PE X e te) (hg : PG X tg g) (hs : swapsWithSole [tg] e pos.line X.env = pure false := by rfl) (hw : swappedStores [tg] e X.env = pure none := by rfl)
    (h1 : (assignEach [tg] X.env).map (·.2) = [assign tg X.env] := by rfl) : PS X (.Assign [tg] e pos) (tAsg te g) := by
  intro pins s σ H D I h
  refine wpAny_Assign_stores (thn (he pins s σ H _ I h) fun v s1 ⟨x, H1, I1, r1, q1⟩ => ?_) hs hw
  rw [h1]
  exact thn (hg pins s1 σ H1 x v _ I1 r1 q1) fun _ s2 q => q
theorem ps_set {i : Nat} {x : Str} {e : Expr} {te : TE} {pos' : Pos} (hN : X.N.Nodup) (hi : X.N[i]? = some x) (hx : Loc X.env.scope x) (he : PE X e te) (hs : swapsWith e (some (.Name x pos')) pos.line X.env = pure false := by rfl) (hf : X.fn x = true ∨ X.env.scope.names.lookup x = some .local := by first | exact .inl rfl | exact .inr rfl | assumption) :
    PS X (.Assign [.Name x pos'] e pos) (tAsg te (gName i)) := by
  intro pins s σ H D I h
  refine wpAny_Assign_Name (thn (he pins s σ H _ I h) fun v s1 ⟨y, H1, I1, r1, q1⟩ => ?_) hs
  exact zab0 I1 hN hi hx r1 (fun s2 I2 => ⟨_, H1, I2, q1⟩) hf
end
section
variable {X : Cx} {pos : Pos}
end
structure It where
  go : Nat → Hp → Prop
  yld : Nat → Hp → V → Hp → Prop
  stop : Nat → Hp → Prop
def FpOk (X : Cx) (pins : List (Addr × Obj)) (H : Hp) (b : Addr) : Prop :=
  H b = none ∧ b ≠ X.env.locals ∧ b ∉ X.fs ∧ (b ∈ X.ex ∨ X.s₀.heap.objs.size ≤ b) ∧ (∀ x c, X.env.cells.lookup x = some c → c ≠ b) ∧ ∀ p ∈ X.pn ++ pins, p.1 ≠ b
theorem Inv.fpOk {X : Cx} {pins : List (Addr × Obj)} {σ : St} {H H' : Hp} {s : Shared} {b : Addr} (I : Inv X pins σ H s) (hb : s.heap.objs.size ≤ b) (hn : H' b = none) : FpOk X pins H' b := by
  refine ⟨hn, Nat.ne_of_gt (Nat.lt_of_lt_of_le I.lt hb), I.nofs hb, .inr (Nat.le_trans I.sz hb), fun x c e z => ?_, fun p hp z => ?_⟩
  · obtain ⟨v, q⟩ := I.cell x c e
    exact absurd (Nat.lt_of_lt_of_le q.lt (by rw [z]; exact hb)) (Nat.lt_irrefl _)
  · exact absurd (Nat.lt_of_lt_of_le (Heap.lt_size (I.pin p hp).1) (by rw [z]; exact hb)) (Nat.lt_irrefl _)
structure Turn (P : Program) (w : World) (K : PySem.W.Frag) (tg : Expr) (J : It) (fp : List Addr) (it : Addr) (tn : Nat → Heap → Prop) : Prop where
  mem : it ∈ fp
  obj : ∀ i h, tn i h → ∀ b ∈ fp, ∃ o, h.get? b = some o ∧ ∀ v, o.data ≠ .cell v
  keep : ∀ i h h', tn i h → (∀ b ∈ fp, ∀ o, h.get? b = some o → h'.get? b = some o) → tn i h'
  item : ∀ (X : Cx), X.prog = P → X.w = w → X.K = K → X.calm = true → ∀ (i : Nat) (pins : List (Addr × Obj)) (s : Shared) (σ : St) (H : Hp) (E : Value → Shared → Prop), Inv X pins σ H s → (∀ b ∈ fp, FpOk X pins H b) → tn i s.heap → J.go i H →
    wpAny (model P w) X.A (pyNext (.ref it)) (fun r s1 => ∃ u, r = some u ∧
      wpAny (model P w) X.A (letOwnedTupleGo tg (.ref it) u) (fun _ s2 => ∃ x H', Inv X pins σ H' s2 ∧ RelV x u ∧ J.yld i H x H' ∧ tn (i + 1) s2.heap ∧ ∀ b ∈ fp, H' b = none) E s1) E s
  done : ∀ (X : Cx), X.prog = P → X.w = w → X.K = K → X.calm = true → ∀ (i : Nat) (pins : List (Addr × Obj)) (s : Shared) (σ : St) (H : Hp) (E : Value → Shared → Prop), Inv X pins σ H s → (∀ b ∈ fp, FpOk X pins H b) → tn i s.heap → J.stop i H →
    wpAny (model P w) X.A (pyNext (.ref it)) (fun r s1 => r = none ∧ Inv X pins σ H s1) E s
  self : ∀ (A : Around) (i : Nat) (s : Shared) (Q : Value → Shared → Prop) (E : Value → Shared → Prop), tn i s.heap → Q (.ref it) s → wpAny (model P w) A (pyIter (.ref it)) Q E s
abbrev TI := St → Hp → (It → Hp → Prop) → Prop
def PIE (X : Cx) (pins : List (Addr × Obj)) (σ : St) (tg : Expr) (R : It → Hp → Prop) (itv : Value) (s2 : Shared) : Prop :=
  ∃ (it : Addr) (fp : List Addr) (tn : Nat → Heap → Prop) (J : It) (H' : Hp), itv = .ref it ∧ Inv X pins σ H' s2 ∧ Turn X.prog X.w X.K tg J fp it tn ∧ tn 0 s2.heap ∧ (∀ b ∈ fp, FpOk X pins H' b) ∧ R J H'
def PI (X : Cx) (tg iter : Expr) (wi : TI) : Prop :=
  ∀ (pins : List (Addr × Obj)) (s : Shared) (σ : St) (H : Hp) (R : It → Hp → Prop), Inv X pins σ H s → wi σ H R →
    wpAny (model X.prog X.w) X.A (eval iter X.env) (fun v s1 => wpAny (model X.prog X.w) X.A (pyIter v) (PIE X pins σ tg R) X.xe s1) X.xe s
theorem go_of {M : Model} {A : Around} {E : Value → Shared → Prop} {s : Shared} {tg : Expr} {it : Addr} {u : Value} {o : Obj} {n : String} {vs : Array Value} {Q : Unit → Shared → Prop} (ho : s.heap.get? it = some o) (hc : o.cls = .type n) (hd : o.data = .fields vs)
    (hn : ["enumerate", "zip", "dict_itemiterator", "dict_reverseitemiterator", "odict_iterator", "itertools.zip_longest", "itertools.pairwise"].contains n = false) (hQ : Q () s) : wpAny M A (letOwnedTupleGo tg (.ref it) u) Q E s := by
  unfold letOwnedTupleGo
  cases tg <;> first
    | exact wpAny_pure hQ
    | (cases u <;> first
        | exact wpAny_pure hQ
        | (refine wpAny_bind (wpAny_load ho ?_)
           rw [hc, hd]
           show wpAny M A (if (["enumerate", "zip", "dict_itemiterator", "dict_reverseitemiterator", "odict_iterator", "itertools.zip_longest", "itertools.pairwise"].contains n && vs[0]? == some (rawInt _)) = true then _ else _) Q E s
           rw [if_neg (by intro h; rw [hn, Bool.false_and] at h; cases h)]
           exact wpAny_pure hQ))
def Itl (K : PySem.W.Frag) (a : Addr) : It :=
  ⟨fun i H => ∃ xs x, SqL K H a xs ∧ xs[i]? = some x, fun i H x H' => H' = H ∧ ∀ xs, SqL K H a xs → xs[i]? = some x, fun i H => ∃ xs, SqL K H a xs ∧ xs.length ≤ i⟩
def Itt (K : PySem.W.Frag) (a : Addr) : It :=
  ⟨fun i H => ∃ xs x, SqT K H a xs ∧ xs[i]? = some x, fun i H x H' => H' = H ∧ ∀ xs, SqT K H a xs → xs[i]? = some x, fun i H => ∃ xs, SqT K H a xs ∧ xs.length ≤ i⟩
def Itr (lo : Int) (n : Nat) : It := ⟨fun i _ => i < n, fun i H x H' => H' = H ∧ x = .int (lo + i), fun i _ => n ≤ i⟩
theorem turn_list {P : Program} {w : World} {K : PySem.W.Frag} {tg : Expr} (a it : Addr) : Turn P w K tg (Itl K a) [it] it (fun i h => h.IsListIter it a i) where
  mem := by simp
  obj := fun i h st b hb => by
    have e : b = it := by simpa using hb
    subst e
    obtain ⟨o, e, c, d⟩ := st
    exact ⟨o, e, fun v z => by rw [d] at z; cases z⟩
  keep := fun i h h' st k => st.at fun o e => k it (by simp) o e
  item := by
    intro X hP hw hK hc i pins s σ H E I hf st hg
    subst hP hw hK
    obtain ⟨xs, x, hq, hx⟩ := hg
    obtain ⟨its, rv, p, hz⟩ := I.list hq
    obtain ⟨u, hu, ru⟩ := rv.get hx
    obtain ⟨f0, f1, f2, f3, f4, f5⟩ := hf it (by simp)
    refine wpAny_pyNext_list_item st p.isList (x := u) (by simpa using hu) fun h' st' sb => ?_
    have I1 : Inv X pins σ H { s with heap := h' } := I.turned (t' := s.toks) (fun b o hb e => (sb.2 b hb).trans e) f0 f1 f3 f4 f5
    obtain ⟨o, e, c, d⟩ := id st'
    exact ⟨u, rfl, go_of (s := { s with heap := h' }) e c d (by decide) ⟨x, H, I1, ru, ⟨rfl, fun ys hy => by rw [I.list_inj hy hq]; exact hx⟩, st', fun b hb => (hf b hb).1⟩⟩
  done := by
    intro X hP hw hK hc i pins s σ H E I hf st hg
    subst hP hw hK
    obtain ⟨xs, hq, hx⟩ := hg
    obtain ⟨its, rv, p, hz⟩ := I.list hq
    obtain ⟨f0, f1, f2, f3, f4, f5⟩ := hf it (by simp)
    have hl := rv.length
    exact wpAny_pyNext_list_end (I.ok.hd hc) st p.isList (by simp; omega) fun h' eb => ⟨rfl, I.turned (t' := s.toks) (fun b o hb e => eb b o hb e) f0 f1 f3 f4 f5⟩
  self := fun _ _ _ _ _ st h => wpAny_pyIter_listiter st h
theorem zadv {P : Program} {w : World} {K : PySem.W.Frag} {tg : Expr} (a it : Addr) : Turn P w K tg (Itt K a) [it] it (fun i h => h.IsTupleIter it a i) where
  mem := by simp
  obj := fun i h st b hb => by
    have e : b = it := by simpa using hb
    subst e
    obtain ⟨o, e, c, d⟩ := st
    exact ⟨o, e, fun v z => by rw [d] at z; cases z⟩
  keep := fun i h h' st k => st.at fun o e => k it (by simp) o e
  item := by
    intro X hP hw hK hc i pins s σ H E I hf st hg
    subst hP hw hK
    obtain ⟨xs, x, hq, hx⟩ := hg
    obtain ⟨its, rv, p, hz⟩ := I.tuple hq
    obtain ⟨u, hu, ru⟩ := rv.get hx
    obtain ⟨f0, f1, f2, f3, f4, f5⟩ := hf it (by simp)
    refine wpAny_pyNext_tuple_item st (show s.heap.IsTuple a its.toArray from p) (x := u) (by simpa using hu) fun h' st' sb => ?_
    have I1 : Inv X pins σ H { s with heap := h' } := I.turned (t' := s.toks) (fun b o hb e => (sb.2 b hb).trans e) f0 f1 f3 f4 f5
    obtain ⟨o, e, c, d⟩ := id st'
    exact ⟨u, rfl, go_of (s := { s with heap := h' }) e c d (by decide) ⟨x, H, I1, ru, ⟨rfl, fun ys hy => by rw [I.tuple_inj hy hq]; exact hx⟩, st', fun b hb => (hf b hb).1⟩⟩
  done := by
    intro X hP hw hK hc i pins s σ H E I hf st hg
    subst hP hw hK
    obtain ⟨xs, hq, hx⟩ := hg
    obtain ⟨its, rv, p, hz⟩ := I.tuple hq
    obtain ⟨f0, f1, f2, f3, f4, f5⟩ := hf it (by simp)
    have hl := rv.length
    exact wpAny_pyNext_tuple_end (I.ok.hd hc) st (show s.heap.IsTuple a its.toArray from p) (by simp; omega) fun h' eb => ⟨rfl, I.turned (t' := s.toks) (fun b o hb e => eb b o hb e) f0 f1 f3 f4 f5⟩
  self := fun _ _ _ _ _ st h => wpAny_pyIter_tupleiter st h
theorem zaes {P : Program} {w : World} {K : PySem.W.Frag} {tg : Expr} (it : Addr) (lo : Int) (n : Nat) : Turn P w K tg (Itr lo n) [it] it (fun i h => IsRangeIter h it (lo + (i : Nat) * 1) ((n : Int) - (i : Nat)) 1) where
  mem := by simp
  obj := fun i h st b hb => by
    have e : b = it := by simpa using hb
    subst e
    exact ⟨_, st, fun v z => by
      have z' : Data.fields _ = Data.cell v := z
      cases z'⟩
  keep := fun i h h' st k => k it (by simp) _ st
  item := by
    intro X hP hw hK hc i pins s σ H E I hf st hg
    subst hP hw hK
    obtain ⟨f0, f1, f2, f3, f4, f5⟩ := hf it (by simp)
    have W := Walks.range (prog := X.prog) (w := X.w) (I.ok.hd hc) it lo 1 n
    refine W.item i s _ _ hg st fun v h' tk hv st' kk => ?_
    obtain ⟨t, rfl⟩ := hv
    have I1 : Inv X pins σ H { s with heap := h', toks := tk } := I.turned (fun b o hb e => kk b o (by simpa using hb) e) f0 f1 f3 f4 f5
    refine ⟨_, rfl, go_of (s := { s with heap := h', toks := tk }) (n := "range_iterator") st' rfl rfl (by decide) ⟨.int (lo + i), H, I1, ⟨t, ?_⟩, ⟨rfl, rfl⟩, st', fun b hb => (hf b hb).1⟩⟩
    rw [Int.mul_one]
  done := by
    intro X hP hw hK hc i pins s σ H E I hf st hg
    subst hP hw hK
    obtain ⟨f0, f1, f2, f3, f4, f5⟩ := hf it (by simp)
    exact wpAny_pyNext_range_end (I.ok.hd hc) st (by have : n ≤ i := hg; omega) fun h' eb => ⟨rfl, I.turned (t' := s.toks) (fun b o hb e => eb b o hb e) f0 f1 f3 f4 f5⟩
  self := fun _ _ _ _ _ st h => wpAny_pyIter_rangeiter st h
end L2
namespace L2
open PySem PySem.Spec PyProof.Rows
section
variable {X : Cx} {tg : Expr}
theorem range_it {pins : List (Addr × Obj)} {σ : St} {H : Hp} {s : Shared} {R : It → Hp → Prop} {E : Value → Shared → Prop} {lo hi : Int} {t u v : Tok} {tk : Nat} (I : Inv X pins σ H s) (h1 : -(2 ^ 62) ≤ lo) (h2 : lo < 2 ^ 62) (h3 : -(2 ^ 62) ≤ hi) (h4 : hi < 2 ^ 62)
    (q : R (Itr lo (hi - lo).toNat) H) : wpAny (model X.prog X.w) X.A (pyIter (.ref s.heap.objs.size)) (PIE X pins σ tg R) E { s with heap := s.heap.push { cls := .type "range", data := .fields #[.int lo t, .int hi u, .int 1 v] }, toks := tk } := by
  refine wpAny_pyIter_range (IsRange.new ..) (small_one h1 h2 h3 h4) ?_
  have I1 : Inv X pins σ H { s with heap := s.heap.push { cls := .type "range", data := .fields #[.int lo t, .int hi u, .int 1 v] }, toks := tk } := I.kept fun b o e => Heap.get?_push_of_some _ e
  refine ⟨(s.heap.push { cls := .type "range", data := .fields #[.int lo t, .int hi u, .int 1 v] }).objs.size, [(s.heap.push { cls := .type "range", data := .fields #[.int lo t, .int hi u, .int 1 v] }).objs.size], _, _, H, rfl,
    I1.kept (t' := tk) fun b o e => Heap.get?_push_of_some _ e, zaes _ lo (hi - lo).toNat, ?_, fun b hb => ?_, q⟩
  · have e1 : lo + ((0 : Nat) : Int) * 1 = lo := by simp
    have e2 : (((hi - lo).toNat : Nat) : Int) - ((0 : Nat) : Int) = Builtin.Range.rangeSize lo hi 1 := by rw [rangeSize_one]; split <;> omega
    show IsRangeIter _ _ (lo + ((0 : Nat) : Int) * 1) ((((hi - lo).toNat : Nat) : Int) - ((0 : Nat) : Int)) 1
    rw [e1, e2]
    exact Heap.get?_push_size _ rfl
  · have e : b = (s.heap.push { cls := .type "range", data := .fields #[.int lo t, .int hi u, .int 1 v] }).objs.size := by simpa using hb
    subst e
    exact I1.fpOk (Nat.le_refl _) (I1.hok.fresh (Nat.le_refl _))
def iRng1 (ta : TA) : TI := fun σ H R => ta σ H fun vs H1 => ∃ j : Int, vs = [.int j] ∧ -(2 ^ 62) ≤ j ∧ j < 2 ^ 62 ∧ R (Itr 0 j.toNat) H1
theorem pi_range1 {a : Expr} {ta : TA} {p pos : Pos} (hg : Gl X "range") (hm : X.mg "range" = none) (ha : PA X [a] ta) (hs : starEach [a] X.env = [(false, eval a X.env)] := by rfl) : PI X tg (.Call (.Name "range" p) [a] [] pos) (iRng1 ta) := by
  intro pins s σ H R I h
  refine Call_ (ld_blt I hg hm boot_range (PyProof.Rows.callWith_type1 (thn (ha pos pins s σ H _ I h) fun us s1 ⟨vs, H1, I1, r1, q1⟩ => ?_) hs rfl))
  obtain ⟨j, e, q1, q2, q⟩ := q1
  subst e
  cases r1 with
  | cons r rr =>
    cases rr
    obtain ⟨t, rfl⟩ := r
    exact call_range_1 (range_it I1 (by omega) (by omega) q1 q2 (by simpa using q))
def tFor (wi : TI) (g : TG) (tb : TS) : TS := fun D σ H => wi σ H fun J H1 => ∃ W : Nat → Nat → St → Hp → Prop, (∃ m, W 0 m σ H1) ∧ ∀ i m σ H, W i m σ H →
  (J.stop i H ∧ D.nx σ H) ∨ (J.go i H ∧ ∃ N : St → Hp → Prop, (∀ σ' H', N σ' H' → ∃ m', m' < m ∧ W (i + 1) m' σ' H') ∧ ∀ x H', J.yld i H x H' → g x σ H' fun σ2 H2 => tb { D with nx := N, ct := N, bk := D.nx } σ2 H2)
def pinsAt (fp : List Addr) (h : Heap) : List (Addr × Obj) := fp.filterMap fun b => (h.get? b).map fun o => (b, o)
theorem zabh {fp : List Addr} {h : Heap} {b : Addr} {o : Obj} (hb : b ∈ fp) (e : h.get? b = some o) : (b, o) ∈ pinsAt fp h := List.mem_filterMap.mpr ⟨b, hb, by rw [e]; rfl⟩
theorem of_pinsAt {fp : List Addr} {h : Heap} {p : Addr × Obj} (hp : p ∈ pinsAt fp h) : p.1 ∈ fp ∧ h.get? p.1 = some p.2 := by
  obtain ⟨b, hb, e⟩ := List.mem_filterMap.mp hp
  cases q : h.get? b with
  | none => rw [q] at e; cases e
  | some o =>
    rw [q] at e
    have e' : (b, o) = p := Option.some.inj e
    subst e'
    exact ⟨hb, q⟩
theorem Inv.pinned {pins : List (Addr × Obj)} {σ : St} {H : Hp} {s : Shared} {fp : List Addr} (I : Inv X pins σ H s) (hf : ∀ b ∈ fp, FpOk X pins H b) (ho : ∀ b ∈ fp, ∃ o, s.heap.get? b = some o ∧ ∀ v, o.data ≠ .cell v) : Inv X (pins ++ pinsAt fp s.heap) σ H s :=
  I.pins_of fun p hp => (List.mem_append.mp hp).elim (fun z => I.pin p (List.mem_append_right _ z)) fun z => by
    obtain ⟨hb, e⟩ := of_pinsAt z
    obtain ⟨f0, f1, f2, _⟩ := hf p.1 hb
    obtain ⟨o, e', d⟩ := ho p.1 hb
    rw [e] at e'; cases e'
    exact ⟨e, f0, f1, f2, d⟩
theorem Inv.unpinned {pins pl : List (Addr × Obj)} {σ : St} {H : Hp} {s : Shared} (I : Inv X (pins ++ pl) σ H s) : Inv X pins σ H s := I.pins_of fun p hp => I.pin p (List.mem_append_right _ (List.mem_append_left _ hp))
theorem ps_for {iter : Expr} {body : List Stmt} {wi : TI} {g : TG} {tb : TS} {pos : Pos} (hp : PassesOwn (model X.prog X.w) X.A X.env X.xe) (hc : X.calm = true) (hi : PI X tg iter wi) (hg : PG X tg g) (hb : PSs X body tb)
    (hs : ∀ x, foldedSetIterable iter X.env x = pure x := by intro _; rfl) : PS X (.For tg iter body [] pos) (tFor wi g tb) := by
  intro pins s σ H D I h
  refine wpAny_For (thn (hi pins s σ H _ I h) fun v s1 h1 => thn h1 fun itv s2 h2 => ?_) hs
  obtain ⟨it, fp, tn, J, H2, e, I2, T, st2, f2, W, ⟨m0, w0⟩, turn⟩ := h2
  subst e
  have stat : ∀ {H' : Hp}, (∀ b ∈ fp, H' b = none) → ∀ b ∈ fp, FpOk X pins H' b := fun hn b hb => ⟨hn b hb, (f2 b hb).2⟩
  refine codeAny_forLoop_any (fun n s' => ∃ i σ' H', Inv X pins σ' H' s' ∧ tn i s'.heap ∧ (∀ b ∈ fp, H' b = none) ∧ W i n σ' H') ?_ m0 ⟨0, σ, H2, I2, st2, fun b hb => (f2 b hb).1, w0⟩
  rintro n s3 ⟨i, σ3, H3, I3, st3, fr3, w3⟩
  rcases turn i n σ3 H3 w3 with ⟨stop, qn⟩ | ⟨go, N, hN, step⟩
  · refine wpAny_passesOwn hp (thn (T.done X rfl rfl rfl hc i pins s3 σ3 H3 X.xe I3 (stat fr3) st3 stop) fun r s4 ⟨hr, I4⟩ => ?_)
    subst hr
    exact wpAny_execs_nil ⟨σ3, H3, I4, qn⟩
  · refine wpAny_passesOwn hp (thn (T.item X rfl rfl rfl hc i pins s3 σ3 H3 X.xe I3 (stat fr3) st3 go) fun r s4 ⟨u, hr, h4⟩ => ?_)
    subst hr
    refine wpAny_passesOwn hp (thn h4 fun _ s5 ⟨x, H5, I5, r5, y5, st5, fr5⟩ => ?_)
    have I5' := I5.pinned (stat fr5) (T.obj _ _ st5)
    refine wpAny_passesOwn hp (thn (hg _ s5 σ3 H5 x u _ I5' r5 (step x H5 y5)) fun _ s6 ⟨σ6, H6, I6, q6⟩ => ?_)
    refine wpAny_passesOwn hp (thn (hb _ s6 σ6 H6 _ I6 q6) fun f s7 q7 => ?_)
    have again : ∀ {σ7 : St} {H7 : Hp}, Inv X (pins ++ pinsAt fp s5.heap) σ7 H7 s7 → N σ7 H7 → ∃ m, m < n ∧ ∃ i σ' H', Inv X pins σ' H' s7 ∧ tn i s7.heap ∧ (∀ b ∈ fp, H' b = none) ∧ W i m σ' H' := fun {σ7 H7} I7 n7 => by
      obtain ⟨m', hm, w7⟩ := hN σ7 H7 n7
      refine ⟨m', hm, i + 1, σ7, H7, I7.unpinned, T.keep _ _ _ st5 fun b hb o e => (I7.pin (b, o) (List.mem_append_right _ (List.mem_append_right _ (zabh hb e)))).1, fun b hb => ?_, w7⟩
      obtain ⟨o, e, d⟩ := T.obj _ _ st5 b hb
      exact (I7.pin (b, o) (List.mem_append_right _ (List.mem_append_right _ (zabh hb e)))).2.1
    cases f with
    | next => obtain ⟨σ7, H7, I7, n7⟩ := q7; exact again I7 n7
    | cont => obtain ⟨σ7, H7, I7, n7⟩ := q7; exact again I7 n7
    | brk => obtain ⟨σ7, H7, I7, q7⟩ := q7; exact ⟨σ7, H7, I7.unpinned, q7⟩
    | ret v => obtain ⟨x7, σ7, H7, I7, r7, q7⟩ := q7; exact ⟨x7, σ7, H7, I7.unpinned, r7, q7⟩
end
end L2
namespace L2
open PySem PySem.Spec PyProof.Rows
abbrev R2 := V → V → Hp → VK → Prop
def OpR (X : Cx) (f : Value → Value → Sem Value) (r : R2) : Prop :=
  ∀ (pins : List (Addr × Obj)) (s : Shared) (σ : St) (H : Hp) (x y : V) (v u : Value) (Q : VK), Inv X pins σ H s → RelV x v → RelV y u → r x y H Q →
    wpAny (model X.prog X.w) X.A (f v u) (EP X pins σ Q) X.xe s
def CallR (X : Cx) (f : Value) (r : List V → Hp → VK → Prop) : Prop :=
  ∀ (pins : List (Addr × Obj)) (s : Shared) (σ : St) (H : Hp) (xs : List V) (us : List Value) (Q : VK), Inv X pins σ H s → Vals xs us → r xs H Q →
    wpAny (model X.prog X.w) X.A (call f us) (EP X pins σ Q) X.xe s
def TruR (X : Cx) (r : V → Hp → (Bool → Hp → Prop) → Prop) : Prop :=
  ∀ (pins : List (Addr × Obj)) (s : Shared) (σ : St) (H : Hp) (x : V) (v : Value) (Q : Bool → Hp → Prop), Inv X pins σ H s → RelV x v → r x H Q →
    wpAny (model X.prog X.w) X.A (truthy v) (TP X pins σ Q) X.xe s
def tOp (r : R2) (ta tb : TE) : TE := fun σ H Q => ta σ H fun x H1 => tb σ H1 fun y H2 => r x y H2 Q
def rI (C : Int → Int → Prop) (g : Int → Int → V) : R2 := fun x y H Q => ∃ i j, x = .int i ∧ y = .int j ∧ C i j ∧ Q (g i j) H
def rI0 (g : Int → Int → V) : R2 := fun x y H Q => ∃ i j, x = .int i ∧ y = .int j ∧ Q (g i j) H
section
variable {X : Cx} {a b c : Expr} {ta tb tc : TE} {pos : Pos}
theorem binT (ha : PE X a ta) (hb : PE X b tb) {pins : List (Addr × Obj)} {s : Shared} {σ : St} {H : Hp} {R : V → V → Hp → Prop} (I : Inv X pins σ H s)
    (h : ta σ H fun x H1 => tb σ H1 fun y H2 => R x y H2) {Q : Value → Shared → Prop} {f : Value → Value → Sem Value}
    (hf : ∀ v u s2 x y H2, Inv X pins σ H2 s2 → RelV x v → RelV y u → R x y H2 → wpAny (model X.prog X.w) X.A (f v u) Q X.xe s2) :
    wpAny (model X.prog X.w) X.A (eval a X.env) (fun v s₁ => wpAny (model X.prog X.w) X.A (eval b X.env) (fun u s₂ => wpAny (model X.prog X.w) X.A (f v u) Q X.xe s₂) X.xe s₁) X.xe s := by
  refine thn (ha pins s σ H _ I h) fun v s1 ⟨x, H1, I1, r1, q1⟩ => ?_
  refine thn (hb pins s1 σ H1 _ I1 q1) fun u s2 ⟨y, H2, I2, r2, q2⟩ => ?_
  exact hf v u s2 x y H2 I2 r1 r2 q2
theorem pe_op {op : Operator} {r : R2} (ho : OpR X (binaryOp op) r) (ha : PE X a ta) (hb : PE X b tb) : PE X (.BinOp a op b pos) (tOp r ta tb) := by
  intro pins s σ H Q I h
  exact wpAny_BinOp (binT ha hb I h fun v u s2 x y H2 I2 rx ry q => ho pins s2 σ H2 x y v u Q I2 rx ry q)
theorem opI {f : Value → Value → Sem Value} {C : Int → Int → Prop} {g : Int → Int → Int}
    (rule : ∀ (i j : Int) (t u : Tok) (s : Shared) (Q : Value → Shared → Prop) (E : Value → Shared → Prop), C i j → Q (.int (g i j) s.toks) { s with toks := s.toks + 1 } → wpAny (model X.prog X.w) X.A (f (.int i t) (.int j u)) Q E s) :
    OpR X f (rI C fun i j => .int (g i j)) := by
  intro pins s σ H x y v u Q I rx ry h
  obtain ⟨i, j, rfl, rfl, hc, q⟩ := h
  obtain ⟨t, rfl⟩ := rx
  obtain ⟨t', rfl⟩ := ry
  exact rule i j t t' s _ _ hc ⟨.int (g i j), H, I.tok _, ⟨_, rfl⟩, q⟩
theorem opI0 {f : Value → Value → Sem Value} {g : Int → Int → Int}
    (rule : ∀ (i j : Int) (t u : Tok) (s : Shared) (Q : Value → Shared → Prop) (E : Value → Shared → Prop), Q (.int (g i j) s.toks) { s with toks := s.toks + 1 } → wpAny (model X.prog X.w) X.A (f (.int i t) (.int j u)) Q E s) :
    OpR X f (rI0 fun i j => .int (g i j)) := by
  intro pins s σ H x y v u Q I rx ry h
  obtain ⟨i, j, rfl, rfl, q⟩ := h
  obtain ⟨t, rfl⟩ := rx
  obtain ⟨t', rfl⟩ := ry
  exact rule i j t t' s _ _ ⟨.int (g i j), H, I.tok _, ⟨_, rfl⟩, q⟩
theorem opB0 {f : Value → Value → Sem Value} {g : Int → Int → Bool}
    (rule : ∀ (i j : Int) (t u : Tok) (s : Shared) (Q : Value → Shared → Prop) (E : Value → Shared → Prop), Q (.bool (g i j)) s → wpAny (model X.prog X.w) X.A (f (.int i t) (.int j u)) Q E s) :
    OpR X f (rI0 fun i j => .bl (g i j)) := by
  intro pins s σ H x y v u Q I rx ry h
  obtain ⟨i, j, rfl, rfl, q⟩ := h
  obtain ⟨t, rfl⟩ := rx
  obtain ⟨t', rfl⟩ := ry
  exact rule i j t t' s _ _ ⟨.bl (g i j), H, I, rfl, q⟩
def CDiv (i j : Int) : Prop := 0 < j ∧ j < 1073741824
def CMul (i j : Int) : Prop := (-(2 ^ 64) < i ∧ i < 2 ^ 64) ∨ (-(2 ^ 64) < j ∧ j < 2 ^ 64)
theorem CMul.ok {i j : Int} (h : CMul i j) : IntMulOk i j := by
  rcases h with ⟨h1, h2⟩ | ⟨h1, h2⟩
  · exact .of_left (intBits_le_64 h1 h2)
  · exact .of_right (intBits_le_64 h1 h2)
theorem op_add : OpR X (binaryOp .Add) (rI0 fun i j => .int (i + j)) := opI0 fun _ _ _ _ _ _ _ q => add_int q
theorem op_sub : OpR X (binaryOp .Sub) (rI0 fun i j => .int (i - j)) := opI0 fun _ _ _ _ _ _ _ q => sub_int q
theorem op_mul : OpR X (binaryOp .Mult) (rI CMul fun i j => .int (i * j)) := opI fun _ _ _ _ _ _ _ hc q => mul_int q hc.ok
theorem zaed : OpR X (binaryOp .FloorDiv) (rI CDiv fun i j => .int (i / j)) := opI fun i j _ _ _ _ _ hc q => by
  have h1 : (0 : Int) < j := hc.1
  have h2 : j < 1073741824 := hc.2
  exact floordiv_int (by omega) (by rw [Int.fdiv_eq_ediv_of_nonneg i (by omega)]; exact q) (.inl (PyProof.noPylong_small (by omega)))
theorem op_mod : OpR X (binaryOp .Mod) (rI (fun _ j => 0 < j) fun i j => .int (i % j)) := opI fun i j _ _ _ _ _ hc q => by
  have h1 : (0 : Int) < j := hc
  exact mod_int' (by omega) (by rw [Int.fmod_eq_emod_of_nonneg i (by omega)]; exact q)
end
section
variable {X : Cx} {a b c : Expr} {ta tb tc : TE} {pos : Pos}
theorem fin_bl {pins : List (Addr × Obj)} {σ : St} {H : Hp} {s : Shared} {Q : VK} {k k' : Bool} (I : Inv X pins σ H s) (q : Q (.bl k) H) (e : k = k') : EP X pins σ Q (.bool k') s := by
  subst e
  exact ⟨.bl k, H, I, rfl, q⟩
theorem op_lt : OpR X (compareOp .Lt) (rI0 fun i j => .bl (decide (i < j))) := opB0 fun _ _ _ _ _ _ _ q => lt_int q
theorem op_le : OpR X (compareOp .LtE) (rI0 fun i j => .bl (decide (i ≤ j))) := opB0 fun _ _ _ _ _ _ _ q => le_int q
theorem op_gt : OpR X (compareOp .Gt) (rI0 fun i j => .bl (decide (j < i))) := opB0 fun _ _ _ _ _ _ _ q => gt_int q
theorem op_ge : OpR X (compareOp .GtE) (rI0 fun i j => .bl (decide (j ≤ i))) := opB0 fun _ _ _ _ _ _ _ q => ge_int q
theorem op_isN : OpR X (compareOp .Is) (fun x y H Q => y = .non ∧ Q (.bl (decide (x = .non))) H) := by
  intro pins s σ H x y v u Q I rx ry h
  obtain ⟨rfl, q⟩ := h
  cases ry
  refine is_none_gen (fin_bl I q ?_)
  cases x <;> first
    | (cases rx; rfl)
    | (obtain ⟨t, rfl⟩ := rx; rfl)
theorem op_notN : OpR X (compareOp .IsNot) (fun x y H Q => y = .non ∧ Q (.bl (!decide (x = .non))) H) := by
  intro pins s σ H x y v u Q I rx ry h
  obtain ⟨rfl, q⟩ := h
  cases ry
  refine isnot_none_gen (fin_bl I q ?_)
  cases x <;> first
    | (cases rx; rfl)
    | (obtain ⟨t, rfl⟩ := rx; rfl)
def isObj : HO → Bool
  | .lst _ => true
  | .ins _ _ _ => true
  | _ => false
theorem zadn {pins : List (Addr × Obj)} {s : Shared} {σ : St} {H : Hp} {a : Addr} {o : HO} (I : Inv X pins σ H s) (h : H a = some o) (p : isObj o = true) : ∃ ob, s.heap.get? a = some ob ∧ ob.cls ≠ .type "tuple" := by
  cases o with
  | lst xs =>
    obtain ⟨_, its, n, _, e⟩ : xs.length ≤ sizeLine ∧ ∃ (its : List Value) (n : Nat), Vals xs its ∧ s.heap.get? a = some { cls := .type "list", data := .seq its.toArray n } := I.hok a _ h
    exact ⟨_, e, (by show Value.type "list" ≠ .type "tuple"; decide +kernel)⟩
  | ins C dx fs =>
    have x := I.hok a _ h
    obtain ⟨_, _, _, e, _⟩ := x
    exact ⟨_, e, (by show Value.ref C ≠ .type "tuple"; exact fun z => by cases z)⟩
  | _ => exact absurd (show false = true from p) Bool.false_ne_true
theorem OpR.or {f : Value → Value → Sem Value} {r r' : R2} (h : OpR X f r) (h' : OpR X f r') : OpR X f (fun x y H Q => r x y H Q ∨ r' x y H Q) := by
  intro pins s σ H x y v u Q I rx ry q
  rcases q with q | q
  · exact h pins s σ H x y v u Q I rx ry q
  · exact h' pins s σ H x y v u Q I rx ry q
theorem nomark (b : Expr) {op : CmpOp} (h : op ≠ .In := by decide) (h2 : op ≠ .NotIn := by decide) : behindInMarks op b = false := by
  have e1 : (op == CmpOp.In) = false := by cases op <;> first | rfl | exact absurd rfl h
  have e2 : (op == CmpOp.NotIn) = false := by cases op <;> first | rfl | exact absurd rfl h2
  cases b <;> simp [behindInMarks, e1, e2]
theorem pe_cmpR {op : CmpOp} {r : R2} (ho : OpR X (compareOp op) r) (ha : PE X a ta) (hb : PE X b tb) (hm : behindInMarks op b = false) : PE X (.Compare a [op] [b] pos) (tOp r ta tb) := by
  intro pins s σ H Q I h
  exact wpAny_Compare1 (binT ha hb I h fun v u s2 x y H2 I2 rx ry q => ho pins s2 σ H2 x y v u Q I2 rx ry q) hm
def tTest (t : TE) : TT := fun σ H Q => t σ H fun x H' => ∃ k, x = .bl k ∧ Q k H'
theorem pt_cmpR {op : CmpOp} {r : R2} (ho : OpR X (compareOp op) r) (ha : PE X a ta) (hb : PE X b tb) (hm : behindInMarks op b = false) : PT X (.Compare a [op] [b] pos) (tTest (tOp r ta tb)) := by
  intro pins s σ H Q I h
  refine wpAny_isTrue_Compare1 (thn (ha pins s σ H _ I h) fun v s1 ⟨x, H1, I1, r1, q1⟩ => thn (hb pins s1 σ H1 _ I1 q1) fun u s2 ⟨y, H2, I2, r2, q2⟩ =>
    thn (ho pins s2 σ H2 x y v u _ I2 r1 r2 q2) fun c s3 ⟨z, H3, I3, r3, k, e, q3⟩ => ?_) hm
  subst e
  cases r3
  exact wpAny_truthy_bool ⟨H3, I3, q3⟩
def TruV (K : PySem.W.Frag) (x : V) (H : Hp) (k : Bool) : Prop :=
  match x with
  | .non => k = false
  | .bl b => k = b
  | .int i => k = (i != 0)
  | .str y => y.length ≤ sizeLine ∧ k = ((y.length : Int) != 0)
  | .byt y => y.size ≤ sizeLine ∧ k = ((y.size : Int) != 0)
  | .ref p => (∃ xs, SqL K H p xs ∧ k = !xs.isEmpty) ∨ (∃ xs, SqT K H p xs ∧ k = !xs.isEmpty) ∨ ∃ kvs, H p = some (.dK kvs) ∧ k = !kvs.isEmpty
  | _ => False
theorem zaea {κ : Type} {kvs : List (κ × V)} {vs : List (κ × Value)} (r : KV kvs vs) : (!vs.isEmpty) = !kvs.isEmpty := by
  cases r <;> rfl
theorem zacc {xs : List V} {its : List Value} (r : Vals xs its) : (!its.toArray.isEmpty) = !xs.isEmpty := by
  cases r <;> simp
theorem line63 : (sizeLine : Nat) < 2 ^ 63 := by rw [sizeLine_eq]; decide
theorem tru_ok : TruR X (fun x H Q => ∃ k, TruV X.K x H k ∧ Q k H) := by
  intro pins s σ H x v Q I rx h
  obtain ⟨k, e, q⟩ := h
  have hl := line63
  have hs : sizeLine = 16777216 := sizeLine_eq
  cases x with
  | non =>
    cases rx
    have e' : k = false := e
    subst e'
    exact truthy_none ⟨H, I, q⟩
  | bl b =>
    cases rx
    have e' : k = b := e
    subst e'
    exact wpAny_truthy_bool ⟨H, I, q⟩
  | int i =>
    obtain ⟨t, rfl⟩ := rx
    have e' : k = (i != 0) := e
    subst e'
    exact PySem.P.truthy_int ⟨H, I, q⟩
  | str y =>
    obtain ⟨t, rfl⟩ := rx
    obtain ⟨hy, e'⟩ : y.length ≤ sizeLine ∧ k = ((y.length : Int) != 0) := e
    subst e'
    exact PySem.P.truthy_str (by omega) ⟨H, I.tok _, q⟩
  | byt y =>
    obtain ⟨t, rfl⟩ := rx
    obtain ⟨hy, e'⟩ : y.size ≤ sizeLine ∧ k = ((y.size : Int) != 0) := e
    subst e'
    exact PySem.W.truthy_bytes (by omega) ⟨H, I.tok _, q⟩
  | ref p =>
    cases rx
    have e' : (∃ xs, SqL X.K H p xs ∧ k = !xs.isEmpty) ∨ (∃ xs, SqT X.K H p xs ∧ k = !xs.isEmpty) ∨ ∃ kvs, H p = some (.dK kvs) ∧ k = !kvs.isEmpty := e
    rcases e' with ⟨xs, hx, e'⟩ | ⟨xs, hx, e'⟩ | ⟨kvs, hx, e'⟩
    · subst e'
      obtain ⟨its, r, pl, hz⟩ := I.list hx
      have hlen := r.length
      exact wpAny_truthy_list pl.isList (by simp only [List.size_toArray]; omega) ⟨H, I.tok _, by rw [zacc r]; exact q⟩
    · subst e'
      obtain ⟨its, r, pl, hz⟩ := I.tuple hx
      have hlen := r.length
      exact truthy_tuple pl (by simp only [List.size_toArray]; omega) ⟨H, I.tok _, by rw [zacc r]; exact q⟩
    · subst e'
      obtain ⟨hz, hS, vs, r, m⟩ : kvs.length ≤ sizeLine ∧ (p == sysModules) = false ∧ ∃ vs, KV kvs vs ∧ s.heap.DictOf (zady X.prog X.w) p vs := I.hok p _ hx
      have hlen : kvs.length = vs.length := Paired.length r
      exact wpAny_truthy_dict hS m (by omega) ⟨H, I.tok _, by rw [zaea r]; exact q⟩
  | _ => exact (show False from e).elim
theorem pt_truth (ha : PE X a ta) (he : ∀ whole, isTrue a X.env whole = (do let v ← whole; standAt a.pos; holding [v] (truthy v))) :
    PT X a (fun σ H Q => ta σ H fun x H' => ∃ k, TruV X.K x H' k ∧ Q k H') := by
  intro pins s σ H Q I h
  exact isTrue_plain (thn (ha pins s σ H _ I h) fun v s1 ⟨x, H1, I1, r1, q1⟩ => tru_ok pins s1 σ H1 x v Q I1 r1 q1) (he _)
theorem vals1 {x : V} {us : List Value} (r : Vals [x] us) : ∃ u, us = [u] ∧ RelV x u := by
  cases r with
  | cons r1 r2 => cases r2; exact ⟨_, rfl, r1⟩
theorem call_int1 : CallR X (.type "int") (fun xs H Q => (∃ i, xs = [.int i] ∧ Q (.int i) H) ∨ ∃ k, xs = [.bl k] ∧ Q (.int (if k then 1 else 0)) H) := by
  intro pins s σ H xs us Q I r h
  rcases h with ⟨i, rfl, q⟩ | ⟨k, rfl, q⟩
  · obtain ⟨u, rfl, t, rfl⟩ := vals1 r
    exact call_int_int ⟨.int i, H, I, ⟨_, rfl⟩, q⟩
  · obtain ⟨u, rfl, r1⟩ := vals1 r
    cases r1
    exact call_int_bool ⟨.int (if k then 1 else 0), H, I.tok _, ⟨_, rfl⟩, q⟩
end
end L2
namespace L2
open PySem PySem.Spec PyProof.Rows
structure ObjM (h : Heap) (x dx C : Addr) (mA : Str → Option Value) : Prop where
  obj : h.get? x = some (PySem.W.instObj C dx)
  ns : h.Ns1 dx mA
  ne : dx ≠ x
theorem lookIn_ns {h : Heap} {dx : Addr} {mA : Str → Option Value} (n : h.Ns1 dx mA) : ∃ od, h.get? dx = some od ∧ ∀ name, PySem.W.lookIn name od = some (mA name) := by
  obtain ⟨o, es, ep, ho, hd, hk, _, hm⟩ := n
  refine ⟨o, ho, fun name => ?_⟩
  have e := hm name
  unfold nsFind findBy at e
  rw [← Array.find?_toList] at e
  unfold PySem.W.lookIn
  rw [hd]
  dsimp only
  split
  · rename_i y q
    rw [q] at e
    exact congrArg some e
  · rename_i q
    rw [q] at e
    have a : es.toList.any (·.refKey) = false := by
      rw [List.any_eq_false]
      intro y hy
      obtain ⟨z, t, hkey⟩ := hk y (Array.mem_toList_iff.mp hy)
      simp [DictEntry.refKey, hkey]
    have a' : ¬ es.toList.any (·.refKey) = true := by rw [a]; exact Bool.false_ne_true
    rw [if_neg a']
    exact congrArg some e
theorem ObjM.look {h : Heap} {x dx C : Addr} {mA : Str → Option Value} (I : ObjM h x dx C mA) : ∃ od, PySem.W.InstAt h x (PySem.W.instObj C dx) C (some od) ∧ ∀ name, PySem.W.lookIn name od = some (mA name) :=
  let ⟨od, ho, hl⟩ := lookIn_ns I.ns
  ⟨od, ⟨I.obj, rfl, rfl, ho⟩, hl⟩
section
variable {prog : Program} {w : World} {A : Around} {E : Value → Shared → Prop} {s : Shared} {K : PySem.W.Frag} {x dx C f : Addr} {mA : Str → Option Value} {name : Str} {v : Value}
theorem zad5 {ns : List Str} {Q : Unit → Shared → Prop} (X : K.In s.heap) (I : ObjM s.heap x dx C mA)
    (hs : PySem.W.findIn K (.ref C) "__setattr__" = some (some (.builtin "object.__setattr__"))) (hp : PySem.W.plainOver K C = true) (ht : PySem.W.takerIn K C name = some none) (hh : PySem.W.hasDictIn K C = true)
    (hw : PySem.Within mA ns) (hsz : ns.length ≤ sizeLine)
    (h : ∀ h', ObjM h' x dx C (fun y => if y = name then some v else mA y) → Heap.SameBut dx s.heap h' → Q () { s with heap := h', toks := s.toks + 2 }) :
    wpAny (model prog w) A (setAttr (.ref x) name v) Q E s := by
  obtain ⟨od, J, hl⟩ := I.look
  refine PySem.W.set_plain X J hs (PySem.W.osa_open (s := { s with toks := s.toks + 1 }) (r := none) X J hp ht fun b => ?_)
  obtain ⟨cd, hc, hd'⟩ := PySem.W.any_some hh
  have hx : s.heap.get? x = some ⟨.ref C, some dx, .plain, #[]⟩ := I.obj
  refine wpAny_bind (wpAny_pure (wpAny_bind (wpAny_bind (wpAny_loadPart hx (wpAny_bind (PySem.W.Looks.here (s := { s with toks := s.toks + 1 }) (PySem.W.looks_clsIn X hc) ?_))))))
  rw [hd']
  refine wpAny_pure (a := some dx) (wpAny_bind (wpAny_pure (wpAny_bind ?_)))
  refine wpAny_nsSet1 (s := { s with toks := s.toks + 1 }) I.ns fun h' hn2 hs2 => ?_
  obtain ⟨oD, esD, epD, hoD, hdD, hcD⟩ := hn2.count (PySem.Within.cons name v hw)
  refine wpAny_bind (wpAny_lookBehind hoD (by rw [hdD]; exact pastItsLine_dict (Nat.le_trans hcD (by rw [List.length_cons]; omega))) ?_)
  exact wpAny_pure (h _ ⟨(hs2.2 _ (Ne.symm I.ne)).trans I.obj, hn2, I.ne⟩ hs2)
end
section
variable {P : Program} {w : World} {H H' : Hp} {h h' : Heap} {a C dx : Addr} {fs fs' : List (Str × V)}
theorem ins_get (hok : HOk P w H h) (e : H a = some (.ins C dx fs)) : ∃ mA, ObjM h a dx C mA ∧ (∀ f, RelO (fs.lookup f) (mA f)) ∧ PySem.Within mA (fs.map (·.1)) ∧ fs.length ≤ 1000 ∧ H dx = some (.own a) := by
  obtain ⟨d, z, ne, ob, mA, n, r, q⟩ := (show ObjOk P w H h a (.ins C dx fs) from hok a _ e)
  exact ⟨mA, ⟨ob, n, ne⟩, r, q, z, d⟩
end
structure Cls (K : PySem.W.Frag) (C : Addr) : Prop where
  pg : PySem.W.plainGet K C Str.empty = true
  hd : PySem.W.hasDictIn K C = true
  po : PySem.W.plainOver K C = true
  sa : PySem.W.findIn K (.ref C) "__setattr__" = some (some (.builtin "object.__setattr__"))
theorem Cls.get {K : PySem.W.Frag} {C : Addr} (c : Cls K C) (f : Str) : PySem.W.plainGet K C f = true := c.pg
structure Con (K : PySem.W.Frag) (C : Addr) (f : Str) (v : V) (u : Value) : Prop where
  at_ : PySem.W.findIn K (.ref C) f = some (some u)
  rel : RelV v u
  get : PySem.W.specialIn K u "__get__" = some none
  cp : PySem.W.copiedNames.contains f = false
structure Meth (K : PySem.W.Frag) (C : Addr) (m : Str) (f : Addr) : Prop where
  at_ : PySem.W.findIn K (.ref C) m = some (some (.ref f))
  fn : PySem.W.isFn K (.ref f) = true
  kp : PySem.W.keepIn K (.ref f) = true
section
variable {X : Cx} {pins : List (Addr × Obj)} {σ : St} {H : Hp} {s : Shared} {a C dx : Addr} {fs : List (Str × V)} {f : Str} {v : V} {A : Around} {E : Value → Shared → Prop}
theorem Inv.made (I : Inv X pins σ H s) : Inv X pins σ (upd (upd H s.heap.objs.size (.own (s.heap.objs.size + 1))) (s.heap.objs.size + 1) (.ins C s.heap.objs.size []))
    { s with heap := (s.heap.push PySem.W.emptyDict).push (PySem.W.instObj C s.heap.objs.size) } := by
  have e1 : (s.heap.push PySem.W.emptyDict).get? s.heap.objs.size = some PySem.W.emptyDict := Heap.get?_push_size s.heap rfl
  have e2 : ((s.heap.push PySem.W.emptyDict).push (PySem.W.instObj C s.heap.objs.size)).get? (s.heap.objs.size + 1) = some (PySem.W.instObj C s.heap.objs.size) := by
    have := Heap.get?_push_size (s.heap.push PySem.W.emptyDict) (o := PySem.W.instObj C s.heap.objs.size) rfl
    rwa [Heap.size_push] at this
  have e3 : (s.heap.push PySem.W.emptyDict).Ns s.heap.objs.size (fun _ => none) := ⟨PySem.W.emptyDict, #[], _, e1, rfl, (fun e he => absurd he (by simp)), fun _ => rfl⟩
  have I1 := I.laid (a := s.heap.objs.size) (o := .own (s.heap.objs.size + 1)) (h' := s.heap.push PySem.W.emptyDict) (t' := s.toks) (fun b u q => Heap.get?_push_of_some _ q) (Nat.le_refl _) ⟨_, e1⟩
  refine I1.laid (a := s.heap.objs.size + 1) (o := .ins C s.heap.objs.size []) (t' := s.toks) (fun b u q => Heap.get?_push_of_some _ q) (Nat.le_of_eq (Heap.size_push _ _)) ?_
  have ne : s.heap.objs.size ≠ s.heap.objs.size + 1 := Nat.ne_of_lt (Nat.lt_succ_self _)
  refine ⟨by rw [upd_ne ne, zaae], Nat.zero_le _, ne, e2, fun _ => none, (Heap.Ns1.of_empty e3).at fun o q => Heap.get?_push_of_some _ q, fun _ => True.intro, fun y hy => absurd rfl hy⟩
end
section
variable {X : Cx} {o e value : Expr} {f : Str} {pos pos' tpos : Pos} {ta tv : TE}
end
section
variable {X : Cx} {pins : List (Addr × Obj)} {σ : St} {H : Hp} {s : Shared} {A : Around} {E : Value → Shared → Prop} {Q : Value → Shared → Prop} {c : Value} {b : Bool}
inductive TyOf (K : PySem.W.Frag) (H : Hp) : V → Value → Prop where
  | non : TyOf K H .non (.type "NoneType")
  | bl (x : Bool) : TyOf K H (.bl x) (.type "bool")
  | int (i : Int) : TyOf K H (.int i) (.type "int")
  | str (x : Str) : TyOf K H (.str x) (.type "str")
  | flt (x : UInt64) : TyOf K H (.flt x) (.type "float")
  | lst {a : Addr} {xs : List V} (e : H a = some (.lst xs)) : TyOf K H (.ref a) (.type "list")
  | frz {a : Addr} {o : Obj} {xs : List V} (e : H a = some (.frz o (.lst xs))) : TyOf K H (.ref a) (.type "list")
  | tup {a : Addr} {xs : List V} (e : H a = some (.tup xs)) : TyOf K H (.ref a) (.type "tuple")
  | dK {a : Addr} {kvs : List (Key × V)} (e : H a = some (.dK kvs)) : TyOf K H (.ref a) (.type "dict")
  | dT {a : Addr} {kvs : List (List Key × V)} (e : H a = some (.dT kvs)) : TyOf K H (.ref a) (.type "dict")
  | ins {a C dx : Addr} {fs : List (Str × V)} (e : H a = some (.ins C dx fs)) (cl : Cls K C) (ha : PySem.W.findIn K (.ref C) "__class__" = some (some (.builtin "object.__class__")))
      (hn : PySem.W.specialIn K (.builtin "object.__class__") "__get__" = some (some (.builtin "getset_descriptor.__get__"))) (htk : PySem.W.takesIn K (.builtin "object.__class__") = some true)
      (hm : PySem.W.mroIn K C (.type "object") = some true) : TyOf K H (.ref a) (.ref C)
theorem isinst_ok {x : V} {u t : Value} (I : Inv X pins σ H s) (rx : RelV x u) (ty : TyOf X.K H x t) (e : PySem.W.kitOne X.K t c = some b) (h : ∀ tk, Q (.bool b) { s with toks := tk }) :
    wpAny (model X.prog X.w) A (call (.builtin "isinstance") [u, c]) Q E s := by
  cases ty with
  | non => cases (show u = Value.none from rx); exact PySem.W.kia_one PySem.W.kitx_none I.kIn True.intro e (fun z => nomatch z) h
  | bl y => cases (show u = Value.bool y from rx); exact PySem.W.kia_one PySem.W.kitx_bool I.kIn True.intro e (fun z => nomatch z) h
  | int i => obtain ⟨t, q⟩ := (show ∃ t, u = Value.int i t from rx); cases q; exact PySem.W.kia_one PySem.W.kitx_int I.kIn True.intro e (fun z => nomatch z) h
  | str y => obtain ⟨t, q⟩ := (show ∃ t, u = Value.str y t from rx); cases q; exact PySem.W.kia_one PySem.W.kitx_str I.kIn True.intro e (fun z => nomatch z) h
  | flt y => obtain ⟨t, q⟩ := (show ∃ t, u = Value.float y t from rx); cases q; exact PySem.W.kia_one PySem.W.kitx_float I.kIn True.intro e (fun z => nomatch z) h
  | @lst a xs ea =>
    cases (show u = Value.ref a from rx)
    obtain ⟨_, _, n, _, h1⟩ := (show ObjOk X.prog X.w H s.heap a (.lst xs) from I.hok a _ ea)
    exact PySem.W.kia_one PySem.W.kitx_list I.kIn ⟨_, h1, rfl⟩ e (fun z => nomatch z) h
  | @frz a ob xs ea =>
    cases (show u = Value.ref a from rx)
    obtain ⟨_, _, _, n, _, h1⟩ := (show ObjOk X.prog X.w H s.heap a (.frz ob (.lst xs)) from I.hok a _ ea)
    exact PySem.W.kia_one PySem.W.kitx_list I.kIn ⟨_, h1, rfl⟩ e (fun z => nomatch z) h
  | @tup a xs ea =>
    cases (show u = Value.ref a from rx)
    obtain ⟨_, _, _, p⟩ := (show ObjOk X.prog X.w H s.heap a (.tup xs) from I.hok a _ ea)
    obtain ⟨o, h1, h2, _⟩ := p
    exact PySem.W.kia_one PySem.W.kitx_tuple I.kIn ⟨o, h1, h2⟩ e (fun z => nomatch z) h
  | @dK a kvs ea =>
    cases (show u = Value.ref a from rx)
    obtain ⟨_, _, vs, _, p⟩ := (show ObjOk X.prog X.w H s.heap a (.dK kvs) from I.hok a _ ea)
    obtain ⟨o, es, ep, h1, h2, _⟩ := p
    exact PySem.W.kia_one PySem.W.kitx_dict I.kIn ⟨o, h1, h2.1⟩ e (fun z => nomatch z) h
  | @dT a kvs ea =>
    cases (show u = Value.ref a from rx)
    obtain ⟨_, _, xs, _, o, es, ep, h1, h2, _⟩ := (show ObjOk X.prog X.w H s.heap a (.dT kvs) from I.hok a _ ea)
    exact PySem.W.kia_one PySem.W.kitx_dict I.kIn ⟨o, h1, h2.1⟩ e (fun z => nomatch z) h
  | @ins a C dx fs ea cl ha hn htk hm =>
    cases (show u = Value.ref a from rx)
    obtain ⟨mA, O, _⟩ := ins_get I.hok ea
    obtain ⟨od, J, _⟩ := O.look
    exact PySem.W.kia_one (PySem.W.kitx_own (cl.get _) cl.hd ha hn htk hm) I.kIn J e (fun z => nomatch z) h
end
end L2
namespace L2
open PySem PySem.Spec PyProof.Rows
structure Room (k : Nat) (A : Around) : Prop where
  hd : A.handled = none
  dp : A.depth + 3 * k + 5 < recursionLimit
  un : A.units + 16 * k + 200 < cLine
theorem Room.mono {j k : Nat} {A : Around} (r : Room k A) (h : j ≤ k) : Room j A := ⟨r.hd, by have := r.dp; omega, by have := r.un; omega⟩
theorem Room.deeper {k : Nat} {A : Around} (r : Room (k + 1) A) (env : Env) : Room k (A.deeper env) :=
  ⟨r.hd, by have := r.dp; show A.depth + 1 + 3 * k + 5 < _; omega, by have := r.un; show A.units + 3 + 16 * k + 200 < _; omega⟩
theorem Room.in1 {k : Nat} {A : Around} (r : Room (k + 1) A) : Room k A.in1 :=
  ⟨r.hd, by have := r.dp; show A.depth + 3 * k + 5 < _; omega, by have := r.un; show A.units + 1 + 16 * k + 200 < _; omega⟩
theorem Room.depth {k : Nat} {A : Around} (r : Room k A) : A.depth < recursionLimit := by have := r.dp; omega
theorem Room.units {k : Nat} {A : Around} (r : Room k A) : A.units + 64 < cLine := by have := r.un; omega
def tNil : TA := fun _ H Q => Q [] H
def tCons (ta : TE) (tr : TA) : TA := fun σ H Q => ta σ H fun x H1 => tr σ H1 fun xs H2 => Q (x :: xs) H2
section
variable {X : Cx} {e : Expr} {es : List Expr} {te : TE} {t : TA} {pos : Pos}
theorem pa_nil : PA X [] tNil := fun _ _ _ _ H Q I h => Calls.spliced_nil ⟨[], H, I, .nil, h⟩
theorem zaak (ha : PE X e te) (hr : PA X es t) (hs : starEach (e :: es) X.env = (false, eval e X.env) :: starEach es X.env := by rfl) : PA X (e :: es) (tCons te t) := by
  intro pos pins s σ H Q I h
  rw [hs]
  show wpAny _ _ (spliced ((false, eval e X.env) :: backTo pos (starEach es X.env))) _ _ s
  refine Calls.spliced_cons (thn (ha pins s σ H _ I h) fun u s1 ⟨x, H1, I1, r1, q1⟩ => ?_)
  exact thn (hr pos pins s1 σ H1 _ I1 q1) fun us s2 ⟨xs, H2, I2, r2, q2⟩ => ⟨x :: xs, H2, I2, .cons r1 r2, q2⟩
def tTup (t : TA) : TE := fun σ H Q => t σ H fun xs H1 => xs.length ≤ sizeLine ∧ ∀ p, H1 p = none → Q (.ref p) (upd H1 p (.tup xs))
def tLst (t : TA) : TE := fun σ H Q => t σ H fun xs H1 => xs.length ≤ sizeLine ∧ ∀ p, H1 p = none → Q (.ref p) (upd H1 p (.lst xs))
theorem pe_tup {x1} (h : PA X es t) : PE X (.Tuple es x1 pos) (tTup t) := by
  intro pins s σ H Q I hq
  refine wpAny_Tuple_spliced (thn (h pos pins s σ H _ I hq) fun us s1 ⟨xs, H1, I1, r, z, q⟩ => ⟨by rw [← r.length]; exact z, ?_⟩)
  have hf : H1 s1.heap.objs.size = none := I1.hok.fresh (Nat.le_refl _)
  refine ⟨.ref s1.heap.objs.size, upd H1 s1.heap.objs.size (.tup xs), I1.laid (t' := s1.toks) (fun b u e => Heap.get?_push_of_some _ e) (Nat.le_refl _) ?_, rfl, q _ hf⟩
  exact ⟨z, us, r, ⟨_, Heap.get?_push_size _ rfl, rfl, _, rfl⟩⟩
theorem pe_lst (h : PA X es t) : PE X (.List es pos) (tLst t) := by
  intro pins s σ H Q I hq
  refine wpAny_List_spliced (thn (h pos pins s σ H _ I hq) fun us s1 ⟨xs, H1, I1, r, z, q⟩ => ⟨by rw [← r.length]; exact z, ?_⟩)
  have hf : H1 s1.heap.objs.size = none := I1.hok.fresh (Nat.le_refl _)
  refine ⟨.ref s1.heap.objs.size, upd H1 s1.heap.objs.size (.lst xs), I1.laid (t' := s1.toks) (fun b u e => Heap.get?_push_of_some _ e) (Nat.le_refl _) ?_, rfl, q _ hf⟩
  exact ⟨z, us, 0, r, Heap.get?_push_size _ rfl⟩
end
abbrev Sp := List V → Hp → VK → XK → Prop
abbrev CXT := List Env → Hp → Shared → XK → Value → Shared → Prop
structure Env0 (P : Program) (w : World) (K : PySem.W.Frag) (mg : Str → Option Value) (base : Heap) (A : Around) (outer : List Env) (s : Shared) (H : Hp) : Prop where
  frames : A.frames = some outer
  mod : Mod K mg base
  bs : ∀ b o, base.get? b = some o → s.heap.get? b = some o ∧ H b = none
  bsz : base.objs.size ≤ s.heap.objs.size
  funs : s.heap.FunFrames base outer
  frf : ∀ b ∈ frs outer, H b = none
  hok : HOk P w H s.heap
  bare : AllBare s.gens
def CE (outer : List Env) (P : Program) (w : World) (H : Hp) (s : Shared) (Q : VK) (u : Value) (s' : Shared) : Prop :=
  ∃ v H', s'.os = s.os ∧ AllBare s'.gens ∧ Un (frs outer) [] H H' s.heap s'.heap ∧ HOk P w H' s'.heap ∧ RelV v u ∧ Q v H'
def CR (CX : CXT) (outer : List Env) (P : Program) (w : World) (H : Hp) (s : Shared) (Q : VK) (E : XK) (r : Result) (s' : Shared) : Prop :=
  match r with
  | .ok (.ret u) => CE outer P w H s Q u s'
  | .ok _ => False
  | .error e => CX outer H s E e s'
structure FnOk (P : Program) (w : World) (K : PySem.W.Frag) (mg : Str → Option Value) (base : Heap) (CX : CXT) (k : Nat) (f : Addr) (fd : FuncData) (ps : List Str) (sp : Sp) : Prop where
  len : ∀ vs H Q E, sp vs H Q E → vs.length = ps.length
  run : ∀ (A : Around) (outer : List Env) (s : Shared) (H : Hp) (args : Args) (us : List Value) (vs : List V) (Q : VK) (E : XK), Room k A → Env0 P w K mg base A outer s H → BindsTo s fd args (ps.zip us) → Vals vs us → sp vs H Q E →
    codeAny (model P w) A (.call (.ref f) args) (CR CX outer P w H s Q E) s
theorem FnOk.mono {P : Program} {w : World} {K : PySem.W.Frag} {mg : Str → Option Value} {base : Heap} {CX : CXT} {j k : Nat} {f : Addr} {fd : FuncData} {ps : List Str} {sp : Sp} (F : FnOk P w K mg base CX j f fd ps sp) (h : j ≤ k) :
    FnOk P w K mg base CX k f fd ps sp := ⟨F.len, fun A outer s H args us vs Q E hr => F.run A outer s H args us vs Q E (hr.mono h)⟩
theorem FnOk.imp {P : Program} {w : World} {K : PySem.W.Frag} {mg : Str → Option Value} {base : Heap} {CX : CXT} {k : Nat} {f : Addr} {fd : FuncData} {ps : List Str} {sp sp' : Sp} (F : FnOk P w K mg base CX k f fd ps sp)
    (h : ∀ vs H Q E, sp' vs H Q E → sp vs H Q E) : FnOk P w K mg base CX k f fd ps sp' :=
  ⟨fun vs H Q E q => F.len vs H Q E (h _ _ _ _ q), fun A outer s H args us vs Q E hr he hb hv hs => F.run A outer s H args us vs Q E hr he hb hv (h _ _ _ _ hs)⟩
theorem Env0.in1 {P : Program} {w : World} {K : PySem.W.Frag} {mg : Str → Option Value} {base : Heap} {A : Around} {outer : List Env} {s : Shared} {H : Hp} (e : Env0 P w K mg base A outer s H) :
    Env0 P w K mg base A.in1 outer s H := ⟨e.frames, e.mod, e.bs, e.bsz, e.funs, e.frf, e.hok, e.bare⟩
section
variable {X : Cx} {pins : List (Addr × Obj)} {σ : St} {H : Hp} {s s' : Shared}
theorem Inv.env0 (I : Inv X pins σ H s) : Env0 X.prog X.w X.K X.mg X.base X.A X.stack s H :=
  ⟨I.ok.frames, I.ok.mod, I.bs, Nat.le_trans I.ok.bsz I.sz, I.stack, I.stkFree, I.hok, I.bare⟩
theorem Inv.after {Q : VK} {u : Value} (I : Inv X pins σ H s) (h : CE X.stack X.prog X.w H s Q u s') : EP X pins σ Q u s' := by
  obtain ⟨v, H', os, bare, un, hok, r, q⟩ := h
  obtain ⟨hh, g, d, t, os'⟩ := s'
  obtain rfl : os' = s.os := os
  exact ⟨v, H', I.call (h' := hh) (g' := g) (d' := d) (t' := t) (ch := []) un hok bare (fun b z => absurd z (by simp)), r, q⟩
end
def Binds (K : PySem.W.Frag) (fd : FuncData) (ps : List Str) (ds : List Value) : Prop :=
  ∀ (s : Shared) (us : List Value), K.In s.heap → (us ++ ds).length = ps.length → BindsTo s fd ⟨us, []⟩ (ps.zip (us ++ ds))
theorem Binds.all {K : PySem.W.Frag} {fd : FuncData} {ps : List Str} (h : ∀ us : List Value, us.length = ps.length → bindArgs fd ⟨us, []⟩ = pure (ps.zip us)) : Binds K fd ps [] := fun s us _ hl => by
  rw [List.append_nil] at hl ⊢
  exact .of_eq (h us hl)
section
variable {X : Cx} {CX : CXT} {k : Nat} {f C : Addr} {fd : FuncData} {ps : List Str} {sp : Sp} {dvs : List V} {ds : List Value} {E : XK} {x m : Str} {p pos apos : Pos} {e o : Expr} {es : List Expr} {ta : TE} {t : TA}
structure Mk (K : PySem.W.Frag) (C f : Addr) : Prop where
  makes : PySem.W.makesIn K C = true
  init : PySem.W.findIn K (.ref C) "__init__" = some (some (.ref f))
  fn : PySem.W.isFn K (.ref f) = true
  kp : PySem.W.keepIn K (.ref C) = true
end
def PK (X : Cx) (kws : List Keyword) (t : TA) : Prop :=
  ∀ (pos : Pos) (pins : List (Addr × Obj)) (s : Shared) (σ : St) (H : Hp) (Q : List V → Hp → Prop), Inv X pins σ H s → t σ H Q → wpAny (model X.prog X.w) X.A (evalAll ((backToKw pos (keywordEach kws X.env)).map (·.2))) (AP X pins σ Q) X.xe s
section
variable {X : Cx} {CX : CXT} {k : Nat} {f C : Addr} {fd : FuncData} {ps ks : List Str} {sp : Sp} {E : XK} {x m : Str} {p pos apos kpos : Pos} {e o : Expr} {es : List Expr} {kws : List Keyword} {te ta : TE} {t tk : TA} {nm : Option Str}
theorem pk_nil : PK X [] tNil := fun _ _ _ _ H Q I h => wpAny_evalAll_nil ⟨[], H, I, .nil, h⟩
theorem pk_cons (ha : PE X e te) (hr : PK X kws t) : PK X (⟨nm, e, kpos⟩ :: kws) (tCons te t) := by
  intro pos pins s σ H Q I h
  show wpAny _ _ (evalAll ((do let v ← eval e X.env; standAt pos; pure v) :: (backToKw pos (keywordEach kws X.env)).map (·.2))) _ _ s
  refine wpAny_evalAll_cons (wpAny_bind (thn (ha pins s σ H _ I h) fun u s1 ⟨x, H1, I1, r1, q1⟩ => wpAny_bind (wpAny_standAt (wpAny_pure ?_))))
  exact thn (hr pos pins s1 σ H1 _ I1 q1) fun us s2 ⟨xs, H2, I2, r2, q2⟩ => ⟨x :: xs, H2, I2, .cons r1 r2, q2⟩
structure KBinds (K : PySem.W.Frag) (fd : FuncData) (ps ks : List Str) (g : List Value → List Value → List Value) (gV : List V → List V → List V) : Prop where
  to : ∀ (s : Shared) (us ws : List Value), K.In s.heap → (g us ws).length = ps.length → BindsTo s fd ⟨us, ks.zip ws⟩ (ps.zip (g us ws))
  rel : ∀ {vs : List V} {us : List Value} {zs : List V} {ws : List Value}, Vals vs us → Vals zs ws → Vals (gV vs zs) (g us ws)
variable {g : List Value → List Value → List Value} {gV : List V → List V → List V}
end
structure FnScope (N P : List Str) (sc : Scope) : Prop where
  kind : sc.kind = .function
  co : sc.isCoroutine = false
  gen : sc.isGenerator = false
  nd : N.Nodup
  pre : N.take P.length = P
  par : ∀ x ∈ P, sc.names.lookup x = some .local ∨ sc.names.lookup x = some .cell
  nofree : ∀ y ∈ sc.names, y.2 ≠ .free
theorem zadi {kindOf : Str → Option NameKind} {x : Str} : ∀ {binds : List (Str × Value)} {m : Str → Option Value}, (∀ v, (x, v) ∉ binds) → bindL kindOf binds m x = m x
  | [], _, _ => rfl
  | (n, v) :: r, m, h => by
    unfold bindL
    rw [zadi fun w hw => h w (List.mem_cons_of_mem _ hw)]
    split
    · have : x ≠ n := by rintro rfl; exact h v List.mem_cons_self
      simp [this]
    · rfl
theorem zadj {kindOf : Str → Option NameKind} {x : Str} : ∀ {binds : List (Str × Value)} {m : Str → Option Value}, (∀ v, (x, v) ∉ binds) → bindC kindOf binds m x = m x
  | [], _, _ => rfl
  | (n, v) :: r, m, h => by
    unfold bindC
    rw [zadj fun w hw => h w (List.mem_cons_of_mem _ hw)]
    split
    · rfl
    · have : x ≠ n := by rintro rfl; exact h v List.mem_cons_self
      simp [this]
theorem zacw {kindOf : Str → Option NameKind} {x : Str} {v : Value} : ∀ {P : List Str} {vs : List Value} {i : Nat} {m : Str → Option Value}, P.Nodup → P[i]? = some x → vs[i]? = some v → kindOf x = some .local →
    bindL kindOf (P.zip vs) m x = some v
  | [], _, _, _, _, h, _, _ => by simp at h
  | _ :: _, [], _, _, _, _, h, _ => by simp at h
  | p :: P, w :: vs, 0, m, nd, h1, h2, hk => by
    simp at h1 h2; subst h1; subst h2
    show bindL kindOf ((p, w) :: P.zip vs) m p = _
    unfold bindL
    rw [zadi fun v hv => (List.nodup_cons.mp nd).1 (List.of_mem_zip hv).1, if_pos hk]
    simp
  | p :: P, w :: vs, i + 1, m, nd, h1, h2, hk => by
    show bindL kindOf ((p, w) :: P.zip vs) m x = _
    unfold bindL
    exact zacw (i := i) (List.nodup_cons.mp nd).2 (by simpa using h1) (by simpa using h2) hk
theorem zacz {kindOf : Str → Option NameKind} {x : Str} {v : Value} : ∀ {P : List Str} {vs : List Value} {i : Nat} {m : Str → Option Value}, P.Nodup → P[i]? = some x → vs[i]? = some v → kindOf x ≠ some .local →
    bindC kindOf (P.zip vs) m x = some v
  | [], _, _, _, _, h, _, _ => by simp at h
  | _ :: _, [], _, _, _, _, h, _ => by simp at h
  | p :: P, w :: vs, 0, m, nd, h1, h2, hk => by
    simp at h1 h2; subst h1; subst h2
    show bindC kindOf ((p, w) :: P.zip vs) m p = _
    unfold bindC
    rw [zadj fun v hv => (List.nodup_cons.mp nd).1 (List.of_mem_zip hv).1, if_neg hk]
    simp
  | p :: P, w :: vs, i + 1, m, nd, h1, h2, hk => by
    show bindC kindOf ((p, w) :: P.zip vs) m x = _
    unfold bindC
    exact zacz (i := i) (List.nodup_cons.mp nd).2 (by simpa using h1) (by simpa using h2) hk
def start (N : List Str) (vs : List V) : St := vs.map some ++ List.replicate (N.length - vs.length) none
def cxOf (CX : CXT) (P : Program) (w : World) (K : PySem.W.Frag) (mg : Str → Option Value) (base : Heap) (N : List Str) (qual : Str) (scope : Scope) (f : Addr) (cd : Value) (A : Around) (outer : List Env) (s : Shared) (H : Hp) (E : XK) : Cx where
  prog := P
  w := w
  K := K
  mg := mg
  base := base
  A := A.deeper (envOfC qual scope s.heap.objs.size f cd)
  N := N
  s₀ := s
  H₀ := H
  env := envOfC qual scope s.heap.objs.size f cd
  outer := outer
  stack := envOfC qual scope s.heap.objs.size f cd :: outer
  ex := []
  calm := true
  fn := fun _ => true
  pn := []
  xe := fun e s' => wpAny (model P w) (A.deeper (envOfC qual scope s.heap.objs.size f cd)) (leaving (envOfC qual scope s.heap.objs.size f cd) e) (fun _ s'' => CX outer H s E e s'') (fun e' s'' => CX outer H s E e' s'') s'
theorem zaeh {sc : Scope} {n : Nat} {x : Str} (h : sc.names.lookup x = some .cell) : ∃ c, (cellsFrom n sc.names []).lookup x = some c := by
  have q := PySem.W.cellsFrom_some sc.names n [] (.inl h)
  exact Option.isSome_iff_exists.mp q
theorem zadh {CX : CXT} {P : Program} {w : World} {K : PySem.W.Frag} {mg : Str → Option Value} {base : Heap} {N ps : List Str} {qual : Str} {scope : Scope} {f : Addr} {cd : Value} {A : Around} {outer : List Env} {s s1 : Shared} {H : Hp} {E : XK} {us : List Value} {vs : List V}
    (S : FnScope N ps scope) (hd : A.handled = none) (e0 : Env0 P w K mg base A outer s H) (hl : vs.length = ps.length) (r : Vals vs us)
    (x : InCallC s s.heap.objs.size (bindL (envOfC qual scope s.heap.objs.size f cd).kindOf (ps.zip us) fun _ => none) (cellsFrom (s.heap.objs.size + 1) scope.names []) (bindC (envOfC qual scope s.heap.objs.size f cd).kindOf (ps.zip us) fun _ => none) s1) :
    Inv (cxOf CX P w K mg base N qual scope f cd A outer s H E) [] (start N vs) H s1 := by
  have hpl : ps.length ≤ N.length := by have := congrArg List.length S.pre; rw [List.length_take] at this; omega
  obtain ⟨h1, tk, rfl, hk⟩ := x.done
  have noA : ∀ b : Addr, b ∉ (cxOf CX P w K mg base N qual scope f cd A outer s H E).ex := fun b z => absurd (show b ∈ ([] : List Addr) from z) (by simp)
  refine ⟨⟨e0.mod, S.kind, rfl, rfl, Nat.le_refl _, fun y z c h1 h2 => ?_, fun y hy => ?_, fun y c _ h => ?_, fun _ => hd, Around.frames_deeper e0.frames, .inr ⟨rfl, rfl⟩, fun b z => absurd z (noA b), e0.bs, e0.bsz, fun b _ _ => noA b, fun b z => absurd z (noA b), e0.funs, e0.frf⟩,
    rfl, e0.bare, Un.kept hk, ⟨_, x.toInCall.ns, fun i y v h1 h2 h3 => ?_⟩, fun y c h => ⟨_, x.cell y c h⟩, e0.hok.fresh (Nat.le_refl _), fun y c h => ?_, fun p hp => absurd (show p ∈ ([] : List (Addr × Obj)) from hp) (by simp), e0.hok.kept hk, ?_⟩
  · exact name_of_addr x.apart (PySem.mem_of_lookup h1) (PySem.mem_of_lookup h2)
  · have hy : scope.names.lookup y = some .cell ∨ scope.names.lookup y = some .free := hy
    rcases hy with hy | hy
    · exact zaeh hy
    · exact absurd rfl (S.nofree _ (PySem.mem_of_lookup hy))
  · exact Nat.le_of_lt (x.above y c (PySem.mem_of_lookup h))
  · have hi : i < vs.length := by
      unfold start at h2
      by_cases hi : i < vs.length
      · exact hi
      · rw [List.getElem?_append_right (by simpa using hi)] at h2
        rw [List.getElem?_replicate] at h2
        split at h2 <;> cases h2
    have ha : vs[i]? = some v := by
      unfold start at h2
      rw [List.getElem?_append_left (by simpa using hi), List.getElem?_map] at h2
      cases e : vs[i]? with
      | none => rw [e] at h2; cases h2
      | some a => rw [e] at h2; cases h2; rfl
    obtain ⟨u, hu, rv⟩ := r.get ha
    have hp : ps[i]? = some y := by
      rw [← S.pre, List.getElem?_take_of_lt (by omega)]; exact h1
    have ndP : ps.Nodup := by rw [← S.pre]; exact S.nd.sublist (List.take_sublist _ _)
    refine ⟨u, rv, ?_⟩
    rcases S.par y (List.mem_of_getElem? hp) with k | k
    · exact .inl ⟨k, zacw ndP hp hu k⟩
    · obtain ⟨c, e⟩ := zaeh (n := s.heap.objs.size + 1) k
      refine .inr ⟨.inl k, c, e, ?_⟩
      have q := x.cell y c e
      rw [zacz ndP hp hu (by show scope.names.lookup y ≠ _; rw [k]; decide)] at q
      exact q
  · exact e0.hok.fresh (Nat.le_of_lt (x.above y c (PySem.mem_of_lookup h)))
  · unfold start
    show _ = N.length
    rw [List.length_append, List.length_map, List.length_replicate]
    omega
theorem fn_of {CX : CXT} {P : Program} {w : World} {K : PySem.W.Frag} {mg : Str → Option Value} {base : Heap} {k : Nat} {f : Addr} {name qual : Str} {params : Arguments} {body : List Stmt} {scope : Scope} {dV kV doc pm cdv ct oc : Value} {an od : Option Addr}
    {osl : Array (Option Value)} {N ps : List Str} {sp : Sp} (lk : K.lookup f = some ⟨oc, od, .func (PySem.W.fnOf name qual params body scope dV kV doc pm an cdv ct), osl⟩) (hcd : PySem.W.codeIn K cdv qual = true) (S : FnScope N ps scope)
    (len : ∀ vs H Q E, sp vs H Q E → vs.length = ps.length)
    (hbody : ∀ (A : Around) (outer : List Env) (s : Shared) (H : Hp) (vs : List V) (Q : VK) (E : XK), Room k (A.deeper (envOfC qual scope s.heap.objs.size f cdv)) → sp vs H Q E →
      ∃ t, PSs (cxOf CX P w K mg base N qual scope f cdv A outer s H E) body t ∧ t { nx := fun _ H' => Q .non H', rt := Q } (start N vs) H) :
    FnOk P w K mg base CX (k + 1) f (PySem.W.fnOf name qual params body scope dV kV doc pm an cdv ct) ps sp := by
  refine ⟨len, fun A outer s H args us vs Q E hr e0 hb r hsp => ?_⟩
  have hl := len _ _ _ _ hsp
  have KX : K.In s.heap := e0.mod.kin.keeps fun b o e => (e0.bs b o e).1
  have lim : s.heap.NoLimit := e0.mod.nolimit.keeps fun b o e => (e0.bs b o e).1
  have hkind : ∀ y ∈ ps.zip us, scope.names.lookup y.1 = some .local ∨ (scope.names.lookup y.1 = some .cell ∧ ((cellsFrom (s.heap.objs.size + 1) scope.names []).lookup y.1).isSome = true) := fun ⟨n, v⟩ hy => by
    rcases S.par n (List.of_mem_zip hy).1 with q | q
    · exact .inl q
    · exact .inr ⟨q, PySem.W.cellsFrom_some _ _ _ (.inl q)⟩
  refine codeAny_call_function hr.depth (KX _ _ lk) rfl S.co S.gen rfl (PySem.W.codeRec_of KX hcd) (hb _ _ _ _ ?_)
  refine wpAny_newFunctionEnv_cells S.kind hkind fun env he s1 x => ?_
  subst he
  refine ⟨lim.keeps x.toInCall.keep, codeAny_func ?_⟩
  obtain ⟨t, ht, hq⟩ := hbody A outer s H vs Q E (hr.deeper _) hsp
  have I : Inv (cxOf CX P w K mg base N qual scope f cdv A outer s H E) [] (start N vs) H s1 := zadh S hr.hd e0 hl r x
  refine wpAny_mono (ht [] s1 (start N vs) H _ I hq) (fun fl s' hs => ?_) fun e s' hs => hs
  have fin : ∀ {σ' : St} {H' : Hp} {v : V} {u : Value}, Inv (cxOf CX P w K mg base N qual scope f cdv A outer s H E) [] σ' H' s' → RelV v u → Q v H' → CE outer P w H s Q u s' :=
    fun {σ' H' v u} J rv q => ⟨v, H', J.os, J.bare, J.base, J.hok, rv, q⟩
  cases fl with
  | ret u =>
    obtain ⟨v, σ', H', J, rv, q⟩ := hs
    exact fin J rv q
  | next =>
    obtain ⟨σ', H', J, q⟩ := hs
    exact fin (v := V.non) (u := Value.none) J rfl q
  | brk =>
    obtain ⟨_, _, _, q⟩ := hs
    exact False.elim q
  | cont =>
    obtain ⟨_, _, _, q⟩ := hs
    exact False.elim q
end L2
namespace L2
open PySem PySem.Spec PyProof.Rows
section
variable {X : Cx} {x : Str} {p pos : Pos} {e : Expr} {es : List Expr} {t : TA} {id T : String} {r : List V → Hp → VK → Prop}
def tCB (r : List V → Hp → VK → Prop) (t : TA) : TE := fun σ H Q => t σ H fun vs H1 => r vs H1 Q
theorem zacn (hc : CallR X (.builtin id) r) (hg : Gl X x) (hm : X.mg x = none) (hv : bootBuiltins x = some (.builtin id)) (ha : PA X (e :: es) t) (hn : x ≠ "__name__" := by decide) (hdb : (x == ("__debug__" : Str)) = false := by decide)
    (he : starEach (e :: es) X.env = (false, eval e X.env) :: starEach es X.env := by rfl) (hpl : (backTo pos (starEach es X.env)).any (·.1) = false := by rfl) : PE X (.Call (.Name x p) (e :: es) [] pos) (tCB r t) := by
  intro pins s σ H Q I h
  refine wpAny_Call_Name_kw (ld_blt I hg hm hv ?_ hn hdb)
  exact PyProof.Rows.callWith_builtin1 (thn (ha pos pins s σ H _ I h) fun us s1 ⟨vs, H1, I1, r1, q1⟩ => hc pins s1 σ H1 vs us Q I1 r1 q1) he hpl
theorem pe_callTy (hc : CallR X (.type T) r) (hg : Gl X x) (hm : X.mg x = none) (hv : bootBuiltins x = some (.type T)) (ha : PA X (e :: es) t) (hn : x ≠ "__name__" := by decide) (hdb : (x == ("__debug__" : Str)) = false := by decide)
    (he : starEach (e :: es) X.env = (false, eval e X.env) :: starEach es X.env := by rfl) (hpl : (backTo pos (starEach es X.env)).any (·.1) = false := by rfl) : PE X (.Call (.Name x p) (e :: es) [] pos) (tCB r t) := by
  intro pins s σ H Q I h
  refine wpAny_Call_Name_kw (ld_blt I hg hm hv ?_ hn hdb)
  exact PyProof.Rows.callWith_type1 (thn (ha pos pins s σ H _ I h) fun us s1 ⟨vs, H1, I1, r1, q1⟩ => hc pins s1 σ H1 vs us Q I1 r1 q1) he hpl
end
end L2
namespace HT
open PySem PyProof.Rows
def lexLt : List Int → List Int → Bool
  | [], [] => false
  | [], _ :: _ => true
  | _ :: _, [] => false
  | x :: xs, y :: ys => if x = y then lexLt xs ys else decide (x < y)
theorem lexLt_cons (x y : Int) (xs ys : List Int) : lexLt (x :: xs) (y :: ys) = if x = y then lexLt xs ys else decide (x < y) := rfl
theorem lexLt_nil_nil : lexLt [] [] = false := rfl
theorem zabv (y : Int) (ys : List Int) : lexLt [] (y :: ys) = true := rfl
theorem zabz (x : Int) (xs : List Int) : lexLt (x :: xs) [] = false := rfl
theorem eqAt_int (A : Around) (s : Shared) (a : Int) (t : Tok) (c : Int) (u : Tok) : ∃ e, SeqAt.EqAt A s (.int a t) (.int c u) e ∧ (e = true ↔ a = c) :=
  ⟨(a == c), SeqAt.EqAt.int_int a t c u, by simp⟩
theorem rcLt_int (A : Around) (s : Shared) (a : Int) (t : Tok) (c : Int) (u : Tok) (prog : Program) (w : World) (E : Value → Shared → Prop) (Q : Value → Shared → Prop) (h : Q (.bool (decide (a < c))) s) :
    wpAny (model prog w) A (richCompare .Lt (.int a t) (.int c u)) Q E s :=
  (PyProof.Rows.lt_int h : wpAny (model prog w) A (compareOp .Lt (.int a t) (.int c u)) Q E s)
section
open PySem.SeqAt
open PySem.AutoSeq1 (wpAny_loadPart')
open PySem.MeetsSeq PySem.MeetsSeq2 PySem.MeetsSeq3
theorem zaca (l b : Addr) (items items2 : Array Value) (n n2 : Nat) (dd dd2 : Option Addr) (sl sl2 : Array (Option Value)) (ns ms : List Int) (hi : IntsAre items.toList ns) (hj : IntsAre items2.toList ms) :
    Meets (Builtin.«tuple.__lt__» ⟨[.ref l, .ref b], []⟩)
      (fun _ R s => s.heap.get? l = some { cls := .type "tuple", dict := dd, data := .seq items n, slots := sl } ∧ s.heap.get? b = some { cls := .type "tuple", dict := dd2, data := .seq items2 n2, slots := sl2 } ∧
        R (.ok (.ret (.bool (lexLt ns ms)))) s) :=
  .of_wp fun prog w A R s h => by
    obtain ⟨hp, g, d, tk, os⟩ := s; obtain ⟨hl, hb, h⟩ := h
    have f2 := AutoSeq1.sub_tuple_tuple
    have z1 : items.size = ns.length := by rw [← hi.length]; simp
    have z2 : items2.size = ms.length := by rw [← hj.length]; simp
    wp_walk using wpAny_loadPart' hl, wpAny_loadPart' hb, wpAny_forIn_list _ (fun rest b s' => b.1 = none ∧ s' = ⟨hp, g, d, tk, os⟩ ∧ ∃ (vs ws : List Value) (ns' ms' : List Int), rest = vs.zip ws ∧
      IntsAre vs ns' ∧ IntsAre ws ms' ∧ ns'.length + items2.size = ms'.length + items.size ∧ R (.ok (.ret (.bool (lexLt ns' ms')))) ⟨hp, g, d, tk, os⟩) _
    case turn =>
      rintro ⟨y, x⟩ rest b s' ⟨hb', rfl, vs, ws, ns', ms', hz, hvi, hwi, hlen, hR⟩
      cases hvi with
      | nil => rw [List.zip_nil_left] at hz; cases hz
      | cons a t hvi' =>
        cases hwi with
        | nil => rw [List.zip_nil_right] at hz; cases hz
        | cons c u hwi' =>
          rw [List.zip_cons_cons] at hz
          injection hz with hyx hrest
          injection hyx with hy hx
          subst hy hx
          rw [lexLt_cons] at hR
          simp only [List.length_cons] at hlen
          obtain ⟨e, he, hiff⟩ := eqAt_int A.in1 ⟨hp, g, d, tk, os⟩ a t c u
          refine wpAny_bind (he prog w _ _ ?_)
          cases e with
          | true =>
            rw [if_pos (hiff.mp rfl)] at hR
            wp_walk
            exact ⟨rfl, rfl, _, _, _, _, hrest, hvi', hwi', by omega, hR⟩
          | false =>
            rw [if_neg (fun q => absurd (hiff.mpr q) Bool.false_ne_true)] at hR
            have hri := rcLt_int A.in1 ⟨hp, g, d, tk, os⟩ a t c u prog w
            wp_walk using hri
            exact ⟨_, rfl, by simpa using hR⟩
    case fin =>
      rintro ⟨b1, b2⟩ s' ⟨hb', rfl, vs, ws, ns', ms', hz, hvi, hwi, hlen, hR⟩
      simp only at hb'
      subst hb'
      have hv : lexLt ns' ms' = decide (items.size < items2.size) := by
        cases hvi with
        | nil =>
          cases hwi with
          | nil =>
            simp only [List.length_nil] at hlen
            rw [lexLt_nil_nil]
            exact (decide_eq_false (by omega)).symm
          | cons c u hw =>
            simp only [List.length_nil, List.length_cons] at hlen
            rw [zabv]
            exact (decide_eq_true (by omega)).symm
        | cons a t hv =>
          cases hwi with
          | nil =>
            simp only [List.length_nil, List.length_cons] at hlen
            rw [zabz]
            exact (decide_eq_false (by omega)).symm
          | cons c u hw =>
            rw [List.zip_cons_cons] at hz
            cases hz
      rw [hv] at hR
      wp_walk
      exact ⟨_, rfl, by simpa [Builtin.Tuple.tupleCompareSizes] using hR⟩
    case h =>
      exact ⟨rfl, rfl, items.toList, items2.toList, ns, ms, rfl, hi, hj, by omega, h⟩
end
section
variable {prog : Program} {w : World} {A : Around} {E : Value → Shared → Prop} {s : Shared}
theorem lt_tupInts {l b : Addr} {items items2 : Array Value} {ns ms : List Int} {Q : Value → Shared → Prop} (hl : IsTup s.heap l items) (hb : IsTup s.heap b items2) (hi : IntsAre items.toList ns) (hj : IntsAre items2.toList ms)
    (hu : A.units < cLine) (h : Q (.bool (lexLt ns ms)) s) : wpAny (model prog w) A (compareOp .Lt (.ref l) (.ref b)) Q E s := by
  obtain ⟨⟨cls, dd, data, sl⟩, ho, hc, n, hd⟩ := id hl
  obtain ⟨⟨cls2, dd2, data2, sl2⟩, ho2, hc2, n2, hd2⟩ := id hb
  simp only at hc hd hc2 hd2
  subst hc hd hc2 hd2
  exact richCompare_meets_room (op := .Lt) ⟨_, ho, rfl⟩ ⟨_, ho2, rfl⟩ PySem.F.slot_tuple_lt PySem.F.entry_tuple_lt (PySem.F.args_tuple_lt_2 _ _) (zaca l b items items2 n n2 dd dd2 sl sl2 ns ms hi hj)
    ⟨ho, ho2, show Value.bool (lexLt ns ms) ≠ Value.notImplemented ∧ Q (.bool (lexLt ns ms)) s from ⟨(fun x => nomatch x), h⟩⟩ hu
theorem cat_tup {t b : Addr} {vs ws : List Value} {Q : Value → Shared → Prop} (ht : IsTup s.heap t vs.toArray) (hb : IsTup s.heap b ws.toArray) (hv : vs ≠ [])
    (h1 : ws = [] → Q (.ref t) s) (h2 : ws ≠ [] → Q (.ref s.heap.objs.size) { s with heap := s.heap.push { cls := .type "tuple", data := .seq (vs ++ ws).toArray } })
    (hsz : vs.length + ws.length ≤ sizeLine) : wpAny (model prog w) A (binaryOp .Add (.ref t) (.ref b)) Q E s := by
  obtain ⟨⟨cls, dd, data, sl⟩, ho, hc, n, hd⟩ := id ht
  obtain ⟨⟨cls2, dd2, data2, sl2⟩, ho2, hc2, n2, hd2⟩ := id hb
  simp only at hc hd hc2 hd2
  subst hc hd hc2 hd2
  have e : vs.toArray ++ ws.toArray = (vs ++ ws).toArray := by simp
  by_cases hw : ws = []
  · exact concat_meets ⟨_, ho, rfl⟩ ⟨_, ho2, rfl⟩ noFill_tuple_add seq_tuple_add PySem.F.slot_tuple_add PySem.F.entry_tuple_add (PySem.F.args_tuple_add_2 _ _)
      (tuple_addW1 t b vs.toArray ws.toArray n n2 dd dd2 sl sl2 (by simpa using hv) (by simp [hw])) ⟨ho, ho2, h1 hw⟩
  · refine concat_meets ⟨_, ho, rfl⟩ ⟨_, ho2, rfl⟩ noFill_tuple_add seq_tuple_add PySem.F.slot_tuple_add PySem.F.entry_tuple_add (PySem.F.args_tuple_add_2 _ _)
      (tuple_addW2 t b vs.toArray ws.toArray n n2 dd dd2 sl sl2 (by simpa using hv) (by simpa using hw) (by rw [List.size_toArray, List.size_toArray]; exact hsz)) ⟨ho, ho2, ?_⟩
    rw [e]
    exact h2 hw
def sIx (n d : Nat) : Option Int → Nat
  | none => d
  | some v => if v < 0 then (v + (n : Int)).toNat else min v.toNat n
end
end HT
namespace L2
open PySem PySem.Spec PyProof.Rows
abbrev TO := St → Hp → (Option Int → Hp → Prop) → Prop
theorem zabf {ns : List Int} : ∀ {us : List Value}, Vals (ns.map V.int) us → IntsAre us ns := by
  induction ns with
  | nil => intro us r; rw [List.map_nil] at r; cases r; exact .nil
  | cons n ns ih =>
    intro us r
    rw [List.map_cons] at r
    cases r with
    | cons r1 r2 =>
      obtain ⟨t, e⟩ := r1
      subst e
      exact .cons n t (ih r2)
section
variable {X : Cx} {e : Expr} {te : TE} {lo hi : Option Expr} {tl th : TO} {pos p2 : Pos}
def SlR (X : Cx) (r : V → Option Int → Option Int → Hp → VK → Prop) : Prop :=
  ∀ (pins : List (Addr × Obj)) (s : Shared) (σ : St) (H : Hp) (x : V) (v vl vu : Value) (lo hi : Option Int) (sl : Addr) (Q : VK), Inv X pins σ H s → RelV x v → s.heap.IsSliceOf sl vl vu .none → IsPart vl lo → IsPart vu hi → r x lo hi H Q →
    ∃ T id, typeLookup (.type T) "__getitem__" = pure (some (.builtin id)) ∧ s.TypeIs v T ∧ wpAny (model X.prog X.w) X.A (getItem v (.ref sl)) (EP X pins σ Q) X.xe s
theorem SlR.or {r r' : V → Option Int → Option Int → Hp → VK → Prop} (h : SlR X r) (h' : SlR X r') : SlR X (fun x lo hi H Q => r x lo hi H Q ∨ r' x lo hi H Q) := by
  intro pins s σ H x v vl vu lo hi sl Q I rx hs pl pu q
  rcases q with q | q
  · exact h pins s σ H x v vl vu lo hi sl Q I rx hs pl pu q
  · exact h' pins s σ H x v vl vu lo hi sl Q I rx hs pl pu q
def cutV (xs : List V) (lo hi : Option Int) : List V := (xs.drop (HT.sIx xs.length 0 lo)).take (HT.sIx xs.length xs.length hi - HT.sIx xs.length 0 lo)
theorem zadq (xs : List V) (lo hi : Option Int) : (cutV xs lo hi).length ≤ xs.length := by
  unfold cutV
  rw [List.length_take, List.length_drop]
  omega
def rCatT (K : PySem.W.Frag) : R2 := fun x y H Q => ∃ a b xs ys, x = .ref a ∧ y = .ref b ∧ SqT K H a xs ∧ SqT K H b ys ∧ xs ≠ [] ∧ xs.length + ys.length ≤ sizeLine ∧
  (ys = [] → Q (.ref a) H) ∧ (ys ≠ [] → ∀ p, H p = none → Q (.ref p) (upd H p (.tup (xs ++ ys))))
theorem Vals.nil_iff {xs : List V} {us : List Value} (r : Vals xs us) : us = [] ↔ xs = [] := by
  cases r with
  | nil => simp
  | cons _ _ => simp
theorem op_catT : OpR X (binaryOp .Add) (rCatT X.K) := by
  intro pins s σ H x y v u Q I rx ry h
  obtain ⟨a, b, xs, ys, rfl, rfl, ha, hb, hx, hz, q1, q2⟩ := h
  cases rx
  cases ry
  obtain ⟨its, r1, p1, _⟩ := I.tuple ha
  obtain ⟨its2, r2, p2, _⟩ := I.tuple hb
  refine HT.cat_tup p1 p2 (fun z => hx (r1.nil_iff.mp z)) (fun z => ⟨.ref a, H, I, rfl, q1 (r2.nil_iff.mp z)⟩) (fun z => ?_) (by rw [← r1.length, ← r2.length]; exact hz)
  refine ⟨.ref s.heap.objs.size, _, I.laid (t' := s.toks) (o := .tup (xs ++ ys)) (fun b ob q => Heap.get?_push_of_some _ q) (Nat.le_refl _) ?_, rfl, q2 (fun w => z (r2.nil_iff.mpr w)) _ (I.hok.fresh (Nat.le_refl _))⟩
  exact ⟨by rw [List.length_append]; exact hz, _, r1.append r2, IsTup.new _ _⟩
end
end L2
namespace L2
open PySem PySem.Spec PyProof.Rows
def ixN (n : Nat) (i : Int) : Option Nat := if 0 ≤ i then (if i < n then some i.toNat else none) else if -(n : Int) ≤ i then some (i + n).toNat else none
def atI {α : Type} (xs : List α) (i : Int) : Option α := (ixN xs.length i).bind fun j => xs[j]?
theorem ixN_seq {n : Nat} {i : Int} {j : Nat} (h : ixN n i = some j) : seqIndex? i n = some j ∧ j < n ∧ -(n : Int) ≤ i ∧ i < n := by
  unfold ixN at h
  by_cases h0 : 0 ≤ i
  · rw [if_pos h0] at h
    by_cases h1 : i < n
    · rw [if_pos h1] at h
      have e : i.toNat = j := Option.some.inj h
      exact ⟨by rw [seqIndex_of h0 h1, e], by omega, by omega, h1⟩
    · rw [if_neg h1] at h; cases h
  · rw [if_neg h0] at h
    by_cases h1 : -(n : Int) ≤ i
    · rw [if_pos h1] at h
      have e : (i + n).toNat = j := Option.some.inj h
      exact ⟨by rw [seqIndex_neg (by omega) h1, e], by omega, h1, by omega⟩
    · rw [if_neg h1] at h; cases h
theorem zaem {α : Type} {xs : List α} {i : Int} {v : α} (h : atI xs i = some v) : ∃ j, seqIndex? i xs.length = some j ∧ xs[j]? = some v ∧ j < xs.length ∧ -(xs.length : Int) ≤ i ∧ i < xs.length := by
  unfold atI at h
  cases e : ixN xs.length i with
  | none => rw [e] at h; cases h
  | some j =>
    rw [e] at h
    obtain ⟨h1, h2, h3, h4⟩ := ixN_seq e
    exact ⟨j, h1, h, h2, h3, h4⟩
def zaek (b : Expr) : Prop := ∀ o i, subscripted b false o i = operate [o, i] (getItem o i)
def IxR (X : Cx) (r : R2) : Prop :=
  ∀ (value slice : Expr) (pins : List (Addr × Obj)) (s : Shared) (σ : St) (H : Hp) (x y : V) (v u : Value) (Q : VK), Inv X pins σ H s → RelV x v → RelV y u → r x y H Q →
    subscripted slice false v u = operate [v, u] (getItem v u) → wpAny (model X.prog X.w) X.A (subscriptTail value slice v u) (EP X pins σ Q) X.xe s
def MtR (X : Cx) (id : String) (r : V → List V → Hp → VK → Prop) : Prop :=
  ∀ (pins : List (Addr × Obj)) (s : Shared) (σ : St) (H : Hp) (x : V) (xs : List V) (v : Value) (us : List Value) (Q : VK), Inv X pins σ H s → RelV x v → Vals xs us → r x xs H Q →
    wpAny (model X.prog X.w) X.A (call (.builtin id) (v :: us)) (EP X pins σ Q) X.xe s
section
variable {X : Cx} {a b : Expr} {ta tb : TE} {pos : Pos}
theorem IxR.or {r r' : R2} (h : IxR X r) (h' : IxR X r') : IxR X (fun x y H Q => r x y H Q ∨ r' x y H Q) := by
  intro value slice pins s σ H x y v u Q I rx ry q hs
  rcases q with q | q
  · exact h value slice pins s σ H x y v u Q I rx ry q hs
  · exact h' value slice pins s σ H x y v u Q I rx ry q hs
theorem MtR.or {id : String} {r r' : V → List V → Hp → VK → Prop} (h : MtR X id r) (h' : MtR X id r') : MtR X id (fun x xs H Q => r x xs H Q ∨ r' x xs H Q) := by
  intro pins s σ H x xs v us Q I rx rs q
  rcases q with q | q
  · exact h pins s σ H x xs v us Q I rx rs q
  · exact h' pins s σ H x xs v us Q I rx rs q
theorem pe_ix {r : R2} (hr : IxR X r) (ha : PE X a ta) (hb : PE X b tb) (hs : zaek b) : PE X (.Subscript a b pos) (tOp r ta tb) := by
  intro pins s σ H Q I h
  exact Subscript_ (binT ha hb I h fun v u s2 x y H2 I2 rx ry q => hr a b pins s2 σ H2 x y v u Q I2 rx ry q (hs _ _))
def rIxL (K : PySem.W.Frag) : R2 := fun x y H Q => ∃ p xs i v, x = .ref p ∧ y = .int i ∧ SqL K H p xs ∧ atI xs i = some v ∧ Q v H
def rIxT (K : PySem.W.Frag) : R2 := fun x y H Q => ∃ p xs i v, x = .ref p ∧ y = .int i ∧ SqT K H p xs ∧ atI xs i = some v ∧ Q v H
def rIxS : R2 := fun x y H Q => ∃ z i c, x = .str z ∧ y = .int i ∧ z.length ≤ sizeLine ∧ atI z.cps.toList i = some c ∧ Q (.str ⟨#[c]⟩) H
theorem ix_list : IxR X (rIxL X.K) := by
  intro value slice pins s σ H x y v u Q I rx ry h hs
  obtain ⟨p, xs, i, z, rfl, rfl, hq, he, q⟩ := h
  cases rx
  obtain ⟨t, rfl⟩ := ry
  obtain ⟨its, r, pl, hz⟩ := I.list hq
  obtain ⟨j, h1, h2, h3, h4, h5⟩ := zaem he
  obtain ⟨w, ew, rw'⟩ := r.get h2
  have hl := r.length
  have hn := line63
  have fin : EP X pins σ Q w s := ⟨z, H, I, rw', q⟩
  by_cases h0 : 0 ≤ i
  · have hj : i.toNat = j := by
      rw [seqIndex_of h0 h5] at h1
      exact Option.some.inj h1
    exact item_listR pl.isList h0 (by omega) (by rw [hj]; simpa using ew) fin hs
  · have hj : (i + (its.toArray.size : Int)).toNat = j := by
      rw [seqIndex_neg (by omega) h4] at h1
      rw [List.size_toArray, ← hl]
      exact Option.some.inj h1
    exact subscriptTail_builtinR (x := w) pl.isList.typeIs slot_list_getitem.lookup
      (wpAny_getItem_list_neg (Q := fun r s' => r = w ∧ EP X pins σ Q r s') pl.isList (by omega) (by rw [List.size_toArray] <;> omega) (by omega) (by rw [hj]; simpa using ew) ⟨rfl, fin⟩) hs
theorem ix_tup : IxR X (rIxT X.K) := by
  intro value slice pins s σ H x y v u Q I rx ry h hs
  obtain ⟨p, xs, i, z, rfl, rfl, hq, he, q⟩ := h
  cases rx
  obtain ⟨t, rfl⟩ := ry
  obtain ⟨its, r, pl, hz⟩ := I.tuple hq
  obtain ⟨j, h1, h2, h3, h4, h5⟩ := zaem he
  obtain ⟨w, ew, rw'⟩ := r.get h2
  have hl := r.length
  have hn := line63
  have fin : EP X pins σ Q w s := ⟨z, H, I, rw', q⟩
  exact subscriptTail_builtinR (x := w) pl.typeIs slot_tuple_getitem.lookup
    (getItem_tuple (j := j) (Q := fun r s' => r = w ∧ EP X pins σ Q r s') pl (by omega) (by omega) (by rw [List.size_toArray, ← hl]; exact h1) (by simpa using ew) ⟨rfl, fin⟩) hs
theorem ix_str : IxR X rIxS := by
  intro value slice pins s σ H x y v u Q I rx ry h hs
  obtain ⟨z, i, c, rfl, rfl, hz, he, q⟩ := h
  obtain ⟨t, rfl⟩ := rx
  obtain ⟨t', rfl⟩ := ry
  obtain ⟨j, h1, h2, h3, h4, h5⟩ := zaem he
  have hl : z.cps.toList.length = z.length := by simp [Str.length]
  rw [hl] at h1 h4 h5
  have hn := line63
  exact tail_any (typeIs_str s z t) slot_str_getitem.lookup (getItem_str (c := c) (by
    have e1 : decide (i < -(2 ^ 63 : Int)) = false := decide_eq_false (by omega)
    have e2 : decide (i ≥ 2 ^ 63) = false := decide_eq_false (by omega)
    rw [e1, e2, Bool.or_false]) (by rw [h1]; simpa using h2) ⟨.str ⟨#[c]⟩, H, I.tok _, ⟨_, rfl⟩, q⟩) hs
def rIx (K : PySem.W.Frag) : R2 := fun x y H Q => rIxL K x y H Q ∨ rIxT K x y H Q ∨ rIxS x y H Q
theorem ix_seq : IxR X (rIx X.K) := ix_list.or (ix_tup.or ix_str)
theorem zaet (its : List Value) (n j : Nat) (u : Value) : Obj.mapSeq (·.setIfInBounds j u) { cls := .type "list", data := .seq its.toArray n } = { cls := .type "list", data := .seq (its.set j u).toArray n } := by
  simp [Obj.mapSeq]
theorem Inv.lst {pins : List (Addr × Obj)} {σ : St} {H : Hp} {s : Shared} {p : Addr} {xs : List V} (I : Inv X pins σ H s) (h : H p = some (.lst xs)) :
    ∃ (its : List Value) (n : Nat), Vals xs its ∧ s.heap.get? p = some { cls := .type "list", data := .seq its.toArray n } ∧ xs.length ≤ sizeLine := by
  obtain ⟨z, its, n, r, e⟩ := I.hok p _ h
  exact ⟨its, n, r, e, z⟩
theorem Inv.lstUpd {pins : List (Addr × Obj)} {σ : St} {H : Hp} {s : Shared} {p : Addr} {xs ys : List V} {its its' : List Value} {n n' : Nat} {f : Obj → Obj} (I : Inv X pins σ H s) (h : H p = some (.lst xs))
    (ho : s.heap.get? p = some { cls := .type "list", data := .seq its.toArray n }) (hf : f { cls := .type "list", data := .seq its.toArray n } = { cls := .type "list", data := .seq its'.toArray n' }) (r : Vals ys its') (hz : ys.length ≤ sizeLine) (t : Nat) :
    Inv X pins σ (upd H p (.lst ys)) { s with heap := s.heap.update p f, toks := t } := by
  have e : (s.heap.update p f).get? p = some { cls := .type "list", data := .seq its'.toArray n' } := by
    rw [Heap.get?_update_self f ho (by rw [hf] <;> rfl), hf]
  refine I.write (x := p) (e := p) (by rw [h]; trivial) (.inl rfl) (fun b u hb q => (Heap.get?_update_other _ _ (Ne.symm hb)).trans q) ⟨_, e⟩ ?_
  exact ⟨hz, its', n', r, e⟩
def rSetL : V → V → V → Hp → (Hp → Prop) → Prop := fun o i v H Q => ∃ p xs k j, o = .ref p ∧ i = .int k ∧ H p = some (.lst xs) ∧ ixN xs.length k = some j ∧ Q (upd H p (.lst (xs.set j v)))
theorem set_list : PSet X rSetL := by
  intro pins s σ H o i v ov iv u Q I ro ri rv h
  obtain ⟨p, xs, k, j, rfl, rfl, hp, hj, q⟩ := h
  cases ro
  obtain ⟨t, rfl⟩ := ri
  obtain ⟨its, n, r, ho, hz⟩ := I.lst hp
  obtain ⟨h1, h2, h3, h4⟩ := ixN_seq hj
  have hl := r.length
  have hn := line63
  have I' : Inv X pins σ (upd H p (.lst (xs.set j v))) { s with heap := s.heap.update p (Obj.mapSeq (·.setIfInBounds j u)) } :=
    I.lstUpd hp ho (zaet its n j u) (r.set rv j) (by rw [List.length_set]; exact hz) s.toks
  by_cases h0 : 0 ≤ k
  · have hk : k.toNat = j := by
      rw [seqIndex_of h0 h4] at h1
      exact Option.some.inj h1
    exact PySem.W.ki_setAt ho h0 (by omega) (by rw [List.size_toArray, ← hl]; exact h4) (by rw [hk]; exact ⟨_, I', q⟩)
  · have hk : (k + (its.toArray.size : Int)).toNat = j := by
      rw [seqIndex_neg (by omega) h3] at h1
      rw [List.size_toArray, ← hl]
      exact Option.some.inj h1
    exact PySem.W.ki_setBack ho (by omega) (by rw [List.size_toArray, ← hl]; exact h3) (by omega) (by rw [hk]; exact ⟨_, I', q⟩)
theorem zacs (lo hi : Option Int) (n : Nat) : (sliceBounds lo hi none n).1 = ((HT.sIx n 0 lo : Nat) : Int) ∧ (sliceBounds lo hi none n).2.1 = ((HT.sIx n n hi : Nat) : Int) ∧ (sliceBounds lo hi none n).2.2 = 1 := by
  refine ⟨?_, ?_, rfl⟩
  · cases lo with
    | none => simp [sliceBounds, HT.sIx]
    | some i =>
      simp only [sliceBounds, HT.sIx, Option.getD_none, show (1 : Int) > 0 by decide, if_true]
      by_cases h : i < 0
      · simp only [h, if_true] <;> omega
      · simp only [h, if_false] <;> omega
  · cases hi with
    | none => simp [sliceBounds, HT.sIx]
    | some i =>
      simp only [sliceBounds, HT.sIx, Option.getD_none, show (1 : Int) > 0 by decide, if_true]
      by_cases h : i < 0
      · simp only [h, if_true] <;> omega
      · simp only [h, if_false] <;> omega
theorem zab3 (its : List Value) (lo hi : Option Int) : slicePick its.toArray lo hi none = ((its.drop (HT.sIx its.length 0 lo)).take (HT.sIx its.length its.length hi - HT.sIx its.length 0 lo)).toArray := by
  obtain ⟨h1, h2, h3⟩ := zacs lo hi its.toArray.size
  unfold slicePick
  rw [h1, h2, h3]
  simp only [sliceRange_one, pick_run, List.size_toArray] <;> rfl
def rSlL (K : PySem.W.Frag) : V → Option Int → Option Int → Hp → VK → Prop := fun x lo hi H Q => ∃ a xs, x = .ref a ∧ SqL K H a xs ∧ ∀ p, H p = none → Q (.ref p) (upd H p (.lst (cutV xs lo hi)))
theorem sl_list : SlR X (rSlL X.K) := by
  intro pins s σ H x v vl vu lo hi sl Q I rx hs pl pu h
  obtain ⟨a, xs, rfl, hx, q⟩ := h
  cases rx
  obtain ⟨its, r, ht, hz⟩ := I.list hx
  have hlen := r.length
  refine ⟨"list", _, slot_list_getitem.lookup, ht.isList.typeIs, ?_⟩
  refine wpAny_getItem_list_slice ht.isList hs pl pu .none (by simp) ?_ (by rw [List.size_toArray] <;> omega)
  rw [zab3, ← hlen]
  refine ⟨.ref s.heap.objs.size, _, I.laid (t' := s.toks) (o := .lst (cutV xs lo hi)) (fun b ob q => Heap.get?_push_of_some _ q) (Nat.le_refl _) ?_, rfl, q _ (I.hok.fresh (Nat.le_refl _))⟩
  exact ⟨Nat.le_trans (zadq xs lo hi) hz, _, 0, (r.drop (HT.sIx xs.length 0 lo)).take (HT.sIx xs.length xs.length hi - HT.sIx xs.length 0 lo), Heap.get?_push_size _ rfl⟩
theorem zacm : CallR X (.builtin "len") (fun xs H Q => ∃ p ys, xs = [.ref p] ∧ (SqL X.K H p ys ∨ SqT X.K H p ys) ∧ Q (.int ys.length) H) := by
  intro pins s σ H xs us Q I r h
  obtain ⟨p, ys, rfl, hq, q⟩ := h
  obtain ⟨u, rfl, rx⟩ := vals1 r
  cases rx
  have hn := line63
  rcases hq with hq | hq
  · obtain ⟨its, r', pl, hz⟩ := I.list hq
    have hlen := r'.length
    exact Calls.call_len_list pl.isList (by simp only [List.size_toArray] <;> omega) ⟨.int ys.length, H, I.tok _, ⟨s.toks + 1, by rw [List.size_toArray, hlen]⟩, q⟩
  · obtain ⟨its, r', pl, hz⟩ := I.tuple hq
    have hlen := r'.length
    exact len_tuple pl (by simp only [List.size_toArray] <;> omega) ⟨.int ys.length, H, I.tok _, ⟨s.toks + 1, by rw [List.size_toArray, hlen]⟩, q⟩
theorem CallR.or {f : Value} {r r' : List V → Hp → VK → Prop} (h : CallR X f r) (h' : CallR X f r') : CallR X f (fun xs H Q => r xs H Q ∨ r' xs H Q) := by
  intro pins s σ H xs us Q I rs q
  rcases q with q | q
  · exact h pins s σ H xs us Q I rs q
  · exact h' pins s σ H xs us Q I rs q
theorem zack : CallR X (.type "list") (fun xs H Q => ∃ p ys, xs = [.ref p] ∧ (SqL X.K H p ys ∨ SqT X.K H p ys) ∧ ∀ l, H l = none → Q (.ref l) (upd H l (.lst ys))) := by
  intro pins s σ H xs us Q I r h
  obtain ⟨p, ys, rfl, hq, q⟩ := h
  obtain ⟨u, rfl, rx⟩ := vals1 r
  cases rx
  have fin : ∀ (its : List Value), Vals ys its → ys.length ≤ sizeLine → ∀ (h' : Heap) (c' : Nat), (∀ b o', s.heap.get? b = some o' → h'.get? b = some o') →
      h'.get? s.heap.objs.size = some { cls := .type "list", dict := none, data := .seq its.toArray c', slots := #[] } → EP X pins σ Q (.ref s.heap.objs.size) { s with heap := h' } := fun its r' hz h' c' kp e =>
    ⟨.ref s.heap.objs.size, _, I.laid (t' := s.toks) kp (Nat.le_refl _) (show ObjOk X.prog X.w _ h' _ (.lst ys) from ⟨hz, its, c', r', e⟩), rfl, q _ (I.hok.fresh (Nat.le_refl _))⟩
  rcases hq with hq | hq
  · obtain ⟨its, r', pl, hz⟩ := I.list hq
    have hlen := r'.length
    obtain ⟨o, ho, hc, n, hd⟩ := pl.isList
    exact call_list_seq p (.inl rfl) ho hc hd (fun h' c' kp e => fin its r' hz h' c' kp e) (by simp only [List.size_toArray] <;> omega)
  · obtain ⟨its, r', pl, hz⟩ := I.tuple hq
    have hlen := r'.length
    obtain ⟨o, ho, hc, n, hd⟩ := pl
    exact call_list_seq p (.inr rfl) ho hc hd (fun h' c' kp e => fin its r' hz h' c' kp e) (by simp only [List.size_toArray] <;> omega)
def tyV (K : PySem.W.Frag) (T : String) (x : V) (H : Hp) : Prop := match x with
  | .str _ => T = "str"
  | .int _ => T = "int"
  | .ref p => (T = "list" ∧ ∃ xs, SqL K H p xs) ∨ (T = "tuple" ∧ ∃ o, K.lookup p = some o ∧ o.cls = .type "tuple" ∧ o.dict = none) ∨
      (T = "dict" ∧ ((∃ kvs, H p = some (.dK kvs)) ∨ ∃ kvs, H p = some (.dT kvs))) ∨ (T = "set" ∧ ∃ S n, H p = some (.set S n))
  | _ => False
theorem tyV_is {pins : List (Addr × Obj)} {σ : St} {H : Hp} {s : Shared} {T : String} {x : V} {v : Value} (I : Inv X pins σ H s) (r : RelV x v) (ty : tyV X.K T x H) :
    s.TypeIs v T ∧ ∀ a, v = .ref a → ∃ ob, s.heap.get? a = some ob ∧ ob.dict = none := by
  cases x with
  | str z =>
    obtain ⟨t, rfl⟩ := r
    cases (show T = "str" from ty)
    exact ⟨typeIs_str s z t, fun _ e => nomatch e⟩
  | int i =>
    obtain ⟨t, rfl⟩ := r
    cases (show T = "int" from ty)
    exact ⟨typeIs_int s i t, fun _ e => nomatch e⟩
  | ref p =>
    cases r
    rcases ty with ⟨rfl, xs, hq⟩ | ⟨rfl, o, hk, hc, hd⟩ | ⟨rfl, hk⟩ | ⟨rfl, S, n, hk⟩
    · obtain ⟨its, _, pl, _⟩ := I.list hq
      refine ⟨pl.isList.typeIs, fun a e => ?_⟩
      cases e
      obtain ⟨o, n, e, c, hd, _⟩ := pl
      exact ⟨o, e, hd⟩
    · refine ⟨⟨o, I.kIn p o hk, hc⟩, fun a e => ?_⟩
      cases e
      exact ⟨o, I.kIn _ o hk, hd⟩
    · have z : ∃ o, s.heap.get? p = some o ∧ o.ExactDict := by
        rcases hk with ⟨kvs, hk⟩ | ⟨kvs, hk⟩
        · obtain ⟨_, _, _, _, o, _, _, e, ex, _⟩ := I.hok p _ hk
          exact ⟨o, e, ex⟩
        · obtain ⟨_, _, _, _, o, _, _, e, ex, _⟩ := I.hok p _ hk
          exact ⟨o, e, ex⟩
      obtain ⟨o, e, ex⟩ := z
      refine ⟨⟨o, e, ex.1⟩, fun a e2 => ?_⟩
      cases e2
      exact ⟨o, e, ex.2.1⟩
    · obtain ⟨o, _, _, _, e, ex, _⟩ := I.hok p _ hk
      refine ⟨⟨o, e, ex.1⟩, fun a e2 => ?_⟩
      cases e2
      exact ⟨o, e, ex.2.1⟩
  | _ => exact False.elim ty
def tBM (K : PySem.W.Frag) (T : String) (r : V → List V → Hp → VK → Prop) (to : TE) (t : TA) : TE := fun σ H Q => to σ H fun x H1 => tyV K T x H1 ∧ t σ H1 fun xs H2 => r x xs H2 Q
variable {o e : Expr} {es : List Expr} {to : TE} {t : TA} {name : Str} {apos cpos : Pos} {T id : String} {r : V → List V → Hp → VK → Prop}
theorem pe_bm (pa : PlainAttrs T) (slot : Slot T name id) (hty : typeOf (.builtin id) = pure (.type "method_descriptor")) (hm : MtR X id r) (ho : PE X o to) (ha : PA X (e :: es) t)
    (hbase : attributeBase o name X.env (eval o X.env) = eval o X.env := by rfl)
    (hfew : ((backTo cpos (starEach (e :: es) X.env)).all (fun x => !x.1) && (backToKw cpos (keywordEach [] X.env)).all (fun x => x.1.isSome)
      && decide ((e :: es).length + ([] : List Keyword).length + (if ([] : List Keyword).isEmpty then 0 else 1) < 30)) = true := by rfl)
    (hline : (apos.endLine == cpos.line) = true := by rfl) (hs : starEach (e :: es) X.env = (false, eval e X.env) :: starEach es X.env := by rfl) (hplain : (backTo cpos (starEach es X.env)).any (·.1) = false := by rfl) :
    PE X (.Call (.Attribute o name apos) (e :: es) [] cpos) (tBM X.K T r to t) := by
  intro pins s σ H Q I h
  refine wpAny_Call_method_late hbase hfew hline rfl (thn (ho pins s σ H _ I h) fun v s1 ⟨x, H1, I1, r1, ty, q1⟩ => ?_)
  obtain ⟨h1, h2⟩ := tyV_is I1 r1 ty
  refine ⟨T, id, pa, slot, hty, h1, h2, ?_⟩
  have hA := ha cpos pins s1 σ H1 _ I1 q1
  rw [hs] at hA ⊢
  refine Calls.callWith_builtin (by show (false || (backTo cpos (starEach es X.env)).any (·.1)) = false; rw [hplain] <;> rfl) (Calls.evalArgs_plain ?_)
  exact thn hA fun us s2 ⟨vs, H2, I2, r2, q2⟩ => hm pins s2 σ H2 x vs v us Q I2 r1 r2 q2
end
end L2
namespace L2
open PySem PySem.Spec PyProof.Rows
def MtM (X : Cx) (id : String) (r : V → List V → Hp → VK → Prop) : Prop :=
  ∀ (pins : List (Addr × Obj)) (s : Shared) (σ : St) (H : Hp) (x : V) (xs : List V) (v : Value) (us : List Value) (Q : VK), Inv X pins σ H s → RelV x v → Vals xs us → r x xs H Q →
    wpAny (model X.prog X.w) X.A (call (.builtin id) (v :: us)) (EP X pins σ Q) X.xe s
theorem Vals.one : ∀ {x : V} {us : List Value}, Vals [x] us → ∃ u, us = [u] ∧ RelV x u
  | _, _, .cons r .nil => ⟨_, rfl, r⟩
theorem Vals.two : ∀ {x y : V} {us : List Value}, Vals [x, y] us → ∃ u v, us = [u, v] ∧ RelV x u ∧ RelV y v
  | _, _, _, .cons r (.cons q .nil) => ⟨_, _, rfl, r, q⟩
theorem Vals.zero : ∀ {us : List Value}, Vals [] us → us = []
  | _, .nil => rfl
theorem Vals.dropLast {xs : List V} {us : List Value} (h : Vals xs us) : Vals xs.dropLast us.dropLast := by
  induction h with
  | nil => exact .nil
  | cons r t ih =>
    cases t with
    | nil => exact .nil
    | cons q t' => exact .cons r ih
theorem Vals.reverse {xs : List V} {us : List Value} (h : Vals xs us) : Vals xs.reverse us.reverse := by
  induction h with
  | nil => exact .nil
  | cons r t ih => rw [List.reverse_cons, List.reverse_cons]; exact Vals.append ih (.cons r .nil)
section
variable {X : Cx} {pins : List (Addr × Obj)} {σ : St} {H : Hp} {s : Shared} {l b : Addr} {xs ys zs : List V}
theorem Inv.lset {its its' : List Value} {n : Nat} {f : Array Value → Array Value} {t' : Nat} (I : Inv X pins σ H s) (hH : H l = some (.lst xs))
    (e : s.heap.get? l = some { cls := .type "list", data := .seq its.toArray n }) (hf : f its.toArray = its'.toArray) (hv : Vals ys its') (hz : ys.length ≤ sizeLine) :
    Inv X pins σ (upd H l (.lst ys)) { s with heap := s.heap.update l (Obj.mapSeq f), toks := t' } := by
  have q := PySem.IsL.update e f
  rw [hf] at q
  refine I.write (x := l) (e := l) (by rw [hH]; exact trivial) (.inl rfl) (fun b' u hb hu => (Heap.get?_update_other s.heap (Obj.mapSeq f) (Ne.symm hb)).trans hu) ⟨_, q⟩ ?_
  exact ⟨hz, its', _, hv, q⟩
theorem Inv.lnew {its : List Value} {t' : Nat} (I : Inv X pins σ H s) (hv : Vals ys its) (hz : ys.length ≤ sizeLine) :
    Inv X pins σ (upd H s.heap.objs.size (.lst ys)) { s with heap := s.heap.push { cls := .type "list", data := .seq its.toArray }, toks := t' } :=
  I.laid (fun _ _ q => Heap.get?_push_of_some _ q) (Nat.le_refl _) ⟨hz, its, 0, hv, Heap.get?_push_size _ rfl⟩
theorem Inv.fresh (I : Inv X pins σ H s) : H s.heap.objs.size = none := I.hok.fresh (Nat.le_refl _)
theorem Inv.lstM (I : Inv X pins σ H s) (hH : H l = some (.lst xs)) : xs.length ≤ sizeLine ∧ ∃ (its : List Value) (n : Nat), Vals xs its ∧ xs.length = its.length ∧ s.heap.get? l = some { cls := .type "list", data := .seq its.toArray n } := by
  obtain ⟨z, its, n, r, e⟩ := I.hok l _ hH
  exact ⟨z, its, n, r, r.length, e⟩
end
section
variable {X : Cx}
def rAppend : V → List V → Hp → VK → Prop := fun x vs H Q => ∃ l xs y, x = .ref l ∧ vs = [y] ∧ H l = some (.lst xs) ∧ xs.length < sizeLine ∧ Q .non (upd H l (.lst (xs ++ [y])))
theorem zadl : MtM X "list.append" rAppend := by
  intro pins s σ H x vs v us Q I rx rv h
  obtain ⟨l, xs, y, rfl, rfl, hH, hz, q⟩ := h
  cases rx
  obtain ⟨u, rfl, ru⟩ := rv.one
  obtain ⟨z, its, n, r, hl, e⟩ := I.lstM hH
  refine call_meets F.slot_list_append ⟨_, e, rfl⟩ F.entry_list_append (F.args_list_append_2 _ _) (PySem.list_append l its.toArray n u (by rw [List.size_toArray]; omega)) ⟨e, ?_⟩
  refine ⟨.non, _, I.lset (its' := its ++ [u]) hH e (by simp) (r.append (.cons ru .nil)) ?_, rfl, q⟩
  rw [List.length_append, List.length_singleton]
  omega
end
section
variable {prog : Program} {w : World} {A : Around} {E : Value → Shared → Prop} {s : Shared}
end
section
variable {X : Cx}
end
end L2
namespace Att
open PySem PySem.W PySem.Calls PyProof.Rows
theorem zabo {P : Params} {h : Heap} : ∀ (ns : List Int) (vs : List Value), WellAll P h vs (ns.map WData.int) → IntsAre vs ns := by
  intro ns
  induction ns with
  | nil =>
    intro vs w
    rw [List.map_nil] at w
    cases w
    exact .nil
  | cons n ns ih =>
    intro vs w
    rw [List.map_cons] at w
    cases w with
    | cons a b =>
      cases a
      exact .cons _ _ (ih _ b)
theorem script_of {l : OpenLaw} {n : Nat} (hn : l.most = some n) {P : Params} {h : Heap} {args : List WData} {vals : List Value}
    (hpre : l.row.toRowW.claim.pre args = true) (hwl : WellAll P h vals args) :
    ∃ a vs ns, vals = [Value.ref a] ∧ args = [WData.list (ns.map WData.int)] ∧ h.get? a = some { cls := .type "list", data := .seq vs.toArray } ∧ IntsAre vs ns ∧ ns.length ≤ n := by
  have hsh : WShape.hasAll [] args [.list .int] = true := (pre_splitW hpre).1
  have hc : l.pre.holds [] { args := args } = true := (pre_splitW hpre).2
  obtain ⟨d, r, rfl, h1, h2⟩ := hasAllW_cons hsh
  obtain rfl := hasAllW_nil h2
  obtain ⟨xs, rfl, h3⟩ := hasW_list h1
  obtain ⟨ns, rfl⟩ := items_int h3
  have hlen : ns.length ≤ n := by
    unfold OpenLaw.pre at hc
    have h4 : (WTm.not (.lt (.lit (.int (n : Int))) (.len (.arg 0)))).holds [] { args := [.list (ns.map .int)] } = true := by
      have h4 := (holds_andW hc).1
      rw [hn] at h4
      exact h4
    have h5 := condW_of h4 (w_not (w_lt w_lit (w_len_list (w_arg rfl))))
    rw [List.length_map] at h5
    refine Nat.le_of_not_lt fun q => ?_
    have q' : (n : Int) < ((ns.length : Nat) : Int) := by omega
    first
      | (rw [decide_eq_true q'] at h5; exact absurd h5 (by decide))
      | (simp at h5; omega)
  cases hwl with
  | cons w1 w2 =>
    cases w2
    cases w1 with
    | list ho hall => exact ⟨_, _, ns, rfl, rfl, ho, zabo ns _ hall, hlen⟩
theorem post_true (l : OpenLaw) (args : List WData) : l.row.toRowW.claim.post args (.bool true) args = true :=
  postW_of (r := l.row.toRowW) (X := (true == true))
    (show WShape.has [] (.bool true) .bool = true by first | rfl | decide | simp [WShape.has, WShape.arms, WShape.armsAll])
    (show (WTm.eq .res (.lit (.bool true))).value [] { args := args, res := some (.bool true), after := args } = some (.bool (true == true)) from w_eq_bool (w_res rfl) w_lit) rfl
theorem attach_call {l : OpenLaw} {n : Nat} {q : Program} {loose : List Str} {XP : (Str → Option Value) → Heap → Prop} {YP : World → Heap → Prop} {d : DefRec}
    (hn : l.most = some n) (hdf : d.params.defaults = [])
    (call : ∀ (w : World) (s₀ s₁ : Shared) (mg mb : Str → Option Value) (fa : Addr) (o : Obj) (pm cd doc : Value) (a : Addr) (vs : List Value) (ns : List Int),
      Ground q loose [] XP w s₀ mg mb s₁.heap → YP w s₁.heap →
      s₁.heap.get? fa = some o → o.data = .func (docDef d.name d.params d.body d.scope pm cd doc) → s₁.heap.CodeRec cd d.name → mg d.name = some (.ref fa) →
      s₁.heap.get? a = some { cls := .type "list", data := .seq vs.toArray } → IntsAre vs ns → ns.length ≤ n → s₁.gens = #[] →
      codeAny (model l.prog w) callerA (.call (.ref fa) ⟨[.ref a], []⟩) (fun r s' => r = .ok (.ret (.bool true)) ∧ OldK s₁.heap s'.heap ∧ s'.os = s₁.os ∧ AllBare s'.gens) s₁) :
    WalkO q loose XP YP l.row.toRowW d [] (fun f vs => PySem.call f vs) := by
  intro w s₀ s₁ mg mb G Y fa o pm cd doc dV kV ho hd hcd hD hmg hg args vals as hpre hlay hrd hwl hlo
  obtain rfl : dV = .none := Dflts.none hD hdf
  obtain rfl : kV = .none := Dflts.noKw hD
  obtain ⟨a, vs, ns, rfl, rfl, hobj, hints, hlen⟩ := script_of hn hpre hwl
  refine enter_call (codeAny_mono (call w s₀ s₁ mg mb fa o pm cd doc a vs ns G Y ho (fd_plain hd) hcd hmg hobj hints hlen hg) fun r s' hq => ?_)
  obtain ⟨rfl, h2, h3, h4⟩ := hq
  exact ⟨.inl ⟨.bool true, .bool true, [], rfl, fun _ => rfl, .bool true, post_true l _, fun _ => ⟨List.Pairwise.nil, fun _ hm => (nomatch hm)⟩⟩, h2, h3, h4⟩
section
variable {prog : Program} {w : World} {A : Around} {E : Value → Shared → Prop} {s : Shared} {K : Frag}
def ledger (h : Heap) (L d : Addr) : List (Addr × Obj) := (List.range h.objs.size).filterMap fun a => if a = L ∨ a = d then none else (h.get? a).map fun o => (a, o)
end
end Att
namespace L2
open PySem PySem.Spec PyProof.Rows
theorem zabx : ∀ {vs : List Value} {ns : List Int}, IntsAre vs ns → Vals (ns.map V.int) vs
  | _, _, .nil => .nil
  | _, _, .cons n t h => .cons ⟨t, rfl⟩ (zabx h)
def Only (H : Hp) : Prop := ∀ b, H b = none ∨ ∃ o xs, H b = some (.frz o (.lst xs))
theorem law_call {P : Program} {w : World} {K : PySem.W.Frag} {mg mb : Str → Option Value} {CX : CXT} {k : Nat} {fa a : Addr} {fd : FuncData} {x : Str} {sp : Sp} {s₁ : Shared} {vs : List Value} {ns : List Int}
    (KX : K.In s₁.heap) (hns : s₁.heap.Ns mainGlobals mg) (hb : s₁.heap.Ns builtinsNs mb) (hbb : ∀ x : Str, x ≠ "__name__" → mb x = bootBuiltins x) (hlim : s₁.heap.NoLimit) (hg : s₁.gens = #[])
    (ha : s₁.heap.get? a = some { cls := .type "list", data := .seq vs.toArray }) (hi : IntsAre vs ns) (hl : ns.length ≤ sizeLine) (hr : Room k callerA)
    (F : ∀ base : Heap, K.In base → base.Ns mainGlobals mg → FnOk P w K mg base CX k fa fd [x] sp) (hbind : ∀ (s : Shared) (u : Value), BindsTo s fd ⟨[u], []⟩ [(x, u)])
    (hsp : ∀ H : Hp, Only H → SqL K H a (ns.map V.int) → sp [.ref a] H (fun v _ => v = .bl true) fun _ _ _ => False)
    (hCX : ∀ H e s', CX [] H s₁ (fun _ _ _ => False) e s' → False) :
    codeAny (model P w) callerA (.call (.ref fa) ⟨[.ref a], []⟩) (fun r s' => r = .ok (.ret (.bool true)) ∧ OldK s₁.heap s'.heap ∧ s'.os = s₁.os ∧ AllBare s'.gens) s₁ := by
  have rv := zabx hi
  have lenV := hi.length
  have core : ∀ H : Hp, Only H → SqL K H a (ns.map V.int) → HOk P w H s₁.heap → (∀ b, H b ≠ none → b = a) → (H a ≠ none → K.lookup a = none) →
      codeAny (model P w) callerA (.call (.ref fa) ⟨[.ref a], []⟩) (fun r s' => r = .ok (.ret (.bool true)) ∧ OldK s₁.heap s'.heap ∧ s'.os = s₁.os ∧ AllBare s'.gens) s₁ := by
    intro H hO hS hok hA hK
    have base_of : ∀ {b : Addr} {o : Obj}, s₁.heap.get? b = some o → H b = none → (hidT s₁.heap H).get? b = some o := fun e n => zad4 e n
    have noA : ∀ {b : Addr} {o : Obj} {es : Array DictEntry} {ep : Nat}, s₁.heap.get? b = some o → o.data = .dict es ep → H b = none := fun {b o es ep} e d => by
      cases q : H b with
      | none => rfl
      | some u =>
        have e' : b = a := hA b (by rw [q]; simp)
        subst e'
        rw [ha] at e; cases e
        have d' : Data.seq vs.toArray _ = Data.dict es ep := d
        cases d'
    have nsK : ∀ {b : Addr} {m : Str → Option Value}, s₁.heap.Ns b m → (hidT s₁.heap H).Ns b m := fun {b m} ⟨o, es, ep, e, d, r⟩ => ⟨o, es, ep, base_of e (noA e d), d, r⟩
    have hKb : K.In (hidT s₁.heap H) := fun b o e => base_of (KX b o e) (by
      cases q : H b with
      | none => rfl
      | some u =>
        have e' : b = a := hA b (by rw [q]; simp)
        subst e'
        rw [hK (by rw [q]; simp)] at e; cases e)
    have hM : Mod K mg (hidT s₁.heap H) := ⟨hKb, nsK hns, ⟨mb, nsK hb, hbb⟩, let ⟨mc, h1, h2⟩ := hlim; ⟨mc, nsK h1, h2⟩⟩
    have e0 : Env0 P w K mg (hidT s₁.heap H) callerA [] s₁ H := ⟨rfl, hM, fun b o e => of_hidT e, Nat.le_of_eq (zac2 _ _), trivial, fun b hb => absurd (show b ∈ ([] : List Addr) from hb) (by simp), hok, .of_eq hg⟩
    refine codeAny_mono ((F _ hKb (nsK hns)).run callerA [] s₁ H ⟨[.ref a], []⟩ [.ref a] [.ref a] _ _ hr e0 (hbind s₁ (.ref a)) (.cons rfl .nil) (hsp H hO hS)) fun r s' h => ?_
    cases r with
    | error e => exact (hCX H e s' h).elim
    | ok fl =>
      cases fl with
      | next => exact False.elim h
      | brk => exact False.elim h
      | cont => exact False.elim h
      | ret u =>
        obtain ⟨v, H', os, bare, un, hok', r', q⟩ := h
        have q' : v = .bl true := q
        subst q'
        obtain rfl : u = Value.bool true := r'
        refine ⟨rfl, OldK.of_keep fun b o e => ?_, os, bare⟩
        cases q : H b with
        | none => exact un.keep b o e q (by intro z; exact absurd (show b ∈ ([] : List Addr) from z) (by simp)) (by simp)
        | some u =>
          rcases hO b with z | ⟨ob, xs, z⟩
          · rw [q] at z; cases z
          · have z2 := un.frzs b ob _ z
            obtain ⟨e1, _⟩ := hok b _ z
            obtain ⟨e2, _⟩ := hok' b _ z2
            rw [e] at e1; cases e1
            exact e2
  cases hk : K.lookup a with
  | some o =>
    have e := KX a o hk
    rw [ha] at e
    cases e
    refine core (fun _ => none) (fun _ => .inl rfl) (.inr ⟨_, vs.toArray, _, hk, rfl, rfl, rfl, by rw [List.size_toArray, lenV]; exact hl, by simpa using rv⟩) (fun b u z => by have z' : (none : Option HO) = some u := z; cases z') (fun b z => absurd rfl z) fun z => absurd rfl z
  | none =>
    refine core (fun b => if b = a then some (.frz { cls := .type "list", data := .seq vs.toArray } (.lst (ns.map V.int))) else none) (fun b => ?_) (.inl (.inr ⟨{ cls := .type "list", data := .seq vs.toArray }, if_pos rfl⟩)) (fun b u z => ?_) (fun b z => ?_) fun _ => hk
    · by_cases hb : b = a
      · exact .inr ⟨_, _, if_pos hb⟩
      · exact .inl (if_neg hb)
    · by_cases hb : b = a
      · have z' := (if_pos hb).symm.trans z
        cases z'
        subst hb
        exact ⟨ha, by rw [List.length_map]; exact hl, vs, _, rv, ha⟩
      · have z' := (if_neg hb).symm.trans z
        cases z'
    · by_cases hb : b = a
      · exact hb
      · exact absurd (if_neg hb) z
end L2
namespace L2
open PySem PySem.Spec PyProof.Rows
abbrev KOf {K : PySem.W.Frag} {h : Heap} (_ : K.In h) : PySem.W.Frag := K
theorem walk_of {l : PySem.W.OpenLaw} {n k : Nat} {q : Program} {loose : List Str} {XP : (Str → Option Value) → Heap → Prop} {YP : World → Heap → Prop} {d : DefRec} {K : Params → PySem.W.Frag} {CX : World → CXT} {sp : World → Sp} {x : Str}
    (hn : l.most = some n) (hn2 : n ≤ sizeLine) (hdf : d.params.defaults = []) (hr : Room k callerA)
    (hY : ∀ (w : World) (h : Heap), YP w h → (K w.params).In h)
    (F : ∀ (w : World) (mg : Str → Option Value) (fa : Addr) (h : Heap), (K w.params).In h → h.Ns mainGlobals mg → mg d.name = some (.ref fa) →
      ∃ fd : FuncData, (∀ (s : Shared) (u : Value), BindsTo s fd ⟨[u], []⟩ [(x, u)]) ∧
        ∀ base : Heap, (K w.params).In base → base.Ns mainGlobals mg → FnOk l.prog w (K w.params) mg base (CX w) k fa fd [x] (sp w))
    (hsp : ∀ (w : World) (H : Hp) (a : Addr) (ns : List Int), ns.length ≤ n → Only H → SqL (K w.params) H a (ns.map V.int) → sp w [.ref a] H (fun v _ => v = .bl true) fun _ _ _ => False)
    (hCX : ∀ (w : World) (H : Hp) (s : Shared) (e : Value) (s' : Shared), CX w [] H s (fun _ _ _ => False) e s' → False) :
    PySem.W.WalkO q loose XP YP l.row.toRowW d [] (fun f vs => PySem.call f vs) := by
  refine Att.attach_call hn hdf fun w s₀ s₁ mg mb fa o pm cd doc a vs ns G Y ho hd hcd hmg hobj hints hlen hg => ?_
  have KX := hY w _ Y
  obtain ⟨fd, hb, hF⟩ := F w mg fa _ KX G.T.g hmg
  exact law_call KX G.T.g G.T.b G.T.builtins G.T.nolimit hg hobj hints (Nat.le_trans hlen hn2) hr hF hb (fun H hO hS => hsp w H a ns hlen hO hS) fun H e s' => hCX w H s₁ e s'
end L2
namespace L2
open PySem PySem.Spec PyProof.Rows
def zaah (s : Stmt) : Arguments := match s with
  | .FunctionDef _ a _ _ _ _ _ _ _ _ => a
  | _ => { posonlyargs := [], args := [], vararg := none, kwonlyargs := [], kw_defaults := [], kwarg := none, defaults := [] }
def zaag (s : Stmt) : List Stmt := match s with
  | .FunctionDef _ _ b _ _ _ _ _ _ _ => b
  | _ => []
def zaaa (s : Stmt) : Scope := match s with
  | .FunctionDef _ _ _ _ _ _ sc _ _ _ => sc
  | _ => { kind := .function, names := [], isGenerator := false, isCoroutine := false }
abbrev CX0 : CXT := fun _ _ _ _ _ _ => False
abbrev E0 : XK := fun _ _ _ => False
structure Fun (K : PySem.W.Frag) (x qual : Str) (st : Stmt) (f : Addr) (fd : FuncData) : Prop where
  ex : ∃ (oc : Value) (od : Option Addr) (kV doc pm : Value) (an : Option Addr) (cdv ct : Value) (osl : Array (Option Value)),
    fd = PySem.W.fnOf x qual (zaah st) (zaag st) (zaaa st) .none kV doc pm an cdv ct ∧ K.lookup f = some ⟨oc, od, .func fd, osl⟩ ∧ PySem.W.codeIn K cdv qual = true
  kp : PySem.W.keepIn K (.ref f) = true
section
variable {P : Program} {w : World} {K : PySem.W.Frag} {mg : Str → Option Value} {base : Heap}
theorem Fun.ok {x qual : Str} {st : Stmt} {f : Addr} {fd : FuncData} {N ps : List Str} {k : Nat} {sp : Sp} (F : Fun K x qual st f fd) (S : FnScope N ps (zaaa st)) (len : ∀ vs H Q E, sp vs H Q E → vs.length = ps.length)
    (hbody : ∀ (cdv : Value) (A : Around) (outer : List Env) (s : Shared) (H : Hp) (vs : List V) (Q : VK) (E : XK), Room k (A.deeper (envOfC qual (zaaa st) s.heap.objs.size f cdv)) → sp vs H Q E →
      ∃ t, PSs (cxOf CX0 P w K mg base N qual (zaaa st) f cdv A outer s H E).nox (zaag st) t ∧ t { nx := fun _ H' => Q .non H', rt := Q } (start N vs) H) : FnOk P w K mg base CX0 (k + 1) f fd ps sp := by
  obtain ⟨oc, od, kV, doc, pm, an, cdv, ct, osl, rfl, lk, hcd⟩ := F.ex
  refine fn_of lk hcd S len fun A outer s H vs Q E hr hsp => ?_
  obtain ⟨t, h, q⟩ := hbody cdv A outer s H vs Q E hr hsp
  exact ⟨t, h.nox, q⟩
theorem Fun.binds {x qual : Str} {st : Stmt} {f : Addr} {fd : FuncData} {ps : List Str} (F : Fun K x qual st f fd)
    (h : ∀ (kV doc pm : Value) (an : Option Addr) (cdv ct : Value) (us : List Value), us.length = ps.length → bindArgs (PySem.W.fnOf x qual (zaah st) (zaag st) (zaaa st) .none kV doc pm an cdv ct) ⟨us, []⟩ = pure (ps.zip us)) : Binds K fd ps [] := by
  obtain ⟨oc, od, kV, doc, pm, an, cdv, ct, osl, rfl, lk, hcd⟩ := F.ex
  exact .all (h kV doc pm an cdv ct)
end
theorem hu_of {A : Around} {k : Nat} (hr : Room k A) : A.units + 1 < cLine := Nat.lt_of_le_of_lt (Nat.add_le_add_left (by decide : 1 ≤ 64) _) hr.units
section
variable {X : Cx}
end
theorem iteF {A B : Prop} (h : B) : if false = true then A else B := by
  rw [if_neg Bool.false_ne_true]
  exact h
theorem iteT {A B : Prop} (h : A) : if true = true then A else B := by
  rw [if_pos rfl]
  exact h
def Same (H H' : Hp) : Prop := ∀ b o, H b = some o → H' b = some o
theorem Same.refl (H : Hp) : Same H H := fun _ _ h => h
theorem Same.trans {H H1 H2 : Hp} (a : Same H H1) (b : Same H1 H2) : Same H H2 := fun c o h => b c o (a c o h)
theorem Same.free {H H' : Hp} (e : Same H H') {l : Addr} (h : H' l = Option.none) : H l = Option.none := by
  cases q : H l with
  | none => rfl
  | some o =>
    rw [e l o q] at h
    cases h
theorem Same.seq {K : PySem.W.Frag} {H H' : Hp} {a : Addr} {xs : List V} (e : Same H H') (h : SqL K H a xs) : SqL K H' a xs := by
  rcases h with (h | ⟨o, h⟩) | h
  · exact .inl (.inl (e _ _ h))
  · exact .inl (.inr ⟨o, e _ _ h⟩)
  · exact .inr h
end L2
end
section
set_option Elab.async false
set_option linter.all false
set_option maxRecDepth 100000
namespace IP
open PySem (Str)
inductive T where
  | non | bl (b : Bool) | int (i : Int) | str (x : Str) | tup (xs : List T) | lst (xs : List T) | loc (l : Nat) | exc (c : Nat)
  deriving Inhabited
inductive R where
  | val (t : T) | bor (ts : List T)
inductive B where
  | val (t : T) | own (ts : List T) | bor (ts : List T) | lck (ts : List T)
  deriving Inhabited
abbrev Fr := List (Option B)
inductive Cell where
  | lst (ts : List T) | ins (c : Nat) (fs : List (Option T)) | tbl (k : Nat) (p : PySem.Pos) (q : PySem.Str)
abbrev Sto := List Cell
inductive Res (α : Type) where
  | stuck | ok (a : α) (s : Sto) | exc (c : Nat) (s : Sto)
def Res.bind {α β : Type} (m : Res α) (k : α → Sto → Res β) : Res β := match m with
  | .stuck => .stuck
  | .ok a s => k a s
  | .exc c s => .exc c s
@[simp] theorem Res.bind_ok {α β : Type} (a : α) (s : Sto) (k : α → Sto → Res β) : (Res.ok a s).bind k = k a s := rfl
@[simp] theorem Res.bind_exc {α β : Type} (c : Nat) (s : Sto) (k : α → Sto → Res β) : (Res.exc c s : Res α).bind k = .exc c s := rfl
@[simp] theorem Res.bind_stuck {α β : Type} (k : α → Sto → Res β) : (Res.stuck : Res α).bind k = .stuck := rfl
def Res.of {α : Type} (o : Option α) (s : Sto) : Res α := match o with
  | none => .stuck
  | some a => .ok a s
@[simp] theorem Res.of_some {α : Type} (a : α) (s : Sto) : Res.of (some a) s = .ok a s := rfl
@[simp] theorem Res.of_none {α : Type} (s : Sto) : Res.of (none : Option α) s = .stuck := rfl
inductive Op where | add | sub | mul | fdiv | mod | pow
inductive Cm where | lt | le | gt | ge | eq | ne | isN | notN | mem | nmem
inductive Bi where | len | abs | int | list | tuple | any | all | min | max | sorted | str
inductive Ty where | int | bool | tuple | list | str | cls (c : Nat)
inductive Tg where | one (i : Nat) | many (is : List Nat)
inductive E where
  | var (i : Nat)
  | cst (t : T)
  | glb (x : Str) (i : Int)
  | bin (o : Op) (a b : E)
  | neg (a : E)
  | not (a : E)
  | cmp (c : Cm) (a b : E)
  | and (a b : E) | or (a b : E)
  | ife (c a b : E)
  | tup (es : List E) | lst (es : List E)
  | sub (a b : E)
  | cutL (a lo : E) | cutU (a hi : E) | cutLU (a lo hi : E) | rev (a : E)
  | b1 (f : Bi) (a : E)
  | mn2 (a b : E) | mx2 (a b : E)
  | mxd (a d : E) | mnd (a d : E)
  | mnk (a : E) (i j l k : Nat) (p : PySem.Pos) (q : Str) | sok (a : E) (i : Nat) (k : E)
  | isi (a : E) (c : Ty)
  | call (f : Nat) (es : List E) (ds : List T)
  | comp (elt : E) (tg : Tg) (it : E)
  | compIf (elt : E) (tg : Tg) (it c : E)
  | rng1 (a : E) | rng2 (a b : E) | enm (a : E) | zip (a b : E)
  | fld (a : E) (c f : Nat) | cell (a : E) | new (c f n : Nat) (es : List E) (ds : List T) | meth (a : E) (c f : Nat) (es : List E) (ds : List T)
  | compC (elt : E) (tg : Tg) (it : E)
  | cmpD (c : Cm) (a b : E)
  deriving Inhabited
inductive S where
  | asg (i : Nat) (e : E)
  | asgT (is : List Nat) (e : E)
  | mk (i : Nat) (e : E)
  | app (i : Nat) (e : E)
  | ext (i : Nat) (e : E)
  | put (i : Nat) (j e : E)
  | pop (k i : Nat)
  | frz (i : Nat)
  | ifs (c : E) (a b : List S)
  | whl (c : E) (b : List S)
  | for_ (tg : Tg) (it : E) (b : List S)
  | ret (e : E)
  | retO (e : E)
  | retV (i : Nat)
  | exp (e : E)
  | raise (c : Nat)
  | putL (a j e : E) | appL (a e : E) | setF (a : E) (c f : Nat) (e : E) | popL (a : E) | clrL (a : E) | forC (tg : Tg) (it : E) (b : List S)
  | try_ (b : List S) (c : Nat) (nm : Option Nat) (h : List S)
  | pass
  deriving Inhabited
def eqL (f : T → T → Option Bool) : List T → List T → Option Bool
  | [], [] => some true
  | [], _ :: _ => some false
  | _ :: _, [] => some false
  | a :: r, b :: q => match f a b, eqL f r q with
    | some k, some k' => some (k && k')
    | _, _ => none
def eqD : Nat → T → T → Option Bool
  | _, .non, .non => some true
  | _, .bl a, .bl b => some (a == b)
  | _, .int a, .int b => some (a == b)
  | _, .str a, .str b => some (a == b)
  | n + 1, .tup a, .tup b => eqL (eqD n) a b
  | n + 1, .lst a, .lst b => eqL (eqD n) a b
  | _, .non, .int _ => some false
  | _, .int _, .non => some false
  | _ + 1, .non, .tup _ => some false
  | _ + 1, .tup _, .non => some false
  | _, _, _ => none
abbrev eqT : T → T → Option Bool := eqD 8
abbrev eqTs : List T → List T → Option Bool := eqL (eqD 7)
def big : Nat := 10 ^ 300
def mulB (i j : Int) : Bool := decide (i.natAbs < 2 ^ 64) || decide (j.natAbs < 2 ^ 64) || (decide (i.natAbs < big) && decide (j.natAbs < big))
def lim : Nat := 1000000
def R.seq : R → Option (List T)
  | .val (.lst ts) => some ts
  | .bor ts => some ts
  | _ => none
def R.sq2 : R → Option (List T)
  | .val (.lst ts) => some ts
  | .val (.tup ts) => some ts
  | .bor ts => some ts
  | _ => none
def R.dr (s : Sto) : R → R
  | .val (.loc l) => match s[l]? with
    | some (.lst ts) => .bor ts
    | _ => .val (.loc l)
  | r => r
def opI : Op → Int → Int → Option Int
  | .add, i, j => some (i + j)
  | .sub, i, j => some (i - j)
  | .mul, i, j => if mulB i j then some (i * j) else none
  | .fdiv, i, j => if j ≠ 0 ∧ j.natAbs < big then some (Int.fdiv i j) else none
  | .mod, i, j => if j ≠ 0 then some (Int.fmod i j) else none
  | .pow, i, j => if 0 ≤ j ∧ j ≤ 100 ∧ i.natAbs < big then some (i ^ j.toNat) else none
def opR (o : Op) (x y : R) : Option R := match o, x, y with
  | o, .val (.int i), .val (.int j) => (opI o i j).map fun k => .val (.int k)
  | .add, .val (.tup xs), .val (.tup ys) => if xs ≠ [] ∧ ys ≠ [] ∧ xs.length + ys.length ≤ lim then some (.val (.tup (xs ++ ys))) else none
  | .add, x, y => match x.seq, y.seq with
    | some xs, some ys => if xs.length + ys.length ≤ lim then some (.val (.lst (xs ++ ys))) else none
    | _, _ => none
  | _, _, _ => none
def asInts : List T → Option (List Int)
  | [] => some []
  | .int i :: r => (asInts r).map (i :: ·)
  | _ => none
def zaal : List T → Option (List Bool)
  | [] => some []
  | .bl b :: r => (zaal r).map (b :: ·)
  | _ => none
def R.int? : R → Option Int
  | .val (.int i) => some i
  | _ => none
def R.isNon : R → Bool
  | .val .non => true
  | _ => false
def R.tup? : R → Option (List T)
  | .val (.tup ts) => some ts
  | .val (.lst ts) => some ts
  | _ => none
def R.val? : R → Option T
  | .val t => some t
  | _ => none
def tru : R → Option Bool
  | .val .non => some false
  | .val (.bl b) => some b
  | .val (.int i) => some (i != 0)
  | .val (.lst ts) => some (!ts.isEmpty)
  | .val (.tup ts) => some (!ts.isEmpty)
  | .bor ts => some (!ts.isEmpty)
  | _ => none
def eqR : R → R → Option Bool
  | .val a, .val b => eqT a b
  | .val (.lst a), .bor b => eqTs a b
  | .bor a, .val (.lst b) => eqTs a b
  | .bor a, .bor b => eqTs a b
  | _, _ => none
def memT (x : T) : List T → Option Bool
  | [] => some false
  | y :: r => match eqT y x, memT x r with
    | some k, some k' => some (k || k')
    | _, _ => none
def cmpR (c : Cm) (x y : R) : Option Bool := match c with
  | .lt => do let i ← x.int?; let j ← y.int?; some (decide (i < j))
  | .le => do let i ← x.int?; let j ← y.int?; some (decide (i ≤ j))
  | .gt => do let i ← x.int?; let j ← y.int?; some (decide (j < i))
  | .ge => do let i ← x.int?; let j ← y.int?; some (decide (j ≤ i))
  | .eq => eqR x y
  | .ne => (eqR x y).map (!·)
  | .isN => match y with
    | .val .non => some x.isNon
    | _ => none
  | .notN => match y with
    | .val .non => some (!x.isNon)
    | _ => none
  | .mem => do let t ← x.val?; let ts ← y.sq2; memT t ts
  | .nmem => do let t ← x.val?; let ts ← y.sq2; (memT t ts).map (!·)
def subR (x : R) (i : Int) : Option T := match x.sq2 with
  | some ts => L2.atI ts i
  | none => none
def cutT (ts : List T) (lo hi : Option Int) : List T := (ts.drop (HT.sIx ts.length 0 lo)).take (HT.sIx ts.length ts.length hi - HT.sIx ts.length 0 lo)
def cutR (x : R) (lo hi : Option Int) : Option R := match x with
  | .val (.tup ts) => if HT.sIx ts.length 0 lo = 0 ∧ HT.sIx ts.length ts.length hi = ts.length then none else some (.val (.tup (cutT ts lo hi)))
  | .val (.lst ts) => some (.val (.lst (cutT ts lo hi)))
  | .bor ts => some (.val (.lst (cutT ts lo hi)))
  | _ => none
def keyT (i j : Nat) : T → Option (Int × Int)
  | .tup ts => match ts[i]?, ts[j]? with
    | some (.int x), some (.int y) => some (x, y)
    | _, _ => none
  | _ => none
def keysT (i j : Nat) : List T → Option (List (Int × Int))
  | [] => some []
  | t :: r => match keyT i j t, keysT i j r with
    | some x, some y => some (x :: y)
    | _, _ => none
def lt2 (a b : Int × Int) : Bool := decide (a.1 < b.1) || (decide (a.1 = b.1) && decide (a.2 < b.2))
def bestK : Int × Int → T → List ((Int × Int) × T) → T
  | _, t, [] => t
  | k, t, (k', t') :: r => if lt2 k' k then bestK k' t' r else bestK k t r
def isTbl (s : Sto) (l k : Nat) (p : PySem.Pos) (q : Str) : Bool := match s[l]? with
  | some (.tbl k' p' q') => decide (k' = k) && decide (p' = p) && decide (q' = q)
  | _ => false
def minK (i j : Nat) (ts : List T) : Option T := match keysT i j ts, ts with
  | some (k :: ks), t :: r => some (bestK k t (ks.zip r))
  | _, _ => none
def minI : List Int → Option Int
  | [] => none
  | a :: r => some (r.foldl (fun m x => if x < m then x else m) a)
def maxI : List Int → Option Int
  | [] => none
  | a :: r => some (r.foldl (fun m x => if x > m then x else m) a)
def insI (x : Int) : List Int → List Int
  | [] => [x]
  | y :: r => if x < y then x :: y :: r else y :: insI x r
def sortI (xs : List Int) : List Int := xs.foldl (fun acc x => insI x acc) []
def b1R (f : Bi) (x : R) : Option R := match f with
  | .len => x.sq2.map fun ts => .val (.int ts.length)
  | .abs => x.int?.map fun i => .val (.int (if i < 0 then -i else i))
  | .int => match x with | .val (.int i) => some (.val (.int i)) | .val (.bl b) => some (.val (.int (if b then 1 else 0))) | _ => none
  | .list => x.sq2.map fun ts => .val (.lst ts)
  | .tuple => x.sq2.map fun ts => .val (.tup ts)
  | .any => do let ts ← x.seq; let bs ← zaal ts; some (.val (.bl (bs.any id)))
  | .all => do let ts ← x.seq; let bs ← zaal ts; some (.val (.bl (bs.all id)))
  | .min => do let ts ← x.seq; let is ← asInts ts; (minI is).map fun i => .val (.int i)
  | .max => do let ts ← x.seq; let is ← asInts ts; (maxI is).map fun i => .val (.int i)
  | .sorted => do let ts ← x.seq; let is ← asInts ts; if is.length < 64 then some (.val (.lst ((sortI is).map .int))) else none
  | .str => none
def isiR (x : R) (c : Ty) : Option Bool := match x, c with
  | .val (.int _), .int => some true | .val (.bl _), .int => some true | .val (.tup _), .int => some false | .val (.lst _), .int => some false | .val .non, .int => some false | .bor _, .int => some false
  | .val (.int _), .bool => some false | .val (.bl _), .bool => some true | .val (.tup _), .bool => some false | .val (.lst _), .bool => some false | .val .non, .bool => some false
  | .val (.tup _), .tuple => some true | .val (.int _), .tuple => some false | .val (.bl _), .tuple => some false | .val (.lst _), .tuple => some false | .val .non, .tuple => some false
  | .val (.lst _), .list => some true | .bor _, .list => some true | .val (.tup _), .list => some false | .val (.int _), .list => some false | .val .non, .list => some false
  | _, _ => none
def isiX (sub : Nat → Nat → Bool) (x : R) (c : Ty) : Option Bool := match x, c with
  | .val (.exc d), .cls k => some (sub d k)
  | x, c => isiR x c
def enT : Nat → List T → List T
  | _, [] => []
  | n, t :: ts => .tup [.int n, t] :: enT (n + 1) ts
def ziT : List T → List T → List T
  | a :: as, b :: bs => .tup [a, b] :: ziT as bs
  | _, _ => []
def fldR (s : Sto) (x : R) (c f : Nat) : Option T := match x with
  | .val (.loc l) => match s[l]? with
    | some (.ins d fs) => if d = c then (fs[f]?).join else none
    | _ => none
  | _ => none
def R.locL (s : Sto) : R → Option (Nat × List T)
  | .val (.loc l) => match s[l]? with
    | some (.lst ts) => some (l, ts)
    | _ => none
  | _ => none
def R.locI (s : Sto) (c : Nat) : R → Option (Nat × List (Option T))
  | .val (.loc l) => match s[l]? with
    | some (.ins d fs) => if d = c then some (l, fs) else none
    | _ => none
  | _ => none
def look (σ : Fr) (i : Nat) : Option R := match σ[i]? with
  | some (some (.val t)) => some (.val t)
  | some (some (.own ts)) => some (.bor ts)
  | some (some (.bor ts)) => some (.bor ts)
  | some (some (.lck ts)) => some (.bor ts)
  | _ => none
def put (σ : Fr) (i : Nat) (t : T) : Fr := σ.set i (some (.val t))
def puts (σ : Fr) : List Nat → List T → Option Fr
  | [], [] => some σ
  | i :: is, t :: ts => puts (put σ i t) is ts
  | _, _ => none
def bindTg (σ : Fr) (g : Tg) (t : T) : Option Fr := match g with
  | .one i => some (put σ i t)
  | .many is => match t with
    | .tup ts => puts σ is ts
    | .lst ts => puts σ is ts
    | _ => none
inductive SR where
  | stuck | next (σ : Fr) (s : Sto) | ret (r : R) (s : Sto) | retO (ts : List T) (s : Sto) | exc (c : Nat) (σ : Fr) (s : Sto)
structure Cf where
  cf : Nat → List R → Sto → Res R
  sub : Nat → Nat → Bool
  fr : Nat → Bool
  wl : (Fr → Sto → Res Bool) → (Fr → Sto → SR) → Fr → Sto → SR
def consO : Option T → List T → List T
  | some x, q => x :: q
  | none, q => q
@[simp] theorem consO_some (x : T) (q : List T) : consO (some x) q = x :: q := rfl
@[simp] theorem consO_none (q : List T) : consO none q = q := rfl
def mapRes (f : T → Sto → Res (Option T)) : List T → Sto → Res (List T)
  | [], s => .ok [] s
  | t :: ts, s => (f t s).bind fun r s1 => (mapRes f ts s1).bind fun q s2 => .ok (consO r q) s2
def rangeT (i j : Int) : List T := (List.range (j - i).toNat).map fun (k : Nat) => T.int (i + k)
def bnd (i : Int) : Bool := decide (-(2 ^ 62) ≤ i) && decide (i < 2 ^ 62)
inductive Md where | v | t | i | j
def R.sq3 : R → Option (List T)
  | .val (.lst ts) => some ts
  | .val (.tup ts) => some ts
  | _ => none
def fin (m : Md) (r : Res R) : Res R := match m with
  | .v => r
  | .t => r.bind fun x s => .of ((tru x).map fun k => .val (.bl k)) s
  | .i => r.bind fun x s => .of (x.sq2.map fun ts => .val (.lst ts)) s
  | .j => r.bind fun x s => .of (x.sq3.map fun ts => .val (.lst ts)) s
@[simp] theorem fin_v (r : Res R) : fin .v r = r := rfl
@[simp] theorem fin_t (r : Res R) : fin .t r = r.bind fun x s => .of ((tru x).map fun k => .val (.bl k)) s := rfl
@[simp] theorem fin_j (r : Res R) : fin .j r = r.bind fun x s => .of (x.sq3.map fun ts => .val (.lst ts)) s := rfl
@[simp] theorem fin_i (r : Res R) : fin .i r = r.bind fun x s => .of (x.sq2.map fun ts => .val (.lst ts)) s := rfl
def onB (x : R) (a b : Res R) : Res R := match x with
  | .val (.bl true) => a
  | .val (.bl false) => b
  | _ => .stuck
def onI (x : R) (f : Int → Res R) : Res R := match x with
  | .val (.int i) => f i
  | _ => .stuck
def onL (x : R) (f : List T → Res R) : Res R := match x with
  | .val (.lst ts) => f ts
  | _ => .stuck
def onV (x : R) (f : T → Res (List T)) : Res (List T) := match x with
  | .val t => f t
  | _ => .stuck
def one (m : Res R) : Res (Option T) := match m with
  | .ok r s => .of (r.val?.map some) s
  | _ => .stuck
def onO {α β : Type} (o : Option α) (f : α → Res β) : Res β := match o with
  | some a => f a
  | none => .stuck
def onN (x : R) (m : Res R) : Res R := match x with
  | .val .non => m
  | _ => .stuck
open Classical in
noncomputable def keepC {α : Type} (l : Nat) (ts : List T) (m : Res α) : Res α := match m with
  | .ok a s => if s[l]? = some (.lst ts) then .ok a s else .stuck
  | r => r
def rngM (m : Md) (r : Res R) : Res R := match m with | .i => r | .j => r | _ => .stuck
mutual
noncomputable def ev (C : Cf) : E → Md → Fr → Sto → Res R
  | .var i, m, σ, s => fin m (.of (look σ i) s)
  | .cst t, m, _, s => fin m (.ok (.val t) s)
  | .glb _ i, m, _, s => fin m (.ok (.val (.int i)) s)
  | .bin o a b, m, σ, s => fin m ((ev C a .v σ s).bind fun x s1 => (ev C b .v σ s1).bind fun y s2 => .of (opR o x y) s2)
  | .neg a, m, σ, s => fin m ((ev C a .v σ s).bind fun x s1 => .of (x.int?.map fun i => .val (.int (-i))) s1)
  | .not a, .t, σ, s => (ev C a .t σ s).bind fun x s1 => onB x (.ok (.val (.bl false)) s1) (.ok (.val (.bl true)) s1)
  | .not a, m, σ, s => fin m ((ev C a .v σ s).bind fun x s1 => .of ((tru x).map fun k => .val (.bl (!k))) s1)
  | .cmp c a b, m, σ, s => fin m ((ev C a .v σ s).bind fun x s1 => (ev C b .v σ s1).bind fun y s2 => .of ((cmpR c x y).map fun k => .val (.bl k)) s2)
  | .and a b, .t, σ, s => (ev C a .t σ s).bind fun x s1 => onB x (ev C b .t σ s1) (.ok (.val (.bl false)) s1)
  | .or a b, .t, σ, s => (ev C a .t σ s).bind fun x s1 => onB x (.ok (.val (.bl true)) s1) (ev C b .t σ s1)
  | .and a b, m, σ, s => fin m ((ev C a .v σ s).bind fun x s1 => onB x (ev C b .v σ s1) (.ok (.val (.bl false)) s1))
  | .or a b, m, σ, s => fin m ((ev C a .v σ s).bind fun x s1 => onB x (.ok (.val (.bl true)) s1) (ev C b .v σ s1))
  | .ife c a b, m, σ, s => fin m ((ev C c .t σ s).bind fun x s1 => onB x (ev C a .v σ s1) (ev C b .v σ s1))
  | .tup es, m, σ, s => fin m ((evs C es σ s).bind fun ts s1 => .ok (.val (.tup ts)) s1)
  | .lst es, m, σ, s => fin m ((evs C es σ s).bind fun ts s1 => .ok (.val (.lst ts)) s1)
  | .sub a b, m, σ, s => fin m ((ev C a .v σ s).bind fun x s1 => (ev C b .v σ s1).bind fun y s2 => onI y fun i => .of ((subR (x.dr s2) i).map .val) s2)
  | .cutL a l, m, σ, s => fin m ((ev C a .v σ s).bind fun x s1 => (ev C l .v σ s1).bind fun y s2 => onI y fun i => .of (cutR (x.dr s2) (some i) none) s2)
  | .cutU a h, m, σ, s => fin m ((ev C a .v σ s).bind fun x s1 => (ev C h .v σ s1).bind fun y s2 => onI y fun i => .of (cutR (x.dr s2) none (some i)) s2)
  | .cutLU a l h, m, σ, s => fin m ((ev C a .v σ s).bind fun x s1 => (ev C l .v σ s1).bind fun y s2 => onI y fun i => (ev C h .v σ s2).bind fun z s3 => onI z fun j => .of (cutR (x.dr s3) (some i) (some j)) s3)
  | .rev a, m, σ, s => fin m ((ev C a .v σ s).bind fun x s1 => .of (x.seq.map fun ts => .val (.lst ts.reverse)) s1)
  | .b1 f a, m, σ, s => fin m ((ev C a .v σ s).bind fun x s1 => .of (b1R f (x.dr s1)) s1)
  | .mn2 a b, m, σ, s => fin m ((ev C a .v σ s).bind fun x s1 => (ev C b .v σ s1).bind fun y s2 => .of (do let i ← x.int?; let j ← y.int?; some (.val (.int (if j < i then j else i)))) s2)
  | .mx2 a b, m, σ, s => fin m ((ev C a .v σ s).bind fun x s1 => (ev C b .v σ s1).bind fun y s2 => .of (do let i ← x.int?; let j ← y.int?; some (.val (.int (if j > i then j else i)))) s2)
  | .mxd a d, m, σ, s => fin m ((ev C a .v σ s).bind fun x s1 => (ev C d .v σ s1).bind fun y s2 => .of (do let ts ← x.seq; let is ← asInts ts; let d ← y.int?; some (.val (.int ((maxI is).getD d)))) s2)
  | .mnd a d, m, σ, s => fin m ((ev C a .v σ s).bind fun x s1 => (ev C d .v σ s1).bind fun y s2 => .of (do let ts ← x.seq; let is ← asInts ts; let d ← y.int?; some (.val (.int ((minI is).getD d)))) s2)
  | .mnk a i j l k p q, m, σ, s => fin m ((ev C a .v σ s).bind fun x s1 => .of (if isTbl s1 l k p q then x.seq.bind fun ts => (minK i j ts).map .val else none) s1)
  | .sok _ _ _, _, _, _ => .stuck
  | .isi a c, m, σ, s => fin m ((ev C a .v σ s).bind fun x s1 => .of ((isiX C.sub (x.dr s1) c).map fun k => .val (.bl k)) s1)
  | .call f es ds, m, σ, s => fin m ((evr C es σ s).bind fun rs s1 => C.cf f (rs ++ ds.map .val) s1)
  | .comp e g it, m, σ, s => fin m ((ev C it .i σ s).bind fun x s1 => onL x fun ts => (mapRes (fun t s => onO (bindTg σ g t) fun σ' => one (ev C e .v σ' s)) ts s1).bind fun q s2 => .ok (.val (.lst q)) s2)
  | .compIf e g it c, m, σ, s => fin m ((ev C it .i σ s).bind fun x s1 => onL x fun ts => (mapRes (fun t s => onO (bindTg σ g t) fun σ' =>
      match ev C c .t σ' s with
      | .ok (.val (.bl true)) s2 => one (ev C e .v σ' s2)
      | .ok (.val (.bl false)) s2 => .ok none s2
      | _ => .stuck) ts s1).bind fun q s2 => .ok (.val (.lst q)) s2)
  | .rng1 a, m, σ, s => rngM m ((ev C a .v σ s).bind fun x s1 => onI x fun j => if bnd j && decide (j ≤ lim) then .ok (.val (.lst (rangeT 0 j))) s1 else .stuck)
  | .rng2 a b, m, σ, s => rngM m ((ev C a .v σ s).bind fun x s1 => onI x fun i => (ev C b .v σ s1).bind fun y s2 => onI y fun j => if bnd i && bnd j && decide (j - i ≤ lim) then .ok (.val (.lst (rangeT i j))) s2 else .stuck)
  | .enm a, m, σ, s => rngM m ((ev C a .v σ s).bind fun x s1 => onL x fun ts => .ok (.val (.lst (enT 0 ts))) s1)
  | .zip a b, m, σ, s => rngM m ((ev C a .v σ s).bind fun x s1 => (ev C b .v σ s1).bind fun y s2 => .of (do let ts ← x.sq3; let us ← y.sq3; some (.val (.lst (ziT ts us)))) s2)
  | .fld a c f, m, σ, s => fin m ((ev C a .v σ s).bind fun x s1 => .of ((fldR s1 x c f).map .val) s1)
  | .cell a, m, σ, s => fin m ((ev C a .v σ s).bind fun x s1 => onL x fun ts => .ok (.val (.loc s1.length)) (s1 ++ [.lst ts]))
  | .new c f n es ds, m, σ, s => fin m ((evr C es σ s).bind fun rs s1 => (C.cf f (.val (.loc s1.length) :: rs ++ ds.map .val) (s1 ++ [.ins c (List.replicate n none)])).bind fun r s2 => onN r (.ok (.val (.loc s1.length)) s2))
  | .meth a c f es ds, m, σ, s => fin m ((ev C a .v σ s).bind fun x s1 => onO (x.locI s1 c) fun _ => (evr C es σ s1).bind fun rs s2 => C.cf f (x :: rs ++ ds.map .val) s2)
  | .compC e g it, m, σ, s => fin m ((ev C it .v σ s).bind fun x s1 => onO (x.locL s1) fun p => (mapRes (fun t s => onO (bindTg σ g t) fun σ' => keepC p.1 p.2 (one (ev C e .v σ' s))) p.2 s1).bind fun q s2 => .ok (.val (.lst q)) s2)
  | .cmpD c a b, m, σ, s => fin m ((ev C a .v σ s).bind fun x s1 => (ev C b .v σ s1).bind fun y s2 => .of ((cmpR c (x.dr s2) (y.dr s2)).map fun k => .val (.bl k)) s2)
noncomputable def evs (C : Cf) : List E → Fr → Sto → Res (List T)
  | [], _, s => .ok [] s
  | e :: es, σ, s => (ev C e .v σ s).bind fun x s1 => onV x fun t => (evs C es σ s1).bind fun ts s2 => .ok (t :: ts) s2
noncomputable def evr (C : Cf) : List E → Fr → Sto → Res (List R)
  | [], _, s => .ok [] s
  | e :: es, σ, s => (ev C e .v σ s).bind fun x s1 => (evr C es σ s1).bind fun xs s2 => .ok (x :: xs) s2
end
def frz (σ : Fr) (i : Nat) : Fr := match σ[i]? with
  | some (some (.own ts)) => σ.set i (some (.val (.lst ts)))
  | _ => σ
def setOwn (σ : Fr) (i : Nat) (ts : List T) : Fr := σ.set i (some (.own ts))
def ownAt (σ : Fr) (i : Nat) : Option (List T) := match σ[i]? with
  | some (some (.own ts)) => some ts
  | _ => none
def R.sto (r : R) : Option T := r.val?
def Res.st (m : Res R) (σ : Fr) (k : R → Sto → SR) : SR := match m with
  | .stuck => .stuck
  | .ok a s => k a s
  | .exc c s => .exc c σ s
@[simp] theorem Res.st_ok (a : R) (s : Sto) (σ : Fr) (k : R → Sto → SR) : (Res.ok a s).st σ k = k a s := rfl
@[simp] theorem Res.st_exc (c : Nat) (s : Sto) (σ : Fr) (k : R → Sto → SR) : (Res.exc c s).st σ k = .exc c σ s := rfl
def SR.bind (m : SR) (k : Fr → Sto → SR) : SR := match m with
  | .next σ s => k σ s
  | r => r
@[simp] theorem SR.bind_next (σ : Fr) (s : Sto) (k : Fr → Sto → SR) : (SR.next σ s).bind k = k σ s := rfl
@[simp] theorem SR.bind_ret (r : R) (s : Sto) (k : Fr → Sto → SR) : (SR.ret r s).bind k = .ret r s := rfl
@[simp] theorem SR.bind_retO (ts : List T) (s : Sto) (k : Fr → Sto → SR) : (SR.retO ts s).bind k = .retO ts s := rfl
@[simp] theorem SR.bind_exc (c : Nat) (σ : Fr) (s : Sto) (k : Fr → Sto → SR) : (SR.exc c σ s).bind k = .exc c σ s := rfl
@[simp] theorem SR.bind_stuck (k : Fr → Sto → SR) : SR.stuck.bind k = .stuck := rfl
def onS {α : Type} (o : Option α) (f : α → SR) : SR := match o with
  | some a => f a
  | none => .stuck
@[simp] theorem onS_some {α : Type} (a : α) (f : α → SR) : onS (some a) f = f a := rfl
@[simp] theorem onS_none {α : Type} (f : α → SR) : onS none f = .stuck := rfl
def onBS (x : R) (a b : SR) : SR := match x with
  | .val (.bl true) => a
  | .val (.bl false) => b
  | _ => .stuck
def R.lst? : R → Option (List T)
  | .val (.lst ts) => some ts
  | _ => none
def forL (g : Tg) (body : Fr → Sto → SR) : List T → Fr → Sto → SR
  | [], σ, s => .next σ s
  | t :: ts, σ, s => onS (bindTg σ g t) fun σ' => (body σ' s).bind fun σ2 s2 => forL g body ts σ2 s2
open Classical in
noncomputable def forC (g : Tg) (body : Fr → Sto → SR) (l : Nat) (all : List T) : List T → Fr → Sto → SR
  | [], σ, s => if s[l]? = some (.lst all) then .next σ s else .stuck
  | t :: ts, σ, s => if s[l]? = some (.lst all) then onS (bindTg σ g t) fun σ' => (body σ' s).bind fun σ2 s2 => forC g body l all ts σ2 s2 else .stuck
def SR.nox (r : SR) : SR := match r with
  | .exc _ _ _ => .stuck
  | r => r
def lock (σ : Fr) (i : Nat) : Fr := match σ[i]? with
  | some (some (.own ts)) => σ.set i (some (.lck ts))
  | _ => σ
def unlock (σ : Fr) (i : Nat) : Fr := match σ[i]? with
  | some (some (.lck ts)) => σ.set i (some (.own ts))
  | _ => σ
def SR.unlock (r : SR) (i : Nat) : SR := match r with
  | .next σ s => .next (IP.unlock σ i) s
  | .exc c σ s => .exc c (IP.unlock σ i) s
  | r => r
def isOwn (σ : Fr) (i : Nat) : Bool := match σ[i]? with
  | some (some (.own _)) => true
  | _ => false
def freshE (C : Cf) : E → Bool
  | .lst _ => true | .comp _ _ _ => true | .compIf _ _ _ _ => true | .b1 .list _ => true | .rev _ => true | .bin .add _ _ => true | .call f _ _ => C.fr f | _ => false
mutual
noncomputable def ex (C : Cf) : S → Fr → Sto → SR
  | .asg i e, σ, s => (ev C e .v σ s).st σ fun x s1 => onS x.val? fun t => .next (put σ i t) s1
  | .asgT is e, σ, s => (ev C e .v σ s).st σ fun x s1 => onS x.tup? fun ts => onS (puts σ is ts) fun σ' => .next σ' s1
  | .mk i e, σ, s => if freshE C e then (ev C e .v σ s).st σ fun x s1 => onS x.lst? fun ts => .next (setOwn σ i ts) s1 else .stuck
  | .app i e, σ, s => onS (ownAt σ i) fun ts => (ev C e .v σ s).st σ fun x s1 => onS x.val? fun t => if ts.length < lim then .next (setOwn σ i (ts ++ [t])) s1 else .stuck
  | .ext i e, σ, s => onS (ownAt σ i) fun ts => (ev C e .v σ s).st σ fun x s1 => onS x.lst? fun us => if ts.length + us.length ≤ lim then .next (setOwn σ i (ts ++ us)) s1 else .stuck
  | .put i j e, σ, s => onS (ownAt σ i) fun ts => (ev C e .v σ s).st σ fun x s1 => onS x.val? fun t => (ev C j .v σ s1).st σ fun y s2 => onS y.int? fun k => onS (L2.ixN ts.length k) fun n => .next (setOwn σ i (ts.set n t)) s2
  | .pop k i, σ, s => onS (ownAt σ i) fun ts => onS ts.getLast? fun t => .next (put (setOwn σ i ts.dropLast) k t) s
  | .frz i, σ, s => .next (frz σ i) s
  | .ifs c a b, σ, s => (ev C c .t σ s).st σ fun x s1 => onBS x (exs C a σ s1) (exs C b σ s1)
  | .whl c b, σ, s => C.wl (fun σ s => (ev C c .t σ s).bind fun x s1 => .of (match x with | .val (.bl k) => some k | _ => none) s1) (fun σ s => exs C b σ s) σ s
  | .for_ g it b, σ, s => match it with
    | .var i => (ev C (.var i) .i σ s).st σ fun x s1 => onS x.lst? fun ts => if isOwn σ i then (forL g (fun σ s => exs C b σ s) ts (lock σ i) s1).unlock i else forL g (fun σ s => exs C b σ s) ts σ s1
    | it => (ev C it .j σ s).st σ fun x s1 => onS x.lst? fun ts => forL g (fun σ s => exs C b σ s) ts σ s1
  | .ret e, σ, s => (ev C e .v σ s).st σ fun x s1 => .ret x s1
  | .retO e, σ, s => if freshE C e then (ev C e .v σ s).st σ fun x s1 => onS x.lst? fun ts => .retO ts s1 else .stuck
  | .retV i, σ, s => onS (ownAt σ i) fun ts => .retO ts s
  | .exp e, σ, s => (ev C e .v σ s).st σ fun _ s1 => .next σ s1
  | .raise c, σ, s => .exc c σ s
  | .try_ b c nm h, σ, s => match exs C b σ s with
    | .exc d σ1 s1 => if C.sub d c then (match nm with
        | none => (exs C h σ1 s1).nox
        | some i => (exs C h (put σ1 i (.exc d)) s1).nox.bind fun σ2 s2 => .next (σ2.set i none) s2) else .exc d σ1 s1
    | r => r
  | .putL a j e, σ, s => (ev C e .v σ s).st σ fun x s1 => onS x.val? fun t => (ev C a .v σ s1).st σ fun y s2 => (ev C j .v σ s2).st σ fun z s3 => onS (y.locL s3) fun p => onS z.int? fun k => onS (L2.ixN p.2.length k) fun n => .next σ (s3.set p.1 (.lst (p.2.set n t)))
  | .appL a e, σ, s => (ev C a .v σ s).st σ fun y s1 => onS (y.locL s1) fun _ => (ev C e .v σ s1).st σ fun x s2 => onS x.val? fun t => onS (y.locL s2) fun p => if p.2.length < lim then .next σ (s2.set p.1 (.lst (p.2 ++ [t]))) else .stuck
  | .setF a c f e, σ, s => (ev C e .v σ s).st σ fun x s1 => onS x.val? fun t => (ev C a .v σ s1).st σ fun y s2 => onS (y.locI s2 c) fun p => if f < p.2.length then .next σ (s2.set p.1 (.ins c (p.2.set f (some t)))) else .stuck
  | .popL a, σ, s => (ev C a .v σ s).st σ fun y s1 => onS (y.locL s1) fun p => if p.2.isEmpty then .stuck else .next σ (s1.set p.1 (.lst p.2.dropLast))
  | .clrL a, σ, s => (ev C a .v σ s).st σ fun y s1 => onS (y.locL s1) fun p => .next σ (s1.set p.1 (.lst []))
  | .forC g it b, σ, s => (ev C it .v σ s).st σ fun x s1 => onS (x.locL s1) fun p => forC g (fun σ s => exs C b σ s) p.1 p.2 p.2 σ s1
  | .pass, σ, s => .next σ s
noncomputable def exs (C : Cf) : List S → Fr → Sto → SR
  | [], σ, s => .next σ s
  | a :: r, σ, s => (ex C a σ s).bind fun σ1 s1 => exs C r σ1 s1
end
structure Fn where
  pars : Nat
  size : Nat
  fr : Bool
  body : List S
def ofR : R → B
  | .val t => .val t
  | .bor ts => .bor ts
def enter (F : Fn) (rs : List R) : Fr := rs.map (fun r => some (ofR r)) ++ List.replicate (F.size - rs.length) none
def leave (x fr : Bool) : SR → Res R
  | .ret r s => if fr then .stuck else .ok r s
  | .retO ts s => if fr then .ok (.val (.lst ts)) s else .stuck
  | .next _ s => if fr then .stuck else .ok (.val .non) s
  | .exc c _ s => if x then .exc c s else .stuck
  | .stuck => .stuck
def whileN (c : Fr → Sto → Res Bool) (b : Fr → Sto → SR) : Nat → Fr → Sto → SR
  | 0, _, _ => .stuck
  | n + 1, σ, s => match c σ s with
    | .stuck => .stuck
    | .exc d s1 => .exc d σ s1
    | .ok false s1 => .next σ s1
    | .ok true s1 => (b σ s1).bind fun σ2 s2 => whileN c b n σ2 s2
open Classical in
noncomputable def whileL (c : Fr → Sto → Res Bool) (b : Fr → Sto → SR) (σ : Fr) (s : Sto) : SR :=
  if h : ∃ n, whileN c b n σ s ≠ .stuck then whileN c b (choose h) σ s else .stuck
def frOf (fs : List Fn) (f : Nat) : Bool := match fs[f]? with
  | some F => F.fr
  | none => false
noncomputable def run (x : Bool) (fs : List Fn) (sub : Nat → Nat → Bool) (wl : (Fr → Sto → Res Bool) → (Fr → Sto → SR) → Fr → Sto → SR) : Nat → Nat → List R → Sto → Res R
  | 0, _, _, _ => .stuck
  | k + 1, f, rs, s => match fs[f]? with
    | none => .stuck
    | some F => if rs.length = F.pars then leave x F.fr (exs ⟨run x fs sub wl k, sub, frOf fs, wl⟩ F.body (enter F rs) s) else .stuck
end IP
end
section
set_option Elab.async false
set_option linter.all false
set_option maxRecDepth 100000
namespace IP
open PySem L2
structure Gx where
  K : PySem.W.Frag
  cA : Nat → Addr
  iA : Nat → Addr
  nm : Nat → List Str
structure Wo where
  n : Nat
  io : Nat → Addr
  Z : Addr → Prop
def errAt (a : Addr) (C : Addr) : Heap → Prop := fun h => ∃ o, h.get? a = some o ∧ o.cls = .ref C
def codeO (c : Addr) (q : Str) : Heap → Prop := fun h => h.CodeRec (.ref c) q
section
variable (G : Gx)
mutual
def Rep (w : Wo) (H : Hp) : T → V → Prop
  | .non, v => v = .non
  | .bl b, v => v = .bl b
  | .int i, v => v = .int i
  | .str x, v => v = .str x
  | .tup ts, v => ∃ a vs, v = .ref a ∧ H a = some (.tup vs) ∧ Reps w H ts vs
  | .lst ts, v => ∃ a vs, v = .ref a ∧ w.Z a ∧ Rd H a (.lst vs) ∧ Reps w H ts vs
  | .loc l, v => l < w.n ∧ v = .ref (w.io l)
  | .exc c, v => ∃ a, v = .ref a ∧ H a = some (.ext (errAt a (G.cA c)))
def Reps (w : Wo) (H : Hp) : List T → List V → Prop
  | [], vs => vs = []
  | t :: ts, vs => ∃ v r, vs = v :: r ∧ Rep w H t v ∧ Reps w H ts r
end
end
def notLoc (w : Wo) (a : Addr) : Prop := ∀ l, l < w.n → a ≠ w.io l
structure Le (w w' : Wo) (H H' : Hp) : Prop where
  n : w.n ≤ w'.n
  io : ∀ l, l < w.n → w'.io l = w.io l
  Z : ∀ a, w.Z a → w'.Z a
  keep : ∀ a o, H a = some o → notLoc w a → H' a = some o
  newL : ∀ l, w.n ≤ l → l < w'.n → H (w'.io l) = none
  newZ : ∀ a, w'.Z a → w.Z a ∨ H a = none
  some_ : ∀ a, H a ≠ none → H' a ≠ none
theorem Le.refl (w : Wo) (H : Hp) : Le w w H H := ⟨Nat.le_refl _, fun _ _ => rfl, fun _ z => z, fun _ _ e _ => e, fun l a b => absurd (Nat.lt_of_lt_of_le b a) (Nat.lt_irrefl _), fun _ z => .inl z, fun _ z => z⟩
theorem Le.trans {w w1 w2 : Wo} {H H1 H2 : Hp} (a : Le w w1 H H1) (b : Le w1 w2 H1 H2) : Le w w2 H H2 where
  n := Nat.le_trans a.n b.n
  io := fun l h => (b.io l (Nat.lt_of_lt_of_le h a.n)).trans (a.io l h)
  Z := fun x z => b.Z x (a.Z x z)
  keep := fun x o e nl => b.keep x o (a.keep x o e nl) fun l hl q => by
    by_cases h : l < w.n
    · exact nl l h (q.trans (a.io l h))
    · have := a.newL l (Nat.le_of_not_lt h) hl
      rw [← q, e] at this
      cases this
  newL := fun l h1 h2 => by
    by_cases h : l < w1.n
    · rw [b.io l h]
      exact a.newL l h1 h
    · have q := b.newL l (Nat.le_of_not_lt h) h2
      cases e : H (w2.io l) with
      | none => rfl
      | some o => exact absurd q (a.some_ _ (by rw [e]; intro z; cases z))
  newZ := fun x z => by
    rcases b.newZ x z with z | z
    · exact a.newZ x z
    · refine .inr ?_
      cases e : H x with
      | none => rfl
      | some o => exact absurd z (a.some_ x (by rw [e]; intro q; cases q))
  some_ := fun x z => b.some_ x (a.some_ x z)
section
variable {G : Gx}
def KvOk (nm : List Str) (kvs : List (Str × V)) : Prop := (kvs.map (·.1)).Nodup ∧ ∀ x ∈ kvs.map (·.1), x ∈ nm
def CellOk (G : Gx) (w : Wo) (H : Hp) (a : Addr) : Cell → Prop
  | .lst ts => ∃ vs, H a = some (.lst vs) ∧ Reps G w H ts vs
  | .ins c fs => ∃ dx kvs, H a = some (.ins (G.iA c) dx kvs) ∧ KvOk (G.nm c) kvs ∧ ∀ (i : Nat) (x : Str) (t : T), (G.nm c)[i]? = some x → fs[i]? = some (some t) → ∃ v, kvs.lookup x = some v ∧ Rep G w H t v
  | .tbl k p q => a = G.iA k ∧ ∃ ps : Array Value, H a = some (.tbl ps) ∧ TriplesOk ps.toList ∧ ∀ cv, codeAmong p ps.toList = some cv → ∃ c, cv = .ref c ∧ H c = some (.ext (codeO c q))
structure StoOk (G : Gx) (w : Wo) (H : Hp) (s : Sto) : Prop where
  len : s.length = w.n
  inj : ∀ l m, l < w.n → m < w.n → w.io l = w.io m → l = m
  nz : ∀ l, l < w.n → ¬ w.Z (w.io l)
  cell : ∀ l c, s[l]? = some c → CellOk G w H (w.io l) c
  zt : ∀ a, w.Z a → ∃ vs, Rd H a (.lst vs)
theorem StoOk.loc {w : Wo} {H : Hp} {s : Sto} (S : StoOk G w H s) {l : Nat} (h : l < w.n) : (∃ vs, H (w.io l) = some (.lst vs)) ∨ (∃ c dx kvs, H (w.io l) = some (.ins c dx kvs)) ∨ ∃ ps, H (w.io l) = some (.tbl ps) := by
  have hl : l < s.length := by rw [S.len]; exact h
  have q := S.cell l s[l] (List.getElem?_eq_getElem hl)
  cases e : s[l] with
  | lst ts => rw [e] at q; obtain ⟨vs, q, _⟩ := q; exact .inl ⟨vs, q⟩
  | ins c fs => rw [e] at q; obtain ⟨dx, kvs, q, _⟩ := q; exact .inr (.inl ⟨_, dx, kvs, q⟩)
  | tbl k p q' => rw [e] at q; obtain ⟨_, ps, q, _⟩ := q; exact .inr (.inr ⟨ps, q⟩)
theorem StoOk.notLoc {w : Wo} {H : Hp} {s : Sto} (S : StoOk G w H s) {a : Addr} {o : HO} (e : H a = some o) (h1 : ∀ vs, o ≠ .lst vs) (h2 : ∀ c dx kvs, o ≠ .ins c dx kvs) (h3 : ∀ ps, o ≠ .tbl ps := by intro _ z; cases z) : IP.notLoc w a := fun l hl q => by
  subst q
  rcases S.loc hl with ⟨vs, z⟩ | ⟨c, dx, kvs, z⟩ | ⟨ps, z⟩
  · rw [e] at z; exact h1 vs (Option.some.inj z)
  · rw [e] at z; exact h2 c dx kvs (Option.some.inj z)
  · rw [e] at z; exact h3 ps (Option.some.inj z)
theorem StoOk.zLoc {w : Wo} {H : Hp} {s : Sto} (S : StoOk G w H s) {a : Addr} (z : w.Z a) : IP.notLoc w a := fun l hl q => S.nz l hl (q ▸ z)
theorem StoOk.fresh {w : Wo} {H : Hp} {s : Sto} (S : StoOk G w H s) {a : Addr} (h : H a = none) : ¬ w.Z a ∧ IP.notLoc w a := by
  refine ⟨fun z => ?_, fun l hl q => ?_⟩
  · obtain ⟨vs, r | ⟨o, r⟩⟩ := S.zt a z
    · rw [h] at r; cases r
    · rw [h] at r; cases r
  · subst q
    rcases S.loc hl with ⟨vs, z⟩ | ⟨c, dx, kvs, z⟩ | ⟨ps, z⟩ <;> (rw [h] at z; cases z)
theorem Rd.keep {w w' : Wo} {H H' : Hp} {a : Addr} {u : HO} (L : Le w w' H H') (nl : IP.notLoc w a) (r : Rd H a u) : Rd H' a u := by
  rcases r with r | ⟨o, r⟩
  · exact .inl (L.keep _ _ r nl)
  · exact .inr ⟨o, L.keep _ _ r nl⟩
mutual
theorem Rep.mono {w w' : Wo} {H H' : Hp} {s : Sto} (L : Le w w' H H') (S : StoOk G w H s) : ∀ (t : T) (v : V), Rep G w H t v → Rep G w' H' t v
  | .non, v, h => h
  | .bl b, v, h => h
  | .int i, v, h => h
  | .str x, v, h => h
  | .tup ts, v, ⟨a, vs, e, h, r⟩ => ⟨a, vs, e, L.keep _ _ h (S.notLoc h (fun _ z => by cases z) fun _ _ _ z => by cases z), Reps.mono L S ts vs r⟩
  | .lst ts, v, ⟨a, vs, e, z, h, r⟩ => ⟨a, vs, e, L.Z _ z, Rd.keep L (S.zLoc z) h, Reps.mono L S ts vs r⟩
  | .loc l, v, ⟨h, e⟩ => ⟨Nat.lt_of_lt_of_le h L.n, by rw [L.io l h]; exact e⟩
  | .exc c, v, ⟨a, e, h⟩ => ⟨a, e, L.keep _ _ h (S.notLoc h (fun _ z => by cases z) fun _ _ _ z => by cases z)⟩
theorem Reps.mono {w w' : Wo} {H H' : Hp} {s : Sto} (L : Le w w' H H') (S : StoOk G w H s) : ∀ (ts : List T) (vs : List V), Reps G w H ts vs → Reps G w' H' ts vs
  | [], vs, h => h
  | t :: ts, vs, ⟨v, r, e, h, q⟩ => ⟨v, r, e, Rep.mono L S t v h, Reps.mono L S ts r q⟩
end
theorem Reps.length {w : Wo} {H : Hp} : ∀ {ts : List T} {vs : List V}, Reps G w H ts vs → ts.length = vs.length
  | [], _, h => by rw [h]; rfl
  | t :: ts, _, ⟨v, r, e, _, q⟩ => by subst e; simp [Reps.length q]
theorem Reps.get {w : Wo} {H : Hp} : ∀ {ts : List T} {vs : List V} {i : Nat} {t : T}, Reps G w H ts vs → ts[i]? = some t → ∃ v, vs[i]? = some v ∧ Rep G w H t v
  | [], _, i, t, h, e => by simp at e
  | t :: ts, _, 0, u, ⟨v, r, e, h, q⟩, z => by subst e; simp at z; subst z; exact ⟨v, rfl, h⟩
  | t :: ts, _, i + 1, u, ⟨v, r, e, h, q⟩, z => by
    subst e
    obtain ⟨x, h1, h2⟩ := Reps.get q (i := i) (t := u) (by simpa using z)
    exact ⟨x, by simpa using h1, h2⟩
theorem Reps.get' {w : Wo} {H : Hp} {ts : List T} {vs : List V} {i : Nat} {v : V} (h : Reps G w H ts vs) (e : vs[i]? = some v) : ∃ t, ts[i]? = some t ∧ Rep G w H t v := by
  have hi : i < ts.length := by
    rw [h.length]
    exact (List.getElem?_eq_some_iff.mp e).1
  obtain ⟨u, h1, h2⟩ := h.get (List.getElem?_eq_getElem hi)
  rw [e] at h1
  cases h1
  exact ⟨_, List.getElem?_eq_getElem hi, h2⟩
theorem Reps.append {w : Wo} {H : Hp} : ∀ {ts us : List T} {vs ws : List V}, Reps G w H ts vs → Reps G w H us ws → Reps G w H (ts ++ us) (vs ++ ws)
  | [], us, _, ws, h, q => by rw [h]; exact q
  | t :: ts, us, _, ws, ⟨v, r, e, h, k⟩, q => by subst e; exact ⟨v, r ++ ws, rfl, h, Reps.append k q⟩
theorem Reps.set {w : Wo} {H : Hp} {t : T} {v : V} (rv : Rep G w H t v) : ∀ {ts : List T} {vs : List V} (i : Nat), Reps G w H ts vs → Reps G w H (ts.set i t) (vs.set i v)
  | [], _, i, h => by rw [h]; exact rfl
  | x :: ts, _, 0, ⟨y, r, e, h, k⟩ => by subst e; exact ⟨v, r, rfl, rv, k⟩
  | x :: ts, _, i + 1, ⟨y, r, e, h, k⟩ => by subst e; exact ⟨y, r.set i v, rfl, h, Reps.set rv i k⟩
theorem Reps.drop {w : Wo} {H : Hp} : ∀ {ts : List T} {vs : List V} (i : Nat), Reps G w H ts vs → Reps G w H (ts.drop i) (vs.drop i)
  | ts, vs, 0, h => h
  | [], _, i + 1, h => by rw [h]; exact rfl
  | x :: ts, _, i + 1, ⟨y, r, e, h, k⟩ => by subst e; exact Reps.drop i k
theorem Reps.take {w : Wo} {H : Hp} : ∀ {ts : List T} {vs : List V} (i : Nat), Reps G w H ts vs → Reps G w H (ts.take i) (vs.take i)
  | ts, vs, 0, h => by simp; exact rfl
  | [], _, i + 1, h => by rw [h]; exact rfl
  | x :: ts, _, i + 1, ⟨y, r, e, h, k⟩ => by subst e; exact ⟨y, r.take i, rfl, h, Reps.take i k⟩
theorem Reps.reverse {w : Wo} {H : Hp} : ∀ {ts : List T} {vs : List V}, Reps G w H ts vs → Reps G w H ts.reverse vs.reverse
  | [], _, h => by rw [h]; exact rfl
  | x :: ts, _, ⟨y, r, e, h, k⟩ => by
    subst e
    rw [List.reverse_cons, List.reverse_cons]
    exact Reps.append (Reps.reverse k) ⟨y, [], rfl, h, rfl⟩
def RepR (G : Gx) (w : Wo) (H : Hp) : R → V → Prop
  | .val t, v => Rep G w H t v
  | .bor ts, v => ∃ a vs, v = .ref a ∧ H a = some (.lst vs) ∧ Reps G w H ts vs ∧ notLoc w a
def RepD (G : Gx) (w : Wo) (H : Hp) : R → V → Prop
  | .val t, v => Rep G w H t v
  | .bor ts, v => ∃ a vs, v = .ref a ∧ H a = some (.lst vs) ∧ Reps G w H ts vs
theorem RepR.d {w : Wo} {H : Hp} : ∀ {r : R} {v : V}, RepR G w H r v → RepD G w H r v
  | .val t, v, h => h
  | .bor ts, v, ⟨a, vs, e, h, r, _⟩ => ⟨a, vs, e, h, r⟩
theorem RepR.dr {w : Wo} {H : Hp} {s : Sto} (S : StoOk G w H s) {r : R} {v : V} (h : RepR G w H r v) : RepD G w H (r.dr s) v := by
  unfold R.dr
  split
  · rename_i l
    obtain ⟨hl, e⟩ := h
    split
    · rename_i ts q
      obtain ⟨vs, h1, h2⟩ := S.cell l _ q
      exact ⟨w.io l, vs, e, h1, h2⟩
    · exact ⟨hl, e⟩
  · exact h.d
theorem RepR.mono {w w' : Wo} {H H' : Hp} {s : Sto} (L : Le w w' H H') (S : StoOk G w H s) : ∀ {r : R} {v : V}, RepR G w H r v → RepR G w' H' r v
  | .val t, v, h => Rep.mono L S t v h
  | .bor ts, v, ⟨a, vs, e, h, r, nl⟩ => ⟨a, vs, e, L.keep _ _ h nl, Reps.mono L S ts vs r, fun l hl q => by
      by_cases k : l < w.n
      · exact nl l k (q.trans (L.io l k))
      · have := L.newL l (Nat.le_of_not_lt k) hl
        rw [← q, h] at this
        cases this⟩
def RepRs (G : Gx) (w : Wo) (H : Hp) : List R → List V → Prop
  | [], vs => vs = []
  | t :: ts, vs => ∃ v r, vs = v :: r ∧ RepR G w H t v ∧ RepRs G w H ts r
theorem RepRs.mono {w w' : Wo} {H H' : Hp} {s : Sto} (L : Le w w' H H') (S : StoOk G w H s) : ∀ {ts : List R} {vs : List V}, RepRs G w H ts vs → RepRs G w' H' ts vs
  | [], vs, h => h
  | t :: ts, vs, ⟨v, r, e, h, q⟩ => ⟨v, r, e, RepR.mono L S h, RepRs.mono L S q⟩
theorem RepRs.length {w : Wo} {H : Hp} : ∀ {ts : List R} {vs : List V}, RepRs G w H ts vs → ts.length = vs.length
  | [], _, h => by rw [h]; rfl
  | t :: ts, _, ⟨v, r, e, _, q⟩ => by subst e; simp [RepRs.length q]
def ownL : B → Option (List T)
  | .own ts => some ts
  | .lck ts => some ts
  | _ => none
structure FrOk (G : Gx) (w : Wo) (H H₀ : Hp) (σ : Fr) (σV : St) : Prop where
  len : σ.length = σV.length
  val : ∀ (i : Nat) (t : T), σ[i]? = some (some (.val t)) → ∃ v, σV[i]? = some (some v) ∧ Rep G w H t v
  own : ∀ (i : Nat) (b : B) (ts : List T), σ[i]? = some (some b) → ownL b = some ts → ∃ a vs, σV[i]? = some (some (.ref a)) ∧ H a = some (.lst vs) ∧ Reps G w H ts vs ∧ H₀ a = none ∧ ¬ w.Z a ∧ notLoc w a
  apart : ∀ (i j : Nat) (b c : B) (ts us : List T) (a : Addr), i ≠ j → σ[i]? = some (some b) → ownL b = some ts → σ[j]? = some (some c) → ownL c = some us → σV[i]? = some (some (.ref a)) → σV[j]? = some (some (.ref a)) → False
  bor : ∀ (i : Nat) (ts : List T), σ[i]? = some (some (.bor ts)) → ∃ a vs, σV[i]? = some (some (.ref a)) ∧ H a = some (.lst vs) ∧ Reps G w H ts vs ∧ H₀ a ≠ none ∧ notLoc w a
theorem notLoc.mono {w w' : Wo} {H H' : Hp} (L : Le w w' H H') {a : Addr} (h : H a ≠ none) (nl : notLoc w a) : notLoc w' a := fun l hl q => by
  by_cases k : l < w.n
  · exact nl l k (q.trans (L.io l k))
  · have := L.newL l (Nat.le_of_not_lt k) hl
    rw [← q] at this
    exact h this
theorem FrOk.mono {w w' : Wo} {H H' H₀ : Hp} {s : Sto} {σ : Fr} {σV : St} (L : Le w w' H H') (S : StoOk G w H s) (F : FrOk G w H H₀ σ σV) : FrOk G w' H' H₀ σ σV where
  len := F.len
  val := fun i t e => let ⟨v, h1, h2⟩ := F.val i t e; ⟨v, h1, Rep.mono L S t v h2⟩
  own := fun i b ts e eb => by
    obtain ⟨a, vs, h1, h2, h3, h4, h5, h6⟩ := F.own i b ts e eb
    have hn : H a ≠ none := by rw [h2]; intro z; cases z
    refine ⟨a, vs, h1, L.keep _ _ h2 h6, Reps.mono L S ts vs h3, h4, fun z => ?_, notLoc.mono L hn h6⟩
    rcases L.newZ a z with z | z
    · exact h5 z
    · exact hn z
  apart := F.apart
  bor := fun i ts e => by
    obtain ⟨a, vs, h1, h2, h3, h4, h6⟩ := F.bor i ts e
    have hn : H a ≠ none := by rw [h2]; intro z; cases z
    exact ⟨a, vs, h1, L.keep _ _ h2 h6, Reps.mono L S ts vs h3, h4, notLoc.mono L hn h6⟩
structure Good (G : Gx) (w₀ : Wo) (H₀ : Hp) (w : Wo) (H : Hp) (σ : Fr) (s : Sto) (σV : St) : Prop where
  sto : StoOk G w H s
  fr : FrOk G w H H₀ σ σV
  ent : Le w₀ w H₀ H
theorem Good.step {w₀ w w' : Wo} {H₀ H H' : Hp} {σ : Fr} {s s' : Sto} {σV : St} (g : Good G w₀ H₀ w H σ s σV) (L : Le w w' H H') (S : StoOk G w' H' s') : Good G w₀ H₀ w' H' σ s' σV := ⟨S, g.fr.mono L g.sto, g.ent.trans L⟩
end
end IP
end
section
set_option Elab.async false
set_option linter.all false
set_option maxRecDepth 100000
namespace IP
open PySem PySem.Spec L2
structure Flt (stack : List Env) (h B : Heap) (e : Addr) (sh : Heap) : Prop where
  cov : ∀ b o, B.get? b = some o ↔ h.get? b = some o ∧ b ∉ frs stack
  keep : ∀ b o, h.get? b = some o → b ∉ frs stack → sh.get? b = some o
  slot : ∀ b o, h.get? b = some o → b ∈ frs stack → ∃ sl, sh.get? b = some { o with slots := sl }
  new : h.get? e = none
def Thrown (G : Gx) (X : Cx) (pins : List (Addr × Obj)) (σV : St) (H : Hp) (c : Nat) (u : Value) (sh : Shared) : Prop :=
  ∃ (e : Addr) (h B : Heap), u = .ref e ∧ Inv X pins σV H { sh with heap := h } ∧ Flt X.stack h B e sh.heap ∧ X.base.StaysIn B ∧
    ((∃ args, Heap.MadeExcOf h sh.heap e (.ref (G.cA c)) args) ∨ (∃ t, Heap.FlyingW B X.stack e (.ref (G.cA c)) t sh.heap) ∨
     ∃ t L, X.env.frame = some L ∧ Heap.HeldW B X.stack e (.ref (G.cA c)) t L sh.heap)
def Want (G : Gx) (X : Cx) (σV : St) (w : Wo) (H : Hp) (res : Res R) (Q : VK) : Prop := match res with
  | .stuck => False
  | .ok r s' => ∀ w' H' v, Le w w' H H' → StoOk G w' H' s' → RepR G w' H' r v → Q v H'
  | .exc c s' => ∀ w' H' pins u sh, Le w w' H H' → StoOk G w' H' s' → Thrown G X pins σV H' c u sh → X.xe u sh
section
variable {G : Gx} {X : Cx} {σV : St} {w w₀ : Wo} {H H₀ : Hp} {Q Q' : VK}
theorem Want.imp {res : Res R} (h : Want G X σV w H res Q) (q : ∀ v H', Q v H' → Q' v H') : Want G X σV w H res Q' := by
  cases res with
  | stuck => exact h
  | ok r s => exact fun w' H' v a b c => q _ _ (h w' H' v a b c)
  | exc c s => exact h
theorem Want.mono {res : Res R} {w1 : Wo} {H1 : Hp} (L : Le w w1 H H1) (h : Want G X σV w H res Q) : Want G X σV w1 H1 res Q := by
  cases res with
  | stuck => exact h
  | ok r s => exact fun w' H' v a b c => h w' H' v (L.trans a) b c
  | exc c s => exact fun w' H' pins u sh a b => h w' H' pins u sh (L.trans a) b
theorem Want.bind {m : Res R} {k : R → Sto → Res R} (h : Want G X σV w H (m.bind k) Q) :
    Want G X σV w H m fun v H1 => ∃ w1 r s1, Le w w1 H H1 ∧ StoOk G w1 H1 s1 ∧ RepR G w1 H1 r v ∧ Want G X σV w1 H1 (k r s1) Q := by
  cases m with
  | stuck => exact h
  | ok r s => exact fun w' H' v a b c => ⟨w', r, s, a, b, c, Want.mono a h⟩
  | exc c s => exact h
theorem Want.of {o : Option R} {s : Sto} (h : Want G X σV w H (Res.of o s) Q) : ∃ r, o = some r ∧ ∀ w' H' v, Le w w' H H' → StoOk G w' H' s → RepR G w' H' r v → Q v H' := by
  cases o with
  | none => exact h.elim
  | some r => exact ⟨r, rfl, h⟩
theorem PE.imp {e : Expr} {t t' : TE} (h : PE X e t) (q : ∀ σ H Q, t' σ H Q → t σ H Q) : PE X e t' := fun pins s σ H Q I z => h pins s σ H Q I (q _ _ _ z)
theorem PT.imp {e : Expr} {t t' : TT} (h : PT X e t) (q : ∀ σ H Q, t' σ H Q → t σ H Q) : PT X e t' := fun pins s σ H Q I z => h pins s σ H Q I (q _ _ _ z)
theorem PA.imp {e : List Expr} {t t' : TA} (h : PA X e t) (q : ∀ σ H Q, t' σ H Q → t σ H Q) : PA X e t' := fun pos pins s σ H Q I z => h pos pins s σ H Q I (q _ _ _ z)
def tV (G : Gx) (X : Cx) (C : Cf) (e : E) : TE := fun σV H Q => ∃ w₀ H₀ w σ s, Good G w₀ H₀ w H σ s σV ∧ Want G X σV w H (ev C e .v σ s) Q
def tT (G : Gx) (X : Cx) (C : Cf) (e : E) : TT := fun σV H Q => ∃ w₀ H₀ w σ s, Good G w₀ H₀ w H σ s σV ∧ Want G X σV w H (ev C e .t σ s) fun v H' => ∃ k, v = .bl k ∧ Q k H'
theorem zabi {a p : Addr} {o : HO} (e : H a = some o) (hp : H p = none) : a ≠ p := fun q => by rw [q, hp] at e; cases e
theorem Le.new {p : Addr} (hp : H p = none) (o : HO) : Le w w H (upd H p o) where
  n := Nat.le_refl _
  io := fun _ _ => rfl
  Z := fun _ z => z
  keep := fun a u e _ => by rw [upd_ne (zabi e hp)]; exact e
  newL := fun l a b => absurd (Nat.lt_of_lt_of_le b a) (Nat.lt_irrefl _)
  newZ := fun _ z => .inl z
  some_ := fun a z => by
    cases e : H a with
    | none => exact absurd e z
    | some u => rw [upd_ne (zabi e hp), e]; intro q; cases q
def Wo.addZ (w : Wo) (p : Addr) : Wo := { w with Z := fun a => w.Z a ∨ a = p }
theorem Le.newZ_ {p : Addr} (hp : H p = none) (o : HO) : Le w (w.addZ p) H (upd H p o) where
  n := Nat.le_refl _
  io := fun _ _ => rfl
  Z := fun _ z => .inl z
  keep := (Le.new (w := w) hp o).keep
  newL := (Le.new (w := w) hp o).newL
  newZ := fun a z => z.elim .inl fun q => .inr (q ▸ hp)
  some_ := (Le.new (w := w) hp o).some_
theorem CellOk.mono {w' : Wo} {H' : Hp} {s : Sto} (L : Le w w' H H') (S : StoOk G w H s) {a : Addr} (e : H' a = H a) : ∀ {c : Cell}, CellOk G w H a c → CellOk G w' H' a c
  | .lst ts, ⟨vs, h, r⟩ => ⟨vs, e.trans h, Reps.mono L S ts vs r⟩
  | .ins c fs, ⟨dx, kvs, h, z, k⟩ => ⟨dx, kvs, e.trans h, z, fun i x t h1 h2 => let ⟨v, q1, q2⟩ := k i x t h1 h2; ⟨v, q1, Rep.mono L S t v q2⟩⟩
  | .tbl k p q, ⟨ha, ps, h, z, f⟩ => ⟨ha, ps, e.trans h, z, fun cv hcv => let ⟨c, e1, e2⟩ := f cv hcv; ⟨c, e1, L.keep _ _ e2 (S.notLoc e2 (fun _ z => by cases z) fun _ _ _ z => by cases z)⟩⟩
theorem StoOk.grow {w' : Wo} {H' : Hp} {s : Sto} (S : StoOk G w H s) (L : Le w w' H H') (hn : w'.n = w.n) (hl : ∀ l, l < w.n → H' (w.io l) = H (w.io l)) (hz : ∀ a, w'.Z a → ∃ vs, Rd H' a (.lst vs)) : StoOk G w' H' s where
  len := S.len.trans hn.symm
  inj := fun l m h1 h2 e => by
    rw [hn] at h1 h2
    rw [L.io l h1, L.io m h2] at e
    exact S.inj l m h1 h2 e
  nz := fun l h z => by
    rw [hn] at h
    rw [L.io l h] at z
    rcases L.newZ _ z with q | q
    · exact S.nz l h q
    · rcases S.loc h with ⟨vs, y⟩ | ⟨c, dx, kvs, y⟩ | ⟨ps, y⟩ <;> (rw [q] at y; cases y)
  cell := fun l c e => by
    have h : l < w.n := by rw [← S.len]; exact (List.getElem?_eq_some_iff.mp e).1
    rw [L.io l h]
    exact CellOk.mono L S (hl l h) (S.cell l c e)
  zt := hz
theorem Rd.upd {a p : Addr} {u o : HO} (hp : H p = none) (r : Rd H a u) : Rd (upd H p o) a u := by
  rcases r with r | ⟨q, r⟩
  · exact .inl (by rw [upd_ne (zabi r hp)]; exact r)
  · exact .inr ⟨q, by rw [upd_ne (zabi r hp)]; exact r⟩
theorem StoOk.new {s : Sto} {p : Addr} (S : StoOk G w H s) (hp : H p = none) (o : HO) : StoOk G w (L2.upd H p o) s :=
  S.grow (Le.new hp o) rfl (fun l h => upd_ne ((S.fresh hp).2 l h).symm) fun a z => let ⟨vs, r⟩ := S.zt a z; ⟨vs, Rd.upd hp r⟩
theorem StoOk.newZ {s : Sto} {p : Addr} (S : StoOk G w H s) (hp : H p = none) (vs : List V) : StoOk G (w.addZ p) (L2.upd H p (.lst vs)) s :=
  S.grow (Le.newZ_ hp _) rfl (fun l h => upd_ne ((S.fresh hp).2 l h).symm) fun a z => z.elim (fun z => let ⟨vs, r⟩ := S.zt a z; ⟨vs, Rd.upd hp r⟩) fun q => ⟨vs, .inl (by rw [q]; exact zaae)⟩
theorem fin_tup {s : Sto} {ts : List T} {vs : List V} (S : StoOk G w H s) (r : Reps G w H ts vs) (h : ∀ w' H' v, Le w w' H H' → StoOk G w' H' s → RepR G w' H' (.val (.tup ts)) v → Q v H') (p : Addr) (hp : H p = none) : Q (.ref p) (L2.upd H p (.tup vs)) :=
  h w _ _ (Le.new hp _) (S.new hp _) ⟨p, vs, rfl, zaae, Reps.mono (Le.new hp _) S ts vs r⟩
theorem zaeg {s : Sto} {ts : List T} {vs : List V} (S : StoOk G w H s) (r : Reps G w H ts vs) (h : ∀ w' H' v, Le w w' H H' → StoOk G w' H' s → RepR G w' H' (.val (.lst ts)) v → Q v H') (p : Addr) (hp : H p = none) : Q (.ref p) (L2.upd H p (.lst vs)) :=
  h _ _ _ (Le.newZ_ hp _) (S.newZ hp vs) ⟨p, vs, rfl, .inr rfl, .inl zaae, Reps.mono (Le.newZ_ hp _) S ts vs r⟩
def WantO (G : Gx) (X : Cx) (σV : St) (w : Wo) (H : Hp) (res : Res R) (Q : VK) : Prop := match res with
  | .ok (.val (.lst ts)) s' => ∀ w' H' a vs, Le w w' H H' → StoOk G w' H' s' → H' a = some (.lst vs) → Reps G w' H' ts vs → H a = none → ¬ w'.Z a → notLoc w' a → Q (.ref a) H'
  | .exc c s' => ∀ w' H' pins u sh, Le w w' H H' → StoOk G w' H' s' → Thrown G X pins σV H' c u sh → X.xe u sh
  | _ => False
def tO (G : Gx) (X : Cx) (C : Cf) (e : E) : TE := fun σV H Q => ∃ w₀ H₀ w σ s, Good G w₀ H₀ w H σ s σV ∧ WantO G X σV w H (ev C e .v σ s) Q
theorem fin_own {s : Sto} {ts : List T} {vs : List V} (S : StoOk G w H s) (r : Reps G w H ts vs) (h : ∀ w' H' a vs, Le w w' H H' → StoOk G w' H' s → H' a = some (.lst vs) → Reps G w' H' ts vs → H a = none → ¬ w'.Z a → notLoc w' a → Q (.ref a) H') (p : Addr) (hp : H p = none) : Q (.ref p) (L2.upd H p (.lst vs)) :=
  h w _ p vs (Le.new hp _) (S.new hp _) zaae (Reps.mono (Le.new hp _) S ts vs r) hp (S.fresh hp).1 (S.fresh hp).2
theorem RepD.seq {s : Sto} {x : R} {v : V} {ts : List T} (r : RepD G w H x v) (e : x.seq = some ts) : ∃ a vs, v = .ref a ∧ Rd H a (.lst vs) ∧ Reps G w H ts vs := by
  match x, e with
  | .val (.lst us), e => obtain ⟨a, vs, e1, _, h, q⟩ := r; cases e; exact ⟨a, vs, e1, h, q⟩
  | .bor us, e => obtain ⟨a, vs, e1, h, q⟩ := r; cases e; exact ⟨a, vs, e1, .inl h, q⟩
theorem RepR.seq {s : Sto} {x : R} {v : V} {ts : List T} (r : RepR G w H x v) (e : x.seq = some ts) : ∃ a vs, v = .ref a ∧ Rd H a (.lst vs) ∧ Reps G w H ts vs := RepD.seq (s := s) r.d e
theorem RepD.sq2 {x : R} {v : V} {ts : List T} (r : RepD G w H x v) (e : x.sq2 = some ts) : ∃ a vs, v = .ref a ∧ (Rd H a (.lst vs) ∨ H a = some (.tup vs)) ∧ Reps G w H ts vs := by
  match x, e with
  | .val (.lst us), e => obtain ⟨a, vs, e1, _, h, q⟩ := r; cases e; exact ⟨a, vs, e1, .inl h, q⟩
  | .val (.tup us), e => obtain ⟨a, vs, e1, h, q⟩ := r; cases e; exact ⟨a, vs, e1, .inr h, q⟩
  | .bor us, e => obtain ⟨a, vs, e1, h, q⟩ := r; cases e; exact ⟨a, vs, e1, .inl (.inl h), q⟩
theorem RepR.sq2 {x : R} {v : V} {ts : List T} (r : RepR G w H x v) (e : x.sq2 = some ts) : ∃ a vs, v = .ref a ∧ (Rd H a (.lst vs) ∨ H a = some (.tup vs)) ∧ Reps G w H ts vs := RepD.sq2 r.d e
theorem RepR.int {x : R} {v : V} {i : Int} (r : RepR G w H x v) (e : x.int? = some i) : v = .int i := by
  match x, e with
  | .val (.int j), e => cases e; exact r
theorem RepD.int {x : R} {v : V} {i : Int} (r : RepD G w H x v) (e : x.int? = some i) : v = .int i := by
  match x, e with
  | .val (.int j), e => cases e; exact r
end
end IP
end
section
set_option Elab.async false
set_option linter.all false
set_option maxRecDepth 100000
namespace IP
open PySem PySem.Spec L2
section
variable {G : Gx} {X : Cx} {C : Cf} {a b c : Expr} {a' b' c' : E} {pos : Pos}
theorem Rd.lst {pins : List (Addr × Obj)} {σ : St} {H : Hp} {s : Shared} {p : Addr} {xs : List V} (I : Inv X pins σ H s) (h : Rd H p (.lst xs)) :
    xs.length ≤ sizeLine ∧ ∃ (its : List Value) (n : Nat), Vals xs its ∧ xs.length = its.length ∧ s.heap.get? p = some { cls := .type "list", data := .seq its.toArray n } := by
  obtain ⟨z, its, n, r, e⟩ := Rd.ok h I.hok
  exact ⟨z, its, n, r, r.length, e⟩
theorem sV_var {i : Nat} {x : Str} (hN : X.N[i]? = some x) (hv : Vis X.env.scope x) (hd : (x == ("__debug__" : Str)) = false) (hcd : (x == ("__classdict__" : Str)) = false) : PE X (.Name x pos) (tV G X C (.var i)) := by
  refine PE.imp (pe_var hN hv hd hcd) ?_
  rintro σV H Q ⟨w₀, H₀, w, σ, s, g, h⟩
  obtain ⟨r, e, q⟩ := Want.of h
  unfold look at e
  split at e
  · rename_i t ht
    cases e
    obtain ⟨v, h1, h2⟩ := g.fr.val i t ht
    exact ⟨v, h1, q w H v (Le.refl _ _) g.sto h2⟩
  · rename_i ts ht
    cases e
    obtain ⟨p, vs, h1, h2, h3, _, _, h6⟩ := g.fr.own i _ ts ht rfl
    exact ⟨_, h1, q w H _ (Le.refl _ _) g.sto ⟨p, vs, rfl, h2, h3, h6⟩⟩
  · rename_i ts ht
    cases e
    obtain ⟨p, vs, h1, h2, h3, _, h6⟩ := g.fr.bor i ts ht
    exact ⟨_, h1, q w H _ (Le.refl _ _) g.sto ⟨p, vs, rfl, h2, h3, h6⟩⟩
  · rename_i ts ht
    cases e
    obtain ⟨p, vs, h1, h2, h3, _, _, h6⟩ := g.fr.own i _ ts ht rfl
    exact ⟨_, h1, q w H _ (Le.refl _ _) g.sto ⟨p, vs, rfl, h2, h3, h6⟩⟩
  · cases e
theorem tC_of {t : T} {v : V} (r : ∀ w H, Rep G w H t v) {σV : St} {H : Hp} {Q : VK} (h : tV G X C (.cst t) σV H Q) : tC v σV H Q := by
  obtain ⟨w₀, H₀, w, σ, s, g, h⟩ := h
  exact h w H v (Le.refl _ _) g.sto (r w H)
theorem sV_int {i j} : PE X (.Constant (.int i) j pos) (tV G X C (.cst (.int i))) := PE.imp pe_int fun _ _ _ h => tC_of (t := .int i) (v := .int i) (fun _ _ => rfl) h
theorem sV_bl {b j} : PE X (.Constant (.bool b) j pos) (tV G X C (.cst (.bl b))) := PE.imp pe_bl fun _ _ _ h => tC_of (t := .bl b) (v := .bl b) (fun _ _ => rfl) h
theorem sV_non {j} : PE X (.Constant .none j pos) (tV G X C (.cst .non)) := PE.imp pe_non fun _ _ _ h => tC_of (t := .non) (v := .non) (fun _ _ => rfl) h
theorem sV_glb {x : Str} {i : Int} {t : Tok} (hg : Gl X x) (hm : X.mg x = some (.int i t)) (hd : (x == ("__debug__" : Str)) = false) : PE X (.Name x pos) (tV G X C (.glb x i)) := by
  refine PE.imp (pe_glob (v := .int i) hg hm ⟨t, rfl⟩ hd) ?_
  rintro σV H Q ⟨w₀, H₀, w, σ, s, g, h⟩
  exact h w H _ (Le.refl _ _) g.sto rfl
def r2 (G : Gx) (f : R → R → Option R) : R2 := fun x y H Q => ∃ w s rx ry r, StoOk G w H s ∧ RepR G w H rx x ∧ RepR G w H ry y ∧ f rx ry = some r ∧ ∀ w' H' v, Le w w' H H' → StoOk G w' H' s → RepR G w' H' r v → Q v H'
theorem t2_of {f : R → R → Option R} {σV : St} {H : Hp} {Q : VK} (h : ∃ w₀ H₀ w σ s, Good G w₀ H₀ w H σ s σV ∧ Want G X σV w H ((ev C a' .v σ s).bind fun x s1 => (ev C b' .v σ s1).bind fun y s2 => .of (f x y) s2) Q) :
    tOp (r2 G f) (tV G X C a') (tV G X C b') σV H Q := by
  obtain ⟨w₀, H₀, w, σ, s, g, h⟩ := h
  refine ⟨w₀, H₀, w, σ, s, g, (Want.bind h).imp ?_⟩
  rintro x H1 ⟨w1, r1, s1, L1, S1, R1, h1⟩
  refine ⟨w₀, H₀, w1, σ, s1, g.step L1 S1, (Want.bind h1).imp ?_⟩
  rintro y H2 ⟨w2, r2, s2, L2, S2, R2, h2⟩
  obtain ⟨r, e, q⟩ := Want.of h2
  exact ⟨w2, s2, r1, r2, r, S2, R1.mono L2 S1, R2, e, q⟩
theorem s2 {f : R → R → Option R} {op : Operator} (ho : OpR X (binaryOp op) (r2 G f)) (ha : PE X a (tV G X C a')) (hb : PE X b (tV G X C b')) {e : E} (he : ∀ σ s, ev C e .v σ s = (ev C a' .v σ s).bind fun x s1 => (ev C b' .v σ s1).bind fun y s2 => .of (f x y) s2) :
    PE X (.BinOp a op b pos) (tV G X C e) := by
  refine PE.imp (pe_op ho ha hb) fun σV H Q h => ?_
  obtain ⟨w₀, H₀, w, σ, s, g, h⟩ := h
  rw [he] at h
  exact t2_of ⟨w₀, H₀, w, σ, s, g, h⟩
theorem s2c {f : R → R → Option R} {op : CmpOp} (ho : OpR X (compareOp op) (r2 G f)) (ha : PE X a (tV G X C a')) (hb : PE X b (tV G X C b')) (hm : behindInMarks op b = false) {e : E} (he : ∀ σ s, ev C e .v σ s = (ev C a' .v σ s).bind fun x s1 => (ev C b' .v σ s1).bind fun y s2 => .of (f x y) s2) :
    PE X (.Compare a [op] [b] pos) (tV G X C e) := by
  refine PE.imp (pe_cmpR ho ha hb hm) fun σV H Q h => ?_
  obtain ⟨w₀, H₀, w, σ, s, g, h⟩ := h
  rw [he] at h
  exact t2_of ⟨w₀, H₀, w, σ, s, g, h⟩
theorem zaci {j : Int} (h : j.natAbs < big) : j.natAbs.log2 < 1000 := by
  rcases Nat.eq_zero_or_pos j.natAbs with h0 | hp
  · rw [h0]; decide
  · refine (Nat.log2_lt (Nat.ne_of_gt hp)).mpr (Nat.lt_trans h ?_)
    unfold big
    decide +kernel
theorem zaer {k : Int} (h : k.natAbs < big) : Builtin.Int.intBits k ≤ 1000 := by
  unfold Builtin.Int.intBits
  split
  · exact Nat.zero_le _
  · have := zaci h
    omega
theorem mulB_ok {i j : Int} (h : mulB i j = true) : IntMulOk i j := by
  unfold mulB at h
  rw [Bool.or_eq_true, Bool.or_eq_true, Bool.and_eq_true, decide_eq_true_iff, decide_eq_true_iff, decide_eq_true_iff, decide_eq_true_iff] at h
  rcases h with (h | h) | ⟨h1, h2⟩
  · exact IntMulOk.of_left (intBits_le_64 (by omega) (by omega))
  · exact IntMulOk.of_right (intBits_le_64 (by omega) (by omega))
  · exact PyProof.Rows.mulOk_of_bits (zaer h1) (zaer h2) (by decide)
def opOf : Op → Operator
  | .add => .Add | .sub => .Sub | .mul => .Mult | .fdiv => .FloorDiv | .mod => .Mod | .pow => .Pow
theorem int_op (o : Op) (i j k : Int) (h : opI o i j = some k) : ∀ (t u : Tok) (s : Shared) (Q : Value → Shared → Prop) (E : Value → Shared → Prop), Q (.int k s.toks) { s with toks := s.toks + 1 } → wpAny (model X.prog X.w) X.A (binaryOp (opOf o) (.int i t) (.int j u)) Q E s := by
  intro t u s Q E q
  cases o with
  | add => cases h; exact PyProof.Rows.add_int q
  | sub => cases h; exact PyProof.Rows.sub_int q
  | mul =>
    simp only [opI] at h
    split at h
    · rename_i hm; cases h; exact PyProof.Rows.mul_int q (mulB_ok hm)
    · cases h
  | fdiv =>
    simp only [opI] at h
    split at h
    · rename_i hm; cases h; exact PyProof.Rows.floordiv_int hm.1 q (Or.inl (PyProof.noPylong_of_log2 (Nat.lt_trans (zaci hm.2) (by decide))))
    · cases h
  | mod =>
    simp only [opI] at h
    split at h
    · rename_i hm; cases h; exact PyProof.Rows.mod_int hm q
    · cases h
  | pow =>
    simp only [opI] at h
    split at h
    · rename_i hm
      cases h
      refine PyProof.Rows.pow_int hm.1 ?_ q
      have h1 := zaer hm.2.2
      have h2 : ((Builtin.Int.intBits i : Nat) : Int) * j ≤ 1000 * 100 := by
        refine Int.mul_le_mul (by omega) hm.2.1 hm.1 (by omega)
      omega
    · cases h
theorem op_ok (o : Op) : OpR X (binaryOp (opOf o)) (r2 G (opR o)) := by
  intro pins s σ H x y v u Q I rx ry h
  obtain ⟨w, st, x', y', r, S, Rx, Ry, e, q⟩ := h
  have intc : ∀ i j k, x' = .val (.int i) → y' = .val (.int j) → opI o i j = some k → r = .val (.int k) → wpAny (model X.prog X.w) X.A (binaryOp (opOf o) v u) (EP X pins σ Q) X.xe s := by
    rintro i j k rfl rfl ho rfl
    have hx : x = .int i := Rx
    have hy : y = .int j := Ry
    subst hx hy
    obtain ⟨t, rfl⟩ := rx
    obtain ⟨t2, rfl⟩ := ry
    exact int_op o i j k ho t t2 s _ _ ⟨.int k, H, I.tok _, ⟨_, rfl⟩, q w H _ (Le.refl _ _) S rfl⟩
  have lstc : ∀ xs ys, x'.seq = some xs → y'.seq = some ys → o = .add → xs.length + ys.length ≤ lim → r = .val (.lst (xs ++ ys)) → wpAny (model X.prog X.w) X.A (binaryOp (opOf o) v u) (EP X pins σ Q) X.xe s := by
    rintro xs ys e1 e2 rfl hl rfl
    obtain ⟨p, vs, rfl, hp, r1⟩ := RepR.seq (s := st) Rx e1
    obtain ⟨p2, vs2, rfl, hp2, r2⟩ := RepR.seq (s := st) Ry e2
    cases rx
    cases ry
    obtain ⟨z, its, n, q1, l1, g1⟩ := Rd.lst I hp
    obtain ⟨z2, its2, n2, q2, l2, g2⟩ := Rd.lst I hp2
    have hz : its.length + its2.length ≤ sizeLine := by
      rw [← l1, ← l2, ← r1.length, ← r2.length]
      have : lim ≤ sizeLine := by decide
      omega
    refine PySem.P.add_list g1 g2 ?_ (by rw [List.size_toArray, List.size_toArray]; exact hz)
    have ea : its.toArray ++ its2.toArray = (its ++ its2).toArray := by simp
    rw [ea]
    exact ⟨.ref _, _, I.lnew (t' := s.toks) (q1.append q2) (by rw [List.length_append, l1, l2]; exact hz), rfl, zaeg S (r1.append r2) q _ I.fresh⟩
  unfold opR at e
  split at e
  · rename_i i j
    cases ho : opI o i j with
    | none => rw [ho] at e; cases e
    | some k => rw [ho] at e; cases e; exact intc i j k rfl rfl ho rfl
  · rename_i xs ys
    split at e
    · rename_i hc
      cases e
      obtain ⟨p, vs, rfl, hp, r1⟩ := Rx
      obtain ⟨p2, vs2, rfl, hp2, r2⟩ := Ry
      have n1 : vs ≠ [] := by
        intro z; subst z
        exact hc.1 (List.length_eq_zero_iff.mp r1.length)
      have n2 : vs2 ≠ [] := by
        intro z; subst z
        exact hc.2.1 (List.length_eq_zero_iff.mp r2.length)
      refine op_catT pins s σ H _ _ v u Q I rx ry ⟨p, p2, vs, vs2, rfl, rfl, SqT.of hp, SqT.of hp2, n1, ?_, fun z => absurd z n2, fun _ => fin_tup S (r1.append r2) q⟩
      rw [← r1.length, ← r2.length]
      have : lim ≤ sizeLine := by decide
      omega
    · cases e
  · split at e
    · rename_i xs ys e1 e2
      split at e
      · rename_i hl
        cases e
        exact lstc xs ys e1 e2 rfl hl rfl
      · cases e
    · cases e
  · cases e
theorem sV_bin (o : Op) (ha : PE X a (tV G X C a')) (hb : PE X b (tV G X C b')) : PE X (.BinOp a (opOf o) b pos) (tV G X C (.bin o a' b')) := s2 (op_ok o) ha hb fun _ _ => rfl
end
end IP
end
section
set_option Elab.async false
set_option linter.all false
set_option maxRecDepth 100000
namespace IP
open PySem PySem.Spec L2 PySem.SeqAt
section
variable {G : Gx} {X : Cx} {pins : List (Addr × Obj)} {σ : St} {H : Hp} {s : Shared} {w : Wo} {st : Sto}
theorem zaar {a : Addr} {vs : List V} (I : Inv X pins σ H s) (h : H a = some (.tup vs)) : ∃ its : List Value, Vals vs its ∧ s.heap.IsTuple a its.toArray := by
  obtain ⟨its, r, q, _⟩ := I.tuple (SqT.of (K := X.K) h)
  exact ⟨its, r, q⟩
theorem zaa6 {a : Addr} {vs : List V} (I : Inv X pins σ H s) (h : Rd H a (.lst vs)) : ∃ its : List Value, Vals vs its ∧ s.heap.IsList a its.toArray := by
  obtain ⟨_, its, n, r, _, e⟩ := Rd.lst I h
  exact ⟨its, r, _, e, rfl, n, rfl⟩
theorem zacj {f : T → T → Option Bool} : ∀ (ts us : List T) (vs : List V), (∀ t u v k, Rep G w H t v → Rep G w H u v → f t u = some k → k = true) → Reps G w H ts vs → Reps G w H us vs → ∀ k, eqL f ts us = some k → k = true
  | [], [], _, _, _, _, k, h => by cases h; rfl
  | [], _ :: _, _, _, h1, h2, k, h => by
    obtain ⟨v, r, e, _⟩ := h2
    rw [h1] at e
    cases e
  | _ :: _, [], _, _, h1, h2, k, h => by
    obtain ⟨v, r, e, _⟩ := h1
    rw [h2] at e
    cases e
  | t :: ts, u :: us, _, hf, ⟨v, r, e, h1, h2⟩, ⟨v', r', e', h1', h2'⟩, k, h => by
    subst e
    cases e'
    unfold eqL at h
    split at h
    · rename_i k1 k2 q1 q2
      cases h
      rw [hf t u v k1 h1 h1' q1, zacj ts us r hf h2 h2' k2 q2]
      rfl
    · cases h
theorem zab1 : ∀ (n : Nat) (t u : T) (v : V) (k : Bool), Rep G w H t v → Rep G w H u v → eqD n t u = some k → k = true
  | n, .non, u, v, k, h1, h2, h => by
    cases h1
    cases u <;> simp only [Rep] at h2 <;> first | (cases h2; done) | (simp [eqD] at h; exact h) | (obtain ⟨a, vs, e, _⟩ := h2; cases e) | (obtain ⟨e, e2⟩ := h2; cases e2; done) | (obtain ⟨e, e2, _⟩ := h2; cases e2)
  | n, .bl b, u, v, k, h1, h2, h => by
    cases h1
    cases u <;> simp only [Rep] at h2 <;> first | (cases h2; done) | (cases h2; simp [eqD] at h; exact h) | (obtain ⟨a, vs, e, _⟩ := h2; cases e) | (obtain ⟨e, e2⟩ := h2; cases e2; done) | (obtain ⟨e, e2, _⟩ := h2; cases e2)
  | n, .int i, u, v, k, h1, h2, h => by
    cases h1
    cases u <;> simp only [Rep] at h2 <;> first | (cases h2; done) | (cases h2; simp [eqD] at h; exact h) | (obtain ⟨a, vs, e, _⟩ := h2; cases e) | (obtain ⟨e, e2⟩ := h2; cases e2; done) | (obtain ⟨e, e2, _⟩ := h2; cases e2)
  | n, .str x, u, v, k, h1, h2, h => by
    cases h1
    cases u <;> simp only [Rep] at h2 <;> first | (cases h2; done) | (cases h2; simp [eqD] at h; exact h) | (obtain ⟨a, vs, e, _⟩ := h2; cases e) | (obtain ⟨e, e2⟩ := h2; cases e2; done) | (obtain ⟨e, e2, _⟩ := h2; cases e2)
  | 0, .tup ts, u, v, k, h1, h2, h => by cases u <;> simp [eqD] at h
  | n + 1, .tup ts, u, v, k, h1, h2, h => by
    obtain ⟨a, vs, e, q, r⟩ := h1
    subst e
    cases u with
    | tup us =>
      obtain ⟨a', vs', e', q', r'⟩ := h2
      cases e'
      rw [q] at q'
      cases q'
      simp only [eqD] at h
      exact zacj ts us vs (fun t u v k => zab1 n t u v k) r r' k h
    | non => cases h2
    | _ => simp [eqD] at h
  | 0, .lst ts, u, v, k, h1, h2, h => by cases u <;> simp [eqD] at h
  | n + 1, .lst ts, u, v, k, h1, h2, h => by
    obtain ⟨a, vs, e, z, q, r⟩ := h1
    subst e
    cases u with
    | lst us =>
      obtain ⟨a', vs', e', z', q', r'⟩ := h2
      cases e'
      have ev : vs = vs' := by
        rcases q with q | ⟨o, q⟩ <;> rcases q' with q' | ⟨o', q'⟩ <;> (rw [q] at q'; cases q'; try rfl)
      subst ev
      simp only [eqD] at h
      exact zacj ts us vs (fun t u v k => zab1 n t u v k) r r' k h
    | _ => simp [eqD] at h
  | n, .loc l, u, v, k, h1, h2, h => by cases u <;> simp [eqD] at h
  | n, .exc c, u, v, k, h1, h2, h => by cases u <;> simp [eqD] at h
theorem zab5 {f : T → T → Option Bool} : ∀ (ts us : List T) (k : Bool), eqL f ts us = some k → ∃ e : Nat → Bool, (∀ (j : Nat) t u, ts[j]? = some t → us[j]? = some u → f t u = some (e j)) ∧ k = ((List.range (min ts.length us.length)).all e && ts.length == us.length)
  | [], [], k, h => by cases h; exact ⟨fun _ => true, fun j t u z => by simp at z, rfl⟩
  | [], u :: us, k, h => by cases h; exact ⟨fun _ => true, fun j t u z => by simp at z, by simp⟩
  | t :: ts, [], k, h => by cases h; exact ⟨fun _ => true, fun j t u _ z => by simp at z, by simp⟩
  | t :: ts, u :: us, k, h => by
    unfold eqL at h
    split at h
    · rename_i k1 k2 q1 q2
      cases h
      obtain ⟨e, h1, h2⟩ := zab5 ts us k2 q2
      refine ⟨fun j => match j with | 0 => k1 | j + 1 => e j, fun j t' u' z1 z2 => ?_, ?_⟩
      · cases j with
        | zero => simp at z1 z2; subst z1 z2; exact q1
        | succ j => simp at z1 z2; exact h1 j t' u' z1 z2
      · rw [h2]
        have em : min (t :: ts).length (u :: us).length = min ts.length us.length + 1 := by simp [Nat.succ_min_succ]
        rw [em, List.range_succ_eq_map, List.all_cons, List.all_map]
        have el : ((t :: ts).length == (u :: us).length) = (ts.length == us.length) := by simp
        rw [el, Bool.and_assoc]
        rfl
    · cases h
theorem zacq {vs : List V} {its : List Value} (r : Vals vs its) {j : Nat} {u : Value} (e : its[j]? = some u) : ∃ v, vs[j]? = some v ∧ RelV v u := by
  have hj : j < vs.length := by rw [r.length]; exact (List.getElem?_eq_some_iff.mp e).1
  obtain ⟨u', h1, h2⟩ := r.get (List.getElem?_eq_getElem hj)
  rw [e] at h1
  cases h1
  exact ⟨_, List.getElem?_eq_getElem hj, h2⟩
variable {A : Around}
theorem zaax {n : Nat} {ts us : List T} {vs vs' : List V} {its its' : List Value} {e : Nat → Bool} (r : Reps G w H ts vs) (r' : Reps G w H us vs') (q : Vals vs its) (q' : Vals vs' its')
    (he : ∀ (j : Nat) t u, ts[j]? = some t → us[j]? = some u → eqD n t u = some (e j))
    (ih : ∀ (t u : T) (v v' : V) (x y : Value) (k : Bool), Rep G w H t v → Rep G w H u v' → RelV v x → RelV v' y → eqD n t u = some k → EqAt A s x y k) :
    ∀ j (h1 : j < its.toArray.size) (h2 : j < its'.toArray.size), EqAt A s its.toArray[j] its'.toArray[j] (e j) := by
  intro j h1 h2
  have h1' : j < its.length := by simpa using h1
  have h2' : j < its'.length := by simpa using h2
  obtain ⟨v, e1, rv⟩ := zacq q (List.getElem?_eq_getElem h1')
  obtain ⟨v', e2, rv'⟩ := zacq q' (List.getElem?_eq_getElem h2')
  obtain ⟨t, e3, rt⟩ := r.get' e1
  obtain ⟨u, e4, ru⟩ := r'.get' e2
  have := ih t u v v' its[j] its'[j] (e j) rt ru rv rv' (he j t u e3 e4)
  simpa using this
theorem eqAt_T (I : Inv X pins σ H s) : ∀ (n : Nat) (A : Around), A.units + n < cLine → ∀ (t u : T) (v v' : V) (x y : Value) (k : Bool), Rep G w H t v → Rep G w H u v' → RelV v x → RelV v' y → eqD n t u = some k → EqAt A s x y k := by
  intro n
  induction n with
  | zero =>
    intro A hu t u v v' x y k h1 h2 r1 r2 h
    cases t <;> cases u <;> simp only [eqD] at h <;> first | (cases h; done) | skip
    · cases h; cases h1; cases h2; cases r1; cases r2; exact EqAt.same _
    · cases h; cases h1; cases h2; cases r1; obtain ⟨_, rfl⟩ := r2; exact EqAt.none_int _ _
    · cases h; cases h1; cases h2; cases r1; cases r2; exact EqAt.bool_bool _ _
    · cases h; cases h1; cases h2; obtain ⟨_, rfl⟩ := r1; cases r2; exact EqAt.int_none _ _
    · cases h; cases h1; cases h2; obtain ⟨_, rfl⟩ := r1; obtain ⟨_, rfl⟩ := r2; exact EqAt.int_int _ _ _ _
    · cases h; cases h1; cases h2; obtain ⟨_, rfl⟩ := r1; obtain ⟨_, rfl⟩ := r2; exact EqAt.str_str _ _ _ _
  | succ n ih =>
    intro A hu t u v v' x y k h1 h2 r1 r2 h
    have hu0 : A.units < cLine := by omega
    have hin : A.in1.units + n < cLine := by show A.units + 1 + n < cLine; omega
    cases t <;> cases u <;> simp only [eqD] at h <;> first | (cases h; done) | skip
    · cases h; cases h1; cases h2; cases r1; cases r2; exact EqAt.same _
    · cases h; cases h1; cases h2; cases r1; obtain ⟨_, rfl⟩ := r2; exact EqAt.none_int _ _
    · cases h
      obtain ⟨a, vs, e, q, _⟩ := h2
      subst e
      cases h1; cases r1; cases r2
      obtain ⟨its, _, hi⟩ := zaar I q
      exact EqAt.none_tuple hi hu0
    · cases h; cases h1; cases h2; cases r1; cases r2; exact EqAt.bool_bool _ _
    · cases h; cases h1; cases h2; obtain ⟨_, rfl⟩ := r1; cases r2; exact EqAt.int_none _ _
    · cases h; cases h1; cases h2; obtain ⟨_, rfl⟩ := r1; obtain ⟨_, rfl⟩ := r2; exact EqAt.int_int _ _ _ _
    · cases h; cases h1; cases h2; obtain ⟨_, rfl⟩ := r1; obtain ⟨_, rfl⟩ := r2; exact EqAt.str_str _ _ _ _
    · cases h
      obtain ⟨a, vs, e, q, _⟩ := h1
      subst e
      cases h2; cases r1; cases r2
      obtain ⟨its, _, hi⟩ := zaar I q
      exact EqAt.tuple_none hi hu0
    · rename_i ts us
      have hs := zab1 (G := G) (w := w) (H := H) (n + 1) (.tup ts) (.tup us)
      have h1' := h1
      have h2' := h2
      obtain ⟨a, vs, e, q, r⟩ := h1
      obtain ⟨a', vs', e', q', r'⟩ := h2
      subst e e'
      cases r1; cases r2
      by_cases ea : a = a'
      · subst ea
        have hk : k = true := hs (.ref a) k h1' h2' (by simp only [eqD]; exact h)
        subst hk
        exact EqAt.same _
      · obtain ⟨its, q1, hi⟩ := zaar I q
        obtain ⟨its', q1', hi'⟩ := zaar I q'
        obtain ⟨e, he, hk⟩ := zab5 ts us k h
        have hz := RcAt.tuples hi hi' hu0 (zaax r r' q1 q1' he (ih A.in1 hin))
        rw [List.size_toArray, List.size_toArray, ← q1.length, ← q1'.length, ← r.length, ← r'.length, ← hk] at hz
        exact EqAt.of_refs ea hz
    · rename_i ts us
      have hs := zab1 (G := G) (w := w) (H := H) (n + 1) (.lst ts) (.lst us)
      have h1' := h1
      have h2' := h2
      obtain ⟨a, vs, e, _, q, r⟩ := h1
      obtain ⟨a', vs', e', _, q', r'⟩ := h2
      subst e e'
      cases r1; cases r2
      by_cases ea : a = a'
      · subst ea
        have hk : k = true := hs (.ref a) k h1' h2' (by simp only [eqD]; exact h)
        subst hk
        exact EqAt.same _
      · obtain ⟨its, q1, hi⟩ := zaa6 I q
        obtain ⟨its', q1', hi'⟩ := zaa6 I q'
        obtain ⟨e, he, hk⟩ := zab5 ts us k h
        have l1 : its.toArray.size = ts.length := by rw [List.size_toArray, ← q1.length, ← r.length]
        have l2 : its'.toArray.size = us.length := by rw [List.size_toArray, ← q1'.length, ← r'.length]
        by_cases el : ts.length = us.length
        · have hz := RcAt.lists hi hi' (by rw [l1, l2, el]) hu0 (zaax r r' q1 q1' he (ih A.in1 hin))
          rw [l1] at hz
          rw [el, Nat.min_self] at hk
          have : k = (List.range us.length).all e := by rw [hk]; simp
          rw [el, ← this] at hz
          exact EqAt.of_refs ea hz
        · have hz := RcAt.lists_lengths hi hi' (by rw [l1, l2]; simpa using el) hu0
          have : k = false := by rw [hk]; simp [el]
          rw [this]
          exact EqAt.of_refs ea hz
end
end IP
end
section
set_option Elab.async false
set_option linter.all false
set_option maxRecDepth 100000
namespace IP
open PySem PySem.Spec L2 PySem.SeqAt
section
variable {G : Gx} {X : Cx} {pins : List (Addr × Obj)} {σ : St} {H : Hp} {s : Shared} {w : Wo} {st : Sto} {A : Around}
theorem zaby (I : Inv X pins σ H s) (hu : A.units + 8 < cLine) {a b : Addr} {vs vs' : List V} {ts us : List T} {k : Bool} (q : Rd H a (.lst vs)) (q' : Rd H b (.lst vs')) (r : Reps G w H ts vs) (r' : Reps G w H us vs') (h : eqL (eqD 7) ts us = some k) :
    RcAt A s (.ref a) (.ref b) k ∧ RcNeAt A s (.ref a) (.ref b) (!k) := by
  have hu0 : A.units < cLine := by omega
  have hin : A.in1.units + 7 < cLine := by show A.units + 1 + 7 < cLine; omega
  obtain ⟨its, q1, hi⟩ := zaa6 I q
  obtain ⟨its', q1', hi'⟩ := zaa6 I q'
  obtain ⟨e, he, hk⟩ := zab5 ts us k h
  have l1 : its.toArray.size = ts.length := by rw [List.size_toArray, ← q1.length, ← r.length]
  have l2 : its'.toArray.size = us.length := by rw [List.size_toArray, ← q1'.length, ← r'.length]
  have hp := zaax (s := s) (A := A.in1) r r' q1 q1' he (eqAt_T I 7 A.in1 hin)
  by_cases el : ts.length = us.length
  · have hz := RcAt.lists hi hi' (by rw [l1, l2, el]) hu0 hp
    have hy := RcNeAt.lists hi hi' (by rw [l1, l2, el]) hu0 hp
    rw [el, Nat.min_self] at hk
    have : k = (List.range us.length).all e := by rw [hk]; simp
    rw [l1, el, ← this] at hz hy
    exact ⟨hz, hy⟩
  · have hz := RcAt.lists_lengths hi hi' (by rw [l1, l2]; simpa using el) hu0
    have hy := RcNeAt.lists_lengths hi hi' (by rw [l1, l2]; simpa using el) hu0
    have : k = false := by rw [hk]; simp [el]
    rw [this]
    exact ⟨hz, hy⟩
theorem rc_tups (I : Inv X pins σ H s) (hu : A.units + 8 < cLine) {a b : Addr} {vs vs' : List V} {ts us : List T} {k : Bool} (q : H a = some (.tup vs)) (q' : H b = some (.tup vs')) (r : Reps G w H ts vs) (r' : Reps G w H us vs') (h : eqL (eqD 7) ts us = some k) :
    RcAt A s (.ref a) (.ref b) k ∧ RcNeAt A s (.ref a) (.ref b) (!k) := by
  have hu0 : A.units < cLine := by omega
  have hin : A.in1.units + 7 < cLine := by show A.units + 1 + 7 < cLine; omega
  obtain ⟨its, q1, hi⟩ := zaar I q
  obtain ⟨its', q1', hi'⟩ := zaar I q'
  obtain ⟨e, he, hk⟩ := zab5 ts us k h
  have hp := zaax (s := s) (A := A.in1) r r' q1 q1' he (eqAt_T I 7 A.in1 hin)
  have hz := RcAt.tuples hi hi' hu0 hp
  have hy := RcNeAt.tuples hi hi' hu0 hp
  rw [List.size_toArray, List.size_toArray, ← q1.length, ← q1'.length, ← r.length, ← r'.length, ← hk] at hz hy
  exact ⟨hz, hy⟩
theorem rc_T (I : Inv X pins σ H s) (hu : A.units + 8 < cLine) {t u : T} {v v' : V} {x y : Value} {k : Bool} (h1 : Rep G w H t v) (h2 : Rep G w H u v') (r1 : RelV v x) (r2 : RelV v' y) (h : eqD 8 t u = some k) :
    RcAt A s x y k ∧ RcNeAt A s x y (!k) := by
  have hu0 : A.units < cLine := by omega
  cases t <;> cases u <;> simp only [eqD] at h <;> first | (cases h; done) | skip
  · cases h; cases h1; cases h2; cases r1; cases r2; exact ⟨RcAt.none_none, RcNeAt.none_none⟩
  · cases h; cases h1; cases h2; cases r1; obtain ⟨_, rfl⟩ := r2; exact ⟨RcAt.none_int _ _, RcNeAt.none_int _ _⟩
  · cases h
    obtain ⟨a, vs, e, q, _⟩ := h2
    subst e
    cases h1; cases r1; cases r2
    obtain ⟨its, _, hi⟩ := zaar I q
    exact ⟨RcAt.none_tuple hi hu0, RcNeAt.none_tuple hi hu0⟩
  · cases h; cases h1; cases h2; cases r1; cases r2; exact ⟨RcAt.bool_bool _ _, RcNeAt.bool_bool _ _⟩
  · cases h; cases h1; cases h2; obtain ⟨_, rfl⟩ := r1; cases r2; exact ⟨RcAt.int_none _ _, RcNeAt.int_none _ _⟩
  · cases h; cases h1; cases h2; obtain ⟨_, rfl⟩ := r1; obtain ⟨_, rfl⟩ := r2; exact ⟨RcAt.int_int _ _ _ _, RcNeAt.int_int _ _ _ _⟩
  · cases h; cases h1; cases h2; obtain ⟨_, rfl⟩ := r1; obtain ⟨_, rfl⟩ := r2; exact ⟨RcAt.str_str _ _ _ _, RcNeAt.str_str _ _ _ _⟩
  · cases h
    obtain ⟨a, vs, e, q, _⟩ := h1
    subst e
    cases h2; cases r1; cases r2
    obtain ⟨its, _, hi⟩ := zaar I q
    exact ⟨RcAt.tuple_none hi hu0, RcNeAt.tuple_none hi hu0⟩
  · obtain ⟨a, vs, e, q, r⟩ := h1
    obtain ⟨a', vs', e', q', r'⟩ := h2
    subst e e'
    cases r1; cases r2
    exact rc_tups I hu q q' r r' h
  · obtain ⟨a, vs, e, _, q, r⟩ := h1
    obtain ⟨a', vs', e', _, q', r'⟩ := h2
    subst e e'
    cases r1; cases r2
    exact zaby I hu q q' r r' h
theorem rc_R (I : Inv X pins σ H s) (hu : A.units + 8 < cLine) {t u : R} {v v' : V} {x y : Value} {k : Bool} (h1 : RepR G w H t v) (h2 : RepR G w H u v') (r1 : RelV v x) (r2 : RelV v' y) (h : eqR t u = some k) :
    RcAt A s x y k ∧ RcNeAt A s x y (!k) := by
  unfold eqR at h
  split at h
  · exact rc_T I hu h1 h2 r1 r2 h
  · obtain ⟨a, vs, e, _, q, r⟩ := h1
    obtain ⟨a', vs', e', q', r', _⟩ := h2
    subst e e'
    cases r1; cases r2
    exact zaby I hu q (.inl q') r r' h
  · obtain ⟨a, vs, e, q, r, _⟩ := h1
    obtain ⟨a', vs', e', _, q', r'⟩ := h2
    subst e e'
    cases r1; cases r2
    exact zaby I hu (.inl q) q' r r' h
  · obtain ⟨a, vs, e, q, r, _⟩ := h1
    obtain ⟨a', vs', e', q', r', _⟩ := h2
    subst e e'
    cases r1; cases r2
    exact zaby I hu (.inl q) (.inl q') r r' h
  · cases h
end
section
variable {G : Gx} {X : Cx} {C : Cf} {a b c : Expr} {a' b' c' : E} {pos : Pos}
def cmOf : Cm → CmpOp
  | .lt => .Lt | .le => .LtE | .gt => .Gt | .ge => .GtE | .eq => .Eq | .ne => .NotEq | .isN => .Is | .notN => .IsNot | .mem => .In | .nmem => .NotIn
def cmpV (c : Cm) (x y : R) : Option R := (cmpR c x y).map fun k => .val (.bl k)
theorem zaa1 {pins : List (Addr × Obj)} {σ : St} {H : Hp} {s : Shared} {w : Wo} {st : Sto} {Q : VK} {k : Bool} (I : Inv X pins σ H s) (S : StoOk G w H st) (q : ∀ w' H' v, Le w w' H H' → StoOk G w' H' st → RepR G w' H' (.val (.bl k)) v → Q v H') : EP X pins σ Q (.bool k) s :=
  ⟨.bl k, H, I, rfl, q w H _ (Le.refl _ _) S rfl⟩
theorem zac1 {op : CmpOp} {f : Int → Int → Bool} {c : Cm} (hc : ∀ x y r, cmpV c x y = some r → ∃ i j, x = .val (.int i) ∧ y = .val (.int j) ∧ r = .val (.bl (f i j)))
    (ho : OpR X (compareOp op) (rI0 fun i j => .bl (f i j))) : OpR X (compareOp op) (r2 G (cmpV c)) := by
  intro pins s σ H x y v u Q I rx ry h
  obtain ⟨w, st, x', y', r, S, Rx, Ry, e, q⟩ := h
  obtain ⟨i, j, rfl, rfl, rfl⟩ := hc x' y' r e
  have hx : x = .int i := Rx
  have hy : y = .int j := Ry
  exact ho pins s σ H x y v u Q I rx ry ⟨i, j, hx, hy, q w H _ (Le.refl _ _) S rfl⟩
theorem int2 {x y : R} {g : Int → Int → Bool} {r : R} (h : (do let i ← x.int?; let j ← y.int?; some (g i j)).map (fun k => R.val (.bl k)) = some r) : ∃ i j, x = .val (.int i) ∧ y = .val (.int j) ∧ r = .val (.bl (g i j)) := by
  match x, y with
  | .val (.int i), .val (.int j) => cases h; exact ⟨i, j, rfl, rfl, rfl⟩
  | .val (.int i), .val .non => cases h
  | .val (.int i), .val (.bl _) => cases h
  | .val (.int i), .val (.str _) => cases h
  | .val (.int i), .val (.tup _) => cases h
  | .val (.int i), .val (.lst _) => cases h
  | .val (.int i), .val (.loc _) => cases h
  | .val (.int i), .val (.exc _) => cases h
  | .val (.int i), .bor _ => cases h
  | .val .non, _ => cases h
  | .val (.bl _), _ => cases h
  | .val (.str _), _ => cases h
  | .val (.tup _), _ => cases h
  | .val (.lst _), _ => cases h
  | .val (.loc _), _ => cases h
  | .val (.exc _), _ => cases h
  | .bor _, _ => cases h
theorem zach {w : Wo} {H : Hp} {x : R} {v : V} (r : RepR G w H x v) : decide (v = .non) = x.isNon := by
  match x, r with
  | .val .non, r => cases r; rfl
  | .val (.bl _), r => cases r; rfl
  | .val (.int _), r => cases r; rfl
  | .val (.str _), r => cases r; rfl
  | .val (.tup _), r => obtain ⟨_, _, e, _⟩ := r; subst e; rfl
  | .val (.lst _), r => obtain ⟨_, _, e, _⟩ := r; subst e; rfl
  | .val (.loc _), r => obtain ⟨_, e⟩ := r; subst e; rfl
  | .val (.exc _), r => obtain ⟨_, e, _⟩ := r; subst e; rfl
  | .bor _, r => obtain ⟨_, _, e, _⟩ := r; subst e; rfl
theorem zab2 {w : Wo} {H : Hp} {f : T → T → Option Bool} (hf : ∀ t t' u v k k', Rep G w H t v → Rep G w H t' v → f t u = some k → f t' u = some k' → k = k') :
    ∀ (ts ts' us : List T) (vs : List V) (k k' : Bool), Reps G w H ts vs → Reps G w H ts' vs → eqL f ts us = some k → eqL f ts' us = some k' → k = k'
  | [], [], us, vs, k, k', _, _, h, h' => by rw [h] at h'; cases h'; rfl
  | [], _ :: _, us, vs, k, k', r, r', h, h' => by obtain ⟨v, q, e, _⟩ := r'; rw [r] at e; cases e
  | _ :: _, [], us, vs, k, k', r, r', h, h' => by obtain ⟨v, q, e, _⟩ := r; rw [r'] at e; cases e
  | t :: ts, t' :: ts', [], vs, k, k', r, r', h, h' => by cases h; cases h'; rfl
  | t :: ts, t' :: ts', u :: us, vs, k, k', ⟨v, q, e, h1, h2⟩, ⟨v', q', e', h1', h2'⟩, h, h' => by
    subst e
    cases e'
    unfold eqL at h h'
    split at h
    · rename_i k1 k2 z1 z2
      split at h'
      · rename_i k3 k4 z3 z4
        cases h
        cases h'
        rw [hf t t' u v k1 k3 h1 h1' z1 z3, zab2 hf ts ts' us q k2 k4 h2 h2' z2 z4]
      · cases h'
    · cases h
theorem zade {w : Wo} {H : Hp} : ∀ (n : Nat) (t t' u : T) (v : V) (k k' : Bool), Rep G w H t v → Rep G w H t' v → eqD n t u = some k → eqD n t' u = some k' → k = k' := by
  intro n
  induction n with
  | zero =>
    intro t t' u v k k' h1 h2 e1 e2
    cases t <;> cases t' <;> first
      | (cases h1; cases h2; rw [e1] at e2; cases e2; rfl)
      | (cases u <;> simp [eqD] at e1; done)
      | (cases u <;> simp [eqD] at e2; done)
      | (cases h1; cases h2; done)
  | succ n ih =>
    intro t t' u v k k' h1 h2 e1 e2
    cases t <;> cases t' <;> first
      | (cases h1; cases h2; rw [e1] at e2; cases e2; rfl)
      | (cases h1; cases h2; done)
      | (cases u <;> simp [eqD] at e1; done)
      | (cases u <;> simp [eqD] at e2; done)
      | (cases h1; obtain ⟨_, _, z, _⟩ := h2; cases z; done)
      | (cases h2; obtain ⟨_, _, z, _⟩ := h1; cases z; done)
      | skip
    · rename_i ts ts'
      obtain ⟨a, vs, e, q, r⟩ := h1
      obtain ⟨a', vs', e', q', r'⟩ := h2
      subst e
      cases e'
      rw [q] at q'
      cases q'
      cases u <;> simp only [eqD] at e1 e2 <;> first | (cases e1; done) | (cases e1; cases e2; rfl) | exact zab2 (ih ·  ·  ·  ·  ·  ·) ts ts' _ vs k k' r r' e1 e2
    · obtain ⟨a, vs, e, q, r⟩ := h1
      obtain ⟨a', vs', e', _, q', r'⟩ := h2
      subst e
      cases e'
      rcases q' with q' | ⟨_, q'⟩ <;> (rw [q] at q'; cases q')
    · obtain ⟨a, vs, e, _, q, r⟩ := h1
      obtain ⟨a', vs', e', q', r'⟩ := h2
      subst e
      cases e'
      rcases q with q | ⟨_, q⟩ <;> (rw [q] at q'; cases q')
    · rename_i ts ts'
      obtain ⟨a, vs, e, _, q, r⟩ := h1
      obtain ⟨a', vs', e', _, q', r'⟩ := h2
      subst e
      cases e'
      have ev : vs = vs' := by
        rcases q with q | ⟨o, q⟩ <;> rcases q' with q' | ⟨o', q'⟩ <;> (rw [q] at q'; cases q'; try rfl)
      subst ev
      cases u <;> simp only [eqD] at e1 e2 <;> first | (cases e1; done) | (cases e1; cases e2; rfl) | exact zab2 (ih ·  ·  ·  ·  ·  ·) ts ts' _ vs k k' r r' e1 e2
theorem zad6 {x : T} : ∀ (ts : List T) (k : Bool), memT x ts = some k → (∀ t ∈ ts, ∃ j, eqD 8 t x = some j) ∧ (k = true ↔ ∃ t ∈ ts, eqD 8 t x = some true)
  | [], k, h => by cases h; exact ⟨fun t z => by simp at z, by simp⟩
  | t :: ts, k, h => by
    unfold memT at h
    split at h
    · rename_i k1 k2 z1 z2
      cases h
      obtain ⟨h1, h2⟩ := zad6 ts k2 z2
      refine ⟨fun u hu => ?_, ?_⟩
      · rcases List.mem_cons.mp hu with rfl | hu
        · exact ⟨k1, z1⟩
        · exact h1 u hu
      · constructor
        · intro q
          rcases (Bool.or_eq_true _ _).mp q with q | q
          · subst q; exact ⟨t, List.mem_cons_self .., z1⟩
          · obtain ⟨u, hu, e⟩ := h2.mp q
            exact ⟨u, List.mem_cons_of_mem _ hu, e⟩
        · rintro ⟨u, hu, e⟩
          rcases List.mem_cons.mp hu with rfl | hu
          · have : some k1 = some true := z1.symm.trans e
            cases this
            rfl
          · rw [h2.mpr ⟨u, hu, e⟩, Bool.or_true]
    · cases h
theorem zad2 {vs : List V} {its : List Value} (r : Vals vs its) {u : Value} (h : u ∈ its) : ∃ v ∈ vs, RelV v u := by
  obtain ⟨j, hj, e⟩ := List.mem_iff_getElem.mp h
  obtain ⟨v, h1, h2⟩ := zacq r (List.getElem?_eq_some_iff.mpr ⟨hj, e⟩)
  exact ⟨v, List.mem_of_getElem? h1, h2⟩
theorem zaeo {w : Wo} {H : Hp} {ts : List T} {vs : List V} (r : Reps G w H ts vs) {v : V} (h : v ∈ vs) : ∃ t ∈ ts, Rep G w H t v := by
  obtain ⟨j, hj, e⟩ := List.mem_iff_getElem.mp h
  obtain ⟨t, h1, h2⟩ := r.get' (List.getElem?_eq_some_iff.mpr ⟨hj, e⟩)
  exact ⟨t, List.mem_of_getElem? h1, h2⟩
theorem mem_reps {w : Wo} {H : Hp} {ts : List T} {vs : List V} (r : Reps G w H ts vs) {t : T} (h : t ∈ ts) : ∃ v ∈ vs, Rep G w H t v := by
  obtain ⟨j, hj, e⟩ := List.mem_iff_getElem.mp h
  obtain ⟨t, h1, h2⟩ := r.get (List.getElem?_eq_some_iff.mpr ⟨hj, e⟩)
  exact ⟨t, List.mem_of_getElem? h1, h2⟩
theorem mem_vals {vs : List V} {its : List Value} (r : Vals vs its) {v : V} (h : v ∈ vs) : ∃ u ∈ its, RelV v u := by
  obtain ⟨j, hj, e⟩ := List.mem_iff_getElem.mp h
  obtain ⟨u, h1, h2⟩ := r.get (List.getElem?_eq_some_iff.mpr ⟨hj, e⟩)
  exact ⟨u, List.mem_of_getElem? h1, h2⟩
open Classical in
theorem zac0 {pins : List (Addr × Obj)} {σ : St} {H : Hp} {s : Shared} {w : Wo} {A : Around} (I : Inv X pins σ H s) (hu : A.units + 8 < cLine) {tx : T} {vx : V} {x : Value} {ts : List T} {vs : List V} {its : List Value} {k : Bool}
    (Rx : Rep G w H tx vx) (rx : RelV vx x) (r : Reps G w H ts vs) (q : Vals vs its) (h : memT tx ts = some k) : ∃ e : Value → Bool, (∀ y, y ∈ its.toArray → EqAt A s y x (e y)) ∧ its.toArray.any e = k := by
  obtain ⟨h1, h2⟩ := zad6 ts k h
  refine ⟨fun u => decide (∃ v t, RelV v u ∧ Rep G w H t v ∧ eqD 8 t tx = some true), fun y hy => ?_, ?_⟩
  · have hy' : y ∈ its := by simpa using hy
    obtain ⟨v, hv, rv⟩ := zad2 q hy'
    obtain ⟨t, ht, rt⟩ := zaeo r hv
    obtain ⟨j, hj⟩ := h1 t ht
    have z := eqAt_T I 8 A hu t tx v vx y x j rt Rx rv rx hj
    have ej : decide (∃ v t, RelV v y ∧ Rep G w H t v ∧ eqD 8 t tx = some true) = j := by
      cases j with
      | true => exact decide_eq_true ⟨v, t, rv, rt, hj⟩
      | false =>
        refine decide_eq_false ?_
        rintro ⟨v', t', rv', rt', e'⟩
        cases rv.inj rv'
        exact Bool.noConfusion (zade 8 t t' tx v false true rt rt' hj e')
    dsimp only
    rw [ej]
    exact z
  · rw [Bool.eq_iff_iff, h2, List.any_toArray, List.any_eq_true]
    constructor
    · rintro ⟨u, hu', e⟩
      obtain ⟨v, t, rv, rt, e⟩ := of_decide_eq_true e
      obtain ⟨v', hv', rv'⟩ := zad2 q hu'
      cases rv.inj rv'
      obtain ⟨t', ht', rt'⟩ := zaeo r hv'
      obtain ⟨j, hj⟩ := h1 t' ht'
      have := zade 8 t t' tx v true j rt rt' e hj
      subst this
      exact ⟨t', ht', hj⟩
    · rintro ⟨t, ht, e⟩
      obtain ⟨v, hv, rt⟩ := mem_reps r ht
      obtain ⟨u, hu', rv⟩ := mem_vals q hv
      exact ⟨u, hu', decide_eq_true ⟨v, t, rv, rt, e⟩⟩
theorem cmp_ok (hu : X.A.units + 9 < cLine) (c : Cm) : OpR X (compareOp (cmOf c)) (r2 G (cmpV c)) := by
  cases c with
  | lt => exact zac1 (fun x y r h => int2 h) op_lt
  | le => exact zac1 (fun x y r h => int2 h) op_le
  | gt => exact zac1 (fun x y r h => int2 h) op_gt
  | ge => exact zac1 (fun x y r h => int2 h) op_ge
  | eq =>
    intro pins s σ H x y v u Q I rx ry h
    obtain ⟨w, st, x', y', r, S, Rx, Ry, e, q⟩ := h
    unfold cmpV cmpR at e
    cases he : eqR x' y' with
    | none => simp [he] at e
    | some k =>
      simp only [he, Option.map_some, Option.some.injEq] at e
      subst e
      exact (rc_R I (by omega) Rx Ry rx ry he).1 _ _ _ _ (zaa1 I S q)
  | ne =>
    intro pins s σ H x y v u Q I rx ry h
    obtain ⟨w, st, x', y', r, S, Rx, Ry, e, q⟩ := h
    unfold cmpV cmpR at e
    cases he : eqR x' y' with
    | none => simp [he] at e
    | some k =>
      simp only [he, Option.map_some, Option.some.injEq] at e
      subst e
      exact (rc_R I (by omega) Rx Ry rx ry he).2 _ _ _ _ (zaa1 I S q)
  | isN =>
    intro pins s σ H x y v u Q I rx ry h
    obtain ⟨w, st, x', y', r, S, Rx, Ry, e, q⟩ := h
    unfold cmpV cmpR at e
    dsimp only at e
    split at e
    · have hy : y = .non := Ry
      refine op_isN pins s σ H x y v u Q I rx ry ⟨hy, ?_⟩
      rw [zach Rx]
      cases e
      exact q w H _ (Le.refl _ _) S rfl
    · cases e
  | notN =>
    intro pins s σ H x y v u Q I rx ry h
    obtain ⟨w, st, x', y', r, S, Rx, Ry, e, q⟩ := h
    unfold cmpV cmpR at e
    dsimp only at e
    split at e
    · have hy : y = .non := Ry
      refine op_notN pins s σ H x y v u Q I rx ry ⟨hy, ?_⟩
      rw [zach Rx]
      cases e
      exact q w H _ (Le.refl _ _) S rfl
    · cases e
  | mem =>
    intro pins s σ H x y v u Q I rx ry h
    obtain ⟨w, st, x', y', r, S, Rx, Ry, e, q⟩ := h
    unfold cmpV cmpR at e
    dsimp only at e
    cases hx : x'.val? with
    | none => simp [hx] at e
    | some tx =>
      cases hy : y'.sq2 with
      | none => simp [hx, hy] at e
      | some ts =>
        cases hm : memT tx ts with
        | none => simp [hx, hy, hm] at e
        | some k =>
          simp [hx, hy, hm] at e
          subst e
          have Rx' : Rep G w H tx x := by
            cases x' with
            | val t => cases hx; exact Rx
            | bor t => cases hx
          obtain ⟨p, vs, rfl, hp, rp⟩ := RepR.sq2 Ry hy
          cases ry
          rcases hp with hp | hp
          · obtain ⟨its, r1, hi⟩ := zaa6 I hp
            obtain ⟨e, h1, h2⟩ := zac0 (A := X.A.in1) I (by show X.A.units + 1 + 8 < cLine; omega) Rx' rx rp r1 hm
            exact in_listAt e hi h1 (by rw [h2]; exact zaa1 I S q)
          · obtain ⟨its, r1, hi⟩ := zaar I hp
            obtain ⟨e, h1, h2⟩ := zac0 (A := X.A.in1) I (by show X.A.units + 1 + 8 < cLine; omega) Rx' rx rp r1 hm
            exact in_tupleAt e hi h1 (by rw [h2]; exact zaa1 I S q)
  | nmem =>
    intro pins s σ H x y v u Q I rx ry h
    obtain ⟨w, st, x', y', r, S, Rx, Ry, e, q⟩ := h
    unfold cmpV cmpR at e
    dsimp only at e
    cases hx : x'.val? with
    | none => simp [hx] at e
    | some tx =>
      cases hy : y'.sq2 with
      | none => simp [hx, hy] at e
      | some ts =>
        cases hm : memT tx ts with
        | none => simp [hx, hy, hm] at e
        | some k =>
          simp [hx, hy, hm] at e
          subst e
          have Rx' : Rep G w H tx x := by
            cases x' with
            | val t => cases hx; exact Rx
            | bor t => cases hx
          obtain ⟨p, vs, rfl, hp, rp⟩ := RepR.sq2 Ry hy
          cases ry
          rcases hp with hp | hp
          · obtain ⟨its, r1, hi⟩ := zaa6 I hp
            obtain ⟨e, h1, h2⟩ := zac0 (A := X.A.in1) I (by show X.A.units + 1 + 8 < cLine; omega) Rx' rx rp r1 hm
            exact notIn_listAt e hi h1 (by rw [h2]; exact zaa1 I S q)
          · obtain ⟨its, r1, hi⟩ := zaar I hp
            obtain ⟨e, h1, h2⟩ := zac0 (A := X.A.in1) I (by show X.A.units + 1 + 8 < cLine; omega) Rx' rx rp r1 hm
            exact notIn_tupleAt e hi h1 (by rw [h2]; exact zaa1 I S q)
theorem sV_cmp (hu : X.A.units + 9 < cLine) (c : Cm) (ha : PE X a (tV G X C a')) (hb : PE X b (tV G X C b')) (hm : behindInMarks (cmOf c) b = false) : PE X (.Compare a [cmOf c] [b] pos) (tV G X C (.cmp c a' b')) :=
  s2c (cmp_ok hu c) ha hb hm fun _ _ => rfl
end
end IP
end
section
set_option Elab.async false
set_option linter.all false
set_option maxRecDepth 100000
namespace IP
open PySem PySem.Spec L2 PySem.SeqAt
section
variable {G : Gx} {X : Cx} {C : Cf} {a b c : Expr} {a' b' c' e' : E} {pos : Pos} {rest : List Expr}
theorem tru_V {w : Wo} {H : Hp} {x : R} {v : V} {k : Bool} (r : RepD G w H x v) (h : tru x = some k) : TruV X.K v H k := by
  match x, h with
  | .val .non, h => cases r; cases h; exact rfl
  | .val (.bl b), h => cases r; cases h; exact rfl
  | .val (.int i), h => cases r; cases h; exact rfl
  | .val (.lst ts), h =>
    cases h
    obtain ⟨a, vs, e, _, q, r⟩ := r
    subst e
    refine .inl ⟨vs, .inl q, ?_⟩
    cases ts with
    | nil => cases r; rfl
    | cons t ts => obtain ⟨_, _, e, _⟩ := r; subst e; rfl
  | .val (.tup ts), h =>
    cases h
    obtain ⟨a, vs, e, q, r⟩ := r
    subst e
    refine .inr (.inl ⟨vs, .inl (.inl q), ?_⟩)
    cases ts with
    | nil => cases r; rfl
    | cons t ts => obtain ⟨_, _, e, _⟩ := r; subst e; rfl
  | .bor ts, h =>
    cases h
    obtain ⟨a, vs, e, q, r⟩ := r
    subst e
    refine .inl ⟨vs, .inl (.inl q), ?_⟩
    cases ts with
    | nil => cases r; rfl
    | cons t ts => obtain ⟨_, _, e, _⟩ := r; subst e; rfl
def truK (x : R) : Option R := (tru x).map fun k => .val (.bl k)
theorem sT_plain {e : Expr} (hE : PE X e (tV G X C e')) (he : ∀ whole, isTrue e X.env whole = (do let v ← whole; standAt e.pos; holding [v] (truthy v)))
    (hev : ∀ σ s, ev C e' .t σ s = (ev C e' .v σ s).bind fun x s => .of (truK x) s) : PT X e (tT G X C e') := by
  refine PT.imp (pt_truth hE he) ?_
  rintro σV H Q ⟨w₀, H₀, w, σ, s, g, h⟩
  rw [hev] at h
  refine ⟨w₀, H₀, w, σ, s, g, (Want.bind h).imp ?_⟩
  rintro v H1 ⟨w1, r, s1, L1, S1, R1, h1⟩
  obtain ⟨r', e, q⟩ := Want.of h1
  unfold truK at e
  cases ht : tru r with
  | none => rw [ht] at e; cases e
  | some k =>
    rw [ht] at e
    cases e
    obtain ⟨k', e, q'⟩ := q w1 H1 (.bl k) (Le.refl _ _) S1 rfl
    cases e
    exact ⟨k, tru_V R1.d ht, q'⟩
theorem cmp_t (c : Cm) (σ : Fr) (s : Sto) : ev C (.cmp c a' b') .t σ s = ev C (.cmp c a' b') .v σ s := by
  show Res.bind (Res.bind (ev C a' .v σ s) _) _ = Res.bind (ev C a' .v σ s) _
  cases ev C a' .v σ s with
  | stuck => rfl
  | exc c s => rfl
  | ok x s1 =>
    show Res.bind (Res.bind (ev C b' .v σ s1) _) _ = Res.bind (ev C b' .v σ s1) _
    cases ev C b' .v σ s1 with
    | stuck => rfl
    | exc c s => rfl
    | ok y s2 =>
      show Res.bind (Res.of ((cmpR c x y).map _) s2) _ = Res.of ((cmpR c x y).map _) s2
      cases cmpR c x y <;> rfl
theorem sT_cmp (hu : X.A.units + 9 < cLine) (c : Cm) (ha : PE X a (tV G X C a')) (hb : PE X b (tV G X C b')) (hm : behindInMarks (cmOf c) b = false) : PT X (.Compare a [cmOf c] [b] pos) (tT G X C (.cmp c a' b')) := by
  refine PT.imp (pt_cmpR (cmp_ok (G := G) hu c) ha hb hm) ?_
  rintro σV H Q ⟨w₀, H₀, w, σ, s, g, h⟩
  rw [cmp_t] at h
  exact t2_of (f := cmpV c) ⟨w₀, H₀, w, σ, s, g, h⟩
def r1 (G : Gx) (f : R → Option R) : V → Hp → VK → Prop := fun x H Q => ∃ w s rx r, StoOk G w H s ∧ RepD G w H rx x ∧ f rx = some r ∧ ∀ w' H' v, Le w w' H H' → StoOk G w' H' s → RepR G w' H' r v → Q v H'
theorem t1_of {f : R → Option R} {σV : St} {H : Hp} {Q : VK} (h : ∃ w₀ H₀ w σ s, Good G w₀ H₀ w H σ s σV ∧ Want G X σV w H ((ev C a' .v σ s).bind fun x s1 => .of (f x) s1) Q) :
    tV G X C a' σV H fun x H1 => r1 G f x H1 Q := by
  obtain ⟨w₀, H₀, w, σ, s, g, h⟩ := h
  refine ⟨w₀, H₀, w, σ, s, g, (Want.bind h).imp ?_⟩
  rintro x H1 ⟨w1, r1, s1, L1, S1, R1, h1⟩
  obtain ⟨r, e, q⟩ := Want.of h1
  exact ⟨w1, s1, r1, r, S1, R1.d, e, q⟩
theorem t1_dr {f : R → Option R} {σV : St} {H : Hp} {Q : VK} (h : ∃ w₀ H₀ w σ s, Good G w₀ H₀ w H σ s σV ∧ Want G X σV w H ((ev C a' .v σ s).bind fun x s1 => .of (f (x.dr s1)) s1) Q) :
    tV G X C a' σV H fun x H1 => r1 G f x H1 Q := by
  obtain ⟨w₀, H₀, w, σ, s, g, h⟩ := h
  refine ⟨w₀, H₀, w, σ, s, g, (Want.bind h).imp ?_⟩
  rintro x H1 ⟨w1, r1, s1, L1, S1, R1, h1⟩
  obtain ⟨r, e, q⟩ := Want.of h1
  exact ⟨w1, s1, _, r, S1, R1.dr S1, e, q⟩
theorem sV_not (ha : PE X a (tV G X C a')) : PE X (.UnaryOp .Not a pos) (tV G X C (.not a')) := by
  intro pins s σ H Q I h
  have h := t1_of (f := fun x => (tru x).map fun k => R.val (.bl (!k))) h
  refine PyProof.Rows.UnaryOp_ (thn (ha pins s σ H _ I h) fun v s1 ⟨x, H1, I1, r1, q1⟩ => ?_)
  obtain ⟨w1, st, rx, r, S1, R1, e, q⟩ := q1
  dsimp only at e
  cases ht : tru rx with
  | none => rw [ht] at e; cases e
  | some k =>
    rw [ht] at e
    cases e
    exact PyProof.Rows.not_of (thn (tru_ok pins s1 σ H1 x v (fun c H2 => Q (.bl (!c)) H2) I1 r1 ⟨k, tru_V R1 ht, q w1 H1 _ (Le.refl _ _) S1 rfl⟩) fun c s2 ⟨H2, I2, z⟩ => ⟨.bl (!c), H2, I2, rfl, z⟩)
theorem onB_t {w : Wo} {H : Hp} {σV : St} {x : R} {v : V} {m n : Res R} {Q : VK} (r : RepR G w H x v) (h : Want G X σV w H (onB x m n) Q) : ∃ k, v = .bl k ∧ x = .val (.bl k) ∧ Want G X σV w H (if k = true then m else n) Q := by
  match x, h with
  | .val (.bl true), h => exact ⟨true, r, rfl, h⟩
  | .val (.bl false), h => exact ⟨false, r, rfl, h⟩
  | .val .non, h => exact h.elim
  | .val (.int _), h => exact h.elim
  | .val (.str _), h => exact h.elim
  | .val (.tup _), h => exact h.elim
  | .val (.lst _), h => exact h.elim
  | .val (.loc _), h => exact h.elim
  | .val (.exc _), h => exact h.elim
  | .bor _, h => exact h.elim
theorem sT_not (ha : PT X a (tT G X C a')) : PT X (.UnaryOp .Not a pos) (tT G X C (.not a')) := by
  refine PT.imp (pt_not ha) ?_
  rintro σV H Q ⟨w₀, H₀, w, σ, s, g, h⟩
  refine ⟨w₀, H₀, w, σ, s, g, (Want.bind h).imp ?_⟩
  rintro v H1 ⟨w1, r, s1, L1, S1, R1, h1⟩
  obtain ⟨k, rfl, rfl, h1⟩ := onB_t R1 h1
  refine ⟨k, rfl, ?_⟩
  cases k with
  | true => obtain ⟨_, e, q⟩ := h1 w1 H1 (.bl false) (Le.refl _ _) S1 rfl; cases e; exact q
  | false => obtain ⟨_, e, q⟩ := h1 w1 H1 (.bl true) (Le.refl _ _) S1 rfl; cases e; exact q
theorem tT_and {σV : St} {H : Hp} {Q : Bool → Hp → Prop} (h : tT G X C (.and a' b') σV H Q) : tAnd (tT G X C a') (tT G X C b') σV H Q := by
  obtain ⟨w₀, H₀, w, σ, s, g, h⟩ := h
  refine ⟨w₀, H₀, w, σ, s, g, (Want.bind h).imp ?_⟩
  rintro v H1 ⟨w1, r, s1, L1, S1, R1, h1⟩
  obtain ⟨k, rfl, rfl, h1⟩ := onB_t R1 h1
  refine ⟨k, rfl, ?_⟩
  cases k with
  | true => exact iteT ⟨w₀, H₀, w1, σ, s1, g.step L1 S1, h1⟩
  | false => obtain ⟨_, e, q⟩ := h1 w1 H1 (.bl false) (Le.refl _ _) S1 rfl; cases e; exact iteF q
theorem tT_or {σV : St} {H : Hp} {Q : Bool → Hp → Prop} (h : tT G X C (.or a' b') σV H Q) : tOr (tT G X C a') (tT G X C b') σV H Q := by
  obtain ⟨w₀, H₀, w, σ, s, g, h⟩ := h
  refine ⟨w₀, H₀, w, σ, s, g, (Want.bind h).imp ?_⟩
  rintro v H1 ⟨w1, r, s1, L1, S1, R1, h1⟩
  obtain ⟨k, rfl, rfl, h1⟩ := onB_t R1 h1
  refine ⟨k, rfl, ?_⟩
  cases k with
  | true => obtain ⟨_, e, q⟩ := h1 w1 H1 (.bl true) (Le.refl _ _) S1 rfl; cases e; exact iteT q
  | false => exact iteF ⟨w₀, H₀, w1, σ, s1, g.step L1 S1, h1⟩
theorem PW.imp {e : Expr} {t t' : TT} (h : PW X e t) (q : ∀ σ H Q, t' σ H Q → t σ H Q) : PW X e t' := fun wh pins s σ H Q I z => h wh pins s σ H Q I (q _ _ _ z)
def PTb (X : Cx) (op : BoolOp) (es : List Expr) (pos : Pos) (t : TT) : Prop := PW X (.BoolOp op es pos) t
theorem zadr (h : PT X a (tT G X C a')) : PTb X .And [a] pos (tT G X C a') := pw_and1 h
theorem zael (h : PT X a (tT G X C a')) : PTb X .Or [a] pos (tT G X C a') := pw_or1 h
theorem ptb_and (ha : PT X a (tT G X C a')) (hb : PTb X .And (b :: rest) pos (tT G X C b')) : PTb X .And (a :: b :: rest) pos (tT G X C (.and a' b')) := PW.imp (pw_and ha hb) fun _ _ _ h => tT_and h
theorem ptb_or (ha : PT X a (tT G X C a')) (hb : PTb X .Or (b :: rest) pos (tT G X C b')) : PTb X .Or (a :: b :: rest) pos (tT G X C (.or a' b')) := PW.imp (pw_or ha hb) fun _ _ _ h => tT_or h
theorem sV_and (ha : PE X a (tV G X C a')) (hb : PE X (.BoolOp .And (b :: rest) pos) (tV G X C b')) : PE X (.BoolOp .And (a :: b :: rest) pos) (tV G X C (.and a' b')) := by
  refine PE.imp (pe_and ha hb) ?_
  rintro σV H Q ⟨w₀, H₀, w, σ, s, g, h⟩
  refine ⟨w₀, H₀, w, σ, s, g, (Want.bind h).imp ?_⟩
  rintro v H1 ⟨w1, r, s1, L1, S1, R1, h1⟩
  obtain ⟨k, rfl, rfl, h1⟩ := onB_t R1 h1
  refine ⟨k, rfl, ?_⟩
  cases k with
  | true => exact iteT ⟨w₀, H₀, w1, σ, s1, g.step L1 S1, h1⟩
  | false => exact iteF (h1 w1 H1 (.bl false) (Le.refl _ _) S1 rfl)
theorem sV_or (ha : PE X a (tV G X C a')) (hb : PE X (.BoolOp .Or (b :: rest) pos) (tV G X C b')) : PE X (.BoolOp .Or (a :: b :: rest) pos) (tV G X C (.or a' b')) := by
  refine PE.imp (pe_or ha hb) ?_
  rintro σV H Q ⟨w₀, H₀, w, σ, s, g, h⟩
  refine ⟨w₀, H₀, w, σ, s, g, (Want.bind h).imp ?_⟩
  rintro v H1 ⟨w1, r, s1, L1, S1, R1, h1⟩
  obtain ⟨k, rfl, rfl, h1⟩ := onB_t R1 h1
  refine ⟨k, rfl, ?_⟩
  cases k with
  | true => exact iteT (h1 w1 H1 (.bl true) (Le.refl _ _) S1 rfl)
  | false => exact iteF ⟨w₀, H₀, w1, σ, s1, g.step L1 S1, h1⟩
def WantA (G : Gx) (X : Cx) (σV : St) (w : Wo) (H : Hp) (res : Res (List T)) (Q : List V → Hp → Prop) : Prop := match res with
  | .stuck => False
  | .ok ts s' => ∀ w' H' vs, Le w w' H H' → StoOk G w' H' s' → Reps G w' H' ts vs → Q vs H'
  | .exc c s' => ∀ w' H' pins u sh, Le w w' H H' → StoOk G w' H' s' → Thrown G X pins σV H' c u sh → X.xe u sh
def WantR (G : Gx) (X : Cx) (σV : St) (w : Wo) (H : Hp) (res : Res (List R)) (Q : List V → Hp → Prop) : Prop := match res with
  | .stuck => False
  | .ok ts s' => ∀ w' H' vs, Le w w' H H' → StoOk G w' H' s' → RepRs G w' H' ts vs → Q vs H'
  | .exc c s' => ∀ w' H' pins u sh, Le w w' H H' → StoOk G w' H' s' → Thrown G X pins σV H' c u sh → X.xe u sh
def tA (G : Gx) (X : Cx) (C : Cf) (es : List E) : TA := fun σV H Q => ∃ w₀ H₀ w σ s, Good G w₀ H₀ w H σ s σV ∧ WantA G X σV w H (evs C es σ s) Q
def tR (G : Gx) (X : Cx) (C : Cf) (es : List E) : TA := fun σV H Q => ∃ w₀ H₀ w σ s, Good G w₀ H₀ w H σ s σV ∧ WantR G X σV w H (evr C es σ s) Q
theorem sA_nil : PA X [] (tA G X C []) := PA.imp pa_nil fun σV H Q ⟨w₀, H₀, w, σ, s, g, h⟩ => h w H [] (Le.refl _ _) g.sto rfl
theorem sR_nil : PA X [] (tR G X C []) := PA.imp pa_nil fun σV H Q ⟨w₀, H₀, w, σ, s, g, h⟩ => h w H [] (Le.refl _ _) g.sto rfl
variable {es : List Expr} {es' : List E}
theorem sA_cons (ha : PE X a (tV G X C a')) (hr : PA X es (tA G X C es')) (hs : starEach (a :: es) X.env = (false, eval a X.env) :: starEach es X.env) : PA X (a :: es) (tA G X C (a' :: es')) := by
  refine PA.imp (zaak ha hr hs) ?_
  rintro σV H Q ⟨w₀, H₀, w, σ, s, g, h⟩
  have h : WantA G X σV w H ((ev C a' .v σ s).bind fun x s1 => onV x fun t => (evs C es' σ s1).bind fun ts s2 => .ok (t :: ts) s2) Q := h
  refine ⟨w₀, H₀, w, σ, s, g, ?_⟩
  cases he : ev C a' .v σ s with
  | stuck => rw [he] at h; exact h
  | exc c s1 => rw [he] at h; exact h
  | ok x s1 =>
    rw [he] at h
    intro w1 H1 v L1 S1 R1
    match x, h with
    | .bor _, h => exact h.elim
    | .val t, h =>
      have h : WantA G X σV w H ((evs C es' σ s1).bind fun ts s2 => .ok (t :: ts) s2) Q := h
      refine ⟨w₀, H₀, w1, σ, s1, g.step L1 S1, ?_⟩
      cases hf : evs C es' σ s1 with
      | stuck => rw [hf] at h; exact h
      | exc c s2 => rw [hf] at h; exact fun w2 H2 pins u sh L2 => h w2 H2 pins u sh (L1.trans L2)
      | ok ts s2 =>
        rw [hf] at h
        intro w2 H2 vs L2 S2 R2
        exact h w2 H2 (v :: vs) (L1.trans L2) S2 ⟨v, vs, rfl, Rep.mono L2 S1 t v R1, R2⟩
theorem sR_cons (ha : PE X a (tV G X C a')) (hr : PA X es (tR G X C es')) (hs : starEach (a :: es) X.env = (false, eval a X.env) :: starEach es X.env) : PA X (a :: es) (tR G X C (a' :: es')) := by
  refine PA.imp (zaak ha hr hs) ?_
  rintro σV H Q ⟨w₀, H₀, w, σ, s, g, h⟩
  have h : WantR G X σV w H ((ev C a' .v σ s).bind fun x s1 => (evr C es' σ s1).bind fun ts s2 => .ok (x :: ts) s2) Q := h
  refine ⟨w₀, H₀, w, σ, s, g, ?_⟩
  cases he : ev C a' .v σ s with
  | stuck => rw [he] at h; exact h
  | exc c s1 => rw [he] at h; exact h
  | ok x s1 =>
    rw [he] at h
    intro w1 H1 v L1 S1 R1
    have h : WantR G X σV w H ((evr C es' σ s1).bind fun ts s2 => .ok (x :: ts) s2) Q := h
    refine ⟨w₀, H₀, w1, σ, s1, g.step L1 S1, ?_⟩
    cases hf : evr C es' σ s1 with
    | stuck => rw [hf] at h; exact h
    | exc c s2 => rw [hf] at h; exact fun w2 H2 pins u sh L2 => h w2 H2 pins u sh (L1.trans L2)
    | ok ts s2 =>
      rw [hf] at h
      intro w2 H2 vs L2 S2 R2
      exact h w2 H2 (v :: vs) (L1.trans L2) S2 ⟨v, vs, rfl, RepR.mono L2 S1 R1, R2⟩
theorem zada (C : Cf) : ∀ (es : List E) (σ : Fr) (s : Sto) (ts : List T) (s' : Sto), evs C es σ s = .ok ts s' → ts.length = es.length
  | [], σ, s, ts, s', h => by cases h; rfl
  | e :: es, σ, s, ts, s', h => by
    unfold evs at h
    cases he : ev C e .v σ s with
    | stuck => rw [he] at h; cases h
    | exc c s1 => rw [he] at h; cases h
    | ok x s1 =>
      rw [he] at h
      match x, h with
      | .bor _, h => cases h
      | .val t, h =>
        have h : ((evs C es σ s1).bind fun ts s2 => Res.ok (t :: ts) s2) = .ok ts s' := h
        cases hf : evs C es σ s1 with
        | stuck => rw [hf] at h; cases h
        | exc c s2 => rw [hf] at h; cases h
        | ok us s2 =>
          rw [hf] at h
          cases h
          simp [zada C es σ s1 us _ hf]
theorem sV_tup {k : Nat} (h : PA X es (tA G X C es')) (hz : es'.length ≤ sizeLine) : PE X (.Tuple es k pos) (tV G X C (.tup es')) := by
  refine PE.imp (pe_tup h) ?_
  rintro σV H Q ⟨w₀, H₀, w, σ, s, g, h⟩
  have h : Want G X σV w H ((evs C es' σ s).bind fun ts s1 => .ok (.val (.tup ts)) s1) Q := h
  refine ⟨w₀, H₀, w, σ, s, g, ?_⟩
  cases hf : evs C es' σ s with
  | stuck => rw [hf] at h; exact h
  | exc c s2 => rw [hf] at h; exact h
  | ok ts s2 =>
    rw [hf] at h
    intro w2 H2 vs L2 S2 R2
    refine ⟨by rw [← R2.length, zada C _ _ _ _ _ hf]; exact hz, ?_⟩
    exact fin_tup S2 R2 fun w' H' v L S R => h w' H' v (L2.trans L) S R
theorem sV_lst (h : PA X es (tA G X C es')) (hz : es'.length ≤ sizeLine) : PE X (.List es pos) (tV G X C (.lst es')) := by
  refine PE.imp (pe_lst h) ?_
  rintro σV H Q ⟨w₀, H₀, w, σ, s, g, h⟩
  have h : Want G X σV w H ((evs C es' σ s).bind fun ts s1 => .ok (.val (.lst ts)) s1) Q := h
  refine ⟨w₀, H₀, w, σ, s, g, ?_⟩
  cases hf : evs C es' σ s with
  | stuck => rw [hf] at h; exact h
  | exc c s2 => rw [hf] at h; exact h
  | ok ts s2 =>
    rw [hf] at h
    intro w2 H2 vs L2 S2 R2
    refine ⟨by rw [← R2.length, zada C _ _ _ _ _ hf]; exact hz, ?_⟩
    exact zaeg S2 R2 fun w' H' v L S R => h w' H' v (L2.trans L) S R
end
end IP
end
section
set_option Elab.async false
set_option linter.all false
set_option maxRecDepth 100000
namespace IP
open PySem PySem.Spec L2 PySem.SeqAt
section
variable {G : Gx} {X : Cx} {C : Cf} {a b c : Expr} {a' b' c' e' : E} {pos p : Pos} {rest : List Expr}
theorem Reps.atI {w : Wo} {H : Hp} {ts : List T} {vs : List V} {i : Int} {t : T} (r : Reps G w H ts vs) (h : L2.atI ts i = some t) : ∃ v, L2.atI vs i = some v ∧ Rep G w H t v := by
  unfold L2.atI at h ⊢
  rw [← r.length]
  cases e : ixN ts.length i with
  | none => rw [e] at h; cases h
  | some j =>
    rw [e] at h
    exact r.get h
theorem sV_sub (ha : PE X a (tV G X C a')) (hb : PE X b (tV G X C b')) (hs : zaek b) : PE X (.Subscript a b pos) (tV G X C (.sub a' b')) := by
  refine PE.imp (pe_ix ix_seq ha hb hs) ?_
  rintro σV H Q ⟨w₀, H₀, w, σ, s, g, h⟩
  refine ⟨w₀, H₀, w, σ, s, g, (Want.bind h).imp ?_⟩
  rintro x H1 ⟨w1, r1, s1, L1, S1, R1, h1⟩
  refine ⟨w₀, H₀, w1, σ, s1, g.step L1 S1, (Want.bind h1).imp ?_⟩
  rintro y H2 ⟨w2, r2, s2, M2, S2, R2, h2⟩
  have R1' := R1.mono M2 S1
  match r2, h2 with
  | .val (.int i), h2 =>
    obtain ⟨r, e, q⟩ := Want.of h2
    cases R2
    unfold subR at e
    cases hx : (r1.dr s2).sq2 with
    | none => rw [hx] at e; cases e
    | some ts =>
      rw [hx] at e
      dsimp only at e
      cases ht : L2.atI ts i with
      | none => rw [ht] at e; cases e
      | some t =>
        rw [ht] at e
        cases e
        obtain ⟨pa, vs, rfl, hp, rp⟩ := RepD.sq2 (R1'.dr S2) hx
        obtain ⟨v, hv, rv⟩ := rp.atI ht
        rcases hp with hp | hp
        · exact .inl ⟨pa, vs, i, v, rfl, rfl, .inl hp, hv, q w2 H2 v (Le.refl _ _) S2 rv⟩
        · exact .inr (.inl ⟨pa, vs, i, v, rfl, rfl, SqT.of hp, hv, q w2 H2 v (Le.refl _ _) S2 rv⟩)
  | .val .non, h2 => exact h2.elim
  | .val (.bl _), h2 => exact h2.elim
  | .val (.str _), h2 => exact h2.elim
  | .val (.tup _), h2 => exact h2.elim
  | .val (.lst _), h2 => exact h2.elim
  | .val (.loc _), h2 => exact h2.elim
  | .val (.exc _), h2 => exact h2.elim
  | .bor _, h2 => exact h2.elim
theorem SlR.imp {r r' : V → Option Int → Option Int → Hp → VK → Prop} (h : SlR X r) (q : ∀ x lo hi H Q, r' x lo hi H Q → r x lo hi H Q) : SlR X r' := fun pins s σ H x v vl vu lo hi sl Q I rx hs pl pu z => h pins s σ H x v vl vu lo hi sl Q I rx hs pl pu (q _ _ _ _ _ z)
def rB1 (G : Gx) (f : R → Option R) : List V → Hp → VK → Prop := fun xs H Q => ∃ v, xs = [v] ∧ r1 G f v H Q
theorem CallR.imp {f : Value} {r r' : List V → Hp → VK → Prop} (h : CallR X f r) (q : ∀ xs H Q, r' xs H Q → r xs H Q) : CallR X f r' := fun pins s σ H xs us Q I rx z => h pins s σ H xs us Q I rx (q _ _ _ z)
theorem sB1 {f : R → Option R} {id : String} {x : Str} (hc : CallR X (.builtin id) (rB1 G f)) (hg : Gl X x) (hm : X.mg x = none) (hv : bootBuiltins x = some (.builtin id)) (hn : x ≠ "__name__") (hdb : (x == ("__debug__" : Str)) = false)
    (ha : PE X a (tV G X C a')) (hs : starEach [a] X.env = [(false, eval a X.env)]) (hev : ∀ σ s, ev C e' .v σ s = (ev C a' .v σ s).bind fun x s1 => .of (f (x.dr s1)) s1) : PE X (.Call (.Name x p) [a] [] pos) (tV G X C e') := by
  refine PE.imp (zacn hc hg hm hv (zaak ha pa_nil hs) hn hdb hs rfl) ?_
  rintro σV H Q ⟨w₀, H₀, w, σ, s, g, h⟩
  rw [hev] at h
  obtain ⟨w₀, H₀, w, σ, s, g, h⟩ := t1_dr ⟨w₀, H₀, w, σ, s, g, h⟩
  exact ⟨w₀, H₀, w, σ, s, g, h.imp fun v H1 q => ⟨v, rfl, q⟩⟩
theorem sTy1 {f : R → Option R} {T : String} {x : Str} (hc : CallR X (.type T) (rB1 G f)) (hg : Gl X x) (hm : X.mg x = none) (hv : bootBuiltins x = some (.type T)) (hn : x ≠ "__name__") (hdb : (x == ("__debug__" : Str)) = false)
    (ha : PE X a (tV G X C a')) (hs : starEach [a] X.env = [(false, eval a X.env)]) (hev : ∀ σ s, ev C e' .v σ s = (ev C a' .v σ s).bind fun x s1 => .of (f (x.dr s1)) s1) : PE X (.Call (.Name x p) [a] [] pos) (tV G X C e') := by
  refine PE.imp (pe_callTy hc hg hm hv (zaak ha pa_nil hs) hn hdb hs rfl) ?_
  rintro σV H Q ⟨w₀, H₀, w, σ, s, g, h⟩
  rw [hev] at h
  obtain ⟨w₀, H₀, w, σ, s, g, h⟩ := t1_dr ⟨w₀, H₀, w, σ, s, g, h⟩
  exact ⟨w₀, H₀, w, σ, s, g, h.imp fun v H1 q => ⟨v, rfl, q⟩⟩
theorem map_some {α β : Type} {o : Option α} {f : α → β} {r : β} (h : o.map f = some r) : ∃ a, o = some a ∧ r = f a := by
  cases o with
  | none => cases h
  | some a => cases h; exact ⟨a, rfl, rfl⟩
theorem c_len : CallR X (.builtin "len") (rB1 G (b1R .len)) := by
  refine CallR.imp zacm ?_
  rintro xs H Q ⟨v, rfl, w, s, rx, r, S, R1, e, q⟩
  obtain ⟨ts, ht, rfl⟩ := map_some e
  obtain ⟨pa, vs, rfl, hp, rp⟩ := RepD.sq2 R1 ht
  refine ⟨pa, vs, rfl, hp.imp (fun h => .inl h) (fun h => SqT.of h), ?_⟩
  rw [← rp.length]
  exact q w H _ (Le.refl _ _) S rfl
theorem c_int : CallR X (.type "int") (rB1 G (b1R .int)) := by
  refine CallR.imp call_int1 ?_
  rintro xs H Q ⟨v, rfl, w, s, rx, r, S, R1, e, q⟩
  unfold b1R at e
  dsimp only at e
  split at e
  · cases e; cases R1; exact .inl ⟨_, rfl, q w H _ (Le.refl _ _) S rfl⟩
  · cases e; cases R1; exact .inr ⟨_, rfl, q w H _ (Le.refl _ _) S rfl⟩
  · cases e
theorem c_list : CallR X (.type "list") (rB1 G (b1R .list)) := by
  refine CallR.imp zack ?_
  rintro xs H Q ⟨v, rfl, w, s, rx, r, S, R1, e, q⟩
  obtain ⟨ts, ht, rfl⟩ := map_some e
  obtain ⟨pa, vs, rfl, hp, rp⟩ := RepD.sq2 R1 ht
  exact ⟨pa, vs, rfl, hp.imp (fun h => .inl h) (fun h => SqT.of h), zaeg S rp q⟩
def tyOf : Ty → Option String
  | .int => some "int" | .bool => some "bool" | .tuple => some "tuple" | .list => some "list" | .str => some "str" | .cls _ => none
theorem isi_ty {w : Wo} {H : Hp} {st : Sto} {x : R} {v : V} {c : Ty} {k : Bool} {n : String} (S : StoOk G w H st) (r : RepD G w H x v) (hn : tyOf c = some n) (h : isiR x c = some k) : ∃ t, TyOf X.K H v t ∧ PySem.W.kitOne X.K t (.type n) = some k := by
  have lst : ∀ {a : Addr} {vs : List V}, Rd H a (.lst vs) → TyOf X.K H (.ref a) (.type "list") := fun {a vs} q => by
    rcases q with q | ⟨o, q⟩
    · exact .lst q
    · exact .frz q
  unfold isiR at h
  split at h <;> first
    | (cases h; done)
    | (cases h; cases hn; cases r; exact ⟨_, .int _, by with_unfolding_all rfl⟩)
    | (cases h; cases hn; cases r; exact ⟨_, .bl _, by with_unfolding_all rfl⟩)
    | (cases h; cases hn; cases r; exact ⟨_, .non, by with_unfolding_all rfl⟩)
    | (cases h; cases hn; obtain ⟨a, vs, rfl, q, _⟩ := r; exact ⟨_, .tup q, by with_unfolding_all rfl⟩)
    | (cases h; cases hn; obtain ⟨a, vs, rfl, _, q, _⟩ := r; exact ⟨_, lst q, by with_unfolding_all rfl⟩)
    | (cases h; cases hn; obtain ⟨a, vs, rfl, q, _⟩ := r; exact ⟨_, .lst q, by with_unfolding_all rfl⟩)
theorem isiX_ty {sub : Nat → Nat → Bool} {x : R} {c : Ty} {n : String} (hn : tyOf c = some n) : isiX sub x c = isiR x c := by
  cases c <;> first | (cases hn; done) | (unfold isiX; split <;> first | rfl | (rename_i z; cases z))
theorem sV_isi {c : Ty} {n : String} {y : Str} {py : Pos} (hn : tyOf c = some n) (hg : Gl X "isinstance") (hm : X.mg "isinstance" = none) (hgy : Gl X y) (hmy : X.mg y = none) (hv : bootBuiltins y = some (.type n)) (hy : y ≠ "__name__") (hdy : (y == ("__debug__" : Str)) = false)
    (ha : PE X a (tV G X C a')) (hs : starEach [a, .Name y py] X.env = [(false, eval a X.env), (false, eval (.Name y py) X.env)]) : PE X (.Call (.Name "isinstance" p) [a, .Name y py] [] pos) (tV G X C (.isi a' c)) := by
  have hc : CallR X (.builtin "isinstance") (fun xs H Q => ∃ v, xs = [v, .ty n] ∧ r1 G (fun x => (isiX C.sub x c).map fun k => .val (.bl k)) v H Q) := by
    rintro pins s σ H xs us Q I rv ⟨v, rfl, w, st, rx, r, S, R1, e, q⟩
    obtain ⟨u, u', rfl, r1, r2⟩ := rv.two
    cases r2
    obtain ⟨k, hk, rfl⟩ := map_some e
    rw [isiX_ty hn] at hk
    obtain ⟨t, ht, hk'⟩ := isi_ty (X := X) S R1 hn hk
    exact isinst_ok I r1 ht hk' fun tk => ⟨.bl k, H, I.tok tk, rfl, q w H _ (Le.refl _ _) S rfl⟩
  refine PE.imp (zacn hc hg hm (show bootBuiltins "isinstance" = some (.builtin "isinstance") by decide +kernel) (zaak ha (zaak (pe_bltn (v := .ty n) hgy hmy hv rfl hy hdy) pa_nil rfl) (by rw [hs]; rfl)) (by decide) (by decide) (by rw [hs]; rfl) rfl) ?_
  rintro σV H Q ⟨w₀, H₀, w, σ, s, g, h⟩
  obtain ⟨w₀, H₀, w, σ, s, g, h⟩ := t1_dr (f := fun x => (isiX C.sub x c).map fun k => .val (.bl k)) ⟨w₀, H₀, w, σ, s, g, h⟩
  exact ⟨w₀, H₀, w, σ, s, g, h.imp fun v H1 q => ⟨v, rfl, q⟩⟩
end
end IP
end
section
set_option Elab.async false
set_option linter.all false
set_option maxRecDepth 100000
namespace IP
open PySem PySem.Spec L2 PySem.SeqAt PyProof.Rows.LSm
section
variable {G : Gx} {X : Cx}
theorem zabp {w : Wo} {H : Hp} : ∀ {ts : List T} {is : List Bool} {vs : List V} {its : List Value}, zaal ts = some is → Reps G w H ts vs → Vals vs its → BoolsAre its is
  | [], is, vs, its, h, r, q => by
    cases h
    cases r
    rw [Vals.zero q]
    exact .nil
  | .bl i :: ts, is, vs, its, h, ⟨v, r, e, h1, h2⟩, q => by
    unfold zaal at h
    obtain ⟨js, hj, rfl⟩ := map_some h
    subst e
    cases h1
    cases q with
    | cons q1 q2 =>
      cases q1
      exact .cons i (zabp hj h2 q2)
  | .non :: ts, is, vs, its, h, r, q => by simp [zaal] at h
  | .int _ :: ts, is, vs, its, h, r, q => by simp [zaal] at h
  | .str _ :: ts, is, vs, its, h, r, q => by simp [zaal] at h
  | .tup _ :: ts, is, vs, its, h, r, q => by simp [zaal] at h
  | .lst _ :: ts, is, vs, its, h, r, q => by simp [zaal] at h
  | .loc _ :: ts, is, vs, its, h, r, q => by simp [zaal] at h
  | .exc _ :: ts, is, vs, its, h, r, q => by simp [zaal] at h
theorem bind2 {α β γ : Type} {o : Option α} {p : α → Option β} {f : α → β → Option γ} {r : γ} (h : (do let a ← o; let b ← p a; f a b) = some r) : ∃ a b, o = some a ∧ p a = some b ∧ f a b = some r := by
  cases ho : o with
  | none => rw [ho] at h; cases h
  | some a =>
    rw [ho] at h
    cases hp : p a with
    | none => simp [hp] at h
    | some b => simp [hp] at h; exact ⟨a, b, rfl, hp, h⟩
theorem c_any (hc : X.calm = true) : CallR X (.builtin "any") (rB1 G (b1R .any)) := by
  rintro pins s σ H xs us Q I rv ⟨v, rfl, w, st, rx, r, S, R1, e, q⟩
  obtain ⟨ts, bs, ht, hb, he⟩ := bind2 (f := fun (_ : List T) (bs : List Bool) => some (R.val (.bl (bs.any id)))) e
  cases he
  obtain ⟨pa, vs, rfl, hp, rp⟩ := RepD.seq (s := st) R1 ht
  obtain ⟨u, rfl, ru⟩ := rv.one
  cases ru
  obtain ⟨its, q1, hl⟩ := zaa6 I hp
  have hB := zabp hb rp q1
  have hlt : pa < s.heap.objs.size := by obtain ⟨_, e, _⟩ := hl; exact Heap.lt_size e
  refine call_any_walk (wpAny_pyIter_list hl ?_)
  refine ⟨s.heap.objs.size, [s.heap.objs.size, pa], [s.heap.objs.size], its.toArray.size, _, _, fun i => (bs[i]?).getD false, rfl, Walks.list (A := X.A.in1) (I.ok.hd hc) _ pa (Nat.ne_of_lt hlt) its.toArray,
    ⟨⟨_, Heap.get?_push_size _ rfl, rfl, rfl⟩, hl.push _⟩, fun i v s' Q' E' hP hQ => ?_, fun h' tk hk => ?_⟩
  · obtain ⟨b, e, rfl⟩ := hB.get i v (by simpa using hP)
    simp only [e, Option.getD_some] at hQ
    exact wpAny_truthy_bool hQ
  · have e : ((List.range its.toArray.size).any fun i => (bs[i]?).getD false) = bs.any id := by
      rw [List.size_toArray, hB.length]; exact range_any bs
    rw [e]
    exact ⟨.bl _, H, I.kept (kept_iter hk), rfl, q w H _ (Le.refl _ _) S rfl⟩
theorem zaa8 (w : Wo) (H : Hp) : ∀ ns : List Int, Reps G w H (ns.map T.int) (ns.map V.int)
  | [] => rfl
  | n :: r => ⟨_, _, rfl, rfl, zaa8 w H r⟩
end
end IP
end
section
set_option Elab.async false
set_option linter.all false
set_option maxRecDepth 100000
namespace IP
open PySem PySem.Spec L2
def CXE (G : Gx) (P : Program) (w : World) (base : Heap) : CXT := fun outer H s E e s' =>
  ∃ (a : Addr) (cls t : Value) (H' : Hp) (h B : Heap), e = .ref a ∧ s'.os = s.os ∧ PyProof.Rows.AllBare s'.gens ∧ Un (frs outer) [] H H' s.heap h ∧ HOk P w H' h ∧ Flt outer h B a s'.heap ∧ base.StaysIn B ∧ Heap.FlyingW B outer a cls t s'.heap ∧ E cls none H'
section
variable {G : Gx} {X : Cx} {C : Cf} {k : Nat} {f fa : Addr} {fd : FuncData} {ps : List Str} {sp : Sp} {dvs : List V} {ds : List Value} {E : XK}
theorem Inv.after' {pins : List (Addr × Obj)} {σ : St} {H H' : Hp} {s s' : Shared} (I : Inv X pins σ H s) (os : s'.os = s.os) (bare : PyProof.Rows.AllBare s'.gens) (un : Un (frs X.stack) [] H H' s.heap s'.heap) (hok : HOk X.prog X.w H' s'.heap) : Inv X pins σ H' s' := by
  obtain ⟨hh, g, d, t, os'⟩ := s'
  obtain rfl : os' = s.os := os
  exact I.call (h' := hh) (g' := g) (d' := d) (t' := t) (ch := []) un hok bare (fun b z => absurd z (by simp))
theorem run_call {CX : CXT} {pins : List (Addr × Obj)} {σ : St} {H : Hp} {s : Shared} {Q : VK} {us : List Value} {vs : List V} (F : FnOk X.prog X.w X.K X.mg X.base CX k f fd ps sp) (hr : Room k X.A) (hb : Binds X.K fd ps ds) (hd : Vals dvs ds)
    (I : Inv X pins σ H s) (r : Vals vs us) (h : sp (vs ++ dvs) H Q E) (hx : ∀ e s', CX X.stack H s E e s' → X.xe e s') : wpAny (model X.prog X.w) X.A (call (.ref f) us) (EP X pins σ Q) X.xe s := by
  have r2 : Vals (vs ++ dvs) (us ++ ds) := r.append hd
  have hl : (us ++ ds).length = ps.length := by rw [← r2.length]; exact F.len _ _ _ _ h
  refine wpAny_call (codeAny_mono (F.run X.A X.stack s H ⟨us, []⟩ (us ++ ds) (vs ++ dvs) Q E hr I.env0 (hb s us I.kIn hl) r2 h) fun r s' hq => ?_)
  cases r with
  | error e => exact hx e s' hq
  | ok fl =>
    cases fl with
    | ret u => exact I.after hq
    | next => exact False.elim hq
    | brk => exact False.elim hq
    | cont => exact False.elim hq
def EX (G : Gx) (X : Cx) (σV : St) : XK := fun cls _ H' => ∀ pins u sh h B a t, u = .ref a → Inv X pins σV H' { sh with heap := h } → Flt X.stack h B a sh.heap → X.base.StaysIn B → Heap.FlyingW B X.stack a cls t sh.heap → X.xe u sh
theorem passes_of {pins : List (Addr × Obj)} {σ : St} {H : Hp} {s : Shared} (I : Inv X pins σ H s) (e : Value) (s' : Shared) (h : CXE G X.prog X.w X.base X.stack H s (EX G X σ) e s') : X.xe e s' := by
  obtain ⟨a, cls, t, H', hh, B, rfl, os, bare, un, hok, fl, sb, fly, q⟩ := h
  exact q pins (.ref a) s' hh B a t rfl (Inv.after' (s' := { s' with heap := hh }) I os bare un hok) fl sb fly
theorem zabk {w : Wo} {H : Hp} : ∀ {rs qs : List R} {vs us : List V}, RepRs G w H rs vs → RepRs G w H qs us → RepRs G w H (rs ++ qs) (vs ++ us)
  | [], qs, _, us, h, q => by rw [h]; exact q
  | t :: ts, qs, _, us, ⟨v, r, e, h, k⟩, q => by subst e; exact ⟨v, r ++ us, rfl, h, zabk k q⟩
def cstV : T → Option V
  | .non => some .non | .bl b => some (.bl b) | .int i => some (.int i) | .str x => some (.str x) | _ => none
theorem zadc {w : Wo} {H : Hp} : ∀ {ts : List T} {vs : List V}, ts.mapM cstV = some vs → RepRs G w H (ts.map R.val) vs
  | [], vs, h => by cases h; exact rfl
  | t :: ts, vs, h => by
    rw [List.mapM_cons] at h
    cases e : cstV t with
    | none => simp [e] at h
    | some v =>
      cases e2 : ts.mapM cstV with
      | none => simp [e, e2] at h
      | some us =>
        simp [e, e2] at h
        subst h
        refine ⟨v, us, rfl, ?_, zadc e2⟩
        cases t <;> cases e <;> exact rfl
variable {es : List Expr} {es' : List IP.E} {e₀ : Expr} {fi : Nat} {x : Str} {p pos : Pos} {dts : List T}
theorem zaej {w : Wo} {H : Hp} {σV : St} {m : Res (List R)} {k : List R → Sto → Res R} {Q : VK} (h : Want G X σV w H (m.bind k) Q) : WantR G X σV w H m fun vs H1 => ∃ w1 rs s1, Le w w1 H H1 ∧ StoOk G w1 H1 s1 ∧ RepRs G w1 H1 rs vs ∧ Want G X σV w H (k rs s1) Q := by
  cases m with
  | stuck => exact h
  | ok rs s => exact fun w' H' vs a b c => ⟨w', rs, s, a, b, c, h⟩
  | exc c s => exact h
end
end IP
end
section
set_option Elab.async false
set_option linter.all false
set_option maxRecDepth 100000
namespace IP
open PySem PySem.Spec L2
def clo (cells : List (Str × Addr)) : List (Str × NameKind) → List (Str × Addr) → List (Str × Addr)
  | [], acc => acc
  | (n, k) :: r, acc => clo cells r (if k == .free then (match cells.lookup n with | some c => (n, c) :: acc | none => acc) else acc)
theorem zad9 (scope : Scope) (env : Env) (h : ∀ x ∈ scope.names, x.2 = .free → ∃ c, env.cells.lookup x.1 = some c) : closureFor scope env = pure (clo env.cells scope.names []) := by
  unfold closureFor
  generalize ([] : List (Str × Addr)) = acc
  obtain ⟨k, names, a, b, c⟩ := scope
  simp only at h ⊢
  induction names generalizing acc with
  | nil => rfl
  | cons x r ih =>
    obtain ⟨n, k⟩ := x
    have ih := fun acc => ih acc (fun y hy => h y (List.mem_cons_of_mem _ hy))
    simp only [List.forIn_cons, clo]
    by_cases hk : (k == NameKind.free) = true
    · have hk' : k = .free := by simpa using hk
      obtain ⟨c, hc⟩ := h (n, k) (List.mem_cons_self ..) hk'
      have hc : List.lookup n env.cells = some c := hc
      simp only [hk, if_true, cellOf, hc, pure_bind]
      exact ih _
    · simp only [Bool.not_eq_true] at hk
      simp only [hk, Bool.false_eq_true, if_false, pure_bind]
      exact ih _
theorem zadx (cells : List (Str × Addr)) : ∀ (names : List (Str × NameKind)) (acc : List (Str × Addr)), (∀ x c, acc.lookup x = some c → cells.lookup x = some c) → ∀ x c, (clo cells names acc).lookup x = some c → cells.lookup x = some c
  | [], acc, h, x, c, e => h x c e
  | (n, k) :: r, acc, h, x, c, e => by
    refine zadx cells r _ (fun y d q => ?_) x c e
    split at q
    · split at q
      · rename_i d' hd
        rw [List.lookup_cons] at q
        split at q
        · rename_i hyn
          have : y = n := by simpa using hyn
          subst this
          cases q
          exact hd
        · exact h y d q
      · exact h y d q
    · exact h y d q
theorem zad8 (cells : List (Str × Addr)) : ∀ (names : List (Str × NameKind)) (acc : List (Str × Addr)) (x : Str), (∃ c, acc.lookup x = some c) → ∃ c, (clo cells names acc).lookup x = some c
  | [], acc, x, h => h
  | (n, k) :: r, acc, x, h => by
    refine zad8 cells r _ x ?_
    split
    · split
      · rename_i d' hd
        rw [List.lookup_cons]
        split
        · exact ⟨_, rfl⟩
        · exact h
      · exact h
    · exact h
theorem zaef (cells : List (Str × Addr)) : ∀ (names : List (Str × NameKind)) (acc : List (Str × Addr)) (x : Str), (x, NameKind.free) ∈ names → (∃ c, cells.lookup x = some c) → ∃ c, (clo cells names acc).lookup x = some c
  | [], acc, x, h, _ => by simp at h
  | (n, k) :: r, acc, x, h, hc => by
    rcases List.mem_cons.mp h with e | e
    · cases e
      obtain ⟨c, hc⟩ := hc
      refine zad8 cells r _ _ ?_
      simp [hc]
    · exact zaef cells r _ x e hc
theorem zace {α : Type} : ∀ {l : List (Str × α)} {x : Str} {a : α}, l.lookup x = some a → (x, a) ∈ l
  | [], x, a, h => by simp at h
  | (y, b) :: r, x, a, h => by
    rw [List.lookup_cons] at h
    split at h
    · rename_i e
      have : x = y := by simpa using e
      subst this
      cases h
      exact List.mem_cons_self ..
    · exact List.mem_cons_of_mem _ (zace h)
theorem zabb (scope : Scope) (env : Env) (x : Str) (k : NameKind) (h : (relabel scope env).names.lookup x = some k) : ∃ k', (x, k') ∈ scope.names ∧ ((k = .cell ∨ k = .free) → k' = .cell ∨ k' = .free) ∧ (k = .local → k' = .local) := by
  have h := zace h
  unfold relabel at h
  obtain ⟨⟨n, k'⟩, hm, e⟩ := List.mem_map.mp h
  dsimp only at e
  split at e
  · rename_i hc
    cases e
    have : k' = .free := by
      have := (Bool.and_eq_true _ _).mp hc
      have := (Bool.and_eq_true _ _).mp this.1
      simpa using this.1
    exact ⟨k', hm, fun _ => .inr this, fun z => by cases z⟩
  · cases e
    exact ⟨_, hm, fun z => z, fun z => z⟩
section
variable {X : Cx}
def cxC (X : Cx) (N' : List Str) (scope : Scope) (C : Addr) (fp : List Addr) (s2 : Shared) (H2 : Hp) : Cx :=
  { X with N := N', s₀ := s2, H₀ := H2, env := compEnvC scope (clo X.env.cells scope.names []) C X.env, outer := X.stack, ex := fp, fn := fun _ => false, pn := [], xe := fun _ _ => False }
structure CompN (X : Cx) (scope : Scope) (N' : List Str) (js : List Nat) : Prop where
  kind : scope.kind = .function
  nocell : ∀ x ∈ scope.names, x.2 ≠ .cell
  free : ∀ x ∈ scope.names, x.2 = .free → X.env.kindOf x.1 = some .cell ∨ X.env.kindOf x.1 = some .free
  len : N'.length = X.N.length
  nd : N'.Nodup
  same : ∀ (i : Nat) (x : Str), N'[i]? = some x → i ∉ js → Vis (relabel scope X.env) x → X.N[i]? = some x ∧ (x, NameKind.free) ∈ scope.names ∧ ((relabel scope X.env).names.lookup x = some .cell ∨ (relabel scope X.env).names.lookup x = some .free)
  locs : ∀ x ∈ scope.names, x.2 = .local → scope.names.lookup x.1 = some .local
def clr (σ : St) (js : List Nat) : St := js.foldl (fun σ j => σ.set j none) σ
theorem clr_len (js : List Nat) : ∀ σ : St, (clr σ js).length = σ.length := by
  induction js with
  | nil => intro σ; rfl
  | cons j js ih => intro σ; show (clr (σ.set j none) js).length = _; rw [ih]; simp
theorem clr_get (js : List Nat) : ∀ (σ : St) (i : Nat) (v : V), (clr σ js)[i]? = some (some v) → σ[i]? = some (some v) ∧ i ∉ js := by
  induction js with
  | nil => intro σ i v h; exact ⟨h, by simp⟩
  | cons j js ih =>
    intro σ i v h
    obtain ⟨h1, h2⟩ := ih (σ.set j none) i v h
    by_cases e : j = i
    · subst e
      rw [List.getElem?_set_self'] at h1
      cases hq : σ[j]? with
      | none => rw [hq] at h1; cases h1
      | some q => rw [hq] at h1; cases h1
    · rw [List.getElem?_set_ne e] at h1
      exact ⟨h1, by simp [h2]; exact fun z => e z.symm⟩
theorem cxC_inv {pins : List (Addr × Obj)} {σ : St} {H : Hp} {s : Shared} {scope : Scope} {N' : List Str} {js : List Nat} {fp : List Addr} {h4 : Heap} {tk : Nat} (hN : CompN X scope N' js) (I : Inv X pins σ H s) (hfp : ∀ b ∈ fp, FpOk X pins H b) (hfo : ∀ b ∈ fp, ∃ o, s.heap.get? b = some o)
    (hns : h4.Ns s.heap.objs.size (fun _ => none)) (hk : ∀ b o, s.heap.get? b = some o → h4.get? b = some o) :
    Inv (cxC X N' scope s.heap.objs.size fp s H) [] (clr σ js) H { s with heap := h4, toks := tk } := by
  have hlt : ∀ {b : Addr} {o : Obj}, s.heap.get? b = some o → b ≠ s.heap.objs.size := fun e => Nat.ne_of_lt (Heap.lt_size e)
  have hsubc := zadx X.env.cells scope.names [] (fun x c z => by simp at z)
  have clt : ∀ x c, (clo X.env.cells scope.names []).lookup x = some c → c ≠ s.heap.objs.size := fun x c e => by
    obtain ⟨v, hv⟩ := I.cell x c (hsubc x c e)
    obtain ⟨o, ho, _⟩ := hv
    exact hlt ho
  have hkin : ∀ x : Str, (relabel scope X.env).names.lookup x = some .cell ∨ (relabel scope X.env).names.lookup x = some .free → (x, NameKind.free) ∈ scope.names := fun x hx => by
    have : ∃ k', (x, k') ∈ scope.names ∧ (k' = .cell ∨ k' = .free) := by
      rcases hx with hx | hx
      · obtain ⟨k', h1, h2, _⟩ := zabb _ _ _ _ hx; exact ⟨k', h1, h2 (.inl rfl)⟩
      · obtain ⟨k', h1, h2, _⟩ := zabb _ _ _ _ hx; exact ⟨k', h1, h2 (.inr rfl)⟩
    obtain ⟨k', h1, h2⟩ := this
    rcases h2 with rfl | rfl
    · exact absurd rfl (hN.nocell _ h1)
    · exact h1
  have hcell : ∀ x : Str, (x, NameKind.free) ∈ scope.names → ∃ c, X.env.cells.lookup x = some c := fun x hx => I.ok.has x (hN.free (x, .free) hx rfl)
  have hstk : ∀ b ∈ frs X.stack, b ∈ X.env.locals :: X.fs := I.stkSub
  refine ⟨⟨I.ok.mod, hN.kind, I.ok.glob, I.ok.blt, Nat.le_refl _, fun x y c h1 h2 => I.ok.inj x y c (hsubc _ _ h1) (hsubc _ _ h2), fun x hx => ?_, fun x c h _ => (Bool.noConfusion (show false = true from h)), I.ok.hd, I.ok.frames, .inl rfl, fun b hb => ?_, I.bs, Nat.le_trans I.ok.bsz I.sz, fun b o e hb => ?_, fun b hb hf => ?_, I.stack, I.stkFree⟩,
    rfl, I.bare, Un.kept hk, ⟨_, hns, fun i x v h1 h2 h3 => ?_⟩, fun x c h => ?_, I.hok.fresh (Nat.le_refl _), fun x c h => I.freeC x c (hsubc _ _ h), fun p hp => absurd (show p ∈ ([] : List (Addr × Obj)) from hp) (by simp), I.hok.kept hk, ?_⟩
  · exact zaef X.env.cells scope.names [] x (hkin x hx) (hcell x (hkin x hx))
  · obtain ⟨f0, f1, f2, f3, f4, f5⟩ := hfp b hb
    refine ⟨fun z => ?_, fun x c e z => f4 x c (hsubc _ _ e) z⟩
    obtain ⟨o, ho⟩ := hfo b hb
    exact hlt ho z
  · have := I.bs b o e
    obtain ⟨f0, f1, f2, f3, f4, f5⟩ := hfp b hb
    rcases f3 with f3 | f3
    · exact I.ok.noex b o e f3
    · exact absurd (Nat.lt_of_lt_of_le (Heap.lt_size (I.ok.bs b o e).1) f3) (Nat.lt_irrefl _)
  · obtain ⟨f0, f1, f2, f3, f4, f5⟩ := hfp b hb
    rcases List.mem_cons.mp (hstk b hf) with z | z
    · exact f1 z
    · exact f2 z
  · obtain ⟨h2', hj⟩ := clr_get js σ i v h2
    obtain ⟨q1, q2, q3⟩ := hN.same i x h1 hj h3
    obtain ⟨m, hm, hl⟩ := I.loc
    have hkx := hN.free (x, .free) q2 rfl
    obtain ⟨u, ru, lk⟩ := hl i x v q1 h2' (.inr hkx)
    refine ⟨u, ru, .inr ⟨q3, ?_⟩⟩
    · rcases lk with ⟨k1, _⟩ | ⟨_, c, hc, ic⟩
      · rcases hkx with z | z <;> (rw [z] at k1; cases k1)
      · obtain ⟨c', hc'⟩ := zaef X.env.cells scope.names [] x q2 ⟨c, hc⟩
        have := hsubc _ _ hc'
        rw [hc] at this
        cases this
        exact ⟨c, hc', ic.keeps hk⟩
  · obtain ⟨v, hv⟩ := I.cell x c (hsubc x c h)
    exact ⟨v, hv.keeps hk⟩
  · rw [clr_len, I.len]
    exact hN.len.symm
end
end IP
end
section
set_option Elab.async false
set_option linter.all false
set_option maxRecDepth 100000
namespace IP
open PySem PySem.Spec L2
section
variable {G : Gx} {w : Wo} {H H₀ : Hp}
mutual
theorem Rep.upd {a : Addr} {xs ys : List V} (ha : H a = some (.lst xs)) (hz : ¬ w.Z a) : ∀ (t : T) (v : V), Rep G w H t v → Rep G w (L2.upd H a (.lst ys)) t v
  | .non, v, h => h
  | .bl b, v, h => h
  | .int i, v, h => h
  | .str x, v, h => h
  | .tup ts, v, ⟨p, vs, e, h, r⟩ => ⟨p, vs, e, by rw [upd_ne (ne_of h ha (by intro z; cases z))]; exact h, Reps.upd ha hz ts vs r⟩
  | .lst ts, v, ⟨p, vs, e, z, h, r⟩ => by
    have ne : p ≠ a := fun q => hz (q ▸ z)
    refine ⟨p, vs, e, z, ?_, Reps.upd ha hz ts vs r⟩
    rcases h with h | ⟨o, h⟩
    · exact .inl (by rw [upd_ne ne]; exact h)
    · exact .inr ⟨o, by rw [upd_ne ne]; exact h⟩
  | .loc l, v, h => h
  | .exc c, v, ⟨p, e, h⟩ => ⟨p, e, by rw [upd_ne (ne_of h ha (by intro z; cases z))]; exact h⟩
theorem Reps.upd {a : Addr} {xs ys : List V} (ha : H a = some (.lst xs)) (hz : ¬ w.Z a) : ∀ (ts : List T) (vs : List V), Reps G w H ts vs → Reps G w (L2.upd H a (.lst ys)) ts vs
  | [], vs, h => h
  | t :: ts, vs, ⟨v, r, e, h, q⟩ => ⟨v, r, e, Rep.upd ha hz t v h, Reps.upd ha hz ts r q⟩
end
mutual
theorem Rep.zmono {w' : Wo} (hn : w'.n = w.n) (hio : w'.io = w.io) (hz : ∀ a, w.Z a → w'.Z a) : ∀ (t : T) (v : V), Rep G w H t v → Rep G w' H t v
  | .non, v, h => h
  | .bl b, v, h => h
  | .int i, v, h => h
  | .str x, v, h => h
  | .tup ts, v, ⟨p, vs, e, h, r⟩ => ⟨p, vs, e, h, Reps.zmono hn hio hz ts vs r⟩
  | .lst ts, v, ⟨p, vs, e, z, h, r⟩ => ⟨p, vs, e, hz _ z, h, Reps.zmono hn hio hz ts vs r⟩
  | .loc l, v, ⟨h, e⟩ => ⟨by rw [hn]; exact h, by rw [hio]; exact e⟩
  | .exc c, v, h => h
theorem Reps.zmono {w' : Wo} (hn : w'.n = w.n) (hio : w'.io = w.io) (hz : ∀ a, w.Z a → w'.Z a) : ∀ (ts : List T) (vs : List V), Reps G w H ts vs → Reps G w' H ts vs
  | [], vs, h => h
  | t :: ts, vs, ⟨v, r, e, h, q⟩ => ⟨v, r, e, Rep.zmono hn hio hz t v h, Reps.zmono hn hio hz ts r q⟩
end
theorem StoOk.upd {s : Sto} {a : Addr} {xs ys : List V} (S : StoOk G w H s) (ha : H a = some (.lst xs)) (hz : ¬ w.Z a) (hl : IP.notLoc w a) : StoOk G w (L2.upd H a (.lst ys)) s where
  len := S.len
  inj := S.inj
  nz := S.nz
  cell := fun l c e => by
    have h : l < w.n := by rw [← S.len]; exact (List.getElem?_eq_some_iff.mp e).1
    have q := S.cell l c e
    have ne : w.io l ≠ a := fun z => hl l h z.symm
    cases c with
    | lst ts => obtain ⟨vs, q1, q2⟩ := q; exact ⟨vs, by rw [upd_ne ne]; exact q1, Reps.upd ha hz ts vs q2⟩
    | ins c fs => obtain ⟨dx, kvs, q1, q2, q3⟩ := q; exact ⟨dx, kvs, by rw [upd_ne ne]; exact q1, q2, fun i x t h1 h2 => let ⟨v, z1, z2⟩ := q3 i x t h1 h2; ⟨v, z1, Rep.upd ha hz t v z2⟩⟩
    | tbl k p q' => obtain ⟨q0, ps, q1, q2, q3⟩ := q; exact ⟨q0, ps, by rw [upd_ne ne]; exact q1, q2, fun cv hcv => let ⟨c, e1, e2⟩ := q3 cv hcv; ⟨c, e1, by rw [upd_ne (ne_of e2 ha (by intro z; cases z))]; exact e2⟩⟩
  zt := fun p z => by
    obtain ⟨vs, r⟩ := S.zt p z
    have ne : p ≠ a := fun q => hz (q ▸ z)
    rcases r with r | ⟨o, r⟩
    · exact ⟨vs, .inl (by rw [upd_ne ne]; exact r)⟩
    · exact ⟨vs, .inr ⟨o, by rw [upd_ne ne]; exact r⟩⟩
theorem StoOk.addZ {s : Sto} {a : Addr} {xs : List V} (S : StoOk G w H s) (ha : H a = some (.lst xs)) (hl : IP.notLoc w a) : StoOk G (w.addZ a) H s where
  len := S.len
  inj := S.inj
  nz := fun l h z => z.elim (S.nz l h) fun q => hl l h q.symm
  cell := fun l c e => by
    have q := S.cell l c e
    cases c with
    | lst ts => obtain ⟨vs, q1, q2⟩ := q; exact ⟨vs, q1, Reps.zmono (w := w) (w' := w.addZ a) rfl rfl (fun _ z => .inl z) ts vs q2⟩
    | ins c fs => obtain ⟨dx, kvs, q1, q2, q3⟩ := q; exact ⟨dx, kvs, q1, q2, fun i x t h1 h2 => let ⟨v, z1, z2⟩ := q3 i x t h1 h2; ⟨v, z1, Rep.zmono (w := w) (w' := w.addZ a) rfl rfl (fun _ z => .inl z) t v z2⟩⟩
    | tbl k p q' => exact q
  zt := fun p z => z.elim (S.zt p) fun q => ⟨xs, .inl (by rw [q]; exact ha)⟩
theorem Le.updNew {w' : Wo} {H' : Hp} {a : Addr} {o : HO} (L : Le w w' H H') (ha : H a = none) (hs : H' a ≠ none) : Le w w' H (L2.upd H' a o) where
  n := L.n
  io := L.io
  Z := L.Z
  keep := fun p q e nl => by rw [upd_ne (zabi e ha)]; exact L.keep p q e nl
  newL := L.newL
  newZ := L.newZ
  some_ := fun p z => by
    by_cases e : p = a
    · subst e; exact absurd ha z
    · rw [upd_ne e]; exact L.some_ p z
theorem Le.addZ {w' : Wo} {H' : Hp} {a : Addr} (L : Le w w' H H') (ha : H a = none) : Le w (w'.addZ a) H H' where
  n := L.n
  io := L.io
  Z := fun p z => .inl (L.Z p z)
  keep := L.keep
  newL := L.newL
  newZ := fun p z => z.elim (L.newZ p) fun q => .inr (q ▸ ha)
  some_ := L.some_
theorem want_o {X : Cx} {σV : St} {res : Res R} {Q : VK} (hv : ∀ r s, res = .ok r s → ∃ ts, r = .val (.lst ts)) (h : Want G X σV w H res Q) : WantO G X σV w H res Q := by
  cases res with
  | stuck => exact h
  | exc c s => exact h
  | ok r s =>
    obtain ⟨ts, rfl⟩ := hv r s rfl
    intro w' H' a vs L S ha r hn nz nl
    exact h (w'.addZ a) H' (.ref a) (L.addZ hn) (S.addZ ha nl) ⟨a, vs, rfl, .inr rfl, .inl ha, Reps.zmono (w := w') (w' := w'.addZ a) rfl rfl (fun _ z => .inl z) ts vs r⟩
theorem FrOk.put {σ : Fr} {σV : St} {i : Nat} {t : T} {v : V} (F : FrOk G w H H₀ σ σV) (r : Rep G w H t v) : FrOk G w H H₀ (put σ i t) (σV.set i (some v)) where
  len := by unfold IP.put; simp [F.len]
  val := fun j u e => by
    unfold IP.put at e
    by_cases hj : i = j
    · subst hj
      have hlt : i < σ.length := by
        have := (List.getElem?_eq_some_iff.mp e).1
        simpa using this
      rw [List.getElem?_set_self hlt] at e
      cases e
      exact ⟨v, by rw [List.getElem?_set_self (by rw [← F.len]; exact hlt)], r⟩
    · rw [List.getElem?_set_ne hj] at e
      obtain ⟨x, h1, h2⟩ := F.val j u e
      exact ⟨x, by rw [List.getElem?_set_ne hj]; exact h1, h2⟩
  own := fun j b ts e eb => by
    unfold IP.put at e
    by_cases hj : i = j
    · subst hj
      have hlt : i < σ.length := by
        have := (List.getElem?_eq_some_iff.mp e).1
        simpa using this
      rw [List.getElem?_set_self hlt] at e
      cases e
      cases eb
    · rw [List.getElem?_set_ne hj] at e
      obtain ⟨a, vs, h1, h2⟩ := F.own j b ts e eb
      exact ⟨a, vs, by rw [List.getElem?_set_ne hj]; exact h1, h2⟩
  apart := fun j k b c ts us a hjk e1 eb e2 ec e3 e4 => by
    unfold IP.put at e1 e2
    have nj : i ≠ j := fun q => by
      subst q
      have hlt : i < σ.length := by
        have := (List.getElem?_eq_some_iff.mp e1).1
        simpa using this
      rw [List.getElem?_set_self hlt] at e1
      cases e1
      cases eb
    have nk : i ≠ k := fun q => by
      subst q
      have hlt : i < σ.length := by
        have := (List.getElem?_eq_some_iff.mp e2).1
        simpa using this
      rw [List.getElem?_set_self hlt] at e2
      cases e2
      cases ec
    rw [List.getElem?_set_ne nj] at e1 e3
    rw [List.getElem?_set_ne nk] at e2 e4
    exact F.apart j k b c ts us a hjk e1 eb e2 ec e3 e4
  bor := fun j ts e => by
    unfold IP.put at e
    by_cases hj : i = j
    · subst hj
      have hlt : i < σ.length := by
        have := (List.getElem?_eq_some_iff.mp e).1
        simpa using this
      rw [List.getElem?_set_self hlt] at e
      cases e
    · rw [List.getElem?_set_ne hj] at e
      obtain ⟨a, vs, h1, h2⟩ := F.bor j ts e
      exact ⟨a, vs, by rw [List.getElem?_set_ne hj]; exact h1, h2⟩
def setsV (σV : St) : List Nat → List V → St
  | [], _ => σV
  | _, [] => σV
  | i :: is, v :: vs => setsV (σV.set i (some v)) is vs
theorem zac7 : ∀ (is : List Nat) (vs : List V) (σV : St), (setsV σV is vs).length = σV.length
  | [], _, σV => rfl
  | i :: is, [], σV => rfl
  | i :: is, v :: vs, σV => by show (setsV (σV.set i (some v)) is vs).length = _; rw [zac7 is vs]; simp
theorem FrOk.puts : ∀ {is : List Nat} {ts : List T} {vs : List V} {σ σ' : Fr} {σV : St}, FrOk G w H H₀ σ σV → Reps G w H ts vs → IP.puts σ is ts = some σ' → FrOk G w H H₀ σ' (setsV σV is vs)
  | [], [], vs, σ, σ', σV, F, r, h => by cases h; exact F
  | [], _ :: _, vs, σ, σ', σV, F, r, h => by cases h
  | _ :: _, [], vs, σ, σ', σV, F, r, h => by cases h
  | i :: is, t :: ts, _, σ, σ', σV, F, ⟨v, r, e, h1, h2⟩, h => by
    subst e
    have z := FrOk.puts (is := is) (ts := ts) (vs := r) (σ' := σ') (F.put (i := i) h1) h2 h
    exact z
theorem set_comm' {σV : St} {i j : Nat} {x y : Option V} (h : i ≠ j) : (σV.set i x).set j y = (σV.set j y).set i x := List.set_comm x y h
theorem zadu {σV : St} {j : Nat} {x : Option V} : ∀ {js : List Nat}, j ∉ js → clr (σV.set j x) js = (clr σV js).set j x
  | [], _ => rfl
  | k :: js, h => by
    show clr ((σV.set j x).set k none) js = (clr (σV.set k none) js).set j x
    rw [set_comm' (fun q => h (by simp [q]))]
    exact zadu (σV := σV.set k none) fun q => h (List.mem_cons_of_mem _ q)
theorem zac6 : ∀ {js : List Nat} {vs : List V} {σV : St}, js.Nodup → js.length = vs.length → setsV (clr σV js) js vs = setsV σV js vs
  | [], [], σV, _, _ => rfl
  | j :: js, v :: vs, σV, hn, hl => by
    obtain ⟨h1, h2⟩ := List.nodup_cons.mp hn
    show setsV ((clr (σV.set j none) js).set j (some v)) js vs = setsV (σV.set j (some v)) js vs
    rw [zadu h1, List.set_set, ← zadu h1]
    exact zac6 h2 (by simpa using hl)
  | j :: js, [], σV, hn, hl => by simp at hl
  | [], _ :: _, σV, hn, hl => by simp at hl
end
end IP
end
section
set_option Elab.async false
set_option linter.all false
set_option maxRecDepth 100000
namespace IP
open PySem PySem.Spec L2
section
variable {prog : Program} {w : World} {A : Around} {E : Value → Shared → Prop} {s : Shared}
end
section
variable {X : Cx}
end
end IP
end
section
set_option Elab.async false
set_option linter.all false
set_option maxRecDepth 100000
namespace IP
open PySem PySem.Spec L2
inductive Src where
  | l (a : Addr) (vs : List V) | t (a : Addr) (vs : List V) | r (lo : Int) (n : Nat)
def itOf (K : PySem.W.Frag) : Src → It
  | .l a _ => Itl K a
  | .t a _ => Itt K a
  | .r lo n => Itr lo n
def SrcOk (G : Gx) (w : Wo) (H : Hp) (z : Bool) : Src → List T → Prop
  | .l a vs, ts => Rd H a (.lst vs) ∧ Reps G w H ts vs ∧ notLoc w a ∧ (z = true → w.Z a)
  | .t a vs, ts => H a = some (.tup vs) ∧ Reps G w H ts vs
  | .r lo n, ts => ts = (List.range n).map (fun (k : Nat) => T.int (lo + k)) ∧ n ≤ sizeLine
section
variable {G : Gx} {X : Cx} {C : Cf} {w w' : Wo} {H H' : Hp}
theorem Rd.some {a : Addr} {u : HO} (r : Rd H a u) : H a ≠ none := by
  rcases r with r | ⟨o, r⟩ <;> (rw [r]; intro z; cases z)
theorem SrcOk.mono {z : Bool} {s : Sto} (L : Le w w' H H') (S : StoOk G w H s) : ∀ {src : Src} {ts : List T}, SrcOk G w H z src ts → SrcOk G w' H' z src ts
  | .l a vs, ts, ⟨h1, h2, h3, h4⟩ => ⟨Rd.keep L h3 h1, Reps.mono L S ts vs h2, notLoc.mono L (Rd.some h1) h3, fun q => L.Z a (h4 q)⟩
  | .t a vs, ts, ⟨h1, h2⟩ => ⟨L.keep _ _ h1 (S.notLoc h1 (fun _ z => by cases z) fun _ _ _ z => by cases z), Reps.mono L S ts vs h2⟩
  | .r lo n, ts, h => h
def SrcNow (G : Gx) (w : Wo) (H : Hp) : Src → List T → Prop
  | .l a _, ts => ∃ vs, Rd H a (.lst vs) ∧ Reps G w H ts vs
  | .t a vs, ts => H a = some (.tup vs) ∧ Reps G w H ts vs
  | .r lo n, ts => ts = (List.range n).map (fun (k : Nat) => T.int (lo + k)) ∧ n ≤ sizeLine
theorem SrcOk.now {z : Bool} : ∀ {src : Src} {ts : List T}, SrcOk G w H z src ts → SrcNow G w H src ts
  | .l _ vs, _, h => ⟨vs, h.1, h.2.1⟩
  | .t _ _, _, h => h
  | .r _ _, _, h => h
theorem SrcNow.go : ∀ {src : Src} {ts : List T} {K : PySem.W.Frag} {i : Nat} {t : T}, SrcNow G w H src ts → ts[i]? = some t → (itOf K src).go i H ∧ ∀ x H', (itOf K src).yld i H x H' → H' = H ∧ Rep G w H t x
  | .l a _, ts, K, i, t, ⟨vs, h1, h2⟩, e => by
    obtain ⟨v, e1, r⟩ := h2.get e
    refine ⟨⟨vs, v, .inl h1, e1⟩, fun x H' ⟨q1, q2⟩ => ⟨q1, ?_⟩⟩
    have := q2 vs (.inl h1)
    rw [e1] at this
    cases this
    exact r
  | .t a vs, ts, K, i, t, ⟨h1, h2⟩, e => by
    obtain ⟨v, e1, r⟩ := h2.get e
    refine ⟨⟨vs, v, SqT.of h1, e1⟩, fun x H' ⟨q1, q2⟩ => ⟨q1, ?_⟩⟩
    have := q2 vs (SqT.of h1)
    rw [e1] at this
    cases this
    exact r
  | .r lo n, ts, K, i, t, ⟨h1, _⟩, e => by
    subst h1
    rw [List.getElem?_map] at e
    obtain ⟨k, hk, rfl⟩ := map_some e
    obtain ⟨hi, hk⟩ := List.getElem?_eq_some_iff.mp hk
    simp at hi hk
    subst hk
    refine ⟨hi, fun x H' ⟨q1, q2⟩ => ⟨q1, ?_⟩⟩
    rw [q2]
    exact rfl
theorem SrcNow.stop : ∀ {src : Src} {ts : List T} {K : PySem.W.Frag}, SrcNow G w H src ts → (itOf K src).stop ts.length H
  | .l a _, ts, K, ⟨vs, h1, h2⟩ => ⟨vs, .inl h1, by rw [h2.length]; exact Nat.le_refl _⟩
  | .t a vs, ts, K, ⟨h1, h2⟩ => ⟨vs, SqT.of h1, by rw [h2.length]; exact Nat.le_refl _⟩
  | .r lo n, ts, K, ⟨h1, _⟩ => by subst h1; show n ≤ _; simp
theorem SrcNow.small {pins : List (Addr × Obj)} {σ : St} {s : Shared} (I : Inv X pins σ H s) : ∀ {src : Src} {ts : List T}, SrcNow G w H src ts → ts.length ≤ sizeLine
  | .l a _, ts, ⟨vs, h1, h2⟩ => by rw [h2.length]; exact (Rd.lst I h1).1
  | .t a vs, ts, ⟨h1, h2⟩ => by
    rw [h2.length]
    exact (I.hok a _ h1).1
  | .r lo n, ts, ⟨h1, h2⟩ => by subst h1; simpa using h2
theorem SrcOk.go {z : Bool} {src : Src} {ts : List T} {K : PySem.W.Frag} {i : Nat} {t : T} (h : SrcOk G w H z src ts) (e : ts[i]? = some t) : (itOf K src).go i H ∧ ∀ x H', (itOf K src).yld i H x H' → H' = H ∧ Rep G w H t x := h.now.go e
theorem SrcOk.stop {z : Bool} {src : Src} {ts : List T} {K : PySem.W.Frag} (h : SrcOk G w H z src ts) : (itOf K src).stop ts.length H := h.now.stop
theorem SrcOk.small {z : Bool} {pins : List (Addr × Obj)} {σ : St} {s : Shared} (I : Inv X pins σ H s) {src : Src} {ts : List T} (h : SrcOk G w H z src ts) : ts.length ≤ sizeLine := h.now.small I
def WantI (G : Gx) (X : Cx) (σV : St) (w : Wo) (H : Hp) (z : Bool) (res : Res R) (Q : It → Hp → Prop) : Prop := match res with
  | .ok (.val (.lst ts)) s' => ∀ w' H' src, Le w w' H H' → StoOk G w' H' s' → SrcOk G w' H' z src ts → Q (itOf X.K src) H'
  | .exc c s' => ∀ w' H' pins u sh, Le w w' H H' → StoOk G w' H' s' → Thrown G X pins σV H' c u sh → X.xe u sh
  | _ => False
def tI (G : Gx) (X : Cx) (C : Cf) (e : E) (m : Md) (z : Bool) : TI := fun σV H R => ∃ w₀ H₀ w σ s, Good G w₀ H₀ w H σ s σV ∧ WantI G X σV w H z (ev C e m σ s) R
theorem PI.imp {tg e : Expr} {t t' : TI} (h : PI X tg e t) (q : ∀ σ H R, t' σ H R → t σ H R) : PI X tg e t' := fun pins s σ H R I z => h pins s σ H R I (q _ _ _ z)
theorem pi_seq {tg l : Expr} {tl : TE} (hl : PE X l tl) : PI X tg l (fun σ H R => tl σ H fun x H1 => ∃ a, x = .ref a ∧ ((∃ xs, Rd H1 a (.lst xs) ∧ R (Itl X.K a) H1) ∨ ∃ xs, H1 a = some (.tup xs) ∧ R (Itt X.K a) H1)) := by
  intro pins s σ H R I h
  refine thn (hl pins s σ H _ I h) fun v s1 ⟨x, H1, I1, r1, q1⟩ => ?_
  obtain ⟨a, e, q⟩ := q1
  subst e
  cases r1
  have hf : ∀ b ∈ [s1.heap.objs.size], FpOk X pins H1 b := fun b hb => by
    have e : b = s1.heap.objs.size := by simpa using hb
    subst e
    exact I1.fpOk (Nat.le_refl _) (I1.hok.fresh (Nat.le_refl _))
  rcases q with ⟨xs, hq, q⟩ | ⟨xs, hq, q⟩
  · obtain ⟨its, rv, p⟩ := zaa6 I1 hq
    refine wpAny_pyIter_list p ?_
    exact ⟨s1.heap.objs.size, [s1.heap.objs.size], _, _, H1, rfl, I1.kept (t' := s1.toks) fun b o e => Heap.get?_push_of_some _ e, turn_list a _, ⟨_, Heap.get?_push_size _ rfl, rfl, rfl⟩, hf, q⟩
  · obtain ⟨its, rv, p⟩ := zaar I1 hq
    refine wpAny_pyIter_tuple p ?_
    exact ⟨s1.heap.objs.size, [s1.heap.objs.size], _, _, H1, rfl, I1.kept (t' := s1.toks) fun b o e => Heap.get?_push_of_some _ e, zadv a _, ⟨_, Heap.get?_push_size _ rfl, rfl, rfl⟩, hf, q⟩
theorem zad0 {tg e : Expr} {e' : E} {m : Md} {z : Bool} (hE : PE X e (tV G X C e')) (hm : m = .i ∧ z = false ∨ m = .j ∧ z = true)
    (hev : ∀ σ s, ev C e' m σ s = fin m (ev C e' .v σ s)) : PI X tg e (tI G X C e' m z) := by
  refine PI.imp (pi_seq hE) ?_
  rintro σV H R ⟨w₀, H₀, w, σ, s, g, h⟩
  rw [hev] at h
  refine ⟨w₀, H₀, w, σ, s, g, ?_⟩
  cases he : ev C e' .v σ s with
  | stuck => rw [he] at h; rcases hm with ⟨rfl, rfl⟩ | ⟨rfl, rfl⟩ <;> exact h
  | exc c s1 => rw [he] at h; rcases hm with ⟨rfl, rfl⟩ | ⟨rfl, rfl⟩ <;> exact h
  | ok x s1 =>
    rw [he] at h
    intro w1 H1 v L1 S1 R1
    match x, R1 with
    | .val (.lst ts), ⟨a, vs, e, hz, hr, rp⟩ =>
      subst e
      refine ⟨a, rfl, .inl ⟨vs, hr, ?_⟩⟩
      rcases hm with ⟨rfl, rfl⟩ | ⟨rfl, rfl⟩ <;> exact h w1 H1 (.l a vs) L1 S1 ⟨hr, rp, S1.zLoc hz, fun _ => hz⟩
    | .val (.tup ts), ⟨a, vs, e, hr, rp⟩ =>
      subst e
      refine ⟨a, rfl, .inr ⟨vs, hr, ?_⟩⟩
      rcases hm with ⟨rfl, rfl⟩ | ⟨rfl, rfl⟩ <;> exact h w1 H1 (.t a vs) L1 S1 ⟨hr, rp⟩
    | .bor ts, ⟨a, vs, e, hr, rp, nl⟩ =>
      subst e
      rcases hm with ⟨rfl, rfl⟩ | ⟨rfl, rfl⟩
      · exact ⟨a, rfl, .inl ⟨vs, .inl hr, h w1 H1 (.l a vs) L1 S1 ⟨.inl hr, rp, nl, fun z => by cases z⟩⟩⟩
      · exact h.elim
    | .val .non, _ => rcases hm with ⟨rfl, rfl⟩ | ⟨rfl, rfl⟩ <;> exact h.elim
    | .val (.bl _), _ => rcases hm with ⟨rfl, rfl⟩ | ⟨rfl, rfl⟩ <;> exact h.elim
    | .val (.int _), _ => rcases hm with ⟨rfl, rfl⟩ | ⟨rfl, rfl⟩ <;> exact h.elim
    | .val (.str _), _ => rcases hm with ⟨rfl, rfl⟩ | ⟨rfl, rfl⟩ <;> exact h.elim
    | .val (.loc _), _ => rcases hm with ⟨rfl, rfl⟩ | ⟨rfl, rfl⟩ <;> exact h.elim
    | .val (.exc _), _ => rcases hm with ⟨rfl, rfl⟩ | ⟨rfl, rfl⟩ <;> exact h.elim
theorem bnd_of {i : Int} (h : bnd i = true) : -(2 ^ 62) ≤ i ∧ i < 2 ^ 62 := by
  unfold bnd at h
  rw [Bool.and_eq_true, decide_eq_true_iff, decide_eq_true_iff] at h
  exact h
theorem lim_le : lim ≤ sizeLine := by decide
theorem sI_rng1 {tg a : Expr} {a' : E} {p pos : Pos} {m : Md} {z : Bool} (hm : m = .i ∨ m = .j) (hg : Gl X "range") (hmg : X.mg "range" = none) (ha : PE X a (tV G X C a')) (hs : starEach [a] X.env = [(false, eval a X.env)]) : PI X tg (.Call (.Name "range" p) [a] [] pos) (tI G X C (.rng1 a') m z) := by
  refine PI.imp (pi_range1 hg hmg (zaak ha pa_nil hs) hs) ?_
  rintro σV H R ⟨w₀, H₀, w, σ, s, g, h⟩
  have h : WantI G X σV w H z ((ev C a' .v σ s).bind fun x s1 => onI x fun j => if bnd j && decide (j ≤ lim) then .ok (.val (.lst (rangeT 0 j))) s1 else .stuck) R := by rcases hm with rfl | rfl <;> exact h
  refine ⟨w₀, H₀, w, σ, s, g, ?_⟩
  cases he : ev C a' .v σ s with
  | stuck => rw [he] at h; exact h
  | exc c s1 => rw [he] at h; exact h
  | ok x s1 =>
    rw [he] at h
    intro w1 H1 v L1 S1 R1
    match x, R1, h with
    | .val (.int j), R1, h =>
      cases R1
      have h : WantI G X σV w H z (if bnd j && decide (j ≤ lim) then .ok (.val (.lst (rangeT 0 j))) s1 else .stuck) R := h
      split at h
      · rename_i hb
        rw [Bool.and_eq_true, decide_eq_true_iff] at hb
        refine ⟨j, rfl, (bnd_of hb.1).1, (bnd_of hb.1).2, ?_⟩
        refine h w1 H1 (.r 0 j.toNat) L1 S1 ⟨?_, ?_⟩
        · unfold rangeT; simp
        · have := lim_le; omega
      · exact h.elim
    | .val .non, _, h => exact h.elim
    | .val (.bl _), _, h => exact h.elim
    | .val (.str _), _, h => exact h.elim
    | .val (.tup _), _, h => exact h.elim
    | .val (.lst _), _, h => exact h.elim
    | .val (.loc _), _, h => exact h.elim
    | .val (.exc _), _, h => exact h.elim
    | .bor _, _, h => exact h.elim
def slots : Tg → List Nat
  | .one i => [i]
  | .many is => is
def gTg (G : Gx) (g : Tg) : TG := fun v σV H Q => ∃ w s t σ σ', StoOk G w H s ∧ Rep G w H t v ∧ bindTg σ g t = some σ' ∧ ∀ vs, (∀ H₀ σV', FrOk G w H H₀ σ σV' → FrOk G w H H₀ σ' (setsV σV' (slots g) vs)) → vs.length = (slots g).length → Q (setsV σV (slots g) vs) H
theorem PG.imp {tg : Expr} {t t' : TG} (h : PG X tg t) (q : ∀ v σ H Q, t' v σ H Q → t v σ H Q) : PG X tg t' := fun pins s σ H v u Q I r z => h pins s σ H v u Q I r (q _ _ _ _ z)
theorem sG_one {i : Nat} {x : Str} {pos : Pos} (hN : X.N.Nodup) (hi : X.N[i]? = some x) (hx : Loc X.env.scope x) (hf : X.fn x = true ∨ X.env.scope.names.lookup x = some .local) : PG X (.Name x pos) (gTg G (.one i)) := by
  refine PG.imp (pg_name hN hi hx hf) ?_
  rintro v σV H Q ⟨w, s, t, σ, σ', S, r, e, q⟩
  cases e
  exact q [v] (fun H₀ σV' F => F.put r) rfl
theorem PGs.imp {ts : List Expr} {t t' : TGs} (h : PGs X ts t) (q : ∀ v σ H Q, t' v σ H Q → t v σ H Q) : PGs X ts t' := fun pins s σ H v u Q I r z => h pins s σ H v u Q I r (q _ _ _ _ z)
end
end IP
end
section
set_option Elab.async false
set_option linter.all false
set_option maxRecDepth 100000
namespace IP
open PySem PySem.Spec L2
section
variable {G : Gx} {X : Cx} {C : Cf}
def RepO (G : Gx) (w : Wo) (H : Hp) : Option T → Option V → Prop
  | some t, some v => Rep G w H t v
  | none, none => True
  | _, _ => False
def Turned (G : Gx) (X : Cx) (ifs : List Expr) (elt : Expr) (f : Fr → Sto → Res (Option T)) : Prop :=
  ∀ (pins : List (Addr × Obj)) (s : Shared) (σV : St) (H : Hp) (w₀ : Wo) (H₀ : Hp) (w : Wo) (σ : Fr) (st st1 : Sto) (o : Option T) (Q : Option V → Hp → Prop) (E : Value → Shared → Prop), Inv X pins σV H s → Good G w₀ H₀ w H σ st σV → f σ st = .ok o st1 →
    (∀ w1 H1 vo, Le w w1 H H1 → StoOk G w1 H1 st1 → RepO G w1 H1 o vo → Q vo H1) →
    wpAny (model X.prog X.w) X.A (forIn ifs true fun c r => if r = true then do let ok ← isTrue c X.env (eval c X.env); pure (ForInStep.yield ok) else pure (ForInStep.yield r))
      (fun ok s3 => if ok = true then wpAny (model X.prog X.w) X.A (eval elt X.env) (fun u s4 => ∃ v H4, Inv X pins σV H4 s4 ∧ RelV v u ∧ Q (some v) H4) E s3 else ∃ H3, Inv X pins σV H3 s3 ∧ Q none H3) E s
theorem zado {f : T → Sto → Res (Option T)} {t : T} {ts q : List T} {s s' : Sto} (h : mapRes f (t :: ts) s = .ok q s') : ∃ o s1 r, f t s = .ok o s1 ∧ mapRes f ts s1 = .ok r s' ∧ q = consO o r := by
  unfold mapRes at h
  cases hf : f t s with
  | stuck => rw [hf] at h; cases h
  | exc c s1 => rw [hf] at h; cases h
  | ok o s1 =>
    rw [hf] at h
    have h : ((mapRes f ts s1).bind fun q s2 => Res.ok (consO o q) s2) = .ok q s' := h
    cases hm : mapRes f ts s1 with
    | stuck => rw [hm] at h; cases h
    | exc c s2 => rw [hm] at h; cases h
    | ok r s2 =>
      rw [hm] at h
      cases h
      exact ⟨o, s1, r, rfl, hm, rfl⟩
theorem zabl {f : T → Sto → Res (Option T)} (hf : ∀ t s c s', f t s ≠ .exc c s') : ∀ (ts : List T) (s : Sto) (c : Nat) (s' : Sto), mapRes f ts s ≠ .exc c s'
  | [], s, c, s', h => by cases h
  | t :: ts, s, c, s', h => by
    unfold mapRes at h
    cases hq : f t s with
    | stuck => rw [hq] at h; cases h
    | exc d s1 => exact hf _ _ _ _ hq
    | ok o s1 =>
      rw [hq] at h
      have h : ((mapRes f ts s1).bind fun q s2 => Res.ok (consO o q) s2) = .exc c s' := h
      cases hm : mapRes f ts s1 with
      | stuck => rw [hm] at h; cases h
      | exc d s2 => exact zabl hf ts s1 d s2 hm
      | ok r s2 => rw [hm] at h; cases h
theorem onO_noexc {α β : Type} {o : Option α} {f : α → Res β} {c : Nat} {s : Sto} (h : onO o f = .exc c s) : ∃ a, o = some a ∧ f a = .exc c s := by
  cases o with
  | none => cases h
  | some a => exact ⟨a, rfl, h⟩
theorem onO_ok {α β : Type} {o : Option α} {f : α → Res β} {b : β} {s : Sto} (h : onO o f = .ok b s) : ∃ a, o = some a ∧ f a = .ok b s := by
  cases o with
  | none => cases h
  | some a => exact ⟨a, rfl, h⟩
variable {elt iter tg : Expr} {ifs : List Expr} {scope : Scope} {pos : Pos} {it' ce : E} {g : Tg} {N' : List Str} {f : Fr → Sto → Res (Option T)}
theorem appended {pins : List (Addr × Obj)} {σ : St} {H : Hp} {s : Shared} {D : Addr} {xs : List V} {v : V} {u : Value} {Y : Cx} {E : Value → Shared → Prop} {Q : Shared → Prop} (I : Inv Y pins σ H s) (r : RelV v u) (hD : H D = some (.lst xs)) (hl : xs.length < sizeLine)
    (q : ∀ s', Inv Y pins σ (upd H D (.lst (xs ++ [v]))) s' → Q s') : wpAny (model Y.prog Y.w) Y.A (call (.builtin "list.append") [.ref D, u]) (fun _ s' => Q s') E s := by
  have z := zadl (X := Y.wish E) pins s σ H (.ref D) [v] (.ref D) [u] (fun _ H' => H' = upd H D (.lst (xs ++ [v]))) (I.wish E) rfl (.cons r .nil) ⟨D, xs, v, rfl, rfl, hD, hl, rfl⟩
  refine thn z fun u' s' ⟨_, H', I', _, e⟩ => ?_
  subst e
  exact q s' I'.unwish
theorem zadf : ∀ {js : List Nat} {vs : List V} {σV : St} {i : Nat}, i ∉ js → (setsV σV js vs)[i]? = σV[i]?
  | [], vs, σV, i, _ => by cases vs <;> rfl
  | j :: js, [], σV, i, _ => rfl
  | j :: js, v :: vs, σV, i, h => by
    show (setsV (σV.set j (some v)) js vs)[i]? = _
    rw [zadf fun q => h (List.mem_cons_of_mem _ q), List.getElem?_set_ne fun q => h (by simp [q])]
def SrcGives (G : Gx) (X : Cx) (g : Tg) (f : Fr → Sto → Res (Option T)) (σ : Fr) (w : Wo) (H : Hp) (Q : VK) (J : It) (H2 : Hp) : Prop :=
  ∃ (w2 : Wo) (src : Src) (ts : List T) (st2 st' : Sto) (q : List T) (K : Sto → Prop) (kp : Res (Option T) → Res (Option T)), Le w w2 H H2 ∧ StoOk G w2 H2 st2 ∧ J = itOf X.K src ∧ (∀ w' H' s', Le w2 w' H2 H' → StoOk G w' H' s' → K s' → SrcNow G w' H' src ts) ∧ K st2 ∧ (∀ r o s', kp r = .ok o s' → r = .ok o s' ∧ K s') ∧
    mapRes (fun t s => onO (bindTg σ g t) fun σ' => kp (f σ' s)) ts st2 = .ok q st' ∧ ∀ w' H' a vs, Le w w' H H' → StoOk G w' H' st' → H' a = some (.lst vs) → Reps G w' H' q vs → H a = none → ¬ w'.Z a → notLoc w' a → Q (.ref a) H'
theorem zad7 (hc : X.calm = true) (hN : CompN X scope N' (slots g)) (hnd : (slots g).Nodup) {tx : TI} (hI : PI X tg iter tx)
    (hG : ∀ A fp s2 H2, PG (cxC X N' scope A fp s2 H2) tg (gTg G g)) (hE : ∀ A fp s2 H2, Turned G (cxC X N' scope A fp s2 H2) ifs elt f) (hs : ∀ x, foldedSetIterable iter X.env x = pure x)
    {pins : List (Addr × Obj)} {s : Shared} {σV : St} {H : Hp} {w₀ w : Wo} {H₀ : Hp} {σ : Fr} {st : Sto} {Q : VK} (I : Inv X pins σV H s) (gd : Good G w₀ H₀ w H σ st σV)
    (hsrc : tx σV H (SrcGives G X g f σ w H Q))
    {use : Option (Value → Sem Unit)} {Q' : Value → Shared → Prop}
    (hfin : ∀ (s' : Shared) (Hc : Hp) (A D : Addr), Inv X pins σV Hc s' → FpOk X pins Hc A → (∃ m, s'.heap.Ns A m) → Q (.ref D) Hc → compPost (model X.prog X.w) X.A X.xe use Q' (.ref D) A (.ok .next) s') :
    wpAny (model X.prog X.w) X.A (comprehension (.ListComp elt [⟨tg, iter, ifs, 0⟩] scope pos) scope X.env (firstIterPos [⟨tg, iter, ifs, 0⟩] pos) (newList []) false (eval iter X.env) use) Q' X.xe s := by
  have hfree : ∀ x ∈ scope.names, x.2 = .free → ∃ c, X.env.cells.lookup x.1 = some c := fun x hx hf => I.ok.has x.1 (hN.free x hx hf)
  refine wpAny_comprehension_free (use := use) rfl hs (zad9 scope X.env hfree) hN.kind hN.locs (thn (hI pins s σV H _ I hsrc) fun xv s1 h1 => thn h1 fun itv s2 h2 => ?_)
  obtain ⟨it, fp, tn, J, H2, rfl, I2, T, st2, f2, w2, src, ts, stc, st', q, KK, kp, L2, S2, rfl, now, hK, hkp, hm, hq⟩ := h2
  have ho2 : ∀ b ∈ fp, ∃ o, s2.heap.get? b = some o := fun b hb => let ⟨o, e, _⟩ := T.obj _ _ st2 b hb; ⟨o, e⟩
  refine wpAny_newObj_type (wpAny_newFunctionEnv hN.nocell (by intro y hy; simp at hy) (fun h₁ hns₁ hsb₁ => ?_) hN.kind)
  have hns₁ : h₁.Ns (s2.heap.push { cls := .type "list", data := .seq ([] : List Value).toArray }).objs.size (fun _ => none) := hns₁
  have hfD : H2 s2.heap.objs.size = none := I2.hok.fresh (Nat.le_refl _)
  generalize hD : s2.heap.objs.size = D at hfD
  have I3 : Inv X pins σV (upd H2 D (.lst [])) { s2 with heap := s2.heap.push { cls := .type "list", data := .seq ([] : List Value).toArray } } := by
    rw [← hD]
    exact I2.lnew (its := []) (t' := s2.toks) .nil (Nat.zero_le _)
  generalize hs3 : ({ s2 with heap := s2.heap.push { cls := .type "list", data := .seq ([] : List Value).toArray } } : Shared) = s3 at I3
  have k3 : ∀ b o, s2.heap.get? b = some o → s3.heap.get? b = some o := fun b o e => by rw [← hs3]; exact Heap.get?_push_of_some _ e
  have fpD : ∀ b ∈ fp, b ≠ D := fun b hb => by
    obtain ⟨o, e⟩ := ho2 b hb
    rw [← hD]
    exact Nat.ne_of_lt (Heap.lt_size e)
  have f3 : ∀ b ∈ fp, FpOk X pins (upd H2 D (.lst [])) b := fun b hb => ⟨by rw [upd_ne (fpD b hb)]; exact (f2 b hb).1, (f2 b hb).2⟩
  have ho3 : ∀ b ∈ fp, ∃ o, s3.heap.get? b = some o := fun b hb => let ⟨o, e⟩ := ho2 b hb; ⟨o, k3 b o e⟩
  have e3 : (s2.heap.push { cls := .type "list", data := .seq ([] : List Value).toArray }) = s3.heap := by rw [← hs3]
  rw [e3] at hns₁ hsb₁
  have k4 : ∀ b o, s3.heap.get? b = some o → h₁.get? b = some o := fun b o e => hsb₁.extBut b o (Nat.ne_of_lt (Heap.lt_size e)) (Heap.get?_push_of_some _ e)
  have I4 : Inv (cxC X N' scope s3.heap.objs.size fp s3 (upd H2 D (.lst []))) [] (clr σV (slots g)) (upd H2 D (.lst [])) { s3 with heap := h₁, toks := s3.toks + ([] : List (Str × Value)).length } := cxC_inv hN I3 f3 ho3 hns₁ k4
  have tn4 : tn 0 h₁ := T.keep _ _ _ st2 fun b hb o e => k4 b o (k3 b o e)
  generalize hA : s3.heap.objs.size = A at I4 hns₁ hsb₁
  have hAD : D ≠ A := by
    rw [← hA, ← hs3]
    show D ≠ (s2.heap.push _).objs.size
    rw [Heap.size_push, hD]
    exact Nat.ne_of_lt (Nat.lt_succ_self _)
  generalize hY : cxC X N' scope A fp s3 (upd H2 D (.lst [])) = Y at I4
  have eP : Y.prog = X.prog := by rw [← hY]; rfl
  have eW : Y.w = X.w := by rw [← hY]; rfl
  have eK : Y.K = X.K := by rw [← hY]; rfl
  have eA : Y.A = X.A := by rw [← hY]; rfl
  have eC : Y.calm = true := by rw [← hY]; exact hc
  have eL : Y.env.locals = A := by rw [← hY]; rfl
  have eN : Y.env = compEnvC scope (clo X.env.cells scope.names []) A X.env := by rw [← hY]; rfl
  have stat : ∀ {H' : Hp}, (∀ b ∈ fp, H' b = none) → ∀ b ∈ fp, FpOk Y [] H' b := fun {H'} hn b hb => by
    obtain ⟨f0, f1, fx, fy, fz, fw⟩ := f2 b hb
    subst hY
    refine ⟨hn b hb, ?_, ?_, .inl hb, fun x c e => fz x c (zadx X.env.cells scope.names [] (fun x c z => by simp at z) x c e), fun p hp => absurd (show p ∈ ([] : List (Addr × Obj)) from hp) (by simp)⟩
    · show b ≠ A
      obtain ⟨o, e⟩ := ho3 b hb
      rw [← hA]
      exact Nat.ne_of_lt (Heap.lt_size e)
    · intro hm
      rcases List.mem_cons.mp (I2.stkSub b hm) with z | z
      · exact f1 z
      · exact fx z
  have hGY : PG Y tg (gTg G g) := by rw [← hY]; exact hG A fp s3 _
  have hEY : Turned G Y ifs elt f := by rw [← hY]; exact hE A fp s3 _
  have last : ∀ (s' : Shared) (Hc : Hp) (wc : Wo) (accV : List V), Inv Y [] (clr σV (slots g)) Hc s' → Le w2 wc H2 Hc → StoOk G wc Hc st' → Hc D = some (.lst accV) → Reps G wc Hc q accV → ¬ wc.Z D → notLoc wc D →
      compPost (model X.prog X.w) X.A X.xe use Q' (.ref D) A (.ok .next) s' := by
    intro s' Hc wc accV Ic Lc Sc hDc rc nzc nl
    obtain ⟨m, hm', _⟩ := Ic.loc
    rw [eL] at hm'
    have un : Un (frs X.stack) fp (upd H2 D (.lst [])) Hc s3.heap s'.heap := by
      have := Ic.base
      subst hY
      exact this
    have hcA : Hc A = none := by have := Ic.free; rw [eL] at this; exact this
    have hok : HOk X.prog X.w Hc s'.heap := by rw [← eP, ← eW]; exact Ic.hok
    have I5 : Inv X pins σV Hc s' := by
      have os : s'.os = s3.os := by have := Ic.os; subst hY; exact this
      exact I3.call' (s' := s') (ch := fp) os un hok Ic.bare fun b hb => ⟨(f2 b hb).2.2.2.1, (f2 b hb).2.1, (f2 b hb).2.2.2.2.1, (f2 b hb).2.2.2.2.2⟩
    have fA : FpOk X pins Hc A := by rw [← hA]; exact I3.fpOk (Nat.le_refl _) (by rw [hA]; exact hcA)
    have hHD : H D = none := by
      cases e : H D with
      | none => rfl
      | some o => exact absurd hfD (L2.some_ D (by rw [e]; intro z; cases z))
    exact hfin s' Hc A D I5 fA ⟨m, hm'⟩ (hq wc Hc D accV (L2.trans Lc) Sc hDc rc hHD nzc nl)
  have loop : ∀ s4 : Shared, s4 = { s3 with heap := h₁, toks := s3.toks + ([] : List (Str × Value)).length } →
      codeAny (model X.prog X.w) X.A (.compLoop (.ListComp elt [⟨tg, iter, ifs, 0⟩] scope pos) 0 (.ref it) (.ref D) Y.env) (compPost (model X.prog X.w) X.A X.xe use Q' (.ref D) A) s4 := by
    rintro s4 rfl
    refine codeAny_loop rfl (fun n s' => ∃ (i : Nat) (Hc : Hp) (wc : Wo) (stc' : Sto) (accT : List IP.T) (accV : List V) (rest : List IP.T), n = ts.length - i ∧ i ≤ ts.length ∧ Inv Y [] (clr σV (slots g)) Hc s' ∧ tn i s'.heap ∧ (∀ b ∈ fp, Hc b = none) ∧
        Le w2 wc H2 Hc ∧ StoOk G wc Hc stc' ∧ Hc D = some (.lst accV) ∧ Reps G wc Hc accT accV ∧ ¬ wc.Z D ∧ notLoc wc D ∧ accT.length ≤ i ∧
        KK stc' ∧ mapRes (fun t s => onO (bindTg σ g t) fun σ' => kp (f σ' s)) (ts.drop i) stc' = .ok rest st' ∧ q = accT ++ rest) ?_ ts.length
      ⟨0, upd H2 D (.lst []), w2, stc, [], [], q, rfl, Nat.zero_le _, I4, tn4, fun b hb => by rw [upd_ne (fpD b hb)]; exact (f2 b hb).1, Le.new hfD _, S2.new hfD _, zaae, rfl, (S2.fresh hfD).1, (S2.fresh hfD).2, Nat.le_refl _, hK, hm, rfl⟩
    rintro n s' ⟨i, Hc, wc, stc', accT, accV, rest, hn, hi, Ic, tc, fc, Lc, Sc, hDc, rc, nz, nl, hal, hKc, hmr, hqr⟩
    have SOc : SrcNow G wc Hc src ts := now wc Hc stc' Lc Sc hKc
    show wpAny _ X.A ((compTurn (.ListComp elt [⟨tg, iter, ifs, 0⟩] scope pos) 0 (.ref it) (.ref D) Y.env).onRaise (fun x => do noteFrame x Y.env; theTreesLotGoes x)) _ _ s'
    refine wpAny_noted ?_
    rw [compTurn_list]
    refine wpAny_bind (wpAny_standAt (wpAny_bind ?_))
    by_cases hlt : i < ts.length
    · have et : ts[i]? = some ts[i] := List.getElem?_eq_getElem hlt
      have ed : ts.drop i = ts[i] :: ts.drop (i + 1) := List.drop_eq_getElem_cons hlt
      rw [ed] at hmr
      obtain ⟨o, st1, r1, hf1, hm1, er⟩ := zado hmr
      obtain ⟨σ', hb, hf2⟩ := onO_ok hf1
      obtain ⟨hf2, hK1⟩ := hkp _ _ _ hf2
      obtain ⟨go, yld⟩ := SOc.go (K := X.K) et
      have z := T.item Y eP eW eK eC i [] s' (clr σV (slots g)) Hc (notedBy (model X.prog X.w) X.A Y.env fun e s' => compPost (model X.prog X.w) X.A X.xe use Q' (.ref D) A (.error e) s') Ic (stat fc) tc go
      rw [eA] at z
      refine thn z fun r s5 ⟨u, hr, h5⟩ => ?_
      subst hr
      refine wpAny_bind (thn h5 fun _ s6 ⟨x, H6, I6, r6, y6, t6, f6⟩ => ?_)
      have rx := (yld x H6 y6).2
      obtain rfl : Hc = H6 := (yld x H6 y6).1.symm
      have I6' := I6.pinned (stat f6) (T.obj _ _ t6)
      have hgd : Good G w₀ H₀ wc Hc σ stc' σV := (gd.step L2 S2).step Lc Sc
      have zg := hGY _ s6 (clr σV (slots g)) Hc x u (fun σ7 H7 => H7 = Hc ∧ ∃ vs, σ7 = setsV σV (slots g) vs ∧ FrOk G wc Hc H₀ σ' (setsV σV (slots g) vs)) I6' r6
        ⟨wc, stc', ts[i], σ, σ', Sc, rx, hb, fun vs hfr hl => ⟨rfl, vs, zac6 hnd hl.symm, hfr H₀ σV hgd.fr⟩⟩
      rw [eP, eW, eA] at zg
      have zg' := wpAny_noRaise (E := notedBy (model X.prog X.w) X.A Y.env fun e s' => compPost (model X.prog X.w) X.A X.xe use Q' (.ref D) A (.error e) s') (by
        have e0 : Y.xe = fun _ _ => False := by rw [← hY]; rfl
        rw [e0] at zg
        exact zg)
      refine wpAny_bind (thn zg' fun _ s7 ⟨σ7, H7, I7, eH7, vs, e7, F7⟩ => ?_)
      obtain rfl : Hc = H7 := eH7.symm
      subst e7
      have zt := hEY _ s7 _ Hc w₀ H₀ wc σ' stc' st1 o (fun vo H8 => ∃ w8, Le wc w8 Hc H8 ∧ StoOk G w8 H8 st1 ∧ RepO G w8 H8 o vo) (notedBy (model X.prog X.w) X.A Y.env fun e s' => compPost (model X.prog X.w) X.A X.xe use Q' (.ref D) A (.error e) s')
        I7 ⟨Sc, F7, hgd.ent⟩ hf2 fun w8 H8 vo L8 S8 R8 => ⟨w8, L8, S8, R8⟩
      rw [eP, eW, eA] at zt
      have next : ∀ (s8 : Shared) (H8 : Hp) (w8 : Wo) (accT' : List IP.T) (accV' : List V), Inv Y ([] ++ pinsAt fp s6.heap) (setsV σV (slots g) vs) H8 s8 → Le w2 w8 H2 H8 → StoOk G w8 H8 st1 → H8 D = some (.lst accV') → Reps G w8 H8 accT' accV' → ¬ w8.Z D → notLoc w8 D → accT'.length ≤ i + 1 → q = accT' ++ r1 →
          ∃ m, m < n ∧ ∃ (i : Nat) (Hc : Hp) (wc : Wo) (stc' : Sto) (accT : List IP.T) (accV : List V) (rest : List IP.T), m = ts.length - i ∧ i ≤ ts.length ∧ Inv Y [] (clr σV (slots g)) Hc s8 ∧ tn i s8.heap ∧ (∀ b ∈ fp, Hc b = none) ∧
            Le w2 wc H2 Hc ∧ StoOk G wc Hc stc' ∧ Hc D = some (.lst accV) ∧ Reps G wc Hc accT accV ∧ ¬ wc.Z D ∧ notLoc wc D ∧ accT.length ≤ i ∧
            KK stc' ∧ mapRes (fun t s => onO (bindTg σ g t) fun σ' => kp (f σ' s)) (ts.drop i) stc' = .ok rest st' ∧ q = accT ++ rest := by
        intro s8 H8 w8 accT' accV' I8 L8 S8 hD8 r8 nz8 nl8 hl8 hq8
        have hpin : ∀ b ∈ fp, ∀ o, s6.heap.get? b = some o → s8.heap.get? b = some o ∧ H8 b = none := fun b hb o e => by
          have := I8.pin (b, o) (List.mem_append_right _ (List.mem_append_right _ (zabh hb e)))
          exact ⟨this.1, this.2.1⟩
        refine ⟨ts.length - (i + 1), by omega, i + 1, H8, w8, st1, accT', accV', r1, rfl, hlt, ?_, T.keep _ _ _ t6 fun b hb o e => (hpin b hb o e).1, fun b hb => ?_, L8, S8, hD8, r8, nz8, nl8, hl8, hK1, hm1, hq8⟩
        · refine Inv.unpinned (pins := []) (pl := pinsAt fp s6.heap) (I8.weak ?_ fun j v e => ?_)
          · rw [clr_len, zac7]
          · obtain ⟨e1, e2⟩ := clr_get _ _ _ _ e
            rw [zadf e2]
            exact e1
        · obtain ⟨o, e, _⟩ := T.obj _ _ t6 b hb
          exact (hpin b hb o e).2
      refine wpAny_bind (thn zt fun ok s8 h8 => ?_)
      have nzD : ∀ {w8 : Wo} {H8 : Hp}, Le wc w8 Hc H8 → ¬ w8.Z D := fun L8 z => by
        rcases L8.newZ D z with z | z
        · exact nz z
        · rw [hDc] at z; cases z
      have nlD : ∀ {w8 : Wo} {H8 : Hp}, Le wc w8 Hc H8 → notLoc w8 D := fun L8 => notLoc.mono L8 (by rw [hDc]; intro z; cases z) nl
      cases ok with
      | false =>
        simp only [Bool.false_eq_true, if_false] at h8 ⊢
        obtain ⟨H8, I8, w8, L8, S8, R8⟩ := h8
        have eo : o = none := by cases o with | none => rfl | some t => exact R8.elim
        subst eo
        subst er
        exact wpAny_pure ⟨rfl, next s8 H8 w8 accT accV I8 (Lc.trans L8) S8 (L8.keep D _ hDc nl) (Reps.mono L8 Sc _ _ rc) (nzD L8) (nlD L8) (by omega) hqr⟩
      | true =>
        simp only [if_true] at h8 ⊢
        refine wpAny_bind (wpAny_bind (thn h8 fun u9 s9 ⟨v9, H9, I9, r9, w9, L9, S9, R9⟩ => ?_))
        have eo : ∃ t9, o = some t9 := by cases o with | none => exact R9.elim | some t => exact ⟨t, rfl⟩
        obtain ⟨t9, rfl⟩ := eo
        have R9 : Rep G w9 H9 t9 v9 := R9
        subst er
        have hD9 := L9.keep D _ hDc nl
        have hlen : accV.length < sizeLine := by
          rw [← rc.length]
          have := SOc.small Ic
          omega
        have za := appended (E := notedBy (model X.prog X.w) X.A Y.env fun e s' => compPost (model X.prog X.w) X.A X.xe use Q' (.ref D) A (.error e) s') I9 r9 hD9 hlen fun s10 I10 =>
          next s10 _ w9 (accT ++ [t9]) (accV ++ [v9]) I10 ((Lc.trans L9).updNew hfD (by rw [hD9]; intro z; cases z)) (S9.upd hD9 (nzD L9) (nlD L9)) zaae
            (Reps.upd hD9 (nzD L9) _ _ ((Reps.mono L9 Sc _ _ rc).append ⟨v9, [], rfl, R9, rfl⟩)) (nzD L9) (nlD L9) (by rw [List.length_append, List.length_singleton]; omega) (by rw [List.append_assoc]; exact hqr)
        rw [eP, eW, eA] at za
        exact wpAny_bind (thn za fun _ s10 h10 => wpAny_pure (wpAny_pure ⟨rfl, h10⟩))
    · have ei : i = ts.length := by omega
      subst ei
      rw [List.drop_length] at hmr
      cases hmr
      rw [List.append_nil] at hqr
      subst hqr
      have z := T.done Y eP eW eK eC ts.length [] s' (clr σV (slots g)) Hc (notedBy (model X.prog X.w) X.A Y.env fun e s' => compPost (model X.prog X.w) X.A X.xe use Q' (.ref D) A (.error e) s') Ic (stat fc) tc SOc.stop
      rw [eA] at z
      refine thn z fun r s5 ⟨hr, I5⟩ => ?_
      subst hr
      exact wpAny_pure (last s5 Hc wc accV I5 Lc Sc hDc rc nz nl)
  show codeAny (model X.prog X.w) X.A (.compStart (.ListComp elt [⟨tg, iter, ifs, 0⟩] scope pos) 0 (.ref it) (.ref D) (compEnvC scope (clo X.env.cells scope.names []) A X.env)) (compPost (model X.prog X.w) X.A X.xe use Q' (.ref D) A) _
  rw [← eN]
  exact codeAny_compStart_list (loop _ rfl) (T.self _ 0 _ _ _ tn4 (loop _ rfl))
theorem comp_core (hc : X.calm = true) (hN : CompN X scope N' (slots g)) (hnd : (slots g).Nodup) (hI : PI X tg iter (tI G X C it' .i false))
    (hG : ∀ A fp s2 H2, PG (cxC X N' scope A fp s2 H2) tg (gTg G g)) (hE : ∀ A fp s2 H2, Turned G (cxC X N' scope A fp s2 H2) ifs elt f) (hs : ∀ x, foldedSetIterable iter X.env x = pure x)
    (hne : ∀ σ s c s', f σ s ≠ .exc c s')
    {pins : List (Addr × Obj)} {s : Shared} {σV : St} {H : Hp} {w₀ w : Wo} {H₀ : Hp} {σ : Fr} {st : Sto} {Q : VK} (I : Inv X pins σV H s) (gd : Good G w₀ H₀ w H σ st σV)
    (h : WantO G X σV w H ((ev C it' .i σ st).bind fun x s1 => onL x fun ts => (mapRes (fun t s => onO (bindTg σ g t) fun σ' => f σ' s) ts s1).bind fun q s2 => .ok (.val (.lst q)) s2) Q)
    {use : Option (Value → Sem Unit)} {Q' : Value → Shared → Prop}
    (hfin : ∀ (s' : Shared) (Hc : Hp) (A D : Addr), Inv X pins σV Hc s' → FpOk X pins Hc A → (∃ m, s'.heap.Ns A m) → Q (.ref D) Hc → compPost (model X.prog X.w) X.A X.xe use Q' (.ref D) A (.ok .next) s') :
    wpAny (model X.prog X.w) X.A (comprehension (.ListComp elt [⟨tg, iter, ifs, 0⟩] scope pos) scope X.env (firstIterPos [⟨tg, iter, ifs, 0⟩] pos) (newList []) false (eval iter X.env) use) Q' X.xe s := by
  refine zad7 hc hN hnd hI hG hE hs I gd ?_ hfin
  refine ⟨w₀, H₀, w, σ, st, gd, ?_⟩
  cases he : ev C it' .i σ st with
  | stuck => rw [he] at h; exact h
  | exc c s1 => rw [he] at h; exact h
  | ok x s1 =>
    rw [he] at h
    match x, h with
    | .val (.lst ts), h =>
      intro w2 H2 src L S SO
      have h : WantO G X σV w H ((mapRes (fun t s => onO (bindTg σ g t) fun σ' => f σ' s) ts s1).bind fun q s2 => .ok (.val (.lst q)) s2) Q := h
      cases hm : mapRes (fun t s => onO (bindTg σ g t) fun σ' => f σ' s) ts s1 with
      | stuck => rw [hm] at h; exact h.elim
      | exc c s2 =>
        refine absurd hm (zabl (fun t s c s' z => ?_) ts s1 c s2)
        obtain ⟨σ', _, z⟩ := onO_noexc z
        exact hne _ _ _ _ z
      | ok q st' =>
        rw [hm] at h
        exact ⟨w2, src, ts, s1, st', q, fun _ => True, id, L, S, rfl, fun w' H' s' L' _ _ => (SO.mono L' S).now, trivial, fun r o s' e => ⟨e, trivial⟩, hm, h⟩
    | .val .non, h => exact h.elim
    | .val (.bl _), h => exact h.elim
    | .val (.int _), h => exact h.elim
    | .val (.str _), h => exact h.elim
    | .val (.tup _), h => exact h.elim
    | .val (.loc _), h => exact h.elim
    | .val (.exc _), h => exact h.elim
    | .bor _, h => exact h.elim
theorem gone {pins : List (Addr × Obj)} {s : Shared} {σV : St} {H : Hp} {A : Addr} {h' : Heap} (I : Inv X pins σV H s) (fA : FpOk X pins H A) (sb : Heap.SameBut A s.heap h') : Inv X pins σV H { s with heap := h' } :=
  I.turned (t' := s.toks) (fun b o ne e => (sb.2 b ne).trans e) fA.1 fA.2.1 fA.2.2.2.1 fA.2.2.2.2.1 fA.2.2.2.2.2
theorem zaa5 (hc : X.calm = true) (hN : CompN X scope N' (slots g)) (hnd : (slots g).Nodup) (hI : PI X tg iter (tI G X C it' .i false))
    (hG : ∀ A fp s2 H2, PG (cxC X N' scope A fp s2 H2) tg (gTg G g)) (hE : ∀ A fp s2 H2, Turned G (cxC X N' scope A fp s2 H2) ifs elt f) (hs : ∀ x, foldedSetIterable iter X.env x = pure x) (hne : ∀ σ s c s', f σ s ≠ .exc c s')
    (hev : ∀ σ s, ev C ce .v σ s = (ev C it' .i σ s).bind fun x s1 => onL x fun ts => (mapRes (fun t s => onO (bindTg σ g t) fun σ' => f σ' s) ts s1).bind fun q s2 => .ok (.val (.lst q)) s2) :
    PE X (.ListComp elt [⟨tg, iter, ifs, 0⟩] scope pos) (tO G X C ce) := by
  rintro pins s σV H Q I ⟨w₀, H₀, w, σ, st, gd, h⟩
  rw [hev] at h
  rw [eval_ListComp]
  refine comp_core hc hN hnd hI hG hE hs hne I gd h (use := none) fun s' Hc A D I' fA ⟨m, hm⟩ q => ?_
  exact ⟨m, hm, fun h' sb => ⟨.ref D, Hc, gone I' fA sb, rfl, q⟩⟩
theorem zabt {Y : Cx} {elt : Expr} {e' : E} (hE : PE Y elt (tV G Y C e')) (hx : Y.xe = fun _ _ => False) : Turned G Y [] elt (fun σ st => one (ev C e' .v σ st)) := by
  intro pins s σV H w₀ H₀ w σ st st1 o Q E I gd hf hq
  refine wpAny_tests_nil ?_
  rw [if_pos rfl]
  dsimp only at hf
  cases he : ev C e' .v σ st with
  | stuck => rw [he] at hf; cases hf
  | exc c s1 => rw [he] at hf; cases hf
  | ok r s1 =>
    rw [he] at hf
    match r, hf, he with
    | .val t, hf, he =>
      cases hf
      have z := hE pins s σV H (fun v H' => Q (some v) H') I ⟨w₀, H₀, w, σ, st, gd, by rw [he]; exact fun w' H' v L S R => hq w' H' (some v) L S R⟩
      rw [hx] at z
      exact wpAny_noRaise z
    | .bor ts, hf, he => cases hf
theorem zaas (m : Res R) (c : Nat) (s : Sto) : one m ≠ .exc c s := by
  intro h
  cases m with
  | stuck => cases h
  | exc d s1 => cases h
  | ok r s1 => cases r <;> cases h
end
end IP
end
section
set_option Elab.async false
set_option linter.all false
set_option maxRecDepth 100000
namespace IP
open PySem PySem.Spec L2
def Own (σ : Fr) (σV : St) (a : Addr) : Prop := ∃ (i : Nat) (ts : List T), σ[i]? = some (some (.own ts)) ∧ σV[i]? = some (some (.ref a))
structure LeS (w w' : Wo) (H H' : Hp) (σ σ' : Fr) (σV σV' : St) : Prop where
  n : w.n ≤ w'.n
  io : ∀ l, l < w.n → w'.io l = w.io l
  Z : ∀ a, w.Z a → w'.Z a
  keep : ∀ a o, H a = some o → notLoc w a → ¬ Own σ σV a → H' a = some o
  newL : ∀ l, w.n ≤ l → l < w'.n → H (w'.io l) = none
  some_ : ∀ a, H a ≠ none → H' a ≠ none
  own : ∀ a, Own σ' σV' a → Own σ σV a ∨ H a = none
  lk : ∀ (i : Nat) (ts : List T), σ'[i]? = some (some (.lck ts)) → (∃ us, σ[i]? = some (some (.lck us))) ∧ σV'[i]? = σV[i]?
section
variable {G : Gx} {X : Cx} {C : Cf} {w w' w₀ : Wo} {H H' H₀ : Hp} {σ σ' : Fr} {σV σV' : St}
theorem LeS.refl : LeS w w H H σ σ σV σV := ⟨Nat.le_refl _, fun _ _ => rfl, fun _ z => z, fun _ _ e _ _ => e, fun l a b => absurd (Nat.lt_of_lt_of_le b a) (Nat.lt_irrefl _), fun _ z => z, fun _ z => .inl z, fun i ts e => ⟨⟨ts, e⟩, rfl⟩⟩
theorem LeS.notLoc (L : LeS w w' H H' σ σ' σV σV') {a : Addr} (h : H a ≠ none) (nl : IP.notLoc w a) : IP.notLoc w' a := fun l hl q => by
  by_cases k : l < w.n
  · exact nl l k (q.trans (L.io l k))
  · have := L.newL l (Nat.le_of_not_lt k) hl
    rw [← q] at this
    exact h this
theorem LeS.trans {w2 : Wo} {H2 : Hp} {σ2 : Fr} {σV2 : St} (a : LeS w w' H H' σ σ' σV σV') (b : LeS w' w2 H' H2 σ' σ2 σV' σV2) : LeS w w2 H H2 σ σ2 σV σV2 where
  n := Nat.le_trans a.n b.n
  io := fun l h => (b.io l (Nat.lt_of_lt_of_le h a.n)).trans (a.io l h)
  Z := fun x z => b.Z x (a.Z x z)
  keep := fun x o e nl no => by
    have hn : H x ≠ none := by rw [e]; intro z; cases z
    refine b.keep x o (a.keep x o e nl no) (a.notLoc hn nl) fun z => ?_
    rcases a.own x z with z | z
    · exact no z
    · exact hn z
  newL := fun l h1 h2 => by
    by_cases h : l < w'.n
    · rw [b.io l h]
      exact a.newL l h1 h
    · have q := b.newL l (Nat.le_of_not_lt h) h2
      cases e : H (w2.io l) with
      | none => rfl
      | some o => exact absurd q (a.some_ _ (by rw [e]; intro z; cases z))
  some_ := fun x z => b.some_ x (a.some_ x z)
  own := fun x z => by
    rcases b.own x z with z | z
    · exact a.own x z
    · refine .inr ?_
      cases e : H x with
      | none => rfl
      | some o => exact absurd z (a.some_ x (by rw [e]; intro q; cases q))
  lk := fun i ts e => by
    obtain ⟨⟨us, h1⟩, h2⟩ := b.lk i ts e
    obtain ⟨h3, h4⟩ := a.lk i us h1
    exact ⟨h3, h2.trans h4⟩
theorem LeS.of (L : Le w w' H H') : LeS w w' H H' σ σ σV σV := ⟨L.n, L.io, L.Z, fun a o e nl _ => L.keep a o e nl, L.newL, L.some_, fun _ z => .inl z, fun i ts e => ⟨⟨ts, e⟩, rfl⟩⟩
structure Kp (w w' : Wo) (H H' : Hp) : Prop where
  n : w.n ≤ w'.n
  io : ∀ l, l < w.n → w'.io l = w.io l
  Z : ∀ a, w.Z a → w'.Z a
  z : ∀ a u, w.Z a → Rd H a u → Rd H' a u
  t : ∀ a vs, H a = some (.tup vs) → H' a = some (.tup vs)
  x : ∀ a φ, H a = some (.ext φ) → H' a = some (.ext φ)
mutual
theorem Rep.kp (L : Kp w w' H H') : ∀ (t : T) (v : V), Rep G w H t v → Rep G w' H' t v
  | .non, v, h => h
  | .bl b, v, h => h
  | .int i, v, h => h
  | .str x, v, h => h
  | .tup ts, v, ⟨a, vs, e, h, r⟩ => ⟨a, vs, e, L.t _ _ h, Reps.kp L ts vs r⟩
  | .lst ts, v, ⟨a, vs, e, z, h, r⟩ => ⟨a, vs, e, L.Z _ z, L.z _ _ z h, Reps.kp L ts vs r⟩
  | .loc l, v, ⟨h, e⟩ => ⟨Nat.lt_of_lt_of_le h L.n, by rw [L.io l h]; exact e⟩
  | .exc c, v, ⟨a, e, h⟩ => ⟨a, e, L.x _ _ h⟩
theorem Reps.kp (L : Kp w w' H H') : ∀ (ts : List T) (vs : List V), Reps G w H ts vs → Reps G w' H' ts vs
  | [], vs, h => h
  | t :: ts, vs, ⟨v, r, e, h, q⟩ => ⟨v, r, e, Rep.kp L t v h, Reps.kp L ts r q⟩
end
theorem FrOk.notOwnZ (F : FrOk G w H H₀ σ σV) {a : Addr} (z : w.Z a) : ¬ Own σ σV a := fun ⟨i, ts, e1, e2⟩ => by
  obtain ⟨b, vs, h1, _, _, _, h5, _⟩ := F.own i _ ts e1 rfl
  rw [e2] at h1
  cases h1
  exact h5 z
theorem FrOk.notOwnT (F : FrOk G w H H₀ σ σV) {a : Addr} {o : HO} (e : H a = some o) (h : ∀ vs, o ≠ .lst vs) : ¬ Own σ σV a := fun ⟨i, ts, e1, e2⟩ => by
  obtain ⟨b, vs, h1, h2, _⟩ := F.own i _ ts e1 rfl
  rw [e2] at h1
  cases h1
  rw [e] at h2
  exact h vs (Option.some.inj h2)
theorem LeS.kp {s : Sto} (L : LeS w w' H H' σ σ' σV σV') (S : StoOk G w H s) (F : FrOk G w H H₀ σ σV) : Kp w w' H H' where
  n := L.n
  io := L.io
  Z := L.Z
  z := fun a u z r => by
    have no := F.notOwnZ z
    rcases r with r | ⟨o, r⟩
    · exact .inl (L.keep _ _ r (S.zLoc z) no)
    · exact .inr ⟨o, L.keep _ _ r (S.zLoc z) no⟩
  t := fun a vs e => L.keep _ _ e (S.notLoc e (fun _ z => by cases z) fun _ _ _ z => by cases z) (F.notOwnT e fun _ z => by cases z)
  x := fun a φ e => L.keep _ _ e (S.notLoc e (fun _ z => by cases z) fun _ _ _ z => by cases z) (F.notOwnT e fun _ z => by cases z)
def WantS (G : Gx) (X : Cx) (w₀ : Wo) (H₀ : Hp) (w : Wo) (H : Hp) (σ : Fr) (σV : St) (res : SR) (D : Ends) : Prop := match res with
  | .stuck => False
  | .next σ' s' => ∀ w' H' σV', Good G w₀ H₀ w' H' σ' s' σV' → LeS w w' H H' σ σ' σV σV' → D.nx σV' H'
  | .ret r s' => ∀ w' H' v, StoOk G w' H' s' → RepR G w' H' r v → Le w₀ w' H₀ H' → D.rt v H'
  | .retO ts s' => ∀ w' H' a vs, StoOk G w' H' s' → H' a = some (.lst vs) → Reps G w' H' ts vs → H₀ a = none → ¬ w'.Z a → notLoc w' a → Le w₀ w' H₀ H' → D.rt (.ref a) H'
  | .exc c σ' s' => ∀ w' H' σV' pins u sh, Good G w₀ H₀ w' H' σ' s' σV' → LeS w w' H H' σ σ' σV σV' → Thrown G X pins σV' H' c u sh → X.xe u sh
def tS (G : Gx) (X : Cx) (C : Cf) (a : S) : TS := fun D σV H => ∃ w₀ H₀ w σ s, Good G w₀ H₀ w H σ s σV ∧ WantS G X w₀ H₀ w H σ σV (ex C a σ s) D
def tSs (G : Gx) (X : Cx) (C : Cf) (a : List S) : TS := fun D σV H => ∃ w₀ H₀ w σ s, Good G w₀ H₀ w H σ s σV ∧ WantS G X w₀ H₀ w H σ σV (exs C a σ s) D
theorem PS.imp {st : Stmt} {t t' : TS} (h : PS X st t) (q : ∀ D σ H, t' D σ H → t D σ H) : PS X st t' := fun pins s σ H D I z => h pins s σ H D I (q _ _ _ z)
theorem PSs.imp {st : List Stmt} {t t' : TS} (h : PSs X st t) (q : ∀ D σ H, t' D σ H → t D σ H) : PSs X st t' := fun pins s σ H D I z => h pins s σ H D I (q _ _ _ z)
theorem WantS.mono {res : SR} {D : Ends} (L : LeS w w' H H' σ σ' σV σV') (h : WantS G X w₀ H₀ w H σ σV res D) : WantS G X w₀ H₀ w' H' σ' σV' res D := by
  cases res with
  | stuck => exact h
  | next σ2 s2 => exact fun w2 H2 σV2 g M => h w2 H2 σV2 g (L.trans M)
  | ret r s2 => exact h
  | retO ts s2 => exact h
  | exc c σ2 s2 => exact fun w2 H2 σV2 pins u sh g M => h w2 H2 σV2 pins u sh g (L.trans M)
theorem WantS.bind {m : SR} {k : Fr → Sto → SR} {D : Ends} {u : TS} (h : WantS G X w₀ H₀ w H σ σV (m.bind k) D)
    (hu : ∀ w1 H1 σ1 s1 σV1, Good G w₀ H₀ w1 H1 σ1 s1 σV1 → WantS G X w₀ H₀ w1 H1 σ1 σV1 (k σ1 s1) D → u D σV1 H1) : WantS G X w₀ H₀ w H σ σV m { D with nx := u D } := by
  cases m with
  | stuck => exact h
  | next σ2 s2 => exact fun w2 H2 σV2 g L => hu w2 H2 σ2 s2 σV2 g (WantS.mono L h)
  | ret r s2 => exact h
  | retO ts s2 => exact h
  | exc c σ2 s2 => exact h
theorem zaad : PSs X [] (tSs G X C []) := PSs.imp pss_nil fun D σV H ⟨w₀, H₀, w, σ, s, g, h⟩ => h w H σV g LeS.refl
theorem zaab {st : Stmt} {rest : List Stmt} {a : S} {as : List S} (h1 : PS X st (tS G X C a)) (h2 : PSs X rest (tSs G X C as)) : PSs X (st :: rest) (tSs G X C (a :: as)) := by
  refine PSs.imp (pss_cons h1 h2) ?_
  rintro D σV H ⟨w₀, H₀, w, σ, s, g, h⟩
  refine ⟨w₀, H₀, w, σ, s, g, WantS.bind h fun w1 H1 σ1 s1 σV1 g1 h1 => ?_⟩
  exact ⟨w₀, H₀, w1, σ1, s1, g1, h1⟩
theorem st_of {m : Res R} {k : R → Sto → SR} {D : Ends} {s : Sto} (g : Good G w₀ H₀ w H σ s σV) (h : WantS G X w₀ H₀ w H σ σV (m.st σ k) D) :
    Want G X σV w H m fun v H1 => ∃ w1 r s1, Le w w1 H H1 ∧ StoOk G w1 H1 s1 ∧ RepR G w1 H1 r v ∧ Good G w₀ H₀ w1 H1 σ s1 σV ∧ WantS G X w₀ H₀ w1 H1 σ σV (k r s1) D := by
  cases m with
  | stuck => exact h
  | ok r s1 => exact fun w1 H1 v L S R => ⟨w1, r, s1, L, S, R, g.step L S, WantS.mono (LeS.of L) h⟩
  | exc c s1 => exact fun w1 H1 pins u sh L S T => h w1 H1 σV pins u sh (g.step L S) (LeS.of L) T
theorem onS_w {α : Type} {o : Option α} {f : α → SR} {D : Ends} (h : WantS G X w₀ H₀ w H σ σV (onS o f) D) : ∃ a, o = some a ∧ WantS G X w₀ H₀ w H σ σV (f a) D := by
  cases o with
  | none => exact h.elim
  | some a => exact ⟨a, rfl, h⟩
theorem val_of {r : R} {t : T} (h : r.val? = some t) : r = .val t := by
  cases r with
  | val u => cases h; rfl
  | bor u => cases h
theorem own_set {i : Nat} {b : Option B} {x : Option V} (hb : ∀ ts, b ≠ some (.own ts)) {a : Addr} (h : Own (σ.set i b) (σV.set i x) a) : Own σ σV a := by
  obtain ⟨j, ts, e1, e2⟩ := h
  by_cases hj : i = j
  · subst hj
    have hlt : i < σ.length := by
      have := (List.getElem?_eq_some_iff.mp e1).1
      simpa using this
    rw [List.getElem?_set_self hlt] at e1
    exact absurd (Option.some.inj e1) (hb ts)
  · rw [List.getElem?_set_ne hj] at e1 e2
    exact ⟨j, ts, e1, e2⟩
theorem lk_set {i : Nat} {b : Option B} {x : Option V} (hb : ∀ ts, b ≠ some (.lck ts)) (j : Nat) (ts : List T) (e : (σ.set i b)[j]? = some (some (.lck ts))) : (∃ us, σ[j]? = some (some (.lck us))) ∧ (σV.set i x)[j]? = σV[j]? := by
  by_cases hj : i = j
  · subst hj
    have hlt : i < σ.length := by
      have := (List.getElem?_eq_some_iff.mp e).1
      simpa using this
    rw [List.getElem?_set_self hlt] at e
    exact absurd (Option.some.inj e) (hb ts)
  · rw [List.getElem?_set_ne hj] at e ⊢
    exact ⟨⟨ts, e⟩, rfl⟩
theorem LeS.set {i : Nat} {b : Option B} {x : Option V} (hb : ∀ ts, b ≠ some (.own ts)) (hb' : ∀ ts, b ≠ some (.lck ts)) : LeS w w H H σ (σ.set i b) σV (σV.set i x) :=
  ⟨Nat.le_refl _, fun _ _ => rfl, fun _ z => z, fun _ _ e _ _ => e, fun l a b => absurd (Nat.lt_of_lt_of_le b a) (Nat.lt_irrefl _), fun _ z => z, fun a z => .inl (own_set hb z), lk_set hb'⟩
theorem LeS.put {i : Nat} {t : T} {v : V} : LeS w w H H σ (IP.put σ i t) σV (σV.set i (some v)) := LeS.set (by intro ts z; cases z) (by intro ts z; cases z)
theorem Good.put {s : Sto} {i : Nat} {t : T} {v : V} (g : Good G w₀ H₀ w H σ s σV) (r : Rep G w H t v) : Good G w₀ H₀ w H (IP.put σ i t) s (σV.set i (some v)) := ⟨g.sto, g.fr.put r, g.ent⟩
variable {e : Expr} {e' : E} {x : Str} {pos pos' : Pos} {i : Nat}
theorem sS_asg (hN : X.N.Nodup) (hi : X.N[i]? = some x) (hx : Loc X.env.scope x) (he : PE X e (tV G X C e')) (hs : swapsWith e (some (.Name x pos')) pos.line X.env = pure false) (hf : X.fn x = true ∨ X.env.scope.names.lookup x = some .local) :
    PS X (.Assign [.Name x pos'] e pos) (tS G X C (.asg i e')) := by
  refine PS.imp (ps_set hN hi hx he hs hf) ?_
  rintro D σV H ⟨w₀, H₀, w, σ, s, g, h⟩
  refine ⟨w₀, H₀, w, σ, s, g, (st_of g h).imp ?_⟩
  rintro v H1 ⟨w1, r, s1, L1, S1, R1, g1, h1⟩
  obtain ⟨t, ht, h1⟩ := onS_w h1
  cases val_of ht
  exact h1 w1 H1 _ (g1.put R1) LeS.put
theorem sS_ret (he : PE X e (tV G X C e')) : PS X (.Return (some e) pos) (tS G X C (.ret e')) := by
  refine PS.imp (ps_ret he) ?_
  rintro D σV H ⟨w₀, H₀, w, σ, s, g, h⟩
  refine ⟨w₀, H₀, w, σ, s, g, (st_of g h).imp ?_⟩
  rintro v H1 ⟨w1, r, s1, L1, S1, R1, g1, h1⟩
  exact h1 w1 H1 v S1 R1 g1.ent
theorem onBS_t {x : R} {v : V} {m n : SR} {D : Ends} (r : RepR G w H x v) (h : WantS G X w₀ H₀ w H σ σV (onBS x m n) D) : ∃ k, v = .bl k ∧ WantS G X w₀ H₀ w H σ σV (if k = true then m else n) D := by
  match x, h with
  | .val (.bl true), h => exact ⟨true, r, h⟩
  | .val (.bl false), h => exact ⟨false, r, h⟩
  | .val .non, h => exact h.elim
  | .val (.int _), h => exact h.elim
  | .val (.str _), h => exact h.elim
  | .val (.tup _), h => exact h.elim
  | .val (.lst _), h => exact h.elim
  | .val (.loc _), h => exact h.elim
  | .val (.exc _), h => exact h.elim
  | .bor _, h => exact h.elim
theorem sS_ifs {c : Expr} {c' : E} {a b : List Stmt} {a' b' : List S} (hc : PT X c (tT G X C c')) (ha : PSs X a (tSs G X C a')) (hb : PSs X b (tSs G X C b')) : PS X (.If c a b pos) (tS G X C (.ifs c' a' b')) := by
  refine PS.imp (ps_if hc ha hb) ?_
  rintro D σV H ⟨w₀, H₀, w, σ, s, g, h⟩
  refine ⟨w₀, H₀, w, σ, s, g, (st_of g h).imp ?_⟩
  rintro v H1 ⟨w1, r, s1, L1, S1, R1, g1, h1⟩
  obtain ⟨k, rfl, h1⟩ := onBS_t R1 h1
  refine ⟨k, rfl, ?_⟩
  cases k with
  | true => exact iteT ⟨w₀, H₀, w1, σ, s1, g1, h1⟩
  | false => exact iteF ⟨w₀, H₀, w1, σ, s1, g1, h1⟩
end
end IP
end
section
set_option Elab.async false
set_option linter.all false
set_option maxRecDepth 100000
namespace IP
open PySem PySem.Spec L2
section
variable {G : Gx} {X : Cx} {C : Cf} {w w' w₀ : Wo} {H H' H₀ : Hp} {σ σ' : Fr} {σV σV' : St}
theorem zaaf {α : Type} {l : List (Option α)} {i j : Nat} {b : Option α} {c : α} (h : (l.set i b)[j]? = some (some c)) : (i = j ∧ b = some c ∧ i < l.length) ∨ (i ≠ j ∧ l[j]? = some (some c)) := by
  by_cases hj : i = j
  · subst hj
    have hlt : i < l.length := by
      have := (List.getElem?_eq_some_iff.mp h).1
      simpa using this
    rw [List.getElem?_set_self hlt] at h
    exact .inl ⟨rfl, Option.some.inj h, hlt⟩
  · rw [List.getElem?_set_ne hj] at h
    exact .inr ⟨hj, h⟩
theorem FrOk.mkO {i : Nat} {ts : List T} {a : Addr} {vs : List V} (F : FrOk G w H H₀ σ σV) (ha : H a = some (.lst vs)) (r : Reps G w H ts vs) (h0 : H₀ a = none) (hz : ¬ w.Z a) (hl : notLoc w a)
    (hap : ∀ (j : Nat) (b : B) (us : List T), σ[j]? = some (some b) → ownL b = some us → σV[j]? ≠ some (some (.ref a))) : FrOk G w H H₀ (setOwn σ i ts) (σV.set i (some (.ref a))) where
  len := by unfold setOwn; simp [F.len]
  val := fun j t e => by
    rcases zaaf e with ⟨_, z, _⟩ | ⟨ne, z⟩
    · cases z
    · obtain ⟨v, h1, h2⟩ := F.val j t z
      exact ⟨v, by rw [List.getElem?_set_ne ne]; exact h1, h2⟩
  own := fun j b us e eb => by
    rcases zaaf e with ⟨rfl, z, hlt⟩ | ⟨ne, z⟩
    · cases z
      cases eb
      exact ⟨a, vs, by rw [List.getElem?_set_self (by rw [← F.len]; exact hlt)], ha, r, h0, hz, hl⟩
    · obtain ⟨p, us', h1, h2⟩ := F.own j b us z eb
      exact ⟨p, us', by rw [List.getElem?_set_ne ne]; exact h1, h2⟩
  apart := fun j k b c us us' p hjk e1 eb e2 ec e3 e4 => by
    rcases zaaf e1 with ⟨rfl, z, hlt⟩ | ⟨ne, z⟩
    · rcases zaaf e2 with ⟨rfl, _, _⟩ | ⟨ne', z'⟩
      · exact hjk rfl
      · rw [List.getElem?_set_self (by rw [← F.len]; exact hlt)] at e3
        cases e3
        rw [List.getElem?_set_ne ne'] at e4
        exact hap k c us' z' ec e4
    · rcases zaaf e2 with ⟨rfl, z', hlt⟩ | ⟨ne', z'⟩
      · rw [List.getElem?_set_self (by rw [← F.len]; exact hlt)] at e4
        cases e4
        rw [List.getElem?_set_ne ne] at e3
        exact hap j b us z eb e3
      · rw [List.getElem?_set_ne ne] at e3
        rw [List.getElem?_set_ne ne'] at e4
        exact F.apart j k b c us us' p hjk z eb z' ec e3 e4
  bor := fun j us e => by
    rcases zaaf e with ⟨_, z, _⟩ | ⟨ne, z⟩
    · cases z
    · obtain ⟨p, us', h1, h2⟩ := F.bor j us z
      exact ⟨p, us', by rw [List.getElem?_set_ne ne]; exact h1, h2⟩
theorem FrOk.chg {i : Nat} {ts us : List T} {a : Addr} {xs ys : List V} (F : FrOk G w H H₀ σ σV) (hi : σ[i]? = some (some (.own ts))) (hv : σV[i]? = some (some (.ref a))) (ha : H a = some (.lst xs)) (r : Reps G w H us ys) :
    FrOk G w (upd H a (.lst ys)) H₀ (setOwn σ i us) σV := by
  obtain ⟨a', xs', h1, h2, h3, h4, h5, h6⟩ := F.own i _ ts hi rfl
  rw [hv] at h1
  cases h1
  have hlt : i < σ.length := (List.getElem?_eq_some_iff.mp hi).1
  exact {
    len := by unfold setOwn; simp [F.len]
    val := fun j t e => by
      rcases zaaf e with ⟨_, z, _⟩ | ⟨ne, z⟩
      · cases z
      · obtain ⟨v, q1, q2⟩ := F.val j t z
        exact ⟨v, q1, Rep.upd ha h5 t v q2⟩
    own := fun j b vs e eb => by
      rcases zaaf e with ⟨rfl, z, hlt⟩ | ⟨ne, z⟩
      · cases z
        cases eb
        exact ⟨a, ys, hv, zaae, Reps.upd ha h5 us ys r, h4, h5, h6⟩
      · obtain ⟨p, us', q1, q2, q3, q4⟩ := F.own j b vs z eb
        have np : p ≠ a := fun y => by
          subst y
          exact F.apart i j _ b ts vs p ne hi rfl z eb hv q1
        exact ⟨p, us', q1, by rw [upd_ne np]; exact q2, Reps.upd ha h5 _ _ q3, q4⟩
    apart := fun j k b c us1 us2 p hjk e1 eb e2 ec e3 e4 => by
      have old : ∀ {j : Nat} {b : B} {us1 : List T}, (setOwn σ i us)[j]? = some (some b) → ownL b = some us1 → ∃ b' us', σ[j]? = some (some b') ∧ ownL b' = some us' := fun {j b us1} e eb => by
        rcases zaaf e with ⟨rfl, z, _⟩ | ⟨ne, z⟩
        · exact ⟨_, ts, hi, rfl⟩
        · exact ⟨b, us1, z, eb⟩
      obtain ⟨b', u1, z1, y1⟩ := old e1 eb
      obtain ⟨c', u2, z2, y2⟩ := old e2 ec
      exact F.apart j k b' c' u1 u2 p hjk z1 y1 z2 y2 e3 e4
    bor := fun j vs e => by
      rcases zaaf e with ⟨_, z, _⟩ | ⟨ne, z⟩
      · cases z
      · obtain ⟨p, us', q1, q2, q3, q4, q5⟩ := F.bor j vs z
        have np : p ≠ a := fun y => by subst y; exact q4 h4
        exact ⟨p, us', q1, by rw [upd_ne np]; exact q2, Reps.upd ha h5 _ _ q3, q4, q5⟩ }
theorem zac8 {i : Nat} {ts : List T} (h : ownAt σ i = some ts) : σ[i]? = some (some (.own ts)) := by
  unfold ownAt at h
  split at h
  · rename_i us e
    cases h
    exact e
  · cases h
theorem Good.chg {s : Sto} {i : Nat} {ts us : List T} {a : Addr} {xs ys : List V} (g : Good G w₀ H₀ w H σ s σV) (hi : σ[i]? = some (some (.own ts))) (hv : σV[i]? = some (some (.ref a))) (ha : H a = some (.lst xs)) (r : Reps G w H us ys) :
    Good G w₀ H₀ w (upd H a (.lst ys)) (setOwn σ i us) s σV ∧ LeS w w H (upd H a (.lst ys)) σ (setOwn σ i us) σV σV := by
  obtain ⟨a', xs', h1, h2, h3, h4, h5, h6⟩ := g.fr.own i _ ts hi rfl
  rw [hv] at h1
  cases h1
  have hlt : i < σ.length := (List.getElem?_eq_some_iff.mp hi).1
  refine ⟨⟨g.sto.upd ha h5 h6, g.fr.chg hi hv ha r, g.ent.updNew h4 (by rw [ha]; intro z; cases z)⟩, Nat.le_refl _, fun _ _ => rfl, fun _ z => z, fun p o e nl no => ?_, fun l a b => absurd (Nat.lt_of_lt_of_le b a) (Nat.lt_irrefl _), fun p z => ?_, fun p z => .inl ?_, fun j vs e => ?_⟩
  · have np : p ≠ a := fun y => by subst y; exact no ⟨i, ts, hi, hv⟩
    rw [upd_ne np]
    exact e
  · by_cases e : p = a
    · subst e; rw [zaae]; intro z; cases z
    · rw [upd_ne e]; exact z
  · obtain ⟨j, vs, e1, e2⟩ := z
    rcases zaaf e1 with ⟨rfl, _, _⟩ | ⟨ne, z⟩
    · exact ⟨i, ts, hi, e2⟩
    · exact ⟨j, vs, z, e2⟩
  · rcases zaaf e with ⟨rfl, z, _⟩ | ⟨ne, z⟩
    · cases z
    · exact ⟨⟨vs, z⟩, rfl⟩
variable {e j : Expr} {e' j' : E} {x : Str} {pos pos' p1 p2 : Pos} {i : Nat}
theorem tO_mk {D : Ends} {s : Sto} (g : Good G w₀ H₀ w H σ s σV) (h : WantS G X w₀ H₀ w H σ σV (ex C (.mk i e') σ s) D) : WantO G X σV w H (ev C e' .v σ s) fun v H1 => D.nx (σV.set i (some v)) H1 := by
  unfold ex at h
  split at h
  · cases hv : ev C e' .v σ s with
    | stuck => rw [hv] at h; exact h
    | exc c s1 => rw [hv] at h; exact fun w1 H1 pins u sh L S T => h w1 H1 σV pins u sh (g.step L S) (LeS.of L) T
    | ok r s1 =>
      rw [hv] at h
      obtain ⟨ts, ht, h⟩ := onS_w (show WantS G X w₀ H₀ w H σ σV (onS r.lst? fun ts => .next (setOwn σ i ts) s1) D from h)
      have er : r = .val (.lst ts) := by
        match r, ht with
        | .val (.lst us), ht => cases ht; rfl
      subst er
      intro w1 H1 a vs L S ha r hn nz nl
      have h0 : H₀ a = none := by
        cases q : H₀ a with
        | none => rfl
        | some o => exact absurd hn (g.ent.some_ a (by rw [q]; intro z; cases z))
      have g1 := g.step L S
      have hap : ∀ (j : Nat) (b : B) (us : List T), σ[j]? = some (some b) → ownL b = some us → σV[j]? ≠ some (some (.ref a)) := fun j b us e eb q => by
        obtain ⟨a', xs', h1, h2, _⟩ := g.fr.own j b us e eb
        rw [q] at h1
        cases h1
        rw [hn] at h2
        cases h2
      refine h w1 H1 _ ⟨g1.sto, g1.fr.mkO ha r h0 nz nl hap, g1.ent⟩ ⟨L.n, L.io, L.Z, fun p o e nl _ => L.keep p o e nl, L.newL, L.some_, fun p z => ?_, fun k us e => ?_⟩
      · obtain ⟨k, us, e1, e2⟩ := z
        rcases zaaf e1 with ⟨rfl, _, hlt⟩ | ⟨ne, z⟩
        · rw [List.getElem?_set_self (by rw [← g.fr.len]; exact hlt)] at e2
          cases e2
          exact .inr hn
        · rw [List.getElem?_set_ne ne] at e2
          exact .inl ⟨k, us, z, e2⟩
      · rcases zaaf e with ⟨_, z, _⟩ | ⟨ne, z⟩
        · cases z
        · exact ⟨⟨us, z⟩, by rw [List.getElem?_set_ne ne]⟩
  · exact h.elim
theorem sS_mk (hN : X.N.Nodup) (hi : X.N[i]? = some x) (hx : Loc X.env.scope x) (he : PE X e (tO G X C e')) (hs : swapsWith e (some (.Name x pos')) pos.line X.env = pure false) (hf : X.fn x = true ∨ X.env.scope.names.lookup x = some .local) :
    PS X (.Assign [.Name x pos'] e pos) (tS G X C (.mk i e')) := by
  refine PS.imp (ps_set hN hi hx he hs hf) ?_
  rintro D σV H ⟨w₀, H₀, w, σ, s, g, h⟩
  exact ⟨w₀, H₀, w, σ, s, g, tO_mk g h⟩
theorem sS_app {cpos : Pos} (hN : X.N[i]? = some x) (hv : Vis X.env.scope x) (hd : (x == ("__debug__" : Str)) = false) (hcd : (x == ("__classdict__" : Str)) = false) (he : PE X e (tV G X C e')) (hst : starEach [e] X.env = [(false, eval e X.env)])
    (hline : (p2.endLine == cpos.line) = true) (hbase : attributeBase (.Name x p1) "append" X.env (eval (.Name x p1) X.env) = eval (.Name x p1) X.env)
    (hfew : ((backTo cpos (starEach [e] X.env)).all (fun x => !x.1) && (backToKw cpos (keywordEach [] X.env)).all (fun x => x.1.isSome) && decide ([e].length + ([] : List Keyword).length + (if ([] : List Keyword).isEmpty then 0 else 1) < 30)) = true)
    (hs : swapsWith (.Call (.Attribute (.Name x p1) "append" p2) [e] [] cpos) none pos.line X.env = pure false) :
    PS X (.Expr (.Call (.Attribute (.Name x p1) "append" p2) [e] [] cpos) pos) (tS G X C (.app i e')) := by
  refine PS.imp (ps_expr (pe_bm PySem.F.plainAttrs_list PySem.F.slot_list_append PySem.F.type_list_append zadl (pe_var hN hv hd hcd) (zaak he pa_nil hst) hbase hfew hline hst rfl) hs) ?_
  rintro D σV H ⟨w₀, H₀, w, σ, s, g, h⟩
  obtain ⟨ts, ho, h⟩ := onS_w (show WantS G X w₀ H₀ w H σ σV (onS (ownAt σ i) fun ts => (ev C e' .v σ s).st σ fun x s1 => onS x.val? fun t => if ts.length < lim then .next (setOwn σ i (ts ++ [t])) s1 else .stuck) D from h)
  have hi := zac8 ho
  obtain ⟨a, vs, h1, h2, h3, h4, h5, h6⟩ := g.fr.own i _ ts hi rfl
  refine ⟨.ref a, h1, .inl ⟨rfl, vs, SqL.of h2⟩, w₀, H₀, w, σ, s, g, (st_of g h).imp ?_⟩
  rintro v H1 ⟨w1, r, s1, L1, S1, R1, g1, q1⟩
  obtain ⟨t, ht, q1⟩ := onS_w q1
  cases val_of ht
  split at q1
  · rename_i hlim
    have ha1 := L1.keep a _ h2 h6
    have r1 := Reps.mono L1 g.sto ts vs h3
    refine ⟨a, vs, v, rfl, rfl, ha1, by rw [← h3.length]; have := lim_le; omega, ?_⟩
    obtain ⟨g2, l2⟩ := g1.chg hi h1 ha1 (r1.append (show Reps G w1 H1 [t] [v] from ⟨v, [], rfl, R1, rfl⟩))
    exact q1 w1 _ σV g2 l2
  · exact q1.elim
theorem sS_put (hN : X.N[i]? = some x) (hv : Vis X.env.scope x) (hd : (x == ("__debug__" : Str)) = false) (hcd : (x == ("__classdict__" : Str)) = false) (he : PE X e (tV G X C e')) (hj : PE X j (tV G X C j'))
    (hs : swapsWithSole [.Subscript (.Name x p1) j p2] e pos.line X.env = pure false) (hw : swappedStores [.Subscript (.Name x p1) j p2] e X.env = pure none) (h1 : (assignEach [.Subscript (.Name x p1) j p2] X.env).map (·.2) = [assign (.Subscript (.Name x p1) j p2) X.env])
    (ha : ∀ v, assign (.Subscript (.Name x p1) j p2) X.env v = (do
      let ov ← holding [v] (eval (.Name x p1) X.env)
      let iv ← holding [v, ov] (eval j X.env)
      standAt p2
      holding [v, ov, iv] (setItem ov iv v)
      release [v, ov, iv] [])) :
    PS X (.Assign [.Subscript (.Name x p1) j p2] e pos) (tS G X C (.put i j' e')) := by
  refine PS.imp (ps_asg he (pg_sub (pe_var hN hv hd hcd) hj set_list ha) hs hw h1) ?_
  rintro D σV H ⟨w₀, H₀, w, σ, s, g, h⟩
  obtain ⟨ts, ho, h⟩ := onS_w (show WantS G X w₀ H₀ w H σ σV (onS (ownAt σ i) fun ts => (ev C e' .v σ s).st σ fun x s1 => onS x.val? fun t => (ev C j' .v σ s1).st σ fun y s2 => onS y.int? fun k => onS (L2.ixN ts.length k) fun n => .next (setOwn σ i (ts.set n t)) s2) D from h)
  have hi := zac8 ho
  obtain ⟨a, vs, h1, h2, h3, h4, h5, h6⟩ := g.fr.own i _ ts hi rfl
  refine ⟨w₀, H₀, w, σ, s, g, (st_of g h).imp ?_⟩
  rintro v H1 ⟨w1, r, s1, L1, S1, R1, g1, q1⟩
  obtain ⟨t, ht, q1⟩ := onS_w q1
  cases val_of ht
  have ha1 := L1.keep a _ h2 h6
  have r1 := Reps.mono L1 g.sto ts vs h3
  have hl1 := notLoc.mono L1 (by rw [h2]; intro z; cases z) h6
  refine ⟨.ref a, h1, w₀, H₀, w1, σ, s1, g1, (st_of g1 q1).imp ?_⟩
  rintro y H2 ⟨w2, r2, s2, L2, S2, R2, g2, q2⟩
  obtain ⟨k, hk, q2⟩ := onS_w q2
  obtain ⟨n, hn, q2⟩ := onS_w q2
  cases R2.int hk
  have ha2 := L2.keep a _ ha1 hl1
  have r2 := Reps.mono L2 S1 ts vs r1
  refine ⟨a, vs, k, n, rfl, rfl, ha2, by rw [← h3.length]; exact hn, ?_⟩
  obtain ⟨g3, l3⟩ := g2.chg hi h1 ha2 (r2.set (Rep.mono L2 S1 t v R1) n)
  exact q2 w2 _ σV g3 l3
theorem Good.frz {s : Sto} (g : Good G w₀ H₀ w H σ s σV) (i : Nat) : ∃ w', Good G w₀ H₀ w' H (frz σ i) s σV ∧ LeS w w' H H σ (frz σ i) σV σV := by
  unfold IP.frz
  split
  · rename_i ts hi
    obtain ⟨a, vs, h1, h2, h3, h4, h5, h6⟩ := g.fr.own i _ ts hi rfl
    have zm := fun (t : T) (v : V) (h : Rep G w H t v) => Rep.zmono (w := w) (w' := w.addZ a) rfl rfl (fun _ z => .inl z) t v h
    have zms := fun (t : List T) (v : List V) (h : Reps G w H t v) => Reps.zmono (w := w) (w' := w.addZ a) rfl rfl (fun _ z => .inl z) t v h
    refine ⟨w.addZ a, ⟨g.sto.addZ h2 h6, ⟨by simp [g.fr.len], fun j t e => ?_, fun j b us e eb => ?_, fun j k b c us us' p hjk e1 eb e2 ec => ?_, fun j us e => ?_⟩, g.ent.addZ h4⟩, Nat.le_refl _, fun _ _ => rfl, fun _ z => .inl z, fun _ _ e _ _ => e, fun l a b => absurd (Nat.lt_of_lt_of_le b a) (Nat.lt_irrefl _), fun _ z => z, fun p z => .inl ?_, fun j us e => ?_⟩
    · rcases zaaf e with ⟨rfl, z, _⟩ | ⟨ne, z⟩
      · cases z
        exact ⟨.ref a, h1, a, vs, rfl, .inr rfl, .inl h2, zms _ _ h3⟩
      · obtain ⟨v, q1, q2⟩ := g.fr.val j t z
        exact ⟨v, q1, zm t v q2⟩
    · rcases zaaf e with ⟨_, z, _⟩ | ⟨ne, z⟩
      · cases z; cases eb
      · obtain ⟨p, us', q1, q2, q3, q4, q5, q6⟩ := g.fr.own j b us z eb
        refine ⟨p, us', q1, q2, zms _ _ q3, q4, fun y => y.elim q5 fun y => ?_, q6⟩
        subst y
        exact g.fr.apart i j _ b ts us p ne hi rfl z eb h1 q1
    · rcases zaaf e1 with ⟨_, z, _⟩ | ⟨ne, z⟩
      · cases z; cases eb
      · rcases zaaf e2 with ⟨_, z', _⟩ | ⟨ne', z'⟩
        · cases z'; cases ec
        · exact g.fr.apart j k b c us us' p hjk z eb z' ec
    · rcases zaaf e with ⟨_, z, _⟩ | ⟨ne, z⟩
      · cases z
      · obtain ⟨p, us', q1, q2, q3, q4⟩ := g.fr.bor j us z
        exact ⟨p, us', q1, q2, zms _ _ q3, q4⟩
    · obtain ⟨j, us, e1, e2⟩ := z
      rcases zaaf e1 with ⟨_, z, _⟩ | ⟨ne, z⟩
      · cases z
      · exact ⟨j, us, z, e2⟩
    · rcases zaaf e with ⟨_, z, _⟩ | ⟨ne, z⟩
      · cases z
      · exact ⟨⟨us, z⟩, rfl⟩
  · exact ⟨w, g, LeS.refl⟩
theorem sSs_frz {rest : List Stmt} {as : List S} (h : PSs X rest (tSs G X C as)) : PSs X rest (tSs G X C (.frz i :: as)) := by
  refine PSs.imp h ?_
  rintro D σV H ⟨w₀, H₀, w, σ, s, g, h⟩
  obtain ⟨w', g', l'⟩ := g.frz i
  exact ⟨w₀, H₀, w', IP.frz σ i, s, g', WantS.mono l' h⟩
end
end IP
end
section
set_option Elab.async false
set_option linter.all false
set_option maxRecDepth 100000
namespace IP
open PySem PySem.Spec L2
section
variable {G : Gx} {X : Cx} {C : Cf} {w w' w₀ : Wo} {H H' H₀ : Hp} {σ σ' : Fr} {σV σV' : St} {pos : Pos}
def zab4 (σ : Fr) (σV : St) : Src → Prop
  | .l a _ => ¬ Own σ σV a
  | _ => True
theorem SrcOk.monoS {z : Bool} {s : Sto} (L : LeS w w' H H' σ σ' σV σV') (S : StoOk G w H s) (F : FrOk G w H H₀ σ σV) : ∀ {src : Src} {ts : List T}, zab4 σ σV src → SrcOk G w H z src ts → SrcOk G w' H' z src ts ∧ zab4 σ' σV' src
  | .l a vs, ts, nf, ⟨h1, h2, h3, h4⟩ => by
    have hs := Rd.some h1
    refine ⟨⟨?_, Reps.kp (L.kp S F) ts vs h2, L.notLoc hs h3, fun q => L.Z a (h4 q)⟩, fun z => ?_⟩
    · rcases h1 with h1 | ⟨o, h1⟩
      · exact .inl (L.keep _ _ h1 h3 nf)
      · exact .inr ⟨o, L.keep _ _ h1 h3 nf⟩
    · rcases L.own a z with z | z
      · exact nf z
      · exact hs z
  | .t a vs, ts, _, ⟨h1, h2⟩ => ⟨⟨(L.kp S F).t _ _ h1, Reps.kp (L.kp S F) ts vs h2⟩, True.intro⟩
  | .r lo n, ts, _, h => ⟨h, True.intro⟩
theorem zaa3 {tg : Expr} {g : Tg} {b : List Stmt} {b' : List S} {D : Ends} {src : Src} {ts : List T} {s : Sto} {K : PySem.W.Frag} {z : Bool} (gd : Good G w₀ H₀ w H σ s σV) (SO : SrcOk G w H z src ts) (SF : zab4 σ σV src)
    (h : WantS G X w₀ H₀ w H σ σV (forL g (fun σ s => exs C b' σ s) ts σ s) D) :
    ∃ W : Nat → Nat → St → Hp → Prop, (∃ m, W 0 m σV H) ∧ ∀ i m σV H, W i m σV H →
      ((itOf K src).stop i H ∧ D.nx σV H) ∨ ((itOf K src).go i H ∧ ∃ N : St → Hp → Prop, (∀ σ' H', N σ' H' → ∃ m', m' < m ∧ W (i + 1) m' σ' H') ∧ ∀ x H', (itOf K src).yld i H x H' → gTg G g x σV H' fun σ2 H2 => tSs G X C b' { D with nx := N, ct := N, bk := D.nx } σ2 H2) := by
  refine ⟨fun i m σV1 H1 => ∃ w1 σ1 s1, m = ts.length - i ∧ i ≤ ts.length ∧ Good G w₀ H₀ w1 H1 σ1 s1 σV1 ∧ SrcOk G w1 H1 z src ts ∧ zab4 σ1 σV1 src ∧ WantS G X w₀ H₀ w1 H1 σ1 σV1 (forL g (fun σ s => exs C b' σ s) (ts.drop i) σ1 s1) D,
    ⟨ts.length, w, σ, s, rfl, Nat.zero_le _, gd, SO, SF, h⟩, ?_⟩
  rintro i m σV1 H1 ⟨w1, σ1, s1, hm, hi, g1, SO1, SF1, h1⟩
  by_cases hlt : i < ts.length
  · refine .inr ?_
    have et : ts[i]? = some ts[i] := List.getElem?_eq_getElem hlt
    have ed : ts.drop i = ts[i] :: ts.drop (i + 1) := List.drop_eq_getElem_cons hlt
    rw [ed] at h1
    obtain ⟨σ2, hb, h1⟩ := onS_w (show WantS G X w₀ H₀ w1 H1 σ1 σV1 (onS (bindTg σ1 g ts[i]) fun σ' => (exs C b' σ' s1).bind fun σ2 s2 => forL g (fun σ s => exs C b' σ s) (ts.drop (i + 1)) σ2 s2) D from h1)
    obtain ⟨go, yld⟩ := SO1.go (K := K) et
    refine ⟨go, fun σV3 H3 => ∃ w3 σ3 s3, Good G w₀ H₀ w3 H3 σ3 s3 σV3 ∧ SrcOk G w3 H3 z src ts ∧ zab4 σ3 σV3 src ∧ WantS G X w₀ H₀ w3 H3 σ3 σV3 (forL g (fun σ s => exs C b' σ s) (ts.drop (i + 1)) σ3 s3) D, fun σV3 H3 ⟨w3, σ3, s3, q1, q2, q3, q4⟩ => ⟨ts.length - (i + 1), by omega, w3, σ3, s3, rfl, hlt, q1, q2, q3, q4⟩, fun x H' hy => ?_⟩
    have rx := (yld x H' hy).2
    obtain rfl : H1 = H' := (yld x H' hy).1.symm
    refine ⟨w1, s1, ts[i], σ1, σ2, g1.sto, rx, hb, fun vs hfr hl => ?_⟩
    have g2 : Good G w₀ H₀ w1 H1 σ2 s1 (setsV σV1 (slots g) vs) := ⟨g1.sto, hfr H₀ σV1 g1.fr, g1.ent⟩
    have l2 : LeS w1 w1 H1 H1 σ1 σ2 σV1 (setsV σV1 (slots g) vs) := by
      cases g with
      | one k =>
        cases hb
        match vs, hl with
        | [v], _ => exact LeS.put
      | many ks =>
        have hb' : ∃ us, puts σ1 ks us = some σ2 := by
          match hts : ts[i], hb with
          | .tup us, hb => exact ⟨us, hb⟩
          | .lst us, hb => exact ⟨us, hb⟩
          | .non, hb => cases hb
          | .bl _, hb => cases hb
          | .int _, hb => cases hb
          | .str _, hb => cases hb
          | .loc _, hb => cases hb
          | .exc _, hb => cases hb
        obtain ⟨us, hb⟩ := hb'
        have go : ∀ (ks : List Nat) (us : List T) (vs : List V) (σ1 : Fr) (σV1 : St), puts σ1 ks us = some σ2 → vs.length = ks.length → LeS w1 w1 H1 H1 σ1 σ2 σV1 (setsV σV1 ks vs) := by
          intro ks
          induction ks with
          | nil =>
            intro us vs σ1 σV1 hp hl
            cases us with
            | nil => cases hp; cases vs <;> exact LeS.refl
            | cons u us => cases hp
          | cons k ks ih =>
            intro us vs σ1 σV1 hp hl
            cases us with
            | nil => cases hp
            | cons u us =>
              cases vs with
              | nil => simp at hl
              | cons v vs => exact LeS.trans (LeS.put (v := v)) (ih us vs (put σ1 k u) (σV1.set k (some v)) hp (by simpa using hl))
        exact go ks us vs σ1 σV1 hb hl
    obtain ⟨SO2, SF2⟩ := SO1.monoS l2 g1.sto g1.fr SF1
    refine ⟨w₀, H₀, w1, σ2, s1, g2, ?_⟩
    cases hx : exs C b' σ2 s1 with
    | stuck => rw [hx] at h1; exact h1
    | ret r s3 => rw [hx] at h1; exact h1
    | retO ts s3 => rw [hx] at h1; exact h1
    | exc d σ3 s3 => rw [hx] at h1; exact fun w3 H3 σV3 pins u sh g3 L3 T => h1 w3 H3 σV3 pins u sh g3 (l2.trans L3) T
    | next σ3 s3 =>
      rw [hx] at h1
      intro w3 H3 σV3 g3 L3
      obtain ⟨SO3, SF3⟩ := SO2.monoS L3 g2.sto g2.fr SF2
      exact ⟨w3, σ3, s3, g3, SO3, SF3, WantS.mono (l2.trans L3) h1⟩
  · have ei : i = ts.length := by omega
    subst ei
    rw [List.drop_length] at h1
    exact .inl ⟨SO1.stop, h1 w1 H1 σV1 g1 LeS.refl⟩
theorem zabd {i j : Nat} {b : B} (h : (lock σ i)[j]? = some (some b)) : (σ[j]? = some (some b) ∧ (i = j → ∀ ts, b ≠ .own ts)) ∨ (i = j ∧ ∃ ts, b = .lck ts ∧ σ[i]? = some (some (.own ts))) := by
  unfold lock at h
  split at h
  · rename_i ts e
    rcases zaaf h with ⟨rfl, z, _⟩ | ⟨ne, z⟩
    · exact .inr ⟨rfl, ts, by cases z; rfl, e⟩
    · exact .inl ⟨z, fun q => absurd q ne⟩
  · rename_i hn
    refine .inl ⟨h, fun q ts z => ?_⟩
    subst q z
    exact hn ts h
theorem zabg {i j : Nat} {b : B} (h : (unlock σ i)[j]? = some (some b)) : σ[j]? = some (some b) ∨ (i = j ∧ ∃ ts, b = .own ts ∧ σ[i]? = some (some (.lck ts))) := by
  unfold unlock at h
  split at h
  · rename_i ts e
    rcases zaaf h with ⟨rfl, z, _⟩ | ⟨ne, z⟩
    · exact .inr ⟨rfl, ts, by cases z; rfl, e⟩
    · exact .inl z
  · exact .inl h
theorem lock_len (σ : Fr) (i : Nat) : (lock σ i).length = σ.length := by unfold lock; split <;> simp
theorem zaen (σ : Fr) (i : Nat) : (unlock σ i).length = σ.length := by unfold unlock; split <;> simp
theorem FrOk.relock (F : FrOk G w H H₀ σ σV) (hl : σ'.length = σ.length) (hr : ∀ (j : Nat) (b : B), σ'[j]? = some (some b) → σ[j]? = some (some b) ∨ ∃ b' ts, σ[j]? = some (some b') ∧ ownL b = some ts ∧ ownL b' = some ts) : FrOk G w H H₀ σ' σV where
  len := hl.trans F.len
  val := fun j t e => by
    rcases hr j _ e with z | ⟨b', ts, _, z, _⟩
    · exact F.val j t z
    · cases z
  own := fun j b ts e eb => by
    rcases hr j _ e with z | ⟨b', us, z1, z2, z3⟩
    · exact F.own j b ts z eb
    · rw [eb] at z2
      cases z2
      exact F.own j b' ts z1 z3
  apart := fun j k b c ts us a hjk e1 eb e2 ec e3 e4 => by
    have old : ∀ {j : Nat} {b : B} {ts : List T}, σ'[j]? = some (some b) → ownL b = some ts → ∃ b', σ[j]? = some (some b') ∧ ownL b' = some ts := fun {j b ts} e eb => by
      rcases hr j _ e with z | ⟨b', us, z1, z2, z3⟩
      · exact ⟨b, z, eb⟩
      · rw [eb] at z2
        cases z2
        exact ⟨b', z1, z3⟩
    obtain ⟨b', y1, y2⟩ := old e1 eb
    obtain ⟨c', y3, y4⟩ := old e2 ec
    exact F.apart j k b' c' ts us a hjk y1 y2 y3 y4 e3 e4
  bor := fun j ts e => by
    rcases hr j _ e with z | ⟨b', us, _, z, _⟩
    · exact F.bor j ts z
    · cases z
theorem Good.lock {s : Sto} (g : Good G w₀ H₀ w H σ s σV) (i : Nat) : Good G w₀ H₀ w H (lock σ i) s σV := ⟨g.sto, g.fr.relock (lock_len σ i) fun j b e => by
  rcases zabd e with ⟨z, _⟩ | ⟨rfl, ts, rfl, z⟩
  · exact .inl z
  · exact .inr ⟨_, ts, z, rfl, rfl⟩, g.ent⟩
theorem Good.unlock {s : Sto} (g : Good G w₀ H₀ w H σ s σV) (i : Nat) : Good G w₀ H₀ w H (unlock σ i) s σV := ⟨g.sto, g.fr.relock (zaen σ i) fun j b e => by
  rcases zabg e with z | ⟨rfl, ts, rfl, z⟩
  · exact .inl z
  · exact .inr ⟨_, ts, z, rfl, rfl⟩, g.ent⟩
theorem LeS.unlock {i : Nat} (hi : isOwn σ i = true) (L : LeS w w' H H' (lock σ i) σ' σV σV') : LeS w w' H H' σ (unlock σ' i) σV σV' where
  n := L.n
  io := L.io
  Z := L.Z
  keep := fun a o e nl no => L.keep a o e nl fun ⟨j, ts, e1, e2⟩ => by
    rcases zabd e1 with ⟨z, _⟩ | ⟨_, us, z, _⟩
    · exact no ⟨j, ts, z, e2⟩
    · cases z
  newL := L.newL
  some_ := L.some_
  own := fun a ⟨j, ts, e1, e2⟩ => by
    rcases zabg e1 with z | ⟨rfl, us, z1, z2⟩
    · rcases L.own a ⟨j, ts, z, e2⟩ with ⟨k, us, y1, y2⟩ | y
      · rcases zabd y1 with ⟨z, _⟩ | ⟨_, vs, z, _⟩
        · exact .inl ⟨k, us, z, y2⟩
        · cases z
      · exact .inr y
    · obtain ⟨⟨vs, y1⟩, y2⟩ := L.lk i us z2
      unfold isOwn at hi
      split at hi
      · rename_i xs ex
        rw [e2] at y2
        exact .inl ⟨i, xs, ex, y2.symm⟩
      · cases hi
  lk := fun j ts e => by
    rcases zabg e with z | ⟨_, us, z, _⟩
    · obtain ⟨⟨us, y1⟩, y2⟩ := L.lk j ts z
      rcases zabd y1 with ⟨y, _⟩ | ⟨rfl, vs, _, y⟩
      · exact ⟨⟨us, y⟩, y2⟩
      · exfalso
        unfold IP.unlock at e
        split at e
        · rename_i q
          rcases zaaf e with ⟨_, q2, _⟩ | ⟨ne, _⟩
          · cases q2
          · exact ne rfl
        · rename_i q
          exact q ts e
    · cases z
theorem WantS.unlock {i : Nat} {r : SR} {D : Ends} (hi : isOwn σ i = true) (h : WantS G X w₀ H₀ w H σ σV (r.unlock i) D) : WantS G X w₀ H₀ w H (lock σ i) σV r D := by
  cases r with
  | stuck => exact h
  | ret r s => exact h
  | retO ts s => exact h
  | next σ1 s1 => exact fun w' H' σV' g L => h w' H' σV' (g.unlock i) (L.unlock hi)
  | exc c σ1 s1 => exact fun w' H' σV' pins u sh g L T => h w' H' σV' pins u sh (g.unlock i) (L.unlock hi) T
theorem lst_of {x : R} {ts : List T} (h : x.lst? = some ts) : x = .val (.lst ts) := by
  match x, h with
  | .val (.lst us), h => cases h; rfl
theorem sS_for {tg iter : Expr} {it' : E} {g : Tg} {b : List Stmt} {b' : List S} (hp : PassesOwn (model X.prog X.w) X.A X.env X.xe) (hc : X.calm = true) (hI : PI X tg iter (tI G X C it' .j true)) (hg : PG X tg (gTg G g)) (hb : PSs X b (tSs G X C b'))
    (hs : ∀ x, foldedSetIterable iter X.env x = pure x) (hit : ∀ i, it' ≠ .var i) : PS X (.For tg iter b [] pos) (tS G X C (.for_ g it' b')) := by
  refine PS.imp (ps_for hp hc hI hg hb hs) ?_
  rintro D σV H ⟨w₀, H₀, w, σ, s, gd, h⟩
  have h : WantS G X w₀ H₀ w H σ σV ((ev C it' .j σ s).st σ fun x s1 => onS x.lst? fun ts => forL g (fun σ s => exs C b' σ s) ts σ s1) D := by
    cases it' <;> first | exact h | exact absurd rfl (hit _)
  refine ⟨w₀, H₀, w, σ, s, gd, ?_⟩
  cases he : ev C it' .j σ s with
  | stuck => rw [he] at h; exact h.elim
  | exc c s1 => rw [he] at h; exact fun w1 H1 pins u sh L S T => h w1 H1 σV pins u sh (gd.step L S) (LeS.of L) T
  | ok x s1 =>
    rw [he] at h
    obtain ⟨ts, ht, h⟩ := onS_w (show WantS G X w₀ H₀ w H σ σV (onS x.lst? fun ts => forL g (fun σ s => exs C b' σ s) ts σ s1) D from h)
    cases lst_of ht
    intro w1 H1 src L S SO
    have g1 := gd.step L S
    refine zaa3 (X := X) (tg := tg) (b := b) (z := true) (K := X.K) g1 SO ?_ (WantS.mono (LeS.of L) h)
    cases src with
    | l a vs => exact g1.fr.notOwnZ (SO.2.2.2 rfl)
    | t a vs => exact True.intro
    | r lo n => exact True.intro
theorem sS_forV {tg : Expr} {x : Str} {xp : Pos} {i : Nat} {g : Tg} {b : List Stmt} {b' : List S} (hp : PassesOwn (model X.prog X.w) X.A X.env X.xe) (hc : X.calm = true) (hN : X.N[i]? = some x) (hv : Vis X.env.scope x) (hd : (x == ("__debug__" : Str)) = false) (hcd : (x == ("__classdict__" : Str)) = false)
    (hg : PG X tg (gTg G g)) (hb : PSs X b (tSs G X C b')) (hs : ∀ y, foldedSetIterable (.Name x xp) X.env y = pure y) : PS X (.For tg (.Name x xp) b [] pos) (tS G X C (.for_ g (.var i) b')) := by
  refine PS.imp (ps_for hp hc (pi_seq (pe_var hN hv hd hcd)) hg hb hs) ?_
  rintro D σV H ⟨w₀, H₀, w, σ, s, gd, h⟩
  have h : WantS G X w₀ H₀ w H σ σV ((ev C (.var i) .i σ s).st σ fun x s1 => onS x.lst? fun ts => if isOwn σ i then (forL g (fun σ s => exs C b' σ s) ts (lock σ i) s1).unlock i else forL g (fun σ s => exs C b' σ s) ts σ s1) D := h
  have hev : ev C (.var i) .i σ s = (Res.of (look σ i) s).bind fun x s => .of (x.sq2.map fun ts => .val (.lst ts)) s := rfl
  rw [hev] at h
  cases hl : look σ i with
  | none => rw [hl] at h; exact h.elim
  | some r =>
    rw [hl] at h
    have h : WantS G X w₀ H₀ w H σ σV ((Res.of (r.sq2.map fun ts => .val (.lst ts)) s).st σ fun x s1 => onS x.lst? fun ts => if isOwn σ i then (forL g (fun σ s => exs C b' σ s) ts (lock σ i) s1).unlock i else forL g (fun σ s => exs C b' σ s) ts σ s1) D := h
    cases hq : r.sq2 with
    | none => rw [hq] at h; exact h.elim
    | some ts =>
      rw [hq] at h
      have h : WantS G X w₀ H₀ w H σ σV (if isOwn σ i then (forL g (fun σ s => exs C b' σ s) ts (lock σ i) s).unlock i else forL g (fun σ s => exs C b' σ s) ts σ s) D := h
      unfold look at hl
      split at hl
      · rename_i t et
        cases hl
        obtain ⟨v, e1, e2⟩ := gd.fr.val i t et
        have no : isOwn σ i = false := by unfold isOwn; rw [et]
        rw [no] at h
        match t, hq, e2 with
        | .lst us, hq, ⟨a, vs, ev, hz, hr, rp⟩ =>
          cases hq
          subst ev
          exact ⟨_, e1, a, rfl, .inl ⟨vs, hr, zaa3 (X := X) (tg := tg) (b := b) (z := false) (src := .l a vs) (K := X.K) gd ⟨hr, rp, gd.sto.zLoc hz, fun z => by cases z⟩ (gd.fr.notOwnZ hz) h⟩⟩
        | .tup us, hq, ⟨a, vs, ev, hr, rp⟩ =>
          cases hq
          subst ev
          exact ⟨_, e1, a, rfl, .inr ⟨vs, hr, zaa3 (X := X) (tg := tg) (b := b) (z := false) (src := .t a vs) (K := X.K) gd ⟨hr, rp⟩ True.intro h⟩⟩
      · rename_i us et
        cases hl
        cases hq
        obtain ⟨a, vs, e1, e2, e3, e4, e5, e6⟩ := gd.fr.own i _ ts et rfl
        have ho : isOwn σ i = true := by unfold isOwn; rw [et]
        rw [ho] at h
        have h : WantS G X w₀ H₀ w H σ σV ((forL g (fun σ s => exs C b' σ s) ts (lock σ i) s).unlock i) D := h
        refine ⟨_, e1, a, rfl, .inl ⟨vs, .inl e2, zaa3 (X := X) (tg := tg) (b := b) (z := false) (src := .l a vs) (K := X.K) (gd.lock i) ⟨.inl e2, e3, e6, fun z => by cases z⟩ (fun ⟨j, qs, y1, y2⟩ => ?_) (WantS.unlock ho h)⟩⟩
        rcases zabd y1 with ⟨z, z'⟩ | ⟨_, xs, z, _⟩
        · by_cases hij : i = j
          · exact z' hij qs rfl
          · exact gd.fr.apart i j _ _ ts qs a hij et rfl z rfl e1 y2
        · cases z
      · rename_i us et
        cases hl
        cases hq
        obtain ⟨a, vs, e1, e2, e3, e4, e6⟩ := gd.fr.bor i ts et
        have no : isOwn σ i = false := by unfold isOwn; rw [et]
        rw [no] at h
        refine ⟨_, e1, a, rfl, .inl ⟨vs, .inl e2, zaa3 (X := X) (tg := tg) (b := b) (z := false) (src := .l a vs) (K := X.K) gd ⟨.inl e2, e3, e6, fun z => by cases z⟩ (fun ⟨j, qs, y1, y2⟩ => ?_) h⟩⟩
        obtain ⟨a', xs, q1, _, _, q4, _⟩ := gd.fr.own j _ qs y1 rfl
        rw [y2] at q1
        cases q1
        exact e4 q4
      · rename_i us et
        cases hl
        cases hq
        obtain ⟨a, vs, e1, e2, e3, e4, e5, e6⟩ := gd.fr.own i _ ts et rfl
        have no : isOwn σ i = false := by unfold isOwn; rw [et]
        rw [no] at h
        refine ⟨_, e1, a, rfl, .inl ⟨vs, .inl e2, zaa3 (X := X) (tg := tg) (b := b) (z := false) (src := .l a vs) (K := X.K) gd ⟨.inl e2, e3, e6, fun z => by cases z⟩ (fun ⟨j, qs, y1, y2⟩ => ?_) h⟩⟩
        by_cases hij : i = j
        · subst hij; rw [et] at y1; cases y1
        · exact gd.fr.apart i j _ _ ts qs a hij et rfl y1 rfl e1 y2
      · cases hl
end
end IP
end
section
set_option Elab.async false
set_option linter.all false
set_option maxRecDepth 100000
namespace IP
open PySem PySem.Spec L2
open PyProof.Rows (subscriptTail)
section
variable {G : Gx} {X : Cx} {C : Cf} {w w' w₀ : Wo} {H H' H₀ : Hp} {σ σ' : Fr} {σV σV' : St} {a b e : Expr} {a' b' e' : E} {pos p p2 : Pos} {Q : VK} {i : Nat} {x : Str}
theorem WantO.mono {res : Res R} {w1 : Wo} {H1 : Hp} (L : Le w w1 H H1) (h : WantO G X σV w H res Q) : WantO G X σV w1 H1 res Q := by
  match res, h with
  | .stuck, h => exact h
  | .exc c s, h => exact fun w' H' pins u sh a b => h w' H' pins u sh (L.trans a) b
  | .ok (.val (.lst ts)) s, h =>
    intro w' H' a vs L' S ha r hn nz nl
    refine h w' H' a vs (L.trans L') S ha r ?_ nz nl
    cases q : H a with
    | none => rfl
    | some o => exact absurd hn (L.some_ a (by rw [q]; intro z; cases z))
  | .ok (.val .non) s, h => exact h
  | .ok (.val (.bl _)) s, h => exact h
  | .ok (.val (.int _)) s, h => exact h
  | .ok (.val (.str _)) s, h => exact h
  | .ok (.val (.tup _)) s, h => exact h
  | .ok (.val (.loc _)) s, h => exact h
  | .ok (.val (.exc _)) s, h => exact h
  | .ok (.bor _) s, h => exact h
theorem WantO.bind {m : Res R} {k : R → Sto → Res R} (h : WantO G X σV w H (m.bind k) Q) :
    Want G X σV w H m fun v H1 => ∃ w1 r s1, Le w w1 H H1 ∧ StoOk G w1 H1 s1 ∧ RepR G w1 H1 r v ∧ WantO G X σV w1 H1 (k r s1) Q := by
  cases m with
  | stuck => exact h
  | ok r s => exact fun w' H' v a b c => ⟨w', r, s, a, b, c, WantO.mono a h⟩
  | exc c s => exact h
theorem WantO.of {o : Option R} {s : Sto} (h : WantO G X σV w H (Res.of o s) Q) : ∃ ts, o = some (.val (.lst ts)) ∧ ∀ w' H' a vs, Le w w' H H' → StoOk G w' H' s → H' a = some (.lst vs) → Reps G w' H' ts vs → H a = none → ¬ w'.Z a → notLoc w' a → Q (.ref a) H' := by
  match o, h with
  | none, h => exact h.elim
  | some (.val (.lst ts)), h => exact ⟨ts, rfl, h⟩
  | some (.val .non), h => exact h.elim
  | some (.val (.bl _)), h => exact h.elim
  | some (.val (.int _)), h => exact h.elim
  | some (.val (.str _)), h => exact h.elim
  | some (.val (.tup _)), h => exact h.elim
  | some (.val (.loc _)), h => exact h.elim
  | some (.val (.exc _)), h => exact h.elim
  | some (.bor _), h => exact h.elim
theorem sV_of (hE : PE X e (tO G X C e')) (hfr : ∀ σ s r s1, ev C e' .v σ s = .ok r s1 → ∃ ts, r = .val (.lst ts)) : PE X e (tV G X C e') :=
  PE.imp hE fun σV H Q ⟨w₀, H₀, w, σ, s, g, h⟩ => ⟨w₀, H₀, w, σ, s, g, want_o (hfr σ s) h⟩
theorem sO_lst {es : List Expr} {es' : List E} (h : PA X es (tA G X C es')) (hz : es'.length ≤ sizeLine) : PE X (.List es pos) (tO G X C (.lst es')) := by
  refine PE.imp (pe_lst h) ?_
  rintro σV H Q ⟨w₀, H₀, w, σ, s, g, h⟩
  have h : WantO G X σV w H ((evs C es' σ s).bind fun ts s1 => .ok (.val (.lst ts)) s1) Q := h
  refine ⟨w₀, H₀, w, σ, s, g, ?_⟩
  cases hf : evs C es' σ s with
  | stuck => rw [hf] at h; exact h
  | exc c s2 => rw [hf] at h; exact h
  | ok ts s2 =>
    rw [hf] at h
    intro w2 H2 vs L2 S2 R2
    refine ⟨by rw [← R2.length, zada C _ _ _ _ _ hf]; exact hz, ?_⟩
    exact fin_own S2 R2 (WantO.mono L2 h)
end
end IP
end
section
set_option Elab.async false
set_option linter.all false
set_option maxRecDepth 100000
namespace IP
open PySem PySem.Spec L2
section
variable {G : Gx} {X : Cx} {C : Cf} {w w' w₀ : Wo} {H H' H₀ : Hp} {σ σ' : Fr} {σV σV' : St} {a b e : Expr} {a' b' e' : IP.E} {pos p p2 : Pos} {Q : VK} {i : Nat} {x : Str}
def spG (G : Gx) (cf : Nat → List R → Sto → Res R) (fr : Nat → Bool) (f : Nat) : Sp := fun vs H Q E => ∃ w s rs, StoOk G w H s ∧ RepRs G w H rs vs ∧ match cf f rs s with
  | .stuck => False
  | .ok r s' => (fr f = false → ∀ w' H' v, Le w w' H H' → StoOk G w' H' s' → RepR G w' H' r v → Q v H') ∧
      (fr f = true → ∃ ts, r = .val (.lst ts) ∧ ∀ w' H' a vs, Le w w' H H' → StoOk G w' H' s' → H' a = some (.lst vs) → Reps G w' H' ts vs → H a = none → ¬ w'.Z a → notLoc w' a → Q (.ref a) H')
  | .exc c s' => ∀ w' H', Le w w' H H' → StoOk G w' H' s' → E (.ref (G.cA c)) none H'
variable {k fi : Nat} {fa : Addr} {fd : FuncData} {ps : List Str} {e₀ : Expr} {es : List Expr} {es' : List IP.E} {rs : List R} {vs : List V}
end
section
variable {fs : List Fn} {sub : Nat → Nat → Bool} {k fi : Nat}
variable {G : Gx} {P : Program} {w : World} {K : PySem.W.Frag} {mg : Str → Option Value} {base : Heap}
theorem zaa9 {F : Fn} {rs : List R} {i : Nat} {b : B} (h : (enter F rs)[i]? = some (some b)) : ∃ r, rs[i]? = some r ∧ ofR r = b := by
  unfold enter at h
  by_cases hi : i < rs.length
  · rw [List.getElem?_append_left (by simpa using hi), List.getElem?_map] at h
    cases q : rs[i]? with
    | none => rw [q] at h; cases h
    | some r => rw [q] at h; cases h; exact ⟨r, rfl, rfl⟩
  · rw [List.getElem?_append_right (by simpa using hi), List.getElem?_replicate] at h
    split at h <;> cases h
theorem RepRs.get {wo : Wo} {H : Hp} : ∀ {rs : List R} {vs : List V} {i : Nat} {r : R}, RepRs G wo H rs vs → rs[i]? = some r → ∃ v, vs[i]? = some v ∧ RepR G wo H r v
  | [], _, i, t, h, e => by simp at e
  | t :: ts, _, 0, u, ⟨v, r, e, h, q⟩, z => by subst e; simp at z; subst z; exact ⟨v, rfl, h⟩
  | t :: ts, _, i + 1, u, ⟨v, r, e, h, q⟩, z => by
    subst e
    obtain ⟨x, h1, h2⟩ := RepRs.get q (i := i) (r := u) (by simpa using z)
    exact ⟨x, by simpa using h1, h2⟩
theorem zacx {N : List Str} {vs : List V} {i : Nat} {v : V} (h : vs[i]? = some v) : (L2.start N vs)[i]? = some (some v) := by
  unfold L2.start
  have hi := (List.getElem?_eq_some_iff.mp h).1
  rw [List.getElem?_append_left (by simpa using hi), List.getElem?_map, h]
  rfl
theorem zad3 {wo : Wo} {H : Hp} {s : Sto} {F : Fn} {rs : List R} {vs : List V} {N : List Str} (S : StoOk G wo H s) (R1 : RepRs G wo H rs vs) (hs : F.size = N.length) : Good G wo H wo H (enter F rs) s (L2.start N vs) := by
  refine ⟨S, ⟨?_, fun i t e => ?_, fun i b ts e eb => ?_, fun i j b c ts us a ne e eb => ?_, fun i ts e => ?_⟩, Le.refl _ _⟩
  · unfold enter L2.start
    rw [List.length_append, List.length_append, List.length_map, List.length_map, List.length_replicate, List.length_replicate, hs, R1.length]
  · obtain ⟨r, hr, q⟩ := zaa9 e
    obtain ⟨v, hv, rv⟩ := R1.get hr
    cases r with
    | val u => cases q; exact ⟨v, zacx hv, rv⟩
    | bor u => cases q
  · obtain ⟨r, hr, q⟩ := zaa9 e
    cases r <;> subst q <;> cases eb
  · obtain ⟨r, hr, q⟩ := zaa9 e
    cases r <;> subst q <;> cases eb
  · obtain ⟨r, hr, q⟩ := zaa9 e
    obtain ⟨v, hv, rv⟩ := R1.get hr
    cases r with
    | val u => cases q
    | bor u =>
      cases q
      obtain ⟨a, xs, e1, e2, e3, e4⟩ := rv
      subst e1
      exact ⟨a, xs, zacx hv, e2, e3, (by rw [e2]; intro z; cases z), e4⟩
end
end IP
end
section
set_option Elab.async false
set_option linter.all false
set_option maxRecDepth 100000
namespace IP
open PySem PySem.Spec L2
theorem zaan {h : Heap} {as : List Addr} {b : Addr} {o : Obj} : (PySem.W.hideAll h as).get? b = some o ↔ h.get? b = some o ∧ b ∉ as := by
  refine ⟨fun e => ⟨PySem.W.of_hideAll as e, fun z => ?_⟩, fun ⟨e, n⟩ => PySem.W.hideAll_get as e n⟩
  rw [PySem.W.hideAll_none as z] at e
  cases e
section
variable {G : Gx} {X : Cx} {pins : List (Addr × Obj)} {σV : St} {H : Hp} {c : Nat} {u : Value} {sh : Shared}
theorem zaee {s : Shared} (I : Inv X pins σV H s) : X.base.StaysIn (PySem.W.hideAll s.heap (frs X.stack)) := fun b o e =>
  zaan.mpr ⟨I.bk b o e, fun z => by have := (I.stack.mem z).1; rw [e] at this; cases this⟩
theorem zadt {s : Shared} (I : Inv X pins σV H s) {h' : Heap} {e : Addr} {args : List Value} (hm : Heap.MadeExcOf s.heap h' e (.ref (G.cA c)) args) : Thrown G X pins σV H c (.ref e) { s with heap := h' } :=
  ⟨e, s.heap, PySem.W.hideAll s.heap (frs X.stack), rfl, I, ⟨fun _ _ => zaan, fun b o q _ => hm.keeps b o q, fun b o q _ => ⟨o.slots, hm.keeps b o q⟩, hm.new⟩, zaee I, .inl ⟨args, hm⟩⟩
theorem fun_cov {base h B : Heap} {as : List Addr} (hc : ∀ b o, B.get? b = some o → b ∉ as) : ∀ {l : List Env}, h.FunFrames base l → (∀ b ∈ frs l, b ∈ as) → h.FunFrames B l
  | [], _, _ => trivial
  | env :: l, ⟨hk, ⟨L, o, hf, _, ho, hd⟩, hr⟩, hin => by
    have hL : L ∈ as := hin L (by unfold frs; rw [List.filterMap_cons, hf]; exact List.mem_cons_self)
    refine ⟨hk, ⟨L, o, hf, ?_, ho, hd⟩, fun_cov hc hr fun b hb => hin b ?_⟩
    · cases q : B.get? L with
      | none => rfl
      | some z => exact absurd hL (hc L z q)
    · unfold frs
      rw [List.filterMap_cons, hf]
      exact List.mem_cons_of_mem _ hb
theorem Flt.next {stack : List Env} {base h B h1 h2 : Heap} {e : Addr} (F : Flt stack h B e h1) (hf : h.FunFrames base stack) (st : B.StaysIn h2) (sm : h1.UpToSlots h2) : Flt stack h B e h2 where
  cov := F.cov
  keep := fun b o q n => st b o ((F.cov b o).mpr ⟨q, n⟩)
  slot := fun b o q n => by
    obtain ⟨sl, e1⟩ := F.slot b o q n
    obtain ⟨_, o', ho', hd⟩ := hf.mem n
    rw [q] at ho'
    cases ho'
    obtain ⟨sl', e2⟩ := sm b _ e1 hd
    exact ⟨sl', e2⟩
  new := F.new
theorem note_made {M : Model} {A : Around} {E : Value → Shared → Prop} {s : Shared} {B h : Heap} {env : Env} {outer : List Env} {L e : Addr} {cls : Value} {args : List Value} {Q : Unit → Shared → Prop}
    (hfr : A.frames = some (env :: outer)) (hf : env.frame = some L) (hkb : B.StaysIn h) (hl : h.FunFrames B (env :: outer)) (hx : Heap.MadeExcOf h s.heap e cls args)
    (hQ : ∀ h' t, Heap.HeldW B (env :: outer) e cls t L h' → s.heap.UpToSlots h' → Q () { s with heap := h' }) : wpAny M A (noteFrame (.ref e) env) Q E s := by
  obtain ⟨t, he, htn, ht⟩ := hx.there
  have hen : B.get? e = none := by
    cases hq : B.get? e with
    | none => rfl
    | some o' => have := hkb e o' hq; rw [hx.new] at this; cases this
  unfold noteFrame
  simp only [hf]
  refine wpAny_bind (wpAny_field (x := .none) he rfl rfl ?_)
  rw [if_neg (by decide)]
  refine wpAny_entryW (a0 := .ref t) hfr (hl.of_keeps fun b o hb _ => ⟨o, hx.keeps b o hb, rfl⟩) hf he (fun b o hb => hx.keeps b o (hkb b o hb)) hen rfl (by simp) rfl fun h' hN => ?_
  obtain ⟨k1, k2, k3, k4⟩ := hN
  exact hQ h' (.ref t) ⟨k1, hen, k2, k3⟩ k4
theorem zabm {E E' : Value → Shared → Prop} {Q : Unit → Shared → Prop} (hst : X.stack = X.env :: X.outer ∧ X.env.frame = some X.env.locals) (T : Thrown G X pins σV H c u sh)
    (hQ : ∀ e h B h' t, u = .ref e → Inv X pins σV H { sh with heap := h } → Flt X.stack h B e h' → X.base.StaysIn B → Heap.FlyingW B X.stack e (.ref (G.cA c)) t h' → Q () { sh with heap := h' }) :
    wpAny (model X.prog X.w) X.A (noteFrame u X.env) (fun _ s2 => wpAny (model X.prog X.w) X.A (setFlight u none) Q E s2) E' sh := by
  obtain ⟨e, h, B, rfl, I, F, sb, T⟩ := T
  have hff : h.FunFrames X.base X.stack := I.stack
  have hfr : X.A.frames = some (X.env :: X.outer) := by rw [I.ok.frames, hst.1]
  have fB : h.FunFrames B X.stack := fun_cov (fun b o q => ((F.cov b o).mp q).2) hff fun _ z => z
  have land : ∀ (h1 : Heap) (t : Value), Heap.HeldW B X.stack e (.ref (G.cA c)) t X.env.locals h1 → sh.heap.UpToSlots h1 → wpAny (model X.prog X.w) X.A (setFlight (.ref e) none) Q E { sh with heap := h1 } := fun h1 t hh sm => by
    refine wpAny_landsW (s := { sh with heap := h1 }) hh fun h2 hfl sm2 => ?_
    exact hQ e h B h2 t rfl I (F.next hff hfl.1 (sm.trans sm2)) sb hfl
  rcases T with ⟨args, hm⟩ | ⟨t, hf⟩ | ⟨t, L, hL, hh⟩
  · rw [hst.1] at fB
    refine note_made hfr hst.2 (fun b o q => ((F.cov b o).mp q).1) fB hm fun h1 t hh sm => ?_
    rw [← hst.1] at hh
    exact land h1 t hh sm
  · rw [hst.1] at hf
    refine wpAny_looks_onW hfr hst.2 hf fun h1 hh sm => ?_
    rw [← hst.1] at hh
    exact land h1 t hh sm
  · have eL : L = X.env.locals := Option.some.inj (hL.symm.trans hst.2)
    subst eL
    exact wpAny_noteFrame_againW hst.2 hh.2.2.2 (land sh.heap t hh (.refl _))
theorem zacg {M : Model} {A : Around} {E : Value → Shared → Prop} {s : Shared} {env : Env} {u : Value} {Q : Unit → Shared → Prop} (h : wpAny M A (noteFrame u env) (fun _ s2 => wpAny M A (setFlight u none) Q E s2) E s) : wpAny M A (leaving env u) Q E s := by
  unfold leaving
  exact wpAny_bind h
theorem zab9 {h B h' : Heap} {e : Addr} (I : Inv X pins σV H { sh with heap := h }) (F : Flt X.stack h B e h') : Inv X pins σV H { sh with heap := h' } := by
  have nfr : ∀ b, H b ≠ none → b ∉ frs X.stack := fun b n z => n (I.stkFree b z)
  have upsl : ∀ b o, h.get? b = some o → ∃ sl, h'.get? b = some { o with slots := sl } := fun b o q => by
    by_cases z : b ∈ frs X.stack
    · exact F.slot b o q z
    · exact ⟨o.slots, F.keep b o q z⟩
  have ncell : ∀ {b : Addr} {v : Option Value}, h.IsCell b v → h'.IsCell b v := fun {b v} ⟨o, q, d⟩ => by
    obtain ⟨sl, e⟩ := upsl b o q
    exact ⟨_, e, d⟩
  have old : ∀ b o, X.s₀.heap.get? b = some o → b ∉ X.fs → b ∉ frs X.stack := fun b o q n z => by
    rcases List.mem_cons.mp (I.stkSub b z) with r | r
    · rw [r] at q
      exact absurd (Heap.lt_size q) (Nat.not_lt.mpr I.ok.above)
    · exact n r
  refine ⟨I.ok, I.os, I.bare, ⟨fun b o q n hb hx => ?_, fun b o q n hb hx => ?_, I.base.free, fun b o q hx => ?_, I.base.tups, I.base.frzs, I.base.tbls⟩, ?_, fun x c q => ?_, I.free, I.freeC, fun p hp => ?_, fun a o q => ?_, I.len⟩
  · exact F.keep b o (I.base.keep b o q n hb hx) (old b o q hb)
  · obtain ⟨sl, e1⟩ := I.base.slot b o q n hb hx
    obtain ⟨sl', e2⟩ := upsl b _ e1
    exact ⟨sl', e2⟩
  · obtain ⟨o', e1⟩ := I.base.there b o q hx
    obtain ⟨sl', e2⟩ := upsl b _ e1
    exact ⟨_, e2⟩
  · obtain ⟨m, ⟨o, es, ep, ho, hd, r⟩, hl⟩ := I.loc
    obtain ⟨sl, e1⟩ := upsl _ o ho
    refine ⟨m, ⟨_, es, ep, e1, hd, r⟩, fun i x v h1 h2 h3 => ?_⟩
    obtain ⟨w, rv, lk⟩ := hl i x v h1 h2 h3
    refine ⟨w, rv, ?_⟩
    rcases lk with lk | ⟨lk, cc, lc, ic⟩
    · exact .inl lk
    · exact .inr ⟨lk, cc, lc, ncell ic⟩
  · obtain ⟨v, ic⟩ := I.cell x c q
    exact ⟨v, ncell ic⟩
  · obtain ⟨p1, p2, p3, p4, p5⟩ := I.pin p hp
    refine ⟨F.keep p.1 p.2 p1 fun z => ?_, p2, p3, p4, p5⟩
    rcases List.mem_cons.mp (I.stkSub _ z) with r | r
    · exact p3 r
    · exact p4 r
  · refine (I.hok a o q).stay (fun b v hb r => F.keep b v r (nfr b ?_)) (fun _ r => r) fun _ _ r => r
    rcases hb with rfl | hb
    · rw [q]; intro z; cases z
    · rw [hb]; intro z; cases z
end
end IP
end
section
set_option Elab.async false
set_option linter.all false
set_option maxRecDepth 100000
namespace IP
open PySem PySem.Spec L2
section
variable {G : Gx} {X : Cx} {C : Cf} {pins : List (Addr × Obj)} {σV : St} {H : Hp} {c : Nat} {u : Value} {sh : Shared}
theorem hok_hide {P : Program} {w : World} {h : Heap} {L : Addr} (k : HOk P w H h) (n : H L = none) : HOk P w H (PySem.W.hideAll h [L]) := fun a o q => by
  refine (k a o q).stay (fun b v hb r => zaan.mpr ⟨r, fun z => ?_⟩) (fun _ r => r) fun _ _ r => r
  have z : b = L := by simpa using z
  subst z
  rcases hb with rfl | hb
  · rw [n] at q; cases q
  · rw [n] at hb; cases hb
theorem zadw {P : Program} {w : World} {K : PySem.W.Frag} {mg : Str → Option Value} {base : Heap} {N : List Str} {qual : Str} {scope : Scope} {f : Addr} {cd : Value} {A : Around} {outer : List Env} {s : Shared} {H₁ : Hp} {E : XK}
    (T : Thrown G (cxOf (CXE G P w base) P w K mg base N qual scope f cd A outer s H₁ E) pins σV H c u sh) (hE : E (.ref (G.cA c)) none H) : (cxOf (CXE G P w base) P w K mg base N qual scope f cd A outer s H₁ E).xe u sh := by
  refine zacg (zabm (X := cxOf (CXE G P w base) P w K mg base N qual scope f cd A outer s H₁ E) ⟨rfl, rfl⟩ T fun e h B h' t eu I F sb fly => ?_)
  have hL : H s.heap.objs.size = none := I.free
  have un := I.base
  obtain ⟨f1, f2, ⟨_, _, f3⟩, f4⟩ := fly
  have hne : ∀ b, b < s.heap.objs.size → b ∉ [s.heap.objs.size] := fun b hb z => by
    have : b = s.heap.objs.size := by simpa using z
    omega
  refine ⟨e, _, t, H, PySem.W.hideAll h [s.heap.objs.size], B, eu, I.os, I.bare, ⟨fun b o q n hb hx => ?_, fun b o q n hb hx => ?_, un.free, fun b o q hx => ?_, un.tups, un.frzs, un.tbls⟩, hok_hide I.hok hL, ⟨fun b o => ?_, fun b o q n => ?_, fun b o q n => ?_, ?_⟩, sb, ⟨f1, f2, f3, f4⟩, hE⟩
  · exact zaan.mpr ⟨un.keep b o q n hb hx, hne b (Heap.lt_size q)⟩
  · obtain ⟨sl, z⟩ := un.slot b o q n hb hx
    exact ⟨sl, zaan.mpr ⟨z, hne b (Heap.lt_size q)⟩⟩
  · obtain ⟨o', z⟩ := un.there b o q hx
    exact ⟨o', zaan.mpr ⟨z, hne b (Heap.lt_size q)⟩⟩
  · rw [F.cov b o, zaan]
    have efs : b ∈ frs (cxOf (CXE G P w base) P w K mg base N qual scope f cd A outer s H₁ E).stack ↔ b ∈ [s.heap.objs.size] ∨ b ∈ frs outer := by
      show b ∈ s.heap.objs.size :: frs outer ↔ _
      simp
    rw [efs]
    exact ⟨fun ⟨a, z⟩ => ⟨⟨a, fun y => z (.inl y)⟩, fun y => z (.inr y)⟩, fun ⟨⟨a, y⟩, z⟩ => ⟨a, fun y' => y'.elim y z⟩⟩
  · obtain ⟨a, y⟩ := zaan.mp q
    refine F.keep b o a fun z => ?_
    rcases List.mem_cons.mp (show b ∈ s.heap.objs.size :: frs outer from z) with r | r
    · exact y (by simp [r])
    · exact n r
  · obtain ⟨a, y⟩ := zaan.mp q
    exact F.slot b o a (List.mem_cons_of_mem _ n)
  · cases q : (PySem.W.hideAll h [s.heap.objs.size]).get? e with
    | none => rfl
    | some o => have := (zaan.mp q).1; rw [F.new] at this; cases this
theorem passes_leave {Q : Value → Unit → Shared → Prop} {E₁ : Value → Value → Shared → Prop} (hx : X.xe = fun e s => wpAny (model X.prog X.w) X.A (leaving X.env e) (Q e) (E₁ e) s) : PassesOwn (model X.prog X.w) X.A X.env X.xe := by
  intro e s' h
  rw [hx] at h
  have h2 := wpAny_leaving_again (A' := X.A) (A'' := X.A) (SameStack.refl X.A) (what := "frame.own-activation:exception-without-traceback") (E₂ := X.xe) (E₃ := cameBackBy (model X.prog X.w) X.A X.env X.xe) h
  refine wpAny_mono h2 (fun _ s1 q => ?_) fun _ _ z => z
  refine wpAny_mono q (fun _ s2 z => ?_) fun _ _ z => z
  show X.xe e s2
  rw [hx]
  exact z
end
end IP
end
section
set_option Elab.async false
set_option linter.all false
set_option maxRecDepth 100000
namespace IP
open PySem PySem.Spec L2
section
variable {G : Gx} {X : Cx} {C : Cf} {w w' w₀ : Wo} {H H' H₀ : Hp} {σ σ' : Fr} {σV σV' : St} {a b e : Expr} {a' b' e' : IP.E} {pos p p2 : Pos} {Q : VK} {i : Nat} {x : Str}
variable {k fi : Nat} {fa : Addr} {fd : FuncData} {ps : List Str} {e₀ : Expr} {es : List Expr} {es' : List IP.E} {rs : List R} {vs dvs : List V} {ds : List Value} {dts : List T}
theorem spG_vE {H1 : Hp} {w1 : Wo} {s1 : Sto} (hf : C.fr fi = false) (L1 : Le w w1 H H1) (S1 : StoOk G w1 H1 s1) (R1 : RepRs G w1 H1 rs vs) (h : Want G X σV w H (C.cf fi rs s1) Q) : spG G C.cf C.fr fi vs H1 Q (EX G X σV) := by
  refine ⟨w1, s1, rs, S1, R1, ?_⟩
  have h := Want.mono L1 h
  cases hc : C.cf fi rs s1 with
  | stuck => rw [hc] at h; exact h
  | ok r s' => rw [hc] at h; exact ⟨fun _ => h, fun z => by rw [hf] at z; cases z⟩
  | exc c s' =>
    rw [hc] at h
    intro w' H' L S pins u sh hh B a t e I fl sb fly
    exact h w' H' pins u sh L S ⟨a, hh, B, e, I, fl, sb, .inr (.inl ⟨t, fly⟩)⟩
theorem sV_callX (hf : C.fr fi = false) (F : FnOk X.prog X.w X.K X.mg X.base (CXE G X.prog X.w X.base) k fa fd ps (spG G C.cf C.fr fi)) (hr : Room k X.A) (hg : Gl X x) (hm : X.mg x = some (.ref fa)) (hk : PySem.W.keepIn X.K (.ref fa) = true) (hb : Binds X.K fd ps ds) (hd : Vals dvs ds)
    (hdt : dts.mapM cstV = some dvs) (ha : PA X (e₀ :: es) (tR G X C es')) (hdb : (x == ("__debug__" : Str)) = false) (he : starEach (e₀ :: es) X.env = (false, eval e₀ X.env) :: starEach es X.env) (hpl : (backTo pos (starEach es X.env)).any (·.1) = false) :
    PE X (.Call (.Name x p) (e₀ :: es) [] pos) (tV G X C (.call fi es' dts)) := by
  rintro pins s σV H Q I ⟨w₀, H₀, w, σ, st, g, h⟩
  have h : Want G X σV w H ((evr C es' σ st).bind fun rs s1 => C.cf fi (rs ++ dts.map .val) s1) Q := h
  refine wpAny_Call_Name_kw (zacy I hg hm ?_ hdb)
  refine PySem.W.callWith_K (h₀ := X.base) I.ok.mod.kin hk (thn (ha pos pins s σV H _ I ⟨w₀, H₀, w, σ, st, g, zaej h⟩) fun us s1 ⟨vs, H1, I1, r, q⟩ => ⟨I1.kIn, ?_⟩) he hpl
  obtain ⟨w1, rs, st1, L1, S1, R1, h1⟩ := q
  exact run_call F hr hb hd I1 r (spG_vE hf L1 S1 (zabk R1 (zadc hdt)) h1) (passes_of I1)
end
structure FunD (K : PySem.W.Frag) (x qual : Str) (st : Stmt) (f : Addr) (fd : FuncData) : Prop where
  ex : ∃ (oc : Value) (od : Option Addr) (dV kV doc pm : Value) (an : Option Addr) (cdv ct : Value) (osl : Array (Option Value)),
    fd = PySem.W.fnOf x qual (zaah st) (zaag st) (zaaa st) dV kV doc pm an cdv ct ∧ K.lookup f = some ⟨oc, od, .func fd, osl⟩ ∧ PySem.W.codeIn K cdv qual = true
  kp : PySem.W.keepIn K (.ref f) = true
theorem zaau {K : PySem.W.Frag} {x qual : Str} {st : Stmt} {f : Addr} {oc : Value} {od an : Option Addr} {osl : Array (Option Value)} {dV kV doc pm cdv ct : Value} (l : K.lookup f = some ⟨oc, od, .func (PySem.W.fnOf x qual (zaah st) (zaag st) (zaaa st) dV kV doc pm an cdv ct), osl⟩)
    (c : PySem.W.codeIn K cdv qual = true) (k : PySem.W.keepIn K (.ref f) = true) : FunD K x qual st f (PySem.W.fnOf x qual (zaah st) (zaag st) (zaaa st) dV kV doc pm an cdv ct) := ⟨⟨oc, od, dV, kV, doc, pm, an, cdv, ct, osl, rfl, l, c⟩, k⟩
section
variable {fs : List Fn} {sub : Nat → Nat → Bool} {k fi : Nat}
variable {G : Gx} {P : Program} {w : World} {K : PySem.W.Frag} {mg : Str → Option Value} {base : Heap}
theorem zaai {CX : CXT} {f : Addr} {fd : FuncData} {ps : List Str} {k : Nat} : FnOk P w K mg base CX k f fd ps (spG G (run true fs sub whileL 0) (frOf fs) fi) :=
  ⟨fun vs H Q E ⟨_, _, _, _, _, z⟩ => z.elim, fun A outer s H args us vs Q E hr e0 hb hv ⟨_, _, _, _, _, z⟩ => z.elim⟩
@[reducible] noncomputable def cfX (fs : List Fn) (sub : Nat → Nat → Bool) (k : Nat) : Cf := ⟨run true fs sub whileL k, sub, frOf fs, whileL⟩
theorem fn_okL {x qual : Str} {st : Stmt} {f : Addr} {fd : FuncData} {N ps : List Str} {F : Fn} (Fu : FunD K x qual st f fd) (S : FnScope N ps (zaaa st)) (hF : fs[fi]? = some F) (hp : F.pars = ps.length) (hs : F.size = N.length)
    (hbody : ∀ (cdv : Value) (A : Around) (outer : List Env) (s : Shared) (H : Hp) (E : XK), fd.code = cdv → Room (2 * k + 1) (A.deeper (PyProof.Rows.envOfC qual (zaaa st) s.heap.objs.size f cdv)) →
      PSs (cxOf (CXE G P w base) P w K mg base N qual (zaaa st) f cdv A outer s H E) (zaag st) (tSs G (cxOf (CXE G P w base) P w K mg base N qual (zaaa st) f cdv A outer s H E) (cfX fs sub k) F.body)) :
    FnOk P w K mg base (CXE G P w base) (2 * (k + 1)) f fd ps (spG G (run true fs sub whileL (k + 1)) (frOf fs) fi) := by
  have hrun : ∀ rs s, run true fs sub whileL (k + 1) fi rs s = if rs.length = F.pars then leave true F.fr (exs (cfX fs sub k) F.body (enter F rs) s) else .stuck := fun rs s => by
    conv => lhs; unfold run
    rw [hF]
  have hfr : frOf fs fi = F.fr := by unfold frOf; rw [hF]
  obtain ⟨oc, od, dV, kV, doc, pm, an, cdv, ct, osl, rfl, lk, hcd⟩ := Fu.ex
  refine fn_of (k := 2 * k + 1) lk hcd S (fun vs H Q E h => ?_) fun A outer s H vs Q E hr h => ⟨_, hbody cdv A outer s H E rfl hr, ?_⟩
  · obtain ⟨wo, st, rs, S1, R1, h⟩ := h
    rw [hrun] at h
    by_cases hl : rs.length = F.pars
    · exact R1.length.symm.trans (hl.trans hp)
    · rw [if_neg hl] at h; exact h.elim
  · obtain ⟨wo, st, rs, S1, R1, h⟩ := h
    rw [hrun] at h
    by_cases hl : rs.length = F.pars
    · rw [if_pos hl] at h
      refine ⟨wo, H, wo, enter F rs, st, zad3 S1 R1 hs, ?_⟩
      rw [hfr] at h
      cases hx : exs (cfX fs sub k) F.body (enter F rs) st with
      | stuck => rw [hx] at h; exact h.elim
      | next σ' s' =>
        rw [hx] at h
        cases hb : F.fr with
        | true => rw [hb] at h; exact h.elim
        | false => rw [hb] at h; exact fun w' H' σV' g L => h.1 rfl w' H' .non g.ent g.sto rfl
      | ret r s' =>
        rw [hx] at h
        cases hb : F.fr with
        | true => rw [hb] at h; exact h.elim
        | false => rw [hb] at h; exact fun w' H' v S R L => h.1 rfl w' H' v L S R
      | retO ts s' =>
        rw [hx] at h
        cases hb : F.fr with
        | false => rw [hb] at h; exact h.elim
        | true =>
          rw [hb] at h
          obtain ⟨us, e, q⟩ := h.2 rfl
          cases e
          exact fun w' H' a vs S ha r hn nz nl L => q w' H' a vs L S ha r hn nz nl
      | exc c σ' s' =>
        rw [hx] at h
        exact fun w' H' σV' pins u sh g L T => zadw T (h w' H' g.ent g.sto)
    · rw [if_neg hl] at h; exact h.elim
theorem fn_okX {x qual : Str} {st : Stmt} {f : Addr} {fd : FuncData} {N ps : List Str} {F : Fn} (Fu : FunD K x qual st f fd) (S : FnScope N ps (zaaa st)) (hF : fs[fi]? = some F) (hp : F.pars = ps.length) (hs : F.size = N.length)
    (hbody : ∀ (cdv : Value) (A : Around) (outer : List Env) (s : Shared) (H : Hp) (E : XK), Room (2 * k + 1) (A.deeper (PyProof.Rows.envOfC qual (zaaa st) s.heap.objs.size f cdv)) →
      PSs (cxOf (CXE G P w base) P w K mg base N qual (zaaa st) f cdv A outer s H E) (zaag st) (tSs G (cxOf (CXE G P w base) P w K mg base N qual (zaaa st) f cdv A outer s H E) (cfX fs sub k) F.body)) :
    FnOk P w K mg base (CXE G P w base) (2 * (k + 1)) f fd ps (spG G (run true fs sub whileL (k + 1)) (frOf fs) fi) :=
  fn_okL Fu S hF hp hs fun cdv A outer s H E _ hr => hbody cdv A outer s H E hr
end
end IP
end
section
set_option Elab.async false
set_option linter.all false
set_option maxRecDepth 100000
namespace IP
open PySem PySem.Spec L2
theorem exc_obj {K : PySem.W.Frag} {h : Heap} {Ca : Addr} {bB : List Value} {nid : String} (hK : K.In h) (q : PySem.W.excIn K Ca bB nid = true) :
    ∃ bm N nm qn bs hdct sn sub ab col dd k0 k1 k2 k3 k5 mN, h.get? Ca = some (excClassObj nm qn Ca N bs bm hdct sn sub ab col dd k0 k1 k2 k3 k5 nid) ∧ h.Ns N mN ∧ mN "__init__" = none ∧ OwnTail h bB bm := by
  unfold PySem.W.excIn at q
  split at q
  · rename_i d1 cl sl ho
    split at q
    · rename_i Cb tl u0 u1 u2 u3 nn u5 em es
      simp only [Bool.and_eq_true, beq_iff_eq, Bool.not_eq_true'] at q
      obtain ⟨⟨⟨⟨⟨q1, q2⟩, q3⟩, q4⟩, q5⟩, q6⟩ := q
      subst q1 q2
      obtain ⟨nm0, bs0, mro0, ns0, qn0, hd0, sn0, sub0, ab0, col0, del0⟩ := cl
      dsimp only at em q3 q5 q6
      subst em q3
      have hg := hK _ _ ho
      have esl : sl = #[u0, u1, u2, u3, some (.builtin nn), u5] := by
        apply Array.toList_inj.mp
        rw [es]
      subst esl
      exact ⟨tl, ns0, nm0, qn0, bs0, hd0, sn0, sub0, ab0, col0, d1, u0, u1, u2, u3, u5, _, hg, .of_isNs (PySem.W.isNs_of_in hK q5), PySem.W.nsMap_none_of_in hK q5 q6, PySem.W.tail_of_in hK q4⟩
    · cases q
  · cases q
section
variable {G : Gx} {X : Cx} {C : Cf} {w w' w₀ : Wo} {H H' H₀ : Hp} {σ σ' : Fr} {σV σV' : St} {c : Nat} {x : Str} {np cpos pos mp : Pos} {m : Str} {j : Nat}
theorem sS_raise {bB : List Value} {B nid iid : String} (hc : X.calm = true) (hg : Gl X x) (hm : X.mg x = some (.ref (G.cA c))) (hq : PySem.W.excIn X.K (G.cA c) bB nid = true) (FB : ExcBaseFacts B nid iid bB) (hdb : (x == ("__debug__" : Str)) = false)
    (he : starEach [.Constant (.str m) j mp] X.env = [(false, eval (.Constant (.str m) j mp) X.env)]) : PS X (.Raise (some (.Call (.Name x np) [.Constant (.str m) j mp] [] cpos)) none pos) (tS G X C (.raise c)) := by
  rintro pins s σV H D I ⟨w₀, H₀, w, σ, st, g, h⟩
  have hx : ∀ u sh, Thrown G X pins σV H c u sh → X.xe u sh := fun u sh T => h w H σV pins u sh g LeS.refl T
  obtain ⟨tl, N, nm, qn, bs, hdct, sn, sub, ab, col, dd, k0, k1, k2, k3, k5, mN, hC, hN, hni, T⟩ := exc_obj (I.ok.mod.kin) hq
  refine wpAny_Raise_call_subT (C := G.cA c) (nm := nm) (q := qn) (N := N) (bs := bs) (bm := tl) (hdct := hdct) (sn := sn) (sub := sub) (ab := ab) (col := col) (dd := dd) (k0 := k0) (k1 := k1) (k2 := k2) (k3 := k3) (k5 := k5)
    FB (mN := mN) (T.hasType FB.hasBase) (I.ok.hd hc) (by rw [he]; rfl) hni (zacy I hg hm ⟨rfl, ?_⟩ hdb)
  have ha : PA X [.Constant (.str m) j mp] (tCons (tC (.str m)) tNil) := zaak pe_str pa_nil (by rw [he]; rfl)
  have z := ha cpos pins s σV H (fun vs H1 => vs = [.str m] ∧ H1 = H) I ⟨rfl, rfl⟩
  rw [he] at z ⊢
  refine PySem.Calls.evalArgs_plain (wpAny_mono z (fun vs s₂ h₂ => ?_) fun _ _ y => y)
  obtain ⟨ws, H1, I1, rv, rfl, rfl⟩ := h₂
  have hl := rv.length
  refine ⟨rfl, ?_, I1.bk _ _ hC, hN.keeps I1.bk, T.keeps I1.bk, fun h' e hmd => hx _ _ (zadt I1 hmd)⟩
  show vs.length ≤ sizeLine
  rw [← hl]
  show 1 ≤ sizeLine
  decide
end
section
variable {M : Model} {A : Around} {E : Value → Shared → Prop} {s : Shared} {env : Env}
theorem try_leave {body orelse : Sem Flow} {h₀ : ExceptHandler} {hs : List ExceptHandler} {Q : Flow → Shared → Prop}
    (h : wpAny M A body (fun f s₁ => match f with | .next => wpAny M A orelse Q E s₁ | f => Q f s₁)
      (fun e s₁ => wpAny M A (leaving env e) (fun _ s₃ => wpAny M A (handleBy e env (h₀ :: hs)) Q E s₃) E s₁) s) :
    wpAny M A (tryStmt false body (h₀ :: hs) orelse [] env) Q E s := by
  have e0 : tryStmt false body (h₀ :: hs) orelse [] env = (body.attempt >>= fun r => match r with
      | .ok .next => orelse
      | .ok f => pure f
      | .error e => leaving env e >>= fun _ => handleBy e env (h₀ :: hs)) := by
    unfold tryStmt
    simp only [List.isEmpty_nil, if_true, List.isEmpty_cons, Bool.false_and, Bool.false_eq_true, if_false, bind_pure]
    congr 1
    funext r
    cases r with
    | error e => unfold leaving; simp only [bind_assoc, pure_bind]
    | ok f => cases f <;> rfl
  rw [e0]
  refine wpAny_bind (wpAny_attempt (wpAny_mono h (fun f s₁ h₁ => ?_) fun e s₁ h₁ => ?_))
  · cases f <;> first | exact h₁ | exact wpAny_pure h₁
  · exact wpAny_bind h₁
end
end IP
end
section
set_option Elab.async false
set_option linter.all false
set_option maxRecDepth 100000
namespace IP
open PySem PySem.Spec L2
def Wo.addL (w : Wo) (a : Addr) : Wo := { n := w.n + 1, io := fun k => if k = w.n then a else w.io k, Z := w.Z }
theorem zaao {w : Wo} {a : Addr} {l : Nat} (h : l < w.n) : (w.addL a).io l = w.io l := by
  show (if l = w.n then a else w.io l) = w.io l
  rw [if_neg (Nat.ne_of_lt h)]
theorem zabc {w : Wo} {a : Addr} : (w.addL a).io w.n = a := by
  show (if w.n = w.n then a else w.io w.n) = a
  rw [if_pos rfl]
section
variable {G : Gx} {X : Cx} {C : Cf} {w w' w₀ : Wo} {H H' H₀ : Hp} {σ σ' : Fr} {σV σV' : St} {s : Sto} {a : Addr} {l : Nat}
theorem kp_addL : Kp w (w.addL a) H H := ⟨Nat.le_succ _, fun l h => zaao h, fun _ z => z, fun _ _ _ r => r, fun _ _ e => e, fun _ _ e => e⟩
theorem CellOk.addL {b : Addr} : ∀ {c : Cell}, CellOk G w H b c → CellOk G (w.addL a) H b c
  | .lst ts, ⟨vs, h, r⟩ => ⟨vs, h, Reps.kp kp_addL ts vs r⟩
  | .ins c fs, ⟨dx, kvs, h, z, k⟩ => ⟨dx, kvs, h, z, fun i x t h1 h2 => let ⟨v, q1, q2⟩ := k i x t h1 h2; ⟨v, q1, Rep.kp kp_addL t v q2⟩⟩
  | .tbl k p q, h => h
theorem StoOk.addL {c : Cell} (S : StoOk G w H s) (hc : CellOk G (w.addL a) H a c) (nz : ¬ w.Z a) (nl : IP.notLoc w a) : StoOk G (w.addL a) H (s ++ [c]) where
  len := by rw [List.length_append, S.len]; rfl
  inj := fun i j hi hj e => by
    have hi : i < w.n + 1 := hi
    have hj : j < w.n + 1 := hj
    by_cases h1 : i < w.n
    · by_cases h2 : j < w.n
      · rw [zaao h1, zaao h2] at e
        exact S.inj i j h1 h2 e
      · have : j = w.n := by omega
        subst this
        rw [zaao h1, zabc] at e
        exact absurd e.symm (nl i h1)
    · have : i = w.n := by omega
      subst this
      by_cases h2 : j < w.n
      · rw [zaao h2, zabc] at e
        exact absurd e (nl j h2)
      · omega
  nz := fun i hi z => by
    have hi : i < w.n + 1 := hi
    by_cases h1 : i < w.n
    · rw [zaao h1] at z
      exact S.nz i h1 z
    · have : i = w.n := by omega
      subst this
      rw [zabc] at z
      exact nz z
  cell := fun i d e => by
    by_cases h1 : i < w.n
    · rw [List.getElem?_append_left (by rw [S.len]; exact h1)] at e
      rw [zaao h1]
      exact CellOk.addL (S.cell i d e)
    · have hl := (List.getElem?_eq_some_iff.mp e).1
      rw [List.length_append, S.len] at hl
      have : i = w.n := by simp at hl; omega
      subst this
      rw [List.getElem?_append_right (by rw [S.len]; exact Nat.le_refl _), S.len, Nat.sub_self] at e
      cases e
      rw [zabc]
      exact hc
  zt := S.zt
theorem Le.addL (L : Le w w' H H') (ha : H a = none) : Le w (w'.addL a) H H' where
  n := Nat.le_trans L.n (Nat.le_succ _)
  io := fun i h => (zaao (Nat.lt_of_lt_of_le h L.n)).trans (L.io i h)
  Z := L.Z
  keep := L.keep
  newL := fun i h1 h2 => by
    have h2 : i < w'.n + 1 := h2
    by_cases h : i < w'.n
    · rw [zaao h]
      exact L.newL i h1 h
    · have : i = w'.n := by omega
      subst this
      rw [zabc]
      exact ha
  newZ := L.newZ
  some_ := L.some_
mutual
theorem Rep.updC {o o' : HO} (ha : H a = some o) (hz : ¬ w.Z a) (ht : ∀ vs, o ≠ .tup vs) (hx : ∀ φ, o ≠ .ext φ) : ∀ (t : T) (v : V), Rep G w H t v → Rep G w (L2.upd H a o') t v
  | .non, v, h => h
  | .bl b, v, h => h
  | .int i, v, h => h
  | .str x, v, h => h
  | .tup ts, v, ⟨p, vs, e, h, r⟩ => ⟨p, vs, e, by rw [upd_ne (fun q => by rw [q, ha] at h; exact ht vs (Option.some.inj h))]; exact h, Reps.updC ha hz ht hx ts vs r⟩
  | .lst ts, v, ⟨p, vs, e, z, h, r⟩ => by
    have ne : p ≠ a := fun q => hz (q ▸ z)
    refine ⟨p, vs, e, z, ?_, Reps.updC ha hz ht hx ts vs r⟩
    rcases h with h | ⟨o, h⟩
    · exact .inl (by rw [upd_ne ne]; exact h)
    · exact .inr ⟨o, by rw [upd_ne ne]; exact h⟩
  | .loc l, v, h => h
  | .exc c, v, ⟨p, e, h⟩ => ⟨p, e, by rw [upd_ne (fun q => by rw [q, ha] at h; exact hx _ (Option.some.inj h))]; exact h⟩
theorem Reps.updC {o o' : HO} (ha : H a = some o) (hz : ¬ w.Z a) (ht : ∀ vs, o ≠ .tup vs) (hx : ∀ φ, o ≠ .ext φ) : ∀ (ts : List T) (vs : List V), Reps G w H ts vs → Reps G w (L2.upd H a o') ts vs
  | [], vs, h => h
  | t :: ts, vs, ⟨v, r, e, h, q⟩ => ⟨v, r, e, Rep.updC ha hz ht hx t v h, Reps.updC ha hz ht hx ts r q⟩
end
theorem StoOk.setC {o o' : HO} {c : Cell} (S : StoOk G w H s) (hl : l < w.n) (ha : H (w.io l) = some o) (ht : ∀ vs, o ≠ .tup vs) (hx : ∀ φ, o ≠ .ext φ) (hc : CellOk G w (L2.upd H (w.io l) o') (w.io l) c) : StoOk G w (L2.upd H (w.io l) o') (s.set l c) where
  len := by rw [List.length_set]; exact S.len
  inj := S.inj
  nz := S.nz
  cell := fun i d e => by
    by_cases hi : l = i
    · subst hi
      rw [List.getElem?_set_self (by rw [S.len]; exact hl)] at e
      cases e
      exact hc
    · rw [List.getElem?_set_ne hi] at e
      have hin : i < w.n := by rw [← S.len]; exact (List.getElem?_eq_some_iff.mp e).1
      have ne : w.io i ≠ w.io l := fun q => hi (S.inj i l hin hl q).symm
      have nz := S.nz l hl
      have q := S.cell i d e
      cases d with
      | lst ts => obtain ⟨vs, q1, q2⟩ := q; exact ⟨vs, by rw [upd_ne ne]; exact q1, Reps.updC ha nz ht hx ts vs q2⟩
      | ins c fs => obtain ⟨dx, kvs, q1, q2, q3⟩ := q; exact ⟨dx, kvs, by rw [upd_ne ne]; exact q1, q2, fun i x t h1 h2 => let ⟨v, z1, z2⟩ := q3 i x t h1 h2; ⟨v, z1, Rep.updC ha nz ht hx t v z2⟩⟩
      | tbl k p q' => obtain ⟨q0, ps, q1, q2, q3⟩ := q; exact ⟨q0, ps, by rw [upd_ne ne]; exact q1, q2, fun cv hcv => let ⟨c, e1, e2⟩ := q3 cv hcv; ⟨c, e1, by rw [upd_ne (ne_of e2 ha (fun z => hx _ z.symm))]; exact e2⟩⟩
  zt := fun p z => by
    obtain ⟨vs, r⟩ := S.zt p z
    have ne : p ≠ w.io l := fun q => S.nz l hl (q ▸ z)
    rcases r with r | ⟨o, r⟩
    · exact ⟨vs, .inl (by rw [upd_ne ne]; exact r)⟩
    · exact ⟨vs, .inr ⟨o, by rw [upd_ne ne]; exact r⟩⟩
theorem Le.setC {o' : HO} (L : Le w w' H H') (hl : l < w'.n) (hs : H' (w'.io l) ≠ none) : Le w w' H (L2.upd H' (w'.io l) o') where
  n := L.n
  io := L.io
  Z := L.Z
  keep := fun p q e nl => by
    have ne : p ≠ w'.io l := fun z => by
      by_cases h : l < w.n
      · exact nl l h (z.trans (L.io l h))
      · have := L.newL l (Nat.le_of_not_lt h) hl
        rw [← z, e] at this
        cases this
    rw [upd_ne ne]
    exact L.keep p q e nl
  newL := L.newL
  newZ := L.newZ
  some_ := fun p z => by
    by_cases e : p = w'.io l
    · rw [e, zaae]; intro q; cases q
    · rw [upd_ne e]; exact L.some_ p z
theorem Good.setC {o o' : HO} {c : Cell} (g : Good G w₀ H₀ w H σ s σV) (hl : l < w.n) (ha : H (w.io l) = some o) (ht : ∀ vs, o ≠ .tup vs) (hx : ∀ φ, o ≠ .ext φ) (hc : CellOk G w (L2.upd H (w.io l) o') (w.io l) c) :
    Good G w₀ H₀ w (L2.upd H (w.io l) o') σ (s.set l c) σV ∧ LeS w w H (L2.upd H (w.io l) o') σ σ σV σV := by
  have nz := g.sto.nz l hl
  have hn : H (w.io l) ≠ none := by rw [ha]; intro z; cases z
  refine ⟨⟨g.sto.setC hl ha ht hx hc, ⟨g.fr.len, fun i t e => ?_, fun i b ts e eb => ?_, g.fr.apart, fun i ts e => ?_⟩, g.ent.setC hl hn⟩, LeS.of ((Le.refl w H).setC hl hn)⟩
  · obtain ⟨v, h1, h2⟩ := g.fr.val i t e
    exact ⟨v, h1, Rep.updC ha nz ht hx t v h2⟩
  · obtain ⟨p, vs, h1, h2, h3, h4, h5, h6⟩ := g.fr.own i b ts e eb
    exact ⟨p, vs, h1, by rw [upd_ne (h6 l hl)]; exact h2, Reps.updC ha nz ht hx ts vs h3, h4, h5, h6⟩
  · obtain ⟨p, vs, h1, h2, h3, h4, h6⟩ := g.fr.bor i ts e
    exact ⟨p, vs, h1, by rw [upd_ne (h6 l hl)]; exact h2, Reps.updC ha nz ht hx ts vs h3, h4, h6⟩
end
end IP
end
section
set_option Elab.async false
set_option linter.all false
set_option maxRecDepth 100000
namespace IP
open PySem PySem.Spec L2
section
variable {G : Gx} {X : Cx} {C : Cf} {w w' w₀ : Wo} {H H' H₀ : Hp} {σ σ' : Fr} {σV σV' : St} {a b e j o : Expr} {a' b' e' j' : IP.E} {pos pos' p p1 p2 apos : Pos} {Q : VK} {i c f : Nat} {x m : Str}
variable {k fi : Nat} {fa : Addr} {fd : FuncData} {ps : List Str} {e₀ : Expr} {es : List Expr} {es' : List IP.E} {rs : List R} {vs dvs : List V} {ds : List Value} {dts : List T}
end
end IP
end
section
set_option Elab.async false
set_option linter.all false
set_option maxRecDepth 100000
namespace IP
open PySem PySem.Spec L2
abbrev hnd (X : Cx) (e : Addr) : Cx := { X with A := X.A.mark (some (.ref e)), calm := false, xe := fun _ _ => False }
section
variable {G : Gx} {X : Cx} {C : Cf} {pins : List (Addr × Obj)} {σV : St} {H : Hp} {c : Nat} {u : Value} {sh s : Shared} {e : Addr}
theorem ok_hnd (ok : X.Ok) : (hnd X e).Ok :=
  ⟨ok.mod, ok.kind, ok.glob, ok.blt, ok.above, ok.inj, ok.has, ok.cab, fun z => (by cases z), ok.frames, ok.stk, ok.exf, ok.bs, ok.bsz, ok.noex, ok.exfs, ok.funs, ok.frf⟩
theorem inv_hnd (I : Inv X pins σV H s) : Inv (hnd X e) pins σV H s := ⟨ok_hnd I.ok, I.os, I.bare, I.base, I.loc, I.cell, I.free, I.freeC, I.pin, I.hok, I.len⟩
theorem zaa7 (ok : X.Ok) (I : Inv (hnd X e) pins σV H s) : Inv X pins σV H s := ⟨ok, I.os, I.bare, I.base, I.loc, I.cell, I.free, I.freeC, I.pin, I.hok, I.len⟩
theorem zadn {P : Program} {w : World} {h : Heap} {a : Addr} {o : HO} (x : ObjOk P w H h a o) : ∃ q, h.get? a = some q := by
  cases o with
  | lst xs => obtain ⟨_, _, _, _, e⟩ := x; exact ⟨_, e⟩
  | tup xs => obtain ⟨_, _, _, ob, e, _⟩ := x; exact ⟨_, e⟩
  | dK kvs => obtain ⟨_, _, _, _, o, _, _, e, _⟩ := x; exact ⟨_, e⟩
  | dT kvs => obtain ⟨_, _, _, _, o, _, _, e, _⟩ := x; exact ⟨_, e⟩
  | set S n => obtain ⟨o, _, _, _, e, _⟩ := x; exact ⟨_, e⟩
  | ins C dx fs => obtain ⟨_, _, _, e, _⟩ := x; exact ⟨_, e⟩
  | own y => obtain ⟨_, e⟩ := x; exact ⟨_, e⟩
  | xd fs => obtain ⟨_, ⟨_, _, _, e, _⟩, _⟩ := x; exact ⟨_, e⟩
  | rng lo hi => obtain ⟨_, _, _, e⟩ := x; exact ⟨_, e⟩
  | frz ob v => obtain ⟨e, _⟩ := x; exact ⟨_, e⟩
  | tbl ps => exact ⟨_, (show h.get? a = some _ from x)⟩
  | met f y => exact ⟨_, (show h.get? a = some _ from x)⟩
  | ext φ => obtain ⟨_, ⟨_, e⟩, _⟩ := x; exact ⟨_, e⟩
theorem zaeq {h B h' : Heap} {Ca : Addr} {oe : Obj} (hex : X.ex = []) (I : Inv X pins σV H { sh with heap := h }) (F : Flt X.stack h B e h') (ho : h'.get? e = some oe) (hc : oe.cls = .ref Ca) :
    H e = none ∧ Inv X pins σV (upd H e (.ext (errAt e Ca))) { sh with heap := h' } := by
  have hn : H e = none := by
    cases q : H e with
    | none => rfl
    | some o => obtain ⟨z, hz⟩ := zadn (I.hok e o q); rw [F.new] at hz; cases hz
  have J := zab9 I F
  have new : ∀ b o, h.get? b = some o → b ≠ e := fun b o q z => by rw [z, F.new] at q; cases q
  have newc : ∀ {b : Addr} {v : Option Value}, h.IsCell b v → b ≠ e := fun {b v} ⟨o, q, _⟩ => new b o q
  refine ⟨hn, J.ok, J.os, J.bare, ⟨J.base.keep, J.base.slot, fun b o q n hx => ?_, J.base.there, fun b xs q => ?_, fun b o v q => ?_, fun b ps q => ?_⟩, J.loc, J.cell, ?_, fun x cc q => ?_, fun p hp => ?_, fun a o q => ?_, J.len⟩
  · obtain ⟨o', z⟩ := I.base.there b o q hx
    rw [upd_ne (new b o' z)]
    exact J.base.free b o q n hx
  · have z := J.base.tups b xs q
    rw [upd_ne (fun y => by rw [y, hn] at z; cases z)]
    exact z
  · have z := J.base.frzs b o v q
    rw [upd_ne (fun y => by rw [y, hn] at z; cases z)]
    exact z
  · obtain ⟨m, z⟩ := J.base.tbls b ps q
    exact ⟨m, by rw [upd_ne (fun y => by rw [y, hn] at z; cases z)]; exact z⟩
  · obtain ⟨m, ⟨o, es, ep, q, _⟩, _⟩ := I.loc
    rw [upd_ne (new _ o q)]
    exact J.free
  · obtain ⟨v, ic⟩ := I.cell x cc q
    rw [upd_ne (newc ic)]
    exact J.freeC x cc q
  · obtain ⟨p1, p2, p3, p4, p5⟩ := J.pin p hp
    refine ⟨p1, ?_, p3, p4, p5⟩
    rw [upd_ne (new _ _ (I.pin p hp).1)]
    exact p2
  · by_cases ha : a = e
    · subst ha
      rw [zaae] at q
      cases q
      exact ⟨⟨oe, ho, hc⟩, ⟨oe, ho⟩, fun h1 h2 ⟨o, q1, q2⟩ k => ⟨o, k o q1, q2⟩⟩
    · rw [upd_ne ha] at q
      refine (J.hok a o q).stay (fun _ _ _ r => r) (fun b r => ?_) fun b xs r => ?_
      · rw [upd_ne (fun y => by rw [y, hn] at r; cases r)]; exact r
      · rw [upd_ne (fun y => by rw [y, hn] at r; cases r)]; exact r
theorem unbind_ok {M : Model} {A : Around} {E : Value → Shared → Prop} {i : Nat} {x : Str} {v : V} {Q : Unit → Shared → Prop} (I : Inv X pins σV H s) (hN : X.N.Nodup) (hi : X.N[i]? = some x) (hx : X.env.scope.names.lookup x = some .local) (hv : σV[i]? = some (some v))
    (h : ∀ s', Inv X pins (σV.set i none) H s' → Q () s') : wpAny M A (unbindName X.env x) Q E s := by
  obtain ⟨m, hn, hl⟩ := id I.loc
  have hcls : (X.env.scope.kind == .class || (X.env.scope.kind == .module && X.env.locals != X.env.globals)) = false := by rw [I.ok.kind]; rfl
  obtain ⟨w, rw', lk⟩ := hl i x v hi hv (.inl hx)
  have hm : m x = some w := by
    rcases lk with ⟨_, z⟩ | ⟨z, _⟩
    · exact z
    · have z : X.env.scope.names.lookup x = some .cell ∨ X.env.scope.names.lookup x = some .free := z
      rw [hx] at z
      rcases z with z | z <;> cases z
  obtain ⟨oL, _, _, hoL, _⟩ := id hn
  have hne : ∀ {b : Addr} {o : Obj}, X.s₀.heap.get? b = some o → b ≠ X.env.locals := fun q z => by
    rw [z] at q
    exact absurd (Heap.lt_size q) (Nat.not_lt.mpr I.ok.above)
  refine wpAny_unbindName_local hx hn hm hcls fun h' u' hn' hs => ?_
  refine h _ ⟨I.ok, I.os, I.bare, ⟨fun b o q n hb hx => ?_, fun b o q n hb hx => ?_, I.base.free, fun b o q hx => ?_, I.base.tups, I.base.frzs, I.base.tbls⟩, ⟨_, hn', fun j y z e1 e2 e3 => ?_⟩, fun y cc q => ?_, I.free, I.freeC, fun p hp => ?_, fun a o q => ?_, ?_⟩
  · exact (hs.2 b (hne q)).trans (I.base.keep b o q n hb hx)
  · obtain ⟨sl, z⟩ := I.base.slot b o q n hb hx
    exact ⟨sl, (hs.2 b (hne q)).trans z⟩
  · obtain ⟨o', z⟩ := I.base.there b o q hx
    exact ⟨o', (hs.2 b (hne q)).trans z⟩
  · by_cases hj : i = j
    · subst hj
      have hlt : i < σV.length := (List.getElem?_eq_some_iff.mp hv).1
      rw [List.getElem?_set_self hlt] at e2
      cases e2
    · rw [List.getElem?_set_ne hj] at e2
      obtain ⟨w2, r2, q⟩ := hl j y z e1 e2 e3
      refine ⟨w2, r2, ?_⟩
      have ny : y ≠ x := fun e => hj (zacv hN hi (e ▸ e1))
      rcases q with ⟨k, q⟩ | ⟨k, cc, q, ic⟩
      · exact .inl ⟨k, (if_neg ny).trans q⟩
      · exact .inr ⟨k, cc, q, ic.sameBut hs (I.cne y cc q)⟩
  · obtain ⟨w2, ic⟩ := I.cell y cc q
    exact ⟨w2, ic.sameBut hs (I.cne y cc q)⟩
  · obtain ⟨p1, p2, p3, p4, p5⟩ := I.pin p hp
    exact ⟨(hs.2 p.1 p3).trans p1, p2, p3, p4, p5⟩
  · refine (I.hok a o q).stay (fun b r hb k => (hs.2 b ?_).trans k) (fun _ r => r) fun _ _ r => r
    rintro rfl
    rcases hb with rfl | hb
    · rw [I.free] at q; cases q
    · rw [I.free] at hb; cases hb
  · rw [List.length_set]; exact I.len
end
end IP
end
section
set_option Elab.async false
set_option linter.all false
set_option maxRecDepth 100000
namespace IP
open PySem PySem.Spec L2
abbrev tryX (X : Cx) (E : Value → Shared → Prop) (pn : List (Addr × Obj)) : Cx := { X with xe := E, pn := pn }
section
variable {G : Gx} {X : Cx} {C : Cf} {pins pins' : List (Addr × Obj)} {w w' w₀ : Wo} {H H' H₀ : Hp} {σ σ' : Fr} {σV σV' : St} {c : Nat} {u : Value} {sh s : Shared} {e : Addr} {E : Value → Shared → Prop}
theorem ok_try {pn : List (Addr × Obj)} (ok : X.Ok) : (tryX X E pn).Ok :=
  ⟨ok.mod, ok.kind, ok.glob, ok.blt, ok.above, ok.inj, ok.has, ok.cab, ok.hd, ok.frames, ok.stk, ok.exf, ok.bs, ok.bsz, ok.noex, ok.exfs, ok.funs, ok.frf⟩
theorem ok_untry {pn : List (Addr × Obj)} (ok : (tryX X E pn).Ok) : X.Ok :=
  ⟨ok.mod, ok.kind, ok.glob, ok.blt, ok.above, ok.inj, ok.has, ok.cab, ok.hd, ok.frames, ok.stk, ok.exf, ok.bs, ok.bsz, ok.noex, ok.exfs, ok.funs, ok.frf⟩
theorem inv_try (I : Inv X pins σV H s) : Inv (tryX X E (X.pn ++ pins)) [] σV H s :=
  ⟨ok_try I.ok, I.os, I.bare, I.base, I.loc, I.cell, I.free, I.freeC, fun p hp => I.pin p (by simpa using hp), I.hok, I.len⟩
theorem zaaz (I : Inv (tryX X E (X.pn ++ pins)) pins' σV H s) : Inv X pins σV H s :=
  ⟨ok_untry I.ok, I.os, I.bare, I.base, I.loc, I.cell, I.free, I.freeC, fun p hp => I.pin p (List.mem_append_left _ hp), I.hok, I.len⟩
theorem sp_untry {D : Ends} {f : Flow} {s' : Shared} (h : SP (tryX X E (X.pn ++ pins)) [] D f s') : SP X pins D f s' := by
  cases f with
  | next => obtain ⟨σ', H', I, q⟩ := h; exact ⟨σ', H', zaaz I, q⟩
  | brk => obtain ⟨σ', H', I, q⟩ := h; exact ⟨σ', H', zaaz I, q⟩
  | cont => obtain ⟨σ', H', I, q⟩ := h; exact ⟨σ', H', zaaz I, q⟩
  | ret u => obtain ⟨v, σ', H', I, r, q⟩ := h; exact ⟨v, σ', H', zaaz I, r, q⟩
theorem sp_unhnd {D : Ends} {f : Flow} {s' : Shared} (ok : X.Ok) (h : SP (hnd X e) pins D f s') : SP X pins D f s' := by
  cases f with
  | next => obtain ⟨σ', H', I, q⟩ := h; exact ⟨σ', H', zaa7 ok I, q⟩
  | brk => obtain ⟨σ', H', I, q⟩ := h; exact ⟨σ', H', zaa7 ok I, q⟩
  | cont => obtain ⟨σ', H', I, q⟩ := h; exact ⟨σ', H', zaa7 ok I, q⟩
  | ret u => obtain ⟨v, σ', H', I, r, q⟩ := h; exact ⟨v, σ', H', zaa7 ok I, r, q⟩
theorem wantS_hnd {r : SR} {D : Ends} (h : WantS G X w₀ H₀ w H σ σV r.nox D) : WantS G (hnd X e) w₀ H₀ w H σ σV r D := by
  cases r with
  | stuck => exact h
  | next σ1 s1 => exact h
  | ret r s1 => exact h
  | retO ts s1 => exact h
  | exc c σ1 s1 => exact h.elim
theorem FrOk.unset {i : Nat} (F : FrOk G w H H₀ σ σV) : FrOk G w H H₀ (σ.set i none) (σV.set i none) where
  len := by simp [F.len]
  val := fun j t e => by
    rcases zaaf e with ⟨_, z, _⟩ | ⟨ne, z⟩
    · cases z
    · obtain ⟨v, h1, h2⟩ := F.val j t z
      exact ⟨v, by rw [List.getElem?_set_ne ne]; exact h1, h2⟩
  own := fun j b ts e eb => by
    rcases zaaf e with ⟨_, z, _⟩ | ⟨ne, z⟩
    · cases z
    · obtain ⟨a, vs, h1, h2⟩ := F.own j b ts z eb
      exact ⟨a, vs, by rw [List.getElem?_set_ne ne]; exact h1, h2⟩
  apart := fun j k b c ts us a hjk e1 eb e2 ec e3 e4 => by
    rcases zaaf e1 with ⟨_, z, _⟩ | ⟨ne, z⟩
    · cases z
    · rcases zaaf e2 with ⟨_, z', _⟩ | ⟨ne', z'⟩
      · cases z'
      · rw [List.getElem?_set_ne ne] at e3
        rw [List.getElem?_set_ne ne'] at e4
        exact F.apart j k b c ts us a hjk z eb z' ec e3 e4
  bor := fun j ts e => by
    rcases zaaf e with ⟨_, z, _⟩ | ⟨ne, z⟩
    · cases z
    · obtain ⟨a, vs, h1, h2⟩ := F.bor j ts z
      exact ⟨a, vs, by rw [List.getElem?_set_ne ne]; exact h1, h2⟩
theorem try_to {body suite : List Stmt} {b' : List S} {y : Str} {yp hpos pos : Pos} {nm : Option Str} {b₀ : Stmt} (hst : X.stack = X.env :: X.outer ∧ X.env.frame = some X.env.locals) (hg : Gl X y) (hm : X.mg y = some (.ref (G.cA c))) (hdb : (y == ("__debug__" : Str)) = false)
    (hmt : ∀ d, PySem.W.exmOne X.K (.ref (G.cA d)) (.ref (G.cA c)) = some (C.sub d c))
    (hbody : ∀ (E : Value → Shared → Prop) (pn : List (Addr × Obj)), PassesOwn (model X.prog X.w) X.A X.env E → PSs (tryX X E pn) body (tSs G (tryX X E pn) C b')) {st : Sto} {D : Ends} {k : Nat → Fr → Sto → SR}
    (I : Inv X pins σV H s) (g : Good G w₀ H₀ w H σ st σV)
    (h : WantS G X w₀ H₀ w H σ σV (match exs C b' σ st with | .exc d σ1 s1 => if C.sub d c then k d σ1 s1 else .exc d σ1 s1 | r => r) D)
    (hk : ∀ (d : Nat) (σ1 : Fr) (s1 : Sto) (w1 : Wo) (H1 : Hp) (σV1 : St) (e : Addr) (h B h1 : Heap) (t : Value) (sh : Shared), Good G w₀ H₀ w1 H1 σ1 s1 σV1 → WantS G X w₀ H₀ w1 H1 σ1 σV1 (k d σ1 s1) D → Inv X pins σV1 H1 { sh with heap := h } → Flt X.stack h B e h1 → X.base.StaysIn B → Heap.FlyingW B X.stack e (.ref (G.cA d)) t h1 →
      codeAny (model X.prog X.w) (X.A.mark (some (.ref e))) (.handlers (.ref e) [.ExceptHandler none nm (b₀ :: suite) hpos] X.env) (fun r s₂ => match r with
          | .ok f => (match nm with
            | none => SP X pins D f s₂
            | some n => wpAny (model X.prog X.w) X.A (do bindName X.env n .none; unbindBehindTheSuite X.env n hpos) (fun _ s₃ => SP X pins D f s₃) X.xe s₂)
          | .error x => cameBackBy (model X.prog X.w) X.A X.env X.xe x s₂) { sh with heap := h1 }) :
    wpAny (model X.prog X.w) X.A (exec (.Try body [.ExceptHandler (some (.Name y yp)) nm (b₀ :: suite) hpos] [] [] pos) X.env) (SP X pins D) X.xe s := by
  rw [arm_exec_Try]
  refine wpAny_bind (wpAny_standAt (try_leave ?_))
  generalize hE2 : (fun (u : Value) (s₁ : Shared) => wpAny (model X.prog X.w) X.A (leaving X.env u) (fun _ s₃ => wpAny (model X.prog X.w) X.A (handleBy u X.env [.ExceptHandler (some (.Name y yp)) nm (b₀ :: suite) hpos]) (SP X pins D) X.xe s₃) X.xe s₁) = E2
  have hp : PassesOwn (model X.prog X.w) X.A X.env E2 := passes_leave (X := tryX X E2 []) (Q := fun u _ s₃ => wpAny (model X.prog X.w) X.A (handleBy u X.env [.ExceptHandler (some (.Name y yp)) nm (b₀ :: suite) hpos]) (SP X pins D) X.xe s₃) (E₁ := fun _ => X.xe) hE2.symm
  refine wpAny_mono (hbody E2 (X.pn ++ pins) hp [] s σV H D (inv_try I) ⟨w₀, H₀, w, σ, st, g, ?_⟩) (fun f s₁ q => ?_) fun u s₁ q => ?_
  · cases hx : exs C b' σ st with
    | stuck => rw [hx] at h; exact h
    | next σ1 s1 => rw [hx] at h; exact h
    | ret r s1 => rw [hx] at h; exact h
    | retO ts s1 => rw [hx] at h; exact h
    | exc d σ1 s1 =>
      rw [hx] at h
      intro w1 H1 σV1 pins' u sh g1 L1 T
      show E2 u sh
      rw [← hE2]
      refine zacg (zabm (X := tryX X E2 (X.pn ++ pins)) hst T fun e hh B h1 t eu I1 F sb fly => ?_)
      subst eu
      have J := zaaz I1
      have JL : Inv X pins σV1 H1 { sh with heap := h1 } := zab9 J F
      obtain ⟨ob, hob, hoc⟩ := fly.there
      have LT : PySem.W.Looks (model X.prog X.w) h1 (typeOf (.ref e)) (.ref (G.cA d)) := hoc ▸ (PySem.W.Looks.ld hob).andThen .now
      refine wpAny_handleBy_cons (codeAny_handlers_test (A := X.A.mark (some (.ref e))) (zacy (X := hnd X e) (inv_hnd JL) hg hm ?_ hdb)) (by intro q; cases q)
      refine (PySem.W.exm_one (M := model X.prog X.w) JL.kIn LT (hmt d)).at ?_
      cases hsb : C.sub d c with
      | true =>
        dsimp only at h
        rw [hsb] at h
        exact hk d σ1 s1 w1 H1 σV1 e hh B h1 t sh g1 (WantS.mono L1 h) J F sb fly
      | false =>
        dsimp only at h
        rw [hsb] at h
        have h : WantS G X w₀ H₀ w H σ σV (.exc d σ1 s1) D := h
        show wpAny _ _ (handleBy (.ref e) X.env []) _ _ _
        refine wpAny_handleBy_nil ?_
        obtain ⟨f1, f2, f3, oe, vs, Tb, oT, ts, he, hcl, hd, hv, hnT, hTe, hT, hdT, h3⟩ := id fly
        unfold passOn
        refine wpAny_bind (wpAny_field he hd hv ?_)
        rw [if_neg (show ¬ ((Value.ref Tb == Value.none) = true) from by simp)]
        have step : wpAny (model X.prog X.w) X.A (setFlight (.ref e) X.env.frame >>= fun _ => (throw (Value.ref e) : Sem Flow)) (SP X pins D) X.xe { sh with heap := h1 } := by
          rw [hst.2]
          refine wpAny_bind (PySem.W.setFlight_onW (s := { sh with heap := h1 }) fly fun h2 hh2 sm => ?_)
          refine wpAny_throw ?_
          have F2 : Flt X.stack hh B e h2 := F.next J.stack hh2.1 sm
          exact h w1 H1 σV1 pins (.ref e) { sh with heap := h2 } g1 L1 ⟨e, hh, B, rfl, J, F2, sb, .inr (.inr ⟨t, X.env.locals, hst.2, hh2⟩)⟩
        first
          | exact wpAny_bind (wpAny_pure step)
          | exact step
  · have q := sp_untry q
    cases f with
    | next => exact wpAny_execs_nil q
    | brk => exact q
    | cont => exact q
    | ret v => exact q
  · exact q
end
end IP
end
section
set_option Elab.async false
set_option linter.all false
set_option maxRecDepth 100000
namespace IP
open PySem PySem.Spec L2
section
variable {G : Gx} {X : Cx} {C : Cf} {pins pins' : List (Addr × Obj)} {w w' w₀ : Wo} {H H' H₀ : Hp} {σ σ' : Fr} {σV σV' : St} {c i : Nat} {u : Value} {sh s : Shared} {e : Addr} {E : Value → Shared → Prop}
variable {body suite : List Stmt} {b' h' : List S} {y n : Str} {yp hpos pos : Pos} {b₀ : Stmt}
theorem sS_tryN (hst : X.stack = X.env :: X.outer ∧ X.env.frame = some X.env.locals) (hex : X.ex = []) (hN : X.N.Nodup) (hi : X.N[i]? = some n) (hl : X.env.scope.names.lookup n = some .local) (hg : Gl X y) (hm : X.mg y = some (.ref (G.cA c))) (hdb : (y == ("__debug__" : Str)) = false)
    (hmt : ∀ d, PySem.W.exmOne X.K (.ref (G.cA d)) (.ref (G.cA c)) = some (C.sub d c))
    (hbody : ∀ (E : Value → Shared → Prop) (pn : List (Addr × Obj)), PassesOwn (model X.prog X.w) X.A X.env E → PSs (tryX X E pn) body (tSs G (tryX X E pn) C b'))
    (hsuite : ∀ e, PSs (hnd X e) (b₀ :: suite) (tSs G (hnd X e) C h')) : PS X (.Try body [.ExceptHandler (some (.Name y yp)) (some n) (b₀ :: suite) hpos] [] [] pos) (tS G X C (.try_ b' c (some i) h')) := by
  rintro pins s σV H D I ⟨w₀, H₀, w, σ, st, g, h⟩
  refine try_to (C := C) (c := c) (k := fun d σ1 s1 => (exs C h' (put σ1 i (.exc d)) s1).nox.bind fun σ2 s2 => .next (σ2.set i none) s2) hst hg hm hdb hmt hbody I g h fun d σ1 s1 w1 H1 σV1 e hh B h1 t sh g1 q J F sb fly => ?_
  refine codeAny_handlers_suite_as (PyProof.Rows.lands_againW (s := { sh with heap := h1 }) fly fun h2 fly2 sm => ?_)
  obtain ⟨ob, hob, hoc⟩ := fly2.there
  obtain ⟨hne, J2⟩ := zaeq hex J (F.next J.stack fly2.1 sm) hob hoc
  have L2 : Le w1 w1 H1 (upd H1 e (.ext (errAt e (G.cA d)))) := Le.new hne _
  have S2 := g1.sto.new hne (.ext (errAt e (G.cA d)))
  have g2 : Good G w₀ H₀ w1 (upd H1 e (.ext (errAt e (G.cA d)))) (put σ1 i (.exc d)) s1 (σV1.set i (some (.ref e))) := (g1.step L2 S2).put ⟨e, rfl, zaae⟩
  have l2 : LeS w1 w1 H1 (upd H1 e (.ext (errAt e (G.cA d)))) σ1 (put σ1 i (.exc d)) σV1 (σV1.set i (some (.ref e))) := (LeS.of L2).trans LeS.put
  have hiσ : i < σV1.length := by rw [J.len]; exact (List.getElem?_eq_some_iff.mp hi).1
  refine zab0 (v := .ref e) J2 hN hi (.inl hl) rfl (fun s3 J3 => ?_) (.inr hl)
  refine wpAny_mono (hsuite e pins s3 (σV1.set i (some (.ref e))) _ { D with nx := fun σ2 H2 => D.nx (σ2.set i none) H2, rt := D.rt, bk := fun _ _ => False, ct := fun _ _ => False } (inv_hnd J3) ⟨w₀, H₀, w1, put σ1 i (.exc d), s1, g2, ?_⟩) (fun f s₂ z => ?_) fun _ _ z => z.elim
  · refine wantS_hnd ?_
    have q := WantS.mono l2 q
    generalize hr : (exs C h' (put σ1 i (.exc d)) s1).nox = r at q
    cases r with
    | stuck => exact q
    | next σ2 s2 => exact fun w3 H3 σV3 g3 l3 => q w3 H3 (σV3.set i none) ⟨g3.sto, g3.fr.unset, g3.ent⟩ (l3.trans (LeS.set (by intro ts z; cases z) (by intro ts z; cases z)))
    | ret r s2 => exact q
    | retO ts s2 => exact q
    | exc cc σ2 s2 => exact q
  · have z := sp_unhnd J2.ok z
    have go : ∀ (σ2 : St) (H2 : Hp), Inv X pins σ2 H2 s₂ → ∀ Q : Shared → Prop, (∀ s4, Inv X pins (σ2.set i none) H2 s4 → Q s4) → wpAny (model X.prog X.w) X.A (do bindName X.env n .none; unbindBehindTheSuite X.env n hpos) (fun _ s₃ => Q s₃) X.xe s₂ := fun σ2 H2 K Q hQ => by
      have hi2 : i < σ2.length := by rw [K.len]; exact (List.getElem?_eq_some_iff.mp hi).1
      refine wpAny_bind (PySem.wpAny_bindName (zab0 (v := .non) K hN hi (.inl hl) rfl (fun s4 K4 => ?_) (.inr hl)))
      unfold unbindBehindTheSuite
      refine wpAny_onRaise (unbind_ok (v := .non) K4 hN hi hl (List.getElem?_set_self hi2) fun s5 K5 => ?_)
      rw [List.set_set] at K5
      exact hQ s5 K5
    cases f with
    | next =>
      obtain ⟨σ2, H2, K, z⟩ := z
      exact go σ2 H2 K _ fun s4 K4 => ⟨σ2.set i none, H2, K4, z⟩
    | brk => obtain ⟨σ2, H2, K, z⟩ := z; exact z.elim
    | cont => obtain ⟨σ2, H2, K, z⟩ := z; exact z.elim
    | ret v =>
      obtain ⟨x, σ2, H2, K, r, z⟩ := z
      exact go σ2 H2 K _ fun s4 K4 => ⟨x, σ2.set i none, H2, K4, r, z⟩
end
end IP
end
section
set_option Elab.async false
set_option linter.all false
set_option maxRecDepth 100000
namespace IP
open PySem PySem.W PySem.Spec PySem.Calls PyProof.Rows Builtin Builtin.ObjectAttr Builtin.Getset_descriptor
def Err (x D : Addr) (hp : Heap) : Prop := ∃ ob, hp.get? x = some ob ∧ ob.cls = .ref D
section
variable {KK : Frag} {x D : Addr}
theorem err_ty (M : Model) (hp : Heap) (p : Err x D hp) : Looks M hp (typeOf (.ref x)) (.ref D) := by
  obtain ⟨ob, k1, k2⟩ := p
  exact k2 ▸ (Looks.ld k1).andThen .now
end
end IP
namespace IP
open PySem PySem.W PySem.Spec PySem.Calls PyProof.Rows Builtin Builtin.ObjectAttr Builtin.Getset_descriptor
section
variable {KK : Frag} {x D : Addr} {prog : Program} {w : World} {A : Around} {E : Value → Shared → Prop}
theorem err_class {Q : Option Value → Shared → Prop} {s : Shared}
    (hga : findIn KK (.ref D) "__getattribute__" = some (some (.builtin "BaseException.__getattribute__")))
    (hgn : findIn KK (.ref D) "__getattr__" = some none)
    (ha : findIn KK (.ref D) "__class__" = some (some (.builtin "object.__class__")))
    (hn : specialIn KK (.builtin "object.__class__") "__get__" = some (some (.builtin "getset_descriptor.__get__")))
    (htk : takesIn KK (.builtin "object.__class__") = some true)
    (hm : mroIn KK D (.type "object") = some true) (hb : mroIn KK D (.type "BaseException") = some true)
    (X : KK.In s.heap) (p : Err x D s.heap) (k : Q (some (.ref D)) { s with toks := s.toks + 1 }) :
    wpAny (model prog w) A (getAttr? (.ref x) "__class__") Q E s := by
  obtain ⟨hp, gg, dd, tt, oo⟩ := s
  have T0 := err_ty (model prog w) hp p
  have T1 := looks_findIn (M := model prog w) X hga
  have T2 := looks_findIn (M := model prog w) X hgn
  have TF : Looks (model prog w) hp (find (.ref x) (.ref D) "__class__") (.bind (.builtin "getset_descriptor.__get__") (.builtin "object.__class__")) := by
    have a1 := looks_findIn (M := model prog w) X ha
    have a2 := looks_specialIn (M := model prog w) X hn
    have a3 := looks_takesIn (M := model prog w) X htk
    refine a1.andThen ?_
    refine Looks.andThen (show Looks (model prog w) hp (getOf (some (.builtin "object.__class__"))) (some (.builtin "getset_descriptor.__get__")) from a2) ?_
    refine Looks.andThen (show Looks (model prog w) hp (dataDescriptor? (some (.builtin "object.__class__")) (some (.builtin "getset_descriptor.__get__"))) (some (.builtin "getset_descriptor.__get__", .builtin "object.__class__")) from a3.andThen .now) ?_
    exact Looks.tag .now
  have T3 := looks_mroIn (M := model prog w) X hm
  have T4 := looks_mroIn (M := model prog w) X hb
  have TI : Looks (model prog w) hp (isInstance (.ref x) (.type "BaseException")) true := T0.andThen T4
  have f3 := F.excAttr_ValueError.ga.bind (.ref x)
  unfold getAttr? getAttrBy? getAttrBy
  refine wpAny_bind (wpAny_mkText ?_)
  refine wpAny_bind (wpAny_attempt ?_)
  refine wpAny_holding ?_
  refine wpAny_bind (T0.at ?_)
  refine wpAny_bind (T1.at ?_)
  have c0 : (onTheHeap (Value.ref D) && Value.builtin "BaseException.__getattribute__" == Value.builtin "object.__getattribute__") = false := by
    have : (Value.builtin "BaseException.__getattribute__" == Value.builtin "object.__getattribute__") = false := by decide +kernel
    rw [this]; rfl
  dsimp only
  rw [c0]
  simp only [Bool.false_eq_true, if_false]
  unfold getAttrByItsOwn
  refine wpAny_bind (Looks.at (show Looks (model prog w) hp (hookBefore (.ref D)) none from T2) ?_)
  refine wpAny_bind (wpAny_attempt ?_)
  refine wpAny_holding ?_
  unfold callGetattribute boundAndCalled
  simp only [Bool.false_and, Bool.false_eq_true, if_false]
  rw [f3]
  refine wpAny_bind (wpAny_pure ?_)
  refine wpAny_call ?_
  refine codeAny_call_builtin F.excAttr_ValueError.ga.plain F.entry_bexc_ga ?_
  have hk : builtinKind "BaseException.__getattribute__" = some .slot := by decide +kernel
  have hsplit : splitId "BaseException.__getattribute__" = some ("BaseException", "__getattribute__") := by decide +kernel
  have hargs := F.args_bexc_ga (.ref x) (.str "__class__" tt)
  show wpAny _ _ (checkBuiltinCall "BaseException.__getattribute__" ⟨[.ref x, .str "__class__" tt], []⟩) _ _ _
  simp only [checkBuiltinCall, hk, hsplit]
  refine wpAny_bind ?_
  refine TI.at ?_
  repeat (first | exact hargs | wp_step)
  obtain ⟨ob, k1, k2⟩ := p
  refine wpAny_loadPart k1 ?_
  refine wpAny_pure ?_
  rw [k2]
  refine wpAny_bind (TF.at ?_)
  show wpAny _ _ (bindTo (.builtin "getset_descriptor.__get__") (.builtin "object.__class__") (.ref x) (.ref D)) _ _ _
  show wpAny _ _ (holding [Value.builtin "object.__class__"] (call (.builtin "getset_descriptor.__get__") [Value.builtin "object.__class__", .ref x, .ref D]) >>= ret) _ _ _
  refine wpAny_bind (wpAny_holding ?_)
  refine wpAny_call ?_
  refine codeAny_call_builtin KF.slot_gs.plain KF.entry_gs (KF.slot_gs.check _ _ _ _ _ _ _ _ KF.type_class (KF.args_gs _ _ _) ?_)
  unfold Builtin.«getset_descriptor.__get__» descrGet
  rw [dga_obj]
  refine wpAny_bind (wpAny_pure ?_)
  unfold descrGetter descrCheckInstance descrNameAndClass isInstance
  simp only [KF.owner_class]
  repeat lk
  refine ⟨Code.quiet_builtin _ (by decide +kernel), ?_⟩
  refine codeAny_builtin KF.entry_class ?_
  unfold Builtin.«object.__class__» shownTypeOf
  repeat lk
  exact k
theorem err_kit (hga : findIn KK (.ref D) "__getattribute__" = some (some (.builtin "BaseException.__getattribute__")))
    (hgn : findIn KK (.ref D) "__getattr__" = some none) (hdct : hasDictIn KK D = true)
    (ha : findIn KK (.ref D) "__class__" = some (some (.builtin "object.__class__")))
    (hn : specialIn KK (.builtin "object.__class__") "__get__" = some (some (.builtin "getset_descriptor.__get__")))
    (htk : takesIn KK (.builtin "object.__class__") = some true) (hm : mroIn KK D (.type "object") = some true)
    (hb : mroIn KK D (.type "BaseException") = some true) :
    KitX KK (.ref x) (.ref D) (Err x D) where
  ty := fun M hp _ p => err_ty M hp p
  it := fun _ _ X _ => by
    obtain ⟨cdD, hcD, _⟩ := any_some hdct
    unfold clsIn at hcD
    split at hcD
    · rename_i ho
      intro A' Q' E' s' kk q
      unfold isType loadHead
      refine wpAny_bind ?_
      exact wpAny_loadPart (kk _ _ (X _ _ ho)) (wpAny_pure q)
    · cases hcD
  ne := fun hp tp dd its n sl X htp => by
    obtain ⟨cdD, hcD, _⟩ := any_some hdct
    refine Bool.eq_false_iff.mpr fun q => ?_
    have e : D = tp := Value.ref.inj (beq_iff_eq.mp q)
    subst e
    unfold clsIn at hcD
    split at hcD
    · rename_i ho
      cases (X _ _ ho).symm.trans htp
    · cases hcD
  ca := fun X p k => err_class hga hgn ha hn htk hm hb X p k
end
end IP
namespace IP
open PySem PySem.Spec L2
structure ExcK (K : PySem.W.Frag) (D : Addr) : Prop where
  ga : PySem.W.findIn K (.ref D) "__getattribute__" = some (some (.builtin "BaseException.__getattribute__"))
  gn : PySem.W.findIn K (.ref D) "__getattr__" = some none
  dct : PySem.W.hasDictIn K D = true
  ca : PySem.W.findIn K (.ref D) "__class__" = some (some (.builtin "object.__class__"))
  sp : PySem.W.specialIn K (.builtin "object.__class__") "__get__" = some (some (.builtin "getset_descriptor.__get__"))
  tk : PySem.W.takesIn K (.builtin "object.__class__") = some true
  mo : PySem.W.mroIn K D (.type "object") = some true
  mb : PySem.W.mroIn K D (.type "BaseException") = some true
section
variable {G : Gx} {X : Cx} {C : Cf} {a : Expr} {a' : IP.E} {pos p py : Pos} {y : Str} {k : Nat}
theorem isiX_cls {sub : Nat → Nat → Bool} {x : R} {b : Bool} (h : isiX sub x (.cls k) = some b) : ∃ d, x = .val (.exc d) ∧ b = sub d k := by
  unfold isiX at h
  split at h
  · rename_i d kk hk
    cases hk
    cases h
    exact ⟨d, rfl, rfl⟩
  · unfold isiR at h
    split at h <;> first | (cases h; done) | (rename_i z; cases z; done) | (rename_i z _; cases z; done) | simp_all
theorem sV_isx (hkit : ∀ d, ExcK X.K (G.cA d)) (hone : ∀ d, PySem.W.kitOne X.K (.ref (G.cA d)) (.ref (G.cA k)) = some (C.sub d k)) (hg : Gl X "isinstance") (hm : X.mg "isinstance" = none) (hgy : Gl X y) (hmy : X.mg y = some (.ref (G.cA k))) (hdy : (y == ("__debug__" : Str)) = false)
    (ha : PE X a (tV G X C a')) (hs : starEach [a, .Name y py] X.env = [(false, eval a X.env), (false, eval (.Name y py) X.env)]) : PE X (.Call (.Name "isinstance" p) [a, .Name y py] [] pos) (tV G X C (.isi a' (.cls k))) := by
  have hc : CallR X (.builtin "isinstance") (fun xs H Q => ∃ v, xs = [v, .ref (G.cA k)] ∧ r1 G (fun x => (isiX C.sub x (.cls k)).map fun b => .val (.bl b)) v H Q) := by
    rintro pins s σ H xs us Q I rv ⟨v, rfl, w, st, rx, r, S, R1, e, q⟩
    obtain ⟨u, u', rfl, r1, r2⟩ := rv.two
    cases r2
    obtain ⟨b, hb, rfl⟩ := map_some e
    obtain ⟨d, rfl, rfl⟩ := isiX_cls hb
    obtain ⟨ad, rfl, hH⟩ := R1
    cases r1
    obtain ⟨hφ, _⟩ := I.hok ad _ hH
    have z := hkit d
    exact PySem.W.kia_one (err_kit z.ga z.gn z.dct z.ca z.sp z.tk z.mo z.mb) I.kIn hφ (hone d) (by intro z; cases z) fun tk => ⟨.bl _, H, I.tok tk, rfl, q w H _ (Le.refl _ _) S rfl⟩
  refine PE.imp (zacn hc hg hm (show bootBuiltins "isinstance" = some (.builtin "isinstance") by decide +kernel) (zaak ha (zaak (pe_glob (v := .ref (G.cA k)) hgy hmy rfl hdy) pa_nil rfl) (by rw [hs]; rfl)) (by decide) (by decide) (by rw [hs]; rfl) rfl) ?_
  rintro σV H Q ⟨w₀, H₀, w, σ, s, g, h⟩
  obtain ⟨w₀, H₀, w, σ, s, g, h⟩ := t1_dr (f := fun x => (isiX C.sub x (.cls k)).map fun b => .val (.bl b)) ⟨w₀, H₀, w, σ, s, g, h⟩
  exact ⟨w₀, H₀, w, σ, s, g, h.imp fun v H1 q => ⟨v, rfl, q⟩⟩
end
end IP
end
section
set_option Elab.async false
set_option linter.all false
set_option maxRecDepth 100000
namespace IP
open PySem PySem.Spec L2
section
variable {G : Gx} {X : Cx} {C : Cf} {w w' w₀ : Wo} {H H' H₀ : Hp} {σ σ' : Fr} {σV σV' : St} {a b e : Expr} {a' b' e' : IP.E} {pos p p2 : Pos} {Q : VK}
theorem LeS.puts : ∀ {ks : List Nat} {us : List T} {vs : List V} {σ : Fr} {σV : St}, IP.puts σ ks us = some σ' → vs.length = ks.length → LeS w w H H σ σ' σV (setsV σV ks vs)
  | [], [], vs, σ, σV, hp, hl => by cases hp; cases vs <;> exact LeS.refl
  | [], _ :: _, vs, σ, σV, hp, hl => by cases hp
  | _ :: _, [], vs, σ, σV, hp, hl => by cases hp
  | k :: ks, u :: us, [], σ, σV, hp, hl => by simp at hl
  | k :: ks, u :: us, v :: vs, σ, σV, hp, hl => LeS.trans (LeS.put (v := v)) (LeS.puts (ks := ks) (us := us) (vs := vs) (σ := IP.put σ k u) (σV := σV.set k (some v)) hp (by simpa using hl))
end
end IP
end
section
set_option Elab.async false
set_option linter.all false
set_option maxRecDepth 100000
namespace IP
open PySem PySem.Spec L2
section
variable {G : Gx} {X : Cx} {C : Cf}
variable {elt iter tg : Expr} {ifs : List Expr} {scope : Scope} {pos : Pos} {it' ce : E} {g : Tg} {N' : List Str} {f : Fr → Sto → Res (Option T)}
end
end IP
end
section
set_option Elab.async false
set_option linter.all false
set_option maxRecDepth 100000
namespace IP
open PySem PySem.Spec L2
section
variable {G : Gx} {X : Cx} {C : Cf}
end
end IP
end
section
set_option Elab.async false
set_option linter.all false
set_option maxRecDepth 100000
namespace IP
open PySem PySem.Spec L2
section
variable {G : Gx} {X : Cx} {C : Cf} {w w' w₀ : Wo} {H H' H₀ : Hp} {σ σ' : Fr} {σV σV' : St} {pos : Pos}
end
end IP
end
section
set_option Elab.async false
set_option linter.all false
set_option maxRecDepth 100000
namespace IP
open PySem PySem.Spec L2
section
variable {G : Gx} {X : Cx} {C : Cf} {w w' w₀ : Wo} {H H' H₀ : Hp} {σ σ' : Fr} {σV σV' : St} {pos : Pos}
end
end IP
end
section
set_option Elab.async false
set_option linter.all false
set_option maxRecDepth 100000
namespace IP
open PySem PySem.Spec L2
theorem lam_run {CX : CXT} {P : Program} {w : World} {K : PySem.W.Frag} {mg : Str → Option Value} {base : Heap} {k : Nat} {q c : Addr} {nm qual : Str} {params : Arguments} {body : Expr} {scope : Scope} {pm ctv : Value} {N ps : List Str}
    {A : Around} {outer : List Env} {s : Shared} {H : Hp} {args : Args} {us : List Value} {vs : List V} {Q : VK} {E : XK} {t : TE}
    (ho : s.heap.get? q = some (PySem.W.kla_obj nm qual params body scope [] pm c ctv)) (hcd : s.heap.CodeRec (.ref c) qual) (S : FnScope N ps scope) (hr : Room k A) (e0 : Env0 P w K mg base A outer s H)
    (hb : bindArgs (PySem.W.kla_fn nm qual params body scope [] pm (.ref c) ctv) args = pure (ps.zip us)) (hl : vs.length = ps.length) (r : Vals vs us)
    (ht : PE (cxOf CX P w K mg base N qual scope q (.ref c) A outer s H E) body t) (hq : t (start N vs) H Q) :
    codeAny (model P w) A (.call (.ref q) args) (CR CX outer P w H s Q E) s := by
  have lim : s.heap.NoLimit := e0.mod.nolimit.keeps fun b o e => (e0.bs b o e).1
  have hkind : ∀ y ∈ ps.zip us, scope.names.lookup y.1 = some .local ∨ (scope.names.lookup y.1 = some .cell ∧ ((cellsFrom (s.heap.objs.size + 1) scope.names []).lookup y.1).isSome = true) := fun ⟨n, v⟩ hy => by
    rcases S.par n (List.of_mem_zip hy).1 with q | q
    · exact .inl q
    · exact .inr ⟨q, PySem.W.cellsFrom_some _ _ _ (.inl q)⟩
  refine PySem.W.kla_callFunE hr.depth ho rfl S.co S.gen rfl hcd ?_
  rw [hb]
  refine wpAny_pure ?_
  refine wpAny_newFunctionEnv_cells S.kind hkind fun env he s1 x => ?_
  subst he
  refine ⟨lim.keeps x.toInCall.keep, PySem.W.kla_codeExpr ?_⟩
  have I : Inv (cxOf CX P w K mg base N qual scope q (.ref c) A outer s H E) [] (start N vs) H s1 := zadh S hr.hd e0 hl r x
  refine wpAny_mono (ht [] s1 (start N vs) H _ I hq) (fun u s' hs => ?_) fun e s' hs => hs
  obtain ⟨v, H', J, rv, q⟩ := hs
  exact ⟨v, H', J.os, J.bare, J.base, J.hok, rv, q⟩
def tPair (K : PySem.W.Frag) (i j : Int) : TE := tTup (tCons (tOp (rIxT K) (tVar 0) (tC (.int i))) (tCons (tOp (rIxT K) (tVar 0) (tC (.int j))) tNil))
theorem pe_pair {X : Cx} {x : Str} {i j : Int} {n3 : Nat} {p1 p2 p3 p4 p5 p6 pos : Pos} (hN : X.N[0]? = some x) (hv : Vis X.env.scope x) (hd : (x == ("__debug__" : Str)) = false := by decide) (hcd : (x == ("__classdict__" : Str)) = false := by decide) {k1 k2 : Nat} :
    PE X (.Tuple [.Subscript (.Name x p1) (.Constant (.int i) k1 p2) p3, .Subscript (.Name x p4) (.Constant (.int j) k2 p5) p6] n3 pos) (tPair X.K i j) :=
  pe_tup (zaak (pe_ix ix_tup (pe_var hN hv hd hcd) pe_int fun _ _ => rfl) (zaak (pe_ix ix_tup (pe_var hN hv hd hcd) pe_int fun _ _ => rfl) pa_nil))
end IP
end
section
set_option Elab.async false
set_option linter.all false
set_option maxRecDepth 100000
namespace IP
open PySem PySem.Spec L2
open PyProof.Rows (seqObj)
structure Mine (X : Cx) (pins : List (Addr × Obj)) (b : Addr) : Prop where
  a : X.s₀.heap.objs.size ≤ b
  l : b ≠ X.env.locals
  c : ∀ x c, X.env.cells.lookup x = some c → c ≠ b
  p : ∀ p ∈ X.pn ++ pins, p.1 ≠ b
  f : b ∉ frs X.stack
section
variable {X : Cx} {pins : List (Addr × Obj)} {σ : L2.St} {H H0 : Hp} {s : Shared}
theorem Mine.of (I : Inv X pins σ H s) {b : Addr} (h : s.heap.objs.size ≤ b) : Mine X pins b where
  a := Nat.le_trans I.sz h
  l := fun e => absurd I.lt (by rw [← e]; exact Nat.not_lt.mpr h)
  c := fun x c e z => by
    obtain ⟨v, o, ho, _⟩ := I.cell x c e
    rw [z] at ho
    exact absurd (Heap.lt_size ho) (Nat.not_lt.mpr h)
  p := fun p hp z => by
    have := (I.pin p hp).1
    rw [z] at this
    exact absurd (Heap.lt_size this) (Nat.not_lt.mpr h)
  f := fun hb => by
    rcases List.mem_cons.mp (I.stkSub b hb) with e | hb
    · exact absurd I.lt (by rw [← e]; exact Nat.not_lt.mpr h)
    · exact I.nofs h hb
theorem Mine.turned {t' : Nat} {b : Addr} {h' : Heap} (M : Mine X pins b) (I : Inv X pins σ H s) (k : ∀ d o, d ≠ b → s.heap.get? d = some o → h'.get? d = some o) (hn : H b = none) : Inv X pins σ H { s with heap := h', toks := t' } :=
  I.turned k hn M.l (.inr M.a) M.c M.p
def Gr (H H' : Hp) : Prop := ∀ a o, H a = some o → H' a = some o
theorem Gr.new {H H' : Hp} (g : Gr H H') {p : Addr} {o : HO} (hp : H' p = none) : Gr H (upd H' p o) := fun a u e => by
  have := g a u e
  rw [upd_ne (fun z => by rw [z, hp] at this; cases this)]; exact this
theorem lex_lt2 (x y : Int × Int) : HT.lexLt [x.1, x.2] [y.1, y.2] = lt2 x y := by
  unfold lt2
  rw [HT.lexLt_cons, HT.lexLt_cons, HT.lexLt_nil_nil]
  by_cases h2 : x.1 = y.1
  · by_cases h3 : x.2 = y.2
    · simp [h2, h3]
    · simp [h2, h3]
  · simp [h2]
theorem zadm : ∀ {as : List Addr} {its : List Value}, Vals (as.map V.ref) its → its = as.map Value.ref
  | [], _, h => by cases h; rfl
  | a :: as, _, h => by
    cases h with
    | cons r t =>
      cases r
      rw [zadm t]
      rfl
def bestB (kf : Addr → Int × Int) : Addr → List Addr → Addr
  | a, [] => a
  | a, a' :: r => if lt2 (kf a') (kf a) then bestB kf a' r else bestB kf a r
def Turn (X : Cx) (pins : List (Addr × Obj)) (σ : L2.St) (H0 : Hp) (q : Addr) (a : Addr) (kf : Int × Int) : Prop :=
  ∀ (s : Shared) (H : Hp), Inv X pins σ H s → Gr H0 H →
    codeAny (model X.prog X.w) X.A.in1 (.call (.ref q) ⟨[.ref a], []⟩) (CR CX0 X.stack X.prog X.w H s (fun v H' => ∃ p, v = .ref p ∧ H p = none ∧ H' = upd H p (.tup [.int kf.1, .int kf.2])) E0) s
theorem Turn.call {q a : Addr} {kf : Int × Int} (T : Turn X pins σ H0 q a kf) (I : Inv X pins σ H s) (g : Gr H0 H) :
    wpAny (model X.prog X.w) X.A.in1 (call (.ref q) [.ref a]) (fun u s' => ∃ p, u = .ref p ∧ H p = none ∧ Inv X pins σ (upd H p (.tup [.int kf.1, .int kf.2])) s' ∧ Un (frs X.stack) [] H (upd H p (.tup [.int kf.1, .int kf.2])) s.heap s'.heap) (fun _ _ => False) s := by
  refine wpAny_call (codeAny_mono (T s H I g) fun r s' h => ?_)
  cases r with
  | error e => exact h
  | ok fl =>
    cases fl with
    | next => exact False.elim h
    | brk => exact False.elim h
    | cont => exact False.elim h
    | ret u =>
      obtain ⟨v, H', os, bare, un, hok, rv, p, rfl, hp, rfl⟩ := h
      have hI := I.after (Q := fun _ H2 => H2 = upd H p (.tup [.int kf.1, .int kf.2])) ⟨.ref p, _, os, bare, un, hok, rv, rfl⟩
      obtain ⟨_, H2, I2, _, rfl⟩ := hI
      cases rv
      exact ⟨p, rfl, hp, I2, un⟩
variable {q l I S : Addr} {oq : Obj} {as : List Addr} {kf : Addr → Int × Int} {R : Result → Shared → Prop}
theorem Gr.rd {u : HO} {a : Addr} (g : Gr H0 H) (r : Rd H0 a u) : Rd H a u := by
  rcases r with r | ⟨o, r⟩
  · exact .inl (g a _ r)
  · exact .inr ⟨o, g a _ r⟩
theorem isL (J : Inv X pins σ H s) (g : Gr H0 H) (hl : Rd H0 l (.lst (as.map V.ref))) : s.heap.IsList l (as.map Value.ref).toArray := by
  obtain ⟨its, r, pl, hz⟩ := J.list (.inl (g.rd hl))
  rw [zadm r] at pl
  exact pl.isList
theorem zaa2 {h h' : Heap} {j : Nat} (hk : ∀ b o, h.get? b = some o → b = I → h'.get? b = some o) (x : h.IsListIter I l j) : h'.IsListIter I l j := by
  obtain ⟨o, ho, r⟩ := x
  exact ⟨o, hk I o ho rfl, r⟩
theorem mk_loop (hh : X.A.handled = none) (hu : X.A.units + 1 < cLine) (hl0 : Rd H0 l (.lst (as.map V.ref))) (hlI : l ≠ I) (hSI : S ≠ I) (MI : Mine X pins I) (MS : Mine X pins S)
    (turn : ∀ a ∈ as, Turn X pins σ H0 q a (kf a)) :
    ∀ (rest : List Addr) (j : Nat) (ai kb : Addr) (s : Shared) (H : Hp) (c : Nat), as.drop (j + 1) = rest → j + 1 ≤ as.length → Inv X pins σ H s → Gr H0 H → H I = none → H S = none → s.heap.IsListIter I l (j + 1) →
      s.heap.get? S = some (seqObj "list" #[.ref ai, .ref kb] c) → H kb = some (.tup [.int (kf ai).1, .int (kf ai).2]) → (∀ (s' : Shared) (H' : Hp), Inv X pins σ H' s' → Gr H0 H' → R (.ok (.ret (.ref (bestB kf ai rest)))) s') →
      codeAny (model X.prog X.w) X.A (.builtin "min.loop" ⟨[.ref I, .ref q, .ref S], []⟩) R s := by
  have hname : (toString "min" ++ toString ".loop" : String) = "min.loop" := by decide
  have W := Walks.list (prog := X.prog) (w := X.w) (A := X.A.in1) hh I l hlI (as.map Value.ref).toArray
  have hsz : (as.map Value.ref).toArray.size = as.length := by simp
  intro rest
  induction rest with
  | nil =>
    intro j ai kb s H c hd hj J g nI nS hit hS hkb hR
    have hin : j + 1 = as.length := by
      have := congrArg List.length hd
      simp at this
      omega
    refine codeAny_builtin PySem.F.entry_min_loop ?_
    rw [Around.under_plainId PySem.F.plain_min_loop _]
    show wpAny _ X.A.in1 (seqItems? (.ref S) >>= _) _ _ _
    refine wpAny_bind (wpAny_seqItems hS rfl ?_)
    show wpAny _ X.A.in1 (tryCatch (pyNext (.ref I)) _ >>= _) _ _ _
    refine wpAny_bind (wpAny_tryCatch (W.done _ _ _ ⟨by rw [hsz, ← hin]; exact hit, isL J g hl0⟩ fun h' tk' hk' => ?_))
    have J1 := MI.turned (t' := tk') J (fun d o hd e => hk' d o (by simpa using hd) e) nI
    have hS' := hk' S _ (by simpa using hSI) hS
    have s1 := Heap.SameBut.update h' S (Obj.mapSeq fun _ => (#[] : Array Value))
    show wpAny _ X.A.in1 (updateSeq S (fun _ => #[]) >>= _) _ _ _
    refine wpAny_bind ?_
    refine wpAny_updateSeq hS' rfl (wpAny_bind (wpAny_letGo (wpAny_pure ?_)))
    exact hR _ _ (MS.turned (t' := tk') J1 (fun d o hd e => (s1.2 d hd).trans e) nS) g
  | cons a' rest ih =>
    intro j ai kb s H c hd hj J g nI nS hit hS hkb hR
    have hlt : j + 1 < as.length := by
      have := congrArg List.length hd
      simp at this
      omega
    have ha' : as[j + 1]? = some a' := by
      have := congrArg (fun x : List Addr => x[0]?) hd
      simpa using this
    have hd' : as.drop (j + 1 + 1) = rest := by
      have := congrArg List.tail hd
      simpa using this
    refine codeAny_builtin PySem.F.entry_min_loop ?_
    rw [Around.under_plainId PySem.F.plain_min_loop _]
    show wpAny _ X.A.in1 (seqItems? (.ref S) >>= _) _ _ _
    refine wpAny_bind (wpAny_seqItems hS rfl ?_)
    show wpAny _ X.A.in1 (tryCatch (pyNext (.ref I)) _ >>= _) _ _ _
    refine wpAny_bind (wpAny_tryCatch (W.item (j + 1) _ _ _ (by rw [hsz]; exact hlt) ⟨hit, isL J g hl0⟩ fun v h' tk' hP hst' hk' => ?_))
    have hv : v = .ref a' := by
      have : (as.map Value.ref)[j + 1]? = some v := by simpa using hP
      rw [List.getElem?_map, ha'] at this
      exact (Option.some.inj this).symm
    subst hv
    have J1 := MI.turned (t' := tk') J (fun d o hd e => hk' d o (by simpa using hd) e) nI
    have hS1 := hk' S _ (by simpa using hSI) hS
    have hit1 := hst'.1
    show wpAny _ X.A.in1 (tryCatch (holding [.ref a'] (call (.ref q) [.ref a'])) _ >>= _) _ _ _
    refine wpAny_bind (wpAny_tryCatch (wpAny_holding (wpAny_mono ((turn a' (List.mem_of_getElem? ha')).call J1 g) (fun x s2 he => ?_) fun _ _ hF => hF.elim)))
    obtain ⟨p, rfl, hp, J2, un⟩ := he
    have nI2 := un.free I _ hit1.choose_spec.1 nI (by simp)
    have nS2 := un.free S _ hS1 nS (by simp)
    have hS2 := un.keep S _ hS1 nS MS.f (by simp)
    have hit2 : s2.heap.IsListIter I l (j + 1 + 1) := zaa2 (fun b o e z => by subst z; exact un.keep b o e nI MI.f (by simp)) hit1
    have hkp : upd H p (.tup [.int (kf a').1, .int (kf a').2]) p = some (.tup [.int (kf a').1, .int (kf a').2]) := zaae
    have hkb2 : upd H p (.tup [.int (kf a').1, .int (kf a').2]) kb = some (.tup [.int (kf ai).1, .int (kf ai).2]) := by
      rw [upd_ne (fun z => by rw [z, hp] at hkb; cases hkb)]; exact hkb
    have g2 := g.new (o := .tup [.int (kf a').1, .int (kf a').2]) hp
    generalize upd H p (.tup [.int (kf a').1, .int (kf a').2]) = H2 at *
    obtain ⟨i1, r1, p1, _⟩ := J2.tuple (.inl (.inl hkp))
    obtain ⟨i2, r2, p2, _⟩ := J2.tuple (.inl (.inl hkb2))
    show wpAny _ X.A.in1 (tryCatch (holding [.ref a', .ref p] (richCompare .Lt (.ref p) (.ref kb) >>= _)) _ >>= _) _ _ _
    refine wpAny_bind (wpAny_tryCatch (wpAny_holding (wpAny_bind ?_)))
    have e1 : PyProof.Rows.IntsAre i1.toArray.toList [(kf a').1, (kf a').2] := zabf (ns := [(kf a').1, (kf a').2]) r1
    have e2 : PyProof.Rows.IntsAre i2.toArray.toList [(kf ai).1, (kf ai).2] := zabf (ns := [(kf ai).1, (kf ai).2]) r2
    refine HT.lt_tupInts p1 p2 e1 e2 hu ?_
    rw [lex_lt2]
    refine wpAny_bind (wpAny_holding (wpAny_truthy_bool ?_))
    refine wpAny_bind (wpAny_letGo (wpAny_pure ?_))
    by_cases hb' : lt2 (kf a') (kf ai) = true
    · have s1 := Heap.SameBut.update s2.heap S (Obj.mapSeq fun _ => #[.ref a', .ref p])
      obtain ⟨c2, hc2⟩ : ∃ c2, (s2.heap.update S (Obj.mapSeq fun _ => #[.ref a', .ref p])).get? S = some (seqObj "list" #[.ref a', .ref p] c2) := ⟨_, PyProof.Rows.get?_update_seq hS2 fun _ => #[.ref a', .ref p]⟩
      simp only [hb', if_true]
      refine wpAny_bind ?_
      refine wpAny_updateSeq hS2 rfl (wpAny_bind (wpAny_letGo ?_))
      rw [hname]
      have eb : bestB kf ai (a' :: rest) = bestB kf a' rest := by
        show (if lt2 (kf a') (kf ai) then bestB kf a' rest else bestB kf ai rest) = _
        rw [if_pos hb']
      rw [eb] at hR
      exact wpAny_pure ⟨plainId_quiet PySem.F.plain_min_loop _, ih (j + 1) a' p _ H2 c2 hd' hlt (MS.turned (t' := s2.toks) J2 (fun d o hd e => (s1.2 d hd).trans e) nS2) g2 nI2 nS2 (zaa2 (fun b o e z => by subst z; exact (s1.2 b hSI.symm).trans e) hit2) hc2 hkp hR⟩
    · simp only [hb', Bool.false_eq_true, if_false]
      refine wpAny_bind (wpAny_letGo ?_)
      rw [hname]
      have eb : bestB kf ai (a' :: rest) = bestB kf ai rest := by
        show (if lt2 (kf a') (kf ai) then bestB kf a' rest else bestB kf ai rest) = _
        rw [if_neg hb']
      rw [eb] at hR
      exact wpAny_pure ⟨plainId_quiet PySem.F.plain_min_loop _, ih (j + 1) ai kb _ H2 c hd' hlt J2 g2 nI2 nS2 hit2 hS2 hkb2 hR⟩
end
end IP
end
section
set_option Elab.async false
set_option linter.all false
set_option maxRecDepth 100000
namespace IP
open PySem PySem.Spec L2
open PyProof.Rows (seqObj)
section
variable {X : Cx} {pins : List (Addr × Obj)} {σ : L2.St} {H H0 : Hp} {s : Shared} {q l : Addr} {as : List Addr} {kf : Addr → Int × Int} {E : Value → Shared → Prop} {Q : Value → Shared → Prop}
theorem mk_min {a0 : Addr} {rest : List Addr} (hh : X.A.handled = none) (hu : X.A.units + 1 < cLine) (has : as = a0 :: rest) (hl0 : Rd H0 l (.lst (as.map V.ref))) (turn : ∀ a ∈ as, Turn X pins σ H0 q a (kf a)) (J : Inv X pins σ H s) (g : Gr H0 H)
    (hQ : ∀ (s' : Shared) (H' : Hp), Inv X pins σ H' s' → Gr H0 H' → Q (.ref (bestB kf a0 rest)) s') :
    wpAny (model X.prog X.w) X.A (call (.builtin "min") [.ref l] [(Str.ofString "key", .ref q)]) Q E s := by
  have hname : (toString "min" ++ toString ".loop" : String) = "min.loop" := by decide
  have hls := isL J g hl0
  obtain ⟨ol, hol, _⟩ := id hls
  have hll : l < s.heap.objs.size := Heap.lt_size hol
  refine PyProof.Rows.kmk_tree PySem.F.kind_min PySem.F.plain_min PySem.F.entry_min (PyProof.Rows.kmk_min_key _ _) ?_
  show wpAny _ X.A.in1 (Builtin.Builtins.bindParams "min" ["key", "default"] 0 ⟨[], [(Str.ofString "key", .ref q)]⟩ >>= _) _ _ s
  refine wpAny_bind (wpAny_of_eq (show Builtin.Builtins.bindParams "min" ["key", "default"] 0 ⟨[], [(Str.ofString "key", .ref q)]⟩ = pure [some (.ref q), none] from rfl) ?_)
  refine wpAny_bind (wpAny_pure ?_)
  refine wpAny_bind (wpAny_pyIter_list hls ?_)
  refine wpAny_bind (wpAny_newList ?_ (Nat.zero_le _))
  rw [hname]
  generalize hI : s.heap.objs.size = I at *
  have gI : (s.heap.push { cls := .type "list_iterator", data := .fields #[.ref l, .int 0 0] }).get? I = some { cls := .type "list_iterator", data := .fields #[.ref l, .int 0 0] } := by rw [← hI]; exact Heap.get?_push_size _ rfl
  have MI : Mine X pins I := Mine.of J (by omega)
  have nI : H I = none := J.hok.fresh (by omega)
  have J1 : Inv X pins σ H { s with heap := s.heap.push { cls := .type "list_iterator", data := .fields #[.ref l, .int 0 0] } } := J.kept (t' := s.toks) fun b u e => Heap.get?_push_of_some _ e
  have hS0 : (s.heap.push { cls := .type "list_iterator", data := .fields #[.ref l, .int 0 0] }).objs.size = I + 1 := by rw [← hI, Heap.size_push]
  generalize s.heap.push { cls := .type "list_iterator", data := .fields #[.ref l, .int 0 0] } = h1 at *
  generalize hS : h1.objs.size = S at *
  have gS : (h1.push (seqObj "list" #[] 0)).get? S = some (seqObj "list" #[] 0) := by rw [← hS]; exact Heap.get?_push_size _ rfl
  have MS : Mine X pins S := Mine.of J1 (by show h1.objs.size ≤ S; omega)
  have nS : H S = none := J1.hok.fresh (by show h1.objs.size ≤ S; omega)
  have gI2 : (h1.push (seqObj "list" #[] 0)).get? I = some { cls := .type "list_iterator", data := .fields #[.ref l, .int 0 0] } := Heap.get?_push_of_some _ gI
  have J2 : Inv X pins σ H { s with heap := h1.push (seqObj "list" #[] 0) } := J1.kept (t' := s.toks) fun b u e => Heap.get?_push_of_some _ e
  have hlI : l ≠ I := Nat.ne_of_lt hll
  have hSI : S ≠ I := fun z => absurd (z ▸ hS0 : I = I + 1) (by omega)
  have W := Walks.list (prog := X.prog) (w := X.w) (A := X.A.in1) hh I l hlI (as.map Value.ref).toArray
  have hsz : (as.map Value.ref).toArray.size = as.length := by simp
  have h0 : as[0]? = some a0 := by rw [has]; rfl
  have hne : 0 < as.length := by rw [has]; simp
  refine wpAny_pure ⟨plainId_quiet PySem.F.plain_min_loop _, ?_⟩
  refine codeAny_builtin PySem.F.entry_min_loop ?_
  rw [Around.under_plainId PySem.F.plain_min_loop _]
  show wpAny _ X.A.in1 (seqItems? (.ref S) >>= _) _ _ _
  refine wpAny_bind (wpAny_seqItems gS rfl ?_)
  show wpAny _ X.A.in1 (tryCatch (pyNext (.ref I)) _ >>= _) _ _ _
  refine wpAny_bind (wpAny_tryCatch (W.item 0 _ _ _ (by rw [hsz]; exact hne) ⟨⟨_, gI2, rfl, rfl⟩, isL J2 g hl0⟩ fun v h' tk' hP hst' hk' => ?_))
  have hv : v = .ref a0 := by
    have : (as.map Value.ref)[0]? = some v := by simpa using hP
    rw [List.getElem?_map, h0] at this
    exact (Option.some.inj this).symm
  subst hv
  have J3 := MI.turned (t' := tk') J2 (fun d o hd e => hk' d o (by simpa using hd) e) nI
  have hS1 := hk' S _ (by simpa using hSI) gS
  have hit1 := hst'.1
  show wpAny _ X.A.in1 (tryCatch (holding [.ref a0] (call (.ref q) [.ref a0])) _ >>= _) _ _ _
  refine wpAny_bind (wpAny_tryCatch (wpAny_holding (wpAny_mono ((turn a0 (List.mem_of_getElem? h0)).call J3 g) (fun x s2 he => ?_) fun _ _ hF => hF.elim)))
  obtain ⟨p, rfl, hp, J4, un⟩ := he
  have nI2 := un.free I _ hit1.choose_spec.1 nI (by simp)
  have nS2 := un.free S _ hS1 nS (by simp)
  have hS2 := un.keep S _ hS1 nS MS.f (by simp)
  have hit2 : s2.heap.IsListIter I l (0 + 1) := zaa2 (fun b o e z => by subst z; exact un.keep b o e nI MI.f (by simp)) hit1
  have hkp : upd H p (.tup [.int (kf a0).1, .int (kf a0).2]) p = some (.tup [.int (kf a0).1, .int (kf a0).2]) := zaae
  have g2 := g.new (o := .tup [.int (kf a0).1, .int (kf a0).2]) hp
  generalize upd H p (.tup [.int (kf a0).1, .int (kf a0).2]) = H2 at *
  have s1 := Heap.SameBut.update s2.heap S (Obj.mapSeq fun _ => #[.ref a0, .ref p])
  obtain ⟨c2, hc2⟩ : ∃ c2, (s2.heap.update S (Obj.mapSeq fun _ => #[.ref a0, .ref p])).get? S = some (seqObj "list" #[.ref a0, .ref p] c2) := ⟨_, PyProof.Rows.get?_update_seq hS2 fun _ => #[.ref a0, .ref p]⟩
  show wpAny _ X.A.in1 (updateSeq S (fun _ => #[.ref a0, .ref p]) >>= _) _ _ _
  refine wpAny_bind ?_
  refine wpAny_updateSeq hS2 rfl ?_
  rw [hname]
  exact wpAny_pure ⟨plainId_quiet PySem.F.plain_min_loop _, mk_loop hh hu hl0 hlI hSI MI MS turn rest 0 a0 p _ H2 c2 (by rw [has]; rfl) hne (MS.turned (t' := s2.toks) J4 (fun d o hd e => (s1.2 d hd).trans e) nS2) g2 nI2 nS2 (zaa2 (fun b o e z => by subst z; exact (s1.2 b hSI.symm).trans e) hit2) hc2 hkp hQ⟩
end
end IP
end
section
set_option Elab.async false
set_option linter.all false
set_option maxRecDepth 100000
namespace IP
open PySem PySem.Spec L2
def objO (a : Addr) (o : Obj) : Heap → Prop := fun h => h.get? a = some o
theorem objO_ok {P : Program} {w : World} {H : Hp} {h : Heap} {a : Addr} {o : Obj} (e : h.get? a = some o) : ObjOk P w H h a (.ext (objO a o)) := ⟨e, ⟨o, e⟩, fun _ _ p k => k o p⟩
theorem codeO_ok {P : Program} {w : World} {H : Hp} {h : Heap} {c : Addr} {q : Str} (e : h.CodeRec (.ref c) q) : ObjOk P w H h c (.ext (codeO c q)) := by
  refine ⟨e, ?_, fun h1 h2 p k => ?_⟩
  · obtain ⟨c', o, vs, t, e1, e2, _⟩ := e
    cases e1
    exact ⟨o, e2⟩
  · obtain ⟨c', o, vs, t, e1, e2, r⟩ := p
    cases e1
    exact ⟨c, o, vs, t, rfl, k o e2, r⟩
section
variable {X : Cx} {e : Expr} {es : List Expr} {t : TA} {tk : TA} {kws : List Keyword} {id : String} {x : Str} {p pos : Pos} {ks : List Str}
theorem zac4 {r : List V → List V → Hp → VK → Prop} (hc : ∀ (pins : List (Addr × Obj)) (s : Shared) (σ : L2.St) (H : Hp) (vs zs : List V) (us ws : List Value) (Q : VK), Inv X pins σ H s → Vals vs us → Vals zs ws → r vs zs H Q → wpAny (model X.prog X.w) X.A (call (.builtin id) us (ks.zip ws)) (EP X pins σ Q) X.xe s)
    (hg : Gl X x) (hm : X.mg x = none) (hv : bootBuiltins x = some (.builtin id)) (ha : PA X (e :: es) t) (hkw : PK X kws tk) (hall : (backToKw pos (keywordEach kws X.env)).all (·.1.isSome) = true := by rfl) (hks : (backToKw pos (keywordEach kws X.env)).filterMap (·.1) = ks := by rfl)
    (hn : x ≠ "__name__" := by decide) (hdb : (x == ("__debug__" : Str)) = false := by decide)
    (he : starEach (e :: es) X.env = (false, eval e X.env) :: starEach es X.env := by rfl) (hpl : (backTo pos (starEach (e :: es) X.env)).any (·.1) = false := by rfl) (hpk : (backToKw pos (keywordEach kws X.env)).any (·.1.isNone) = false := by rfl) :
    PE X (.Call (.Name x p) (e :: es) kws pos) (fun σ H Q => t σ H fun vs H1 => tk σ H1 fun zs H2 => r vs zs H2 Q) := by
  intro pins s σ H Q I h
  refine wpAny_Call_Name_kw (ld_blt I hg hm hv ?_ hn hdb)
  refine PyProof.Rows.callWith_builtin_kwB hpl hpk (PyProof.Rows.evalArgs_kw2 hall (thn (ha pos pins s σ H _ I h) fun us s1 ⟨vs, H1, I1, r1, q1⟩ => ?_) he)
  refine thn (hkw pos pins s1 σ H1 _ I1 q1) fun ws s2 ⟨zs, H2, I2, rz, q2⟩ => ?_
  rw [hks]
  exact hc pins s2 σ H2 vs zs us ws Q I2 r1 rz q2
theorem pk_nil : PK X [] tNil := fun _ _ _ _ H Q I h => wpAny_evalAll_nil ⟨[], H, I, .nil, h⟩
end
section
variable {X : Cx} {params : Arguments} {body : Expr} {scope : Scope} {lpos : Pos} {P c0 : Addr}
abbrev lamO (X : Cx) (params : Arguments) (body : Expr) (scope : Scope) (c : Addr) (ctv : Value) : Obj := PySem.W.kla_obj "<lambda>" (X.env.qual ++ "<lambda>") params body scope [] ((X.mg "__name__").getD .none) c ctv
def tLam (X : Cx) (params : Arguments) (body : Expr) (scope : Scope) (lpos : Pos) (P : Addr) : TE := fun _ H Q => ∃ ps : Array Value, H P = some (.tbl ps) ∧ TriplesOk ps.toList ∧
  (∀ cv, codeAmong lpos ps.toList = some cv → ∃ c, cv = .ref c ∧ H c = some (.ext (codeO c (X.env.qual ++ "<lambda>")))) ∧
  (∀ f c ctv, codeAmong lpos ps.toList = some (.ref c) → H f = none → Q (.ref f) (upd H f (.ext (objO f (lamO X params body scope c ctv))))) ∧
  (∀ f c ctv, codeAmong lpos ps.toList = none → H c = none → H f = none → c ≠ f → f ≠ P → c ≠ P → Q (.ref f) (upd (upd (upd H P (.tbl (ps ++ #[rawInt lpos.line, rawInt lpos.col, .ref c]))) c (.ext (codeO c (X.env.qual ++ "<lambda>")))) f (.ext (objO f (lamO X params body scope c ctv)))))
theorem zab7 {h : Heap} {mg : Str → Option Value} {bm : Addr} {ob : Obj} (b1 : mg "__builtins__" = some (.ref bm)) (b2 : bm ≠ builtinsNs) (b3 : h.get? bm = some ob) (b4 : ob.cls = .type "module") (b5 : ob.dict = some builtinsNs) (b6 : ob.data = .plain) (hG : ∃ m, h.Ns mainGlobals m) {ps : Array Value} {P : Addr} (hP : h.get? P = some (PySem.W.tabObj ps)) : h.BuiltinsAt mg P := by
  refine ⟨bm, ob, b1, b2, fun z => ?_, fun z => ?_, b3, b4, b5, b6⟩
  · obtain ⟨m, o, es, ep, e, hd, _⟩ := hG
    rw [z, e] at b3; cases b3; rw [hd] at b6; cases b6
  · rw [z, hP] at b3; cases b3; cases b4
theorem zads {pins : List (Addr × Obj)} {σ : L2.St} {H : Hp} {s : Shared} {h' : Heap} {t' : Nat} {ps more : Array Value} {c f : Addr} {φ ψ : Heap → Prop} (I : Inv X pins σ H s) (hP : H P = some (.tbl ps)) (hPh : s.heap.get? P = some (PySem.W.tabObj ps)) (nc : H c = none) (nf : H f = none) (hcP : c ≠ P) (hfP : f ≠ P) (hcf : c ≠ f)
    (sc : s.heap.objs.size ≤ c) (sf : s.heap.objs.size ≤ f) (hk : ∀ b o, b ≠ P → s.heap.get? b = some o → h'.get? b = some o) (hP' : h'.get? P = some (PySem.W.tabObj (ps ++ more)))
    (oc : ∀ {H' : Hp}, ObjOk X.prog X.w H' h' c (.ext φ)) (of : ∀ {H' : Hp}, ObjOk X.prog X.w H' h' f (.ext ψ)) :
    Inv X pins σ (upd (upd (upd H P (.tbl (ps ++ more))) c (.ext φ)) f (.ext ψ)) { s with heap := h', toks := t' } := by
  have old : ∀ b, b ≠ P → b ≠ c → b ≠ f → upd (upd (upd H P (.tbl (ps ++ more))) c (.ext φ)) f (.ext ψ) b = H b := fun b h1 h2 h3 => by rw [upd_ne h3, upd_ne h2, upd_ne h1]
  have atP : upd (upd (upd H P (.tbl (ps ++ more))) c (.ext φ)) f (.ext ψ) P = some (.tbl (ps ++ more)) := by rw [upd_ne hfP.symm, upd_ne hcP.symm, zaae]
  have lt : ∀ b o, s.heap.get? b = some o → b ≠ c ∧ b ≠ f := fun b o e => ⟨fun z => absurd (Heap.lt_size e) (by rw [z]; exact Nat.not_lt.mpr sc), fun z => absurd (Heap.lt_size e) (by rw [z]; exact Nat.not_lt.mpr sf)⟩
  have nP : ∀ b, H b = none → b ≠ P := fun b n z => by rw [z, hP] at n; cases n
  have kp : ∀ b o, H b = some o → (∀ qs, o ≠ .tbl qs) → upd (upd (upd H P (.tbl (ps ++ more))) c (.ext φ)) f (.ext ψ) b = some o := fun b o e ne => by
    rw [old b (fun z => by rw [z, hP] at e; exact ne _ (Option.some.inj e).symm) (fun z => by rw [z, nc] at e; cases e) (fun z => by rw [z, nf] at e; cases e)]; exact e
  refine I.un ⟨fun b o e n _ _ => hk b o (nP b n) e, fun b o e n _ _ => ⟨o.slots, hk b o (nP b n) e⟩, fun b o e n _ => ?_, fun b o e _ => ?_, fun b xs e => kp b _ e (by intro _ z; cases z), fun b o u e => kp b _ e (by intro _ z; cases z), fun b qs e => ?_⟩ fun b o e => ?_
  · rw [old b (nP b n) (lt b o e).1 (lt b o e).2]; exact n
  · by_cases z : b = P
    · rw [z]; exact ⟨_, hP'⟩
    · exact ⟨o, hk b o z e⟩
  · by_cases z : b = P
    · subst z
      rw [hP] at e; cases e
      exact ⟨more, atP⟩
    · exact ⟨#[], by rw [old b z (fun y => by rw [y, nc] at e; cases e) (fun y => by rw [y, nf] at e; cases e), e]; simp⟩
  · by_cases z1 : b = f
    · subst z1; rw [zaae] at e; cases e; exact of
    · rw [upd_ne z1] at e
      by_cases z2 : b = c
      · subst z2; rw [zaae] at e; cases e; exact oc
      · rw [upd_ne z2] at e
        by_cases z3 : b = P
        · subst z3; rw [zaae] at e; cases e; exact hP'
        · rw [upd_ne z3] at e
          refine (I.hok b o e).stay (fun d u hd q => hk d u ?_ q) (fun d q => kp d _ q (by intro _ z; cases z)) fun d xs q => kp d _ q (by intro _ z; cases z)
          rcases hd with z | z
          · rw [z]; exact z3
          · intro y; rw [y, hP] at z; cases z
theorem pe_lam (hcode : X.env.code = .ref c0) (hC : PySem.W.CodeHd X.base c0 P) (hB : ∃ bm ob, X.mg "__builtins__" = some (.ref bm) ∧ bm ≠ builtinsNs ∧ X.base.get? bm = some ob ∧ ob.cls = .type "module" ∧ ob.dict = some builtinsNs ∧ ob.data = .plain)
    (hdef : defaultsOf params X.env = ([], []) := by rfl) (hcl : closureFor scope X.env = pure [] := by rfl) : PE X (.Lambda params body scope lpos) (tLam X params body scope lpos P) := by
  intro pins s σ H Q I ⟨ps, hP, ht, hc, q1, q2⟩
  have hPh : s.heap.get? P = some (PySem.W.tabObj ps) := I.hok P _ hP
  have hg : s.heap.Ns mainGlobals X.mg := I.mod.glob.keeps I.bk
  obtain ⟨bm, ob, b1, b2, b3, b4, b5, b6⟩ := hB
  have hb := zab7 b1 b2 (I.bk _ _ b3) b4 b5 b6 ⟨_, hg⟩ hPh
  have hCs := hC.keeps I.bk
  refine PySem.W.kla_eval hdef ?_
  cases hf : codeAmong lpos ps.toList with
  | some cv =>
    obtain ⟨c, rfl, hcc⟩ := hc cv hf
    refine PySem.W.kla_makeFunctionHit (mg := X.mg) hcl I.ok.glob hg hcode hCs hPh ht hf hb fun ctv h' tk hk hsz => ?_
    have e0 := Heap.get?_push_size h' (o := lamO X params body scope c ctv) rfl
    have J := I.laid (a := h'.objs.size) (o := .ext (objO h'.objs.size (lamO X params body scope c ctv))) (t' := tk) (h' := h'.push (lamO X params body scope c ctv)) (fun b u e => Heap.get?_push_of_some _ (hk b u e)) hsz (objO_ok e0)
    exact ⟨.ref h'.objs.size, _, J, rfl, q1 _ _ _ hf (I.hok.fresh hsz)⟩
  | none =>
    have hgP : mainGlobals ≠ P := fun z => by
      obtain ⟨o, es, ep, e, hd, _⟩ := hg
      rw [z, hPh] at e; cases e; cases hd
    refine PySem.W.kla_makeFunction (mg := X.mg) hcl I.ok.glob hg hcode hCs hPh ht hf hgP hb fun c' ctv h' tk hx hge hlt hrec htb => ?_
    have hss : s.heap.objs.size ≤ h'.objs.size := Nat.le_trans hge (Nat.le_of_lt hlt)
    have hfP : h'.objs.size ≠ P := fun z => absurd (Heap.lt_size hPh) (by rw [← z]; exact Nat.not_lt.mpr hss)
    have hcP : c' ≠ P := fun z => absurd (Heap.lt_size hPh) (by rw [← z]; exact Nat.not_lt.mpr hge)
    have hcf : c' ≠ h'.objs.size := Nat.ne_of_lt hlt
    have nc : H c' = none := I.hok.fresh hge
    have nf : H h'.objs.size = none := I.hok.fresh hss
    have hkk : ∀ b o, b ≠ P → s.heap.get? b = some o → (h'.push (lamO X params body scope c' ctv)).get? b = some o := fun b o n e => Heap.get?_push_of_some _ (hx b o n e)
    have J := zads (t' := tk) I hP hPh nc nf hcP hfP hcf hge hss hkk (Heap.get?_push_of_some _ htb) (codeO_ok (hrec.push _)) (objO_ok (Heap.get?_push_size h' (o := lamO X params body scope c' ctv) rfl))
    exact ⟨.ref h'.objs.size, _, J, rfl, q2 _ _ _ hf nc nf hcf hfP hcP⟩
end
end IP
end
section
set_option Elab.async false
set_option linter.all false
set_option maxRecDepth 100000
namespace IP
open PySem PySem.Spec L2
section
variable {G : Gx} {X : Cx} {w : Wo} {H H' : Hp} {st : Sto}
theorem Gr.refl (H : Hp) : Gr H H := fun _ _ e => e
theorem Gr.trans {H H1 H2 : Hp} (a : Gr H H1) (b : Gr H1 H2) : Gr H H2 := fun x o e => b x o (a x o e)
theorem Gr.le (g : Gr H H') : Le w w H H' where
  n := Nat.le_refl _
  io := fun _ _ => rfl
  Z := fun _ z => z
  keep := fun a o e _ => g a o e
  newL := fun l a b => absurd (Nat.lt_of_lt_of_le b a) (Nat.lt_irrefl _)
  newZ := fun _ z => .inl z
  some_ := fun a z => by
    cases e : H a with
    | none => exact absurd e z
    | some u => rw [g a u e]; intro q; cases q
theorem StoOk.gr (S : StoOk G w H st) (g : Gr H H') : StoOk G w H' st := S.grow g.le rfl (fun l hl => by
  rcases S.loc hl with ⟨vs, y⟩ | ⟨c, dx, kvs, y⟩ | ⟨ps, y⟩ <;> rw [y, g _ _ y]) (fun a z => by
  obtain ⟨vs, r⟩ := S.zt a z
  exact ⟨vs, g.rd r⟩)
def keyH (H : Hp) (i j : Nat) (a : Addr) : Int × Int := match H a with
  | some (.tup ws) => match ws[i]?, ws[j]? with
    | some (.int x), some (.int y) => (x, y)
    | _, _ => (0, 0)
  | _ => (0, 0)
def KeyAt (H : Hp) (i j : Nat) (k : Int × Int) (a : Addr) : Prop := ∃ ws, H a = some (.tup ws) ∧ ws[i]? = some (.int k.1) ∧ ws[j]? = some (.int k.2)
theorem KeyAt.is {i j : Nat} {k : Int × Int} {a : Addr} (h : KeyAt H i j k a) : keyH H i j a = k := by
  obtain ⟨ws, e1, e2, e3⟩ := h
  unfold keyH
  rw [e1]
  simp only [e2, e3]
theorem keyT_at {i j : Nat} {t : T} {v : V} {k : Int × Int} (r : Rep G w H t v) (h : keyT i j t = some k) : ∃ a, v = .ref a ∧ KeyAt H i j k a := by
  unfold keyT at h
  split at h
  · rename_i ts
    split at h
    · rename_i x y e1 e2
      cases h
      obtain ⟨a, vs, rfl, ha, hs⟩ := r
      obtain ⟨v1, g1, r1⟩ := hs.get e1
      obtain ⟨v2, g2, r2⟩ := hs.get e2
      cases r1
      cases r2
      exact ⟨a, rfl, vs, ha, g1, g2⟩
    · cases h
  · cases h
theorem zad1 {i j : Nat} : ∀ {ts : List T} {vs : List V} {ks : List (Int × Int)}, Reps G w H ts vs → keysT i j ts = some ks → ∃ as : List Addr, vs = as.map V.ref ∧ ks = as.map (keyH H i j) ∧ ∀ a ∈ as, KeyAt H i j (keyH H i j a) a
  | [], _, ks, h, e => by
    cases h
    cases e
    exact ⟨[], rfl, rfl, by simp⟩
  | t :: ts, _, ks, ⟨v, r, e1, h1, h2⟩, e => by
    subst e1
    unfold keysT at e
    split at e
    · rename_i x y ex ey
      cases e
      obtain ⟨a, rfl, ka⟩ := keyT_at h1 ex
      obtain ⟨as, rfl, rfl, q⟩ := zad1 h2 ey
      refine ⟨a :: as, rfl, by rw [List.map_cons, ka.is], fun b hb => ?_⟩
      rcases List.mem_cons.mp hb with rfl | hb
      · rw [ka.is]; exact ka
      · exact q b hb
    · cases e
theorem zacr {kf : Addr → Int × Int} : ∀ {tr : List T} {as : List Addr} {t : T} {a : Addr}, Rep G w H t (.ref a) → Reps G w H tr (as.map V.ref) → Rep G w H (bestK (kf a) t ((as.map kf).zip tr)) (.ref (bestB kf a as))
  | [], [], t, a, h, _ => h
  | [], b :: as, t, a, h, q => by cases q
  | t' :: tr, [], t, a, h, q => by obtain ⟨v, r, e, _⟩ := q; cases e
  | t' :: tr, b :: as, t, a, h, q => by
    obtain ⟨v, r, e, h1, h2⟩ := q
    cases e
    show Rep G w H (if lt2 (kf b) (kf a) then bestK (kf b) t' ((as.map kf).zip tr) else bestK (kf a) t ((as.map kf).zip tr)) (.ref (if lt2 (kf b) (kf a) then bestB kf b as else bestB kf a as))
    split
    · exact zacr h1 h2
    · exact zacr h h2
theorem minK_at {i j : Nat} {ts : List T} {t : T} {vs : List V} (r : Reps G w H ts vs) (h : minK i j ts = some t) : ∃ a0 rest, vs = (a0 :: rest).map V.ref ∧ (∀ a ∈ a0 :: rest, KeyAt H i j (keyH H i j a) a) ∧ Rep G w H t (.ref (bestB (keyH H i j) a0 rest)) := by
  unfold minK at h
  split at h
  · rename_i k ks t0 tr ek
    cases h
    obtain ⟨as, rfl, e2, q⟩ := zad1 r ek
    cases as with
    | nil => cases e2
    | cons a0 rest =>
      rw [List.map_cons] at e2
      cases e2
      obtain ⟨v, r', e, h1, h2⟩ := r
      cases e
      exact ⟨a0, rest, rfl, q, zacr h1 h2⟩
  · cases h
end
end IP
end
section
set_option Elab.async false
set_option linter.all false
set_option maxRecDepth 100000
namespace IP
open PySem PySem.Spec L2
section
variable {G : Gx} {X : Cx} {C : Cf} {params : Arguments} {body : Expr} {scope : Scope} {lpos p pos kpos : Pos} {c0 : Addr} {x : Str} {a : Expr} {a' : E} {i j k l kk : Nat}
theorem lam_turn {pins : List (Addr × Obj)} {σ : L2.St} {H0 : Hp} {q b c : Addr} {ctv : Value} {kf : Int × Int} (hr : Room (k + 1) X.A) (S : FnScope [x] [x] scope)
    (hb : ∀ (pm cv ctv u : Value), bindArgs (PySem.W.kla_fn "<lambda>" (X.env.qual ++ "<lambda>") params body scope [] pm cv ctv) ⟨[u], []⟩ = pure [(x, u)])
    (hbody : ∀ Y : Cx, Y.N[0]? = some x → Y.env.scope = scope → PE Y body (tPair Y.K i j)) (hq : H0 q = some (.ext (objO q (lamO X params body scope c ctv)))) (hc : H0 c = some (.ext (codeO c (X.env.qual ++ "<lambda>")))) (hk : KeyAt H0 i j kf b) : Turn X pins σ H0 q b kf := by
  intro s H J g
  have e1 : s.heap.get? q = some (lamO X params body scope c ctv) := (J.hok q _ (g _ _ hq)).1
  have e2 : s.heap.CodeRec (.ref c) (X.env.qual ++ "<lambda>") := (J.hok c _ (g _ _ hc)).1
  obtain ⟨ws, h1, h2, h3⟩ := hk
  refine lam_run (k := k) (N := [x]) (ps := [x]) (us := [.ref b]) (vs := [.ref b]) e1 e2 S hr.in1 J.env0.in1 (hb _ _ _ _) rfl (.cons rfl .nil) (hbody _ rfl rfl) ?_
  have at_ : ∀ {n : Nat} {v : V}, ws[n]? = some v → atI ws (n : Int) = some v := fun {n v} e => by
    have hl := (List.getElem?_eq_some_iff.mp e).1
    have h2 := (List.getElem?_eq_some_iff.mp e).2
    simp [L2.atI, L2.ixN, hl, h2]
  refine ⟨.ref b, rfl, b, ws, i, .int kf.1, rfl, rfl, .inl (.inl (g _ _ h1)), at_ h2, .ref b, rfl, b, ws, j, .int kf.2, rfl, rfl, .inl (.inl (g _ _ h1)), at_ h3, ?_⟩
  exact ⟨by show 2 ≤ sizeLine; decide, fun p hp => ⟨p, rfl, hp, rfl⟩⟩
def rMin (X : Cx) (params : Arguments) (body : Expr) (scope : Scope) (i j : Nat) : List V → List V → Hp → VK → Prop := fun vs zs H Q => ∃ l q a0 rest kf c ctv, vs = [.ref l] ∧ zs = [.ref q] ∧ Rd H l (.lst ((a0 :: rest : List Addr).map V.ref)) ∧
  (∀ b ∈ a0 :: rest, KeyAt H i j (kf b) b) ∧ H q = some (.ext (objO q (lamO X params body scope c ctv))) ∧ H c = some (.ext (codeO c (X.env.qual ++ "<lambda>"))) ∧ ∀ H', Gr H H' → Q (.ref (bestB kf a0 rest)) H'
theorem zaec {H : Hp} {a b : Addr} {u v : HO} (h : a ≠ b) : upd (upd H a u) b v = upd (upd H b v) a u := by
  funext d
  unfold upd
  by_cases h1 : d = a
  · by_cases h2 : d = b
    · exact absurd (h1.symm.trans h2) h
    · simp [h1, h2, h]
  · by_cases h2 : d = b
    · simp [h1, h2]
      intro z; exact absurd z.symm h
    · simp [h1, h2]
theorem sV_mnk (hr : Room (k + 1) X.A) (hcm : X.calm = true) (hcode : X.env.code = .ref c0) (hC : PySem.W.CodeHd X.base c0 (G.iA kk)) (hB : ∃ bm ob, X.mg "__builtins__" = some (.ref bm) ∧ bm ≠ builtinsNs ∧ X.base.get? bm = some ob ∧ ob.cls = .type "module" ∧ ob.dict = some builtinsNs ∧ ob.data = .plain)
    (ha : PE X a (tV G X C a')) (hm : X.mg "min" = none) (S : FnScope [x] [x] scope)
    (hb : ∀ (pm cv ctv u : Value), bindArgs (PySem.W.kla_fn "<lambda>" (X.env.qual ++ "<lambda>") params body scope [] pm cv ctv) ⟨[u], []⟩ = pure [(x, u)])
    (hbody : ∀ Y : Cx, Y.N[0]? = some x → Y.env.scope = scope → PE Y body (tPair Y.K i j)) (hg : Gl X "min" := by rfl) (hs : starEach [a] X.env = [(false, eval a X.env)] := by rfl) (hdef : defaultsOf params X.env = ([], []) := by rfl) (hcl : closureFor scope X.env = pure [] := by rfl) :
    PE X (.Call (.Name "min" p) [a] [⟨some "key", .Lambda params body scope lpos, kpos⟩] pos) (tV G X C (.mnk a' i j l kk lpos (X.env.qual ++ "<lambda>"))) := by
  refine PE.imp (zac4 (id := "min") (ks := ["key"]) (r := rMin X params body scope i j) ?_ hg hm rfl (zaak ha pa_nil hs) (pk_cons (pe_lam (P := G.iA kk) hcode hC hB hdef hcl) pk_nil) rfl rfl (by decide) (by decide) hs (by rw [hs]; rfl) rfl) ?_
  · rintro pins s σ H vs zs us ws Q I rv rz ⟨l, q, a0, rest, kf, c, ctv, rfl, rfl, hl, hk, hq, hc, fin⟩
    obtain ⟨u, rfl, ru⟩ := rv.one
    obtain ⟨zz, rfl, rq⟩ := rz.one
    cases ru
    obtain rfl : zz = Value.ref q := rq
    exact mk_min (Q := EP X pins σ Q) (I.ok.hd hcm) (hu_of hr) rfl hl (fun b hb' => lam_turn hr S hb hbody hq hc (hk b hb')) I (Gr.refl H) fun s' H' J g => ⟨.ref (bestB kf a0 rest), H', J, rfl, fin H' g⟩
  · rintro σV H Q ⟨w₀, H₀, w, σ, st, g, h⟩
    have hev : ev C (.mnk a' i j l kk lpos (X.env.qual ++ "<lambda>")) .v σ st = (ev C a' .v σ st).bind fun x s1 => .of (if isTbl s1 l kk lpos (X.env.qual ++ "<lambda>") then x.seq.bind fun ts => (minK i j ts).map .val else none) s1 := by
      rw [ev]; rfl
    rw [hev] at h
    refine ⟨w₀, H₀, w, σ, st, g, h.bind.imp ?_⟩
    rintro v H1 ⟨w1, r, s1, L1, S1, R1, h2⟩
    obtain ⟨r', e, cont⟩ := h2.of
    by_cases ht : isTbl s1 l kk lpos (X.env.qual ++ "<lambda>") = true
    · rw [if_pos ht] at e
      obtain ⟨ts, e1, e2⟩ := Option.bind_eq_some_iff.mp e
      obtain ⟨t, e3, rfl⟩ := map_some e2
      obtain ⟨la, vs, rfl, hla, rs⟩ := R1.seq (s := s1) e1
      obtain ⟨a0, rest, rfl, hka, rb⟩ := minK_at rs e3
      have hcell : s1[l]? = some (.tbl kk lpos (X.env.qual ++ "<lambda>")) := by
        unfold isTbl at ht
        split at ht
        · rename_i k' p' q' ez
          simp only [Bool.and_eq_true, decide_eq_true_eq] at ht
          obtain ⟨⟨rfl, rfl⟩, rfl⟩ := ht
          exact ez
        · cases ht
      have hln : l < w1.n := by rw [← S1.len]; exact (List.getElem?_eq_some_iff.mp hcell).1
      obtain ⟨hio, ps, hP, htr, hcv⟩ := S1.cell l _ hcell
      rw [hio] at hP
      have last : ∀ (H2 : Hp) (f c : Addr) (ctv : Value), Le w1 w1 H1 H2 → StoOk G w1 H2 s1 → Rd H2 la (.lst ((a0 :: rest).map V.ref)) → (∀ b ∈ a0 :: rest, KeyAt H2 i j (keyH H1 i j b) b) → H2 f = some (.ext (objO f (lamO X params body scope c ctv))) → H2 c = some (.ext (codeO c (X.env.qual ++ "<lambda>"))) →
          rMin X params body scope i j [.ref la] [.ref f] H2 Q := fun H2 f c ctv L2 S2 rd hk hf hc => ⟨la, f, a0, rest, keyH H1 i j, c, ctv, rfl, rfl, rd, hk, hf, hc, fun H' gr => cont w1 H' _ (L2.trans gr.le) (S2.gr gr) (Rep.mono (L2.trans gr.le) S1 t _ rb)⟩
      refine ⟨ps, hP, htr, hcv, fun f c ctv hf nf => ?_, fun f c ctv hf nc nf hcf hfP hcP => ?_⟩
      · have gr : Gr H1 (upd H1 f (.ext (objO f (lamO X params body scope c ctv)))) := (Gr.refl H1).new nf
        obtain ⟨c', e', hc'⟩ := hcv _ hf
        cases e'
        exact last _ f c ctv gr.le (S1.gr gr) (gr.rd hla) (fun b hb' => let ⟨ws, q1, q2, q3⟩ := hka b hb'; ⟨ws, gr _ _ q1, q2, q3⟩) zaae (gr _ _ hc')
      · have g1 : Gr H1 (upd H1 c (.ext (codeO c (X.env.qual ++ "<lambda>")))) := (Gr.refl H1).new nc
        have g2 : Gr H1 (upd (upd H1 c (.ext (codeO c (X.env.qual ++ "<lambda>")))) f (.ext (objO f (lamO X params body scope c ctv)))) := g1.new (by rw [upd_ne hcf.symm]; exact nf)
        have S2 := S1.gr g2
        have eH : upd (upd (upd H1 (G.iA kk) (.tbl (ps ++ #[rawInt lpos.line, rawInt lpos.col, .ref c]))) c (.ext (codeO c (X.env.qual ++ "<lambda>")))) f (.ext (objO f (lamO X params body scope c ctv))) = upd (upd (upd H1 c (.ext (codeO c (X.env.qual ++ "<lambda>")))) f (.ext (objO f (lamO X params body scope c ctv)))) (w1.io l) (.tbl (ps ++ #[rawInt lpos.line, rawInt lpos.col, .ref c])) := by
          rw [hio, zaec hcP.symm, zaec hfP.symm]
        have hP2 : upd (upd H1 c (.ext (codeO c (X.env.qual ++ "<lambda>")))) f (.ext (objO f (lamO X params body scope c ctv))) (w1.io l) = some (.tbl ps) := by rw [hio]; exact g2 _ _ hP
        have hfw : f ≠ w1.io l := by rw [hio]; exact hfP
        have hcw : c ≠ w1.io l := by rw [hio]; exact hcP
        rw [eH]
        have ef : upd (upd (upd H1 c (.ext (codeO c (X.env.qual ++ "<lambda>")))) f (.ext (objO f (lamO X params body scope c ctv)))) (w1.io l) (.tbl (ps ++ #[rawInt lpos.line, rawInt lpos.col, .ref c])) f = some (.ext (objO f (lamO X params body scope c ctv))) := by rw [upd_ne hfw, zaae]
        have ec : upd (upd (upd H1 c (.ext (codeO c (X.env.qual ++ "<lambda>")))) f (.ext (objO f (lamO X params body scope c ctv)))) (w1.io l) (.tbl (ps ++ #[rawInt lpos.line, rawInt lpos.col, .ref c])) c = some (.ext (codeO c (X.env.qual ++ "<lambda>"))) := by rw [upd_ne hcw, upd_ne hcf, zaae]
        have S3 := S2.setC (c := .tbl kk lpos (X.env.qual ++ "<lambda>")) (o' := .tbl (ps ++ #[rawInt lpos.line, rawInt lpos.col, .ref c])) hln hP2 (by intro _ z; cases z) (by intro _ z; cases z) ⟨hio, _, zaae, by
          have := TriplesOk_snoc lpos.line lpos.col (.ref c) ps.toList htr
          simpa using this, fun cv hcv' => by
          have := codeAmong_snoc (pos := lpos) (c := .ref c) ps.toList htr hf
          have e4 : codeAmong lpos (ps ++ #[rawInt lpos.line, rawInt lpos.col, .ref c]).toList = some (.ref c) := by simpa using this
          rw [e4] at hcv'
          cases hcv'
          exact ⟨c, rfl, ec⟩⟩
        have eset : s1.set l (.tbl kk lpos (X.env.qual ++ "<lambda>")) = s1 := by
          have hl' := (List.getElem?_eq_some_iff.mp hcell).1
          rw [← (List.getElem?_eq_some_iff.mp hcell).2]
          exact List.set_getElem_self hl'
        rw [eset] at S3
        have L3 : Le w1 w1 H1 _ := (g2.le (w := w1)).setC (o' := .tbl (ps ++ #[rawInt lpos.line, rawInt lpos.col, .ref c])) hln (by rw [hP2]; intro z; cases z)
        have rdK : ∀ {b : Addr} {o : HO}, H1 b = some o → (∀ qs, o ≠ .tbl qs) → upd (upd (upd H1 c (.ext (codeO c (X.env.qual ++ "<lambda>")))) f (.ext (objO f (lamO X params body scope c ctv)))) (w1.io l) (.tbl (ps ++ #[rawInt lpos.line, rawInt lpos.col, .ref c])) b = some o := fun {b o} e ne => by
          rw [upd_ne (fun z => by rw [z, hio, hP] at e; exact ne _ (Option.some.inj e).symm)]; exact g2 _ _ e
        refine last _ f c ctv L3 S3 ?_ (fun b hb' => let ⟨ws, q1, q2, q3⟩ := hka b hb'; ⟨ws, rdK q1 (by intro _ z; cases z), q2, q3⟩) ef ec
        rcases hla with z | ⟨o, z⟩
        · exact .inl (rdK z (by intro _ z; cases z))
        · exact .inr ⟨o, rdK z (by intro _ z; cases z)⟩
    · rw [if_neg ht] at e
      cases e
end
end IP
end
section
set_option Elab.async false
set_option linter.all false
set_option maxRecDepth 100000
namespace IP
open PySem PySem.Spec L2
open PyProof.Rows (seqObj)
section
variable {prog : Program} {w : World} {A : Around} {l I S : Addr} {its : List Value} {is : List Int} {kw : List (Str × Value)} {R : Result → Shared → Prop} {E : Value → Shared → Prop} {Q : Value → Shared → Prop}
def mxF (m x : Int) : Int := if x > m then x else m
theorem zacp : ∀ {its : List Value} {is : List Int} {j : Nat} {i : Int} {v : Value}, PyProof.Rows.IntsAre its is → is[j]? = some i → its[j]? = some v → ∃ t, v = .int i t
  | _, _, j, i, v, .nil, h, _ => by simp at h
  | _, _, 0, i, v, .cons a t r, h, q => by simp at h q; subst h; exact ⟨_, q.symm⟩
  | _, _, j + 1, i, v, .cons a t r, h, q => zacp r (by simpa using h) (by simpa using q)
theorem mx_loop (hh : A.handled = none) (hi : PyProof.Rows.IntsAre its is) (hlI : l ≠ I) (hlS : l ≠ S) (hSI : S ≠ I) :
    ∀ (rest : List Int) (j : Nat) (m : Int) (tm : Tok) (s : Shared) (c : Nat), is.drop (j + 1) = rest → j + 1 ≤ is.length → s.heap.IsList l its.toArray → s.heap.IsListIter I l (j + 1) → s.heap.get? S = some (seqObj "list" #[.int m tm, .int m tm] c) →
      (∀ (h' : Heap) (tk : Nat) (t : Tok), (∀ b o, b ≠ I → b ≠ S → s.heap.get? b = some o → h'.get? b = some o) → R (.ok (.ret (.int (rest.foldl mxF m) t))) { s with heap := h', toks := tk }) →
      codeAny (model prog w) A (.builtin "max.loop" ⟨[.ref I, .none, .ref S], kw⟩) R s := by
  have hname : (toString "max" ++ toString ".loop" : String) = "max.loop" := by decide
  have W := Walks.list (prog := prog) (w := w) (A := A.in1) hh I l hlI its.toArray
  have hsz : its.toArray.size = is.length := by rw [List.size_toArray, hi.length]
  intro rest
  induction rest with
  | nil =>
    intro j m tm s c hd hj hl hit hS hR
    have hin : j + 1 = is.length := by
      have := congrArg List.length hd
      simp at this
      omega
    refine codeAny_builtin PySem.F.entry_max_loop ?_
    rw [Around.under_plainId PySem.F.plain_max_loop _]
    show wpAny _ A.in1 (seqItems? (.ref S) >>= _) _ _ _
    refine wpAny_bind (wpAny_seqItems hS rfl ?_)
    show wpAny _ A.in1 (tryCatch (pyNext (.ref I)) _ >>= _) _ _ _
    refine wpAny_bind (wpAny_tryCatch (W.done _ _ _ ⟨by rw [hsz, ← hin]; exact hit, hl⟩ fun h' tk' hk' => ?_))
    have hS' := hk' S _ (by simpa using hSI) hS
    have s1 := Heap.SameBut.update h' S (Obj.mapSeq fun _ => (#[] : Array Value))
    show wpAny _ A.in1 (updateSeq S (fun _ => #[]) >>= _) _ _ _
    refine wpAny_bind ?_
    refine wpAny_updateSeq hS' rfl (wpAny_bind (wpAny_letGo (wpAny_pure ?_)))
    exact hR _ _ tm fun b o h1 h2 e => (s1.2 b h2).trans (hk' b o (by simpa using h1) e)
  | cons x rest ih =>
    intro j m tm s c hd hj hl hit hS hR
    have hlt : j + 1 < is.length := by
      have := congrArg List.length hd
      simp at this
      omega
    have hx : is[j + 1]? = some x := by
      have := congrArg (fun x : List Int => x[0]?) hd
      simpa using this
    have hd' : is.drop (j + 1 + 1) = rest := by
      have := congrArg List.tail hd
      simpa using this
    refine codeAny_builtin PySem.F.entry_max_loop ?_
    rw [Around.under_plainId PySem.F.plain_max_loop _]
    show wpAny _ A.in1 (seqItems? (.ref S) >>= _) _ _ _
    refine wpAny_bind (wpAny_seqItems hS rfl ?_)
    show wpAny _ A.in1 (tryCatch (pyNext (.ref I)) _ >>= _) _ _ _
    refine wpAny_bind (wpAny_tryCatch (W.item (j + 1) _ _ _ (by rw [hsz]; exact hlt) ⟨hit, hl⟩ fun v h' tk' hP hst' hk' => ?_))
    obtain ⟨tx, rfl⟩ := zacp hi hx (by simpa using hP)
    have hS1 := hk' S _ (by simpa using hSI) hS
    have hit1 := hst'.1
    have hl1 := hst'.2
    refine wpAny_bind (wpAny_pure ?_)
    show wpAny _ A.in1 (tryCatch (holding [.int x tx, .int x tx] (richCompare .Gt (.int x tx) (.int m tm) >>= _)) _ >>= _) _ _ _
    refine wpAny_bind (wpAny_tryCatch (wpAny_holding (wpAny_bind (CmpOf.ints_gt (prog := prog) (w := w) (A := A.in1) (P := fun i v => ∃ t, v = .int (if i = 0 then x else m) t) (fun i => if i = 0 then x else m) (fun i v h => h) 0 1 _ _ _ _ _ ⟨tx, rfl⟩ ⟨tm, rfl⟩ ?_))))
    refine wpAny_bind (wpAny_holding (wpAny_truthy_bool ?_))
    refine wpAny_bind (wpAny_letGo (wpAny_pure ?_))
    by_cases hb' : x > m
    · have s1 := Heap.SameBut.update h' S (Obj.mapSeq fun _ => #[.int x tx, .int x tx])
      obtain ⟨c2, hc2⟩ : ∃ c2, (h'.update S (Obj.mapSeq fun _ => #[.int x tx, .int x tx])).get? S = some (seqObj "list" #[.int x tx, .int x tx] c2) := ⟨_, PyProof.Rows.get?_update_seq hS1 fun _ => #[.int x tx, .int x tx]⟩
      have e : (decide ((if (0 : Nat) = 0 then x else m) > if (1 : Nat) = 0 then x else m)) = true := by simpa using hb'
      simp only [eq_self, if_true, Nat.one_ne_zero, if_false, hb', decide_true]
      refine wpAny_bind ?_
      refine wpAny_updateSeq hS1 rfl (wpAny_bind (wpAny_letGo ?_))
      rw [hname]
      have ef : (x :: rest).foldl mxF m = rest.foldl mxF x := by rw [List.foldl_cons]; unfold mxF; rw [if_pos hb']
      rw [ef] at hR
      refine wpAny_pure ⟨plainId_quiet PySem.F.plain_max_loop _, ih (j + 1) x tx _ c2 hd' hlt ?_ (zaa2 (fun b o e z => by subst z; exact (s1.2 b hSI.symm).trans e) hit1) hc2 fun h2 tk t hk => ?_⟩
      · obtain ⟨o, e1, r⟩ := hl1
        exact ⟨o, (s1.2 l hlS).trans e1, r⟩
      · exact hR h2 tk t fun b o h1 h3 e => hk b o h1 h3 ((s1.2 b h3).trans (hk' b o (by simpa using h1) e))
    · have e : (decide ((if (0 : Nat) = 0 then x else m) > if (1 : Nat) = 0 then x else m)) = false := by simpa using hb'
      simp only [eq_self, if_true, Nat.one_ne_zero, if_false, hb', decide_false, Bool.false_eq_true]
      refine wpAny_bind (wpAny_letGo ?_)
      rw [hname]
      have ef : (x :: rest).foldl mxF m = rest.foldl mxF m := by rw [List.foldl_cons]; unfold mxF; rw [if_neg hb']
      rw [ef] at hR
      exact wpAny_pure ⟨plainId_quiet PySem.F.plain_max_loop _, ih (j + 1) m tm _ c hd' hlt hl1 hit1 hS1 fun h2 tk t hk => hR h2 tk t fun b o h1 h3 e => hk b o h1 h3 (hk' b o (by simpa using h1) e)⟩
theorem args_maxd (a v : Value) : argsOk "max" ⟨[a], [(Str.ofString "default", v)]⟩ := by unfold argsOk; kernel_rfl
theorem mx_call {d : Value} {s : Shared} (hh : A.handled = none) (hi : PyProof.Rows.IntsAre its is) (hl : s.heap.IsList l its.toArray)
    (hQ : ∀ (v : Value) (h' : Heap) (tk : Nat), (∀ b o, s.heap.get? b = some o → h'.get? b = some o) → (∀ m, maxI is = some m → ∃ t, v = .int m t) → (maxI is = none → v = d) → Q v { s with heap := h', toks := tk }) :
    wpAny (model prog w) A (call (.builtin "max") [.ref l] [(Str.ofString "default", d)]) Q E s := by
  have hname : (toString "max" ++ toString ".loop" : String) = "max.loop" := by decide
  obtain ⟨ol, hol, _⟩ := id hl
  have hll : l < s.heap.objs.size := Heap.lt_size hol
  refine PyProof.Rows.kmk_tree PySem.F.kind_max PySem.F.plain_max PySem.F.entry_max (args_maxd _ _) ?_
  show wpAny _ A.in1 (Builtin.Builtins.bindParams "max" ["key", "default"] 0 ⟨[], [(Str.ofString "default", d)]⟩ >>= _) _ _ s
  refine wpAny_bind (wpAny_of_eq (show Builtin.Builtins.bindParams "max" ["key", "default"] 0 ⟨[], [(Str.ofString "default", d)]⟩ = pure [none, some d] from rfl) ?_)
  refine wpAny_bind (wpAny_pure ?_)
  refine wpAny_bind (wpAny_pyIter_list hl ?_)
  refine wpAny_bind (wpAny_newList ?_ (Nat.zero_le _))
  rw [hname]
  have gI : (s.heap.push { cls := .type "list_iterator", data := .fields #[.ref l, .int 0 0] }).get? s.heap.objs.size = some { cls := .type "list_iterator", data := .fields #[.ref l, .int 0 0] } := Heap.get?_push_size _ rfl
  have hk1 : ∀ b o, s.heap.get? b = some o → (s.heap.push { cls := .type "list_iterator", data := .fields #[.ref l, .int 0 0] }).get? b = some o := fun b o e => Heap.get?_push_of_some _ e
  have hS0 : (s.heap.push { cls := .type "list_iterator", data := .fields #[.ref l, .int 0 0] }).objs.size = s.heap.objs.size + 1 := Heap.size_push ..
  have nI : ∀ b o, s.heap.get? b = some o → b ≠ s.heap.objs.size := fun b o e => Nat.ne_of_lt (Heap.lt_size e)
  have nS0 : ∀ b o, s.heap.get? b = some o → b ≠ s.heap.objs.size + 1 := fun b o e => Nat.ne_of_lt (Nat.lt_succ_of_lt (Heap.lt_size e))
  generalize s.heap.push { cls := .type "list_iterator", data := .fields #[.ref l, .int 0 0] } = h1 at *
  rw [hS0]
  have gS : (h1.push (seqObj "list" #[] 0)).get? (s.heap.objs.size + 1) = some (seqObj "list" #[] 0) := by rw [← hS0]; exact Heap.get?_push_size _ rfl
  have hk2 : ∀ b o, s.heap.get? b = some o → (h1.push (seqObj "list" #[] 0)).get? b = some o := fun b o e => Heap.get?_push_of_some _ (hk1 b o e)
  have gI2 : (h1.push (seqObj "list" #[] 0)).get? s.heap.objs.size = some { cls := .type "list_iterator", data := .fields #[.ref l, .int 0 0] } := Heap.get?_push_of_some _ gI
  have hl2 : (h1.push (seqObj "list" #[] 0)).IsList l its.toArray := by
    obtain ⟨o, e1, r⟩ := hl
    exact ⟨o, hk2 _ _ e1, r⟩
  have hlI : l ≠ s.heap.objs.size := Nat.ne_of_lt hll
  have hlS : l ≠ s.heap.objs.size + 1 := Nat.ne_of_lt (Nat.lt_succ_of_lt hll)
  have hSI : s.heap.objs.size + 1 ≠ s.heap.objs.size := Nat.succ_ne_self _
  generalize s.heap.objs.size + 1 = S at *
  generalize s.heap.objs.size = I at *
  generalize h1.push (seqObj "list" #[] 0) = h2 at *
  have W := Walks.list (prog := prog) (w := w) (A := A.in1) hh I l hlI its.toArray
  have hsz : its.toArray.size = is.length := by rw [List.size_toArray, hi.length]
  refine wpAny_pure ⟨plainId_quiet PySem.F.plain_max_loop _, ?_⟩
  refine codeAny_builtin PySem.F.entry_max_loop ?_
  rw [Around.under_plainId PySem.F.plain_max_loop _]
  show wpAny _ A.in1 (seqItems? (.ref S) >>= _) _ _ _
  refine wpAny_bind (wpAny_seqItems gS rfl ?_)
  show wpAny _ A.in1 (tryCatch (pyNext (.ref I)) _ >>= _) _ _ _
  cases is with
  | nil =>
    refine wpAny_bind (wpAny_tryCatch (W.done _ _ _ ⟨by rw [hsz]; exact ⟨_, gI2, rfl, rfl⟩, hl2⟩ fun h' tk' hk' => ?_))
    refine wpAny_bind (wpAny_rule (wpAny_pure ?_))
    exact hQ d h' tk' (fun b o e => hk' b o (by simpa using nI b o e) (hk2 b o e)) (fun m z => by cases z) fun _ => rfl
  | cons x rest =>
    refine wpAny_bind (wpAny_tryCatch (W.item 0 _ _ _ (by rw [hsz]; simp) ⟨⟨_, gI2, rfl, rfl⟩, hl2⟩ fun v h' tk' hP hst' hk' => ?_))
    obtain ⟨tx, rfl⟩ := zacp hi rfl (by simpa using hP)
    have hS1 := hk' S _ (by simpa using hSI) gS
    refine wpAny_bind (wpAny_pure ?_)
    have s1 := Heap.SameBut.update h' S (Obj.mapSeq fun _ => #[.int x tx, .int x tx])
    obtain ⟨c2, hc2⟩ : ∃ c2, (h'.update S (Obj.mapSeq fun _ => #[.int x tx, .int x tx])).get? S = some (seqObj "list" #[.int x tx, .int x tx] c2) := ⟨_, PyProof.Rows.get?_update_seq hS1 fun _ => #[.int x tx, .int x tx]⟩
    show wpAny _ A.in1 (updateSeq S (fun _ => #[.int x tx, .int x tx]) >>= _) _ _ _
    refine wpAny_bind ?_
    refine wpAny_updateSeq hS1 rfl ?_
    rw [hname]
    refine wpAny_pure ⟨plainId_quiet PySem.F.plain_max_loop _, mx_loop hh hi hlI hlS hSI rest 0 x tx _ c2 rfl (by simp) ?_ (zaa2 (fun b o e z => by subst z; exact (s1.2 b hSI.symm).trans e) hst'.1) hc2 fun h3 tk t hk => ?_⟩
    · obtain ⟨o, e1, r⟩ := hst'.2
      exact ⟨o, (s1.2 l hlS).trans e1, r⟩
    · refine hQ _ h3 tk (fun b o e => hk b o (nI b o e) (nS0 b o e) ((s1.2 b (nS0 b o e)).trans (hk' b o (by simpa using nI b o e) (hk2 b o e)))) (fun m z => ?_) fun z => by cases z
      cases z
      exact ⟨t, rfl⟩
end
section
variable {G : Gx} {X : Cx} {C : Cf} {a b : Expr} {a' b' : IP.E} {p pos kpos : Pos}
def rMxd (G : Gx) : List V → List V → Hp → VK → Prop := fun vs zs H Q => ∃ l is d, vs = [.ref l] ∧ zs = [.int d] ∧ Rd H l (.lst (is.map V.int)) ∧ Q (.int ((maxI is).getD d)) H
theorem zacf {w : Wo} {H : Hp} : ∀ {ts : List T} {is : List Int} {vs : List V}, asInts ts = some is → Reps G w H ts vs → vs = is.map V.int
  | [], is, vs, h, r => by cases h; cases r; rfl
  | t :: ts, is, vs, h, r => by
    obtain ⟨v, q, rfl, h1, h2⟩ := r
    cases t with
    | int i =>
      unfold asInts at h
      cases e1 : asInts ts with
      | none => rw [e1] at h; cases h
      | some js =>
        rw [e1] at h
        cases h
        cases h1
        rw [zacf e1 h2]
        rfl
    | _ => cases h
theorem sV_mxd (hcm : X.calm = true) (ha : PE X a (tV G X C a')) (hb : PE X b (tV G X C b')) (hm : X.mg "max" = none) (hg : Gl X "max" := by rfl) (hs : starEach [a] X.env = [(false, eval a X.env)] := by rfl) :
    PE X (.Call (.Name "max" p) [a] [⟨some "default", b, kpos⟩] pos) (tV G X C (.mxd a' b')) := by
  refine PE.imp (zac4 (id := "max") (ks := ["default"]) (r := rMxd G) ?_ hg hm rfl (zaak ha pa_nil hs) (pk_cons hb pk_nil) rfl rfl (by decide) (by decide) hs (by rw [hs]; rfl) rfl) ?_
  · rintro pins s σ H vs zs us ws Q I rv rz ⟨l, is, d, rfl, rfl, hl, fin⟩
    obtain ⟨u, rfl, ru⟩ := rv.one
    obtain ⟨zz, rfl, rq⟩ := rz.one
    cases ru
    obtain ⟨td, rfl⟩ := rq
    obtain ⟨its, r, pl, hz⟩ := I.list (.inl hl)
    refine mx_call (Q := EP X pins σ Q) (I.ok.hd hcm) (zabf r) pl.isList fun v h' tk hk h1 h2 => ?_
    cases hm' : maxI is with
    | none =>
      rw [hm'] at fin
      rw [h2 hm']
      exact ⟨.int d, H, I.kept hk, ⟨td, rfl⟩, fin⟩
    | some m =>
      rw [hm'] at fin
      obtain ⟨t, rfl⟩ := h1 m hm'
      exact ⟨.int m, H, I.kept hk, ⟨t, rfl⟩, fin⟩
  · rintro σV H Q ⟨w₀, H₀, w, σ, st, g, h⟩
    have hev : ev C (.mxd a' b') .v σ st = (ev C a' .v σ st).bind fun x s1 => (ev C b' .v σ s1).bind fun y s2 => .of (do let ts ← x.seq; let is ← asInts ts; let d ← y.int?; some (.val (.int ((maxI is).getD d)))) s2 := by
      rw [ev]; rfl
    rw [hev] at h
    refine ⟨w₀, H₀, w, σ, st, g, h.bind.imp ?_⟩
    rintro v H1 ⟨w1, r, s1, L1, S1, R1, h2⟩
    refine ⟨w₀, H₀, w1, σ, s1, g.step L1 S1, h2.bind.imp ?_⟩
    rintro v2 H2 ⟨w2, r2, s2, L2, S2, R2, h3⟩
    obtain ⟨r', e, cont⟩ := h3.of
    obtain ⟨ts, e1, e2⟩ := Option.bind_eq_some_iff.mp e
    obtain ⟨is, e3, e4⟩ := Option.bind_eq_some_iff.mp e2
    obtain ⟨d, e5, e6⟩ := Option.bind_eq_some_iff.mp e4
    cases e6
    obtain ⟨la, vs, rfl, hla, rs⟩ := (R1.mono L2 S1).seq (s := s2) e1
    have hv2 : v2 = .int d := by
      match r2, e5 with
      | .val (.int i), e5 => cases e5; exact R2
    subst hv2
    rw [zacf e3 rs] at hla
    exact ⟨la, is, d, rfl, rfl, hla, cont w2 H2 _ (Le.refl _ _) S2 rfl⟩
end
end IP
end
section
set_option Elab.async false
set_option linter.all false
set_option maxRecDepth 100000
namespace IP
open PySem PySem.Spec L2
def BM (mg : Str → Option Value) (h : Heap) : Prop := ∃ bm ob, mg "__builtins__" = some (.ref bm) ∧ bm ≠ builtinsNs ∧ h.get? bm = some ob ∧ ob.cls = .type "module" ∧ ob.dict = some builtinsNs ∧ ob.data = .plain
theorem law_callT {P : Program} {w : World} {K : PySem.W.Frag} {mg mb : Str → Option Value} {k : Nat} {fa a c0 Pt : Addr} {fd : FuncData} {x : Str} {sp : Sp} {s₁ : Shared} {vs : List Value} {ns : List Int}
    (KX : K.In s₁.heap) (hns : s₁.heap.Ns mainGlobals mg) (hb : s₁.heap.Ns builtinsNs mb) (hbb : ∀ x : Str, x ≠ "__name__" → mb x = bootBuiltins x) (hlim : s₁.heap.NoLimit) (hg : s₁.gens = #[])
    (ha : s₁.heap.get? a = some { cls := .type "list", data := .seq vs.toArray }) (hi : PyProof.Rows.IntsAre vs ns) (hl : ns.length ≤ sizeLine) (hr : Room k callerA)
    (hC : PySem.W.CodeHd s₁.heap c0 Pt) (hT : s₁.heap.TableAt c0 Pt #[]) (hKP : K.lookup Pt = none) (hKa : K.lookup a = none) (hM : BM mg s₁.heap)
    (F : ∀ base : Heap, K.In base → base.Ns mainGlobals mg → PySem.W.CodeHd base c0 Pt → BM mg base → FnOk P w K mg base CX0 k fa fd [x] sp) (hbind : ∀ (s : Shared) (u : Value), BindsTo s fd ⟨[u], []⟩ [(x, u)])
    (hsp : ∀ H : Hp, Rd H a (.lst (ns.map V.int)) → H Pt = some (.tbl #[]) → a ≠ Pt → sp [.ref a] H (fun v _ => v = .bl true) fun _ _ _ => False) :
    codeAny (model P w) callerA (.call (.ref fa) ⟨[.ref a], []⟩) (fun r s' => r = .ok (.ret (.bool true)) ∧ OldK s₁.heap s'.heap ∧ s'.os = s₁.os ∧ PyProof.Rows.AllBare s'.gens) s₁ := by
  have rv := zabx hi
  have lenV := hi.length
  have hPt : s₁.heap.get? Pt = some { cls := .none, data := .fields #[] } := hT.2
  have haP : a ≠ Pt := fun z => by rw [z, hPt] at ha; cases ha
  have hH : ∃ H : Hp, H a = some (.frz { cls := .type "list", data := .seq vs.toArray } (.lst (ns.map V.int))) ∧ H Pt = some (.tbl #[]) ∧ ∀ b, b ≠ a → b ≠ Pt → H b = none :=
    ⟨fun b => if b = a then some (.frz { cls := .type "list", data := .seq vs.toArray } (.lst (ns.map V.int))) else if b = Pt then some (.tbl #[]) else none, if_pos rfl, by show (if Pt = a then _ else if Pt = Pt then some (HO.tbl #[]) else none) = _; rw [if_neg haP.symm, if_pos rfl], fun b h1 h2 => by show (if b = a then _ else if b = Pt then _ else none) = none; rw [if_neg h1, if_neg h2]⟩
  obtain ⟨H, Ha, HP, Hn⟩ := hH
  have hok : HOk P w H s₁.heap := fun b u z => by
    by_cases h1 : b = a
    · subst h1
      rw [Ha] at z; cases z
      exact ⟨ha, by rw [List.length_map]; exact hl, vs, _, rv, ha⟩
    · by_cases h2 : b = Pt
      · subst h2
        rw [HP] at z; cases z
        exact hPt
      · rw [Hn b h1 h2] at z; cases z
  have base_of : ∀ {b : Addr} {o : Obj}, s₁.heap.get? b = some o → b ≠ a → b ≠ Pt → (hidT s₁.heap H).get? b = some o := fun {b o} e h1 h2 => zad4 e (Hn b h1 h2)
  have nsK : ∀ {b : Addr} {m : Str → Option Value}, s₁.heap.Ns b m → (hidT s₁.heap H).Ns b m := fun {b m} ⟨o, es, ep, e, d, r⟩ => ⟨o, es, ep, base_of e (fun z => by rw [z, ha] at e; cases e; cases d) (fun z => by rw [z, hPt] at e; cases e; cases d), d, r⟩
  have hKb : K.In (hidT s₁.heap H) := fun b o e => base_of (KX b o e) (fun z => by rw [z, hKa] at e; cases e) (fun z => by rw [z, hKP] at e; cases e)
  have hCb : PySem.W.CodeHd (hidT s₁.heap H) c0 Pt := by
    obtain ⟨o, us, file, tf, flags, tg, inF, text, tt, e1, e2, r⟩ := hC
    exact ⟨o, us, file, tf, flags, tg, inF, text, tt, base_of e1 (fun z => by rw [z, ha] at e1; cases e1; simp at e2) r.2.2.2.2.2.2.2, e2, r⟩
  have hMb : BM mg (hidT s₁.heap H) := by
    obtain ⟨bm, ob, b1, b2, b3, b4, r⟩ := hM
    exact ⟨bm, ob, b1, b2, base_of b3 (fun z => by rw [z, ha] at b3; cases b3; simp at b4) (fun z => by rw [z, hPt] at b3; cases b3; cases b4), b4, r⟩
  have hMd : Mod K mg (hidT s₁.heap H) := ⟨hKb, nsK hns, ⟨mb, nsK hb, hbb⟩, let ⟨mc, h1, h2⟩ := hlim; ⟨mc, nsK h1, h2⟩⟩
  have e0 : Env0 P w K mg (hidT s₁.heap H) callerA [] s₁ H := ⟨rfl, hMd, fun b o e => of_hidT e, Nat.le_of_eq (zac2 _ _), trivial, fun b hb => absurd (show b ∈ ([] : List Addr) from hb) (by simp), hok, .of_eq hg⟩
  refine codeAny_mono ((F _ hKb (nsK hns) hCb hMb).run callerA [] s₁ H ⟨[.ref a], []⟩ [.ref a] [.ref a] _ _ hr e0 (hbind s₁ (.ref a)) (.cons rfl .nil) (hsp H (.inr ⟨_, Ha⟩) HP haP)) fun r s' h => ?_
  cases r with
  | error e => exact False.elim h
  | ok fl =>
    cases fl with
    | next => exact False.elim h
    | brk => exact False.elim h
    | cont => exact False.elim h
    | ret u =>
      obtain ⟨v, H', os, bare, un, hok', r', q⟩ := h
      have q' : v = .bl true := q
      subst q'
      obtain rfl : u = Value.bool true := r'
      have ka : ∀ o, s₁.heap.get? a = some o → s'.heap.get? a = some o := fun o e => by
        have z2 := un.frzs a _ _ Ha
        obtain ⟨e2, _⟩ := hok' a _ z2
        rw [ha] at e; cases e
        exact e2
      have kn : ∀ b o, b ≠ a → b ≠ Pt → s₁.heap.get? b = some o → s'.heap.get? b = some o := fun b o h1 h2 e => un.keep b o e (Hn b h1 h2) (by intro z; exact absurd (show b ∈ ([] : List Addr) from z) (by simp)) (by simp)
      obtain ⟨more, em⟩ := un.tbls Pt _ HP
      have kP : s'.heap.get? Pt = some { cls := .none, data := .fields (#[] ++ more) } := hok' Pt _ em
      refine ⟨rfl, ⟨fun b o e => ?_, fun b o e => ?_⟩, os, bare⟩
      · by_cases h1 : b = a
        · subst h1; exact .inl (ka o e)
        · by_cases h2 : b = Pt
          · subst h2
            rw [hPt] at e; cases e
            exact .inr (.inl ⟨hT.isCodeTable, rfl, #[], more, rfl, kP⟩)
          · exact .inl (kn b o h1 h2 e)
      · by_cases h1 : b = a
        · subst h1; exact ⟨o, ka o e⟩
        · by_cases h2 : b = Pt
          · subst h2; exact ⟨_, kP⟩
          · exact ⟨o, kn b o h1 h2 e⟩
theorem zaei : ∀ {K : List (Addr × Obj)} {a : Addr} {o : Obj}, K.lookup a = some o → (a, o) ∈ K
  | [], a, o, h => by cases h
  | (b, u) :: r, a, o, h => by
    rw [List.lookup_cons] at h
    split at h
    · rename_i hb
      cases h
      rw [beq_iff_eq.mp hb]
      exact List.mem_cons_self
    · exact List.mem_cons_of_mem _ (zaei h)
def noLT (K : PySem.W.Frag) : Bool := K.all fun p => match p.2.cls, p.2.data with | .type n, _ => n != "list" | .none, .fields _ => false | _, _ => true
theorem noLT_no {K : PySem.W.Frag} (h : noLT K = true) {a : Addr} {o : Obj} (e : K.lookup a = some o) : o.cls ≠ .type "list" ∧ o ≠ { cls := .none, data := .fields #[] } := by
  have q := List.all_eq_true.mp h _ (zaei e)
  constructor
  · intro z
    obtain ⟨cls, dd, data, sl⟩ := o
    simp only at z
    subst z
    exact absurd (show (("list" : String) != "list") = true from q) (by decide)
  · intro z
    subst z
    exact Bool.noConfusion (show false = true from q)
theorem walk_ofT {l : PySem.W.OpenLaw} {n k : Nat} {q : Program} {loose : List Str} {XP : (Str → Option Value) → Heap → Prop} {YP : World → Heap → Prop} {d d0 : DefRec} {K : Params → PySem.W.Frag} {sp : World → Addr → Sp} {x : Str}
    (hn : l.most = some n) (hn2 : n ≤ sizeLine) (hdf : d.params.defaults = []) (hr : Room k callerA) (hd0 : d0 ∈ PyProof.Rows.recsOf q)
    (hY : ∀ (w : World) (h : Heap), YP w h → (K w.params).In h) (hK : ∀ w : World, noLT (K w.params) = true)
    (F : ∀ (w : World) (mg : Str → Option Value) (fa c0 Pt : Addr) (h : Heap), (K w.params).In h → h.Ns mainGlobals mg → mg d.name = some (.ref fa) → (∀ (f : Addr) (o : Obj) (fd : FuncData), mg d0.name = some (.ref f) → h.get? f = some o → o.data = .func fd → fd.code = .ref c0) →
      ∃ fd : FuncData, (∀ (s : Shared) (u : Value), BindsTo s fd ⟨[u], []⟩ [(x, u)]) ∧
        ∀ base : Heap, (K w.params).In base → base.Ns mainGlobals mg → PySem.W.CodeHd base c0 Pt → BM mg base → FnOk l.prog w (K w.params) mg base CX0 k fa fd [x] (sp w Pt))
    (hsp : ∀ (w : World) (H : Hp) (a Pt : Addr) (ns : List Int), ns.length ≤ n → Rd H a (.lst (ns.map V.int)) → H Pt = some (.tbl #[]) → a ≠ Pt → sp w Pt [.ref a] H (fun v _ => v = .bl true) fun _ _ _ => False) :
    PySem.W.WalkO q loose XP YP l.row.toRowW d [] (fun f vs => PySem.call f vs) := by
  refine Att.attach_call hn hdf fun w s₀ s₁ mg mb fa o pm cd doc a vs ns G Y ho hd hcd hmg hobj hints hlen hg => ?_
  have KX := hY w _ Y
  obtain ⟨f0, o0, fd0, c0, Pt, t1, t2, t3, t4, t5, t6⟩ := G.T.tab d0 hd0
  have hC : PySem.W.CodeHd s₁.heap c0 Pt := PySem.W.CodeHd.of t5 t6
  obtain ⟨fd, hb, hF⟩ := F w mg fa c0 Pt _ KX G.T.g hmg (fun f o fd e1 e2 e3 => by
    rw [t1] at e1; cases e1
    rw [t2] at e2; cases e2
    rw [t3] at e3; cases e3
    exact t4)
  have nol : ∀ {b : Addr} {u : Obj}, s₁.heap.get? b = some u → (u.cls = .type "list" ∨ u = { cls := .none, data := .fields #[] }) → (K w.params).lookup b = none := fun {b u} e hc => by
    cases z : (K w.params).lookup b with
    | none => rfl
    | some u' =>
      have e2 := KX b u' z
      rw [e] at e2; cases e2
      have := noLT_no (hK w) z
      rcases hc with hc | hc
      · exact absurd hc this.1
      · exact absurd hc this.2
  exact law_callT KX G.T.g G.T.b G.T.builtins G.T.nolimit hg hobj hints (Nat.le_trans hlen hn2) hr hC t6 (nol t6.2 (.inr rfl)) (nol hobj (.inl rfl)) G.T.bmain hF hb (fun H h1 h2 h3 => hsp w H a Pt ns hlen h1 h2 h3)
end IP
end
section
set_option Elab.async false
set_option linter.all false
set_option maxRecDepth 100000
namespace IP
open PySem PySem.Spec L2
section
variable {G : Gx} {X : Cx} {C : Cf} {a b e : Expr} {a' b' e' : IP.E} {pos p p2 : Pos}
def relN (sc names : List (Str × NameKind)) : List (Str × NameKind) := names.map fun (n, k) => if (k == .free && sc.lookup n == some .cell) then (n, .cell) else (n, k)
def visB (names : List (Str × NameKind)) (x : Str) : Bool := names.lookup x == some .local || names.lookup x == some .cell || names.lookup x == some .free
def ckComp (sc names : List (Str × NameKind)) (N N' : List Str) (js : List Nat) : Bool :=
  names.all (fun x => x.2 != .cell) && names.all (fun x => x.2 != .free || sc.lookup x.1 == some .cell || sc.lookup x.1 == some .free) && decide (N'.length = N.length) && decide N'.Nodup &&
  names.all (fun x => x.2 != .local || names.lookup x.1 == some .local) &&
  (List.range N'.length).all fun i => js.contains i || match N'[i]? with
    | none => true
    | some x => !visB (relN sc names) x || (N[i]? == some x && names.contains (x, NameKind.free) && ((relN sc names).lookup x == some .cell || (relN sc names).lookup x == some .free))
theorem rel_eq {scope : Scope} {sc : List (Str × NameKind)} (hsc : X.env.scope.names = sc) (hk : X.env.scope.kind = .function) : (relabel scope X.env).names = relN sc scope.names := by
  subst hsc
  unfold relabel relN Env.kindOf
  rw [hk]
  simp
theorem zaa4 {scope : Scope} {sc : List (Str × NameKind)} {N N' : List Str} {js : List Nat} (hsc : X.env.scope.names = sc) (hk : X.env.scope.kind = .function) (hN : X.N = N) (hks : scope.kind = .function) (h : ckComp sc scope.names N N' js = true) : CompN X scope N' js := by
  unfold ckComp at h
  simp only [Bool.and_eq_true, List.all_eq_true, Bool.or_eq_true, bne_iff_ne, ne_eq, beq_iff_eq, decide_eq_true_eq] at h
  obtain ⟨⟨⟨⟨⟨h1, h2⟩, h3⟩, h4⟩, h5⟩, h6⟩ := h
  refine ⟨hks, h1, fun x hx e => ?_, by rw [hN]; exact h3, h4, fun i x hi hj hv => ?_, fun x hx e => ?_⟩
  · rcases h2 x hx with (q | q) | q
    · exact absurd e q
    · exact .inl (by unfold Env.kindOf; rw [hsc]; exact q)
    · exact .inr (by unfold Env.kindOf; rw [hsc]; exact q)
  · have hil : i < N'.length := (List.getElem?_eq_some_iff.mp hi).1
    have q := h6 i (List.mem_range.mpr hil)
    rw [hi] at q
    unfold Vis at hv
    rw [rel_eq hsc hk] at hv ⊢
    rcases q with q | q
    · exact absurd (List.contains_iff_mem.mp q) hj
    · have hv' : visB (relN sc scope.names) x = true := by
        unfold visB
        rcases hv with z | z | z <;> rw [z] <;> rfl
      simp only [hv', Bool.not_true, Bool.false_eq_true, false_or, Bool.and_eq_true, Bool.or_eq_true, beq_iff_eq] at q
      obtain ⟨⟨q1, q2⟩, q3⟩ := q
      exact ⟨by rw [hN]; exact q1, List.contains_iff_mem.mp q2, q3⟩
  · rcases h5 x hx with q | q
    · exact absurd e q
    · exact q
theorem map_lst {f : T → Sto → Res (Option T)} {m : Res R} {r : R} {s1 : Sto} (h : (m.bind fun x s1 => onL x fun ts => (mapRes f ts s1).bind fun q s2 => .ok (.val (.lst q)) s2) = .ok r s1) : ∃ ts, r = .val (.lst ts) := by
  cases m with
  | stuck => cases h
  | exc c s => cases h
  | ok x s =>
    replace h : (onL x fun ts => (mapRes f ts s).bind fun q s2 => .ok (.val (.lst q)) s2) = .ok r s1 := h
    unfold onL at h
    split at h
    · rename_i ts
      replace h : ((mapRes f ts s).bind fun q s2 => .ok (.val (.lst q)) s2) = .ok r s1 := h
      cases hm : mapRes f ts s with
      | stuck => rw [hm] at h; cases h
      | exc c s => rw [hm] at h; cases h
      | ok q s2 => rw [hm] at h; cases h; exact ⟨q, rfl⟩
    · cases h
theorem zabs {elt it : IP.E} {g : Tg} {σ : Fr} {s : Sto} {r : R} {s1 : Sto} (h : ev C (.comp elt g it) .v σ s = .ok r s1) : ∃ ts, r = .val (.lst ts) := map_lst h
theorem wv (i : Nat) {x : Str} (hN : X.N[i]? = some x := by rfl) (hv : Vis X.env.scope x := by first | exact Or.inl rfl | exact Or.inr (Or.inl rfl) | exact Or.inr (Or.inr rfl)) (hd : (x == ("__debug__" : Str)) = false := by decide) (hcd : (x == ("__classdict__" : Str)) = false := by decide) : PE X (.Name x pos) (tV G X C (.var i)) := sV_var hN hv hd hcd
theorem wtr {e : Expr} (hE : PE X e (tV G X C e')) (he : ∀ whole, isTrue e X.env whole = (do let v ← whole; standAt e.pos; holding [v] (truthy v)) := by intro _; rfl)
    (hev : ∀ σ s, ev C e' .t σ s = (ev C e' .v σ s).bind fun x s => .of (truK x) s := by intro _ _; rfl) : PT X e (tT G X C e') := sT_plain hE he hev
theorem wcv (hu : X.A.units + 9 < cLine) (c : Cm) (ha : PE X a (tV G X C a')) (hb : PE X b (tV G X C b')) (hm : behindInMarks (cmOf c) b = false := by rfl) : PE X (.Compare a [cmOf c] [b] pos) (tV G X C (.cmp c a' b')) := sV_cmp hu c ha hb hm
theorem wct (hu : X.A.units + 9 < cLine) (c : Cm) (ha : PE X a (tV G X C a')) (hb : PE X b (tV G X C b')) (hm : behindInMarks (cmOf c) b = false := by rfl) : PT X (.Compare a [cmOf c] [b] pos) (tT G X C (.cmp c a' b')) := sT_cmp hu c ha hb hm
theorem wone {op} (h : PE X a (tV G X C a')) : PE X (.BoolOp op [a] pos) (tV G X C a') := pe_one h
theorem wsub (ha : PE X a (tV G X C a')) (hb : PE X b (tV G X C b')) (hs : zaek b := by intro _ _; rfl) : PE X (.Subscript a b pos) (tV G X C (.sub a' b')) := sV_sub ha hb hs
theorem wac {es : List Expr} {es' : List IP.E} (ha : PE X a (tV G X C a')) (hr : PA X es (tA G X C es')) (hs : starEach (a :: es) X.env = (false, eval a X.env) :: starEach es X.env := by rfl) : PA X (a :: es) (tA G X C (a' :: es')) := sA_cons ha hr hs
theorem wrc {es : List Expr} {es' : List IP.E} (ha : PE X a (tV G X C a')) (hr : PA X es (tR G X C es')) (hs : starEach (a :: es) X.env = (false, eval a X.env) :: starEach es X.env := by rfl) : PA X (a :: es) (tR G X C (a' :: es')) := sR_cons ha hr hs
theorem wtup {es : List Expr} {es' : List IP.E} {k : Nat} (h : PA X es (tA G X C es')) (hz : es'.length ≤ 1000 := by decide) : PE X (.Tuple es k pos) (tV G X C (.tup es')) := sV_tup h (Nat.le_trans hz (by decide))
theorem wlst {es : List Expr} {es' : List IP.E} (h : PA X es (tA G X C es')) (hz : es'.length ≤ 1000 := by decide) : PE X (.List es pos) (tV G X C (.lst es')) := sV_lst h (Nat.le_trans hz (by decide))
theorem wlstO {es : List Expr} {es' : List IP.E} (h : PA X es (tA G X C es')) (hz : es'.length ≤ 1000 := by decide) : PE X (.List es pos) (tO G X C (.lst es')) := sO_lst h (Nat.le_trans hz (by decide))
theorem wlen (hm : X.mg "len" = none) (ha : PE X a (tV G X C a')) (hg : Gl X "len" := by rfl) (hs : starEach [a] X.env = [(false, eval a X.env)] := by rfl) : PE X (.Call (.Name "len" p) [a] [] pos) (tV G X C (.b1 .len a')) := sB1 c_len hg hm (by rfl) (by decide) (by decide) ha hs fun _ _ => rfl
theorem wint (hm : X.mg "int" = none) (ha : PE X a (tV G X C a')) (hg : Gl X "int" := by rfl) (hs : starEach [a] X.env = [(false, eval a X.env)] := by rfl) : PE X (.Call (.Name "int" p) [a] [] pos) (tV G X C (.b1 .int a')) := sTy1 c_int hg hm (by rfl) (by decide) (by decide) ha hs fun _ _ => rfl
theorem wlist (hm : X.mg "list" = none) (ha : PE X a (tV G X C a')) (hg : Gl X "list" := by rfl) (hs : starEach [a] X.env = [(false, eval a X.env)] := by rfl) : PE X (.Call (.Name "list" p) [a] [] pos) (tV G X C (.b1 .list a')) := sTy1 c_list hg hm (by rfl) (by decide) (by decide) ha hs fun _ _ => rfl
theorem wany (hm : X.mg "any" = none) (ha : PE X a (tV G X C a')) (hg : Gl X "any" := by rfl) (hs : starEach [a] X.env = [(false, eval a X.env)] := by rfl) (hc : X.calm = true := by rfl) : PE X (.Call (.Name "any" p) [a] [] pos) (tV G X C (.b1 .any a')) := sB1 (c_any hc) hg hm (by rfl) (by decide) (by decide) ha hs fun _ _ => rfl
theorem wisi (c : Ty) {n : String} {y : Str} {py : Pos} (hm : X.mg "isinstance" = none) (hmy : X.mg y = none) (ha : PE X a (tV G X C a')) (hn : tyOf c = some n := by rfl) (hg : Gl X "isinstance" := by rfl) (hgy : Gl X y := by rfl) (hv : bootBuiltins y = some (.type n) := by rfl) (hy : y ≠ "__name__" := by decide) (hdy : (y == ("__debug__" : Str)) = false := by decide)
    (hs : starEach [a, .Name y py] X.env = [(false, eval a X.env), (false, eval (.Name y py) X.env)] := by rfl) : PE X (.Call (.Name "isinstance" p) [a, .Name y py] [] pos) (tV G X C (.isi a' c)) := sV_isi hn hg hm hgy hmy hv hy hdy ha hs
theorem wpl {tg e : Expr} (hE : PE X e (tV G X C e')) (hev : ∀ σ s, ev C e' .i σ s = fin .i (ev C e' .v σ s) := by intro _ _; rfl) : PI X tg e (tI G X C e' .i false) := zad0 hE (.inl ⟨rfl, rfl⟩) hev
theorem wpj {tg e : Expr} (hE : PE X e (tV G X C e')) (hev : ∀ σ s, ev C e' .j σ s = fin .j (ev C e' .v σ s) := by intro _ _; rfl) : PI X tg e (tI G X C e' .j true) := zad0 hE (.inr ⟨rfl, rfl⟩) hev
theorem wr1 {tg : Expr} {m : Md} {z : Bool} (hmg : X.mg "range" = none) (ha : PE X a (tV G X C a')) (hm : m = .i ∨ m = .j := by first | exact .inl rfl | exact .inr rfl) (hg : Gl X "range" := by rfl) (hs : starEach [a] X.env = [(false, eval a X.env)] := by rfl) : PI X tg (.Call (.Name "range" p) [a] [] pos) (tI G X C (.rng1 a') m z) := sI_rng1 hm hg hmg ha hs
theorem wg1 {i : Nat} {x : Str} (hN : X.N.Nodup) (hi : X.N[i]? = some x := by rfl) (hx : Loc X.env.scope x := by first | exact Or.inl rfl | exact Or.inr rfl) (hf : X.fn x = true ∨ X.env.scope.names.lookup x = some .local := by first | exact Or.inl rfl | exact Or.inr rfl) : PG X (.Name x pos) (gTg G (.one i)) := sG_one hN hi hx hf
variable {i : Nat} {x : Str} {pos' : Pos}
theorem qasg (hN : X.N.Nodup) (he : PE X e (tV G X C e')) (hi : X.N[i]? = some x := by rfl) (hx : Loc X.env.scope x := by first | exact Or.inl rfl | exact Or.inr rfl) (hs : swapsWith e (some (.Name x pos')) pos.line X.env = pure false := by rfl) (hf : X.fn x = true ∨ X.env.scope.names.lookup x = some .local := by exact Or.inl rfl) : PS X (.Assign [.Name x pos'] e pos) (tS G X C (.asg i e')) := sS_asg hN hi hx he hs hf
theorem qmk (hN : X.N.Nodup) (he : PE X e (tO G X C e')) (hi : X.N[i]? = some x := by rfl) (hx : Loc X.env.scope x := by first | exact Or.inl rfl | exact Or.inr rfl) (hs : swapsWith e (some (.Name x pos')) pos.line X.env = pure false := by rfl) (hf : X.fn x = true ∨ X.env.scope.names.lookup x = some .local := by exact Or.inl rfl) : PS X (.Assign [.Name x pos'] e pos) (tS G X C (.mk i e')) := sS_mk hN hi hx he hs hf
theorem qapp {p1 cpos : Pos} (he : PE X e (tV G X C e')) (hN : X.N[i]? = some x := by rfl) (hv : Vis X.env.scope x := by first | exact Or.inl rfl | exact Or.inr (Or.inl rfl)) (hd : (x == ("__debug__" : Str)) = false := by decide) (hcd : (x == ("__classdict__" : Str)) = false := by decide) (hst : starEach [e] X.env = [(false, eval e X.env)] := by rfl)
    (hline : (p2.endLine == cpos.line) = true := by rfl) (hbase : attributeBase (.Name x p1) "append" X.env (eval (.Name x p1) X.env) = eval (.Name x p1) X.env := by rfl)
    (hfew : ((backTo cpos (starEach [e] X.env)).all (fun x => !x.1) && (backToKw cpos (keywordEach [] X.env)).all (fun x => x.1.isSome) && decide ([e].length + ([] : List Keyword).length + (if ([] : List Keyword).isEmpty then 0 else 1) < 30)) = true := by rfl)
    (hs : swapsWith (.Call (.Attribute (.Name x p1) "append" p2) [e] [] cpos) none pos.line X.env = pure false := by rfl) :
    PS X (.Expr (.Call (.Attribute (.Name x p1) "append" p2) [e] [] cpos) pos) (tS G X C (.app i e')) := sS_app hN hv hd hcd he hst hline hbase hfew hs
theorem qput {j : Expr} {j' : IP.E} {p1 : Pos} (hj : PE X j (tV G X C j')) (he : PE X e (tV G X C e')) (hN : X.N[i]? = some x := by rfl) (hv : Vis X.env.scope x := by first | exact Or.inl rfl | exact Or.inr (Or.inl rfl)) (hd : (x == ("__debug__" : Str)) = false := by decide) (hcd : (x == ("__classdict__" : Str)) = false := by decide)
    (hs : swapsWithSole [.Subscript (.Name x p1) j p2] e pos.line X.env = pure false := by rfl) (hw : swappedStores [.Subscript (.Name x p1) j p2] e X.env = pure none := by rfl) (h1 : (assignEach [.Subscript (.Name x p1) j p2] X.env).map (·.2) = [assign (.Subscript (.Name x p1) j p2) X.env] := by rfl)
    (ha : ∀ v, assign (.Subscript (.Name x p1) j p2) X.env v = (do
      let ov ← holding [v] (eval (.Name x p1) X.env)
      let iv ← holding [v, ov] (eval j X.env)
      standAt p2
      holding [v, ov, iv] (setItem ov iv v)
      release [v, ov, iv] []) := by intro _; rfl) :
    PS X (.Assign [.Subscript (.Name x p1) j p2] e pos) (tS G X C (.put i j' e')) := sS_put hN hv hd hcd he hj hs hw h1 ha
end
section
variable {G : Gx} {X : Cx} {fs : List Fn} {sub : Nat → Nat → Bool} {k fi : Nat} {fa : Addr} {fd : FuncData} {ps : List Str} {e₀ : Expr} {es : List Expr} {es' : List IP.E} {x : Str} {p pos : Pos}
end
end IP
end
section
set_option Elab.async false
set_option linter.all false
set_option maxRecDepth 100000
namespace IP
open PySem PySem.Spec L2
def nth {α : Type} : List α → α → Nat → α
  | [], z, _ => z
  | a :: _, _, 0 => a
  | _ :: r, z, n + 1 => nth r z n
theorem fn_top {G : Gx} {P : Program} {w : World} {K : PySem.W.Frag} {mg : Str → Option Value} {base : Heap} {k : Nat} {f : Addr} {fd : FuncData} {ps : List Str} {sp : Sp} (F : FnOk P w K mg base (CXE G P w base) k f fd ps sp) : FnOk P w K mg base CX0 k f fd ps (fun vs H Q _ => sp vs H Q fun _ _ _ => False) := by
  refine ⟨fun vs H Q E h => F.len vs H Q _ h, fun A outer s H args us vs Q E hr e0 hb hv h => codeAny_mono (F.run A outer s H args us vs Q (fun _ _ _ => False) hr e0 hb hv h) fun r s' q => ?_⟩
  cases r with
  | ok fl =>
    cases fl with
    | ret u => exact q
    | next => exact q
    | brk => exact q
    | cont => exact q
  | error e =>
    obtain ⟨a, cls, t, H', h, B, _, _, _, _, _, _, _, _, z⟩ := q
    exact z
section
variable {G : Gx} {X : Cx} {fs : List Fn} {sub : Nat → Nat → Bool} {k fi : Nat} {fa : Addr} {fd : FuncData} {ps : List Str} {a b e j o e₀ : Expr} {es : List Expr} {a' b' e' j' : IP.E} {es' : List IP.E} {x m y n : Str} {p p1 p2 pos pos' apos cpos : Pos} {ds : List Value} {dvs : List V} {dts : List T} {c f i : Nat}
theorem xcall (F : FnOk X.prog X.w X.K X.mg X.base (CXE G X.prog X.w X.base) (2 * k) fa fd ps (spG G (cfX fs sub k).cf (cfX fs sub k).fr fi)) (hr : Room (2 * k + 1) X.A) (hm : X.mg x = some (.ref fa)) (hk : PySem.W.keepIn X.K (.ref fa) = true) (hb : Binds X.K fd ps ds) (hd : Vals dvs ds) (hdt : dts.mapM cstV = some dvs) (ha : PA X (e₀ :: es) (tR G X (cfX fs sub k) es'))
    (hf : frOf fs fi = false := by rfl) (hg : Gl X x := by rfl) (hdb : (x == ("__debug__" : Str)) = false := by decide) (he : starEach (e₀ :: es) X.env = (false, eval e₀ X.env) :: starEach es X.env := by rfl) (hpl : (backTo pos (starEach es X.env)).any (·.1) = false := by rfl) :
    PE X (.Call (.Name x p) (e₀ :: es) [] pos) (tV G X (cfX fs sub k) (.call fi es' dts)) := sV_callX hf F (hr.mono (Nat.le_succ _)) hg hm hk hb hd hdt ha hdb he hpl
end
section
variable {G : Gx} {X : Cx} {C : Cf} {a b e j o e₀ : Expr} {es : List Expr} {a' b' e' j' : IP.E} {es' : List IP.E} {x m y n : Str} {p p1 p2 pos pos' apos cpos np mp yp hpos : Pos} {c f i : Nat}
theorem xisx {k : Nat} (hkit : ∀ d, ExcK X.K (G.cA d)) (hone : ∀ d, PySem.W.kitOne X.K (.ref (G.cA d)) (.ref (G.cA k)) = some (C.sub d k)) (hm : X.mg "isinstance" = none) (hmy : X.mg y = some (.ref (G.cA k))) (ha : PE X a (tV G X C a')) (hg : Gl X "isinstance" := by rfl) (hgy : Gl X y := by rfl) (hdy : (y == ("__debug__" : Str)) = false := by decide)
    (hs : starEach [a, .Name y yp] X.env = [(false, eval a X.env), (false, eval (.Name y yp) X.env)] := by rfl) : PE X (.Call (.Name "isinstance" p) [a, .Name y yp] [] pos) (tV G X C (.isi a' (.cls k))) := sV_isx hkit hone hg hm hgy hmy hdy ha hs
theorem yraise {ms : Str} {jj : Nat} (hm : X.mg x = some (.ref (G.cA c))) (hq : PySem.W.excIn X.K (G.cA c) [.type "ValueError", .type "Exception", .type "BaseException", .type "object"] "ValueError.__new__" = true) (hc : X.calm = true := by rfl) (hg : Gl X x := by rfl) (hdb : (x == ("__debug__" : Str)) = false := by decide)
    (he : starEach [.Constant (.str ms) jj mp] X.env = [(false, eval (.Constant (.str ms) jj mp) X.env)] := by rfl) : PS X (.Raise (some (.Call (.Name x np) [.Constant (.str ms) jj mp] [] cpos)) none pos) (tS G X C (.raise c)) := sS_raise hc hg hm hq PySem.F.excBase_ValueError hdb he
theorem ytryN {body suite : List Stmt} {b' h' : List S} {b₀ : Stmt} (hN : X.N.Nodup) (hm : X.mg y = some (.ref (G.cA c))) (hmt : ∀ d, PySem.W.exmOne X.K (.ref (G.cA d)) (.ref (G.cA c)) = some (C.sub d c))
    (hbody : ∀ (E : Value → Shared → Prop) (pn : List (Addr × Obj)), PassesOwn (model X.prog X.w) X.A X.env E → PSs (tryX X E pn) body (tSs G (tryX X E pn) C b')) (hsuite : ∀ e, PSs (hnd X e) (b₀ :: suite) (tSs G (hnd X e) C h'))
    (hst : X.stack = X.env :: X.outer ∧ X.env.frame = some X.env.locals := by exact ⟨rfl, rfl⟩) (hex : X.ex = [] := by rfl) (hi : X.N[i]? = some n := by rfl) (hl : X.env.scope.names.lookup n = some .local := by rfl) (hg : Gl X y := by rfl) (hdb : (y == ("__debug__" : Str)) = false := by decide) :
    PS X (.Try body [.ExceptHandler (some (.Name y yp)) (some n) (b₀ :: suite) hpos] [] [] pos) (tS G X C (.try_ b' c (some i) h')) := sS_tryN hst hex hN hi hl hg hm hdb hmt hbody hsuite
theorem yfor {tg iter : Expr} {it' : IP.E} {g : Tg} {bb : List Stmt} {b' : List S} (hp : PassesOwn (model X.prog X.w) X.A X.env X.xe) (hI : PI X tg iter (tI G X C it' .j true)) (hg : PG X tg (gTg G g)) (hb : PSs X bb (tSs G X C b')) (hc : X.calm = true := by rfl)
    (hs : ∀ x, foldedSetIterable iter X.env x = pure x := by intro _; rfl) (hit : ∀ i, it' ≠ .var i := by intro _ h; cases h) : PS X (.For tg iter bb [] pos) (tS G X C (.for_ g it' b')) := sS_for hp hc hI hg hb hs hit
theorem yforV {tg : Expr} {xp : Pos} {g : Tg} {bb : List Stmt} {b' : List S} (hp : PassesOwn (model X.prog X.w) X.A X.env X.xe) (hg : PG X tg (gTg G g)) (hb : PSs X bb (tSs G X C b')) (hc : X.calm = true := by rfl) (hN : X.N[i]? = some x := by rfl) (hv : Vis X.env.scope x := by first | exact Or.inl rfl | exact Or.inr (Or.inl rfl)) (hd : (x == ("__debug__" : Str)) = false := by decide) (hcd : (x == ("__classdict__" : Str)) = false := by decide)
    (hs : ∀ y, foldedSetIterable (.Name x xp) X.env y = pure y := by intro _; rfl) : PS X (.For tg (.Name x xp) bb [] pos) (tS G X C (.for_ g (.var i) b')) := sS_forV hp hc hN hv hd hcd hg hb hs
theorem xglb {i : Int} {t : Tok} (hm : X.mg x = some (.int i t)) (hg : Gl X x := by rfl) (hd : (x == ("__debug__" : Str)) = false := by decide) : PE X (.Name x pos) (tV G X C (.glb x i)) := sV_glb hg hm hd
end
end IP
end
section
set_option Elab.async false
set_option linter.all false
set_option maxRecDepth 100000
set_option maxHeartbeats 0
namespace IP
open PySem PySem.Spec L2
namespace Pg
def top (i : Nat) : Stmt := PySem.Challenge.pw_gradecut_k15_not_laid.main.body.getD i (.Pass ⟨0, 0, 0, 0⟩)
abbrev s_lay : Stmt := top 6
def nm_lay : List Str := ["oblongs", "width", "laid", "oblong", "length", "?5", "?6", "?7"]
theorem nd_lay : (nm_lay).Nodup := by decide +kernel
def zadg : List Str := ["oblongs", "width", "laid", "!3", "length", "oblong", "!6", "!7"]
theorem nd_lay_c0 : (zadg).Nodup := by decide +kernel
def zadd : List Str := ["oblongs", "width", "laid", "oblong", "length", "!5", "box", "!7"]
theorem nd_lay_c1 : (zadd).Nodup := by decide +kernel
def zac3 : List Str := ["oblongs", "width", "laid", "oblong", "length", "!5", "!6", "box"]
theorem nd_lay_c2 : (zac3).Nodup := by decide +kernel
abbrev zaam : E := (.cmp .gt (.sub (.var 5) (.cst (.int 0))) (.var 1))
abbrev zabe : List S := [(.app 2 (.call 1 [(.var 3), (.var 1), (.var 2)] []))]
abbrev zaba : E := (.call 5 [(.var 6)] [])
abbrev zabn : E := (.tup [(.sub (.var 7) (.cst (.int 0))), (.sub (.var 7) (.cst (.int 1)))])
def b_lay : List S := [(.ifs (.cmp .gt (.b1 .len (.var 0)) (.glb "MOST_OBLONGS" (8))) [(.raise 1)] []),
  (.ifs (.b1 .any (.comp zaam (.one 5) (.var 0))) [(.raise 2)] []),
  (.mk 2 (.lst [])),
  (.for_ (.one 3) (.var 0) zabe),
  (.asg 4 (.mxd (.comp zaba (.one 6) (.var 2)) (.cst (.int 0)))),
  (.ret (.tup [(.var 4), (.comp zabn (.one 7) (.var 2))]))]
abbrev F_lay : Fn := ⟨2, 8, false, b_lay⟩
theorem sc_lay : FnScope nm_lay ["oblongs", "width"] (zaaa s_lay) := ⟨rfl, rfl, rfl, nd_lay, rfl, by decide +kernel, by decide +kernel⟩
abbrev sz7 : Stmt := top 7
def nmz7 : List Str := ["oblong", "width", "laid", "free", "y", "x", "tried", "?7", "?8"]
theorem ndz7 : (nmz7).Nodup := by decide +kernel
def nmz7_c0 : List Str := ["oblong", "width", "laid", "free", "y", "x", "tried", "box", "!8"]
theorem ndz7_c0 : (nmz7_c0).Nodup := by decide +kernel
def nmz7_c1 : List Str := ["oblong", "width", "laid", "free", "y", "x", "tried", "!7", "box"]
theorem ndz7_c1 : (nmz7_c1).Nodup := by decide +kernel
abbrev ez7_C0 : E := (.call 5 [(.var 7)] [])
abbrev ez7_C1 : E := (.call 4 [(.var 8)] [])
abbrev bz7_L0 : List S := [(.asg 6 (.tup [(.var 5), (.var 4), (.sub (.var 0) (.cst (.int 0))), (.sub (.var 0) (.cst (.int 1)))])),
  (.ifs (.and (.cmp .le (.call 4 [(.var 6)] []) (.var 1)) (.call 2 [(.var 6), (.var 2)] [])) [(.app 3 (.var 6))] [])]
abbrev bz7_L1 : List S := [(.for_ (.one 5) (.bin .add (.lst [(.cst (.int 0))]) (.comp ez7_C1 (.one 8) (.var 2))) bz7_L0)]
def bz7 : List S := [(.mk 3 (.lst [])),
  (.for_ (.one 4) (.bin .add (.lst [(.cst (.int 0))]) (.comp ez7_C0 (.one 7) (.var 2))) bz7_L1),
  (.ret (.mnk (.var 3) 1 0 0 0 ⟨27, 25, 27, 53⟩ ((("lowest_box" : Str) ++ ".<locals>.") ++ "<lambda>")))]
abbrev Fz7 : Fn := ⟨3, 9, false, bz7⟩
theorem scz7 : FnScope nmz7 ["oblong", "width", "laid"] (zaaa sz7) := ⟨rfl, rfl, rfl, ndz7, rfl, by decide +kernel, by decide +kernel⟩
abbrev sz6 : Stmt := top 8
def nmz6 : List Str := ["tried", "laid", "?2"]
theorem ndz6 : (nmz6).Nodup := by decide +kernel
def nmz6_c0 : List Str := ["tried", "laid", "box"]
theorem ndz6_c0 : (nmz6_c0).Nodup := by decide +kernel
abbrev ez6_C0 : E := (.call 3 [(.var 0), (.var 2)] [])
def bz6 : List S := [(.ret (.not (.b1 .any (.comp ez6_C0 (.one 2) (.var 1)))))]
abbrev Fz6 : Fn := ⟨2, 3, false, bz6⟩
theorem scz6 : FnScope nmz6 ["tried", "laid"] (zaaa sz6) := ⟨rfl, rfl, rfl, ndz6, rfl, by decide +kernel, by decide +kernel⟩
abbrev sz8 : Stmt := top 9
def nmz8 : List Str := ["one", "two", "beside", "above"]
theorem ndz8 : (nmz8).Nodup := by decide +kernel
def bz8 : List S := [(.asg 2 (.or (.cmp .le (.call 4 [(.var 0)] []) (.sub (.var 1) (.cst (.int 0)))) (.cmp .le (.call 4 [(.var 1)] []) (.sub (.var 0) (.cst (.int 0)))))),
  (.asg 3 (.or (.cmp .le (.call 5 [(.var 0)] []) (.sub (.var 1) (.cst (.int 1)))) (.cmp .le (.call 5 [(.var 1)] []) (.sub (.var 0) (.cst (.int 1)))))),
  (.ret (.and (.not (.var 2)) (.not (.var 3))))]
abbrev Fz8 : Fn := ⟨2, 4, false, bz8⟩
theorem scz8 : FnScope nmz8 ["one", "two"] (zaaa sz8) := ⟨rfl, rfl, rfl, ndz8, rfl, by decide +kernel, by decide +kernel⟩
abbrev sz9 : Stmt := top 10
def nmz9 : List Str := ["box"]
theorem ndz9 : (nmz9).Nodup := by decide +kernel
def bz9 : List S := [(.ret (.bin .add (.sub (.var 0) (.cst (.int 0))) (.sub (.var 0) (.cst (.int 2)))))]
abbrev Fz9 : Fn := ⟨1, 1, false, bz9⟩
theorem scz9 : FnScope nmz9 ["box"] (zaaa sz9) := ⟨rfl, rfl, rfl, ndz9, rfl, by decide +kernel, by decide +kernel⟩
abbrev s_top : Stmt := top 11
def nm_top : List Str := ["box"]
theorem nd_top : (nm_top).Nodup := by decide +kernel
def b_top : List S := [(.ret (.bin .add (.sub (.var 0) (.cst (.int 1))) (.sub (.var 0) (.cst (.int 3)))))]
abbrev F_top : Fn := ⟨1, 1, false, b_top⟩
theorem sc_top : FnScope nm_top ["box"] (zaaa s_top) := ⟨rfl, rfl, rfl, nd_top, rfl, by decide +kernel, by decide +kernel⟩
abbrev sz5 : Stmt := top 13
abbrev iz5 : Nat := 6
def nmz5 : List Str := ["_law_found"]
theorem ndz5 : (nmz5).Nodup := by decide +kernel
def bz5 : List S := [(.ret (.and (.isi (.var 0) .int) (.not (.isi (.var 0) .bool))))]
abbrev Fz5 : Fn := ⟨1, 1, false, bz5⟩
theorem scz5 : FnScope nmz5 ["_law_found"] (zaaa sz5) := ⟨rfl, rfl, rfl, ndz5, rfl, by decide +kernel, by decide +kernel⟩
abbrev sz3 : Stmt := top 14
abbrev iz3 : Nat := 7
def nmz3 : List Str := ["_law_script", "_law_k"]
theorem ndz3 : (nmz3).Nodup := by decide +kernel
def bz3 : List S := [(.ifs (.cmp .lt (.var 1) (.b1 .len (.var 0))) [(.ret (.sub (.var 0) (.var 1)))] []),
  (.ret (.cst (.int 0)))]
abbrev Fz3 : Fn := ⟨2, 2, false, bz3⟩
theorem scz3 : FnScope nmz3 ["_law_script", "_law_k"] (zaaa sz3) := ⟨rfl, rfl, rfl, ndz3, rfl, by decide +kernel, by decide +kernel⟩
abbrev sz4 : Stmt := top 15
abbrev iz4 : Nat := 8
def nmz4 : List Str := ["_law_script", "_law_many", "_law_state", "_law_row", "_law_k"]
theorem ndz4 : (nmz4).Nodup := by decide +kernel
abbrev bz4_L0 : List S := [(.asg 2 (.bin .mod (.bin .add (.bin .add (.bin .mul (.var 2) (.cst (.int 48271))) (.call 7 [(.var 0), (.var 4)] [])) (.cst (.int 11))) (.cst (.int 2147483647)))),
  (.app 3 (.var 2))]
def bz4 : List S := [(.asg 2 (.cst (.int 7))),
  (.mk 3 (.lst [])),
  (.for_ (.one 4) (.rng1 (.var 1)) bz4_L0),
  (.frz 3),
  (.ret (.var 3))]
abbrev Fz4 : Fn := ⟨2, 5, false, bz4⟩
theorem scz4 : FnScope nmz4 ["_law_script", "_law_many"] (zaaa sz4) := ⟨rfl, rfl, rfl, ndz4, rfl, by decide +kernel, by decide +kernel⟩
abbrev s_law : Stmt := top 16
def nm_law : List Str := ["_law_script", "_law_row", "_law_width", "_law_made", "_law_k", "_law_wide", "_law_at_here", "_law_code", "_law_found", "e"]
theorem nd_law : (nm_law).Nodup := by decide +kernel
abbrev zaco : List S := [(.app 3 (.tup [(.bin .add (.cst (.int 1)) (.bin .mod (.sub (.var 1) (.bin .add (.cst (.int 2)) (.bin .mul (.cst (.int 2)) (.var 4)))) (.var 2))), (.bin .add (.cst (.int 1)) (.bin .mod (.sub (.var 1) (.bin .add (.cst (.int 3)) (.bin .mul (.cst (.int 2)) (.var 4)))) (.cst (.int 100))))])),
  (.ifs (.cmp .eq (.bin .mod (.bin .fdiv (.sub (.var 1) (.bin .add (.cst (.int 3)) (.bin .mul (.cst (.int 2)) (.var 4)))) (.cst (.int 100))) (.cst (.int 4))) (.cst (.int 0))) [(.put 3 (.var 4) (.tup [(.var 2), (.sub (.sub (.var 3) (.var 4)) (.cst (.int 1)))]))] [])]
abbrev zaaw : List S := [(.asg 8 (.call 0 [(.b1 .list (.var 3)), (.var 2)] []))]
abbrev zaa0 : List S := [(.asg 7 (.bin .add (.b1 .int (.isi (.var 9) (.cls 1))) (.bin .mul (.cst (.int 2)) (.b1 .int (.isi (.var 9) (.cls 2))))))]
def b_law : List S := [(.asg 1 (.call 8 [(.var 0), (.cst (.int 28))] [])),
  (.asg 2 (.bin .add (.cst (.int 1)) (.bin .mod (.sub (.var 1) (.cst (.int 0))) (.cst (.int 99999))))),
  (.mk 3 (.lst [])),
  (.for_ (.one 4) (.rng1 (.bin .mod (.sub (.var 1) (.cst (.int 1))) (.cst (.int 13)))) zaco),
  (.asg 5 (.and (.cmp .ne (.var 3) (.lst [])) (.cmp .eq (.bin .mod (.sub (.var 1) (.cst (.int 26))) (.cst (.int 2))) (.cst (.int 1))))),
  (.ifs (.var 5) [(.asg 6 (.bin .mod (.sub (.var 1) (.cst (.int 27))) (.b1 .len (.var 3)))),
  (.put 3 (.var 6) (.tup [(.bin .add (.bin .add (.var 2) (.cst (.int 1))) (.bin .mod (.bin .fdiv (.sub (.var 1) (.cst (.int 26))) (.cst (.int 2))) (.bin .sub (.cst (.int 100000)) (.var 2)))), (.sub (.sub (.var 3) (.var 6)) (.cst (.int 1)))]))] []),
  (.asg 7 (.cst (.int 0))),
  (.asg 8 (.cst .non)),
  (.try_ zaaw 0 (some 9) zaa0),
  (.ifs (.cmp .gt (.b1 .len (.var 3)) (.cst (.int 8))) [(.ret (.cmp .eq (.var 7) (.cst (.int 1))))] []),
  (.ifs (.var 5) [(.ret (.cmp .eq (.var 7) (.cst (.int 2))))] []),
  (.ifs (.or (.cmp .ne (.var 7) (.cst (.int 0))) (.or (.not (.isi (.var 8) .tuple)) (.cmp .ne (.b1 .len (.var 8)) (.cst (.int 2))))) [(.ret (.cst (.bl false)))] []),
  (.ret (.and (.call 6 [(.sub (.var 8) (.cst (.int 0)))] []) (.and (.isi (.sub (.var 8) (.cst (.int 1))) .list) (.cmp .eq (.b1 .len (.sub (.var 8) (.cst (.int 1)))) (.b1 .len (.var 3))))))]
abbrev F_law : Fn := ⟨1, 10, false, b_law⟩
theorem sc_law : FnScope nm_law ["_law_script"] (zaaa s_law) := ⟨rfl, rfl, rfl, nd_law, rfl, by decide +kernel, by decide +kernel⟩
def fns : List Fn := [⟨2, 8, false, b_lay⟩,
  ⟨3, 9, false, bz7⟩,
  ⟨2, 3, false, bz6⟩,
  ⟨2, 4, false, bz8⟩,
  ⟨1, 1, false, bz9⟩,
  ⟨1, 1, false, b_top⟩,
  ⟨1, 1, false, bz5⟩,
  ⟨2, 2, false, bz3⟩,
  ⟨2, 5, false, bz4⟩,
  ⟨1, 10, false, b_law⟩]
abbrev xz0 : Nat := 0
abbrev xz1 : Nat := 1
abbrev xz2 : Nat := 2
def sub0 (d c : Nat) : Bool := nth (nth [[true, false, false], [true, true, false], [true, false, true]] [true, false, false] d) false c
set_option genInjectivity false in
set_option genSizeOf false in
structure Txt (K : PySem.W.Frag) (mg : Str → Option Value) where
  ez0 : Addr
  mez0 : mg "GradeError" = some (.ref ez0)
  ez1 : Addr
  mez1 : mg "TooMany" = some (.ref ez1)
  qz1 : PySem.W.excIn K ez1 [.type "ValueError", .type "Exception", .type "BaseException", .type "object"] "ValueError.__new__" = true
  ez2 : Addr
  mez2 : mg "TooWide" = some (.ref ez2)
  qz2 : PySem.W.excIn K ez2 [.type "ValueError", .type "Exception", .type "BaseException", .type "object"] "ValueError.__new__" = true
  xz0 : ExcK K ez0
  xz1 : ExcK K ez1
  xz2 : ExcK K ez2
  kiz0z1 : PySem.W.kitOne K (.ref ez0) (.ref ez1) = some false
  kiz1z1 : PySem.W.kitOne K (.ref ez1) (.ref ez1) = some true
  kiz2z1 : PySem.W.kitOne K (.ref ez2) (.ref ez1) = some false
  kiz0z2 : PySem.W.kitOne K (.ref ez0) (.ref ez2) = some false
  kiz1z2 : PySem.W.kitOne K (.ref ez1) (.ref ez2) = some false
  kiz2z2 : PySem.W.kitOne K (.ref ez2) (.ref ez2) = some true
  xoz0z0 : PySem.W.exmOne K (.ref ez0) (.ref ez0) = some true
  xoz1z0 : PySem.W.exmOne K (.ref ez1) (.ref ez0) = some true
  xoz2z0 : PySem.W.exmOne K (.ref ez2) (.ref ez0) = some true
  f_lay : Addr
  d_lay : FuncData
  t_lay : FunD K "lay" "lay" s_lay f_lay d_lay
  bd_lay : Binds K d_lay ["oblongs", "width"] []
  m_lay : mg "lay" = some (.ref f_lay)
  k_lay : PySem.W.keepIn K (.ref f_lay) = true
  fz7 : Addr
  dz7 : FuncData
  tz7 : FunD K "lowest_box" "lowest_box" sz7 fz7 dz7
  bdz7 : Binds K dz7 ["oblong", "width", "laid"] []
  mz7 : mg "lowest_box" = some (.ref fz7)
  kz7 : PySem.W.keepIn K (.ref fz7) = true
  fz6 : Addr
  dz6 : FuncData
  tz6 : FunD K "is_free" "is_free" sz6 fz6 dz6
  bdz6 : Binds K dz6 ["tried", "laid"] []
  mz6 : mg "is_free" = some (.ref fz6)
  kz6 : PySem.W.keepIn K (.ref fz6) = true
  fz8 : Addr
  dz8 : FuncData
  tz8 : FunD K "overlap" "overlap" sz8 fz8 dz8
  bdz8 : Binds K dz8 ["one", "two"] []
  mz8 : mg "overlap" = some (.ref fz8)
  kz8 : PySem.W.keepIn K (.ref fz8) = true
  fz9 : Addr
  dz9 : FuncData
  tz9 : FunD K "right" "right" sz9 fz9 dz9
  bdz9 : Binds K dz9 ["box"] []
  mz9 : mg "right" = some (.ref fz9)
  kz9 : PySem.W.keepIn K (.ref fz9) = true
  f_top : Addr
  d_top : FuncData
  t_top : FunD K "top" "top" s_top f_top d_top
  bd_top : Binds K d_top ["box"] []
  m_top : mg "top" = some (.ref f_top)
  k_top : PySem.W.keepIn K (.ref f_top) = true
  fz5 : Addr
  dz5 : FuncData
  tz5 : FunD K "_law_whole" "_law_whole" sz5 fz5 dz5
  bdz5 : Binds K dz5 ["_law_found"] []
  mz5 : mg "_law_whole" = some (.ref fz5)
  kz5 : PySem.W.keepIn K (.ref fz5) = true
  fz3 : Addr
  dz3 : FuncData
  tz3 : FunD K "_law_at" "_law_at" sz3 fz3 dz3
  bdz3 : Binds K dz3 ["_law_script", "_law_k"] []
  mz3 : mg "_law_at" = some (.ref fz3)
  kz3 : PySem.W.keepIn K (.ref fz3) = true
  fz4 : Addr
  dz4 : FuncData
  tz4 : FunD K "_law_stir" "_law_stir" sz4 fz4 dz4
  bdz4 : Binds K dz4 ["_law_script", "_law_many"] []
  mz4 : mg "_law_stir" = some (.ref fz4)
  kz4 : PySem.W.keepIn K (.ref fz4) = true
  f_law : Addr
  d_law : FuncData
  t_law : FunD K "law" "law" s_law f_law d_law
  bd_law : Binds K d_law ["_law_script"] []
  m_law : mg "law" = some (.ref f_law)
  k_law : PySem.W.keepIn K (.ref f_law) = true
  tk_MOST_OBLONGS : Tok
  g_MOST_OBLONGS : mg "MOST_OBLONGS" = some (.int (8) tk_MOST_OBLONGS)
  b_any : mg "any" = none
  b_bool : mg "bool" = none
  b_int : mg "int" = none
  b_isinstance : mg "isinstance" = none
  b_len : mg "len" = none
  b_list : mg "list" = none
  b_max : mg "max" = none
  b_min : mg "min" = none
  b_range : mg "range" = none
  b_tuple : mg "tuple" = none
  pt : Addr
  cz : Addr
  zc : dz7.code = .ref cz
section
variable {K : PySem.W.Frag} {mg : Str → Option Value}
def Gof (T : Txt K mg) : Gx := ⟨K, nth [T.ez0, T.ez1, T.ez2] (T.ez0), nth [T.pt] (0), nth [] []⟩
theorem emz0 (T : Txt K mg) : mg "GradeError" = some (.ref ((Gof T).cA 0)) := T.mez0
theorem xmz0 (T : Txt K mg) : ∀ d, PySem.W.exmOne K (.ref ((Gof T).cA d)) (.ref ((Gof T).cA 0)) = some (sub0 d 0) := fun d => match d with | 0 => T.xoz0z0 | 1 => T.xoz1z0 | 2 => T.xoz2z0 | _ + 3 => T.xoz0z0
theorem emz1 (T : Txt K mg) : mg "TooMany" = some (.ref ((Gof T).cA 1)) := T.mez1
theorem eqz1 (T : Txt K mg) : PySem.W.excIn K ((Gof T).cA 1) [.type "ValueError", .type "Exception", .type "BaseException", .type "object"] "ValueError.__new__" = true := T.qz1
theorem koz1 (T : Txt K mg) : ∀ d, PySem.W.kitOne K (.ref ((Gof T).cA d)) (.ref ((Gof T).cA 1)) = some (sub0 d 1) := fun d => match d with | 0 => T.kiz0z1 | 1 => T.kiz1z1 | 2 => T.kiz2z1 | _ + 3 => T.kiz0z1
theorem emz2 (T : Txt K mg) : mg "TooWide" = some (.ref ((Gof T).cA 2)) := T.mez2
theorem eqz2 (T : Txt K mg) : PySem.W.excIn K ((Gof T).cA 2) [.type "ValueError", .type "Exception", .type "BaseException", .type "object"] "ValueError.__new__" = true := T.qz2
theorem koz2 (T : Txt K mg) : ∀ d, PySem.W.kitOne K (.ref ((Gof T).cA d)) (.ref ((Gof T).cA 2)) = some (sub0 d 2) := fun d => match d with | 0 => T.kiz0z2 | 1 => T.kiz1z2 | 2 => T.kiz2z2 | _ + 3 => T.kiz0z2
theorem ek_all (T : Txt K mg) : ∀ d, ExcK K ((Gof T).cA d) := fun d => match d with | 0 => T.xz0 | 1 => T.xz1 | 2 => T.xz2 | _ + 3 => T.xz0
end
section
variable {P : Program} {w : World} {K : PySem.W.Frag} {mg : Str → Option Value} {base : Heap} {k : Nat}
set_option genInjectivity false in
set_option genSizeOf false in
structure Ok (P : Program) (w : World) {K : PySem.W.Frag} {mg : Str → Option Value} (base : Heap) (T : Txt K mg) (k : Nat) : Prop where
  o_lay : FnOk P w K mg base (CXE (Gof T) P w base) (2 * k) T.f_lay T.d_lay ["oblongs", "width"] (spG (Gof T) (cfX fns sub0 k).cf (cfX fns sub0 k).fr 0)
  oz7 : FnOk P w K mg base (CXE (Gof T) P w base) (2 * k) T.fz7 T.dz7 ["oblong", "width", "laid"] (spG (Gof T) (cfX fns sub0 k).cf (cfX fns sub0 k).fr 1)
  oz6 : FnOk P w K mg base (CXE (Gof T) P w base) (2 * k) T.fz6 T.dz6 ["tried", "laid"] (spG (Gof T) (cfX fns sub0 k).cf (cfX fns sub0 k).fr 2)
  oz8 : FnOk P w K mg base (CXE (Gof T) P w base) (2 * k) T.fz8 T.dz8 ["one", "two"] (spG (Gof T) (cfX fns sub0 k).cf (cfX fns sub0 k).fr 3)
  oz9 : FnOk P w K mg base (CXE (Gof T) P w base) (2 * k) T.fz9 T.dz9 ["box"] (spG (Gof T) (cfX fns sub0 k).cf (cfX fns sub0 k).fr 4)
  o_top : FnOk P w K mg base (CXE (Gof T) P w base) (2 * k) T.f_top T.d_top ["box"] (spG (Gof T) (cfX fns sub0 k).cf (cfX fns sub0 k).fr 5)
  oz5 : FnOk P w K mg base (CXE (Gof T) P w base) (2 * k) T.fz5 T.dz5 ["_law_found"] (spG (Gof T) (cfX fns sub0 k).cf (cfX fns sub0 k).fr 6)
  oz3 : FnOk P w K mg base (CXE (Gof T) P w base) (2 * k) T.fz3 T.dz3 ["_law_script", "_law_k"] (spG (Gof T) (cfX fns sub0 k).cf (cfX fns sub0 k).fr 7)
  oz4 : FnOk P w K mg base (CXE (Gof T) P w base) (2 * k) T.fz4 T.dz4 ["_law_script", "_law_many"] (spG (Gof T) (cfX fns sub0 k).cf (cfX fns sub0 k).fr 8)
  o_law : FnOk P w K mg base (CXE (Gof T) P w base) (2 * k) T.f_law T.d_law ["_law_script"] (spG (Gof T) (cfX fns sub0 k).cf (cfX fns sub0 k).fr 9)
theorem ih_lay {T : Txt K mg} (ih : Ok P w base T k) : FnOk P w K mg base (CXE (Gof T) P w base) (2 * k) T.f_lay T.d_lay ["oblongs", "width"] (spG (Gof T) (cfX fns sub0 k).cf (cfX fns sub0 k).fr 0) := ih.o_lay
theorem ihz7 {T : Txt K mg} (ih : Ok P w base T k) : FnOk P w K mg base (CXE (Gof T) P w base) (2 * k) T.fz7 T.dz7 ["oblong", "width", "laid"] (spG (Gof T) (cfX fns sub0 k).cf (cfX fns sub0 k).fr 1) := ih.oz7
theorem ihz6 {T : Txt K mg} (ih : Ok P w base T k) : FnOk P w K mg base (CXE (Gof T) P w base) (2 * k) T.fz6 T.dz6 ["tried", "laid"] (spG (Gof T) (cfX fns sub0 k).cf (cfX fns sub0 k).fr 2) := ih.oz6
theorem ihz8 {T : Txt K mg} (ih : Ok P w base T k) : FnOk P w K mg base (CXE (Gof T) P w base) (2 * k) T.fz8 T.dz8 ["one", "two"] (spG (Gof T) (cfX fns sub0 k).cf (cfX fns sub0 k).fr 3) := ih.oz8
theorem ihz9 {T : Txt K mg} (ih : Ok P w base T k) : FnOk P w K mg base (CXE (Gof T) P w base) (2 * k) T.fz9 T.dz9 ["box"] (spG (Gof T) (cfX fns sub0 k).cf (cfX fns sub0 k).fr 4) := ih.oz9
theorem ih_top {T : Txt K mg} (ih : Ok P w base T k) : FnOk P w K mg base (CXE (Gof T) P w base) (2 * k) T.f_top T.d_top ["box"] (spG (Gof T) (cfX fns sub0 k).cf (cfX fns sub0 k).fr 5) := ih.o_top
theorem ihz5 {T : Txt K mg} (ih : Ok P w base T k) : FnOk P w K mg base (CXE (Gof T) P w base) (2 * k) T.fz5 T.dz5 ["_law_found"] (spG (Gof T) (cfX fns sub0 k).cf (cfX fns sub0 k).fr 6) := ih.oz5
theorem ihz3 {T : Txt K mg} (ih : Ok P w base T k) : FnOk P w K mg base (CXE (Gof T) P w base) (2 * k) T.fz3 T.dz3 ["_law_script", "_law_k"] (spG (Gof T) (cfX fns sub0 k).cf (cfX fns sub0 k).fr 7) := ih.oz3
theorem ihz4 {T : Txt K mg} (ih : Ok P w base T k) : FnOk P w K mg base (CXE (Gof T) P w base) (2 * k) T.fz4 T.dz4 ["_law_script", "_law_many"] (spG (Gof T) (cfX fns sub0 k).cf (cfX fns sub0 k).fr 8) := ih.oz4
theorem ok_lay (T : Txt K mg) (ih : Ok P w base T k) : FnOk P w K mg base (CXE (Gof T) P w base) (2 * (k + 1)) T.f_lay T.d_lay ["oblongs", "width"] (spG (Gof T) (run true fns sub0 whileL (k + 1)) (frOf fns) 0) := by
  refine fn_okX T.t_lay sc_lay rfl rfl rfl fun cdv A outer s H E hr => ?_
  have hu := Nat.lt_of_le_of_lt (Nat.add_le_add_left (by decide : 9 ≤ 64) _) hr.units
  have hp := IP.passes_leave (X := cxOf (CXE (Gof T) P w base) P w K mg base nm_lay "lay" (zaaa s_lay) T.f_lay cdv A outer s H E) rfl
  exact (zaab (sS_ifs (wct hu .gt (wlen (T.b_len) (wv 0)) (xglb T.g_MOST_OBLONGS)) (zaab (yraise (emz1 T) (eqz1 T))
  zaad) zaad)
  (zaab (sS_ifs (wtr (wany (T.b_any) (sV_of (zaa5 (f := fun σ st => one (ev (cfX fns sub0 k) zaam .v σ st)) rfl (zaa4 (sc := (zaaa s_lay).names) (N := nm_lay) (N' := zadg) rfl rfl rfl rfl (by decide +kernel)) (by decide) (wpl (wv 0)) (fun _ _ _ _ => (wg1 nd_lay_c0)) (fun _ _ _ _ => zabt (wcv hu .gt (wsub (wv 5) sV_int) (wv 1)) rfl) (fun _ => rfl) (fun _ _ _ _ => zaas _ _ _) (fun _ _ => rfl)) fun _ _ _ _ h => zabs h))) (zaab (yraise (emz2 T) (eqz2 T))
  zaad) zaad)
  (zaab (qmk nd_lay (wlstO sA_nil))
  (zaab (yforV (i := 0) hp (wg1 nd_lay) (zaab (qapp (i := 2) (xcall (ihz7 ih) hr T.mz7 T.kz7 T.bdz7 .nil rfl (wrc (wv 3) (wrc (wv 1) (wrc (wv 2) sR_nil)))))
  zaad))
  (zaab (qasg nd_lay (sV_mxd rfl (sV_of (zaa5 (f := fun σ st => one (ev (cfX fns sub0 k) zaba .v σ st)) rfl (zaa4 (sc := (zaaa s_lay).names) (N := nm_lay) (N' := zadd) rfl rfl rfl rfl (by decide +kernel)) (by decide) (wpl (wv 2)) (fun _ _ _ _ => (wg1 nd_lay_c1)) (fun _ _ _ _ => zabt (xcall (ih_top ih) hr T.m_top T.k_top T.bd_top .nil rfl (wrc (wv 6) sR_nil)) rfl) (fun _ => rfl) (fun _ _ _ _ => zaas _ _ _) (fun _ _ => rfl)) fun _ _ _ _ h => zabs h) sV_int (T.b_max)))
  (zaab (sS_ret (wtup (wac (wv 4) (wac (sV_of (zaa5 (f := fun σ st => one (ev (cfX fns sub0 k) zabn .v σ st)) rfl (zaa4 (sc := (zaaa s_lay).names) (N := nm_lay) (N' := zac3) rfl rfl rfl rfl (by decide +kernel)) (by decide) (wpl (wv 2)) (fun _ _ _ _ => (wg1 nd_lay_c2)) (fun _ _ _ _ => zabt (wtup (wac (wsub (wv 7) sV_int) (wac (wsub (wv 7) sV_int) sA_nil))) rfl) (fun _ => rfl) (fun _ _ _ _ => zaas _ _ _) (fun _ _ => rfl)) fun _ _ _ _ h => zabs h) sA_nil))))
  zaad))))))
theorem okz7 (T : Txt K mg) (hC : PySem.W.CodeHd base T.cz T.pt) (hB : BM mg base) (ih : Ok P w base T k) : FnOk P w K mg base (CXE (Gof T) P w base) (2 * (k + 1)) T.fz7 T.dz7 ["oblong", "width", "laid"] (spG (Gof T) (run true fns sub0 whileL (k + 1)) (frOf fns) 1) := by
  refine fn_okL T.tz7 scz7 rfl rfl rfl fun cdv A outer s H E hz hr => ?_
  have hcz : cdv = .ref T.cz := hz.symm.trans T.zc
  have hu := Nat.lt_of_le_of_lt (Nat.add_le_add_left (by decide : 9 ≤ 64) _) hr.units
  have hp := IP.passes_leave (X := cxOf (CXE (Gof T) P w base) P w K mg base nmz7 "lowest_box" (zaaa sz7) T.fz7 cdv A outer s H E) rfl
  exact (zaab (qmk ndz7 (wlstO sA_nil))
  (zaab (yfor hp (wpj (sV_bin .add (wlst (wac sV_int sA_nil)) (sV_of (zaa5 (f := fun σ st => one (ev (cfX fns sub0 k) ez7_C0 .v σ st)) rfl (zaa4 (sc := (zaaa sz7).names) (N := nmz7) (N' := nmz7_c0) rfl rfl rfl rfl (by decide +kernel)) (by decide) (wpl (wv 2)) (fun _ _ _ _ => (wg1 ndz7_c0)) (fun _ _ _ _ => zabt (xcall (ih_top ih) hr T.m_top T.k_top T.bd_top .nil rfl (wrc (wv 7) sR_nil)) rfl) (fun _ => rfl) (fun _ _ _ _ => zaas _ _ _) (fun _ _ => rfl)) fun _ _ _ _ h => zabs h))) (wg1 ndz7) (zaab (yfor hp (wpj (sV_bin .add (wlst (wac sV_int sA_nil)) (sV_of (zaa5 (f := fun σ st => one (ev (cfX fns sub0 k) ez7_C1 .v σ st)) rfl (zaa4 (sc := (zaaa sz7).names) (N := nmz7) (N' := nmz7_c1) rfl rfl rfl rfl (by decide +kernel)) (by decide) (wpl (wv 2)) (fun _ _ _ _ => (wg1 ndz7_c1)) (fun _ _ _ _ => zabt (xcall (ihz9 ih) hr T.mz9 T.kz9 T.bdz9 .nil rfl (wrc (wv 8) sR_nil)) rfl) (fun _ => rfl) (fun _ _ _ _ => zaas _ _ _) (fun _ _ => rfl)) fun _ _ _ _ h => zabs h))) (wg1 ndz7) (zaab (qasg ndz7 (wtup (wac (wv 5) (wac (wv 4) (wac (wsub (wv 0) sV_int) (wac (wsub (wv 0) sV_int) sA_nil))))))
  (zaab (sS_ifs (PW.pt (ptb_and (wct hu .le (xcall (ihz9 ih) hr T.mz9 T.kz9 T.bdz9 .nil rfl (wrc (wv 6) sR_nil)) (wv 1)) (zadr (wtr (xcall (ihz6 ih) hr T.mz6 T.kz6 T.bdz6 .nil rfl (wrc (wv 6) (wrc (wv 2) sR_nil))))))) (zaab (qapp (i := 3) (wv 6))
  zaad) zaad)
  zaad)))
  zaad))
  (zaab (sS_ret (sV_mnk (k := 2 * k) (x := "box") hr rfl hcz hC hB (wv 3) (T.b_min) ⟨rfl, rfl, rfl, by decide, rfl, by decide +kernel, by decide +kernel⟩ (fun _ _ _ _ => rfl) (fun Y hN hs => pe_pair hN (by rw [hs]; exact .inl rfl))))
  zaad)))
theorem okz6 (T : Txt K mg) (ih : Ok P w base T k) : FnOk P w K mg base (CXE (Gof T) P w base) (2 * (k + 1)) T.fz6 T.dz6 ["tried", "laid"] (spG (Gof T) (run true fns sub0 whileL (k + 1)) (frOf fns) 2) := by
  refine fn_okX T.tz6 scz6 rfl rfl rfl fun cdv A outer s H E hr => ?_
  have hu := Nat.lt_of_le_of_lt (Nat.add_le_add_left (by decide : 9 ≤ 64) _) hr.units
  have hp := IP.passes_leave (X := cxOf (CXE (Gof T) P w base) P w K mg base nmz6 "is_free" (zaaa sz6) T.fz6 cdv A outer s H E) rfl
  exact (zaab (sS_ret (sV_not (wany (T.b_any) (sV_of (zaa5 (f := fun σ st => one (ev (cfX fns sub0 k) ez6_C0 .v σ st)) rfl (zaa4 (sc := (zaaa sz6).names) (N := nmz6) (N' := nmz6_c0) rfl rfl rfl rfl (by decide +kernel)) (by decide) (wpl (wv 1)) (fun _ _ _ _ => (wg1 ndz6_c0)) (fun _ _ _ _ => zabt (xcall (ihz8 ih) hr T.mz8 T.kz8 T.bdz8 .nil rfl (wrc (wv 0) (wrc (wv 2) sR_nil))) rfl) (fun _ => rfl) (fun _ _ _ _ => zaas _ _ _) (fun _ _ => rfl)) fun _ _ _ _ h => zabs h))))
  zaad)
theorem okz8 (T : Txt K mg) (ih : Ok P w base T k) : FnOk P w K mg base (CXE (Gof T) P w base) (2 * (k + 1)) T.fz8 T.dz8 ["one", "two"] (spG (Gof T) (run true fns sub0 whileL (k + 1)) (frOf fns) 3) := by
  refine fn_okX T.tz8 scz8 rfl rfl rfl fun cdv A outer s H E hr => ?_
  have hu := Nat.lt_of_le_of_lt (Nat.add_le_add_left (by decide : 9 ≤ 64) _) hr.units
  have hp := IP.passes_leave (X := cxOf (CXE (Gof T) P w base) P w K mg base nmz8 "overlap" (zaaa sz8) T.fz8 cdv A outer s H E) rfl
  exact (zaab (qasg ndz8 (sV_or (wcv hu .le (xcall (ihz9 ih) hr T.mz9 T.kz9 T.bdz9 .nil rfl (wrc (wv 0) sR_nil)) (wsub (wv 1) sV_int)) (wone (wcv hu .le (xcall (ihz9 ih) hr T.mz9 T.kz9 T.bdz9 .nil rfl (wrc (wv 1) sR_nil)) (wsub (wv 0) sV_int)))))
  (zaab (qasg ndz8 (sV_or (wcv hu .le (xcall (ih_top ih) hr T.m_top T.k_top T.bd_top .nil rfl (wrc (wv 0) sR_nil)) (wsub (wv 1) sV_int)) (wone (wcv hu .le (xcall (ih_top ih) hr T.m_top T.k_top T.bd_top .nil rfl (wrc (wv 1) sR_nil)) (wsub (wv 0) sV_int)))))
  (zaab (sS_ret (sV_and (sV_not (wv 2)) (wone (sV_not (wv 3)))))
  zaad)))
theorem okz9 (T : Txt K mg) (ih : Ok P w base T k) : FnOk P w K mg base (CXE (Gof T) P w base) (2 * (k + 1)) T.fz9 T.dz9 ["box"] (spG (Gof T) (run true fns sub0 whileL (k + 1)) (frOf fns) 4) := by
  refine fn_okX T.tz9 scz9 rfl rfl rfl fun cdv A outer s H E hr => ?_
  have hu := Nat.lt_of_le_of_lt (Nat.add_le_add_left (by decide : 9 ≤ 64) _) hr.units
  have hp := IP.passes_leave (X := cxOf (CXE (Gof T) P w base) P w K mg base nmz9 "right" (zaaa sz9) T.fz9 cdv A outer s H E) rfl
  exact (zaab (sS_ret (sV_bin .add (wsub (wv 0) sV_int) (wsub (wv 0) sV_int)))
  zaad)
theorem ok_top (T : Txt K mg) (ih : Ok P w base T k) : FnOk P w K mg base (CXE (Gof T) P w base) (2 * (k + 1)) T.f_top T.d_top ["box"] (spG (Gof T) (run true fns sub0 whileL (k + 1)) (frOf fns) 5) := by
  refine fn_okX T.t_top sc_top rfl rfl rfl fun cdv A outer s H E hr => ?_
  have hu := Nat.lt_of_le_of_lt (Nat.add_le_add_left (by decide : 9 ≤ 64) _) hr.units
  have hp := IP.passes_leave (X := cxOf (CXE (Gof T) P w base) P w K mg base nm_top "top" (zaaa s_top) T.f_top cdv A outer s H E) rfl
  exact (zaab (sS_ret (sV_bin .add (wsub (wv 0) sV_int) (wsub (wv 0) sV_int)))
  zaad)
theorem okz5 (T : Txt K mg) (ih : Ok P w base T k) : FnOk P w K mg base (CXE (Gof T) P w base) (2 * (k + 1)) T.fz5 T.dz5 ["_law_found"] (spG (Gof T) (run true fns sub0 whileL (k + 1)) (frOf fns) 6) := by
  refine fn_okX T.tz5 scz5 rfl rfl rfl fun cdv A outer s H E hr => ?_
  have hu := Nat.lt_of_le_of_lt (Nat.add_le_add_left (by decide : 9 ≤ 64) _) hr.units
  have hp := IP.passes_leave (X := cxOf (CXE (Gof T) P w base) P w K mg base nmz5 "_law_whole" (zaaa sz5) T.fz5 cdv A outer s H E) rfl
  exact (zaab (sS_ret (sV_and (wisi .int (T.b_isinstance) (T.b_int) (wv 0)) (wone (sV_not (wisi .bool (T.b_isinstance) (T.b_bool) (wv 0))))))
  zaad)
theorem okz3 (T : Txt K mg) (ih : Ok P w base T k) : FnOk P w K mg base (CXE (Gof T) P w base) (2 * (k + 1)) T.fz3 T.dz3 ["_law_script", "_law_k"] (spG (Gof T) (run true fns sub0 whileL (k + 1)) (frOf fns) 7) := by
  refine fn_okX T.tz3 scz3 rfl rfl rfl fun cdv A outer s H E hr => ?_
  have hu := Nat.lt_of_le_of_lt (Nat.add_le_add_left (by decide : 9 ≤ 64) _) hr.units
  have hp := IP.passes_leave (X := cxOf (CXE (Gof T) P w base) P w K mg base nmz3 "_law_at" (zaaa sz3) T.fz3 cdv A outer s H E) rfl
  exact (zaab (sS_ifs (wct hu .lt (wv 1) (wlen (T.b_len) (wv 0))) (zaab (sS_ret (wsub (wv 0) (wv 1)))
  zaad) zaad)
  (zaab (sS_ret sV_int)
  zaad))
theorem okz4 (T : Txt K mg) (ih : Ok P w base T k) : FnOk P w K mg base (CXE (Gof T) P w base) (2 * (k + 1)) T.fz4 T.dz4 ["_law_script", "_law_many"] (spG (Gof T) (run true fns sub0 whileL (k + 1)) (frOf fns) 8) := by
  refine fn_okX T.tz4 scz4 rfl rfl rfl fun cdv A outer s H E hr => ?_
  have hu := Nat.lt_of_le_of_lt (Nat.add_le_add_left (by decide : 9 ≤ 64) _) hr.units
  have hp := IP.passes_leave (X := cxOf (CXE (Gof T) P w base) P w K mg base nmz4 "_law_stir" (zaaa sz4) T.fz4 cdv A outer s H E) rfl
  exact (zaab (qasg ndz4 sV_int)
  (zaab (qmk ndz4 (wlstO sA_nil))
  (zaab (yfor hp (wr1 (T.b_range) (wv 1)) (wg1 ndz4) (zaab (qasg ndz4 (sV_bin .mod (sV_bin .add (sV_bin .add (sV_bin .mul (wv 2) sV_int) (xcall (ihz3 ih) hr T.mz3 T.kz3 T.bdz3 .nil rfl (wrc (wv 0) (wrc (wv 4) sR_nil)))) sV_int) sV_int))
  (zaab (qapp (i := 3) (wv 2))
  zaad)))
  (sSs_frz (zaab (sS_ret (wv 3))
  zaad)))))
theorem ok_law (T : Txt K mg) (ih : Ok P w base T k) : FnOk P w K mg base (CXE (Gof T) P w base) (2 * (k + 1)) T.f_law T.d_law ["_law_script"] (spG (Gof T) (run true fns sub0 whileL (k + 1)) (frOf fns) 9) := by
  refine fn_okX T.t_law sc_law rfl rfl rfl fun cdv A outer s H E hr => ?_
  have hu := Nat.lt_of_le_of_lt (Nat.add_le_add_left (by decide : 9 ≤ 64) _) hr.units
  have hp := IP.passes_leave (X := cxOf (CXE (Gof T) P w base) P w K mg base nm_law "law" (zaaa s_law) T.f_law cdv A outer s H E) rfl
  exact (zaab (qasg nd_law (xcall (ihz4 ih) hr T.mz4 T.kz4 T.bdz4 .nil rfl (wrc (wv 0) (wrc sV_int sR_nil))))
  (zaab (qasg nd_law (sV_bin .add sV_int (sV_bin .mod (wsub (wv 1) sV_int) sV_int)))
  (zaab (qmk nd_law (wlstO sA_nil))
  (zaab (yfor hp (wr1 (T.b_range) (sV_bin .mod (wsub (wv 1) sV_int) sV_int)) (wg1 nd_law) (zaab (qapp (i := 3) (wtup (wac (sV_bin .add sV_int (sV_bin .mod (wsub (wv 1) (sV_bin .add sV_int (sV_bin .mul sV_int (wv 4)))) (wv 2))) (wac (sV_bin .add sV_int (sV_bin .mod (wsub (wv 1) (sV_bin .add sV_int (sV_bin .mul sV_int (wv 4)))) sV_int)) sA_nil))))
  (zaab (sS_ifs (wct hu .eq (sV_bin .mod (sV_bin .fdiv (wsub (wv 1) (sV_bin .add sV_int (sV_bin .mul sV_int (wv 4)))) sV_int) sV_int) sV_int) (zaab (qput (i := 3) (wv 4) (wtup (wac (wv 2) (wac (wsub (wsub (wv 3) (wv 4)) sV_int) sA_nil))))
  zaad) zaad)
  zaad)))
  (zaab (qasg nd_law (sV_and (wcv hu .ne (wv 3) (wlst sA_nil)) (wone (wcv hu .eq (sV_bin .mod (wsub (wv 1) sV_int) sV_int) sV_int))))
  (zaab (sS_ifs (wtr (wv 5)) (zaab (qasg nd_law (sV_bin .mod (wsub (wv 1) sV_int) (wlen (T.b_len) (wv 3))))
  (zaab (qput (i := 3) (wv 6) (wtup (wac (sV_bin .add (sV_bin .add (wv 2) sV_int) (sV_bin .mod (sV_bin .fdiv (wsub (wv 1) sV_int) sV_int) (sV_bin .sub sV_int (wv 2)))) (wac (wsub (wsub (wv 3) (wv 6)) sV_int) sA_nil))))
  zaad)) zaad)
  (zaab (qasg nd_law sV_int)
  (zaab (qasg nd_law sV_non)
  (zaab (ytryN nd_law (emz0 T) (xmz0 T) (fun E pn hp => (zaab (qasg nd_law (xcall (ih_lay ih) hr T.m_lay T.k_lay T.bd_lay .nil rfl (wrc (wlist (T.b_list) (wv 3)) (wrc (wv 2) sR_nil))))
  zaad)) (fun e => (zaab (qasg nd_law (sV_bin .add (wint (T.b_int) (xisx (ek_all T) (koz1 T) (T.b_isinstance) (emz1 T) (wv 9))) (sV_bin .mul sV_int (wint (T.b_int) (xisx (ek_all T) (koz2 T) (T.b_isinstance) (emz2 T) (wv 9))))))
  zaad)))
  (zaab (sS_ifs (wct hu .gt (wlen (T.b_len) (wv 3)) sV_int) (zaab (sS_ret (wcv hu .eq (wv 7) sV_int))
  zaad) zaad)
  (zaab (sS_ifs (wtr (wv 5)) (zaab (sS_ret (wcv hu .eq (wv 7) sV_int))
  zaad) zaad)
  (zaab (sS_ifs (PW.pt (ptb_or (wct hu .ne (wv 7) sV_int) (ptb_or (sT_not (wtr (wisi .tuple (T.b_isinstance) (T.b_tuple) (wv 8)))) (zael (wct hu .ne (wlen (T.b_len) (wv 8)) sV_int))))) (zaab (sS_ret sV_bl)
  zaad) zaad)
  (zaab (sS_ret (sV_and (xcall (ihz5 ih) hr T.mz5 T.kz5 T.bdz5 .nil rfl (wrc (wsub (wv 8) sV_int) sR_nil)) (sV_and (wisi .list (T.b_isinstance) (T.b_list) (wsub (wv 8) sV_int)) (wone (wcv hu .eq (wlen (T.b_len) (wsub (wv 8) sV_int)) (wlen (T.b_len) (wv 3)))))))
  zaad)))))))))))))
theorem all (T : Txt K mg) (hC : PySem.W.CodeHd base T.cz T.pt) (hB : BM mg base) : ∀ k, Ok P w base T k
  | 0 => ⟨zaai (sub := sub0), zaai (sub := sub0), zaai (sub := sub0), zaai (sub := sub0), zaai (sub := sub0), zaai (sub := sub0), zaai (sub := sub0), zaai (sub := sub0), zaai (sub := sub0), zaai (sub := sub0)⟩
  | k + 1 => ⟨ok_lay T (all T hC hB k), okz7 T hC hB (all T hC hB k), okz6 T (all T hC hB k), okz8 T (all T hC hB k), okz9 T (all T hC hB k), ok_top T (all T hC hB k), okz5 T (all T hC hB k), okz3 T (all T hC hB k), okz4 T (all T hC hB k), ok_law T (all T hC hB k)⟩
end
end Pg
end IP
end
section
set_option Elab.async false
set_option linter.all false
set_option maxRecDepth 100000
set_option maxHeartbeats 0
namespace IP
open PySem PySem.Spec L2
namespace Pg
def Math : Prop := ∀ ns : List Int, ns.length ≤ 63 → ∃ s, run true fns sub0 whileL 16 9 [.val (.lst (ns.map .int))] [.tbl 0 ⟨27, 25, 27, 53⟩ ((("lowest_box" : Str) ++ ".<locals>.") ++ "<lambda>")] = .ok (.val (.bl true)) s
abbrev spTop (G : Gx) : Sp := fun vs H Q _ => spG G (run true fns sub0 whileL 16) (frOf fns) 9 vs H Q fun _ _ _ => False
theorem all_mk {l : PySem.W.OpenLaw} {w : World} {K : PySem.W.Frag} {h : Heap} {mg : Str → Option Value} {fa : Addr} {ez0 : Addr} {ez1 : Addr} {ez2 : Addr} {f_lay : Addr} {od_lay an_lay : Option Addr} {sl_lay : Array (Option Value)} {oc_lay kV_lay dc_lay pm_lay cd_lay ct_lay : Value} {fz7 : Addr} {odz7 anz7 : Option Addr} {slz7 : Array (Option Value)} {ocz7 kVz7 dcz7 pmz7 cdz7 ctz7 : Value} {fz6 : Addr} {odz6 anz6 : Option Addr} {slz6 : Array (Option Value)} {ocz6 kVz6 dcz6 pmz6 cdz6 ctz6 : Value} {fz8 : Addr} {odz8 anz8 : Option Addr} {slz8 : Array (Option Value)} {ocz8 kVz8 dcz8 pmz8 cdz8 ctz8 : Value} {fz9 : Addr} {odz9 anz9 : Option Addr} {slz9 : Array (Option Value)} {ocz9 kVz9 dcz9 pmz9 cdz9 ctz9 : Value} {f_top : Addr} {od_top an_top : Option Addr} {sl_top : Array (Option Value)} {oc_top kV_top dc_top pm_top cd_top ct_top : Value} {fz5 : Addr} {odz5 anz5 : Option Addr} {slz5 : Array (Option Value)} {ocz5 kVz5 dcz5 pmz5 cdz5 ctz5 : Value} {fz3 : Addr} {odz3 anz3 : Option Addr} {slz3 : Array (Option Value)} {ocz3 kVz3 dcz3 pmz3 cdz3 ctz3 : Value} {fz4 : Addr} {odz4 anz4 : Option Addr} {slz4 : Array (Option Value)} {ocz4 kVz4 dcz4 pmz4 cdz4 ctz4 : Value} {f_law : Addr} {od_law an_law : Option Addr} {sl_law : Array (Option Value)} {oc_law kV_law dc_law pm_law cd_law ct_law : Value} {t_MOST_OBLONGS : Tok} (X : K.In h) (Gn : h.Ns mainGlobals mg) (hfa : mg "law" = some (.ref fa)) {pt cz : Addr} (hz : ∀ (f : Addr) (o : Obj) (fd : FuncData), mg "lowest_box" = some (.ref f) → h.get? f = some o → o.data = .func fd → fd.code = .ref cz)
    (aez0 : PySem.W.nsIn K mainGlobals "GradeError" = some (some (.ref ez0)))
    (aez1 : PySem.W.nsIn K mainGlobals "TooMany" = some (some (.ref ez1)))
    (qez1 : PySem.W.excIn K ez1 [.type "ValueError", .type "Exception", .type "BaseException", .type "object"] "ValueError.__new__" = true)
    (aez2 : PySem.W.nsIn K mainGlobals "TooWide" = some (some (.ref ez2)))
    (qez2 : PySem.W.excIn K ez2 [.type "ValueError", .type "Exception", .type "BaseException", .type "object"] "ValueError.__new__" = true)
    (hsp : PySem.W.specialIn K (.builtin "object.__class__") "__get__" = some (some (.builtin "getset_descriptor.__get__")))
    (htk : PySem.W.takesIn K (.builtin "object.__class__") = some true)
    (gaz0 : PySem.W.findIn K (.ref ez0) "__getattribute__" = some (some (.builtin "BaseException.__getattribute__")))
    (gnz0 : PySem.W.findIn K (.ref ez0) "__getattr__" = some none)
    (dcz0 : PySem.W.hasDictIn K ez0 = true)
    (caz0 : PySem.W.findIn K (.ref ez0) "__class__" = some (some (.builtin "object.__class__")))
    (moz0 : PySem.W.mroIn K ez0 (.type "object") = some true)
    (mbz0 : PySem.W.mroIn K ez0 (.type "BaseException") = some true)
    (gaz1 : PySem.W.findIn K (.ref ez1) "__getattribute__" = some (some (.builtin "BaseException.__getattribute__")))
    (gnz1 : PySem.W.findIn K (.ref ez1) "__getattr__" = some none)
    (dcz1 : PySem.W.hasDictIn K ez1 = true)
    (caz1 : PySem.W.findIn K (.ref ez1) "__class__" = some (some (.builtin "object.__class__")))
    (moz1 : PySem.W.mroIn K ez1 (.type "object") = some true)
    (mbz1 : PySem.W.mroIn K ez1 (.type "BaseException") = some true)
    (gaz2 : PySem.W.findIn K (.ref ez2) "__getattribute__" = some (some (.builtin "BaseException.__getattribute__")))
    (gnz2 : PySem.W.findIn K (.ref ez2) "__getattr__" = some none)
    (dcz2 : PySem.W.hasDictIn K ez2 = true)
    (caz2 : PySem.W.findIn K (.ref ez2) "__class__" = some (some (.builtin "object.__class__")))
    (moz2 : PySem.W.mroIn K ez2 (.type "object") = some true)
    (mbz2 : PySem.W.mroIn K ez2 (.type "BaseException") = some true)
    (kiz0z1 : PySem.W.kitOne K (.ref ez0) (.ref ez1) = some false)
    (kiz1z1 : PySem.W.kitOne K (.ref ez1) (.ref ez1) = some true)
    (kiz2z1 : PySem.W.kitOne K (.ref ez2) (.ref ez1) = some false)
    (kiz0z2 : PySem.W.kitOne K (.ref ez0) (.ref ez2) = some false)
    (kiz1z2 : PySem.W.kitOne K (.ref ez1) (.ref ez2) = some false)
    (kiz2z2 : PySem.W.kitOne K (.ref ez2) (.ref ez2) = some true)
    (xoz0z0 : PySem.W.exmOne K (.ref ez0) (.ref ez0) = some true)
    (xoz1z0 : PySem.W.exmOne K (.ref ez1) (.ref ez0) = some true)
    (xoz2z0 : PySem.W.exmOne K (.ref ez2) (.ref ez0) = some true)
    (a_lay : PySem.W.nsIn K mainGlobals "lay" = some (some (.ref f_lay)))
    (l_lay : K.lookup f_lay = some ⟨oc_lay, od_lay, .func (PySem.W.fnOf "lay" "lay" (zaah s_lay) (zaag s_lay) (zaaa s_lay) .none kV_lay dc_lay pm_lay an_lay cd_lay ct_lay), sl_lay⟩)
    (c_lay : PySem.W.codeIn K cd_lay "lay" = true)
    (k_lay : PySem.W.keepIn K (.ref f_lay) = true)
    (az7 : PySem.W.nsIn K mainGlobals "lowest_box" = some (some (.ref fz7)))
    (lz7 : K.lookup fz7 = some ⟨ocz7, odz7, .func (PySem.W.fnOf "lowest_box" "lowest_box" (zaah sz7) (zaag sz7) (zaaa sz7) .none kVz7 dcz7 pmz7 anz7 cdz7 ctz7), slz7⟩)
    (cz7 : PySem.W.codeIn K cdz7 "lowest_box" = true)
    (kz7 : PySem.W.keepIn K (.ref fz7) = true)
    (az6 : PySem.W.nsIn K mainGlobals "is_free" = some (some (.ref fz6)))
    (lz6 : K.lookup fz6 = some ⟨ocz6, odz6, .func (PySem.W.fnOf "is_free" "is_free" (zaah sz6) (zaag sz6) (zaaa sz6) .none kVz6 dcz6 pmz6 anz6 cdz6 ctz6), slz6⟩)
    (cz6 : PySem.W.codeIn K cdz6 "is_free" = true)
    (kz6 : PySem.W.keepIn K (.ref fz6) = true)
    (az8 : PySem.W.nsIn K mainGlobals "overlap" = some (some (.ref fz8)))
    (lz8 : K.lookup fz8 = some ⟨ocz8, odz8, .func (PySem.W.fnOf "overlap" "overlap" (zaah sz8) (zaag sz8) (zaaa sz8) .none kVz8 dcz8 pmz8 anz8 cdz8 ctz8), slz8⟩)
    (cz8 : PySem.W.codeIn K cdz8 "overlap" = true)
    (kz8 : PySem.W.keepIn K (.ref fz8) = true)
    (az9 : PySem.W.nsIn K mainGlobals "right" = some (some (.ref fz9)))
    (lz9 : K.lookup fz9 = some ⟨ocz9, odz9, .func (PySem.W.fnOf "right" "right" (zaah sz9) (zaag sz9) (zaaa sz9) .none kVz9 dcz9 pmz9 anz9 cdz9 ctz9), slz9⟩)
    (cz9 : PySem.W.codeIn K cdz9 "right" = true)
    (kz9 : PySem.W.keepIn K (.ref fz9) = true)
    (a_top : PySem.W.nsIn K mainGlobals "top" = some (some (.ref f_top)))
    (l_top : K.lookup f_top = some ⟨oc_top, od_top, .func (PySem.W.fnOf "top" "top" (zaah s_top) (zaag s_top) (zaaa s_top) .none kV_top dc_top pm_top an_top cd_top ct_top), sl_top⟩)
    (c_top : PySem.W.codeIn K cd_top "top" = true)
    (k_top : PySem.W.keepIn K (.ref f_top) = true)
    (az5 : PySem.W.nsIn K mainGlobals "_law_whole" = some (some (.ref fz5)))
    (lz5 : K.lookup fz5 = some ⟨ocz5, odz5, .func (PySem.W.fnOf "_law_whole" "_law_whole" (zaah sz5) (zaag sz5) (zaaa sz5) .none kVz5 dcz5 pmz5 anz5 cdz5 ctz5), slz5⟩)
    (cz5 : PySem.W.codeIn K cdz5 "_law_whole" = true)
    (kz5 : PySem.W.keepIn K (.ref fz5) = true)
    (az3 : PySem.W.nsIn K mainGlobals "_law_at" = some (some (.ref fz3)))
    (lz3 : K.lookup fz3 = some ⟨ocz3, odz3, .func (PySem.W.fnOf "_law_at" "_law_at" (zaah sz3) (zaag sz3) (zaaa sz3) .none kVz3 dcz3 pmz3 anz3 cdz3 ctz3), slz3⟩)
    (cz3 : PySem.W.codeIn K cdz3 "_law_at" = true)
    (kz3 : PySem.W.keepIn K (.ref fz3) = true)
    (az4 : PySem.W.nsIn K mainGlobals "_law_stir" = some (some (.ref fz4)))
    (lz4 : K.lookup fz4 = some ⟨ocz4, odz4, .func (PySem.W.fnOf "_law_stir" "_law_stir" (zaah sz4) (zaag sz4) (zaaa sz4) .none kVz4 dcz4 pmz4 anz4 cdz4 ctz4), slz4⟩)
    (cz4 : PySem.W.codeIn K cdz4 "_law_stir" = true)
    (kz4 : PySem.W.keepIn K (.ref fz4) = true)
    (a_law : PySem.W.nsIn K mainGlobals "law" = some (some (.ref f_law)))
    (l_law : K.lookup f_law = some ⟨oc_law, od_law, .func (PySem.W.fnOf "law" "law" (zaah s_law) (zaag s_law) (zaaa s_law) .none kV_law dc_law pm_law an_law cd_law ct_law), sl_law⟩)
    (c_law : PySem.W.codeIn K cd_law "law" = true)
    (k_law : PySem.W.keepIn K (.ref f_law) = true)
    (gl_MOST_OBLONGS : PySem.W.nsIn K mainGlobals "MOST_OBLONGS" = some (some (.int (8) t_MOST_OBLONGS)))
    (z_any : PySem.W.nsIn K mainGlobals "any" = some none)
    (z_bool : PySem.W.nsIn K mainGlobals "bool" = some none)
    (z_int : PySem.W.nsIn K mainGlobals "int" = some none)
    (z_isinstance : PySem.W.nsIn K mainGlobals "isinstance" = some none)
    (z_len : PySem.W.nsIn K mainGlobals "len" = some none)
    (z_list : PySem.W.nsIn K mainGlobals "list" = some none)
    (z_max : PySem.W.nsIn K mainGlobals "max" = some none)
    (z_min : PySem.W.nsIn K mainGlobals "min" = some none)
    (z_range : PySem.W.nsIn K mainGlobals "range" = some none)
    (z_tuple : PySem.W.nsIn K mainGlobals "tuple" = some none) :
    ∃ (fd : FuncData) (G : Gx), (∀ (s : Shared) (v : Value), BindsTo s fd ⟨[v], []⟩ [("_law_script", v)]) ∧ G.iA 0 = pt ∧ ∀ base : Heap, K.In base → base.Ns mainGlobals mg → PySem.W.CodeHd base cz pt → BM mg base → FnOk l.prog w K mg base CX0 32 fa fd ["_law_script"] (spTop G) := by
  have e := hfa.symm.trans (PySem.W.mg_of X Gn a_law)
  cases e
  have F_lay := zaau (st := s_lay) l_lay c_lay k_lay
  have B_lay : Binds K (PySem.W.fnOf "lay" "lay" (zaah s_lay) (zaag s_lay) (zaaa s_lay) .none kV_lay dc_lay pm_lay an_lay cd_lay ct_lay) ["oblongs", "width"] [] := .all fun us hl => match us, hl with | [_, _], _ => rfl
  have Fz7 := zaau (st := sz7) lz7 cz7 kz7
  have Bz7 : Binds K (PySem.W.fnOf "lowest_box" "lowest_box" (zaah sz7) (zaag sz7) (zaaa sz7) .none kVz7 dcz7 pmz7 anz7 cdz7 ctz7) ["oblong", "width", "laid"] [] := .all fun us hl => match us, hl with | [_, _, _], _ => rfl
  have Fz6 := zaau (st := sz6) lz6 cz6 kz6
  have Bz6 : Binds K (PySem.W.fnOf "is_free" "is_free" (zaah sz6) (zaag sz6) (zaaa sz6) .none kVz6 dcz6 pmz6 anz6 cdz6 ctz6) ["tried", "laid"] [] := .all fun us hl => match us, hl with | [_, _], _ => rfl
  have Fz8 := zaau (st := sz8) lz8 cz8 kz8
  have Bz8 : Binds K (PySem.W.fnOf "overlap" "overlap" (zaah sz8) (zaag sz8) (zaaa sz8) .none kVz8 dcz8 pmz8 anz8 cdz8 ctz8) ["one", "two"] [] := .all fun us hl => match us, hl with | [_, _], _ => rfl
  have Fz9 := zaau (st := sz9) lz9 cz9 kz9
  have Bz9 : Binds K (PySem.W.fnOf "right" "right" (zaah sz9) (zaag sz9) (zaaa sz9) .none kVz9 dcz9 pmz9 anz9 cdz9 ctz9) ["box"] [] := .all fun us hl => match us, hl with | [_], _ => rfl
  have F_top := zaau (st := s_top) l_top c_top k_top
  have B_top : Binds K (PySem.W.fnOf "top" "top" (zaah s_top) (zaag s_top) (zaaa s_top) .none kV_top dc_top pm_top an_top cd_top ct_top) ["box"] [] := .all fun us hl => match us, hl with | [_], _ => rfl
  have Fz5 := zaau (st := sz5) lz5 cz5 kz5
  have Bz5 : Binds K (PySem.W.fnOf "_law_whole" "_law_whole" (zaah sz5) (zaag sz5) (zaaa sz5) .none kVz5 dcz5 pmz5 anz5 cdz5 ctz5) ["_law_found"] [] := .all fun us hl => match us, hl with | [_], _ => rfl
  have Fz3 := zaau (st := sz3) lz3 cz3 kz3
  have Bz3 : Binds K (PySem.W.fnOf "_law_at" "_law_at" (zaah sz3) (zaag sz3) (zaaa sz3) .none kVz3 dcz3 pmz3 anz3 cdz3 ctz3) ["_law_script", "_law_k"] [] := .all fun us hl => match us, hl with | [_, _], _ => rfl
  have Fz4 := zaau (st := sz4) lz4 cz4 kz4
  have Bz4 : Binds K (PySem.W.fnOf "_law_stir" "_law_stir" (zaah sz4) (zaag sz4) (zaaa sz4) .none kVz4 dcz4 pmz4 anz4 cdz4 ctz4) ["_law_script", "_law_many"] [] := .all fun us hl => match us, hl with | [_, _], _ => rfl
  have F_law := zaau (st := s_law) l_law c_law k_law
  have B_law : Binds K (PySem.W.fnOf "law" "law" (zaah s_law) (zaag s_law) (zaaa s_law) .none kV_law dc_law pm_law an_law cd_law ct_law) ["_law_script"] [] := .all fun us hl => match us, hl with | [_], _ => rfl
  have hzz := hz _ _ _ (PySem.W.mg_of X Gn az7) (X _ _ lz7) rfl
  let T : Txt K mg := ⟨ez0, PySem.W.mg_of X Gn aez0, ez1, PySem.W.mg_of X Gn aez1, qez1, ez2, PySem.W.mg_of X Gn aez2, qez2, ⟨gaz0, gnz0, dcz0, caz0, hsp, htk, moz0, mbz0⟩, ⟨gaz1, gnz1, dcz1, caz1, hsp, htk, moz1, mbz1⟩, ⟨gaz2, gnz2, dcz2, caz2, hsp, htk, moz2, mbz2⟩, kiz0z1, kiz1z1, kiz2z1, kiz0z2, kiz1z2, kiz2z2, xoz0z0, xoz1z0, xoz2z0, f_lay, _, F_lay, B_lay, PySem.W.mg_of X Gn a_lay, k_lay, fz7, _, Fz7, Bz7, PySem.W.mg_of X Gn az7, kz7, fz6, _, Fz6, Bz6, PySem.W.mg_of X Gn az6, kz6, fz8, _, Fz8, Bz8, PySem.W.mg_of X Gn az8, kz8, fz9, _, Fz9, Bz9, PySem.W.mg_of X Gn az9, kz9, f_top, _, F_top, B_top, PySem.W.mg_of X Gn a_top, k_top, fz5, _, Fz5, Bz5, PySem.W.mg_of X Gn az5, kz5, fz3, _, Fz3, Bz3, PySem.W.mg_of X Gn az3, kz3, fz4, _, Fz4, Bz4, PySem.W.mg_of X Gn az4, kz4, fa, _, F_law, B_law, PySem.W.mg_of X Gn a_law, k_law, t_MOST_OBLONGS, PySem.W.mg_of X Gn gl_MOST_OBLONGS, PySem.W.mg_none_of X Gn z_any, PySem.W.mg_none_of X Gn z_bool, PySem.W.mg_none_of X Gn z_int, PySem.W.mg_none_of X Gn z_isinstance, PySem.W.mg_none_of X Gn z_len, PySem.W.mg_none_of X Gn z_list, PySem.W.mg_none_of X Gn z_max, PySem.W.mg_none_of X Gn z_min, PySem.W.mg_none_of X Gn z_range, PySem.W.mg_none_of X Gn z_tuple, pt, cz, hzz⟩
  exact ⟨PySem.W.fnOf "law" "law" (zaah s_law) (zaag s_law) (zaaa s_law) .none kV_law dc_law pm_law an_law cd_law ct_law, Gof T, fun s v => .of_eq rfl, rfl, fun base _ _ hC hB => fn_top (all (base := base) (P := l.prog) (w := w) T hC hB 16).o_law⟩
theorem zaa8 {G : Gx} {w : Wo} {H : Hp} : ∀ ns : List Int, Reps G w H (ns.map T.int) (ns.map V.int)
  | [] => rfl
  | n :: r => ⟨.int n, _, rfl, rfl, zaa8 r⟩
theorem walk (M : Math) {l : PySem.W.OpenLaw} {q : Program} {loose : List Str} {XP : (Str → Option Value) → Heap → Prop} {YP : World → Heap → Prop} {d : DefRec} {K : Params → PySem.W.Frag} (hn : l.most = some 63) (hdf : d.params.defaults = []) (hd0 : ((PyProof.Rows.recsOf q).any fun d => d.name == "lowest_box") = true)
    (hY : ∀ (w : World) (h : Heap), YP w h → (K w.params).In h) (hK : ∀ w : World, noLT (K w.params) = true)
    (F : ∀ (w : World) (mg : Str → Option Value) (fa cz pt : Addr) (h : Heap), (K w.params).In h → h.Ns mainGlobals mg → mg d.name = some (.ref fa) → (∀ (f : Addr) (o : Obj) (fd : FuncData), mg "lowest_box" = some (.ref f) → h.get? f = some o → o.data = .func fd → fd.code = .ref cz) →
      ∃ (fd : FuncData) (G : Gx), (∀ (s : Shared) (u : Value), BindsTo s fd ⟨[u], []⟩ [("_law_script", u)]) ∧ G.iA 0 = pt ∧ ∀ base : Heap, (K w.params).In base → base.Ns mainGlobals mg → PySem.W.CodeHd base cz pt → BM mg base → FnOk l.prog w (K w.params) mg base CX0 32 fa fd ["_law_script"] (spTop G)) :
    PySem.W.WalkO q loose XP YP l.row.toRowW d [] (fun f vs => PySem.call f vs) := by
  obtain ⟨d0, hm0, hn0⟩ := List.any_eq_true.mp hd0
  have hn0 : d0.name = "lowest_box" := by simpa using hn0
  refine walk_ofT (n := 63) (k := 32) (x := "_law_script") (sp := fun w Pt => fun vs H Q E => ∃ (a : Addr) (ns : List Int), vs = [.ref a] ∧ ns.length ≤ 63 ∧ Rd H a (.lst (ns.map V.int)) ∧ H Pt = some (.tbl #[]) ∧ a ≠ Pt ∧ ∀ H', Q (.bl true) H') hn (by decide) hdf ⟨rfl, by decide, by decide⟩ hm0 hY hK (fun w mg fa c0 Pt h a b c z => ?_) (fun w H a Pt ns hl h1 h2 h3 => ⟨a, ns, rfl, hl, h1, h2, h3, fun _ => rfl⟩)
  obtain ⟨fd, G, hb, hG, hF⟩ := F w mg fa c0 Pt h a b c (fun f o fd e1 => z f o fd (by rw [hn0]; exact e1))
  refine ⟨fd, hb, fun base kb nb hC hB => ?_⟩
  have hf := hF base kb nb hC hB
  refine ⟨fun vs H Q E ⟨a, ns, e, _⟩ => by subst e; rfl, fun A outer s H args us vs Q E hr e0 hb hv ⟨a, ns, e, hl, hR, hP, hne, hq⟩ => hf.run A outer s H args us vs Q E hr e0 hb hv ?_⟩
  subst e
  obtain ⟨st, e⟩ := M ns hl
  refine ⟨⟨1, fun _ => Pt, fun b => b = a⟩, [.tbl 0 ⟨27, 25, 27, 53⟩ ((("lowest_box" : Str) ++ ".<locals>.") ++ "<lambda>")], [.val (.lst (ns.map .int))], ⟨rfl, fun l m h1 h2 _ => by have h1 : l < 1 := h1; have h2 : m < 1 := h2; omega, fun l h z => hne (show Pt = a from z).symm, fun l c h => ?_, fun b hb => ⟨ns.map V.int, by have hb : b = a := hb; subst hb; exact hR⟩⟩, ⟨.ref a, [], rfl, ⟨a, _, rfl, rfl, hR, zaa8 ns⟩, rfl⟩, ?_⟩
  · cases l with
    | zero => cases h; exact ⟨hG.symm, #[], hP, True.intro, fun cv z => by cases z⟩
    | succ l => cases h
  · rw [e]
    exact ⟨fun _ w' H' v _ _ r => by cases r; exact hq _, fun z => by cases z⟩
end Pg
end IP
end
section
set_option Elab.async false
set_option linter.all false
set_option maxRecDepth 100000
namespace IP
open L2
theorem zabj {i j : Int} (h : i.natAbs < 2 ^ 64) : mulB i j = true := by
  unfold mulB
  simp [h]
section
variable {x f : Bool} {σ : Fr} {s : Sto} {i j : Int} {ts us : List T} {t a b c d : T} {r : R}
@[simp] theorem leave_ret : leave x false (.ret r s) = .ok r s := rfl
@[simp] theorem leave_retO : leave x true (.retO ts s) = .ok (.val (.lst ts)) s := rfl
@[simp] theorem leave_next : leave x false (.next σ s) = .ok (.val .non) s := rfl
@[simp] theorem onB_bl (b : Bool) (m n : Res R) : onB (.val (.bl b)) m n = if b = true then m else n := by cases b <;> rfl
@[simp] theorem onBS_bl (b : Bool) (m n : SR) : onBS (.val (.bl b)) m n = if b = true then m else n := by cases b <;> rfl
@[simp] theorem onI_int (g : Int → Res R) : onI (.val (.int i)) g = g i := rfl
@[simp] theorem onV_val (g : T → Res (List T)) : onV (.val t) g = g t := rfl
@[simp] theorem onL_lst (g : List T → Res R) : onL (.val (.lst ts)) g = g ts := rfl
@[simp] theorem onO_some {α β : Type} (v : α) (g : α → Res β) : onO (some v) g = g v := rfl
@[simp] theorem int_int : (R.val (.int i)).int? = some i := rfl
@[simp] theorem val_val : (R.val t).val? = some t := rfl
@[simp] theorem val_bor : (R.bor ts).val? = none := rfl
@[simp] theorem lst_lst : (R.val (.lst ts)).lst? = some ts := rfl
@[simp] theorem seq_lst : (R.val (.lst ts)).seq = some ts := rfl
@[simp] theorem seq_bor : (R.bor ts).seq = some ts := rfl
@[simp] theorem sq2_lst : (R.val (.lst ts)).sq2 = some ts := rfl
@[simp] theorem sq2_tup : (R.val (.tup ts)).sq2 = some ts := rfl
@[simp] theorem sq2_bor : (R.bor ts).sq2 = some ts := rfl
@[simp] theorem sq3_lst : (R.val (.lst ts)).sq3 = some ts := rfl
@[simp] theorem sq3_tup : (R.val (.tup ts)).sq3 = some ts := rfl
@[simp] theorem tru_bl (b : Bool) : tru (.val (.bl b)) = some b := rfl
@[simp] theorem tru_int : tru (.val (.int i)) = some (i != 0) := rfl
@[simp] theorem one_ok : one (.ok (.val t) s) = .ok (some t) s := rfl
@[simp] theorem st_ite {p : Prop} [Decidable p] (m n : Res R) (k : R → Sto → SR) : (if p then m else n).st σ k = if p then m.st σ k else n.st σ k := by split <;> rfl
@[simp] theorem bind_ite {α β : Type} {p : Prop} [Decidable p] (m n : Res α) (k : α → Sto → Res β) : (if p then m else n).bind k = if p then m.bind k else n.bind k := by split <;> rfl
@[simp] theorem leave_ite {p : Prop} [Decidable p] (m n : SR) : leave x f (if p then m else n) = if p then leave x f m else leave x f n := by split <;> rfl
@[simp] theorem sbind_ite {p : Prop} [Decidable p] (m n : SR) (k : Fr → Sto → SR) : (if p then m else n).bind k = if p then m.bind k else n.bind k := by split <;> rfl
@[simp] theorem unlock_ite {p : Prop} [Decidable p] (m n : SR) (i : Nat) : (if p then m else n).unlock i = if p then m.unlock i else n.unlock i := by split <;> rfl
@[simp] theorem unlock_ret (v : R) (i : Nat) : (SR.ret v s).unlock i = .ret v s := rfl
@[simp] theorem unlock_next (i : Nat) : (SR.next σ s).unlock i = .next (IP.unlock σ i) s := rfl
@[simp] theorem op_add : opR .add (.val (.int i)) (.val (.int j)) = some (.val (.int (i + j))) := rfl
@[simp] theorem op_sub : opR .sub (.val (.int i)) (.val (.int j)) = some (.val (.int (i - j))) := rfl
theorem op_mul (h : mulB i j = true) : opR .mul (.val (.int i)) (.val (.int j)) = some (.val (.int (i * j))) := by simp [opR, opI, h]
theorem op_mod (h : 0 < j) : opR .mod (.val (.int i)) (.val (.int j)) = some (.val (.int (Int.fmod i j))) := by simp [opR, opI, show j ≠ 0 by omega]
theorem big_64 : (2 : Nat) ^ 64 < big := by unfold big; decide +kernel
theorem zaed (h : 0 < j) (hb : j < 2 ^ 64) : opR .fdiv (.val (.int i)) (.val (.int j)) = some (.val (.int (Int.fdiv i j))) := by
  have : j.natAbs < big := Nat.lt_trans (by omega) big_64
  simp [opR, opI, show j ≠ 0 by omega, this]
@[simp] theorem cm_lt : cmpR .lt (.val (.int i)) (.val (.int j)) = some (decide (i < j)) := rfl
@[simp] theorem cm_le : cmpR .le (.val (.int i)) (.val (.int j)) = some (decide (i ≤ j)) := rfl
@[simp] theorem cm_gt : cmpR .gt (.val (.int i)) (.val (.int j)) = some (decide (j < i)) := rfl
@[simp] theorem cm_ge : cmpR .ge (.val (.int i)) (.val (.int j)) = some (decide (j ≤ i)) := rfl
@[simp] theorem cm_eq : cmpR .eq (.val a) (.val b) = eqD 8 a b := rfl
@[simp] theorem cm_ne : cmpR .ne (.val a) (.val b) = (eqD 8 a b).map (!·) := rfl
@[simp] theorem cm_isN : cmpR .isN r (.val .non) = some r.isNon := rfl
@[simp] theorem cm_notN : cmpR .notN r (.val .non) = some (!r.isNon) := rfl
@[simp] theorem eq_int : eqD 8 (.int i) (.int j) = some (i == j) := by simp [eqD]
@[simp] theorem sub_2a : subR (.val (.tup [a, b])) 0 = some a := rfl
@[simp] theorem sub_2b : subR (.val (.tup [a, b])) 1 = some b := rfl
theorem sub_at {n : Nat} (h : ts[n]? = some t) : subR (.val (.lst ts)) (n : Int) = some t := by
  have hl := (List.getElem?_eq_some_iff.mp h).1
  have h2 := (List.getElem?_eq_some_iff.mp h).2
  simp [subR, L2.atI, L2.ixN, hl, h2]
theorem sub_atB {n : Nat} (h : ts[n]? = some t) : subR (.bor ts) (n : Int) = some t := by
  have hl := (List.getElem?_eq_some_iff.mp h).1
  have h2 := (List.getElem?_eq_some_iff.mp h).2
  simp [subR, L2.atI, L2.ixN, hl, h2]
@[simp] theorem b1_len_lst : b1R .len (.val (.lst ts)) = some (.val (.int ts.length)) := rfl
@[simp] theorem b1_len_tup : b1R .len (.val (.tup ts)) = some (.val (.int ts.length)) := rfl
@[simp] theorem b1_len_bor : b1R .len (.bor ts) = some (.val (.int ts.length)) := rfl
@[simp] theorem b1_abs : b1R .abs (.val (.int i)) = some (.val (.int (if i < 0 then -i else i))) := rfl
@[simp] theorem b1_list : b1R .list (.val (.lst ts)) = some (.val (.lst ts)) := rfl
@[simp] theorem b1_sorted2 : b1R .sorted (.val (.lst [.int i, .int j])) = some (.val (.lst [.int (min i j), .int (max i j)])) := by
  by_cases h : j < i
  · simp [b1R, asInts, sortI, insI, h, show min i j = j by omega, show max i j = i by omega]
  · simp [b1R, asInts, sortI, insI, h, show min i j = i by omega, show max i j = j by omega]
@[simp] theorem b1_max2 : b1R .max (.val (.lst [.int i, .int j])) = some (.val (.int (max i j))) := by
  have h : b1R .max (.val (.lst [.int i, .int j])) = some (.val (.int (if j > i then j else i))) := rfl
  rw [h, show (if j > i then j else i) = max i j by split <;> omega]
@[simp] theorem b1_min2 : b1R .min (.val (.lst [.int i, .int j])) = some (.val (.int (min i j))) := by
  have h : b1R .min (.val (.lst [.int i, .int j])) = some (.val (.int (if j < i then j else i))) := rfl
  rw [h, show (if j < i then j else i) = min i j by split <;> omega]
@[simp] theorem sub_l2a : subR (.val (.lst [a, b])) 0 = some a := rfl
@[simp] theorem sub_l2b : subR (.val (.lst [a, b])) 1 = some b := rfl
end
theorem ex_for {C : Cf} {g : Tg} {it : E} {b : List S} {σ : Fr} {s s1 : Sto} {ts : List T} (h : ev C it .j σ s = .ok (.val (.lst ts)) s1) (hit : ∀ i, it ≠ .var i) : ex C (.for_ g it b) σ s = forL g (fun σ s => exs C b σ s) ts σ s1 := by
  have e : ex C (.for_ g it b) σ s = (ev C it .j σ s).st σ fun x s1 => onS x.lst? fun ts => forL g (fun σ s => exs C b σ s) ts σ s1 := by
    cases it <;> first | rfl | exact absurd rfl (hit _)
  rw [e, h]
  rfl
theorem lim_ge : 1000 ≤ lim := by decide
theorem lim_ge' : (1000 : Int) ≤ (lim : Int) := Int.ofNat_le.mpr lim_ge
theorem rng_a {j : Int} (h : j ≤ 1000) : decide (j ≤ (lim : Int)) = true := decide_eq_true (Int.le_trans h lim_ge')
theorem rng_b {n : Nat} (h : n ≤ 1000) : bnd (n : Int) = true := by
  unfold bnd
  simp
  omega
theorem ev_rng1' {C : Cf} {a : E} {σ : Fr} {s s1 : Sto} {j : Int} (h : ev C a .v σ s = .ok (.val (.int j)) s1) : ev C (.rng1 a) .j σ s = if bnd j && decide (j ≤ lim) then .ok (.val (.lst (rangeT 0 j))) s1 else .stuck := by
  unfold ev
  rw [h]
  rfl
theorem ite_t {α : Type} {b : Bool} {x y : α} (h : b = true) : (if b then x else y) = x := by rw [h]; rfl
theorem and_t {a b : Bool} (h : a = true) (h' : b = true) : (a && b) = true := by rw [h, h']; rfl
theorem ev_rng1 {C : Cf} {a : E} {σ : Fr} {s s1 : Sto} {n : Nat} (h : ev C a .v σ s = .ok (.val (.int (n : Int))) s1) (hn : n ≤ 1000) : ev C (.rng1 a) .j σ s = .ok (.val (.lst (rangeT 0 n))) s1 :=
  (ev_rng1' h).trans (ite_t (and_t (rng_b hn) (rng_a (Int.ofNat_le.mpr hn))))
theorem ex_ret {C : Cf} {e : E} {σ : Fr} {s s1 : Sto} {r : R} (h : ev C e .v σ s = .ok r s1) : ex C (.ret e) σ s = .ret r s1 := by unfold ex; rw [h]; rfl
theorem ex_asg {C : Cf} {e : E} {i : Nat} {σ : Fr} {s s1 : Sto} {t : T} (h : ev C e .v σ s = .ok (.val t) s1) : ex C (.asg i e) σ s = .next (put σ i t) s1 := by unfold ex; rw [h]; rfl
theorem ev_comp {C : Cf} {e it : E} {g : Tg} {σ : Fr} {s s1 s2 : Sto} {ts q : List T} (h : ev C it .i σ s = .ok (.val (.lst ts)) s1) (h2 : mapRes (fun t s => onO (bindTg σ g t) fun σ' => one (ev C e .v σ' s)) ts s1 = .ok q s2) : ev C (.comp e g it) .v σ s = .ok (.val (.lst q)) s2 := by
  unfold ev
  rw [h]
  show (mapRes (fun t s => onO (bindTg σ g t) fun σ' => one (ev C e .v σ' s)) ts s1).bind _ = _
  rw [h2]
  rfl
theorem zabw {C : Cf} {a : S} {r : List S} {σ : Fr} {s : Sto} : exs C (a :: r) σ s = (ex C a σ s).bind fun σ1 s1 => exs C r σ1 s1 := by simp only [exs]
theorem zaac {C : Cf} {a : S} {r : List S} {σ σ1 : Fr} {s s1 : Sto} (h : ex C a σ s = .next σ1 s1) : exs C (a :: r) σ s = exs C r σ1 s1 := by rw [zabw, h]; rfl
theorem zab6 {C : Cf} {a : S} {r : List S} {σ : Fr} {s s1 : Sto} {v : R} (h : ex C a σ s = .ret v s1) : exs C (a :: r) σ s = .ret v s1 := by rw [zabw, h]; rfl
@[simp] theorem rngM_j (m : Res R) : rngM .j m = m := rfl
@[simp] theorem rngM_i (m : Res R) : rngM .i m = m := rfl
section
variable {g : Tg} {body : Fr → Sto → SR} {s : Sto}
theorem zact (I : Nat → Fr → Prop) : ∀ (ts : List T) (n : Nat) (σ : Fr), I n σ → (∀ (m : Nat) (t : T) (σ : Fr), ts[m]? = some t → I (n + m) σ → ∃ σ1 σ2, bindTg σ g t = some σ1 ∧ body σ1 s = .next σ2 s ∧ I (n + m + 1) σ2) →
    ∃ σ', forL g body ts σ s = .next σ' s ∧ I (n + ts.length) σ'
  | [], n, σ, h, _ => ⟨σ, rfl, h⟩
  | t :: ts, n, σ, h, st => by
    obtain ⟨σ1, σ2, e1, e2, e3⟩ := st 0 t σ rfl h
    obtain ⟨σ', e4, e5⟩ := zact I ts (n + 1) σ2 e3 fun m u σ em hm => by
      obtain ⟨a, b, c1, c2, c3⟩ := st (m + 1) u σ (by simpa using em) (by rw [show n + (m + 1) = n + 1 + m by omega]; exact hm)
      exact ⟨a, b, c1, c2, by rw [show n + 1 + m + 1 = n + (m + 1) + 1 by omega]; exact c3⟩
    refine ⟨σ', ?_, by rw [List.length_cons, show n + (ts.length + 1) = n + 1 + ts.length by omega]; exact e5⟩
    show onS (bindTg σ g t) _ = _
    rw [e1]
    show (body σ1 s).bind _ = _
    rw [e2]
    exact e4
theorem zab8 {i j : Int} {n : Nat} {t : T} (h : (rangeT i j)[n]? = some t) : t = .int (i + n) ∧ n < (j - i).toNat := by
  unfold rangeT at h
  rw [List.getElem?_map] at h
  cases e : (List.range (j - i).toNat)[n]? with
  | none => rw [e] at h; cases h
  | some m =>
    rw [e] at h
    have hn := (List.getElem?_eq_some_iff.mp e).1
    have := (List.getElem?_eq_some_iff.mp e).2
    simp at this hn
    subst this
    simp at h
    exact ⟨h.symm, by omega⟩
theorem zacd (i j : Int) : (rangeT i j).length = (j - i).toNat := by unfold rangeT; simp
end
end IP
end
section
set_option Elab.async false
set_option linter.all false
set_option maxRecDepth 100000
namespace IP
@[simp] theorem z_exs_1 : type_of% @exs.eq_1 := @exs.eq_1
@[simp] theorem z_exs_2 : type_of% @exs.eq_2 := @exs.eq_2
@[simp] theorem z_ex_1 : type_of% @ex.eq_1 := @ex.eq_1
@[simp] theorem z_ex_3 : type_of% @ex.eq_3 := @ex.eq_3
@[simp] theorem z_ex_4 : type_of% @ex.eq_4 := @ex.eq_4
@[simp] theorem z_ex_6 : type_of% @ex.eq_6 := @ex.eq_6
@[simp] theorem z_ex_8 : type_of% @ex.eq_8 := @ex.eq_8
@[simp] theorem z_ex_9 : type_of% @ex.eq_9 := @ex.eq_9
@[simp] theorem z_ex_12 : type_of% @ex.eq_12 := @ex.eq_12
@[simp] theorem z_ex_13 : type_of% @ex.eq_13 := @ex.eq_13
@[simp] theorem z_ex_17 : type_of% @ex.eq_17 := @ex.eq_17
@[simp] theorem z_ex_18 : type_of% @ex.eq_18 := @ex.eq_18
@[simp] theorem z_ev_1 : type_of% @ev.eq_1 := @ev.eq_1
@[simp] theorem z_ev_2 : type_of% @ev.eq_2 := @ev.eq_2
@[simp] theorem z_ev_3 : type_of% @ev.eq_3 := @ev.eq_3
@[simp] theorem z_ev_4 : type_of% @ev.eq_4 := @ev.eq_4
@[simp] theorem z_ev_6 : type_of% @ev.eq_6 := @ev.eq_6
@[simp] theorem z_ev_7 : type_of% @ev.eq_7 := @ev.eq_7
@[simp] theorem z_ev_8 : type_of% @ev.eq_8 := @ev.eq_8
@[simp] theorem z_ev_9 : type_of% @ev.eq_9 := @ev.eq_9
@[simp] theorem z_ev_10 : type_of% @ev.eq_10 := @ev.eq_10
@[simp] theorem z_ev_11 : type_of% @ev.eq_11 := @ev.eq_11
@[simp] theorem z_ev_12 : type_of% @ev.eq_12 := @ev.eq_12
@[simp] theorem z_ev_14 : type_of% @ev.eq_14 := @ev.eq_14
@[simp] theorem z_ev_15 : type_of% @ev.eq_15 := @ev.eq_15
@[simp] theorem z_ev_16 : type_of% @ev.eq_16 := @ev.eq_16
@[simp] theorem z_ev_21 : type_of% @ev.eq_21 := @ev.eq_21
@[simp] theorem z_ev_26 : type_of% @ev.eq_26 := @ev.eq_26
@[simp] theorem z_ev_28 : type_of% @ev.eq_28 := @ev.eq_28
@[simp] theorem z_ev_29 : type_of% @ev.eq_29 := @ev.eq_29
@[simp] theorem z_ev_30 : type_of% @ev.eq_30 := @ev.eq_30
@[simp] theorem z_evs_1 : type_of% @evs.eq_1 := @evs.eq_1
@[simp] theorem z_evs_2 : type_of% @evs.eq_2 := @evs.eq_2
@[simp] theorem z_evr_1 : type_of% @evr.eq_1 := @evr.eq_1
@[simp] theorem z_evr_2 : type_of% @evr.eq_2 := @evr.eq_2
@[simp] theorem z_enter_1 : type_of% @enter.eq_1 := @enter.eq_1
@[simp] theorem z_ofR_1 : type_of% @ofR.eq_1 := @ofR.eq_1
@[simp] theorem z_ofR_2 : type_of% @ofR.eq_2 := @ofR.eq_2
@[simp] theorem z_look_1 : type_of% @look.eq_1 := @look.eq_1
@[simp] theorem z_put_1 : type_of% @put.eq_1 := @put.eq_1
section
variable {x f : Bool} {σ : Fr} {s : Sto} {i j : Int} {ts us : List T} {t a b c : T} {r : R} {l d k : Nat} {sub : Nat → Nat → Bool} {fs : List (Option T)}
@[simp] theorem dr_non : (R.val .non).dr s = .val .non := rfl
@[simp] theorem dr_bl (b : Bool) : (R.val (.bl b)).dr s = .val (.bl b) := rfl
@[simp] theorem dr_int : (R.val (.int i)).dr s = .val (.int i) := rfl
@[simp] theorem dr_tup : (R.val (.tup ts)).dr s = .val (.tup ts) := rfl
@[simp] theorem dr_lst : (R.val (.lst ts)).dr s = .val (.lst ts) := rfl
@[simp] theorem dr_exc : (R.val (.exc d)).dr s = .val (.exc d) := rfl
@[simp] theorem dr_bor : (R.bor ts).dr s = .bor ts := rfl
@[simp] theorem isx_exc : isiX sub (.val (.exc d)) (.cls k) = some (sub d k) := rfl
@[simp] theorem isx_int_int : isiX sub (.val (.int i)) .int = some true := rfl
@[simp] theorem isx_int_bool : isiX sub (.val (.int i)) .bool = some false := rfl
@[simp] theorem isx_tup_tup : isiX sub (.val (.tup ts)) .tuple = some true := rfl
@[simp] theorem isx_lst_lst : isiX sub (.val (.lst ts)) .list = some true := rfl
@[simp] theorem isx_bor_lst : isiX sub (.bor ts) .list = some true := rfl
@[simp] theorem leave_excX : leave true f (.exc d σ s) = .exc d s := rfl
@[simp] theorem nox_next : (SR.next σ s).nox = .next σ s := rfl
@[simp] theorem nox_ret : (SR.ret r s).nox = .ret r s := rfl
@[simp] theorem onN_non (m : Res R) : onN (.val .non) m = m := rfl
@[simp] theorem tup_tup : (R.val (.tup ts)).tup? = some ts := rfl
@[simp] theorem b1_int_bl (b : Bool) : b1R .int (.val (.bl b)) = some (.val (.int (if b then 1 else 0))) := rfl
@[simp] theorem b1_int_int : b1R .int (.val (.int i)) = some (.val (.int i)) := rfl
@[simp] theorem b1_list_bor : b1R .list (.bor ts) = some (.val (.lst ts)) := rfl
@[simp] theorem b1_tuple_bor : b1R .tuple (.bor ts) = some (.val (.tup ts)) := rfl
@[simp] theorem b1_tuple_lst : b1R .tuple (.val (.lst ts)) = some (.val (.tup ts)) := rfl
theorem zabr : ∀ bs : List Bool, zaal (bs.map T.bl) = some bs
  | [] => rfl
  | b :: bs => by simp [zaal, zabr bs]
theorem b1_any (bs : List Bool) : b1R .any (.val (.lst (bs.map .bl))) = some (.val (.bl (bs.any id))) := by simp [b1R, zabr]
theorem zaat {C : Cf} {e it : E} {i : Nat} {α : Type} (xs : List α) (g : α → T) (f : α → T) (ha : ev C it .i σ s = .ok (.val (.lst (xs.map g))) s)
    (h : ∀ x ∈ xs, ev C e .v (put σ i (g x)) s = .ok (.val (f x)) s) : ev C (.comp e (.one i) it) .v σ s = .ok (.val (.lst (xs.map f))) s := by
  refine ev_comp ha ?_
  clear ha
  induction xs with
  | nil => rfl
  | cons x xs ih =>
    have h0 := h x (by simp)
    have h1 := ih fun y hy => h y (by simp [hy])
    rw [List.map_cons, List.map_cons]
    unfold mapRes
    rw [show onO (bindTg σ (.one i) (g x)) (fun σ' => one (ev C e .v σ' s)) = .ok (some (f x)) s by show one (ev C e .v (put σ i (g x)) s) = _; rw [h0]; rfl]
    simp only [Res.bind_ok]
    rw [h1]
    rfl
end
theorem ev_b1 {C : Cf} {e : E} {f : Bi} {σ : Fr} {s s1 : Sto} {r r' : R} (h : ev C e .v σ s = .ok r s1) (hb : b1R f (r.dr s1) = some r') : ev C (.b1 f e) .v σ s = .ok r' s1 := by
  rw [show ev C (.b1 f e) .v σ s = (ev C e .v σ s).bind fun x s1 => .of (b1R f (x.dr s1)) s1 from by simp only [ev, fin_v], h]
  simp [hb]
theorem ev_any {C : Cf} {e : E} {σ : Fr} {s s1 : Sto} {α : Type} {xs : List α} {f : α → Bool} (h : ev C e .v σ s = .ok (.val (.lst (xs.map fun n => .bl (f n)))) s1) : ev C (.b1 .any e) .v σ s = .ok (.val (.bl (xs.any f))) s1 := by
  refine ev_b1 h ?_
  have hb := b1_any (xs.map f)
  rw [List.map_map] at hb
  rw [dr_lst]
  refine hb.trans ?_
  simp [List.any_map]
@[simp] theorem eq_bl (a b : Bool) : eqD 8 (.bl a) (.bl b) = some (a == b) := by simp [eqD]
theorem zaap {fs : List Fn} {sub : Nat → Nat → Bool} {k f : Nat} {F : Fn} {rs : List R} {s : Sto} (hF : fs[f]? = some F) (hl : rs.length = F.pars) : run true fs sub whileL (k + 1) f rs s = leave true F.fr (exs (cfX fs sub k) F.body (enter F rs) s) := by
  conv => lhs; unfold run
  rw [hF]
  exact if_pos hl
theorem zadz {C : Cf} {a : S} {r : List S} {σ σ1 : Fr} {s s1 : Sto} {d : Nat} (h : ex C a σ s = .exc d σ1 s1) : exs C (a :: r) σ s = .exc d σ1 s1 := by rw [zabw, h]; rfl
theorem ex_try_ok {C : Cf} {b h : List S} {c : Nat} {nm : Option Nat} {σ σ1 : Fr} {s s1 : Sto} (e : exs C b σ s = .next σ1 s1) : ex C (.try_ b c nm h) σ s = .next σ1 s1 := by simp [e]
theorem zacb {C : Cf} {b h : List S} {c d i : Nat} {σ σ1 σ2 : Fr} {s s1 s2 : Sto} (e : exs C b σ s = .exc d σ1 s1) (hs : C.sub d c = true) (e2 : exs C h (put σ1 i (.exc d)) s1 = .next σ2 s2) : ex C (.try_ b c (some i) h) σ s = .next (σ2.set i none) s2 := by
  rw [show ex C (.try_ b c (some i) h) σ s = _ from ex.eq_18 ..]
  rw [e]
  simp only [hs, if_true]
  rw [e2]
  rfl
end IP
end
section
namespace LayM
structure Box where
  x : Int
  y : Int
  w : Int
  h : Int
def over (a b : Box) : Prop := ¬ (a.x + a.w ≤ b.x ∨ b.x + b.w ≤ a.x) ∧ ¬ (a.y + a.h ≤ b.y ∨ b.y + b.h ≤ a.y)
def Free (t : Box) (l : List Box) : Prop := ∀ b ∈ l, ¬ over t b
theorem left_stop (w h y W : Int) (l : List Box) : ∀ (n : Nat) (x : Int), 0 ≤ x → x ≤ n → Free ⟨x, y, w, h⟩ l →
    ∃ x', 0 ≤ x' ∧ x' ≤ x ∧ Free ⟨x', y, w, h⟩ l ∧ (x' = 0 ∨ ∃ b ∈ l, x' = b.x + b.w) := by
  intro n
  induction n with
  | zero => intro x h0 h1 hf; exact ⟨x, h0, by omega, hf, Or.inl (by omega)⟩
  | succ n ih =>
    intro x h0 h1 hf
    by_cases hx : x = 0
    · exact ⟨x, h0, by omega, hf, Or.inl hx⟩
    · by_cases hl : Free ⟨x - 1, y, w, h⟩ l
      · obtain ⟨x', a, b, c, d⟩ := ih (x - 1) (by omega) (by omega) hl
        exact ⟨x', a, by omega, c, d⟩
      · refine ⟨x, h0, by omega, hf, Or.inr ?_⟩
        have : ∃ b ∈ l, over ⟨x - 1, y, w, h⟩ b := by
          apply Classical.byContradiction
          intro hn
          exact hl fun b hb ho => hn ⟨b, hb, ho⟩
        obtain ⟨b, hb, ho⟩ := this
        have hnb := hf b hb
        refine ⟨b, hb, ?_⟩
        unfold over at ho hnb
        simp only at ho hnb
        omega
theorem down_stop (w h x : Int) (l : List Box) : ∀ (n : Nat) (y : Int), 0 ≤ y → y ≤ n → Free ⟨x, y, w, h⟩ l →
    ∃ y', 0 ≤ y' ∧ y' ≤ y ∧ Free ⟨x, y', w, h⟩ l ∧ (y' = 0 ∨ ∃ b ∈ l, y' = b.y + b.h) := by
  intro n
  induction n with
  | zero => intro y h0 h1 hf; exact ⟨y, h0, by omega, hf, Or.inl (by omega)⟩
  | succ n ih =>
    intro y h0 h1 hf
    by_cases hy : y = 0
    · exact ⟨y, h0, by omega, hf, Or.inl hy⟩
    · by_cases hl : Free ⟨x, y - 1, w, h⟩ l
      · obtain ⟨y', a, b, c, d⟩ := ih (y - 1) (by omega) (by omega) hl
        exact ⟨y', a, by omega, c, d⟩
      · refine ⟨y, h0, by omega, hf, Or.inr ?_⟩
        have : ∃ b ∈ l, over ⟨x, y - 1, w, h⟩ b := by
          apply Classical.byContradiction
          intro hn
          exact hl fun b hb ho => hn ⟨b, hb, ho⟩
        obtain ⟨b, hb, ho⟩ := this
        have hnb := hf b hb
        refine ⟨b, hb, ?_⟩
        unfold over at ho hnb
        simp only at ho hnb
        omega
def OnY (l : List Box) (y : Int) : Prop := y = 0 ∨ ∃ b ∈ l, y = b.y + b.h
def OnX (l : List Box) (x : Int) : Prop := x = 0 ∨ ∃ b ∈ l, x = b.x + b.w
def Ahead (x y x' y' : Int) : Prop := y < y' ∨ (y = y' ∧ x < x')
theorem zabq {w h W x y : Int} {l : List Box} (hx : 0 ≤ x) (hy : 0 ≤ y) (hw : x + w ≤ W) (hf : Free ⟨x, y, w, h⟩ l) :
    ∃ x' y', 0 ≤ x' ∧ 0 ≤ y' ∧ x' + w ≤ W ∧ Free ⟨x', y', w, h⟩ l ∧ OnX l x' ∧ OnY l y' ∧ ¬ Ahead x y x' y' := by
  obtain ⟨y', a1, a2, a3, a4⟩ := down_stop w h x l y.toNat y hy (by omega) hf
  obtain ⟨x', b1, b2, b3, b4⟩ := left_stop w h y' W l x.toNat x hx (by omega) a3
  exact ⟨x', y', b1, a1, by omega, b3, b4, a4, by unfold Ahead; omega⟩
theorem top_bound (l : List Box) : ∃ Y, 0 ≤ Y ∧ ∀ b ∈ l, b.y + b.h ≤ Y := by
  induction l with
  | nil => exact ⟨0, by omega, fun _ h => nomatch h⟩
  | cons c l ih =>
    obtain ⟨Y, h0, hY⟩ := ih
    refine ⟨max Y (c.y + c.h), by omega, fun b hb => ?_⟩
    rcases List.mem_cons.mp hb with rfl | hb
    · omega
    · have := hY b hb; omega
theorem some_free {w h W : Int} (l : List Box) (hw : w ≤ W) : ∃ x' y', 0 ≤ x' ∧ 0 ≤ y' ∧ x' + w ≤ W ∧ Free ⟨x', y', w, h⟩ l ∧ OnX l x' ∧ OnY l y' := by
  obtain ⟨Y, h0, hY⟩ := top_bound l
  have hf : Free ⟨0, Y, w, h⟩ l := by
    intro b hb ho
    have := hY b hb
    unfold over at ho
    simp only at ho
    omega
  obtain ⟨x', y', a, b, c, d, e, f, _⟩ := zabq (W := W) (Int.le_refl 0) h0 (by omega) hf
  exact ⟨x', y', a, b, c, d, e, f⟩
end LayM
end
section
set_option linter.all false
set_option maxRecDepth 100000
set_option maxHeartbeats 0
namespace IP
namespace Pg
open L2 LayM
variable {k : Nat} {s : Sto}
def bx (b : Box) : T := .tup [.int b.x, .int b.y, .int b.w, .int b.h]
def ob (p : Int × Int) : T := .tup [.int p.1, .int p.2]
@[simp] theorem dr_bx (b : Box) (s : Sto) : (R.val (bx b)).dr s = .val (bx b) := rfl
@[simp] theorem dr_ob (b : Int × Int) (s : Sto) : (R.val (ob b)).dr s = .val (ob b) := rfl
@[simp] theorem sub_bx0 (b : Box) : subR (.val (bx b)) 0 = some (.int b.x) := rfl
@[simp] theorem sub_bx1 (b : Box) : subR (.val (bx b)) 1 = some (.int b.y) := rfl
@[simp] theorem sub_bx2 (b : Box) : subR (.val (bx b)) 2 = some (.int b.w) := rfl
@[simp] theorem sub_bx3 (b : Box) : subR (.val (bx b)) 3 = some (.int b.h) := rfl
@[simp] theorem sub_ob0 (b : Int × Int) : subR (.val (ob b)) 0 = some (.int b.1) := rfl
@[simp] theorem sub_ob1 (b : Int × Int) : subR (.val (ob b)) 1 = some (.int b.2) := rfl
theorem cf_of {m n f : Nat} {rs : List R} {s : Sto} {r : Res R} (h : run true fns sub0 whileL n f rs s = r) (e : n = m) : (cfX fns sub0 m).cf f rs s = r := by
  subst e
  exact h
theorem r_right (b : Box) : run true fns sub0 whileL (k + 1) 4 [.val (bx b)] s = .ok (.val (.int (b.x + b.w))) s := by
  rw [zaap (F := Fz9) rfl rfl]
  simp [bz9]
theorem r_top (b : Box) : run true fns sub0 whileL (k + 1) 5 [.val (bx b)] s = .ok (.val (.int (b.y + b.h))) s := by
  rw [zaap (F := F_top) rfl rfl]
  simp [b_top]
def overB (a b : Box) : Bool := !(decide (a.x + a.w ≤ b.x) || decide (b.x + b.w ≤ a.x)) && !(decide (a.y + a.h ≤ b.y) || decide (b.y + b.h ≤ a.y))
theorem zadb (a b : Box) : overB a b = true ↔ over a b := by
  unfold overB over
  simp
theorem over_any {C : Cf} {a b : Box} (h4 : ∀ b : Box, C.cf 4 [.val (bx b)] s = .ok (.val (.int (b.x + b.w))) s) (h5 : ∀ b : Box, C.cf 5 [.val (bx b)] s = .ok (.val (.int (b.y + b.h))) s) :
    exs C bz8 [some (.val (bx a)), some (.val (bx b)), none, none] s = .ret (.val (.bl (overB a b))) s := by
  have a4 := h4 a
  have b4 := h4 b
  have a5 := h5 a
  have b5 := h5 b
  unfold overB
  refine (zaac (σ1 := [some (.val (bx a)), some (.val (bx b)), some (.val (.bl (decide (a.x + a.w ≤ b.x) || decide (b.x + b.w ≤ a.x)))), none]) (s1 := s) (by
    by_cases h : a.x + a.w ≤ b.x
    · simp [a4, b4, h]
    · simp [a4, b4, h])).trans ?_
  refine (zaac (σ1 := [some (.val (bx a)), some (.val (bx b)), some (.val (.bl (decide (a.x + a.w ≤ b.x) || decide (b.x + b.w ≤ a.x)))), some (.val (.bl (decide (a.y + a.h ≤ b.y) || decide (b.y + b.h ≤ a.y))))]) (s1 := s) (by
    by_cases h : a.y + a.h ≤ b.y
    · simp [a5, b5, h]
    · simp [a5, b5, h])).trans ?_
  generalize (decide (a.x + a.w ≤ b.x) || decide (b.x + b.w ≤ a.x)) = u
  generalize (decide (a.y + a.h ≤ b.y) || decide (b.y + b.h ≤ a.y)) = v
  cases u <;> cases v <;> simp
theorem r_over (a b : Box) : run true fns sub0 whileL (k + 2) 3 [.val (bx a), .val (bx b)] s = .ok (.val (.bl (overB a b))) s :=
  (zaap (F := Fz8) rfl rfl).trans (congrArg (leave true false) (over_any (C := cfX fns sub0 (k + 1)) (fun b => cf_of (r_right (k := k) b) rfl) (fun b => cf_of (r_top (k := k) b) rfl)))
def freeB (t : Box) (l : List Box) : Bool := !l.any (overB t)
theorem zac5 (t : Box) (l : List Box) : freeB t l = true ↔ Free t l := by
  unfold freeB Free
  simp only [Bool.not_eq_true', List.any_eq_false]
  constructor
  · intro h b hb ho
    exact h b hb ((zadb t b).mpr ho)
  · intro h b hb ho
    exact h b hb ((zadb t b).mp ho)
theorem free_any {C : Cf} {t : Box} {l : List Box} (h3 : ∀ a b : Box, C.cf 3 [.val (bx a), .val (bx b)] s = .ok (.val (.bl (overB a b))) s) :
    exs C bz6 [some (.val (bx t)), some (.bor (l.map bx)), none] s = .ret (.val (.bl (freeB t l))) s := by
  have hc : ev C (.comp ez6_C0 (.one 2) (.var 1)) .v [some (.val (bx t)), some (.bor (l.map bx)), none] s = .ok (.val (.lst (l.map fun b => .bl (overB t b)))) s := by
    refine zaat (i := 2) l bx (fun b => .bl (overB t b)) (by simp) fun b hb => ?_
    have := h3 t b
    simp [this]
  have ha := ev_any hc
  refine zab6 (ex_ret ?_)
  unfold freeB
  generalize l.any (overB t) = u at ha
  cases u <;> simp [ha]
theorem r_free (t : Box) (l : List Box) : run true fns sub0 whileL (k + 3) 2 [.val (bx t), .bor (l.map bx)] s = .ok (.val (.bl (freeB t l))) s :=
  (zaap (F := Fz6) rfl rfl).trans (congrArg (leave true false) (free_any (C := cfX fns sub0 (k + 2)) (fun a b => cf_of (r_over (k := k) a b) rfl)))
end Pg
end IP
end
section
set_option linter.all false
set_option maxRecDepth 100000
set_option maxHeartbeats 0
namespace IP
namespace Pg
open L2 LayM
variable {k : Nat} {s : Sto}
theorem ev_addj {C : Cf} {a b : E} {σ : Fr} {s s1 s2 : Sto} {x y : R} {ts : List T} (h1 : ev C a .v σ s = .ok x s1) (h2 : ev C b .v σ s1 = .ok y s2) (h3 : opR .add x y = some (.val (.lst ts))) : ev C (.bin .add a b) .j σ s = .ok (.val (.lst ts)) s2 := by
  rw [ev.eq_4, h1]
  simp only [Res.bind_ok, h2, h3, fin_j, Res.of_some, sq3_lst, Option.map_some]
theorem zac9 {a b : List T} (h : a.length + b.length ≤ 1000) : opR .add (.val (.lst a)) (.val (.lst b)) = some (.val (.lst (a ++ b))) := by
  have : a.length + b.length ≤ lim := Nat.le_trans h lim_ge
  simp [opR, this]
def okB (W : Int) (l : List Box) (b : Box) : Bool := decide (b.x + b.w ≤ W) && freeB b l
abbrev g1 (w h W : Int) (l : List Box) (free : List Box) (v4 v5 v6 : Option B) : Fr := [some (.val (ob (w, h))), some (.val (.int W)), some (.bor (l.map bx)), some (.own (free.map bx)), v4, v5, v6, none, none]
structure Has1 (C : Cf) (s : Sto) : Prop where
  h4 : ∀ b : Box, C.cf 4 [.val (bx b)] s = .ok (.val (.int (b.x + b.w))) s
  h5 : ∀ b : Box, C.cf 5 [.val (bx b)] s = .ok (.val (.int (b.y + b.h))) s
  h2 : ∀ (t : Box) (l : List Box), C.cf 2 [.val (bx t), .bor (l.map bx)] s = .ok (.val (.bl (freeB t l))) s
section
variable {C : Cf} (hC : Has1 C s) {w h W : Int} {l : List Box}
include hC
theorem xturn {y x : Int} {free : List Box} {v6 : Option B} (hf : free.length < 900) :
    ∃ v6', exs C bz7_L0 (g1 w h W l free (some (.val (.int y))) (some (.val (.int x))) v6) s = .next (g1 w h W l (free ++ [⟨x, y, w, h⟩].filter (okB W l)) (some (.val (.int y))) (some (.val (.int x))) v6') s := by
  refine ⟨some (.val (bx ⟨x, y, w, h⟩)), ?_⟩
  have e4 := hC.h4 ⟨x, y, w, h⟩
  have e2 := hC.h2 ⟨x, y, w, h⟩ l
  have hlim : free.length < lim := Nat.lt_of_lt_of_le (show free.length < 1000 by omega) lim_ge
  refine (zaac (σ1 := g1 w h W l free (some (.val (.int y))) (some (.val (.int x))) (some (.val (bx ⟨x, y, w, h⟩)))) (s1 := s) (by simp [bx])).trans ?_
  have hok : okB W l ⟨x, y, w, h⟩ = (decide (x + w ≤ W) && freeB ⟨x, y, w, h⟩ l) := rfl
  generalize freeB ⟨x, y, w, h⟩ l = u at e2 hok
  generalize hb : (⟨x, y, w, h⟩ : Box) = b at *
  have hbx : b.x + b.w = x + w := by rw [← hb]
  rw [hbx] at e4
  by_cases h1 : x + w ≤ W
  · cases u
    · simp [e4, e2, h1, List.filter, hok]
    · simp [e4, e2, h1, List.filter, hok, ownAt, setOwn, hlim]
  · simp [e4, h1, List.filter, hok]
theorem xloop {y : Int} : ∀ (xs : List Int) (free : List Box) (v5 v6 : Option B), free.length + xs.length ≤ 900 → ∃ v5' v6', forL (.one 5) (fun σ s => exs C bz7_L0 σ s) (xs.map .int) (g1 w h W l free (some (.val (.int y))) v5 v6) s = .next (g1 w h W l (free ++ (xs.map fun x => (⟨x, y, w, h⟩ : Box)).filter (okB W l)) (some (.val (.int y))) v5' v6') s
  | [], free, v5, v6, _ => ⟨v5, v6, by simp [forL]⟩
  | x :: xs, free, v5, v6, hl => by
    obtain ⟨v6', e⟩ := xturn hC (w := w) (h := h) (W := W) (l := l) (y := y) (x := x) (v6 := v6) (free := free) (by simp at hl; omega)
    have hlen : ([⟨x, y, w, h⟩].filter (okB W l)).length ≤ 1 := List.length_filter_le _ _
    obtain ⟨a, b, e2⟩ := xloop xs (free ++ [⟨x, y, w, h⟩].filter (okB W l)) (some (.val (.int x))) v6' (by simp only [List.length_append, List.length_cons] at hl ⊢; omega)
    refine ⟨a, b, ?_⟩
    show (exs C bz7_L0 (g1 w h W l free (some (.val (.int y))) (some (.val (.int x))) v6) s).bind _ = _
    rw [e]
    show forL (.one 5) (fun σ s => exs C bz7_L0 σ s) (xs.map .int) (g1 w h W l (free ++ [⟨x, y, w, h⟩].filter (okB W l)) (some (.val (.int y))) (some (.val (.int x))) v6') s = _
    rw [e2, List.append_assoc, ← List.filter_append]
    rfl
theorem xlist {free : List Box} {v4 v5 v6 : Option B} (hl : l.length ≤ 8) : ev C (.bin .add (.lst [(.cst (.int 0))]) (.comp ez7_C1 (.one 8) (.var 2))) .j (g1 w h W l free v4 v5 v6) s = .ok (.val (.lst ((0 :: l.map fun b => b.x + b.w).map .int))) s := by
  have hc : ev C (.comp ez7_C1 (.one 8) (.var 2)) .v (g1 w h W l free v4 v5 v6) s = .ok (.val (.lst (l.map fun b => .int (b.x + b.w)))) s := by
    refine zaat (i := 8) l bx (fun b => .int (b.x + b.w)) (by simp) fun b hb => ?_
    have := hC.h4 b
    simp [this]
  have e0 : ev C (.lst [(.cst (.int 0))]) .v (g1 w h W l free v4 v5 v6) s = .ok (.val (.lst [.int 0])) s := by simp
  refine ev_addj e0 hc ?_
  rw [zac9 (by simp; omega)]
  simp
theorem ylist (hl : l.length ≤ 8) {free : List Box} : ev C (.bin .add (.lst [(.cst (.int 0))]) (.comp ez7_C0 (.one 7) (.var 2))) .j (g1 w h W l free none none none) s = .ok (.val (.lst ((0 :: l.map fun b => b.y + b.h).map .int))) s := by
  have hc : ev C (.comp ez7_C0 (.one 7) (.var 2)) .v (g1 w h W l free none none none) s = .ok (.val (.lst (l.map fun b => .int (b.y + b.h)))) s := by
    refine zaat (i := 7) l bx (fun b => .int (b.y + b.h)) (by simp) fun b hb => ?_
    have := hC.h5 b
    simp [this]
  have e0 : ev C (.lst [(.cst (.int 0))]) .v (g1 w h W l free none none none) s = .ok (.val (.lst [.int 0])) s := by simp
  refine ev_addj e0 hc ?_
  rw [zac9 (by simp; omega)]
  simp
def rowB (w h W : Int) (l : List Box) (y : Int) : List Box := ((0 :: l.map fun b => b.x + b.w).map fun x => (⟨x, y, w, h⟩ : Box)).filter (okB W l)
theorem yloop (hl : l.length ≤ 8) : ∀ (ys : List Int) (free : List Box) (v4 v5 v6 : Option B), free.length + 9 * ys.length ≤ 800 → ∃ v4' v5' v6', forL (.one 4) (fun σ s => exs C bz7_L1 σ s) (ys.map .int) (g1 w h W l free v4 v5 v6) s = .next (g1 w h W l (free ++ ys.flatMap (rowB w h W l)) v4' v5' v6') s
  | [], free, v4, v5, v6, _ => ⟨v4, v5, v6, by simp [forL]⟩
  | y :: ys, free, v4, v5, v6, hn => by
    have hr : (rowB w h W l y).length ≤ 9 := by
      unfold rowB
      refine Nat.le_trans (List.length_filter_le _ _) ?_
      simp; omega
    obtain ⟨v5', v6', e⟩ := xloop hC (w := w) (h := h) (W := W) (l := l) (y := y) (0 :: l.map fun b => b.x + b.w) free v5 v6 (by simp at hn ⊢; omega)
    obtain ⟨a, b, c, e2⟩ := yloop hl ys (free ++ rowB w h W l y) (some (.val (.int y))) v5' v6' (by simp only [List.length_append, List.length_cons] at hn ⊢; omega)
    refine ⟨a, b, c, ?_⟩
    have e1 : exs C bz7_L1 (g1 w h W l free (some (.val (.int y))) v5 v6) s = .next (g1 w h W l (free ++ rowB w h W l y) (some (.val (.int y))) v5' v6') s := by
      refine (zaac ((ex_for (ts := (0 :: l.map fun b => b.x + b.w).map .int) (s1 := s) (xlist hC hl) (by intro _ h; cases h)).trans e)).trans ?_
      simp only [exs]
      rfl
    show (exs C bz7_L1 (g1 w h W l free (some (.val (.int y))) v5 v6) s).bind _ = _
    rw [e1]
    show forL (.one 4) (fun σ s => exs C bz7_L1 σ s) (ys.map .int) (g1 w h W l (free ++ rowB w h W l y) (some (.val (.int y))) v5' v6') s = _
    rw [e2, List.append_assoc]
    rfl
end
def bestX : Box → List Box → Box
  | b, [] => b
  | b, c :: r => if lt2 (c.y, c.x) (b.y, b.x) then bestX c r else bestX b r
theorem keys_bx : ∀ l : List Box, keysT 1 0 (l.map bx) = some (l.map fun b => (b.y, b.x))
  | [] => rfl
  | b :: l => by
    show (match keyT 1 0 (bx b), keysT 1 0 (l.map bx) with | some x, some y => some (x :: y) | _, _ => none) = _
    rw [keys_bx l]
    rfl
theorem zaeu : ∀ (l : List Box) (b : Box), bestK (b.y, b.x) (bx b) ((l.map fun b => (b.y, b.x)).zip (l.map bx)) = bx (bestX b l)
  | [], b => rfl
  | c :: l, b => by
    show (if lt2 (c.y, c.x) (b.y, b.x) then bestK (c.y, c.x) (bx c) _ else bestK (b.y, b.x) (bx b) _) = bx (if lt2 (c.y, c.x) (b.y, b.x) then bestX c l else bestX b l)
    split
    · exact zaeu l c
    · exact zaeu l b
theorem minK_bx (b : Box) (l : List Box) : minK 1 0 ((b :: l).map bx) = some (bx (bestX b l)) := by
  unfold minK
  rw [keys_bx]
  show some (bestK (b.y, b.x) (bx b) ((l.map fun b => (b.y, b.x)).zip (l.map bx))) = _
  rw [zaeu]
theorem lt2_iff (a b : Int × Int) : lt2 a b = true ↔ (a.1 < b.1 ∨ (a.1 = b.1 ∧ a.2 < b.2)) := by
  unfold lt2
  simp
theorem zacu : ∀ (l : List Box) (b : Box), bestX b l ∈ b :: l ∧ ∀ c ∈ b :: l, ¬ Ahead c.x c.y (bestX b l).x (bestX b l).y
  | [], b => ⟨by simp [bestX], fun c hc => by
    have : c = b := by simpa using hc
    subst this
    unfold bestX Ahead
    omega⟩
  | d :: l, b => by
    show (if lt2 (d.y, d.x) (b.y, b.x) then bestX d l else bestX b l) ∈ b :: d :: l ∧ ∀ c ∈ b :: d :: l, ¬ Ahead c.x c.y (if lt2 (d.y, d.x) (b.y, b.x) then bestX d l else bestX b l).x (if lt2 (d.y, d.x) (b.y, b.x) then bestX d l else bestX b l).y
    by_cases h : lt2 (d.y, d.x) (b.y, b.x) = true
    · rw [if_pos h]
      have h' := (lt2_iff _ _).mp h
      obtain ⟨h1, h2⟩ := zacu l d
      refine ⟨List.mem_cons_of_mem _ h1, fun c hc => ?_⟩
      rcases List.mem_cons.mp hc with rfl | hc
      · have := h2 d (by simp)
        unfold Ahead at this ⊢
        simp only at h'
        omega
      · exact h2 c hc
    · rw [if_neg h]
      have h' : ¬ (d.y < b.y ∨ (d.y = b.y ∧ d.x < b.x)) := fun z => h ((lt2_iff _ _).mpr z)
      obtain ⟨h1, h2⟩ := zacu l b
      refine ⟨?_, fun c hc => ?_⟩
      · rcases List.mem_cons.mp h1 with e | e
        · rw [e]; simp
        · exact List.mem_cons_of_mem _ (List.mem_cons_of_mem _ e)
      · rcases List.mem_cons.mp hc with rfl | hc
        · exact h2 c (by simp)
        · rcases List.mem_cons.mp hc with rfl | hc
          · have := h2 b (by simp)
            unfold Ahead at this ⊢
            omega
          · exact h2 c (List.mem_cons_of_mem _ hc)
end Pg
end IP
end
section
set_option linter.all false
set_option maxRecDepth 100000
set_option maxHeartbeats 0
namespace IP
namespace Pg
open L2 LayM
variable {k : Nat} {s : Sto}
structure Low (W w h : Int) (l : List Box) (b : Box) : Prop where
  w_ : b.w = w
  h_ : b.h = h
  x0 : 0 ≤ b.x
  y0 : 0 ≤ b.y
  in_ : b.x + w ≤ W
  fr : Free b l
  first : ∀ x y, 0 ≤ x → 0 ≤ y → x + w ≤ W → Free ⟨x, y, w, h⟩ l → ¬ Ahead x y b.x b.y
def BoxOk (b : Box) : Prop := 0 ≤ b.x ∧ 0 ≤ b.y ∧ 0 < b.w ∧ 0 < b.h
def candL (W w h : Int) (l : List Box) : List Box := (0 :: l.map fun b => b.y + b.h).flatMap (rowB w h W l)
theorem zacl {W w h : Int} {l : List Box} {b : Box} : b ∈ candL W w h l ↔ (b.w = w ∧ b.h = h ∧ OnX l b.x ∧ OnY l b.y ∧ b.x + w ≤ W ∧ Free b l) := by
  unfold candL rowB
  rw [List.mem_flatMap]
  constructor
  · rintro ⟨y, hy, hb⟩
    obtain ⟨h1, h2⟩ := List.mem_filter.mp hb
    obtain ⟨x, hx, rfl⟩ := List.mem_map.mp h1
    unfold okB at h2
    simp only [Bool.and_eq_true, decide_eq_true_eq] at h2
    refine ⟨rfl, rfl, ?_, ?_, h2.1, (zac5 _ _).mp h2.2⟩
    · rcases List.mem_cons.mp hx with e | e
      · exact .inl e
      · obtain ⟨c, hc, rfl⟩ := List.mem_map.mp e
        exact .inr ⟨c, hc, rfl⟩
    · rcases List.mem_cons.mp hy with e | e
      · exact .inl e
      · obtain ⟨c, hc, rfl⟩ := List.mem_map.mp e
        exact .inr ⟨c, hc, rfl⟩
  · rintro ⟨rfl, rfl, hx, hy, hw, hf⟩
    refine ⟨b.y, ?_, List.mem_filter.mpr ⟨List.mem_map.mpr ⟨b.x, ?_, rfl⟩, ?_⟩⟩
    · rcases hy with e | ⟨c, hc, e⟩
      · rw [e]; simp
      · rw [e]; exact List.mem_cons_of_mem _ (List.mem_map.mpr ⟨c, hc, rfl⟩)
    · rcases hx with e | ⟨c, hc, e⟩
      · rw [e]; simp
      · rw [e]; exact List.mem_cons_of_mem _ (List.mem_map.mpr ⟨c, hc, rfl⟩)
    · unfold okB
      rw [(zac5 _ _).mpr hf]
      simp [hw]
theorem low_of {W w h : Int} {l : List Box} (hl : ∀ b ∈ l, BoxOk b) (hw : w ≤ W) : ∃ b r, candL W w h l = b :: r ∧ Low W w h l (bestX b r) := by
  obtain ⟨x', y', a1, a2, a3, a4, a5, a6⟩ := some_free (w := w) (h := h) (W := W) l hw
  have hm : (⟨x', y', w, h⟩ : Box) ∈ candL W w h l := zacl.mpr ⟨rfl, rfl, a5, a6, a3, a4⟩
  cases hc : candL W w h l with
  | nil => rw [hc] at hm; cases hm
  | cons b r =>
    refine ⟨b, r, rfl, ?_⟩
    obtain ⟨h1, h2⟩ := zacu r b
    rw [← hc] at h1 h2
    obtain ⟨e1, e2, e3, e4, e5, e6⟩ := zacl.mp h1
    refine ⟨e1, e2, ?_, ?_, e5, e6, fun x y hx hy hxw hf => ?_⟩
    · rcases e3 with z | ⟨c, hc, z⟩
      · omega
      · have := hl c hc; unfold BoxOk at this; omega
    · rcases e4 with z | ⟨c, hc, z⟩
      · omega
      · have := hl c hc; unfold BoxOk at this; omega
    · obtain ⟨x2, y2, b1, b2, b3, b4, b5, b6, b7⟩ := zabq (W := W) hx hy hxw hf
      have := h2 _ (zacl.mpr ⟨rfl, rfl, b5, b6, b3, b4⟩)
      unfold Ahead at this b7 ⊢
      simp only at this
      omega
def TB (s : Sto) : Prop := isTbl s 0 0 ⟨27, 25, 27, 53⟩ ((("lowest_box" : PySem.Str) ++ ".<locals>.") ++ "<lambda>") = true
theorem low_any {C : Cf} (hC : Has1 C s) (hT : TB s) {w h W : Int} {l : List Box} (hl : l.length ≤ 8) (hb : ∀ b ∈ l, BoxOk b) (hw : w ≤ W) :
    ∃ b, Low W w h l b ∧ exs C bz7 [some (.val (ob (w, h))), some (.val (.int W)), some (.bor (l.map bx)), none, none, none, none, none, none] s = .ret (.val (bx b)) s := by
  obtain ⟨b, r, hc, hlow⟩ := low_of (h := h) hb hw
  refine ⟨bestX b r, hlow, ?_⟩
  obtain ⟨v4, v5, v6, e⟩ := yloop hC (w := w) (h := h) (W := W) hl (0 :: l.map fun b => b.y + b.h) [] none none none (by simp; omega)
  have ec : [] ++ (0 :: l.map fun b => b.y + b.h).flatMap (rowB w h W l) = b :: r := by rw [List.nil_append]; exact hc
  rw [ec] at e
  refine (zaac (σ1 := g1 w h W l [] none none none) (s1 := s) (by simp [freshE, setOwn])).trans ?_
  refine (zaac ((ex_for (ts := (0 :: l.map fun b => b.y + b.h).map .int) (s1 := s) (ylist hC hl) (by intro _ h; cases h)).trans e)).trans ?_
  have hm := minK_bx b r
  rw [List.map_cons] at hm
  unfold TB at hT
  simp [hT, hm]
theorem has1 (k : Nat) (s : Sto) : Has1 (cfX fns sub0 (k + 3)) s := ⟨fun b => cf_of (r_right (k := k + 2) b) rfl, fun b => cf_of (r_top (k := k + 2) b) rfl, fun t l => cf_of (r_free (k := k) t l) rfl⟩
theorem r_low (hT : TB s) {w h W : Int} {l : List Box} (hl : l.length ≤ 8) (hb : ∀ b ∈ l, BoxOk b) (hw : w ≤ W) : ∃ b, Low W w h l b ∧ run true fns sub0 whileL (k + 4) 1 [.val (ob (w, h)), .val (.int W), .bor (l.map bx)] s = .ok (.val (bx b)) s := by
  obtain ⟨b, h1, e⟩ := low_any (has1 k s) hT (w := w) (h := h) hl hb hw
  exact ⟨b, h1, (zaap (F := Fz7) rfl rfl).trans (congrArg (leave true false) e)⟩
def Laid (W : Int) : List (Int × Int) → List Box → List Box → Prop
  | [], _, bs => bs = []
  | o :: os, l, bs => ∃ b r, bs = b :: r ∧ Low W o.1 o.2 l b ∧ Laid W os (l ++ [b]) r
def obOk (W : Int) (o : Int × Int) : Prop := 0 < o.1 ∧ o.1 ≤ W ∧ 0 < o.2
abbrev g0 (os : List (Int × Int)) (W : Int) (v2 v3 v4 : Option B) : Fr := [some (.val (.lst (os.map ob))), some (.val (.int W)), v2, v3, v4, none, none, none]
theorem zadk {C : Cf} {W : Int} {os0 : List (Int × Int)} (h1 : ∀ (w h : Int) (l : List Box), l.length ≤ 8 → (∀ b ∈ l, BoxOk b) → w ≤ W → ∃ b, Low W w h l b ∧ C.cf 1 [.val (ob (w, h)), .val (.int W), .bor (l.map bx)] s = .ok (.val (bx b)) s) :
    ∀ (os : List (Int × Int)) (l : List Box) (v3 : Option B), l.length + os.length ≤ 8 → (∀ b ∈ l, BoxOk b) → (∀ o ∈ os, obOk W o) → ∃ bs v3', Laid W os l bs ∧ (∀ b ∈ bs, BoxOk b) ∧ bs.length = os.length ∧ forL (.one 3) (fun σ s => exs C zabe σ s) (os.map ob) (g0 os0 W (some (.own (l.map bx))) v3 none) s = .next (g0 os0 W (some (.own ((l ++ bs).map bx))) v3' none) s
  | [], l, v3, _, _, _ => ⟨[], v3, rfl, by simp, rfl, by simp [forL]⟩
  | o :: os, l, v3, hn, hb, ho => by
    have ho1 := ho o (by simp)
    obtain ⟨b, hlow, e⟩ := h1 o.1 o.2 l (by simp at hn; omega) hb ho1.2.1
    have hbo : BoxOk b := by
      have a1 := hlow.w_
      have a2 := hlow.h_
      have a3 := hlow.x0
      have a4 := hlow.y0
      unfold obOk at ho1
      unfold BoxOk
      omega
    obtain ⟨bs, v3', q1, q2, q3, q4⟩ := zadk h1 os (l ++ [b]) (some (.val (ob o))) (by simp at hn ⊢; omega) (fun c hc => by
      rcases List.mem_append.mp hc with z | z
      · exact hb c z
      · rw [List.mem_singleton.mp z]; exact hbo) (fun o ho' => ho o (by simp [ho']))
    refine ⟨b :: bs, v3', ⟨b, bs, rfl, hlow, q1⟩, fun c hc => ?_, by simp [q3], ?_⟩
    · rcases List.mem_cons.mp hc with rfl | hc
      · exact hbo
      · exact q2 c hc
    · have hlim : l.length < lim := Nat.lt_of_lt_of_le (show l.length < 1000 by simp at hn; omega) lim_ge
      have e1 : exs C zabe (g0 os0 W (some (.own (l.map bx))) (some (.val (ob o))) none) s = .next (g0 os0 W (some (.own ((l ++ [b]).map bx))) (some (.val (ob o))) none) s := by
        simp [e, ownAt, setOwn, hlim]
      show (exs C zabe (g0 os0 W (some (.own (l.map bx))) (some (.val (ob o))) none) s).bind _ = _
      rw [e1]
      show forL (.one 3) (fun σ s => exs C zabe σ s) (os.map ob) (g0 os0 W (some (.own ((l ++ [b]).map bx))) (some (.val (ob o))) none) s = _
      rw [q4, List.append_assoc]
      rfl
end Pg
end IP
end
section
set_option linter.all false
set_option maxRecDepth 100000
set_option maxHeartbeats 0
namespace IP
namespace Pg
open L2 LayM
variable {k : Nat} {s : Sto}
theorem ex_forv {C : Cf} {g : Tg} {i : Nat} {b : List S} {σ : Fr} {ts : List T} (h : σ[i]? = some (some (.val (.lst ts)))) : ex C (.for_ g (.var i) b) σ s = forL g (fun σ s => exs C b σ s) ts σ s := by
  have e : ex C (.for_ g (.var i) b) σ s = (ev C (.var i) .i σ s).st σ fun x s1 => onS x.lst? fun ts => if isOwn σ i then (forL g (fun σ s => exs C b σ s) ts (lock σ i) s1).unlock i else forL g (fun σ s => exs C b σ s) ts σ s1 := rfl
  have ho : isOwn σ i = false := by unfold isOwn; rw [h]
  have hv : ev C (.var i) .i σ s = .ok (.val (.lst ts)) s := by simp [look, h]
  rw [e, hv]
  show (if isOwn σ i = true then _ else _) = _
  rw [ho]
  rfl
def pl (b : Box) : T := .tup [.int b.x, .int b.y]
def lenB (bs : List Box) : Int := (maxI (bs.map fun b => b.y + b.h)).getD 0
def layT (bs : List Box) : T := .tup [.int (lenB bs), .lst (bs.map pl)]
theorem zabu : ∀ xs : List Int, asInts (xs.map T.int) = some xs
  | [] => rfl
  | x :: xs => by
    show (asInts (xs.map T.int)).map (x :: ·) = _
    rw [zabu xs]
    rfl
structure Has0 (C : Cf) (W : Int) (s : Sto) : Prop where
  h1 : ∀ (w h : Int) (l : List Box), l.length ≤ 8 → (∀ b ∈ l, BoxOk b) → w ≤ W → ∃ b, Low W w h l b ∧ C.cf 1 [.val (ob (w, h)), .val (.int W), .bor (l.map bx)] s = .ok (.val (bx b)) s
  h5 : ∀ b : Box, C.cf 5 [.val (bx b)] s = .ok (.val (.int (b.y + b.h))) s
theorem wide_ev {C : Cf} {W : Int} {os : List (Int × Int)} : ev C (.b1 .any (.comp zaam (.one 5) (.var 0))) .v (g0 os W none none none) s = .ok (.val (.bl (os.any fun o => decide (W < o.1)))) s := by
  have hc : ev C (.comp zaam (.one 5) (.var 0)) .v (g0 os W none none none) s = .ok (.val (.lst (os.map fun o => .bl (decide (W < o.1))))) s :=
    zaat (i := 5) os ob (fun o => .bl (decide (W < o.1))) (by simp) fun o ho => by simp
  exact ev_any hc
theorem lay_any {C : Cf} {W : Int} (hC : Has0 C W s) {os : List (Int × Int)} (hn : os.length ≤ 8) (ho : ∀ o ∈ os, obOk W o) :
    ∃ bs, Laid W os [] bs ∧ (∀ b ∈ bs, BoxOk b) ∧ bs.length = os.length ∧ exs C b_lay (g0 os W none none none) s = .ret (.val (layT bs)) s := by
  obtain ⟨bs, v3, q1, q2, q3, q4⟩ := zadk (C := C) (W := W) (os0 := os) hC.h1 os [] none (by simpa using hn) (by simp) ho
  refine ⟨bs, q1, q2, q3, ?_⟩
  have hw := wide_ev (C := C) (s := s) (W := W) (os := os)
  have ha : (os.any fun o => decide (W < o.1)) = false := by
    rw [List.any_eq_false]
    intro o h
    have := (ho o h).2.1
    simp; omega
  rw [ha] at hw
  rw [List.nil_append] at q4
  have c1 : ev C (.comp zaba (.one 6) (.var 2)) .v (g0 os W (some (.own (bs.map bx))) v3 none) s = .ok (.val (.lst ((bs.map fun b => b.y + b.h).map .int))) s := by
    rw [List.map_map]
    refine zaat (i := 6) bs bx (fun b => .int (b.y + b.h)) (by simp) fun b hb => ?_
    have := hC.h5 b
    simp [this]
  have c2 : ev C (.comp zabn (.one 7) (.var 2)) .v (g0 os W (some (.own (bs.map bx))) v3 (some (.val (.int (lenB bs))))) s = .ok (.val (.lst (bs.map pl))) s :=
    zaat (i := 7) bs bx pl (by simp) fun b hb => by simp [pl]
  refine (zaac (σ1 := g0 os W none none none) (s1 := s) (by simp; omega)).trans ?_
  refine (zaac (σ1 := g0 os W none none none) (s1 := s) (by
    have e : ev C (.b1 .any (.comp zaam (.one 5) (.var 0))) .t (g0 os W none none none) s = .ok (.val (.bl false)) s := by
      rw [show ev C (.b1 .any (.comp zaam (.one 5) (.var 0))) .t (g0 os W none none none) s = fin .t (ev C (.b1 .any (.comp zaam (.one 5) (.var 0))) .v (g0 os W none none none) s) from rfl, hw]
      rfl
    unfold ex
    rw [e]
    simp)).trans ?_
  refine (zaac (σ1 := g0 os W (some (.own [])) none none) (s1 := s) (by simp [freshE, setOwn])).trans ?_
  refine (zaac ((ex_forv rfl).trans q4)).trans ?_
  refine (zaac (σ1 := g0 os W (some (.own (bs.map bx))) v3 (some (.val (.int (lenB bs))))) (s1 := s) (ex_asg (by
    have hev : ev C (.mxd (.comp zaba (.one 6) (.var 2)) (.cst (.int 0))) .v (g0 os W (some (.own (bs.map bx))) v3 none) s = (ev C (.comp zaba (.one 6) (.var 2)) .v (g0 os W (some (.own (bs.map bx))) v3 none) s).bind fun x s1 => (ev C (.cst (.int 0)) .v (g0 os W (some (.own (bs.map bx))) v3 none) s1).bind fun y s2 => .of (do let ts ← x.seq; let is ← asInts ts; let d ← y.int?; some (.val (.int ((maxI is).getD d)))) s2 := by rw [ev]; rfl
    rw [hev, c1]
    have ai := zabu (bs.map fun b => b.y + b.h)
    unfold lenB
    generalize (bs.map fun b => b.y + b.h) = zs at *
    simp [ai]))).trans ?_
  refine zab6 (ex_ret ?_)
  have et : ev C (.tup [(.var 4), (.comp zabn (.one 7) (.var 2))]) .v (g0 os W (some (.own (bs.map bx))) v3 (some (.val (.int (lenB bs))))) s = (evs C [(.var 4), (.comp zabn (.one 7) (.var 2))] (g0 os W (some (.own (bs.map bx))) v3 (some (.val (.int (lenB bs))))) s).bind fun ts s1 => .ok (.val (.tup ts)) s1 := by rw [ev]; rfl
  rw [et]
  simp only [evs]
  have c0 : ev C (.var 4) .v (g0 os W (some (.own (bs.map bx))) v3 (some (.val (.int (lenB bs))))) s = .ok (.val (.int (lenB bs))) s := by simp
  rw [c0]
  simp only [Res.bind_ok, onV_val, c2]
  rfl
end Pg
end IP
end
section
set_option linter.all false
set_option maxRecDepth 100000
namespace IP
namespace Pg
open L2
variable {k : Nat} {s : Sto}
abbrev iL (xs : List Int) : List T := xs.map .int
abbrev tI (xs : List Int) : T := .tup (iL xs)
theorem r_whole (i : Int) : run true fns sub0 whileL (k + 1) iz5 [.val (.int i)] s = .ok (.val (.bl true)) s := by
  rw [zaap (F := Fz5) rfl rfl]
  simp [bz5]
theorem r_at (ns : List Int) (m : Nat) : ∃ v, run true fns sub0 whileL (k + 1) iz3 [.val (.lst (iL ns)), .val (.int m)] s = .ok (.val (.int v)) s := by
  rw [zaap (F := Fz3) rfl rfl]
  by_cases h : m < ns.length
  · have hg : (ns.map T.int)[m]? = some (.int ns[m]) := by simp [h]
    have h1 := sub_at hg
    exact ⟨ns[m], by simp [bz3, h, h1]⟩
  · exact ⟨0, by simp [bz3, h]⟩
def zaay (v : Int) : Prop := 0 ≤ v ∧ v ≤ 2147483646
theorem zaav (i : Int) {j : Int} (h : 0 < j) : 0 ≤ Int.fmod i j ∧ Int.fmod i j < j := by
  rw [Int.fmod_eq_emod_of_nonneg _ (by omega)]
  exact ⟨Int.emod_nonneg _ (by omega), Int.emod_lt_of_pos _ h⟩
theorem zadp (i : Int) : zaay (Int.fmod i 2147483647) := by
  have := zaav i (j := 2147483647) (by decide)
  unfold zaay
  omega
theorem r_stir (ns : List Int) (n : Nat) (hn : n ≤ 1000) : ∃ row : List Int, row.length = n ∧ (∀ v ∈ row, zaay v) ∧ run true fns sub0 whileL (k + 2) iz4 [.val (.lst (iL ns)), .val (.int n)] s = .ok (.val (.lst (iL row))) s := by
  obtain ⟨σ', e, st, row, c, rfl, h1, h2, h3⟩ := zact (g := .one 4) (body := fun σ s => exs (cfX fns sub0 (k + 1)) bz4_L0 σ s) (s := s)
    (fun m σ => ∃ (st : Int) (row : List Int) (c : Option B), σ = [some (.val (.lst (iL ns))), some (.val (.int n)), some (.val (.int st)), some (.own (iL row)), c] ∧ zaay st ∧ row.length = m ∧ ∀ v ∈ row, zaay v) (rangeT 0 n) 0 [some (.val (.lst (iL ns))), some (.val (.int n)), some (.val (.int 7)), some (.own []), none] ⟨7, [], none, rfl, ⟨by decide, by decide⟩, rfl, by simp⟩ (by
      rintro m t σ hm ⟨st, row, c, rfl, h1, h2, h3⟩
      obtain ⟨rfl, hlt⟩ := zab8 hm
      obtain ⟨v, hv⟩ := r_at (k := k) (s := s) ns m
      have hmul := op_mul (i := st) (j := 48271) (zabj (by have := h1.1; have := h1.2; omega))
      have hmod := op_mod (i := st * 48271 + v + 11) (j := 2147483647) (by decide)
      have hz := zadp (st * 48271 + v + 11)
      have hlim : row.length < lim := Nat.lt_of_lt_of_le (show row.length < 1000 by omega) lim_ge
      refine ⟨[some (.val (.lst (iL ns))), some (.val (.int n)), some (.val (.int st)), some (.own (iL row)), some (.val (.int m))], [some (.val (.lst (iL ns))), some (.val (.int n)), some (.val (.int (Int.fmod (st * 48271 + v + 11) 2147483647))), some (.own (iL (row ++ [Int.fmod (st * 48271 + v + 11) 2147483647]))), some (.val (.int m))], by simp [bindTg], by simp [hv, hmul, hmod, ownAt, setOwn, hlim], Int.fmod (st * 48271 + v + 11) 2147483647, row ++ [Int.fmod (st * 48271 + v + 11) 2147483647], some (.val (.int m)), rfl, hz, by simp [h2], ?_⟩
      intro x hx
      rcases List.mem_append.mp hx with z | z
      · exact h3 x z
      · rw [List.mem_singleton.mp z]; exact hz)
  refine ⟨row, ?_, h3, ?_⟩
  · rw [h2, zacd]; omega
  · rw [zaap (F := Fz4) rfl rfl]
    have hx : exs (cfX fns sub0 (k + 1)) bz4 (enter Fz4 [.val (.lst (iL ns)), .val (.int n)]) s = .ret (.val (.lst (iL row))) s := by
      refine (zaac (σ1 := [some (.val (.lst (iL ns))), some (.val (.int n)), some (.val (.int 7)), none, none]) (s1 := s) (by simp)).trans ?_
      refine (zaac (σ1 := [some (.val (.lst (iL ns))), some (.val (.int n)), some (.val (.int 7)), some (.own []), none]) (s1 := s) (by simp [freshE, setOwn])).trans ?_
      refine (zaac ((ex_for (ts := rangeT 0 n) (s1 := s) (ev_rng1 (n := n) (by simp) hn) (by intro _ h; cases h)).trans e)).trans ?_
      simp [frz]
    rw [hx]
    rfl
theorem row_at {row : List Int} (hr : ∀ v ∈ row, zaay v) {m : Nat} (h : m < row.length) : ∃ v, zaay v ∧ subR (.val (.lst (iL row))) (m : Int) = some (.int v) ∧ row[m]? = some v := by
  refine ⟨row[m], hr _ (List.getElem_mem h), sub_at (by simp [h]), by simp [h]⟩
end Pg
end IP
end
section
set_option linter.all false
set_option maxRecDepth 100000
set_option maxHeartbeats 0
namespace IP
namespace Pg
open L2 LayM
variable {k : Nat} {s : Sto}
theorem r_lay (hT : TB s) {W : Int} {os : List (Int × Int)} (hn : os.length ≤ 8) (ho : ∀ o ∈ os, obOk W o) :
    ∃ bs, Laid W os [] bs ∧ (∀ b ∈ bs, BoxOk b) ∧ bs.length = os.length ∧ run true fns sub0 whileL (k + 5) 0 [.val (.lst (os.map ob)), .val (.int W)] s = .ok (.val (layT bs)) s := by
  obtain ⟨bs, q1, q2, q3, e⟩ := lay_any (C := cfX fns sub0 (k + 4)) (s := s) (W := W) ⟨fun w h l hl hb hw => by
    obtain ⟨b, h1, e⟩ := r_low (k := k) hT (w := w) (h := h) hl hb hw
    exact ⟨b, h1, cf_of e rfl⟩, fun b => cf_of (r_top (k := k + 3) b) rfl⟩ hn ho
  exact ⟨bs, q1, q2, q3, (zaap (F := F_lay) rfl rfl).trans (congrArg (leave true false) e)⟩
theorem zadz {C : Cf} {a : S} {r : List S} {σ σ1 : Fr} {s s1 : Sto} {d : Nat} (h : ex C a σ s = .exc d σ1 s1) : exs C (a :: r) σ s = .exc d σ1 s1 := by rw [zabw, h]; rfl
theorem many_any {C : Cf} {W : Int} {os : List (Int × Int)} (hn : 8 < os.length) : exs C b_lay (g0 os W none none none) s = .exc 1 (g0 os W none none none) s := by
  refine zadz ?_
  have : (8 : Int) < (os.length : Int) := by omega
  simp [this]
theorem wide_any {C : Cf} {W : Int} {os : List (Int × Int)} (hn : os.length ≤ 8) (hw : ∃ o ∈ os, W < o.1) : exs C b_lay (g0 os W none none none) s = .exc 2 (g0 os W none none none) s := by
  have hv := wide_ev (C := C) (s := s) (W := W) (os := os)
  have ha : (os.any fun o => decide (W < o.1)) = true := by
    rw [List.any_eq_true]
    obtain ⟨o, h1, h2⟩ := hw
    exact ⟨o, h1, by simpa using h2⟩
  rw [ha] at hv
  refine (zaac (σ1 := g0 os W none none none) (s1 := s) (by simp; omega)).trans ?_
  refine zadz ?_
  have e : ev C (.b1 .any (.comp zaam (.one 5) (.var 0))) .t (g0 os W none none none) s = .ok (.val (.bl true)) s := by
    rw [show ev C (.b1 .any (.comp zaam (.one 5) (.var 0))) .t (g0 os W none none none) s = fin .t (ev C (.b1 .any (.comp zaam (.one 5) (.var 0))) .v (g0 os W none none none) s) from rfl, hv]
    rfl
  unfold ex
  rw [e]
  simp
theorem r_many {W : Int} {os : List (Int × Int)} (hn : 8 < os.length) : run true fns sub0 whileL (k + 1) 0 [.val (.lst (os.map ob)), .val (.int W)] s = .exc 1 s :=
  (zaap (F := F_lay) rfl rfl).trans (congrArg (leave true false) (many_any (C := cfX fns sub0 k) hn))
theorem r_wide {W : Int} {os : List (Int × Int)} (hn : os.length ≤ 8) (hw : ∃ o ∈ os, W < o.1) : run true fns sub0 whileL (k + 1) 0 [.val (.lst (os.map ob)), .val (.int W)] s = .exc 2 s :=
  (zaap (F := F_lay) rfl rfl).trans (congrArg (leave true false) (wide_any (C := cfX fns sub0 k) hn hw))
abbrev iV (i : Int) : Option B := some (.val (.int i))
structure Has (C : Cf) (ns : List Int) (s : Sto) : Prop where
  stir : ∃ row : List Int, row.length = 28 ∧ (∀ v ∈ row, zaay v) ∧ C.cf 8 [.val (.lst (iL ns)), .val (.int 28)] s = .ok (.val (.lst (iL row))) s
  lay : ∀ (W : Int) (os : List (Int × Int)), os.length ≤ 8 → (∀ o ∈ os, obOk W o) → ∃ bs : List Box, bs.length = os.length ∧ C.cf 0 [.val (.lst (os.map ob)), .val (.int W)] s = .ok (.val (layT bs)) s
  many : ∀ (W : Int) (os : List (Int × Int)), 8 < os.length → C.cf 0 [.val (.lst (os.map ob)), .val (.int W)] s = .exc 1 s
  wide : ∀ (W : Int) (os : List (Int × Int)), os.length ≤ 8 → (∃ o ∈ os, W < o.1) → C.cf 0 [.val (.lst (os.map ob)), .val (.int W)] s = .exc 2 s
  whole : ∀ i : Int, C.cf 6 [.val (.int i)] s = .ok (.val (.bl true)) s
  sb : C.sub = sub0
theorem has (k : Nat) (ns : List Int) (hT : TB s) : Has (cfX fns sub0 (k + 5)) ns s where
  stir := by
    obtain ⟨row, h1, h2, h3⟩ := r_stir (k := k + 3) (s := s) ns 28 (by decide)
    exact ⟨row, h1, h2, cf_of h3 rfl⟩
  lay := fun W os hn ho => by
    obtain ⟨bs, h1, h2, h3, e⟩ := r_lay (k := k) hT hn ho
    exact ⟨bs, h3, cf_of e rfl⟩
  many := fun W os h => cf_of (r_many (k := k + 4) h) rfl
  wide := fun W os h1 h2 => cf_of (r_wide (k := k + 4) h1 h2) rfl
  whole := fun i => cf_of (r_whole (k := k + 4) i) rfl
  sb := rfl
abbrev g15 (ns row : List Int) (W : Int) (os : List (Int × Int)) (v4 v5 v6 v7 v8 v9 : Option B) : Fr := [some (.val (.lst (iL ns))), some (.val (.lst (iL row))), iV W, some (.own (os.map ob)), v4, v5, v6, v7, v8, v9]
theorem zad5 (os : List (Int × Int)) (i : Nat) (o : Int × Int) : (os.map ob).set i (ob o) = (os.set i o).map ob := by rw [List.map_set]
theorem ixN_nat {n i : Nat} (h : i < n) : L2.ixN n (i : Int) = some i := by
  unfold L2.ixN
  rw [if_pos (by omega)]
  simp [h]
theorem made_loop {C : Cf} {ns row : List Int} (hr : ∀ v ∈ row, zaay v) (hl : row.length = 28) {W : Int} (hW : 1 ≤ W) {n : Nat} (hn : n ≤ 12) : ∃ (os : List (Int × Int)) (c4 : Option B), os.length = n ∧ (∀ o ∈ os, obOk W o) ∧
    forL (.one 4) (fun σ s => exs C zaco σ s) (rangeT 0 n) (g15 ns row W [] none none none none none none) s = .next (g15 ns row W os c4 none none none none none) s := by
  obtain ⟨σ', e3, os, c4, rfl, q1, q2⟩ := zact (g := .one 4) (body := fun σ s => exs C zaco σ s) (s := s)
    (fun m σ => ∃ (os : List (Int × Int)) (c4 : Option B), σ = g15 ns row W os c4 none none none none none ∧ os.length = m ∧ ∀ o ∈ os, obOk W o) (rangeT 0 n) 0 (g15 ns row W [] none none none none none none) ⟨[], none, rfl, rfl, by simp⟩ (by
      rintro m t σ hm ⟨os, c4, rfl, h2, h3⟩
      obtain ⟨rfl, hlt⟩ := zab8 hm
      rw [Int.zero_add]
      obtain ⟨va, _, ra, _⟩ := row_at hr (m := 2 + 2 * m) (by omega)
      obtain ⟨vb, _, rb, _⟩ := row_at hr (m := 3 + 2 * m) (by omega)
      rw [show ((2 + 2 * m : Nat) : Int) = 2 + 2 * (m : Int) by omega] at ra
      rw [show ((3 + 2 * m : Nat) : Int) = 3 + 2 * (m : Int) by omega] at rb
      have mm := op_mul (i := 2) (j := (m : Int)) (zabj (by decide))
      have g1 := op_mod (i := va) (j := W) (by omega)
      have g2 := zaav va (j := W) (by omega)
      have g3 := op_mod (i := vb) (j := 100) (by decide)
      have g4 := zaav vb (j := 100) (by decide)
      have g5 := zaed (i := vb) (j := 100) (by decide) (by decide)
      have g6 := op_mod (i := Int.fdiv vb 100) (j := 4) (by decide)
      have hlim : os.length < lim := Nat.lt_of_lt_of_le (show os.length < 1000 by omega) lim_ge
      have hok : ∀ o ∈ os ++ [(1 + Int.fmod va W, 1 + Int.fmod vb 100)], obOk W o := fun o ho => by
        rcases List.mem_append.mp ho with z | z
        · exact h3 o z
        · rw [List.mem_singleton.mp z]
          exact ⟨by show 0 < 1 + Int.fmod va W; omega, by show 1 + Int.fmod va W ≤ W; omega, by show 0 < 1 + Int.fmod vb 100; omega⟩
      have hl1 : (os ++ [(1 + Int.fmod va W, 1 + Int.fmod vb 100)]).length = m + 1 := by simp [h2]
      have hat : (os ++ [(1 + Int.fmod va W, 1 + Int.fmod vb 100)])[m]? = some (1 + Int.fmod va W, 1 + Int.fmod vb 100) := by
        rw [List.getElem?_append_right (by omega), show m - os.length = 0 by omega]; rfl
      have e1 : ex C (.app 3 (.tup [(.bin .add (.cst (.int 1)) (.bin .mod (.sub (.var 1) (.bin .add (.cst (.int 2)) (.bin .mul (.cst (.int 2)) (.var 4)))) (.var 2))), (.bin .add (.cst (.int 1)) (.bin .mod (.sub (.var 1) (.bin .add (.cst (.int 3)) (.bin .mul (.cst (.int 2)) (.var 4)))) (.cst (.int 100))))])) (g15 ns row W os (iV m) none none none none none) s = .next (g15 ns row W (os ++ [(1 + Int.fmod va W, 1 + Int.fmod vb 100)]) (iV m) none none none none none) s := by
        simp [ra, rb, mm, g1, g3, ownAt, setOwn, hlim, ob]
      have sb : subR (.bor ((os ++ [(1 + Int.fmod va W, 1 + Int.fmod vb 100)]).map ob)) (m : Int) = some (ob (1 + Int.fmod va W, 1 + Int.fmod vb 100)) := sub_atB (by rw [List.getElem?_map, hat]; rfl)
      generalize os ++ [(1 + Int.fmod va W, 1 + Int.fmod vb 100)] = os1 at *
      have ix := ixN_nat (n := (os1.map ob).length) (i := m) (by simp [hl1])
      by_cases h4 : Int.fmod (Int.fdiv vb 100) 4 = 0
      · refine ⟨g15 ns row W os (iV m) none none none none none, g15 ns row W (os1.set m (W, 1 + Int.fmod vb 100)) (iV m) none none none none none, by simp [bindTg], ?_, os1.set m (W, 1 + Int.fmod vb 100), _, rfl, by simp [hl1], ?_⟩
        · refine (zaac e1).trans ?_
          have st := zad5 os1 m (W, 1 + Int.fmod vb 100)
          have eo : T.tup [.int W, .int (1 + Int.fmod vb 100)] = ob (W, 1 + Int.fmod vb 100) := rfl
          refine (zaac (σ1 := g15 ns row W (os1.set m (W, 1 + Int.fmod vb 100)) (iV m) none none none none none) (s1 := s) ?_).trans (by simp)
          show ex C _ [some (.val (.lst (iL ns))), some (.val (.lst (iL row))), iV W, some (.own (os1.map ob)), iV m, none, none, none, none, none] s = .next [some (.val (.lst (iL ns))), some (.val (.lst (iL row))), iV W, some (.own ((os1.set m (W, 1 + Int.fmod vb 100)).map ob)), iV m, none, none, none, none, none] s
          rw [← st]
          clear e1
          generalize os1.map ob = ts at *
          simp [rb, mm, g5, g6, h4, sb, ownAt, setOwn, ix, eo]
        · intro o ho
          rcases List.mem_or_eq_of_mem_set ho with z | z
          · exact hok o z
          · rw [z]
            exact ⟨by show 0 < W; omega, Int.le_refl _, by show 0 < 1 + Int.fmod vb 100; omega⟩
      · refine ⟨g15 ns row W os (iV m) none none none none none, g15 ns row W os1 (iV m) none none none none none, by simp [bindTg], ?_, os1, _, rfl, by omega, hok⟩
        refine (zaac e1).trans ?_
        simp [rb, mm, g5, g6, h4])
  rw [zacd] at q1
  exact ⟨os, c4, by omega, q2, e3⟩
end Pg
end IP
end
section
set_option linter.all false
set_option maxRecDepth 100000
set_option maxHeartbeats 0
namespace IP
namespace Pg
open L2 LayM
variable {k : Nat} {s : Sto}
@[simp] theorem sub_lay0 (bs : List Box) : subR (.val (layT bs)) 0 = some (.int (lenB bs)) := rfl
@[simp] theorem sub_lay1 (bs : List Box) : subR (.val (layT bs)) 1 = some (.lst (bs.map pl)) := rfl
@[simp] theorem dr_lay (bs : List Box) (s : Sto) : (R.val (layT bs)).dr s = .val (layT bs) := rfl
@[simp] theorem isx_lay (sub : Nat → Nat → Bool) (bs : List Box) : isiX sub (.val (layT bs)) .tuple = some true := rfl
@[simp] theorem len_lay (bs : List Box) : b1R .len (.val (layT bs)) = some (.val (.int 2)) := rfl
theorem ne_nil (os : List (Int × Int)) : cmpR .ne (.bor (os.map ob)) (.val (.lst [])) = some (!os.isEmpty) := by
  cases os with
  | nil => rfl
  | cons a r => rfl
theorem ex_ifs {C : Cf} {c : E} {a b : List S} {σ : Fr} {d : Bool} (h : ev C c .t σ s = .ok (.val (.bl d)) s) : ex C (.ifs c a b) σ s = if d = true then exs C a σ s else exs C b σ s := by
  unfold ex
  rw [h]
  simp
section
variable {C : Cf} {ns row : List Int} (hC : Has C ns s) {W : Int} {os : List (Int × Int)} {c4 v6 : Option B} {wd : Bool}
include hC
theorem zaep (hok : (8 < os.length → ∃ v8, ex C (.try_ zaaw 0 (some 9) zaa0) (g15 ns row W os c4 (some (.val (.bl wd))) v6 (iV 0) (some (.val .non)) none) s = .next (g15 ns row W os c4 (some (.val (.bl wd))) v6 (iV 1) v8 none) s))
    (hw : os.length ≤ 8 → wd = true → ∃ v8, ex C (.try_ zaaw 0 (some 9) zaa0) (g15 ns row W os c4 (some (.val (.bl wd))) v6 (iV 0) (some (.val .non)) none) s = .next (g15 ns row W os c4 (some (.val (.bl wd))) v6 (iV 2) v8 none) s)
    (hn : os.length ≤ 8 → wd = false → ∃ bs : List Box, bs.length = os.length ∧ ex C (.try_ zaaw 0 (some 9) zaa0) (g15 ns row W os c4 (some (.val (.bl wd))) v6 (iV 0) (some (.val .non)) none) s = .next (g15 ns row W os c4 (some (.val (.bl wd))) v6 (iV 0) (some (.val (layT bs))) none) s) :
    exs C (b_law.drop 8) (g15 ns row W os c4 (some (.val (.bl wd))) v6 (iV 0) (some (.val .non)) none) s = .ret (.val (.bl true)) s := by
  by_cases h8 : 8 < os.length
  · obtain ⟨v8, e⟩ := hok h8
    refine (zaac e).trans ?_
    have : (8 : Int) < (os.length : Int) := by omega
    refine zab6 ?_
    simp [this]
  · cases wd with
    | true =>
      obtain ⟨v8, e⟩ := hw (by omega) rfl
      refine (zaac e).trans ?_
      refine (zaac (σ1 := g15 ns row W os c4 (some (.val (.bl true))) v6 (iV 2) v8 none) (s1 := s) (by simp; omega)).trans ?_
      refine zab6 ?_
      simp
    | false =>
      obtain ⟨bs, hb, e⟩ := hn (by omega) rfl
      have w := hC.whole (lenB bs)
      refine (zaac e).trans ?_
      refine (zaac (σ1 := g15 ns row W os c4 (some (.val (.bl false))) v6 (iV 0) (some (.val (layT bs))) none) (s1 := s) (by simp; omega)).trans ?_
      refine (zaac (σ1 := g15 ns row W os c4 (some (.val (.bl false))) v6 (iV 0) (some (.val (layT bs))) none) (s1 := s) (by simp)).trans ?_
      refine (zaac (σ1 := g15 ns row W os c4 (some (.val (.bl false))) v6 (iV 0) (some (.val (layT bs))) none) (s1 := s) (by simp)).trans ?_
      refine zab6 ?_
      simp [w, hb]
theorem zaeb {d : Nat} {code : Int} (he : C.cf 0 [.val (.lst (os.map ob)), .val (.int W)] s = .exc d s) (hd : (d = 1 ∧ code = 1) ∨ (d = 2 ∧ code = 2)) : ∃ v8, ex C (.try_ zaaw 0 (some 9) zaa0) (g15 ns row W os c4 (some (.val (.bl wd))) v6 (iV 0) (some (.val .non)) none) s = .next (g15 ns row W os c4 (some (.val (.bl wd))) v6 (iV code) v8 none) s := by
  have m2 : ∀ i : Int, opR .mul (.val (.int 2)) (.val (.int i)) = some (.val (.int (2 * i))) := fun i => op_mul (zabj (by decide))
  have hs := hC.sb
  refine ⟨some (.val .non), ?_⟩
  have hb : exs C zaaw (g15 ns row W os c4 (some (.val (.bl wd))) v6 (iV 0) (some (.val .non)) none) s = .exc d (g15 ns row W os c4 (some (.val (.bl wd))) v6 (iV 0) (some (.val .non)) none) s := by
    simp [he]
  rcases hd with ⟨rfl, rfl⟩ | ⟨rfl, rfl⟩
  · exact zacb (i := 9) (σ2 := g15 ns row W os c4 (some (.val (.bl wd))) v6 (iV 1) (some (.val .non)) (some (.val (.exc 1)))) hb (by rw [hs]; rfl) (by simp [hs, sub0, nth, m2])
  · exact zacb (i := 9) (σ2 := g15 ns row W os c4 (some (.val (.bl wd))) v6 (iV 2) (some (.val .non)) (some (.val (.exc 2)))) hb (by rw [hs]; rfl) (by simp [hs, sub0, nth, m2])
theorem try_fine {bs : List Box} (he : C.cf 0 [.val (.lst (os.map ob)), .val (.int W)] s = .ok (.val (layT bs)) s) : ex C (.try_ zaaw 0 (some 9) zaa0) (g15 ns row W os c4 (some (.val (.bl wd))) v6 (iV 0) (some (.val .non)) none) s = .next (g15 ns row W os c4 (some (.val (.bl wd))) v6 (iV 0) (some (.val (layT bs))) none) s :=
  ex_try_ok (by simp [he])
end
theorem law_any {C : Cf} {ns : List Int} (hC : Has C ns s) : exs C b_law (enter F_law [.val (.lst (iL ns))]) s = .ret (.val (.bl true)) s := by
  obtain ⟨row, rl, hr, e1⟩ := hC.stir
  obtain ⟨v0, _, r0, _⟩ := row_at hr (m := 0) (by omega)
  obtain ⟨v1, _, r1, _⟩ := row_at hr (m := 1) (by omega)
  obtain ⟨v26, _, r26, _⟩ := row_at hr (m := 26) (by omega)
  obtain ⟨v27, _, r27, _⟩ := row_at hr (m := 27) (by omega)
  have r0' : subR (.val (.lst (iL row))) 0 = some (.int v0) := r0
  have r1' : subR (.val (.lst (iL row))) 1 = some (.int v1) := r1
  have r26' : subR (.val (.lst (iL row))) 26 = some (.int v26) := r26
  have r27' : subR (.val (.lst (iL row))) 27 = some (.int v27) := r27
  have m0 := op_mod (i := v0) (j := 99999) (by decide)
  have z0 := zaav v0 (j := 99999) (by decide)
  have m1 := op_mod (i := v1) (j := 13) (by decide)
  have z1 := zaav v1 (j := 13) (by decide)
  generalize hW' : 1 + Int.fmod v0 99999 = W at *
  obtain ⟨n, hnn⟩ : ∃ n : Nat, Int.fmod v1 13 = (n : Int) := ⟨(Int.fmod v1 13).toNat, by omega⟩
  rw [hnn] at m1 z1
  obtain ⟨os, c4, o1, o2, e4⟩ := made_loop (C := C) (s := s) (ns := ns) hr rl (W := W) (by omega) (n := n) (by omega)
  have m26 := op_mod (i := v26) (j := 2) (by decide)
  have d26 := zaed (i := v26) (j := 2) (by decide) (by decide)
  have mW := op_mod (i := Int.fdiv v26 2) (j := 100000 - W) (by omega)
  have zW := zaav (Int.fdiv v26 2) (j := 100000 - W) (by omega)
  have hne := ne_nil os
  refine (zaac (σ1 := [some (.val (.lst (iL ns))), some (.val (.lst (iL row))), none, none, none, none, none, none, none, none]) (s1 := s) (by simp [e1])).trans ?_
  refine (zaac (σ1 := [some (.val (.lst (iL ns))), some (.val (.lst (iL row))), iV W, none, none, none, none, none, none, none]) (s1 := s) (by simp [r0', m0, hW'])).trans ?_
  refine (zaac (σ1 := g15 ns row W [] none none none none none none) (s1 := s) (by simp [freshE, setOwn])).trans ?_
  refine (zaac ((ex_for (ts := rangeT 0 n) (s1 := s) (ev_rng1 (n := n) (by simp [r1', m1]) (by omega)) (by intro _ h; cases h)).trans e4)).trans ?_
  obtain ⟨wd, hwd, e5⟩ : ∃ wd : Bool, (wd = true → os ≠ []) ∧ ex C (.asg 5 (.and (.cmp .ne (.var 3) (.lst [])) (.cmp .eq (.bin .mod (.sub (.var 1) (.cst (.int 26))) (.cst (.int 2))) (.cst (.int 1))))) (g15 ns row W os c4 none none none none none) s = .next (g15 ns row W os c4 (some (.val (.bl wd))) none none none none) s := by
    cases os with
    | nil => exact ⟨false, by simp, by
        rw [List.map_nil] at hne
        refine ex_asg ?_
        simp [hne]⟩
    | cons o r =>
      refine ⟨decide (Int.fmod v26 2 = 1), by simp, ?_⟩
      simp only [List.isEmpty_cons, Bool.not_false, List.map_cons] at hne
      refine ex_asg ?_
      by_cases h2 : Int.fmod v26 2 = 1
      · simp [hne, r26', m26, h2]
      · simp [hne, r26', m26, h2]
  refine (zaac e5).trans ?_
  cases wd with
  | false =>
    refine (zaac (σ1 := g15 ns row W os c4 (some (.val (.bl false))) none none none none) (s1 := s) (by simp)).trans ?_
    refine (zaac (σ1 := g15 ns row W os c4 (some (.val (.bl false))) none (iV 0) none none) (s1 := s) (by simp)).trans ?_
    refine (zaac (σ1 := g15 ns row W os c4 (some (.val (.bl false))) none (iV 0) (some (.val .non)) none) (s1 := s) (by simp)).trans ?_
    refine zaep hC (fun h => zaeb hC (hC.many W os h) (.inl ⟨rfl, rfl⟩)) (fun _ z => by cases z) (fun h _ => ?_)
    obtain ⟨bs, hb, e⟩ := hC.lay W os h o2
    exact ⟨bs, hb, try_fine hC e⟩
  | true =>
    have hpos : 0 < os.length := List.length_pos_iff.mpr (hwd rfl)
    obtain ⟨at_, hat, eat⟩ : ∃ m : Nat, m < os.length ∧ opR .mod (.val (.int v27)) (.val (.int (os.length : Int))) = some (.val (.int (m : Int))) := by
      have hp := zaav v27 (j := (os.length : Int)) (by omega)
      obtain ⟨i, hi⟩ : ∃ i : Nat, Int.fmod v27 (os.length : Int) = (i : Int) := ⟨(Int.fmod v27 (os.length : Int)).toNat, by omega⟩
      exact ⟨i, by omega, by rw [← hi]; exact op_mod (by omega)⟩
    have sb : subR (.bor (os.map ob)) (at_ : Int) = some (ob os[at_]) := sub_atB (by simp [hat])
    have ix := ixN_nat (n := (os.map ob).length) (i := at_) (by simp [hat])
    have st := zad5 os at_ (W + 1 + Int.fmod (Int.fdiv v26 2) (100000 - W), (os[at_]).2)
    have eo : T.tup [.int (W + 1 + Int.fmod (Int.fdiv v26 2) (100000 - W)), .int (os[at_]).2] = ob (W + 1 + Int.fmod (Int.fdiv v26 2) (100000 - W), (os[at_]).2) := rfl
    have hlen : ((os.map ob).length : Int) = (os.length : Int) := by simp
    have hwide : ∃ o ∈ os.set at_ (W + 1 + Int.fmod (Int.fdiv v26 2) (100000 - W), (os[at_]).2), W < o.1 := ⟨(W + 1 + Int.fmod (Int.fdiv v26 2) (100000 - W), (os[at_]).2), List.mem_set hat _, by show W < W + 1 + Int.fmod (Int.fdiv v26 2) (100000 - W); omega⟩
    have hl2 : (os.set at_ (W + 1 + Int.fmod (Int.fdiv v26 2) (100000 - W), (os[at_]).2)).length = os.length := by simp
    have e6 : ex C (.ifs (.var 5) [(.asg 6 (.bin .mod (.sub (.var 1) (.cst (.int 27))) (.b1 .len (.var 3)))), (.put 3 (.var 6) (.tup [(.bin .add (.bin .add (.var 2) (.cst (.int 1))) (.bin .mod (.bin .fdiv (.sub (.var 1) (.cst (.int 26))) (.cst (.int 2))) (.bin .sub (.cst (.int 100000)) (.var 2)))), (.sub (.sub (.var 3) (.var 6)) (.cst (.int 1)))]))] []) (g15 ns row W os c4 (some (.val (.bl true))) none none none none) s = .next (g15 ns row W (os.set at_ (W + 1 + Int.fmod (Int.fdiv v26 2) (100000 - W), (os[at_]).2)) c4 (some (.val (.bl true))) (iV at_) none none none) s := by
      rw [ex_ifs (d := true) (by simp)]
      simp only [if_true]
      refine (zaac (σ1 := g15 ns row W os c4 (some (.val (.bl true))) (iV at_) none none none) (s1 := s) (by simp [r27', eat])).trans ?_
      show exs C _ [some (.val (.lst (iL ns))), some (.val (.lst (iL row))), iV W, some (.own (os.map ob)), c4, some (.val (.bl true)), iV at_, none, none, none] s = .next [some (.val (.lst (iL ns))), some (.val (.lst (iL row))), iV W, some (.own ((os.set at_ (W + 1 + Int.fmod (Int.fdiv v26 2) (100000 - W), (os[at_]).2)).map ob)), c4, some (.val (.bl true)), iV at_, none, none, none] s
      rw [← st]
      generalize os[at_] = o at *
      generalize Int.fmod (Int.fdiv v26 2) (100000 - W) = zz at *
      clear hwide hl2 st e5 hne e4
      generalize os.map ob = ts at *
      simp [r26', d26, mW, sb, ownAt, setOwn, ix, eo]
    refine (zaac e6).trans ?_
    generalize os.set at_ (W + 1 + Int.fmod (Int.fdiv v26 2) (100000 - W), (os[at_]).2) = os2 at *
    refine (zaac (σ1 := g15 ns row W os2 c4 (some (.val (.bl true))) (iV at_) (iV 0) none none) (s1 := s) (by simp)).trans ?_
    refine (zaac (σ1 := g15 ns row W os2 c4 (some (.val (.bl true))) (iV at_) (iV 0) (some (.val .non)) none) (s1 := s) (by simp)).trans ?_
    exact zaep hC (fun h => zaeb hC (hC.many W os2 h) (.inl ⟨rfl, rfl⟩)) (fun h _ => zaeb hC (hC.wide W os2 h hwide) (.inr ⟨rfl, rfl⟩)) (fun _ z => by cases z)
theorem law15 (k : Nat) (ns : List Int) (hT : TB s) : run true fns sub0 whileL (k + 6) 9 [.val (.lst (ns.map .int))] s = .ok (.val (.bl true)) s :=
  (zaap (F := F_law) rfl rfl).trans (congrArg (leave true false) (law_any (has k ns hT)))
theorem math : Math := fun ns _ => ⟨_, law15 10 ns (by unfold TB isTbl; simp)⟩
end Pg
end IP
end
section
namespace PySem.W.Fast
def tw15043288991859663086:=()
def tw6526388781258414212:=()
def tw15767968744665045863:=()
def tw3191079304229221240:=()
def tw13462572101317968595:=()
def tw18349286405237069249:=()
def tw566269131268153265:=()
def tw11165201792073222840:=()
def tw16932355058252181941:=()
def tw16732343385546292468:=()
def tw10732965556434609478:=()
def tw3617421727859175312:=()
def tw9954761135324190253:=()
def tw9389566950611684672:=()
def tw13143704827334138727:=()
def tw5418897244178804144:=()
def tw7839628257408251637:=()
def tw8462849911831026227:=()
def tw16745991779738874363:=()
def tw4994066497993300571:=()
def tw18175892983498307520:=()
def tw8400355661809941790:=()
def tw7208838576980398792:=()
def tw3103397538265834728:=()
def tw5138627110608543137:=()
def tw814463303970615529:=()
def tw9575540611680966903:=()
def tw5801007356322583413:=()
def tw5854072458975220528:=()
def tw3364339794289534541:=()
def tw1001403848020305152:=()
def tw14766162220719741703:=()
def tw5528100105339161762:=()
def tw1411551105058509405:=()
def tw7586806771263119086:=()
def tw15291907367781329846:=()
def tw15969075901627177923:=()
def tw13035679128361554228:=()
def tw10681933785472435189:=()
def tw3842155235162567289:=()
def tw4378895862209371565:=()
def tw6896020478791531234:=()
def tw15555770951687323421:=()
def tw12709396393956897406:=()
def tw13721090533504214119:=()
def tw13628339010004080093:=()
def tw817920391282905981:=()
def tw11245021337754611864:=()
def tw18387934525519494124:=()
def tw12600390727781160823:=()
def tw8692253417741325624:=()
def tw9680901215097750776:=()
def tw3807155076428744046:=()
def tw13571585983460001957:=()
def tw7664302439658371142:=()
def tw2620592477186993152:=()
def tw3695868257287244435:=()
def tw15142954684751709101:=()
def tw8589246708009792348:=()
def tw7001470111790158819:=()
def tw8369726114174239240:=()
def tw11739901173333464729:=()
def tw17298599824184540899:=()
def tw3860355736797905843:=()
def tw12929971411042996201:=()
def tw8833764783135867744:=()
def tw8041137465559048501:=()
def tw1933657273564795758:=()
def tw14606089159723869118:=()
def tw1725525754654476578:=()
def tw14649397327394217775:=()
def tw12538915443609547640:=()
def tw10878872822964019685:=()
def tw13278121660061132926:=()
def tw1732430521310476453:=()
def tw10284613268378927688:=()
def tw8397572853302433362:=()
def tw1355588601530620337:=()
def tw6868790681010832072:=()
def tw4079724755266317102:=()
def tw8269118026946457961:=()
def tw7716427023081390181:=()
def tw6426679837833455112:=()
def tw8406947231432756041:=()
def tw2947439268697289843:=()
def tw3023654729396887579:=()
def tw363595399328784193:=()
def tw2157135128182456101:=()
def tw12450332007039835455:=()
def tw6107364691511207595:=()
def tw6973755891180970570:=()
def tw15233465842205220120:=()
def tw1507201661590453193:=()
def tw4471455199269928901:=()
def tw5817085848721680512:=()
def tw15113344818773195133:=()
def tw1206332373353293146:=()
def tw792711756414681157:=()
def tw9680321063757637346:=()
def tw4608332426964036484:=()
def tw5740099310916777333:=()
def tw8350815700906967554:=()
def tw6847718830283427950:=()
def tw11709339900295339601:=()
def tw1853475941369261808:=()
def tw4517400212603027360:=()
def tw14673277319359941405:=()
def tw1897265014879001052:=()
def tw2637703981258665814:=()
def tw11943913522175515377:=()
def tw11506318938530877398:=()
def tw9345026365054337274:=()
def tw2778543755273071504:=()
end PySem.W.Fast
set_option Elab.async false
set_option maxRecDepth 100000
set_option maxHeartbeats 0
open PySem PySem.W PyProof.Rows
theorem PySem.Challenge.cw_gradecut_k15_not_laid_holds : PySem.Challenge.rw_gradecut_k15_not_laid.Holds := by
  w_on; o_law; k_head; (case hw => w_witness2)
  k_fill
  refine IP.Pg.walk IP.Pg.math (l := PySem.Challenge.rw_gradecut_k15_not_laid) rfl rfl (by first | rfl | decide +kernel) (fun w h Y => PySem.W.km_in_of Y) ?noL ?goF
  case noL => intro w; first | rfl | with_unfolding_all rfl | decide +kernel
  case goF =>
    intro w mg fa cz pt h KX G hmg hz
    refine' IP.Pg.all_mk KX G hmg hz ?aez0 ?aez1 ?qez1 ?aez2 ?qez2 ?hsp ?htk ?gaz0 ?gnz0 ?dcz0 ?caz0 ?moz0 ?mbz0 ?gaz1 ?gnz1 ?dcz1 ?caz1 ?moz1 ?mbz1 ?gaz2 ?gnz2 ?dcz2 ?caz2 ?moz2 ?mbz2 ?kiz0z1 ?kiz1z1 ?kiz2z1 ?kiz0z2 ?kiz1z2 ?kiz2z2 ?xoz0z0 ?xoz1z0 ?xoz2z0 ?a_lay ?l_lay ?c_lay ?k_lay ?az7 ?lz7 ?cz7 ?kz7 ?az6 ?lz6 ?cz6 ?kz6 ?az8 ?lz8 ?cz8 ?kz8 ?az9 ?lz9 ?cz9 ?kz9 ?a_top ?l_top ?c_top ?k_top ?az5 ?lz5 ?cz5 ?kz5 ?az3 ?lz3 ?cz3 ?kz3 ?az4 ?lz4 ?cz4 ?kz4 ?a_law ?l_law ?c_law ?k_law ?gl_MOST_OBLONGS ?z_any ?z_bool ?z_int ?z_isinstance ?z_len ?z_list ?z_max ?z_min ?z_range ?z_tuple
    (case aez0 => k_is)
    (case aez1 => k_is)
    (case qez1 => k_exc)
    (case aez2 => k_is)
    (case qez2 => k_exc)
    (case hsp => k_is)
    (case htk => k_is)
    (case gaz0 => k_is)
    (case gnz0 => k_is)
    (case dcz0 => k_is)
    (case caz0 => k_is)
    (case moz0 => k_is)
    (case mbz0 => k_is)
    (case gaz1 => k_is)
    (case gnz1 => k_is)
    (case dcz1 => k_is)
    (case caz1 => k_is)
    (case moz1 => k_is)
    (case mbz1 => k_is)
    (case gaz2 => k_is)
    (case gnz2 => k_is)
    (case dcz2 => k_is)
    (case caz2 => k_is)
    (case moz2 => k_is)
    (case mbz2 => k_is)
    (case kiz0z1 => kit_is)
    (case kiz1z1 => kit_is)
    (case kiz2z1 => kit_is)
    (case kiz0z2 => kit_is)
    (case kiz1z2 => kit_is)
    (case kiz2z2 => kit_is)
    (case xoz0z0 => kts_exm)
    (case xoz1z0 => kts_exm)
    (case xoz2z0 => kts_exm)
    (case a_lay => k_is)
    (case l_lay => k_is)
    (case c_lay => k_is)
    (case k_lay => k_is)
    (case az7 => k_is)
    (case lz7 => k_is)
    (case cz7 => k_is)
    (case kz7 => k_is)
    (case az6 => k_is)
    (case lz6 => k_is)
    (case cz6 => k_is)
    (case kz6 => k_is)
    (case az8 => k_is)
    (case lz8 => k_is)
    (case cz8 => k_is)
    (case kz8 => k_is)
    (case az9 => k_is)
    (case lz9 => k_is)
    (case cz9 => k_is)
    (case kz9 => k_is)
    (case a_top => k_is)
    (case l_top => k_is)
    (case c_top => k_is)
    (case k_top => k_is)
    (case az5 => k_is)
    (case lz5 => k_is)
    (case cz5 => k_is)
    (case kz5 => k_is)
    (case az3 => k_is)
    (case lz3 => k_is)
    (case cz3 => k_is)
    (case kz3 => k_is)
    (case az4 => k_is)
    (case lz4 => k_is)
    (case cz4 => k_is)
    (case kz4 => k_is)
    (case a_law => k_is)
    (case l_law => k_is)
    (case c_law => k_is)
    (case k_law => k_is)
    (case gl_MOST_OBLONGS => k_is)
    (case z_any => k_is)
    (case z_bool => k_is)
    (case z_int => k_is)
    (case z_isinstance => k_is)
    (case z_len => k_is)
    (case z_list => k_is)
    (case z_max => k_is)
    (case z_min => k_is)
    (case z_range => k_is)
    (case z_tuple => k_is)
end
