import PyProof.Rows.All
import Wide.All
import OpenK.AllK
import Wide.FinOn
import Lean
import PyProof.EqAt
import PyProof.EqKinds
import PyProof.TupleCall
import PyProof.NeKinds
import PySem.Challenge.RW_gradecut_k08_crossing
section
set_option Elab.async false
set_option linter.all false
set_option maxRecDepth 100000
/-! THE HAND LAYER, for ints, bools, texts, own classes, LISTS and tuples (index, slices, in, append, pop ..), calls, loops. Paste it whole ahead of your own text; what your proof does not reach may be deleted. -/
namespace L2
open PySem PySem.Spec PyProof.Rows

/-- a key: an int or a str -/
abbrev Key := Sum Int Str
def keyIs : Key → Value → Bool
  | .inl k, v => Value.isInt k v
  | .inr x, v => Value.isStrOf x v
def keyH (w : World) : Key → Int
  | .inl k => hashInt k
  | .inr x => hashStr w x
theorem keyIs_shape : ∀ {k : Key} {v : Value}, keyIs k v = true → (∃ i t, k = Sum.inl i ∧ v = Value.int i t) ∨ (∃ x t, k = Sum.inr x ∧ v = Value.str x t)
  | .inl i, v, h => by
    obtain ⟨t, e⟩ := Value.isInt_shape (k := i) (v := v) h
    exact .inl ⟨i, t, rfl, e⟩
  | .inr x, v, h => by
    obtain ⟨t, e⟩ := Value.isStrOf_shape (x := x) (v := v) h
    exact .inr ⟨x, t, rfl, e⟩
theorem key_ll (a b : Int) : decide ((Sum.inl a : Key) = Sum.inl b) = (a == b) := by
  by_cases e : a = b
  · subst e; simp
  · have h : ¬ (Sum.inl a : Key) = Sum.inl b := fun q => e (Sum.inl.inj q)
    rw [decide_eq_false h]
    exact (beq_eq_false_iff_ne.mpr e).symm
theorem key_rr (a b : Str) : decide ((Sum.inr a : Key) = Sum.inr b) = decide (a = b) := by
  by_cases e : a = b
  · subst e; simp
  · have h : ¬ (Sum.inr a : Key) = Sum.inr b := fun q => e (Sum.inr.inj q)
    rw [decide_eq_false h, decide_eq_false e]
theorem key_lr (a : Int) (b : Str) : decide ((Sum.inl a : Key) = Sum.inr b) = false := decide_eq_false (fun q => nomatch q)
theorem key_rl (a : Str) (b : Int) : decide ((Sum.inr a : Key) = Sum.inl b) = false := decide_eq_false (fun q => nomatch q)

def mixKind (prog : Program) (w : World) : PySem.KeyKind prog w Key where
  is := keyIs
  hash := keyH w
  inj := fun v a b ha hb => by
    rcases keyIs_shape ha with ⟨i, t, rfl, rfl⟩ | ⟨x, t, rfl, rfl⟩
    · rcases keyIs_shape hb with ⟨j, u, rfl, e⟩ | ⟨y, u, rfl, e⟩
      · injection e with e1 _; rw [e1]
      · exact nomatch e
    · rcases keyIs_shape hb with ⟨j, u, rfl, e⟩ | ⟨y, u, rfl, e⟩
      · exact nomatch e
      · injection e with e1 _; rw [e1]
  byValue := fun k v h => by
    rcases keyIs_shape h with ⟨i, t, rfl, rfl⟩ | ⟨x, t, rfl, rfl⟩ <;> rfl
  pyHash := fun hv h => by
    rcases keyIs_shape hv with ⟨i, t, rfl, rfl⟩ | ⟨x, t, rfl, rfl⟩
    · exact wpAny_pyHash_int h
    · exact wpAny_pyHash_str h
  eqBool := fun hu hv h => by
    rcases keyIs_shape hu with ⟨i, t, rfl, rfl⟩ | ⟨x, t, rfl, rfl⟩
    · rcases keyIs_shape hv with ⟨j, u, rfl, rfl⟩ | ⟨y, u, rfl, rfl⟩
      · rw [key_ll] at h; exact wpAny_eqBool_int h
      · rw [key_lr] at h; exact SeqAt.EqAt.int_str i t y u _ _ _ _ h
    · rcases keyIs_shape hv with ⟨j, u, rfl, rfl⟩ | ⟨y, u, rfl, rfl⟩
      · rw [key_rl] at h; exact SeqAt.EqAt.str_int x t j u _ _ _ _ h
      · rw [key_rr] at h; exact wpAny_eqBool_str h
  «strs» := fun k x t v h => by
    rcases keyIs_shape h with ⟨i, u, rfl, e⟩ | ⟨y, u, rfl, e⟩
    · exact nomatch e
    · injection e with e1 _
      subst e1
      cases v <;> rfl

end L2

namespace L2
open PySem PySem.Spec PyProof.Rows

/-- a value, without the heap -/
inductive V where
  | non | bl (b : Bool) | int (i : Int) | str (x : Str) | byt (b : Array UInt8) | flt (b : UInt64) | ref (a : Addr) | ty (n : String)
  deriving DecidableEq

def RelV : V → Value → Prop
  | .non, u => u = Value.none
  | .bl b, u => u = Value.bool b
  | .int i, u => ∃ t, u = Value.int i t
  | .str x, u => ∃ t, u = Value.str x t
  | .byt b, u => ∃ t, u = Value.bytes b t
  | .flt b, u => ∃ t, u = Value.float b t
  | .ref a, u => u = Value.ref a
  | .ty n, u => u = Value.type n

abbrev Vals : List V → List Value → Prop := Paired RelV
theorem Vals.length {xs : List V} {us : List Value} (r : Vals xs us) : xs.length = us.length := Paired.length r
theorem Vals.get : ∀ {xs : List V} {us : List Value} {i : Nat} {x : V}, Vals xs us → xs[i]? = some x → ∃ u, us[i]? = some u ∧ RelV x u
  | _, _, _, _, .nil, e => by simp at e
  | _, _, 0, _, .cons r _, e => by simp at e; subst e; exact ⟨_, rfl, r⟩
  | _, _, i + 1, x, .cons _ t, e => by
    obtain ⟨u, h1, h2⟩ := Vals.get (i := i) (x := x) t (by simpa using e)
    exact ⟨u, by simpa using h1, h2⟩
theorem Vals.set {x : V} {u : Value} (r : RelV x u) : ∀ {xs : List V} {us : List Value} (i : Nat), Vals xs us → Vals (xs.set i x) (us.set i u)
  | _, _, _, .nil => .nil
  | _, _, 0, .cons _ t => .cons r t
  | _, _, i + 1, .cons q t => .cons q (Vals.set r i t)
theorem Vals.append : ∀ {xs ys : List V} {us ws : List Value}, Vals xs us → Vals ys ws → Vals (xs ++ ys) (us ++ ws)
  | _, _, _, _, .nil, s => s
  | _, _, _, _, .cons r t, s => .cons r (Vals.append t s)
theorem Vals.take : ∀ {xs : List V} {us : List Value} (n : Nat), Vals xs us → Vals (xs.take n) (us.take n)
  | _, _, 0, _ => .nil
  | _, _, _ + 1, .nil => .nil
  | _, _, n + 1, .cons r t => .cons r (Vals.take n t)
theorem Vals.drop : ∀ {xs : List V} {us : List Value} (n : Nat), Vals xs us → Vals (xs.drop n) (us.drop n)
  | _, _, 0, r => r
  | _, _, _ + 1, .nil => .nil
  | _, _, n + 1, .cons _ t => Vals.drop n t

def RelO : Option V → Option Value → Prop
  | some v, some u => RelV v u
  | none, none => True
  | _, _ => False
def KV {κ : Type} : List (κ × V) → List (κ × Value) → Prop := Paired fun (p : κ × V) (q : κ × Value) => p.1 = q.1 ∧ RelV p.2 q.2

/-- a key of a dict (00_mix): an int or a text -/
def kV : Key → V
  | .inl i => .int i
  | .inr x => .str x

/-- what stands at a tracked address -/
inductive HO where
  /-- a list -/
  | lst (xs : List V)
  /-- a tuple (never changes) -/
  | tup (xs : List V)
  /-- a dict whose keys are ints and texts; one whose keys are tuples of ints and texts (the empty one is both) -/
  | dK (kvs : List (Key × V)) | dT (kvs : List (List Key × V))
  /-- a set of ints: its members, its size -/
  | set (S : Int → Bool) (n : Nat)
  /-- an instance of the class at C, its dict at dx, its attributes -/
  | ins (C dx : Addr) (fs : List (Str × V))
  /-- the dict of the instance at x -/
  | own (x : Addr)
  /-- the dict of an exception -/
  | xd (fs : List (Str × V))
  /-- a bound method, f of x -/
  | met (f x : Addr)
  /-- a range object lo, lo + 1, .. below hi -/
  | rng (lo hi : Int)
  /-- a thing that is known to the object (the script; a dict while a loop walks it): read, never written while it is so -/
  | frz (o : Obj) (u : HO)
  /-- a code object's table -/
  | tbl (ps : Array Value)
  /-- any other thing, by what is true of its one object (a def of one's own: SetO a S n := HO.ext fun h => ..) -/
  | ext (φ : Heap → Prop)

abbrev Hp := Addr → Option HO
def upd (H : Hp) (a : Addr) (o : HO) : Hp := fun b => if b = a then some o else H b
theorem upd_same {H : Hp} {a : Addr} {o : HO} : upd H a o a = some o := by unfold upd; rw [if_pos rfl]
theorem upd_ne {H : Hp} {a b : Addr} {o : HO} (h : b ≠ a) : upd H a o b = H b := by unfold upd; rw [if_neg h]
/-- two objects of different content stand apart -/
theorem ne_of {H : Hp} {a b : Addr} {o u : HO} (h : H a = some o) (h' : H b = some u) (d : o ≠ u) : a ≠ b := by
  intro e; subst e; rw [h] at h'; exact d (Option.some.inj h')
theorem ne_of_none {H : Hp} {a b : Addr} {o : HO} (h : H a = some o) (h' : H b = none) : a ≠ b := by
  intro e; subst e; rw [h] at h'; cases h'

section
variable (P : Program) (w : World)
def ObjOk (H : Hp) (h : Heap) (a : Addr) : HO → Prop
  | .lst xs => xs.length ≤ sizeLine ∧ ∃ (its : List Value) (n : Nat), Vals xs its ∧ h.get? a = some { cls := .type "list", data := .seq its.toArray n }
  | .tup xs => xs.length ≤ sizeLine ∧ ∃ its : List Value, Vals xs its ∧ IsTup h a its.toArray
  | .dK kvs => kvs.length ≤ sizeLine ∧ (a == sysModules) = false ∧ ∃ vs, KV kvs vs ∧ h.DictOf (mixKind P w) a vs
  | .dT kvs => kvs.length ≤ sizeLine ∧ (a == sysModules) = false ∧ ∃ xs : List (List Key × Addr × Value),
      Paired (fun (p : List Key × V) (q : List Key × Addr × Value) => p.1 = q.1 ∧ H q.2.1 = some (.tup (p.1.map kV)) ∧ RelV p.2 q.2.2) kvs xs ∧
      ∃ o es ep, h.get? a = some o ∧ o.ExactDict ∧ o.data = .dict es ep ∧ es.toList = xs.map (entryOfKey (tupleKind (mixKind P w))) ∧ (xs.map (·.1)).Nodup
  | .set S n => h.SetOf (intKind P w) a S n
  | .ins C dx fs => H dx = some (.own a) ∧ fs.length ≤ 1000 ∧ dx ≠ a ∧ h.get? a = some (PySem.W.instObj C dx) ∧
      ∃ mA, h.Ns1 dx mA ∧ (∀ f, RelO (fs.lookup f) (mA f)) ∧ PySem.Within mA (fs.map (·.1))
  | .own _ => ∃ o, h.get? a = some o
  | .xd fs => ∃ mA, h.Ns1 a mA ∧ ∀ f, RelO (fs.lookup f) (mA f)
  | .rng lo hi => ∃ t u v, h.get? a = some { cls := .type "range", data := .fields #[.int lo t, .int hi u, .int 1 v] }
  | .frz o u => h.get? a = some o ∧ ObjOk H h a u
  | .tbl ps => h.get? a = some { cls := .none, data := .fields ps }
  | .met f x => h.get? a = some (PySem.W.methodObj (.ref f) (.ref x))
  | .ext φ => φ h ∧ (∃ o, h.get? a = some o) ∧ ∀ h1 h2 : Heap, φ h1 → (∀ o, h1.get? a = some o → h2.get? a = some o) → φ h2
/-- the abstract heap is held -/
def HOk (H : Hp) (h : Heap) : Prop := ∀ a o, H a = some o → ObjOk P w H h a o
end

section
variable {P : Program} {w : World} {H H' : Hp} {h h' : Heap} {a : Addr} {o : HO}
theorem ObjOk.lt (x : ObjOk P w H h a o) : a < h.objs.size := by
  cases o with
  | lst xs => obtain ⟨_, _, _, _, e⟩ := x; exact Heap.lt_size e
  | tup xs => obtain ⟨_, _, _, p⟩ := x; exact p.lt
  | dK kvs => obtain ⟨_, _, _, _, o, _, _, e, _⟩ := x; exact Heap.lt_size e
  | dT kvs => obtain ⟨_, _, _, _, o, _, _, e, _⟩ := x; exact Heap.lt_size e
  | set S n => obtain ⟨o, _, _, _, e, _⟩ := x; exact Heap.lt_size e
  | ins C dx fs => obtain ⟨_, _, _, e, _⟩ := x; exact Heap.lt_size e
  | own y => obtain ⟨_, e⟩ := x; exact Heap.lt_size e
  | xd fs => obtain ⟨_, ⟨_, _, _, e, _⟩, _⟩ := x; exact Heap.lt_size e
  | rng lo hi => obtain ⟨_, _, _, e⟩ := x; exact Heap.lt_size e
  | frz ob u => obtain ⟨e, _⟩ := x; exact Heap.lt_size e
  | tbl ps => exact Heap.lt_size (show h.get? a = some _ from x)
  | met f y => exact Heap.lt_size (show h.get? a = some _ from x)
  | ext φ => obtain ⟨_, ⟨_, e⟩, _⟩ := x; exact Heap.lt_size e
theorem Paired.mapP {α β : Type} {F G : α → β → Prop} : ∀ {l₁ : List α} {l₂ : List β}, Paired F l₁ l₂ → (∀ a b, F a b → G a b) → Paired G l₁ l₂
  | _, _, .nil, _ => .nil
  | _, _, .cons r t, f => .cons (f _ _ r) (Paired.mapP t f)
/-- what an object's description leans on: its own object, its own dict, the tuples -/
theorem ObjOk.stay (x : ObjOk P w H h a o) (k : ∀ b u, (b = a ∨ H b = some (.own a)) → h.get? b = some u → h'.get? b = some u)
    (ho : ∀ b, H b = some (.own a) → H' b = some (.own a)) (ht : ∀ b xs, H b = some (.tup xs) → H' b = some (.tup xs)) : ObjOk P w H' h' a o := by
  induction o with
  | lst xs => obtain ⟨z, its, n, r, e⟩ := x; exact ⟨z, its, n, r, k _ _ (.inl rfl) e⟩
  | tup xs => obtain ⟨z, its, r, ob, e, c⟩ := x; exact ⟨z, its, r, ob, k _ _ (.inl rfl) e, c⟩
  | dK kvs => obtain ⟨z, y, vs, r, ob, es, ep, e, c⟩ := x; exact ⟨z, y, vs, r, ob, es, ep, k _ _ (.inl rfl) e, c⟩
  | dT kvs =>
    obtain ⟨z, y, xs, r, ob, es, ep, e, c⟩ := x
    exact ⟨z, y, xs, Paired.mapP r fun p q z => ⟨z.1, ht _ _ z.2.1, z.2.2⟩, ob, es, ep, k _ _ (.inl rfl) e, c⟩
  | set S n => obtain ⟨ob, es, ep, t, e, c⟩ := x; exact ⟨ob, es, ep, t, k _ _ (.inl rfl) e, c⟩
  | ins C dx fs =>
    obtain ⟨d, z, ne, e, mA, ⟨od, es, ep, e2, c⟩, r⟩ := x
    exact ⟨ho _ d, z, ne, k _ _ (.inl rfl) e, mA, ⟨od, es, ep, k _ _ (.inr d) e2, c⟩, r⟩
  | own y => obtain ⟨ob, e⟩ := x; exact ⟨ob, k _ _ (.inl rfl) e⟩
  | xd fs => obtain ⟨mA, ⟨od, es, ep, e, c⟩, r⟩ := x; exact ⟨mA, ⟨od, es, ep, k _ _ (.inl rfl) e, c⟩, r⟩
  | rng lo hi => obtain ⟨t, u, v, e⟩ := x; exact ⟨t, u, v, k _ _ (.inl rfl) e⟩
  | frz ob u ih => obtain ⟨e, q⟩ := x; exact ⟨k _ _ (.inl rfl) e, ih q⟩
  | tbl ps =>
    have e : h.get? a = some { cls := .none, data := .fields ps } := x
    show h'.get? a = some { cls := .none, data := .fields ps }
    exact k a _ (.inl rfl) e
  | met f y =>
    have e : h.get? a = some (PySem.W.methodObj (.ref f) (.ref y)) := x
    show h'.get? a = some (PySem.W.methodObj (.ref f) (.ref y))
    exact k a _ (.inl rfl) e
  | ext φ => obtain ⟨p, ⟨o, e⟩, st⟩ := x; exact ⟨st _ _ p fun o q => k _ _ (.inl rfl) q, ⟨o, k _ _ (.inl rfl) e⟩, st⟩
theorem HOk.lt (x : HOk P w H h) (e : H a = some o) : a < h.objs.size := (x a o e).lt
theorem HOk.fresh (x : HOk P w H h) (e : h.objs.size ≤ a) : H a = none := by
  cases q : H a with
  | none => rfl
  | some u => exact absurd (Nat.lt_of_lt_of_le (x.lt q) e) (Nat.lt_irrefl _)
/-- every object of the heap is kept -/
theorem HOk.kept (x : HOk P w H h) (k : ∀ b u, h.get? b = some u → h'.get? b = some u) : HOk P w H h' := fun a o e =>
  (x a o e).stay (fun b u _ q => k b u q) (fun _ q => q) fun _ _ q => q
/-- a new object is laid and tracked -/
theorem HOk.laid (x : HOk P w H h) (k : ∀ b u, h.get? b = some u → h'.get? b = some u) (hp : h.objs.size ≤ a) (new : ObjOk P w (upd H a o) h' a o) : HOk P w (upd H a o) h' := fun b u e => by
  have hn := x.fresh hp
  by_cases hb : b = a
  · subst hb; rw [upd_same] at e; cases e; exact new
  · rw [upd_ne hb] at e
    exact (x b u e).stay (fun c v _ q => k c v q) (fun c q => by rw [upd_ne (ne_of_none q hn)]; exact q) fun c xs q => by rw [upd_ne (ne_of_none q hn)]; exact q
end

/-- what may be read as u: it is u, or a known u -/
def Rd (H : Hp) (a : Addr) (u : HO) : Prop := H a = some u ∨ ∃ o, H a = some (.frz o u)
theorem Rd.of {H : Hp} {a : Addr} {u : HO} (h : H a = some u) : Rd H a u := .inl h
theorem Rd.ok {P : Program} {w : World} {H : Hp} {h : Heap} {a : Addr} {u : HO} (r : Rd H a u) (x : HOk P w H h) : ObjOk P w H h a u := by
  rcases r with r | ⟨o, r⟩
  · exact x a u r
  · obtain ⟨_, q⟩ := x a _ r
    exact q
/-- what may be written -/
def Mut : Option HO → Prop
  | some (.lst _) => True
  | some (.dK _) => True
  | some (.dT _) => True
  | some (.set _ _) => True
  | some (.ins _ _ _) => True
  | some (.ext _) => True
  | _ => False
section
variable {P : Program} {w : World} {H : Hp} {h h' : Heap} {x e : Addr} {o' : HO}
/-- the object at e is changed: x itself, or the dict of the instance x -/
theorem HOk.write (ok : HOk P w H h) (mu : Mut (H x)) (he : e = x ∨ H e = some (.own x)) (k : ∀ b u, b ≠ e → h.get? b = some u → h'.get? b = some u) (heo : ∃ u, h'.get? e = some u)
    (new : ObjOk P w (upd H x o') h' x o') : HOk P w (upd H x o') h' := fun b u q => by
  have nown : ∀ c y, H c = some (.own y) → c ≠ x := fun c y r z => by subst z; rw [r] at mu; exact mu
  have ntup : ∀ c xs, H c = some (.tup xs) → c ≠ x := fun c xs r z => by subst z; rw [r] at mu; exact mu
  by_cases hb : b = x
  · subst hb; rw [upd_same] at q; cases q; exact new
  · rw [upd_ne hb] at q
    by_cases hbe : b = e
    · have q' : H b = some (.own x) := by
        rcases he with z | z
        · exact absurd (hbe.trans z) hb
        · rw [hbe]; exact z
      rw [q] at q'; cases q'
      obtain ⟨v, hv⟩ := heo
      exact ⟨v, by rw [hbe]; exact hv⟩
    · refine (ok b u q).stay (fun c v hc r => k c v ?_ r) (fun c r => by rw [upd_ne (nown c b r)]; exact r) fun c xs r => by rw [upd_ne (ntup c xs r)]; exact r
      rcases hc with rfl | hc
      · exact hbe
      · rintro rfl
        rcases he with z | z
        · exact nown c b hc z
        · rw [hc] at z; cases z; exact hb rfl
end

/-! ### kept unless tracked; of the frames at fs (the callers') the slots may change (an exception that passes writes there); of the records at ex (iterators) nothing is said -/
structure Un (fs ex : List Addr) (H H' : Hp) (h h' : Heap) : Prop where
  keep : ∀ b o, h.get? b = some o → H b = none → b ∉ fs → b ∉ ex → h'.get? b = some o
  slot : ∀ b o, h.get? b = some o → H b = none → b ∈ fs → b ∉ ex → ∃ sl, h'.get? b = some { o with slots := sl }
  free : ∀ b o, h.get? b = some o → H b = none → b ∉ ex → H' b = none
  there : ∀ b o, h.get? b = some o → b ∉ ex → ∃ o', h'.get? b = some o'
  tups : ∀ b xs, H b = some (.tup xs) → H' b = some (.tup xs)
  frzs : ∀ b o u, H b = some (.frz o u) → H' b = some (.frz o u)
  tbls : ∀ b ps, H b = some (.tbl ps) → ∃ more, H' b = some (.tbl (ps ++ more))
section
variable {fs fs' ex ex' : List Addr} {H H1 H2 : Hp} {h h1 h2 h' : Heap} {a x e : Addr} {o : HO}
theorem Un.any (u : Un fs ex H H1 h h1) {b : Addr} {ob : Obj} (q : h.get? b = some ob) (n : H b = none) (hx : b ∉ ex) : ∃ sl, h1.get? b = some { ob with slots := sl } := by
  by_cases hb : b ∈ fs
  · exact u.slot b ob q n hb hx
  · exact ⟨ob.slots, u.keep b ob q n hb hx⟩
theorem Un.trans (a : Un fs ex H H1 h h1) (b : Un fs ex H1 H2 h1 h2) : Un fs ex H H2 h h2 where
  keep := fun c ob q n hc hx => b.keep c ob (a.keep c ob q n hc hx) (a.free c ob q n hx) hc hx
  slot := fun c ob q n hc hx => by
    obtain ⟨sl, e1⟩ := a.slot c ob q n hc hx
    obtain ⟨sl', e2⟩ := b.slot c _ e1 (a.free c ob q n hx) hc hx
    exact ⟨sl', e2⟩
  free := fun c ob q n hx => by
    obtain ⟨o', e1⟩ := a.there c ob q hx
    exact b.free c o' e1 (a.free c ob q n hx) hx
  there := fun c ob q hx => by
    obtain ⟨o', e1⟩ := a.there c ob q hx
    exact b.there c o' e1 hx
  tups := fun c xs q => b.tups c xs (a.tups c xs q)
  frzs := fun c ob xs q => b.frzs c ob xs (a.frzs c ob xs q)
  tbls := fun c ps q => by
    obtain ⟨m1, e1⟩ := a.tbls c ps q
    obtain ⟨m2, e2⟩ := b.tbls c _ e1
    exact ⟨m1 ++ m2, by rw [e2, Array.append_assoc]⟩
theorem Un.kept (k : ∀ b u, h.get? b = some u → h'.get? b = some u) : Un fs ex H H h h' :=
  ⟨fun b ob q _ _ _ => k b ob q, fun b ob q _ _ _ => ⟨ob.slots, k b ob q⟩, fun _ _ _ n _ => n, fun b ob q _ => ⟨ob, k b ob q⟩, fun _ _ q => q, fun _ _ _ q => q, fun _ ps q => ⟨#[], by rw [q]; simp⟩⟩
theorem Un.refl : Un fs ex H H h h := Un.kept fun _ _ q => q
theorem Un.laid (k : ∀ b u, h.get? b = some u → h'.get? b = some u) (hp : h.objs.size ≤ a) (hn : H a = none) : Un fs ex H (upd H a o) h h' where
  keep := fun b u q _ _ _ => k b u q
  slot := fun b u q _ _ _ => ⟨u.slots, k b u q⟩
  free := fun b u q n _ => by rw [upd_ne (Nat.ne_of_lt (Nat.lt_of_lt_of_le (Heap.lt_size q) hp))]; exact n
  there := fun b u q _ => ⟨u, k b u q⟩
  tups := fun b xs q => by rw [upd_ne (ne_of_none q hn)]; exact q
  frzs := fun b u xs q => by rw [upd_ne (ne_of_none q hn)]; exact q
  tbls := fun b ps q => ⟨#[], by rw [upd_ne (ne_of_none q hn), q]; simp⟩
theorem Un.write (mu : Mut (H x)) (he : e = x ∨ H e = some (.own x)) (k : ∀ b u, b ≠ e → h.get? b = some u → h'.get? b = some u) (heo : ∃ u, h'.get? e = some u) : Un fs ex H (upd H x o) h h' := by
  have hx : ∀ b, H b = none → b ≠ x := fun b n z => by subst z; rw [n] at mu; exact mu
  have hb : ∀ b, H b = none → b ≠ e := fun b n z => by
    subst z
    rcases he with r | r
    · exact hx b n r
    · rw [n] at r; cases r
  have hm : ∀ b u, H b = some u → ¬ Mut (some u) → b ≠ x := fun b u q nm z => by subst z; rw [q] at mu; exact nm mu
  refine ⟨fun b u q n _ _ => k b u (hb b n) q, fun b u q n _ _ => ⟨u.slots, k b u (hb b n) q⟩, fun b u q n _ => by rw [upd_ne (hx b n)]; exact n, fun b u q _ => ?_,
    fun b xs q => by rw [upd_ne (hm b _ q fun z => z)]; exact q, fun b u xs q => by rw [upd_ne (hm b _ q fun z => z)]; exact q, fun b ps q => ⟨#[], by rw [upd_ne (hm b _ q fun z => z), q]; simp⟩⟩
  by_cases hbe : b = e
  · subst hbe; exact heo
  · exact ⟨u, k b u hbe q⟩
theorem Un.mono (u : Un fs ex H H1 h h1) (hs : ∀ b ∈ fs, b ∈ fs') (hx : ∀ b ∈ ex, b ∈ ex') : Un fs' ex' H H1 h h1 :=
  ⟨fun b ob q n hb he => u.keep b ob q n (fun z => hb (hs b z)) fun z => he (hx b z), fun _ _ q n _ he => u.any q n fun z => he (hx _ z), fun b ob q n he => u.free b ob q n fun z => he (hx b z), fun b ob q he => u.there b ob q fun z => he (hx b z), u.tups, u.frzs, u.tbls⟩
end

/-! ### the heap without what is tracked -/
def trk (h : Heap) (H : Hp) : List Addr := (List.range h.objs.size).filter fun a => (H a).isSome
def hidT (h : Heap) (H : Hp) : Heap := PySem.W.hideAll h (trk h H)
theorem hidT_size (h : Heap) (H : Hp) : (hidT h H).objs.size = h.objs.size := PySem.W.hideAll_size _ _
theorem hidT_get {h : Heap} {H : Hp} {b : Addr} {o : Obj} (e : h.get? b = some o) (n : H b = none) : (hidT h H).get? b = some o :=
  PySem.W.hideAll_get _ e fun hm => by
    have q : (H b).isSome = true := (List.mem_filter.mp hm).2
    rw [n] at q; simp at q
theorem of_hidT {h : Heap} {H : Hp} {b : Addr} {o : Obj} (e : (hidT h H).get? b = some o) : h.get? b = some o ∧ H b = none := by
  have e' : h.get? b = some o := PySem.W.of_hideAll (trk h H) e
  refine ⟨e', ?_⟩
  cases q : H b with
  | none => rfl
  | some x =>
    have hm : b ∈ trk h H := List.mem_filter.mpr ⟨List.mem_range.mpr (Heap.lt_size e'), by simp [q]⟩
    have z : (hidT h H).get? b = none := PySem.W.hideAll_none (trk h H) hm
    rw [z] at e; cases e

/-! ### OpenK's ledger, filled with every new object but one -/
def allNews (g h : Heap) (L : Addr) : List (Addr × Obj) := (List.range h.objs.size).filterMap fun a => if a = L ∨ (g.get? a).isSome = true then none else (h.get? a).map fun o => (a, o)
def rest (g h : Heap) (L d : Addr) : List (Addr × Obj) := (allNews g h L).filter fun p => decide (p.1 ≠ d)
end L2

namespace L2
open PySem PySem.Spec PyProof.Rows

/-- the module's facts, over the base: the heap at the law's entry without what is tracked there -/
structure Mod (K : PySem.W.Frag) (mg : Str → Option Value) (base : Heap) : Prop where
  kin : K.In base
  glob : base.Ns mainGlobals mg
  blt : ∃ mb, base.Ns builtinsNs mb ∧ ∀ x : Str, x ≠ "__name__" → mb x = bootBuiltins x
  nolimit : base.NoLimit

/-- the context: a def's body (or a comprehension's block) running. base: fixed through the whole law; s₀, H₀: the entry; outer: the frames whose slots others may change (a def's callers); stack: all frames that run;
   ex: iterators that were made ahead of the entry and are walked here (a comprehension's); fn: the names whose cells were made at the entry (a def: all; a comprehension's block: its own); calm: not within an except suite; pn: pins that every state bears; xe: what is wanted of an exception that leaves the code -/
structure Cx where
  prog : Program
  w : World
  K : PySem.W.Frag
  mg : Str → Option Value
  base : Heap
  A : Around
  N : List Str
  s₀ : Shared
  H₀ : Hp
  env : Env
  outer : List Env
  stack : List Env
  ex : List Addr
  fn : Str → Bool
  calm : Bool
  pn : List (Addr × Obj)
  xe : Value → Shared → Prop
/-- the callers' frames -/
def frs (l : List Env) : List Addr := l.filterMap (·.frame)
abbrev Cx.fs (X : Cx) : List Addr := frs X.outer

def Vis (sc : Scope) (x : Str) : Prop := sc.names.lookup x = some .local ∨ sc.names.lookup x = some .cell ∨ sc.names.lookup x = some .free
def Loc (sc : Scope) (x : Str) : Prop := sc.names.lookup x = some .local ∨ sc.names.lookup x = some .cell
def Look (env : Env) (h : Heap) (m : Str → Option Value) (x : Str) (u : Value) : Prop :=
  (env.kindOf x = some .local ∧ m x = some u) ∨ ((env.kindOf x = some .cell ∨ env.kindOf x = some .free) ∧ ∃ c, env.cells.lookup x = some c ∧ h.IsCell c (some u))

structure Cx.Ok (X : Cx) : Prop where
  mod : Mod X.K X.mg X.base
  kind : X.env.scope.kind = .function
  glob : X.env.globals = mainGlobals
  blt : X.env.builtins = builtinsNs
  above : X.s₀.heap.objs.size ≤ X.env.locals
  inj : ∀ x y c, X.env.cells.lookup x = some c → X.env.cells.lookup y = some c → x = y
  has : ∀ x, (X.env.kindOf x = some .cell ∨ X.env.kindOf x = some .free) → ∃ c, X.env.cells.lookup x = some c
  cab : ∀ x c, X.fn x = true → X.env.cells.lookup x = some c → X.s₀.heap.objs.size ≤ c
  hd : X.calm = true → X.A.handled = none
  frames : X.A.frames = some X.stack
  stk : X.stack = X.outer ∨ (X.stack = X.env :: X.outer ∧ X.env.frame = some X.env.locals)
  exf : ∀ b ∈ X.ex, b ≠ X.env.locals ∧ ∀ x c, X.env.cells.lookup x = some c → c ≠ b
  bs : ∀ b o, X.base.get? b = some o → X.s₀.heap.get? b = some o ∧ X.H₀ b = none
  bsz : X.base.objs.size ≤ X.s₀.heap.objs.size
  noex : ∀ b o, X.base.get? b = some o → b ∉ X.ex
  exfs : ∀ b ∈ X.ex, b ∉ X.fs
  funs : X.s₀.heap.FunFrames X.base X.outer
  frf : ∀ b ∈ X.fs, X.H₀ b = none

structure Inv (X : Cx) (pins : List (Addr × Obj)) (σ : List (Option V)) (H : Hp) (s : Shared) : Prop where
  ok : X.Ok
  os : s.os = X.s₀.os
  bare : AllBare s.gens
  base : Un X.fs X.ex X.H₀ H X.s₀.heap s.heap
  loc : ∃ m, s.heap.Ns X.env.locals m ∧ ∀ (i : Nat) (x : Str) (v : V), X.N[i]? = some x → σ[i]? = some (some v) → Vis X.env.scope x → ∃ u, RelV v u ∧ Look X.env s.heap m x u
  cell : ∀ x c, X.env.cells.lookup x = some c → ∃ v, s.heap.IsCell c v
  free : H X.env.locals = none
  freeC : ∀ x c, X.env.cells.lookup x = some c → H c = none
  pin : ∀ p ∈ X.pn ++ pins, s.heap.get? p.1 = some p.2 ∧ H p.1 = none ∧ p.1 ≠ X.env.locals ∧ p.1 ∉ X.fs ∧ ∀ v, p.2.data ≠ .cell v
  hok : HOk X.prog X.w H s.heap
  len : σ.length = X.N.length

section
variable {X : Cx} {pins : List (Addr × Obj)} {σ : List (Option V)} {H H' : Hp} {s : Shared} {h' : Heap}

theorem Cx.Ok.nofr (ok : X.Ok) {b : Addr} {o : Obj} (e : X.base.get? b = some o) : b ∉ X.fs := fun hb => by
  have := (ok.funs.mem hb).1
  rw [e] at this; cases this
theorem Inv.bs (I : Inv X pins σ H s) : ∀ b o, X.base.get? b = some o → s.heap.get? b = some o ∧ H b = none := fun b o e =>
  ⟨I.base.keep b o (I.ok.bs b o e).1 (I.ok.bs b o e).2 (I.ok.nofr e) (I.ok.noex b o e), I.base.free b o (I.ok.bs b o e).1 (I.ok.bs b o e).2 (I.ok.noex b o e)⟩
theorem Inv.bk (I : Inv X pins σ H s) : ∀ b o, X.base.get? b = some o → s.heap.get? b = some o := fun b o e => (I.bs b o e).1
theorem Inv.mod (I : Inv X pins σ H s) : Mod X.K X.mg X.base := I.ok.mod
theorem Inv.kIn (I : Inv X pins σ H s) : X.K.In s.heap := I.ok.mod.kin.keeps I.bk
theorem Inv.nolimit (I : Inv X pins σ H s) : s.heap.NoLimit := I.ok.mod.nolimit.keeps I.bk
/-- the frame over the base: for OpenK's rules (K.In X.base is I.mod.kin) -/
theorem Inv.fr (I : Inv X pins σ H s) : ∃ m, Fr X.base X.env.locals s.heap m :=
  let ⟨m, hn, _⟩ := I.loc
  ⟨m, hn, I.bk, Nat.le_trans I.ok.bsz I.ok.above⟩
theorem Inv.lt (I : Inv X pins σ H s) : X.env.locals < s.heap.objs.size := let ⟨_, hn, _⟩ := I.loc; hn.lt
theorem Inv.sz (I : Inv X pins σ H s) : X.s₀.heap.objs.size ≤ s.heap.objs.size := Nat.le_trans I.ok.above (Nat.le_of_lt I.lt)
theorem Inv.nofs (I : Inv X pins σ H s) {a : Addr} (h : s.heap.objs.size ≤ a) : a ∉ X.fs := fun hb => by
  obtain ⟨_, o, ho, _⟩ := I.ok.funs.mem hb
  exact absurd (Nat.lt_of_lt_of_le (Heap.lt_size ho) (Nat.le_trans I.sz h)) (Nat.lt_irrefl _)
theorem Inv.cne (I : Inv X pins σ H s) : ∀ x c, X.env.cells.lookup x = some c → c ≠ X.env.locals := fun x c e z => by
  obtain ⟨v, o, ho, hd⟩ := I.cell x c e
  obtain ⟨m, ⟨o', es, ep, ho', hd', _⟩, _⟩ := I.loc
  rw [z, ho'] at ho; cases ho; rw [hd'] at hd; cases hd
theorem Inv.funs (I : Inv X pins σ H s) : s.heap.FunFrames X.base X.outer := by
  have all : ∀ (l : List Env), (∀ b ∈ frs l, b ∈ X.fs) → X.s₀.heap.FunFrames X.base l → s.heap.FunFrames X.base l := by
    intro l
    induction l with
    | nil => intro _ _; trivial
    | cons env r ih =>
      intro hs hl
      obtain ⟨hk, ⟨L, o, hf, hn, ho, hd⟩, hr⟩ := hl
      have hL : L ∈ X.fs := hs L (by unfold frs; rw [List.filterMap_cons, hf]; exact List.mem_cons_self)
      obtain ⟨sl, e⟩ := I.base.slot L o ho (I.ok.frf L hL) hL fun z => I.ok.exfs L z hL
      exact ⟨hk, ⟨L, _, hf, hn, e, hd⟩, ih (fun b hb => hs b (by unfold frs; rw [List.filterMap_cons, hf]; exact List.mem_cons_of_mem _ hb)) hr⟩
  exact all X.outer (fun _ hb => hb) I.ok.funs

/-- the frames that run, for a call -/
theorem Inv.stack (I : Inv X pins σ H s) : s.heap.FunFrames X.base X.stack := by
  rcases I.ok.stk with e | ⟨e, hf⟩
  · rw [e]; exact I.funs
  · rw [e]
    obtain ⟨m, hn, _⟩ := I.loc
    refine .cons (by rw [I.ok.kind]; decide) hf hn ?_ I.funs
    exact Heap.get?_none_of_le (Nat.le_trans I.ok.bsz I.ok.above)
theorem Inv.stkSub (I : Inv X pins σ H s) : ∀ b ∈ frs X.stack, b ∈ X.env.locals :: X.fs := fun b hb => by
  rcases I.ok.stk with e | ⟨e, hf⟩
  · rw [e] at hb; exact List.mem_cons_of_mem _ hb
  · rw [e] at hb
    unfold frs at hb
    rw [List.filterMap_cons, hf] at hb
    exact hb
theorem Inv.stkFree (I : Inv X pins σ H s) : ∀ b ∈ frs X.stack, H b = none := fun b hb => by
  rcases List.mem_cons.mp (I.stkSub b hb) with e | hb
  · rw [e]; exact I.free
  · obtain ⟨_, o, ho, _⟩ := I.ok.funs.mem hb
    exact I.base.free b o ho (I.ok.frf b hb) fun z => I.ok.exfs b z hb

/-- THE STEP: the untracked objects but the frame and the records at ch are kept (the callers' frames up to slots), the frame's map is kept, the new abstract heap is held -/
theorem Inv.step {g' : Array GenState} {t' : Nat} {d' : Drawn} {ch : List Addr} (I : Inv X pins σ H s)
    (hch : ∀ b ∈ ch, (b ∈ X.ex ∨ X.s₀.heap.objs.size ≤ b) ∧ b ≠ X.env.locals ∧ (∀ x c, X.env.cells.lookup x = some c → c ≠ b) ∧ ∀ p ∈ X.pn ++ pins, p.1 ≠ b)
    (keep : ∀ b o, b ≠ X.env.locals → b ∉ X.fs → b ∉ ch → s.heap.get? b = some o → H b = none → h'.get? b = some o)
    (slot : ∀ b o, b ≠ X.env.locals → b ∈ X.fs → b ∉ ch → s.heap.get? b = some o → H b = none → ∃ sl, h'.get? b = some { o with slots := sl }) (free : ∀ b o, b ∉ ch → s.heap.get? b = some o → H b = none → H' b = none)
    (there : ∀ b o, b ∉ ch → s.heap.get? b = some o → ∃ o', h'.get? b = some o')
    (tups : ∀ b xs, H b = some (.tup xs) → H' b = some (.tup xs)) (frzs : ∀ b o u, H b = some (.frz o u) → H' b = some (.frz o u)) (tbls : ∀ b ps, H b = some (.tbl ps) → ∃ more, H' b = some (.tbl (ps ++ more)))
    (ns : ∀ m, s.heap.Ns X.env.locals m → h'.Ns X.env.locals m) (hok : HOk X.prog X.w H' h') (hg : AllBare g') :
    Inv X pins σ H' { s with heap := h', gens := g', drawn := d', toks := t' } := by
  have neL : ∀ b o, X.s₀.heap.get? b = some o → b ≠ X.env.locals := fun b o e => Nat.ne_of_lt (Nat.lt_of_lt_of_le (Heap.lt_size e) I.ok.above)
  have neC : ∀ b o, X.s₀.heap.get? b = some o → b ∉ X.ex → b ∉ ch := fun b o e hx hb => by
    rcases (hch b hb).1 with z | z
    · exact hx z
    · exact absurd (Nat.lt_of_lt_of_le (Heap.lt_size e) z) (Nat.lt_irrefl _)
  have cellK : ∀ x c, X.env.cells.lookup x = some c → ∀ v, s.heap.IsCell c v → h'.IsCell c v := fun x c e v ⟨o, ho, hd⟩ => by
    have nch : c ∉ ch := fun z => (hch c z).2.2.1 x c e rfl
    by_cases hc : c ∈ X.fs
    · obtain ⟨sl, q⟩ := slot c o (I.cne x c e) hc nch ho (I.freeC x c e)
      exact ⟨_, q, hd⟩
    · exact ⟨o, keep c o (I.cne x c e) hc nch ho (I.freeC x c e), hd⟩
  refine ⟨I.ok, I.os, hg, ⟨fun b o e n hb hx => ?_, fun b o e n hb hx => ?_, fun b o e n hx => ?_, fun b o e hx => ?_, fun b xs e => tups b xs (I.base.tups b xs e), fun b o xs e => frzs b o xs (I.base.frzs b o xs e), fun b ps e => ?_⟩, ?_, fun x c e => ?_, ?_, fun x c e => ?_, fun p hp => ?_, hok, I.len⟩
  · exact keep b o (neL b o e) hb (neC b o e hx) (I.base.keep b o e n hb hx) (I.base.free b o e n hx)
  · obtain ⟨sl, e1⟩ := I.base.slot b o e n hb hx
    obtain ⟨sl', e2⟩ := slot b _ (neL b o e) hb (neC b o e hx) e1 (I.base.free b o e n hx)
    exact ⟨sl', e2⟩
  · obtain ⟨o', e1⟩ := I.base.there b o e hx
    exact free b o' (neC b o e hx) e1 (I.base.free b o e n hx)
  · obtain ⟨o', e1⟩ := I.base.there b o e hx
    exact there b o' (neC b o e hx) e1
  · obtain ⟨m1, e1⟩ := I.base.tbls b ps e
    obtain ⟨m2, e2⟩ := tbls b _ e1
    exact ⟨m1 ++ m2, by rw [e2, Array.append_assoc]⟩
  · obtain ⟨m, hn, hl⟩ := I.loc
    refine ⟨m, ns m hn, fun i x v e1 e2 e3 => ?_⟩
    obtain ⟨u, r, l⟩ := hl i x v e1 e2 e3
    refine ⟨u, r, ?_⟩
    rcases l with l | ⟨k, c, e, z⟩
    · exact .inl l
    · exact .inr ⟨k, c, e, cellK x c e _ z⟩
  · obtain ⟨v, z⟩ := I.cell x c e
    exact ⟨v, cellK x c e v z⟩
  · obtain ⟨m, ⟨o, _, _, ho, _⟩, _⟩ := I.loc
    exact free _ o (fun z => (hch _ z).2.1 rfl) ho I.free
  · obtain ⟨v, o, ho, hd⟩ := I.cell x c e
    exact free c o (fun z => (hch c z).2.2.1 x c e rfl) ho (I.freeC x c e)
  · obtain ⟨e, n, ne, nf, d⟩ := I.pin p hp
    have nch : p.1 ∉ ch := fun z => (hch p.1 z).2.2.2 p hp rfl
    exact ⟨keep p.1 p.2 ne nf nch e n, free p.1 p.2 nch e n, ne, nf, d⟩
/-- .. where the frame's own object is kept too -/
theorem Inv.un {t' : Nat} (I : Inv X pins σ H s) (u : Un X.fs [] H H' s.heap h') (hok : HOk X.prog X.w H' h') : Inv X pins σ H' { s with heap := h', toks := t' } := by
  obtain ⟨m, ⟨o, es, ep, ho, r⟩, _⟩ := id I.loc
  obtain ⟨sl, hL⟩ := u.any ho I.free (by simp)
  exact I.step (g' := s.gens) (d' := s.drawn) (ch := []) (fun _ z => nomatch z) (fun b o _ hb _ e n => u.keep b o e n hb (by simp)) (fun b o _ hb _ e n => u.slot b o e n hb (by simp)) (fun b o _ e n => u.free b o e n (by simp)) (fun b o _ e => u.there b o e (by simp)) u.tups u.frzs u.tbls (fun m' hm => by
    obtain ⟨o', es', ep', ho', r'⟩ := hm
    rw [ho] at ho'; cases ho'
    exact ⟨_, es', ep', hL, r'⟩) hok I.bare
/-- behind a call (or a comprehension's block): the slots of this frame may have changed too, the records at ch may have turned -/
theorem Inv.call {g' : Array GenState} {t' : Nat} {d' : Drawn} {ch : List Addr} (I : Inv X pins σ H s) (u : Un (frs X.stack) ch H H' s.heap h') (hok : HOk X.prog X.w H' h') (hg : AllBare g')
    (hch : ∀ b ∈ ch, (b ∈ X.ex ∨ X.s₀.heap.objs.size ≤ b) ∧ b ≠ X.env.locals ∧ (∀ x c, X.env.cells.lookup x = some c → c ≠ b) ∧ ∀ p ∈ X.pn ++ pins, p.1 ≠ b) :
    Inv X pins σ H' { s with heap := h', gens := g', drawn := d', toks := t' } := by
  obtain ⟨m, ⟨o, es, ep, ho, r⟩, _⟩ := id I.loc
  obtain ⟨sl, hL⟩ := u.any ho I.free fun z => (hch _ z).2.1 rfl
  exact I.step (ch := ch) hch (fun b o hL hb hc e n => u.keep b o e n (fun z => (List.mem_cons.mp (I.stkSub b z)).elim hL hb) hc) (fun b o _ _ hc e n => u.any e n hc) (fun b o hc e n => u.free b o e n hc) (fun b o hc e => u.there b o e hc) u.tups u.frzs u.tbls (fun m' hm => by
    obtain ⟨o', es', ep', ho', r'⟩ := hm
    rw [ho] at ho'; cases ho'
    exact ⟨_, es', ep', hL, r'⟩) hok hg
/-- an untracked record of ours (an iterator) has turned -/
theorem Inv.turned {t' : Nat} {it : Addr} (I : Inv X pins σ H s) (k : ∀ b o, b ≠ it → s.heap.get? b = some o → h'.get? b = some o) (hn : H it = none) (hL : it ≠ X.env.locals)
    (h1 : it ∈ X.ex ∨ X.s₀.heap.objs.size ≤ it) (h2 : ∀ x c, X.env.cells.lookup x = some c → c ≠ it) (h3 : ∀ p ∈ X.pn ++ pins, p.1 ≠ it) : Inv X pins σ H { s with heap := h', toks := t' } := by
  have nit : ∀ b u, H b = some u → b ≠ it := fun b u e z => by rw [z, hn] at e; cases e
  refine I.step (g' := s.gens) (d' := s.drawn) (ch := [it]) (fun b hb => ?_) (fun b o _ _ hc e _ => k b o (fun z => hc (by simp [z])) e) (fun b o _ _ hc e _ => ⟨o.slots, k b o (fun z => hc (by simp [z])) e⟩) (fun _ _ _ _ n => n)
    (fun b o hc e => ⟨o, k b o (fun z => hc (by simp [z])) e⟩) (fun _ _ e => e) (fun _ _ _ e => e) (fun b ps e => ⟨#[], by rw [e]; simp⟩) (fun m hm => ?_) (fun b u e => ?_) I.bare
  · have e : b = it := by simpa using hb
    subst e
    exact ⟨h1, hL, h2, h3⟩
  · obtain ⟨o, es, ep, ho, r⟩ := hm
    exact ⟨o, es, ep, k _ o (Ne.symm hL) ho, r⟩
  · refine (I.hok b u e).stay (fun c v hc q => k c v ?_ q) (fun _ q => q) fun _ _ q => q
    rcases hc with z | z
    · rw [z]; exact nit b u e
    · exact nit c _ z
theorem Inv.tok (I : Inv X pins σ H s) (t : Nat) : Inv X pins σ H { s with toks := t } := I.un (h' := s.heap) (t' := t) Un.refl I.hok
/-- all objects kept -/
theorem Inv.kept {t' : Nat} (I : Inv X pins σ H s) (k : ∀ b u, s.heap.get? b = some u → h'.get? b = some u) : Inv X pins σ H { s with heap := h', toks := t' } := I.un (Un.kept k) (I.hok.kept k)
/-- a new object laid and tracked -/
theorem Inv.laid {a : Addr} {o : HO} {t' : Nat} (I : Inv X pins σ H s) (k : ∀ b u, s.heap.get? b = some u → h'.get? b = some u) (hp : s.heap.objs.size ≤ a) (new : ObjOk X.prog X.w (upd H a o) h' a o) :
    Inv X pins σ (upd H a o) { s with heap := h', toks := t' } := I.un (Un.laid k hp (I.hok.fresh hp)) (I.hok.laid k hp new)
/-- an object written -/
theorem Inv.write {x e : Addr} {o : HO} {t' : Nat} (I : Inv X pins σ H s) (mu : Mut (H x)) (he : e = x ∨ H e = some (.own x)) (k : ∀ b u, b ≠ e → s.heap.get? b = some u → h'.get? b = some u) (heo : ∃ u, h'.get? e = some u)
    (new : ObjOk X.prog X.w (upd H x o) h' x o) : Inv X pins σ (upd H x o) { s with heap := h', toks := t' } := I.un (Un.write mu he k heo) (I.hok.write mu he k heo new)
/-- forgetting slots, pins -/
theorem Inv.weak {σ' : List (Option V)} (I : Inv X pins σ H s) (hl : σ'.length = σ.length) (w : ∀ (i : Nat) v, σ'[i]? = some (some v) → σ[i]? = some (some v)) : Inv X pins σ' H s :=
  ⟨I.ok, I.os, I.bare, I.base, let ⟨m, hn, hl'⟩ := I.loc; ⟨m, hn, fun i x v e1 e2 e3 => hl' i x v e1 (w i v e2) e3⟩, I.cell, I.free, I.freeC, I.pin, I.hok, hl.trans I.len⟩
theorem Inv.pins_of {pins' : List (Addr × Obj)} (I : Inv X pins σ H s) (h : ∀ p ∈ pins', s.heap.get? p.1 = some p.2 ∧ H p.1 = none ∧ p.1 ≠ X.env.locals ∧ p.1 ∉ X.fs ∧ ∀ v, p.2.data ≠ .cell v) : Inv X pins' σ H s :=
  ⟨I.ok, I.os, I.bare, I.base, I.loc, I.cell, I.free, I.freeC, fun p hp => (List.mem_append.mp hp).elim (fun z => I.pin p (List.mem_append_left _ z)) (h p), I.hok, I.len⟩

theorem nodup_ix {N : List Str} (hN : N.Nodup) {i j : Nat} {x : Str} (a : N[i]? = some x) (b : N[j]? = some x) : i = j := by
  obtain ⟨h1, e1⟩ := List.getElem?_eq_some_iff.mp a
  obtain ⟨h2, e2⟩ := List.getElem?_eq_some_iff.mp b
  exact (List.getElem_inj hN).mp (e1.trans e2.symm)

/-- a name is stored; what changed -/
theorem store_ok2 {M : Model} {A : Around} {E : Value → Shared → Prop} {i : Nat} {x : Str} {v : V} {u : Value} {Q : Unit → Shared → Prop} (I : Inv X pins σ H s) (hN : X.N.Nodup) (hi : X.N[i]? = some x) (hx : Loc X.env.scope x) (r : RelV v u)
    (h : ∀ s', Inv X pins (σ.set i (some v)) H s' → (∃ a, Heap.SameBut a s.heap s'.heap ∧ (a = X.env.locals ∨ X.env.cells.lookup x = some a)) → Q () s') (hf : X.fn x = true ∨ X.env.scope.names.lookup x = some .local := by first | exact .inl rfl | exact .inr rfl | assumption) : wpAny M A (storeName X.env x u) Q E s := by
  obtain ⟨m, hn, hl⟩ := id I.loc
  have hcls : (X.env.scope.kind == .class || (X.env.scope.kind == .module && X.env.locals != X.env.globals)) = false := by rw [I.ok.kind]; rfl
  have hiσ : i < σ.length := by rw [I.len]; exact (List.getElem?_eq_some_iff.mp hi).1
  have cne := I.cne
  have tracked : ∀ {a : Addr} {h' : Heap}, (∃ o, s.heap.get? a = some o ∧ H a = none) → Heap.SameBut a s.heap h' → HOk X.prog X.w H h' := fun {a h'} ha hs b ob e => by
    obtain ⟨_, _, hfree⟩ := ha
    refine (I.hok b ob e).stay (fun c w' hc q => (hs.2 c ?_).trans q) (fun _ q => q) fun _ _ q => q
    rintro rfl
    rcases hc with rfl | hc
    · rw [hfree] at e; cases e
    · rw [hfree] at hc; cases hc
  rcases hx with hk | hk
  · refine wpAny_storeName_local hk hn (fun h' hn' hs => ?_) hcls
    obtain ⟨oL, _, _, hoL, _⟩ := id hn
    refine h _ ⟨I.ok, I.os, I.bare, ⟨fun b o e n hb hx => ?_, fun b o e n hb hx => ?_, I.base.free, fun b o e hx => ?_, I.base.tups, I.base.frzs, I.base.tbls⟩, ⟨_, hn', fun j y v' e1 e2 e3 => ?_⟩, fun y c e => ?_, I.free, I.freeC, fun p hp => ?_, tracked ⟨oL, hoL, I.free⟩ hs, by simpa using I.len⟩ ⟨_, hs, .inl rfl⟩
    · exact (hs.2 b (Nat.ne_of_lt (Nat.lt_of_lt_of_le (Heap.lt_size e) I.ok.above))).trans (I.base.keep b o e n hb hx)
    · obtain ⟨sl, e1⟩ := I.base.slot b o e n hb hx
      exact ⟨sl, (hs.2 b (Nat.ne_of_lt (Nat.lt_of_lt_of_le (Heap.lt_size e) I.ok.above))).trans e1⟩
    · obtain ⟨o', e1⟩ := I.base.there b o e hx
      exact ⟨o', (hs.2 b (Nat.ne_of_lt (Nat.lt_of_lt_of_le (Heap.lt_size e) I.ok.above))).trans e1⟩
    · by_cases hj : j = i
      · subst hj
        rw [hi] at e1; cases e1
        rw [List.getElem?_set_self hiσ] at e2
        cases e2
        exact ⟨u, r, .inl ⟨hk, by simp⟩⟩
      · rw [List.getElem?_set_ne (Ne.symm hj)] at e2
        obtain ⟨u', r', q⟩ := hl j y v' e1 e2 e3
        refine ⟨u', r', ?_⟩
        rcases q with ⟨k, e⟩ | ⟨k, c, e, z⟩
        · refine .inl ⟨k, ?_⟩
          have : y ≠ x := fun e => hj (nodup_ix hN e1 (e ▸ hi))
          simp [this, e]
        · exact .inr ⟨k, c, e, z.sameBut hs (cne y c e)⟩
    · obtain ⟨w', z⟩ := I.cell y c e
      exact ⟨w', z.sameBut hs (cne y c e)⟩
    · obtain ⟨e, n, ne, nf, d⟩ := I.pin p hp
      exact ⟨(hs.2 p.1 ne).trans e, n, ne, nf, d⟩
  · have hfn : X.fn x = true := by
      rcases hf with z | z
      · exact z
      · rw [z] at hk; cases hk
    obtain ⟨c, hc⟩ := I.ok.has x (.inl hk)
    obtain ⟨w', z⟩ := I.cell x c hc
    refine wpAny_storeName_cell I.ok.kind hk hc z (fun h' hc' hs => ?_)
    obtain ⟨oc, hoc, hocd⟩ := id z
    refine h { s with heap := h' } ⟨I.ok, I.os, I.bare, ⟨fun b o e n hb hx => ?_, fun b o e n hb hx => ?_, I.base.free, fun b o e hx => ?_, I.base.tups, I.base.frzs, I.base.tbls⟩, ⟨m, hn.sameBut hs (Ne.symm (cne x c hc)), fun j y v' e1 e2 e3 => ?_⟩, fun y c' e => ?_, I.free, I.freeC, fun p hp => ?_, tracked ⟨oc, hoc, I.freeC x c hc⟩ hs, by simpa using I.len⟩ ⟨c, hs, .inr hc⟩
    · exact (hs.2 b (Nat.ne_of_lt (Nat.lt_of_lt_of_le (Heap.lt_size e) (I.ok.cab x c hfn hc)))).trans (I.base.keep b o e n hb hx)
    · obtain ⟨sl, e1⟩ := I.base.slot b o e n hb hx
      exact ⟨sl, (hs.2 b (Nat.ne_of_lt (Nat.lt_of_lt_of_le (Heap.lt_size e) (I.ok.cab x c hfn hc)))).trans e1⟩
    · obtain ⟨o', e1⟩ := I.base.there b o e hx
      exact ⟨o', (hs.2 b (Nat.ne_of_lt (Nat.lt_of_lt_of_le (Heap.lt_size e) (I.ok.cab x c hfn hc)))).trans e1⟩
    · by_cases hj : j = i
      · subst hj
        rw [hi] at e1; cases e1
        rw [List.getElem?_set_self hiσ] at e2
        cases e2
        exact ⟨u, r, .inr ⟨.inl hk, c, hc, hc'⟩⟩
      · rw [List.getElem?_set_ne (Ne.symm hj)] at e2
        obtain ⟨u', r', q⟩ := hl j y v' e1 e2 e3
        refine ⟨u', r', ?_⟩
        rcases q with q | ⟨k, c', e, z'⟩
        · exact .inl q
        · refine .inr ⟨k, c', e, z'.sameBut hs ?_⟩
          rintro rfl
          exact hj (nodup_ix hN e1 (I.ok.inj _ _ _ e hc ▸ hi))
    · by_cases hcc : c' = c
      · subst hcc; exact ⟨_, hc'⟩
      · obtain ⟨w2, z2⟩ := I.cell y c' e
        exact ⟨w2, z2.sameBut hs hcc⟩
    · obtain ⟨e, n, ne, nf, d⟩ := I.pin p hp
      refine ⟨(hs.2 p.1 ?_).trans e, n, ne, nf, d⟩
      intro q
      rw [q, hoc] at e
      have q' : oc = p.2 := Option.some.inj e
      exact d w' (by rw [← q']; exact hocd)
theorem store_ok {M : Model} {A : Around} {E : Value → Shared → Prop} {i : Nat} {x : Str} {v : V} {u : Value} {Q : Unit → Shared → Prop} (I : Inv X pins σ H s) (hN : X.N.Nodup) (hi : X.N[i]? = some x) (hx : Loc X.env.scope x) (r : RelV v u)
    (h : ∀ s', Inv X pins (σ.set i (some v)) H s' → Q () s') (hf : X.fn x = true ∨ X.env.scope.names.lookup x = some .local := by first | exact .inl rfl | exact .inr rfl | assumption) : wpAny M A (storeName X.env x u) Q E s :=
  store_ok2 I hN hi hx r (fun s' I' _ => h s' I') hf
/-- behind a call or a block, the state as it is -/
theorem Inv.call' {s' : Shared} {ch : List Addr} (I : Inv X pins σ H s) (ho : s'.os = s.os) (u : Un (frs X.stack) ch H H' s.heap s'.heap) (hok : HOk X.prog X.w H' s'.heap) (hg : AllBare s'.gens)
    (hch : ∀ b ∈ ch, (b ∈ X.ex ∨ X.s₀.heap.objs.size ≤ b) ∧ b ≠ X.env.locals ∧ (∀ x c, X.env.cells.lookup x = some c → c ≠ b) ∧ ∀ p ∈ X.pn ++ pins, p.1 ≠ b) : Inv X pins σ H' s' := by
  obtain ⟨h', g', d', t', o'⟩ := s'
  have e : o' = s.os := ho
  subst e
  exact I.call (g' := g') (t' := t') (d' := d') u hok hg hch
end

/-! ### the judgements -/
/-- an exception: its class, its own dict's address (where it has one), the abstract heap behind it -/
abbrev XK := Value → Option Addr → Hp → Prop
abbrev St := List (Option V)
abbrev VK := V → Hp → Prop
/-- an expression's reading; a test's; an argument list's -/
abbrev TE := St → Hp → VK → Prop
abbrev TT := St → Hp → (Bool → Hp → Prop) → Prop
abbrev TA := St → Hp → (List V → Hp → Prop) → Prop
/-- what is wanted behind a statement -/
structure Ends where
  nx : St → Hp → Prop
  rt : VK
  bk : St → Hp → Prop := fun _ _ => False
  ct : St → Hp → Prop := fun _ _ => False
abbrev TS := Ends → St → Hp → Prop

def EP (X : Cx) (pins : List (Addr × Obj)) (σ : St) (Q : VK) (u : Value) (s' : Shared) : Prop := ∃ v H', Inv X pins σ H' s' ∧ RelV v u ∧ Q v H'
def TP (X : Cx) (pins : List (Addr × Obj)) (σ : St) (Q : Bool → Hp → Prop) (b : Bool) (s' : Shared) : Prop := ∃ H', Inv X pins σ H' s' ∧ Q b H'
def AP (X : Cx) (pins : List (Addr × Obj)) (σ : St) (Q : List V → Hp → Prop) (us : List Value) (s' : Shared) : Prop := ∃ vs H', Inv X pins σ H' s' ∧ Vals vs us ∧ Q vs H'
def SP (X : Cx) (pins : List (Addr × Obj)) (D : Ends) (f : Flow) (s' : Shared) : Prop :=
  match f with
  | .next => ∃ σ' H', Inv X pins σ' H' s' ∧ D.nx σ' H'
  | .brk => ∃ σ' H', Inv X pins σ' H' s' ∧ D.bk σ' H'
  | .cont => ∃ σ' H', Inv X pins σ' H' s' ∧ D.ct σ' H'
  | .ret u => ∃ v σ' H', Inv X pins σ' H' s' ∧ RelV v u ∧ D.rt v H'

def PE (X : Cx) (e : Expr) (t : TE) : Prop :=
  ∀ (pins : List (Addr × Obj)) (s : Shared) (σ : St) (H : Hp) (Q : VK), Inv X pins σ H s → t σ H Q → wpAny (model X.prog X.w) X.A (eval e X.env) (EP X pins σ Q) X.xe s
def PT (X : Cx) (e : Expr) (t : TT) : Prop :=
  ∀ (pins : List (Addr × Obj)) (s : Shared) (σ : St) (H : Hp) (Q : Bool → Hp → Prop), Inv X pins σ H s → t σ H Q → wpAny (model X.prog X.w) X.A (isTrue e X.env (eval e X.env)) (TP X pins σ Q) X.xe s
/-- a test whatever its 'whole' is (and, or) -/
def PW (X : Cx) (e : Expr) (t : TT) : Prop :=
  ∀ (whole : Sem Value) (pins : List (Addr × Obj)) (s : Shared) (σ : St) (H : Hp) (Q : Bool → Hp → Prop), Inv X pins σ H s → t σ H Q → wpAny (model X.prog X.w) X.A (isTrue e X.env whole) (TP X pins σ Q) X.xe s
theorem PW.pt {X : Cx} {e : Expr} {t : TT} (h : PW X e t) : PT X e t := h _
/-- an argument list (no star), from the left -/
def PA (X : Cx) (es : List Expr) (t : TA) : Prop :=
  ∀ (pos : Pos) (pins : List (Addr × Obj)) (s : Shared) (σ : St) (H : Hp) (Q : List V → Hp → Prop), Inv X pins σ H s → t σ H Q → wpAny (model X.prog X.w) X.A (spliced (backTo pos (starEach es X.env))) (AP X pins σ Q) X.xe s
def PS (X : Cx) (st : Stmt) (t : TS) : Prop :=
  ∀ (pins : List (Addr × Obj)) (s : Shared) (σ : St) (H : Hp) (D : Ends), Inv X pins σ H s → t D σ H → wpAny (model X.prog X.w) X.A (exec st X.env) (SP X pins D) X.xe s
def PSs (X : Cx) (st : List Stmt) (t : TS) : Prop :=
  ∀ (pins : List (Addr × Obj)) (s : Shared) (σ : St) (H : Hp) (D : Ends), Inv X pins σ H s → t D σ H → wpAny (model X.prog X.w) X.A (execs st X.env) (SP X pins D) X.xe s
/-- weaken the end -/
theorem thn {α : Type} {t : Sem α} {Q Q' : α → Shared → Prop} {M : Model} {A : Around} {E : Value → Shared → Prop} {s : Shared} (h : wpAny M A t Q E s) (hQ : ∀ a s, Q a s → Q' a s) : wpAny M A t Q' E s := wpAny_mono h hQ fun _ _ x => x
end L2

namespace L2
open PySem PySem.Spec PyProof.Rows
section
variable {X : Cx}

/-- two expressions in a row -/
theorem bin {a b : Expr} {ta tb : TE} (ha : PE X a ta) (hb : PE X b tb) {pins : List (Addr × Obj)} {s : Shared} {σ : St} {H : Hp} {R : V → V → Hp → Prop} (I : Inv X pins σ H s) (h : ta σ H fun x H1 => tb σ H1 fun y H2 => R x y H2)
    {α : Type} {Q : α → Shared → Prop} {f : Value → Value → Sem α}
    (hf : ∀ v u s2 x y H2, Inv X pins σ H2 s2 → RelV x v → RelV y u → R x y H2 → wpAny (model X.prog X.w) X.A (f v u) Q X.xe s2) :
    wpAny (model X.prog X.w) X.A (eval a X.env) (fun v s₁ => wpAny (model X.prog X.w) X.A (eval b X.env) (fun u s₂ => wpAny (model X.prog X.w) X.A (f v u) Q X.xe s₂) X.xe s₁) X.xe s := by
  refine thn (ha pins s σ H _ I h) fun v s1 ⟨x, H1, I1, r1, q1⟩ => ?_
  refine thn (hb pins s1 σ H1 _ I1 q1) fun u s2 ⟨y, H2, I2, r2, q2⟩ => ?_
  exact hf v u s2 x y H2 I2 r1 r2 q2

/-! ### names and constants -/
def tVar (i : Nat) : TE := fun σ H Q => ∃ v, σ[i]? = some (some v) ∧ Q v H
def tC (v : V) : TE := fun _ H Q => Q v H
theorem pe_var {i : Nat} {x : Str} {pos : Pos} (hN : X.N[i]? = some x) (hv : Vis X.env.scope x) (hd : (x == ("__debug__" : Str)) = false := by decide) (hcd : (x == ("__classdict__" : Str)) = false := by decide) : PE X (.Name x pos) (tVar i) := by
  intro pins s σ H Q I h
  obtain ⟨v, e, h⟩ := h
  obtain ⟨m, hn, hl⟩ := I.loc
  obtain ⟨u, r, l⟩ := hl i x v hN e hv
  have fin : EP X pins σ Q u s := ⟨v, H, I, r, h⟩
  rcases l with ⟨hk, hm⟩ | ⟨hk, c, hc, hcell⟩
  · exact wpAny_Name (wpAny_loadName_local I.ok.kind hk hn hm fin) hd
  · rcases hk with hk | hk
    · exact wpAny_Name (wpAny_loadName_cell I.ok.kind hk hc hcell fin) hd
    · exact wpAny_Name (wpAny_loadName_free I.ok.kind hk hc hcell fin hcd) hd
theorem pe_int {i j pos} : PE X (.Constant (.int i) j pos) (tC (.int i)) := fun _ _ _ H _ I h => wpAny_Constant_int ⟨.int i, H, I.tok _, ⟨_, rfl⟩, h⟩
theorem pe_bl {b j pos} : PE X (.Constant (.bool b) j pos) (tC (.bl b)) := fun _ _ _ H _ I h => Constant_bool ⟨.bl b, H, I, rfl, h⟩
theorem pe_non {j pos} : PE X (.Constant .none j pos) (tC .non) := fun _ _ _ H _ I h => Constant_none ⟨.non, H, I, rfl, h⟩

/-- a global name of the def -/
def Gl (X : Cx) (x : Str) : Prop := X.env.kindOf x = some .globalImplicit
theorem ld_glob {E : Value → Shared → Prop} {pins : List (Addr × Obj)} {s : Shared} {σ : St} {H : Hp} {x : Str} {u : Value} {pos : Pos} {Q : Value → Shared → Prop} (I : Inv X pins σ H s) (hg : Gl X x) (hm : X.mg x = some u) (h : Q u s)
    (hd : (x == ("__debug__" : Str)) = false := by decide) : wpAny (model X.prog X.w) X.A (eval (.Name x pos) X.env) Q E s :=
  Calls.Name_function_global I.ok.kind hg (Calls.loadGlobal_global (by rw [I.ok.glob]; exact I.mod.glob.keeps I.bk) hm h) hd
theorem ld_blt {E : Value → Shared → Prop} {pins : List (Addr × Obj)} {s : Shared} {σ : St} {H : Hp} {x : Str} {u : Value} {pos : Pos} {Q : Value → Shared → Prop} (I : Inv X pins σ H s) (hg : Gl X x) (hm : X.mg x = none) (hv : bootBuiltins x = some u) (h : Q u s)
    (hn : x ≠ "__name__" := by decide) (hd : (x == ("__debug__" : Str)) = false := by decide) : wpAny (model X.prog X.w) X.A (eval (.Name x pos) X.env) Q E s := by
  obtain ⟨mb, h1, h2⟩ := I.mod.blt
  exact Calls.Name_function_global I.ok.kind hg (Calls.loadGlobal_builtin (by rw [I.ok.glob]; exact I.mod.glob.keeps I.bk) hm (by rw [I.ok.blt]; exact h1.keeps I.bk) ((h2 x hn).trans hv) h) hd
theorem pe_bltn {x : Str} {v : V} {u : Value} {pos : Pos} (hg : Gl X x) (hm : X.mg x = none) (hv : bootBuiltins x = some u) (r : RelV v u) (hn : x ≠ "__name__" := by decide) (hd : (x == ("__debug__" : Str)) = false := by decide) : PE X (.Name x pos) (tC v) :=
  fun _ _ _ H _ I h => ld_blt I hg hm hv ⟨v, H, I, r, h⟩ hn hd

/-! ### arithmetic -/
variable {a b : Expr} {ta tb : TE} {pos : Pos}

/-! ### comparisons -/

/-! ### and, or, not -/
variable {tA tB' : TT} {rest : List Expr}
def tAnd (t u : TT) : TT := fun σ H Q => t σ H fun c H1 => if c = true then u σ H1 Q else Q false H1
def tOr (t u : TT) : TT := fun σ H Q => t σ H fun c H1 => if c = true then Q true H1 else u σ H1 Q
def tNot (t : TT) : TT := fun σ H Q => t σ H fun c H1 => Q (!c) H1
theorem pw_and1 (ha : PT X a tA) : PW X (.BoolOp .And [a] pos) tA := by
  intro wh pins s σ H Q I h
  refine isTrue_and (thn (ha pins s σ H Q I h) fun c s1 e => ?_)
  cases c with
  | true => exact isTrue_and_nil e
  | false => exact e
theorem pw_or1 (ha : PT X a tA) : PW X (.BoolOp .Or [a] pos) tA := by
  intro wh pins s σ H Q I h
  refine isTrue_or (thn (ha pins s σ H Q I h) fun c s1 e => ?_)
  cases c with
  | false => exact isTrue_or_nil e
  | true => exact e
theorem pw_and (ha : PT X a tA) (hb : PW X (.BoolOp .And (b :: rest) pos) tB') : PW X (.BoolOp .And (a :: b :: rest) pos) (tAnd tA tB') := by
  intro wh pins s σ H Q I h
  refine isTrue_and (thn (ha pins s σ H _ I h) fun c s1 ⟨H1, I1, q1⟩ => ?_)
  cases c with
  | true => exact hb wh pins s1 σ H1 Q I1 q1
  | false => exact ⟨H1, I1, q1⟩
theorem pw_or (ha : PT X a tA) (hb : PW X (.BoolOp .Or (b :: rest) pos) tB') : PW X (.BoolOp .Or (a :: b :: rest) pos) (tOr tA tB') := by
  intro wh pins s σ H Q I h
  refine isTrue_or (thn (ha pins s σ H _ I h) fun c s1 ⟨H1, I1, q1⟩ => ?_)
  cases c with
  | true => exact ⟨H1, I1, q1⟩
  | false => exact hb wh pins s1 σ H1 Q I1 q1
theorem pt_not (ha : PT X a tA) : PT X (.UnaryOp .Not a pos) (tNot tA) := by
  intro pins s σ H Q I h
  exact isTrue_not (ha pins s σ H (fun c H1 => Q (!c) H1) I h)
/-- .. as values (bools) -/
def tAndV (ta tb : TE) : TE := fun σ H Q => ta σ H fun x H1 => ∃ c, x = .bl c ∧ if c = true then tb σ H1 Q else Q (.bl false) H1
theorem pe_one {op} {t : TE} (h : PE X a t) : PE X (.BoolOp op [a] pos) t := fun pins s σ H Q I hw => BoolOp_one (h pins s σ H Q I hw)
theorem pe_and (ha : PE X a ta) (hb : PE X (.BoolOp .And (b :: rest) pos) tb) : PE X (.BoolOp .And (a :: b :: rest) pos) (tAndV ta tb) := by
  intro pins s σ H Q I h
  refine BoolOp_and (thn (ha pins s σ H _ I h) fun v s1 ⟨x, H1, I1, r1, q1⟩ => ?_)
  obtain ⟨c, rfl, q1⟩ := q1
  cases r1
  refine wpAny_truthy_bool ?_
  cases c with
  | true => exact hb pins s1 σ H1 Q I1 q1
  | false => exact ⟨.bl false, H1, I1, rfl, q1⟩
end
end L2

namespace L2
open PySem PySem.Spec PyProof.Rows

/-! ### a list, a tuple that is read: tracked, frozen, or an object of the module -/
def SqL (K : PySem.W.Frag) (H : Hp) (a : Addr) (xs : List V) : Prop :=
  Rd H a (.lst xs) ∨
    ∃ (o : Obj) (its : Array Value) (n : Nat), K.lookup a = some o ∧ o.cls = .type "list" ∧ o.dict = none ∧ o.data = .seq its n ∧ its.size ≤ sizeLine ∧ Vals xs its.toList
def SqT (K : PySem.W.Frag) (H : Hp) (a : Addr) (xs : List V) : Prop :=
  Rd H a (.tup xs) ∨
    ∃ (o : Obj) (its : Array Value) (n : Nat), K.lookup a = some o ∧ o.cls = .type "tuple" ∧ o.data = .seq its n ∧ its.size ≤ sizeLine ∧ Vals xs its.toList
def absV : Value → Option V
  | .none => some .non
  | .bool b => some (.bl b)
  | .int i _ => some (.int i)
  | .str x _ => some (.str x)
  | .bytes b _ => some (.byt b)
  | .float b _ => some (.flt b)
  | .ref a => some (.ref a)
  | .type n => some (.ty n)
  | _ => none
theorem RelV.abs {x : V} {u : Value} (r : RelV x u) : absV u = some x := by
  cases x with
  | non => cases r; rfl
  | bl _ => cases r; rfl
  | int _ => obtain ⟨t, rfl⟩ := r; rfl
  | str _ => obtain ⟨t, rfl⟩ := r; rfl
  | byt _ => obtain ⟨t, rfl⟩ := r; rfl
  | flt _ => obtain ⟨t, rfl⟩ := r; rfl
  | ref _ => cases r; rfl
  | ty _ => cases r; rfl
theorem RelV.inj {x y : V} {u : Value} (r : RelV x u) (q : RelV y u) : x = y := Option.some.inj (r.abs.symm.trans q.abs)
theorem Vals.inj : ∀ {xs ys : List V} {us : List Value}, Vals xs us → Vals ys us → xs = ys
  | _, _, _, .nil, .nil => rfl
  | _, _, _, .cons r t, .cons r' t' => by rw [r.inj r', Vals.inj t t']
section
variable {X : Cx} {pins : List (Addr × Obj)} {σ : St} {H : Hp} {s : Shared} {a : Addr} {xs ys : List V}
theorem SqL.of {K : PySem.W.Frag} (h : H a = some (.lst xs)) : SqL K H a xs := .inl (.inl h)
theorem SqT.of {K : PySem.W.Frag} (h : H a = some (.tup xs)) : SqT K H a xs := .inl (.inl h)
theorem Inv.list (I : Inv X pins σ H s) (h : SqL X.K H a xs) : ∃ its : List Value, Vals xs its ∧ PlainL s.heap a its.toArray ∧ xs.length ≤ sizeLine := by
  rcases h with h | ⟨o, its, n, hk, hc, hd, hs, hz, r⟩
  · obtain ⟨z, its, n, r, e⟩ := h.ok I.hok
    exact ⟨its, r, ⟨_, n, e, rfl, rfl, rfl⟩, z⟩
  · refine ⟨its.toList, r, ⟨o, n, I.kIn a o hk, hc, hd, by simpa using hs⟩, ?_⟩
    have e := r.length
    simp only [Array.length_toList] at e
    omega
theorem Inv.tuple (I : Inv X pins σ H s) (h : SqT X.K H a xs) : ∃ its : List Value, Vals xs its ∧ IsTup s.heap a its.toArray ∧ xs.length ≤ sizeLine := by
  rcases h with h | ⟨o, its, n, hk, hc, hs, hz, r⟩
  · obtain ⟨z, its, r, p⟩ := h.ok I.hok
    exact ⟨its, r, p, z⟩
  · refine ⟨its.toList, r, ⟨o, I.kIn a o hk, hc, n, by simpa using hs⟩, ?_⟩
    have e := r.length
    simp only [Array.length_toList] at e
    omega
theorem Inv.list_inj (I : Inv X pins σ H s) (h : SqL X.K H a xs) (h' : SqL X.K H a ys) : xs = ys := by
  obtain ⟨its, r, ⟨o, n, e, _, _, d⟩, _⟩ := I.list h
  obtain ⟨its', r', ⟨o', n', e', _, _, d'⟩, _⟩ := I.list h'
  rw [e] at e'; cases e'
  rw [d] at d'
  injection d' with d1 _
  have : its = its' := by simpa using congrArg Array.toList d1
  subst this
  exact r.inj r'
theorem Inv.tuple_inj (I : Inv X pins σ H s) (h : SqT X.K H a xs) (h' : SqT X.K H a ys) : xs = ys := by
  obtain ⟨its, r, ⟨o, e, _, n, d⟩, _⟩ := I.tuple h
  obtain ⟨its', r', ⟨o', e', _, n', d'⟩, _⟩ := I.tuple h'
  rw [e] at e'; cases e'
  rw [d] at d'
  injection d' with d1 _
  have : its = its' := by simpa using congrArg Array.toList d1
  subst this
  exact r.inj r'
end

/-! ### another wish about exceptions -/
abbrev Cx.wish (X : Cx) (E : Value → Shared → Prop) : Cx := { X with xe := E }
/-- no exception leaves -/
abbrev Cx.nox (X : Cx) : Cx := X.wish fun _ _ => False
theorem Cx.Ok.wish {X : Cx} (ok : X.Ok) (E : Value → Shared → Prop) : (X.wish E).Ok :=
  ⟨ok.mod, ok.kind, ok.glob, ok.blt, ok.above, ok.inj, ok.has, ok.cab, ok.hd, ok.frames, ok.stk, ok.exf, ok.bs, ok.bsz, ok.noex, ok.exfs, ok.funs, ok.frf⟩
theorem Cx.Ok.unwish {X : Cx} {E : Value → Shared → Prop} (ok : (X.wish E).Ok) : X.Ok :=
  ⟨ok.mod, ok.kind, ok.glob, ok.blt, ok.above, ok.inj, ok.has, ok.cab, ok.hd, ok.frames, ok.stk, ok.exf, ok.bs, ok.bsz, ok.noex, ok.exfs, ok.funs, ok.frf⟩
section
variable {X : Cx} {pins : List (Addr × Obj)} {σ : St} {H : Hp} {s : Shared} {E : Value → Shared → Prop}
theorem Inv.wish (I : Inv X pins σ H s) (E : Value → Shared → Prop) : Inv (X.wish E) pins σ H s := ⟨I.ok.wish E, I.os, I.bare, I.base, I.loc, I.cell, I.free, I.freeC, I.pin, I.hok, I.len⟩
theorem Inv.unwish (I : Inv (X.wish E) pins σ H s) : Inv X pins σ H s := ⟨I.ok.unwish, I.os, I.bare, I.base, I.loc, I.cell, I.free, I.freeC, I.pin, I.hok, I.len⟩
theorem SP.unwish {D : Ends} {f : Flow} {s' : Shared} (h : SP (X.wish E) pins D f s') : SP X pins D f s' := by
  cases f with
  | next => obtain ⟨σ', H', I, q⟩ := h; exact ⟨σ', H', I.unwish, q⟩
  | brk => obtain ⟨σ', H', I, q⟩ := h; exact ⟨σ', H', I.unwish, q⟩
  | cont => obtain ⟨σ', H', I, q⟩ := h; exact ⟨σ', H', I.unwish, q⟩
  | ret u => obtain ⟨v, σ', H', I, r, q⟩ := h; exact ⟨v, σ', H', I.unwish, r, q⟩
theorem PE.nox {e : Expr} {t : TE} (h : PE X.nox e t) : PE X e t := fun pins s σ H Q I hw =>
  wpAny_mono (h pins s σ H Q (I.wish _) hw) (fun _ _ ⟨v, H', I', r, q⟩ => ⟨v, H', I'.unwish, r, q⟩) fun _ _ z => False.elim z
theorem PT.nox {e : Expr} {t : TT} (h : PT X.nox e t) : PT X e t := fun pins s σ H Q I hw =>
  wpAny_mono (h pins s σ H Q (I.wish _) hw) (fun _ _ ⟨H', I', q⟩ => ⟨H', I'.unwish, q⟩) fun _ _ z => False.elim z
theorem PSs.nox {st : List Stmt} {t : TS} (h : PSs X.nox st t) : PSs X st t := fun pins s σ H D I hw =>
  wpAny_mono (h pins s σ H D (I.wish _) hw) (fun _ _ q => q.unwish) fun _ _ z => False.elim z
end

/-! ### blocks and small statements -/
section
variable {X : Cx} {st : Stmt} {rest : List Stmt} {t u : TS} {e : Expr} {te : TE} {pos : Pos}
def tNext : TS := fun D σ H => D.nx σ H
def tSeq (t u : TS) : TS := fun D σ H => t { D with nx := u D } σ H
theorem pss_nil : PSs X [] tNext := fun _ _ σ H _ I h => wpAny_execs_nil ⟨σ, H, I, h⟩
theorem pss_cons (h1 : PS X st t) (h2 : PSs X rest u) : PSs X (st :: rest) (tSeq t u) := by
  intro pins s σ H D I h
  refine wpAny_execs_cons (thn (h1 pins s σ H { D with nx := u D } I h) fun f s1 q => ?_)
  cases f with
  | next =>
    obtain ⟨σ', H', I', q⟩ := q
    exact h2 pins s1 σ' H' D I' q
  | ret v => exact q
  | brk => exact q
  | cont => exact q
/-- in a def's body nothing is shown -/
theorem Inv.quiet {pins : List (Addr × Obj)} {σ : St} {H : Hp} {s : Shared} (I : Inv X pins σ H s) : interactive X.env = false := by simp [interactive, I.ok.kind]
/-- an expression whose value is dropped -/
def tDrop (te : TE) : TS := fun D σ H => te σ H fun _ H1 => D.nx σ H1
theorem ps_expr (he : PE X e te) (hs : swapsWith e none pos.line X.env = pure false := by rfl) : PS X (.Expr e pos) (tDrop te) := by
  intro pins s σ H D I h
  exact wpAny_Expr_any (thn (he pins s σ H _ I h) fun v s1 ⟨x, H1, I1, r1, q1⟩ => ⟨σ, H1, I1, q1⟩) I.quiet hs
def tRet (te : TE) : TS := fun D σ H => te σ H D.rt
theorem ps_ret (he : PE X e te) : PS X (.Return (some e) pos) (tRet te) := by
  intro pins s σ H D I h
  exact wpAny_Return_some (thn (he pins s σ H _ I h) fun v s1 ⟨x, H1, I1, r1, q1⟩ => ⟨x, σ, H1, I1, r1, q1⟩)
def tIfS (c : TT) (t u : TS) : TS := fun D σ H => c σ H fun b H1 => if b = true then t D σ H1 else u D σ H1
theorem ps_if {c : Expr} {a b : List Stmt} {tc : TT} (hc : PT X c tc) (ha : PSs X a t) (hb : PSs X b u) : PS X (.If c a b pos) (tIfS tc t u) := by
  intro pins s σ H D I h
  refine wpAny_If (thn (hc pins s σ H _ I h) fun d s1 ⟨H1, I1, q1⟩ => ?_)
  cases d with
  | true => exact ha pins s1 σ H1 D I1 q1
  | false => exact hb pins s1 σ H1 D I1 q1
end

/-! ### targets -/
abbrev TG := V → St → Hp → (St → Hp → Prop) → Prop
abbrev TGs := List V → St → Hp → (St → Hp → Prop) → Prop
def PG (X : Cx) (target : Expr) (t : TG) : Prop :=
  ∀ (pins : List (Addr × Obj)) (s : Shared) (σ : St) (H : Hp) (v : V) (u : Value) (Q : St → Hp → Prop), Inv X pins σ H s → RelV v u → t v σ H Q →
    wpAny (model X.prog X.w) X.A (assign target X.env u) (fun _ s' => ∃ σ' H', Inv X pins σ' H' s' ∧ Q σ' H') X.xe s
/-- several targets, one after another -/
def PGs (X : Cx) (ts : List Expr) (t : TGs) : Prop :=
  ∀ (pins : List (Addr × Obj)) (s : Shared) (σ : St) (H : Hp) (vs : List V) (us : List Value) (Q : St → Hp → Prop), Inv X pins σ H s → Vals vs us → t vs σ H Q →
    wpAny (model X.prog X.w) X.A (assignInOrder ((assignEach ts X.env).map (·.2)) us) (fun _ s' => ∃ σ' H', Inv X pins σ' H' s' ∧ Q σ' H') X.xe s
/-- o[i] = v, by values -/
abbrev TSet := V → V → V → Hp → (Hp → Prop) → Prop
def PSet (X : Cx) (t : TSet) : Prop :=
  ∀ (pins : List (Addr × Obj)) (s : Shared) (σ : St) (H : Hp) (o i v : V) (ov iv u : Value) (Q : Hp → Prop), Inv X pins σ H s → RelV o ov → RelV i iv → RelV v u → t o i v H Q →
    wpAny (model X.prog X.w) X.A (setItem ov iv u) (fun _ s' => ∃ H', Inv X pins σ H' s' ∧ Q H') X.xe s
section
variable {X : Cx} {pos : Pos}
def gName (i : Nat) : TG := fun v σ H Q => Q (σ.set i (some v)) H
theorem pg_name {i : Nat} {x : Str} (hN : X.N.Nodup) (hi : X.N[i]? = some x) (hx : Loc X.env.scope x) (hf : X.fn x = true ∨ X.env.scope.names.lookup x = some .local := by first | exact .inl rfl | exact .inr rfl | assumption) : PG X (.Name x pos) (gName i) := by
  intro pins s σ H v u Q I r h
  exact wpAny_assign_Name (store_ok I hN hi hx r (fun s' I' => ⟨_, H, I', h⟩) hf)
def gNil : TGs := fun vs σ H Q => vs = [] ∧ Q σ H
def gCons (t : TG) (u : TGs) : TGs := fun vs σ H Q => ∃ v r, vs = v :: r ∧ t v σ H fun σ' H' => u r σ' H' Q
theorem pgs_nil : PGs X [] gNil := by
  intro pins s σ H vs us Q I r h
  obtain ⟨e, h⟩ := h
  subst e
  cases r
  exact assignInOrder_nil ⟨σ, H, I, h⟩
theorem pgs_cons {e : Expr} {es : List Expr} {t : TG} {u : TGs} (h1 : PG X e t) (h2 : PGs X es u)
    (hs : (assignEach (e :: es) X.env).map (·.2) = assign e X.env :: (assignEach es X.env).map (·.2) := by rfl) : PGs X (e :: es) (gCons t u) := by
  intro pins s σ H vs us Q I r h
  obtain ⟨v, vr, e1, h⟩ := h
  subst e1
  cases r with
  | cons r rr =>
    rw [hs]
    refine assignInOrder_cons (thn (h1 pins s σ H _ _ _ I r h) fun _ s1 ⟨σ1, H1, I1, q1⟩ => ?_)
    exact h2 pins s1 σ1 H1 _ _ Q I1 rr q1
/-- (a, b, ..) = a tuple of that length -/
def gTup (K : PySem.W.Frag) (n : Nat) (t : TGs) : TG := fun v σ H Q => ∃ a xs, v = .ref a ∧ SqT K H a xs ∧ xs.length = n ∧ t xs σ H Q
theorem pg_tup {es : List Expr} {k : Nat} {t : TGs} {n : Nat} (hc : X.calm = true) (h : PGs X es t)
    (hn : (assignEach es X.env).length = n := by rfl) (hst : (assignEach es X.env).findIdx? (·.1) = none := by rfl) : PG X (.Tuple es k pos) (gTup X.K n t) := by
  intro pins s σ H v u Q I r hw
  obtain ⟨a, xs, e1, hq, hl, hw⟩ := hw
  subst e1
  cases r
  obtain ⟨its, rv, ht, hz⟩ := I.tuple hq
  refine assign_Tuple_tuple (I.ok.hd hc) ht (by simp [hn, ← hl, rv.length]) hst fun h' hx => ?_
  have I1 : Inv X pins σ H { s with heap := h' } := I.kept (t' := s.toks) fun b o e => hx b o (Nat.ne_of_lt (Heap.lt_size e)) e
  exact h pins _ σ H xs _ Q I1 (by simpa using rv) hw
/-- o[i] = .. -/
def gSub (to ti : TE) (t : TSet) : TG := fun v σ H Q => to σ H fun o H1 => ti σ H1 fun i H2 => t o i v H2 fun H3 => Q σ H3
theorem pg_sub {o i : Expr} {to ti : TE} {t : TSet} (ho : PE X o to) (hi : PE X i ti) (hs : PSet X t)
    (ha : ∀ v, assign (.Subscript o i pos) X.env v = (do
      let ov ← holding [v] (eval o X.env)
      let iv ← holding [v, ov] (eval i X.env)
      standAt pos
      holding [v, ov, iv] (setItem ov iv v)
      release [v, ov, iv] []) := by intro _; rfl) : PG X (.Subscript o i pos) (gSub to ti t) := by
  intro pins s σ H v u Q I r h
  rw [ha]
  refine wpAny_bind (wpAny_holding (thn (ho pins s σ H _ I h) fun ov s1 ⟨x, H1, I1, r1, q1⟩ => ?_))
  refine wpAny_bind (wpAny_holding (thn (hi pins s1 σ H1 _ I1 q1) fun iv s2 ⟨y, H2, I2, r2, q2⟩ => ?_))
  refine wpAny_bind (wpAny_standAt (wpAny_bind (wpAny_holding (thn (hs pins s2 σ H2 x y v ov iv u _ I2 r1 r2 r q2) fun _ s3 ⟨H3, I3, q3⟩ => ?_))))
  exact wpAny_release ⟨σ, H3, I3, q3⟩
/-- target = value -/
def tAsg (te : TE) (g : TG) : TS := fun D σ H => te σ H fun x H1 => g x σ H1 D.nx
theorem ps_asg {tg e : Expr} {te : TE} {g : TG} (he : PE X e te) (hg : PG X tg g) (hs : swapsWithSole [tg] e pos.line X.env = pure false := by rfl) (hw : swappedStores [tg] e X.env = pure none := by rfl)
    (h1 : (assignEach [tg] X.env).map (·.2) = [assign tg X.env] := by rfl) : PS X (.Assign [tg] e pos) (tAsg te g) := by
  intro pins s σ H D I h
  refine wpAny_Assign_stores (thn (he pins s σ H _ I h) fun v s1 ⟨x, H1, I1, r1, q1⟩ => ?_) hs hw
  rw [h1]
  exact thn (hg pins s1 σ H1 x v _ I1 r1 q1) fun _ s2 q => q
/-- name = value -/
theorem ps_set {i : Nat} {x : Str} {e : Expr} {te : TE} {pos' : Pos} (hN : X.N.Nodup) (hi : X.N[i]? = some x) (hx : Loc X.env.scope x) (he : PE X e te) (hs : swapsWith e (some (.Name x pos')) pos.line X.env = pure false := by rfl) (hf : X.fn x = true ∨ X.env.scope.names.lookup x = some .local := by first | exact .inl rfl | exact .inr rfl | assumption) :
    PS X (.Assign [.Name x pos'] e pos) (tAsg te (gName i)) := by
  intro pins s σ H D I h
  refine wpAny_Assign_Name (thn (he pins s σ H _ I h) fun v s1 ⟨y, H1, I1, r1, q1⟩ => ?_) hs
  exact store_ok I1 hN hi hx r1 (fun s2 I2 => ⟨_, H1, I2, q1⟩) hf
end

/-! ### while -/
section
variable {X : Cx} {pos : Pos}
/-- the invariant W with its measure -/
def tWhile (c : TT) (tb : TS) : TS := fun D σ H => ∃ W : Nat → St → Hp → Prop, (∃ m, W m σ H) ∧ ∀ m σ H, W m σ H →
  c σ H fun b H1 => if b = true then ∃ N : St → Hp → Prop, (∀ σ' H', N σ' H' → ∃ m', m' < m ∧ W m' σ' H') ∧ tb { D with nx := N, ct := N, bk := D.nx } σ H1 else D.nx σ H1
theorem ps_while {c : Expr} {body : List Stmt} {tc : TT} {tb : TS} (hp : PassesOwn (model X.prog X.w) X.A X.env X.xe) (hc : PT X c tc) (hb : PSs X body tb) : PS X (.While c body [] pos) (tWhile tc tb) := by
  intro pins s σ H D I h
  obtain ⟨W, ⟨m0, w0⟩, turn⟩ := h
  refine wpAny_While (codeAny_whileLoop (fun n s' => ∃ σ' H', Inv X pins σ' H' s' ∧ W n σ' H') ?_ m0 ⟨σ, H, I, w0⟩)
  rintro n s1 ⟨σ1, H1, I1, w1⟩
  refine wpAny_passesOwn hp (thn (hc pins s1 σ1 H1 _ I1 (turn n σ1 H1 w1)) fun b s2 ⟨H2, I2, q2⟩ => ?_)
  cases b with
  | true =>
    obtain ⟨N, hN, q2⟩ := q2
    rw [if_pos rfl]
    refine wpAny_passesOwn hp (thn (hb pins s2 σ1 H2 _ I2 q2) fun f s3 q3 => ?_)
    cases f with
    | next =>
      obtain ⟨σ3, H3, I3, n3⟩ := q3
      obtain ⟨m', hm, w3⟩ := hN σ3 H3 n3
      exact ⟨m', hm, σ3, H3, I3, w3⟩
    | cont =>
      obtain ⟨σ3, H3, I3, n3⟩ := q3
      obtain ⟨m', hm, w3⟩ := hN σ3 H3 n3
      exact ⟨m', hm, σ3, H3, I3, w3⟩
    | brk => exact q3
    | ret v => exact q3
  | false =>
    rw [if_neg Bool.false_ne_true]
    exact wpAny_execs_nil ⟨σ1, H2, I2, q2⟩
end

/-! ### what a loop or a comprehension walks -/
/-- at turn i: it yields x (the heap may grow), or it stops -/
structure It where
  go : Nat → Hp → Prop
  yld : Nat → Hp → V → Hp → Prop
  stop : Nat → Hp → Prop
/-- the iterator's own objects may turn: they are not the frame's, not pinned, younger than the entry (or a comprehension's own) -/
def FpOk (X : Cx) (pins : List (Addr × Obj)) (H : Hp) (b : Addr) : Prop :=
  H b = none ∧ b ≠ X.env.locals ∧ b ∉ X.fs ∧ (b ∈ X.ex ∨ X.s₀.heap.objs.size ≤ b) ∧ (∀ x c, X.env.cells.lookup x = some c → c ≠ b) ∧ ∀ p ∈ X.pn ++ pins, p.1 ≠ b
theorem Inv.fpOk {X : Cx} {pins : List (Addr × Obj)} {σ : St} {H H' : Hp} {s : Shared} {b : Addr} (I : Inv X pins σ H s) (hb : s.heap.objs.size ≤ b) (hn : H' b = none) : FpOk X pins H' b := by
  refine ⟨hn, Nat.ne_of_gt (Nat.lt_of_lt_of_le I.lt hb), I.nofs hb, .inr (Nat.le_trans I.sz hb), fun x c e z => ?_, fun p hp z => ?_⟩
  · obtain ⟨v, q⟩ := I.cell x c e
    exact absurd (Nat.lt_of_lt_of_le q.lt (by rw [z]; exact hb)) (Nat.lt_irrefl _)
  · exact absurd (Nat.lt_of_lt_of_le (Heap.lt_size (I.pin p hp).1) (by rw [z]; exact hb)) (Nat.lt_irrefl _)
structure Turn (P : Program) (w : World) (K : PySem.W.Frag) (tg : Expr) (J : It) (fp : List Addr) (it : Addr) (tn : Nat → Heap → Prop) : Prop where
  mem : it ∈ fp
  obj : ∀ i h, tn i h → ∀ b ∈ fp, ∃ o, h.get? b = some o ∧ ∀ v, o.data ≠ .cell v
  keep : ∀ i h h', tn i h → (∀ b ∈ fp, ∀ o, h.get? b = some o → h'.get? b = some o) → tn i h'
  item : ∀ (X : Cx), X.prog = P → X.w = w → X.K = K → X.calm = true → ∀ (i : Nat) (pins : List (Addr × Obj)) (s : Shared) (σ : St) (H : Hp) (E : Value → Shared → Prop), Inv X pins σ H s → (∀ b ∈ fp, FpOk X pins H b) → tn i s.heap → J.go i H →
    wpAny (model P w) X.A (pyNext (.ref it)) (fun r s1 => ∃ u, r = some u ∧
      wpAny (model P w) X.A (letOwnedTupleGo tg (.ref it) u) (fun _ s2 => ∃ x H', Inv X pins σ H' s2 ∧ RelV x u ∧ J.yld i H x H' ∧ tn (i + 1) s2.heap ∧ ∀ b ∈ fp, H' b = none) E s1) E s
  done : ∀ (X : Cx), X.prog = P → X.w = w → X.K = K → X.calm = true → ∀ (i : Nat) (pins : List (Addr × Obj)) (s : Shared) (σ : St) (H : Hp) (E : Value → Shared → Prop), Inv X pins σ H s → (∀ b ∈ fp, FpOk X pins H b) → tn i s.heap → J.stop i H →
    wpAny (model P w) X.A (pyNext (.ref it)) (fun r s1 => r = none ∧ Inv X pins σ H s1) E s
  self : ∀ (A : Around) (i : Nat) (s : Shared) (Q : Value → Shared → Prop) (E : Value → Shared → Prop), tn i s.heap → Q (.ref it) s → wpAny (model P w) A (pyIter (.ref it)) Q E s
abbrev TI := St → Hp → (It → Hp → Prop) → Prop
/-- an iterator has come -/
def PIE (X : Cx) (pins : List (Addr × Obj)) (σ : St) (tg : Expr) (R : It → Hp → Prop) (itv : Value) (s2 : Shared) : Prop :=
  ∃ (it : Addr) (fp : List Addr) (tn : Nat → Heap → Prop) (J : It) (H' : Hp), itv = .ref it ∧ Inv X pins σ H' s2 ∧ Turn X.prog X.w X.K tg J fp it tn ∧ tn 0 s2.heap ∧ (∀ b ∈ fp, FpOk X pins H' b) ∧ R J H'
def PI (X : Cx) (tg iter : Expr) (wi : TI) : Prop :=
  ∀ (pins : List (Addr × Obj)) (s : Shared) (σ : St) (H : Hp) (R : It → Hp → Prop), Inv X pins σ H s → wi σ H R →
    wpAny (model X.prog X.w) X.A (eval iter X.env) (fun v s1 => wpAny (model X.prog X.w) X.A (pyIter v) (PIE X pins σ tg R) X.xe s1) X.xe s

/-- the step ahead of the store is nothing for an iterator that keeps no tuple -/
theorem go_of {M : Model} {A : Around} {E : Value → Shared → Prop} {s : Shared} {tg : Expr} {it : Addr} {u : Value} {o : Obj} {n : String} {vs : Array Value} {Q : Unit → Shared → Prop} (ho : s.heap.get? it = some o) (hc : o.cls = .type n) (hd : o.data = .fields vs)
    (hn : ["enumerate", "zip", "dict_itemiterator", "dict_reverseitemiterator", "odict_iterator", "itertools.zip_longest", "itertools.pairwise"].contains n = false) (hQ : Q () s) : wpAny M A (letOwnedTupleGo tg (.ref it) u) Q E s := by
  unfold letOwnedTupleGo
  cases tg <;> first
    | exact wpAny_pure hQ
    | (cases u <;> first
        | exact wpAny_pure hQ
        | (refine wpAny_bind (wpAny_load ho ?_)
           rw [hc, hd]
           show wpAny M A (if (["enumerate", "zip", "dict_itemiterator", "dict_reverseitemiterator", "odict_iterator", "itertools.zip_longest", "itertools.pairwise"].contains n && vs[0]? == some (rawInt _)) = true then _ else _) Q E s
           rw [if_neg (by intro h; rw [hn, Bool.false_and] at h; cases h)]
           exact wpAny_pure hQ))

/-- the list at a, as it stands at each turn (a loop may append to it) -/
def Itl (K : PySem.W.Frag) (a : Addr) : It :=
  ⟨fun i H => ∃ xs x, SqL K H a xs ∧ xs[i]? = some x, fun i H x H' => H' = H ∧ ∀ xs, SqL K H a xs → xs[i]? = some x, fun i H => ∃ xs, SqL K H a xs ∧ xs.length ≤ i⟩
def Itt (K : PySem.W.Frag) (a : Addr) : It :=
  ⟨fun i H => ∃ xs x, SqT K H a xs ∧ xs[i]? = some x, fun i H x H' => H' = H ∧ ∀ xs, SqT K H a xs → xs[i]? = some x, fun i H => ∃ xs, SqT K H a xs ∧ xs.length ≤ i⟩
/-- lo, lo + 1, .. (n of them) -/
def Itr (lo : Int) (n : Nat) : It := ⟨fun i _ => i < n, fun i H x H' => H' = H ∧ x = .int (lo + i), fun i _ => n ≤ i⟩
theorem turn_list {P : Program} {w : World} {K : PySem.W.Frag} {tg : Expr} (a it : Addr) : Turn P w K tg (Itl K a) [it] it (fun i h => h.IsListIter it a i) where
  mem := by simp
  obj := fun i h st b hb => by
    have e : b = it := by simpa using hb
    subst e
    obtain ⟨o, e, c, d⟩ := st
    exact ⟨o, e, fun v z => by rw [d] at z; cases z⟩
  keep := fun i h h' st k => st.at fun o e => k it (by simp) o e
  item := by
    intro X hP hw hK hc i pins s σ H E I hf st hg
    subst hP hw hK
    obtain ⟨xs, x, hq, hx⟩ := hg
    obtain ⟨its, rv, p, hz⟩ := I.list hq
    obtain ⟨u, hu, ru⟩ := rv.get hx
    obtain ⟨f0, f1, f2, f3, f4, f5⟩ := hf it (by simp)
    refine wpAny_pyNext_list_item st p.isList (x := u) (by simpa using hu) fun h' st' sb => ?_
    have I1 : Inv X pins σ H { s with heap := h' } := I.turned (t' := s.toks) (fun b o hb e => (sb.2 b hb).trans e) f0 f1 f3 f4 f5
    obtain ⟨o, e, c, d⟩ := id st'
    exact ⟨u, rfl, go_of (s := { s with heap := h' }) e c d (by decide) ⟨x, H, I1, ru, ⟨rfl, fun ys hy => by rw [I.list_inj hy hq]; exact hx⟩, st', fun b hb => (hf b hb).1⟩⟩
  done := by
    intro X hP hw hK hc i pins s σ H E I hf st hg
    subst hP hw hK
    obtain ⟨xs, hq, hx⟩ := hg
    obtain ⟨its, rv, p, hz⟩ := I.list hq
    obtain ⟨f0, f1, f2, f3, f4, f5⟩ := hf it (by simp)
    have hl := rv.length
    exact wpAny_pyNext_list_end (I.ok.hd hc) st p.isList (by simp; omega) fun h' eb => ⟨rfl, I.turned (t' := s.toks) (fun b o hb e => eb b o hb e) f0 f1 f3 f4 f5⟩
  self := fun _ _ _ _ _ st h => wpAny_pyIter_listiter st h
theorem turn_tuple {P : Program} {w : World} {K : PySem.W.Frag} {tg : Expr} (a it : Addr) : Turn P w K tg (Itt K a) [it] it (fun i h => h.IsTupleIter it a i) where
  mem := by simp
  obj := fun i h st b hb => by
    have e : b = it := by simpa using hb
    subst e
    obtain ⟨o, e, c, d⟩ := st
    exact ⟨o, e, fun v z => by rw [d] at z; cases z⟩
  keep := fun i h h' st k => st.at fun o e => k it (by simp) o e
  item := by
    intro X hP hw hK hc i pins s σ H E I hf st hg
    subst hP hw hK
    obtain ⟨xs, x, hq, hx⟩ := hg
    obtain ⟨its, rv, p, hz⟩ := I.tuple hq
    obtain ⟨u, hu, ru⟩ := rv.get hx
    obtain ⟨f0, f1, f2, f3, f4, f5⟩ := hf it (by simp)
    refine wpAny_pyNext_tuple_item st (show s.heap.IsTuple a its.toArray from p) (x := u) (by simpa using hu) fun h' st' sb => ?_
    have I1 : Inv X pins σ H { s with heap := h' } := I.turned (t' := s.toks) (fun b o hb e => (sb.2 b hb).trans e) f0 f1 f3 f4 f5
    obtain ⟨o, e, c, d⟩ := id st'
    exact ⟨u, rfl, go_of (s := { s with heap := h' }) e c d (by decide) ⟨x, H, I1, ru, ⟨rfl, fun ys hy => by rw [I.tuple_inj hy hq]; exact hx⟩, st', fun b hb => (hf b hb).1⟩⟩
  done := by
    intro X hP hw hK hc i pins s σ H E I hf st hg
    subst hP hw hK
    obtain ⟨xs, hq, hx⟩ := hg
    obtain ⟨its, rv, p, hz⟩ := I.tuple hq
    obtain ⟨f0, f1, f2, f3, f4, f5⟩ := hf it (by simp)
    have hl := rv.length
    exact wpAny_pyNext_tuple_end (I.ok.hd hc) st (show s.heap.IsTuple a its.toArray from p) (by simp; omega) fun h' eb => ⟨rfl, I.turned (t' := s.toks) (fun b o hb e => eb b o hb e) f0 f1 f3 f4 f5⟩
  self := fun _ _ _ _ _ st h => wpAny_pyIter_tupleiter st h
theorem turn_range {P : Program} {w : World} {K : PySem.W.Frag} {tg : Expr} (it : Addr) (lo : Int) (n : Nat) : Turn P w K tg (Itr lo n) [it] it (fun i h => IsRangeIter h it (lo + (i : Nat) * 1) ((n : Int) - (i : Nat)) 1) where
  mem := by simp
  obj := fun i h st b hb => by
    have e : b = it := by simpa using hb
    subst e
    exact ⟨_, st, fun v z => by
      have z' : Data.fields _ = Data.cell v := z
      cases z'⟩
  keep := fun i h h' st k => k it (by simp) _ st
  item := by
    intro X hP hw hK hc i pins s σ H E I hf st hg
    subst hP hw hK
    obtain ⟨f0, f1, f2, f3, f4, f5⟩ := hf it (by simp)
    have W := Walks.range (prog := X.prog) (w := X.w) (I.ok.hd hc) it lo 1 n
    refine W.item i s _ _ hg st fun v h' tk hv st' kk => ?_
    obtain ⟨t, rfl⟩ := hv
    have I1 : Inv X pins σ H { s with heap := h', toks := tk } := I.turned (fun b o hb e => kk b o (by simpa using hb) e) f0 f1 f3 f4 f5
    refine ⟨_, rfl, go_of (s := { s with heap := h', toks := tk }) (n := "range_iterator") st' rfl rfl (by decide) ⟨.int (lo + i), H, I1, ⟨t, ?_⟩, ⟨rfl, rfl⟩, st', fun b hb => (hf b hb).1⟩⟩
    rw [Int.mul_one]
  done := by
    intro X hP hw hK hc i pins s σ H E I hf st hg
    subst hP hw hK
    obtain ⟨f0, f1, f2, f3, f4, f5⟩ := hf it (by simp)
    exact wpAny_pyNext_range_end (I.ok.hd hc) st (by have : n ≤ i := hg; omega) fun h' eb => ⟨rfl, I.turned (t' := s.toks) (fun b o hb e => eb b o hb e) f0 f1 f3 f4 f5⟩
  self := fun _ _ _ _ _ st h => wpAny_pyIter_rangeiter st h
end L2

namespace L2
open PySem PySem.Spec PyProof.Rows
section
variable {X : Cx} {tg : Expr}
/-- a range object just made, walked -/
theorem range_it {pins : List (Addr × Obj)} {σ : St} {H : Hp} {s : Shared} {R : It → Hp → Prop} {E : Value → Shared → Prop} {lo hi : Int} {t u v : Tok} {tk : Nat} (I : Inv X pins σ H s) (h1 : -(2 ^ 62) ≤ lo) (h2 : lo < 2 ^ 62) (h3 : -(2 ^ 62) ≤ hi) (h4 : hi < 2 ^ 62)
    (q : R (Itr lo (hi - lo).toNat) H) : wpAny (model X.prog X.w) X.A (pyIter (.ref s.heap.objs.size)) (PIE X pins σ tg R) E { s with heap := s.heap.push { cls := .type "range", data := .fields #[.int lo t, .int hi u, .int 1 v] }, toks := tk } := by
  refine wpAny_pyIter_range (IsRange.new ..) (small_one h1 h2 h3 h4) ?_
  have I1 : Inv X pins σ H { s with heap := s.heap.push { cls := .type "range", data := .fields #[.int lo t, .int hi u, .int 1 v] }, toks := tk } := I.kept fun b o e => Heap.get?_push_of_some _ e
  refine ⟨(s.heap.push { cls := .type "range", data := .fields #[.int lo t, .int hi u, .int 1 v] }).objs.size, [(s.heap.push { cls := .type "range", data := .fields #[.int lo t, .int hi u, .int 1 v] }).objs.size], _, _, H, rfl,
    I1.kept (t' := tk) fun b o e => Heap.get?_push_of_some _ e, turn_range _ lo (hi - lo).toNat, ?_, fun b hb => ?_, q⟩
  · have e1 : lo + ((0 : Nat) : Int) * 1 = lo := by simp
    have e2 : (((hi - lo).toNat : Nat) : Int) - ((0 : Nat) : Int) = Builtin.Range.rangeSize lo hi 1 := by rw [rangeSize_one]; split <;> omega
    show IsRangeIter _ _ (lo + ((0 : Nat) : Int) * 1) ((((hi - lo).toNat : Nat) : Int) - ((0 : Nat) : Int)) 1
    rw [e1, e2]
    exact Heap.get?_push_size _ rfl
  · have e : b = (s.heap.push { cls := .type "range", data := .fields #[.int lo t, .int hi u, .int 1 v] }).objs.size := by simpa using hb
    subst e
    exact I1.fpOk (Nat.le_refl _) (I1.hok.fresh (Nat.le_refl _))
def iRng1 (ta : TA) : TI := fun σ H R => ta σ H fun vs H1 => ∃ j : Int, vs = [.int j] ∧ -(2 ^ 62) ≤ j ∧ j < 2 ^ 62 ∧ R (Itr 0 j.toNat) H1
def iRng2 (ta : TA) : TI := fun σ H R => ta σ H fun vs H1 => ∃ i j : Int, vs = [.int i, .int j] ∧ (-(2 ^ 62) ≤ i ∧ i < 2 ^ 62 ∧ -(2 ^ 62) ≤ j ∧ j < 2 ^ 62) ∧ R (Itr i (j - i).toNat) H1
theorem pi_range1 {a : Expr} {ta : TA} {p pos : Pos} (hg : Gl X "range") (hm : X.mg "range" = none) (ha : PA X [a] ta) (hs : starEach [a] X.env = [(false, eval a X.env)] := by rfl) : PI X tg (.Call (.Name "range" p) [a] [] pos) (iRng1 ta) := by
  intro pins s σ H R I h
  refine Call_ (ld_blt I hg hm boot_range (PyProof.Rows.callWith_type1 (thn (ha pos pins s σ H _ I h) fun us s1 ⟨vs, H1, I1, r1, q1⟩ => ?_) hs rfl))
  obtain ⟨j, e, q1, q2, q⟩ := q1
  subst e
  cases r1 with
  | cons r rr =>
    cases rr
    obtain ⟨t, rfl⟩ := r
    exact call_range_1 (range_it I1 (by omega) (by omega) q1 q2 (by simpa using q))
theorem pi_range2 {a b : Expr} {ta : TA} {p pos : Pos} (hg : Gl X "range") (hm : X.mg "range" = none) (ha : PA X [a, b] ta) (hs : starEach [a, b] X.env = [(false, eval a X.env), (false, eval b X.env)] := by rfl) (hs2 : starEach [b] X.env = [(false, eval b X.env)] := by rfl) :
    PI X tg (.Call (.Name "range" p) [a, b] [] pos) (iRng2 ta) := by
  intro pins s σ H R I h
  refine Call_ (ld_blt I hg hm boot_range (PyProof.Rows.callWith_type1 (thn (ha pos pins s σ H _ I h) fun us s1 ⟨vs, H1, I1, r1, q1⟩ => ?_) (by rw [hs, hs2]) (by rw [hs2]; rfl)))
  obtain ⟨i, j, e, ⟨q1, q2, q3, q4⟩, q⟩ := q1
  subst e
  cases r1 with
  | cons r rr =>
    cases rr with
    | cons r' rr =>
      cases rr
      obtain ⟨t, rfl⟩ := r
      obtain ⟨t', rfl⟩ := r'
      exact call_range_2 (range_it I1 q1 q2 q3 q4 q)

/-! ### for -/
/-- W: the invariant by the turn and a measure; N: what the body is to reach -/
def tFor (wi : TI) (g : TG) (tb : TS) : TS := fun D σ H => wi σ H fun J H1 => ∃ W : Nat → Nat → St → Hp → Prop, (∃ m, W 0 m σ H1) ∧ ∀ i m σ H, W i m σ H →
  (J.stop i H ∧ D.nx σ H) ∨ (J.go i H ∧ ∃ N : St → Hp → Prop, (∀ σ' H', N σ' H' → ∃ m', m' < m ∧ W (i + 1) m' σ' H') ∧ ∀ x H', J.yld i H x H' → g x σ H' fun σ2 H2 => tb { D with nx := N, ct := N, bk := D.nx } σ2 H2)
/-- the records at fp as they stand -/
def pinsAt (fp : List Addr) (h : Heap) : List (Addr × Obj) := fp.filterMap fun b => (h.get? b).map fun o => (b, o)
theorem mem_pinsAt {fp : List Addr} {h : Heap} {b : Addr} {o : Obj} (hb : b ∈ fp) (e : h.get? b = some o) : (b, o) ∈ pinsAt fp h := List.mem_filterMap.mpr ⟨b, hb, by rw [e]; rfl⟩
theorem of_pinsAt {fp : List Addr} {h : Heap} {p : Addr × Obj} (hp : p ∈ pinsAt fp h) : p.1 ∈ fp ∧ h.get? p.1 = some p.2 := by
  obtain ⟨b, hb, e⟩ := List.mem_filterMap.mp hp
  cases q : h.get? b with
  | none => rw [q] at e; cases e
  | some o =>
    rw [q] at e
    have e' : (b, o) = p := Option.some.inj e
    subst e'
    exact ⟨hb, q⟩
theorem Inv.pinned {pins : List (Addr × Obj)} {σ : St} {H : Hp} {s : Shared} {fp : List Addr} (I : Inv X pins σ H s) (hf : ∀ b ∈ fp, FpOk X pins H b) (ho : ∀ b ∈ fp, ∃ o, s.heap.get? b = some o ∧ ∀ v, o.data ≠ .cell v) : Inv X (pins ++ pinsAt fp s.heap) σ H s :=
  I.pins_of fun p hp => (List.mem_append.mp hp).elim (fun z => I.pin p (List.mem_append_right _ z)) fun z => by
    obtain ⟨hb, e⟩ := of_pinsAt z
    obtain ⟨f0, f1, f2, _⟩ := hf p.1 hb
    obtain ⟨o, e', d⟩ := ho p.1 hb
    rw [e] at e'; cases e'
    exact ⟨e, f0, f1, f2, d⟩
theorem Inv.unpinned {pins pl : List (Addr × Obj)} {σ : St} {H : Hp} {s : Shared} (I : Inv X (pins ++ pl) σ H s) : Inv X pins σ H s := I.pins_of fun p hp => I.pin p (List.mem_append_right _ (List.mem_append_left _ hp))
theorem ps_for {iter : Expr} {body : List Stmt} {wi : TI} {g : TG} {tb : TS} {pos : Pos} (hp : PassesOwn (model X.prog X.w) X.A X.env X.xe) (hc : X.calm = true) (hi : PI X tg iter wi) (hg : PG X tg g) (hb : PSs X body tb)
    (hs : ∀ x, foldedSetIterable iter X.env x = pure x := by intro _; rfl) : PS X (.For tg iter body [] pos) (tFor wi g tb) := by
  intro pins s σ H D I h
  refine wpAny_For (thn (hi pins s σ H _ I h) fun v s1 h1 => thn h1 fun itv s2 h2 => ?_) hs
  obtain ⟨it, fp, tn, J, H2, e, I2, T, st2, f2, W, ⟨m0, w0⟩, turn⟩ := h2
  subst e
  -- what stays true of the iterator's objects through the loop
  have stat : ∀ {H' : Hp}, (∀ b ∈ fp, H' b = none) → ∀ b ∈ fp, FpOk X pins H' b := fun hn b hb => ⟨hn b hb, (f2 b hb).2⟩
  refine codeAny_forLoop_any (fun n s' => ∃ i σ' H', Inv X pins σ' H' s' ∧ tn i s'.heap ∧ (∀ b ∈ fp, H' b = none) ∧ W i n σ' H') ?_ m0 ⟨0, σ, H2, I2, st2, fun b hb => (f2 b hb).1, w0⟩
  rintro n s3 ⟨i, σ3, H3, I3, st3, fr3, w3⟩
  rcases turn i n σ3 H3 w3 with ⟨stop, qn⟩ | ⟨go, N, hN, step⟩
  · refine wpAny_passesOwn hp (thn (T.done X rfl rfl rfl hc i pins s3 σ3 H3 X.xe I3 (stat fr3) st3 stop) fun r s4 ⟨hr, I4⟩ => ?_)
    subst hr
    exact wpAny_execs_nil ⟨σ3, H3, I4, qn⟩
  · refine wpAny_passesOwn hp (thn (T.item X rfl rfl rfl hc i pins s3 σ3 H3 X.xe I3 (stat fr3) st3 go) fun r s4 ⟨u, hr, h4⟩ => ?_)
    subst hr
    refine wpAny_passesOwn hp (thn h4 fun _ s5 ⟨x, H5, I5, r5, y5, st5, fr5⟩ => ?_)
    have I5' := I5.pinned (stat fr5) (T.obj _ _ st5)
    refine wpAny_passesOwn hp (thn (hg _ s5 σ3 H5 x u _ I5' r5 (step x H5 y5)) fun _ s6 ⟨σ6, H6, I6, q6⟩ => ?_)
    refine wpAny_passesOwn hp (thn (hb _ s6 σ6 H6 _ I6 q6) fun f s7 q7 => ?_)
    have again : ∀ {σ7 : St} {H7 : Hp}, Inv X (pins ++ pinsAt fp s5.heap) σ7 H7 s7 → N σ7 H7 → ∃ m, m < n ∧ ∃ i σ' H', Inv X pins σ' H' s7 ∧ tn i s7.heap ∧ (∀ b ∈ fp, H' b = none) ∧ W i m σ' H' := fun {σ7 H7} I7 n7 => by
      obtain ⟨m', hm, w7⟩ := hN σ7 H7 n7
      refine ⟨m', hm, i + 1, σ7, H7, I7.unpinned, T.keep _ _ _ st5 fun b hb o e => (I7.pin (b, o) (List.mem_append_right _ (List.mem_append_right _ (mem_pinsAt hb e)))).1, fun b hb => ?_, w7⟩
      obtain ⟨o, e, d⟩ := T.obj _ _ st5 b hb
      exact (I7.pin (b, o) (List.mem_append_right _ (List.mem_append_right _ (mem_pinsAt hb e)))).2.1
    cases f with
    | next => obtain ⟨σ7, H7, I7, n7⟩ := q7; exact again I7 n7
    | cont => obtain ⟨σ7, H7, I7, n7⟩ := q7; exact again I7 n7
    | brk => obtain ⟨σ7, H7, I7, q7⟩ := q7; exact ⟨σ7, H7, I7.unpinned, q7⟩
    | ret v => obtain ⟨x7, σ7, H7, I7, r7, q7⟩ := q7; exact ⟨x7, σ7, H7, I7.unpinned, r7, q7⟩
end

/-! ### the forms one uses -/
end L2

namespace L2
open PySem PySem.Spec PyProof.Rows

abbrev R2 := V → V → Hp → VK → Prop
/-- a two-place operation on values: f is binaryOp op, inplaceOp op or compareOp op -/
def OpR (X : Cx) (f : Value → Value → Sem Value) (r : R2) : Prop :=
  ∀ (pins : List (Addr × Obj)) (s : Shared) (σ : St) (H : Hp) (x y : V) (v u : Value) (Q : VK), Inv X pins σ H s → RelV x v → RelV y u → r x y H Q →
    wpAny (model X.prog X.w) X.A (f v u) (EP X pins σ Q) X.xe s
/-- a one-place operation -/
def UnR (X : Cx) (f : Value → Sem Value) (r : V → Hp → VK → Prop) : Prop :=
  ∀ (pins : List (Addr × Obj)) (s : Shared) (σ : St) (H : Hp) (x : V) (v : Value) (Q : VK), Inv X pins σ H s → RelV x v → r x H Q →
    wpAny (model X.prog X.w) X.A (f v) (EP X pins σ Q) X.xe s
/-- a call of a value that is known (a builtin, a type) with values -/
def CallR (X : Cx) (f : Value) (r : List V → Hp → VK → Prop) : Prop :=
  ∀ (pins : List (Addr × Obj)) (s : Shared) (σ : St) (H : Hp) (xs : List V) (us : List Value) (Q : VK), Inv X pins σ H s → Vals xs us → r xs H Q →
    wpAny (model X.prog X.w) X.A (call f us) (EP X pins σ Q) X.xe s
/-- a value's truth -/
def TruR (X : Cx) (r : V → Hp → (Bool → Hp → Prop) → Prop) : Prop :=
  ∀ (pins : List (Addr × Obj)) (s : Shared) (σ : St) (H : Hp) (x : V) (v : Value) (Q : Bool → Hp → Prop), Inv X pins σ H s → RelV x v → r x H Q →
    wpAny (model X.prog X.w) X.A (truthy v) (TP X pins σ Q) X.xe s

def tOp (r : R2) (ta tb : TE) : TE := fun σ H Q => ta σ H fun x H1 => tb σ H1 fun y H2 => r x y H2 Q
def tUn (r : V → Hp → VK → Prop) (ta : TE) : TE := fun σ H Q => ta σ H fun x H1 => r x H1 Q
/-- ints in, under C, and a value out -/
def rI (C : Int → Int → Prop) (g : Int → Int → V) : R2 := fun x y H Q => ∃ i j, x = .int i ∧ y = .int j ∧ C i j ∧ Q (g i j) H
def rI0 (g : Int → Int → V) : R2 := fun x y H Q => ∃ i j, x = .int i ∧ y = .int j ∧ Q (g i j) H
def rU (g : Int → V) : V → Hp → VK → Prop := fun x H Q => ∃ i, x = .int i ∧ Q (g i) H

section
variable {X : Cx} {a b c : Expr} {ta tb tc : TE} {pos : Pos}

theorem binT (ha : PE X a ta) (hb : PE X b tb) {pins : List (Addr × Obj)} {s : Shared} {σ : St} {H : Hp} {R : V → V → Hp → Prop} (I : Inv X pins σ H s)
    (h : ta σ H fun x H1 => tb σ H1 fun y H2 => R x y H2) {Q : Value → Shared → Prop} {f : Value → Value → Sem Value}
    (hf : ∀ v u s2 x y H2, Inv X pins σ H2 s2 → RelV x v → RelV y u → R x y H2 → wpAny (model X.prog X.w) X.A (f v u) Q X.xe s2) :
    wpAny (model X.prog X.w) X.A (eval a X.env) (fun v s₁ => wpAny (model X.prog X.w) X.A (eval b X.env) (fun u s₂ => wpAny (model X.prog X.w) X.A (f v u) Q X.xe s₂) X.xe s₁) X.xe s := by
  refine thn (ha pins s σ H _ I h) fun v s1 ⟨x, H1, I1, r1, q1⟩ => ?_
  refine thn (hb pins s1 σ H1 _ I1 q1) fun u s2 ⟨y, H2, I2, r2, q2⟩ => ?_
  exact hf v u s2 x y H2 I2 r1 r2 q2

theorem pe_op {op : Operator} {r : R2} (ho : OpR X (binaryOp op) r) (ha : PE X a ta) (hb : PE X b tb) : PE X (.BinOp a op b pos) (tOp r ta tb) := by
  intro pins s σ H Q I h
  exact wpAny_BinOp (binT ha hb I h fun v u s2 x y H2 I2 rx ry q => ho pins s2 σ H2 x y v u Q I2 rx ry q)
theorem pe_un {op : UnaryOp} {r : V → Hp → VK → Prop} (ho : UnR X (unaryOp op) r) (ha : PE X a ta) : PE X (.UnaryOp op a pos) (tUn r ta) := by
  intro pins s σ H Q I h
  exact UnaryOp_ (thn (ha pins s σ H _ I h) fun v s1 ⟨x, H1, I1, r1, q1⟩ => ho pins s1 σ H1 x v Q I1 r1 q1)

/-! ### ints -/
theorem opI {f : Value → Value → Sem Value} {C : Int → Int → Prop} {g : Int → Int → Int}
    (rule : ∀ (i j : Int) (t u : Tok) (s : Shared) (Q : Value → Shared → Prop) (E : Value → Shared → Prop), C i j → Q (.int (g i j) s.toks) { s with toks := s.toks + 1 } → wpAny (model X.prog X.w) X.A (f (.int i t) (.int j u)) Q E s) :
    OpR X f (rI C fun i j => .int (g i j)) := by
  intro pins s σ H x y v u Q I rx ry h
  obtain ⟨i, j, rfl, rfl, hc, q⟩ := h
  obtain ⟨t, rfl⟩ := rx
  obtain ⟨t', rfl⟩ := ry
  exact rule i j t t' s _ _ hc ⟨.int (g i j), H, I.tok _, ⟨_, rfl⟩, q⟩
theorem opI0 {f : Value → Value → Sem Value} {g : Int → Int → Int}
    (rule : ∀ (i j : Int) (t u : Tok) (s : Shared) (Q : Value → Shared → Prop) (E : Value → Shared → Prop), Q (.int (g i j) s.toks) { s with toks := s.toks + 1 } → wpAny (model X.prog X.w) X.A (f (.int i t) (.int j u)) Q E s) :
    OpR X f (rI0 fun i j => .int (g i j)) := by
  intro pins s σ H x y v u Q I rx ry h
  obtain ⟨i, j, rfl, rfl, q⟩ := h
  obtain ⟨t, rfl⟩ := rx
  obtain ⟨t', rfl⟩ := ry
  exact rule i j t t' s _ _ ⟨.int (g i j), H, I.tok _, ⟨_, rfl⟩, q⟩
theorem opB0 {f : Value → Value → Sem Value} {g : Int → Int → Bool}
    (rule : ∀ (i j : Int) (t u : Tok) (s : Shared) (Q : Value → Shared → Prop) (E : Value → Shared → Prop), Q (.bool (g i j)) s → wpAny (model X.prog X.w) X.A (f (.int i t) (.int j u)) Q E s) :
    OpR X f (rI0 fun i j => .bl (g i j)) := by
  intro pins s σ H x y v u Q I rx ry h
  obtain ⟨i, j, rfl, rfl, q⟩ := h
  obtain ⟨t, rfl⟩ := rx
  obtain ⟨t', rfl⟩ := ry
  exact rule i j t t' s _ _ ⟨.bl (g i j), H, I, rfl, q⟩

def CDiv (i j : Int) : Prop := 0 < j ∧ j < 1073741824
def CMul (i j : Int) : Prop := (-(2 ^ 64) < i ∧ i < 2 ^ 64) ∨ (-(2 ^ 64) < j ∧ j < 2 ^ 64)
theorem CMul.ok {i j : Int} (h : CMul i j) : IntMulOk i j := by
  rcases h with ⟨h1, h2⟩ | ⟨h1, h2⟩
  · exact .of_left (intBits_le_64 h1 h2)
  · exact .of_right (intBits_le_64 h1 h2)

theorem op_add : OpR X (binaryOp .Add) (rI0 fun i j => .int (i + j)) := opI0 fun _ _ _ _ _ _ _ q => add_int q
theorem op_sub : OpR X (binaryOp .Sub) (rI0 fun i j => .int (i - j)) := opI0 fun _ _ _ _ _ _ _ q => sub_int q
theorem op_mul : OpR X (binaryOp .Mult) (rI CMul fun i j => .int (i * j)) := opI fun _ _ _ _ _ _ _ hc q => mul_int q hc.ok
/-- // by a positive divisor -/
theorem op_fdiv : OpR X (binaryOp .FloorDiv) (rI CDiv fun i j => .int (i / j)) := opI fun i j _ _ _ _ _ hc q => by
  have h1 : (0 : Int) < j := hc.1
  have h2 : j < 1073741824 := hc.2
  exact floordiv_int (by omega) (by rw [Int.fdiv_eq_ediv_of_nonneg i (by omega)]; exact q) (.inl (PyProof.noPylong_small (by omega)))
/-- % by a positive divisor of any size -/
theorem op_mod : OpR X (binaryOp .Mod) (rI (fun _ j => 0 < j) fun i j => .int (i % j)) := opI fun i j _ _ _ _ _ hc q => by
  have h1 : (0 : Int) < j := hc
  exact mod_int' (by omega) (by rw [Int.fmod_eq_emod_of_nonneg i (by omega)]; exact q)


theorem unI {f : Value → Sem Value} {g : Int → Int}
    (rule : ∀ (i : Int) (t : Tok) (s : Shared) (Q : Value → Shared → Prop) (E : Value → Shared → Prop), Q (.int (g i) s.toks) { s with toks := s.toks + 1 } → wpAny (model X.prog X.w) X.A (f (.int i t)) Q E s) :
    UnR X f (rU fun i => .int (g i)) := by
  intro pins s σ H x v Q I rx h
  obtain ⟨i, rfl, q⟩ := h
  obtain ⟨t, rfl⟩ := rx
  exact rule i t s _ _ ⟨.int (g i), H, I.tok _, ⟨_, rfl⟩, q⟩
theorem un_neg : UnR X (unaryOp .USub) (rU fun i => .int (-i)) := unI fun _ _ _ _ _ q => neg_int q

/-! ### bools among ints: n += (a < b) -/
end

/-! ### comparisons -/


section
variable {X : Cx} {a b c : Expr} {ta tb tc : TE} {pos : Pos}
theorem fin_bl {pins : List (Addr × Obj)} {σ : St} {H : Hp} {s : Shared} {Q : VK} {k k' : Bool} (I : Inv X pins σ H s) (q : Q (.bl k) H) (e : k = k') : EP X pins σ Q (.bool k') s := by
  subst e
  exact ⟨.bl k, H, I, rfl, q⟩

theorem op_lt : OpR X (compareOp .Lt) (rI0 fun i j => .bl (decide (i < j))) := opB0 fun _ _ _ _ _ _ _ q => lt_int q
theorem op_le : OpR X (compareOp .LtE) (rI0 fun i j => .bl (decide (i ≤ j))) := opB0 fun _ _ _ _ _ _ _ q => le_int q
theorem op_gt : OpR X (compareOp .Gt) (rI0 fun i j => .bl (decide (j < i))) := opB0 fun _ _ _ _ _ _ _ q => gt_int q
theorem op_ge : OpR X (compareOp .GtE) (rI0 fun i j => .bl (decide (j ≤ i))) := opB0 fun _ _ _ _ _ _ _ q => ge_int q

/-- is None, is not None: the right side a value none -/
theorem op_isN : OpR X (compareOp .Is) (fun x y H Q => y = .non ∧ Q (.bl (decide (x = .non))) H) := by
  intro pins s σ H x y v u Q I rx ry h
  obtain ⟨rfl, q⟩ := h
  cases ry
  refine is_none_gen (fin_bl I q ?_)
  cases x <;> first
    | (cases rx; rfl)
    | (obtain ⟨t, rfl⟩ := rx; rfl)
theorem op_notN : OpR X (compareOp .IsNot) (fun x y H Q => y = .non ∧ Q (.bl (!decide (x = .non))) H) := by
  intro pins s σ H x y v u Q I rx ry h
  obtain ⟨rfl, q⟩ := h
  cases ry
  refine isnot_none_gen (fin_bl I q ?_)
  cases x <;> first
    | (cases rx; rfl)
    | (obtain ⟨t, rfl⟩ := rx; rfl)


/-- two rules for one operation: by cases -/
theorem OpR.or {f : Value → Value → Sem Value} {r r' : R2} (h : OpR X f r) (h' : OpR X f r') : OpR X f (fun x y H Q => r x y H Q ∨ r' x y H Q) := by
  intro pins s σ H x y v u Q I rx ry q
  rcases q with q | q
  · exact h pins s σ H x y v u Q I rx ry q
  · exact h' pins s σ H x y v u Q I rx ry q

theorem nomark (b : Expr) {op : CmpOp} (h : op ≠ .In := by decide) (h2 : op ≠ .NotIn := by decide) : behindInMarks op b = false := by
  have e1 : (op == CmpOp.In) = false := by cases op <;> first | rfl | exact absurd rfl h
  have e2 : (op == CmpOp.NotIn) = false := by cases op <;> first | rfl | exact absurd rfl h2
  cases b <;> simp [behindInMarks, e1, e2]
/-- a comparison as a value; hm: nomark b, or (for in, not in) by with_unfolding_all rfl -/
theorem pe_cmpR {op : CmpOp} {r : R2} (ho : OpR X (compareOp op) r) (ha : PE X a ta) (hb : PE X b tb) (hm : behindInMarks op b = false) : PE X (.Compare a [op] [b] pos) (tOp r ta tb) := by
  intro pins s σ H Q I h
  exact wpAny_Compare1 (binT ha hb I h fun v u s2 x y H2 I2 rx ry q => ho pins s2 σ H2 x y v u Q I2 rx ry q) hm
/-- a reading of a value as a test -/
def tTest (t : TE) : TT := fun σ H Q => t σ H fun x H' => ∃ k, x = .bl k ∧ Q k H'
theorem pt_cmpR {op : CmpOp} {r : R2} (ho : OpR X (compareOp op) r) (ha : PE X a ta) (hb : PE X b tb) (hm : behindInMarks op b = false) : PT X (.Compare a [op] [b] pos) (tTest (tOp r ta tb)) := by
  intro pins s σ H Q I h
  refine wpAny_isTrue_Compare1 (thn (ha pins s σ H _ I h) fun v s1 ⟨x, H1, I1, r1, q1⟩ => thn (hb pins s1 σ H1 _ I1 q1) fun u s2 ⟨y, H2, I2, r2, q2⟩ =>
    thn (ho pins s2 σ H2 x y v u _ I2 r1 r2 q2) fun c s3 ⟨z, H3, I3, r3, k, e, q3⟩ => ?_) hm
  subst e
  cases r3
  exact wpAny_truthy_bool ⟨H3, I3, q3⟩

/-! ### truth -/
/-- a value's truth by the abstract heap -/
def TruV (K : PySem.W.Frag) (x : V) (H : Hp) (k : Bool) : Prop :=
  match x with
  | .non => k = false
  | .bl b => k = b
  | .int i => k = (i != 0)
  | .str y => y.length ≤ sizeLine ∧ k = ((y.length : Int) != 0)
  | .byt y => y.size ≤ sizeLine ∧ k = ((y.size : Int) != 0)
  | .ref p => (∃ xs, SqL K H p xs ∧ k = !xs.isEmpty) ∨ (∃ xs, SqT K H p xs ∧ k = !xs.isEmpty) ∨ ∃ kvs, H p = some (.dK kvs) ∧ k = !kvs.isEmpty
  | _ => False
theorem isEmpty_kv {κ : Type} {kvs : List (κ × V)} {vs : List (κ × Value)} (r : KV kvs vs) : (!vs.isEmpty) = !kvs.isEmpty := by
  cases r <;> rfl
theorem isEmpty_of {xs : List V} {its : List Value} (r : Vals xs its) : (!its.toArray.isEmpty) = !xs.isEmpty := by
  cases r <;> simp
theorem line63 : (sizeLine : Nat) < 2 ^ 63 := by rw [sizeLine_eq]; decide
theorem tru_ok : TruR X (fun x H Q => ∃ k, TruV X.K x H k ∧ Q k H) := by
  intro pins s σ H x v Q I rx h
  obtain ⟨k, e, q⟩ := h
  have hl := line63
  have hs : sizeLine = 16777216 := sizeLine_eq
  cases x with
  | non =>
    cases rx
    have e' : k = false := e
    subst e'
    exact truthy_none ⟨H, I, q⟩
  | bl b =>
    cases rx
    have e' : k = b := e
    subst e'
    exact wpAny_truthy_bool ⟨H, I, q⟩
  | int i =>
    obtain ⟨t, rfl⟩ := rx
    have e' : k = (i != 0) := e
    subst e'
    exact PySem.P.truthy_int ⟨H, I, q⟩
  | str y =>
    obtain ⟨t, rfl⟩ := rx
    obtain ⟨hy, e'⟩ : y.length ≤ sizeLine ∧ k = ((y.length : Int) != 0) := e
    subst e'
    exact PySem.P.truthy_str (by omega) ⟨H, I.tok _, q⟩
  | byt y =>
    obtain ⟨t, rfl⟩ := rx
    obtain ⟨hy, e'⟩ : y.size ≤ sizeLine ∧ k = ((y.size : Int) != 0) := e
    subst e'
    exact PySem.W.truthy_bytes (by omega) ⟨H, I.tok _, q⟩
  | ref p =>
    cases rx
    have e' : (∃ xs, SqL X.K H p xs ∧ k = !xs.isEmpty) ∨ (∃ xs, SqT X.K H p xs ∧ k = !xs.isEmpty) ∨ ∃ kvs, H p = some (.dK kvs) ∧ k = !kvs.isEmpty := e
    rcases e' with ⟨xs, hx, e'⟩ | ⟨xs, hx, e'⟩ | ⟨kvs, hx, e'⟩
    · subst e'
      obtain ⟨its, r, pl, hz⟩ := I.list hx
      have hlen := r.length
      exact wpAny_truthy_list pl.isList (by simp only [List.size_toArray]; omega) ⟨H, I.tok _, by rw [isEmpty_of r]; exact q⟩
    · subst e'
      obtain ⟨its, r, pl, hz⟩ := I.tuple hx
      have hlen := r.length
      exact truthy_tuple pl (by simp only [List.size_toArray]; omega) ⟨H, I.tok _, by rw [isEmpty_of r]; exact q⟩
    · subst e'
      obtain ⟨hz, hS, vs, r, m⟩ : kvs.length ≤ sizeLine ∧ (p == sysModules) = false ∧ ∃ vs, KV kvs vs ∧ s.heap.DictOf (mixKind X.prog X.w) p vs := I.hok p _ hx
      have hlen : kvs.length = vs.length := Paired.length r
      exact wpAny_truthy_dict hS m (by omega) ⟨H, I.tok _, by rw [isEmpty_kv r]; exact q⟩
  | _ => exact (show False from e).elim
/-- any expression whose test is its value's truth (a name, a call, a subscript, a field ..: he by fun _ => rfl) -/
theorem pt_truth (ha : PE X a ta) (he : ∀ whole, isTrue a X.env whole = (do let v ← whole; standAt a.pos; holding [v] (truthy v))) :
    PT X a (fun σ H Q => ta σ H fun x H' => ∃ k, TruV X.K x H' k ∧ Q k H') := by
  intro pins s σ H Q I h
  exact isTrue_plain (thn (ha pins s σ H _ I h) fun v s1 ⟨x, H1, I1, r1, q1⟩ => tru_ok pins s1 σ H1 x v Q I1 r1 q1) (he _)

/-! ### strs and bytes -/


/-! ### scalar builtins, by CallR -/
theorem vals1 {x : V} {us : List Value} (r : Vals [x] us) : ∃ u, us = [u] ∧ RelV x u := by
  cases r with
  | cons r1 r2 => cases r2; exact ⟨_, rfl, r1⟩
theorem vals2 {x y : V} {us : List Value} (r : Vals [x, y] us) : ∃ u w', us = [u, w'] ∧ RelV x u ∧ RelV y w' := by
  cases r with
  | cons r1 r2 =>
    cases r2 with
    | cons r3 r4 => cases r4; exact ⟨_, _, rfl, r1, r3⟩
theorem call_abs : CallR X (.builtin "abs") (fun xs H Q => ∃ i, xs = [.int i] ∧ Q (.int (if i < 0 then -i else i)) H) := by
  intro pins s σ H xs us Q I r h
  obtain ⟨i, rfl, q⟩ := h
  obtain ⟨u, rfl, t, rfl⟩ := vals1 r
  exact call_abs_int fun u tk => ⟨.int (if i < 0 then -i else i), H, I.tok _, ⟨_, rfl⟩, q⟩
theorem call_max2 (hc : X.calm = true) : CallR X (.builtin "max") (fun xs H Q => ∃ i j, xs = [.int i, .int j] ∧ Q (.int (if j > i then j else i)) H) := by
  intro pins s σ H xs us Q I r h
  obtain ⟨i, j, rfl, q⟩ := h
  obtain ⟨u, w', rfl, ⟨t, rfl⟩, ⟨t', rfl⟩⟩ := vals2 r
  refine max_two_ints (I.ok.hd hc) fun h' tk k => ⟨_, H, I.kept k, ?_, q⟩
  by_cases hj : j > i
  · rw [if_pos hj, if_pos hj]; exact ⟨_, rfl⟩
  · rw [if_neg hj, if_neg hj]; exact ⟨_, rfl⟩
end
end L2

namespace L2
open PySem PySem.Spec PyProof.Rows

/-! ### an instance, its attributes a map -/
structure ObjM (h : Heap) (x dx C : Addr) (mA : Str → Option Value) : Prop where
  obj : h.get? x = some (PySem.W.instObj C dx)
  ns : h.Ns1 dx mA
  ne : dx ≠ x

theorem lookIn_ns {h : Heap} {dx : Addr} {mA : Str → Option Value} (n : h.Ns1 dx mA) : ∃ od, h.get? dx = some od ∧ ∀ name, PySem.W.lookIn name od = some (mA name) := by
  obtain ⟨o, es, ep, ho, hd, hk, _, hm⟩ := n
  refine ⟨o, ho, fun name => ?_⟩
  have e := hm name
  unfold nsFind findBy at e
  rw [← Array.find?_toList] at e
  unfold PySem.W.lookIn
  rw [hd]
  dsimp only
  split
  · rename_i y q
    rw [q] at e
    exact congrArg some e
  · rename_i q
    rw [q] at e
    have a : es.toList.any (·.refKey) = false := by
      rw [List.any_eq_false]
      intro y hy
      obtain ⟨z, t, hkey⟩ := hk y (Array.mem_toList_iff.mp hy)
      simp [DictEntry.refKey, hkey]
    have a' : ¬ es.toList.any (·.refKey) = true := by rw [a]; exact Bool.false_ne_true
    rw [if_neg a']
    exact congrArg some e

theorem ObjM.look {h : Heap} {x dx C : Addr} {mA : Str → Option Value} (I : ObjM h x dx C mA) : ∃ od, PySem.W.InstAt h x (PySem.W.instObj C dx) C (some od) ∧ ∀ name, PySem.W.lookIn name od = some (mA name) :=
  let ⟨od, ho, hl⟩ := lookIn_ns I.ns
  ⟨od, ⟨I.obj, rfl, rfl, ho⟩, hl⟩

section
variable {prog : Program} {w : World} {A : Around} {E : Value → Shared → Prop} {s : Shared} {K : PySem.W.Frag} {x dx C f : Addr} {mA : Str → Option Value} {name : Str} {v : Value}





end

/-! ### the attributes as a list of pairs -/


section
variable {P : Program} {w : World} {H H' : Hp} {h h' : Heap} {a C dx : Addr} {fs fs' : List (Str × V)}
theorem ins_get (hok : HOk P w H h) (e : H a = some (.ins C dx fs)) : ∃ mA, ObjM h a dx C mA ∧ (∀ f, RelO (fs.lookup f) (mA f)) ∧ PySem.Within mA (fs.map (·.1)) ∧ fs.length ≤ 1000 ∧ H dx = some (.own a) := by
  obtain ⟨d, z, ne, ob, mA, n, r, q⟩ := (show ObjOk P w H h a (.ins C dx fs) from hok a _ e)
  exact ⟨mA, ⟨ob, n, ne⟩, r, q, z, d⟩
end

/-! ### what of the text a class must have -/
structure Cls (K : PySem.W.Frag) (C : Addr) : Prop where
  pg : PySem.W.plainGet K C Str.empty = true
  hd : PySem.W.hasDictIn K C = true
  po : PySem.W.plainOver K C = true
  sa : PySem.W.findIn K (.ref C) "__setattr__" = some (some (.builtin "object.__setattr__"))
theorem Cls.get {K : PySem.W.Frag} {C : Addr} (c : Cls K C) (f : Str) : PySem.W.plainGet K C f = true := c.pg
/-- a constant of the class -/
structure Con (K : PySem.W.Frag) (C : Addr) (f : Str) (v : V) (u : Value) : Prop where
  at_ : PySem.W.findIn K (.ref C) f = some (some u)
  rel : RelV v u
  get : PySem.W.specialIn K u "__get__" = some none
  cp : PySem.W.copiedNames.contains f = false
/-- a method: a plain def of the class or of one above it -/
structure Meth (K : PySem.W.Frag) (C : Addr) (m : Str) (f : Addr) : Prop where
  at_ : PySem.W.findIn K (.ref C) m = some (some (.ref f))
  fn : PySem.W.isFn K (.ref f) = true
  kp : PySem.W.keepIn K (.ref f) = true

section
variable {X : Cx} {pins : List (Addr × Obj)} {σ : St} {H : Hp} {s : Shared} {a C dx : Addr} {fs : List (Str × V)} {f : Str} {v : V} {A : Around} {E : Value → Shared → Prop}





/-- a new instance, tracked, without attributes -/
theorem Inv.made (I : Inv X pins σ H s) : Inv X pins σ (upd (upd H s.heap.objs.size (.own (s.heap.objs.size + 1))) (s.heap.objs.size + 1) (.ins C s.heap.objs.size []))
    { s with heap := (s.heap.push PySem.W.emptyDict).push (PySem.W.instObj C s.heap.objs.size) } := by
  have e1 : (s.heap.push PySem.W.emptyDict).get? s.heap.objs.size = some PySem.W.emptyDict := Heap.get?_push_size s.heap rfl
  have e2 : ((s.heap.push PySem.W.emptyDict).push (PySem.W.instObj C s.heap.objs.size)).get? (s.heap.objs.size + 1) = some (PySem.W.instObj C s.heap.objs.size) := by
    have := Heap.get?_push_size (s.heap.push PySem.W.emptyDict) (o := PySem.W.instObj C s.heap.objs.size) rfl
    rwa [Heap.size_push] at this
  have e3 : (s.heap.push PySem.W.emptyDict).Ns s.heap.objs.size (fun _ => none) := ⟨PySem.W.emptyDict, #[], _, e1, rfl, (fun e he => absurd he (by simp)), fun _ => rfl⟩
  have I1 := I.laid (a := s.heap.objs.size) (o := .own (s.heap.objs.size + 1)) (h' := s.heap.push PySem.W.emptyDict) (t' := s.toks) (fun b u q => Heap.get?_push_of_some _ q) (Nat.le_refl _) ⟨_, e1⟩
  refine I1.laid (a := s.heap.objs.size + 1) (o := .ins C s.heap.objs.size []) (t' := s.toks) (fun b u q => Heap.get?_push_of_some _ q) (Nat.le_of_eq (Heap.size_push _ _)) ?_
  have ne : s.heap.objs.size ≠ s.heap.objs.size + 1 := Nat.ne_of_lt (Nat.lt_succ_self _)
  refine ⟨by rw [upd_ne ne, upd_same], Nat.zero_le _, ne, e2, fun _ => none, (Heap.Ns1.of_empty e3).at fun o q => Heap.get?_push_of_some _ q, fun _ => True.intro, fun y hy => absurd rfl hy⟩

end

/-! ### readings and rules -/

section
variable {X : Cx} {o e value : Expr} {f : Str} {pos pos' tpos : Pos} {ta tv : TE}

end

/-! ### isinstance -/
section
variable {X : Cx} {pins : List (Addr × Obj)} {σ : St} {H : Hp} {s : Shared} {A : Around} {E : Value → Shared → Prop} {Q : Value → Shared → Prop} {c : Value} {b : Bool}
/-- the type of a value, as the fragment's deciders take it; for an instance its class -/
inductive TyOf (K : PySem.W.Frag) (H : Hp) : V → Value → Prop where
  | non : TyOf K H .non (.type "NoneType")
  | bl (x : Bool) : TyOf K H (.bl x) (.type "bool")
  | int (i : Int) : TyOf K H (.int i) (.type "int")
  | str (x : Str) : TyOf K H (.str x) (.type "str")
  | flt (x : UInt64) : TyOf K H (.flt x) (.type "float")
  | lst {a : Addr} {xs : List V} (e : H a = some (.lst xs)) : TyOf K H (.ref a) (.type "list")
  | frz {a : Addr} {o : Obj} {xs : List V} (e : H a = some (.frz o (.lst xs))) : TyOf K H (.ref a) (.type "list")
  | tup {a : Addr} {xs : List V} (e : H a = some (.tup xs)) : TyOf K H (.ref a) (.type "tuple")
  | dK {a : Addr} {kvs : List (Key × V)} (e : H a = some (.dK kvs)) : TyOf K H (.ref a) (.type "dict")
  | dT {a : Addr} {kvs : List (List Key × V)} (e : H a = some (.dT kvs)) : TyOf K H (.ref a) (.type "dict")
  | ins {a C dx : Addr} {fs : List (Str × V)} (e : H a = some (.ins C dx fs)) (cl : Cls K C) (ha : PySem.W.findIn K (.ref C) "__class__" = some (some (.builtin "object.__class__")))
      (hn : PySem.W.specialIn K (.builtin "object.__class__") "__get__" = some (some (.builtin "getset_descriptor.__get__"))) (htk : PySem.W.takesIn K (.builtin "object.__class__") = some true)
      (hm : PySem.W.mroIn K C (.type "object") = some true) : TyOf K H (.ref a) (.ref C)
/-- isinstance(x, c) for one class c, a built-in or an own one: kitOne's answer -/
theorem isinst_ok {x : V} {u t : Value} (I : Inv X pins σ H s) (rx : RelV x u) (ty : TyOf X.K H x t) (e : PySem.W.kitOne X.K t c = some b) (h : ∀ tk, Q (.bool b) { s with toks := tk }) :
    wpAny (model X.prog X.w) A (call (.builtin "isinstance") [u, c]) Q E s := by
  cases ty with
  | non => cases (show u = Value.none from rx); exact PySem.W.kia_one PySem.W.kitx_none I.kIn True.intro e (fun z => nomatch z) h
  | bl y => cases (show u = Value.bool y from rx); exact PySem.W.kia_one PySem.W.kitx_bool I.kIn True.intro e (fun z => nomatch z) h
  | int i => obtain ⟨t, q⟩ := (show ∃ t, u = Value.int i t from rx); cases q; exact PySem.W.kia_one PySem.W.kitx_int I.kIn True.intro e (fun z => nomatch z) h
  | str y => obtain ⟨t, q⟩ := (show ∃ t, u = Value.str y t from rx); cases q; exact PySem.W.kia_one PySem.W.kitx_str I.kIn True.intro e (fun z => nomatch z) h
  | flt y => obtain ⟨t, q⟩ := (show ∃ t, u = Value.float y t from rx); cases q; exact PySem.W.kia_one PySem.W.kitx_float I.kIn True.intro e (fun z => nomatch z) h
  | @lst a xs ea =>
    cases (show u = Value.ref a from rx)
    obtain ⟨_, _, n, _, h1⟩ := (show ObjOk X.prog X.w H s.heap a (.lst xs) from I.hok a _ ea)
    exact PySem.W.kia_one PySem.W.kitx_list I.kIn ⟨_, h1, rfl⟩ e (fun z => nomatch z) h
  | @frz a ob xs ea =>
    cases (show u = Value.ref a from rx)
    obtain ⟨_, _, _, n, _, h1⟩ := (show ObjOk X.prog X.w H s.heap a (.frz ob (.lst xs)) from I.hok a _ ea)
    exact PySem.W.kia_one PySem.W.kitx_list I.kIn ⟨_, h1, rfl⟩ e (fun z => nomatch z) h
  | @tup a xs ea =>
    cases (show u = Value.ref a from rx)
    obtain ⟨_, _, _, p⟩ := (show ObjOk X.prog X.w H s.heap a (.tup xs) from I.hok a _ ea)
    obtain ⟨o, h1, h2, _⟩ := p
    exact PySem.W.kia_one PySem.W.kitx_tuple I.kIn ⟨o, h1, h2⟩ e (fun z => nomatch z) h
  | @dK a kvs ea =>
    cases (show u = Value.ref a from rx)
    obtain ⟨_, _, vs, _, p⟩ := (show ObjOk X.prog X.w H s.heap a (.dK kvs) from I.hok a _ ea)
    obtain ⟨o, es, ep, h1, h2, _⟩ := p
    exact PySem.W.kia_one PySem.W.kitx_dict I.kIn ⟨o, h1, h2.1⟩ e (fun z => nomatch z) h
  | @dT a kvs ea =>
    cases (show u = Value.ref a from rx)
    obtain ⟨_, _, xs, _, o, es, ep, h1, h2, _⟩ := (show ObjOk X.prog X.w H s.heap a (.dT kvs) from I.hok a _ ea)
    exact PySem.W.kia_one PySem.W.kitx_dict I.kIn ⟨o, h1, h2.1⟩ e (fun z => nomatch z) h
  | @ins a C dx fs ea cl ha hn htk hm =>
    cases (show u = Value.ref a from rx)
    obtain ⟨mA, O, _⟩ := ins_get I.hok ea
    obtain ⟨od, J, _⟩ := O.look
    exact PySem.W.kia_one (PySem.W.kitx_own (cl.get _) cl.hd ha hn htk hm) I.kIn J e (fun z => nomatch z) h
end
end L2

namespace L2
open PySem PySem.Spec PyProof.Rows

/-! ### room -/
structure Room (k : Nat) (A : Around) : Prop where
  hd : A.handled = none
  dp : A.depth + 3 * k + 5 < recursionLimit
  un : A.units + 16 * k + 200 < cLine
theorem Room.mono {j k : Nat} {A : Around} (r : Room k A) (h : j ≤ k) : Room j A := ⟨r.hd, by have := r.dp; omega, by have := r.un; omega⟩
theorem Room.deeper {k : Nat} {A : Around} (r : Room (k + 1) A) (env : Env) : Room k (A.deeper env) :=
  ⟨r.hd, by have := r.dp; show A.depth + 1 + 3 * k + 5 < _; omega, by have := r.un; show A.units + 3 + 16 * k + 200 < _; omega⟩
theorem Room.in1 {k : Nat} {A : Around} (r : Room (k + 1) A) : Room k A.in1 :=
  ⟨r.hd, by have := r.dp; show A.depth + 3 * k + 5 < _; omega, by have := r.un; show A.units + 1 + 16 * k + 200 < _; omega⟩
theorem Room.depth {k : Nat} {A : Around} (r : Room k A) : A.depth < recursionLimit := by have := r.dp; omega
theorem Room.units {k : Nat} {A : Around} (r : Room k A) : A.units + 64 < cLine := by have := r.un; omega

/-! ### argument lists and displays -/
def tNil : TA := fun _ H Q => Q [] H
def tCons (ta : TE) (tr : TA) : TA := fun σ H Q => ta σ H fun x H1 => tr σ H1 fun xs H2 => Q (x :: xs) H2
section
variable {X : Cx} {e : Expr} {es : List Expr} {te : TE} {t : TA} {pos : Pos}
theorem pa_nil : PA X [] tNil := fun _ _ _ _ H Q I h => Calls.spliced_nil ⟨[], H, I, .nil, h⟩
theorem pa_cons (ha : PE X e te) (hr : PA X es t) (hs : starEach (e :: es) X.env = (false, eval e X.env) :: starEach es X.env := by rfl) : PA X (e :: es) (tCons te t) := by
  intro pos pins s σ H Q I h
  rw [hs]
  show wpAny _ _ (spliced ((false, eval e X.env) :: backTo pos (starEach es X.env))) _ _ s
  refine Calls.spliced_cons (thn (ha pins s σ H _ I h) fun u s1 ⟨x, H1, I1, r1, q1⟩ => ?_)
  exact thn (hr pos pins s1 σ H1 _ I1 q1) fun us s2 ⟨xs, H2, I2, r2, q2⟩ => ⟨x :: xs, H2, I2, .cons r1 r2, q2⟩

/-- a tuple, a list of written items -/
def tTup (t : TA) : TE := fun σ H Q => t σ H fun xs H1 => xs.length ≤ sizeLine ∧ ∀ p, H1 p = none → Q (.ref p) (upd H1 p (.tup xs))
def tLst (t : TA) : TE := fun σ H Q => t σ H fun xs H1 => xs.length ≤ sizeLine ∧ ∀ p, H1 p = none → Q (.ref p) (upd H1 p (.lst xs))
theorem pe_tup {x1} (h : PA X es t) : PE X (.Tuple es x1 pos) (tTup t) := by
  intro pins s σ H Q I hq
  refine wpAny_Tuple_spliced (thn (h pos pins s σ H _ I hq) fun us s1 ⟨xs, H1, I1, r, z, q⟩ => ⟨by rw [← r.length]; exact z, ?_⟩)
  have hf : H1 s1.heap.objs.size = none := I1.hok.fresh (Nat.le_refl _)
  refine ⟨.ref s1.heap.objs.size, upd H1 s1.heap.objs.size (.tup xs), I1.laid (t' := s1.toks) (fun b u e => Heap.get?_push_of_some _ e) (Nat.le_refl _) ?_, rfl, q _ hf⟩
  exact ⟨z, us, r, ⟨_, Heap.get?_push_size _ rfl, rfl, _, rfl⟩⟩
theorem pe_lst (h : PA X es t) : PE X (.List es pos) (tLst t) := by
  intro pins s σ H Q I hq
  refine wpAny_List_spliced (thn (h pos pins s σ H _ I hq) fun us s1 ⟨xs, H1, I1, r, z, q⟩ => ⟨by rw [← r.length]; exact z, ?_⟩)
  have hf : H1 s1.heap.objs.size = none := I1.hok.fresh (Nat.le_refl _)
  refine ⟨.ref s1.heap.objs.size, upd H1 s1.heap.objs.size (.lst xs), I1.laid (t' := s1.toks) (fun b u e => Heap.get?_push_of_some _ e) (Nat.le_refl _) ?_, rfl, q _ hf⟩
  exact ⟨z, us, 0, r, Heap.get?_push_size _ rfl⟩
end

/-! ### what a def promises -/
/-- a def's promise: the bound arguments in the parameters' order, the heap, the wanted end, the wanted exception -/
abbrev Sp := List V → Hp → VK → XK → Prop
/-- how an exception lies behind a call (file 08 gives it): the callers' frames, abstract heap and state ahead of the call, the wish, the exception, the state -/
abbrev CXT := List Env → Hp → Shared → XK → Value → Shared → Prop

/-- the state at a call -/
structure Env0 (P : Program) (w : World) (K : PySem.W.Frag) (mg : Str → Option Value) (base : Heap) (A : Around) (outer : List Env) (s : Shared) (H : Hp) : Prop where
  frames : A.frames = some outer
  mod : Mod K mg base
  bs : ∀ b o, base.get? b = some o → s.heap.get? b = some o ∧ H b = none
  bsz : base.objs.size ≤ s.heap.objs.size
  funs : s.heap.FunFrames base outer
  frf : ∀ b ∈ frs outer, H b = none
  hok : HOk P w H s.heap
  bare : AllBare s.gens
/-- a call's end -/
def CE (outer : List Env) (P : Program) (w : World) (H : Hp) (s : Shared) (Q : VK) (u : Value) (s' : Shared) : Prop :=
  ∃ v H', s'.os = s.os ∧ AllBare s'.gens ∧ Un (frs outer) [] H H' s.heap s'.heap ∧ HOk P w H' s'.heap ∧ RelV v u ∧ Q v H'
def CR (CX : CXT) (outer : List Env) (P : Program) (w : World) (H : Hp) (s : Shared) (Q : VK) (E : XK) (r : Result) (s' : Shared) : Prop :=
  match r with
  | .ok (.ret u) => CE outer P w H s Q u s'
  | .ok _ => False
  | .error e => CX outer H s E e s'
structure FnOk (P : Program) (w : World) (K : PySem.W.Frag) (mg : Str → Option Value) (base : Heap) (CX : CXT) (k : Nat) (f : Addr) (fd : FuncData) (ps : List Str) (sp : Sp) : Prop where
  len : ∀ vs H Q E, sp vs H Q E → vs.length = ps.length
  run : ∀ (A : Around) (outer : List Env) (s : Shared) (H : Hp) (args : Args) (us : List Value) (vs : List V) (Q : VK) (E : XK), Room k A → Env0 P w K mg base A outer s H → BindsTo s fd args (ps.zip us) → Vals vs us → sp vs H Q E →
    codeAny (model P w) A (.call (.ref f) args) (CR CX outer P w H s Q E) s
theorem FnOk.mono {P : Program} {w : World} {K : PySem.W.Frag} {mg : Str → Option Value} {base : Heap} {CX : CXT} {j k : Nat} {f : Addr} {fd : FuncData} {ps : List Str} {sp : Sp} (F : FnOk P w K mg base CX j f fd ps sp) (h : j ≤ k) :
    FnOk P w K mg base CX k f fd ps sp := ⟨F.len, fun A outer s H args us vs Q E hr => F.run A outer s H args us vs Q E (hr.mono h)⟩
/-- a weaker promise -/
theorem FnOk.imp {P : Program} {w : World} {K : PySem.W.Frag} {mg : Str → Option Value} {base : Heap} {CX : CXT} {k : Nat} {f : Addr} {fd : FuncData} {ps : List Str} {sp sp' : Sp} (F : FnOk P w K mg base CX k f fd ps sp)
    (h : ∀ vs H Q E, sp' vs H Q E → sp vs H Q E) : FnOk P w K mg base CX k f fd ps sp' :=
  ⟨fun vs H Q E q => F.len vs H Q E (h _ _ _ _ q), fun A outer s H args us vs Q E hr he hb hv hs => F.run A outer s H args us vs Q E hr he hb hv (h _ _ _ _ hs)⟩

theorem Env0.in1 {P : Program} {w : World} {K : PySem.W.Frag} {mg : Str → Option Value} {base : Heap} {A : Around} {outer : List Env} {s : Shared} {H : Hp} (e : Env0 P w K mg base A outer s H) :
    Env0 P w K mg base A.in1 outer s H := ⟨e.frames, e.mod, e.bs, e.bsz, e.funs, e.frf, e.hok, e.bare⟩

section
variable {X : Cx} {pins : List (Addr × Obj)} {σ : St} {H : Hp} {s s' : Shared}
/-- from a body: what a callee wants -/
theorem Inv.env0 (I : Inv X pins σ H s) : Env0 X.prog X.w X.K X.mg X.base X.A X.stack s H :=
  ⟨I.ok.frames, I.ok.mod, I.bs, Nat.le_trans I.ok.bsz I.sz, I.stack, I.stkFree, I.hok, I.bare⟩
/-- behind a call -/
theorem Inv.after {Q : VK} {u : Value} (I : Inv X pins σ H s) (h : CE X.stack X.prog X.w H s Q u s') : EP X pins σ Q u s' := by
  obtain ⟨v, H', os, bare, un, hok, r, q⟩ := h
  obtain ⟨hh, g, d, t, os'⟩ := s'
  obtain rfl : os' = s.os := os
  exact ⟨v, H', I.call (h' := hh) (g' := g) (d' := d) (t' := t) (ch := []) un hok bare (fun b z => absurd z (by simp)), r, q⟩
end

/-! ### calls -/

/-- how the parameters are bound: us the positional arguments, kw the keywords' values by name, ds the defaults that fill up -/
def Binds (K : PySem.W.Frag) (fd : FuncData) (ps : List Str) (ds : List Value) : Prop :=
  ∀ (s : Shared) (us : List Value), K.In s.heap → (us ++ ds).length = ps.length → BindsTo s fd ⟨us, []⟩ (ps.zip (us ++ ds))
/-- every parameter is given -/
theorem Binds.all {K : PySem.W.Frag} {fd : FuncData} {ps : List Str} (h : ∀ us : List Value, us.length = ps.length → bindArgs fd ⟨us, []⟩ = pure (ps.zip us)) : Binds K fd ps [] := fun s us _ hl => by
  rw [List.append_nil] at hl ⊢
  exact .of_eq (h us hl)


section
variable {X : Cx} {CX : CXT} {k : Nat} {f C : Addr} {fd : FuncData} {ps : List Str} {sp : Sp} {dvs : List V} {ds : List Value} {E : XK} {x m : Str} {p pos apos : Pos} {e o : Expr} {es : List Expr} {ta : TE} {t : TA}




/-- what a class must have to be made -/
structure Mk (K : PySem.W.Frag) (C f : Addr) : Prop where
  makes : PySem.W.makesIn K C = true
  init : PySem.W.findIn K (.ref C) "__init__" = some (some (.ref f))
  fn : PySem.W.isFn K (.ref f) = true
  kp : PySem.W.keepIn K (.ref C) = true

end

/-! ### keywords -/
section
variable {X : Cx} {CX : CXT} {k : Nat} {f C : Addr} {fd : FuncData} {ps ks : List Str} {sp : Sp} {E : XK} {x m : Str} {p pos apos kpos : Pos} {e o : Expr} {es : List Expr} {kws : List Keyword} {te ta : TE} {t tk : TA} {nm : Option Str}

/-- how a call with keywords binds: g puts the positional values us and the keywords' values ws (names ks) in the parameters' order, defaults among them -/
structure KBinds (K : PySem.W.Frag) (fd : FuncData) (ps ks : List Str) (g : List Value → List Value → List Value) (gV : List V → List V → List V) : Prop where
  to : ∀ (s : Shared) (us ws : List Value), K.In s.heap → (g us ws).length = ps.length → BindsTo s fd ⟨us, ks.zip ws⟩ (ps.zip (g us ws))
  rel : ∀ {vs : List V} {us : List Value} {zs : List V} {ws : List Value}, Vals vs us → Vals zs ws → Vals (gV vs zs) (g us ws)
variable {g : List Value → List Value → List Value} {gV : List V → List V → List V}
end

/-! ### a def's body keeps its promise -/
/-- names: the parameters first -/
structure FnScope (N P : List Str) (sc : Scope) : Prop where
  kind : sc.kind = .function
  co : sc.isCoroutine = false
  gen : sc.isGenerator = false
  nd : N.Nodup
  pre : N.take P.length = P
  par : ∀ x ∈ P, sc.names.lookup x = some .local ∨ sc.names.lookup x = some .cell
  nofree : ∀ y ∈ sc.names, y.2 ≠ .free

theorem bindL_out {kindOf : Str → Option NameKind} {x : Str} : ∀ {binds : List (Str × Value)} {m : Str → Option Value}, (∀ v, (x, v) ∉ binds) → bindL kindOf binds m x = m x
  | [], _, _ => rfl
  | (n, v) :: r, m, h => by
    unfold bindL
    rw [bindL_out fun w hw => h w (List.mem_cons_of_mem _ hw)]
    split
    · have : x ≠ n := by rintro rfl; exact h v List.mem_cons_self
      simp [this]
    · rfl
theorem bindC_out {kindOf : Str → Option NameKind} {x : Str} : ∀ {binds : List (Str × Value)} {m : Str → Option Value}, (∀ v, (x, v) ∉ binds) → bindC kindOf binds m x = m x
  | [], _, _ => rfl
  | (n, v) :: r, m, h => by
    unfold bindC
    rw [bindC_out fun w hw => h w (List.mem_cons_of_mem _ hw)]
    split
    · rfl
    · have : x ≠ n := by rintro rfl; exact h v List.mem_cons_self
      simp [this]
theorem bindL_get {kindOf : Str → Option NameKind} {x : Str} {v : Value} : ∀ {P : List Str} {vs : List Value} {i : Nat} {m : Str → Option Value}, P.Nodup → P[i]? = some x → vs[i]? = some v → kindOf x = some .local →
    bindL kindOf (P.zip vs) m x = some v
  | [], _, _, _, _, h, _, _ => by simp at h
  | _ :: _, [], _, _, _, _, h, _ => by simp at h
  | p :: P, w :: vs, 0, m, nd, h1, h2, hk => by
    simp at h1 h2; subst h1; subst h2
    show bindL kindOf ((p, w) :: P.zip vs) m p = _
    unfold bindL
    rw [bindL_out fun v hv => (List.nodup_cons.mp nd).1 (List.of_mem_zip hv).1, if_pos hk]
    simp
  | p :: P, w :: vs, i + 1, m, nd, h1, h2, hk => by
    show bindL kindOf ((p, w) :: P.zip vs) m x = _
    unfold bindL
    exact bindL_get (i := i) (List.nodup_cons.mp nd).2 (by simpa using h1) (by simpa using h2) hk
theorem bindC_get {kindOf : Str → Option NameKind} {x : Str} {v : Value} : ∀ {P : List Str} {vs : List Value} {i : Nat} {m : Str → Option Value}, P.Nodup → P[i]? = some x → vs[i]? = some v → kindOf x ≠ some .local →
    bindC kindOf (P.zip vs) m x = some v
  | [], _, _, _, _, h, _, _ => by simp at h
  | _ :: _, [], _, _, _, _, h, _ => by simp at h
  | p :: P, w :: vs, 0, m, nd, h1, h2, hk => by
    simp at h1 h2; subst h1; subst h2
    show bindC kindOf ((p, w) :: P.zip vs) m p = _
    unfold bindC
    rw [bindC_out fun v hv => (List.nodup_cons.mp nd).1 (List.of_mem_zip hv).1, if_neg hk]
    simp
  | p :: P, w :: vs, i + 1, m, nd, h1, h2, hk => by
    show bindC kindOf ((p, w) :: P.zip vs) m x = _
    unfold bindC
    exact bindC_get (i := i) (List.nodup_cons.mp nd).2 (by simpa using h1) (by simpa using h2) hk

/-- the names' values at the entry -/
def start (N : List Str) (vs : List V) : St := vs.map some ++ List.replicate (N.length - vs.length) none

/-- the context of a def's body, at its entry; an exception leaves the frame, then lies as CX says -/
def cxOf (CX : CXT) (P : Program) (w : World) (K : PySem.W.Frag) (mg : Str → Option Value) (base : Heap) (N : List Str) (qual : Str) (scope : Scope) (f : Addr) (cd : Value) (A : Around) (outer : List Env) (s : Shared) (H : Hp) (E : XK) : Cx where
  prog := P
  w := w
  K := K
  mg := mg
  base := base
  A := A.deeper (envOfC qual scope s.heap.objs.size f cd)
  N := N
  s₀ := s
  H₀ := H
  env := envOfC qual scope s.heap.objs.size f cd
  outer := outer
  stack := envOfC qual scope s.heap.objs.size f cd :: outer
  ex := []
  calm := true
  fn := fun _ => true
  pn := []
  xe := fun e s' => wpAny (model P w) (A.deeper (envOfC qual scope s.heap.objs.size f cd)) (leaving (envOfC qual scope s.heap.objs.size f cd) e) (fun _ s'' => CX outer H s E e s'') (fun e' s'' => CX outer H s E e' s'') s'

theorem cell_has {sc : Scope} {n : Nat} {x : Str} (h : sc.names.lookup x = some .cell) : ∃ c, (cellsFrom n sc.names []).lookup x = some c := by
  have q := PySem.W.cellsFrom_some sc.names n [] (.inl h)
  exact Option.isSome_iff_exists.mp q

theorem inv_start {CX : CXT} {P : Program} {w : World} {K : PySem.W.Frag} {mg : Str → Option Value} {base : Heap} {N ps : List Str} {qual : Str} {scope : Scope} {f : Addr} {cd : Value} {A : Around} {outer : List Env} {s s1 : Shared} {H : Hp} {E : XK} {us : List Value} {vs : List V}
    (S : FnScope N ps scope) (hd : A.handled = none) (e0 : Env0 P w K mg base A outer s H) (hl : vs.length = ps.length) (r : Vals vs us)
    (x : InCallC s s.heap.objs.size (bindL (envOfC qual scope s.heap.objs.size f cd).kindOf (ps.zip us) fun _ => none) (cellsFrom (s.heap.objs.size + 1) scope.names []) (bindC (envOfC qual scope s.heap.objs.size f cd).kindOf (ps.zip us) fun _ => none) s1) :
    Inv (cxOf CX P w K mg base N qual scope f cd A outer s H E) [] (start N vs) H s1 := by
  have hpl : ps.length ≤ N.length := by have := congrArg List.length S.pre; rw [List.length_take] at this; omega
  obtain ⟨h1, tk, rfl, hk⟩ := x.done
  have noA : ∀ b : Addr, b ∉ (cxOf CX P w K mg base N qual scope f cd A outer s H E).ex := fun b z => absurd (show b ∈ ([] : List Addr) from z) (by simp)
  refine ⟨⟨e0.mod, S.kind, rfl, rfl, Nat.le_refl _, fun y z c h1 h2 => ?_, fun y hy => ?_, fun y c _ h => ?_, fun _ => hd, Around.frames_deeper e0.frames, .inr ⟨rfl, rfl⟩, fun b z => absurd z (noA b), e0.bs, e0.bsz, fun b _ _ => noA b, fun b z => absurd z (noA b), e0.funs, e0.frf⟩,
    rfl, e0.bare, Un.kept hk, ⟨_, x.toInCall.ns, fun i y v h1 h2 h3 => ?_⟩, fun y c h => ⟨_, x.cell y c h⟩, e0.hok.fresh (Nat.le_refl _), fun y c h => ?_, fun p hp => absurd (show p ∈ ([] : List (Addr × Obj)) from hp) (by simp), e0.hok.kept hk, ?_⟩
  · exact name_of_addr x.apart (PySem.mem_of_lookup h1) (PySem.mem_of_lookup h2)
  · have hy : scope.names.lookup y = some .cell ∨ scope.names.lookup y = some .free := hy
    rcases hy with hy | hy
    · exact cell_has hy
    · exact absurd rfl (S.nofree _ (PySem.mem_of_lookup hy))
  · exact Nat.le_of_lt (x.above y c (PySem.mem_of_lookup h))
  · have hi : i < vs.length := by
      unfold start at h2
      by_cases hi : i < vs.length
      · exact hi
      · rw [List.getElem?_append_right (by simpa using hi)] at h2
        rw [List.getElem?_replicate] at h2
        split at h2 <;> cases h2
    have ha : vs[i]? = some v := by
      unfold start at h2
      rw [List.getElem?_append_left (by simpa using hi), List.getElem?_map] at h2
      cases e : vs[i]? with
      | none => rw [e] at h2; cases h2
      | some a => rw [e] at h2; cases h2; rfl
    obtain ⟨u, hu, rv⟩ := r.get ha
    have hp : ps[i]? = some y := by
      rw [← S.pre, List.getElem?_take_of_lt (by omega)]; exact h1
    have ndP : ps.Nodup := by rw [← S.pre]; exact S.nd.sublist (List.take_sublist _ _)
    refine ⟨u, rv, ?_⟩
    rcases S.par y (List.mem_of_getElem? hp) with k | k
    · exact .inl ⟨k, bindL_get ndP hp hu k⟩
    · obtain ⟨c, e⟩ := cell_has (n := s.heap.objs.size + 1) k
      refine .inr ⟨.inl k, c, e, ?_⟩
      have q := x.cell y c e
      rw [bindC_get ndP hp hu (by show scope.names.lookup y ≠ _; rw [k]; decide)] at q
      exact q
  · exact e0.hok.fresh (Nat.le_of_lt (x.above y c (PySem.mem_of_lookup h)))
  · unfold start
    show _ = N.length
    rw [List.length_append, List.length_map, List.length_replicate]
    omega

/-- THE RULE: a def (or a method) of the text, by its body. The body's reading t is chosen for each entry; it is run at the parameters' values -/
theorem fn_of {CX : CXT} {P : Program} {w : World} {K : PySem.W.Frag} {mg : Str → Option Value} {base : Heap} {k : Nat} {f : Addr} {name qual : Str} {params : Arguments} {body : List Stmt} {scope : Scope} {dV kV doc pm cdv ct oc : Value} {an od : Option Addr}
    {osl : Array (Option Value)} {N ps : List Str} {sp : Sp} (lk : K.lookup f = some ⟨oc, od, .func (PySem.W.fnOf name qual params body scope dV kV doc pm an cdv ct), osl⟩) (hcd : PySem.W.codeIn K cdv qual = true) (S : FnScope N ps scope)
    (len : ∀ vs H Q E, sp vs H Q E → vs.length = ps.length)
    (hbody : ∀ (A : Around) (outer : List Env) (s : Shared) (H : Hp) (vs : List V) (Q : VK) (E : XK), Room k (A.deeper (envOfC qual scope s.heap.objs.size f cdv)) → sp vs H Q E →
      ∃ t, PSs (cxOf CX P w K mg base N qual scope f cdv A outer s H E) body t ∧ t { nx := fun _ H' => Q .non H', rt := Q } (start N vs) H) :
    FnOk P w K mg base CX (k + 1) f (PySem.W.fnOf name qual params body scope dV kV doc pm an cdv ct) ps sp := by
  refine ⟨len, fun A outer s H args us vs Q E hr e0 hb r hsp => ?_⟩
  have hl := len _ _ _ _ hsp
  have KX : K.In s.heap := e0.mod.kin.keeps fun b o e => (e0.bs b o e).1
  have lim : s.heap.NoLimit := e0.mod.nolimit.keeps fun b o e => (e0.bs b o e).1
  have hkind : ∀ y ∈ ps.zip us, scope.names.lookup y.1 = some .local ∨ (scope.names.lookup y.1 = some .cell ∧ ((cellsFrom (s.heap.objs.size + 1) scope.names []).lookup y.1).isSome = true) := fun ⟨n, v⟩ hy => by
    rcases S.par n (List.of_mem_zip hy).1 with q | q
    · exact .inl q
    · exact .inr ⟨q, PySem.W.cellsFrom_some _ _ _ (.inl q)⟩
  refine codeAny_call_function hr.depth (KX _ _ lk) rfl S.co S.gen rfl (PySem.W.codeRec_of KX hcd) (hb _ _ _ _ ?_)
  refine wpAny_newFunctionEnv_cells S.kind hkind fun env he s1 x => ?_
  subst he
  refine ⟨lim.keeps x.toInCall.keep, codeAny_func ?_⟩
  obtain ⟨t, ht, hq⟩ := hbody A outer s H vs Q E (hr.deeper _) hsp
  have I : Inv (cxOf CX P w K mg base N qual scope f cdv A outer s H E) [] (start N vs) H s1 := inv_start S hr.hd e0 hl r x
  refine wpAny_mono (ht [] s1 (start N vs) H _ I hq) (fun fl s' hs => ?_) fun e s' hs => hs
  have fin : ∀ {σ' : St} {H' : Hp} {v : V} {u : Value}, Inv (cxOf CX P w K mg base N qual scope f cdv A outer s H E) [] σ' H' s' → RelV v u → Q v H' → CE outer P w H s Q u s' :=
    fun {σ' H' v u} J rv q => ⟨v, H', J.os, J.bare, J.base, J.hok, rv, q⟩
  cases fl with
  | ret u =>
    obtain ⟨v, σ', H', J, rv, q⟩ := hs
    exact fin J rv q
  | next =>
    obtain ⟨σ', H', J, q⟩ := hs
    exact fin (v := V.non) (u := Value.none) J rfl q
  | brk =>
    obtain ⟨_, _, _, q⟩ := hs
    exact False.elim q
  | cont =>
    obtain ⟨_, _, _, q⟩ := hs
    exact False.elim q
end L2

namespace L2
open PySem PySem.Spec PyProof.Rows
section
variable {X : Cx} {x : Str} {p pos : Pos} {e : Expr} {es : List Expr} {t : TA} {id T : String} {r : List V → Hp → VK → Prop}

def tCB (r : List V → Hp → VK → Prop) (t : TA) : TE := fun σ H Q => t σ H fun vs H1 => r vs H1 Q
/-- f(e, ..), f a built-in function -/
theorem pe_callB (hc : CallR X (.builtin id) r) (hg : Gl X x) (hm : X.mg x = none) (hv : bootBuiltins x = some (.builtin id)) (ha : PA X (e :: es) t) (hn : x ≠ "__name__" := by decide) (hdb : (x == ("__debug__" : Str)) = false := by decide)
    (he : starEach (e :: es) X.env = (false, eval e X.env) :: starEach es X.env := by rfl) (hpl : (backTo pos (starEach es X.env)).any (·.1) = false := by rfl) : PE X (.Call (.Name x p) (e :: es) [] pos) (tCB r t) := by
  intro pins s σ H Q I h
  refine wpAny_Call_Name_kw (ld_blt I hg hm hv ?_ hn hdb)
  exact PyProof.Rows.callWith_builtin1 (thn (ha pos pins s σ H _ I h) fun us s1 ⟨vs, H1, I1, r1, q1⟩ => hc pins s1 σ H1 vs us Q I1 r1 q1) he hpl
/-- T(e, ..), T a built-in type -/
theorem pe_callTy (hc : CallR X (.type T) r) (hg : Gl X x) (hm : X.mg x = none) (hv : bootBuiltins x = some (.type T)) (ha : PA X (e :: es) t) (hn : x ≠ "__name__" := by decide) (hdb : (x == ("__debug__" : Str)) = false := by decide)
    (he : starEach (e :: es) X.env = (false, eval e X.env) :: starEach es X.env := by rfl) (hpl : (backTo pos (starEach es X.env)).any (·.1) = false := by rfl) : PE X (.Call (.Name x p) (e :: es) [] pos) (tCB r t) := by
  intro pins s σ H Q I h
  refine wpAny_Call_Name_kw (ld_blt I hg hm hv ?_ hn hdb)
  exact PyProof.Rows.callWith_type1 (thn (ha pos pins s σ H _ I h) fun us s1 ⟨vs, H1, I1, r1, q1⟩ => hc pins s1 σ H1 vs us Q I1 r1 q1) he hpl
end
end L2

namespace HT
open PySem PyProof.Rows

/-- t < u of tuples of ints -/
def lexLt : List Int → List Int → Bool
  | [], [] => false
  | [], _ :: _ => true
  | _ :: _, [] => false
  | x :: xs, y :: ys => if x = y then lexLt xs ys else decide (x < y)


section
open PySem.SeqAt
open PySem.AutoSeq1 (wpAny_loadPart')
open PySem.MeetsSeq PySem.MeetsSeq2 PySem.MeetsSeq3

end

section
variable {prog : Program} {w : World} {A : Around} {E : Value → Shared → Prop} {s : Shared}


/-- t + u, t not empty -/
theorem cat_tup {t b : Addr} {vs ws : List Value} {Q : Value → Shared → Prop} (ht : IsTup s.heap t vs.toArray) (hb : IsTup s.heap b ws.toArray) (hv : vs ≠ [])
    (h1 : ws = [] → Q (.ref t) s) (h2 : ws ≠ [] → Q (.ref s.heap.objs.size) { s with heap := s.heap.push { cls := .type "tuple", data := .seq (vs ++ ws).toArray } })
    (hsz : vs.length + ws.length ≤ sizeLine) : wpAny (model prog w) A (binaryOp .Add (.ref t) (.ref b)) Q E s := by
  obtain ⟨⟨cls, dd, data, sl⟩, ho, hc, n, hd⟩ := id ht
  obtain ⟨⟨cls2, dd2, data2, sl2⟩, ho2, hc2, n2, hd2⟩ := id hb
  simp only at hc hd hc2 hd2
  subst hc hd hc2 hd2
  have e : vs.toArray ++ ws.toArray = (vs ++ ws).toArray := by simp
  by_cases hw : ws = []
  · exact concat_meets ⟨_, ho, rfl⟩ ⟨_, ho2, rfl⟩ noFill_tuple_add seq_tuple_add PySem.F.slot_tuple_add PySem.F.entry_tuple_add (PySem.F.args_tuple_add_2 _ _)
      (tuple_addW1 t b vs.toArray ws.toArray n n2 dd dd2 sl sl2 (by simpa using hv) (by simp [hw])) ⟨ho, ho2, h1 hw⟩
  · refine concat_meets ⟨_, ho, rfl⟩ ⟨_, ho2, rfl⟩ noFill_tuple_add seq_tuple_add PySem.F.slot_tuple_add PySem.F.entry_tuple_add (PySem.F.args_tuple_add_2 _ _)
      (tuple_addW2 t b vs.toArray ws.toArray n n2 dd dd2 sl sl2 (by simpa using hv) (by simpa using hw) (by rw [List.size_toArray, List.size_toArray]; exact hsz)) ⟨ho, ho2, ?_⟩
    rw [e]
    exact h2 hw

/-! ### t[a:b], not the whole -/
/-- a slice's bound as a place among n (d where it is left out) -/
def sIx (n d : Nat) : Option Int → Nat
  | none => d
  | some v => if v < 0 then (v + (n : Int)).toNat else min v.toNat n
theorem sIx_nat (n d k : Nat) : sIx n d (some (k : Int)) = min k n := by
  show (if (k : Int) < 0 then ((k : Int) + (n : Int)).toNat else min (k : Int).toNat n) = min k n
  rw [if_neg (by omega), Int.toNat_natCast]
theorem sIx_le (n d : Nat) (hd : d ≤ n) (o : Option Int) : sIx n d o ≤ n := by
  cases o with
  | none => exact hd
  | some v =>
    show (if v < 0 then (v + (n : Int)).toNat else min v.toNat n) ≤ n
    by_cases hv : v < 0
    · rw [if_pos hv]; omega
    · rw [if_neg hv]; exact Nat.min_le_right _ _
theorem clip_eq (v : Int) (n d : Nat) : (if v < 0 then max (v + (n : Int)) 0 else min v (n : Int)) = ((sIx n d (some v) : Nat) : Int) := by
  show (if v < 0 then max (v + (n : Int)) 0 else min v (n : Int)) = (((if v < 0 then (v + (n : Int)).toNat else min v.toNat n) : Nat) : Int)
  by_cases hv : v < 0
  · simp only [if_pos hv]; omega
  · simp only [if_neg hv]; omega
theorem adjust_gen (lo hi : Option Int) (n : Nat) : Builtin.Slice.sliceAdjust lo hi 1 (n : Int) = (((sIx n 0 lo : Nat) : Int), ((sIx n n hi : Nat) : Int)) := by
  have h1 : ¬ ((1 : Int) < 0) := by omega
  unfold Builtin.Slice.sliceAdjust
  simp only [h1, if_false]
  refine Prod.ext ?_ ?_
  · cases lo with
    | none => rfl
    | some v => exact clip_eq v n 0
  · cases hi with
    | none => rfl
    | some v => exact clip_eq v n n
theorem places_gen (i j : Nat) : Builtin.Slice.slicePlaces (i : Int) (j : Int) 1 = j - i := by
  unfold Builtin.Slice.slicePlaces
  have h1 : (1 : Int) > 0 := by omega
  simp only [h1, if_true, Int.ediv_one]
  split <;> omega
theorem slicePart_ {v : Value} {o : Option Int} {Q : Option Int → Shared → Prop} (p : IsPart v o) (h : Q o s) : wpAny (model prog w) A (Builtin.Slice.slicePartIndex v) Q E s := by
  cases p with
  | none => exact slicePart_none h
  | int i t => exact slicePart_int h
theorem sliceApplied_gen {sl : Addr} {vl vu : Value} {lo hi : Option Int} {n : Nat} {Q : Int × Int × Nat → Shared → Prop} (hs : s.heap.IsSliceOf sl vl vu .none) (pl : IsPart vl lo) (pu : IsPart vu hi)
    (h : Q (((sIx n 0 lo : Nat) : Int), 1, sIx n n hi - sIx n 0 lo) s) : wpAny (model prog w) A (Builtin.Slice.sliceApplied (.ref sl) (pure (n : Int))) Q E s := by
  obtain ⟨os, hos, hcs, hds⟩ := id hs
  unfold Builtin.Slice.sliceApplied Builtin.Slice.sliceFields
  refine wpAny_bind (wpAny_bind (wpAny_field hos hds (x := vl) rfl (wpAny_bind (wpAny_field hos hds (x := vu) rfl (wpAny_bind (wpAny_field hos hds (x := .none) rfl (wpAny_pure ?_)))))))
  refine wpAny_bind (slicePart_none ?_)
  show wpAny _ _ (if ((1 : Int) == 0) = true then _ else _) _ _ s
  rw [if_neg (by decide)]
  refine wpAny_bind (slicePart_ pl (wpAny_bind (slicePart_ pu (wpAny_bind (wpAny_pure ?_)))))
  show wpAny _ _ (match Builtin.Slice.sliceAdjust lo hi 1 (n : Int) with | (lo, hi) => pure (lo, (1 : Int), Builtin.Slice.slicePlaces lo hi 1)) _ _ s
  rw [adjust_gen lo hi n]
  show wpAny _ _ (pure (((sIx n 0 lo : Nat) : Int), (1 : Int), Builtin.Slice.slicePlaces ((sIx n 0 lo : Nat) : Int) ((sIx n n hi : Nat) : Int) 1)) _ _ s
  rw [places_gen]
  exact wpAny_pure h
theorem pick_gen (xs : Array Value) (i k : Nat) : ((List.range k).filterMap fun (m : Nat) => xs[((i : Int) + (m : Int) * 1).toNat]?).toArray = ((xs.toList.drop i).take k).toArray := by
  have e : (fun (m : Nat) => xs[((i : Int) + (m : Int) * 1).toNat]?) = fun m => xs[i + m]? := by
    funext m
    have : ((i : Int) + (m : Int) * 1).toNat = i + m := by omega
    rw [this]
  rw [e]
  have := pick_run xs i k
  rw [List.filterMap_map] at this
  have e2 : ((fun x => xs[x]?) ∘ fun x => i + x) = fun m => xs[i + m]? := rfl
  rw [e2] at this
  rw [this]

theorem getItem_tuple_cut {t sl : Addr} {items : Array Value} {vl vu : Value} {lo hi : Option Int} {Q : Value → Shared → Prop} (ht : IsTup s.heap t items) (hs : s.heap.IsSliceOf sl vl vu .none) (pl : IsPart vl lo) (pu : IsPart vu hi)
    (hw : ¬ (sIx items.size 0 lo = 0 ∧ sIx items.size items.size hi = items.size))
    (h : Q (.ref s.heap.objs.size) { s with heap := s.heap.push { cls := .type "tuple", data := .seq ((items.toList.drop (sIx items.size 0 lo)).take (sIx items.size items.size hi - sIx items.size 0 lo)).toArray } })
    (hsz : items.size ≤ sizeLine) : wpAny (model prog w) A (getItem (.ref t) (.ref sl)) Q E s := by
  have htake : sizeOk (.seq ((items.toList.drop (sIx items.size 0 lo)).take (sIx items.size items.size hi - sIx items.size 0 lo)).toArray) := by
    show ((items.toList.drop (sIx items.size 0 lo)).take (sIx items.size items.size hi - sIx items.size 0 lo)).toArray.size ≤ sizeLine
    rw [List.size_toArray, List.length_take, List.length_drop, Array.length_toList]
    omega
  have hj : sIx items.size items.size hi ≤ items.size := sIx_le _ _ (Nat.le_refl _) hi
  obtain ⟨os, hos, hcs, hds⟩ := id hs
  have hTs : s.TypeIs (.ref sl) "slice" := ⟨os, hos, hcs⟩
  unfold getItem
  try with_reducible refine wpAny_holding ?_
  first | refine wpAny_bind (wpAny_pure ?_) | skip
  refine wpAny_bind (wpAny_sequenceKey ht.typeIs (by decide) ?_)
  refine wpAny_bind (wpAny_callSpecial?_slot (name := Str.ofString "__getitem__") ht.typeIs PyProof.Rows.slot_tuple_getitem
    (wpAny_call_entry PyProof.Rows.slot_tuple_getitem ht.typeIs entry_tuple_getitem ?_ (args_tuple_getitem _ _)))
  show wpAny _ _ (Builtin.Tuple.tupleItemsOf (.ref t) >>= _) _ _ s
  refine wpAny_bind (tupleItemsOf_ ht ?_)
  refine wpAny_bind (wpAny_typeOf hTs ?_)
  rw [if_pos (by decide)]
  refine wpAny_bind (sliceApplied_gen hs pl pu ?_)
  have hno : ¬ ((((sIx items.size 0 lo : Nat) : Int) == 0 && (1 : Int) == 1 && (sIx items.size items.size hi - sIx items.size 0 lo) == items.size) = true) := by
    intro q
    rw [Bool.and_eq_true, Bool.and_eq_true] at q
    have q1 : ((sIx items.size 0 lo : Nat) : Int) = 0 := eq_of_beq q.1.1
    have q2 : sIx items.size items.size hi - sIx items.size 0 lo = items.size := eq_of_beq q.2
    exact hw ⟨by omega, by omega⟩
  show wpAny _ _ (if (((sIx items.size 0 lo : Nat) : Int) == 0 && (1 : Int) == 1 && (sIx items.size items.size hi - sIx items.size 0 lo) == items.size) = true then _ else _) _ _ s
  rw [if_neg hno, pick_gen]
  first
    | exact wpAny_bind (m := Builtin.Tuple.tupleExact _) (wpAny_newObj_type (wpAny_pure ⟨_, rfl, wpAny_pure h⟩) htake)
    | exact wpAny_bind (m := Builtin.Tuple.tupleExact _) (wpAny_newObj_type (wpAny_bind (wpAny_pure (wpAny_pure ⟨_, rfl, wpAny_pure h⟩))) htake)
    | exact wpAny_bind (wpAny_bind (m := Builtin.Tuple.tupleExact _) (wpAny_newObj_type (wpAny_pure (wpAny_pure ⟨_, rfl, wpAny_pure h⟩)) htake))
    | exact wpAny_bind (wpAny_bind (m := Builtin.Tuple.tupleExact _) (wpAny_newObj_type (wpAny_pure ⟨_, rfl, wpAny_pure h⟩) htake))
end
end HT

namespace L2
open PySem PySem.Spec PyProof.Rows

/-! ### the parts of a slice -/
abbrev TO := St → Hp → (Option Int → Hp → Prop) → Prop
/-- a slice's part (left out, or an int) -/
def PO (X : Cx) (e : Option Expr) (t : TO) : Prop :=
  ∀ (pins : List (Addr × Obj)) (s : Shared) (σ : St) (H : Hp) (Q : Option Int → Hp → Prop), Inv X pins σ H s → t σ H Q →
    wpAny (model X.prog X.w) X.A (evalPart e X.env) (fun u s' => ∃ o H', Inv X pins σ H' s' ∧ IsPart u o ∧ Q o H') X.xe s
def tNoPart : TO := fun _ H Q => Q none H
def tPart (t : TE) : TO := fun σ H Q => t σ H fun x H1 => ∃ i, x = .int i ∧ Q (some i) H1


section
variable {X : Cx} {e : Expr} {te : TE} {lo hi : Option Expr} {tl th : TO} {pos p2 : Pos}

theorem po_none : PO X none tNoPart := by
  intro pins s σ H Q I h
  rw [evalPart_none]
  exact wpAny_pure ⟨none, H, I, .none, h⟩
theorem po_some (h : PE X e te) : PO X (some e) (tPart te) := by
  intro pins s σ H Q I hw
  rw [evalPart_some]
  refine thn (h pins s σ H _ I hw) fun u s1 ⟨x, H1, I1, r1, q1⟩ => ?_
  obtain ⟨i, rfl, q⟩ := q1
  obtain ⟨t, rfl⟩ := r1
  exact ⟨some i, H1, I1, .int i t, q⟩

/-- what a slice of a value is, by values: the slice object stands at sl -/
def SlR (X : Cx) (r : V → Option Int → Option Int → Hp → VK → Prop) : Prop :=
  ∀ (pins : List (Addr × Obj)) (s : Shared) (σ : St) (H : Hp) (x : V) (v vl vu : Value) (lo hi : Option Int) (sl : Addr) (Q : VK), Inv X pins σ H s → RelV x v → s.heap.IsSliceOf sl vl vu .none → IsPart vl lo → IsPart vu hi → r x lo hi H Q →
    ∃ T id, typeLookup (.type T) "__getitem__" = pure (some (.builtin id)) ∧ s.TypeIs v T ∧ wpAny (model X.prog X.w) X.A (getItem v (.ref sl)) (EP X pins σ Q) X.xe s
theorem SlR.or {r r' : V → Option Int → Option Int → Hp → VK → Prop} (h : SlR X r) (h' : SlR X r') : SlR X (fun x lo hi H Q => r x lo hi H Q ∨ r' x lo hi H Q) := by
  intro pins s σ H x v vl vu lo hi sl Q I rx hs pl pu q
  rcases q with q | q
  · exact h pins s σ H x v vl vu lo hi sl Q I rx hs pl pu q
  · exact h' pins s σ H x v vl vu lo hi sl Q I rx hs pl pu q
def tSl (r : V → Option Int → Option Int → Hp → VK → Prop) (te : TE) (tl th : TO) : TE := fun σ H Q => te σ H fun x H1 => tl σ H1 fun l H2 => th σ H2 fun u H3 => r x l u H3 Q
/-- a[lo:hi], any a -/
theorem pe_slice {r : V → Option Int → Option Int → Hp → VK → Prop} (hr : SlR X r) (he : PE X e te) (hl : PO X lo tl) (hu : PO X hi th) : PE X (.Subscript e (.Slice lo hi none p2) pos) (tSl r te tl th) := by
  intro pins s σ H Q I h
  refine Subscript_ (thn (he pins s σ H _ I h) fun v s1 ⟨x, H1, I1, r1, q1⟩ => ?_)
  refine wpAny_Slice (thn (hl pins s1 σ H1 _ I1 q1) fun vl s2 ⟨l, H2, I2, pl, q2⟩ => thn (hu pins s2 σ H2 _ I2 q2) fun vu s3 ⟨u, H3, I3, pu, q3⟩ => ?_)
  rw [evalPart_none]
  refine wpAny_pure ?_
  have I4 : Inv X pins σ H3 { s3 with heap := s3.heap.push { cls := .type "slice", data := .fields #[vl, vu, .none] } } := I3.kept (t' := s3.toks) fun b ob q => Heap.get?_push_of_some _ q
  obtain ⟨T, id, hT, ht, hg⟩ := hr pins { s3 with heap := s3.heap.push { cls := .type "slice", data := .fields #[vl, vu, .none] } } σ H3 x v vl vu l u s3.heap.objs.size Q I4 r1 (Heap.IsSliceOf.new ..) pl pu q3
  show wpAny (model X.prog X.w) X.A (subscriptTail e (.Slice lo hi none p2) v (.ref s3.heap.objs.size)) (EP X pins σ Q) X.xe { s3 with heap := s3.heap.push { cls := .type "slice", data := .fields #[vl, vu, .none] } }
  exact tail_any (ops := [.ref s3.heap.objs.size, v]) ht hT hg (by with_unfolding_all rfl)

/-- the items of xs[lo:hi] -/
def cutV (xs : List V) (lo hi : Option Int) : List V := (xs.drop (HT.sIx xs.length 0 lo)).take (HT.sIx xs.length xs.length hi - HT.sIx xs.length 0 lo)
theorem cutV_length (xs : List V) (lo hi : Option Int) : (cutV xs lo hi).length ≤ xs.length := by
  unfold cutV
  rw [List.length_take, List.length_drop]
  omega
/-- t[lo:hi], not the whole of it (the whole would be t itself) -/
def rSlT (K : PySem.W.Frag) : V → Option Int → Option Int → Hp → VK → Prop := fun x lo hi H Q => ∃ a xs, x = .ref a ∧ SqT K H a xs ∧
  ¬ (HT.sIx xs.length 0 lo = 0 ∧ HT.sIx xs.length xs.length hi = xs.length) ∧ ∀ p, H p = none → Q (.ref p) (upd H p (.tup (cutV xs lo hi)))
theorem sl_tup : SlR X (rSlT X.K) := by
  intro pins s σ H x v vl vu lo hi sl Q I rx hs pl pu h
  obtain ⟨a, xs, rfl, hx, hw, q⟩ := h
  cases rx
  obtain ⟨its, r, ht, hz⟩ := I.tuple hx
  have hlen : its.toArray.size = xs.length := by rw [List.size_toArray]; exact r.length.symm
  refine ⟨"tuple", _, PyProof.Rows.slot_tuple_getitem.lookup, ht.typeIs, ?_⟩
  refine HT.getItem_tuple_cut ht hs pl pu (by rw [hlen]; exact hw) ?_ (by rw [hlen]; exact hz)
  rw [hlen]
  refine ⟨.ref s.heap.objs.size, _, I.laid (t' := s.toks) (o := .tup (cutV xs lo hi)) (fun b ob q => Heap.get?_push_of_some _ q) (Nat.le_refl _) ?_, rfl, q _ (I.hok.fresh (Nat.le_refl _))⟩
  exact ⟨Nat.le_trans (cutV_length xs lo hi) hz, _, (r.drop (HT.sIx xs.length 0 lo)).take (HT.sIx xs.length xs.length hi - HT.sIx xs.length 0 lo), IsTup.new _ _⟩

/-! ### t < u, t + u -/
/-- t + u, t not empty: u empty gives t itself -/
def rCatT (K : PySem.W.Frag) : R2 := fun x y H Q => ∃ a b xs ys, x = .ref a ∧ y = .ref b ∧ SqT K H a xs ∧ SqT K H b ys ∧ xs ≠ [] ∧ xs.length + ys.length ≤ sizeLine ∧
  (ys = [] → Q (.ref a) H) ∧ (ys ≠ [] → ∀ p, H p = none → Q (.ref p) (upd H p (.tup (xs ++ ys))))
theorem Vals.nil_iff {xs : List V} {us : List Value} (r : Vals xs us) : us = [] ↔ xs = [] := by
  cases r with
  | nil => simp
  | cons _ _ => simp
theorem op_catT : OpR X (binaryOp .Add) (rCatT X.K) := by
  intro pins s σ H x y v u Q I rx ry h
  obtain ⟨a, b, xs, ys, rfl, rfl, ha, hb, hx, hz, q1, q2⟩ := h
  cases rx
  cases ry
  obtain ⟨its, r1, p1, _⟩ := I.tuple ha
  obtain ⟨its2, r2, p2, _⟩ := I.tuple hb
  refine HT.cat_tup p1 p2 (fun z => hx (r1.nil_iff.mp z)) (fun z => ⟨.ref a, H, I, rfl, q1 (r2.nil_iff.mp z)⟩) (fun z => ?_) (by rw [← r1.length, ← r2.length]; exact hz)
  refine ⟨.ref s.heap.objs.size, _, I.laid (t' := s.toks) (o := .tup (xs ++ ys)) (fun b ob q => Heap.get?_push_of_some _ q) (Nat.le_refl _) ?_, rfl, q2 (fun w => z (r2.nil_iff.mpr w)) _ (I.hok.fresh (Nat.le_refl _))⟩
  exact ⟨by rw [List.length_append]; exact hz, _, r1.append r2, IsTup.new _ _⟩
end
end L2

namespace L2
open PySem PySem.Spec PyProof.Rows

/-! ### places -/
/-- the place that an index of any sign means -/
def ixN (n : Nat) (i : Int) : Option Nat := if 0 ≤ i then (if i < n then some i.toNat else none) else if -(n : Int) ≤ i then some (i + n).toNat else none
def atI {α : Type} (xs : List α) (i : Int) : Option α := (ixN xs.length i).bind fun j => xs[j]?
theorem ixN_seq {n : Nat} {i : Int} {j : Nat} (h : ixN n i = some j) : seqIndex? i n = some j ∧ j < n ∧ -(n : Int) ≤ i ∧ i < n := by
  unfold ixN at h
  by_cases h0 : 0 ≤ i
  · rw [if_pos h0] at h
    by_cases h1 : i < n
    · rw [if_pos h1] at h
      have e : i.toNat = j := Option.some.inj h
      exact ⟨by rw [seqIndex_of h0 h1, e], by omega, by omega, h1⟩
    · rw [if_neg h1] at h; cases h
  · rw [if_neg h0] at h
    by_cases h1 : -(n : Int) ≤ i
    · rw [if_pos h1] at h
      have e : (i + n).toNat = j := Option.some.inj h
      exact ⟨by rw [seqIndex_neg (by omega) h1, e], by omega, h1, by omega⟩
    · rw [if_neg h1] at h; cases h
theorem atI_get {α : Type} {xs : List α} {i : Int} {v : α} (h : atI xs i = some v) : ∃ j, seqIndex? i xs.length = some j ∧ xs[j]? = some v ∧ j < xs.length ∧ -(xs.length : Int) ≤ i ∧ i < xs.length := by
  unfold atI at h
  cases e : ixN xs.length i with
  | none => rw [e] at h; cases h
  | some j =>
    rw [e] at h
    obtain ⟨h1, h2, h3, h4⟩ := ixN_seq e
    exact ⟨j, h1, h, h2, h3, h4⟩

/-! ### what may be subscripted -/
/-- what stands as an index of a plain subscript -/
def PlainIx (b : Expr) : Prop := ∀ o i, subscripted b false o i = operate [o, i] (getItem o i)
/-- a subscript by values -/
def IxR (X : Cx) (r : R2) : Prop :=
  ∀ (value slice : Expr) (pins : List (Addr × Obj)) (s : Shared) (σ : St) (H : Hp) (x y : V) (v u : Value) (Q : VK), Inv X pins σ H s → RelV x v → RelV y u → r x y H Q →
    subscripted slice false v u = operate [v, u] (getItem v u) → wpAny (model X.prog X.w) X.A (subscriptTail value slice v u) (EP X pins σ Q) X.xe s
/-- a call of a builtin's method by values: the receiver, the arguments -/
def MtR (X : Cx) (id : String) (r : V → List V → Hp → VK → Prop) : Prop :=
  ∀ (pins : List (Addr × Obj)) (s : Shared) (σ : St) (H : Hp) (x : V) (xs : List V) (v : Value) (us : List Value) (Q : VK), Inv X pins σ H s → RelV x v → Vals xs us → r x xs H Q →
    wpAny (model X.prog X.w) X.A (call (.builtin id) (v :: us)) (EP X pins σ Q) X.xe s
section
variable {X : Cx} {a b : Expr} {ta tb : TE} {pos : Pos}
theorem IxR.or {r r' : R2} (h : IxR X r) (h' : IxR X r') : IxR X (fun x y H Q => r x y H Q ∨ r' x y H Q) := by
  intro value slice pins s σ H x y v u Q I rx ry q hs
  rcases q with q | q
  · exact h value slice pins s σ H x y v u Q I rx ry q hs
  · exact h' value slice pins s σ H x y v u Q I rx ry q hs
theorem MtR.or {id : String} {r r' : V → List V → Hp → VK → Prop} (h : MtR X id r) (h' : MtR X id r') : MtR X id (fun x xs H Q => r x xs H Q ∨ r' x xs H Q) := by
  intro pins s σ H x xs v us Q I rx rs q
  rcases q with q | q
  · exact h pins s σ H x xs v us Q I rx rs q
  · exact h' pins s σ H x xs v us Q I rx rs q
/-- a[b] -/
theorem pe_ix {r : R2} (hr : IxR X r) (ha : PE X a ta) (hb : PE X b tb) (hs : PlainIx b) : PE X (.Subscript a b pos) (tOp r ta tb) := by
  intro pins s σ H Q I h
  exact Subscript_ (binT ha hb I h fun v u s2 x y H2 I2 rx ry q => hr a b pins s2 σ H2 x y v u Q I2 rx ry q (hs _ _))

def rIxL (K : PySem.W.Frag) : R2 := fun x y H Q => ∃ p xs i v, x = .ref p ∧ y = .int i ∧ SqL K H p xs ∧ atI xs i = some v ∧ Q v H
def rIxT (K : PySem.W.Frag) : R2 := fun x y H Q => ∃ p xs i v, x = .ref p ∧ y = .int i ∧ SqT K H p xs ∧ atI xs i = some v ∧ Q v H
def rIxS : R2 := fun x y H Q => ∃ z i c, x = .str z ∧ y = .int i ∧ z.length ≤ sizeLine ∧ atI z.cps.toList i = some c ∧ Q (.str ⟨#[c]⟩) H
theorem ix_list : IxR X (rIxL X.K) := by
  intro value slice pins s σ H x y v u Q I rx ry h hs
  obtain ⟨p, xs, i, z, rfl, rfl, hq, he, q⟩ := h
  cases rx
  obtain ⟨t, rfl⟩ := ry
  obtain ⟨its, r, pl, hz⟩ := I.list hq
  obtain ⟨j, h1, h2, h3, h4, h5⟩ := atI_get he
  obtain ⟨w, ew, rw'⟩ := r.get h2
  have hl := r.length
  have hn := line63
  have fin : EP X pins σ Q w s := ⟨z, H, I, rw', q⟩
  by_cases h0 : 0 ≤ i
  · have hj : i.toNat = j := by
      rw [seqIndex_of h0 h5] at h1
      exact Option.some.inj h1
    exact item_listR pl.isList h0 (by omega) (by rw [hj]; simpa using ew) fin hs
  · have hj : (i + (its.toArray.size : Int)).toNat = j := by
      rw [seqIndex_neg (by omega) h4] at h1
      rw [List.size_toArray, ← hl]
      exact Option.some.inj h1
    exact subscriptTail_builtinR (x := w) pl.isList.typeIs slot_list_getitem.lookup
      (wpAny_getItem_list_neg (Q := fun r s' => r = w ∧ EP X pins σ Q r s') pl.isList (by omega) (by rw [List.size_toArray] <;> omega) (by omega) (by rw [hj]; simpa using ew) ⟨rfl, fin⟩) hs
theorem ix_tup : IxR X (rIxT X.K) := by
  intro value slice pins s σ H x y v u Q I rx ry h hs
  obtain ⟨p, xs, i, z, rfl, rfl, hq, he, q⟩ := h
  cases rx
  obtain ⟨t, rfl⟩ := ry
  obtain ⟨its, r, pl, hz⟩ := I.tuple hq
  obtain ⟨j, h1, h2, h3, h4, h5⟩ := atI_get he
  obtain ⟨w, ew, rw'⟩ := r.get h2
  have hl := r.length
  have hn := line63
  have fin : EP X pins σ Q w s := ⟨z, H, I, rw', q⟩
  exact subscriptTail_builtinR (x := w) pl.typeIs slot_tuple_getitem.lookup
    (getItem_tuple (j := j) (Q := fun r s' => r = w ∧ EP X pins σ Q r s') pl (by omega) (by omega) (by rw [List.size_toArray, ← hl]; exact h1) (by simpa using ew) ⟨rfl, fin⟩) hs
theorem ix_str : IxR X rIxS := by
  intro value slice pins s σ H x y v u Q I rx ry h hs
  obtain ⟨z, i, c, rfl, rfl, hz, he, q⟩ := h
  obtain ⟨t, rfl⟩ := rx
  obtain ⟨t', rfl⟩ := ry
  obtain ⟨j, h1, h2, h3, h4, h5⟩ := atI_get he
  have hl : z.cps.toList.length = z.length := by simp [Str.length]
  rw [hl] at h1 h4 h5
  have hn := line63
  exact tail_any (typeIs_str s z t) slot_str_getitem.lookup (getItem_str (c := c) (by
    have e1 : decide (i < -(2 ^ 63 : Int)) = false := decide_eq_false (by omega)
    have e2 : decide (i ≥ 2 ^ 63) = false := decide_eq_false (by omega)
    rw [e1, e2, Bool.or_false]) (by rw [h1]; simpa using h2) ⟨.str ⟨#[c]⟩, H, I.tok _, ⟨_, rfl⟩, q⟩) hs
/-- list, tuple or str -/
def rIx (K : PySem.W.Frag) : R2 := fun x y H Q => rIxL K x y H Q ∨ rIxT K x y H Q ∨ rIxS x y H Q
theorem ix_seq : IxR X (rIx X.K) := ix_list.or (ix_tup.or ix_str)

/-! ### xs[i] = v, any sign -/
/-- the list's object behind a store -/
theorem mapSeq_set (its : List Value) (n j : Nat) (u : Value) : Obj.mapSeq (·.setIfInBounds j u) { cls := .type "list", data := .seq its.toArray n } = { cls := .type "list", data := .seq (its.set j u).toArray n } := by
  simp [Obj.mapSeq]
theorem Inv.lst {pins : List (Addr × Obj)} {σ : St} {H : Hp} {s : Shared} {p : Addr} {xs : List V} (I : Inv X pins σ H s) (h : H p = some (.lst xs)) :
    ∃ (its : List Value) (n : Nat), Vals xs its ∧ s.heap.get? p = some { cls := .type "list", data := .seq its.toArray n } ∧ xs.length ≤ sizeLine := by
  obtain ⟨z, its, n, r, e⟩ := I.hok p _ h
  exact ⟨its, n, r, e, z⟩
/-- the list at p is written by an update of its object -/
theorem Inv.lstUpd {pins : List (Addr × Obj)} {σ : St} {H : Hp} {s : Shared} {p : Addr} {xs ys : List V} {its its' : List Value} {n n' : Nat} {f : Obj → Obj} (I : Inv X pins σ H s) (h : H p = some (.lst xs))
    (ho : s.heap.get? p = some { cls := .type "list", data := .seq its.toArray n }) (hf : f { cls := .type "list", data := .seq its.toArray n } = { cls := .type "list", data := .seq its'.toArray n' }) (r : Vals ys its') (hz : ys.length ≤ sizeLine) (t : Nat) :
    Inv X pins σ (upd H p (.lst ys)) { s with heap := s.heap.update p f, toks := t } := by
  have e : (s.heap.update p f).get? p = some { cls := .type "list", data := .seq its'.toArray n' } := by
    rw [Heap.get?_update_self f ho (by rw [hf] <;> rfl), hf]
  refine I.write (x := p) (e := p) (by rw [h]; trivial) (.inl rfl) (fun b u hb q => (Heap.get?_update_other _ _ (Ne.symm hb)).trans q) ⟨_, e⟩ ?_
  exact ⟨hz, its', n', r, e⟩
def rSetL : V → V → V → Hp → (Hp → Prop) → Prop := fun o i v H Q => ∃ p xs k j, o = .ref p ∧ i = .int k ∧ H p = some (.lst xs) ∧ ixN xs.length k = some j ∧ Q (upd H p (.lst (xs.set j v)))
theorem set_list : PSet X rSetL := by
  intro pins s σ H o i v ov iv u Q I ro ri rv h
  obtain ⟨p, xs, k, j, rfl, rfl, hp, hj, q⟩ := h
  cases ro
  obtain ⟨t, rfl⟩ := ri
  obtain ⟨its, n, r, ho, hz⟩ := I.lst hp
  obtain ⟨h1, h2, h3, h4⟩ := ixN_seq hj
  have hl := r.length
  have hn := line63
  have I' : Inv X pins σ (upd H p (.lst (xs.set j v))) { s with heap := s.heap.update p (Obj.mapSeq (·.setIfInBounds j u)) } :=
    I.lstUpd hp ho (mapSeq_set its n j u) (r.set rv j) (by rw [List.length_set]; exact hz) s.toks
  by_cases h0 : 0 ≤ k
  · have hk : k.toNat = j := by
      rw [seqIndex_of h0 h4] at h1
      exact Option.some.inj h1
    exact PySem.W.ki_setAt ho h0 (by omega) (by rw [List.size_toArray, ← hl]; exact h4) (by rw [hk]; exact ⟨_, I', q⟩)
  · have hk : (k + (its.toArray.size : Int)).toNat = j := by
      rw [seqIndex_neg (by omega) h3] at h1
      rw [List.size_toArray, ← hl]
      exact Option.some.inj h1
    exact PySem.W.ki_setBack ho (by omega) (by rw [List.size_toArray, ← hl]; exact h3) (by omega) (by rw [hk]; exact ⟨_, I', q⟩)

/-! ### slices -/
theorem slice_bounds (lo hi : Option Int) (n : Nat) : (sliceBounds lo hi none n).1 = ((HT.sIx n 0 lo : Nat) : Int) ∧ (sliceBounds lo hi none n).2.1 = ((HT.sIx n n hi : Nat) : Int) ∧ (sliceBounds lo hi none n).2.2 = 1 := by
  refine ⟨?_, ?_, rfl⟩
  · cases lo with
    | none => simp [sliceBounds, HT.sIx]
    | some i =>
      simp only [sliceBounds, HT.sIx, Option.getD_none, show (1 : Int) > 0 by decide, if_true]
      by_cases h : i < 0
      · simp only [h, if_true] <;> omega
      · simp only [h, if_false] <;> omega
  · cases hi with
    | none => simp [sliceBounds, HT.sIx]
    | some i =>
      simp only [sliceBounds, HT.sIx, Option.getD_none, show (1 : Int) > 0 by decide, if_true]
      by_cases h : i < 0
      · simp only [h, if_true] <;> omega
      · simp only [h, if_false] <;> omega
theorem slicePick_cut (its : List Value) (lo hi : Option Int) : slicePick its.toArray lo hi none = ((its.drop (HT.sIx its.length 0 lo)).take (HT.sIx its.length its.length hi - HT.sIx its.length 0 lo)).toArray := by
  obtain ⟨h1, h2, h3⟩ := slice_bounds lo hi its.toArray.size
  unfold slicePick
  rw [h1, h2, h3]
  simp only [sliceRange_one, pick_run, List.size_toArray] <;> rfl
/-- xs[lo:hi] of a list: a new list -/
def rSlL (K : PySem.W.Frag) : V → Option Int → Option Int → Hp → VK → Prop := fun x lo hi H Q => ∃ a xs, x = .ref a ∧ SqL K H a xs ∧ ∀ p, H p = none → Q (.ref p) (upd H p (.lst (cutV xs lo hi)))
theorem sl_list : SlR X (rSlL X.K) := by
  intro pins s σ H x v vl vu lo hi sl Q I rx hs pl pu h
  obtain ⟨a, xs, rfl, hx, q⟩ := h
  cases rx
  obtain ⟨its, r, ht, hz⟩ := I.list hx
  have hlen := r.length
  refine ⟨"list", _, slot_list_getitem.lookup, ht.isList.typeIs, ?_⟩
  refine wpAny_getItem_list_slice ht.isList hs pl pu .none (by simp) ?_ (by rw [List.size_toArray] <;> omega)
  rw [slicePick_cut, ← hlen]
  refine ⟨.ref s.heap.objs.size, _, I.laid (t' := s.toks) (o := .lst (cutV xs lo hi)) (fun b ob q => Heap.get?_push_of_some _ q) (Nat.le_refl _) ?_, rfl, q _ (I.hok.fresh (Nat.le_refl _))⟩
  exact ⟨Nat.le_trans (cutV_length xs lo hi) hz, _, 0, (r.drop (HT.sIx xs.length 0 lo)).take (HT.sIx xs.length xs.length hi - HT.sIx xs.length 0 lo), Heap.get?_push_size _ rfl⟩

/-! ### in, not in: flat items -/

/-! ### len, list(x), tuple(x) of any list or tuple that is read -/
theorem call_len_seq : CallR X (.builtin "len") (fun xs H Q => ∃ p ys, xs = [.ref p] ∧ (SqL X.K H p ys ∨ SqT X.K H p ys) ∧ Q (.int ys.length) H) := by
  intro pins s σ H xs us Q I r h
  obtain ⟨p, ys, rfl, hq, q⟩ := h
  obtain ⟨u, rfl, rx⟩ := vals1 r
  cases rx
  have hn := line63
  rcases hq with hq | hq
  · obtain ⟨its, r', pl, hz⟩ := I.list hq
    have hlen := r'.length
    exact Calls.call_len_list pl.isList (by simp only [List.size_toArray] <;> omega) ⟨.int ys.length, H, I.tok _, ⟨s.toks + 1, by rw [List.size_toArray, hlen]⟩, q⟩
  · obtain ⟨its, r', pl, hz⟩ := I.tuple hq
    have hlen := r'.length
    exact len_tuple pl (by simp only [List.size_toArray] <;> omega) ⟨.int ys.length, H, I.tok _, ⟨s.toks + 1, by rw [List.size_toArray, hlen]⟩, q⟩
theorem CallR.or {f : Value} {r r' : List V → Hp → VK → Prop} (h : CallR X f r) (h' : CallR X f r') : CallR X f (fun xs H Q => r xs H Q ∨ r' xs H Q) := by
  intro pins s σ H xs us Q I rs q
  rcases q with q | q
  · exact h pins s σ H xs us Q I rs q
  · exact h' pins s σ H xs us Q I rs q
theorem call_list_of : CallR X (.type "list") (fun xs H Q => ∃ p ys, xs = [.ref p] ∧ (SqL X.K H p ys ∨ SqT X.K H p ys) ∧ ∀ l, H l = none → Q (.ref l) (upd H l (.lst ys))) := by
  intro pins s σ H xs us Q I r h
  obtain ⟨p, ys, rfl, hq, q⟩ := h
  obtain ⟨u, rfl, rx⟩ := vals1 r
  cases rx
  have fin : ∀ (its : List Value), Vals ys its → ys.length ≤ sizeLine → ∀ (h' : Heap) (c' : Nat), (∀ b o', s.heap.get? b = some o' → h'.get? b = some o') →
      h'.get? s.heap.objs.size = some { cls := .type "list", dict := none, data := .seq its.toArray c', slots := #[] } → EP X pins σ Q (.ref s.heap.objs.size) { s with heap := h' } := fun its r' hz h' c' kp e =>
    ⟨.ref s.heap.objs.size, _, I.laid (t' := s.toks) kp (Nat.le_refl _) (show ObjOk X.prog X.w _ h' _ (.lst ys) from ⟨hz, its, c', r', e⟩), rfl, q _ (I.hok.fresh (Nat.le_refl _))⟩
  rcases hq with hq | hq
  · obtain ⟨its, r', pl, hz⟩ := I.list hq
    have hlen := r'.length
    obtain ⟨o, ho, hc, n, hd⟩ := pl.isList
    exact call_list_seq p (.inl rfl) ho hc hd (fun h' c' kp e => fin its r' hz h' c' kp e) (by simp only [List.size_toArray] <;> omega)
  · obtain ⟨its, r', pl, hz⟩ := I.tuple hq
    have hlen := r'.length
    obtain ⟨o, ho, hc, n, hd⟩ := pl
    exact call_list_seq p (.inr rfl) ho hc hd (fun h' c' kp e => fin its r' hz h' c' kp e) (by simp only [List.size_toArray] <;> omega)

/-! ### the call of a builtin's method: o.m(..) -/
/-- the value is of that builtin type -/
def tyV (K : PySem.W.Frag) (T : String) (x : V) (H : Hp) : Prop := match x with
  | .str _ => T = "str"
  | .int _ => T = "int"
  | .ref p => (T = "list" ∧ ∃ xs, SqL K H p xs) ∨ (T = "tuple" ∧ ∃ o, K.lookup p = some o ∧ o.cls = .type "tuple" ∧ o.dict = none) ∨
      (T = "dict" ∧ ((∃ kvs, H p = some (.dK kvs)) ∨ ∃ kvs, H p = some (.dT kvs))) ∨ (T = "set" ∧ ∃ S n, H p = some (.set S n))
  | _ => False
theorem tyV_is {pins : List (Addr × Obj)} {σ : St} {H : Hp} {s : Shared} {T : String} {x : V} {v : Value} (I : Inv X pins σ H s) (r : RelV x v) (ty : tyV X.K T x H) :
    s.TypeIs v T ∧ ∀ a, v = .ref a → ∃ ob, s.heap.get? a = some ob ∧ ob.dict = none := by
  cases x with
  | str z =>
    obtain ⟨t, rfl⟩ := r
    cases (show T = "str" from ty)
    exact ⟨typeIs_str s z t, fun _ e => nomatch e⟩
  | int i =>
    obtain ⟨t, rfl⟩ := r
    cases (show T = "int" from ty)
    exact ⟨typeIs_int s i t, fun _ e => nomatch e⟩
  | ref p =>
    cases r
    rcases ty with ⟨rfl, xs, hq⟩ | ⟨rfl, o, hk, hc, hd⟩ | ⟨rfl, hk⟩ | ⟨rfl, S, n, hk⟩
    · obtain ⟨its, _, pl, _⟩ := I.list hq
      refine ⟨pl.isList.typeIs, fun a e => ?_⟩
      cases e
      obtain ⟨o, n, e, c, hd, _⟩ := pl
      exact ⟨o, e, hd⟩
    · refine ⟨⟨o, I.kIn p o hk, hc⟩, fun a e => ?_⟩
      cases e
      exact ⟨o, I.kIn _ o hk, hd⟩
    · have z : ∃ o, s.heap.get? p = some o ∧ o.ExactDict := by
        rcases hk with ⟨kvs, hk⟩ | ⟨kvs, hk⟩
        · obtain ⟨_, _, _, _, o, _, _, e, ex, _⟩ := I.hok p _ hk
          exact ⟨o, e, ex⟩
        · obtain ⟨_, _, _, _, o, _, _, e, ex, _⟩ := I.hok p _ hk
          exact ⟨o, e, ex⟩
      obtain ⟨o, e, ex⟩ := z
      refine ⟨⟨o, e, ex.1⟩, fun a e2 => ?_⟩
      cases e2
      exact ⟨o, e, ex.2.1⟩
    · obtain ⟨o, _, _, _, e, ex, _⟩ := I.hok p _ hk
      refine ⟨⟨o, e, ex.1⟩, fun a e2 => ?_⟩
      cases e2
      exact ⟨o, e, ex.2.1⟩
  | _ => exact False.elim ty
def tBM (K : PySem.W.Frag) (T : String) (r : V → List V → Hp → VK → Prop) (to : TE) (t : TA) : TE := fun σ H Q => to σ H fun x H1 => tyV K T x H1 ∧ t σ H1 fun xs H2 => r x xs H2 Q
variable {o e : Expr} {es : List Expr} {to : TE} {t : TA} {name : Str} {apos cpos : Pos} {T id : String} {r : V → List V → Hp → VK → Prop}
theorem pe_bm (pa : PlainAttrs T) (slot : Slot T name id) (hty : typeOf (.builtin id) = pure (.type "method_descriptor")) (hm : MtR X id r) (ho : PE X o to) (ha : PA X (e :: es) t)
    (hbase : attributeBase o name X.env (eval o X.env) = eval o X.env := by rfl)
    (hfew : ((backTo cpos (starEach (e :: es) X.env)).all (fun x => !x.1) && (backToKw cpos (keywordEach [] X.env)).all (fun x => x.1.isSome)
      && decide ((e :: es).length + ([] : List Keyword).length + (if ([] : List Keyword).isEmpty then 0 else 1) < 30)) = true := by rfl)
    (hline : (apos.endLine == cpos.line) = true := by rfl) (hs : starEach (e :: es) X.env = (false, eval e X.env) :: starEach es X.env := by rfl) (hplain : (backTo cpos (starEach es X.env)).any (·.1) = false := by rfl) :
    PE X (.Call (.Attribute o name apos) (e :: es) [] cpos) (tBM X.K T r to t) := by
  intro pins s σ H Q I h
  refine wpAny_Call_method_late hbase hfew hline rfl (thn (ho pins s σ H _ I h) fun v s1 ⟨x, H1, I1, r1, ty, q1⟩ => ?_)
  obtain ⟨h1, h2⟩ := tyV_is I1 r1 ty
  refine ⟨T, id, pa, slot, hty, h1, h2, ?_⟩
  have hA := ha cpos pins s1 σ H1 _ I1 q1
  rw [hs] at hA ⊢
  refine Calls.callWith_builtin (by show (false || (backTo cpos (starEach es X.env)).any (·.1)) = false; rw [hplain] <;> rfl) (Calls.evalArgs_plain ?_)
  exact thn hA fun us s2 ⟨vs, H2, I2, r2, q2⟩ => hm pins s2 σ H2 x vs v us Q I2 r1 r2 q2
/- xs.append(e), list.index on a module's tuple .. are MtR facts of 06m -/
end
end L2

namespace L2
open PySem PySem.Spec PyProof.Rows

def MtM (X : Cx) (id : String) (r : V → List V → Hp → VK → Prop) : Prop :=
  ∀ (pins : List (Addr × Obj)) (s : Shared) (σ : St) (H : Hp) (x : V) (xs : List V) (v : Value) (us : List Value) (Q : VK), Inv X pins σ H s → RelV x v → Vals xs us → r x xs H Q →
    wpAny (model X.prog X.w) X.A (call (.builtin id) (v :: us)) (EP X pins σ Q) X.xe s

/-! ### lists of values -/
theorem Vals.one : ∀ {x : V} {us : List Value}, Vals [x] us → ∃ u, us = [u] ∧ RelV x u
  | _, _, .cons r .nil => ⟨_, rfl, r⟩
theorem Vals.two : ∀ {x y : V} {us : List Value}, Vals [x, y] us → ∃ u v, us = [u, v] ∧ RelV x u ∧ RelV y v
  | _, _, _, .cons r (.cons q .nil) => ⟨_, _, rfl, r, q⟩
theorem Vals.zero : ∀ {us : List Value}, Vals [] us → us = []
  | _, .nil => rfl
theorem Vals.dropLast {xs : List V} {us : List Value} (h : Vals xs us) : Vals xs.dropLast us.dropLast := by
  induction h with
  | nil => exact .nil
  | cons r t ih =>
    cases t with
    | nil => exact .nil
    | cons q t' => exact .cons r ih
theorem Vals.reverse {xs : List V} {us : List Value} (h : Vals xs us) : Vals xs.reverse us.reverse := by
  induction h with
  | nil => exact .nil
  | cons r t ih => rw [List.reverse_cons, List.reverse_cons]; exact Vals.append ih (.cons r .nil)

section
variable {X : Cx} {pins : List (Addr × Obj)} {σ : St} {H : Hp} {s : Shared} {l b : Addr} {xs ys zs : List V}

/-! ### the two steps: a tracked list is rewritten, a new list is laid -/
theorem Inv.lset {its its' : List Value} {n : Nat} {f : Array Value → Array Value} {t' : Nat} (I : Inv X pins σ H s) (hH : H l = some (.lst xs))
    (e : s.heap.get? l = some { cls := .type "list", data := .seq its.toArray n }) (hf : f its.toArray = its'.toArray) (hv : Vals ys its') (hz : ys.length ≤ sizeLine) :
    Inv X pins σ (upd H l (.lst ys)) { s with heap := s.heap.update l (Obj.mapSeq f), toks := t' } := by
  have q := PySem.IsL.update e f
  rw [hf] at q
  refine I.write (x := l) (e := l) (by rw [hH]; exact trivial) (.inl rfl) (fun b' u hb hu => (Heap.get?_update_other s.heap (Obj.mapSeq f) (Ne.symm hb)).trans hu) ⟨_, q⟩ ?_
  exact ⟨hz, its', _, hv, q⟩
theorem Inv.lnew {its : List Value} {t' : Nat} (I : Inv X pins σ H s) (hv : Vals ys its) (hz : ys.length ≤ sizeLine) :
    Inv X pins σ (upd H s.heap.objs.size (.lst ys)) { s with heap := s.heap.push { cls := .type "list", data := .seq its.toArray }, toks := t' } :=
  I.laid (fun _ _ q => Heap.get?_push_of_some _ q) (Nat.le_refl _) ⟨hz, its, 0, hv, Heap.get?_push_size _ rfl⟩
theorem Inv.fresh (I : Inv X pins σ H s) : H s.heap.objs.size = none := I.hok.fresh (Nat.le_refl _)
theorem Inv.lstM (I : Inv X pins σ H s) (hH : H l = some (.lst xs)) : xs.length ≤ sizeLine ∧ ∃ (its : List Value) (n : Nat), Vals xs its ∧ xs.length = its.length ∧ s.heap.get? l = some { cls := .type "list", data := .seq its.toArray n } := by
  obtain ⟨z, its, n, r, e⟩ := I.hok l _ hH
  exact ⟨z, its, n, r, r.length, e⟩

end

section
variable {X : Cx}

/-! ### methods -/
def rAppend : V → List V → Hp → VK → Prop := fun x vs H Q => ∃ l xs y, x = .ref l ∧ vs = [y] ∧ H l = some (.lst xs) ∧ xs.length < sizeLine ∧ Q .non (upd H l (.lst (xs ++ [y])))
theorem mt_append : MtM X "list.append" rAppend := by
  intro pins s σ H x vs v us Q I rx rv h
  obtain ⟨l, xs, y, rfl, rfl, hH, hz, q⟩ := h
  cases rx
  obtain ⟨u, rfl, ru⟩ := rv.one
  obtain ⟨z, its, n, r, hl, e⟩ := I.lstM hH
  refine call_meets F.slot_list_append ⟨_, e, rfl⟩ F.entry_list_append (F.args_list_append_2 _ _) (PySem.list_append l its.toArray n u (by rw [List.size_toArray]; omega)) ⟨e, ?_⟩
  refine ⟨.non, _, I.lset (its' := its ++ [u]) hH e (by simp) (r.append (.cons ru .nil)) ?_, rfl, q⟩
  rw [List.length_append, List.length_singleton]
  omega






/-! ### list + list, list += list, list * int -/

/-! ### del xs[i] -/
end

/-! ### xs[a:b] = ys -/
section
variable {prog : Program} {w : World} {A : Around} {E : Value → Shared → Prop} {s : Shared}
end

section
variable {X : Cx}
end
end L2

namespace Att
open PySem PySem.W PySem.Calls PyProof.Rows

/-! ### the script -/
theorem ints_of_wellAll {P : Params} {h : Heap} : ∀ (ns : List Int) (vs : List Value), WellAll P h vs (ns.map WData.int) → IntsAre vs ns := by
  intro ns
  induction ns with
  | nil =>
    intro vs w
    rw [List.map_nil] at w
    cases w
    exact .nil
  | cons n ns ih =>
    intro vs w
    rw [List.map_cons] at w
    cases w with
    | cons a b =>
      cases a
      exact .cons _ _ (ih _ b)

theorem script_of {l : OpenLaw} {n : Nat} (hn : l.most = some n) {P : Params} {h : Heap} {args : List WData} {vals : List Value}
    (hpre : l.row.toRowW.claim.pre args = true) (hwl : WellAll P h vals args) :
    ∃ a vs ns, vals = [Value.ref a] ∧ args = [WData.list (ns.map WData.int)] ∧ h.get? a = some { cls := .type "list", data := .seq vs.toArray } ∧ IntsAre vs ns ∧ ns.length ≤ n := by
  have hsh : WShape.hasAll [] args [.list .int] = true := (pre_splitW hpre).1
  have hc : l.pre.holds [] { args := args } = true := (pre_splitW hpre).2
  obtain ⟨d, r, rfl, h1, h2⟩ := hasAllW_cons hsh
  obtain rfl := hasAllW_nil h2
  obtain ⟨xs, rfl, h3⟩ := hasW_list h1
  obtain ⟨ns, rfl⟩ := items_int h3
  have hlen : ns.length ≤ n := by
    unfold OpenLaw.pre at hc
    have h4 : (WTm.not (.lt (.lit (.int (n : Int))) (.len (.arg 0)))).holds [] { args := [.list (ns.map .int)] } = true := by
      have h4 := (holds_andW hc).1
      rw [hn] at h4
      exact h4
    have h5 := condW_of h4 (w_not (w_lt w_lit (w_len_list (w_arg rfl))))
    rw [List.length_map] at h5
    refine Nat.le_of_not_lt fun q => ?_
    have q' : (n : Int) < ((ns.length : Nat) : Int) := by omega
    first
      | (rw [decide_eq_true q'] at h5; exact absurd h5 (by decide))
      | (simp at h5; omega)
  cases hwl with
  | cons w1 w2 =>
    cases w2
    cases w1 with
    | list ho hall => exact ⟨_, _, ns, rfl, rfl, ho, ints_of_wellAll ns _ hall, hlen⟩

theorem post_true (l : OpenLaw) (args : List WData) : l.row.toRowW.claim.post args (.bool true) args = true :=
  postW_of (r := l.row.toRowW) (X := (true == true))
    (show WShape.has [] (.bool true) .bool = true by first | rfl | decide | simp [WShape.has, WShape.arms, WShape.armsAll])
    (show (WTm.eq .res (.lit (.bool true))).value [] { args := args, res := some (.bool true), after := args } = some (.bool (true == true)) from w_eq_bool (w_res rfl) w_lit) rfl

/-! ### the attachment: holds_open's last premise (the goal 'hc' behind k_head) from a wpAny of the law's body -/

/-- the same from a codeAny of the CALL (for a layer whose function contracts speak of calls) -/
theorem attach_call {l : OpenLaw} {n : Nat} {q : Program} {loose : List Str} {XP : (Str → Option Value) → Heap → Prop} {YP : World → Heap → Prop} {d : DefRec}
    (hn : l.most = some n) (hdf : d.params.defaults = [])
    (call : ∀ (w : World) (s₀ s₁ : Shared) (mg mb : Str → Option Value) (fa : Addr) (o : Obj) (pm cd doc : Value) (a : Addr) (vs : List Value) (ns : List Int),
      Ground q loose [] XP w s₀ mg mb s₁.heap → YP w s₁.heap →
      s₁.heap.get? fa = some o → o.data = .func (docDef d.name d.params d.body d.scope pm cd doc) → s₁.heap.CodeRec cd d.name → mg d.name = some (.ref fa) →
      s₁.heap.get? a = some { cls := .type "list", data := .seq vs.toArray } → IntsAre vs ns → ns.length ≤ n → s₁.gens = #[] →
      codeAny (model l.prog w) callerA (.call (.ref fa) ⟨[.ref a], []⟩) (fun r s' => r = .ok (.ret (.bool true)) ∧ OldK s₁.heap s'.heap ∧ s'.os = s₁.os ∧ AllBare s'.gens) s₁) :
    WalkO q loose XP YP l.row.toRowW d [] (fun f vs => PySem.call f vs) := by
  intro w s₀ s₁ mg mb G Y fa o pm cd doc dV kV ho hd hcd hD hmg hg args vals as hpre hlay hrd hwl hlo
  obtain rfl : dV = .none := Dflts.none hD hdf
  obtain rfl : kV = .none := Dflts.noKw hD
  obtain ⟨a, vs, ns, rfl, rfl, hobj, hints, hlen⟩ := script_of hn hpre hwl
  refine enter_call (codeAny_mono (call w s₀ s₁ mg mb fa o pm cd doc a vs ns G Y ho (fd_plain hd) hcd hmg hobj hints hlen hg) fun r s' hq => ?_)
  obtain ⟨rfl, h2, h3, h4⟩ := hq
  exact ⟨.inl ⟨.bool true, .bool true, [], rfl, fun _ => rfl, .bool true, post_true l _, fun _ => ⟨List.Pairwise.nil, fun _ hm => (nomatch hm)⟩⟩, h2, h3, h4⟩


/-! ### rules over ANY heap (no ledger) from facts about the written part K: the library's own take a ledger (News) for what they write -/
section
variable {prog : Program} {w : World} {A : Around} {E : Value → Shared → Prop} {s : Shared} {K : Frag}





/-! the whole heap as the ledger: makes every rule that writes through a ledger a rule over any heap -/
def ledger (h : Heap) (L d : Addr) : List (Addr × Obj) := (List.range h.objs.size).filterMap fun a => if a = L ∨ a = d then none else (h.get? a).map fun o => (a, o)

end
end Att

namespace L2
open PySem PySem.Spec PyProof.Rows

theorem vals_ints : ∀ {vs : List Value} {ns : List Int}, IntsAre vs ns → Vals (ns.map V.int) vs
  | _, _, .nil => .nil
  | _, _, .cons n t h => .cons ⟨t, rfl⟩ (vals_ints h)

/-- nothing is tracked but the script, known to the object (or it is an object of the module) -/
def Only (H : Hp) : Prop := ∀ b, H b = none ∨ ∃ o xs, H b = some (.frz o (.lst xs))

/-- THE HEAD: the law's promise, at the heap behind the top. F, the promise of the law's def, may use that base is part of the heap (so K.In base, base.Ns mainGlobals mg stand in Mod) -/
theorem law_call {P : Program} {w : World} {K : PySem.W.Frag} {mg mb : Str → Option Value} {CX : CXT} {k : Nat} {fa a : Addr} {fd : FuncData} {x : Str} {sp : Sp} {s₁ : Shared} {vs : List Value} {ns : List Int}
    (KX : K.In s₁.heap) (hns : s₁.heap.Ns mainGlobals mg) (hb : s₁.heap.Ns builtinsNs mb) (hbb : ∀ x : Str, x ≠ "__name__" → mb x = bootBuiltins x) (hlim : s₁.heap.NoLimit) (hg : s₁.gens = #[])
    (ha : s₁.heap.get? a = some { cls := .type "list", data := .seq vs.toArray }) (hi : IntsAre vs ns) (hl : ns.length ≤ sizeLine) (hr : Room k callerA)
    (F : ∀ base : Heap, K.In base → base.Ns mainGlobals mg → FnOk P w K mg base CX k fa fd [x] sp) (hbind : ∀ (s : Shared) (u : Value), BindsTo s fd ⟨[u], []⟩ [(x, u)])
    (hsp : ∀ H : Hp, Only H → SqL K H a (ns.map V.int) → sp [.ref a] H (fun v _ => v = .bl true) fun _ _ _ => False)
    (hCX : ∀ H e s', CX [] H s₁ (fun _ _ _ => False) e s' → False) :
    codeAny (model P w) callerA (.call (.ref fa) ⟨[.ref a], []⟩) (fun r s' => r = .ok (.ret (.bool true)) ∧ OldK s₁.heap s'.heap ∧ s'.os = s₁.os ∧ AllBare s'.gens) s₁ := by
  have rv := vals_ints hi
  have lenV := hi.length
  -- from an abstract heap in which nothing but the script may be tracked
  have core : ∀ H : Hp, Only H → SqL K H a (ns.map V.int) → HOk P w H s₁.heap → (∀ b, H b ≠ none → b = a) → (H a ≠ none → K.lookup a = none) →
      codeAny (model P w) callerA (.call (.ref fa) ⟨[.ref a], []⟩) (fun r s' => r = .ok (.ret (.bool true)) ∧ OldK s₁.heap s'.heap ∧ s'.os = s₁.os ∧ AllBare s'.gens) s₁ := by
    intro H hO hS hok hA hK
    have base_of : ∀ {b : Addr} {o : Obj}, s₁.heap.get? b = some o → H b = none → (hidT s₁.heap H).get? b = some o := fun e n => hidT_get e n
    have noA : ∀ {b : Addr} {o : Obj} {es : Array DictEntry} {ep : Nat}, s₁.heap.get? b = some o → o.data = .dict es ep → H b = none := fun {b o es ep} e d => by
      cases q : H b with
      | none => rfl
      | some u =>
        have e' : b = a := hA b (by rw [q]; simp)
        subst e'
        rw [ha] at e; cases e
        have d' : Data.seq vs.toArray _ = Data.dict es ep := d
        cases d'
    have nsK : ∀ {b : Addr} {m : Str → Option Value}, s₁.heap.Ns b m → (hidT s₁.heap H).Ns b m := fun {b m} ⟨o, es, ep, e, d, r⟩ => ⟨o, es, ep, base_of e (noA e d), d, r⟩
    have hKb : K.In (hidT s₁.heap H) := fun b o e => base_of (KX b o e) (by
      cases q : H b with
      | none => rfl
      | some u =>
        have e' : b = a := hA b (by rw [q]; simp)
        subst e'
        rw [hK (by rw [q]; simp)] at e; cases e)
    have hM : Mod K mg (hidT s₁.heap H) := ⟨hKb, nsK hns, ⟨mb, nsK hb, hbb⟩, let ⟨mc, h1, h2⟩ := hlim; ⟨mc, nsK h1, h2⟩⟩
    have e0 : Env0 P w K mg (hidT s₁.heap H) callerA [] s₁ H := ⟨rfl, hM, fun b o e => of_hidT e, Nat.le_of_eq (hidT_size _ _), trivial, fun b hb => absurd (show b ∈ ([] : List Addr) from hb) (by simp), hok, .of_eq hg⟩
    refine codeAny_mono ((F _ hKb (nsK hns)).run callerA [] s₁ H ⟨[.ref a], []⟩ [.ref a] [.ref a] _ _ hr e0 (hbind s₁ (.ref a)) (.cons rfl .nil) (hsp H hO hS)) fun r s' h => ?_
    cases r with
    | error e => exact (hCX H e s' h).elim
    | ok fl =>
      cases fl with
      | next => exact False.elim h
      | brk => exact False.elim h
      | cont => exact False.elim h
      | ret u =>
        obtain ⟨v, H', os, bare, un, hok', r', q⟩ := h
        have q' : v = .bl true := q
        subst q'
        obtain rfl : u = Value.bool true := r'
        refine ⟨rfl, OldK.of_keep fun b o e => ?_, os, bare⟩
        cases q : H b with
        | none => exact un.keep b o e q (by intro z; exact absurd (show b ∈ ([] : List Addr) from z) (by simp)) (by simp)
        | some u =>
          rcases hO b with z | ⟨ob, xs, z⟩
          · rw [q] at z; cases z
          · have z2 := un.frzs b ob _ z
            obtain ⟨e1, _⟩ := hok b _ z
            obtain ⟨e2, _⟩ := hok' b _ z2
            rw [e] at e1; cases e1
            exact e2
  cases hk : K.lookup a with
  | some o =>
    -- the script is one of the module's own objects
    have e := KX a o hk
    rw [ha] at e
    cases e
    refine core (fun _ => none) (fun _ => .inl rfl) (.inr ⟨_, vs.toArray, _, hk, rfl, rfl, rfl, by rw [List.size_toArray, lenV]; exact hl, by simpa using rv⟩) (fun b u z => by have z' : (none : Option HO) = some u := z; cases z') (fun b z => absurd rfl z) fun z => absurd rfl z
  | none =>
    refine core (fun b => if b = a then some (.frz { cls := .type "list", data := .seq vs.toArray } (.lst (ns.map V.int))) else none) (fun b => ?_) (.inl (.inr ⟨{ cls := .type "list", data := .seq vs.toArray }, if_pos rfl⟩)) (fun b u z => ?_) (fun b z => ?_) fun _ => hk
    · by_cases hb : b = a
      · exact .inr ⟨_, _, if_pos hb⟩
      · exact .inl (if_neg hb)
    · by_cases hb : b = a
      · have z' := (if_pos hb).symm.trans z
        cases z'
        subst hb
        exact ⟨ha, by rw [List.length_map]; exact hl, vs, _, rv, ha⟩
      · have z' := (if_neg hb).symm.trans z
        cases z'
    · by_cases hb : b = a
      · exact hb
      · exact absurd (if_neg hb) z
end L2

namespace L2
open PySem PySem.Spec PyProof.Rows

abbrev KOf {K : PySem.W.Frag} {h : Heap} (_ : K.In h) : PySem.W.Frag := K

/-- the goal that k_head leaves (case hc), from the law's promise. F gives the function object fd (K's own) once, then the promise over every base -/
theorem walk_of {l : PySem.W.OpenLaw} {n k : Nat} {q : Program} {loose : List Str} {XP : (Str → Option Value) → Heap → Prop} {YP : World → Heap → Prop} {d : DefRec} {K : Params → PySem.W.Frag} {CX : World → CXT} {sp : World → Sp} {x : Str}
    (hn : l.most = some n) (hn2 : n ≤ sizeLine) (hdf : d.params.defaults = []) (hr : Room k callerA)
    (hY : ∀ (w : World) (h : Heap), YP w h → (K w.params).In h)
    (F : ∀ (w : World) (mg : Str → Option Value) (fa : Addr) (h : Heap), (K w.params).In h → h.Ns mainGlobals mg → mg d.name = some (.ref fa) →
      ∃ fd : FuncData, (∀ (s : Shared) (u : Value), BindsTo s fd ⟨[u], []⟩ [(x, u)]) ∧
        ∀ base : Heap, (K w.params).In base → base.Ns mainGlobals mg → FnOk l.prog w (K w.params) mg base (CX w) k fa fd [x] (sp w))
    (hsp : ∀ (w : World) (H : Hp) (a : Addr) (ns : List Int), ns.length ≤ n → Only H → SqL (K w.params) H a (ns.map V.int) → sp w [.ref a] H (fun v _ => v = .bl true) fun _ _ _ => False)
    (hCX : ∀ (w : World) (H : Hp) (s : Shared) (e : Value) (s' : Shared), CX w [] H s (fun _ _ _ => False) e s' → False) :
    PySem.W.WalkO q loose XP YP l.row.toRowW d [] (fun f vs => PySem.call f vs) := by
  refine Att.attach_call hn hdf fun w s₀ s₁ mg mb fa o pm cd doc a vs ns G Y ho hd hcd hmg hobj hints hlen hg => ?_
  have KX := hY w _ Y
  obtain ⟨fd, hb, hF⟩ := F w mg fa _ KX G.T.g hmg
  exact law_call KX G.T.g G.T.b G.T.builtins G.T.nolimit hg hobj hints (Nat.le_trans hlen hn2) hr hF hb (fun H hO hS => hsp w H a ns hlen hO hS) fun H e s' => hCX w H s₁ e s'
end L2

/- THE LAST THEOREM (shape; LID, My.* are yours):
   My.Adr: a structure of the addresses that your layer names (classes, functions); My.Txt K t: a structure (Prop) of the equations over K;
   My.txt_mk : {K} {implicit addresses ..} (e1 : nsIn K mainGlobals "law" = some (some (.ref f))) (e2 : K.lookup f = some ⟨oc, od, .func (fnOf "law" "law" params body scope dV kV doc pm an cdv ct), sl⟩) (e3 : codeIn K cdv "law" = true) .. : ∃ t, My.Txt K t

set_option maxRecDepth 100000 in
set_option maxHeartbeats 0 in
theorem PySem.Challenge.cw_LID_holds : PySem.Challenge.rw_LID.Holds := by
  w_on; o_law; k_head; (case hw => w_witness2)
  k_fill
  refine L2.walk_of (l := PySem.Challenge.rw_LID) (n := 63) (k := 40) (x := "script") (CX := fun w => ..) (sp := fun _ => My.sp_law) rfl (by decide) rfl ⟨rfl, by decide, by decide⟩ (fun w h Y => PySem.W.kIn_of Y) ?F ?S ?C
  case F =>
    intro w mg fa h KX G hmg
    have T : ∃ t, My.Txt (L2.KOf KX) t := by
      dsimp only [L2.KOf]                          -- K must stand as «<heap const> w.params» for k_is
      refine' My.txt_mk ?e1 ?e2 ?e3 ..
      (case e1 => PySem.W.k_is)                    -- in the order: a name -> its address -> its object -> its parts
      (case e2 => PySem.W.k_is)
      ..
    obtain ⟨t, T⟩ := T
    have e0 := hmg.symm.trans (PySem.W.mg_of KX G T.law)
    cases e0                                       -- fa is the law's own address
    exact ⟨_, fun s u => .of_eq rfl, fun base kb nb => My.law_fn T kb nb⟩     -- if «.of_eq rfl» comes too early: refine' ⟨_, ?b, fun base kb nb => My.law_fn T kb nb⟩; exact fun s u => .of_eq rfl
  case S => exact fun w H a ns hl hO hS => ..
  case C => exact ..
(the tactic k_is has no namespace: write k_is) -/

/-! SHORT WORDS over the layer: a def of the text, its body, what a loop and a test want. -/
namespace L2
open PySem PySem.Spec PyProof.Rows

/-! ### the text by places -/
def defArgs (s : Stmt) : Arguments := match s with
  | .FunctionDef _ a _ _ _ _ _ _ _ _ => a
  | _ => { posonlyargs := [], args := [], vararg := none, kwonlyargs := [], kw_defaults := [], kwarg := none, defaults := [] }
def defBody (s : Stmt) : List Stmt := match s with
  | .FunctionDef _ _ b _ _ _ _ _ _ _ => b
  | _ => []
def defScope (s : Stmt) : Scope := match s with
  | .FunctionDef _ _ _ _ _ _ sc _ _ _ => sc
  | _ => { kind := .function, names := [], isGenerator := false, isCoroutine := false }

/-! ### no exception leaves a def -/
abbrev CX0 : CXT := fun _ _ _ _ _ _ => False
abbrev E0 : XK := fun _ _ _ => False

/-! ### a def (or method) of the text as it stands behind the top -/
structure Fun (K : PySem.W.Frag) (x qual : Str) (st : Stmt) (f : Addr) (fd : FuncData) : Prop where
  ex : ∃ (oc : Value) (od : Option Addr) (kV doc pm : Value) (an : Option Addr) (cdv ct : Value) (osl : Array (Option Value)),
    fd = PySem.W.fnOf x qual (defArgs st) (defBody st) (defScope st) .none kV doc pm an cdv ct ∧ K.lookup f = some ⟨oc, od, .func fd, osl⟩ ∧ PySem.W.codeIn K cdv qual = true
  kp : PySem.W.keepIn K (.ref f) = true
section
variable {P : Program} {w : World} {K : PySem.W.Frag} {mg : Str → Option Value} {base : Heap}
/-- THE RULE for a def: its body as a term of rules, and the reading of that term -/
theorem Fun.ok {x qual : Str} {st : Stmt} {f : Addr} {fd : FuncData} {N ps : List Str} {k : Nat} {sp : Sp} (F : Fun K x qual st f fd) (S : FnScope N ps (defScope st)) (len : ∀ vs H Q E, sp vs H Q E → vs.length = ps.length)
    (hbody : ∀ (cdv : Value) (A : Around) (outer : List Env) (s : Shared) (H : Hp) (vs : List V) (Q : VK) (E : XK), Room k (A.deeper (envOfC qual (defScope st) s.heap.objs.size f cdv)) → sp vs H Q E →
      ∃ t, PSs (cxOf CX0 P w K mg base N qual (defScope st) f cdv A outer s H E).nox (defBody st) t ∧ t { nx := fun _ H' => Q .non H', rt := Q } (start N vs) H) : FnOk P w K mg base CX0 (k + 1) f fd ps sp := by
  obtain ⟨oc, od, kV, doc, pm, an, cdv, ct, osl, rfl, lk, hcd⟩ := F.ex
  refine fn_of lk hcd S len fun A outer s H vs Q E hr hsp => ?_
  obtain ⟨t, h, q⟩ := hbody cdv A outer s H vs Q E hr hsp
  exact ⟨t, h.nox, q⟩
/-- how its arguments bind (no defaults): h is «fun _ _ _ _ _ _ us hl => match us, hl with | [_, _], _ => rfl», one _ a parameter -/
theorem Fun.binds {x qual : Str} {st : Stmt} {f : Addr} {fd : FuncData} {ps : List Str} (F : Fun K x qual st f fd)
    (h : ∀ (kV doc pm : Value) (an : Option Addr) (cdv ct : Value) (us : List Value), us.length = ps.length → bindArgs (PySem.W.fnOf x qual (defArgs st) (defBody st) (defScope st) .none kV doc pm an cdv ct) ⟨us, []⟩ = pure (ps.zip us)) : Binds K fd ps [] := by
  obtain ⟨oc, od, kV, doc, pm, an, cdv, ct, osl, rfl, lk, hcd⟩ := F.ex
  exact .all (h kV doc pm an cdv ct)
theorem fun_mk {x qual : Str} {st : Stmt} {f : Addr} {oc : Value} {od an : Option Addr} {osl : Array (Option Value)} {kV doc pm cdv ct : Value} (l : K.lookup f = some ⟨oc, od, .func (PySem.W.fnOf x qual (defArgs st) (defBody st) (defScope st) .none kV doc pm an cdv ct), osl⟩)
    (c : PySem.W.codeIn K cdv qual = true) (k : PySem.W.keepIn K (.ref f) = true) : Fun K x qual st f (PySem.W.fnOf x qual (defArgs st) (defBody st) (defScope st) .none kV doc pm an cdv ct) := ⟨⟨oc, od, kV, doc, pm, an, cdv, ct, osl, rfl, l, c⟩, k⟩
end

/-! ### expressions in short: the name that stands in the i-th slot -/
section
variable {X : Cx}
end

/-! ### tests -/
theorem iteF {A B : Prop} (h : B) : if false = true then A else B := by
  rw [if_neg Bool.false_ne_true]
  exact h
theorem iteT {A B : Prop} (h : A) : if true = true then A else B := by
  rw [if_pos rfl]
  exact h

/-! ### heaps -/
/-- all that was tracked is as it was -/
def Same (H H' : Hp) : Prop := ∀ b o, H b = some o → H' b = some o
theorem Same.refl (H : Hp) : Same H H := fun _ _ h => h
theorem Same.trans {H H1 H2 : Hp} (a : Same H H1) (b : Same H1 H2) : Same H H2 := fun c o h => b c o (a c o h)
theorem Same.free {H H' : Hp} (e : Same H H') {l : Addr} (h : H' l = Option.none) : H l = Option.none := by
  cases q : H l with
  | none => rfl
  | some o =>
    rw [e l o q] at h
    cases h
theorem Same.seq {K : PySem.W.Frag} {H H' : Hp} {a : Addr} {xs : List V} (e : Same H H') (h : SqL K H a xs) : SqL K H' a xs := by
  rcases h with (h | ⟨o, h⟩) | h
  · exact .inl (.inl (e _ _ h))
  · exact .inl (.inr ⟨o, e _ _ h⟩)
  · exact .inr h

end L2

end
section
set_option Elab.async false
set_option linter.all false
set_option maxRecDepth 100000
/-! a small language over plain data: its terms, its runs -/
namespace IP
open PySem (Str)

inductive T where
  | non | bl (b : Bool) | int (i : Int) | str (x : Str) | tup (xs : List T) | lst (xs : List T) | loc (l : Nat) | exc (c : Nat)
  deriving Repr, Inhabited
/-- what an expression gives: a value for good, or a list that belongs to some name -/
inductive R where
  | val (t : T) | bor (ts : List T)
  deriving Repr
/-- what stands at a name -/
inductive B where
  | val (t : T) | own (ts : List T) | bor (ts : List T) | lck (ts : List T)
  deriving Repr, Inhabited
abbrev Fr := List (Option B)
inductive Cell where
  | lst (ts : List T) | ins (c : Nat) (fs : List (Option T))
  deriving Repr
abbrev Sto := List Cell
inductive Res (α : Type) where
  | stuck | ok (a : α) (s : Sto) | exc (c : Nat) (s : Sto)
  deriving Repr
def Res.bind {α β : Type} (m : Res α) (k : α → Sto → Res β) : Res β := match m with
  | .stuck => .stuck
  | .ok a s => k a s
  | .exc c s => .exc c s
@[simp] theorem Res.bind_ok {α β : Type} (a : α) (s : Sto) (k : α → Sto → Res β) : (Res.ok a s).bind k = k a s := rfl
@[simp] theorem Res.bind_exc {α β : Type} (c : Nat) (s : Sto) (k : α → Sto → Res β) : (Res.exc c s : Res α).bind k = .exc c s := rfl
@[simp] theorem Res.bind_stuck {α β : Type} (k : α → Sto → Res β) : (Res.stuck : Res α).bind k = .stuck := rfl
/-- a pure step that may be missing -/
def Res.of {α : Type} (o : Option α) (s : Sto) : Res α := match o with
  | none => .stuck
  | some a => .ok a s
@[simp] theorem Res.of_some {α : Type} (a : α) (s : Sto) : Res.of (some a) s = .ok a s := rfl
@[simp] theorem Res.of_none {α : Type} (s : Sto) : Res.of (none : Option α) s = .stuck := rfl

inductive Op where | add | sub | mul | fdiv | mod | pow
  deriving Repr
inductive Cm where | lt | le | gt | ge | eq | ne | isN | notN | mem | nmem
  deriving Repr
inductive Bi where | len | abs | int | list | tuple | any | all | min | max | sorted | str
  deriving Repr
inductive Ty where | int | bool | tuple | list | str | cls (c : Nat)
  deriving Repr
inductive Tg where | one (i : Nat) | many (is : List Nat)
  deriving Repr
inductive E where
  | var (i : Nat)
  | cst (t : T)
  | glb (x : Str) (i : Int)
  | bin (o : Op) (a b : E)
  | neg (a : E)
  | not (a : E)
  | cmp (c : Cm) (a b : E)
  | and (a b : E) | or (a b : E)
  | ife (c a b : E)
  | tup (es : List E) | lst (es : List E)
  | sub (a b : E)
  | cutL (a lo : E) | cutU (a hi : E) | cutLU (a lo hi : E) | rev (a : E)
  | b1 (f : Bi) (a : E)
  | mn2 (a b : E) | mx2 (a b : E)
  | mxd (a d : E) | mnd (a d : E)
  | mnk (a : E) (i : Nat) (k : E) | sok (a : E) (i : Nat) (k : E)
  | isi (a : E) (c : Ty)
  | call (f : Nat) (es : List E) (ds : List T)
  | comp (elt : E) (tg : Tg) (it : E)
  | compIf (elt : E) (tg : Tg) (it c : E)
  | rng1 (a : E) | rng2 (a b : E) | enm (a : E) | zip (a b : E)
  deriving Repr, Inhabited
inductive S where
  | asg (i : Nat) (e : E)
  | asgT (is : List Nat) (e : E)
  | mk (i : Nat) (e : E)
  | app (i : Nat) (e : E)
  | ext (i : Nat) (e : E)
  | put (i : Nat) (j e : E)
  | pop (k i : Nat)
  | frz (i : Nat)
  | ifs (c : E) (a b : List S)
  | whl (c : E) (b : List S)
  | for_ (tg : Tg) (it : E) (b : List S)
  | ret (e : E)
  | retO (e : E)
  | retV (i : Nat)
  | exp (e : E)
  | raise (c : Nat)
  | try_ (b : List S) (c : Nat) (nm : Option Nat) (h : List S)
  | pass
  deriving Repr, Inhabited

/-! ### plain steps on data -/
def eqL (f : T → T → Option Bool) : List T → List T → Option Bool
  | [], [] => some true
  | [], _ :: _ => some false
  | _ :: _, [] => some false
  | a :: r, b :: q => match f a b, eqL f r q with
    | some k, some k' => some (k && k')
    | _, _ => none
/-- == of data, n deep; only where it is told -/
def eqD : Nat → T → T → Option Bool
  | _, .non, .non => some true
  | _, .bl a, .bl b => some (a == b)
  | _, .int a, .int b => some (a == b)
  | _, .str a, .str b => some (a == b)
  | n + 1, .tup a, .tup b => eqL (eqD n) a b
  | n + 1, .lst a, .lst b => eqL (eqD n) a b
  | _, .non, .int _ => some false
  | _, .int _, .non => some false
  | _ + 1, .non, .tup _ => some false
  | _ + 1, .tup _, .non => some false
  | _, _, _ => none
abbrev eqT : T → T → Option Bool := eqD 8
abbrev eqTs : List T → List T → Option Bool := eqL (eqD 7)
/-- a number that is not beyond all bounds -/
def big : Nat := 10 ^ 300
def mulB (i j : Int) : Bool := decide (i.natAbs < 2 ^ 64) || decide (j.natAbs < 2 ^ 64) || (decide (i.natAbs < big) && decide (j.natAbs < big))
def lim : Nat := 1000000
def R.seq : R → Option (List T)
  | .val (.lst ts) => some ts
  | .bor ts => some ts
  | _ => none
/-- list or tuple -/
def R.sq2 : R → Option (List T)
  | .val (.lst ts) => some ts
  | .val (.tup ts) => some ts
  | .bor ts => some ts
  | _ => none
def opI : Op → Int → Int → Option Int
  | .add, i, j => some (i + j)
  | .sub, i, j => some (i - j)
  | .mul, i, j => if mulB i j then some (i * j) else none
  | .fdiv, i, j => if j ≠ 0 ∧ j.natAbs < big then some (Int.fdiv i j) else none
  | .mod, i, j => if j ≠ 0 then some (Int.fmod i j) else none
  | .pow, i, j => if 0 ≤ j ∧ j ≤ 100 ∧ i.natAbs < big then some (i ^ j.toNat) else none
def opR (o : Op) (x y : R) : Option R := match o, x, y with
  | o, .val (.int i), .val (.int j) => (opI o i j).map fun k => .val (.int k)
  | .add, .val (.tup xs), .val (.tup ys) => if xs ≠ [] ∧ ys ≠ [] ∧ xs.length + ys.length ≤ lim then some (.val (.tup (xs ++ ys))) else none
  | .add, x, y => match x.seq, y.seq with
    | some xs, some ys => if xs.length + ys.length ≤ lim then some (.val (.lst (xs ++ ys))) else none
    | _, _ => none
  | _, _, _ => none
def asInts : List T → Option (List Int)
  | [] => some []
  | .int i :: r => (asInts r).map (i :: ·)
  | _ => none
def asBools : List T → Option (List Bool)
  | [] => some []
  | .bl b :: r => (asBools r).map (b :: ·)
  | _ => none
def R.int? : R → Option Int
  | .val (.int i) => some i
  | _ => none
def R.isNon : R → Bool
  | .val .non => true
  | _ => false
def R.val? : R → Option T
  | .val t => some t
  | _ => none
def tru : R → Option Bool
  | .val .non => some false
  | .val (.bl b) => some b
  | .val (.int i) => some (i != 0)
  | .val (.lst ts) => some (!ts.isEmpty)
  | .val (.tup ts) => some (!ts.isEmpty)
  | .bor ts => some (!ts.isEmpty)
  | _ => none
def eqR : R → R → Option Bool
  | .val a, .val b => eqT a b
  | .val (.lst a), .bor b => eqTs a b
  | .bor a, .val (.lst b) => eqTs a b
  | .bor a, .bor b => eqTs a b
  | _, _ => none
def memT (x : T) : List T → Option Bool
  | [] => some false
  | y :: r => match eqT y x, memT x r with
    | some k, some k' => some (k || k')
    | _, _ => none
def cmpR (c : Cm) (x y : R) : Option Bool := match c with
  | .lt => do let i ← x.int?; let j ← y.int?; some (decide (i < j))
  | .le => do let i ← x.int?; let j ← y.int?; some (decide (i ≤ j))
  | .gt => do let i ← x.int?; let j ← y.int?; some (decide (j < i))
  | .ge => do let i ← x.int?; let j ← y.int?; some (decide (j ≤ i))
  | .eq => eqR x y
  | .ne => (eqR x y).map (!·)
  | .isN => match y with
    | .val .non => some x.isNon
    | _ => none
  | .notN => match y with
    | .val .non => some (!x.isNon)
    | _ => none
  | .mem => do let t ← x.val?; let ts ← y.sq2; memT t ts
  | .nmem => do let t ← x.val?; let ts ← y.sq2; (memT t ts).map (!·)
def subR (x : R) (i : Int) : Option T := match x.sq2 with
  | some ts => L2.atI ts i
  | none => none
def cutT (ts : List T) (lo hi : Option Int) : List T := (ts.drop (HT.sIx ts.length 0 lo)).take (HT.sIx ts.length ts.length hi - HT.sIx ts.length 0 lo)
def cutR (x : R) (lo hi : Option Int) : Option R := match x with
  | .val (.tup ts) => if HT.sIx ts.length 0 lo = 0 ∧ HT.sIx ts.length ts.length hi = ts.length then none else some (.val (.tup (cutT ts lo hi)))
  | .val (.lst ts) => some (.val (.lst (cutT ts lo hi)))
  | .bor ts => some (.val (.lst (cutT ts lo hi)))
  | _ => none
/-- tuples of asInts in order -/
def asTups : List T → Option (List (List Int))
  | [] => some []
  | .tup ts :: r => do let x ← asInts ts; let y ← asTups r; some (x :: y)
  | _ => none
def minI : List Int → Option Int
  | [] => none
  | a :: r => some (r.foldl (fun m x => if x < m then x else m) a)
def maxI : List Int → Option Int
  | [] => none
  | a :: r => some (r.foldl (fun m x => if x > m then x else m) a)
def minBy {α : Type} (lt : α → α → Bool) : List (α × T) → Option T
  | [] => none
  | a :: r => some (r.foldl (fun m x => if lt x.1 m.1 then x else m) a).2
def insI (x : Int) : List Int → List Int
  | [] => [x]
  | y :: r => if x < y then x :: y :: r else y :: insI x r
def sortI (xs : List Int) : List Int := xs.foldl (fun acc x => insI x acc) []
def b1R (f : Bi) (x : R) : Option R := match f with
  | .len => x.sq2.map fun ts => .val (.int ts.length)
  | .abs => x.int?.map fun i => .val (.int (if i < 0 then -i else i))
  | .int => match x with | .val (.int i) => some (.val (.int i)) | .val (.bl b) => some (.val (.int (if b then 1 else 0))) | _ => none
  | .list => x.sq2.map fun ts => .val (.lst ts)
  | .tuple => x.sq2.map fun ts => .val (.tup ts)
  | .any => do let ts ← x.seq; let bs ← asBools ts; some (.val (.bl (bs.any id)))
  | .all => do let ts ← x.seq; let bs ← asBools ts; some (.val (.bl (bs.all id)))
  | .min => do let ts ← x.seq; let is ← asInts ts; (minI is).map fun i => .val (.int i)
  | .max => do let ts ← x.seq; let is ← asInts ts; (maxI is).map fun i => .val (.int i)
  | .sorted => do let ts ← x.seq; let is ← asInts ts; if is.length < 64 then some (.val (.lst ((sortI is).map .int))) else none
  | .str => none
def isiR (x : R) (c : Ty) : Option Bool := match x, c with
  | .val (.int _), .int => some true | .val (.bl _), .int => some true | .val (.tup _), .int => some false | .val (.lst _), .int => some false | .val .non, .int => some false | .bor _, .int => some false
  | .val (.int _), .bool => some false | .val (.bl _), .bool => some true | .val (.tup _), .bool => some false | .val (.lst _), .bool => some false | .val .non, .bool => some false
  | .val (.tup _), .tuple => some true | .val (.int _), .tuple => some false | .val (.bl _), .tuple => some false | .val (.lst _), .tuple => some false | .val .non, .tuple => some false
  | .val (.lst _), .list => some true | .bor _, .list => some true | .val (.tup _), .list => some false | .val (.int _), .list => some false | .val .non, .list => some false
  | _, _ => none
/-! ### names -/
def look (σ : Fr) (i : Nat) : Option R := match σ[i]? with
  | some (some (.val t)) => some (.val t)
  | some (some (.own ts)) => some (.bor ts)
  | some (some (.bor ts)) => some (.bor ts)
  | some (some (.lck ts)) => some (.bor ts)
  | _ => none
def put (σ : Fr) (i : Nat) (t : T) : Fr := σ.set i (some (.val t))
def puts (σ : Fr) : List Nat → List T → Option Fr
  | [], [] => some σ
  | i :: is, t :: ts => puts (put σ i t) is ts
  | _, _ => none
def bindTg (σ : Fr) (g : Tg) (t : T) : Option Fr := match g with
  | .one i => some (put σ i t)
  | .many is => match t with
    | .tup ts => puts σ is ts
    | _ => none
/-! ### the run -/
inductive SR where
  | stuck | next (σ : Fr) (s : Sto) | ret (r : R) (s : Sto) | retO (ts : List T) (s : Sto) | exc (c : Nat) (σ : Fr) (s : Sto)
  deriving Repr
structure Cf where
  cf : Nat → List R → Sto → Res R
  /-- a class under a class -/
  sub : Nat → Nat → Bool
  /-- a def that hands back a list that nobody else has -/
  fr : Nat → Bool
  wl : (Fr → Sto → Res Bool) → (Fr → Sto → SR) → Fr → Sto → SR
def consO : Option T → List T → List T
  | some x, q => x :: q
  | none, q => q
@[simp] theorem consO_some (x : T) (q : List T) : consO (some x) q = x :: q := rfl
@[simp] theorem consO_none (q : List T) : consO none q = q := rfl
def mapRes (f : T → Sto → Res (Option T)) : List T → Sto → Res (List T)
  | [], s => .ok [] s
  | t :: ts, s => (f t s).bind fun r s1 => (mapRes f ts s1).bind fun q s2 => .ok (consO r q) s2
def rangeT (i j : Int) : List T := (List.range (j - i).toNat).map fun (k : Nat) => T.int (i + k)
def bnd (i : Int) : Bool := decide (-(2 ^ 62) ≤ i) && decide (i < 2 ^ 62)
/-- what is wanted of an expression: its value, its truth, its items -/
inductive Md where | v | t | i | j
def R.sq3 : R → Option (List T)
  | .val (.lst ts) => some ts
  | .val (.tup ts) => some ts
  | _ => none
def fin (m : Md) (r : Res R) : Res R := match m with
  | .v => r
  | .t => r.bind fun x s => .of ((tru x).map fun k => .val (.bl k)) s
  | .i => r.bind fun x s => .of (x.sq2.map fun ts => .val (.lst ts)) s
  | .j => r.bind fun x s => .of (x.sq3.map fun ts => .val (.lst ts)) s
@[simp] theorem fin_v (r : Res R) : fin .v r = r := rfl
@[simp] theorem fin_t (r : Res R) : fin .t r = r.bind fun x s => .of ((tru x).map fun k => .val (.bl k)) s := rfl
@[simp] theorem fin_j (r : Res R) : fin .j r = r.bind fun x s => .of (x.sq3.map fun ts => .val (.lst ts)) s := rfl
@[simp] theorem fin_i (r : Res R) : fin .i r = r.bind fun x s => .of (x.sq2.map fun ts => .val (.lst ts)) s := rfl
def onB (x : R) (a b : Res R) : Res R := match x with
  | .val (.bl true) => a
  | .val (.bl false) => b
  | _ => .stuck
def onI (x : R) (f : Int → Res R) : Res R := match x with
  | .val (.int i) => f i
  | _ => .stuck
def onL (x : R) (f : List T → Res R) : Res R := match x with
  | .val (.lst ts) => f ts
  | _ => .stuck
def onV (x : R) (f : T → Res (List T)) : Res (List T) := match x with
  | .val t => f t
  | _ => .stuck
def one (m : Res R) : Res (Option T) := match m with
  | .ok r s => .of (r.val?.map some) s
  | _ => .stuck
def onO {α β : Type} (o : Option α) (f : α → Res β) : Res β := match o with
  | some a => f a
  | none => .stuck
def rngM (m : Md) (r : Res R) : Res R := match m with | .i => r | .j => r | _ => .stuck
mutual
def ev (C : Cf) : E → Md → Fr → Sto → Res R
  | .var i, m, σ, s => fin m (.of (look σ i) s)
  | .cst t, m, _, s => fin m (.ok (.val t) s)
  | .glb _ i, m, _, s => fin m (.ok (.val (.int i)) s)
  | .bin o a b, m, σ, s => fin m ((ev C a .v σ s).bind fun x s1 => (ev C b .v σ s1).bind fun y s2 => .of (opR o x y) s2)
  | .neg a, m, σ, s => fin m ((ev C a .v σ s).bind fun x s1 => .of (x.int?.map fun i => .val (.int (-i))) s1)
  | .not a, .t, σ, s => (ev C a .t σ s).bind fun x s1 => onB x (.ok (.val (.bl false)) s1) (.ok (.val (.bl true)) s1)
  | .not a, m, σ, s => fin m ((ev C a .v σ s).bind fun x s1 => .of ((tru x).map fun k => .val (.bl (!k))) s1)
  | .cmp c a b, m, σ, s => fin m ((ev C a .v σ s).bind fun x s1 => (ev C b .v σ s1).bind fun y s2 => .of ((cmpR c x y).map fun k => .val (.bl k)) s2)
  | .and a b, .t, σ, s => (ev C a .t σ s).bind fun x s1 => onB x (ev C b .t σ s1) (.ok (.val (.bl false)) s1)
  | .or a b, .t, σ, s => (ev C a .t σ s).bind fun x s1 => onB x (.ok (.val (.bl true)) s1) (ev C b .t σ s1)
  | .and a b, m, σ, s => fin m ((ev C a .v σ s).bind fun x s1 => onB x (ev C b .v σ s1) (.ok (.val (.bl false)) s1))
  | .or a b, m, σ, s => fin m ((ev C a .v σ s).bind fun x s1 => onB x (.ok (.val (.bl true)) s1) (ev C b .v σ s1))
  | .ife c a b, m, σ, s => fin m ((ev C c .t σ s).bind fun x s1 => onB x (ev C a .v σ s1) (ev C b .v σ s1))
  | .tup es, m, σ, s => fin m ((evs C es σ s).bind fun ts s1 => .ok (.val (.tup ts)) s1)
  | .lst es, m, σ, s => fin m ((evs C es σ s).bind fun ts s1 => .ok (.val (.lst ts)) s1)
  | .sub a b, m, σ, s => fin m ((ev C a .v σ s).bind fun x s1 => (ev C b .v σ s1).bind fun y s2 => onI y fun i => .of ((subR x i).map .val) s2)
  | .cutL a l, m, σ, s => fin m ((ev C a .v σ s).bind fun x s1 => (ev C l .v σ s1).bind fun y s2 => onI y fun i => .of (cutR x (some i) none) s2)
  | .cutU a h, m, σ, s => fin m ((ev C a .v σ s).bind fun x s1 => (ev C h .v σ s1).bind fun y s2 => onI y fun i => .of (cutR x none (some i)) s2)
  | .cutLU a l h, m, σ, s => fin m ((ev C a .v σ s).bind fun x s1 => (ev C l .v σ s1).bind fun y s2 => onI y fun i => (ev C h .v σ s2).bind fun z s3 => onI z fun j => .of (cutR x (some i) (some j)) s3)
  | .rev a, m, σ, s => fin m ((ev C a .v σ s).bind fun x s1 => .of (x.seq.map fun ts => .val (.lst ts.reverse)) s1)
  | .b1 f a, m, σ, s => fin m ((ev C a .v σ s).bind fun x s1 => .of (b1R f x) s1)
  | .mn2 a b, m, σ, s => fin m ((ev C a .v σ s).bind fun x s1 => (ev C b .v σ s1).bind fun y s2 => .of (do let i ← x.int?; let j ← y.int?; some (.val (.int (if j < i then j else i)))) s2)
  | .mx2 a b, m, σ, s => fin m ((ev C a .v σ s).bind fun x s1 => (ev C b .v σ s1).bind fun y s2 => .of (do let i ← x.int?; let j ← y.int?; some (.val (.int (if j > i then j else i)))) s2)
  | .mxd a d, m, σ, s => fin m ((ev C a .v σ s).bind fun x s1 => (ev C d .v σ s1).bind fun y s2 => .of (do let ts ← x.seq; let is ← asInts ts; let d ← y.int?; some (.val (.int ((maxI is).getD d)))) s2)
  | .mnd a d, m, σ, s => fin m ((ev C a .v σ s).bind fun x s1 => (ev C d .v σ s1).bind fun y s2 => .of (do let ts ← x.seq; let is ← asInts ts; let d ← y.int?; some (.val (.int ((minI is).getD d)))) s2)
  | .mnk a i k, m, σ, s => fin m ((ev C a .v σ s).bind fun x s1 => onO x.seq fun ts =>
      (mapRes (fun t s => one (ev C k .v (put σ i t) s)) ts s1).bind fun ks s2 => .of (do let is ← asTups ks; (minBy HT.lexLt (is.zip ts)).map .val) s2)
  | .sok _ _ _, _, _, _ => .stuck
  | .isi a c, m, σ, s => fin m ((ev C a .v σ s).bind fun x s1 => .of ((isiR x c).map fun k => .val (.bl k)) s1)
  | .call f es ds, m, σ, s => fin m ((evr C es σ s).bind fun rs s1 => C.cf f (rs ++ ds.map .val) s1)
  | .comp e g it, m, σ, s => fin m ((ev C it .i σ s).bind fun x s1 => onL x fun ts => (mapRes (fun t s => onO (bindTg σ g t) fun σ' => one (ev C e .v σ' s)) ts s1).bind fun q s2 => .ok (.val (.lst q)) s2)
  | .compIf e g it c, m, σ, s => fin m ((ev C it .i σ s).bind fun x s1 => onL x fun ts => (mapRes (fun t s => onO (bindTg σ g t) fun σ' =>
      match ev C c .t σ' s with
      | .ok (.val (.bl true)) s2 => one (ev C e .v σ' s2)
      | .ok (.val (.bl false)) s2 => .ok none s2
      | _ => .stuck) ts s1).bind fun q s2 => .ok (.val (.lst q)) s2)
  | .rng1 a, m, σ, s => rngM m ((ev C a .v σ s).bind fun x s1 => onI x fun j => if bnd j && decide (j ≤ lim) then .ok (.val (.lst (rangeT 0 j))) s1 else .stuck)
  | .rng2 a b, m, σ, s => rngM m ((ev C a .v σ s).bind fun x s1 => onI x fun i => (ev C b .v σ s1).bind fun y s2 => onI y fun j => if bnd i && bnd j && decide (j - i ≤ lim) then .ok (.val (.lst (rangeT i j))) s2 else .stuck)
  | .enm _, _, _, _ => .stuck
  | .zip _ _, _, _, _ => .stuck
/-- each a value for good -/
def evs (C : Cf) : List E → Fr → Sto → Res (List T)
  | [], _, s => .ok [] s
  | e :: es, σ, s => (ev C e .v σ s).bind fun x s1 => onV x fun t => (evs C es σ s1).bind fun ts s2 => .ok (t :: ts) s2
/-- arguments -/
def evr (C : Cf) : List E → Fr → Sto → Res (List R)
  | [], _, s => .ok [] s
  | e :: es, σ, s => (ev C e .v σ s).bind fun x s1 => (evr C es σ s1).bind fun xs s2 => .ok (x :: xs) s2
end

def frz (σ : Fr) (i : Nat) : Fr := match σ[i]? with
  | some (some (.own ts)) => σ.set i (some (.val (.lst ts)))
  | _ => σ
def setOwn (σ : Fr) (i : Nat) (ts : List T) : Fr := σ.set i (some (.own ts))
def ownAt (σ : Fr) (i : Nat) : Option (List T) := match σ[i]? with
  | some (some (.own ts)) => some ts
  | _ => none
def R.sto (r : R) : Option T := r.val?
def Res.st (m : Res R) (σ : Fr) (k : R → Sto → SR) : SR := match m with
  | .stuck => .stuck
  | .ok a s => k a s
  | .exc c s => .exc c σ s
@[simp] theorem Res.st_ok (a : R) (s : Sto) (σ : Fr) (k : R → Sto → SR) : (Res.ok a s).st σ k = k a s := rfl
@[simp] theorem Res.st_exc (c : Nat) (s : Sto) (σ : Fr) (k : R → Sto → SR) : (Res.exc c s).st σ k = .exc c σ s := rfl
def SR.bind (m : SR) (k : Fr → Sto → SR) : SR := match m with
  | .next σ s => k σ s
  | r => r
@[simp] theorem SR.bind_next (σ : Fr) (s : Sto) (k : Fr → Sto → SR) : (SR.next σ s).bind k = k σ s := rfl
@[simp] theorem SR.bind_ret (r : R) (s : Sto) (k : Fr → Sto → SR) : (SR.ret r s).bind k = .ret r s := rfl
@[simp] theorem SR.bind_retO (ts : List T) (s : Sto) (k : Fr → Sto → SR) : (SR.retO ts s).bind k = .retO ts s := rfl
@[simp] theorem SR.bind_exc (c : Nat) (σ : Fr) (s : Sto) (k : Fr → Sto → SR) : (SR.exc c σ s).bind k = .exc c σ s := rfl
@[simp] theorem SR.bind_stuck (k : Fr → Sto → SR) : SR.stuck.bind k = .stuck := rfl
def onS {α : Type} (o : Option α) (f : α → SR) : SR := match o with
  | some a => f a
  | none => .stuck
@[simp] theorem onS_some {α : Type} (a : α) (f : α → SR) : onS (some a) f = f a := rfl
@[simp] theorem onS_none {α : Type} (f : α → SR) : onS none f = .stuck := rfl
def onBS (x : R) (a b : SR) : SR := match x with
  | .val (.bl true) => a
  | .val (.bl false) => b
  | _ => .stuck
def R.lst? : R → Option (List T)
  | .val (.lst ts) => some ts
  | _ => none
def forL (g : Tg) (body : Fr → Sto → SR) : List T → Fr → Sto → SR
  | [], σ, s => .next σ s
  | t :: ts, σ, s => onS (bindTg σ g t) fun σ' => (body σ' s).bind fun σ2 s2 => forL g body ts σ2 s2
/-- a name's own list may not be changed while a loop walks it -/
def lock (σ : Fr) (i : Nat) : Fr := match σ[i]? with
  | some (some (.own ts)) => σ.set i (some (.lck ts))
  | _ => σ
def unlock (σ : Fr) (i : Nat) : Fr := match σ[i]? with
  | some (some (.lck ts)) => σ.set i (some (.own ts))
  | _ => σ
def SR.unlock (r : SR) (i : Nat) : SR := match r with
  | .next σ s => .next (IP.unlock σ i) s
  | .exc c σ s => .exc c (IP.unlock σ i) s
  | r => r
def isOwn (σ : Fr) (i : Nat) : Bool := match σ[i]? with
  | some (some (.own _)) => true
  | _ => false
/-- an expression that gives a list of its own -/
def freshE (C : Cf) : E → Bool
  | .lst _ => true | .comp _ _ _ => true | .compIf _ _ _ _ => true | .b1 .list _ => true | .rev _ => true | .bin .add _ _ => true | .call f _ _ => C.fr f | _ => false
mutual
def ex (C : Cf) : S → Fr → Sto → SR
  | .asg i e, σ, s => (ev C e .v σ s).st σ fun x s1 => onS x.val? fun t => .next (put σ i t) s1
  | .asgT is e, σ, s => (ev C e .v σ s).st σ fun x s1 => match x with
    | .val (.tup ts) => onS (puts σ is ts) fun σ' => .next σ' s1
    | _ => .stuck
  | .mk i e, σ, s => if freshE C e then (ev C e .v σ s).st σ fun x s1 => onS x.lst? fun ts => .next (setOwn σ i ts) s1 else .stuck
  | .app i e, σ, s => onS (ownAt σ i) fun ts => (ev C e .v σ s).st σ fun x s1 => onS x.val? fun t => if ts.length < lim then .next (setOwn σ i (ts ++ [t])) s1 else .stuck
  | .ext i e, σ, s => onS (ownAt σ i) fun ts => (ev C e .v σ s).st σ fun x s1 => onS x.lst? fun us => if ts.length + us.length ≤ lim then .next (setOwn σ i (ts ++ us)) s1 else .stuck
  | .put i j e, σ, s => onS (ownAt σ i) fun ts => (ev C e .v σ s).st σ fun x s1 => onS x.val? fun t => (ev C j .v σ s1).st σ fun y s2 => onS y.int? fun k => onS (L2.ixN ts.length k) fun n => .next (setOwn σ i (ts.set n t)) s2
  | .pop k i, σ, s => onS (ownAt σ i) fun ts => onS ts.getLast? fun t => .next (put (setOwn σ i ts.dropLast) k t) s
  | .frz i, σ, s => .next (frz σ i) s
  | .ifs c a b, σ, s => (ev C c .t σ s).st σ fun x s1 => onBS x (exs C a σ s1) (exs C b σ s1)
  | .whl c b, σ, s => C.wl (fun σ s => (ev C c .t σ s).bind fun x s1 => .of (match x with | .val (.bl k) => some k | _ => none) s1) (fun σ s => exs C b σ s) σ s
  | .for_ g it b, σ, s => match it with
    | .var i => (ev C (.var i) .i σ s).st σ fun x s1 => onS x.lst? fun ts => if isOwn σ i then (forL g (fun σ s => exs C b σ s) ts (lock σ i) s1).unlock i else forL g (fun σ s => exs C b σ s) ts σ s1
    | it => (ev C it .j σ s).st σ fun x s1 => onS x.lst? fun ts => forL g (fun σ s => exs C b σ s) ts σ s1
  | .ret e, σ, s => (ev C e .v σ s).st σ fun x s1 => .ret x s1
  | .retO e, σ, s => if freshE C e then (ev C e .v σ s).st σ fun x s1 => onS x.lst? fun ts => .retO ts s1 else .stuck
  | .retV i, σ, s => onS (ownAt σ i) fun ts => .retO ts s
  | .exp e, σ, s => (ev C e .v σ s).st σ fun _ s1 => .next σ s1
  | .raise c, σ, s => .exc c σ s
  | .try_ b c nm h, σ, s => match exs C b σ s with
    | .exc d σ1 s1 => if C.sub d c then (match nm with
        | none => exs C h σ1 s1
        | some i => (exs C h (put σ1 i (.exc d)) s1).bind fun σ2 s2 => .next (σ2.set i none) s2) else .exc d σ1 s1
    | r => r
  | .pass, σ, s => .next σ s
def exs (C : Cf) : List S → Fr → Sto → SR
  | [], σ, s => .next σ s
  | a :: r, σ, s => (ex C a σ s).bind fun σ1 s1 => exs C r σ1 s1
end
/-- a def: how many names (parameters first), its body; does it hand back a list that nobody else has -/
structure Fn where
  pars : Nat
  size : Nat
  fr : Bool
  body : List S
def ofR : R → B
  | .val t => .val t
  | .bor ts => .bor ts
def enter (F : Fn) (rs : List R) : Fr := rs.map (fun r => some (ofR r)) ++ List.replicate (F.size - rs.length) none
/-- x: exceptions may leave a def -/
def leave (x fr : Bool) : SR → Res R
  | .ret r s => if fr then .stuck else .ok r s
  | .retO ts s => if fr then .ok (.val (.lst ts)) s else .stuck
  | .next _ s => if fr then .stuck else .ok (.val .non) s
  | .exc c _ s => if x then .exc c s else .stuck
  | .stuck => .stuck
def whileN (c : Fr → Sto → Res Bool) (b : Fr → Sto → SR) : Nat → Fr → Sto → SR
  | 0, _, _ => .stuck
  | n + 1, σ, s => match c σ s with
    | .stuck => .stuck
    | .exc d s1 => .exc d σ s1
    | .ok false s1 => .next σ s1
    | .ok true s1 => (b σ s1).bind fun σ2 s2 => whileN c b n σ2 s2
open Classical in
noncomputable def whileL (c : Fr → Sto → Res Bool) (b : Fr → Sto → SR) (σ : Fr) (s : Sto) : SR :=
  if h : ∃ n, whileN c b n σ s ≠ .stuck then whileN c b (choose h) σ s else .stuck
/-- a call, k calls deep at most -/
def frOf (fs : List Fn) (f : Nat) : Bool := match fs[f]? with
  | some F => F.fr
  | none => false
def run (x : Bool) (fs : List Fn) (sub : Nat → Nat → Bool) (wl : (Fr → Sto → Res Bool) → (Fr → Sto → SR) → Fr → Sto → SR) : Nat → Nat → List R → Sto → Res R
  | 0, _, _, _ => .stuck
  | k + 1, f, rs, s => match fs[f]? with
    | none => .stuck
    | some F => if rs.length = F.pars then leave x F.fr (exs ⟨run x fs sub wl k, sub, frOf fs, wl⟩ F.body (enter F rs) s) else .stuck
end IP

end
section
set_option Elab.async false
set_option linter.all false
set_option maxRecDepth 100000
/-! how plain data stand in the abstract heap -/
namespace IP
open PySem L2

/-- what is fixed: the text's objects, the classes' addresses, the names of an instance's fields -/
structure Gx where
  K : PySem.W.Frag
  cA : Nat → Addr
  nm : Nat → List Str
/-- the cells' addresses, the lists that nobody changes -/
structure Wo where
  n : Nat
  io : Nat → Addr
  Z : Addr → Prop
def errAt (a : Addr) (C : Addr) : Heap → Prop := fun h => ∃ o, h.get? a = some o ∧ o.cls = .ref C
section
variable (G : Gx)
mutual
def Rep (w : Wo) (H : Hp) : T → V → Prop
  | .non, v => v = .non
  | .bl b, v => v = .bl b
  | .int i, v => v = .int i
  | .str x, v => v = .str x
  | .tup ts, v => ∃ a vs, v = .ref a ∧ H a = some (.tup vs) ∧ Reps w H ts vs
  | .lst ts, v => ∃ a vs, v = .ref a ∧ w.Z a ∧ Rd H a (.lst vs) ∧ Reps w H ts vs
  | .loc l, v => l < w.n ∧ v = .ref (w.io l)
  | .exc c, v => ∃ a, v = .ref a ∧ H a = some (.ext (errAt a (G.cA c)))
def Reps (w : Wo) (H : Hp) : List T → List V → Prop
  | [], vs => vs = []
  | t :: ts, vs => ∃ v r, vs = v :: r ∧ Rep w H t v ∧ Reps w H ts r
end
end
def notLoc (w : Wo) (a : Addr) : Prop := ∀ l, l < w.n → a ≠ w.io l
/-- behind an expression: what is no cell stays -/
structure Le (w w' : Wo) (H H' : Hp) : Prop where
  n : w.n ≤ w'.n
  io : ∀ l, l < w.n → w'.io l = w.io l
  Z : ∀ a, w.Z a → w'.Z a
  keep : ∀ a o, H a = some o → notLoc w a → H' a = some o
  newL : ∀ l, w.n ≤ l → l < w'.n → H (w'.io l) = none
  newZ : ∀ a, w'.Z a → w.Z a ∨ H a = none
  some_ : ∀ a, H a ≠ none → H' a ≠ none
theorem Le.refl (w : Wo) (H : Hp) : Le w w H H := ⟨Nat.le_refl _, fun _ _ => rfl, fun _ z => z, fun _ _ e _ => e, fun l a b => absurd (Nat.lt_of_lt_of_le b a) (Nat.lt_irrefl _), fun _ z => .inl z, fun _ z => z⟩
theorem Le.trans {w w1 w2 : Wo} {H H1 H2 : Hp} (a : Le w w1 H H1) (b : Le w1 w2 H1 H2) : Le w w2 H H2 where
  n := Nat.le_trans a.n b.n
  io := fun l h => (b.io l (Nat.lt_of_lt_of_le h a.n)).trans (a.io l h)
  Z := fun x z => b.Z x (a.Z x z)
  keep := fun x o e nl => b.keep x o (a.keep x o e nl) fun l hl q => by
    by_cases h : l < w.n
    · exact nl l h (q.trans (a.io l h))
    · have := a.newL l (Nat.le_of_not_lt h) hl
      rw [← q, e] at this
      cases this
  newL := fun l h1 h2 => by
    by_cases h : l < w1.n
    · rw [b.io l h]
      exact a.newL l h1 h
    · have q := b.newL l (Nat.le_of_not_lt h) h2
      cases e : H (w2.io l) with
      | none => rfl
      | some o => exact absurd q (a.some_ _ (by rw [e]; intro z; cases z))
  newZ := fun x z => by
    rcases b.newZ x z with z | z
    · exact a.newZ x z
    · refine .inr ?_
      cases e : H x with
      | none => rfl
      | some o => exact absurd z (a.some_ x (by rw [e]; intro q; cases q))
  some_ := fun x z => b.some_ x (a.some_ x z)
section
variable {G : Gx}
def CellOk (G : Gx) (w : Wo) (H : Hp) (a : Addr) : Cell → Prop
  | .lst ts => ∃ vs, H a = some (.lst vs) ∧ Reps G w H ts vs
  | .ins c fs => ∃ dx kvs, H a = some (.ins (G.cA c) dx kvs) ∧ kvs.length ≤ fs.length ∧ ∀ (i : Nat) (x : Str) (t : T), (G.nm c)[i]? = some x → fs[i]? = some (some t) → ∃ v, kvs.lookup x = some v ∧ Rep G w H t v
structure StoOk (G : Gx) (w : Wo) (H : Hp) (s : Sto) : Prop where
  len : s.length = w.n
  inj : ∀ l m, l < w.n → m < w.n → w.io l = w.io m → l = m
  nz : ∀ l, l < w.n → ¬ w.Z (w.io l)
  cell : ∀ l c, s[l]? = some c → CellOk G w H (w.io l) c
  zt : ∀ a, w.Z a → ∃ vs, Rd H a (.lst vs)
theorem StoOk.loc {w : Wo} {H : Hp} {s : Sto} (S : StoOk G w H s) {l : Nat} (h : l < w.n) : (∃ vs, H (w.io l) = some (.lst vs)) ∨ ∃ c dx kvs, H (w.io l) = some (.ins c dx kvs) := by
  have hl : l < s.length := by rw [S.len]; exact h
  have q := S.cell l s[l] (List.getElem?_eq_getElem hl)
  cases e : s[l] with
  | lst ts => rw [e] at q; obtain ⟨vs, q, _⟩ := q; exact .inl ⟨vs, q⟩
  | ins c fs => rw [e] at q; obtain ⟨dx, kvs, q, _⟩ := q; exact .inr ⟨_, dx, kvs, q⟩
/-- what is neither a list nor an instance is no cell -/
theorem StoOk.notLoc {w : Wo} {H : Hp} {s : Sto} (S : StoOk G w H s) {a : Addr} {o : HO} (e : H a = some o) (h1 : ∀ vs, o ≠ .lst vs) (h2 : ∀ c dx kvs, o ≠ .ins c dx kvs) : IP.notLoc w a := fun l hl q => by
  subst q
  rcases S.loc hl with ⟨vs, z⟩ | ⟨c, dx, kvs, z⟩
  · rw [e] at z; exact h1 vs (Option.some.inj z)
  · rw [e] at z; exact h2 c dx kvs (Option.some.inj z)
theorem StoOk.zLoc {w : Wo} {H : Hp} {s : Sto} (S : StoOk G w H s) {a : Addr} (z : w.Z a) : IP.notLoc w a := fun l hl q => S.nz l hl (q ▸ z)
theorem StoOk.fresh {w : Wo} {H : Hp} {s : Sto} (S : StoOk G w H s) {a : Addr} (h : H a = none) : ¬ w.Z a ∧ IP.notLoc w a := by
  refine ⟨fun z => ?_, fun l hl q => ?_⟩
  · obtain ⟨vs, r | ⟨o, r⟩⟩ := S.zt a z
    · rw [h] at r; cases r
    · rw [h] at r; cases r
  · subst q
    rcases S.loc hl with ⟨vs, z⟩ | ⟨c, dx, kvs, z⟩ <;> (rw [h] at z; cases z)
theorem Rd.keep {w w' : Wo} {H H' : Hp} {a : Addr} {u : HO} (L : Le w w' H H') (nl : IP.notLoc w a) (r : Rd H a u) : Rd H' a u := by
  rcases r with r | ⟨o, r⟩
  · exact .inl (L.keep _ _ r nl)
  · exact .inr ⟨o, L.keep _ _ r nl⟩
mutual
theorem Rep.mono {w w' : Wo} {H H' : Hp} {s : Sto} (L : Le w w' H H') (S : StoOk G w H s) : ∀ (t : T) (v : V), Rep G w H t v → Rep G w' H' t v
  | .non, v, h => h
  | .bl b, v, h => h
  | .int i, v, h => h
  | .str x, v, h => h
  | .tup ts, v, ⟨a, vs, e, h, r⟩ => ⟨a, vs, e, L.keep _ _ h (S.notLoc h (fun _ z => by cases z) fun _ _ _ z => by cases z), Reps.mono L S ts vs r⟩
  | .lst ts, v, ⟨a, vs, e, z, h, r⟩ => ⟨a, vs, e, L.Z _ z, Rd.keep L (S.zLoc z) h, Reps.mono L S ts vs r⟩
  | .loc l, v, ⟨h, e⟩ => ⟨Nat.lt_of_lt_of_le h L.n, by rw [L.io l h]; exact e⟩
  | .exc c, v, ⟨a, e, h⟩ => ⟨a, e, L.keep _ _ h (S.notLoc h (fun _ z => by cases z) fun _ _ _ z => by cases z)⟩
theorem Reps.mono {w w' : Wo} {H H' : Hp} {s : Sto} (L : Le w w' H H') (S : StoOk G w H s) : ∀ (ts : List T) (vs : List V), Reps G w H ts vs → Reps G w' H' ts vs
  | [], vs, h => h
  | t :: ts, vs, ⟨v, r, e, h, q⟩ => ⟨v, r, e, Rep.mono L S t v h, Reps.mono L S ts r q⟩
end
theorem Reps.length {w : Wo} {H : Hp} : ∀ {ts : List T} {vs : List V}, Reps G w H ts vs → ts.length = vs.length
  | [], _, h => by rw [h]; rfl
  | t :: ts, _, ⟨v, r, e, _, q⟩ => by subst e; simp [Reps.length q]
theorem Reps.get {w : Wo} {H : Hp} : ∀ {ts : List T} {vs : List V} {i : Nat} {t : T}, Reps G w H ts vs → ts[i]? = some t → ∃ v, vs[i]? = some v ∧ Rep G w H t v
  | [], _, i, t, h, e => by simp at e
  | t :: ts, _, 0, u, ⟨v, r, e, h, q⟩, z => by subst e; simp at z; subst z; exact ⟨v, rfl, h⟩
  | t :: ts, _, i + 1, u, ⟨v, r, e, h, q⟩, z => by
    subst e
    obtain ⟨x, h1, h2⟩ := Reps.get q (i := i) (t := u) (by simpa using z)
    exact ⟨x, by simpa using h1, h2⟩
theorem Reps.get' {w : Wo} {H : Hp} {ts : List T} {vs : List V} {i : Nat} {v : V} (h : Reps G w H ts vs) (e : vs[i]? = some v) : ∃ t, ts[i]? = some t ∧ Rep G w H t v := by
  have hi : i < ts.length := by
    rw [h.length]
    exact (List.getElem?_eq_some_iff.mp e).1
  obtain ⟨u, h1, h2⟩ := h.get (List.getElem?_eq_getElem hi)
  rw [e] at h1
  cases h1
  exact ⟨_, List.getElem?_eq_getElem hi, h2⟩
theorem Reps.append {w : Wo} {H : Hp} : ∀ {ts us : List T} {vs ws : List V}, Reps G w H ts vs → Reps G w H us ws → Reps G w H (ts ++ us) (vs ++ ws)
  | [], us, _, ws, h, q => by rw [h]; exact q
  | t :: ts, us, _, ws, ⟨v, r, e, h, k⟩, q => by subst e; exact ⟨v, r ++ ws, rfl, h, Reps.append k q⟩
theorem Reps.set {w : Wo} {H : Hp} {t : T} {v : V} (rv : Rep G w H t v) : ∀ {ts : List T} {vs : List V} (i : Nat), Reps G w H ts vs → Reps G w H (ts.set i t) (vs.set i v)
  | [], _, i, h => by rw [h]; exact rfl
  | x :: ts, _, 0, ⟨y, r, e, h, k⟩ => by subst e; exact ⟨v, r, rfl, rv, k⟩
  | x :: ts, _, i + 1, ⟨y, r, e, h, k⟩ => by subst e; exact ⟨y, r.set i v, rfl, h, Reps.set rv i k⟩
theorem Reps.drop {w : Wo} {H : Hp} : ∀ {ts : List T} {vs : List V} (i : Nat), Reps G w H ts vs → Reps G w H (ts.drop i) (vs.drop i)
  | ts, vs, 0, h => h
  | [], _, i + 1, h => by rw [h]; exact rfl
  | x :: ts, _, i + 1, ⟨y, r, e, h, k⟩ => by subst e; exact Reps.drop i k
theorem Reps.take {w : Wo} {H : Hp} : ∀ {ts : List T} {vs : List V} (i : Nat), Reps G w H ts vs → Reps G w H (ts.take i) (vs.take i)
  | ts, vs, 0, h => by simp; exact rfl
  | [], _, i + 1, h => by rw [h]; exact rfl
  | x :: ts, _, i + 1, ⟨y, r, e, h, k⟩ => by subst e; exact ⟨y, r.take i, rfl, h, Reps.take i k⟩
theorem Reps.reverse {w : Wo} {H : Hp} : ∀ {ts : List T} {vs : List V}, Reps G w H ts vs → Reps G w H ts.reverse vs.reverse
  | [], _, h => by rw [h]; exact rfl
  | x :: ts, _, ⟨y, r, e, h, k⟩ => by
    subst e
    rw [List.reverse_cons, List.reverse_cons]
    exact Reps.append (Reps.reverse k) ⟨y, [], rfl, h, rfl⟩
theorem Reps.cut {w : Wo} {H : Hp} {ts : List T} {vs : List V} (h : Reps G w H ts vs) (lo hi : Option Int) : Reps G w H (cutT ts lo hi) (cutV vs lo hi) := by
  unfold cutT cutV
  rw [← h.length]
  exact (h.drop _).take _

/-- an expression's value -/
def RepR (G : Gx) (w : Wo) (H : Hp) : R → V → Prop
  | .val t, v => Rep G w H t v
  | .bor ts, v => ∃ a vs, v = .ref a ∧ H a = some (.lst vs) ∧ Reps G w H ts vs ∧ notLoc w a
theorem RepR.mono {w w' : Wo} {H H' : Hp} {s : Sto} (L : Le w w' H H') (S : StoOk G w H s) : ∀ {r : R} {v : V}, RepR G w H r v → RepR G w' H' r v
  | .val t, v, h => Rep.mono L S t v h
  | .bor ts, v, ⟨a, vs, e, h, r, nl⟩ => ⟨a, vs, e, L.keep _ _ h nl, Reps.mono L S ts vs r, fun l hl q => by
      by_cases k : l < w.n
      · exact nl l k (q.trans (L.io l k))
      · have := L.newL l (Nat.le_of_not_lt k) hl
        rw [← q, h] at this
        cases this⟩
def RepRs (G : Gx) (w : Wo) (H : Hp) : List R → List V → Prop
  | [], vs => vs = []
  | t :: ts, vs => ∃ v r, vs = v :: r ∧ RepR G w H t v ∧ RepRs G w H ts r
theorem RepRs.mono {w w' : Wo} {H H' : Hp} {s : Sto} (L : Le w w' H H') (S : StoOk G w H s) : ∀ {ts : List R} {vs : List V}, RepRs G w H ts vs → RepRs G w' H' ts vs
  | [], vs, h => h
  | t :: ts, vs, ⟨v, r, e, h, q⟩ => ⟨v, r, e, RepR.mono L S h, RepRs.mono L S q⟩
theorem RepRs.length {w : Wo} {H : Hp} : ∀ {ts : List R} {vs : List V}, RepRs G w H ts vs → ts.length = vs.length
  | [], _, h => by rw [h]; rfl
  | t :: ts, _, ⟨v, r, e, _, q⟩ => by subst e; simp [RepRs.length q]

/-- a list that belongs to the name -/
def ownL : B → Option (List T)
  | .own ts => some ts
  | .lck ts => some ts
  | _ => none
/-- the frame's names; H₀: the heap at the entry -/
structure FrOk (G : Gx) (w : Wo) (H H₀ : Hp) (σ : Fr) (σV : St) : Prop where
  len : σ.length = σV.length
  val : ∀ (i : Nat) (t : T), σ[i]? = some (some (.val t)) → ∃ v, σV[i]? = some (some v) ∧ Rep G w H t v
  own : ∀ (i : Nat) (b : B) (ts : List T), σ[i]? = some (some b) → ownL b = some ts → ∃ a vs, σV[i]? = some (some (.ref a)) ∧ H a = some (.lst vs) ∧ Reps G w H ts vs ∧ H₀ a = none ∧ ¬ w.Z a ∧ notLoc w a
  apart : ∀ (i j : Nat) (b c : B) (ts us : List T) (a : Addr), i ≠ j → σ[i]? = some (some b) → ownL b = some ts → σ[j]? = some (some c) → ownL c = some us → σV[i]? = some (some (.ref a)) → σV[j]? = some (some (.ref a)) → False
  bor : ∀ (i : Nat) (ts : List T), σ[i]? = some (some (.bor ts)) → ∃ a vs, σV[i]? = some (some (.ref a)) ∧ H a = some (.lst vs) ∧ Reps G w H ts vs ∧ H₀ a ≠ none ∧ notLoc w a
theorem notLoc.mono {w w' : Wo} {H H' : Hp} (L : Le w w' H H') {a : Addr} (h : H a ≠ none) (nl : notLoc w a) : notLoc w' a := fun l hl q => by
  by_cases k : l < w.n
  · exact nl l k (q.trans (L.io l k))
  · have := L.newL l (Nat.le_of_not_lt k) hl
    rw [← q] at this
    exact h this
theorem FrOk.mono {w w' : Wo} {H H' H₀ : Hp} {s : Sto} {σ : Fr} {σV : St} (L : Le w w' H H') (S : StoOk G w H s) (F : FrOk G w H H₀ σ σV) : FrOk G w' H' H₀ σ σV where
  len := F.len
  val := fun i t e => let ⟨v, h1, h2⟩ := F.val i t e; ⟨v, h1, Rep.mono L S t v h2⟩
  own := fun i b ts e eb => by
    obtain ⟨a, vs, h1, h2, h3, h4, h5, h6⟩ := F.own i b ts e eb
    have hn : H a ≠ none := by rw [h2]; intro z; cases z
    refine ⟨a, vs, h1, L.keep _ _ h2 h6, Reps.mono L S ts vs h3, h4, fun z => ?_, notLoc.mono L hn h6⟩
    rcases L.newZ a z with z | z
    · exact h5 z
    · exact hn z
  apart := F.apart
  bor := fun i ts e => by
    obtain ⟨a, vs, h1, h2, h3, h4, h6⟩ := F.bor i ts e
    have hn : H a ≠ none := by rw [h2]; intro z; cases z
    exact ⟨a, vs, h1, L.keep _ _ h2 h6, Reps.mono L S ts vs h3, h4, notLoc.mono L hn h6⟩
/-- all of it: at a place in a body -/
structure Good (G : Gx) (w₀ : Wo) (H₀ : Hp) (w : Wo) (H : Hp) (σ : Fr) (s : Sto) (σV : St) : Prop where
  sto : StoOk G w H s
  fr : FrOk G w H H₀ σ σV
  ent : Le w₀ w H₀ H
theorem Good.step {w₀ w w' : Wo} {H₀ H H' : Hp} {σ : Fr} {s s' : Sto} {σV : St} (g : Good G w₀ H₀ w H σ s σV) (L : Le w w' H H') (S : StoOk G w' H' s') : Good G w₀ H₀ w' H' σ s' σV := ⟨S, g.fr.mono L g.sto, g.ent.trans L⟩
end
end IP

end
section
set_option Elab.async false
set_option linter.all false
set_option maxRecDepth 100000
namespace IP
open PySem PySem.Spec L2
/-! ### exceptions in flight -/
/-- how a heap with an exception in it lies over the heap h without it: B is h but for the frames -/
structure Flt (stack : List Env) (h B : Heap) (e : Addr) (sh : Heap) : Prop where
  cov : ∀ b o, B.get? b = some o ↔ h.get? b = some o ∧ b ∉ frs stack
  keep : ∀ b o, h.get? b = some o → b ∉ frs stack → sh.get? b = some o
  slot : ∀ b o, h.get? b = some o → b ∈ frs stack → ∃ sl, sh.get? b = some { o with slots := sl }
  new : h.get? e = none
/-- an exception of the class c, anywhere on its way through the frame of X -/
def Thrown (G : Gx) (X : Cx) (pins : List (Addr × Obj)) (σV : St) (H : Hp) (c : Nat) (u : Value) (sh : Shared) : Prop :=
  ∃ (e : Addr) (h B : Heap), u = .ref e ∧ Inv X pins σV H { sh with heap := h } ∧ Flt X.stack h B e sh.heap ∧ X.base.StaysIn B ∧
    ((∃ args, Heap.MadeExcOf h sh.heap e (.ref (G.cA c)) args) ∨ (∃ t, Heap.FlyingW B X.stack e (.ref (G.cA c)) t sh.heap) ∨
     ∃ t L, X.env.frame = some L ∧ Heap.HeldW B X.stack e (.ref (G.cA c)) t L sh.heap)
def Want (G : Gx) (X : Cx) (σV : St) (w : Wo) (H : Hp) (res : Res R) (Q : VK) : Prop := match res with
  | .stuck => False
  | .ok r s' => ∀ w' H' v, Le w w' H H' → StoOk G w' H' s' → RepR G w' H' r v → Q v H'
  | .exc c s' => ∀ w' H' pins u sh, Le w w' H H' → StoOk G w' H' s' → Thrown G X pins σV H' c u sh → X.xe u sh
section
variable {G : Gx} {X : Cx} {σV : St} {w w₀ : Wo} {H H₀ : Hp} {Q Q' : VK}
theorem Want.imp {res : Res R} (h : Want G X σV w H res Q) (q : ∀ v H', Q v H' → Q' v H') : Want G X σV w H res Q' := by
  cases res with
  | stuck => exact h
  | ok r s => exact fun w' H' v a b c => q _ _ (h w' H' v a b c)
  | exc c s => exact h
theorem Want.mono {res : Res R} {w1 : Wo} {H1 : Hp} (L : Le w w1 H H1) (h : Want G X σV w H res Q) : Want G X σV w1 H1 res Q := by
  cases res with
  | stuck => exact h
  | ok r s => exact fun w' H' v a b c => h w' H' v (L.trans a) b c
  | exc c s => exact fun w' H' pins u sh a b => h w' H' pins u sh (L.trans a) b
theorem Want.bind {m : Res R} {k : R → Sto → Res R} (h : Want G X σV w H (m.bind k) Q) :
    Want G X σV w H m fun v H1 => ∃ w1 r s1, Le w w1 H H1 ∧ StoOk G w1 H1 s1 ∧ RepR G w1 H1 r v ∧ Want G X σV w1 H1 (k r s1) Q := by
  cases m with
  | stuck => exact h
  | ok r s => exact fun w' H' v a b c => ⟨w', r, s, a, b, c, Want.mono a h⟩
  | exc c s => exact h
theorem Want.of {o : Option R} {s : Sto} (h : Want G X σV w H (Res.of o s) Q) : ∃ r, o = some r ∧ ∀ w' H' v, Le w w' H H' → StoOk G w' H' s → RepR G w' H' r v → Q v H' := by
  cases o with
  | none => exact h.elim
  | some r => exact ⟨r, rfl, h⟩
theorem PE.imp {e : Expr} {t t' : TE} (h : PE X e t) (q : ∀ σ H Q, t' σ H Q → t σ H Q) : PE X e t' := fun pins s σ H Q I z => h pins s σ H Q I (q _ _ _ z)
theorem PT.imp {e : Expr} {t t' : TT} (h : PT X e t) (q : ∀ σ H Q, t' σ H Q → t σ H Q) : PT X e t' := fun pins s σ H Q I z => h pins s σ H Q I (q _ _ _ z)
theorem PA.imp {e : List Expr} {t t' : TA} (h : PA X e t) (q : ∀ σ H Q, t' σ H Q → t σ H Q) : PA X e t' := fun pos pins s σ H Q I z => h pos pins s σ H Q I (q _ _ _ z)
/-- the readings -/
def tV (G : Gx) (X : Cx) (C : Cf) (e : E) : TE := fun σV H Q => ∃ w₀ H₀ w σ s, Good G w₀ H₀ w H σ s σV ∧ Want G X σV w H (ev C e .v σ s) Q
def tT (G : Gx) (X : Cx) (C : Cf) (e : E) : TT := fun σV H Q => ∃ w₀ H₀ w σ s, Good G w₀ H₀ w H σ s σV ∧ Want G X σV w H (ev C e .t σ s) fun v H' => ∃ k, v = .bl k ∧ Q k H'
/-! ### new objects -/
theorem ne_fresh {a p : Addr} {o : HO} (e : H a = some o) (hp : H p = none) : a ≠ p := fun q => by rw [q, hp] at e; cases e
theorem Le.new {p : Addr} (hp : H p = none) (o : HO) : Le w w H (upd H p o) where
  n := Nat.le_refl _
  io := fun _ _ => rfl
  Z := fun _ z => z
  keep := fun a u e _ => by rw [upd_ne (ne_fresh e hp)]; exact e
  newL := fun l a b => absurd (Nat.lt_of_lt_of_le b a) (Nat.lt_irrefl _)
  newZ := fun _ z => .inl z
  some_ := fun a z => by
    cases e : H a with
    | none => exact absurd e z
    | some u => rw [upd_ne (ne_fresh e hp), e]; intro q; cases q
def Wo.addZ (w : Wo) (p : Addr) : Wo := { w with Z := fun a => w.Z a ∨ a = p }
theorem Le.newZ_ {p : Addr} (hp : H p = none) (o : HO) : Le w (w.addZ p) H (upd H p o) where
  n := Nat.le_refl _
  io := fun _ _ => rfl
  Z := fun _ z => .inl z
  keep := (Le.new (w := w) hp o).keep
  newL := (Le.new (w := w) hp o).newL
  newZ := fun a z => z.elim .inl fun q => .inr (q ▸ hp)
  some_ := (Le.new (w := w) hp o).some_
theorem CellOk.mono {w' : Wo} {H' : Hp} {s : Sto} (L : Le w w' H H') (S : StoOk G w H s) {a : Addr} (e : H' a = H a) : ∀ {c : Cell}, CellOk G w H a c → CellOk G w' H' a c
  | .lst ts, ⟨vs, h, r⟩ => ⟨vs, e.trans h, Reps.mono L S ts vs r⟩
  | .ins c fs, ⟨dx, kvs, h, z, k⟩ => ⟨dx, kvs, e.trans h, z, fun i x t h1 h2 => let ⟨v, q1, q2⟩ := k i x t h1 h2; ⟨v, q1, Rep.mono L S t v q2⟩⟩
theorem StoOk.grow {w' : Wo} {H' : Hp} {s : Sto} (S : StoOk G w H s) (L : Le w w' H H') (hn : w'.n = w.n) (hl : ∀ l, l < w.n → H' (w.io l) = H (w.io l)) (hz : ∀ a, w'.Z a → ∃ vs, Rd H' a (.lst vs)) : StoOk G w' H' s where
  len := S.len.trans hn.symm
  inj := fun l m h1 h2 e => by
    rw [hn] at h1 h2
    rw [L.io l h1, L.io m h2] at e
    exact S.inj l m h1 h2 e
  nz := fun l h z => by
    rw [hn] at h
    rw [L.io l h] at z
    rcases L.newZ _ z with q | q
    · exact S.nz l h q
    · rcases S.loc h with ⟨vs, y⟩ | ⟨c, dx, kvs, y⟩ <;> (rw [q] at y; cases y)
  cell := fun l c e => by
    have h : l < w.n := by rw [← S.len]; exact (List.getElem?_eq_some_iff.mp e).1
    rw [L.io l h]
    exact CellOk.mono L S (hl l h) (S.cell l c e)
  zt := hz
theorem Rd.upd {a p : Addr} {u o : HO} (hp : H p = none) (r : Rd H a u) : Rd (upd H p o) a u := by
  rcases r with r | ⟨q, r⟩
  · exact .inl (by rw [upd_ne (ne_fresh r hp)]; exact r)
  · exact .inr ⟨q, by rw [upd_ne (ne_fresh r hp)]; exact r⟩
theorem StoOk.new {s : Sto} {p : Addr} (S : StoOk G w H s) (hp : H p = none) (o : HO) : StoOk G w (L2.upd H p o) s :=
  S.grow (Le.new hp o) rfl (fun l h => upd_ne ((S.fresh hp).2 l h).symm) fun a z => let ⟨vs, r⟩ := S.zt a z; ⟨vs, Rd.upd hp r⟩
theorem StoOk.newZ {s : Sto} {p : Addr} (S : StoOk G w H s) (hp : H p = none) (vs : List V) : StoOk G (w.addZ p) (L2.upd H p (.lst vs)) s :=
  S.grow (Le.newZ_ hp _) rfl (fun l h => upd_ne ((S.fresh hp).2 l h).symm) fun a z => z.elim (fun z => let ⟨vs, r⟩ := S.zt a z; ⟨vs, Rd.upd hp r⟩) fun q => ⟨vs, .inl (by rw [q]; exact upd_same)⟩
/-- a new tuple, a new list -/
theorem fin_tup {s : Sto} {ts : List T} {vs : List V} (S : StoOk G w H s) (r : Reps G w H ts vs) (h : ∀ w' H' v, Le w w' H H' → StoOk G w' H' s → RepR G w' H' (.val (.tup ts)) v → Q v H') (p : Addr) (hp : H p = none) : Q (.ref p) (L2.upd H p (.tup vs)) :=
  h w _ _ (Le.new hp _) (S.new hp _) ⟨p, vs, rfl, upd_same, Reps.mono (Le.new hp _) S ts vs r⟩
theorem fin_lst {s : Sto} {ts : List T} {vs : List V} (S : StoOk G w H s) (r : Reps G w H ts vs) (h : ∀ w' H' v, Le w w' H H' → StoOk G w' H' s → RepR G w' H' (.val (.lst ts)) v → Q v H') (p : Addr) (hp : H p = none) : Q (.ref p) (L2.upd H p (.lst vs)) :=
  h _ _ _ (Le.newZ_ hp _) (S.newZ hp vs) ⟨p, vs, rfl, .inr rfl, .inl upd_same, Reps.mono (Le.newZ_ hp _) S ts vs r⟩
/-- a new list that nobody else has -/
def WantO (G : Gx) (X : Cx) (σV : St) (w : Wo) (H : Hp) (res : Res R) (Q : VK) : Prop := match res with
  | .ok (.val (.lst ts)) s' => ∀ w' H' a vs, Le w w' H H' → StoOk G w' H' s' → H' a = some (.lst vs) → Reps G w' H' ts vs → H a = none → ¬ w'.Z a → notLoc w' a → Q (.ref a) H'
  | .exc c s' => ∀ w' H' pins u sh, Le w w' H H' → StoOk G w' H' s' → Thrown G X pins σV H' c u sh → X.xe u sh
  | _ => False
def tO (G : Gx) (X : Cx) (C : Cf) (e : E) : TE := fun σV H Q => ∃ w₀ H₀ w σ s, Good G w₀ H₀ w H σ s σV ∧ WantO G X σV w H (ev C e .v σ s) Q
theorem fin_own {s : Sto} {ts : List T} {vs : List V} (S : StoOk G w H s) (r : Reps G w H ts vs) (h : ∀ w' H' a vs, Le w w' H H' → StoOk G w' H' s → H' a = some (.lst vs) → Reps G w' H' ts vs → H a = none → ¬ w'.Z a → notLoc w' a → Q (.ref a) H') (p : Addr) (hp : H p = none) : Q (.ref p) (L2.upd H p (.lst vs)) :=
  h w _ p vs (Le.new hp _) (S.new hp _) upd_same (Reps.mono (Le.new hp _) S ts vs r) hp (S.fresh hp).1 (S.fresh hp).2
/-- a list or tuple that is read -/
theorem RepR.seq {s : Sto} {x : R} {v : V} {ts : List T} (r : RepR G w H x v) (e : x.seq = some ts) : ∃ a vs, v = .ref a ∧ Rd H a (.lst vs) ∧ Reps G w H ts vs := by
  match x, e with
  | .val (.lst us), e => obtain ⟨a, vs, e1, _, h, q⟩ := r; cases e; exact ⟨a, vs, e1, h, q⟩
  | .bor us, e => obtain ⟨a, vs, e1, h, q, _⟩ := r; cases e; exact ⟨a, vs, e1, .inl h, q⟩
theorem RepR.sq2 {x : R} {v : V} {ts : List T} (r : RepR G w H x v) (e : x.sq2 = some ts) : ∃ a vs, v = .ref a ∧ (Rd H a (.lst vs) ∨ H a = some (.tup vs)) ∧ Reps G w H ts vs := by
  match x, e with
  | .val (.lst us), e => obtain ⟨a, vs, e1, _, h, q⟩ := r; cases e; exact ⟨a, vs, e1, .inl h, q⟩
  | .val (.tup us), e => obtain ⟨a, vs, e1, h, q⟩ := r; cases e; exact ⟨a, vs, e1, .inr h, q⟩
  | .bor us, e => obtain ⟨a, vs, e1, h, q, _⟩ := r; cases e; exact ⟨a, vs, e1, .inl (.inl h), q⟩
theorem RepR.int {x : R} {v : V} {i : Int} (r : RepR G w H x v) (e : x.int? = some i) : v = .int i := by
  match x, e with
  | .val (.int j), e => cases e; exact r
end
end IP

end
section
set_option Elab.async false
set_option linter.all false
set_option maxRecDepth 100000
namespace IP
open PySem PySem.Spec L2
section
variable {G : Gx} {X : Cx} {C : Cf} {a b c : Expr} {a' b' c' : E} {pos : Pos}
theorem Rd.lst {pins : List (Addr × Obj)} {σ : St} {H : Hp} {s : Shared} {p : Addr} {xs : List V} (I : Inv X pins σ H s) (h : Rd H p (.lst xs)) :
    xs.length ≤ sizeLine ∧ ∃ (its : List Value) (n : Nat), Vals xs its ∧ xs.length = its.length ∧ s.heap.get? p = some { cls := .type "list", data := .seq its.toArray n } := by
  obtain ⟨z, its, n, r, e⟩ := Rd.ok h I.hok
  exact ⟨z, its, n, r, r.length, e⟩
/-! ### names, constants -/
theorem sV_var {i : Nat} {x : Str} (hN : X.N[i]? = some x) (hv : Vis X.env.scope x) (hd : (x == ("__debug__" : Str)) = false) (hcd : (x == ("__classdict__" : Str)) = false) : PE X (.Name x pos) (tV G X C (.var i)) := by
  refine PE.imp (pe_var hN hv hd hcd) ?_
  rintro σV H Q ⟨w₀, H₀, w, σ, s, g, h⟩
  obtain ⟨r, e, q⟩ := Want.of h
  unfold look at e
  split at e
  · rename_i t ht
    cases e
    obtain ⟨v, h1, h2⟩ := g.fr.val i t ht
    exact ⟨v, h1, q w H v (Le.refl _ _) g.sto h2⟩
  · rename_i ts ht
    cases e
    obtain ⟨p, vs, h1, h2, h3, _, _, h6⟩ := g.fr.own i _ ts ht rfl
    exact ⟨_, h1, q w H _ (Le.refl _ _) g.sto ⟨p, vs, rfl, h2, h3, h6⟩⟩
  · rename_i ts ht
    cases e
    obtain ⟨p, vs, h1, h2, h3, _, h6⟩ := g.fr.bor i ts ht
    exact ⟨_, h1, q w H _ (Le.refl _ _) g.sto ⟨p, vs, rfl, h2, h3, h6⟩⟩
  · rename_i ts ht
    cases e
    obtain ⟨p, vs, h1, h2, h3, _, _, h6⟩ := g.fr.own i _ ts ht rfl
    exact ⟨_, h1, q w H _ (Le.refl _ _) g.sto ⟨p, vs, rfl, h2, h3, h6⟩⟩
  · cases e
theorem tC_of {t : T} {v : V} (r : ∀ w H, Rep G w H t v) {σV : St} {H : Hp} {Q : VK} (h : tV G X C (.cst t) σV H Q) : tC v σV H Q := by
  obtain ⟨w₀, H₀, w, σ, s, g, h⟩ := h
  exact h w H v (Le.refl _ _) g.sto (r w H)
theorem sV_int {i j} : PE X (.Constant (.int i) j pos) (tV G X C (.cst (.int i))) := PE.imp pe_int fun _ _ _ h => tC_of (t := .int i) (v := .int i) (fun _ _ => rfl) h
theorem sV_bl {b j} : PE X (.Constant (.bool b) j pos) (tV G X C (.cst (.bl b))) := PE.imp pe_bl fun _ _ _ h => tC_of (t := .bl b) (v := .bl b) (fun _ _ => rfl) h
theorem sV_non {j} : PE X (.Constant .none j pos) (tV G X C (.cst .non)) := PE.imp pe_non fun _ _ _ h => tC_of (t := .non) (v := .non) (fun _ _ => rfl) h
/-! ### two operands -/
def r2 (G : Gx) (f : R → R → Option R) : R2 := fun x y H Q => ∃ w s rx ry r, StoOk G w H s ∧ RepR G w H rx x ∧ RepR G w H ry y ∧ f rx ry = some r ∧ ∀ w' H' v, Le w w' H H' → StoOk G w' H' s → RepR G w' H' r v → Q v H'
theorem t2_of {f : R → R → Option R} {σV : St} {H : Hp} {Q : VK} (h : ∃ w₀ H₀ w σ s, Good G w₀ H₀ w H σ s σV ∧ Want G X σV w H ((ev C a' .v σ s).bind fun x s1 => (ev C b' .v σ s1).bind fun y s2 => .of (f x y) s2) Q) :
    tOp (r2 G f) (tV G X C a') (tV G X C b') σV H Q := by
  obtain ⟨w₀, H₀, w, σ, s, g, h⟩ := h
  refine ⟨w₀, H₀, w, σ, s, g, (Want.bind h).imp ?_⟩
  rintro x H1 ⟨w1, r1, s1, L1, S1, R1, h1⟩
  refine ⟨w₀, H₀, w1, σ, s1, g.step L1 S1, (Want.bind h1).imp ?_⟩
  rintro y H2 ⟨w2, r2, s2, L2, S2, R2, h2⟩
  obtain ⟨r, e, q⟩ := Want.of h2
  exact ⟨w2, s2, r1, r2, r, S2, R1.mono L2 S1, R2, e, q⟩
theorem s2 {f : R → R → Option R} {op : Operator} (ho : OpR X (binaryOp op) (r2 G f)) (ha : PE X a (tV G X C a')) (hb : PE X b (tV G X C b')) {e : E} (he : ∀ σ s, ev C e .v σ s = (ev C a' .v σ s).bind fun x s1 => (ev C b' .v σ s1).bind fun y s2 => .of (f x y) s2) :
    PE X (.BinOp a op b pos) (tV G X C e) := by
  refine PE.imp (pe_op ho ha hb) fun σV H Q h => ?_
  obtain ⟨w₀, H₀, w, σ, s, g, h⟩ := h
  rw [he] at h
  exact t2_of ⟨w₀, H₀, w, σ, s, g, h⟩
theorem s2c {f : R → R → Option R} {op : CmpOp} (ho : OpR X (compareOp op) (r2 G f)) (ha : PE X a (tV G X C a')) (hb : PE X b (tV G X C b')) (hm : behindInMarks op b = false) {e : E} (he : ∀ σ s, ev C e .v σ s = (ev C a' .v σ s).bind fun x s1 => (ev C b' .v σ s1).bind fun y s2 => .of (f x y) s2) :
    PE X (.Compare a [op] [b] pos) (tV G X C e) := by
  refine PE.imp (pe_cmpR ho ha hb hm) fun σV H Q h => ?_
  obtain ⟨w₀, H₀, w, σ, s, g, h⟩ := h
  rw [he] at h
  exact t2_of ⟨w₀, H₀, w, σ, s, g, h⟩
/-! ints -/
theorem natAbs_log {j : Int} (h : j.natAbs < big) : j.natAbs.log2 < 1000 := by
  rcases Nat.eq_zero_or_pos j.natAbs with h0 | hp
  · rw [h0]; decide
  · refine (Nat.log2_lt (Nat.ne_of_gt hp)).mpr (Nat.lt_trans h ?_)
    unfold big
    decide +kernel
theorem bits_of {k : Int} (h : k.natAbs < big) : Builtin.Int.intBits k ≤ 1000 := by
  unfold Builtin.Int.intBits
  split
  · exact Nat.zero_le _
  · have := natAbs_log h
    omega
theorem mulB_ok {i j : Int} (h : mulB i j = true) : IntMulOk i j := by
  unfold mulB at h
  rw [Bool.or_eq_true, Bool.or_eq_true, Bool.and_eq_true, decide_eq_true_iff, decide_eq_true_iff, decide_eq_true_iff, decide_eq_true_iff] at h
  rcases h with (h | h) | ⟨h1, h2⟩
  · exact IntMulOk.of_left (intBits_le_64 (by omega) (by omega))
  · exact IntMulOk.of_right (intBits_le_64 (by omega) (by omega))
  · exact PyProof.Rows.mulOk_of_bits (bits_of h1) (bits_of h2) (by decide)
def opOf : Op → Operator
  | .add => .Add | .sub => .Sub | .mul => .Mult | .fdiv => .FloorDiv | .mod => .Mod | .pow => .Pow
theorem int_op (o : Op) (i j k : Int) (h : opI o i j = some k) : ∀ (t u : Tok) (s : Shared) (Q : Value → Shared → Prop) (E : Value → Shared → Prop), Q (.int k s.toks) { s with toks := s.toks + 1 } → wpAny (model X.prog X.w) X.A (binaryOp (opOf o) (.int i t) (.int j u)) Q E s := by
  intro t u s Q E q
  cases o with
  | add => cases h; exact PyProof.Rows.add_int q
  | sub => cases h; exact PyProof.Rows.sub_int q
  | mul =>
    simp only [opI] at h
    split at h
    · rename_i hm; cases h; exact PyProof.Rows.mul_int q (mulB_ok hm)
    · cases h
  | fdiv =>
    simp only [opI] at h
    split at h
    · rename_i hm; cases h; exact PyProof.Rows.floordiv_int hm.1 q (Or.inl (PyProof.noPylong_of_log2 (Nat.lt_trans (natAbs_log hm.2) (by decide))))
    · cases h
  | mod =>
    simp only [opI] at h
    split at h
    · rename_i hm; cases h; exact PyProof.Rows.mod_int hm q
    · cases h
  | pow =>
    simp only [opI] at h
    split at h
    · rename_i hm
      cases h
      refine PyProof.Rows.pow_int hm.1 ?_ q
      have h1 := bits_of hm.2.2
      have h2 : ((Builtin.Int.intBits i : Nat) : Int) * j ≤ 1000 * 100 := by
        refine Int.mul_le_mul (by omega) hm.2.1 hm.1 (by omega)
      omega
    · cases h
theorem op_ok (o : Op) : OpR X (binaryOp (opOf o)) (r2 G (opR o)) := by
  intro pins s σ H x y v u Q I rx ry h
  obtain ⟨w, st, x', y', r, S, Rx, Ry, e, q⟩ := h
  have intc : ∀ i j k, x' = .val (.int i) → y' = .val (.int j) → opI o i j = some k → r = .val (.int k) → wpAny (model X.prog X.w) X.A (binaryOp (opOf o) v u) (EP X pins σ Q) X.xe s := by
    rintro i j k rfl rfl ho rfl
    have hx : x = .int i := Rx
    have hy : y = .int j := Ry
    subst hx hy
    obtain ⟨t, rfl⟩ := rx
    obtain ⟨t2, rfl⟩ := ry
    exact int_op o i j k ho t t2 s _ _ ⟨.int k, H, I.tok _, ⟨_, rfl⟩, q w H _ (Le.refl _ _) S rfl⟩
  have lstc : ∀ xs ys, x'.seq = some xs → y'.seq = some ys → o = .add → xs.length + ys.length ≤ lim → r = .val (.lst (xs ++ ys)) → wpAny (model X.prog X.w) X.A (binaryOp (opOf o) v u) (EP X pins σ Q) X.xe s := by
    rintro xs ys e1 e2 rfl hl rfl
    obtain ⟨p, vs, rfl, hp, r1⟩ := RepR.seq (s := st) Rx e1
    obtain ⟨p2, vs2, rfl, hp2, r2⟩ := RepR.seq (s := st) Ry e2
    cases rx
    cases ry
    obtain ⟨z, its, n, q1, l1, g1⟩ := Rd.lst I hp
    obtain ⟨z2, its2, n2, q2, l2, g2⟩ := Rd.lst I hp2
    have hz : its.length + its2.length ≤ sizeLine := by
      rw [← l1, ← l2, ← r1.length, ← r2.length]
      have : lim ≤ sizeLine := by decide
      omega
    refine PySem.P.add_list g1 g2 ?_ (by rw [List.size_toArray, List.size_toArray]; exact hz)
    have ea : its.toArray ++ its2.toArray = (its ++ its2).toArray := by simp
    rw [ea]
    exact ⟨.ref _, _, I.lnew (t' := s.toks) (q1.append q2) (by rw [List.length_append, l1, l2]; exact hz), rfl, fin_lst S (r1.append r2) q _ I.fresh⟩
  unfold opR at e
  split at e
  · rename_i i j
    cases ho : opI o i j with
    | none => rw [ho] at e; cases e
    | some k => rw [ho] at e; cases e; exact intc i j k rfl rfl ho rfl
  · rename_i xs ys
    split at e
    · rename_i hc
      cases e
      obtain ⟨p, vs, rfl, hp, r1⟩ := Rx
      obtain ⟨p2, vs2, rfl, hp2, r2⟩ := Ry
      have n1 : vs ≠ [] := by
        intro z; subst z
        exact hc.1 (List.length_eq_zero_iff.mp r1.length)
      have n2 : vs2 ≠ [] := by
        intro z; subst z
        exact hc.2.1 (List.length_eq_zero_iff.mp r2.length)
      refine op_catT pins s σ H _ _ v u Q I rx ry ⟨p, p2, vs, vs2, rfl, rfl, SqT.of hp, SqT.of hp2, n1, ?_, fun z => absurd z n2, fun _ => fin_tup S (r1.append r2) q⟩
      rw [← r1.length, ← r2.length]
      have : lim ≤ sizeLine := by decide
      omega
    · cases e
  · split at e
    · rename_i xs ys e1 e2
      split at e
      · rename_i hl
        cases e
        exact lstc xs ys e1 e2 rfl hl rfl
      · cases e
    · cases e
  · cases e
theorem sV_bin (o : Op) (ha : PE X a (tV G X C a')) (hb : PE X b (tV G X C b')) : PE X (.BinOp a (opOf o) b pos) (tV G X C (.bin o a' b')) := s2 (op_ok o) ha hb fun _ _ => rfl
end
end IP

end
section
set_option Elab.async false
set_option linter.all false
set_option maxRecDepth 100000
namespace IP
open PySem PySem.Spec L2 PySem.SeqAt
/-! ### == and != of data -/
section
variable {G : Gx} {X : Cx} {pins : List (Addr × Obj)} {σ : St} {H : Hp} {s : Shared} {w : Wo} {st : Sto}
theorem inv_tup {a : Addr} {vs : List V} (I : Inv X pins σ H s) (h : H a = some (.tup vs)) : ∃ its : List Value, Vals vs its ∧ s.heap.IsTuple a its.toArray := by
  obtain ⟨its, r, q, _⟩ := I.tuple (SqT.of (K := X.K) h)
  exact ⟨its, r, q⟩
theorem inv_lst {a : Addr} {vs : List V} (I : Inv X pins σ H s) (h : Rd H a (.lst vs)) : ∃ its : List Value, Vals vs its ∧ s.heap.IsList a its.toArray := by
  obtain ⟨_, its, n, r, _, e⟩ := Rd.lst I h
  exact ⟨its, r, _, e, rfl, n, rfl⟩
/-- the same values: equal by == -/
theorem eqL_same {f : T → T → Option Bool} : ∀ (ts us : List T) (vs : List V), (∀ t u v k, Rep G w H t v → Rep G w H u v → f t u = some k → k = true) → Reps G w H ts vs → Reps G w H us vs → ∀ k, eqL f ts us = some k → k = true
  | [], [], _, _, _, _, k, h => by cases h; rfl
  | [], _ :: _, _, _, h1, h2, k, h => by
    obtain ⟨v, r, e, _⟩ := h2
    rw [h1] at e
    cases e
  | _ :: _, [], _, _, h1, h2, k, h => by
    obtain ⟨v, r, e, _⟩ := h1
    rw [h2] at e
    cases e
  | t :: ts, u :: us, _, hf, ⟨v, r, e, h1, h2⟩, ⟨v', r', e', h1', h2'⟩, k, h => by
    subst e
    cases e'
    unfold eqL at h
    split at h
    · rename_i k1 k2 q1 q2
      cases h
      rw [hf t u v k1 h1 h1' q1, eqL_same ts us r hf h2 h2' k2 q2]
      rfl
    · cases h
theorem eqD_same : ∀ (n : Nat) (t u : T) (v : V) (k : Bool), Rep G w H t v → Rep G w H u v → eqD n t u = some k → k = true
  | n, .non, u, v, k, h1, h2, h => by
    cases h1
    cases u <;> simp only [Rep] at h2 <;> first | (cases h2; done) | (simp [eqD] at h; exact h) | (obtain ⟨a, vs, e, _⟩ := h2; cases e) | (obtain ⟨e, e2⟩ := h2; cases e2; done) | (obtain ⟨e, e2, _⟩ := h2; cases e2)
  | n, .bl b, u, v, k, h1, h2, h => by
    cases h1
    cases u <;> simp only [Rep] at h2 <;> first | (cases h2; done) | (cases h2; simp [eqD] at h; exact h) | (obtain ⟨a, vs, e, _⟩ := h2; cases e) | (obtain ⟨e, e2⟩ := h2; cases e2; done) | (obtain ⟨e, e2, _⟩ := h2; cases e2)
  | n, .int i, u, v, k, h1, h2, h => by
    cases h1
    cases u <;> simp only [Rep] at h2 <;> first | (cases h2; done) | (cases h2; simp [eqD] at h; exact h) | (obtain ⟨a, vs, e, _⟩ := h2; cases e) | (obtain ⟨e, e2⟩ := h2; cases e2; done) | (obtain ⟨e, e2, _⟩ := h2; cases e2)
  | n, .str x, u, v, k, h1, h2, h => by
    cases h1
    cases u <;> simp only [Rep] at h2 <;> first | (cases h2; done) | (cases h2; simp [eqD] at h; exact h) | (obtain ⟨a, vs, e, _⟩ := h2; cases e) | (obtain ⟨e, e2⟩ := h2; cases e2; done) | (obtain ⟨e, e2, _⟩ := h2; cases e2)
  | 0, .tup ts, u, v, k, h1, h2, h => by cases u <;> simp [eqD] at h
  | n + 1, .tup ts, u, v, k, h1, h2, h => by
    obtain ⟨a, vs, e, q, r⟩ := h1
    subst e
    cases u with
    | tup us =>
      obtain ⟨a', vs', e', q', r'⟩ := h2
      cases e'
      rw [q] at q'
      cases q'
      simp only [eqD] at h
      exact eqL_same ts us vs (fun t u v k => eqD_same n t u v k) r r' k h
    | non => cases h2
    | _ => simp [eqD] at h
  | 0, .lst ts, u, v, k, h1, h2, h => by cases u <;> simp [eqD] at h
  | n + 1, .lst ts, u, v, k, h1, h2, h => by
    obtain ⟨a, vs, e, z, q, r⟩ := h1
    subst e
    cases u with
    | lst us =>
      obtain ⟨a', vs', e', z', q', r'⟩ := h2
      cases e'
      have ev : vs = vs' := by
        rcases q with q | ⟨o, q⟩ <;> rcases q' with q' | ⟨o', q'⟩ <;> (rw [q] at q'; cases q'; try rfl)
      subst ev
      simp only [eqD] at h
      exact eqL_same ts us vs (fun t u v k => eqD_same n t u v k) r r' k h
    | _ => simp [eqD] at h
  | n, .loc l, u, v, k, h1, h2, h => by cases u <;> simp [eqD] at h
  | n, .exc c, u, v, k, h1, h2, h => by cases u <;> simp [eqD] at h
/-- pairs of a list -/
theorem eqL_all {f : T → T → Option Bool} : ∀ (ts us : List T) (k : Bool), eqL f ts us = some k → ∃ e : Nat → Bool, (∀ (j : Nat) t u, ts[j]? = some t → us[j]? = some u → f t u = some (e j)) ∧ k = ((List.range (min ts.length us.length)).all e && ts.length == us.length)
  | [], [], k, h => by cases h; exact ⟨fun _ => true, fun j t u z => by simp at z, rfl⟩
  | [], u :: us, k, h => by cases h; exact ⟨fun _ => true, fun j t u z => by simp at z, by simp⟩
  | t :: ts, [], k, h => by cases h; exact ⟨fun _ => true, fun j t u _ z => by simp at z, by simp⟩
  | t :: ts, u :: us, k, h => by
    unfold eqL at h
    split at h
    · rename_i k1 k2 q1 q2
      cases h
      obtain ⟨e, h1, h2⟩ := eqL_all ts us k2 q2
      refine ⟨fun j => match j with | 0 => k1 | j + 1 => e j, fun j t' u' z1 z2 => ?_, ?_⟩
      · cases j with
        | zero => simp at z1 z2; subst z1 z2; exact q1
        | succ j => simp at z1 z2; exact h1 j t' u' z1 z2
      · rw [h2]
        have em : min (t :: ts).length (u :: us).length = min ts.length us.length + 1 := by simp [Nat.succ_min_succ]
        rw [em, List.range_succ_eq_map, List.all_cons, List.all_map]
        have el : ((t :: ts).length == (u :: us).length) = (ts.length == us.length) := by simp
        rw [el, Bool.and_assoc]
        rfl
    · cases h
theorem vals_get {vs : List V} {its : List Value} (r : Vals vs its) {j : Nat} {u : Value} (e : its[j]? = some u) : ∃ v, vs[j]? = some v ∧ RelV v u := by
  have hj : j < vs.length := by rw [r.length]; exact (List.getElem?_eq_some_iff.mp e).1
  obtain ⟨u', h1, h2⟩ := r.get (List.getElem?_eq_getElem hj)
  rw [e] at h1
  cases h1
  exact ⟨_, List.getElem?_eq_getElem hj, h2⟩
variable {A : Around}
/-- the parts of two lists of data -/
theorem parts_eqAt {n : Nat} {ts us : List T} {vs vs' : List V} {its its' : List Value} {e : Nat → Bool} (r : Reps G w H ts vs) (r' : Reps G w H us vs') (q : Vals vs its) (q' : Vals vs' its')
    (he : ∀ (j : Nat) t u, ts[j]? = some t → us[j]? = some u → eqD n t u = some (e j))
    (ih : ∀ (t u : T) (v v' : V) (x y : Value) (k : Bool), Rep G w H t v → Rep G w H u v' → RelV v x → RelV v' y → eqD n t u = some k → EqAt A s x y k) :
    ∀ j (h1 : j < its.toArray.size) (h2 : j < its'.toArray.size), EqAt A s its.toArray[j] its'.toArray[j] (e j) := by
  intro j h1 h2
  have h1' : j < its.length := by simpa using h1
  have h2' : j < its'.length := by simpa using h2
  obtain ⟨v, e1, rv⟩ := vals_get q (List.getElem?_eq_getElem h1')
  obtain ⟨v', e2, rv'⟩ := vals_get q' (List.getElem?_eq_getElem h2')
  obtain ⟨t, e3, rt⟩ := r.get' e1
  obtain ⟨u, e4, ru⟩ := r'.get' e2
  have := ih t u v v' its[j] its'[j] (e j) rt ru rv rv' (he j t u e3 e4)
  simpa using this
theorem eqAt_T (I : Inv X pins σ H s) : ∀ (n : Nat) (A : Around), A.units + n < cLine → ∀ (t u : T) (v v' : V) (x y : Value) (k : Bool), Rep G w H t v → Rep G w H u v' → RelV v x → RelV v' y → eqD n t u = some k → EqAt A s x y k := by
  intro n
  induction n with
  | zero =>
    intro A hu t u v v' x y k h1 h2 r1 r2 h
    cases t <;> cases u <;> simp only [eqD] at h <;> first | (cases h; done) | skip
    · cases h; cases h1; cases h2; cases r1; cases r2; exact EqAt.same _
    · cases h; cases h1; cases h2; cases r1; obtain ⟨_, rfl⟩ := r2; exact EqAt.none_int _ _
    · cases h; cases h1; cases h2; cases r1; cases r2; exact EqAt.bool_bool _ _
    · cases h; cases h1; cases h2; obtain ⟨_, rfl⟩ := r1; cases r2; exact EqAt.int_none _ _
    · cases h; cases h1; cases h2; obtain ⟨_, rfl⟩ := r1; obtain ⟨_, rfl⟩ := r2; exact EqAt.int_int _ _ _ _
    · cases h; cases h1; cases h2; obtain ⟨_, rfl⟩ := r1; obtain ⟨_, rfl⟩ := r2; exact EqAt.str_str _ _ _ _
  | succ n ih =>
    intro A hu t u v v' x y k h1 h2 r1 r2 h
    have hu0 : A.units < cLine := by omega
    have hin : A.in1.units + n < cLine := by show A.units + 1 + n < cLine; omega
    cases t <;> cases u <;> simp only [eqD] at h <;> first | (cases h; done) | skip
    · cases h; cases h1; cases h2; cases r1; cases r2; exact EqAt.same _
    · cases h; cases h1; cases h2; cases r1; obtain ⟨_, rfl⟩ := r2; exact EqAt.none_int _ _
    · cases h
      obtain ⟨a, vs, e, q, _⟩ := h2
      subst e
      cases h1; cases r1; cases r2
      obtain ⟨its, _, hi⟩ := inv_tup I q
      exact EqAt.none_tuple hi hu0
    · cases h; cases h1; cases h2; cases r1; cases r2; exact EqAt.bool_bool _ _
    · cases h; cases h1; cases h2; obtain ⟨_, rfl⟩ := r1; cases r2; exact EqAt.int_none _ _
    · cases h; cases h1; cases h2; obtain ⟨_, rfl⟩ := r1; obtain ⟨_, rfl⟩ := r2; exact EqAt.int_int _ _ _ _
    · cases h; cases h1; cases h2; obtain ⟨_, rfl⟩ := r1; obtain ⟨_, rfl⟩ := r2; exact EqAt.str_str _ _ _ _
    · cases h
      obtain ⟨a, vs, e, q, _⟩ := h1
      subst e
      cases h2; cases r1; cases r2
      obtain ⟨its, _, hi⟩ := inv_tup I q
      exact EqAt.tuple_none hi hu0
    · rename_i ts us
      have hs := eqD_same (G := G) (w := w) (H := H) (n + 1) (.tup ts) (.tup us)
      have h1' := h1
      have h2' := h2
      obtain ⟨a, vs, e, q, r⟩ := h1
      obtain ⟨a', vs', e', q', r'⟩ := h2
      subst e e'
      cases r1; cases r2
      by_cases ea : a = a'
      · subst ea
        have hk : k = true := hs (.ref a) k h1' h2' (by simp only [eqD]; exact h)
        subst hk
        exact EqAt.same _
      · obtain ⟨its, q1, hi⟩ := inv_tup I q
        obtain ⟨its', q1', hi'⟩ := inv_tup I q'
        obtain ⟨e, he, hk⟩ := eqL_all ts us k h
        have hz := RcAt.tuples hi hi' hu0 (parts_eqAt r r' q1 q1' he (ih A.in1 hin))
        rw [List.size_toArray, List.size_toArray, ← q1.length, ← q1'.length, ← r.length, ← r'.length, ← hk] at hz
        exact EqAt.of_refs ea hz
    · rename_i ts us
      have hs := eqD_same (G := G) (w := w) (H := H) (n + 1) (.lst ts) (.lst us)
      have h1' := h1
      have h2' := h2
      obtain ⟨a, vs, e, _, q, r⟩ := h1
      obtain ⟨a', vs', e', _, q', r'⟩ := h2
      subst e e'
      cases r1; cases r2
      by_cases ea : a = a'
      · subst ea
        have hk : k = true := hs (.ref a) k h1' h2' (by simp only [eqD]; exact h)
        subst hk
        exact EqAt.same _
      · obtain ⟨its, q1, hi⟩ := inv_lst I q
        obtain ⟨its', q1', hi'⟩ := inv_lst I q'
        obtain ⟨e, he, hk⟩ := eqL_all ts us k h
        have l1 : its.toArray.size = ts.length := by rw [List.size_toArray, ← q1.length, ← r.length]
        have l2 : its'.toArray.size = us.length := by rw [List.size_toArray, ← q1'.length, ← r'.length]
        by_cases el : ts.length = us.length
        · have hz := RcAt.lists hi hi' (by rw [l1, l2, el]) hu0 (parts_eqAt r r' q1 q1' he (ih A.in1 hin))
          rw [l1] at hz
          rw [el, Nat.min_self] at hk
          have : k = (List.range us.length).all e := by rw [hk]; simp
          rw [el, ← this] at hz
          exact EqAt.of_refs ea hz
        · have hz := RcAt.lists_lengths hi hi' (by rw [l1, l2]; simpa using el) hu0
          have : k = false := by rw [hk]; simp [el]
          rw [this]
          exact EqAt.of_refs ea hz
end
end IP

end
section
set_option Elab.async false
set_option linter.all false
set_option maxRecDepth 100000
namespace IP
open PySem PySem.Spec L2 PySem.SeqAt
section
variable {G : Gx} {X : Cx} {pins : List (Addr × Obj)} {σ : St} {H : Hp} {s : Shared} {w : Wo} {st : Sto} {A : Around}
theorem rc_lists (I : Inv X pins σ H s) (hu : A.units + 8 < cLine) {a b : Addr} {vs vs' : List V} {ts us : List T} {k : Bool} (q : Rd H a (.lst vs)) (q' : Rd H b (.lst vs')) (r : Reps G w H ts vs) (r' : Reps G w H us vs') (h : eqL (eqD 7) ts us = some k) :
    RcAt A s (.ref a) (.ref b) k ∧ RcNeAt A s (.ref a) (.ref b) (!k) := by
  have hu0 : A.units < cLine := by omega
  have hin : A.in1.units + 7 < cLine := by show A.units + 1 + 7 < cLine; omega
  obtain ⟨its, q1, hi⟩ := inv_lst I q
  obtain ⟨its', q1', hi'⟩ := inv_lst I q'
  obtain ⟨e, he, hk⟩ := eqL_all ts us k h
  have l1 : its.toArray.size = ts.length := by rw [List.size_toArray, ← q1.length, ← r.length]
  have l2 : its'.toArray.size = us.length := by rw [List.size_toArray, ← q1'.length, ← r'.length]
  have hp := parts_eqAt (s := s) (A := A.in1) r r' q1 q1' he (eqAt_T I 7 A.in1 hin)
  by_cases el : ts.length = us.length
  · have hz := RcAt.lists hi hi' (by rw [l1, l2, el]) hu0 hp
    have hy := RcNeAt.lists hi hi' (by rw [l1, l2, el]) hu0 hp
    rw [el, Nat.min_self] at hk
    have : k = (List.range us.length).all e := by rw [hk]; simp
    rw [l1, el, ← this] at hz hy
    exact ⟨hz, hy⟩
  · have hz := RcAt.lists_lengths hi hi' (by rw [l1, l2]; simpa using el) hu0
    have hy := RcNeAt.lists_lengths hi hi' (by rw [l1, l2]; simpa using el) hu0
    have : k = false := by rw [hk]; simp [el]
    rw [this]
    exact ⟨hz, hy⟩
theorem rc_tups (I : Inv X pins σ H s) (hu : A.units + 8 < cLine) {a b : Addr} {vs vs' : List V} {ts us : List T} {k : Bool} (q : H a = some (.tup vs)) (q' : H b = some (.tup vs')) (r : Reps G w H ts vs) (r' : Reps G w H us vs') (h : eqL (eqD 7) ts us = some k) :
    RcAt A s (.ref a) (.ref b) k ∧ RcNeAt A s (.ref a) (.ref b) (!k) := by
  have hu0 : A.units < cLine := by omega
  have hin : A.in1.units + 7 < cLine := by show A.units + 1 + 7 < cLine; omega
  obtain ⟨its, q1, hi⟩ := inv_tup I q
  obtain ⟨its', q1', hi'⟩ := inv_tup I q'
  obtain ⟨e, he, hk⟩ := eqL_all ts us k h
  have hp := parts_eqAt (s := s) (A := A.in1) r r' q1 q1' he (eqAt_T I 7 A.in1 hin)
  have hz := RcAt.tuples hi hi' hu0 hp
  have hy := RcNeAt.tuples hi hi' hu0 hp
  rw [List.size_toArray, List.size_toArray, ← q1.length, ← q1'.length, ← r.length, ← r'.length, ← hk] at hz hy
  exact ⟨hz, hy⟩
theorem rc_T (I : Inv X pins σ H s) (hu : A.units + 8 < cLine) {t u : T} {v v' : V} {x y : Value} {k : Bool} (h1 : Rep G w H t v) (h2 : Rep G w H u v') (r1 : RelV v x) (r2 : RelV v' y) (h : eqD 8 t u = some k) :
    RcAt A s x y k ∧ RcNeAt A s x y (!k) := by
  have hu0 : A.units < cLine := by omega
  cases t <;> cases u <;> simp only [eqD] at h <;> first | (cases h; done) | skip
  · cases h; cases h1; cases h2; cases r1; cases r2; exact ⟨RcAt.none_none, RcNeAt.none_none⟩
  · cases h; cases h1; cases h2; cases r1; obtain ⟨_, rfl⟩ := r2; exact ⟨RcAt.none_int _ _, RcNeAt.none_int _ _⟩
  · cases h
    obtain ⟨a, vs, e, q, _⟩ := h2
    subst e
    cases h1; cases r1; cases r2
    obtain ⟨its, _, hi⟩ := inv_tup I q
    exact ⟨RcAt.none_tuple hi hu0, RcNeAt.none_tuple hi hu0⟩
  · cases h; cases h1; cases h2; cases r1; cases r2; exact ⟨RcAt.bool_bool _ _, RcNeAt.bool_bool _ _⟩
  · cases h; cases h1; cases h2; obtain ⟨_, rfl⟩ := r1; cases r2; exact ⟨RcAt.int_none _ _, RcNeAt.int_none _ _⟩
  · cases h; cases h1; cases h2; obtain ⟨_, rfl⟩ := r1; obtain ⟨_, rfl⟩ := r2; exact ⟨RcAt.int_int _ _ _ _, RcNeAt.int_int _ _ _ _⟩
  · cases h; cases h1; cases h2; obtain ⟨_, rfl⟩ := r1; obtain ⟨_, rfl⟩ := r2; exact ⟨RcAt.str_str _ _ _ _, RcNeAt.str_str _ _ _ _⟩
  · cases h
    obtain ⟨a, vs, e, q, _⟩ := h1
    subst e
    cases h2; cases r1; cases r2
    obtain ⟨its, _, hi⟩ := inv_tup I q
    exact ⟨RcAt.tuple_none hi hu0, RcNeAt.tuple_none hi hu0⟩
  · obtain ⟨a, vs, e, q, r⟩ := h1
    obtain ⟨a', vs', e', q', r'⟩ := h2
    subst e e'
    cases r1; cases r2
    exact rc_tups I hu q q' r r' h
  · obtain ⟨a, vs, e, _, q, r⟩ := h1
    obtain ⟨a', vs', e', _, q', r'⟩ := h2
    subst e e'
    cases r1; cases r2
    exact rc_lists I hu q q' r r' h
theorem rc_R (I : Inv X pins σ H s) (hu : A.units + 8 < cLine) {t u : R} {v v' : V} {x y : Value} {k : Bool} (h1 : RepR G w H t v) (h2 : RepR G w H u v') (r1 : RelV v x) (r2 : RelV v' y) (h : eqR t u = some k) :
    RcAt A s x y k ∧ RcNeAt A s x y (!k) := by
  unfold eqR at h
  split at h
  · exact rc_T I hu h1 h2 r1 r2 h
  · obtain ⟨a, vs, e, _, q, r⟩ := h1
    obtain ⟨a', vs', e', q', r', _⟩ := h2
    subst e e'
    cases r1; cases r2
    exact rc_lists I hu q (.inl q') r r' h
  · obtain ⟨a, vs, e, q, r, _⟩ := h1
    obtain ⟨a', vs', e', _, q', r'⟩ := h2
    subst e e'
    cases r1; cases r2
    exact rc_lists I hu (.inl q) q' r r' h
  · obtain ⟨a, vs, e, q, r, _⟩ := h1
    obtain ⟨a', vs', e', q', r', _⟩ := h2
    subst e e'
    cases r1; cases r2
    exact rc_lists I hu (.inl q) (.inl q') r r' h
  · cases h
end
section
variable {G : Gx} {X : Cx} {C : Cf} {a b c : Expr} {a' b' c' : E} {pos : Pos}
def cmOf : Cm → CmpOp
  | .lt => .Lt | .le => .LtE | .gt => .Gt | .ge => .GtE | .eq => .Eq | .ne => .NotEq | .isN => .Is | .notN => .IsNot | .mem => .In | .nmem => .NotIn
def cmpV (c : Cm) (x y : R) : Option R := (cmpR c x y).map fun k => .val (.bl k)
theorem fin_bool {pins : List (Addr × Obj)} {σ : St} {H : Hp} {s : Shared} {w : Wo} {st : Sto} {Q : VK} {k : Bool} (I : Inv X pins σ H s) (S : StoOk G w H st) (q : ∀ w' H' v, Le w w' H H' → StoOk G w' H' st → RepR G w' H' (.val (.bl k)) v → Q v H') : EP X pins σ Q (.bool k) s :=
  ⟨.bl k, H, I, rfl, q w H _ (Le.refl _ _) S rfl⟩
theorem cmp_int {op : CmpOp} {f : Int → Int → Bool} {c : Cm} (hc : ∀ x y r, cmpV c x y = some r → ∃ i j, x = .val (.int i) ∧ y = .val (.int j) ∧ r = .val (.bl (f i j)))
    (ho : OpR X (compareOp op) (rI0 fun i j => .bl (f i j))) : OpR X (compareOp op) (r2 G (cmpV c)) := by
  intro pins s σ H x y v u Q I rx ry h
  obtain ⟨w, st, x', y', r, S, Rx, Ry, e, q⟩ := h
  obtain ⟨i, j, rfl, rfl, rfl⟩ := hc x' y' r e
  have hx : x = .int i := Rx
  have hy : y = .int j := Ry
  exact ho pins s σ H x y v u Q I rx ry ⟨i, j, hx, hy, q w H _ (Le.refl _ _) S rfl⟩
theorem int2 {x y : R} {g : Int → Int → Bool} {r : R} (h : (do let i ← x.int?; let j ← y.int?; some (g i j)).map (fun k => R.val (.bl k)) = some r) : ∃ i j, x = .val (.int i) ∧ y = .val (.int j) ∧ r = .val (.bl (g i j)) := by
  match x, y with
  | .val (.int i), .val (.int j) => cases h; exact ⟨i, j, rfl, rfl, rfl⟩
  | .val (.int i), .val .non => cases h
  | .val (.int i), .val (.bl _) => cases h
  | .val (.int i), .val (.str _) => cases h
  | .val (.int i), .val (.tup _) => cases h
  | .val (.int i), .val (.lst _) => cases h
  | .val (.int i), .val (.loc _) => cases h
  | .val (.int i), .val (.exc _) => cases h
  | .val (.int i), .bor _ => cases h
  | .val .non, _ => cases h
  | .val (.bl _), _ => cases h
  | .val (.str _), _ => cases h
  | .val (.tup _), _ => cases h
  | .val (.lst _), _ => cases h
  | .val (.loc _), _ => cases h
  | .val (.exc _), _ => cases h
  | .bor _, _ => cases h
theorem is_none_eq {w : Wo} {H : Hp} {x : R} {v : V} (r : RepR G w H x v) : decide (v = .non) = x.isNon := by
  match x, r with
  | .val .non, r => cases r; rfl
  | .val (.bl _), r => cases r; rfl
  | .val (.int _), r => cases r; rfl
  | .val (.str _), r => cases r; rfl
  | .val (.tup _), r => obtain ⟨_, _, e, _⟩ := r; subst e; rfl
  | .val (.lst _), r => obtain ⟨_, _, e, _⟩ := r; subst e; rfl
  | .val (.loc _), r => obtain ⟨_, e⟩ := r; subst e; rfl
  | .val (.exc _), r => obtain ⟨_, e, _⟩ := r; subst e; rfl
  | .bor _, r => obtain ⟨_, _, e, _⟩ := r; subst e; rfl
/-- equal values are equal to the same -/
theorem eqL_congr {w : Wo} {H : Hp} {f : T → T → Option Bool} (hf : ∀ t t' u v k k', Rep G w H t v → Rep G w H t' v → f t u = some k → f t' u = some k' → k = k') :
    ∀ (ts ts' us : List T) (vs : List V) (k k' : Bool), Reps G w H ts vs → Reps G w H ts' vs → eqL f ts us = some k → eqL f ts' us = some k' → k = k'
  | [], [], us, vs, k, k', _, _, h, h' => by rw [h] at h'; cases h'; rfl
  | [], _ :: _, us, vs, k, k', r, r', h, h' => by obtain ⟨v, q, e, _⟩ := r'; rw [r] at e; cases e
  | _ :: _, [], us, vs, k, k', r, r', h, h' => by obtain ⟨v, q, e, _⟩ := r; rw [r'] at e; cases e
  | t :: ts, t' :: ts', [], vs, k, k', r, r', h, h' => by cases h; cases h'; rfl
  | t :: ts, t' :: ts', u :: us, vs, k, k', ⟨v, q, e, h1, h2⟩, ⟨v', q', e', h1', h2'⟩, h, h' => by
    subst e
    cases e'
    unfold eqL at h h'
    split at h
    · rename_i k1 k2 z1 z2
      split at h'
      · rename_i k3 k4 z3 z4
        cases h
        cases h'
        rw [hf t t' u v k1 k3 h1 h1' z1 z3, eqL_congr hf ts ts' us q k2 k4 h2 h2' z2 z4]
      · cases h'
    · cases h
theorem eqD_congr {w : Wo} {H : Hp} : ∀ (n : Nat) (t t' u : T) (v : V) (k k' : Bool), Rep G w H t v → Rep G w H t' v → eqD n t u = some k → eqD n t' u = some k' → k = k' := by
  intro n
  induction n with
  | zero =>
    intro t t' u v k k' h1 h2 e1 e2
    cases t <;> cases t' <;> first
      | (cases h1; cases h2; rw [e1] at e2; cases e2; rfl)
      | (cases u <;> simp [eqD] at e1; done)
      | (cases u <;> simp [eqD] at e2; done)
      | (cases h1; cases h2; done)
  | succ n ih =>
    intro t t' u v k k' h1 h2 e1 e2
    cases t <;> cases t' <;> first
      | (cases h1; cases h2; rw [e1] at e2; cases e2; rfl)
      | (cases h1; cases h2; done)
      | (cases u <;> simp [eqD] at e1; done)
      | (cases u <;> simp [eqD] at e2; done)
      | (cases h1; obtain ⟨_, _, z, _⟩ := h2; cases z; done)
      | (cases h2; obtain ⟨_, _, z, _⟩ := h1; cases z; done)
      | skip
    · rename_i ts ts'
      obtain ⟨a, vs, e, q, r⟩ := h1
      obtain ⟨a', vs', e', q', r'⟩ := h2
      subst e
      cases e'
      rw [q] at q'
      cases q'
      cases u <;> simp only [eqD] at e1 e2 <;> first | (cases e1; done) | (cases e1; cases e2; rfl) | exact eqL_congr (ih ·  ·  ·  ·  ·  ·) ts ts' _ vs k k' r r' e1 e2
    · obtain ⟨a, vs, e, q, r⟩ := h1
      obtain ⟨a', vs', e', _, q', r'⟩ := h2
      subst e
      cases e'
      rcases q' with q' | ⟨_, q'⟩ <;> (rw [q] at q'; cases q')
    · obtain ⟨a, vs, e, _, q, r⟩ := h1
      obtain ⟨a', vs', e', q', r'⟩ := h2
      subst e
      cases e'
      rcases q with q | ⟨_, q⟩ <;> (rw [q] at q'; cases q')
    · rename_i ts ts'
      obtain ⟨a, vs, e, _, q, r⟩ := h1
      obtain ⟨a', vs', e', _, q', r'⟩ := h2
      subst e
      cases e'
      have ev : vs = vs' := by
        rcases q with q | ⟨o, q⟩ <;> rcases q' with q' | ⟨o', q'⟩ <;> (rw [q] at q'; cases q'; try rfl)
      subst ev
      cases u <;> simp only [eqD] at e1 e2 <;> first | (cases e1; done) | (cases e1; cases e2; rfl) | exact eqL_congr (ih ·  ·  ·  ·  ·  ·) ts ts' _ vs k k' r r' e1 e2
theorem memT_all {x : T} : ∀ (ts : List T) (k : Bool), memT x ts = some k → (∀ t ∈ ts, ∃ j, eqD 8 t x = some j) ∧ (k = true ↔ ∃ t ∈ ts, eqD 8 t x = some true)
  | [], k, h => by cases h; exact ⟨fun t z => by simp at z, by simp⟩
  | t :: ts, k, h => by
    unfold memT at h
    split at h
    · rename_i k1 k2 z1 z2
      cases h
      obtain ⟨h1, h2⟩ := memT_all ts k2 z2
      refine ⟨fun u hu => ?_, ?_⟩
      · rcases List.mem_cons.mp hu with rfl | hu
        · exact ⟨k1, z1⟩
        · exact h1 u hu
      · constructor
        · intro q
          rcases (Bool.or_eq_true _ _).mp q with q | q
          · subst q; exact ⟨t, List.mem_cons_self .., z1⟩
          · obtain ⟨u, hu, e⟩ := h2.mp q
            exact ⟨u, List.mem_cons_of_mem _ hu, e⟩
        · rintro ⟨u, hu, e⟩
          rcases List.mem_cons.mp hu with rfl | hu
          · have : some k1 = some true := z1.symm.trans e
            cases this
            rfl
          · rw [h2.mpr ⟨u, hu, e⟩, Bool.or_true]
    · cases h
theorem vals_mem {vs : List V} {its : List Value} (r : Vals vs its) {u : Value} (h : u ∈ its) : ∃ v ∈ vs, RelV v u := by
  obtain ⟨j, hj, e⟩ := List.mem_iff_getElem.mp h
  obtain ⟨v, h1, h2⟩ := vals_get r (List.getElem?_eq_some_iff.mpr ⟨hj, e⟩)
  exact ⟨v, List.mem_of_getElem? h1, h2⟩
theorem reps_mem {w : Wo} {H : Hp} {ts : List T} {vs : List V} (r : Reps G w H ts vs) {v : V} (h : v ∈ vs) : ∃ t ∈ ts, Rep G w H t v := by
  obtain ⟨j, hj, e⟩ := List.mem_iff_getElem.mp h
  obtain ⟨t, h1, h2⟩ := r.get' (List.getElem?_eq_some_iff.mpr ⟨hj, e⟩)
  exact ⟨t, List.mem_of_getElem? h1, h2⟩
theorem mem_reps {w : Wo} {H : Hp} {ts : List T} {vs : List V} (r : Reps G w H ts vs) {t : T} (h : t ∈ ts) : ∃ v ∈ vs, Rep G w H t v := by
  obtain ⟨j, hj, e⟩ := List.mem_iff_getElem.mp h
  obtain ⟨t, h1, h2⟩ := r.get (List.getElem?_eq_some_iff.mpr ⟨hj, e⟩)
  exact ⟨t, List.mem_of_getElem? h1, h2⟩
theorem mem_vals {vs : List V} {its : List Value} (r : Vals vs its) {v : V} (h : v ∈ vs) : ∃ u ∈ its, RelV v u := by
  obtain ⟨j, hj, e⟩ := List.mem_iff_getElem.mp h
  obtain ⟨u, h1, h2⟩ := r.get (List.getElem?_eq_some_iff.mpr ⟨hj, e⟩)
  exact ⟨u, List.mem_of_getElem? h1, h2⟩
open Classical in
theorem mem_fun {pins : List (Addr × Obj)} {σ : St} {H : Hp} {s : Shared} {w : Wo} {A : Around} (I : Inv X pins σ H s) (hu : A.units + 8 < cLine) {tx : T} {vx : V} {x : Value} {ts : List T} {vs : List V} {its : List Value} {k : Bool}
    (Rx : Rep G w H tx vx) (rx : RelV vx x) (r : Reps G w H ts vs) (q : Vals vs its) (h : memT tx ts = some k) : ∃ e : Value → Bool, (∀ y, y ∈ its.toArray → EqAt A s y x (e y)) ∧ its.toArray.any e = k := by
  obtain ⟨h1, h2⟩ := memT_all ts k h
  refine ⟨fun u => decide (∃ v t, RelV v u ∧ Rep G w H t v ∧ eqD 8 t tx = some true), fun y hy => ?_, ?_⟩
  · have hy' : y ∈ its := by simpa using hy
    obtain ⟨v, hv, rv⟩ := vals_mem q hy'
    obtain ⟨t, ht, rt⟩ := reps_mem r hv
    obtain ⟨j, hj⟩ := h1 t ht
    have z := eqAt_T I 8 A hu t tx v vx y x j rt Rx rv rx hj
    have ej : decide (∃ v t, RelV v y ∧ Rep G w H t v ∧ eqD 8 t tx = some true) = j := by
      cases j with
      | true => exact decide_eq_true ⟨v, t, rv, rt, hj⟩
      | false =>
        refine decide_eq_false ?_
        rintro ⟨v', t', rv', rt', e'⟩
        cases rv.inj rv'
        exact Bool.noConfusion (eqD_congr 8 t t' tx v false true rt rt' hj e')
    dsimp only
    rw [ej]
    exact z
  · rw [Bool.eq_iff_iff, h2, List.any_toArray, List.any_eq_true]
    constructor
    · rintro ⟨u, hu', e⟩
      obtain ⟨v, t, rv, rt, e⟩ := of_decide_eq_true e
      obtain ⟨v', hv', rv'⟩ := vals_mem q hu'
      cases rv.inj rv'
      obtain ⟨t', ht', rt'⟩ := reps_mem r hv'
      obtain ⟨j, hj⟩ := h1 t' ht'
      have := eqD_congr 8 t t' tx v true j rt rt' e hj
      subst this
      exact ⟨t', ht', hj⟩
    · rintro ⟨t, ht, e⟩
      obtain ⟨v, hv, rt⟩ := mem_reps r ht
      obtain ⟨u, hu', rv⟩ := mem_vals q hv
      exact ⟨u, hu', decide_eq_true ⟨v, t, rv, rt, e⟩⟩
theorem cmp_ok (hu : X.A.units + 9 < cLine) (c : Cm) : OpR X (compareOp (cmOf c)) (r2 G (cmpV c)) := by
  cases c with
  | lt => exact cmp_int (fun x y r h => int2 h) op_lt
  | le => exact cmp_int (fun x y r h => int2 h) op_le
  | gt => exact cmp_int (fun x y r h => int2 h) op_gt
  | ge => exact cmp_int (fun x y r h => int2 h) op_ge
  | eq =>
    intro pins s σ H x y v u Q I rx ry h
    obtain ⟨w, st, x', y', r, S, Rx, Ry, e, q⟩ := h
    unfold cmpV cmpR at e
    cases he : eqR x' y' with
    | none => simp [he] at e
    | some k =>
      simp only [he, Option.map_some, Option.some.injEq] at e
      subst e
      exact (rc_R I (by omega) Rx Ry rx ry he).1 _ _ _ _ (fin_bool I S q)
  | ne =>
    intro pins s σ H x y v u Q I rx ry h
    obtain ⟨w, st, x', y', r, S, Rx, Ry, e, q⟩ := h
    unfold cmpV cmpR at e
    cases he : eqR x' y' with
    | none => simp [he] at e
    | some k =>
      simp only [he, Option.map_some, Option.some.injEq] at e
      subst e
      exact (rc_R I (by omega) Rx Ry rx ry he).2 _ _ _ _ (fin_bool I S q)
  | isN =>
    intro pins s σ H x y v u Q I rx ry h
    obtain ⟨w, st, x', y', r, S, Rx, Ry, e, q⟩ := h
    unfold cmpV cmpR at e
    dsimp only at e
    split at e
    · have hy : y = .non := Ry
      refine op_isN pins s σ H x y v u Q I rx ry ⟨hy, ?_⟩
      rw [is_none_eq Rx]
      cases e
      exact q w H _ (Le.refl _ _) S rfl
    · cases e
  | notN =>
    intro pins s σ H x y v u Q I rx ry h
    obtain ⟨w, st, x', y', r, S, Rx, Ry, e, q⟩ := h
    unfold cmpV cmpR at e
    dsimp only at e
    split at e
    · have hy : y = .non := Ry
      refine op_notN pins s σ H x y v u Q I rx ry ⟨hy, ?_⟩
      rw [is_none_eq Rx]
      cases e
      exact q w H _ (Le.refl _ _) S rfl
    · cases e
  | mem =>
    intro pins s σ H x y v u Q I rx ry h
    obtain ⟨w, st, x', y', r, S, Rx, Ry, e, q⟩ := h
    unfold cmpV cmpR at e
    dsimp only at e
    cases hx : x'.val? with
    | none => simp [hx] at e
    | some tx =>
      cases hy : y'.sq2 with
      | none => simp [hx, hy] at e
      | some ts =>
        cases hm : memT tx ts with
        | none => simp [hx, hy, hm] at e
        | some k =>
          simp [hx, hy, hm] at e
          subst e
          have Rx' : Rep G w H tx x := by
            cases x' with
            | val t => cases hx; exact Rx
            | bor t => cases hx
          obtain ⟨p, vs, rfl, hp, rp⟩ := RepR.sq2 Ry hy
          cases ry
          rcases hp with hp | hp
          · obtain ⟨its, r1, hi⟩ := inv_lst I hp
            obtain ⟨e, h1, h2⟩ := mem_fun (A := X.A.in1) I (by show X.A.units + 1 + 8 < cLine; omega) Rx' rx rp r1 hm
            exact in_listAt e hi h1 (by rw [h2]; exact fin_bool I S q)
          · obtain ⟨its, r1, hi⟩ := inv_tup I hp
            obtain ⟨e, h1, h2⟩ := mem_fun (A := X.A.in1) I (by show X.A.units + 1 + 8 < cLine; omega) Rx' rx rp r1 hm
            exact in_tupleAt e hi h1 (by rw [h2]; exact fin_bool I S q)
  | nmem =>
    intro pins s σ H x y v u Q I rx ry h
    obtain ⟨w, st, x', y', r, S, Rx, Ry, e, q⟩ := h
    unfold cmpV cmpR at e
    dsimp only at e
    cases hx : x'.val? with
    | none => simp [hx] at e
    | some tx =>
      cases hy : y'.sq2 with
      | none => simp [hx, hy] at e
      | some ts =>
        cases hm : memT tx ts with
        | none => simp [hx, hy, hm] at e
        | some k =>
          simp [hx, hy, hm] at e
          subst e
          have Rx' : Rep G w H tx x := by
            cases x' with
            | val t => cases hx; exact Rx
            | bor t => cases hx
          obtain ⟨p, vs, rfl, hp, rp⟩ := RepR.sq2 Ry hy
          cases ry
          rcases hp with hp | hp
          · obtain ⟨its, r1, hi⟩ := inv_lst I hp
            obtain ⟨e, h1, h2⟩ := mem_fun (A := X.A.in1) I (by show X.A.units + 1 + 8 < cLine; omega) Rx' rx rp r1 hm
            exact notIn_listAt e hi h1 (by rw [h2]; exact fin_bool I S q)
          · obtain ⟨its, r1, hi⟩ := inv_tup I hp
            obtain ⟨e, h1, h2⟩ := mem_fun (A := X.A.in1) I (by show X.A.units + 1 + 8 < cLine; omega) Rx' rx rp r1 hm
            exact notIn_tupleAt e hi h1 (by rw [h2]; exact fin_bool I S q)
theorem sV_cmp (hu : X.A.units + 9 < cLine) (c : Cm) (ha : PE X a (tV G X C a')) (hb : PE X b (tV G X C b')) (hm : behindInMarks (cmOf c) b = false) : PE X (.Compare a [cmOf c] [b] pos) (tV G X C (.cmp c a' b')) :=
  s2c (cmp_ok hu c) ha hb hm fun _ _ => rfl
end
end IP

end
section
set_option Elab.async false
set_option linter.all false
set_option maxRecDepth 100000
namespace IP
open PySem PySem.Spec L2 PySem.SeqAt
section
variable {G : Gx} {X : Cx} {C : Cf} {a b c : Expr} {a' b' c' e' : E} {pos : Pos} {rest : List Expr}
/-! ### truth -/
theorem tru_V {w : Wo} {H : Hp} {x : R} {v : V} {k : Bool} (r : RepR G w H x v) (h : tru x = some k) : TruV X.K v H k := by
  match x, h with
  | .val .non, h => cases r; cases h; exact rfl
  | .val (.bl b), h => cases r; cases h; exact rfl
  | .val (.int i), h => cases r; cases h; exact rfl
  | .val (.lst ts), h =>
    cases h
    obtain ⟨a, vs, e, _, q, r⟩ := r
    subst e
    refine .inl ⟨vs, .inl q, ?_⟩
    cases ts with
    | nil => cases r; rfl
    | cons t ts => obtain ⟨_, _, e, _⟩ := r; subst e; rfl
  | .val (.tup ts), h =>
    cases h
    obtain ⟨a, vs, e, q, r⟩ := r
    subst e
    refine .inr (.inl ⟨vs, .inl (.inl q), ?_⟩)
    cases ts with
    | nil => cases r; rfl
    | cons t ts => obtain ⟨_, _, e, _⟩ := r; subst e; rfl
  | .bor ts, h =>
    cases h
    obtain ⟨a, vs, e, q, r, _⟩ := r
    subst e
    refine .inl ⟨vs, .inl (.inl q), ?_⟩
    cases ts with
    | nil => cases r; rfl
    | cons t ts => obtain ⟨_, _, e, _⟩ := r; subst e; rfl
def truK (x : R) : Option R := (tru x).map fun k => .val (.bl k)
theorem sT_plain {e : Expr} (hE : PE X e (tV G X C e')) (he : ∀ whole, isTrue e X.env whole = (do let v ← whole; standAt e.pos; holding [v] (truthy v)))
    (hev : ∀ σ s, ev C e' .t σ s = (ev C e' .v σ s).bind fun x s => .of (truK x) s) : PT X e (tT G X C e') := by
  refine PT.imp (pt_truth hE he) ?_
  rintro σV H Q ⟨w₀, H₀, w, σ, s, g, h⟩
  rw [hev] at h
  refine ⟨w₀, H₀, w, σ, s, g, (Want.bind h).imp ?_⟩
  rintro v H1 ⟨w1, r, s1, L1, S1, R1, h1⟩
  obtain ⟨r', e, q⟩ := Want.of h1
  unfold truK at e
  cases ht : tru r with
  | none => rw [ht] at e; cases e
  | some k =>
    rw [ht] at e
    cases e
    obtain ⟨k', e, q'⟩ := q w1 H1 (.bl k) (Le.refl _ _) S1 rfl
    cases e
    exact ⟨k, tru_V R1 ht, q'⟩
theorem cmp_t (c : Cm) (σ : Fr) (s : Sto) : ev C (.cmp c a' b') .t σ s = ev C (.cmp c a' b') .v σ s := by
  show Res.bind (Res.bind (ev C a' .v σ s) _) _ = Res.bind (ev C a' .v σ s) _
  cases ev C a' .v σ s with
  | stuck => rfl
  | exc c s => rfl
  | ok x s1 =>
    show Res.bind (Res.bind (ev C b' .v σ s1) _) _ = Res.bind (ev C b' .v σ s1) _
    cases ev C b' .v σ s1 with
    | stuck => rfl
    | exc c s => rfl
    | ok y s2 =>
      show Res.bind (Res.of ((cmpR c x y).map _) s2) _ = Res.of ((cmpR c x y).map _) s2
      cases cmpR c x y <;> rfl
theorem sT_cmp (hu : X.A.units + 9 < cLine) (c : Cm) (ha : PE X a (tV G X C a')) (hb : PE X b (tV G X C b')) (hm : behindInMarks (cmOf c) b = false) : PT X (.Compare a [cmOf c] [b] pos) (tT G X C (.cmp c a' b')) := by
  refine PT.imp (pt_cmpR (cmp_ok (G := G) hu c) ha hb hm) ?_
  rintro σV H Q ⟨w₀, H₀, w, σ, s, g, h⟩
  rw [cmp_t] at h
  exact t2_of (f := cmpV c) ⟨w₀, H₀, w, σ, s, g, h⟩
/-! ### one operand -/
def r1 (G : Gx) (f : R → Option R) : V → Hp → VK → Prop := fun x H Q => ∃ w s rx r, StoOk G w H s ∧ RepR G w H rx x ∧ f rx = some r ∧ ∀ w' H' v, Le w w' H H' → StoOk G w' H' s → RepR G w' H' r v → Q v H'
theorem t1_of {f : R → Option R} {σV : St} {H : Hp} {Q : VK} (h : ∃ w₀ H₀ w σ s, Good G w₀ H₀ w H σ s σV ∧ Want G X σV w H ((ev C a' .v σ s).bind fun x s1 => .of (f x) s1) Q) :
    tV G X C a' σV H fun x H1 => r1 G f x H1 Q := by
  obtain ⟨w₀, H₀, w, σ, s, g, h⟩ := h
  refine ⟨w₀, H₀, w, σ, s, g, (Want.bind h).imp ?_⟩
  rintro x H1 ⟨w1, r1, s1, L1, S1, R1, h1⟩
  obtain ⟨r, e, q⟩ := Want.of h1
  exact ⟨w1, s1, r1, r, S1, R1, e, q⟩
theorem sV_neg (ha : PE X a (tV G X C a')) : PE X (.UnaryOp .USub a pos) (tV G X C (.neg a')) := by
  refine PE.imp (pe_un un_neg ha) ?_
  rintro σV H Q h
  have h := t1_of (f := fun x => x.int?.map fun i => R.val (.int (-i))) h
  refine (show tV G X C a' σV H _ from ?_)
  obtain ⟨w₀, H₀, w, σ, s, g, h⟩ := h
  refine ⟨w₀, H₀, w, σ, s, g, h.imp ?_⟩
  rintro x H1 ⟨w1, s1, rx, r, S1, R1, e, q⟩
  match rx, e with
  | .val (.int i), e => cases e; cases R1; exact ⟨i, rfl, q w1 H1 _ (Le.refl _ _) S1 rfl⟩
theorem sV_not (ha : PE X a (tV G X C a')) : PE X (.UnaryOp .Not a pos) (tV G X C (.not a')) := by
  intro pins s σ H Q I h
  have h := t1_of (f := fun x => (tru x).map fun k => R.val (.bl (!k))) h
  refine PyProof.Rows.UnaryOp_ (thn (ha pins s σ H _ I h) fun v s1 ⟨x, H1, I1, r1, q1⟩ => ?_)
  obtain ⟨w1, st, rx, r, S1, R1, e, q⟩ := q1
  dsimp only at e
  cases ht : tru rx with
  | none => rw [ht] at e; cases e
  | some k =>
    rw [ht] at e
    cases e
    exact PyProof.Rows.not_of (thn (tru_ok pins s1 σ H1 x v (fun c H2 => Q (.bl (!c)) H2) I1 r1 ⟨k, tru_V R1 ht, q w1 H1 _ (Le.refl _ _) S1 rfl⟩) fun c s2 ⟨H2, I2, z⟩ => ⟨.bl (!c), H2, I2, rfl, z⟩)
/-! ### and, or, not, if -/
theorem onB_t {w : Wo} {H : Hp} {σV : St} {x : R} {v : V} {m n : Res R} {Q : VK} (r : RepR G w H x v) (h : Want G X σV w H (onB x m n) Q) : ∃ k, v = .bl k ∧ x = .val (.bl k) ∧ Want G X σV w H (if k = true then m else n) Q := by
  match x, h with
  | .val (.bl true), h => exact ⟨true, r, rfl, h⟩
  | .val (.bl false), h => exact ⟨false, r, rfl, h⟩
  | .val .non, h => exact h.elim
  | .val (.int _), h => exact h.elim
  | .val (.str _), h => exact h.elim
  | .val (.tup _), h => exact h.elim
  | .val (.lst _), h => exact h.elim
  | .val (.loc _), h => exact h.elim
  | .val (.exc _), h => exact h.elim
  | .bor _, h => exact h.elim
theorem sT_not (ha : PT X a (tT G X C a')) : PT X (.UnaryOp .Not a pos) (tT G X C (.not a')) := by
  refine PT.imp (pt_not ha) ?_
  rintro σV H Q ⟨w₀, H₀, w, σ, s, g, h⟩
  refine ⟨w₀, H₀, w, σ, s, g, (Want.bind h).imp ?_⟩
  rintro v H1 ⟨w1, r, s1, L1, S1, R1, h1⟩
  obtain ⟨k, rfl, rfl, h1⟩ := onB_t R1 h1
  refine ⟨k, rfl, ?_⟩
  cases k with
  | true => obtain ⟨_, e, q⟩ := h1 w1 H1 (.bl false) (Le.refl _ _) S1 rfl; cases e; exact q
  | false => obtain ⟨_, e, q⟩ := h1 w1 H1 (.bl true) (Le.refl _ _) S1 rfl; cases e; exact q
theorem tT_and {σV : St} {H : Hp} {Q : Bool → Hp → Prop} (h : tT G X C (.and a' b') σV H Q) : tAnd (tT G X C a') (tT G X C b') σV H Q := by
  obtain ⟨w₀, H₀, w, σ, s, g, h⟩ := h
  refine ⟨w₀, H₀, w, σ, s, g, (Want.bind h).imp ?_⟩
  rintro v H1 ⟨w1, r, s1, L1, S1, R1, h1⟩
  obtain ⟨k, rfl, rfl, h1⟩ := onB_t R1 h1
  refine ⟨k, rfl, ?_⟩
  cases k with
  | true => exact iteT ⟨w₀, H₀, w1, σ, s1, g.step L1 S1, h1⟩
  | false => obtain ⟨_, e, q⟩ := h1 w1 H1 (.bl false) (Le.refl _ _) S1 rfl; cases e; exact iteF q
theorem tT_or {σV : St} {H : Hp} {Q : Bool → Hp → Prop} (h : tT G X C (.or a' b') σV H Q) : tOr (tT G X C a') (tT G X C b') σV H Q := by
  obtain ⟨w₀, H₀, w, σ, s, g, h⟩ := h
  refine ⟨w₀, H₀, w, σ, s, g, (Want.bind h).imp ?_⟩
  rintro v H1 ⟨w1, r, s1, L1, S1, R1, h1⟩
  obtain ⟨k, rfl, rfl, h1⟩ := onB_t R1 h1
  refine ⟨k, rfl, ?_⟩
  cases k with
  | true => obtain ⟨_, e, q⟩ := h1 w1 H1 (.bl true) (Le.refl _ _) S1 rfl; cases e; exact iteT q
  | false => exact iteF ⟨w₀, H₀, w1, σ, s1, g.step L1 S1, h1⟩
theorem PW.imp {e : Expr} {t t' : TT} (h : PW X e t) (q : ∀ σ H Q, t' σ H Q → t σ H Q) : PW X e t' := fun wh pins s σ H Q I z => h wh pins s σ H Q I (q _ _ _ z)
/-- of the words behind an and: one, or an and again -/
def PTb (X : Cx) (op : BoolOp) (es : List Expr) (pos : Pos) (t : TT) : Prop := PW X (.BoolOp op es pos) t
theorem ptb_one_and (h : PT X a (tT G X C a')) : PTb X .And [a] pos (tT G X C a') := pw_and1 h
theorem ptb_one_or (h : PT X a (tT G X C a')) : PTb X .Or [a] pos (tT G X C a') := pw_or1 h
theorem ptb_and (ha : PT X a (tT G X C a')) (hb : PTb X .And (b :: rest) pos (tT G X C b')) : PTb X .And (a :: b :: rest) pos (tT G X C (.and a' b')) := PW.imp (pw_and ha hb) fun _ _ _ h => tT_and h
theorem ptb_or (ha : PT X a (tT G X C a')) (hb : PTb X .Or (b :: rest) pos (tT G X C b')) : PTb X .Or (a :: b :: rest) pos (tT G X C (.or a' b')) := PW.imp (pw_or ha hb) fun _ _ _ h => tT_or h
theorem sV_and (ha : PE X a (tV G X C a')) (hb : PE X (.BoolOp .And (b :: rest) pos) (tV G X C b')) : PE X (.BoolOp .And (a :: b :: rest) pos) (tV G X C (.and a' b')) := by
  refine PE.imp (pe_and ha hb) ?_
  rintro σV H Q ⟨w₀, H₀, w, σ, s, g, h⟩
  refine ⟨w₀, H₀, w, σ, s, g, (Want.bind h).imp ?_⟩
  rintro v H1 ⟨w1, r, s1, L1, S1, R1, h1⟩
  obtain ⟨k, rfl, rfl, h1⟩ := onB_t R1 h1
  refine ⟨k, rfl, ?_⟩
  cases k with
  | true => exact iteT ⟨w₀, H₀, w1, σ, s1, g.step L1 S1, h1⟩
  | false => exact iteF (h1 w1 H1 (.bl false) (Le.refl _ _) S1 rfl)
/-! ### displays, arguments -/
def WantA (G : Gx) (X : Cx) (σV : St) (w : Wo) (H : Hp) (res : Res (List T)) (Q : List V → Hp → Prop) : Prop := match res with
  | .stuck => False
  | .ok ts s' => ∀ w' H' vs, Le w w' H H' → StoOk G w' H' s' → Reps G w' H' ts vs → Q vs H'
  | .exc c s' => ∀ w' H' pins u sh, Le w w' H H' → StoOk G w' H' s' → Thrown G X pins σV H' c u sh → X.xe u sh
def WantR (G : Gx) (X : Cx) (σV : St) (w : Wo) (H : Hp) (res : Res (List R)) (Q : List V → Hp → Prop) : Prop := match res with
  | .stuck => False
  | .ok ts s' => ∀ w' H' vs, Le w w' H H' → StoOk G w' H' s' → RepRs G w' H' ts vs → Q vs H'
  | .exc c s' => ∀ w' H' pins u sh, Le w w' H H' → StoOk G w' H' s' → Thrown G X pins σV H' c u sh → X.xe u sh
def tA (G : Gx) (X : Cx) (C : Cf) (es : List E) : TA := fun σV H Q => ∃ w₀ H₀ w σ s, Good G w₀ H₀ w H σ s σV ∧ WantA G X σV w H (evs C es σ s) Q
def tR (G : Gx) (X : Cx) (C : Cf) (es : List E) : TA := fun σV H Q => ∃ w₀ H₀ w σ s, Good G w₀ H₀ w H σ s σV ∧ WantR G X σV w H (evr C es σ s) Q
theorem sA_nil : PA X [] (tA G X C []) := PA.imp pa_nil fun σV H Q ⟨w₀, H₀, w, σ, s, g, h⟩ => h w H [] (Le.refl _ _) g.sto rfl
theorem sR_nil : PA X [] (tR G X C []) := PA.imp pa_nil fun σV H Q ⟨w₀, H₀, w, σ, s, g, h⟩ => h w H [] (Le.refl _ _) g.sto rfl
variable {es : List Expr} {es' : List E}
theorem sA_cons (ha : PE X a (tV G X C a')) (hr : PA X es (tA G X C es')) (hs : starEach (a :: es) X.env = (false, eval a X.env) :: starEach es X.env) : PA X (a :: es) (tA G X C (a' :: es')) := by
  refine PA.imp (pa_cons ha hr hs) ?_
  rintro σV H Q ⟨w₀, H₀, w, σ, s, g, h⟩
  have h : WantA G X σV w H ((ev C a' .v σ s).bind fun x s1 => onV x fun t => (evs C es' σ s1).bind fun ts s2 => .ok (t :: ts) s2) Q := h
  refine ⟨w₀, H₀, w, σ, s, g, ?_⟩
  cases he : ev C a' .v σ s with
  | stuck => rw [he] at h; exact h
  | exc c s1 => rw [he] at h; exact h
  | ok x s1 =>
    rw [he] at h
    intro w1 H1 v L1 S1 R1
    match x, h with
    | .bor _, h => exact h.elim
    | .val t, h =>
      have h : WantA G X σV w H ((evs C es' σ s1).bind fun ts s2 => .ok (t :: ts) s2) Q := h
      refine ⟨w₀, H₀, w1, σ, s1, g.step L1 S1, ?_⟩
      cases hf : evs C es' σ s1 with
      | stuck => rw [hf] at h; exact h
      | exc c s2 => rw [hf] at h; exact fun w2 H2 pins u sh L2 => h w2 H2 pins u sh (L1.trans L2)
      | ok ts s2 =>
        rw [hf] at h
        intro w2 H2 vs L2 S2 R2
        exact h w2 H2 (v :: vs) (L1.trans L2) S2 ⟨v, vs, rfl, Rep.mono L2 S1 t v R1, R2⟩
theorem sR_cons (ha : PE X a (tV G X C a')) (hr : PA X es (tR G X C es')) (hs : starEach (a :: es) X.env = (false, eval a X.env) :: starEach es X.env) : PA X (a :: es) (tR G X C (a' :: es')) := by
  refine PA.imp (pa_cons ha hr hs) ?_
  rintro σV H Q ⟨w₀, H₀, w, σ, s, g, h⟩
  have h : WantR G X σV w H ((ev C a' .v σ s).bind fun x s1 => (evr C es' σ s1).bind fun ts s2 => .ok (x :: ts) s2) Q := h
  refine ⟨w₀, H₀, w, σ, s, g, ?_⟩
  cases he : ev C a' .v σ s with
  | stuck => rw [he] at h; exact h
  | exc c s1 => rw [he] at h; exact h
  | ok x s1 =>
    rw [he] at h
    intro w1 H1 v L1 S1 R1
    have h : WantR G X σV w H ((evr C es' σ s1).bind fun ts s2 => .ok (x :: ts) s2) Q := h
    refine ⟨w₀, H₀, w1, σ, s1, g.step L1 S1, ?_⟩
    cases hf : evr C es' σ s1 with
    | stuck => rw [hf] at h; exact h
    | exc c s2 => rw [hf] at h; exact fun w2 H2 pins u sh L2 => h w2 H2 pins u sh (L1.trans L2)
    | ok ts s2 =>
      rw [hf] at h
      intro w2 H2 vs L2 S2 R2
      exact h w2 H2 (v :: vs) (L1.trans L2) S2 ⟨v, vs, rfl, RepR.mono L2 S1 R1, R2⟩
theorem evs_len (C : Cf) : ∀ (es : List E) (σ : Fr) (s : Sto) (ts : List T) (s' : Sto), evs C es σ s = .ok ts s' → ts.length = es.length
  | [], σ, s, ts, s', h => by cases h; rfl
  | e :: es, σ, s, ts, s', h => by
    unfold evs at h
    cases he : ev C e .v σ s with
    | stuck => rw [he] at h; cases h
    | exc c s1 => rw [he] at h; cases h
    | ok x s1 =>
      rw [he] at h
      match x, h with
      | .bor _, h => cases h
      | .val t, h =>
        have h : ((evs C es σ s1).bind fun ts s2 => Res.ok (t :: ts) s2) = .ok ts s' := h
        cases hf : evs C es σ s1 with
        | stuck => rw [hf] at h; cases h
        | exc c s2 => rw [hf] at h; cases h
        | ok us s2 =>
          rw [hf] at h
          cases h
          simp [evs_len C es σ s1 us _ hf]
theorem sV_tup {k : Nat} (h : PA X es (tA G X C es')) (hz : es'.length ≤ sizeLine) : PE X (.Tuple es k pos) (tV G X C (.tup es')) := by
  refine PE.imp (pe_tup h) ?_
  rintro σV H Q ⟨w₀, H₀, w, σ, s, g, h⟩
  have h : Want G X σV w H ((evs C es' σ s).bind fun ts s1 => .ok (.val (.tup ts)) s1) Q := h
  refine ⟨w₀, H₀, w, σ, s, g, ?_⟩
  cases hf : evs C es' σ s with
  | stuck => rw [hf] at h; exact h
  | exc c s2 => rw [hf] at h; exact h
  | ok ts s2 =>
    rw [hf] at h
    intro w2 H2 vs L2 S2 R2
    refine ⟨by rw [← R2.length, evs_len C _ _ _ _ _ hf]; exact hz, ?_⟩
    exact fin_tup S2 R2 fun w' H' v L S R => h w' H' v (L2.trans L) S R
theorem sV_lst (h : PA X es (tA G X C es')) (hz : es'.length ≤ sizeLine) : PE X (.List es pos) (tV G X C (.lst es')) := by
  refine PE.imp (pe_lst h) ?_
  rintro σV H Q ⟨w₀, H₀, w, σ, s, g, h⟩
  have h : Want G X σV w H ((evs C es' σ s).bind fun ts s1 => .ok (.val (.lst ts)) s1) Q := h
  refine ⟨w₀, H₀, w, σ, s, g, ?_⟩
  cases hf : evs C es' σ s with
  | stuck => rw [hf] at h; exact h
  | exc c s2 => rw [hf] at h; exact h
  | ok ts s2 =>
    rw [hf] at h
    intro w2 H2 vs L2 S2 R2
    refine ⟨by rw [← R2.length, evs_len C _ _ _ _ _ hf]; exact hz, ?_⟩
    exact fin_lst S2 R2 fun w' H' v L S R => h w' H' v (L2.trans L) S R
end
end IP

end
section
set_option Elab.async false
set_option linter.all false
set_option maxRecDepth 100000
namespace IP
open PySem PySem.Spec L2 PySem.SeqAt
section
variable {G : Gx} {X : Cx} {C : Cf} {a b c : Expr} {a' b' c' e' : E} {pos p : Pos} {rest : List Expr}
theorem Reps.atI {w : Wo} {H : Hp} {ts : List T} {vs : List V} {i : Int} {t : T} (r : Reps G w H ts vs) (h : L2.atI ts i = some t) : ∃ v, L2.atI vs i = some v ∧ Rep G w H t v := by
  unfold L2.atI at h ⊢
  rw [← r.length]
  cases e : ixN ts.length i with
  | none => rw [e] at h; cases h
  | some j =>
    rw [e] at h
    exact r.get h
theorem sV_sub (ha : PE X a (tV G X C a')) (hb : PE X b (tV G X C b')) (hs : PlainIx b) : PE X (.Subscript a b pos) (tV G X C (.sub a' b')) := by
  refine PE.imp (pe_ix ix_seq ha hb hs) ?_
  rintro σV H Q ⟨w₀, H₀, w, σ, s, g, h⟩
  refine ⟨w₀, H₀, w, σ, s, g, (Want.bind h).imp ?_⟩
  rintro x H1 ⟨w1, r1, s1, L1, S1, R1, h1⟩
  refine ⟨w₀, H₀, w1, σ, s1, g.step L1 S1, (Want.bind h1).imp ?_⟩
  rintro y H2 ⟨w2, r2, s2, M2, S2, R2, h2⟩
  have R1' := R1.mono M2 S1
  match r2, h2 with
  | .val (.int i), h2 =>
    obtain ⟨r, e, q⟩ := Want.of h2
    cases R2
    unfold subR at e
    cases hx : r1.sq2 with
    | none => rw [hx] at e; cases e
    | some ts =>
      rw [hx] at e
      dsimp only at e
      cases ht : L2.atI ts i with
      | none => rw [ht] at e; cases e
      | some t =>
        rw [ht] at e
        cases e
        obtain ⟨pa, vs, rfl, hp, rp⟩ := RepR.sq2 R1' hx
        obtain ⟨v, hv, rv⟩ := rp.atI ht
        rcases hp with hp | hp
        · exact .inl ⟨pa, vs, i, v, rfl, rfl, .inl hp, hv, q w2 H2 v (Le.refl _ _) S2 rv⟩
        · exact .inr (.inl ⟨pa, vs, i, v, rfl, rfl, SqT.of hp, hv, q w2 H2 v (Le.refl _ _) S2 rv⟩)
  | .val .non, h2 => exact h2.elim
  | .val (.bl _), h2 => exact h2.elim
  | .val (.str _), h2 => exact h2.elim
  | .val (.tup _), h2 => exact h2.elim
  | .val (.lst _), h2 => exact h2.elim
  | .val (.loc _), h2 => exact h2.elim
  | .val (.exc _), h2 => exact h2.elim
  | .bor _, h2 => exact h2.elim
/-! ### slices -/
def rSl (G : Gx) : V → Option Int → Option Int → Hp → VK → Prop := fun x lo hi H Q => ∃ w s rx r, StoOk G w H s ∧ RepR G w H rx x ∧ cutR rx lo hi = some r ∧ ∀ w' H' v, Le w w' H H' → StoOk G w' H' s → RepR G w' H' r v → Q v H'
theorem SlR.imp {r r' : V → Option Int → Option Int → Hp → VK → Prop} (h : SlR X r) (q : ∀ x lo hi H Q, r' x lo hi H Q → r x lo hi H Q) : SlR X r' := fun pins s σ H x v vl vu lo hi sl Q I rx hs pl pu z => h pins s σ H x v vl vu lo hi sl Q I rx hs pl pu (q _ _ _ _ _ z)
theorem sl_ok : SlR X (rSl G) := by
  refine SlR.imp (SlR.or sl_tup sl_list) ?_
  rintro x lo hi H Q ⟨w, s, rx, r, S, R1, e, q⟩
  unfold cutR at e
  split at e
  · rename_i ts
    split at e
    · cases e
    · rename_i hc
      cases e
      obtain ⟨pa, vs, rfl, hp, rp⟩ := R1
      refine .inl ⟨pa, vs, rfl, SqT.of hp, by rw [← rp.length]; exact hc, fin_tup S (rp.cut lo hi) q⟩
  · rename_i ts
    cases e
    obtain ⟨pa, vs, rfl, _, hp, rp⟩ := R1
    exact .inr ⟨pa, vs, rfl, .inl hp, fin_lst S (rp.cut lo hi) q⟩
  · rename_i ts
    cases e
    obtain ⟨pa, vs, rfl, hp, rp, _⟩ := R1
    exact .inr ⟨pa, vs, rfl, SqL.of hp, fin_lst S (rp.cut lo hi) q⟩
  · cases e
theorem onI_t {w : Wo} {H : Hp} {σV : St} {x : R} {v : V} {f : Int → Res R} {Q : VK} (r : RepR G w H x v) (h : Want G X σV w H (onI x f) Q) : ∃ i, v = .int i ∧ x = .val (.int i) ∧ Want G X σV w H (f i) Q := by
  match x, h with
  | .val (.int i), h => exact ⟨i, r, rfl, h⟩
  | .val .non, h => exact h.elim
  | .val (.bl _), h => exact h.elim
  | .val (.str _), h => exact h.elim
  | .val (.tup _), h => exact h.elim
  | .val (.lst _), h => exact h.elim
  | .val (.loc _), h => exact h.elim
  | .val (.exc _), h => exact h.elim
  | .bor _, h => exact h.elim
theorem sV_cutL {p2 : Pos} (ha : PE X a (tV G X C a')) (hb : PE X b (tV G X C b')) : PE X (.Subscript a (.Slice (some b) none none p2) pos) (tV G X C (.cutL a' b')) := by
  refine PE.imp (pe_slice (sl_ok (G := G)) ha (po_some hb) po_none) ?_
  rintro σV H Q ⟨w₀, H₀, w, σ, s, g, h⟩
  refine ⟨w₀, H₀, w, σ, s, g, (Want.bind h).imp ?_⟩
  rintro x H1 ⟨w1, r1, s1, L1, S1, R1, h1⟩
  refine ⟨w₀, H₀, w1, σ, s1, g.step L1 S1, (Want.bind h1).imp ?_⟩
  rintro y H2 ⟨w2, r2, s2, L2, S2, R2, h2⟩
  obtain ⟨i, rfl, rfl, h2⟩ := onI_t R2 h2
  obtain ⟨r, e, q⟩ := Want.of h2
  exact ⟨i, rfl, w2, s2, r1, r, S2, R1.mono L2 S1, e, q⟩
theorem sV_cutU {p2 : Pos} (ha : PE X a (tV G X C a')) (hb : PE X b (tV G X C b')) : PE X (.Subscript a (.Slice none (some b) none p2) pos) (tV G X C (.cutU a' b')) := by
  refine PE.imp (pe_slice (sl_ok (G := G)) ha po_none (po_some hb)) ?_
  rintro σV H Q ⟨w₀, H₀, w, σ, s, g, h⟩
  refine ⟨w₀, H₀, w, σ, s, g, (Want.bind h).imp ?_⟩
  rintro x H1 ⟨w1, r1, s1, L1, S1, R1, h1⟩
  refine ⟨w₀, H₀, w1, σ, s1, g.step L1 S1, (Want.bind h1).imp ?_⟩
  rintro y H2 ⟨w2, r2, s2, L2, S2, R2, h2⟩
  obtain ⟨i, rfl, rfl, h2⟩ := onI_t R2 h2
  obtain ⟨r, e, q⟩ := Want.of h2
  exact ⟨i, rfl, w2, s2, r1, r, S2, R1.mono L2 S1, e, q⟩
/-! ### builtins of one argument -/
def rB1 (G : Gx) (f : R → Option R) : List V → Hp → VK → Prop := fun xs H Q => ∃ v, xs = [v] ∧ r1 G f v H Q
theorem CallR.imp {f : Value} {r r' : List V → Hp → VK → Prop} (h : CallR X f r) (q : ∀ xs H Q, r' xs H Q → r xs H Q) : CallR X f r' := fun pins s σ H xs us Q I rx z => h pins s σ H xs us Q I rx (q _ _ _ z)
theorem sB1 {f : R → Option R} {id : String} {x : Str} (hc : CallR X (.builtin id) (rB1 G f)) (hg : Gl X x) (hm : X.mg x = none) (hv : bootBuiltins x = some (.builtin id)) (hn : x ≠ "__name__") (hdb : (x == ("__debug__" : Str)) = false)
    (ha : PE X a (tV G X C a')) (hs : starEach [a] X.env = [(false, eval a X.env)]) (hev : ∀ σ s, ev C e' .v σ s = (ev C a' .v σ s).bind fun x s1 => .of (f x) s1) : PE X (.Call (.Name x p) [a] [] pos) (tV G X C e') := by
  refine PE.imp (pe_callB hc hg hm hv (pa_cons ha pa_nil hs) hn hdb hs rfl) ?_
  rintro σV H Q ⟨w₀, H₀, w, σ, s, g, h⟩
  rw [hev] at h
  obtain ⟨w₀, H₀, w, σ, s, g, h⟩ := t1_of ⟨w₀, H₀, w, σ, s, g, h⟩
  exact ⟨w₀, H₀, w, σ, s, g, h.imp fun v H1 q => ⟨v, rfl, q⟩⟩
theorem sTy1 {f : R → Option R} {T : String} {x : Str} (hc : CallR X (.type T) (rB1 G f)) (hg : Gl X x) (hm : X.mg x = none) (hv : bootBuiltins x = some (.type T)) (hn : x ≠ "__name__") (hdb : (x == ("__debug__" : Str)) = false)
    (ha : PE X a (tV G X C a')) (hs : starEach [a] X.env = [(false, eval a X.env)]) (hev : ∀ σ s, ev C e' .v σ s = (ev C a' .v σ s).bind fun x s1 => .of (f x) s1) : PE X (.Call (.Name x p) [a] [] pos) (tV G X C e') := by
  refine PE.imp (pe_callTy hc hg hm hv (pa_cons ha pa_nil hs) hn hdb hs rfl) ?_
  rintro σV H Q ⟨w₀, H₀, w, σ, s, g, h⟩
  rw [hev] at h
  obtain ⟨w₀, H₀, w, σ, s, g, h⟩ := t1_of ⟨w₀, H₀, w, σ, s, g, h⟩
  exact ⟨w₀, H₀, w, σ, s, g, h.imp fun v H1 q => ⟨v, rfl, q⟩⟩
theorem map_some {α β : Type} {o : Option α} {f : α → β} {r : β} (h : o.map f = some r) : ∃ a, o = some a ∧ r = f a := by
  cases o with
  | none => cases h
  | some a => cases h; exact ⟨a, rfl, rfl⟩
theorem c_len : CallR X (.builtin "len") (rB1 G (b1R .len)) := by
  refine CallR.imp call_len_seq ?_
  rintro xs H Q ⟨v, rfl, w, s, rx, r, S, R1, e, q⟩
  obtain ⟨ts, ht, rfl⟩ := map_some e
  obtain ⟨pa, vs, rfl, hp, rp⟩ := RepR.sq2 R1 ht
  refine ⟨pa, vs, rfl, hp.imp (fun h => .inl h) (fun h => SqT.of h), ?_⟩
  rw [← rp.length]
  exact q w H _ (Le.refl _ _) S rfl
theorem c_abs : CallR X (.builtin "abs") (rB1 G (b1R .abs)) := by
  refine CallR.imp call_abs ?_
  rintro xs H Q ⟨v, rfl, w, s, rx, r, S, R1, e, q⟩
  obtain ⟨i, hi, rfl⟩ := map_some e
  cases R1.int hi
  exact ⟨i, rfl, q w H _ (Le.refl _ _) S rfl⟩
theorem c_list : CallR X (.type "list") (rB1 G (b1R .list)) := by
  refine CallR.imp call_list_of ?_
  rintro xs H Q ⟨v, rfl, w, s, rx, r, S, R1, e, q⟩
  obtain ⟨ts, ht, rfl⟩ := map_some e
  obtain ⟨pa, vs, rfl, hp, rp⟩ := RepR.sq2 R1 ht
  exact ⟨pa, vs, rfl, hp.imp (fun h => .inl h) (fun h => SqT.of h), fin_lst S rp q⟩
/-! ### two arguments -/
def rB2 (G : Gx) (f : R → R → Option R) : List V → Hp → VK → Prop := fun xs H Q => ∃ v u, xs = [v, u] ∧ r2 G f v u H Q
theorem sB2 {f : R → R → Option R} {id : String} {x : Str} (hc : CallR X (.builtin id) (rB2 G f)) (hg : Gl X x) (hm : X.mg x = none) (hv : bootBuiltins x = some (.builtin id)) (hn : x ≠ "__name__") (hdb : (x == ("__debug__" : Str)) = false)
    (ha : PE X a (tV G X C a')) (hb : PE X b (tV G X C b')) (hs : starEach [a, b] X.env = [(false, eval a X.env), (false, eval b X.env)]) (hs2 : starEach [b] X.env = [(false, eval b X.env)])
    (hev : ∀ σ s, ev C e' .v σ s = (ev C a' .v σ s).bind fun x s1 => (ev C b' .v σ s1).bind fun y s2 => .of (f x y) s2) : PE X (.Call (.Name x p) [a, b] [] pos) (tV G X C e') := by
  refine PE.imp (pe_callB hc hg hm hv (pa_cons ha (pa_cons hb pa_nil hs2) (by rw [hs, hs2])) hn hdb (by rw [hs, hs2]) (by rw [hs2]; rfl)) ?_
  rintro σV H Q ⟨w₀, H₀, w, σ, s, g, h⟩
  rw [hev] at h
  obtain ⟨w₀, H₀, w, σ, s, g, h⟩ := t2_of (f := f) ⟨w₀, H₀, w, σ, s, g, h⟩
  refine ⟨w₀, H₀, w, σ, s, g, h.imp ?_⟩
  rintro v H1 ⟨w₀, H₀, w, σ, s, g, h⟩
  exact ⟨w₀, H₀, w, σ, s, g, h.imp fun u H2 q => ⟨v, u, rfl, q⟩⟩
def mx2R (x y : R) : Option R := do let i ← x.int?; let j ← y.int?; some (.val (.int (if j > i then j else i)))
theorem ii2 {x y r : R} {g : Int → Int → R} (h : (do let i ← x.int?; let j ← y.int?; some (g i j)) = some r) : ∃ i j, x.int? = some i ∧ y.int? = some j ∧ r = g i j := by
  cases hx : x.int? with
  | none => rw [hx] at h; cases h
  | some i =>
    cases hy : y.int? with
    | none => rw [hx, hy] at h; cases h
    | some j => rw [hx, hy] at h; cases h; exact ⟨i, j, rfl, rfl, rfl⟩
theorem c_max2 (hc : X.calm = true) : CallR X (.builtin "max") (rB2 G mx2R) := by
  refine CallR.imp (call_max2 hc) ?_
  rintro xs H Q ⟨v, u, rfl, w, s, rx, ry, r, S, R1, R2, e, q⟩
  obtain ⟨i, j, hi, hj, rfl⟩ := ii2 e
  cases R1.int hi
  cases R2.int hj
  exact ⟨i, j, rfl, q w H _ (Le.refl _ _) S rfl⟩
/-! ### isinstance -/
def tyOf : Ty → Option String
  | .int => some "int" | .bool => some "bool" | .tuple => some "tuple" | .list => some "list" | .str => some "str" | .cls _ => none
theorem isi_ty {w : Wo} {H : Hp} {st : Sto} {x : R} {v : V} {c : Ty} {k : Bool} {n : String} (S : StoOk G w H st) (r : RepR G w H x v) (hn : tyOf c = some n) (h : isiR x c = some k) : ∃ t, TyOf X.K H v t ∧ PySem.W.kitOne X.K t (.type n) = some k := by
  have lst : ∀ {a : Addr} {vs : List V}, Rd H a (.lst vs) → TyOf X.K H (.ref a) (.type "list") := fun {a vs} q => by
    rcases q with q | ⟨o, q⟩
    · exact .lst q
    · exact .frz q
  unfold isiR at h
  split at h <;> first
    | (cases h; done)
    | (cases h; cases hn; cases r; exact ⟨_, .int _, by with_unfolding_all rfl⟩)
    | (cases h; cases hn; cases r; exact ⟨_, .bl _, by with_unfolding_all rfl⟩)
    | (cases h; cases hn; cases r; exact ⟨_, .non, by with_unfolding_all rfl⟩)
    | (cases h; cases hn; obtain ⟨a, vs, rfl, q, _⟩ := r; exact ⟨_, .tup q, by with_unfolding_all rfl⟩)
    | (cases h; cases hn; obtain ⟨a, vs, rfl, _, q, _⟩ := r; exact ⟨_, lst q, by with_unfolding_all rfl⟩)
    | (cases h; cases hn; obtain ⟨a, vs, rfl, q, _⟩ := r; exact ⟨_, .lst q, by with_unfolding_all rfl⟩)
theorem sV_isi {c : Ty} {n : String} {y : Str} {py : Pos} (hn : tyOf c = some n) (hg : Gl X "isinstance") (hm : X.mg "isinstance" = none) (hgy : Gl X y) (hmy : X.mg y = none) (hv : bootBuiltins y = some (.type n)) (hy : y ≠ "__name__") (hdy : (y == ("__debug__" : Str)) = false)
    (ha : PE X a (tV G X C a')) (hs : starEach [a, .Name y py] X.env = [(false, eval a X.env), (false, eval (.Name y py) X.env)]) : PE X (.Call (.Name "isinstance" p) [a, .Name y py] [] pos) (tV G X C (.isi a' c)) := by
  have hc : CallR X (.builtin "isinstance") (fun xs H Q => ∃ v, xs = [v, .ty n] ∧ r1 G (fun x => (isiR x c).map fun k => .val (.bl k)) v H Q) := by
    rintro pins s σ H xs us Q I rv ⟨v, rfl, w, st, rx, r, S, R1, e, q⟩
    obtain ⟨u, u', rfl, r1, r2⟩ := rv.two
    cases r2
    obtain ⟨k, hk, rfl⟩ := map_some e
    obtain ⟨t, ht, hk'⟩ := isi_ty (X := X) S R1 hn hk
    exact isinst_ok I r1 ht hk' fun tk => ⟨.bl k, H, I.tok tk, rfl, q w H _ (Le.refl _ _) S rfl⟩
  refine PE.imp (pe_callB hc hg hm (show bootBuiltins "isinstance" = some (.builtin "isinstance") by decide +kernel) (pa_cons ha (pa_cons (pe_bltn (v := .ty n) hgy hmy hv rfl hy hdy) pa_nil rfl) (by rw [hs]; rfl)) (by decide) (by decide) (by rw [hs]; rfl) rfl) ?_
  rintro σV H Q ⟨w₀, H₀, w, σ, s, g, h⟩
  obtain ⟨w₀, H₀, w, σ, s, g, h⟩ := t1_of (f := fun x => (isiR x c).map fun k => .val (.bl k)) ⟨w₀, H₀, w, σ, s, g, h⟩
  exact ⟨w₀, H₀, w, σ, s, g, h.imp fun v H1 q => ⟨v, rfl, q⟩⟩
end
end IP

end
section
set_option Elab.async false
set_option linter.all false
set_option maxRecDepth 100000
namespace IP
open PySem PySem.Spec L2 PySem.SeqAt PyProof.Rows.LSm
section
variable {G : Gx} {X : Cx}
theorem asInts_are {w : Wo} {H : Hp} : ∀ {ts : List T} {is : List Int} {vs : List V} {its : List Value}, asInts ts = some is → Reps G w H ts vs → Vals vs its → PyProof.Rows.IntsAre its is
  | [], is, vs, its, h, r, q => by
    cases h
    cases r
    rw [Vals.zero q]
    exact .nil
  | .int i :: ts, is, vs, its, h, ⟨v, r, e, h1, h2⟩, q => by
    unfold asInts at h
    obtain ⟨js, hj, rfl⟩ := map_some h
    subst e
    cases h1
    cases q with
    | cons q1 q2 =>
      obtain ⟨t, rfl⟩ := q1
      exact .cons i t (asInts_are hj h2 q2)
  | .non :: ts, is, vs, its, h, r, q => by simp [asInts] at h
  | .bl _ :: ts, is, vs, its, h, r, q => by simp [asInts] at h
  | .str _ :: ts, is, vs, its, h, r, q => by simp [asInts] at h
  | .tup _ :: ts, is, vs, its, h, r, q => by simp [asInts] at h
  | .lst _ :: ts, is, vs, its, h, r, q => by simp [asInts] at h
  | .loc _ :: ts, is, vs, its, h, r, q => by simp [asInts] at h
  | .exc _ :: ts, is, vs, its, h, r, q => by simp [asInts] at h
theorem bind2 {α β γ : Type} {o : Option α} {p : α → Option β} {f : α → β → Option γ} {r : γ} (h : (do let a ← o; let b ← p a; f a b) = some r) : ∃ a b, o = some a ∧ p a = some b ∧ f a b = some r := by
  cases ho : o with
  | none => rw [ho] at h; cases h
  | some a =>
    rw [ho] at h
    cases hp : p a with
    | none => simp [hp] at h
    | some b => simp [hp] at h; exact ⟨a, b, rfl, hp, h⟩
/-! ### least, greatest, in order -/
theorem minI_spec : ∀ (is : List Int) (m : Int), minI is = some m → m ∈ is ∧ ∀ x ∈ is, m ≤ x := by
  have go : ∀ (r : List Int) (a : Int), (r.foldl (fun m x => if x < m then x else m) a ∈ a :: r) ∧ (∀ x ∈ a :: r, r.foldl (fun m x => if x < m then x else m) a ≤ x) := by
    intro r
    induction r with
    | nil => intro a; exact ⟨List.mem_cons_self .., fun x hx => by simp at hx; subst hx; exact Int.le_refl _⟩
    | cons b r ih =>
      intro a
      rw [List.foldl_cons]
      obtain ⟨h1, h2⟩ := ih (if b < a then b else a)
      refine ⟨?_, fun x hx => ?_⟩
      · rcases List.mem_cons.mp h1 with e | e
        · rw [e]; split <;> simp
        · exact List.mem_cons_of_mem _ (List.mem_cons_of_mem _ e)
      · have h3 := h2 _ (List.mem_cons_self ..)
        rcases List.mem_cons.mp hx with e | e
        · subst e; exact Int.le_trans h3 (by split <;> omega)
        · rcases List.mem_cons.mp e with e | e
          · subst e; exact Int.le_trans h3 (by split <;> omega)
          · exact h2 x (List.mem_cons_of_mem _ e)
  intro is m h
  cases is with
  | nil => cases h
  | cons a r => cases h; exact go r a
theorem maxI_spec : ∀ (is : List Int) (m : Int), maxI is = some m → m ∈ is ∧ ∀ x ∈ is, x ≤ m := by
  have go : ∀ (r : List Int) (a : Int), (r.foldl (fun m x => if x > m then x else m) a ∈ a :: r) ∧ (∀ x ∈ a :: r, x ≤ r.foldl (fun m x => if x > m then x else m) a) := by
    intro r
    induction r with
    | nil => intro a; exact ⟨List.mem_cons_self .., fun x hx => by simp at hx; subst hx; exact Int.le_refl _⟩
    | cons b r ih =>
      intro a
      rw [List.foldl_cons]
      obtain ⟨h1, h2⟩ := ih (if b > a then b else a)
      refine ⟨?_, fun x hx => ?_⟩
      · rcases List.mem_cons.mp h1 with e | e
        · rw [e]; split <;> simp
        · exact List.mem_cons_of_mem _ (List.mem_cons_of_mem _ e)
      · have h3 := h2 _ (List.mem_cons_self ..)
        rcases List.mem_cons.mp hx with e | e
        · subst e; exact Int.le_trans (by split <;> omega) h3
        · rcases List.mem_cons.mp e with e | e
          · subst e; exact Int.le_trans (by split <;> omega) h3
          · exact h2 x (List.mem_cons_of_mem _ e)
  intro is m h
  cases is with
  | nil => cases h
  | cons a r => cases h; exact go r a
theorem minI_ne {is : List Int} {m : Int} (h : minI is = some m) : 0 < is.length := by cases is with | nil => cases h | cons a r => simp
theorem maxI_ne {is : List Int} {m : Int} (h : maxI is = some m) : 0 < is.length := by cases is with | nil => cases h | cons a r => simp
theorem w_min {pins : List (Addr × Obj)} {σ : St} {H : Hp} {s : Shared} {pa : Addr} {its : List Value} {is : List Int} {m : Int} {Q : VK} (hc : X.calm = true) (I : Inv X pins σ H s) (hl : s.heap.IsList pa its.toArray) (hi : PyProof.Rows.IntsAre its is) (hm : minI is = some m) (q : Q (.int m) H) :
    wpAny (model X.prog X.w) X.A (call (.builtin "min") [.ref pa]) (EP X pins σ Q) X.xe s := by
  obtain ⟨xs, e⟩ := hi.allInts.items
  have hns : is = xs.toList.map (·.1) := by rw [← hi.numsOf, ← nums_intItems, ← e]
  have hne := minI_ne hm
  have hsz : 0 < xs.size := by rw [hns, List.length_map, Array.length_toList] at hne; exact hne
  rw [e] at hl
  refine min_intList (I.ok.hd hc) hl hsz fun v h' tk hv hk => ?_
  obtain ⟨t, rfl⟩ := intItems_at hv
  obtain ⟨h1, h2⟩ := argBest_lt (numAt xs) (xs.size - 1)
  obtain ⟨g1, g2⟩ := minI_spec is m hm
  have em : numAt xs (argBest (fun i j => decide (numAt xs i < numAt xs j)) (xs.size - 1)) = m := by
    apply Int.le_antisymm
    · rw [hns] at g1
      obtain ⟨j, hj, ej⟩ := List.getElem_of_mem g1
      rw [List.length_map, Array.length_toList] at hj
      have := h2 j (by omega)
      rw [numAt_eq xs j] at this
      have e2 : (xs.toList.map (·.1)).getD j 0 = m := by rw [← ej]; simp [hj]
      omega
    · refine g2 _ ?_
      rw [hns, numAt_eq]
      have hlt : argBest (fun i j => decide (numAt xs i < numAt xs j)) (xs.size - 1) < (xs.toList.map (·.1)).length := by rw [List.length_map, Array.length_toList]; omega
      rw [List.getD_eq_getElem?_getD, List.getElem?_eq_getElem hlt]
      exact List.getElem_mem _
  rw [em]
  exact ⟨.int m, H, I.kept hk, ⟨_, rfl⟩, q⟩
theorem w_max {pins : List (Addr × Obj)} {σ : St} {H : Hp} {s : Shared} {pa : Addr} {its : List Value} {is : List Int} {m : Int} {Q : VK} (hc : X.calm = true) (I : Inv X pins σ H s) (hl : s.heap.IsList pa its.toArray) (hi : PyProof.Rows.IntsAre its is) (hm : maxI is = some m) (q : Q (.int m) H) :
    wpAny (model X.prog X.w) X.A (call (.builtin "max") [.ref pa]) (EP X pins σ Q) X.xe s := by
  obtain ⟨xs, e⟩ := hi.allInts.items
  have hns : is = xs.toList.map (·.1) := by rw [← hi.numsOf, ← nums_intItems, ← e]
  have hne := maxI_ne hm
  have hsz : 0 < xs.size := by rw [hns, List.length_map, Array.length_toList] at hne; exact hne
  rw [e] at hl
  refine max_intList (I.ok.hd hc) hl hsz fun v h' tk hv hk => ?_
  obtain ⟨t, rfl⟩ := intItems_at hv
  obtain ⟨h1, h2⟩ := argBest_gt (numAt xs) (xs.size - 1)
  obtain ⟨g1, g2⟩ := maxI_spec is m hm
  have em : numAt xs (argBest (fun i j => decide (numAt xs i > numAt xs j)) (xs.size - 1)) = m := by
    apply Int.le_antisymm
    · refine g2 _ ?_
      rw [hns, numAt_eq]
      have hlt : argBest (fun i j => decide (numAt xs i > numAt xs j)) (xs.size - 1) < (xs.toList.map (·.1)).length := by rw [List.length_map, Array.length_toList]; omega
      rw [List.getD_eq_getElem?_getD, List.getElem?_eq_getElem hlt]
      exact List.getElem_mem _
    · rw [hns] at g1
      obtain ⟨j, hj, ej⟩ := List.getElem_of_mem g1
      rw [List.length_map, Array.length_toList] at hj
      have := h2 j (by omega)
      rw [numAt_eq xs j] at this
      have e2 : (xs.toList.map (·.1)).getD j 0 = m := by rw [← ej]; simp [hj]
      omega
  rw [em]
  exact ⟨.int m, H, I.kept hk, ⟨_, rfl⟩, q⟩
theorem bind3 {α β γ : Type} {o : Option α} {p : α → Option β} {f : β → Option γ} {g : γ → R} {r : R} (h : (do let a ← o; let b ← p a; (f b).map g) = some r) : ∃ a b c, o = some a ∧ p a = some b ∧ f b = some c ∧ r = g c := by
  obtain ⟨a, b, h1, h2, h3⟩ := bind2 h
  obtain ⟨c, h4, h5⟩ := map_some h3
  exact ⟨a, b, c, h1, h2, h4, h5⟩
theorem c_min (hc : X.calm = true) : CallR X (.builtin "min") (rB1 G (b1R .min)) := by
  rintro pins s σ H xs us Q I rv ⟨v, rfl, w, st, rx, r, S, R1, e, q⟩
  obtain ⟨ts, is, m, ht, hb, hm, rfl⟩ := bind3 (f := minI) (g := fun i => R.val (.int i)) e
  obtain ⟨pa, vs, rfl, hp, rp⟩ := RepR.seq (s := st) R1 ht
  obtain ⟨u, rfl, ru⟩ := rv.one
  cases ru
  obtain ⟨its, q1, hl⟩ := inv_lst I hp
  exact w_min hc I hl (asInts_are hb rp q1) hm (q w H _ (Le.refl _ _) S rfl)
theorem c_max (hc : X.calm = true) : CallR X (.builtin "max") (rB1 G (b1R .max)) := by
  rintro pins s σ H xs us Q I rv ⟨v, rfl, w, st, rx, r, S, R1, e, q⟩
  obtain ⟨ts, is, m, ht, hb, hm, rfl⟩ := bind3 (f := maxI) (g := fun i => R.val (.int i)) e
  obtain ⟨pa, vs, rfl, hp, rp⟩ := RepR.seq (s := st) R1 ht
  obtain ⟨u, rfl, ru⟩ := rv.one
  cases ru
  obtain ⟨its, q1, hl⟩ := inv_lst I hp
  exact w_max hc I hl (asInts_are hb rp q1) hm (q w H _ (Le.refl _ _) S rfl)
theorem insI_perm (x : Int) : ∀ l : List Int, (insI x l).Perm (x :: l)
  | [] => .refl _
  | y :: r => by
    unfold insI
    split
    · exact .refl _
    · exact ((insI_perm x r).cons y).trans (.swap x y r)
theorem insI_pw (x : Int) : ∀ l : List Int, l.Pairwise (· ≤ ·) → (insI x l).Pairwise (· ≤ ·)
  | [], _ => by simp [insI]
  | y :: r, h => by
    unfold insI
    obtain ⟨h1, h2⟩ := List.pairwise_cons.mp h
    split
    · rename_i hlt
      refine List.pairwise_cons.mpr ⟨fun z hz => ?_, h⟩
      rcases List.mem_cons.mp hz with e | e
      · omega
      · have := h1 z e; omega
    · rename_i hlt
      refine List.pairwise_cons.mpr ⟨fun z hz => ?_, insI_pw x r h2⟩
      rcases List.mem_cons.mp ((insI_perm x r).mem_iff.mp hz) with e | e
      · omega
      · exact h1 z e
theorem sortI_spec (is : List Int) : (sortI is).Perm is ∧ (sortI is).Pairwise (· ≤ ·) := by
  have go : ∀ (l acc : List Int), acc.Pairwise (· ≤ ·) → (l.foldl (fun acc x => insI x acc) acc).Perm (l ++ acc) ∧ (l.foldl (fun acc x => insI x acc) acc).Pairwise (· ≤ ·) := by
    intro l
    induction l with
    | nil => intro acc h; exact ⟨.refl _, h⟩
    | cons x l ih =>
      intro acc h
      obtain ⟨h1, h2⟩ := ih (insI x acc) (insI_pw x acc h)
      refine ⟨h1.trans ?_, h2⟩
      exact ((insI_perm x acc).append_left l).trans List.perm_middle
  have := go is [] List.Pairwise.nil
  rw [List.append_nil] at this
  exact this
theorem intsAre_vals : ∀ {its : List Value} {ns : List Int}, PyProof.Rows.IntsAre its ns → Vals (ns.map V.int) its
  | _, _, .nil => .nil
  | _, _, .cons n t r => .cons ⟨t, rfl⟩ (intsAre_vals r)
theorem reps_ints (w : Wo) (H : Hp) : ∀ ns : List Int, Reps G w H (ns.map T.int) (ns.map V.int)
  | [] => rfl
  | n :: r => ⟨_, _, rfl, rfl, reps_ints w H r⟩
theorem c_sorted : CallR X (.builtin "sorted") (rB1 G (b1R .sorted)) := by
  rintro pins s σ H xs us Q I rv ⟨v, rfl, w, st, rx, r, S, R1, e, q⟩
  obtain ⟨ts, is, ht, hb, he⟩ := bind2 (f := fun (_ : List T) (is : List Int) => if is.length < 64 then some (R.val (.lst ((sortI is).map .int))) else none) e
  split at he
  · rename_i h64
    cases he
    obtain ⟨pa, vs, rfl, hp, rp⟩ := RepR.seq (s := st) R1 ht
    obtain ⟨u, rfl, ru⟩ := rv.one
    cases ru
    obtain ⟨its, q1, hl⟩ := inv_lst I hp
    have hI := asInts_are hb rp q1
    have hlen := hI.length
    refine PyProof.Rows.sorted_ints hl hI (by omega) fun out ns' a1 a2 a3 => ?_
    obtain ⟨s1, s2⟩ := sortI_spec is
    have en : ns' = sortI is := PySem.W.ksm_same (a2.trans s1.symm) a3 s2
    subst en
    obtain ⟨ee, he⟩ := PyProof.Rows.sortedAll_at s.heap its out
    have hf : H (s.heap.objs.size + 1) = none := I.hok.fresh (Nat.le_succ _)
    have hlen2 : (sortI is).length ≤ sizeLine := by
      rw [s1.length_eq]
      have : (64 : Nat) ≤ sizeLine := by decide
      omega
    refine ⟨.ref (s.heap.objs.size + 1), upd H (s.heap.objs.size + 1) (.lst ((sortI is).map V.int)), I.laid (t' := s.toks) (fun b u e => PyProof.Rows.sortedAll_old e) (Nat.le_succ _) ?_, rfl, fin_lst S (reps_ints w H _) q _ hf⟩
    refine ⟨by rw [List.length_map]; exact hlen2, out.toList, ee, intsAre_vals a1, ?_⟩
    rw [he]
  · cases he
end
end IP

end
section
set_option Elab.async false
set_option linter.all false
set_option maxRecDepth 100000
namespace IP
open PySem PySem.Spec L2
/-! ### calls of the text's defs -/
section
variable {G : Gx} {X : Cx} {C : Cf} {k : Nat} {f fa : Addr} {fd : FuncData} {ps : List Str} {sp : Sp} {dvs : List V} {ds : List Value} {E : XK}
theorem run_call {CX : CXT} {pins : List (Addr × Obj)} {σ : St} {H : Hp} {s : Shared} {Q : VK} {us : List Value} {vs : List V} (F : FnOk X.prog X.w X.K X.mg X.base CX k f fd ps sp) (hr : Room k X.A) (hb : Binds X.K fd ps ds) (hd : Vals dvs ds)
    (I : Inv X pins σ H s) (r : Vals vs us) (h : sp (vs ++ dvs) H Q E) (hx : ∀ e s', CX X.stack H s E e s' → X.xe e s') : wpAny (model X.prog X.w) X.A (call (.ref f) us) (EP X pins σ Q) X.xe s := by
  have r2 : Vals (vs ++ dvs) (us ++ ds) := r.append hd
  have hl : (us ++ ds).length = ps.length := by rw [← r2.length]; exact F.len _ _ _ _ h
  refine wpAny_call (codeAny_mono (F.run X.A X.stack s H ⟨us, []⟩ (us ++ ds) (vs ++ dvs) Q E hr I.env0 (hb s us I.kIn hl) r2 h) fun r s' hq => ?_)
  cases r with
  | error e => exact hx e s' hq
  | ok fl =>
    cases fl with
    | ret u => exact I.after hq
    | next => exact False.elim hq
    | brk => exact False.elim hq
    | cont => exact False.elim hq
variable {es : List Expr} {es' : List IP.E} {e₀ : Expr} {fi : Nat} {x : Str} {p pos : Pos} {dts : List T}
theorem wantR_bind {w : Wo} {H : Hp} {σV : St} {m : Res (List R)} {k : List R → Sto → Res R} {Q : VK} (h : Want G X σV w H (m.bind k) Q) : WantR G X σV w H m fun vs H1 => ∃ w1 rs s1, Le w w1 H H1 ∧ StoOk G w1 H1 s1 ∧ RepRs G w1 H1 rs vs ∧ Want G X σV w H (k rs s1) Q := by
  cases m with
  | stuck => exact h
  | ok rs s => exact fun w' H' vs a b c => ⟨w', rs, s, a, b, c, h⟩
  | exc c s => exact h
end
end IP

end
section
set_option Elab.async false
set_option linter.all false
set_option maxRecDepth 100000
namespace IP
open PySem PySem.Spec L2
/-! ### a comprehension's block -/
def clo (cells : List (Str × Addr)) : List (Str × NameKind) → List (Str × Addr) → List (Str × Addr)
  | [], acc => acc
  | (n, k) :: r, acc => clo cells r (if k == .free then (match cells.lookup n with | some c => (n, c) :: acc | none => acc) else acc)
theorem closure_of (scope : Scope) (env : Env) (h : ∀ x ∈ scope.names, x.2 = .free → ∃ c, env.cells.lookup x.1 = some c) : closureFor scope env = pure (clo env.cells scope.names []) := by
  unfold closureFor
  generalize ([] : List (Str × Addr)) = acc
  obtain ⟨k, names, a, b, c⟩ := scope
  simp only at h ⊢
  induction names generalizing acc with
  | nil => rfl
  | cons x r ih =>
    obtain ⟨n, k⟩ := x
    have ih := fun acc => ih acc (fun y hy => h y (List.mem_cons_of_mem _ hy))
    simp only [List.forIn_cons, clo]
    by_cases hk : (k == NameKind.free) = true
    · have hk' : k = .free := by simpa using hk
      obtain ⟨c, hc⟩ := h (n, k) (List.mem_cons_self ..) hk'
      have hc : List.lookup n env.cells = some c := hc
      simp only [hk, if_true, cellOf, hc, pure_bind]
      exact ih _
    · simp only [Bool.not_eq_true] at hk
      simp only [hk, Bool.false_eq_true, if_false, pure_bind]
      exact ih _
/-- what the block's cells are: those of the names that are free in it -/
theorem clo_sub (cells : List (Str × Addr)) : ∀ (names : List (Str × NameKind)) (acc : List (Str × Addr)), (∀ x c, acc.lookup x = some c → cells.lookup x = some c) → ∀ x c, (clo cells names acc).lookup x = some c → cells.lookup x = some c
  | [], acc, h, x, c, e => h x c e
  | (n, k) :: r, acc, h, x, c, e => by
    refine clo_sub cells r _ (fun y d q => ?_) x c e
    split at q
    · split at q
      · rename_i d' hd
        rw [List.lookup_cons] at q
        split at q
        · rename_i hyn
          have : y = n := by simpa using hyn
          subst this
          cases q
          exact hd
        · exact h y d q
      · exact h y d q
    · exact h y d q
theorem clo_keep (cells : List (Str × Addr)) : ∀ (names : List (Str × NameKind)) (acc : List (Str × Addr)) (x : Str), (∃ c, acc.lookup x = some c) → ∃ c, (clo cells names acc).lookup x = some c
  | [], acc, x, h => h
  | (n, k) :: r, acc, x, h => by
    refine clo_keep cells r _ x ?_
    split
    · split
      · rename_i d' hd
        rw [List.lookup_cons]
        split
        · exact ⟨_, rfl⟩
        · exact h
      · exact h
    · exact h
theorem clo_has (cells : List (Str × Addr)) : ∀ (names : List (Str × NameKind)) (acc : List (Str × Addr)) (x : Str), (x, NameKind.free) ∈ names → (∃ c, cells.lookup x = some c) → ∃ c, (clo cells names acc).lookup x = some c
  | [], acc, x, h, _ => by simp at h
  | (n, k) :: r, acc, x, h, hc => by
    rcases List.mem_cons.mp h with e | e
    · cases e
      obtain ⟨c, hc⟩ := hc
      refine clo_keep cells r _ _ ?_
      simp [hc]
    · exact clo_has cells r _ x e hc
theorem lookup_mem {α : Type} : ∀ {l : List (Str × α)} {x : Str} {a : α}, l.lookup x = some a → (x, a) ∈ l
  | [], x, a, h => by simp at h
  | (y, b) :: r, x, a, h => by
    rw [List.lookup_cons] at h
    split at h
    · rename_i e
      have : x = y := by simpa using e
      subst this
      cases h
      exact List.mem_cons_self ..
    · exact List.mem_cons_of_mem _ (lookup_mem h)
/-- the kinds in the block: relabel, by lookup -/
theorem relabel_look (scope : Scope) (env : Env) (x : Str) (k : NameKind) (h : (relabel scope env).names.lookup x = some k) : ∃ k', (x, k') ∈ scope.names ∧ ((k = .cell ∨ k = .free) → k' = .cell ∨ k' = .free) ∧ (k = .local → k' = .local) := by
  have h := lookup_mem h
  unfold relabel at h
  obtain ⟨⟨n, k'⟩, hm, e⟩ := List.mem_map.mp h
  dsimp only at e
  split at e
  · rename_i hc
    cases e
    have : k' = .free := by
      have := (Bool.and_eq_true _ _).mp hc
      have := (Bool.and_eq_true _ _).mp this.1
      simpa using this.1
    exact ⟨k', hm, fun _ => .inr this, fun z => by cases z⟩
  · cases e
    exact ⟨_, hm, fun z => z, fun z => z⟩
section
variable {X : Cx}
def cxC (X : Cx) (N' : List Str) (scope : Scope) (C : Addr) (fp : List Addr) (s2 : Shared) (H2 : Hp) : Cx :=
  { X with N := N', s₀ := s2, H₀ := H2, env := compEnvC scope (clo X.env.cells scope.names []) C X.env, outer := X.stack, ex := fp, fn := fun _ => false, pn := [], xe := fun _ _ => False }
/-- how the block's names stand: the targets' slots hold the block's own names, every other visible name is a free one and stands where it stood -/
structure CompN (X : Cx) (scope : Scope) (N' : List Str) (js : List Nat) : Prop where
  kind : scope.kind = .function
  nocell : ∀ x ∈ scope.names, x.2 ≠ .cell
  free : ∀ x ∈ scope.names, x.2 = .free → X.env.kindOf x.1 = some .cell ∨ X.env.kindOf x.1 = some .free
  len : N'.length = X.N.length
  nd : N'.Nodup
  same : ∀ (i : Nat) (x : Str), N'[i]? = some x → i ∉ js → Vis (relabel scope X.env) x → X.N[i]? = some x ∧ (x, NameKind.free) ∈ scope.names ∧ ((relabel scope X.env).names.lookup x = some .cell ∨ (relabel scope X.env).names.lookup x = some .free)
  locs : ∀ x ∈ scope.names, x.2 = .local → scope.names.lookup x.1 = some .local
def clr (σ : St) (js : List Nat) : St := js.foldl (fun σ j => σ.set j none) σ
theorem clr_len (js : List Nat) : ∀ σ : St, (clr σ js).length = σ.length := by
  induction js with
  | nil => intro σ; rfl
  | cons j js ih => intro σ; show (clr (σ.set j none) js).length = _; rw [ih]; simp
theorem clr_get (js : List Nat) : ∀ (σ : St) (i : Nat) (v : V), (clr σ js)[i]? = some (some v) → σ[i]? = some (some v) ∧ i ∉ js := by
  induction js with
  | nil => intro σ i v h; exact ⟨h, by simp⟩
  | cons j js ih =>
    intro σ i v h
    obtain ⟨h1, h2⟩ := ih (σ.set j none) i v h
    by_cases e : j = i
    · subst e
      rw [List.getElem?_set_self'] at h1
      cases hq : σ[j]? with
      | none => rw [hq] at h1; cases h1
      | some q => rw [hq] at h1; cases h1
    · rw [List.getElem?_set_ne e] at h1
      exact ⟨h1, by simp [h2]; exact fun z => e z.symm⟩
theorem cxC_inv {pins : List (Addr × Obj)} {σ : St} {H : Hp} {s : Shared} {scope : Scope} {N' : List Str} {js : List Nat} {fp : List Addr} {h4 : Heap} {tk : Nat} (hN : CompN X scope N' js) (I : Inv X pins σ H s) (hfp : ∀ b ∈ fp, FpOk X pins H b) (hfo : ∀ b ∈ fp, ∃ o, s.heap.get? b = some o)
    (hns : h4.Ns s.heap.objs.size (fun _ => none)) (hk : ∀ b o, s.heap.get? b = some o → h4.get? b = some o) :
    Inv (cxC X N' scope s.heap.objs.size fp s H) [] (clr σ js) H { s with heap := h4, toks := tk } := by
  have hlt : ∀ {b : Addr} {o : Obj}, s.heap.get? b = some o → b ≠ s.heap.objs.size := fun e => Nat.ne_of_lt (Heap.lt_size e)
  have hsubc := clo_sub X.env.cells scope.names [] (fun x c z => by simp at z)
  have clt : ∀ x c, (clo X.env.cells scope.names []).lookup x = some c → c ≠ s.heap.objs.size := fun x c e => by
    obtain ⟨v, hv⟩ := I.cell x c (hsubc x c e)
    obtain ⟨o, ho, _⟩ := hv
    exact hlt ho
  have hkin : ∀ x : Str, (relabel scope X.env).names.lookup x = some .cell ∨ (relabel scope X.env).names.lookup x = some .free → (x, NameKind.free) ∈ scope.names := fun x hx => by
    have : ∃ k', (x, k') ∈ scope.names ∧ (k' = .cell ∨ k' = .free) := by
      rcases hx with hx | hx
      · obtain ⟨k', h1, h2, _⟩ := relabel_look _ _ _ _ hx; exact ⟨k', h1, h2 (.inl rfl)⟩
      · obtain ⟨k', h1, h2, _⟩ := relabel_look _ _ _ _ hx; exact ⟨k', h1, h2 (.inr rfl)⟩
    obtain ⟨k', h1, h2⟩ := this
    rcases h2 with rfl | rfl
    · exact absurd rfl (hN.nocell _ h1)
    · exact h1
  have hcell : ∀ x : Str, (x, NameKind.free) ∈ scope.names → ∃ c, X.env.cells.lookup x = some c := fun x hx => I.ok.has x (hN.free (x, .free) hx rfl)
  have hstk : ∀ b ∈ frs X.stack, b ∈ X.env.locals :: X.fs := I.stkSub
  refine ⟨⟨I.ok.mod, hN.kind, I.ok.glob, I.ok.blt, Nat.le_refl _, fun x y c h1 h2 => I.ok.inj x y c (hsubc _ _ h1) (hsubc _ _ h2), fun x hx => ?_, fun x c h _ => (Bool.noConfusion (show false = true from h)), I.ok.hd, I.ok.frames, .inl rfl, fun b hb => ?_, I.bs, Nat.le_trans I.ok.bsz I.sz, fun b o e hb => ?_, fun b hb hf => ?_, I.stack, I.stkFree⟩,
    rfl, I.bare, Un.kept hk, ⟨_, hns, fun i x v h1 h2 h3 => ?_⟩, fun x c h => ?_, I.hok.fresh (Nat.le_refl _), fun x c h => I.freeC x c (hsubc _ _ h), fun p hp => absurd (show p ∈ ([] : List (Addr × Obj)) from hp) (by simp), I.hok.kept hk, ?_⟩
  · exact clo_has X.env.cells scope.names [] x (hkin x hx) (hcell x (hkin x hx))
  · obtain ⟨f0, f1, f2, f3, f4, f5⟩ := hfp b hb
    refine ⟨fun z => ?_, fun x c e z => f4 x c (hsubc _ _ e) z⟩
    obtain ⟨o, ho⟩ := hfo b hb
    exact hlt ho z
  · have := I.bs b o e
    obtain ⟨f0, f1, f2, f3, f4, f5⟩ := hfp b hb
    rcases f3 with f3 | f3
    · exact I.ok.noex b o e f3
    · exact absurd (Nat.lt_of_lt_of_le (Heap.lt_size (I.ok.bs b o e).1) f3) (Nat.lt_irrefl _)
  · obtain ⟨f0, f1, f2, f3, f4, f5⟩ := hfp b hb
    rcases List.mem_cons.mp (hstk b hf) with z | z
    · exact f1 z
    · exact f2 z
  · obtain ⟨h2', hj⟩ := clr_get js σ i v h2
    obtain ⟨q1, q2, q3⟩ := hN.same i x h1 hj h3
    obtain ⟨m, hm, hl⟩ := I.loc
    have hkx := hN.free (x, .free) q2 rfl
    obtain ⟨u, ru, lk⟩ := hl i x v q1 h2' (.inr hkx)
    refine ⟨u, ru, .inr ⟨q3, ?_⟩⟩
    · rcases lk with ⟨k1, _⟩ | ⟨_, c, hc, ic⟩
      · rcases hkx with z | z <;> (rw [z] at k1; cases k1)
      · obtain ⟨c', hc'⟩ := clo_has X.env.cells scope.names [] x q2 ⟨c, hc⟩
        have := hsubc _ _ hc'
        rw [hc] at this
        cases this
        exact ⟨c, hc', ic.keeps hk⟩
  · obtain ⟨v, hv⟩ := I.cell x c (hsubc x c h)
    exact ⟨v, hv.keeps hk⟩
  · rw [clr_len, I.len]
    exact hN.len.symm
end
end IP

end
section
set_option Elab.async false
set_option linter.all false
set_option maxRecDepth 100000
namespace IP
open PySem PySem.Spec L2
section
variable {G : Gx} {w : Wo} {H H₀ : Hp}
/-! ### a list of one's own is changed -/
mutual
theorem Rep.upd {a : Addr} {xs ys : List V} (ha : H a = some (.lst xs)) (hz : ¬ w.Z a) : ∀ (t : T) (v : V), Rep G w H t v → Rep G w (L2.upd H a (.lst ys)) t v
  | .non, v, h => h
  | .bl b, v, h => h
  | .int i, v, h => h
  | .str x, v, h => h
  | .tup ts, v, ⟨p, vs, e, h, r⟩ => ⟨p, vs, e, by rw [upd_ne (ne_of h ha (by intro z; cases z))]; exact h, Reps.upd ha hz ts vs r⟩
  | .lst ts, v, ⟨p, vs, e, z, h, r⟩ => by
    have ne : p ≠ a := fun q => hz (q ▸ z)
    refine ⟨p, vs, e, z, ?_, Reps.upd ha hz ts vs r⟩
    rcases h with h | ⟨o, h⟩
    · exact .inl (by rw [upd_ne ne]; exact h)
    · exact .inr ⟨o, by rw [upd_ne ne]; exact h⟩
  | .loc l, v, h => h
  | .exc c, v, ⟨p, e, h⟩ => ⟨p, e, by rw [upd_ne (ne_of h ha (by intro z; cases z))]; exact h⟩
theorem Reps.upd {a : Addr} {xs ys : List V} (ha : H a = some (.lst xs)) (hz : ¬ w.Z a) : ∀ (ts : List T) (vs : List V), Reps G w H ts vs → Reps G w (L2.upd H a (.lst ys)) ts vs
  | [], vs, h => h
  | t :: ts, vs, ⟨v, r, e, h, q⟩ => ⟨v, r, e, Rep.upd ha hz t v h, Reps.upd ha hz ts r q⟩
end
mutual
theorem Rep.zmono {w' : Wo} (hn : w'.n = w.n) (hio : w'.io = w.io) (hz : ∀ a, w.Z a → w'.Z a) : ∀ (t : T) (v : V), Rep G w H t v → Rep G w' H t v
  | .non, v, h => h
  | .bl b, v, h => h
  | .int i, v, h => h
  | .str x, v, h => h
  | .tup ts, v, ⟨p, vs, e, h, r⟩ => ⟨p, vs, e, h, Reps.zmono hn hio hz ts vs r⟩
  | .lst ts, v, ⟨p, vs, e, z, h, r⟩ => ⟨p, vs, e, hz _ z, h, Reps.zmono hn hio hz ts vs r⟩
  | .loc l, v, ⟨h, e⟩ => ⟨by rw [hn]; exact h, by rw [hio]; exact e⟩
  | .exc c, v, h => h
theorem Reps.zmono {w' : Wo} (hn : w'.n = w.n) (hio : w'.io = w.io) (hz : ∀ a, w.Z a → w'.Z a) : ∀ (ts : List T) (vs : List V), Reps G w H ts vs → Reps G w' H ts vs
  | [], vs, h => h
  | t :: ts, vs, ⟨v, r, e, h, q⟩ => ⟨v, r, e, Rep.zmono hn hio hz t v h, Reps.zmono hn hio hz ts r q⟩
end
theorem StoOk.upd {s : Sto} {a : Addr} {xs ys : List V} (S : StoOk G w H s) (ha : H a = some (.lst xs)) (hz : ¬ w.Z a) (hl : IP.notLoc w a) : StoOk G w (L2.upd H a (.lst ys)) s where
  len := S.len
  inj := S.inj
  nz := S.nz
  cell := fun l c e => by
    have h : l < w.n := by rw [← S.len]; exact (List.getElem?_eq_some_iff.mp e).1
    have q := S.cell l c e
    have ne : w.io l ≠ a := fun z => hl l h z.symm
    cases c with
    | lst ts => obtain ⟨vs, q1, q2⟩ := q; exact ⟨vs, by rw [upd_ne ne]; exact q1, Reps.upd ha hz ts vs q2⟩
    | ins c fs => obtain ⟨dx, kvs, q1, q2, q3⟩ := q; exact ⟨dx, kvs, by rw [upd_ne ne]; exact q1, q2, fun i x t h1 h2 => let ⟨v, z1, z2⟩ := q3 i x t h1 h2; ⟨v, z1, Rep.upd ha hz t v z2⟩⟩
  zt := fun p z => by
    obtain ⟨vs, r⟩ := S.zt p z
    have ne : p ≠ a := fun q => hz (q ▸ z)
    rcases r with r | ⟨o, r⟩
    · exact ⟨vs, .inl (by rw [upd_ne ne]; exact r)⟩
    · exact ⟨vs, .inr ⟨o, by rw [upd_ne ne]; exact r⟩⟩
theorem StoOk.addZ {s : Sto} {a : Addr} {xs : List V} (S : StoOk G w H s) (ha : H a = some (.lst xs)) (hl : IP.notLoc w a) : StoOk G (w.addZ a) H s where
  len := S.len
  inj := S.inj
  nz := fun l h z => z.elim (S.nz l h) fun q => hl l h q.symm
  cell := fun l c e => by
    have q := S.cell l c e
    cases c with
    | lst ts => obtain ⟨vs, q1, q2⟩ := q; exact ⟨vs, q1, Reps.zmono (w := w) (w' := w.addZ a) rfl rfl (fun _ z => .inl z) ts vs q2⟩
    | ins c fs => obtain ⟨dx, kvs, q1, q2, q3⟩ := q; exact ⟨dx, kvs, q1, q2, fun i x t h1 h2 => let ⟨v, z1, z2⟩ := q3 i x t h1 h2; ⟨v, z1, Rep.zmono (w := w) (w' := w.addZ a) rfl rfl (fun _ z => .inl z) t v z2⟩⟩
  zt := fun p z => z.elim (S.zt p) fun q => ⟨xs, .inl (by rw [q]; exact ha)⟩
/-- an address that was not there at first may be changed -/
theorem Le.updNew {w' : Wo} {H' : Hp} {a : Addr} {o : HO} (L : Le w w' H H') (ha : H a = none) (hs : H' a ≠ none) : Le w w' H (L2.upd H' a o) where
  n := L.n
  io := L.io
  Z := L.Z
  keep := fun p q e nl => by rw [upd_ne (ne_fresh e ha)]; exact L.keep p q e nl
  newL := L.newL
  newZ := L.newZ
  some_ := fun p z => by
    by_cases e : p = a
    · subst e; exact absurd ha z
    · rw [upd_ne e]; exact L.some_ p z
theorem Le.addZ {w' : Wo} {H' : Hp} {a : Addr} (L : Le w w' H H') (ha : H a = none) : Le w (w'.addZ a) H H' where
  n := L.n
  io := L.io
  Z := fun p z => .inl (L.Z p z)
  keep := L.keep
  newL := L.newL
  newZ := fun p z => z.elim (L.newZ p) fun q => .inr (q ▸ ha)
  some_ := L.some_
/-- what is new may as well be left alone for good -/
theorem want_o {X : Cx} {σV : St} {res : Res R} {Q : VK} (hv : ∀ r s, res = .ok r s → ∃ ts, r = .val (.lst ts)) (h : Want G X σV w H res Q) : WantO G X σV w H res Q := by
  cases res with
  | stuck => exact h
  | exc c s => exact h
  | ok r s =>
    obtain ⟨ts, rfl⟩ := hv r s rfl
    intro w' H' a vs L S ha r hn nz nl
    exact h (w'.addZ a) H' (.ref a) (L.addZ hn) (S.addZ ha nl) ⟨a, vs, rfl, .inr rfl, .inl ha, Reps.zmono (w := w') (w' := w'.addZ a) rfl rfl (fun _ z => .inl z) ts vs r⟩
/-! ### names -/
theorem FrOk.put {σ : Fr} {σV : St} {i : Nat} {t : T} {v : V} (F : FrOk G w H H₀ σ σV) (r : Rep G w H t v) : FrOk G w H H₀ (put σ i t) (σV.set i (some v)) where
  len := by unfold IP.put; simp [F.len]
  val := fun j u e => by
    unfold IP.put at e
    by_cases hj : i = j
    · subst hj
      have hlt : i < σ.length := by
        have := (List.getElem?_eq_some_iff.mp e).1
        simpa using this
      rw [List.getElem?_set_self hlt] at e
      cases e
      exact ⟨v, by rw [List.getElem?_set_self (by rw [← F.len]; exact hlt)], r⟩
    · rw [List.getElem?_set_ne hj] at e
      obtain ⟨x, h1, h2⟩ := F.val j u e
      exact ⟨x, by rw [List.getElem?_set_ne hj]; exact h1, h2⟩
  own := fun j b ts e eb => by
    unfold IP.put at e
    by_cases hj : i = j
    · subst hj
      have hlt : i < σ.length := by
        have := (List.getElem?_eq_some_iff.mp e).1
        simpa using this
      rw [List.getElem?_set_self hlt] at e
      cases e
      cases eb
    · rw [List.getElem?_set_ne hj] at e
      obtain ⟨a, vs, h1, h2⟩ := F.own j b ts e eb
      exact ⟨a, vs, by rw [List.getElem?_set_ne hj]; exact h1, h2⟩
  apart := fun j k b c ts us a hjk e1 eb e2 ec e3 e4 => by
    unfold IP.put at e1 e2
    have nj : i ≠ j := fun q => by
      subst q
      have hlt : i < σ.length := by
        have := (List.getElem?_eq_some_iff.mp e1).1
        simpa using this
      rw [List.getElem?_set_self hlt] at e1
      cases e1
      cases eb
    have nk : i ≠ k := fun q => by
      subst q
      have hlt : i < σ.length := by
        have := (List.getElem?_eq_some_iff.mp e2).1
        simpa using this
      rw [List.getElem?_set_self hlt] at e2
      cases e2
      cases ec
    rw [List.getElem?_set_ne nj] at e1 e3
    rw [List.getElem?_set_ne nk] at e2 e4
    exact F.apart j k b c ts us a hjk e1 eb e2 ec e3 e4
  bor := fun j ts e => by
    unfold IP.put at e
    by_cases hj : i = j
    · subst hj
      have hlt : i < σ.length := by
        have := (List.getElem?_eq_some_iff.mp e).1
        simpa using this
      rw [List.getElem?_set_self hlt] at e
      cases e
    · rw [List.getElem?_set_ne hj] at e
      obtain ⟨a, vs, h1, h2⟩ := F.bor j ts e
      exact ⟨a, vs, by rw [List.getElem?_set_ne hj]; exact h1, h2⟩
/-- the names of a block: forgotten slots that are set anew -/
def setsV (σV : St) : List Nat → List V → St
  | [], _ => σV
  | _, [] => σV
  | i :: is, v :: vs => setsV (σV.set i (some v)) is vs
theorem setsV_len : ∀ (is : List Nat) (vs : List V) (σV : St), (setsV σV is vs).length = σV.length
  | [], _, σV => rfl
  | i :: is, [], σV => rfl
  | i :: is, v :: vs, σV => by show (setsV (σV.set i (some v)) is vs).length = _; rw [setsV_len is vs]; simp
theorem FrOk.puts : ∀ {is : List Nat} {ts : List T} {vs : List V} {σ σ' : Fr} {σV : St}, FrOk G w H H₀ σ σV → Reps G w H ts vs → IP.puts σ is ts = some σ' → FrOk G w H H₀ σ' (setsV σV is vs)
  | [], [], vs, σ, σ', σV, F, r, h => by cases h; exact F
  | [], _ :: _, vs, σ, σ', σV, F, r, h => by cases h
  | _ :: _, [], vs, σ, σ', σV, F, r, h => by cases h
  | i :: is, t :: ts, _, σ, σ', σV, F, ⟨v, r, e, h1, h2⟩, h => by
    subst e
    have z := FrOk.puts (is := is) (ts := ts) (vs := r) (σ' := σ') (F.put (i := i) h1) h2 h
    exact z
theorem set_comm' {σV : St} {i j : Nat} {x y : Option V} (h : i ≠ j) : (σV.set i x).set j y = (σV.set j y).set i x := List.set_comm x y h
theorem clr_set {σV : St} {j : Nat} {x : Option V} : ∀ {js : List Nat}, j ∉ js → clr (σV.set j x) js = (clr σV js).set j x
  | [], _ => rfl
  | k :: js, h => by
    show clr ((σV.set j x).set k none) js = (clr (σV.set k none) js).set j x
    rw [set_comm' (fun q => h (by simp [q]))]
    exact clr_set (σV := σV.set k none) fun q => h (List.mem_cons_of_mem _ q)
theorem setsV_clr : ∀ {js : List Nat} {vs : List V} {σV : St}, js.Nodup → js.length = vs.length → setsV (clr σV js) js vs = setsV σV js vs
  | [], [], σV, _, _ => rfl
  | j :: js, v :: vs, σV, hn, hl => by
    obtain ⟨h1, h2⟩ := List.nodup_cons.mp hn
    show setsV ((clr (σV.set j none) js).set j (some v)) js vs = setsV (σV.set j (some v)) js vs
    rw [clr_set h1, List.set_set, ← clr_set h1]
    exact setsV_clr h2 (by simpa using hl)
  | j :: js, [], σV, hn, hl => by simp at hl
  | [], _ :: _, σV, hn, hl => by simp at hl
end
end IP

end
section
set_option Elab.async false
set_option linter.all false
set_option maxRecDepth 100000
namespace IP
open PySem PySem.Spec L2
/-! ### what is walked -/
inductive Src where
  | l (a : Addr) (vs : List V) | t (a : Addr) (vs : List V) | r (lo : Int) (n : Nat)
def itOf (K : PySem.W.Frag) : Src → It
  | .l a _ => Itl K a
  | .t a _ => Itt K a
  | .r lo n => Itr lo n
/-- z: nobody changes it -/
def SrcOk (G : Gx) (w : Wo) (H : Hp) (z : Bool) : Src → List T → Prop
  | .l a vs, ts => Rd H a (.lst vs) ∧ Reps G w H ts vs ∧ notLoc w a ∧ (z = true → w.Z a)
  | .t a vs, ts => H a = some (.tup vs) ∧ Reps G w H ts vs
  | .r lo n, ts => ts = (List.range n).map (fun (k : Nat) => T.int (lo + k)) ∧ n ≤ sizeLine
section
variable {G : Gx} {X : Cx} {C : Cf} {w w' : Wo} {H H' : Hp}
theorem Rd.some {a : Addr} {u : HO} (r : Rd H a u) : H a ≠ none := by
  rcases r with r | ⟨o, r⟩ <;> (rw [r]; intro z; cases z)
theorem SrcOk.mono {z : Bool} {s : Sto} (L : Le w w' H H') (S : StoOk G w H s) : ∀ {src : Src} {ts : List T}, SrcOk G w H z src ts → SrcOk G w' H' z src ts
  | .l a vs, ts, ⟨h1, h2, h3, h4⟩ => ⟨Rd.keep L h3 h1, Reps.mono L S ts vs h2, notLoc.mono L (Rd.some h1) h3, fun q => L.Z a (h4 q)⟩
  | .t a vs, ts, ⟨h1, h2⟩ => ⟨L.keep _ _ h1 (S.notLoc h1 (fun _ z => by cases z) fun _ _ _ z => by cases z), Reps.mono L S ts vs h2⟩
  | .r lo n, ts, h => h
theorem SrcOk.go {z : Bool} : ∀ {src : Src} {ts : List T} {K : PySem.W.Frag} {i : Nat} {t : T}, SrcOk G w H z src ts → ts[i]? = some t → (itOf K src).go i H ∧ ∀ x H', (itOf K src).yld i H x H' → H' = H ∧ Rep G w H t x
  | .l a vs, ts, K, i, t, ⟨h1, h2, _⟩, e => by
    obtain ⟨v, e1, r⟩ := h2.get e
    refine ⟨⟨vs, v, .inl h1, e1⟩, fun x H' ⟨q1, q2⟩ => ⟨q1, ?_⟩⟩
    have := q2 vs (.inl h1)
    rw [e1] at this
    cases this
    exact r
  | .t a vs, ts, K, i, t, ⟨h1, h2⟩, e => by
    obtain ⟨v, e1, r⟩ := h2.get e
    refine ⟨⟨vs, v, SqT.of h1, e1⟩, fun x H' ⟨q1, q2⟩ => ⟨q1, ?_⟩⟩
    have := q2 vs (SqT.of h1)
    rw [e1] at this
    cases this
    exact r
  | .r lo n, ts, K, i, t, ⟨h1, _⟩, e => by
    subst h1
    rw [List.getElem?_map] at e
    obtain ⟨k, hk, rfl⟩ := map_some e
    obtain ⟨hi, hk⟩ := List.getElem?_eq_some_iff.mp hk
    simp at hi hk
    subst hk
    refine ⟨hi, fun x H' ⟨q1, q2⟩ => ⟨q1, ?_⟩⟩
    rw [q2]
    exact rfl
theorem SrcOk.stop {z : Bool} : ∀ {src : Src} {ts : List T} {K : PySem.W.Frag}, SrcOk G w H z src ts → (itOf K src).stop ts.length H
  | .l a vs, ts, K, ⟨h1, h2, _⟩ => ⟨vs, .inl h1, by rw [h2.length]; exact Nat.le_refl _⟩
  | .t a vs, ts, K, ⟨h1, h2⟩ => ⟨vs, SqT.of h1, by rw [h2.length]; exact Nat.le_refl _⟩
  | .r lo n, ts, K, ⟨h1, _⟩ => by subst h1; show n ≤ _; simp
theorem SrcOk.small {z : Bool} {pins : List (Addr × Obj)} {σ : St} {s : Shared} (I : Inv X pins σ H s) : ∀ {src : Src} {ts : List T}, SrcOk G w H z src ts → ts.length ≤ sizeLine
  | .l a vs, ts, ⟨h1, h2, _⟩ => by rw [h2.length]; exact (Rd.lst I h1).1
  | .t a vs, ts, ⟨h1, h2⟩ => by
    rw [h2.length]
    exact (I.hok a _ h1).1
  | .r lo n, ts, ⟨h1, h2⟩ => by subst h1; simpa using h2
def WantI (G : Gx) (X : Cx) (σV : St) (w : Wo) (H : Hp) (z : Bool) (res : Res R) (Q : It → Hp → Prop) : Prop := match res with
  | .ok (.val (.lst ts)) s' => ∀ w' H' src, Le w w' H H' → StoOk G w' H' s' → SrcOk G w' H' z src ts → Q (itOf X.K src) H'
  | .exc c s' => ∀ w' H' pins u sh, Le w w' H H' → StoOk G w' H' s' → Thrown G X pins σV H' c u sh → X.xe u sh
  | _ => False
def tI (G : Gx) (X : Cx) (C : Cf) (e : E) (m : Md) (z : Bool) : TI := fun σV H R => ∃ w₀ H₀ w σ s, Good G w₀ H₀ w H σ s σV ∧ WantI G X σV w H z (ev C e m σ s) R
theorem PI.imp {tg e : Expr} {t t' : TI} (h : PI X tg e t) (q : ∀ σ H R, t' σ H R → t σ H R) : PI X tg e t' := fun pins s σ H R I z => h pins s σ H R I (q _ _ _ z)
/-- a list or a tuple, as it comes -/
theorem pi_seq {tg l : Expr} {tl : TE} (hl : PE X l tl) : PI X tg l (fun σ H R => tl σ H fun x H1 => ∃ a, x = .ref a ∧ ((∃ xs, Rd H1 a (.lst xs) ∧ R (Itl X.K a) H1) ∨ ∃ xs, H1 a = some (.tup xs) ∧ R (Itt X.K a) H1)) := by
  intro pins s σ H R I h
  refine thn (hl pins s σ H _ I h) fun v s1 ⟨x, H1, I1, r1, q1⟩ => ?_
  obtain ⟨a, e, q⟩ := q1
  subst e
  cases r1
  have hf : ∀ b ∈ [s1.heap.objs.size], FpOk X pins H1 b := fun b hb => by
    have e : b = s1.heap.objs.size := by simpa using hb
    subst e
    exact I1.fpOk (Nat.le_refl _) (I1.hok.fresh (Nat.le_refl _))
  rcases q with ⟨xs, hq, q⟩ | ⟨xs, hq, q⟩
  · obtain ⟨its, rv, p⟩ := inv_lst I1 hq
    refine wpAny_pyIter_list p ?_
    exact ⟨s1.heap.objs.size, [s1.heap.objs.size], _, _, H1, rfl, I1.kept (t' := s1.toks) fun b o e => Heap.get?_push_of_some _ e, turn_list a _, ⟨_, Heap.get?_push_size _ rfl, rfl, rfl⟩, hf, q⟩
  · obtain ⟨its, rv, p⟩ := inv_tup I1 hq
    refine wpAny_pyIter_tuple p ?_
    exact ⟨s1.heap.objs.size, [s1.heap.objs.size], _, _, H1, rfl, I1.kept (t' := s1.toks) fun b o e => Heap.get?_push_of_some _ e, turn_tuple a _, ⟨_, Heap.get?_push_size _ rfl, rfl, rfl⟩, hf, q⟩
theorem sI_plain {tg e : Expr} {e' : E} {m : Md} {z : Bool} (hE : PE X e (tV G X C e')) (hm : m = .i ∧ z = false ∨ m = .j ∧ z = true)
    (hev : ∀ σ s, ev C e' m σ s = fin m (ev C e' .v σ s)) : PI X tg e (tI G X C e' m z) := by
  refine PI.imp (pi_seq hE) ?_
  rintro σV H R ⟨w₀, H₀, w, σ, s, g, h⟩
  rw [hev] at h
  refine ⟨w₀, H₀, w, σ, s, g, ?_⟩
  cases he : ev C e' .v σ s with
  | stuck => rw [he] at h; rcases hm with ⟨rfl, rfl⟩ | ⟨rfl, rfl⟩ <;> exact h
  | exc c s1 => rw [he] at h; rcases hm with ⟨rfl, rfl⟩ | ⟨rfl, rfl⟩ <;> exact h
  | ok x s1 =>
    rw [he] at h
    intro w1 H1 v L1 S1 R1
    match x, R1 with
    | .val (.lst ts), ⟨a, vs, e, hz, hr, rp⟩ =>
      subst e
      refine ⟨a, rfl, .inl ⟨vs, hr, ?_⟩⟩
      rcases hm with ⟨rfl, rfl⟩ | ⟨rfl, rfl⟩ <;> exact h w1 H1 (.l a vs) L1 S1 ⟨hr, rp, S1.zLoc hz, fun _ => hz⟩
    | .val (.tup ts), ⟨a, vs, e, hr, rp⟩ =>
      subst e
      refine ⟨a, rfl, .inr ⟨vs, hr, ?_⟩⟩
      rcases hm with ⟨rfl, rfl⟩ | ⟨rfl, rfl⟩ <;> exact h w1 H1 (.t a vs) L1 S1 ⟨hr, rp⟩
    | .bor ts, ⟨a, vs, e, hr, rp, nl⟩ =>
      subst e
      rcases hm with ⟨rfl, rfl⟩ | ⟨rfl, rfl⟩
      · exact ⟨a, rfl, .inl ⟨vs, .inl hr, h w1 H1 (.l a vs) L1 S1 ⟨.inl hr, rp, nl, fun z => by cases z⟩⟩⟩
      · exact h.elim
    | .val .non, _ => rcases hm with ⟨rfl, rfl⟩ | ⟨rfl, rfl⟩ <;> exact h.elim
    | .val (.bl _), _ => rcases hm with ⟨rfl, rfl⟩ | ⟨rfl, rfl⟩ <;> exact h.elim
    | .val (.int _), _ => rcases hm with ⟨rfl, rfl⟩ | ⟨rfl, rfl⟩ <;> exact h.elim
    | .val (.str _), _ => rcases hm with ⟨rfl, rfl⟩ | ⟨rfl, rfl⟩ <;> exact h.elim
    | .val (.loc _), _ => rcases hm with ⟨rfl, rfl⟩ | ⟨rfl, rfl⟩ <;> exact h.elim
    | .val (.exc _), _ => rcases hm with ⟨rfl, rfl⟩ | ⟨rfl, rfl⟩ <;> exact h.elim
theorem bnd_of {i : Int} (h : bnd i = true) : -(2 ^ 62) ≤ i ∧ i < 2 ^ 62 := by
  unfold bnd at h
  rw [Bool.and_eq_true, decide_eq_true_iff, decide_eq_true_iff] at h
  exact h
theorem lim_le : lim ≤ sizeLine := by decide
theorem sI_rng1 {tg a : Expr} {a' : E} {p pos : Pos} {m : Md} {z : Bool} (hm : m = .i ∨ m = .j) (hg : Gl X "range") (hmg : X.mg "range" = none) (ha : PE X a (tV G X C a')) (hs : starEach [a] X.env = [(false, eval a X.env)]) : PI X tg (.Call (.Name "range" p) [a] [] pos) (tI G X C (.rng1 a') m z) := by
  refine PI.imp (pi_range1 hg hmg (pa_cons ha pa_nil hs) hs) ?_
  rintro σV H R ⟨w₀, H₀, w, σ, s, g, h⟩
  have h : WantI G X σV w H z ((ev C a' .v σ s).bind fun x s1 => onI x fun j => if bnd j && decide (j ≤ lim) then .ok (.val (.lst (rangeT 0 j))) s1 else .stuck) R := by rcases hm with rfl | rfl <;> exact h
  refine ⟨w₀, H₀, w, σ, s, g, ?_⟩
  cases he : ev C a' .v σ s with
  | stuck => rw [he] at h; exact h
  | exc c s1 => rw [he] at h; exact h
  | ok x s1 =>
    rw [he] at h
    intro w1 H1 v L1 S1 R1
    match x, R1, h with
    | .val (.int j), R1, h =>
      cases R1
      have h : WantI G X σV w H z (if bnd j && decide (j ≤ lim) then .ok (.val (.lst (rangeT 0 j))) s1 else .stuck) R := h
      split at h
      · rename_i hb
        rw [Bool.and_eq_true, decide_eq_true_iff] at hb
        refine ⟨j, rfl, (bnd_of hb.1).1, (bnd_of hb.1).2, ?_⟩
        refine h w1 H1 (.r 0 j.toNat) L1 S1 ⟨?_, ?_⟩
        · unfold rangeT; simp
        · have := lim_le; omega
      · exact h.elim
    | .val .non, _, h => exact h.elim
    | .val (.bl _), _, h => exact h.elim
    | .val (.str _), _, h => exact h.elim
    | .val (.tup _), _, h => exact h.elim
    | .val (.lst _), _, h => exact h.elim
    | .val (.loc _), _, h => exact h.elim
    | .val (.exc _), _, h => exact h.elim
    | .bor _, _, h => exact h.elim
theorem sI_rng2 {tg a b : Expr} {a' b' : E} {p pos : Pos} {m : Md} {z : Bool} (hm : m = .i ∨ m = .j) (hg : Gl X "range") (hmg : X.mg "range" = none) (ha : PE X a (tV G X C a')) (hb : PE X b (tV G X C b')) (hs : starEach [a, b] X.env = [(false, eval a X.env), (false, eval b X.env)]) (hs2 : starEach [b] X.env = [(false, eval b X.env)]) : PI X tg (.Call (.Name "range" p) [a, b] [] pos) (tI G X C (.rng2 a' b') m z) := by
  refine PI.imp (pi_range2 hg hmg (pa_cons ha (pa_cons hb pa_nil hs2) (by rw [hs, hs2])) hs hs2) ?_
  rintro σV H R ⟨w₀, H₀, w, σ, s, g, h⟩
  have h : WantI G X σV w H z ((ev C a' .v σ s).bind fun x s1 => onI x fun i => (ev C b' .v σ s1).bind fun y s2 => onI y fun j => if bnd i && bnd j && decide (j - i ≤ lim) then .ok (.val (.lst (rangeT i j))) s2 else .stuck) R := by rcases hm with rfl | rfl <;> exact h
  refine ⟨w₀, H₀, w, σ, s, g, ?_⟩
  cases he : ev C a' .v σ s with
  | stuck => rw [he] at h; exact h
  | exc c s1 => rw [he] at h; exact h
  | ok x s1 =>
    rw [he] at h
    intro w1 H1 v L1 S1 R1
    match x, R1, h with
    | .val (.int i), R1, h =>
      cases R1
      refine ⟨w₀, H₀, w1, σ, s1, g.step L1 S1, ?_⟩
      have h : WantI G X σV w H z ((ev C b' .v σ s1).bind fun y s2 => onI y fun j => if bnd i && bnd j && decide (j - i ≤ lim) then .ok (.val (.lst (rangeT i j))) s2 else .stuck) R := h
      cases hf : ev C b' .v σ s1 with
      | stuck => rw [hf] at h; exact h
      | exc c s2 => rw [hf] at h; exact fun w2 H2 pins u sh L2 => h w2 H2 pins u sh (L1.trans L2)
      | ok y s2 =>
        rw [hf] at h
        intro w2 H2 v2 M2 S2 R2
        match y, R2, h with
        | .val (.int j), R2, h =>
          cases R2
          have h : WantI G X σV w H z (if bnd i && bnd j && decide (j - i ≤ lim) then .ok (.val (.lst (rangeT i j))) s2 else .stuck) R := h
          split at h
          · rename_i hb
            rw [Bool.and_eq_true, Bool.and_eq_true, decide_eq_true_iff] at hb
            refine ⟨i, j, rfl, ⟨(bnd_of hb.1.1).1, (bnd_of hb.1.1).2, (bnd_of hb.1.2).1, (bnd_of hb.1.2).2⟩, ?_⟩
            refine h w2 H2 (.r i (j - i).toNat) (L1.trans M2) S2 ⟨rfl, ?_⟩
            have := lim_le
            omega
          · exact h.elim
        | .val .non, _, h => exact h.elim
        | .val (.bl _), _, h => exact h.elim
        | .val (.str _), _, h => exact h.elim
        | .val (.tup _), _, h => exact h.elim
        | .val (.lst _), _, h => exact h.elim
        | .val (.loc _), _, h => exact h.elim
        | .val (.exc _), _, h => exact h.elim
        | .bor _, _, h => exact h.elim
    | .val .non, _, h => exact h.elim
    | .val (.bl _), _, h => exact h.elim
    | .val (.str _), _, h => exact h.elim
    | .val (.tup _), _, h => exact h.elim
    | .val (.lst _), _, h => exact h.elim
    | .val (.loc _), _, h => exact h.elim
    | .val (.exc _), _, h => exact h.elim
    | .bor _, _, h => exact h.elim
/-! ### targets -/
def slots : Tg → List Nat
  | .one i => [i]
  | .many is => is
/-- a value goes into the slots -/
def gTg (G : Gx) (g : Tg) : TG := fun v σV H Q => ∃ w s t σ σ', StoOk G w H s ∧ Rep G w H t v ∧ bindTg σ g t = some σ' ∧ ∀ vs, (∀ H₀ σV', FrOk G w H H₀ σ σV' → FrOk G w H H₀ σ' (setsV σV' (slots g) vs)) → vs.length = (slots g).length → Q (setsV σV (slots g) vs) H
theorem PG.imp {tg : Expr} {t t' : TG} (h : PG X tg t) (q : ∀ v σ H Q, t' v σ H Q → t v σ H Q) : PG X tg t' := fun pins s σ H v u Q I r z => h pins s σ H v u Q I r (q _ _ _ _ z)
theorem sG_one {i : Nat} {x : Str} {pos : Pos} (hN : X.N.Nodup) (hi : X.N[i]? = some x) (hx : Loc X.env.scope x) (hf : X.fn x = true ∨ X.env.scope.names.lookup x = some .local) : PG X (.Name x pos) (gTg G (.one i)) := by
  refine PG.imp (pg_name hN hi hx hf) ?_
  rintro v σV H Q ⟨w, s, t, σ, σ', S, r, e, q⟩
  cases e
  exact q [v] (fun H₀ σV' F => F.put r) rfl
def gMany (js : List Nat) : TGs := fun vs σ H Q => vs.length = js.length ∧ Q (setsV σ js vs) H
theorem PGs.imp {ts : List Expr} {t t' : TGs} (h : PGs X ts t) (q : ∀ v σ H Q, t' v σ H Q → t v σ H Q) : PGs X ts t' := fun pins s σ H v u Q I r z => h pins s σ H v u Q I r (q _ _ _ _ z)
theorem sG_nil : PGs X [] (gMany []) := PGs.imp pgs_nil fun vs σ H Q ⟨h, q⟩ => by
  have : vs = [] := List.length_eq_zero_iff.mp h
  subst this
  exact ⟨rfl, q⟩
theorem sG_cons {i : Nat} {js : List Nat} {x : Str} {pos : Pos} {es : List Expr} (hN : X.N.Nodup) (hi : X.N[i]? = some x) (hx : Loc X.env.scope x) (hf : X.fn x = true ∨ X.env.scope.names.lookup x = some .local) (h2 : PGs X es (gMany js)) : PGs X (.Name x pos :: es) (gMany (i :: js)) := by
  refine PGs.imp (pgs_cons (pg_name hN hi hx hf) h2 rfl) ?_
  rintro vs σ H Q ⟨h, q⟩
  match vs, h, q with
  | v :: r, h, q => exact ⟨v, r, rfl, by simpa using h, q⟩
theorem puts_len : ∀ {is : List Nat} {ts : List T} {σ σ' : Fr}, puts σ is ts = some σ' → is.length = ts.length
  | [], [], _, _, _ => rfl
  | [], _ :: _, _, _, h => by cases h
  | _ :: _, [], _, _, h => by cases h
  | i :: is, t :: ts, σ, σ', h => by simp [puts_len (is := is) (ts := ts) (σ := put σ i t) h]
theorem sG_many {js : List Nat} {es : List Expr} {k : Nat} {pos : Pos} (hc : X.calm = true) (h : PGs X es (gMany js)) (hn : (assignEach es X.env).length = js.length) (hst : (assignEach es X.env).findIdx? (·.1) = none) : PG X (.Tuple es k pos) (gTg G (.many js)) := by
  refine PG.imp (pg_tup hc h hn hst) ?_
  rintro v σV H Q ⟨w, s, t, σ, σ', S, r, e, q⟩
  match t, r, e with
  | .tup ts, ⟨a, vs, e1, hp, rp⟩, e =>
    have e : puts σ js ts = some σ' := e
    have hl := puts_len e
    refine ⟨a, vs, e1, SqT.of hp, by rw [← rp.length, hl], by rw [← rp.length, hl], ?_⟩
    exact q vs (fun H₀ σV' F => FrOk.puts F rp e) (by rw [← rp.length]; exact hl.symm)
  | .non, _, e => cases e
  | .bl _, _, e => cases e
  | .int _, _, e => cases e
  | .str _, _, e => cases e
  | .lst _, _, e => cases e
  | .loc _, _, e => cases e
  | .exc _, _, e => cases e
end
end IP

end
section
set_option Elab.async false
set_option linter.all false
set_option maxRecDepth 100000
namespace IP
open PySem PySem.Spec L2
section
variable {G : Gx} {X : Cx} {C : Cf}
def RepO (G : Gx) (w : Wo) (H : Hp) : Option T → Option V → Prop
  | some t, some v => Rep G w H t v
  | none, none => True
  | _, _ => False
/-- a turn's work behind the target's store -/
def Turned (G : Gx) (X : Cx) (ifs : List Expr) (elt : Expr) (f : Fr → Sto → Res (Option T)) : Prop :=
  ∀ (pins : List (Addr × Obj)) (s : Shared) (σV : St) (H : Hp) (w₀ : Wo) (H₀ : Hp) (w : Wo) (σ : Fr) (st st1 : Sto) (o : Option T) (Q : Option V → Hp → Prop) (E : Value → Shared → Prop), Inv X pins σV H s → Good G w₀ H₀ w H σ st σV → f σ st = .ok o st1 →
    (∀ w1 H1 vo, Le w w1 H H1 → StoOk G w1 H1 st1 → RepO G w1 H1 o vo → Q vo H1) →
    wpAny (model X.prog X.w) X.A (forIn ifs true fun c r => if r = true then do let ok ← isTrue c X.env (eval c X.env); pure (ForInStep.yield ok) else pure (ForInStep.yield r))
      (fun ok s3 => if ok = true then wpAny (model X.prog X.w) X.A (eval elt X.env) (fun u s4 => ∃ v H4, Inv X pins σV H4 s4 ∧ RelV v u ∧ Q (some v) H4) E s3 else ∃ H3, Inv X pins σV H3 s3 ∧ Q none H3) E s
theorem mapRes_cons {f : T → Sto → Res (Option T)} {t : T} {ts q : List T} {s s' : Sto} (h : mapRes f (t :: ts) s = .ok q s') : ∃ o s1 r, f t s = .ok o s1 ∧ mapRes f ts s1 = .ok r s' ∧ q = consO o r := by
  unfold mapRes at h
  cases hf : f t s with
  | stuck => rw [hf] at h; cases h
  | exc c s1 => rw [hf] at h; cases h
  | ok o s1 =>
    rw [hf] at h
    have h : ((mapRes f ts s1).bind fun q s2 => Res.ok (consO o q) s2) = .ok q s' := h
    cases hm : mapRes f ts s1 with
    | stuck => rw [hm] at h; cases h
    | exc c s2 => rw [hm] at h; cases h
    | ok r s2 =>
      rw [hm] at h
      cases h
      exact ⟨o, s1, r, rfl, hm, rfl⟩
theorem mapRes_noexc {f : T → Sto → Res (Option T)} (hf : ∀ t s c s', f t s ≠ .exc c s') : ∀ (ts : List T) (s : Sto) (c : Nat) (s' : Sto), mapRes f ts s ≠ .exc c s'
  | [], s, c, s', h => by cases h
  | t :: ts, s, c, s', h => by
    unfold mapRes at h
    cases hq : f t s with
    | stuck => rw [hq] at h; cases h
    | exc d s1 => exact hf _ _ _ _ hq
    | ok o s1 =>
      rw [hq] at h
      have h : ((mapRes f ts s1).bind fun q s2 => Res.ok (consO o q) s2) = .exc c s' := h
      cases hm : mapRes f ts s1 with
      | stuck => rw [hm] at h; cases h
      | exc d s2 => exact mapRes_noexc hf ts s1 d s2 hm
      | ok r s2 => rw [hm] at h; cases h
theorem onO_noexc {α β : Type} {o : Option α} {f : α → Res β} {c : Nat} {s : Sto} (h : onO o f = .exc c s) : ∃ a, o = some a ∧ f a = .exc c s := by
  cases o with
  | none => cases h
  | some a => exact ⟨a, rfl, h⟩
theorem onO_ok {α β : Type} {o : Option α} {f : α → Res β} {b : β} {s : Sto} (h : onO o f = .ok b s) : ∃ a, o = some a ∧ f a = .ok b s := by
  cases o with
  | none => cases h
  | some a => exact ⟨a, rfl, h⟩
variable {elt iter tg : Expr} {ifs : List Expr} {scope : Scope} {pos : Pos} {it' ce : E} {g : Tg} {N' : List Str} {f : Fr → Sto → Res (Option T)}
theorem appended {pins : List (Addr × Obj)} {σ : St} {H : Hp} {s : Shared} {D : Addr} {xs : List V} {v : V} {u : Value} {Y : Cx} {E : Value → Shared → Prop} {Q : Shared → Prop} (I : Inv Y pins σ H s) (r : RelV v u) (hD : H D = some (.lst xs)) (hl : xs.length < sizeLine)
    (q : ∀ s', Inv Y pins σ (upd H D (.lst (xs ++ [v]))) s' → Q s') : wpAny (model Y.prog Y.w) Y.A (call (.builtin "list.append") [.ref D, u]) (fun _ s' => Q s') E s := by
  have z := mt_append (X := Y.wish E) pins s σ H (.ref D) [v] (.ref D) [u] (fun _ H' => H' = upd H D (.lst (xs ++ [v]))) (I.wish E) rfl (.cons r .nil) ⟨D, xs, v, rfl, rfl, hD, hl, rfl⟩
  refine thn z fun u' s' ⟨_, H', I', _, e⟩ => ?_
  subst e
  exact q s' I'.unwish
theorem setsV_get : ∀ {js : List Nat} {vs : List V} {σV : St} {i : Nat}, i ∉ js → (setsV σV js vs)[i]? = σV[i]?
  | [], vs, σV, i, _ => by cases vs <;> rfl
  | j :: js, [], σV, i, _ => rfl
  | j :: js, v :: vs, σV, i, h => by
    show (setsV (σV.set j (some v)) js vs)[i]? = _
    rw [setsV_get fun q => h (List.mem_cons_of_mem _ q), List.getElem?_set_ne fun q => h (by simp [q])]
theorem comp_core (hc : X.calm = true) (hN : CompN X scope N' (slots g)) (hnd : (slots g).Nodup) (hI : PI X tg iter (tI G X C it' .i false))
    (hG : ∀ A fp s2 H2, PG (cxC X N' scope A fp s2 H2) tg (gTg G g)) (hE : ∀ A fp s2 H2, Turned G (cxC X N' scope A fp s2 H2) ifs elt f) (hs : ∀ x, foldedSetIterable iter X.env x = pure x)
    (hne : ∀ σ s c s', f σ s ≠ .exc c s')
    {pins : List (Addr × Obj)} {s : Shared} {σV : St} {H : Hp} {w₀ w : Wo} {H₀ : Hp} {σ : Fr} {st : Sto} {Q : VK} (I : Inv X pins σV H s) (gd : Good G w₀ H₀ w H σ st σV)
    (h : WantO G X σV w H ((ev C it' .i σ st).bind fun x s1 => onL x fun ts => (mapRes (fun t s => onO (bindTg σ g t) fun σ' => f σ' s) ts s1).bind fun q s2 => .ok (.val (.lst q)) s2) Q)
    {use : Option (Value → Sem Unit)} {Q' : Value → Shared → Prop}
    (hfin : ∀ (s' : Shared) (Hc : Hp) (A D : Addr), Inv X pins σV Hc s' → FpOk X pins Hc A → (∃ m, s'.heap.Ns A m) → Q (.ref D) Hc → compPost (model X.prog X.w) X.A X.xe use Q' (.ref D) A (.ok .next) s') :
    wpAny (model X.prog X.w) X.A (comprehension (.ListComp elt [⟨tg, iter, ifs, 0⟩] scope pos) scope X.env (firstIterPos [⟨tg, iter, ifs, 0⟩] pos) (newList []) false (eval iter X.env) use) Q' X.xe s := by
  have hfree : ∀ x ∈ scope.names, x.2 = .free → ∃ c, X.env.cells.lookup x.1 = some c := fun x hx hf => I.ok.has x.1 (hN.free x hx hf)
  -- what the source gives
  have hsrc : tI G X C it' .i false σV H fun J H2 => ∃ w2 src ts st2 st' q, Le w w2 H H2 ∧ StoOk G w2 H2 st2 ∧ J = itOf X.K src ∧ SrcOk G w2 H2 false src ts ∧ mapRes (fun t s => onO (bindTg σ g t) fun σ' => f σ' s) ts st2 = .ok q st' ∧
      ∀ w' H' a vs, Le w w' H H' → StoOk G w' H' st' → H' a = some (.lst vs) → Reps G w' H' q vs → H a = none → ¬ w'.Z a → notLoc w' a → Q (.ref a) H' := by
    refine ⟨w₀, H₀, w, σ, st, gd, ?_⟩
    cases he : ev C it' .i σ st with
    | stuck => rw [he] at h; exact h
    | exc c s1 => rw [he] at h; exact h
    | ok x s1 =>
      rw [he] at h
      match x, h with
      | .val (.lst ts), h =>
        intro w2 H2 src L S SO
        have h : WantO G X σV w H ((mapRes (fun t s => onO (bindTg σ g t) fun σ' => f σ' s) ts s1).bind fun q s2 => .ok (.val (.lst q)) s2) Q := h
        cases hm : mapRes (fun t s => onO (bindTg σ g t) fun σ' => f σ' s) ts s1 with
        | stuck => rw [hm] at h; exact h.elim
        | exc c s2 =>
          refine absurd hm (mapRes_noexc (fun t s c s' z => ?_) ts s1 c s2)
          obtain ⟨σ', _, z⟩ := onO_noexc z
          exact hne _ _ _ _ z
        | ok q st' =>
          rw [hm] at h
          exact ⟨w2, src, ts, s1, st', q, L, S, rfl, SO, hm, h⟩
      | .val .non, h => exact h.elim
      | .val (.bl _), h => exact h.elim
      | .val (.int _), h => exact h.elim
      | .val (.str _), h => exact h.elim
      | .val (.tup _), h => exact h.elim
      | .val (.loc _), h => exact h.elim
      | .val (.exc _), h => exact h.elim
      | .bor _, h => exact h.elim
  refine wpAny_comprehension_free (use := use) rfl hs (closure_of scope X.env hfree) hN.kind hN.locs (thn (hI pins s σV H _ I hsrc) fun xv s1 h1 => thn h1 fun itv s2 h2 => ?_)
  obtain ⟨it, fp, tn, J, H2, rfl, I2, T, st2, f2, w2, src, ts, stc, st', q, L2, S2, rfl, SO, hm, hq⟩ := h2
  have ho2 : ∀ b ∈ fp, ∃ o, s2.heap.get? b = some o := fun b hb => let ⟨o, e, _⟩ := T.obj _ _ st2 b hb; ⟨o, e⟩
  refine wpAny_newObj_type (wpAny_newFunctionEnv hN.nocell (by intro y hy; simp at hy) (fun h₁ hns₁ hsb₁ => ?_) hN.kind)
  have hns₁ : h₁.Ns (s2.heap.push { cls := .type "list", data := .seq ([] : List Value).toArray }).objs.size (fun _ => none) := hns₁
  have hfD : H2 s2.heap.objs.size = none := I2.hok.fresh (Nat.le_refl _)
  generalize hD : s2.heap.objs.size = D at hfD
  have I3 : Inv X pins σV (upd H2 D (.lst [])) { s2 with heap := s2.heap.push { cls := .type "list", data := .seq ([] : List Value).toArray } } := by
    rw [← hD]
    exact I2.lnew (its := []) (t' := s2.toks) .nil (Nat.zero_le _)
  generalize hs3 : ({ s2 with heap := s2.heap.push { cls := .type "list", data := .seq ([] : List Value).toArray } } : Shared) = s3 at I3
  have k3 : ∀ b o, s2.heap.get? b = some o → s3.heap.get? b = some o := fun b o e => by rw [← hs3]; exact Heap.get?_push_of_some _ e
  have fpD : ∀ b ∈ fp, b ≠ D := fun b hb => by
    obtain ⟨o, e⟩ := ho2 b hb
    rw [← hD]
    exact Nat.ne_of_lt (Heap.lt_size e)
  have f3 : ∀ b ∈ fp, FpOk X pins (upd H2 D (.lst [])) b := fun b hb => ⟨by rw [upd_ne (fpD b hb)]; exact (f2 b hb).1, (f2 b hb).2⟩
  have ho3 : ∀ b ∈ fp, ∃ o, s3.heap.get? b = some o := fun b hb => let ⟨o, e⟩ := ho2 b hb; ⟨o, k3 b o e⟩
  have e3 : (s2.heap.push { cls := .type "list", data := .seq ([] : List Value).toArray }) = s3.heap := by rw [← hs3]
  rw [e3] at hns₁ hsb₁
  have k4 : ∀ b o, s3.heap.get? b = some o → h₁.get? b = some o := fun b o e => hsb₁.extBut b o (Nat.ne_of_lt (Heap.lt_size e)) (Heap.get?_push_of_some _ e)
  have I4 : Inv (cxC X N' scope s3.heap.objs.size fp s3 (upd H2 D (.lst []))) [] (clr σV (slots g)) (upd H2 D (.lst [])) { s3 with heap := h₁, toks := s3.toks + ([] : List (Str × Value)).length } := cxC_inv hN I3 f3 ho3 hns₁ k4
  have tn4 : tn 0 h₁ := T.keep _ _ _ st2 fun b hb o e => k4 b o (k3 b o e)
  generalize hA : s3.heap.objs.size = A at I4 hns₁ hsb₁
  have hAD : D ≠ A := by
    rw [← hA, ← hs3]
    show D ≠ (s2.heap.push _).objs.size
    rw [Heap.size_push, hD]
    exact Nat.ne_of_lt (Nat.lt_succ_self _)
  generalize hY : cxC X N' scope A fp s3 (upd H2 D (.lst [])) = Y at I4
  have eP : Y.prog = X.prog := by rw [← hY]; rfl
  have eW : Y.w = X.w := by rw [← hY]; rfl
  have eK : Y.K = X.K := by rw [← hY]; rfl
  have eA : Y.A = X.A := by rw [← hY]; rfl
  have eC : Y.calm = true := by rw [← hY]; exact hc
  have eL : Y.env.locals = A := by rw [← hY]; rfl
  have eN : Y.env = compEnvC scope (clo X.env.cells scope.names []) A X.env := by rw [← hY]; rfl
  have stat : ∀ {H' : Hp}, (∀ b ∈ fp, H' b = none) → ∀ b ∈ fp, FpOk Y [] H' b := fun {H'} hn b hb => by
    obtain ⟨f0, f1, fx, fy, fz, fw⟩ := f2 b hb
    subst hY
    refine ⟨hn b hb, ?_, ?_, .inl hb, fun x c e => fz x c (clo_sub X.env.cells scope.names [] (fun x c z => by simp at z) x c e), fun p hp => absurd (show p ∈ ([] : List (Addr × Obj)) from hp) (by simp)⟩
    · show b ≠ A
      obtain ⟨o, e⟩ := ho3 b hb
      rw [← hA]
      exact Nat.ne_of_lt (Heap.lt_size e)
    · intro hm
      rcases List.mem_cons.mp (I2.stkSub b hm) with z | z
      · exact f1 z
      · exact fx z
  have hGY : PG Y tg (gTg G g) := by rw [← hY]; exact hG A fp s3 _
  have hEY : Turned G Y ifs elt f := by rw [← hY]; exact hE A fp s3 _
  -- behind the last turn
  have last : ∀ (s' : Shared) (Hc : Hp) (wc : Wo) (accV : List V), Inv Y [] (clr σV (slots g)) Hc s' → Le w2 wc H2 Hc → StoOk G wc Hc st' → Hc D = some (.lst accV) → Reps G wc Hc q accV → ¬ wc.Z D → notLoc wc D →
      compPost (model X.prog X.w) X.A X.xe use Q' (.ref D) A (.ok .next) s' := by
    intro s' Hc wc accV Ic Lc Sc hDc rc nzc nl
    obtain ⟨m, hm', _⟩ := Ic.loc
    rw [eL] at hm'
    have un : Un (frs X.stack) fp (upd H2 D (.lst [])) Hc s3.heap s'.heap := by
      have := Ic.base
      subst hY
      exact this
    have hcA : Hc A = none := by have := Ic.free; rw [eL] at this; exact this
    have hok : HOk X.prog X.w Hc s'.heap := by rw [← eP, ← eW]; exact Ic.hok
    have I5 : Inv X pins σV Hc s' := by
      have os : s'.os = s3.os := by have := Ic.os; subst hY; exact this
      exact I3.call' (s' := s') (ch := fp) os un hok Ic.bare fun b hb => ⟨(f2 b hb).2.2.2.1, (f2 b hb).2.1, (f2 b hb).2.2.2.2.1, (f2 b hb).2.2.2.2.2⟩
    have fA : FpOk X pins Hc A := by rw [← hA]; exact I3.fpOk (Nat.le_refl _) (by rw [hA]; exact hcA)
    have hHD : H D = none := by
      cases e : H D with
      | none => rfl
      | some o => exact absurd hfD (L2.some_ D (by rw [e]; intro z; cases z))
    exact hfin s' Hc A D I5 fA ⟨m, hm'⟩ (hq wc Hc D accV (L2.trans Lc) Sc hDc rc hHD nzc nl)
  -- the turns
  have loop : ∀ s4 : Shared, s4 = { s3 with heap := h₁, toks := s3.toks + ([] : List (Str × Value)).length } →
      codeAny (model X.prog X.w) X.A (.compLoop (.ListComp elt [⟨tg, iter, ifs, 0⟩] scope pos) 0 (.ref it) (.ref D) Y.env) (compPost (model X.prog X.w) X.A X.xe use Q' (.ref D) A) s4 := by
    rintro s4 rfl
    refine codeAny_loop rfl (fun n s' => ∃ (i : Nat) (Hc : Hp) (wc : Wo) (stc' : Sto) (accT : List IP.T) (accV : List V) (rest : List IP.T), n = ts.length - i ∧ i ≤ ts.length ∧ Inv Y [] (clr σV (slots g)) Hc s' ∧ tn i s'.heap ∧ (∀ b ∈ fp, Hc b = none) ∧
        Le w2 wc H2 Hc ∧ StoOk G wc Hc stc' ∧ Hc D = some (.lst accV) ∧ Reps G wc Hc accT accV ∧ ¬ wc.Z D ∧ notLoc wc D ∧ accT.length ≤ i ∧
        mapRes (fun t s => onO (bindTg σ g t) fun σ' => f σ' s) (ts.drop i) stc' = .ok rest st' ∧ q = accT ++ rest) ?_ ts.length
      ⟨0, upd H2 D (.lst []), w2, stc, [], [], q, rfl, Nat.zero_le _, I4, tn4, fun b hb => by rw [upd_ne (fpD b hb)]; exact (f2 b hb).1, Le.new hfD _, S2.new hfD _, upd_same, rfl, (S2.fresh hfD).1, (S2.fresh hfD).2, Nat.le_refl _, hm, rfl⟩
    rintro n s' ⟨i, Hc, wc, stc', accT, accV, rest, hn, hi, Ic, tc, fc, Lc, Sc, hDc, rc, nz, nl, hal, hmr, hqr⟩
    have SOc : SrcOk G wc Hc false src ts := SO.mono Lc S2
    show wpAny _ X.A ((compTurn (.ListComp elt [⟨tg, iter, ifs, 0⟩] scope pos) 0 (.ref it) (.ref D) Y.env).onRaise (fun x => do noteFrame x Y.env; theTreesLotGoes x)) _ _ s'
    refine wpAny_noted ?_
    rw [compTurn_list]
    refine wpAny_bind (wpAny_standAt (wpAny_bind ?_))
    by_cases hlt : i < ts.length
    · have et : ts[i]? = some ts[i] := List.getElem?_eq_getElem hlt
      have ed : ts.drop i = ts[i] :: ts.drop (i + 1) := List.drop_eq_getElem_cons hlt
      rw [ed] at hmr
      obtain ⟨o, st1, r1, hf1, hm1, er⟩ := mapRes_cons hmr
      obtain ⟨σ', hb, hf2⟩ := onO_ok hf1
      obtain ⟨go, yld⟩ := SOc.go (K := X.K) et
      have z := T.item Y eP eW eK eC i [] s' (clr σV (slots g)) Hc (notedBy (model X.prog X.w) X.A Y.env fun e s' => compPost (model X.prog X.w) X.A X.xe use Q' (.ref D) A (.error e) s') Ic (stat fc) tc go
      rw [eA] at z
      refine thn z fun r s5 ⟨u, hr, h5⟩ => ?_
      subst hr
      refine wpAny_bind (thn h5 fun _ s6 ⟨x, H6, I6, r6, y6, t6, f6⟩ => ?_)
      have rx := (yld x H6 y6).2
      obtain rfl : Hc = H6 := (yld x H6 y6).1.symm
      have I6' := I6.pinned (stat f6) (T.obj _ _ t6)
      have hgd : Good G w₀ H₀ wc Hc σ stc' σV := (gd.step L2 S2).step Lc Sc
      have zg := hGY _ s6 (clr σV (slots g)) Hc x u (fun σ7 H7 => H7 = Hc ∧ ∃ vs, σ7 = setsV σV (slots g) vs ∧ FrOk G wc Hc H₀ σ' (setsV σV (slots g) vs)) I6' r6
        ⟨wc, stc', ts[i], σ, σ', Sc, rx, hb, fun vs hfr hl => ⟨rfl, vs, setsV_clr hnd hl.symm, hfr H₀ σV hgd.fr⟩⟩
      rw [eP, eW, eA] at zg
      have zg' := wpAny_noRaise (E := notedBy (model X.prog X.w) X.A Y.env fun e s' => compPost (model X.prog X.w) X.A X.xe use Q' (.ref D) A (.error e) s') (by
        have e0 : Y.xe = fun _ _ => False := by rw [← hY]; rfl
        rw [e0] at zg
        exact zg)
      refine wpAny_bind (thn zg' fun _ s7 ⟨σ7, H7, I7, eH7, vs, e7, F7⟩ => ?_)
      obtain rfl : Hc = H7 := eH7.symm
      subst e7
      have zt := hEY _ s7 _ Hc w₀ H₀ wc σ' stc' st1 o (fun vo H8 => ∃ w8, Le wc w8 Hc H8 ∧ StoOk G w8 H8 st1 ∧ RepO G w8 H8 o vo) (notedBy (model X.prog X.w) X.A Y.env fun e s' => compPost (model X.prog X.w) X.A X.xe use Q' (.ref D) A (.error e) s')
        I7 ⟨Sc, F7, hgd.ent⟩ hf2 fun w8 H8 vo L8 S8 R8 => ⟨w8, L8, S8, R8⟩
      rw [eP, eW, eA] at zt
      -- the next turn's state
      have next : ∀ (s8 : Shared) (H8 : Hp) (w8 : Wo) (accT' : List IP.T) (accV' : List V), Inv Y ([] ++ pinsAt fp s6.heap) (setsV σV (slots g) vs) H8 s8 → Le w2 w8 H2 H8 → StoOk G w8 H8 st1 → H8 D = some (.lst accV') → Reps G w8 H8 accT' accV' → ¬ w8.Z D → notLoc w8 D → accT'.length ≤ i + 1 → q = accT' ++ r1 →
          ∃ m, m < n ∧ ∃ (i : Nat) (Hc : Hp) (wc : Wo) (stc' : Sto) (accT : List IP.T) (accV : List V) (rest : List IP.T), m = ts.length - i ∧ i ≤ ts.length ∧ Inv Y [] (clr σV (slots g)) Hc s8 ∧ tn i s8.heap ∧ (∀ b ∈ fp, Hc b = none) ∧
            Le w2 wc H2 Hc ∧ StoOk G wc Hc stc' ∧ Hc D = some (.lst accV) ∧ Reps G wc Hc accT accV ∧ ¬ wc.Z D ∧ notLoc wc D ∧ accT.length ≤ i ∧
            mapRes (fun t s => onO (bindTg σ g t) fun σ' => f σ' s) (ts.drop i) stc' = .ok rest st' ∧ q = accT ++ rest := by
        intro s8 H8 w8 accT' accV' I8 L8 S8 hD8 r8 nz8 nl8 hl8 hq8
        have hpin : ∀ b ∈ fp, ∀ o, s6.heap.get? b = some o → s8.heap.get? b = some o ∧ H8 b = none := fun b hb o e => by
          have := I8.pin (b, o) (List.mem_append_right _ (List.mem_append_right _ (mem_pinsAt hb e)))
          exact ⟨this.1, this.2.1⟩
        refine ⟨ts.length - (i + 1), by omega, i + 1, H8, w8, st1, accT', accV', r1, rfl, hlt, ?_, T.keep _ _ _ t6 fun b hb o e => (hpin b hb o e).1, fun b hb => ?_, L8, S8, hD8, r8, nz8, nl8, hl8, hm1, hq8⟩
        · refine Inv.unpinned (pins := []) (pl := pinsAt fp s6.heap) (I8.weak ?_ fun j v e => ?_)
          · rw [clr_len, setsV_len]
          · obtain ⟨e1, e2⟩ := clr_get _ _ _ _ e
            rw [setsV_get e2]
            exact e1
        · obtain ⟨o, e, _⟩ := T.obj _ _ t6 b hb
          exact (hpin b hb o e).2
      refine wpAny_bind (thn zt fun ok s8 h8 => ?_)
      have nzD : ∀ {w8 : Wo} {H8 : Hp}, Le wc w8 Hc H8 → ¬ w8.Z D := fun L8 z => by
        rcases L8.newZ D z with z | z
        · exact nz z
        · rw [hDc] at z; cases z
      have nlD : ∀ {w8 : Wo} {H8 : Hp}, Le wc w8 Hc H8 → notLoc w8 D := fun L8 => notLoc.mono L8 (by rw [hDc]; intro z; cases z) nl
      cases ok with
      | false =>
        simp only [Bool.false_eq_true, if_false] at h8 ⊢
        obtain ⟨H8, I8, w8, L8, S8, R8⟩ := h8
        have eo : o = none := by cases o with | none => rfl | some t => exact R8.elim
        subst eo
        subst er
        exact wpAny_pure ⟨rfl, next s8 H8 w8 accT accV I8 (Lc.trans L8) S8 (L8.keep D _ hDc nl) (Reps.mono L8 Sc _ _ rc) (nzD L8) (nlD L8) (by omega) hqr⟩
      | true =>
        simp only [if_true] at h8 ⊢
        refine wpAny_bind (wpAny_bind (thn h8 fun u9 s9 ⟨v9, H9, I9, r9, w9, L9, S9, R9⟩ => ?_))
        have eo : ∃ t9, o = some t9 := by cases o with | none => exact R9.elim | some t => exact ⟨t, rfl⟩
        obtain ⟨t9, rfl⟩ := eo
        have R9 : Rep G w9 H9 t9 v9 := R9
        subst er
        have hD9 := L9.keep D _ hDc nl
        have hlen : accV.length < sizeLine := by
          rw [← rc.length]
          have := SOc.small Ic
          omega
        have za := appended (E := notedBy (model X.prog X.w) X.A Y.env fun e s' => compPost (model X.prog X.w) X.A X.xe use Q' (.ref D) A (.error e) s') I9 r9 hD9 hlen fun s10 I10 =>
          next s10 _ w9 (accT ++ [t9]) (accV ++ [v9]) I10 ((Lc.trans L9).updNew hfD (by rw [hD9]; intro z; cases z)) (S9.upd hD9 (nzD L9) (nlD L9)) upd_same
            (Reps.upd hD9 (nzD L9) _ _ ((Reps.mono L9 Sc _ _ rc).append ⟨v9, [], rfl, R9, rfl⟩)) (nzD L9) (nlD L9) (by rw [List.length_append, List.length_singleton]; omega) (by rw [List.append_assoc]; exact hqr)
        rw [eP, eW, eA] at za
        exact wpAny_bind (thn za fun _ s10 h10 => wpAny_pure (wpAny_pure ⟨rfl, h10⟩))
    · have ei : i = ts.length := by omega
      subst ei
      rw [List.drop_length] at hmr
      cases hmr
      rw [List.append_nil] at hqr
      subst hqr
      have z := T.done Y eP eW eK eC ts.length [] s' (clr σV (slots g)) Hc (notedBy (model X.prog X.w) X.A Y.env fun e s' => compPost (model X.prog X.w) X.A X.xe use Q' (.ref D) A (.error e) s') Ic (stat fc) tc SOc.stop
      rw [eA] at z
      refine thn z fun r s5 ⟨hr, I5⟩ => ?_
      subst hr
      exact wpAny_pure (last s5 Hc wc accV I5 Lc Sc hDc rc nz nl)
  show codeAny (model X.prog X.w) X.A (.compStart (.ListComp elt [⟨tg, iter, ifs, 0⟩] scope pos) 0 (.ref it) (.ref D) (compEnvC scope (clo X.env.cells scope.names []) A X.env)) (compPost (model X.prog X.w) X.A X.xe use Q' (.ref D) A) _
  rw [← eN]
  exact codeAny_compStart_list (loop _ rfl) (T.self _ 0 _ _ _ tn4 (loop _ rfl))
/-- the block's own names go -/
theorem gone {pins : List (Addr × Obj)} {s : Shared} {σV : St} {H : Hp} {A : Addr} {h' : Heap} (I : Inv X pins σV H s) (fA : FpOk X pins H A) (sb : Heap.SameBut A s.heap h') : Inv X pins σV H { s with heap := h' } :=
  I.turned (t' := s.toks) (fun b o ne e => (sb.2 b ne).trans e) fA.1 fA.2.1 fA.2.2.2.1 fA.2.2.2.2.1 fA.2.2.2.2.2
theorem comp_own (hc : X.calm = true) (hN : CompN X scope N' (slots g)) (hnd : (slots g).Nodup) (hI : PI X tg iter (tI G X C it' .i false))
    (hG : ∀ A fp s2 H2, PG (cxC X N' scope A fp s2 H2) tg (gTg G g)) (hE : ∀ A fp s2 H2, Turned G (cxC X N' scope A fp s2 H2) ifs elt f) (hs : ∀ x, foldedSetIterable iter X.env x = pure x) (hne : ∀ σ s c s', f σ s ≠ .exc c s')
    (hev : ∀ σ s, ev C ce .v σ s = (ev C it' .i σ s).bind fun x s1 => onL x fun ts => (mapRes (fun t s => onO (bindTg σ g t) fun σ' => f σ' s) ts s1).bind fun q s2 => .ok (.val (.lst q)) s2) :
    PE X (.ListComp elt [⟨tg, iter, ifs, 0⟩] scope pos) (tO G X C ce) := by
  rintro pins s σV H Q I ⟨w₀, H₀, w, σ, st, gd, h⟩
  rw [hev] at h
  rw [eval_ListComp]
  refine comp_core hc hN hnd hI hG hE hs hne I gd h (use := none) fun s' Hc A D I' fA ⟨m, hm⟩ q => ?_
  exact ⟨m, hm, fun h' sb => ⟨.ref D, Hc, gone I' fA sb, rfl, q⟩⟩
/-- y = [.. for ..] where the store comes ahead of the block's end -/
theorem comp_asg {y : Str} {py spos : Pos} {i : Nat} (hc : X.calm = true) (hN : CompN X scope N' (slots g)) (hnd : (slots g).Nodup) (hI : PI X tg iter (tI G X C it' .i false))
    (hG : ∀ A fp s2 H2, PG (cxC X N' scope A fp s2 H2) tg (gTg G g)) (hE : ∀ A fp s2 H2, Turned G (cxC X N' scope A fp s2 H2) ifs elt f) (hs : ∀ x, foldedSetIterable iter X.env x = pure x) (hne : ∀ σ s c s', f σ s ≠ .exc c s')
    (hev : ∀ σ s, ev C ce .v σ s = (ev C it' .i σ s).bind fun x s1 => onL x fun ts => (mapRes (fun t s => onO (bindTg σ g t) fun σ' => f σ' s) ts s1).bind fun q s2 => .ok (.val (.lst q)) s2)
    (hsw : swapsWith (.ListComp elt [⟨tg, iter, ifs, 0⟩] scope pos) (some (.Name y py)) spos.line X.env = pure true) (hXN : X.N.Nodup) (hi : X.N[i]? = some y) (hy : X.env.scope.names.lookup y = some .local) :
    PS X (.Assign [.Name y py] (.ListComp elt [⟨tg, iter, ifs, 0⟩] scope pos) spos) (fun D σV H => tO G X C ce σV H fun v H1 => D.nx (σV.set i (some v)) H1) := by
  rintro pins s σV H DD I ⟨w₀, H₀, w, σ, st, gd, h⟩
  rw [hev] at h
  rw [exec_Assign_Name_used _ _ _ _ hsw]
  refine wpAny_bind (wpAny_standAt (wpAny_bind ?_))
  show wpAny _ X.A (do let _ ← comprehension (.ListComp elt [⟨tg, iter, ifs, 0⟩] scope pos) scope X.env _ (newList []) false (eval iter X.env) (some (assign (.Name y py) X.env))) _ _ s
  refine wpAny_bind (thn (comp_core (pos := pos) hc hN hnd hI hG hE hs hne I gd h (use := some (assign (.Name y py) X.env)) (Q' := fun _ s' => SP X pins DD .next s') fun s' Hc A D I' fA ⟨m, hm⟩ q => ?_) fun _ s' hq => wpAny_pure (wpAny_pure hq))
  refine wpAny_assign_Name (store_ok2 (v := .ref D) I' hXN hi (.inl hy) rfl (fun s'' I'' ⟨a, sb, ha⟩ => ?_) (.inr hy))
  have neA : A ≠ a := fun z => by
    subst z
    rcases ha with ha | ha
    · exact fA.2.1 ha
    · exact fA.2.2.2.2.1 y _ ha rfl
  refine ⟨m, ?_, fun h' sb' => ?_⟩
  · obtain ⟨o, es, ep, e, r⟩ := hm
    exact ⟨o, es, ep, (sb.2 A neA).trans e, r⟩
  · exact ⟨_, Hc, gone I'' fA sb', q⟩
/-! the turns' work -/
theorem turned0 {Y : Cx} {elt : Expr} {e' : E} (hE : PE Y elt (tV G Y C e')) (hx : Y.xe = fun _ _ => False) : Turned G Y [] elt (fun σ st => one (ev C e' .v σ st)) := by
  intro pins s σV H w₀ H₀ w σ st st1 o Q E I gd hf hq
  refine wpAny_tests_nil ?_
  rw [if_pos rfl]
  dsimp only at hf
  cases he : ev C e' .v σ st with
  | stuck => rw [he] at hf; cases hf
  | exc c s1 => rw [he] at hf; cases hf
  | ok r s1 =>
    rw [he] at hf
    match r, hf, he with
    | .val t, hf, he =>
      cases hf
      have z := hE pins s σV H (fun v H' => Q (some v) H') I ⟨w₀, H₀, w, σ, st, gd, by rw [he]; exact fun w' H' v L S R => hq w' H' (some v) L S R⟩
      rw [hx] at z
      exact wpAny_noRaise z
    | .bor ts, hf, he => cases hf
theorem one_noexc (m : Res R) (c : Nat) (s : Sto) : one m ≠ .exc c s := by
  intro h
  cases m with
  | stuck => cases h
  | exc d s1 => cases h
  | ok r s1 => cases r <;> cases h
end
end IP

end
section
set_option Elab.async false
set_option linter.all false
set_option maxRecDepth 100000
namespace IP
open PySem PySem.Spec L2
/-! ### statements -/
def Own (σ : Fr) (σV : St) (a : Addr) : Prop := ∃ (i : Nat) (ts : List T), σ[i]? = some (some (.own ts)) ∧ σV[i]? = some (some (.ref a))
structure LeS (w w' : Wo) (H H' : Hp) (σ σ' : Fr) (σV σV' : St) : Prop where
  n : w.n ≤ w'.n
  io : ∀ l, l < w.n → w'.io l = w.io l
  Z : ∀ a, w.Z a → w'.Z a
  keep : ∀ a o, H a = some o → notLoc w a → ¬ Own σ σV a → H' a = some o
  newL : ∀ l, w.n ≤ l → l < w'.n → H (w'.io l) = none
  some_ : ∀ a, H a ≠ none → H' a ≠ none
  own : ∀ a, Own σ' σV' a → Own σ σV a ∨ H a = none
  lk : ∀ (i : Nat) (ts : List T), σ'[i]? = some (some (.lck ts)) → (∃ us, σ[i]? = some (some (.lck us))) ∧ σV'[i]? = σV[i]?
section
variable {G : Gx} {X : Cx} {C : Cf} {w w' w₀ : Wo} {H H' H₀ : Hp} {σ σ' : Fr} {σV σV' : St}
theorem LeS.refl : LeS w w H H σ σ σV σV := ⟨Nat.le_refl _, fun _ _ => rfl, fun _ z => z, fun _ _ e _ _ => e, fun l a b => absurd (Nat.lt_of_lt_of_le b a) (Nat.lt_irrefl _), fun _ z => z, fun _ z => .inl z, fun i ts e => ⟨⟨ts, e⟩, rfl⟩⟩
theorem LeS.notLoc (L : LeS w w' H H' σ σ' σV σV') {a : Addr} (h : H a ≠ none) (nl : IP.notLoc w a) : IP.notLoc w' a := fun l hl q => by
  by_cases k : l < w.n
  · exact nl l k (q.trans (L.io l k))
  · have := L.newL l (Nat.le_of_not_lt k) hl
    rw [← q] at this
    exact h this
theorem LeS.trans {w2 : Wo} {H2 : Hp} {σ2 : Fr} {σV2 : St} (a : LeS w w' H H' σ σ' σV σV') (b : LeS w' w2 H' H2 σ' σ2 σV' σV2) : LeS w w2 H H2 σ σ2 σV σV2 where
  n := Nat.le_trans a.n b.n
  io := fun l h => (b.io l (Nat.lt_of_lt_of_le h a.n)).trans (a.io l h)
  Z := fun x z => b.Z x (a.Z x z)
  keep := fun x o e nl no => by
    have hn : H x ≠ none := by rw [e]; intro z; cases z
    refine b.keep x o (a.keep x o e nl no) (a.notLoc hn nl) fun z => ?_
    rcases a.own x z with z | z
    · exact no z
    · exact hn z
  newL := fun l h1 h2 => by
    by_cases h : l < w'.n
    · rw [b.io l h]
      exact a.newL l h1 h
    · have q := b.newL l (Nat.le_of_not_lt h) h2
      cases e : H (w2.io l) with
      | none => rfl
      | some o => exact absurd q (a.some_ _ (by rw [e]; intro z; cases z))
  some_ := fun x z => b.some_ x (a.some_ x z)
  own := fun x z => by
    rcases b.own x z with z | z
    · exact a.own x z
    · refine .inr ?_
      cases e : H x with
      | none => rfl
      | some o => exact absurd z (a.some_ x (by rw [e]; intro q; cases q))
  lk := fun i ts e => by
    obtain ⟨⟨us, h1⟩, h2⟩ := b.lk i ts e
    obtain ⟨h3, h4⟩ := a.lk i us h1
    exact ⟨h3, h2.trans h4⟩
theorem LeS.of (L : Le w w' H H') : LeS w w' H H' σ σ σV σV := ⟨L.n, L.io, L.Z, fun a o e nl _ => L.keep a o e nl, L.newL, L.some_, fun _ z => .inl z, fun i ts e => ⟨⟨ts, e⟩, rfl⟩⟩
/-! what data lean on -/
structure Kp (w w' : Wo) (H H' : Hp) : Prop where
  n : w.n ≤ w'.n
  io : ∀ l, l < w.n → w'.io l = w.io l
  Z : ∀ a, w.Z a → w'.Z a
  z : ∀ a u, w.Z a → Rd H a u → Rd H' a u
  t : ∀ a vs, H a = some (.tup vs) → H' a = some (.tup vs)
  x : ∀ a φ, H a = some (.ext φ) → H' a = some (.ext φ)
mutual
theorem Rep.kp (L : Kp w w' H H') : ∀ (t : T) (v : V), Rep G w H t v → Rep G w' H' t v
  | .non, v, h => h
  | .bl b, v, h => h
  | .int i, v, h => h
  | .str x, v, h => h
  | .tup ts, v, ⟨a, vs, e, h, r⟩ => ⟨a, vs, e, L.t _ _ h, Reps.kp L ts vs r⟩
  | .lst ts, v, ⟨a, vs, e, z, h, r⟩ => ⟨a, vs, e, L.Z _ z, L.z _ _ z h, Reps.kp L ts vs r⟩
  | .loc l, v, ⟨h, e⟩ => ⟨Nat.lt_of_lt_of_le h L.n, by rw [L.io l h]; exact e⟩
  | .exc c, v, ⟨a, e, h⟩ => ⟨a, e, L.x _ _ h⟩
theorem Reps.kp (L : Kp w w' H H') : ∀ (ts : List T) (vs : List V), Reps G w H ts vs → Reps G w' H' ts vs
  | [], vs, h => h
  | t :: ts, vs, ⟨v, r, e, h, q⟩ => ⟨v, r, e, Rep.kp L t v h, Reps.kp L ts r q⟩
end
theorem FrOk.notOwnZ (F : FrOk G w H H₀ σ σV) {a : Addr} (z : w.Z a) : ¬ Own σ σV a := fun ⟨i, ts, e1, e2⟩ => by
  obtain ⟨b, vs, h1, _, _, _, h5, _⟩ := F.own i _ ts e1 rfl
  rw [e2] at h1
  cases h1
  exact h5 z
theorem FrOk.notOwnT (F : FrOk G w H H₀ σ σV) {a : Addr} {o : HO} (e : H a = some o) (h : ∀ vs, o ≠ .lst vs) : ¬ Own σ σV a := fun ⟨i, ts, e1, e2⟩ => by
  obtain ⟨b, vs, h1, h2, _⟩ := F.own i _ ts e1 rfl
  rw [e2] at h1
  cases h1
  rw [e] at h2
  exact h vs (Option.some.inj h2)
theorem LeS.kp {s : Sto} (L : LeS w w' H H' σ σ' σV σV') (S : StoOk G w H s) (F : FrOk G w H H₀ σ σV) : Kp w w' H H' where
  n := L.n
  io := L.io
  Z := L.Z
  z := fun a u z r => by
    have no := F.notOwnZ z
    rcases r with r | ⟨o, r⟩
    · exact .inl (L.keep _ _ r (S.zLoc z) no)
    · exact .inr ⟨o, L.keep _ _ r (S.zLoc z) no⟩
  t := fun a vs e => L.keep _ _ e (S.notLoc e (fun _ z => by cases z) fun _ _ _ z => by cases z) (F.notOwnT e fun _ z => by cases z)
  x := fun a φ e => L.keep _ _ e (S.notLoc e (fun _ z => by cases z) fun _ _ _ z => by cases z) (F.notOwnT e fun _ z => by cases z)
/-! ### what a statement wants -/
def WantS (G : Gx) (X : Cx) (w₀ : Wo) (H₀ : Hp) (w : Wo) (H : Hp) (σ : Fr) (σV : St) (res : SR) (D : Ends) : Prop := match res with
  | .stuck => False
  | .next σ' s' => ∀ w' H' σV', Good G w₀ H₀ w' H' σ' s' σV' → LeS w w' H H' σ σ' σV σV' → D.nx σV' H'
  | .ret r s' => ∀ w' H' v, StoOk G w' H' s' → RepR G w' H' r v → Le w₀ w' H₀ H' → D.rt v H'
  | .retO ts s' => ∀ w' H' a vs, StoOk G w' H' s' → H' a = some (.lst vs) → Reps G w' H' ts vs → H₀ a = none → ¬ w'.Z a → notLoc w' a → Le w₀ w' H₀ H' → D.rt (.ref a) H'
  | .exc c σ' s' => ∀ w' H' σV' pins u sh, Good G w₀ H₀ w' H' σ' s' σV' → LeS w w' H H' σ σ' σV σV' → Thrown G X pins σV' H' c u sh → X.xe u sh
def tS (G : Gx) (X : Cx) (C : Cf) (a : S) : TS := fun D σV H => ∃ w₀ H₀ w σ s, Good G w₀ H₀ w H σ s σV ∧ WantS G X w₀ H₀ w H σ σV (ex C a σ s) D
def tSs (G : Gx) (X : Cx) (C : Cf) (a : List S) : TS := fun D σV H => ∃ w₀ H₀ w σ s, Good G w₀ H₀ w H σ s σV ∧ WantS G X w₀ H₀ w H σ σV (exs C a σ s) D
theorem PS.imp {st : Stmt} {t t' : TS} (h : PS X st t) (q : ∀ D σ H, t' D σ H → t D σ H) : PS X st t' := fun pins s σ H D I z => h pins s σ H D I (q _ _ _ z)
theorem PSs.imp {st : List Stmt} {t t' : TS} (h : PSs X st t) (q : ∀ D σ H, t' D σ H → t D σ H) : PSs X st t' := fun pins s σ H D I z => h pins s σ H D I (q _ _ _ z)
theorem WantS.mono {res : SR} {D : Ends} (L : LeS w w' H H' σ σ' σV σV') (h : WantS G X w₀ H₀ w H σ σV res D) : WantS G X w₀ H₀ w' H' σ' σV' res D := by
  cases res with
  | stuck => exact h
  | next σ2 s2 => exact fun w2 H2 σV2 g M => h w2 H2 σV2 g (L.trans M)
  | ret r s2 => exact h
  | retO ts s2 => exact h
  | exc c σ2 s2 => exact fun w2 H2 σV2 pins u sh g M => h w2 H2 σV2 pins u sh g (L.trans M)
theorem WantS.bind {m : SR} {k : Fr → Sto → SR} {D : Ends} {u : TS} (h : WantS G X w₀ H₀ w H σ σV (m.bind k) D)
    (hu : ∀ w1 H1 σ1 s1 σV1, Good G w₀ H₀ w1 H1 σ1 s1 σV1 → WantS G X w₀ H₀ w1 H1 σ1 σV1 (k σ1 s1) D → u D σV1 H1) : WantS G X w₀ H₀ w H σ σV m { D with nx := u D } := by
  cases m with
  | stuck => exact h
  | next σ2 s2 => exact fun w2 H2 σV2 g L => hu w2 H2 σ2 s2 σV2 g (WantS.mono L h)
  | ret r s2 => exact h
  | retO ts s2 => exact h
  | exc c σ2 s2 => exact h
theorem sSs_nil : PSs X [] (tSs G X C []) := PSs.imp pss_nil fun D σV H ⟨w₀, H₀, w, σ, s, g, h⟩ => h w H σV g LeS.refl
theorem sSs_cons {st : Stmt} {rest : List Stmt} {a : S} {as : List S} (h1 : PS X st (tS G X C a)) (h2 : PSs X rest (tSs G X C as)) : PSs X (st :: rest) (tSs G X C (a :: as)) := by
  refine PSs.imp (pss_cons h1 h2) ?_
  rintro D σV H ⟨w₀, H₀, w, σ, s, g, h⟩
  refine ⟨w₀, H₀, w, σ, s, g, WantS.bind h fun w1 H1 σ1 s1 σV1 g1 h1 => ?_⟩
  exact ⟨w₀, H₀, w1, σ1, s1, g1, h1⟩
/-- an expression at a statement's head -/
theorem st_of {m : Res R} {k : R → Sto → SR} {D : Ends} {s : Sto} (g : Good G w₀ H₀ w H σ s σV) (h : WantS G X w₀ H₀ w H σ σV (m.st σ k) D) :
    Want G X σV w H m fun v H1 => ∃ w1 r s1, Le w w1 H H1 ∧ StoOk G w1 H1 s1 ∧ RepR G w1 H1 r v ∧ Good G w₀ H₀ w1 H1 σ s1 σV ∧ WantS G X w₀ H₀ w1 H1 σ σV (k r s1) D := by
  cases m with
  | stuck => exact h
  | ok r s1 => exact fun w1 H1 v L S R => ⟨w1, r, s1, L, S, R, g.step L S, WantS.mono (LeS.of L) h⟩
  | exc c s1 => exact fun w1 H1 pins u sh L S T => h w1 H1 σV pins u sh (g.step L S) (LeS.of L) T
theorem onS_w {α : Type} {o : Option α} {f : α → SR} {D : Ends} (h : WantS G X w₀ H₀ w H σ σV (onS o f) D) : ∃ a, o = some a ∧ WantS G X w₀ H₀ w H σ σV (f a) D := by
  cases o with
  | none => exact h.elim
  | some a => exact ⟨a, rfl, h⟩
theorem val_of {r : R} {t : T} (h : r.val? = some t) : r = .val t := by
  cases r with
  | val u => cases h; rfl
  | bor u => cases h
/-! ### name = value -/
theorem own_set {i : Nat} {b : Option B} {x : Option V} (hb : ∀ ts, b ≠ some (.own ts)) {a : Addr} (h : Own (σ.set i b) (σV.set i x) a) : Own σ σV a := by
  obtain ⟨j, ts, e1, e2⟩ := h
  by_cases hj : i = j
  · subst hj
    have hlt : i < σ.length := by
      have := (List.getElem?_eq_some_iff.mp e1).1
      simpa using this
    rw [List.getElem?_set_self hlt] at e1
    exact absurd (Option.some.inj e1) (hb ts)
  · rw [List.getElem?_set_ne hj] at e1 e2
    exact ⟨j, ts, e1, e2⟩
theorem lk_set {i : Nat} {b : Option B} {x : Option V} (hb : ∀ ts, b ≠ some (.lck ts)) (j : Nat) (ts : List T) (e : (σ.set i b)[j]? = some (some (.lck ts))) : (∃ us, σ[j]? = some (some (.lck us))) ∧ (σV.set i x)[j]? = σV[j]? := by
  by_cases hj : i = j
  · subst hj
    have hlt : i < σ.length := by
      have := (List.getElem?_eq_some_iff.mp e).1
      simpa using this
    rw [List.getElem?_set_self hlt] at e
    exact absurd (Option.some.inj e) (hb ts)
  · rw [List.getElem?_set_ne hj] at e ⊢
    exact ⟨⟨ts, e⟩, rfl⟩
theorem LeS.set {i : Nat} {b : Option B} {x : Option V} (hb : ∀ ts, b ≠ some (.own ts)) (hb' : ∀ ts, b ≠ some (.lck ts)) : LeS w w H H σ (σ.set i b) σV (σV.set i x) :=
  ⟨Nat.le_refl _, fun _ _ => rfl, fun _ z => z, fun _ _ e _ _ => e, fun l a b => absurd (Nat.lt_of_lt_of_le b a) (Nat.lt_irrefl _), fun _ z => z, fun a z => .inl (own_set hb z), lk_set hb'⟩
theorem LeS.put {i : Nat} {t : T} {v : V} : LeS w w H H σ (IP.put σ i t) σV (σV.set i (some v)) := LeS.set (by intro ts z; cases z) (by intro ts z; cases z)
theorem Good.put {s : Sto} {i : Nat} {t : T} {v : V} (g : Good G w₀ H₀ w H σ s σV) (r : Rep G w H t v) : Good G w₀ H₀ w H (IP.put σ i t) s (σV.set i (some v)) := ⟨g.sto, g.fr.put r, g.ent⟩
variable {e : Expr} {e' : E} {x : Str} {pos pos' : Pos} {i : Nat}
theorem sS_asg (hN : X.N.Nodup) (hi : X.N[i]? = some x) (hx : Loc X.env.scope x) (he : PE X e (tV G X C e')) (hs : swapsWith e (some (.Name x pos')) pos.line X.env = pure false) (hf : X.fn x = true ∨ X.env.scope.names.lookup x = some .local) :
    PS X (.Assign [.Name x pos'] e pos) (tS G X C (.asg i e')) := by
  refine PS.imp (ps_set hN hi hx he hs hf) ?_
  rintro D σV H ⟨w₀, H₀, w, σ, s, g, h⟩
  refine ⟨w₀, H₀, w, σ, s, g, (st_of g h).imp ?_⟩
  rintro v H1 ⟨w1, r, s1, L1, S1, R1, g1, h1⟩
  obtain ⟨t, ht, h1⟩ := onS_w h1
  cases val_of ht
  exact h1 w1 H1 _ (g1.put R1) LeS.put
theorem sS_ret (he : PE X e (tV G X C e')) : PS X (.Return (some e) pos) (tS G X C (.ret e')) := by
  refine PS.imp (ps_ret he) ?_
  rintro D σV H ⟨w₀, H₀, w, σ, s, g, h⟩
  refine ⟨w₀, H₀, w, σ, s, g, (st_of g h).imp ?_⟩
  rintro v H1 ⟨w1, r, s1, L1, S1, R1, g1, h1⟩
  exact h1 w1 H1 v S1 R1 g1.ent
theorem onBS_t {x : R} {v : V} {m n : SR} {D : Ends} (r : RepR G w H x v) (h : WantS G X w₀ H₀ w H σ σV (onBS x m n) D) : ∃ k, v = .bl k ∧ WantS G X w₀ H₀ w H σ σV (if k = true then m else n) D := by
  match x, h with
  | .val (.bl true), h => exact ⟨true, r, h⟩
  | .val (.bl false), h => exact ⟨false, r, h⟩
  | .val .non, h => exact h.elim
  | .val (.int _), h => exact h.elim
  | .val (.str _), h => exact h.elim
  | .val (.tup _), h => exact h.elim
  | .val (.lst _), h => exact h.elim
  | .val (.loc _), h => exact h.elim
  | .val (.exc _), h => exact h.elim
  | .bor _, h => exact h.elim
theorem sS_ifs {c : Expr} {c' : E} {a b : List Stmt} {a' b' : List S} (hc : PT X c (tT G X C c')) (ha : PSs X a (tSs G X C a')) (hb : PSs X b (tSs G X C b')) : PS X (.If c a b pos) (tS G X C (.ifs c' a' b')) := by
  refine PS.imp (ps_if hc ha hb) ?_
  rintro D σV H ⟨w₀, H₀, w, σ, s, g, h⟩
  refine ⟨w₀, H₀, w, σ, s, g, (st_of g h).imp ?_⟩
  rintro v H1 ⟨w1, r, s1, L1, S1, R1, g1, h1⟩
  obtain ⟨k, rfl, h1⟩ := onBS_t R1 h1
  refine ⟨k, rfl, ?_⟩
  cases k with
  | true => exact iteT ⟨w₀, H₀, w1, σ, s1, g1, h1⟩
  | false => exact iteF ⟨w₀, H₀, w1, σ, s1, g1, h1⟩
end
end IP

end
section
set_option Elab.async false
set_option linter.all false
set_option maxRecDepth 100000
namespace IP
open PySem PySem.Spec L2
section
variable {G : Gx} {X : Cx} {C : Cf} {w w' w₀ : Wo} {H H' H₀ : Hp} {σ σ' : Fr} {σV σV' : St}
/-! ### a list of one's own -/
theorem set_get {α : Type} {l : List (Option α)} {i j : Nat} {b : Option α} {c : α} (h : (l.set i b)[j]? = some (some c)) : (i = j ∧ b = some c ∧ i < l.length) ∨ (i ≠ j ∧ l[j]? = some (some c)) := by
  by_cases hj : i = j
  · subst hj
    have hlt : i < l.length := by
      have := (List.getElem?_eq_some_iff.mp h).1
      simpa using this
    rw [List.getElem?_set_self hlt] at h
    exact .inl ⟨rfl, Option.some.inj h, hlt⟩
  · rw [List.getElem?_set_ne hj] at h
    exact .inr ⟨hj, h⟩
/-- a new list goes to a name -/
theorem FrOk.mkO {i : Nat} {ts : List T} {a : Addr} {vs : List V} (F : FrOk G w H H₀ σ σV) (ha : H a = some (.lst vs)) (r : Reps G w H ts vs) (h0 : H₀ a = none) (hz : ¬ w.Z a) (hl : notLoc w a)
    (hap : ∀ (j : Nat) (b : B) (us : List T), σ[j]? = some (some b) → ownL b = some us → σV[j]? ≠ some (some (.ref a))) : FrOk G w H H₀ (setOwn σ i ts) (σV.set i (some (.ref a))) where
  len := by unfold setOwn; simp [F.len]
  val := fun j t e => by
    rcases set_get e with ⟨_, z, _⟩ | ⟨ne, z⟩
    · cases z
    · obtain ⟨v, h1, h2⟩ := F.val j t z
      exact ⟨v, by rw [List.getElem?_set_ne ne]; exact h1, h2⟩
  own := fun j b us e eb => by
    rcases set_get e with ⟨rfl, z, hlt⟩ | ⟨ne, z⟩
    · cases z
      cases eb
      exact ⟨a, vs, by rw [List.getElem?_set_self (by rw [← F.len]; exact hlt)], ha, r, h0, hz, hl⟩
    · obtain ⟨p, us', h1, h2⟩ := F.own j b us z eb
      exact ⟨p, us', by rw [List.getElem?_set_ne ne]; exact h1, h2⟩
  apart := fun j k b c us us' p hjk e1 eb e2 ec e3 e4 => by
    rcases set_get e1 with ⟨rfl, z, hlt⟩ | ⟨ne, z⟩
    · rcases set_get e2 with ⟨rfl, _, _⟩ | ⟨ne', z'⟩
      · exact hjk rfl
      · rw [List.getElem?_set_self (by rw [← F.len]; exact hlt)] at e3
        cases e3
        rw [List.getElem?_set_ne ne'] at e4
        exact hap k c us' z' ec e4
    · rcases set_get e2 with ⟨rfl, z', hlt⟩ | ⟨ne', z'⟩
      · rw [List.getElem?_set_self (by rw [← F.len]; exact hlt)] at e4
        cases e4
        rw [List.getElem?_set_ne ne] at e3
        exact hap j b us z eb e3
      · rw [List.getElem?_set_ne ne] at e3
        rw [List.getElem?_set_ne ne'] at e4
        exact F.apart j k b c us us' p hjk z eb z' ec e3 e4
  bor := fun j us e => by
    rcases set_get e with ⟨_, z, _⟩ | ⟨ne, z⟩
    · cases z
    · obtain ⟨p, us', h1, h2⟩ := F.bor j us z
      exact ⟨p, us', by rw [List.getElem?_set_ne ne]; exact h1, h2⟩
/-- a list at a name is changed -/
theorem FrOk.chg {i : Nat} {ts us : List T} {a : Addr} {xs ys : List V} (F : FrOk G w H H₀ σ σV) (hi : σ[i]? = some (some (.own ts))) (hv : σV[i]? = some (some (.ref a))) (ha : H a = some (.lst xs)) (r : Reps G w H us ys) :
    FrOk G w (upd H a (.lst ys)) H₀ (setOwn σ i us) σV := by
  obtain ⟨a', xs', h1, h2, h3, h4, h5, h6⟩ := F.own i _ ts hi rfl
  rw [hv] at h1
  cases h1
  have hlt : i < σ.length := (List.getElem?_eq_some_iff.mp hi).1
  exact {
    len := by unfold setOwn; simp [F.len]
    val := fun j t e => by
      rcases set_get e with ⟨_, z, _⟩ | ⟨ne, z⟩
      · cases z
      · obtain ⟨v, q1, q2⟩ := F.val j t z
        exact ⟨v, q1, Rep.upd ha h5 t v q2⟩
    own := fun j b vs e eb => by
      rcases set_get e with ⟨rfl, z, hlt⟩ | ⟨ne, z⟩
      · cases z
        cases eb
        exact ⟨a, ys, hv, upd_same, Reps.upd ha h5 us ys r, h4, h5, h6⟩
      · obtain ⟨p, us', q1, q2, q3, q4⟩ := F.own j b vs z eb
        have np : p ≠ a := fun y => by
          subst y
          exact F.apart i j _ b ts vs p ne hi rfl z eb hv q1
        exact ⟨p, us', q1, by rw [upd_ne np]; exact q2, Reps.upd ha h5 _ _ q3, q4⟩
    apart := fun j k b c us1 us2 p hjk e1 eb e2 ec e3 e4 => by
      have old : ∀ {j : Nat} {b : B} {us1 : List T}, (setOwn σ i us)[j]? = some (some b) → ownL b = some us1 → ∃ b' us', σ[j]? = some (some b') ∧ ownL b' = some us' := fun {j b us1} e eb => by
        rcases set_get e with ⟨rfl, z, _⟩ | ⟨ne, z⟩
        · exact ⟨_, ts, hi, rfl⟩
        · exact ⟨b, us1, z, eb⟩
      obtain ⟨b', u1, z1, y1⟩ := old e1 eb
      obtain ⟨c', u2, z2, y2⟩ := old e2 ec
      exact F.apart j k b' c' u1 u2 p hjk z1 y1 z2 y2 e3 e4
    bor := fun j vs e => by
      rcases set_get e with ⟨_, z, _⟩ | ⟨ne, z⟩
      · cases z
      · obtain ⟨p, us', q1, q2, q3, q4, q5⟩ := F.bor j vs z
        have np : p ≠ a := fun y => by subst y; exact q4 h4
        exact ⟨p, us', q1, by rw [upd_ne np]; exact q2, Reps.upd ha h5 _ _ q3, q4, q5⟩ }
theorem ownAt_get {i : Nat} {ts : List T} (h : ownAt σ i = some ts) : σ[i]? = some (some (.own ts)) := by
  unfold ownAt at h
  split at h
  · rename_i us e
    cases h
    exact e
  · cases h
theorem Good.chg {s : Sto} {i : Nat} {ts us : List T} {a : Addr} {xs ys : List V} (g : Good G w₀ H₀ w H σ s σV) (hi : σ[i]? = some (some (.own ts))) (hv : σV[i]? = some (some (.ref a))) (ha : H a = some (.lst xs)) (r : Reps G w H us ys) :
    Good G w₀ H₀ w (upd H a (.lst ys)) (setOwn σ i us) s σV ∧ LeS w w H (upd H a (.lst ys)) σ (setOwn σ i us) σV σV := by
  obtain ⟨a', xs', h1, h2, h3, h4, h5, h6⟩ := g.fr.own i _ ts hi rfl
  rw [hv] at h1
  cases h1
  have hlt : i < σ.length := (List.getElem?_eq_some_iff.mp hi).1
  refine ⟨⟨g.sto.upd ha h5 h6, g.fr.chg hi hv ha r, g.ent.updNew h4 (by rw [ha]; intro z; cases z)⟩, Nat.le_refl _, fun _ _ => rfl, fun _ z => z, fun p o e nl no => ?_, fun l a b => absurd (Nat.lt_of_lt_of_le b a) (Nat.lt_irrefl _), fun p z => ?_, fun p z => .inl ?_, fun j vs e => ?_⟩
  · have np : p ≠ a := fun y => by subst y; exact no ⟨i, ts, hi, hv⟩
    rw [upd_ne np]
    exact e
  · by_cases e : p = a
    · subst e; rw [upd_same]; intro z; cases z
    · rw [upd_ne e]; exact z
  · obtain ⟨j, vs, e1, e2⟩ := z
    rcases set_get e1 with ⟨rfl, _, _⟩ | ⟨ne, z⟩
    · exact ⟨i, ts, hi, e2⟩
    · exact ⟨j, vs, z, e2⟩
  · rcases set_get e with ⟨rfl, z, _⟩ | ⟨ne, z⟩
    · cases z
    · exact ⟨⟨vs, z⟩, rfl⟩
/-! ### statements on them -/
variable {e j : Expr} {e' j' : E} {x : Str} {pos pos' p1 p2 : Pos} {i : Nat}
theorem tO_mk {D : Ends} {s : Sto} (g : Good G w₀ H₀ w H σ s σV) (h : WantS G X w₀ H₀ w H σ σV (ex C (.mk i e') σ s) D) : WantO G X σV w H (ev C e' .v σ s) fun v H1 => D.nx (σV.set i (some v)) H1 := by
  unfold ex at h
  split at h
  · cases hv : ev C e' .v σ s with
    | stuck => rw [hv] at h; exact h
    | exc c s1 => rw [hv] at h; exact fun w1 H1 pins u sh L S T => h w1 H1 σV pins u sh (g.step L S) (LeS.of L) T
    | ok r s1 =>
      rw [hv] at h
      obtain ⟨ts, ht, h⟩ := onS_w (show WantS G X w₀ H₀ w H σ σV (onS r.lst? fun ts => .next (setOwn σ i ts) s1) D from h)
      have er : r = .val (.lst ts) := by
        match r, ht with
        | .val (.lst us), ht => cases ht; rfl
      subst er
      intro w1 H1 a vs L S ha r hn nz nl
      have h0 : H₀ a = none := by
        cases q : H₀ a with
        | none => rfl
        | some o => exact absurd hn (g.ent.some_ a (by rw [q]; intro z; cases z))
      have g1 := g.step L S
      have hap : ∀ (j : Nat) (b : B) (us : List T), σ[j]? = some (some b) → ownL b = some us → σV[j]? ≠ some (some (.ref a)) := fun j b us e eb q => by
        obtain ⟨a', xs', h1, h2, _⟩ := g.fr.own j b us e eb
        rw [q] at h1
        cases h1
        rw [hn] at h2
        cases h2
      refine h w1 H1 _ ⟨g1.sto, g1.fr.mkO ha r h0 nz nl hap, g1.ent⟩ ⟨L.n, L.io, L.Z, fun p o e nl _ => L.keep p o e nl, L.newL, L.some_, fun p z => ?_, fun k us e => ?_⟩
      · obtain ⟨k, us, e1, e2⟩ := z
        rcases set_get e1 with ⟨rfl, _, hlt⟩ | ⟨ne, z⟩
        · rw [List.getElem?_set_self (by rw [← g.fr.len]; exact hlt)] at e2
          cases e2
          exact .inr hn
        · rw [List.getElem?_set_ne ne] at e2
          exact .inl ⟨k, us, z, e2⟩
      · rcases set_get e with ⟨_, z, _⟩ | ⟨ne, z⟩
        · cases z
        · exact ⟨⟨us, z⟩, by rw [List.getElem?_set_ne ne]⟩
  · exact h.elim
theorem sS_mk (hN : X.N.Nodup) (hi : X.N[i]? = some x) (hx : Loc X.env.scope x) (he : PE X e (tO G X C e')) (hs : swapsWith e (some (.Name x pos')) pos.line X.env = pure false) (hf : X.fn x = true ∨ X.env.scope.names.lookup x = some .local) :
    PS X (.Assign [.Name x pos'] e pos) (tS G X C (.mk i e')) := by
  refine PS.imp (ps_set hN hi hx he hs hf) ?_
  rintro D σV H ⟨w₀, H₀, w, σ, s, g, h⟩
  exact ⟨w₀, H₀, w, σ, s, g, tO_mk g h⟩
theorem sS_asg_swap (hfr : ∀ σ s r s1, ev C e' .v σ s = .ok r s1 → ∃ ts, r = .val (.lst ts)) (he : PS X (.Assign [.Name x pos'] e pos) (fun D σV H => tO G X C e' σV H fun v H1 => D.nx (σV.set i (some v)) H1)) : PS X (.Assign [.Name x pos'] e pos) (tS G X C (.asg i e')) := by
  refine PS.imp he ?_
  rintro D σV H ⟨w₀, H₀, w, σ, s, g, h⟩
  refine ⟨w₀, H₀, w, σ, s, g, want_o (hfr σ s) ((st_of g h).imp ?_)⟩
  rintro v H1 ⟨w1, r, s1, L1, S1, R1, g1, h1⟩
  obtain ⟨t, ht, h1⟩ := onS_w h1
  cases val_of ht
  exact h1 w1 H1 _ (g1.put R1) LeS.put
/-- x.append(e) -/
theorem sS_app {cpos : Pos} (hN : X.N[i]? = some x) (hv : Vis X.env.scope x) (hd : (x == ("__debug__" : Str)) = false) (hcd : (x == ("__classdict__" : Str)) = false) (he : PE X e (tV G X C e')) (hst : starEach [e] X.env = [(false, eval e X.env)])
    (hline : (p2.endLine == cpos.line) = true) (hbase : attributeBase (.Name x p1) "append" X.env (eval (.Name x p1) X.env) = eval (.Name x p1) X.env)
    (hfew : ((backTo cpos (starEach [e] X.env)).all (fun x => !x.1) && (backToKw cpos (keywordEach [] X.env)).all (fun x => x.1.isSome) && decide ([e].length + ([] : List Keyword).length + (if ([] : List Keyword).isEmpty then 0 else 1) < 30)) = true)
    (hs : swapsWith (.Call (.Attribute (.Name x p1) "append" p2) [e] [] cpos) none pos.line X.env = pure false) :
    PS X (.Expr (.Call (.Attribute (.Name x p1) "append" p2) [e] [] cpos) pos) (tS G X C (.app i e')) := by
  refine PS.imp (ps_expr (pe_bm PySem.F.plainAttrs_list PySem.F.slot_list_append PySem.F.type_list_append mt_append (pe_var hN hv hd hcd) (pa_cons he pa_nil hst) hbase hfew hline hst rfl) hs) ?_
  rintro D σV H ⟨w₀, H₀, w, σ, s, g, h⟩
  obtain ⟨ts, ho, h⟩ := onS_w (show WantS G X w₀ H₀ w H σ σV (onS (ownAt σ i) fun ts => (ev C e' .v σ s).st σ fun x s1 => onS x.val? fun t => if ts.length < lim then .next (setOwn σ i (ts ++ [t])) s1 else .stuck) D from h)
  have hi := ownAt_get ho
  obtain ⟨a, vs, h1, h2, h3, h4, h5, h6⟩ := g.fr.own i _ ts hi rfl
  refine ⟨.ref a, h1, .inl ⟨rfl, vs, SqL.of h2⟩, w₀, H₀, w, σ, s, g, (st_of g h).imp ?_⟩
  rintro v H1 ⟨w1, r, s1, L1, S1, R1, g1, q1⟩
  obtain ⟨t, ht, q1⟩ := onS_w q1
  cases val_of ht
  split at q1
  · rename_i hlim
    have ha1 := L1.keep a _ h2 h6
    have r1 := Reps.mono L1 g.sto ts vs h3
    refine ⟨a, vs, v, rfl, rfl, ha1, by rw [← h3.length]; have := lim_le; omega, ?_⟩
    obtain ⟨g2, l2⟩ := g1.chg hi h1 ha1 (r1.append (show Reps G w1 H1 [t] [v] from ⟨v, [], rfl, R1, rfl⟩))
    exact q1 w1 _ σV g2 l2
  · exact q1.elim
/-- x[j] = e -/
theorem sS_put (hN : X.N[i]? = some x) (hv : Vis X.env.scope x) (hd : (x == ("__debug__" : Str)) = false) (hcd : (x == ("__classdict__" : Str)) = false) (he : PE X e (tV G X C e')) (hj : PE X j (tV G X C j'))
    (hs : swapsWithSole [.Subscript (.Name x p1) j p2] e pos.line X.env = pure false) (hw : swappedStores [.Subscript (.Name x p1) j p2] e X.env = pure none) (h1 : (assignEach [.Subscript (.Name x p1) j p2] X.env).map (·.2) = [assign (.Subscript (.Name x p1) j p2) X.env])
    (ha : ∀ v, assign (.Subscript (.Name x p1) j p2) X.env v = (do
      let ov ← holding [v] (eval (.Name x p1) X.env)
      let iv ← holding [v, ov] (eval j X.env)
      standAt p2
      holding [v, ov, iv] (setItem ov iv v)
      release [v, ov, iv] [])) :
    PS X (.Assign [.Subscript (.Name x p1) j p2] e pos) (tS G X C (.put i j' e')) := by
  refine PS.imp (ps_asg he (pg_sub (pe_var hN hv hd hcd) hj set_list ha) hs hw h1) ?_
  rintro D σV H ⟨w₀, H₀, w, σ, s, g, h⟩
  obtain ⟨ts, ho, h⟩ := onS_w (show WantS G X w₀ H₀ w H σ σV (onS (ownAt σ i) fun ts => (ev C e' .v σ s).st σ fun x s1 => onS x.val? fun t => (ev C j' .v σ s1).st σ fun y s2 => onS y.int? fun k => onS (L2.ixN ts.length k) fun n => .next (setOwn σ i (ts.set n t)) s2) D from h)
  have hi := ownAt_get ho
  obtain ⟨a, vs, h1, h2, h3, h4, h5, h6⟩ := g.fr.own i _ ts hi rfl
  refine ⟨w₀, H₀, w, σ, s, g, (st_of g h).imp ?_⟩
  rintro v H1 ⟨w1, r, s1, L1, S1, R1, g1, q1⟩
  obtain ⟨t, ht, q1⟩ := onS_w q1
  cases val_of ht
  have ha1 := L1.keep a _ h2 h6
  have r1 := Reps.mono L1 g.sto ts vs h3
  have hl1 := notLoc.mono L1 (by rw [h2]; intro z; cases z) h6
  refine ⟨.ref a, h1, w₀, H₀, w1, σ, s1, g1, (st_of g1 q1).imp ?_⟩
  rintro y H2 ⟨w2, r2, s2, L2, S2, R2, g2, q2⟩
  obtain ⟨k, hk, q2⟩ := onS_w q2
  obtain ⟨n, hn, q2⟩ := onS_w q2
  cases R2.int hk
  have ha2 := L2.keep a _ ha1 hl1
  have r2 := Reps.mono L2 S1 ts vs r1
  refine ⟨a, vs, k, n, rfl, rfl, ha2, by rw [← h3.length]; exact hn, ?_⟩
  obtain ⟨g3, l3⟩ := g2.chg hi h1 ha2 (r2.set (Rep.mono L2 S1 t v R1) n)
  exact q2 w2 _ σV g3 l3
/-! ### from now on it stays as it is -/
theorem Good.frz {s : Sto} (g : Good G w₀ H₀ w H σ s σV) (i : Nat) : ∃ w', Good G w₀ H₀ w' H (frz σ i) s σV ∧ LeS w w' H H σ (frz σ i) σV σV := by
  unfold IP.frz
  split
  · rename_i ts hi
    obtain ⟨a, vs, h1, h2, h3, h4, h5, h6⟩ := g.fr.own i _ ts hi rfl
    have zm := fun (t : T) (v : V) (h : Rep G w H t v) => Rep.zmono (w := w) (w' := w.addZ a) rfl rfl (fun _ z => .inl z) t v h
    have zms := fun (t : List T) (v : List V) (h : Reps G w H t v) => Reps.zmono (w := w) (w' := w.addZ a) rfl rfl (fun _ z => .inl z) t v h
    refine ⟨w.addZ a, ⟨g.sto.addZ h2 h6, ⟨by simp [g.fr.len], fun j t e => ?_, fun j b us e eb => ?_, fun j k b c us us' p hjk e1 eb e2 ec => ?_, fun j us e => ?_⟩, g.ent.addZ h4⟩, Nat.le_refl _, fun _ _ => rfl, fun _ z => .inl z, fun _ _ e _ _ => e, fun l a b => absurd (Nat.lt_of_lt_of_le b a) (Nat.lt_irrefl _), fun _ z => z, fun p z => .inl ?_, fun j us e => ?_⟩
    · rcases set_get e with ⟨rfl, z, _⟩ | ⟨ne, z⟩
      · cases z
        exact ⟨.ref a, h1, a, vs, rfl, .inr rfl, .inl h2, zms _ _ h3⟩
      · obtain ⟨v, q1, q2⟩ := g.fr.val j t z
        exact ⟨v, q1, zm t v q2⟩
    · rcases set_get e with ⟨_, z, _⟩ | ⟨ne, z⟩
      · cases z; cases eb
      · obtain ⟨p, us', q1, q2, q3, q4, q5, q6⟩ := g.fr.own j b us z eb
        refine ⟨p, us', q1, q2, zms _ _ q3, q4, fun y => y.elim q5 fun y => ?_, q6⟩
        subst y
        exact g.fr.apart i j _ b ts us p ne hi rfl z eb h1 q1
    · rcases set_get e1 with ⟨_, z, _⟩ | ⟨ne, z⟩
      · cases z; cases eb
      · rcases set_get e2 with ⟨_, z', _⟩ | ⟨ne', z'⟩
        · cases z'; cases ec
        · exact g.fr.apart j k b c us us' p hjk z eb z' ec
    · rcases set_get e with ⟨_, z, _⟩ | ⟨ne, z⟩
      · cases z
      · obtain ⟨p, us', q1, q2, q3, q4⟩ := g.fr.bor j us z
        exact ⟨p, us', q1, q2, zms _ _ q3, q4⟩
    · obtain ⟨j, us, e1, e2⟩ := z
      rcases set_get e1 with ⟨_, z, _⟩ | ⟨ne, z⟩
      · cases z
      · exact ⟨j, us, z, e2⟩
    · rcases set_get e with ⟨_, z, _⟩ | ⟨ne, z⟩
      · cases z
      · exact ⟨⟨us, z⟩, rfl⟩
  · exact ⟨w, g, LeS.refl⟩
theorem sSs_frz {rest : List Stmt} {as : List S} (h : PSs X rest (tSs G X C as)) : PSs X rest (tSs G X C (.frz i :: as)) := by
  refine PSs.imp h ?_
  rintro D σV H ⟨w₀, H₀, w, σ, s, g, h⟩
  obtain ⟨w', g', l'⟩ := g.frz i
  exact ⟨w₀, H₀, w', IP.frz σ i, s, g', WantS.mono l' h⟩
end
end IP

end
section
set_option Elab.async false
set_option linter.all false
set_option maxRecDepth 100000
namespace IP
open PySem PySem.Spec L2
/-! ### while -/
theorem whileN_up {c : Fr → Sto → Res Bool} {b : Fr → Sto → SR} : ∀ (n : Nat) (σ : Fr) (s : Sto), whileN c b n σ s ≠ .stuck → whileN c b (n + 1) σ s = whileN c b n σ s := by
  intro n
  induction n with
  | zero => intro σ s h; exact absurd rfl h
  | succ n ih =>
    intro σ s h
    have h' := h
    unfold whileN at h
    show whileN c b (n + 1 + 1) σ s = _
    conv => lhs; unfold whileN
    conv => rhs; unfold whileN
    cases hc : c σ s with
    | stuck => rfl
    | exc d s1 => rfl
    | ok k s1 =>
      cases k with
      | false => rfl
      | true =>
        rw [hc] at h
        have h : ((b σ s1).bind fun σ2 s2 => whileN c b n σ2 s2) ≠ .stuck := h
        show ((b σ s1).bind fun σ2 s2 => whileN c b (n + 1) σ2 s2) = ((b σ s1).bind fun σ2 s2 => whileN c b n σ2 s2)
        cases hb : b σ s1 with
        | stuck => rfl
        | ret r s2 => rfl
        | retO ts s2 => rfl
        | exc d σ2 s2 => rfl
        | next σ2 s2 =>
          rw [hb] at h
          exact ih σ2 s2 h
theorem whileN_le {c : Fr → Sto → Res Bool} {b : Fr → Sto → SR} {n : Nat} {σ : Fr} {s : Sto} (h : whileN c b n σ s ≠ .stuck) : ∀ k, whileN c b (n + k) σ s = whileN c b n σ s
  | 0 => rfl
  | k + 1 => by
    have ih := whileN_le h k
    rw [← Nat.add_assoc, whileN_up (n + k) σ s (by rw [ih]; exact h), ih]
theorem whileL_of {c : Fr → Sto → Res Bool} {b : Fr → Sto → SR} {n : Nat} {σ : Fr} {s : Sto} (h : whileN c b n σ s ≠ .stuck) : whileL c b σ s = whileN c b n σ s := by
  have hx : ∃ n, whileN c b n σ s ≠ .stuck := ⟨n, h⟩
  unfold whileL
  rw [dif_pos hx]
  have hm := Classical.choose_spec hx
  generalize Classical.choose hx = m at hm
  rcases Nat.le_total n m with q | q
  · obtain ⟨k, rfl⟩ := Nat.exists_eq_add_of_le q
    exact whileN_le h k
  · obtain ⟨k, rfl⟩ := Nat.exists_eq_add_of_le q
    exact (whileN_le hm k).symm
theorem whileL_get {c : Fr → Sto → Res Bool} {b : Fr → Sto → SR} {σ : Fr} {s : Sto} (h : whileL c b σ s ≠ .stuck) : ∃ n, whileL c b σ s = whileN c b n σ s := by
  unfold whileL at h ⊢
  split at h
  · rename_i hx
    rw [dif_pos hx]
    exact ⟨_, rfl⟩
  · exact absurd rfl h
/-- the loop, once more -/
theorem whileL_eq (c : Fr → Sto → Res Bool) (b : Fr → Sto → SR) (σ : Fr) (s : Sto) : whileL c b σ s = match c σ s with
    | .stuck => .stuck
    | .exc d s1 => .exc d σ s1
    | .ok false s1 => .next σ s1
    | .ok true s1 => (b σ s1).bind fun σ2 s2 => whileL c b σ2 s2 := by
  by_cases h : ∃ n, whileN c b n σ s ≠ .stuck
  · obtain ⟨n, hn⟩ := h
    cases n with
    | zero => exact absurd rfl hn
    | succ n =>
      rw [whileL_of hn]
      unfold whileN at hn ⊢
      cases hc : c σ s with
      | stuck => rfl
      | exc d s1 => rfl
      | ok k s1 =>
        cases k with
        | false => rfl
        | true =>
          rw [hc] at hn
          have hn : ((b σ s1).bind fun σ2 s2 => whileN c b n σ2 s2) ≠ .stuck := hn
          show ((b σ s1).bind fun σ2 s2 => whileN c b n σ2 s2) = ((b σ s1).bind fun σ2 s2 => whileL c b σ2 s2)
          cases hb : b σ s1 with
          | stuck => rfl
          | ret r s2 => rfl
          | retO ts s2 => rfl
          | exc d σ2 s2 => rfl
          | next σ2 s2 =>
            rw [hb] at hn
            exact (whileL_of hn).symm
  · have e : whileL c b σ s = .stuck := by unfold whileL; rw [dif_neg h]
    rw [e]
    have h : ∀ n, whileN c b n σ s = .stuck := fun n => Classical.byContradiction fun q => h ⟨n, q⟩
    have h1 := h 1
    unfold whileN at h1
    cases hc : c σ s with
    | stuck => rfl
    | exc d s1 => rw [hc] at h1; cases h1
    | ok k s1 =>
      cases k with
      | false => rw [hc] at h1; cases h1
      | true =>
        show SR.stuck = ((b σ s1).bind fun σ2 s2 => whileL c b σ2 s2)
        cases hb : b σ s1 with
        | stuck => rfl
        | ret r s2 => rw [hc] at h1; simp [hb, whileN] at h1
        | retO ts s2 => rw [hc] at h1; simp [hb, whileN] at h1
        | exc d σ2 s2 => rw [hc] at h1; simp [hb, whileN] at h1
        | next σ2 s2 =>
          show SR.stuck = whileL c b σ2 s2
          unfold whileL
          rw [dif_neg]
          rintro ⟨n, hn⟩
          have := h (n + 1)
          unfold whileN at this
          rw [hc] at this
          simp only [hb, SR.bind_next] at this
          exact hn this
section
variable {G : Gx} {X : Cx} {C : Cf} {w w' w₀ : Wo} {H H' H₀ : Hp} {σ σ' : Fr} {σV σV' : St} {pos : Pos}
def asB (x : R) : Option Bool := match x with | .val (.bl k) => some k | _ => none
theorem sS_whl {c : Expr} {c' : E} {b : List Stmt} {b' : List S} (hwl : C.wl = whileL) (hp : PassesOwn (model X.prog X.w) X.A X.env X.xe) (hc : PT X c (tT G X C c')) (hb : PSs X b (tSs G X C b')) : PS X (.While c b [] pos) (tS G X C (.whl c' b')) := by
  refine PS.imp (ps_while hp hc hb) ?_
  rintro D σV H ⟨w₀, H₀, w, σ, s, g, h⟩
  have h : WantS G X w₀ H₀ w H σ σV (C.wl (fun σ s => (ev C c' .t σ s).bind fun x s1 => .of (match x with | .val (.bl k) => some k | _ => none) s1) (fun σ s => exs C b' σ s) σ s) D := h
  rw [hwl] at h
  generalize hcf : (fun σ s => (ev C c' .t σ s).bind fun x s1 => Res.of (match x with | .val (.bl k) => some k | _ => none) s1) = cf at h
  generalize hbf : (fun σ s => exs C b' σ s) = bf at h
  refine ⟨fun m σV1 H1 => ∃ w1 σ1 s1, Good G w₀ H₀ w1 H1 σ1 s1 σV1 ∧ whileN cf bf m σ1 s1 ≠ .stuck ∧ WantS G X w₀ H₀ w1 H1 σ1 σV1 (whileN cf bf m σ1 s1) D, ?_, ?_⟩
  · have hn : whileL cf bf σ s ≠ .stuck := fun z => by rw [z] at h; exact h
    obtain ⟨n, hn'⟩ := whileL_get hn
    rw [hn'] at hn h
    exact ⟨n, w, σ, s, g, hn, h⟩
  · rintro m σV1 H1 ⟨w1, σ1, s1, g1, hn1, h1⟩
    cases m with
    | zero => exact absurd rfl hn1
    | succ n =>
      unfold whileN at hn1 h1
      refine ⟨w₀, H₀, w1, σ1, s1, g1, ?_⟩
      have ec : cf σ1 s1 = (ev C c' .t σ1 s1).bind fun x s1 => Res.of (match x with | .val (.bl k) => some k | _ => none) s1 := by rw [← hcf]
      rw [ec] at hn1 h1
      cases he : ev C c' .t σ1 s1 with
      | stuck => rw [he] at hn1; exact absurd rfl hn1
      | exc d s2 => rw [he] at h1; exact fun w2 H2 pins u sh L S T => h1 w2 H2 σV1 pins u sh (g1.step L S) (LeS.of L) T
      | ok x s2 =>
        rw [he] at hn1 h1
        intro w2 H2 v L2 S2 R2
        match x, R2, hn1, h1 with
        | .val (.bl true), R2, hn1, h1 =>
          cases R2
          refine ⟨true, rfl, iteT ?_⟩
          have hn1 : ((bf σ1 s2).bind fun σ2 s2 => whileN cf bf n σ2 s2) ≠ .stuck := hn1
          have h1 : WantS G X w₀ H₀ w1 H1 σ1 σV1 ((bf σ1 s2).bind fun σ2 s2 => whileN cf bf n σ2 s2) D := h1
          refine ⟨fun σV3 H3 => ∃ w3 σ3 s3, Good G w₀ H₀ w3 H3 σ3 s3 σV3 ∧ whileN cf bf n σ3 s3 ≠ .stuck ∧ WantS G X w₀ H₀ w3 H3 σ3 σV3 (whileN cf bf n σ3 s3) D, fun σV3 H3 q => ⟨n, Nat.lt_succ_self _, q⟩, ?_⟩
          refine ⟨w₀, H₀, w2, σ1, s2, g1.step L2 S2, ?_⟩
          have eb : bf σ1 s2 = exs C b' σ1 s2 := by rw [← hbf]
          rw [eb] at hn1 h1
          cases hx : exs C b' σ1 s2 with
          | stuck => rw [hx] at h1; exact h1
          | ret r s3 => rw [hx] at h1; exact h1
          | retO ts s3 => rw [hx] at h1; exact h1
          | exc d σ3 s3 => rw [hx] at h1; exact fun w3 H3 σV3 pins u sh g3 L3 T => h1 w3 H3 σV3 pins u sh g3 ((LeS.of L2).trans L3) T
          | next σ3 s3 =>
            rw [hx] at h1 hn1
            intro w3 H3 σV3 g3 L3
            exact ⟨w3, σ3, s3, g3, hn1, WantS.mono ((LeS.of L2).trans L3) h1⟩
        | .val (.bl false), R2, hn1, h1 =>
          cases R2
          exact ⟨false, rfl, iteF (h1 w2 H2 σV1 (g1.step L2 S2) (LeS.of L2))⟩
        | .val .non, _, hn1, h1 => exact h1.elim
        | .val (.int _), _, hn1, h1 => exact h1.elim
        | .val (.str _), _, hn1, h1 => exact h1.elim
        | .val (.tup _), _, hn1, h1 => exact h1.elim
        | .val (.lst _), _, hn1, h1 => exact h1.elim
        | .val (.loc _), _, hn1, h1 => exact h1.elim
        | .val (.exc _), _, hn1, h1 => exact h1.elim
        | .bor _, _, hn1, h1 => exact h1.elim
/-! ### for -/
/-- the walked list is nobody's that the body may change -/
def SrcFree (σ : Fr) (σV : St) : Src → Prop
  | .l a _ => ¬ Own σ σV a
  | _ => True
theorem SrcOk.monoS {z : Bool} {s : Sto} (L : LeS w w' H H' σ σ' σV σV') (S : StoOk G w H s) (F : FrOk G w H H₀ σ σV) : ∀ {src : Src} {ts : List T}, SrcFree σ σV src → SrcOk G w H z src ts → SrcOk G w' H' z src ts ∧ SrcFree σ' σV' src
  | .l a vs, ts, nf, ⟨h1, h2, h3, h4⟩ => by
    have hs := Rd.some h1
    refine ⟨⟨?_, Reps.kp (L.kp S F) ts vs h2, L.notLoc hs h3, fun q => L.Z a (h4 q)⟩, fun z => ?_⟩
    · rcases h1 with h1 | ⟨o, h1⟩
      · exact .inl (L.keep _ _ h1 h3 nf)
      · exact .inr ⟨o, L.keep _ _ h1 h3 nf⟩
    · rcases L.own a z with z | z
      · exact nf z
      · exact hs z
  | .t a vs, ts, _, ⟨h1, h2⟩ => ⟨⟨(L.kp S F).t _ _ h1, Reps.kp (L.kp S F) ts vs h2⟩, True.intro⟩
  | .r lo n, ts, _, h => ⟨h, True.intro⟩
theorem for_loop {tg : Expr} {g : Tg} {b : List Stmt} {b' : List S} {D : Ends} {src : Src} {ts : List T} {s : Sto} {K : PySem.W.Frag} {z : Bool} (gd : Good G w₀ H₀ w H σ s σV) (SO : SrcOk G w H z src ts) (SF : SrcFree σ σV src)
    (h : WantS G X w₀ H₀ w H σ σV (forL g (fun σ s => exs C b' σ s) ts σ s) D) :
    ∃ W : Nat → Nat → St → Hp → Prop, (∃ m, W 0 m σV H) ∧ ∀ i m σV H, W i m σV H →
      ((itOf K src).stop i H ∧ D.nx σV H) ∨ ((itOf K src).go i H ∧ ∃ N : St → Hp → Prop, (∀ σ' H', N σ' H' → ∃ m', m' < m ∧ W (i + 1) m' σ' H') ∧ ∀ x H', (itOf K src).yld i H x H' → gTg G g x σV H' fun σ2 H2 => tSs G X C b' { D with nx := N, ct := N, bk := D.nx } σ2 H2) := by
  refine ⟨fun i m σV1 H1 => ∃ w1 σ1 s1, m = ts.length - i ∧ i ≤ ts.length ∧ Good G w₀ H₀ w1 H1 σ1 s1 σV1 ∧ SrcOk G w1 H1 z src ts ∧ SrcFree σ1 σV1 src ∧ WantS G X w₀ H₀ w1 H1 σ1 σV1 (forL g (fun σ s => exs C b' σ s) (ts.drop i) σ1 s1) D,
    ⟨ts.length, w, σ, s, rfl, Nat.zero_le _, gd, SO, SF, h⟩, ?_⟩
  rintro i m σV1 H1 ⟨w1, σ1, s1, hm, hi, g1, SO1, SF1, h1⟩
  by_cases hlt : i < ts.length
  · refine .inr ?_
    have et : ts[i]? = some ts[i] := List.getElem?_eq_getElem hlt
    have ed : ts.drop i = ts[i] :: ts.drop (i + 1) := List.drop_eq_getElem_cons hlt
    rw [ed] at h1
    obtain ⟨σ2, hb, h1⟩ := onS_w (show WantS G X w₀ H₀ w1 H1 σ1 σV1 (onS (bindTg σ1 g ts[i]) fun σ' => (exs C b' σ' s1).bind fun σ2 s2 => forL g (fun σ s => exs C b' σ s) (ts.drop (i + 1)) σ2 s2) D from h1)
    obtain ⟨go, yld⟩ := SO1.go (K := K) et
    refine ⟨go, fun σV3 H3 => ∃ w3 σ3 s3, Good G w₀ H₀ w3 H3 σ3 s3 σV3 ∧ SrcOk G w3 H3 z src ts ∧ SrcFree σ3 σV3 src ∧ WantS G X w₀ H₀ w3 H3 σ3 σV3 (forL g (fun σ s => exs C b' σ s) (ts.drop (i + 1)) σ3 s3) D, fun σV3 H3 ⟨w3, σ3, s3, q1, q2, q3, q4⟩ => ⟨ts.length - (i + 1), by omega, w3, σ3, s3, rfl, hlt, q1, q2, q3, q4⟩, fun x H' hy => ?_⟩
    have rx := (yld x H' hy).2
    obtain rfl : H1 = H' := (yld x H' hy).1.symm
    refine ⟨w1, s1, ts[i], σ1, σ2, g1.sto, rx, hb, fun vs hfr hl => ?_⟩
    have g2 : Good G w₀ H₀ w1 H1 σ2 s1 (setsV σV1 (slots g) vs) := ⟨g1.sto, hfr H₀ σV1 g1.fr, g1.ent⟩
    have l2 : LeS w1 w1 H1 H1 σ1 σ2 σV1 (setsV σV1 (slots g) vs) := by
      cases g with
      | one k =>
        cases hb
        match vs, hl with
        | [v], _ => exact LeS.put
      | many ks =>
        match hts : ts[i], hb with
        | .tup us, hb =>
          have hb : puts σ1 ks us = some σ2 := hb
          clear hfr g2 h1 hy yld go rx et ed
          have go : ∀ (ks : List Nat) (us : List T) (vs : List V) (σ1 : Fr) (σV1 : St), puts σ1 ks us = some σ2 → vs.length = ks.length → LeS w1 w1 H1 H1 σ1 σ2 σV1 (setsV σV1 ks vs) := by
            intro ks
            induction ks with
            | nil =>
              intro us vs σ1 σV1 hp hl
              cases us with
              | nil => cases hp; cases vs <;> exact LeS.refl
              | cons u us => cases hp
            | cons k ks ih =>
              intro us vs σ1 σV1 hp hl
              cases us with
              | nil => cases hp
              | cons u us =>
                cases vs with
                | nil => simp at hl
                | cons v vs => exact LeS.trans (LeS.put (v := v)) (ih us vs (put σ1 k u) (σV1.set k (some v)) hp (by simpa using hl))
          exact go ks us vs σ1 σV1 hb hl
        | .non, hb => cases hb
        | .bl _, hb => cases hb
        | .int _, hb => cases hb
        | .str _, hb => cases hb
        | .lst _, hb => cases hb
        | .loc _, hb => cases hb
        | .exc _, hb => cases hb
    obtain ⟨SO2, SF2⟩ := SO1.monoS l2 g1.sto g1.fr SF1
    refine ⟨w₀, H₀, w1, σ2, s1, g2, ?_⟩
    cases hx : exs C b' σ2 s1 with
    | stuck => rw [hx] at h1; exact h1
    | ret r s3 => rw [hx] at h1; exact h1
    | retO ts s3 => rw [hx] at h1; exact h1
    | exc d σ3 s3 => rw [hx] at h1; exact fun w3 H3 σV3 pins u sh g3 L3 T => h1 w3 H3 σV3 pins u sh g3 (l2.trans L3) T
    | next σ3 s3 =>
      rw [hx] at h1
      intro w3 H3 σV3 g3 L3
      obtain ⟨SO3, SF3⟩ := SO2.monoS L3 g2.sto g2.fr SF2
      exact ⟨w3, σ3, s3, g3, SO3, SF3, WantS.mono (l2.trans L3) h1⟩
  · have ei : i = ts.length := by omega
    subst ei
    rw [List.drop_length] at h1
    exact .inl ⟨SO1.stop, h1 w1 H1 σV1 g1 LeS.refl⟩
/-! locks -/
theorem lock_get {i j : Nat} {b : B} (h : (lock σ i)[j]? = some (some b)) : (σ[j]? = some (some b) ∧ (i = j → ∀ ts, b ≠ .own ts)) ∨ (i = j ∧ ∃ ts, b = .lck ts ∧ σ[i]? = some (some (.own ts))) := by
  unfold lock at h
  split at h
  · rename_i ts e
    rcases set_get h with ⟨rfl, z, _⟩ | ⟨ne, z⟩
    · exact .inr ⟨rfl, ts, by cases z; rfl, e⟩
    · exact .inl ⟨z, fun q => absurd q ne⟩
  · rename_i hn
    refine .inl ⟨h, fun q ts z => ?_⟩
    subst q z
    exact hn ts h
theorem unlock_get {i j : Nat} {b : B} (h : (unlock σ i)[j]? = some (some b)) : σ[j]? = some (some b) ∨ (i = j ∧ ∃ ts, b = .own ts ∧ σ[i]? = some (some (.lck ts))) := by
  unfold unlock at h
  split at h
  · rename_i ts e
    rcases set_get h with ⟨rfl, z, _⟩ | ⟨ne, z⟩
    · exact .inr ⟨rfl, ts, by cases z; rfl, e⟩
    · exact .inl z
  · exact .inl h
theorem lock_len (σ : Fr) (i : Nat) : (lock σ i).length = σ.length := by unfold lock; split <;> simp
theorem unlock_len (σ : Fr) (i : Nat) : (unlock σ i).length = σ.length := by unfold unlock; split <;> simp
theorem FrOk.relock (F : FrOk G w H H₀ σ σV) (hl : σ'.length = σ.length) (hr : ∀ (j : Nat) (b : B), σ'[j]? = some (some b) → σ[j]? = some (some b) ∨ ∃ b' ts, σ[j]? = some (some b') ∧ ownL b = some ts ∧ ownL b' = some ts) : FrOk G w H H₀ σ' σV where
  len := hl.trans F.len
  val := fun j t e => by
    rcases hr j _ e with z | ⟨b', ts, _, z, _⟩
    · exact F.val j t z
    · cases z
  own := fun j b ts e eb => by
    rcases hr j _ e with z | ⟨b', us, z1, z2, z3⟩
    · exact F.own j b ts z eb
    · rw [eb] at z2
      cases z2
      exact F.own j b' ts z1 z3
  apart := fun j k b c ts us a hjk e1 eb e2 ec e3 e4 => by
    have old : ∀ {j : Nat} {b : B} {ts : List T}, σ'[j]? = some (some b) → ownL b = some ts → ∃ b', σ[j]? = some (some b') ∧ ownL b' = some ts := fun {j b ts} e eb => by
      rcases hr j _ e with z | ⟨b', us, z1, z2, z3⟩
      · exact ⟨b, z, eb⟩
      · rw [eb] at z2
        cases z2
        exact ⟨b', z1, z3⟩
    obtain ⟨b', y1, y2⟩ := old e1 eb
    obtain ⟨c', y3, y4⟩ := old e2 ec
    exact F.apart j k b' c' ts us a hjk y1 y2 y3 y4 e3 e4
  bor := fun j ts e => by
    rcases hr j _ e with z | ⟨b', us, _, z, _⟩
    · exact F.bor j ts z
    · cases z
theorem Good.lock {s : Sto} (g : Good G w₀ H₀ w H σ s σV) (i : Nat) : Good G w₀ H₀ w H (lock σ i) s σV := ⟨g.sto, g.fr.relock (lock_len σ i) fun j b e => by
  rcases lock_get e with ⟨z, _⟩ | ⟨rfl, ts, rfl, z⟩
  · exact .inl z
  · exact .inr ⟨_, ts, z, rfl, rfl⟩, g.ent⟩
theorem Good.unlock {s : Sto} (g : Good G w₀ H₀ w H σ s σV) (i : Nat) : Good G w₀ H₀ w H (unlock σ i) s σV := ⟨g.sto, g.fr.relock (unlock_len σ i) fun j b e => by
  rcases unlock_get e with z | ⟨rfl, ts, rfl, z⟩
  · exact .inl z
  · exact .inr ⟨_, ts, z, rfl, rfl⟩, g.ent⟩
theorem LeS.unlock {i : Nat} (hi : isOwn σ i = true) (L : LeS w w' H H' (lock σ i) σ' σV σV') : LeS w w' H H' σ (unlock σ' i) σV σV' where
  n := L.n
  io := L.io
  Z := L.Z
  keep := fun a o e nl no => L.keep a o e nl fun ⟨j, ts, e1, e2⟩ => by
    rcases lock_get e1 with ⟨z, _⟩ | ⟨_, us, z, _⟩
    · exact no ⟨j, ts, z, e2⟩
    · cases z
  newL := L.newL
  some_ := L.some_
  own := fun a ⟨j, ts, e1, e2⟩ => by
    rcases unlock_get e1 with z | ⟨rfl, us, z1, z2⟩
    · rcases L.own a ⟨j, ts, z, e2⟩ with ⟨k, us, y1, y2⟩ | y
      · rcases lock_get y1 with ⟨z, _⟩ | ⟨_, vs, z, _⟩
        · exact .inl ⟨k, us, z, y2⟩
        · cases z
      · exact .inr y
    · obtain ⟨⟨vs, y1⟩, y2⟩ := L.lk i us z2
      unfold isOwn at hi
      split at hi
      · rename_i xs ex
        rw [e2] at y2
        exact .inl ⟨i, xs, ex, y2.symm⟩
      · cases hi
  lk := fun j ts e => by
    rcases unlock_get e with z | ⟨_, us, z, _⟩
    · obtain ⟨⟨us, y1⟩, y2⟩ := L.lk j ts z
      rcases lock_get y1 with ⟨y, _⟩ | ⟨rfl, vs, _, y⟩
      · exact ⟨⟨us, y⟩, y2⟩
      · exfalso
        unfold IP.unlock at e
        split at e
        · rename_i q
          rcases set_get e with ⟨_, q2, _⟩ | ⟨ne, _⟩
          · cases q2
          · exact ne rfl
        · rename_i q
          exact q ts e
    · cases z
theorem WantS.unlock {i : Nat} {r : SR} {D : Ends} (hi : isOwn σ i = true) (h : WantS G X w₀ H₀ w H σ σV (r.unlock i) D) : WantS G X w₀ H₀ w H (lock σ i) σV r D := by
  cases r with
  | stuck => exact h
  | ret r s => exact h
  | retO ts s => exact h
  | next σ1 s1 => exact fun w' H' σV' g L => h w' H' σV' (g.unlock i) (L.unlock hi)
  | exc c σ1 s1 => exact fun w' H' σV' pins u sh g L T => h w' H' σV' pins u sh (g.unlock i) (L.unlock hi) T
theorem lst_of {x : R} {ts : List T} (h : x.lst? = some ts) : x = .val (.lst ts) := by
  match x, h with
  | .val (.lst us), h => cases h; rfl
/-- a loop over anything but a name -/
theorem sS_for {tg iter : Expr} {it' : E} {g : Tg} {b : List Stmt} {b' : List S} (hp : PassesOwn (model X.prog X.w) X.A X.env X.xe) (hc : X.calm = true) (hI : PI X tg iter (tI G X C it' .j true)) (hg : PG X tg (gTg G g)) (hb : PSs X b (tSs G X C b'))
    (hs : ∀ x, foldedSetIterable iter X.env x = pure x) (hit : ∀ i, it' ≠ .var i) : PS X (.For tg iter b [] pos) (tS G X C (.for_ g it' b')) := by
  refine PS.imp (ps_for hp hc hI hg hb hs) ?_
  rintro D σV H ⟨w₀, H₀, w, σ, s, gd, h⟩
  have h : WantS G X w₀ H₀ w H σ σV ((ev C it' .j σ s).st σ fun x s1 => onS x.lst? fun ts => forL g (fun σ s => exs C b' σ s) ts σ s1) D := by
    cases it' <;> first | exact h | exact absurd rfl (hit _)
  refine ⟨w₀, H₀, w, σ, s, gd, ?_⟩
  cases he : ev C it' .j σ s with
  | stuck => rw [he] at h; exact h.elim
  | exc c s1 => rw [he] at h; exact fun w1 H1 pins u sh L S T => h w1 H1 σV pins u sh (gd.step L S) (LeS.of L) T
  | ok x s1 =>
    rw [he] at h
    obtain ⟨ts, ht, h⟩ := onS_w (show WantS G X w₀ H₀ w H σ σV (onS x.lst? fun ts => forL g (fun σ s => exs C b' σ s) ts σ s1) D from h)
    cases lst_of ht
    intro w1 H1 src L S SO
    have g1 := gd.step L S
    refine for_loop (X := X) (tg := tg) (b := b) (z := true) (K := X.K) g1 SO ?_ (WantS.mono (LeS.of L) h)
    cases src with
    | l a vs => exact g1.fr.notOwnZ (SO.2.2.2 rfl)
    | t a vs => exact True.intro
    | r lo n => exact True.intro
/-- a loop over a name -/
theorem sS_forV {tg : Expr} {x : Str} {xp : Pos} {i : Nat} {g : Tg} {b : List Stmt} {b' : List S} (hp : PassesOwn (model X.prog X.w) X.A X.env X.xe) (hc : X.calm = true) (hN : X.N[i]? = some x) (hv : Vis X.env.scope x) (hd : (x == ("__debug__" : Str)) = false) (hcd : (x == ("__classdict__" : Str)) = false)
    (hg : PG X tg (gTg G g)) (hb : PSs X b (tSs G X C b')) (hs : ∀ y, foldedSetIterable (.Name x xp) X.env y = pure y) : PS X (.For tg (.Name x xp) b [] pos) (tS G X C (.for_ g (.var i) b')) := by
  refine PS.imp (ps_for hp hc (pi_seq (pe_var hN hv hd hcd)) hg hb hs) ?_
  rintro D σV H ⟨w₀, H₀, w, σ, s, gd, h⟩
  have h : WantS G X w₀ H₀ w H σ σV ((ev C (.var i) .i σ s).st σ fun x s1 => onS x.lst? fun ts => if isOwn σ i then (forL g (fun σ s => exs C b' σ s) ts (lock σ i) s1).unlock i else forL g (fun σ s => exs C b' σ s) ts σ s1) D := h
  have hev : ev C (.var i) .i σ s = (Res.of (look σ i) s).bind fun x s => .of (x.sq2.map fun ts => .val (.lst ts)) s := rfl
  rw [hev] at h
  cases hl : look σ i with
  | none => rw [hl] at h; exact h.elim
  | some r =>
    rw [hl] at h
    have h : WantS G X w₀ H₀ w H σ σV ((Res.of (r.sq2.map fun ts => .val (.lst ts)) s).st σ fun x s1 => onS x.lst? fun ts => if isOwn σ i then (forL g (fun σ s => exs C b' σ s) ts (lock σ i) s1).unlock i else forL g (fun σ s => exs C b' σ s) ts σ s1) D := h
    cases hq : r.sq2 with
    | none => rw [hq] at h; exact h.elim
    | some ts =>
      rw [hq] at h
      have h : WantS G X w₀ H₀ w H σ σV (if isOwn σ i then (forL g (fun σ s => exs C b' σ s) ts (lock σ i) s).unlock i else forL g (fun σ s => exs C b' σ s) ts σ s) D := h
      unfold look at hl
      split at hl
      · rename_i t et
        cases hl
        obtain ⟨v, e1, e2⟩ := gd.fr.val i t et
        have no : isOwn σ i = false := by unfold isOwn; rw [et]
        rw [no] at h
        match t, hq, e2 with
        | .lst us, hq, ⟨a, vs, ev, hz, hr, rp⟩ =>
          cases hq
          subst ev
          exact ⟨_, e1, a, rfl, .inl ⟨vs, hr, for_loop (X := X) (tg := tg) (b := b) (z := false) (src := .l a vs) (K := X.K) gd ⟨hr, rp, gd.sto.zLoc hz, fun z => by cases z⟩ (gd.fr.notOwnZ hz) h⟩⟩
        | .tup us, hq, ⟨a, vs, ev, hr, rp⟩ =>
          cases hq
          subst ev
          exact ⟨_, e1, a, rfl, .inr ⟨vs, hr, for_loop (X := X) (tg := tg) (b := b) (z := false) (src := .t a vs) (K := X.K) gd ⟨hr, rp⟩ True.intro h⟩⟩
      · rename_i us et
        cases hl
        cases hq
        obtain ⟨a, vs, e1, e2, e3, e4, e5, e6⟩ := gd.fr.own i _ ts et rfl
        have ho : isOwn σ i = true := by unfold isOwn; rw [et]
        rw [ho] at h
        have h : WantS G X w₀ H₀ w H σ σV ((forL g (fun σ s => exs C b' σ s) ts (lock σ i) s).unlock i) D := h
        refine ⟨_, e1, a, rfl, .inl ⟨vs, .inl e2, for_loop (X := X) (tg := tg) (b := b) (z := false) (src := .l a vs) (K := X.K) (gd.lock i) ⟨.inl e2, e3, e6, fun z => by cases z⟩ (fun ⟨j, qs, y1, y2⟩ => ?_) (WantS.unlock ho h)⟩⟩
        rcases lock_get y1 with ⟨z, z'⟩ | ⟨_, xs, z, _⟩
        · by_cases hij : i = j
          · exact z' hij qs rfl
          · exact gd.fr.apart i j _ _ ts qs a hij et rfl z rfl e1 y2
        · cases z
      · rename_i us et
        cases hl
        cases hq
        obtain ⟨a, vs, e1, e2, e3, e4, e6⟩ := gd.fr.bor i ts et
        have no : isOwn σ i = false := by unfold isOwn; rw [et]
        rw [no] at h
        refine ⟨_, e1, a, rfl, .inl ⟨vs, .inl e2, for_loop (X := X) (tg := tg) (b := b) (z := false) (src := .l a vs) (K := X.K) gd ⟨.inl e2, e3, e6, fun z => by cases z⟩ (fun ⟨j, qs, y1, y2⟩ => ?_) h⟩⟩
        obtain ⟨a', xs, q1, _, _, q4, _⟩ := gd.fr.own j _ qs y1 rfl
        rw [y2] at q1
        cases q1
        exact e4 q4
      · rename_i us et
        cases hl
        cases hq
        obtain ⟨a, vs, e1, e2, e3, e4, e5, e6⟩ := gd.fr.own i _ ts et rfl
        have no : isOwn σ i = false := by unfold isOwn; rw [et]
        rw [no] at h
        refine ⟨_, e1, a, rfl, .inl ⟨vs, .inl e2, for_loop (X := X) (tg := tg) (b := b) (z := false) (src := .l a vs) (K := X.K) gd ⟨.inl e2, e3, e6, fun z => by cases z⟩ (fun ⟨j, qs, y1, y2⟩ => ?_) h⟩⟩
        by_cases hij : i = j
        · subst hij; rw [et] at y1; cases y1
        · exact gd.fr.apart i j _ _ ts qs a hij et rfl y1 rfl e1 y2
      · cases hl
end
end IP

end
section
set_option Elab.async false
set_option linter.all false
set_option maxRecDepth 100000
namespace IP
open PySem PySem.Spec L2
open PyProof.Rows (subscriptTail)
section
variable {G : Gx} {X : Cx} {C : Cf} {w w' w₀ : Wo} {H H' H₀ : Hp} {σ σ' : Fr} {σV σV' : St} {a b e : Expr} {a' b' e' : E} {pos p p2 : Pos} {Q : VK} {i : Nat} {x : Str}
/-! ### new lists -/
theorem WantO.mono {res : Res R} {w1 : Wo} {H1 : Hp} (L : Le w w1 H H1) (h : WantO G X σV w H res Q) : WantO G X σV w1 H1 res Q := by
  match res, h with
  | .stuck, h => exact h
  | .exc c s, h => exact fun w' H' pins u sh a b => h w' H' pins u sh (L.trans a) b
  | .ok (.val (.lst ts)) s, h =>
    intro w' H' a vs L' S ha r hn nz nl
    refine h w' H' a vs (L.trans L') S ha r ?_ nz nl
    cases q : H a with
    | none => rfl
    | some o => exact absurd hn (L.some_ a (by rw [q]; intro z; cases z))
  | .ok (.val .non) s, h => exact h
  | .ok (.val (.bl _)) s, h => exact h
  | .ok (.val (.int _)) s, h => exact h
  | .ok (.val (.str _)) s, h => exact h
  | .ok (.val (.tup _)) s, h => exact h
  | .ok (.val (.loc _)) s, h => exact h
  | .ok (.val (.exc _)) s, h => exact h
  | .ok (.bor _) s, h => exact h
theorem WantO.bind {m : Res R} {k : R → Sto → Res R} (h : WantO G X σV w H (m.bind k) Q) :
    Want G X σV w H m fun v H1 => ∃ w1 r s1, Le w w1 H H1 ∧ StoOk G w1 H1 s1 ∧ RepR G w1 H1 r v ∧ WantO G X σV w1 H1 (k r s1) Q := by
  cases m with
  | stuck => exact h
  | ok r s => exact fun w' H' v a b c => ⟨w', r, s, a, b, c, WantO.mono a h⟩
  | exc c s => exact h
theorem WantO.of {o : Option R} {s : Sto} (h : WantO G X σV w H (Res.of o s) Q) : ∃ ts, o = some (.val (.lst ts)) ∧ ∀ w' H' a vs, Le w w' H H' → StoOk G w' H' s → H' a = some (.lst vs) → Reps G w' H' ts vs → H a = none → ¬ w'.Z a → notLoc w' a → Q (.ref a) H' := by
  match o, h with
  | none, h => exact h.elim
  | some (.val (.lst ts)), h => exact ⟨ts, rfl, h⟩
  | some (.val .non), h => exact h.elim
  | some (.val (.bl _)), h => exact h.elim
  | some (.val (.int _)), h => exact h.elim
  | some (.val (.str _)), h => exact h.elim
  | some (.val (.tup _)), h => exact h.elim
  | some (.val (.loc _)), h => exact h.elim
  | some (.val (.exc _)), h => exact h.elim
  | some (.bor _), h => exact h.elim
/-- a new list is a value -/
theorem sV_of (hE : PE X e (tO G X C e')) (hfr : ∀ σ s r s1, ev C e' .v σ s = .ok r s1 → ∃ ts, r = .val (.lst ts)) : PE X e (tV G X C e') :=
  PE.imp hE fun σV H Q ⟨w₀, H₀, w, σ, s, g, h⟩ => ⟨w₀, H₀, w, σ, s, g, want_o (hfr σ s) h⟩
theorem sO_lst {es : List Expr} {es' : List E} (h : PA X es (tA G X C es')) (hz : es'.length ≤ sizeLine) : PE X (.List es pos) (tO G X C (.lst es')) := by
  refine PE.imp (pe_lst h) ?_
  rintro σV H Q ⟨w₀, H₀, w, σ, s, g, h⟩
  have h : WantO G X σV w H ((evs C es' σ s).bind fun ts s1 => .ok (.val (.lst ts)) s1) Q := h
  refine ⟨w₀, H₀, w, σ, s, g, ?_⟩
  cases hf : evs C es' σ s with
  | stuck => rw [hf] at h; exact h
  | exc c s2 => rw [hf] at h; exact h
  | ok ts s2 =>
    rw [hf] at h
    intro w2 H2 vs L2 S2 R2
    refine ⟨by rw [← R2.length, evs_len C _ _ _ _ _ hf]; exact hz, ?_⟩
    exact fin_own S2 R2 (WantO.mono L2 h)
/-! a + b of lists -/
def r2O (G : Gx) (f : R → R → Option R) : V → V → Hp → VK → Prop := fun x y H Q => ∃ w s rx ry ts, StoOk G w H s ∧ RepR G w H rx x ∧ RepR G w H ry y ∧ f rx ry = some (.val (.lst ts)) ∧ ∀ w' H' a vs, Le w w' H H' → StoOk G w' H' s → H' a = some (.lst vs) → Reps G w' H' ts vs → H a = none → ¬ w'.Z a → notLoc w' a → Q (.ref a) H'
theorem add_seqs {x' y' : R} {ts : List T} (e : opR .add x' y' = some (.val (.lst ts))) : ∃ xs ys, x'.seq = some xs ∧ y'.seq = some ys ∧ xs.length + ys.length ≤ lim ∧ ts = xs ++ ys := by
  unfold opR at e
  split at e
  · rename_i i j
    cases ho : opI .add i j with
    | none => rw [ho] at e; cases e
    | some k => rw [ho] at e; cases e
  · split at e <;> cases e
  · split at e
    · rename_i xs ys e1 e2
      split at e
      · rename_i hl
        cases e
        exact ⟨xs, ys, e1, e2, hl, rfl⟩
      · cases e
    · cases e
  · cases e
theorem op_addO : OpR X (binaryOp .Add) (r2O G (opR .add)) := by
  intro pins s σ H x y v u Q I rx ry h
  obtain ⟨w, st, x', y', ts, S, Rx, Ry, e, q⟩ := h
  obtain ⟨xs, ys, e1, e2, hl, rfl⟩ := add_seqs e
  obtain ⟨p, vs, rfl, hp, r1⟩ := RepR.seq (s := st) Rx e1
  obtain ⟨p2, vs2, rfl, hp2, r2⟩ := RepR.seq (s := st) Ry e2
  cases rx
  cases ry
  obtain ⟨z, its, n, q1, l1, g1⟩ := Rd.lst I hp
  obtain ⟨z2, its2, n2, q2, l2, g2⟩ := Rd.lst I hp2
  have hz : its.length + its2.length ≤ sizeLine := by
    rw [← l1, ← l2, ← r1.length, ← r2.length]
    have : lim ≤ sizeLine := by decide
    omega
  refine PySem.P.add_list g1 g2 ?_ (by rw [List.size_toArray, List.size_toArray]; exact hz)
  have ea : its.toArray ++ its2.toArray = (its ++ its2).toArray := by simp
  rw [ea]
  exact ⟨.ref _, _, I.lnew (t' := s.toks) (q1.append q2) (by rw [List.length_append, l1, l2]; exact hz), rfl, fin_own S (r1.append r2) q _ I.fresh⟩
theorem sO_add (ha : PE X a (tV G X C a')) (hb : PE X b (tV G X C b')) : PE X (.BinOp a .Add b pos) (tO G X C (.bin .add a' b')) := by
  refine PE.imp (pe_op (op_addO (G := G)) ha hb) ?_
  rintro σV H Q ⟨w₀, H₀, w, σ, s, g, h⟩
  have h : WantO G X σV w H ((ev C a' .v σ s).bind fun x s1 => (ev C b' .v σ s1).bind fun y s2 => .of (opR .add x y) s2) Q := h
  refine ⟨w₀, H₀, w, σ, s, g, (WantO.bind h).imp ?_⟩
  rintro x H1 ⟨w1, r1, s1, L1, S1, R1, h1⟩
  refine ⟨w₀, H₀, w1, σ, s1, g.step L1 S1, (WantO.bind h1).imp ?_⟩
  rintro y H2 ⟨w2, r2, s2, L2, S2, R2, h2⟩
  obtain ⟨ts, e, q⟩ := WantO.of h2
  exact ⟨w2, s2, r1, r2, ts, S2, R1.mono L2 S1, R2, e, q⟩
/-! a[::-1] -/
theorem sO_rev {k1 : Nat} {pu pn ps : Pos} (ha : PE X a (tV G X C a')) : PE X (.Subscript a (.Slice none none (some (.UnaryOp .USub (.Constant (.int 1) k1 pn) pu)) ps) pos) (tO G X C (.rev a')) := by
  intro pins s σV H Q I h
  obtain ⟨w₀, H₀, w, σ, st, g, h⟩ := h
  have h : WantO G X σV w H ((ev C a' .v σ st).bind fun x s1 => .of (x.seq.map fun ts => .val (.lst ts.reverse)) s1) Q := h
  refine PyProof.Rows.Subscript_ (thn (ha pins s σV H _ I ⟨w₀, H₀, w, σ, st, g, WantO.bind h⟩) fun v s1 ⟨x, H1, I1, r1, q1⟩ => ?_)
  obtain ⟨w1, rr, st1, L1, S1, R1, h1⟩ := q1
  obtain ⟨ts, e, q⟩ := WantO.of h1
  obtain ⟨us, hs, er⟩ := map_some e
  cases er
  obtain ⟨pa, vs, rfl, hp, rp⟩ := RepR.seq (s := st1) R1 hs
  cases r1
  have hneg : PE X (.UnaryOp .USub (.Constant (.int 1) k1 pn) pu) (tV G X C (.neg (.cst (.int 1)))) := sV_neg sV_int
  refine wpAny_Slice (thn (po_none pins s1 σV H1 (fun o H2 => o = none ∧ H2 = H1) I1 ⟨rfl, rfl⟩) fun vl s2 ⟨l, H2, I2, pl, e2, e2'⟩ => thn (po_none pins s2 σV H2 (fun o H3 => o = none ∧ H3 = H1) I2 ⟨rfl, e2'⟩) fun vu s3 ⟨u, H3, I3, pu, e3, e3'⟩ => ?_)
  subst e2' e3' e2 e3
  refine thn (po_some hneg pins s3 σV H3 (fun o H4 => o = some (-1) ∧ ∃ w4, Le w1 w4 H3 H4 ∧ StoOk G w4 H4 st1) I3 ⟨w₀, H₀, w1, σ, st1, g.step L1 S1, fun w4 H4 v L4 S4 R4 => ⟨-1, R4, rfl, w4, L4, S4⟩⟩) fun vk s4 ⟨o, H4, I4, pk, e4, w4, L4, S4⟩ => ?_
  subst e4
  cases pl
  cases pu
  have nl : Rd H3 pa (.lst vs) := hp
  have R4 : RepR G w4 H4 rr (.ref pa) := R1.mono L4 S1
  obtain ⟨pa', vs', ee, hp', rp'⟩ := RepR.seq (s := st1) R4 hs
  cases ee
  have I5 : Inv X pins σV H4 { s4 with heap := s4.heap.push { cls := .type "slice", data := .fields #[.none, .none, vk] } } := I4.kept (t' := s4.toks) fun b ob q => Heap.get?_push_of_some _ q
  obtain ⟨z, its, n, q1, l1, g1⟩ := Rd.lst I5 hp'
  show wpAny (model X.prog X.w) X.A (subscriptTail a (.Slice none none (some (.UnaryOp .USub (.Constant (.int 1) k1 pn) pu)) ps) (.ref pa) (.ref s4.heap.objs.size)) (EP X pins σV Q) X.xe { s4 with heap := s4.heap.push { cls := .type "slice", data := .fields #[.none, .none, vk] } }
  have il : ({ s4 with heap := s4.heap.push { cls := .type "slice", data := .fields #[.none, .none, vk] } } : Shared).heap.IsList pa its.toArray := ⟨_, g1, rfl, _, rfl⟩
  refine PyProof.Rows.tail_any (ops := [.ref pa, .ref s4.heap.objs.size]) il.typeIs slot_list_getitem.lookup ?_ (by with_unfolding_all rfl)
  refine wpAny_getItem_list_slice il (Heap.IsSliceOf.new ..) .none .none pk (by simp) ?_ (by rw [List.size_toArray, ← l1]; exact z)
  rw [PySem.W.krv_pick]
  refine ⟨.ref _, _, I5.lnew (t' := s4.toks) (ys := vs'.reverse) (its := its.reverse) ?_ (by rw [List.length_reverse]; exact z), rfl, ?_⟩
  · exact q1.reverse
  · exact fin_own S4 rp'.reverse (fun w' H' a vs L S ha r hn => q w' H' a vs (L4.trans L) S ha r (by
      cases qq : H3 a with
      | none => rfl
      | some o => exact absurd hn (L4.some_ a (by rw [qq]; intro z; cases z)))) _ I5.fresh
end
end IP

end
section
set_option Elab.async false
set_option linter.all false
set_option maxRecDepth 100000
namespace IP
open PySem PySem.Spec L2
section
variable {G : Gx} {X : Cx} {C : Cf} {w w' w₀ : Wo} {H H' H₀ : Hp} {σ σ' : Fr} {σV σV' : St} {a b e : Expr} {a' b' e' : IP.E} {pos p p2 : Pos} {Q : VK} {i : Nat} {x : Str}
theorem old_none {s : Sto} (g : Good G w₀ H₀ w H σ s σV) {a : Addr} (hn : H a = none) : H₀ a = none := by
  cases q : H₀ a with
  | none => rfl
  | some o => exact absurd hn (g.ent.some_ a (by rw [q]; intro z; cases z))
/-! ### return of a list that nobody else has -/
theorem sS_retO (he : PE X e (tO G X C e')) : PS X (.Return (some e) pos) (tS G X C (.retO e')) := by
  refine PS.imp (ps_ret he) ?_
  rintro D σV H ⟨w₀, H₀, w, σ, s, g, h⟩
  refine ⟨w₀, H₀, w, σ, s, g, ?_⟩
  unfold ex at h
  split at h
  · cases hv : ev C e' .v σ s with
    | stuck => rw [hv] at h; exact h
    | exc c s1 => rw [hv] at h; exact fun w1 H1 pins u sh L S T => h w1 H1 σV pins u sh (g.step L S) (LeS.of L) T
    | ok r s1 =>
      rw [hv] at h
      obtain ⟨ts, ht, h⟩ := onS_w (show WantS G X w₀ H₀ w H σ σV (onS r.lst? fun ts => .retO ts s1) D from h)
      cases lst_of ht
      exact fun w1 H1 a vs L S ha r hn nz nl => h w1 H1 a vs S ha r (old_none g hn) nz nl (g.ent.trans L)
  · exact h.elim
/-! ### calls -/
def spG (G : Gx) (cf : Nat → List R → Sto → Res R) (fr : Nat → Bool) (f : Nat) : Sp := fun vs H Q E => ∃ w s rs, StoOk G w H s ∧ RepRs G w H rs vs ∧ match cf f rs s with
  | .stuck => False
  | .ok r s' => (fr f = false → ∀ w' H' v, Le w w' H H' → StoOk G w' H' s' → RepR G w' H' r v → Q v H') ∧
      (fr f = true → ∃ ts, r = .val (.lst ts) ∧ ∀ w' H' a vs, Le w w' H H' → StoOk G w' H' s' → H' a = some (.lst vs) → Reps G w' H' ts vs → H a = none → ¬ w'.Z a → notLoc w' a → Q (.ref a) H')
  | .exc c s' => ∀ w' H', Le w w' H H' → StoOk G w' H' s' → E (.ref (G.cA c)) none H'
variable {k fi : Nat} {fa : Addr} {fd : FuncData} {ps : List Str} {e₀ : Expr} {es : List Expr} {es' : List IP.E} {rs : List R} {vs : List V}
theorem spG_v {H1 : Hp} {w1 : Wo} {s1 : Sto} (hf : C.fr fi = false) (hne : ∀ rs s c s', C.cf fi rs s ≠ .exc c s') (L1 : Le w w1 H H1) (S1 : StoOk G w1 H1 s1) (R1 : RepRs G w1 H1 rs vs) (h : Want G X σV w H (C.cf fi rs s1) Q) : spG G C.cf C.fr fi vs H1 Q E0 := by
  refine ⟨w1, s1, rs, S1, R1, ?_⟩
  have h := Want.mono L1 h
  cases hc : C.cf fi rs s1 with
  | stuck => rw [hc] at h; exact h
  | ok r s' => rw [hc] at h; exact ⟨fun _ => h, fun z => by rw [hf] at z; cases z⟩
  | exc c s' => exact absurd hc (hne _ _ _ _)
theorem spG_o {H1 : Hp} {w1 : Wo} {s1 : Sto} (hf : C.fr fi = true) (hne : ∀ rs s c s', C.cf fi rs s ≠ .exc c s') (L1 : Le w w1 H H1) (S1 : StoOk G w1 H1 s1) (R1 : RepRs G w1 H1 rs vs) (h : WantO G X σV w H (C.cf fi rs s1) Q) : spG G C.cf C.fr fi vs H1 Q E0 := by
  refine ⟨w1, s1, rs, S1, R1, ?_⟩
  have h := WantO.mono L1 h
  cases hc : C.cf fi rs s1 with
  | stuck => rw [hc] at h; exact h
  | ok r s' =>
    rw [hc] at h
    obtain ⟨ts, er, q⟩ := WantO.of (o := some r) (s := s') h
    cases er
    exact ⟨fun z => (by rw [hf] at z; cases z), fun _ => ⟨ts, rfl, q⟩⟩
  | exc c s' => exact absurd hc (hne _ _ _ _)
theorem wantR_bindO {w : Wo} {H : Hp} {σV : St} {m : Res (List R)} {k : List R → Sto → Res R} {Q : VK} (h : WantO G X σV w H (m.bind k) Q) : WantR G X σV w H m fun vs H1 => ∃ w1 rs s1, Le w w1 H H1 ∧ StoOk G w1 H1 s1 ∧ RepRs G w1 H1 rs vs ∧ WantO G X σV w H (k rs s1) Q := by
  cases m with
  | stuck => exact h
  | ok rs s => exact fun w' H' vs a b c => ⟨w', rs, s, a, b, c, h⟩
  | exc c s => exact h
theorem sV_callN (hf : C.fr fi = false) (hne : ∀ rs s c s', C.cf fi rs s ≠ .exc c s') (F : FnOk X.prog X.w X.K X.mg X.base CX0 k fa fd ps (spG G C.cf C.fr fi)) (hr : Room k X.A) (hg : Gl X x) (hm : X.mg x = some (.ref fa)) (hk : PySem.W.keepIn X.K (.ref fa) = true) (hb : Binds X.K fd ps [])
    (ha : PA X (e₀ :: es) (tR G X C es')) (hdb : (x == ("__debug__" : Str)) = false) (he : starEach (e₀ :: es) X.env = (false, eval e₀ X.env) :: starEach es X.env) (hpl : (backTo pos (starEach es X.env)).any (·.1) = false) :
    PE X (.Call (.Name x p) (e₀ :: es) [] pos) (tV G X C (.call fi es' [])) := by
  rintro pins s σV H Q I ⟨w₀, H₀, w, σ, st, g, h⟩
  have h : Want G X σV w H ((evr C es' σ st).bind fun rs s1 => C.cf fi (rs ++ []) s1) Q := h
  refine wpAny_Call_Name_kw (ld_glob I hg hm ?_ hdb)
  refine PySem.W.callWith_K (h₀ := X.base) I.ok.mod.kin hk (thn (ha pos pins s σV H _ I ⟨w₀, H₀, w, σ, st, g, wantR_bind h⟩) fun us s1 ⟨vs, H1, I1, r, q⟩ => ⟨I1.kIn, ?_⟩) he hpl
  obtain ⟨w1, rs, st1, L1, S1, R1, h1⟩ := q
  rw [List.append_nil] at h1
  refine run_call (dvs := []) F hr hb .nil I1 r ?_ (E := E0) fun _ _ z => z.elim
  rw [List.append_nil]
  exact spG_v hf hne L1 S1 R1 h1
theorem sO_callN (hf : C.fr fi = true) (hne : ∀ rs s c s', C.cf fi rs s ≠ .exc c s') (F : FnOk X.prog X.w X.K X.mg X.base CX0 k fa fd ps (spG G C.cf C.fr fi)) (hr : Room k X.A) (hg : Gl X x) (hm : X.mg x = some (.ref fa)) (hk : PySem.W.keepIn X.K (.ref fa) = true) (hb : Binds X.K fd ps [])
    (ha : PA X (e₀ :: es) (tR G X C es')) (hdb : (x == ("__debug__" : Str)) = false) (he : starEach (e₀ :: es) X.env = (false, eval e₀ X.env) :: starEach es X.env) (hpl : (backTo pos (starEach es X.env)).any (·.1) = false) :
    PE X (.Call (.Name x p) (e₀ :: es) [] pos) (tO G X C (.call fi es' [])) := by
  rintro pins s σV H Q I ⟨w₀, H₀, w, σ, st, g, h⟩
  have h : WantO G X σV w H ((evr C es' σ st).bind fun rs s1 => C.cf fi (rs ++ []) s1) Q := h
  refine wpAny_Call_Name_kw (ld_glob I hg hm ?_ hdb)
  refine PySem.W.callWith_K (h₀ := X.base) I.ok.mod.kin hk (thn (ha pos pins s σV H _ I ⟨w₀, H₀, w, σ, st, g, wantR_bindO h⟩) fun us s1 ⟨vs, H1, I1, r, q⟩ => ⟨I1.kIn, ?_⟩) he hpl
  obtain ⟨w1, rs, st1, L1, S1, R1, h1⟩ := q
  rw [List.append_nil] at h1
  refine run_call (dvs := []) F hr hb .nil I1 r ?_ (E := E0) fun _ _ z => z.elim
  rw [List.append_nil]
  exact spG_o hf hne L1 S1 R1 h1
end
/-! ### a def -/
section
variable {fs : List Fn} {sub : Nat → Nat → Bool} {k fi : Nat}
theorem run_ne : ∀ (k : Nat) (rs : List R) (s : Sto) (c : Nat) (s' : Sto), run false fs sub whileL k fi rs s ≠ .exc c s'
  | 0, rs, s, c, s', h => by cases h
  | k + 1, rs, s, c, s', h => by
    unfold run at h
    split at h
    · cases h
    · split at h
      · generalize exs _ _ _ s = r at h
        cases r <;> simp only [leave] at h
        · cases h
        · split at h <;> cases h
        · split at h <;> cases h
        · split at h <;> cases h
        · exact absurd h (by simp)
      · cases h
variable {G : Gx} {P : Program} {w : World} {K : PySem.W.Frag} {mg : Str → Option Value} {base : Heap}
theorem fn_ok_zero {CX : CXT} {f : Addr} {fd : FuncData} {ps : List Str} {k : Nat} : FnOk P w K mg base CX k f fd ps (spG G (run false fs sub whileL 0) (frOf fs) fi) :=
  ⟨fun vs H Q E ⟨_, _, _, _, _, z⟩ => z.elim, fun A outer s H args us vs Q E hr e0 hb hv ⟨_, _, _, _, _, z⟩ => z.elim⟩
theorem enter_get {F : Fn} {rs : List R} {i : Nat} {b : B} (h : (enter F rs)[i]? = some (some b)) : ∃ r, rs[i]? = some r ∧ ofR r = b := by
  unfold enter at h
  by_cases hi : i < rs.length
  · rw [List.getElem?_append_left (by simpa using hi), List.getElem?_map] at h
    cases q : rs[i]? with
    | none => rw [q] at h; cases h
    | some r => rw [q] at h; cases h; exact ⟨r, rfl, rfl⟩
  · rw [List.getElem?_append_right (by simpa using hi), List.getElem?_replicate] at h
    split at h <;> cases h
theorem RepRs.get {wo : Wo} {H : Hp} : ∀ {rs : List R} {vs : List V} {i : Nat} {r : R}, RepRs G wo H rs vs → rs[i]? = some r → ∃ v, vs[i]? = some v ∧ RepR G wo H r v
  | [], _, i, t, h, e => by simp at e
  | t :: ts, _, 0, u, ⟨v, r, e, h, q⟩, z => by subst e; simp at z; subst z; exact ⟨v, rfl, h⟩
  | t :: ts, _, i + 1, u, ⟨v, r, e, h, q⟩, z => by
    subst e
    obtain ⟨x, h1, h2⟩ := RepRs.get q (i := i) (r := u) (by simpa using z)
    exact ⟨x, by simpa using h1, h2⟩
theorem start_get {N : List Str} {vs : List V} {i : Nat} {v : V} (h : vs[i]? = some v) : (L2.start N vs)[i]? = some (some v) := by
  unfold L2.start
  have hi := (List.getElem?_eq_some_iff.mp h).1
  rw [List.getElem?_append_left (by simpa using hi), List.getElem?_map, h]
  rfl
theorem good_start {wo : Wo} {H : Hp} {s : Sto} {F : Fn} {rs : List R} {vs : List V} {N : List Str} (S : StoOk G wo H s) (R1 : RepRs G wo H rs vs) (hs : F.size = N.length) : Good G wo H wo H (enter F rs) s (L2.start N vs) := by
  refine ⟨S, ⟨?_, fun i t e => ?_, fun i b ts e eb => ?_, fun i j b c ts us a ne e eb => ?_, fun i ts e => ?_⟩, Le.refl _ _⟩
  · unfold enter L2.start
    rw [List.length_append, List.length_append, List.length_map, List.length_map, List.length_replicate, List.length_replicate, hs, R1.length]
  · obtain ⟨r, hr, q⟩ := enter_get e
    obtain ⟨v, hv, rv⟩ := R1.get hr
    cases r with
    | val u => cases q; exact ⟨v, start_get hv, rv⟩
    | bor u => cases q
  · obtain ⟨r, hr, q⟩ := enter_get e
    cases r <;> subst q <;> cases eb
  · obtain ⟨r, hr, q⟩ := enter_get e
    cases r <;> subst q <;> cases eb
  · obtain ⟨r, hr, q⟩ := enter_get e
    obtain ⟨v, hv, rv⟩ := R1.get hr
    cases r with
    | val u => cases q
    | bor u =>
      cases q
      obtain ⟨a, xs, e1, e2, e3, e4⟩ := rv
      subst e1
      exact ⟨a, xs, start_get hv, e2, e3, (by rw [e2]; intro z; cases z), e4⟩
@[reducible] noncomputable def cfK (fs : List Fn) (sub : Nat → Nat → Bool) (k : Nat) : Cf := ⟨run false fs sub whileL k, sub, frOf fs, whileL⟩
theorem fn_ok0 {x qual : Str} {st : Stmt} {f : Addr} {fd : FuncData} {N ps : List Str} {F : Fn} (Fu : Fun K x qual st f fd) (S : FnScope N ps (defScope st)) (hF : fs[fi]? = some F) (hp : F.pars = ps.length) (hs : F.size = N.length)
    (hbody : ∀ (cdv : Value) (A : Around) (outer : List Env) (s : Shared) (H : Hp) (E : XK), Room k (A.deeper (PyProof.Rows.envOfC qual (defScope st) s.heap.objs.size f cdv)) →
      PSs (cxOf CX0 P w K mg base N qual (defScope st) f cdv A outer s H E).nox (defBody st) (tSs G (cxOf CX0 P w K mg base N qual (defScope st) f cdv A outer s H E).nox (cfK fs sub k) F.body)) :
    FnOk P w K mg base CX0 (k + 1) f fd ps (spG G (run false fs sub whileL (k + 1)) (frOf fs) fi) := by
  have hrun : ∀ rs s, run false fs sub whileL (k + 1) fi rs s = if rs.length = F.pars then leave false F.fr (exs (cfK fs sub k) F.body (enter F rs) s) else .stuck := fun rs s => by
    conv => lhs; unfold run
    rw [hF]
  have hfr : frOf fs fi = F.fr := by unfold frOf; rw [hF]
  refine Fu.ok S (fun vs H Q E h => ?_) fun cdv A outer s H vs Q E hr h => ⟨_, hbody cdv A outer s H E hr, ?_⟩
  · obtain ⟨wo, st, rs, S1, R1, h⟩ := h
    rw [hrun] at h
    by_cases hl : rs.length = F.pars
    · exact R1.length.symm.trans (hl.trans hp)
    · rw [if_neg hl] at h; exact h.elim
  · obtain ⟨wo, st, rs, S1, R1, h⟩ := h
    rw [hrun] at h
    by_cases hl : rs.length = F.pars
    · rw [if_pos hl] at h
      refine ⟨wo, H, wo, enter F rs, st, good_start S1 R1 hs, ?_⟩
      rw [hfr] at h
      cases hx : exs (cfK fs sub k) F.body (enter F rs) st with
      | stuck => rw [hx] at h; exact h.elim
      | next σ' s' =>
        rw [hx] at h
        cases hb : F.fr with
        | true => rw [hb] at h; exact h.elim
        | false => rw [hb] at h; exact fun w' H' σV' g L => h.1 rfl w' H' .non g.ent g.sto rfl
      | ret r s' =>
        rw [hx] at h
        cases hb : F.fr with
        | true => rw [hb] at h; exact h.elim
        | false => rw [hb] at h; exact fun w' H' v S R L => h.1 rfl w' H' v L S R
      | retO ts s' =>
        rw [hx] at h
        cases hb : F.fr with
        | false => rw [hb] at h; exact h.elim
        | true =>
          rw [hb] at h
          obtain ⟨us, e, q⟩ := h.2 rfl
          cases e
          exact fun w' H' a vs S ha r hn nz nl L => q w' H' a vs L S ha r hn nz nl
      | exc c σ' s' => rw [hx] at h; exact h.elim
    · rw [if_neg hl] at h; exact h.elim
end
end IP

end
section
set_option Elab.async false
set_option linter.all false
set_option maxRecDepth 100000
namespace IP
open PySem PySem.Spec L2
section
variable {G : Gx} {X : Cx} {C : Cf} {a b e : Expr} {a' b' e' : IP.E} {pos p p2 : Pos}
/-! ### a comprehension's names, by a look -/
def relN (sc names : List (Str × NameKind)) : List (Str × NameKind) := names.map fun (n, k) => if (k == .free && sc.lookup n == some .cell) then (n, .cell) else (n, k)
def visB (names : List (Str × NameKind)) (x : Str) : Bool := names.lookup x == some .local || names.lookup x == some .cell || names.lookup x == some .free
def ckComp (sc names : List (Str × NameKind)) (N N' : List Str) (js : List Nat) : Bool :=
  names.all (fun x => x.2 != .cell) && names.all (fun x => x.2 != .free || sc.lookup x.1 == some .cell || sc.lookup x.1 == some .free) && decide (N'.length = N.length) && decide N'.Nodup &&
  names.all (fun x => x.2 != .local || names.lookup x.1 == some .local) &&
  (List.range N'.length).all fun i => js.contains i || match N'[i]? with
    | none => true
    | some x => !visB (relN sc names) x || (N[i]? == some x && names.contains (x, NameKind.free) && ((relN sc names).lookup x == some .cell || (relN sc names).lookup x == some .free))
theorem rel_eq {scope : Scope} {sc : List (Str × NameKind)} (hsc : X.env.scope.names = sc) (hk : X.env.scope.kind = .function) : (relabel scope X.env).names = relN sc scope.names := by
  subst hsc
  unfold relabel relN Env.kindOf
  rw [hk]
  simp
theorem compN_of {scope : Scope} {sc : List (Str × NameKind)} {N N' : List Str} {js : List Nat} (hsc : X.env.scope.names = sc) (hk : X.env.scope.kind = .function) (hN : X.N = N) (hks : scope.kind = .function) (h : ckComp sc scope.names N N' js = true) : CompN X scope N' js := by
  unfold ckComp at h
  simp only [Bool.and_eq_true, List.all_eq_true, Bool.or_eq_true, bne_iff_ne, ne_eq, beq_iff_eq, decide_eq_true_eq] at h
  obtain ⟨⟨⟨⟨⟨h1, h2⟩, h3⟩, h4⟩, h5⟩, h6⟩ := h
  refine ⟨hks, h1, fun x hx e => ?_, by rw [hN]; exact h3, h4, fun i x hi hj hv => ?_, fun x hx e => ?_⟩
  · rcases h2 x hx with (q | q) | q
    · exact absurd e q
    · exact .inl (by unfold Env.kindOf; rw [hsc]; exact q)
    · exact .inr (by unfold Env.kindOf; rw [hsc]; exact q)
  · have hil : i < N'.length := (List.getElem?_eq_some_iff.mp hi).1
    have q := h6 i (List.mem_range.mpr hil)
    rw [hi] at q
    unfold Vis at hv
    rw [rel_eq hsc hk] at hv ⊢
    rcases q with q | q
    · exact absurd (List.contains_iff_mem.mp q) hj
    · have hv' : visB (relN sc scope.names) x = true := by
        unfold visB
        rcases hv with z | z | z <;> rw [z] <;> rfl
      simp only [hv', Bool.not_true, Bool.false_eq_true, false_or, Bool.and_eq_true, Bool.or_eq_true, beq_iff_eq] at q
      obtain ⟨⟨q1, q2⟩, q3⟩ := q
      exact ⟨by rw [hN]; exact q1, List.contains_iff_mem.mp q2, q3⟩
  · rcases h5 x hx with q | q
    · exact absurd e q
    · exact q
theorem map_lst {f : T → Sto → Res (Option T)} {m : Res R} {r : R} {s1 : Sto} (h : (m.bind fun x s1 => onL x fun ts => (mapRes f ts s1).bind fun q s2 => .ok (.val (.lst q)) s2) = .ok r s1) : ∃ ts, r = .val (.lst ts) := by
  cases m with
  | stuck => cases h
  | exc c s => cases h
  | ok x s =>
    replace h : (onL x fun ts => (mapRes f ts s).bind fun q s2 => .ok (.val (.lst q)) s2) = .ok r s1 := h
    unfold onL at h
    split at h
    · rename_i ts
      replace h : ((mapRes f ts s).bind fun q s2 => .ok (.val (.lst q)) s2) = .ok r s1 := h
      cases hm : mapRes f ts s with
      | stuck => rw [hm] at h; cases h
      | exc c s => rw [hm] at h; cases h
      | ok q s2 => rw [hm] at h; cases h; exact ⟨q, rfl⟩
    · cases h
theorem comp_is {elt it : IP.E} {g : Tg} {σ : Fr} {s : Sto} {r : R} {s1 : Sto} (h : ev C (.comp elt g it) .v σ s = .ok r s1) : ∃ ts, r = .val (.lst ts) := map_lst h
theorem rev_is {σ : Fr} {s : Sto} {r : R} {s1 : Sto} (h : ev C (.rev a') .v σ s = .ok r s1) : ∃ ts, r = .val (.lst ts) := by
  have h : (ev C a' .v σ s).bind (fun x s1 => .of (x.seq.map fun ts => .val (.lst ts.reverse)) s1) = .ok r s1 := h
  cases hq : ev C a' .v σ s with
  | stuck => rw [hq] at h; cases h
  | exc c s2 => rw [hq] at h; cases h
  | ok rs s2 =>
    rw [hq] at h
    have h : Res.of (rs.seq.map fun ts => .val (.lst ts.reverse)) s2 = .ok r s1 := h
    cases hs : rs.seq with
    | none => rw [hs] at h; cases h
    | some ts => rw [hs] at h; cases h; exact ⟨_, rfl⟩
/-! ### words -/
theorem wv (i : Nat) {x : Str} (hN : X.N[i]? = some x := by rfl) (hv : Vis X.env.scope x := by first | exact Or.inl rfl | exact Or.inr (Or.inl rfl) | exact Or.inr (Or.inr rfl)) (hd : (x == ("__debug__" : Str)) = false := by decide) (hcd : (x == ("__classdict__" : Str)) = false := by decide) : PE X (.Name x pos) (tV G X C (.var i)) := sV_var hN hv hd hcd
theorem wtr {e : Expr} (hE : PE X e (tV G X C e')) (he : ∀ whole, isTrue e X.env whole = (do let v ← whole; standAt e.pos; holding [v] (truthy v)) := by intro _; rfl)
    (hev : ∀ σ s, ev C e' .t σ s = (ev C e' .v σ s).bind fun x s => .of (truK x) s := by intro _ _; rfl) : PT X e (tT G X C e') := sT_plain hE he hev
theorem wcv (hu : X.A.units + 9 < cLine) (c : Cm) (ha : PE X a (tV G X C a')) (hb : PE X b (tV G X C b')) (hm : behindInMarks (cmOf c) b = false := by rfl) : PE X (.Compare a [cmOf c] [b] pos) (tV G X C (.cmp c a' b')) := sV_cmp hu c ha hb hm
theorem wct (hu : X.A.units + 9 < cLine) (c : Cm) (ha : PE X a (tV G X C a')) (hb : PE X b (tV G X C b')) (hm : behindInMarks (cmOf c) b = false := by rfl) : PT X (.Compare a [cmOf c] [b] pos) (tT G X C (.cmp c a' b')) := sT_cmp hu c ha hb hm
theorem wone {op} (h : PE X a (tV G X C a')) : PE X (.BoolOp op [a] pos) (tV G X C a') := pe_one h
theorem wsub (ha : PE X a (tV G X C a')) (hb : PE X b (tV G X C b')) (hs : PlainIx b := by intro _ _; rfl) : PE X (.Subscript a b pos) (tV G X C (.sub a' b')) := sV_sub ha hb hs
theorem wac {es : List Expr} {es' : List IP.E} (ha : PE X a (tV G X C a')) (hr : PA X es (tA G X C es')) (hs : starEach (a :: es) X.env = (false, eval a X.env) :: starEach es X.env := by rfl) : PA X (a :: es) (tA G X C (a' :: es')) := sA_cons ha hr hs
theorem wrc {es : List Expr} {es' : List IP.E} (ha : PE X a (tV G X C a')) (hr : PA X es (tR G X C es')) (hs : starEach (a :: es) X.env = (false, eval a X.env) :: starEach es X.env := by rfl) : PA X (a :: es) (tR G X C (a' :: es')) := sR_cons ha hr hs
theorem wtup {es : List Expr} {es' : List IP.E} {k : Nat} (h : PA X es (tA G X C es')) (hz : es'.length ≤ 1000 := by decide) : PE X (.Tuple es k pos) (tV G X C (.tup es')) := sV_tup h (Nat.le_trans hz (by decide))
theorem wlst {es : List Expr} {es' : List IP.E} (h : PA X es (tA G X C es')) (hz : es'.length ≤ 1000 := by decide) : PE X (.List es pos) (tV G X C (.lst es')) := sV_lst h (Nat.le_trans hz (by decide))
theorem wlstO {es : List Expr} {es' : List IP.E} (h : PA X es (tA G X C es')) (hz : es'.length ≤ 1000 := by decide) : PE X (.List es pos) (tO G X C (.lst es')) := sO_lst h (Nat.le_trans hz (by decide))
theorem wlen (hm : X.mg "len" = none) (ha : PE X a (tV G X C a')) (hg : Gl X "len" := by rfl) (hs : starEach [a] X.env = [(false, eval a X.env)] := by rfl) : PE X (.Call (.Name "len" p) [a] [] pos) (tV G X C (.b1 .len a')) := sB1 c_len hg hm (by rfl) (by decide) (by decide) ha hs fun _ _ => rfl
theorem wabs (hm : X.mg "abs" = none) (ha : PE X a (tV G X C a')) (hg : Gl X "abs" := by rfl) (hs : starEach [a] X.env = [(false, eval a X.env)] := by rfl) : PE X (.Call (.Name "abs" p) [a] [] pos) (tV G X C (.b1 .abs a')) := sB1 c_abs hg hm (by rfl) (by decide) (by decide) ha hs fun _ _ => rfl
theorem wlist (hm : X.mg "list" = none) (ha : PE X a (tV G X C a')) (hg : Gl X "list" := by rfl) (hs : starEach [a] X.env = [(false, eval a X.env)] := by rfl) : PE X (.Call (.Name "list" p) [a] [] pos) (tV G X C (.b1 .list a')) := sTy1 c_list hg hm (by rfl) (by decide) (by decide) ha hs fun _ _ => rfl
theorem wmin (hm : X.mg "min" = none) (ha : PE X a (tV G X C a')) (hg : Gl X "min" := by rfl) (hs : starEach [a] X.env = [(false, eval a X.env)] := by rfl) (hc : X.calm = true := by rfl) : PE X (.Call (.Name "min" p) [a] [] pos) (tV G X C (.b1 .min a')) := sB1 (c_min hc) hg hm (by rfl) (by decide) (by decide) ha hs fun _ _ => rfl
theorem wmax (hm : X.mg "max" = none) (ha : PE X a (tV G X C a')) (hg : Gl X "max" := by rfl) (hs : starEach [a] X.env = [(false, eval a X.env)] := by rfl) (hc : X.calm = true := by rfl) : PE X (.Call (.Name "max" p) [a] [] pos) (tV G X C (.b1 .max a')) := sB1 (c_max hc) hg hm (by rfl) (by decide) (by decide) ha hs fun _ _ => rfl
theorem wsorted (hm : X.mg "sorted" = none) (ha : PE X a (tV G X C a')) (hg : Gl X "sorted" := by rfl) (hs : starEach [a] X.env = [(false, eval a X.env)] := by rfl) : PE X (.Call (.Name "sorted" p) [a] [] pos) (tV G X C (.b1 .sorted a')) := sB1 c_sorted hg hm (by rfl) (by decide) (by decide) ha hs fun _ _ => rfl
theorem wmax2 (hm : X.mg "max" = none) (ha : PE X a (tV G X C a')) (hb : PE X b (tV G X C b')) (hg : Gl X "max" := by rfl) (hs : starEach [a, b] X.env = [(false, eval a X.env), (false, eval b X.env)] := by rfl) (hs2 : starEach [b] X.env = [(false, eval b X.env)] := by rfl) (hc : X.calm = true := by rfl) : PE X (.Call (.Name "max" p) [a, b] [] pos) (tV G X C (.mx2 a' b')) := sB2 (c_max2 hc) hg hm (by rfl) (by decide) (by decide) ha hb hs hs2 fun _ _ => rfl
theorem wisi (c : Ty) {n : String} {y : Str} {py : Pos} (hm : X.mg "isinstance" = none) (hmy : X.mg y = none) (ha : PE X a (tV G X C a')) (hn : tyOf c = some n := by rfl) (hg : Gl X "isinstance" := by rfl) (hgy : Gl X y := by rfl) (hv : bootBuiltins y = some (.type n) := by rfl) (hy : y ≠ "__name__" := by decide) (hdy : (y == ("__debug__" : Str)) = false := by decide)
    (hs : starEach [a, .Name y py] X.env = [(false, eval a X.env), (false, eval (.Name y py) X.env)] := by rfl) : PE X (.Call (.Name "isinstance" p) [a, .Name y py] [] pos) (tV G X C (.isi a' c)) := sV_isi hn hg hm hgy hmy hv hy hdy ha hs
theorem wpl {tg e : Expr} (hE : PE X e (tV G X C e')) (hev : ∀ σ s, ev C e' .i σ s = fin .i (ev C e' .v σ s) := by intro _ _; rfl) : PI X tg e (tI G X C e' .i false) := sI_plain hE (.inl ⟨rfl, rfl⟩) hev
theorem wpj {tg e : Expr} (hE : PE X e (tV G X C e')) (hev : ∀ σ s, ev C e' .j σ s = fin .j (ev C e' .v σ s) := by intro _ _; rfl) : PI X tg e (tI G X C e' .j true) := sI_plain hE (.inr ⟨rfl, rfl⟩) hev
theorem wr1 {tg : Expr} {m : Md} {z : Bool} (hmg : X.mg "range" = none) (ha : PE X a (tV G X C a')) (hm : m = .i ∨ m = .j := by first | exact .inl rfl | exact .inr rfl) (hg : Gl X "range" := by rfl) (hs : starEach [a] X.env = [(false, eval a X.env)] := by rfl) : PI X tg (.Call (.Name "range" p) [a] [] pos) (tI G X C (.rng1 a') m z) := sI_rng1 hm hg hmg ha hs
theorem wr2 {tg : Expr} {m : Md} {z : Bool} (hmg : X.mg "range" = none) (ha : PE X a (tV G X C a')) (hb : PE X b (tV G X C b')) (hm : m = .i ∨ m = .j := by first | exact .inl rfl | exact .inr rfl) (hg : Gl X "range" := by rfl) (hs : starEach [a, b] X.env = [(false, eval a X.env), (false, eval b X.env)] := by rfl) (hs2 : starEach [b] X.env = [(false, eval b X.env)] := by rfl) : PI X tg (.Call (.Name "range" p) [a, b] [] pos) (tI G X C (.rng2 a' b') m z) := sI_rng2 hm hg hmg ha hb hs hs2
theorem wg1 {i : Nat} {x : Str} (hN : X.N.Nodup) (hi : X.N[i]? = some x := by rfl) (hx : Loc X.env.scope x := by first | exact Or.inl rfl | exact Or.inr rfl) (hf : X.fn x = true ∨ X.env.scope.names.lookup x = some .local := by first | exact Or.inl rfl | exact Or.inr rfl) : PG X (.Name x pos) (gTg G (.one i)) := sG_one hN hi hx hf
theorem wgc {i : Nat} {js : List Nat} {x : Str} {es : List Expr} (hN : X.N.Nodup) (h2 : PGs X es (gMany js)) (hi : X.N[i]? = some x := by rfl) (hx : Loc X.env.scope x := by first | exact Or.inl rfl | exact Or.inr rfl) (hf : X.fn x = true ∨ X.env.scope.names.lookup x = some .local := by first | exact Or.inl rfl | exact Or.inr rfl) : PGs X (.Name x pos :: es) (gMany (i :: js)) := sG_cons hN hi hx hf h2
theorem wgm {js : List Nat} {es : List Expr} {k : Nat} (h : PGs X es (gMany js)) (hc : X.calm = true := by rfl) (hn : (assignEach es X.env).length = js.length := by rfl) (hst : (assignEach es X.env).findIdx? (·.1) = none := by rfl) : PG X (.Tuple es k pos) (gTg G (.many js)) := sG_many hc h hn hst
/-! statements -/
variable {i : Nat} {x : Str} {pos' : Pos}
theorem qasg (hN : X.N.Nodup) (he : PE X e (tV G X C e')) (hi : X.N[i]? = some x := by rfl) (hx : Loc X.env.scope x := by first | exact Or.inl rfl | exact Or.inr rfl) (hs : swapsWith e (some (.Name x pos')) pos.line X.env = pure false := by rfl) (hf : X.fn x = true ∨ X.env.scope.names.lookup x = some .local := by exact Or.inl rfl) : PS X (.Assign [.Name x pos'] e pos) (tS G X C (.asg i e')) := sS_asg hN hi hx he hs hf
theorem qmk (hN : X.N.Nodup) (he : PE X e (tO G X C e')) (hi : X.N[i]? = some x := by rfl) (hx : Loc X.env.scope x := by first | exact Or.inl rfl | exact Or.inr rfl) (hs : swapsWith e (some (.Name x pos')) pos.line X.env = pure false := by rfl) (hf : X.fn x = true ∨ X.env.scope.names.lookup x = some .local := by exact Or.inl rfl) : PS X (.Assign [.Name x pos'] e pos) (tS G X C (.mk i e')) := sS_mk hN hi hx he hs hf
theorem qapp {p1 cpos : Pos} (he : PE X e (tV G X C e')) (hN : X.N[i]? = some x := by rfl) (hv : Vis X.env.scope x := by first | exact Or.inl rfl | exact Or.inr (Or.inl rfl)) (hd : (x == ("__debug__" : Str)) = false := by decide) (hcd : (x == ("__classdict__" : Str)) = false := by decide) (hst : starEach [e] X.env = [(false, eval e X.env)] := by rfl)
    (hline : (p2.endLine == cpos.line) = true := by rfl) (hbase : attributeBase (.Name x p1) "append" X.env (eval (.Name x p1) X.env) = eval (.Name x p1) X.env := by rfl)
    (hfew : ((backTo cpos (starEach [e] X.env)).all (fun x => !x.1) && (backToKw cpos (keywordEach [] X.env)).all (fun x => x.1.isSome) && decide ([e].length + ([] : List Keyword).length + (if ([] : List Keyword).isEmpty then 0 else 1) < 30)) = true := by rfl)
    (hs : swapsWith (.Call (.Attribute (.Name x p1) "append" p2) [e] [] cpos) none pos.line X.env = pure false := by rfl) :
    PS X (.Expr (.Call (.Attribute (.Name x p1) "append" p2) [e] [] cpos) pos) (tS G X C (.app i e')) := sS_app hN hv hd hcd he hst hline hbase hfew hs
theorem qput {j : Expr} {j' : IP.E} {p1 : Pos} (hj : PE X j (tV G X C j')) (he : PE X e (tV G X C e')) (hN : X.N[i]? = some x := by rfl) (hv : Vis X.env.scope x := by first | exact Or.inl rfl | exact Or.inr (Or.inl rfl)) (hd : (x == ("__debug__" : Str)) = false := by decide) (hcd : (x == ("__classdict__" : Str)) = false := by decide)
    (hs : swapsWithSole [.Subscript (.Name x p1) j p2] e pos.line X.env = pure false := by rfl) (hw : swappedStores [.Subscript (.Name x p1) j p2] e X.env = pure none := by rfl) (h1 : (assignEach [.Subscript (.Name x p1) j p2] X.env).map (·.2) = [assign (.Subscript (.Name x p1) j p2) X.env] := by rfl)
    (ha : ∀ v, assign (.Subscript (.Name x p1) j p2) X.env v = (do
      let ov ← holding [v] (eval (.Name x p1) X.env)
      let iv ← holding [v, ov] (eval j X.env)
      standAt p2
      holding [v, ov, iv] (setItem ov iv v)
      release [v, ov, iv] []) := by intro _; rfl) :
    PS X (.Assign [.Subscript (.Name x p1) j p2] e pos) (tS G X C (.put i j' e')) := sS_put hN hv hd hcd he hj hs hw h1 ha
theorem qwhl {c : Expr} {c' : IP.E} {b : List Stmt} {b' : List S} (hc : PT X c (tT G X C c')) (hb : PSs X b (tSs G X C b')) (hwl : C.wl = whileL := by rfl) (hp : PassesOwn (model X.prog X.w) X.A X.env X.xe := by exact PassesOwn.never) : PS X (.While c b [] pos) (tS G X C (.whl c' b')) := sS_whl hwl hp hc hb
theorem qfor {tg iter : Expr} {it' : IP.E} {g : Tg} {b : List Stmt} {b' : List S} (hI : PI X tg iter (tI G X C it' .j true)) (hg : PG X tg (gTg G g)) (hb : PSs X b (tSs G X C b')) (hp : PassesOwn (model X.prog X.w) X.A X.env X.xe := by exact PassesOwn.never) (hc : X.calm = true := by rfl)
    (hs : ∀ x, foldedSetIterable iter X.env x = pure x := by intro _; rfl) (hit : ∀ i, it' ≠ .var i := by intro _ h; cases h) : PS X (.For tg iter b [] pos) (tS G X C (.for_ g it' b')) := sS_for hp hc hI hg hb hs hit
theorem qforV {tg : Expr} {xp : Pos} {g : Tg} {b : List Stmt} {b' : List S} (hg : PG X tg (gTg G g)) (hb : PSs X b (tSs G X C b')) (hp : PassesOwn (model X.prog X.w) X.A X.env X.xe := by exact PassesOwn.never) (hc : X.calm = true := by rfl) (hN : X.N[i]? = some x := by rfl) (hv : Vis X.env.scope x := by first | exact Or.inl rfl | exact Or.inr (Or.inl rfl)) (hd : (x == ("__debug__" : Str)) = false := by decide) (hcd : (x == ("__classdict__" : Str)) = false := by decide)
    (hs : ∀ y, foldedSetIterable (.Name x xp) X.env y = pure y := by intro _; rfl) : PS X (.For tg (.Name x xp) b [] pos) (tS G X C (.for_ g (.var i) b')) := sS_forV hp hc hN hv hd hcd hg hb hs
end
/-! calls -/
section
variable {G : Gx} {X : Cx} {fs : List Fn} {sub : Nat → Nat → Bool} {k fi : Nat} {fa : Addr} {fd : FuncData} {ps : List Str} {e₀ : Expr} {es : List Expr} {es' : List IP.E} {x : Str} {p pos : Pos}
theorem wcall (F : FnOk X.prog X.w X.K X.mg X.base CX0 k fa fd ps (spG G (cfK fs sub k).cf (cfK fs sub k).fr fi)) (hr : Room k X.A) (hm : X.mg x = some (.ref fa)) (hk : PySem.W.keepIn X.K (.ref fa) = true) (hb : Binds X.K fd ps []) (ha : PA X (e₀ :: es) (tR G X (cfK fs sub k) es'))
    (hf : frOf fs fi = false := by rfl) (hg : Gl X x := by rfl) (hdb : (x == ("__debug__" : Str)) = false := by decide) (he : starEach (e₀ :: es) X.env = (false, eval e₀ X.env) :: starEach es X.env := by rfl) (hpl : (backTo pos (starEach es X.env)).any (·.1) = false := by rfl) :
    PE X (.Call (.Name x p) (e₀ :: es) [] pos) (tV G X (cfK fs sub k) (.call fi es' [])) := sV_callN hf (run_ne k) F hr hg hm hk hb ha hdb he hpl
theorem wcallO (F : FnOk X.prog X.w X.K X.mg X.base CX0 k fa fd ps (spG G (cfK fs sub k).cf (cfK fs sub k).fr fi)) (hr : Room k X.A) (hm : X.mg x = some (.ref fa)) (hk : PySem.W.keepIn X.K (.ref fa) = true) (hb : Binds X.K fd ps []) (ha : PA X (e₀ :: es) (tR G X (cfK fs sub k) es'))
    (hf : frOf fs fi = true := by rfl) (hg : Gl X x := by rfl) (hdb : (x == ("__debug__" : Str)) = false := by decide) (he : starEach (e₀ :: es) X.env = (false, eval e₀ X.env) :: starEach es X.env := by rfl) (hpl : (backTo pos (starEach es X.env)).any (·.1) = false := by rfl) :
    PE X (.Call (.Name x p) (e₀ :: es) [] pos) (tO G X (cfK fs sub k) (.call fi es' [])) := sO_callN hf (run_ne k) F hr hg hm hk hb ha hdb he hpl
end
end IP

end
section
/-! Two sides of a closed line: a point in common, or a direction that parts them. -/
namespace SegM
/-- how far `t` lies left of the way from `s` to `o` -/
def turn (sx sy ox oy tx ty : Int) : Int := (ox - sx) * (ty - sy) - (oy - sy) * (tx - sx)
/-- all of the first two below all of the others -/
def Below (fa fb fc fd : Int) : Prop := fa < fc ∧ fa < fd ∧ fb < fc ∧ fb < fd
theorem weigh {p q r s fa fb fc fd : Int} (hp : 0 ≤ p) (hq : 0 ≤ q) (hr : 0 ≤ r) (hs : 0 ≤ s) (hk : 0 < p + q) (hrs : r + s = p + q)
    (e : p * fb + q * fa = r * fd + s * fc) : ¬ Below fa fb fc fd := by
  rintro ⟨h1, h2, h3, h4⟩
  have M : ∃ M, fa ≤ M ∧ fb ≤ M ∧ M + 1 ≤ fc ∧ M + 1 ≤ fd := ⟨max fa fb, by omega, by omega, by omega, by omega⟩
  obtain ⟨M, a1, a2, a3, a4⟩ := M
  have b1 := Int.mul_le_mul_of_nonneg_left a2 hp
  have b2 := Int.mul_le_mul_of_nonneg_left a1 hq
  have b3 := Int.mul_le_mul_of_nonneg_left a4 hr
  have b4 := Int.mul_le_mul_of_nonneg_left a3 hs
  have e1 : p * M + q * M = (p + q) * M := by grind
  have e2 : r * (M + 1) + s * (M + 1) = (r + s) * M + (r + s) := by grind
  rw [hrs] at e2
  omega
section
variable (ax ay bx by' cx cy dx dy : Int)
/-- the four turns weigh the four points to nought -/
theorem four (u v : Int) :
    turn cx cy dx dy ax ay * (bx * u + by' * v) - turn cx cy dx dy bx by' * (ax * u + ay * v) +
      turn ax ay bx by' cx cy * (dx * u + dy * v) - turn ax ay bx by' dx dy * (cx * u + cy * v) = 0 := by
  unfold turn
  grind
theorem sums : turn cx cy dx dy ax ay - turn cx cy dx dy bx by' + turn ax ay bx by' cx cy - turn ax ay bx by' dx dy = 0 := by
  unfold turn
  grind
end
/-- a product that is not above 0 -/
theorem signs {a b : Int} (h : a * b ≤ 0) : (0 ≤ a ∧ b ≤ 0) ∨ (a ≤ 0 ∧ 0 ≤ b) := by
  by_cases ha : 0 < a
  · left
    refine ⟨by omega, ?_⟩
    apply Classical.byContradiction
    intro hb
    have := Int.mul_pos ha (show 0 < b by omega)
    omega
  · by_cases ha0 : a = 0
    · by_cases hb : 0 ≤ b
      · right; omega
      · left; omega
    · right
      refine ⟨by omega, ?_⟩
      apply Classical.byContradiction
      intro hb
      have := Int.mul_pos (show 0 < -a by omega) (show 0 < -b by omega)
      have e : -a * -b = a * b := by grind
      omega
/-- sides that reach across each other, not all on one line, are parted by no direction -/
theorem across {ax ay bx by' cx cy dx dy u v : Int}
    (h1 : turn cx cy dx dy ax ay * turn cx cy dx dy bx by' ≤ 0) (h2 : turn ax ay bx by' cx cy * turn ax ay bx by' dx dy ≤ 0)
    (hk : turn cx cy dx dy ax ay ≠ turn cx cy dx dy bx by') :
    ¬ Below (ax * u + ay * v) (bx * u + by' * v) (cx * u + cy * v) (dx * u + dy * v) := by
  have e := four ax ay bx by' cx cy dx dy u v
  have k := sums ax ay bx by' cx cy dx dy
  generalize turn cx cy dx dy ax ay = A at *
  generalize turn cx cy dx dy bx by' = B at *
  generalize turn ax ay bx by' cx cy = C at *
  generalize turn ax ay bx by' dx dy = D at *
  generalize ax * u + ay * v = fa at *
  generalize bx * u + by' * v = fb at *
  generalize cx * u + cy * v = fc at *
  generalize dx * u + dy * v = fd at *
  rcases signs h1 with ⟨a1, a2⟩ | ⟨a1, a2⟩
  · have hC : C ≤ 0 ∧ 0 ≤ D := by
      rcases signs h2 with ⟨c1, c2⟩ | ⟨c1, c2⟩ <;> omega
    refine weigh (p := A) (q := -B) (r := -C) (s := D) a1 (by omega) (by omega) hC.2 (by omega) (by omega) ?_
    grind
  · have hC : 0 ≤ C ∧ D ≤ 0 := by
      rcases signs h2 with ⟨c1, c2⟩ | ⟨c1, c2⟩ <;> omega
    refine weigh (p := -A) (q := B) (r := C) (s := -D) (by omega) a2 hC.1 (by omega) (by omega) (by omega) ?_
    grind
/-- a place on a line between two others by one of its numbers is between them by every direction -/
theorem between {px py qx qy rx ry u v : Int} (hc : turn px py qx qy rx ry = 0) (h1 : px ≤ rx) (h2 : rx ≤ qx) (hne : px < qx) :
    ∃ s t : Int, 0 ≤ s ∧ 0 ≤ t ∧ 0 < s + t ∧ (s + t) * (rx * u + ry * v) = s * (px * u + py * v) + t * (qx * u + qy * v) := by
  refine ⟨qx - rx, rx - px, by omega, by omega, by omega, ?_⟩
  unfold turn at hc
  grind
theorem mid_le {s t fr fp fq : Int} (hs : 0 ≤ s) (ht : 0 ≤ t) (hk : 0 < s + t) (e : (s + t) * fr = s * fp + t * fq) :
    (fp ≤ fr ∨ fq ≤ fr) ∧ (fr ≤ fp ∨ fr ≤ fq) := by
  constructor
  · apply Classical.byContradiction
    intro h
    have b1 := Int.mul_le_mul_of_nonneg_left (show fr + 1 ≤ fp by omega) hs
    have b2 := Int.mul_le_mul_of_nonneg_left (show fr + 1 ≤ fq by omega) ht
    have e1 : s * (fr + 1) + t * (fr + 1) = (s + t) * fr + (s + t) := by grind
    omega
  · apply Classical.byContradiction
    intro h
    have b1 := Int.mul_le_mul_of_nonneg_left (show fp ≤ fr - 1 by omega) hs
    have b2 := Int.mul_le_mul_of_nonneg_left (show fq ≤ fr - 1 by omega) ht
    have e1 : s * (fr - 1) + t * (fr - 1) = (s + t) * fr - (s + t) := by grind
    omega
/-- within two others -/
def W (p q r : Int) : Prop := (p ≤ r ∨ q ≤ r) ∧ (r ≤ p ∨ r ≤ q)
theorem W_l (p q : Int) : W p q p := by unfold W; omega
theorem W_r (p q : Int) : W p q q := by unfold W; omega
theorem W_not {fa fb fc fd r : Int} (h1 : W fa fb r) (h2 : W fc fd r) : ¬ Below fa fb fc fd := by
  unfold W at h1 h2
  unfold Below
  omega
theorem turn_swap (sx sy ox oy tx ty : Int) : turn ox oy sx sy tx ty = -turn sx sy ox oy tx ty := by
  unfold turn
  grind
theorem seg_x {cx cy dx dy px py : Int} (hc : turn cx cy dx dy px py = 0) (h1 : min cx dx ≤ px) (h2 : px ≤ max cx dx) (hne : cx ≠ dx) (u v : Int) :
    W (cx * u + cy * v) (dx * u + dy * v) (px * u + py * v) := by
  by_cases hlt : cx < dx
  · obtain ⟨s, t, hs, ht, hk, e⟩ := between (u := u) (v := v) hc (show cx ≤ px by omega) (by omega) hlt
    exact mid_le hs ht hk e
  · have hc' : turn dx dy cx cy px py = 0 := by rw [turn_swap, hc]; rfl
    obtain ⟨s, t, hs, ht, hk, e⟩ := between (u := u) (v := v) hc' (show dx ≤ px by omega) (by omega) (by omega)
    have := mid_le hs ht hk e
    unfold W
    omega
theorem mono_y {x cy dy py u v : Int} (h1 : min cy dy ≤ py) (h2 : py ≤ max cy dy) : W (x * u + cy * v) (x * u + dy * v) (x * u + py * v) := by
  by_cases hlt : cy < dy
  · exact mid_le (s := dy - py) (t := py - cy) (by omega) (by omega) (by omega) (by grind)
  · by_cases he : cy = dy
    · have : py = cy := by omega
      subst this
      exact W_l _ _
    · have := mid_le (s := cy - py) (t := py - dy) (fr := x * u + py * v) (fp := x * u + dy * v) (fq := x * u + cy * v) (by omega) (by omega) (by omega) (by grind)
      unfold W
      omega
/-- sides on one line whose spans meet both ways are parted by no direction -/
theorem on_line {ax ay bx by' cx cy dx dy : Int} (hA : turn cx cy dx dy ax ay = 0) (hB : turn cx cy dx dy bx by' = 0) (hC : turn ax ay bx by' cx cy = 0) (hD : turn ax ay bx by' dx dy = 0)
    (x1 : min ax bx ≤ max cx dx) (x2 : min cx dx ≤ max ax bx) (y1 : min ay by' ≤ max cy dy) (y2 : min cy dy ≤ max ay by') (u v : Int) :
    ¬ Below (ax * u + ay * v) (bx * u + by' * v) (cx * u + cy * v) (dx * u + dy * v) := by
  by_cases e1 : ax = bx
  · by_cases e2 : cx = dx
    · have e3 : ax = cx := by omega
      subst e1; subst e2; subst e3
      have : (min cy dy ≤ ay ∧ ay ≤ max cy dy) ∨ (min cy dy ≤ by' ∧ by' ≤ max cy dy) ∨ (min ay by' ≤ cy ∧ cy ≤ max ay by') ∨ (min ay by' ≤ dy ∧ dy ≤ max ay by') := by omega
      rcases this with h | h | h | h
      · exact W_not (W_l _ _) (mono_y h.1 h.2)
      · exact W_not (W_r _ _) (mono_y h.1 h.2)
      · exact W_not (mono_y h.1 h.2) (W_l _ _)
      · exact W_not (mono_y h.1 h.2) (W_r _ _)
    · subst e1
      exact W_not (W_l _ _) (seg_x hA (by omega) (by omega) e2 u v)
  · by_cases e2 : cx = dx
    · subst e2
      exact W_not (seg_x hC (by omega) (by omega) e1 u v) (W_l _ _)
    · have : (min cx dx ≤ ax ∧ ax ≤ max cx dx) ∨ (min cx dx ≤ bx ∧ bx ≤ max cx dx) ∨ (min ax bx ≤ cx ∧ cx ≤ max ax bx) ∨ (min ax bx ≤ dx ∧ dx ≤ max ax bx) := by omega
      rcases this with h | h | h | h
      · exact W_not (W_l _ _) (seg_x hA h.1 h.2 e2 u v)
      · exact W_not (W_r _ _) (seg_x hB h.1 h.2 e2 u v)
      · exact W_not (seg_x hC h.1 h.2 e1 u v) (W_l _ _)
      · exact W_not (seg_x hD h.1 h.2 e1 u v) (W_r _ _)
/-- what the program asks of two sides without a corner in common -/
def Common (ax ay bx by' cx cy dx dy : Int) : Prop :=
  (min ax bx ≤ max cx dx ∧ min cx dx ≤ max ax bx) ∧ (min ay by' ≤ max cy dy ∧ min cy dy ≤ max ay by') ∧
    turn cx cy dx dy ax ay * turn cx cy dx dy bx by' ≤ 0 ∧ turn ax ay bx by' cx cy * turn ax ay bx by' dx dy ≤ 0
theorem sq_zero {a : Int} (h : a * a ≤ 0) : a = 0 := by
  rcases signs h with ⟨h1, h2⟩ | ⟨h1, h2⟩ <;> omega
theorem common_below {ax ay bx by' cx cy dx dy : Int} (h : Common ax ay bx by' cx cy dx dy) (u v : Int) :
    ¬ Below (ax * u + ay * v) (bx * u + by' * v) (cx * u + cy * v) (dx * u + dy * v) := by
  obtain ⟨⟨x1, x2⟩, ⟨y1, y2⟩, h1, h2⟩ := h
  by_cases hk : turn cx cy dx dy ax ay = turn cx cy dx dy bx by'
  · have k := sums ax ay bx by' cx cy dx dy
    have k2 : turn ax ay bx by' cx cy = turn ax ay bx by' dx dy := by omega
    rw [← hk] at h1
    rw [← k2] at h2
    have a0 := sq_zero h1
    have c0 := sq_zero h2
    exact on_line a0 (by omega) c0 (by omega) x1 x2 y1 y2 u v
  · exact across h1 h2 hk
theorem common_swap {ax ay bx by' cx cy dx dy : Int} (h : Common ax ay bx by' cx cy dx dy) : Common cx cy dx dy ax ay bx by' := by
  obtain ⟨⟨x1, x2⟩, ⟨y1, y2⟩, h1, h2⟩ := h
  exact ⟨⟨x2, x1⟩, ⟨y2, y1⟩, h2, h1⟩
/-- a direction parts two sides -/
def PartBy (ax ay bx by' cx cy dx dy u v : Int) : Prop :=
  Below (ax * u + ay * v) (bx * u + by' * v) (cx * u + cy * v) (dx * u + dy * v) ∨ Below (cx * u + cy * v) (dx * u + dy * v) (ax * u + ay * v) (bx * u + by' * v)
theorem common_not {ax ay bx by' cx cy dx dy : Int} (h : Common ax ay bx by' cx cy dx dy) (u v : Int) : ¬ PartBy ax ay bx by' cx cy dx dy u v := by
  rintro (q | q)
  · exact common_below h u v q
  · exact common_below (common_swap h) u v q
/-- where a product is above 0 both are on one side -/
theorem same_side {a b : Int} (h : ¬ a * b ≤ 0) : (0 < a ∧ 0 < b) ∨ (a < 0 ∧ b < 0) := by
  by_cases ha : 0 < a
  · left
    refine ⟨ha, ?_⟩
    apply Classical.byContradiction
    intro hb
    have := Int.mul_le_mul_of_nonneg_left (show b ≤ 0 by omega) (show 0 ≤ a by omega)
    omega
  · right
    have ha0 : a ≠ 0 := by
      intro h0
      subst h0
      omega
    refine ⟨by omega, ?_⟩
    apply Classical.byContradiction
    intro hb
    have := Int.mul_le_mul_of_nonneg_left (show 0 ≤ b by omega) (show 0 ≤ -a by omega)
    have e : -a * b = -(a * b) := by grind
    omega
/-- no point in common: one of four directions parts them -/
theorem not_common {ax ay bx by' cx cy dx dy : Int} (h : ¬ Common ax ay bx by' cx cy dx dy) :
    PartBy ax ay bx by' cx cy dx dy 1 0 ∨ PartBy ax ay bx by' cx cy dx dy 0 1 ∨ PartBy ax ay bx by' cx cy dx dy (ay - by') (bx - ax) ∨ PartBy ax ay bx by' cx cy dx dy (cy - dy) (dx - cx) := by
  by_cases hx : min ax bx ≤ max cx dx ∧ min cx dx ≤ max ax bx
  · by_cases hy : min ay by' ≤ max cy dy ∧ min cy dy ≤ max ay by'
    · right; right
      by_cases h2 : turn ax ay bx by' cx cy * turn ax ay bx by' dx dy ≤ 0
      · right
        have h1 : ¬ turn cx cy dx dy ax ay * turn cx cy dx dy bx by' ≤ 0 := fun q => h ⟨hx, hy, q, h2⟩
        have e1 : turn cx cy dx dy ax ay = (ax * (cy - dy) + ay * (dx - cx)) - (cx * (cy - dy) + cy * (dx - cx)) := by unfold turn; grind
        have e2 : turn cx cy dx dy bx by' = (bx * (cy - dy) + by' * (dx - cx)) - (cx * (cy - dy) + cy * (dx - cx)) := by unfold turn; grind
        have e3 : cx * (cy - dy) + cy * (dx - cx) = dx * (cy - dy) + dy * (dx - cx) := by grind
        unfold PartBy Below
        rcases same_side h1 with ⟨p, q⟩ | ⟨p, q⟩
        · right; omega
        · left; omega
      · left
        have e1 : turn ax ay bx by' cx cy = (cx * (ay - by') + cy * (bx - ax)) - (ax * (ay - by') + ay * (bx - ax)) := by unfold turn; grind
        have e2 : turn ax ay bx by' dx dy = (dx * (ay - by') + dy * (bx - ax)) - (ax * (ay - by') + ay * (bx - ax)) := by unfold turn; grind
        have e3 : ax * (ay - by') + ay * (bx - ax) = bx * (ay - by') + by' * (bx - ax) := by grind
        unfold PartBy Below
        rcases same_side h2 with ⟨p, q⟩ | ⟨p, q⟩
        · left; omega
        · right; omega
    · right; left
      unfold PartBy Below
      omega
  · left
    unfold PartBy Below
    omega
end SegM

end
section
/-! Two ways from one corner: the same direction in lowest terms, or on one line and forward. -/
namespace WayM
theorem abs_eq {a b : Int} (h : a.natAbs = b.natAbs) : a = b ∨ a = -b := by omega
theorem sq_pos_of {a b : Int} (h : ¬ (a = 0 ∧ b = 0)) : 0 < a * a + b * b := by
  have h1 : 0 ≤ a * a := by
    rcases Int.le_total 0 a with q | q
    · exact Int.mul_nonneg q q
    · have := Int.mul_nonneg (show 0 ≤ -a by omega) (show 0 ≤ -a by omega)
      have e : -a * -a = a * a := by grind
      omega
  have h2 : 0 ≤ b * b := by
    rcases Int.le_total 0 b with q | q
    · exact Int.mul_nonneg q q
    · have := Int.mul_nonneg (show 0 ≤ -b by omega) (show 0 ≤ -b by omega)
      have e : -b * -b = b * b := by grind
      omega
  by_cases ha : a = 0
  · have hb : b ≠ 0 := fun q => h ⟨ha, q⟩
    have : b * b ≠ 0 := fun q => by rcases Int.mul_eq_zero.mp q with q | q <;> omega
    omega
  · have : a * a ≠ 0 := fun q => by rcases Int.mul_eq_zero.mp q with q | q <;> omega
    omega
theorem prim {i j k l : Int} (h1 : Nat.Coprime i.natAbs j.natAbs) (h2 : Nat.Coprime k.natAbs l.natAbs) (ht : i * l = j * k) (ha : 0 < i * k + j * l) : i = k ∧ j = l := by
  have e : i.natAbs * l.natAbs = j.natAbs * k.natAbs := by
    rw [← Int.natAbs_mul, ← Int.natAbs_mul, ht]
  have d1 : i.natAbs ∣ k.natAbs := h1.dvd_of_dvd_mul_left (e ▸ Nat.dvd_mul_right _ _)
  have d2 : k.natAbs ∣ i.natAbs := h2.dvd_of_dvd_mul_right (e ▸ Nat.dvd_mul_left _ _)
  have d3 : j.natAbs ∣ l.natAbs := h1.symm.dvd_of_dvd_mul_left (e ▸ Nat.dvd_mul_right _ _)
  have d4 : l.natAbs ∣ j.natAbs := h2.symm.dvd_of_dvd_mul_right (e ▸ Nat.dvd_mul_left _ _)
  have e1 := abs_eq (Nat.dvd_antisymm d1 d2)
  have e2 := abs_eq (Nat.dvd_antisymm d3 d4)
  rcases e1 with rfl | rfl
  · rcases e2 with rfl | rfl
    · exact ⟨rfl, rfl⟩
    · have z : i * l = 0 := by grind
      rcases Int.mul_eq_zero.mp z with z | z
      · subst z
        by_cases hl : l = 0
        · subst hl; omega
        · have := sq_pos_of (a := l) (b := 0) (by omega)
          grind
      · subst z; exact ⟨rfl, by omega⟩
  · rcases e2 with rfl | rfl
    · have z : k * j = 0 := by grind
      rcases Int.mul_eq_zero.mp z with z | z
      · subst z; exact ⟨by omega, rfl⟩
      · subst z
        by_cases hk : k = 0
        · subst hk; omega
        · have := sq_pos_of (a := k) (b := 0) (by omega)
          grind
    · by_cases hk : k = 0 ∧ l = 0
      · obtain ⟨rfl, rfl⟩ := hk
        omega
      · have := sq_pos_of hk
        grind
/-- in lowest terms -/
theorem low {p q g : Int} (hg : g = (Nat.gcd p.natAbs q.natAbs : Nat)) (h0 : 0 < g) :
    ∃ i j, p = g * i ∧ q = g * j ∧ Nat.Coprime i.natAbs j.natAbs := by
  have dp : g ∣ p := by
    rw [hg]; exact Int.natAbs_dvd_natAbs.mp (by simpa using Nat.gcd_dvd_left _ _)
  have dq : g ∣ q := by
    rw [hg]; exact Int.natAbs_dvd_natAbs.mp (by simpa using Nat.gcd_dvd_right _ _)
  obtain ⟨i, hi⟩ := dp
  obtain ⟨j, hj⟩ := dq
  refine ⟨i, j, hi, hj, ?_⟩
  have e1 : p.natAbs = g.natAbs * i.natAbs := by rw [hi, Int.natAbs_mul]
  have e2 : q.natAbs = g.natAbs * j.natAbs := by rw [hj, Int.natAbs_mul]
  have e3 : g.natAbs = Nat.gcd p.natAbs q.natAbs := by omega
  rw [e1, e2, Nat.gcd_mul_left] at e3
  unfold Nat.Coprime
  have : 0 < g.natAbs := by omega
  exact Nat.eq_of_mul_eq_mul_left this (by omega)
/-- the program's look and the statement's -/
theorem same_way {p q r s g h : Int} (hg : g = (Nat.gcd p.natAbs q.natAbs : Nat)) (hh : h = (Nat.gcd r.natAbs s.natAbs : Nat)) (hpq : ¬ (p = 0 ∧ q = 0)) (hrs : ¬ (r = 0 ∧ s = 0)) :
    (p * s - q * r = 0 ∧ 0 < p * r + q * s) ↔ (Int.fdiv p g = Int.fdiv r h ∧ Int.fdiv q g = Int.fdiv s h) := by
  have g0 : 0 < g := by
    have : Nat.gcd p.natAbs q.natAbs ≠ 0 := fun z => by
      have := Nat.gcd_eq_zero_iff.mp z
      omega
    omega
  have h0 : 0 < h := by
    have : Nat.gcd r.natAbs s.natAbs ≠ 0 := fun z => by
      have := Nat.gcd_eq_zero_iff.mp z
      omega
    omega
  obtain ⟨i, j, e1, e2, c1⟩ := low hg g0
  obtain ⟨k, l, e3, e4, c2⟩ := low hh h0
  clear hg hh
  subst e1; subst e2; subst e3; subst e4
  rw [Int.mul_fdiv_cancel_left i (by omega), Int.mul_fdiv_cancel_left j (by omega), Int.mul_fdiv_cancel_left k (by omega), Int.mul_fdiv_cancel_left l (by omega)]
  have gh : 0 < g * h := Int.mul_pos g0 h0
  constructor
  · rintro ⟨t, a⟩
    have t' : g * h * (i * l - j * k) = 0 := by grind
    have a' : 0 < g * h * (i * k + j * l) := by
      have e : g * h * (i * k + j * l) = g * i * (h * k) + g * j * (h * l) := by grind
      omega
    have t2 : i * l = j * k := by
      rcases Int.mul_eq_zero.mp t' with z | z <;> omega
    have a2 : 0 < i * k + j * l := Int.pos_of_mul_pos_left (show 0 < (i * k + j * l) * (g * h) by rw [Int.mul_comm]; exact a') gh
    exact prim c1 c2 t2 a2
  · rintro ⟨rfl, rfl⟩
    constructor
    · grind
    · have hz : ¬ (i = 0 ∧ j = 0) := by
        rintro ⟨rfl, rfl⟩
        exact hpq ⟨by omega, by omega⟩
      have := Int.mul_pos gh (sq_pos_of hz)
      have e : g * i * (h * i) + g * j * (h * j) = g * h * (i * i + j * j) := by grind
      omega
end WayM

end
section
set_option Elab.async false
set_option linter.all false
set_option maxRecDepth 100000
set_option maxHeartbeats 0
namespace IP
open PySem PySem.Spec L2
namespace Pg
def top (i : Nat) : Stmt := PySem.Challenge.pw_gradecut_k08_crossing.main.body.getD i (.Pass ⟨0, 0, 0, 0⟩)
abbrev s_crossing : Stmt := top 1
def nm_crossing : List Str := ["corners", "i", "j"]
theorem nd_crossing : (nm_crossing).Nodup := by decide +kernel
def b_crossing : List S := [(.for_ (.one 1) (.rng1 (.b1 .len (.var 0))) [(.for_ (.one 2) (.rng2 (.var 1) (.b1 .len (.var 0))) [(.ifs (.call 1 [(.var 0), (.var 1), (.var 2)] []) [(.ret (.tup [(.var 1), (.var 2)]))] [])])]),
  (.ret (.cst .non))]
theorem sc_crossing : FnScope nm_crossing ["corners"] (defScope s_crossing) := ⟨rfl, rfl, rfl, nd_crossing, rfl, by decide +kernel, by decide +kernel⟩
abbrev s_sides_cross : Stmt := top 2
def nm_sides_cross : List Str := ["corners", "i", "j", "one", "two"]
theorem nd_sides_cross : (nm_sides_cross).Nodup := by decide +kernel
def b_sides_cross : List S := [(.asg 3 (.call 2 [(.var 0), (.var 1)] [])),
  (.asg 4 (.call 2 [(.var 0), (.var 2)] [])),
  (.ifs (.cmp .eq (.var 1) (.var 2)) [(.ret (.cmp .eq (.sub (.var 3) (.cst (.int 0))) (.sub (.var 3) (.cst (.int 1)))))] []),
  (.ifs (.cmp .eq (.var 2) (.bin .add (.var 1) (.cst (.int 1)))) [(.ret (.call 3 [(.sub (.var 3) (.cst (.int 1))), (.sub (.var 3) (.cst (.int 0))), (.sub (.var 4) (.cst (.int 1)))] []))] []),
  (.ifs (.and (.cmp .eq (.bin .add (.var 2) (.cst (.int 1))) (.b1 .len (.var 0))) (.cmp .eq (.var 1) (.cst (.int 0)))) [(.ret (.call 3 [(.sub (.var 3) (.cst (.int 0))), (.sub (.var 3) (.cst (.int 1))), (.sub (.var 4) (.cst (.int 0)))] []))] []),
  (.ret (.call 4 [(.var 3), (.var 4)] []))]
theorem sc_sides_cross : FnScope nm_sides_cross ["corners", "i", "j"] (defScope s_sides_cross) := ⟨rfl, rfl, rfl, nd_sides_cross, rfl, by decide +kernel, by decide +kernel⟩
abbrev s_side_ends : Stmt := top 3
def nm_side_ends : List Str := ["corners", "k"]
theorem nd_side_ends : (nm_side_ends).Nodup := by decide +kernel
def b_side_ends : List S := [(.ret (.tup [(.sub (.var 0) (.var 1)), (.sub (.var 0) (.bin .mod (.bin .add (.var 1) (.cst (.int 1))) (.b1 .len (.var 0))))]))]
theorem sc_side_ends : FnScope nm_side_ends ["corners", "k"] (defScope s_side_ends) := ⟨rfl, rfl, rfl, nd_side_ends, rfl, by decide +kernel, by decide +kernel⟩
abbrev s_run_together : Stmt := top 4
def nm_run_together : List Str := ["corner", "one", "two"]
theorem nd_run_together : (nm_run_together).Nodup := by decide +kernel
def b_run_together : List S := [(.ret (.and (.cmp .eq (.call 7 [(.var 0), (.var 1), (.var 2)] []) (.cst (.int 0))) (.cmp .gt (.call 8 [(.var 0), (.var 1), (.var 2)] []) (.cst (.int 0)))))]
theorem sc_run_together : FnScope nm_run_together ["corner", "one", "two"] (defScope s_run_together) := ⟨rfl, rfl, rfl, nd_run_together, rfl, by decide +kernel, by decide +kernel⟩
abbrev s_have_common_point : Stmt := top 5
def nm_have_common_point : List Str := ["one", "two"]
theorem nd_have_common_point : (nm_have_common_point).Nodup := by decide +kernel
def b_have_common_point : List S := [(.ifs (.or (.not (.call 5 [(.var 0), (.var 1), (.cst (.int 0))] [])) (.not (.call 5 [(.var 0), (.var 1), (.cst (.int 1))] []))) [(.ret (.cst (.bl false)))] []),
  (.ret (.and (.call 6 [(.var 0), (.var 1)] []) (.call 6 [(.var 1), (.var 0)] [])))]
theorem sc_have_common_point : FnScope nm_have_common_point ["one", "two"] (defScope s_have_common_point) := ⟨rfl, rfl, rfl, nd_have_common_point, rfl, by decide +kernel, by decide +kernel⟩
abbrev s_spans_meet : Stmt := top 6
def nm_spans_meet : List Str := ["one", "two", "axis", "one_span", "two_span"]
theorem nd_spans_meet : (nm_spans_meet).Nodup := by decide +kernel
def b_spans_meet : List S := [(.asg 3 (.b1 .sorted (.lst [(.sub (.sub (.var 0) (.cst (.int 0))) (.var 2)), (.sub (.sub (.var 0) (.cst (.int 1))) (.var 2))]))),
  (.asg 4 (.b1 .sorted (.lst [(.sub (.sub (.var 1) (.cst (.int 0))) (.var 2)), (.sub (.sub (.var 1) (.cst (.int 1))) (.var 2))]))),
  (.ret (.and (.cmp .le (.sub (.var 3) (.cst (.int 0))) (.sub (.var 4) (.cst (.int 1)))) (.cmp .le (.sub (.var 4) (.cst (.int 0))) (.sub (.var 3) (.cst (.int 1))))))]
theorem sc_spans_meet : FnScope nm_spans_meet ["one", "two", "axis"] (defScope s_spans_meet) := ⟨rfl, rfl, rfl, nd_spans_meet, rfl, by decide +kernel, by decide +kernel⟩
abbrev s_reaches_across : Stmt := top 7
def nm_reaches_across : List Str := ["side", "line"]
theorem nd_reaches_across : (nm_reaches_across).Nodup := by decide +kernel
def b_reaches_across : List S := [(.ret (.cmp .le (.bin .mul (.call 7 [(.sub (.var 1) (.cst (.int 0))), (.sub (.var 1) (.cst (.int 1))), (.sub (.var 0) (.cst (.int 0)))] []) (.call 7 [(.sub (.var 1) (.cst (.int 0))), (.sub (.var 1) (.cst (.int 1))), (.sub (.var 0) (.cst (.int 1)))] [])) (.cst (.int 0))))]
theorem sc_reaches_across : FnScope nm_reaches_across ["side", "line"] (defScope s_reaches_across) := ⟨rfl, rfl, rfl, nd_reaches_across, rfl, by decide +kernel, by decide +kernel⟩
abbrev s_turn : Stmt := top 8
def nm_turn : List Str := ["start", "one", "two"]
theorem nd_turn : (nm_turn).Nodup := by decide +kernel
def b_turn : List S := [(.ret (.bin .sub (.bin .mul (.bin .sub (.sub (.var 1) (.cst (.int 0))) (.sub (.var 0) (.cst (.int 0)))) (.bin .sub (.sub (.var 2) (.cst (.int 1))) (.sub (.var 0) (.cst (.int 1))))) (.bin .mul (.bin .sub (.sub (.var 1) (.cst (.int 1))) (.sub (.var 0) (.cst (.int 1)))) (.bin .sub (.sub (.var 2) (.cst (.int 0))) (.sub (.var 0) (.cst (.int 0)))))))]
theorem sc_turn : FnScope nm_turn ["start", "one", "two"] (defScope s_turn) := ⟨rfl, rfl, rfl, nd_turn, rfl, by decide +kernel, by decide +kernel⟩
abbrev s_along : Stmt := top 9
def nm_along : List Str := ["start", "one", "two"]
theorem nd_along : (nm_along).Nodup := by decide +kernel
def b_along : List S := [(.ret (.bin .add (.bin .mul (.bin .sub (.sub (.var 1) (.cst (.int 0))) (.sub (.var 0) (.cst (.int 0)))) (.bin .sub (.sub (.var 2) (.cst (.int 0))) (.sub (.var 0) (.cst (.int 0))))) (.bin .mul (.bin .sub (.sub (.var 1) (.cst (.int 1))) (.sub (.var 0) (.cst (.int 1)))) (.bin .sub (.sub (.var 2) (.cst (.int 1))) (.sub (.var 0) (.cst (.int 1)))))))]
theorem sc_along : FnScope nm_along ["start", "one", "two"] (defScope s_along) := ⟨rfl, rfl, rfl, nd_along, rfl, by decide +kernel, by decide +kernel⟩
abbrev s__law_whole : Stmt := top 11
def nm__law_whole : List Str := ["_law_found"]
theorem nd__law_whole : (nm__law_whole).Nodup := by decide +kernel
def b__law_whole : List S := [(.ret (.and (.isi (.var 0) .int) (.not (.isi (.var 0) .bool))))]
theorem sc__law_whole : FnScope nm__law_whole ["_law_found"] (defScope s__law_whole) := ⟨rfl, rfl, rfl, nd__law_whole, rfl, by decide +kernel, by decide +kernel⟩
abbrev s__law_at : Stmt := top 12
def nm__law_at : List Str := ["_law_script", "_law_k"]
theorem nd__law_at : (nm__law_at).Nodup := by decide +kernel
def b__law_at : List S := [(.ifs (.cmp .lt (.var 1) (.b1 .len (.var 0))) [(.ret (.sub (.var 0) (.var 1)))] []),
  (.ret (.cst (.int 0)))]
theorem sc__law_at : FnScope nm__law_at ["_law_script", "_law_k"] (defScope s__law_at) := ⟨rfl, rfl, rfl, nd__law_at, rfl, by decide +kernel, by decide +kernel⟩
abbrev s__law_stir : Stmt := top 13
def nm__law_stir : List Str := ["_law_script", "_law_many", "_law_state", "_law_row", "_law_k"]
theorem nd__law_stir : (nm__law_stir).Nodup := by decide +kernel
def b__law_stir : List S := [(.asg 2 (.cst (.int 7))),
  (.mk 3 (.lst [])),
  (.for_ (.one 4) (.rng1 (.var 1)) [(.asg 2 (.bin .mod (.bin .add (.bin .add (.bin .mul (.var 2) (.cst (.int 48271))) (.call 10 [(.var 0), (.var 4)] [])) (.cst (.int 11))) (.cst (.int 2147483647)))),
  (.app 3 (.var 2))]),
  (.frz 3),
  (.ret (.var 3))]
theorem sc__law_stir : FnScope nm__law_stir ["_law_script", "_law_many"] (defScope s__law_stir) := ⟨rfl, rfl, rfl, nd__law_stir, rfl, by decide +kernel, by decide +kernel⟩
abbrev s__law_gcd : Stmt := top 14
def nm__law_gcd : List Str := ["_law_one", "_law_two", "_law_big", "_law_less", "_law_rest"]
theorem nd__law_gcd : (nm__law_gcd).Nodup := by decide +kernel
def b__law_gcd : List S := [(.asg 2 (.b1 .abs (.var 0))),
  (.asg 3 (.b1 .abs (.var 1))),
  (.whl (.cmp .gt (.var 3) (.cst (.int 0))) [(.asg 4 (.bin .mod (.var 2) (.var 3))),
  (.asg 2 (.var 3)),
  (.asg 3 (.var 4))]),
  (.ret (.var 2))]
theorem sc__law_gcd : FnScope nm__law_gcd ["_law_one", "_law_two"] (defScope s__law_gcd) := ⟨rfl, rfl, rfl, nd__law_gcd, rfl, by decide +kernel, by decide +kernel⟩
abbrev s__law_numbers : Stmt := top 15
def nm__law_numbers : List Str := ["_law_found", "_law_due", "_law_k"]
theorem nd__law_numbers : (nm__law_numbers).Nodup := by decide +kernel
def b__law_numbers : List S := [(.ifs (.or (.not (.isi (.var 0) .tuple)) (.cmp .ne (.b1 .len (.var 0)) (.b1 .len (.var 1)))) [(.ret (.cst (.bl false)))] []),
  (.for_ (.one 2) (.rng1 (.b1 .len (.var 1))) [(.ifs (.or (.not (.call 9 [(.sub (.var 0) (.var 2))] [])) (.cmp .ne (.sub (.var 0) (.var 2)) (.sub (.var 1) (.var 2)))) [(.ret (.cst (.bl false)))] [])]),
  (.ret (.cst (.bl true)))]
theorem sc__law_numbers : FnScope nm__law_numbers ["_law_found", "_law_due"] (defScope s__law_numbers) := ⟨rfl, rfl, rfl, nd__law_numbers, rfl, by decide +kernel, by decide +kernel⟩
abbrev s__law_rows : Stmt := top 16
def nm__law_rows : List Str := ["_law_found", "_law_due", "_law_k"]
theorem nd__law_rows : (nm__law_rows).Nodup := by decide +kernel
def b__law_rows : List S := [(.ifs (.or (.not (.isi (.var 0) .list)) (.cmp .ne (.b1 .len (.var 0)) (.b1 .len (.var 1)))) [(.ret (.cst (.bl false)))] []),
  (.for_ (.one 2) (.rng1 (.b1 .len (.var 1))) [(.ifs (.not (.call 13 [(.sub (.var 0) (.var 2)), (.sub (.var 1) (.var 2))] [])) [(.ret (.cst (.bl false)))] [])]),
  (.ret (.cst (.bl true)))]
theorem sc__law_rows : FnScope nm__law_rows ["_law_found", "_law_due"] (defScope s__law_rows) := ⟨rfl, rfl, rfl, nd__law_rows, rfl, by decide +kernel, by decide +kernel⟩
abbrev s__law_strides : Stmt := top 17
def nm__law_strides : List Str := ["_law_row", "_law_at_here", "_law_many", "_law_far", "_law_k"]
theorem nd__law_strides : (nm__law_strides).Nodup := by decide +kernel
def b__law_strides : List S := [(.mk 3 (.lst [(.cst (.int 0))])),
  (.for_ (.one 4) (.rng1 (.bin .sub (.var 2) (.cst (.int 1)))) [(.app 3 (.bin .add (.bin .add (.sub (.var 3) (.neg (.cst (.int 1)))) (.cst (.int 1))) (.bin .mod (.sub (.var 0) (.bin .add (.var 1) (.var 4))) (.cst (.int 4)))))]),
  (.frz 3),
  (.ret (.var 3))]
theorem sc__law_strides : FnScope nm__law_strides ["_law_row", "_law_at_here", "_law_many"] (defScope s__law_strides) := ⟨rfl, rfl, rfl, nd__law_strides, rfl, by decide +kernel, by decide +kernel⟩
abbrev s__law_simple : Stmt := top 18
def nm__law_simple : List Str := ["_law_row", "_law_many", "_law_low", "_law_high", "_law_tall", "_law_bottom", "_law_top", "_law_line", "_law_k"]
theorem nd__law_simple : (nm__law_simple).Nodup := by decide +kernel
def b__law_simple : List S := [(.asg 2 (.cst (.int 2))),
  (.ifs (.cmp .gt (.var 1) (.cst (.int 3))) [(.asg 2 (.bin .add (.cst (.int 2)) (.bin .mod (.sub (.var 0) (.cst (.int 0))) (.bin .sub (.var 1) (.cst (.int 3))))))] []),
  (.asg 3 (.bin .sub (.var 1) (.var 2))),
  (.asg 4 (.sub (.lst [(.cst (.int 1)), (.cst (.int 3)), (.cst (.int 50)), (.cst (.int 900))]) (.bin .mod (.sub (.var 0) (.cst (.int 1))) (.cst (.int 4))))),
  (.asg 5 (.call 15 [(.var 0), (.cst (.int 2)), (.var 2)] [])),
  (.asg 6 (.call 15 [(.var 0), (.bin .add (.cst (.int 2)) (.var 2)), (.var 3)] [])),
  (.mk 7 (.lst [])),
  (.for_ (.one 8) (.rng1 (.var 2)) [(.app 7 (.tup [(.bin .mul (.sub (.var 5) (.var 8)) (.mx2 (.cst (.int 1)) (.sub (.var 6) (.neg (.cst (.int 1)))))), (.bin .sub (.neg (.cst (.int 1))) (.bin .mod (.sub (.var 0) (.bin .add (.cst (.int 26)) (.var 8))) (.var 4)))]))]),
  (.for_ (.one 8) (.rng1 (.var 3)) [(.app 7 (.tup [(.bin .mul (.sub (.var 6) (.bin .sub (.bin .sub (.var 3) (.cst (.int 1))) (.var 8))) (.sub (.var 5) (.neg (.cst (.int 1))))), (.bin .add (.cst (.int 1)) (.bin .mod (.sub (.var 0) (.bin .add (.bin .add (.cst (.int 26)) (.var 2)) (.var 8))) (.var 4)))]))]),
  (.frz 7),
  (.ret (.var 7))]
theorem sc__law_simple : FnScope nm__law_simple ["_law_row", "_law_many"] (defScope s__law_simple) := ⟨rfl, rfl, rfl, nd__law_simple, rfl, by decide +kernel, by decide +kernel⟩
abbrev s__law_swung : Stmt := top 19
def nm__law_swung : List Str := ["_law_line", "_law_cell", "_law_lean", "_law_told", "_law_by", "?5", "?6", "?7", "?8"]
theorem nd__law_swung : (nm__law_swung).Nodup := by decide +kernel
def nm__law_swung_c0 : List Str := ["_law_line", "_law_cell", "_law_lean", "_law_told", "_law_by", "_law_x", "_law_y", "!7", "!8"]
theorem nd__law_swung_c0 : (nm__law_swung_c0).Nodup := by decide +kernel
def nm__law_swung_c1 : List Str := ["_law_line", "_law_cell", "_law_lean", "_law_told", "_law_by", "!5", "!6", "_law_x", "_law_y"]
theorem nd__law_swung_c1 : (nm__law_swung_c1).Nodup := by decide +kernel
def b__law_swung : List S := [(.asg 2 (.bin .sub (.bin .mod (.var 1) (.cst (.int 5))) (.cst (.int 2)))),
  (.asg 3 (.comp (.tup [(.bin .add (.var 5) (.bin .mul (.var 2) (.var 6))), (.var 6)]) (.many [5, 6]) (.var 0))),
  (.ifs (.cmp .eq (.bin .mod (.bin .fdiv (.var 1) (.cst (.int 5))) (.cst (.int 2))) (.cst (.int 1))) [(.asg 3 (.comp (.tup [(.bin .sub (.cst (.int 0)) (.var 8)), (.var 7)]) (.many [7, 8]) (.var 3)))] []),
  (.ifs (.cmp .eq (.bin .mod (.bin .fdiv (.var 1) (.cst (.int 10))) (.cst (.int 2))) (.cst (.int 1))) [(.asg 3 (.rev (.var 3)))] []),
  (.asg 4 (.bin .mod (.bin .fdiv (.var 1) (.cst (.int 20))) (.b1 .len (.var 3)))),
  (.retO (.bin .add (.cutL (.var 3) (.var 4)) (.cutU (.var 3) (.var 4))))]
theorem sc__law_swung : FnScope nm__law_swung ["_law_line", "_law_cell"] (defScope s__law_swung) := ⟨rfl, rfl, rfl, nd__law_swung, rfl, by decide +kernel, by decide +kernel⟩
abbrev s__law_parted : Stmt := top 20
def nm__law_parted : List Str := ["_law_a", "_law_b", "_law_c", "_law_d", "_law_ways", "_law_one", "_law_two", "_law_x", "_law_y", "_law_near", "_law_far"]
theorem nd__law_parted : (nm__law_parted).Nodup := by decide +kernel
def b__law_parted : List S := [(.mk 4 (.lst [(.tup [(.cst (.int 1)), (.cst (.int 0))]), (.tup [(.cst (.int 0)), (.cst (.int 1))])])),
  (.for_ (.many [5, 6]) (.lst [(.tup [(.var 0), (.var 1)]), (.tup [(.var 2), (.var 3)])]) [(.app 4 (.tup [(.bin .sub (.sub (.var 6) (.cst (.int 0))) (.sub (.var 5) (.cst (.int 0)))), (.bin .sub (.sub (.var 6) (.cst (.int 1))) (.sub (.var 5) (.cst (.int 1))))])),
  (.app 4 (.tup [(.bin .sub (.sub (.var 5) (.cst (.int 1))) (.sub (.var 6) (.cst (.int 1)))), (.bin .sub (.sub (.var 6) (.cst (.int 0))) (.sub (.var 5) (.cst (.int 0))))]))]),
  (.for_ (.many [7, 8]) (.var 4) [(.asg 9 (.lst [(.bin .add (.bin .mul (.sub (.var 0) (.cst (.int 0))) (.var 7)) (.bin .mul (.sub (.var 0) (.cst (.int 1))) (.var 8))), (.bin .add (.bin .mul (.sub (.var 1) (.cst (.int 0))) (.var 7)) (.bin .mul (.sub (.var 1) (.cst (.int 1))) (.var 8)))])),
  (.asg 10 (.lst [(.bin .add (.bin .mul (.sub (.var 2) (.cst (.int 0))) (.var 7)) (.bin .mul (.sub (.var 2) (.cst (.int 1))) (.var 8))), (.bin .add (.bin .mul (.sub (.var 3) (.cst (.int 0))) (.var 7)) (.bin .mul (.sub (.var 3) (.cst (.int 1))) (.var 8)))])),
  (.ifs (.or (.cmp .lt (.b1 .max (.var 9)) (.b1 .min (.var 10))) (.cmp .lt (.b1 .max (.var 10)) (.b1 .min (.var 9)))) [(.ret (.cst (.bl true)))] [])]),
  (.ret (.cst (.bl false)))]
theorem sc__law_parted : FnScope nm__law_parted ["_law_a", "_law_b", "_law_c", "_law_d"] (defScope s__law_parted) := ⟨rfl, rfl, rfl, nd__law_parted, rfl, by decide +kernel, by decide +kernel⟩
abbrev s__law_way : Stmt := top 21
def nm__law_way : List Str := ["_law_one", "_law_two", "_law_x", "_law_y", "_law_by"]
theorem nd__law_way : (nm__law_way).Nodup := by decide +kernel
def b__law_way : List S := [(.asg 2 (.bin .sub (.sub (.var 1) (.cst (.int 0))) (.sub (.var 0) (.cst (.int 0))))),
  (.asg 3 (.bin .sub (.sub (.var 1) (.cst (.int 1))) (.sub (.var 0) (.cst (.int 1))))),
  (.asg 4 (.mx2 (.cst (.int 1)) (.call 12 [(.var 2), (.var 3)] []))),
  (.ret (.tup [(.bin .fdiv (.var 2) (.var 4)), (.bin .fdiv (.var 3) (.var 4))]))]
theorem sc__law_way : FnScope nm__law_way ["_law_one", "_law_two"] (defScope s__law_way) := ⟨rfl, rfl, rfl, nd__law_way, rfl, by decide +kernel, by decide +kernel⟩
abbrev s__law_crossed : Stmt := top 22
def nm__law_crossed : List Str := ["_law_line", "_law_i", "_law_j", "_law_many", "_law_a", "_law_b", "_law_c", "_law_d"]
theorem nd__law_crossed : (nm__law_crossed).Nodup := by decide +kernel
def b__law_crossed : List S := [(.asg 3 (.b1 .len (.var 0))),
  (.asg 4 (.sub (.var 0) (.var 1))),
  (.asg 5 (.sub (.var 0) (.bin .mod (.bin .add (.var 1) (.cst (.int 1))) (.var 3)))),
  (.asg 6 (.sub (.var 0) (.var 2))),
  (.asg 7 (.sub (.var 0) (.bin .mod (.bin .add (.var 2) (.cst (.int 1))) (.var 3)))),
  (.ifs (.cmp .eq (.var 1) (.var 2)) [(.ret (.cmp .eq (.var 4) (.var 5)))] []),
  (.ifs (.cmp .eq (.var 2) (.bin .add (.var 1) (.cst (.int 1)))) [(.ret (.and (.cmp .ne (.var 4) (.var 5)) (.cmp .eq (.call 19 [(.var 5), (.var 4)] []) (.call 19 [(.var 5), (.var 7)] []))))] []),
  (.ifs (.and (.cmp .eq (.var 1) (.cst (.int 0))) (.cmp .eq (.var 2) (.bin .sub (.var 3) (.cst (.int 1))))) [(.ret (.and (.cmp .ne (.var 4) (.var 5)) (.cmp .eq (.call 19 [(.var 4), (.var 5)] []) (.call 19 [(.var 4), (.var 6)] []))))] []),
  (.ret (.not (.call 18 [(.var 4), (.var 5), (.var 6), (.var 7)] [])))]
theorem sc__law_crossed : FnScope nm__law_crossed ["_law_line", "_law_i", "_law_j"] (defScope s__law_crossed) := ⟨rfl, rfl, rfl, nd__law_crossed, rfl, by decide +kernel, by decide +kernel⟩
abbrev s__law_first : Stmt := top 23
def nm__law_first : List Str := ["_law_line", "_law_i", "_law_j"]
theorem nd__law_first : (nm__law_first).Nodup := by decide +kernel
def b__law_first : List S := [(.for_ (.one 1) (.rng1 (.b1 .len (.var 0))) [(.for_ (.one 2) (.rng2 (.var 1) (.b1 .len (.var 0))) [(.ifs (.call 20 [(.var 0), (.var 1), (.var 2)] []) [(.ret (.tup [(.var 1), (.var 2)]))] [])])]),
  (.ret (.cst .non))]
theorem sc__law_first : FnScope nm__law_first ["_law_line"] (defScope s__law_first) := ⟨rfl, rfl, rfl, nd__law_first, rfl, by decide +kernel, by decide +kernel⟩
abbrev s__law_drawn_line : Stmt := top 24
def nm__law_drawn_line : List Str := ["_law_row", "_law_many", "_law_most", "_law_less", "?4"]
theorem nd__law_drawn_line : (nm__law_drawn_line).Nodup := by decide +kernel
def nm__law_drawn_line_c0 : List Str := ["_law_row", "_law_many", "_law_most", "_law_less", "_law_k"]
theorem nd__law_drawn_line_c0 : (nm__law_drawn_line_c0).Nodup := by decide +kernel
def b__law_drawn_line : List S := [(.asg 2 (.sub (.lst [(.cst (.int 3)), (.cst (.int 5)), (.cst (.int 41)), (.cst (.int 60001))]) (.bin .mod (.sub (.var 0) (.cst (.int 1))) (.cst (.int 4))))),
  (.asg 3 (.sub (.lst [(.cst (.int 0)), (.cst (.int 0)), (.cst (.int 0)), (.cst (.int 30000))]) (.bin .mod (.sub (.var 0) (.cst (.int 1))) (.cst (.int 4))))),
  (.ret (.comp (.tup [(.bin .sub (.bin .mod (.sub (.var 0) (.bin .add (.cst (.int 2)) (.bin .mul (.cst (.int 2)) (.var 4)))) (.var 2)) (.var 3)), (.bin .sub (.bin .mod (.sub (.var 0) (.bin .add (.cst (.int 3)) (.bin .mul (.cst (.int 2)) (.var 4)))) (.var 2)) (.var 3))]) (.one 4) (.rng1 (.var 1))))]
theorem sc__law_drawn_line : FnScope nm__law_drawn_line ["_law_row", "_law_many"] (defScope s__law_drawn_line) := ⟨rfl, rfl, rfl, nd__law_drawn_line, rfl, by decide +kernel, by decide +kernel⟩
abbrev s__law_spoiled : Stmt := top 25
def nm__law_spoiled : List Str := ["_law_row", "_law_many", "_law_line", "_law_at_here", "_law_one", "_law_two", "_law_kind"]
theorem nd__law_spoiled : (nm__law_spoiled).Nodup := by decide +kernel
def b__law_spoiled : List S := [(.mk 2 (.call 17 [(.call 16 [(.var 0), (.var 1)] []), (.sub (.var 0) (.cst (.int 52)))] [])),
  (.asg 3 (.bin .mod (.sub (.var 0) (.cst (.int 53))) (.var 1))),
  (.asg 4 (.sub (.var 2) (.bin .mod (.sub (.var 0) (.cst (.int 54))) (.var 1)))),
  (.asg 5 (.sub (.var 2) (.bin .mod (.sub (.var 0) (.cst (.int 55))) (.var 1)))),
  (.asg 6 (.bin .mod (.sub (.var 0) (.cst (.int 56))) (.cst (.int 4)))),
  (.ifs (.cmp .eq (.var 6) (.cst (.int 1))) [(.put 2 (.var 3) (.var 4))] []),
  (.ifs (.cmp .eq (.var 6) (.cst (.int 2))) [(.put 2 (.var 3) (.tup [(.bin .fdiv (.bin .add (.sub (.var 4) (.cst (.int 0))) (.sub (.var 5) (.cst (.int 0)))) (.cst (.int 2))), (.bin .fdiv (.bin .add (.sub (.var 4) (.cst (.int 1))) (.sub (.var 5) (.cst (.int 1)))) (.cst (.int 2)))]))] []),
  (.ifs (.cmp .eq (.var 6) (.cst (.int 3))) [(.put 2 (.var 3) (.tup [(.bin .sub (.bin .add (.sub (.var 4) (.cst (.int 0))) (.bin .mod (.sub (.var 0) (.cst (.int 57))) (.cst (.int 5)))) (.cst (.int 2))), (.bin .sub (.bin .add (.sub (.var 5) (.cst (.int 1))) (.bin .mod (.sub (.var 0) (.cst (.int 58))) (.cst (.int 5)))) (.cst (.int 2)))]))] []),
  (.frz 2),
  (.ret (.var 2))]
theorem sc__law_spoiled : FnScope nm__law_spoiled ["_law_row", "_law_many"] (defScope s__law_spoiled) := ⟨rfl, rfl, rfl, nd__law_spoiled, rfl, by decide +kernel, by decide +kernel⟩
abbrev s_law : Stmt := top 26
def nm_law : List Str := ["_law_script", "_law_row", "_law_many", "_law_line", "_law_handed", "_law_found", "_law_due"]
theorem nd_law : (nm_law).Nodup := by decide +kernel
def b_law : List S := [(.asg 1 (.call 11 [(.var 0), (.cst (.int 60))] [])),
  (.asg 2 (.bin .add (.cst (.int 3)) (.bin .mod (.sub (.var 1) (.cst (.int 59))) (.cst (.int 22))))),
  (.ifs (.cmp .eq (.bin .mod (.bin .fdiv (.sub (.var 1) (.cst (.int 59))) (.cst (.int 22))) (.cst (.int 3))) (.cst (.int 0))) [(.asg 2 (.bin .add (.cst (.int 3)) (.bin .mod (.sub (.var 1) (.cst (.int 59))) (.cst (.int 3)))))] []),
  (.ifs (.cmp .eq (.bin .mod (.bin .fdiv (.sub (.var 1) (.cst (.int 58))) (.cst (.int 7))) (.cst (.int 2))) (.cst (.int 0))) [(.asg 3 (.call 22 [(.var 1), (.var 2)] []))] [(.asg 3 (.call 23 [(.var 1), (.var 2)] []))]),
  (.asg 4 (.b1 .list (.var 3))),
  (.asg 5 (.call 0 [(.var 4)] [])),
  (.ifs (.not (.call 14 [(.var 4), (.var 3)] [])) [(.ret (.cst (.bl false)))] []),
  (.asg 6 (.call 21 [(.var 3)] [])),
  (.ifs (.cmp .isN (.var 6) (.cst .non)) [(.ret (.cmp .isN (.var 5) (.cst .non)))] []),
  (.ret (.call 13 [(.var 5), (.var 6)] []))]
theorem sc_law : FnScope nm_law ["_law_script"] (defScope s_law) := ⟨rfl, rfl, rfl, nd_law, rfl, by decide +kernel, by decide +kernel⟩
def fns : List Fn := [⟨1, 3, false, b_crossing⟩,
  ⟨3, 5, false, b_sides_cross⟩,
  ⟨2, 2, false, b_side_ends⟩,
  ⟨3, 3, false, b_run_together⟩,
  ⟨2, 2, false, b_have_common_point⟩,
  ⟨3, 5, false, b_spans_meet⟩,
  ⟨2, 2, false, b_reaches_across⟩,
  ⟨3, 3, false, b_turn⟩,
  ⟨3, 3, false, b_along⟩,
  ⟨1, 1, false, b__law_whole⟩,
  ⟨2, 2, false, b__law_at⟩,
  ⟨2, 5, false, b__law_stir⟩,
  ⟨2, 5, false, b__law_gcd⟩,
  ⟨2, 3, false, b__law_numbers⟩,
  ⟨2, 3, false, b__law_rows⟩,
  ⟨3, 5, false, b__law_strides⟩,
  ⟨2, 9, false, b__law_simple⟩,
  ⟨2, 9, true, b__law_swung⟩,
  ⟨4, 11, false, b__law_parted⟩,
  ⟨2, 5, false, b__law_way⟩,
  ⟨3, 8, false, b__law_crossed⟩,
  ⟨1, 3, false, b__law_first⟩,
  ⟨2, 5, false, b__law_drawn_line⟩,
  ⟨2, 7, false, b__law_spoiled⟩,
  ⟨1, 7, false, b_law⟩]
def sub0 : Nat → Nat → Bool := fun _ _ => false
structure Txt (K : PySem.W.Frag) (mg : Str → Option Value) where
  f_crossing : Addr
  d_crossing : FuncData
  t_crossing : Fun K "crossing" "crossing" s_crossing f_crossing d_crossing
  bd_crossing : Binds K d_crossing ["corners"] []
  m_crossing : mg "crossing" = some (.ref f_crossing)
  k_crossing : PySem.W.keepIn K (.ref f_crossing) = true
  f_sides_cross : Addr
  d_sides_cross : FuncData
  t_sides_cross : Fun K "sides_cross" "sides_cross" s_sides_cross f_sides_cross d_sides_cross
  bd_sides_cross : Binds K d_sides_cross ["corners", "i", "j"] []
  m_sides_cross : mg "sides_cross" = some (.ref f_sides_cross)
  k_sides_cross : PySem.W.keepIn K (.ref f_sides_cross) = true
  f_side_ends : Addr
  d_side_ends : FuncData
  t_side_ends : Fun K "side_ends" "side_ends" s_side_ends f_side_ends d_side_ends
  bd_side_ends : Binds K d_side_ends ["corners", "k"] []
  m_side_ends : mg "side_ends" = some (.ref f_side_ends)
  k_side_ends : PySem.W.keepIn K (.ref f_side_ends) = true
  f_run_together : Addr
  d_run_together : FuncData
  t_run_together : Fun K "run_together" "run_together" s_run_together f_run_together d_run_together
  bd_run_together : Binds K d_run_together ["corner", "one", "two"] []
  m_run_together : mg "run_together" = some (.ref f_run_together)
  k_run_together : PySem.W.keepIn K (.ref f_run_together) = true
  f_have_common_point : Addr
  d_have_common_point : FuncData
  t_have_common_point : Fun K "have_common_point" "have_common_point" s_have_common_point f_have_common_point d_have_common_point
  bd_have_common_point : Binds K d_have_common_point ["one", "two"] []
  m_have_common_point : mg "have_common_point" = some (.ref f_have_common_point)
  k_have_common_point : PySem.W.keepIn K (.ref f_have_common_point) = true
  f_spans_meet : Addr
  d_spans_meet : FuncData
  t_spans_meet : Fun K "spans_meet" "spans_meet" s_spans_meet f_spans_meet d_spans_meet
  bd_spans_meet : Binds K d_spans_meet ["one", "two", "axis"] []
  m_spans_meet : mg "spans_meet" = some (.ref f_spans_meet)
  k_spans_meet : PySem.W.keepIn K (.ref f_spans_meet) = true
  f_reaches_across : Addr
  d_reaches_across : FuncData
  t_reaches_across : Fun K "reaches_across" "reaches_across" s_reaches_across f_reaches_across d_reaches_across
  bd_reaches_across : Binds K d_reaches_across ["side", "line"] []
  m_reaches_across : mg "reaches_across" = some (.ref f_reaches_across)
  k_reaches_across : PySem.W.keepIn K (.ref f_reaches_across) = true
  f_turn : Addr
  d_turn : FuncData
  t_turn : Fun K "turn" "turn" s_turn f_turn d_turn
  bd_turn : Binds K d_turn ["start", "one", "two"] []
  m_turn : mg "turn" = some (.ref f_turn)
  k_turn : PySem.W.keepIn K (.ref f_turn) = true
  f_along : Addr
  d_along : FuncData
  t_along : Fun K "along" "along" s_along f_along d_along
  bd_along : Binds K d_along ["start", "one", "two"] []
  m_along : mg "along" = some (.ref f_along)
  k_along : PySem.W.keepIn K (.ref f_along) = true
  f__law_whole : Addr
  d__law_whole : FuncData
  t__law_whole : Fun K "_law_whole" "_law_whole" s__law_whole f__law_whole d__law_whole
  bd__law_whole : Binds K d__law_whole ["_law_found"] []
  m__law_whole : mg "_law_whole" = some (.ref f__law_whole)
  k__law_whole : PySem.W.keepIn K (.ref f__law_whole) = true
  f__law_at : Addr
  d__law_at : FuncData
  t__law_at : Fun K "_law_at" "_law_at" s__law_at f__law_at d__law_at
  bd__law_at : Binds K d__law_at ["_law_script", "_law_k"] []
  m__law_at : mg "_law_at" = some (.ref f__law_at)
  k__law_at : PySem.W.keepIn K (.ref f__law_at) = true
  f__law_stir : Addr
  d__law_stir : FuncData
  t__law_stir : Fun K "_law_stir" "_law_stir" s__law_stir f__law_stir d__law_stir
  bd__law_stir : Binds K d__law_stir ["_law_script", "_law_many"] []
  m__law_stir : mg "_law_stir" = some (.ref f__law_stir)
  k__law_stir : PySem.W.keepIn K (.ref f__law_stir) = true
  f__law_gcd : Addr
  d__law_gcd : FuncData
  t__law_gcd : Fun K "_law_gcd" "_law_gcd" s__law_gcd f__law_gcd d__law_gcd
  bd__law_gcd : Binds K d__law_gcd ["_law_one", "_law_two"] []
  m__law_gcd : mg "_law_gcd" = some (.ref f__law_gcd)
  k__law_gcd : PySem.W.keepIn K (.ref f__law_gcd) = true
  f__law_numbers : Addr
  d__law_numbers : FuncData
  t__law_numbers : Fun K "_law_numbers" "_law_numbers" s__law_numbers f__law_numbers d__law_numbers
  bd__law_numbers : Binds K d__law_numbers ["_law_found", "_law_due"] []
  m__law_numbers : mg "_law_numbers" = some (.ref f__law_numbers)
  k__law_numbers : PySem.W.keepIn K (.ref f__law_numbers) = true
  f__law_rows : Addr
  d__law_rows : FuncData
  t__law_rows : Fun K "_law_rows" "_law_rows" s__law_rows f__law_rows d__law_rows
  bd__law_rows : Binds K d__law_rows ["_law_found", "_law_due"] []
  m__law_rows : mg "_law_rows" = some (.ref f__law_rows)
  k__law_rows : PySem.W.keepIn K (.ref f__law_rows) = true
  f__law_strides : Addr
  d__law_strides : FuncData
  t__law_strides : Fun K "_law_strides" "_law_strides" s__law_strides f__law_strides d__law_strides
  bd__law_strides : Binds K d__law_strides ["_law_row", "_law_at_here", "_law_many"] []
  m__law_strides : mg "_law_strides" = some (.ref f__law_strides)
  k__law_strides : PySem.W.keepIn K (.ref f__law_strides) = true
  f__law_simple : Addr
  d__law_simple : FuncData
  t__law_simple : Fun K "_law_simple" "_law_simple" s__law_simple f__law_simple d__law_simple
  bd__law_simple : Binds K d__law_simple ["_law_row", "_law_many"] []
  m__law_simple : mg "_law_simple" = some (.ref f__law_simple)
  k__law_simple : PySem.W.keepIn K (.ref f__law_simple) = true
  f__law_swung : Addr
  d__law_swung : FuncData
  t__law_swung : Fun K "_law_swung" "_law_swung" s__law_swung f__law_swung d__law_swung
  bd__law_swung : Binds K d__law_swung ["_law_line", "_law_cell"] []
  m__law_swung : mg "_law_swung" = some (.ref f__law_swung)
  k__law_swung : PySem.W.keepIn K (.ref f__law_swung) = true
  f__law_parted : Addr
  d__law_parted : FuncData
  t__law_parted : Fun K "_law_parted" "_law_parted" s__law_parted f__law_parted d__law_parted
  bd__law_parted : Binds K d__law_parted ["_law_a", "_law_b", "_law_c", "_law_d"] []
  m__law_parted : mg "_law_parted" = some (.ref f__law_parted)
  k__law_parted : PySem.W.keepIn K (.ref f__law_parted) = true
  f__law_way : Addr
  d__law_way : FuncData
  t__law_way : Fun K "_law_way" "_law_way" s__law_way f__law_way d__law_way
  bd__law_way : Binds K d__law_way ["_law_one", "_law_two"] []
  m__law_way : mg "_law_way" = some (.ref f__law_way)
  k__law_way : PySem.W.keepIn K (.ref f__law_way) = true
  f__law_crossed : Addr
  d__law_crossed : FuncData
  t__law_crossed : Fun K "_law_crossed" "_law_crossed" s__law_crossed f__law_crossed d__law_crossed
  bd__law_crossed : Binds K d__law_crossed ["_law_line", "_law_i", "_law_j"] []
  m__law_crossed : mg "_law_crossed" = some (.ref f__law_crossed)
  k__law_crossed : PySem.W.keepIn K (.ref f__law_crossed) = true
  f__law_first : Addr
  d__law_first : FuncData
  t__law_first : Fun K "_law_first" "_law_first" s__law_first f__law_first d__law_first
  bd__law_first : Binds K d__law_first ["_law_line"] []
  m__law_first : mg "_law_first" = some (.ref f__law_first)
  k__law_first : PySem.W.keepIn K (.ref f__law_first) = true
  f__law_drawn_line : Addr
  d__law_drawn_line : FuncData
  t__law_drawn_line : Fun K "_law_drawn_line" "_law_drawn_line" s__law_drawn_line f__law_drawn_line d__law_drawn_line
  bd__law_drawn_line : Binds K d__law_drawn_line ["_law_row", "_law_many"] []
  m__law_drawn_line : mg "_law_drawn_line" = some (.ref f__law_drawn_line)
  k__law_drawn_line : PySem.W.keepIn K (.ref f__law_drawn_line) = true
  f__law_spoiled : Addr
  d__law_spoiled : FuncData
  t__law_spoiled : Fun K "_law_spoiled" "_law_spoiled" s__law_spoiled f__law_spoiled d__law_spoiled
  bd__law_spoiled : Binds K d__law_spoiled ["_law_row", "_law_many"] []
  m__law_spoiled : mg "_law_spoiled" = some (.ref f__law_spoiled)
  k__law_spoiled : PySem.W.keepIn K (.ref f__law_spoiled) = true
  f_law : Addr
  d_law : FuncData
  t_law : Fun K "law" "law" s_law f_law d_law
  bd_law : Binds K d_law ["_law_script"] []
  m_law : mg "law" = some (.ref f_law)
  k_law : PySem.W.keepIn K (.ref f_law) = true
  b_abs : mg "abs" = none
  b_bool : mg "bool" = none
  b_int : mg "int" = none
  b_isinstance : mg "isinstance" = none
  b_len : mg "len" = none
  b_list : mg "list" = none
  b_max : mg "max" = none
  b_min : mg "min" = none
  b_range : mg "range" = none
  b_sorted : mg "sorted" = none
  b_tuple : mg "tuple" = none
section
variable {G : Gx} {P : Program} {w : World} {K : PySem.W.Frag} {mg : Str → Option Value} {base : Heap} {k : Nat}
structure Ok (G : Gx) (P : Program) (w : World) {K : PySem.W.Frag} {mg : Str → Option Value} (base : Heap) (T : Txt K mg) (k : Nat) : Prop where
  o_crossing : FnOk P w K mg base CX0 k T.f_crossing T.d_crossing ["corners"] (spG G (cfK fns sub0 k).cf (cfK fns sub0 k).fr 0)
  o_sides_cross : FnOk P w K mg base CX0 k T.f_sides_cross T.d_sides_cross ["corners", "i", "j"] (spG G (cfK fns sub0 k).cf (cfK fns sub0 k).fr 1)
  o_side_ends : FnOk P w K mg base CX0 k T.f_side_ends T.d_side_ends ["corners", "k"] (spG G (cfK fns sub0 k).cf (cfK fns sub0 k).fr 2)
  o_run_together : FnOk P w K mg base CX0 k T.f_run_together T.d_run_together ["corner", "one", "two"] (spG G (cfK fns sub0 k).cf (cfK fns sub0 k).fr 3)
  o_have_common_point : FnOk P w K mg base CX0 k T.f_have_common_point T.d_have_common_point ["one", "two"] (spG G (cfK fns sub0 k).cf (cfK fns sub0 k).fr 4)
  o_spans_meet : FnOk P w K mg base CX0 k T.f_spans_meet T.d_spans_meet ["one", "two", "axis"] (spG G (cfK fns sub0 k).cf (cfK fns sub0 k).fr 5)
  o_reaches_across : FnOk P w K mg base CX0 k T.f_reaches_across T.d_reaches_across ["side", "line"] (spG G (cfK fns sub0 k).cf (cfK fns sub0 k).fr 6)
  o_turn : FnOk P w K mg base CX0 k T.f_turn T.d_turn ["start", "one", "two"] (spG G (cfK fns sub0 k).cf (cfK fns sub0 k).fr 7)
  o_along : FnOk P w K mg base CX0 k T.f_along T.d_along ["start", "one", "two"] (spG G (cfK fns sub0 k).cf (cfK fns sub0 k).fr 8)
  o__law_whole : FnOk P w K mg base CX0 k T.f__law_whole T.d__law_whole ["_law_found"] (spG G (cfK fns sub0 k).cf (cfK fns sub0 k).fr 9)
  o__law_at : FnOk P w K mg base CX0 k T.f__law_at T.d__law_at ["_law_script", "_law_k"] (spG G (cfK fns sub0 k).cf (cfK fns sub0 k).fr 10)
  o__law_stir : FnOk P w K mg base CX0 k T.f__law_stir T.d__law_stir ["_law_script", "_law_many"] (spG G (cfK fns sub0 k).cf (cfK fns sub0 k).fr 11)
  o__law_gcd : FnOk P w K mg base CX0 k T.f__law_gcd T.d__law_gcd ["_law_one", "_law_two"] (spG G (cfK fns sub0 k).cf (cfK fns sub0 k).fr 12)
  o__law_numbers : FnOk P w K mg base CX0 k T.f__law_numbers T.d__law_numbers ["_law_found", "_law_due"] (spG G (cfK fns sub0 k).cf (cfK fns sub0 k).fr 13)
  o__law_rows : FnOk P w K mg base CX0 k T.f__law_rows T.d__law_rows ["_law_found", "_law_due"] (spG G (cfK fns sub0 k).cf (cfK fns sub0 k).fr 14)
  o__law_strides : FnOk P w K mg base CX0 k T.f__law_strides T.d__law_strides ["_law_row", "_law_at_here", "_law_many"] (spG G (cfK fns sub0 k).cf (cfK fns sub0 k).fr 15)
  o__law_simple : FnOk P w K mg base CX0 k T.f__law_simple T.d__law_simple ["_law_row", "_law_many"] (spG G (cfK fns sub0 k).cf (cfK fns sub0 k).fr 16)
  o__law_swung : FnOk P w K mg base CX0 k T.f__law_swung T.d__law_swung ["_law_line", "_law_cell"] (spG G (cfK fns sub0 k).cf (cfK fns sub0 k).fr 17)
  o__law_parted : FnOk P w K mg base CX0 k T.f__law_parted T.d__law_parted ["_law_a", "_law_b", "_law_c", "_law_d"] (spG G (cfK fns sub0 k).cf (cfK fns sub0 k).fr 18)
  o__law_way : FnOk P w K mg base CX0 k T.f__law_way T.d__law_way ["_law_one", "_law_two"] (spG G (cfK fns sub0 k).cf (cfK fns sub0 k).fr 19)
  o__law_crossed : FnOk P w K mg base CX0 k T.f__law_crossed T.d__law_crossed ["_law_line", "_law_i", "_law_j"] (spG G (cfK fns sub0 k).cf (cfK fns sub0 k).fr 20)
  o__law_first : FnOk P w K mg base CX0 k T.f__law_first T.d__law_first ["_law_line"] (spG G (cfK fns sub0 k).cf (cfK fns sub0 k).fr 21)
  o__law_drawn_line : FnOk P w K mg base CX0 k T.f__law_drawn_line T.d__law_drawn_line ["_law_row", "_law_many"] (spG G (cfK fns sub0 k).cf (cfK fns sub0 k).fr 22)
  o__law_spoiled : FnOk P w K mg base CX0 k T.f__law_spoiled T.d__law_spoiled ["_law_row", "_law_many"] (spG G (cfK fns sub0 k).cf (cfK fns sub0 k).fr 23)
  o_law : FnOk P w K mg base CX0 k T.f_law T.d_law ["_law_script"] (spG G (cfK fns sub0 k).cf (cfK fns sub0 k).fr 24)
theorem ih_crossing {T : Txt K mg} (ih : Ok G P w base T k) : FnOk P w K mg base CX0 k T.f_crossing T.d_crossing ["corners"] (spG G (cfK fns sub0 k).cf (cfK fns sub0 k).fr 0) := ih.o_crossing
theorem ih_sides_cross {T : Txt K mg} (ih : Ok G P w base T k) : FnOk P w K mg base CX0 k T.f_sides_cross T.d_sides_cross ["corners", "i", "j"] (spG G (cfK fns sub0 k).cf (cfK fns sub0 k).fr 1) := ih.o_sides_cross
theorem ih_side_ends {T : Txt K mg} (ih : Ok G P w base T k) : FnOk P w K mg base CX0 k T.f_side_ends T.d_side_ends ["corners", "k"] (spG G (cfK fns sub0 k).cf (cfK fns sub0 k).fr 2) := ih.o_side_ends
theorem ih_run_together {T : Txt K mg} (ih : Ok G P w base T k) : FnOk P w K mg base CX0 k T.f_run_together T.d_run_together ["corner", "one", "two"] (spG G (cfK fns sub0 k).cf (cfK fns sub0 k).fr 3) := ih.o_run_together
theorem ih_have_common_point {T : Txt K mg} (ih : Ok G P w base T k) : FnOk P w K mg base CX0 k T.f_have_common_point T.d_have_common_point ["one", "two"] (spG G (cfK fns sub0 k).cf (cfK fns sub0 k).fr 4) := ih.o_have_common_point
theorem ih_spans_meet {T : Txt K mg} (ih : Ok G P w base T k) : FnOk P w K mg base CX0 k T.f_spans_meet T.d_spans_meet ["one", "two", "axis"] (spG G (cfK fns sub0 k).cf (cfK fns sub0 k).fr 5) := ih.o_spans_meet
theorem ih_reaches_across {T : Txt K mg} (ih : Ok G P w base T k) : FnOk P w K mg base CX0 k T.f_reaches_across T.d_reaches_across ["side", "line"] (spG G (cfK fns sub0 k).cf (cfK fns sub0 k).fr 6) := ih.o_reaches_across
theorem ih_turn {T : Txt K mg} (ih : Ok G P w base T k) : FnOk P w K mg base CX0 k T.f_turn T.d_turn ["start", "one", "two"] (spG G (cfK fns sub0 k).cf (cfK fns sub0 k).fr 7) := ih.o_turn
theorem ih_along {T : Txt K mg} (ih : Ok G P w base T k) : FnOk P w K mg base CX0 k T.f_along T.d_along ["start", "one", "two"] (spG G (cfK fns sub0 k).cf (cfK fns sub0 k).fr 8) := ih.o_along
theorem ih__law_whole {T : Txt K mg} (ih : Ok G P w base T k) : FnOk P w K mg base CX0 k T.f__law_whole T.d__law_whole ["_law_found"] (spG G (cfK fns sub0 k).cf (cfK fns sub0 k).fr 9) := ih.o__law_whole
theorem ih__law_at {T : Txt K mg} (ih : Ok G P w base T k) : FnOk P w K mg base CX0 k T.f__law_at T.d__law_at ["_law_script", "_law_k"] (spG G (cfK fns sub0 k).cf (cfK fns sub0 k).fr 10) := ih.o__law_at
theorem ih__law_stir {T : Txt K mg} (ih : Ok G P w base T k) : FnOk P w K mg base CX0 k T.f__law_stir T.d__law_stir ["_law_script", "_law_many"] (spG G (cfK fns sub0 k).cf (cfK fns sub0 k).fr 11) := ih.o__law_stir
theorem ih__law_gcd {T : Txt K mg} (ih : Ok G P w base T k) : FnOk P w K mg base CX0 k T.f__law_gcd T.d__law_gcd ["_law_one", "_law_two"] (spG G (cfK fns sub0 k).cf (cfK fns sub0 k).fr 12) := ih.o__law_gcd
theorem ih__law_numbers {T : Txt K mg} (ih : Ok G P w base T k) : FnOk P w K mg base CX0 k T.f__law_numbers T.d__law_numbers ["_law_found", "_law_due"] (spG G (cfK fns sub0 k).cf (cfK fns sub0 k).fr 13) := ih.o__law_numbers
theorem ih__law_rows {T : Txt K mg} (ih : Ok G P w base T k) : FnOk P w K mg base CX0 k T.f__law_rows T.d__law_rows ["_law_found", "_law_due"] (spG G (cfK fns sub0 k).cf (cfK fns sub0 k).fr 14) := ih.o__law_rows
theorem ih__law_strides {T : Txt K mg} (ih : Ok G P w base T k) : FnOk P w K mg base CX0 k T.f__law_strides T.d__law_strides ["_law_row", "_law_at_here", "_law_many"] (spG G (cfK fns sub0 k).cf (cfK fns sub0 k).fr 15) := ih.o__law_strides
theorem ih__law_simple {T : Txt K mg} (ih : Ok G P w base T k) : FnOk P w K mg base CX0 k T.f__law_simple T.d__law_simple ["_law_row", "_law_many"] (spG G (cfK fns sub0 k).cf (cfK fns sub0 k).fr 16) := ih.o__law_simple
theorem ih__law_swung {T : Txt K mg} (ih : Ok G P w base T k) : FnOk P w K mg base CX0 k T.f__law_swung T.d__law_swung ["_law_line", "_law_cell"] (spG G (cfK fns sub0 k).cf (cfK fns sub0 k).fr 17) := ih.o__law_swung
theorem ih__law_parted {T : Txt K mg} (ih : Ok G P w base T k) : FnOk P w K mg base CX0 k T.f__law_parted T.d__law_parted ["_law_a", "_law_b", "_law_c", "_law_d"] (spG G (cfK fns sub0 k).cf (cfK fns sub0 k).fr 18) := ih.o__law_parted
theorem ih__law_way {T : Txt K mg} (ih : Ok G P w base T k) : FnOk P w K mg base CX0 k T.f__law_way T.d__law_way ["_law_one", "_law_two"] (spG G (cfK fns sub0 k).cf (cfK fns sub0 k).fr 19) := ih.o__law_way
theorem ih__law_crossed {T : Txt K mg} (ih : Ok G P w base T k) : FnOk P w K mg base CX0 k T.f__law_crossed T.d__law_crossed ["_law_line", "_law_i", "_law_j"] (spG G (cfK fns sub0 k).cf (cfK fns sub0 k).fr 20) := ih.o__law_crossed
theorem ih__law_first {T : Txt K mg} (ih : Ok G P w base T k) : FnOk P w K mg base CX0 k T.f__law_first T.d__law_first ["_law_line"] (spG G (cfK fns sub0 k).cf (cfK fns sub0 k).fr 21) := ih.o__law_first
theorem ih__law_drawn_line {T : Txt K mg} (ih : Ok G P w base T k) : FnOk P w K mg base CX0 k T.f__law_drawn_line T.d__law_drawn_line ["_law_row", "_law_many"] (spG G (cfK fns sub0 k).cf (cfK fns sub0 k).fr 22) := ih.o__law_drawn_line
theorem ih__law_spoiled {T : Txt K mg} (ih : Ok G P w base T k) : FnOk P w K mg base CX0 k T.f__law_spoiled T.d__law_spoiled ["_law_row", "_law_many"] (spG G (cfK fns sub0 k).cf (cfK fns sub0 k).fr 23) := ih.o__law_spoiled
theorem ok_crossing (T : Txt K mg) (ih : Ok G P w base T k) : FnOk P w K mg base CX0 (k + 1) T.f_crossing T.d_crossing ["corners"] (spG G (run false fns sub0 whileL (k + 1)) (frOf fns) 0) := by
  refine fn_ok0 T.t_crossing sc_crossing rfl rfl rfl fun cdv A outer s H E hr => ?_
  have hu := Nat.lt_of_le_of_lt (Nat.add_le_add_left (by decide : 9 ≤ 64) _) hr.units
  exact (sSs_cons (qfor (wr1 (T.b_range) (wlen (T.b_len) (wv 0))) (wg1 nd_crossing) (sSs_cons (qfor (wr2 (T.b_range) (wv 1) (wlen (T.b_len) (wv 0))) (wg1 nd_crossing) (sSs_cons (sS_ifs (wtr (wcall (ih_sides_cross ih) hr T.m_sides_cross T.k_sides_cross T.bd_sides_cross (wrc (wv 0) (wrc (wv 1) (wrc (wv 2) sR_nil))))) (sSs_cons (sS_ret (wtup (wac (wv 1) (wac (wv 2) sA_nil))))
  sSs_nil) sSs_nil)
  sSs_nil))
  sSs_nil))
  (sSs_cons (sS_ret sV_non)
  sSs_nil))
theorem ok_sides_cross (T : Txt K mg) (ih : Ok G P w base T k) : FnOk P w K mg base CX0 (k + 1) T.f_sides_cross T.d_sides_cross ["corners", "i", "j"] (spG G (run false fns sub0 whileL (k + 1)) (frOf fns) 1) := by
  refine fn_ok0 T.t_sides_cross sc_sides_cross rfl rfl rfl fun cdv A outer s H E hr => ?_
  have hu := Nat.lt_of_le_of_lt (Nat.add_le_add_left (by decide : 9 ≤ 64) _) hr.units
  exact (sSs_cons (qasg nd_sides_cross (wcall (ih_side_ends ih) hr T.m_side_ends T.k_side_ends T.bd_side_ends (wrc (wv 0) (wrc (wv 1) sR_nil))))
  (sSs_cons (qasg nd_sides_cross (wcall (ih_side_ends ih) hr T.m_side_ends T.k_side_ends T.bd_side_ends (wrc (wv 0) (wrc (wv 2) sR_nil))))
  (sSs_cons (sS_ifs (wct hu .eq (wv 1) (wv 2)) (sSs_cons (sS_ret (wcv hu .eq (wsub (wv 3) sV_int) (wsub (wv 3) sV_int)))
  sSs_nil) sSs_nil)
  (sSs_cons (sS_ifs (wct hu .eq (wv 2) (sV_bin .add (wv 1) sV_int)) (sSs_cons (sS_ret (wcall (ih_run_together ih) hr T.m_run_together T.k_run_together T.bd_run_together (wrc (wsub (wv 3) sV_int) (wrc (wsub (wv 3) sV_int) (wrc (wsub (wv 4) sV_int) sR_nil)))))
  sSs_nil) sSs_nil)
  (sSs_cons (sS_ifs (PW.pt (ptb_and (wct hu .eq (sV_bin .add (wv 2) sV_int) (wlen (T.b_len) (wv 0))) (ptb_one_and (wct hu .eq (wv 1) sV_int)))) (sSs_cons (sS_ret (wcall (ih_run_together ih) hr T.m_run_together T.k_run_together T.bd_run_together (wrc (wsub (wv 3) sV_int) (wrc (wsub (wv 3) sV_int) (wrc (wsub (wv 4) sV_int) sR_nil)))))
  sSs_nil) sSs_nil)
  (sSs_cons (sS_ret (wcall (ih_have_common_point ih) hr T.m_have_common_point T.k_have_common_point T.bd_have_common_point (wrc (wv 3) (wrc (wv 4) sR_nil))))
  sSs_nil))))))
theorem ok_side_ends (T : Txt K mg) (ih : Ok G P w base T k) : FnOk P w K mg base CX0 (k + 1) T.f_side_ends T.d_side_ends ["corners", "k"] (spG G (run false fns sub0 whileL (k + 1)) (frOf fns) 2) := by
  refine fn_ok0 T.t_side_ends sc_side_ends rfl rfl rfl fun cdv A outer s H E hr => ?_
  have hu := Nat.lt_of_le_of_lt (Nat.add_le_add_left (by decide : 9 ≤ 64) _) hr.units
  exact (sSs_cons (sS_ret (wtup (wac (wsub (wv 0) (wv 1)) (wac (wsub (wv 0) (sV_bin .mod (sV_bin .add (wv 1) sV_int) (wlen (T.b_len) (wv 0)))) sA_nil))))
  sSs_nil)
theorem ok_run_together (T : Txt K mg) (ih : Ok G P w base T k) : FnOk P w K mg base CX0 (k + 1) T.f_run_together T.d_run_together ["corner", "one", "two"] (spG G (run false fns sub0 whileL (k + 1)) (frOf fns) 3) := by
  refine fn_ok0 T.t_run_together sc_run_together rfl rfl rfl fun cdv A outer s H E hr => ?_
  have hu := Nat.lt_of_le_of_lt (Nat.add_le_add_left (by decide : 9 ≤ 64) _) hr.units
  exact (sSs_cons (sS_ret (sV_and (wcv hu .eq (wcall (ih_turn ih) hr T.m_turn T.k_turn T.bd_turn (wrc (wv 0) (wrc (wv 1) (wrc (wv 2) sR_nil)))) sV_int) (wone (wcv hu .gt (wcall (ih_along ih) hr T.m_along T.k_along T.bd_along (wrc (wv 0) (wrc (wv 1) (wrc (wv 2) sR_nil)))) sV_int))))
  sSs_nil)
theorem ok_have_common_point (T : Txt K mg) (ih : Ok G P w base T k) : FnOk P w K mg base CX0 (k + 1) T.f_have_common_point T.d_have_common_point ["one", "two"] (spG G (run false fns sub0 whileL (k + 1)) (frOf fns) 4) := by
  refine fn_ok0 T.t_have_common_point sc_have_common_point rfl rfl rfl fun cdv A outer s H E hr => ?_
  have hu := Nat.lt_of_le_of_lt (Nat.add_le_add_left (by decide : 9 ≤ 64) _) hr.units
  exact (sSs_cons (sS_ifs (PW.pt (ptb_or (sT_not (wtr (wcall (ih_spans_meet ih) hr T.m_spans_meet T.k_spans_meet T.bd_spans_meet (wrc (wv 0) (wrc (wv 1) (wrc sV_int sR_nil)))))) (ptb_one_or (sT_not (wtr (wcall (ih_spans_meet ih) hr T.m_spans_meet T.k_spans_meet T.bd_spans_meet (wrc (wv 0) (wrc (wv 1) (wrc sV_int sR_nil))))))))) (sSs_cons (sS_ret sV_bl)
  sSs_nil) sSs_nil)
  (sSs_cons (sS_ret (sV_and (wcall (ih_reaches_across ih) hr T.m_reaches_across T.k_reaches_across T.bd_reaches_across (wrc (wv 0) (wrc (wv 1) sR_nil))) (wone (wcall (ih_reaches_across ih) hr T.m_reaches_across T.k_reaches_across T.bd_reaches_across (wrc (wv 1) (wrc (wv 0) sR_nil))))))
  sSs_nil))
theorem ok_spans_meet (T : Txt K mg) (ih : Ok G P w base T k) : FnOk P w K mg base CX0 (k + 1) T.f_spans_meet T.d_spans_meet ["one", "two", "axis"] (spG G (run false fns sub0 whileL (k + 1)) (frOf fns) 5) := by
  refine fn_ok0 T.t_spans_meet sc_spans_meet rfl rfl rfl fun cdv A outer s H E hr => ?_
  have hu := Nat.lt_of_le_of_lt (Nat.add_le_add_left (by decide : 9 ≤ 64) _) hr.units
  exact (sSs_cons (qasg nd_spans_meet (wsorted (T.b_sorted) (wlst (wac (wsub (wsub (wv 0) sV_int) (wv 2)) (wac (wsub (wsub (wv 0) sV_int) (wv 2)) sA_nil)))))
  (sSs_cons (qasg nd_spans_meet (wsorted (T.b_sorted) (wlst (wac (wsub (wsub (wv 1) sV_int) (wv 2)) (wac (wsub (wsub (wv 1) sV_int) (wv 2)) sA_nil)))))
  (sSs_cons (sS_ret (sV_and (wcv hu .le (wsub (wv 3) sV_int) (wsub (wv 4) sV_int)) (wone (wcv hu .le (wsub (wv 4) sV_int) (wsub (wv 3) sV_int)))))
  sSs_nil)))
theorem ok_reaches_across (T : Txt K mg) (ih : Ok G P w base T k) : FnOk P w K mg base CX0 (k + 1) T.f_reaches_across T.d_reaches_across ["side", "line"] (spG G (run false fns sub0 whileL (k + 1)) (frOf fns) 6) := by
  refine fn_ok0 T.t_reaches_across sc_reaches_across rfl rfl rfl fun cdv A outer s H E hr => ?_
  have hu := Nat.lt_of_le_of_lt (Nat.add_le_add_left (by decide : 9 ≤ 64) _) hr.units
  exact (sSs_cons (sS_ret (wcv hu .le (sV_bin .mul (wcall (ih_turn ih) hr T.m_turn T.k_turn T.bd_turn (wrc (wsub (wv 1) sV_int) (wrc (wsub (wv 1) sV_int) (wrc (wsub (wv 0) sV_int) sR_nil)))) (wcall (ih_turn ih) hr T.m_turn T.k_turn T.bd_turn (wrc (wsub (wv 1) sV_int) (wrc (wsub (wv 1) sV_int) (wrc (wsub (wv 0) sV_int) sR_nil))))) sV_int))
  sSs_nil)
theorem ok_turn (T : Txt K mg) (ih : Ok G P w base T k) : FnOk P w K mg base CX0 (k + 1) T.f_turn T.d_turn ["start", "one", "two"] (spG G (run false fns sub0 whileL (k + 1)) (frOf fns) 7) := by
  refine fn_ok0 T.t_turn sc_turn rfl rfl rfl fun cdv A outer s H E hr => ?_
  have hu := Nat.lt_of_le_of_lt (Nat.add_le_add_left (by decide : 9 ≤ 64) _) hr.units
  exact (sSs_cons (sS_ret (sV_bin .sub (sV_bin .mul (sV_bin .sub (wsub (wv 1) sV_int) (wsub (wv 0) sV_int)) (sV_bin .sub (wsub (wv 2) sV_int) (wsub (wv 0) sV_int))) (sV_bin .mul (sV_bin .sub (wsub (wv 1) sV_int) (wsub (wv 0) sV_int)) (sV_bin .sub (wsub (wv 2) sV_int) (wsub (wv 0) sV_int)))))
  sSs_nil)
theorem ok_along (T : Txt K mg) (ih : Ok G P w base T k) : FnOk P w K mg base CX0 (k + 1) T.f_along T.d_along ["start", "one", "two"] (spG G (run false fns sub0 whileL (k + 1)) (frOf fns) 8) := by
  refine fn_ok0 T.t_along sc_along rfl rfl rfl fun cdv A outer s H E hr => ?_
  have hu := Nat.lt_of_le_of_lt (Nat.add_le_add_left (by decide : 9 ≤ 64) _) hr.units
  exact (sSs_cons (sS_ret (sV_bin .add (sV_bin .mul (sV_bin .sub (wsub (wv 1) sV_int) (wsub (wv 0) sV_int)) (sV_bin .sub (wsub (wv 2) sV_int) (wsub (wv 0) sV_int))) (sV_bin .mul (sV_bin .sub (wsub (wv 1) sV_int) (wsub (wv 0) sV_int)) (sV_bin .sub (wsub (wv 2) sV_int) (wsub (wv 0) sV_int)))))
  sSs_nil)
theorem ok__law_whole (T : Txt K mg) (ih : Ok G P w base T k) : FnOk P w K mg base CX0 (k + 1) T.f__law_whole T.d__law_whole ["_law_found"] (spG G (run false fns sub0 whileL (k + 1)) (frOf fns) 9) := by
  refine fn_ok0 T.t__law_whole sc__law_whole rfl rfl rfl fun cdv A outer s H E hr => ?_
  have hu := Nat.lt_of_le_of_lt (Nat.add_le_add_left (by decide : 9 ≤ 64) _) hr.units
  exact (sSs_cons (sS_ret (sV_and (wisi .int (T.b_isinstance) (T.b_int) (wv 0)) (wone (sV_not (wisi .bool (T.b_isinstance) (T.b_bool) (wv 0))))))
  sSs_nil)
theorem ok__law_at (T : Txt K mg) (ih : Ok G P w base T k) : FnOk P w K mg base CX0 (k + 1) T.f__law_at T.d__law_at ["_law_script", "_law_k"] (spG G (run false fns sub0 whileL (k + 1)) (frOf fns) 10) := by
  refine fn_ok0 T.t__law_at sc__law_at rfl rfl rfl fun cdv A outer s H E hr => ?_
  have hu := Nat.lt_of_le_of_lt (Nat.add_le_add_left (by decide : 9 ≤ 64) _) hr.units
  exact (sSs_cons (sS_ifs (wct hu .lt (wv 1) (wlen (T.b_len) (wv 0))) (sSs_cons (sS_ret (wsub (wv 0) (wv 1)))
  sSs_nil) sSs_nil)
  (sSs_cons (sS_ret sV_int)
  sSs_nil))
theorem ok__law_stir (T : Txt K mg) (ih : Ok G P w base T k) : FnOk P w K mg base CX0 (k + 1) T.f__law_stir T.d__law_stir ["_law_script", "_law_many"] (spG G (run false fns sub0 whileL (k + 1)) (frOf fns) 11) := by
  refine fn_ok0 T.t__law_stir sc__law_stir rfl rfl rfl fun cdv A outer s H E hr => ?_
  have hu := Nat.lt_of_le_of_lt (Nat.add_le_add_left (by decide : 9 ≤ 64) _) hr.units
  exact (sSs_cons (qasg nd__law_stir sV_int)
  (sSs_cons (qmk nd__law_stir (wlstO sA_nil))
  (sSs_cons (qfor (wr1 (T.b_range) (wv 1)) (wg1 nd__law_stir) (sSs_cons (qasg nd__law_stir (sV_bin .mod (sV_bin .add (sV_bin .add (sV_bin .mul (wv 2) sV_int) (wcall (ih__law_at ih) hr T.m__law_at T.k__law_at T.bd__law_at (wrc (wv 0) (wrc (wv 4) sR_nil)))) sV_int) sV_int))
  (sSs_cons (qapp (i := 3) (wv 2))
  sSs_nil)))
  (sSs_frz (sSs_cons (sS_ret (wv 3))
  sSs_nil)))))
theorem ok__law_gcd (T : Txt K mg) (ih : Ok G P w base T k) : FnOk P w K mg base CX0 (k + 1) T.f__law_gcd T.d__law_gcd ["_law_one", "_law_two"] (spG G (run false fns sub0 whileL (k + 1)) (frOf fns) 12) := by
  refine fn_ok0 T.t__law_gcd sc__law_gcd rfl rfl rfl fun cdv A outer s H E hr => ?_
  have hu := Nat.lt_of_le_of_lt (Nat.add_le_add_left (by decide : 9 ≤ 64) _) hr.units
  exact (sSs_cons (qasg nd__law_gcd (wabs (T.b_abs) (wv 0)))
  (sSs_cons (qasg nd__law_gcd (wabs (T.b_abs) (wv 1)))
  (sSs_cons (qwhl (wct hu .gt (wv 3) sV_int) (sSs_cons (qasg nd__law_gcd (sV_bin .mod (wv 2) (wv 3)))
  (sSs_cons (qasg nd__law_gcd (wv 3))
  (sSs_cons (qasg nd__law_gcd (wv 4))
  sSs_nil))))
  (sSs_cons (sS_ret (wv 2))
  sSs_nil))))
theorem ok__law_numbers (T : Txt K mg) (ih : Ok G P w base T k) : FnOk P w K mg base CX0 (k + 1) T.f__law_numbers T.d__law_numbers ["_law_found", "_law_due"] (spG G (run false fns sub0 whileL (k + 1)) (frOf fns) 13) := by
  refine fn_ok0 T.t__law_numbers sc__law_numbers rfl rfl rfl fun cdv A outer s H E hr => ?_
  have hu := Nat.lt_of_le_of_lt (Nat.add_le_add_left (by decide : 9 ≤ 64) _) hr.units
  exact (sSs_cons (sS_ifs (PW.pt (ptb_or (sT_not (wtr (wisi .tuple (T.b_isinstance) (T.b_tuple) (wv 0)))) (ptb_one_or (wct hu .ne (wlen (T.b_len) (wv 0)) (wlen (T.b_len) (wv 1)))))) (sSs_cons (sS_ret sV_bl)
  sSs_nil) sSs_nil)
  (sSs_cons (qfor (wr1 (T.b_range) (wlen (T.b_len) (wv 1))) (wg1 nd__law_numbers) (sSs_cons (sS_ifs (PW.pt (ptb_or (sT_not (wtr (wcall (ih__law_whole ih) hr T.m__law_whole T.k__law_whole T.bd__law_whole (wrc (wsub (wv 0) (wv 2)) sR_nil)))) (ptb_one_or (wct hu .ne (wsub (wv 0) (wv 2)) (wsub (wv 1) (wv 2)))))) (sSs_cons (sS_ret sV_bl)
  sSs_nil) sSs_nil)
  sSs_nil))
  (sSs_cons (sS_ret sV_bl)
  sSs_nil)))
theorem ok__law_rows (T : Txt K mg) (ih : Ok G P w base T k) : FnOk P w K mg base CX0 (k + 1) T.f__law_rows T.d__law_rows ["_law_found", "_law_due"] (spG G (run false fns sub0 whileL (k + 1)) (frOf fns) 14) := by
  refine fn_ok0 T.t__law_rows sc__law_rows rfl rfl rfl fun cdv A outer s H E hr => ?_
  have hu := Nat.lt_of_le_of_lt (Nat.add_le_add_left (by decide : 9 ≤ 64) _) hr.units
  exact (sSs_cons (sS_ifs (PW.pt (ptb_or (sT_not (wtr (wisi .list (T.b_isinstance) (T.b_list) (wv 0)))) (ptb_one_or (wct hu .ne (wlen (T.b_len) (wv 0)) (wlen (T.b_len) (wv 1)))))) (sSs_cons (sS_ret sV_bl)
  sSs_nil) sSs_nil)
  (sSs_cons (qfor (wr1 (T.b_range) (wlen (T.b_len) (wv 1))) (wg1 nd__law_rows) (sSs_cons (sS_ifs (sT_not (wtr (wcall (ih__law_numbers ih) hr T.m__law_numbers T.k__law_numbers T.bd__law_numbers (wrc (wsub (wv 0) (wv 2)) (wrc (wsub (wv 1) (wv 2)) sR_nil))))) (sSs_cons (sS_ret sV_bl)
  sSs_nil) sSs_nil)
  sSs_nil))
  (sSs_cons (sS_ret sV_bl)
  sSs_nil)))
theorem ok__law_strides (T : Txt K mg) (ih : Ok G P w base T k) : FnOk P w K mg base CX0 (k + 1) T.f__law_strides T.d__law_strides ["_law_row", "_law_at_here", "_law_many"] (spG G (run false fns sub0 whileL (k + 1)) (frOf fns) 15) := by
  refine fn_ok0 T.t__law_strides sc__law_strides rfl rfl rfl fun cdv A outer s H E hr => ?_
  have hu := Nat.lt_of_le_of_lt (Nat.add_le_add_left (by decide : 9 ≤ 64) _) hr.units
  exact (sSs_cons (qmk nd__law_strides (wlstO (wac sV_int sA_nil)))
  (sSs_cons (qfor (wr1 (T.b_range) (sV_bin .sub (wv 2) sV_int)) (wg1 nd__law_strides) (sSs_cons (qapp (i := 3) (sV_bin .add (sV_bin .add (wsub (wv 3) (sV_neg sV_int)) sV_int) (sV_bin .mod (wsub (wv 0) (sV_bin .add (wv 1) (wv 4))) sV_int)))
  sSs_nil))
  (sSs_frz (sSs_cons (sS_ret (wv 3))
  sSs_nil))))
theorem ok__law_simple (T : Txt K mg) (ih : Ok G P w base T k) : FnOk P w K mg base CX0 (k + 1) T.f__law_simple T.d__law_simple ["_law_row", "_law_many"] (spG G (run false fns sub0 whileL (k + 1)) (frOf fns) 16) := by
  refine fn_ok0 T.t__law_simple sc__law_simple rfl rfl rfl fun cdv A outer s H E hr => ?_
  have hu := Nat.lt_of_le_of_lt (Nat.add_le_add_left (by decide : 9 ≤ 64) _) hr.units
  exact (sSs_cons (qasg nd__law_simple sV_int)
  (sSs_cons (sS_ifs (wct hu .gt (wv 1) sV_int) (sSs_cons (qasg nd__law_simple (sV_bin .add sV_int (sV_bin .mod (wsub (wv 0) sV_int) (sV_bin .sub (wv 1) sV_int))))
  sSs_nil) sSs_nil)
  (sSs_cons (qasg nd__law_simple (sV_bin .sub (wv 1) (wv 2)))
  (sSs_cons (qasg nd__law_simple (wsub (wlst (wac sV_int (wac sV_int (wac sV_int (wac sV_int sA_nil))))) (sV_bin .mod (wsub (wv 0) sV_int) sV_int)))
  (sSs_cons (qasg nd__law_simple (wcall (ih__law_strides ih) hr T.m__law_strides T.k__law_strides T.bd__law_strides (wrc (wv 0) (wrc sV_int (wrc (wv 2) sR_nil)))))
  (sSs_cons (qasg nd__law_simple (wcall (ih__law_strides ih) hr T.m__law_strides T.k__law_strides T.bd__law_strides (wrc (wv 0) (wrc (sV_bin .add sV_int (wv 2)) (wrc (wv 3) sR_nil)))))
  (sSs_cons (qmk nd__law_simple (wlstO sA_nil))
  (sSs_cons (qfor (wr1 (T.b_range) (wv 2)) (wg1 nd__law_simple) (sSs_cons (qapp (i := 7) (wtup (wac (sV_bin .mul (wsub (wv 5) (wv 8)) (wmax2 (T.b_max) sV_int (wsub (wv 6) (sV_neg sV_int)))) (wac (sV_bin .sub (sV_neg sV_int) (sV_bin .mod (wsub (wv 0) (sV_bin .add sV_int (wv 8))) (wv 4))) sA_nil))))
  sSs_nil))
  (sSs_cons (qfor (wr1 (T.b_range) (wv 3)) (wg1 nd__law_simple) (sSs_cons (qapp (i := 7) (wtup (wac (sV_bin .mul (wsub (wv 6) (sV_bin .sub (sV_bin .sub (wv 3) sV_int) (wv 8))) (wsub (wv 5) (sV_neg sV_int))) (wac (sV_bin .add sV_int (sV_bin .mod (wsub (wv 0) (sV_bin .add (sV_bin .add sV_int (wv 2)) (wv 8))) (wv 4))) sA_nil))))
  sSs_nil))
  (sSs_frz (sSs_cons (sS_ret (wv 7))
  sSs_nil)))))))))))
theorem ok__law_swung (T : Txt K mg) (ih : Ok G P w base T k) : FnOk P w K mg base CX0 (k + 1) T.f__law_swung T.d__law_swung ["_law_line", "_law_cell"] (spG G (run false fns sub0 whileL (k + 1)) (frOf fns) 17) := by
  refine fn_ok0 T.t__law_swung sc__law_swung rfl rfl rfl fun cdv A outer s H E hr => ?_
  have hu := Nat.lt_of_le_of_lt (Nat.add_le_add_left (by decide : 9 ≤ 64) _) hr.units
  exact (sSs_cons (qasg nd__law_swung (sV_bin .sub (sV_bin .mod (wv 1) sV_int) sV_int))
  (sSs_cons (by first | exact sS_asg_swap (fun _ _ _ _ h => comp_is h) (comp_asg (f := fun σ st => one (ev (cfK fns sub0 k) (.tup [(.bin .add (.var 5) (.bin .mul (.var 2) (.var 6))), (.var 6)]) .v σ st)) rfl (compN_of (sc := (defScope s__law_swung).names) (N := nm__law_swung) (N' := nm__law_swung_c0) rfl rfl rfl rfl (by decide +kernel)) (by decide) (wpl (wv 0)) (fun _ _ _ _ => (wgm (wgc nd__law_swung_c0 (wgc nd__law_swung_c0 sG_nil)))) (fun _ _ _ _ => turned0 (wtup (wac (sV_bin .add (wv 5) (sV_bin .mul (wv 2) (wv 6))) (wac (wv 6) sA_nil))) rfl) (fun _ => rfl) (fun _ _ _ _ => one_noexc _ _ _) (fun _ _ => rfl) rfl nd__law_swung rfl rfl) | exact qasg nd__law_swung (sV_of (comp_own (f := fun σ st => one (ev (cfK fns sub0 k) (.tup [(.bin .add (.var 5) (.bin .mul (.var 2) (.var 6))), (.var 6)]) .v σ st)) rfl (compN_of (sc := (defScope s__law_swung).names) (N := nm__law_swung) (N' := nm__law_swung_c0) rfl rfl rfl rfl (by decide +kernel)) (by decide) (wpl (wv 0)) (fun _ _ _ _ => (wgm (wgc nd__law_swung_c0 (wgc nd__law_swung_c0 sG_nil)))) (fun _ _ _ _ => turned0 (wtup (wac (sV_bin .add (wv 5) (sV_bin .mul (wv 2) (wv 6))) (wac (wv 6) sA_nil))) rfl) (fun _ => rfl) (fun _ _ _ _ => one_noexc _ _ _) (fun _ _ => rfl)) fun _ _ _ _ h => comp_is h))
  (sSs_cons (sS_ifs (wct hu .eq (sV_bin .mod (sV_bin .fdiv (wv 1) sV_int) sV_int) sV_int) (sSs_cons (by first | exact sS_asg_swap (fun _ _ _ _ h => comp_is h) (comp_asg (f := fun σ st => one (ev (cfK fns sub0 k) (.tup [(.bin .sub (.cst (.int 0)) (.var 8)), (.var 7)]) .v σ st)) rfl (compN_of (sc := (defScope s__law_swung).names) (N := nm__law_swung) (N' := nm__law_swung_c1) rfl rfl rfl rfl (by decide +kernel)) (by decide) (wpl (wv 3)) (fun _ _ _ _ => (wgm (wgc nd__law_swung_c1 (wgc nd__law_swung_c1 sG_nil)))) (fun _ _ _ _ => turned0 (wtup (wac (sV_bin .sub sV_int (wv 8)) (wac (wv 7) sA_nil))) rfl) (fun _ => rfl) (fun _ _ _ _ => one_noexc _ _ _) (fun _ _ => rfl) rfl nd__law_swung rfl rfl) | exact qasg nd__law_swung (sV_of (comp_own (f := fun σ st => one (ev (cfK fns sub0 k) (.tup [(.bin .sub (.cst (.int 0)) (.var 8)), (.var 7)]) .v σ st)) rfl (compN_of (sc := (defScope s__law_swung).names) (N := nm__law_swung) (N' := nm__law_swung_c1) rfl rfl rfl rfl (by decide +kernel)) (by decide) (wpl (wv 3)) (fun _ _ _ _ => (wgm (wgc nd__law_swung_c1 (wgc nd__law_swung_c1 sG_nil)))) (fun _ _ _ _ => turned0 (wtup (wac (sV_bin .sub sV_int (wv 8)) (wac (wv 7) sA_nil))) rfl) (fun _ => rfl) (fun _ _ _ _ => one_noexc _ _ _) (fun _ _ => rfl)) fun _ _ _ _ h => comp_is h))
  sSs_nil) sSs_nil)
  (sSs_cons (sS_ifs (wct hu .eq (sV_bin .mod (sV_bin .fdiv (wv 1) sV_int) sV_int) sV_int) (sSs_cons (qasg nd__law_swung (sV_of (sO_rev (wv 3)) fun _ _ _ _ h => rev_is h))
  sSs_nil) sSs_nil)
  (sSs_cons (qasg nd__law_swung (sV_bin .mod (sV_bin .fdiv (wv 1) sV_int) (wlen (T.b_len) (wv 3))))
  (sSs_cons (sS_retO (sO_add (sV_cutL (wv 3) (wv 4)) (sV_cutU (wv 3) (wv 4))))
  sSs_nil))))))
theorem ok__law_parted (T : Txt K mg) (ih : Ok G P w base T k) : FnOk P w K mg base CX0 (k + 1) T.f__law_parted T.d__law_parted ["_law_a", "_law_b", "_law_c", "_law_d"] (spG G (run false fns sub0 whileL (k + 1)) (frOf fns) 18) := by
  refine fn_ok0 T.t__law_parted sc__law_parted rfl rfl rfl fun cdv A outer s H E hr => ?_
  have hu := Nat.lt_of_le_of_lt (Nat.add_le_add_left (by decide : 9 ≤ 64) _) hr.units
  exact (sSs_cons (qmk nd__law_parted (wlstO (wac (wtup (wac sV_int (wac sV_int sA_nil))) (wac (wtup (wac sV_int (wac sV_int sA_nil))) sA_nil))))
  (sSs_cons (qfor (wpj (wlst (wac (wtup (wac (wv 0) (wac (wv 1) sA_nil))) (wac (wtup (wac (wv 2) (wac (wv 3) sA_nil))) sA_nil)))) (wgm (wgc nd__law_parted (wgc nd__law_parted sG_nil))) (sSs_cons (qapp (i := 4) (wtup (wac (sV_bin .sub (wsub (wv 6) sV_int) (wsub (wv 5) sV_int)) (wac (sV_bin .sub (wsub (wv 6) sV_int) (wsub (wv 5) sV_int)) sA_nil))))
  (sSs_cons (qapp (i := 4) (wtup (wac (sV_bin .sub (wsub (wv 5) sV_int) (wsub (wv 6) sV_int)) (wac (sV_bin .sub (wsub (wv 6) sV_int) (wsub (wv 5) sV_int)) sA_nil))))
  sSs_nil)))
  (sSs_cons (qforV (i := 4) (wgm (wgc nd__law_parted (wgc nd__law_parted sG_nil))) (sSs_cons (qasg nd__law_parted (wlst (wac (sV_bin .add (sV_bin .mul (wsub (wv 0) sV_int) (wv 7)) (sV_bin .mul (wsub (wv 0) sV_int) (wv 8))) (wac (sV_bin .add (sV_bin .mul (wsub (wv 1) sV_int) (wv 7)) (sV_bin .mul (wsub (wv 1) sV_int) (wv 8))) sA_nil))))
  (sSs_cons (qasg nd__law_parted (wlst (wac (sV_bin .add (sV_bin .mul (wsub (wv 2) sV_int) (wv 7)) (sV_bin .mul (wsub (wv 2) sV_int) (wv 8))) (wac (sV_bin .add (sV_bin .mul (wsub (wv 3) sV_int) (wv 7)) (sV_bin .mul (wsub (wv 3) sV_int) (wv 8))) sA_nil))))
  (sSs_cons (sS_ifs (PW.pt (ptb_or (wct hu .lt (wmax (T.b_max) (wv 9)) (wmin (T.b_min) (wv 10))) (ptb_one_or (wct hu .lt (wmax (T.b_max) (wv 10)) (wmin (T.b_min) (wv 9)))))) (sSs_cons (sS_ret sV_bl)
  sSs_nil) sSs_nil)
  sSs_nil))))
  (sSs_cons (sS_ret sV_bl)
  sSs_nil))))
theorem ok__law_way (T : Txt K mg) (ih : Ok G P w base T k) : FnOk P w K mg base CX0 (k + 1) T.f__law_way T.d__law_way ["_law_one", "_law_two"] (spG G (run false fns sub0 whileL (k + 1)) (frOf fns) 19) := by
  refine fn_ok0 T.t__law_way sc__law_way rfl rfl rfl fun cdv A outer s H E hr => ?_
  have hu := Nat.lt_of_le_of_lt (Nat.add_le_add_left (by decide : 9 ≤ 64) _) hr.units
  exact (sSs_cons (qasg nd__law_way (sV_bin .sub (wsub (wv 1) sV_int) (wsub (wv 0) sV_int)))
  (sSs_cons (qasg nd__law_way (sV_bin .sub (wsub (wv 1) sV_int) (wsub (wv 0) sV_int)))
  (sSs_cons (qasg nd__law_way (wmax2 (T.b_max) sV_int (wcall (ih__law_gcd ih) hr T.m__law_gcd T.k__law_gcd T.bd__law_gcd (wrc (wv 2) (wrc (wv 3) sR_nil)))))
  (sSs_cons (sS_ret (wtup (wac (sV_bin .fdiv (wv 2) (wv 4)) (wac (sV_bin .fdiv (wv 3) (wv 4)) sA_nil))))
  sSs_nil))))
theorem ok__law_crossed (T : Txt K mg) (ih : Ok G P w base T k) : FnOk P w K mg base CX0 (k + 1) T.f__law_crossed T.d__law_crossed ["_law_line", "_law_i", "_law_j"] (spG G (run false fns sub0 whileL (k + 1)) (frOf fns) 20) := by
  refine fn_ok0 T.t__law_crossed sc__law_crossed rfl rfl rfl fun cdv A outer s H E hr => ?_
  have hu := Nat.lt_of_le_of_lt (Nat.add_le_add_left (by decide : 9 ≤ 64) _) hr.units
  exact (sSs_cons (qasg nd__law_crossed (wlen (T.b_len) (wv 0)))
  (sSs_cons (qasg nd__law_crossed (wsub (wv 0) (wv 1)))
  (sSs_cons (qasg nd__law_crossed (wsub (wv 0) (sV_bin .mod (sV_bin .add (wv 1) sV_int) (wv 3))))
  (sSs_cons (qasg nd__law_crossed (wsub (wv 0) (wv 2)))
  (sSs_cons (qasg nd__law_crossed (wsub (wv 0) (sV_bin .mod (sV_bin .add (wv 2) sV_int) (wv 3))))
  (sSs_cons (sS_ifs (wct hu .eq (wv 1) (wv 2)) (sSs_cons (sS_ret (wcv hu .eq (wv 4) (wv 5)))
  sSs_nil) sSs_nil)
  (sSs_cons (sS_ifs (wct hu .eq (wv 2) (sV_bin .add (wv 1) sV_int)) (sSs_cons (sS_ret (sV_and (wcv hu .ne (wv 4) (wv 5)) (wone (wcv hu .eq (wcall (ih__law_way ih) hr T.m__law_way T.k__law_way T.bd__law_way (wrc (wv 5) (wrc (wv 4) sR_nil))) (wcall (ih__law_way ih) hr T.m__law_way T.k__law_way T.bd__law_way (wrc (wv 5) (wrc (wv 7) sR_nil)))))))
  sSs_nil) sSs_nil)
  (sSs_cons (sS_ifs (PW.pt (ptb_and (wct hu .eq (wv 1) sV_int) (ptb_one_and (wct hu .eq (wv 2) (sV_bin .sub (wv 3) sV_int))))) (sSs_cons (sS_ret (sV_and (wcv hu .ne (wv 4) (wv 5)) (wone (wcv hu .eq (wcall (ih__law_way ih) hr T.m__law_way T.k__law_way T.bd__law_way (wrc (wv 4) (wrc (wv 5) sR_nil))) (wcall (ih__law_way ih) hr T.m__law_way T.k__law_way T.bd__law_way (wrc (wv 4) (wrc (wv 6) sR_nil)))))))
  sSs_nil) sSs_nil)
  (sSs_cons (sS_ret (sV_not (wcall (ih__law_parted ih) hr T.m__law_parted T.k__law_parted T.bd__law_parted (wrc (wv 4) (wrc (wv 5) (wrc (wv 6) (wrc (wv 7) sR_nil)))))))
  sSs_nil)))))))))
theorem ok__law_first (T : Txt K mg) (ih : Ok G P w base T k) : FnOk P w K mg base CX0 (k + 1) T.f__law_first T.d__law_first ["_law_line"] (spG G (run false fns sub0 whileL (k + 1)) (frOf fns) 21) := by
  refine fn_ok0 T.t__law_first sc__law_first rfl rfl rfl fun cdv A outer s H E hr => ?_
  have hu := Nat.lt_of_le_of_lt (Nat.add_le_add_left (by decide : 9 ≤ 64) _) hr.units
  exact (sSs_cons (qfor (wr1 (T.b_range) (wlen (T.b_len) (wv 0))) (wg1 nd__law_first) (sSs_cons (qfor (wr2 (T.b_range) (wv 1) (wlen (T.b_len) (wv 0))) (wg1 nd__law_first) (sSs_cons (sS_ifs (wtr (wcall (ih__law_crossed ih) hr T.m__law_crossed T.k__law_crossed T.bd__law_crossed (wrc (wv 0) (wrc (wv 1) (wrc (wv 2) sR_nil))))) (sSs_cons (sS_ret (wtup (wac (wv 1) (wac (wv 2) sA_nil))))
  sSs_nil) sSs_nil)
  sSs_nil))
  sSs_nil))
  (sSs_cons (sS_ret sV_non)
  sSs_nil))
theorem ok__law_drawn_line (T : Txt K mg) (ih : Ok G P w base T k) : FnOk P w K mg base CX0 (k + 1) T.f__law_drawn_line T.d__law_drawn_line ["_law_row", "_law_many"] (spG G (run false fns sub0 whileL (k + 1)) (frOf fns) 22) := by
  refine fn_ok0 T.t__law_drawn_line sc__law_drawn_line rfl rfl rfl fun cdv A outer s H E hr => ?_
  have hu := Nat.lt_of_le_of_lt (Nat.add_le_add_left (by decide : 9 ≤ 64) _) hr.units
  exact (sSs_cons (qasg nd__law_drawn_line (wsub (wlst (wac sV_int (wac sV_int (wac sV_int (wac sV_int sA_nil))))) (sV_bin .mod (wsub (wv 0) sV_int) sV_int)))
  (sSs_cons (qasg nd__law_drawn_line (wsub (wlst (wac sV_int (wac sV_int (wac sV_int (wac sV_int sA_nil))))) (sV_bin .mod (wsub (wv 0) sV_int) sV_int)))
  (sSs_cons (sS_ret (sV_of (comp_own (f := fun σ st => one (ev (cfK fns sub0 k) (.tup [(.bin .sub (.bin .mod (.sub (.var 0) (.bin .add (.cst (.int 2)) (.bin .mul (.cst (.int 2)) (.var 4)))) (.var 2)) (.var 3)), (.bin .sub (.bin .mod (.sub (.var 0) (.bin .add (.cst (.int 3)) (.bin .mul (.cst (.int 2)) (.var 4)))) (.var 2)) (.var 3))]) .v σ st)) rfl (compN_of (sc := (defScope s__law_drawn_line).names) (N := nm__law_drawn_line) (N' := nm__law_drawn_line_c0) rfl rfl rfl rfl (by decide +kernel)) (by decide) (wr1 (T.b_range) (wv 1)) (fun _ _ _ _ => (wg1 nd__law_drawn_line_c0)) (fun _ _ _ _ => turned0 (wtup (wac (sV_bin .sub (sV_bin .mod (wsub (wv 0) (sV_bin .add sV_int (sV_bin .mul sV_int (wv 4)))) (wv 2)) (wv 3)) (wac (sV_bin .sub (sV_bin .mod (wsub (wv 0) (sV_bin .add sV_int (sV_bin .mul sV_int (wv 4)))) (wv 2)) (wv 3)) sA_nil))) rfl) (fun _ => rfl) (fun _ _ _ _ => one_noexc _ _ _) (fun _ _ => rfl)) fun _ _ _ _ h => comp_is h))
  sSs_nil)))
theorem ok__law_spoiled (T : Txt K mg) (ih : Ok G P w base T k) : FnOk P w K mg base CX0 (k + 1) T.f__law_spoiled T.d__law_spoiled ["_law_row", "_law_many"] (spG G (run false fns sub0 whileL (k + 1)) (frOf fns) 23) := by
  refine fn_ok0 T.t__law_spoiled sc__law_spoiled rfl rfl rfl fun cdv A outer s H E hr => ?_
  have hu := Nat.lt_of_le_of_lt (Nat.add_le_add_left (by decide : 9 ≤ 64) _) hr.units
  exact (sSs_cons (qmk nd__law_spoiled (wcallO (ih__law_swung ih) hr T.m__law_swung T.k__law_swung T.bd__law_swung (wrc (wcall (ih__law_simple ih) hr T.m__law_simple T.k__law_simple T.bd__law_simple (wrc (wv 0) (wrc (wv 1) sR_nil))) (wrc (wsub (wv 0) sV_int) sR_nil))))
  (sSs_cons (qasg nd__law_spoiled (sV_bin .mod (wsub (wv 0) sV_int) (wv 1)))
  (sSs_cons (qasg nd__law_spoiled (wsub (wv 2) (sV_bin .mod (wsub (wv 0) sV_int) (wv 1))))
  (sSs_cons (qasg nd__law_spoiled (wsub (wv 2) (sV_bin .mod (wsub (wv 0) sV_int) (wv 1))))
  (sSs_cons (qasg nd__law_spoiled (sV_bin .mod (wsub (wv 0) sV_int) sV_int))
  (sSs_cons (sS_ifs (wct hu .eq (wv 6) sV_int) (sSs_cons (qput (i := 2) (wv 3) (wv 4))
  sSs_nil) sSs_nil)
  (sSs_cons (sS_ifs (wct hu .eq (wv 6) sV_int) (sSs_cons (qput (i := 2) (wv 3) (wtup (wac (sV_bin .fdiv (sV_bin .add (wsub (wv 4) sV_int) (wsub (wv 5) sV_int)) sV_int) (wac (sV_bin .fdiv (sV_bin .add (wsub (wv 4) sV_int) (wsub (wv 5) sV_int)) sV_int) sA_nil))))
  sSs_nil) sSs_nil)
  (sSs_cons (sS_ifs (wct hu .eq (wv 6) sV_int) (sSs_cons (qput (i := 2) (wv 3) (wtup (wac (sV_bin .sub (sV_bin .add (wsub (wv 4) sV_int) (sV_bin .mod (wsub (wv 0) sV_int) sV_int)) sV_int) (wac (sV_bin .sub (sV_bin .add (wsub (wv 5) sV_int) (sV_bin .mod (wsub (wv 0) sV_int) sV_int)) sV_int) sA_nil))))
  sSs_nil) sSs_nil)
  (sSs_frz (sSs_cons (sS_ret (wv 2))
  sSs_nil))))))))))
theorem ok_law (T : Txt K mg) (ih : Ok G P w base T k) : FnOk P w K mg base CX0 (k + 1) T.f_law T.d_law ["_law_script"] (spG G (run false fns sub0 whileL (k + 1)) (frOf fns) 24) := by
  refine fn_ok0 T.t_law sc_law rfl rfl rfl fun cdv A outer s H E hr => ?_
  have hu := Nat.lt_of_le_of_lt (Nat.add_le_add_left (by decide : 9 ≤ 64) _) hr.units
  exact (sSs_cons (qasg nd_law (wcall (ih__law_stir ih) hr T.m__law_stir T.k__law_stir T.bd__law_stir (wrc (wv 0) (wrc sV_int sR_nil))))
  (sSs_cons (qasg nd_law (sV_bin .add sV_int (sV_bin .mod (wsub (wv 1) sV_int) sV_int)))
  (sSs_cons (sS_ifs (wct hu .eq (sV_bin .mod (sV_bin .fdiv (wsub (wv 1) sV_int) sV_int) sV_int) sV_int) (sSs_cons (qasg nd_law (sV_bin .add sV_int (sV_bin .mod (wsub (wv 1) sV_int) sV_int)))
  sSs_nil) sSs_nil)
  (sSs_cons (sS_ifs (wct hu .eq (sV_bin .mod (sV_bin .fdiv (wsub (wv 1) sV_int) sV_int) sV_int) sV_int) (sSs_cons (qasg nd_law (wcall (ih__law_drawn_line ih) hr T.m__law_drawn_line T.k__law_drawn_line T.bd__law_drawn_line (wrc (wv 1) (wrc (wv 2) sR_nil))))
  sSs_nil) (sSs_cons (qasg nd_law (wcall (ih__law_spoiled ih) hr T.m__law_spoiled T.k__law_spoiled T.bd__law_spoiled (wrc (wv 1) (wrc (wv 2) sR_nil))))
  sSs_nil))
  (sSs_cons (qasg nd_law (wlist (T.b_list) (wv 3)))
  (sSs_cons (qasg nd_law (wcall (ih_crossing ih) hr T.m_crossing T.k_crossing T.bd_crossing (wrc (wv 4) sR_nil)))
  (sSs_cons (sS_ifs (sT_not (wtr (wcall (ih__law_rows ih) hr T.m__law_rows T.k__law_rows T.bd__law_rows (wrc (wv 4) (wrc (wv 3) sR_nil))))) (sSs_cons (sS_ret sV_bl)
  sSs_nil) sSs_nil)
  (sSs_cons (qasg nd_law (wcall (ih__law_first ih) hr T.m__law_first T.k__law_first T.bd__law_first (wrc (wv 3) sR_nil)))
  (sSs_cons (sS_ifs (wct hu .isN (wv 6) sV_non) (sSs_cons (sS_ret (wcv hu .isN (wv 5) sV_non))
  sSs_nil) sSs_nil)
  (sSs_cons (sS_ret (wcall (ih__law_numbers ih) hr T.m__law_numbers T.k__law_numbers T.bd__law_numbers (wrc (wv 5) (wrc (wv 6) sR_nil))))
  sSs_nil))))))))))
theorem all (T : Txt K mg) : ∀ k, Ok G P w base T k
  | 0 => ⟨fn_ok_zero (sub := sub0), fn_ok_zero (sub := sub0), fn_ok_zero (sub := sub0), fn_ok_zero (sub := sub0), fn_ok_zero (sub := sub0), fn_ok_zero (sub := sub0), fn_ok_zero (sub := sub0), fn_ok_zero (sub := sub0), fn_ok_zero (sub := sub0), fn_ok_zero (sub := sub0), fn_ok_zero (sub := sub0), fn_ok_zero (sub := sub0), fn_ok_zero (sub := sub0), fn_ok_zero (sub := sub0), fn_ok_zero (sub := sub0), fn_ok_zero (sub := sub0), fn_ok_zero (sub := sub0), fn_ok_zero (sub := sub0), fn_ok_zero (sub := sub0), fn_ok_zero (sub := sub0), fn_ok_zero (sub := sub0), fn_ok_zero (sub := sub0), fn_ok_zero (sub := sub0), fn_ok_zero (sub := sub0), fn_ok_zero (sub := sub0)⟩
  | k + 1 => ⟨ok_crossing T (all T k), ok_sides_cross T (all T k), ok_side_ends T (all T k), ok_run_together T (all T k), ok_have_common_point T (all T k), ok_spans_meet T (all T k), ok_reaches_across T (all T k), ok_turn T (all T k), ok_along T (all T k), ok__law_whole T (all T k), ok__law_at T (all T k), ok__law_stir T (all T k), ok__law_gcd T (all T k), ok__law_numbers T (all T k), ok__law_rows T (all T k), ok__law_strides T (all T k), ok__law_simple T (all T k), ok__law_swung T (all T k), ok__law_parted T (all T k), ok__law_way T (all T k), ok__law_crossed T (all T k), ok__law_first T (all T k), ok__law_drawn_line T (all T k), ok__law_spoiled T (all T k), ok_law T (all T k)⟩
end
end Pg
end IP

end
section
set_option Elab.async false
set_option linter.all false
set_option maxRecDepth 100000
set_option maxHeartbeats 0
namespace IP
open PySem PySem.Spec L2
namespace Pg
abbrev G0 (K : PySem.W.Frag) : Gx := ⟨K, fun _ => 0, fun _ => []⟩
/-- the law in the small language -/
def Math : Prop := ∀ ns : List Int, ns.length ≤ 63 → ∃ s, run false fns sub0 whileL 12 24 [.val (.lst (ns.map .int))] [] = .ok (.val (.bl true)) s
theorem all_mk {l : PySem.W.OpenLaw} {w : World} {K : PySem.W.Frag} {h : Heap} {mg : Str → Option Value} {fa : Addr} {f0 : Addr} {od0 an0 : Option Addr} {sl0 : Array (Option Value)} {oc0 kV0 dc0 pm0 cd0 ct0 : Value} {f1 : Addr} {od1 an1 : Option Addr} {sl1 : Array (Option Value)} {oc1 kV1 dc1 pm1 cd1 ct1 : Value} {f2 : Addr} {od2 an2 : Option Addr} {sl2 : Array (Option Value)} {oc2 kV2 dc2 pm2 cd2 ct2 : Value} {f3 : Addr} {od3 an3 : Option Addr} {sl3 : Array (Option Value)} {oc3 kV3 dc3 pm3 cd3 ct3 : Value} {f4 : Addr} {od4 an4 : Option Addr} {sl4 : Array (Option Value)} {oc4 kV4 dc4 pm4 cd4 ct4 : Value} {f5 : Addr} {od5 an5 : Option Addr} {sl5 : Array (Option Value)} {oc5 kV5 dc5 pm5 cd5 ct5 : Value} {f6 : Addr} {od6 an6 : Option Addr} {sl6 : Array (Option Value)} {oc6 kV6 dc6 pm6 cd6 ct6 : Value} {f7 : Addr} {od7 an7 : Option Addr} {sl7 : Array (Option Value)} {oc7 kV7 dc7 pm7 cd7 ct7 : Value} {f8 : Addr} {od8 an8 : Option Addr} {sl8 : Array (Option Value)} {oc8 kV8 dc8 pm8 cd8 ct8 : Value} {f9 : Addr} {od9 an9 : Option Addr} {sl9 : Array (Option Value)} {oc9 kV9 dc9 pm9 cd9 ct9 : Value} {f10 : Addr} {od10 an10 : Option Addr} {sl10 : Array (Option Value)} {oc10 kV10 dc10 pm10 cd10 ct10 : Value} {f11 : Addr} {od11 an11 : Option Addr} {sl11 : Array (Option Value)} {oc11 kV11 dc11 pm11 cd11 ct11 : Value} {f12 : Addr} {od12 an12 : Option Addr} {sl12 : Array (Option Value)} {oc12 kV12 dc12 pm12 cd12 ct12 : Value} {f13 : Addr} {od13 an13 : Option Addr} {sl13 : Array (Option Value)} {oc13 kV13 dc13 pm13 cd13 ct13 : Value} {f14 : Addr} {od14 an14 : Option Addr} {sl14 : Array (Option Value)} {oc14 kV14 dc14 pm14 cd14 ct14 : Value} {f15 : Addr} {od15 an15 : Option Addr} {sl15 : Array (Option Value)} {oc15 kV15 dc15 pm15 cd15 ct15 : Value} {f16 : Addr} {od16 an16 : Option Addr} {sl16 : Array (Option Value)} {oc16 kV16 dc16 pm16 cd16 ct16 : Value} {f17 : Addr} {od17 an17 : Option Addr} {sl17 : Array (Option Value)} {oc17 kV17 dc17 pm17 cd17 ct17 : Value} {f18 : Addr} {od18 an18 : Option Addr} {sl18 : Array (Option Value)} {oc18 kV18 dc18 pm18 cd18 ct18 : Value} {f19 : Addr} {od19 an19 : Option Addr} {sl19 : Array (Option Value)} {oc19 kV19 dc19 pm19 cd19 ct19 : Value} {f20 : Addr} {od20 an20 : Option Addr} {sl20 : Array (Option Value)} {oc20 kV20 dc20 pm20 cd20 ct20 : Value} {f21 : Addr} {od21 an21 : Option Addr} {sl21 : Array (Option Value)} {oc21 kV21 dc21 pm21 cd21 ct21 : Value} {f22 : Addr} {od22 an22 : Option Addr} {sl22 : Array (Option Value)} {oc22 kV22 dc22 pm22 cd22 ct22 : Value} {f23 : Addr} {od23 an23 : Option Addr} {sl23 : Array (Option Value)} {oc23 kV23 dc23 pm23 cd23 ct23 : Value} {f24 : Addr} {od24 an24 : Option Addr} {sl24 : Array (Option Value)} {oc24 kV24 dc24 pm24 cd24 ct24 : Value} (X : K.In h) (Gn : h.Ns mainGlobals mg) (hfa : mg "law" = some (.ref fa))
    (a0 : PySem.W.nsIn K mainGlobals "crossing" = some (some (.ref f0))) (l0 : K.lookup f0 = some ⟨oc0, od0, .func (PySem.W.fnOf "crossing" "crossing" (defArgs s_crossing) (defBody s_crossing) (defScope s_crossing) .none kV0 dc0 pm0 an0 cd0 ct0), sl0⟩) (c0 : PySem.W.codeIn K cd0 "crossing" = true) (k0 : PySem.W.keepIn K (.ref f0) = true)
    (a1 : PySem.W.nsIn K mainGlobals "sides_cross" = some (some (.ref f1))) (l1 : K.lookup f1 = some ⟨oc1, od1, .func (PySem.W.fnOf "sides_cross" "sides_cross" (defArgs s_sides_cross) (defBody s_sides_cross) (defScope s_sides_cross) .none kV1 dc1 pm1 an1 cd1 ct1), sl1⟩) (c1 : PySem.W.codeIn K cd1 "sides_cross" = true) (k1 : PySem.W.keepIn K (.ref f1) = true)
    (a2 : PySem.W.nsIn K mainGlobals "side_ends" = some (some (.ref f2))) (l2 : K.lookup f2 = some ⟨oc2, od2, .func (PySem.W.fnOf "side_ends" "side_ends" (defArgs s_side_ends) (defBody s_side_ends) (defScope s_side_ends) .none kV2 dc2 pm2 an2 cd2 ct2), sl2⟩) (c2 : PySem.W.codeIn K cd2 "side_ends" = true) (k2 : PySem.W.keepIn K (.ref f2) = true)
    (a3 : PySem.W.nsIn K mainGlobals "run_together" = some (some (.ref f3))) (l3 : K.lookup f3 = some ⟨oc3, od3, .func (PySem.W.fnOf "run_together" "run_together" (defArgs s_run_together) (defBody s_run_together) (defScope s_run_together) .none kV3 dc3 pm3 an3 cd3 ct3), sl3⟩) (c3 : PySem.W.codeIn K cd3 "run_together" = true) (k3 : PySem.W.keepIn K (.ref f3) = true)
    (a4 : PySem.W.nsIn K mainGlobals "have_common_point" = some (some (.ref f4))) (l4 : K.lookup f4 = some ⟨oc4, od4, .func (PySem.W.fnOf "have_common_point" "have_common_point" (defArgs s_have_common_point) (defBody s_have_common_point) (defScope s_have_common_point) .none kV4 dc4 pm4 an4 cd4 ct4), sl4⟩) (c4 : PySem.W.codeIn K cd4 "have_common_point" = true) (k4 : PySem.W.keepIn K (.ref f4) = true)
    (a5 : PySem.W.nsIn K mainGlobals "spans_meet" = some (some (.ref f5))) (l5 : K.lookup f5 = some ⟨oc5, od5, .func (PySem.W.fnOf "spans_meet" "spans_meet" (defArgs s_spans_meet) (defBody s_spans_meet) (defScope s_spans_meet) .none kV5 dc5 pm5 an5 cd5 ct5), sl5⟩) (c5 : PySem.W.codeIn K cd5 "spans_meet" = true) (k5 : PySem.W.keepIn K (.ref f5) = true)
    (a6 : PySem.W.nsIn K mainGlobals "reaches_across" = some (some (.ref f6))) (l6 : K.lookup f6 = some ⟨oc6, od6, .func (PySem.W.fnOf "reaches_across" "reaches_across" (defArgs s_reaches_across) (defBody s_reaches_across) (defScope s_reaches_across) .none kV6 dc6 pm6 an6 cd6 ct6), sl6⟩) (c6 : PySem.W.codeIn K cd6 "reaches_across" = true) (k6 : PySem.W.keepIn K (.ref f6) = true)
    (a7 : PySem.W.nsIn K mainGlobals "turn" = some (some (.ref f7))) (l7 : K.lookup f7 = some ⟨oc7, od7, .func (PySem.W.fnOf "turn" "turn" (defArgs s_turn) (defBody s_turn) (defScope s_turn) .none kV7 dc7 pm7 an7 cd7 ct7), sl7⟩) (c7 : PySem.W.codeIn K cd7 "turn" = true) (k7 : PySem.W.keepIn K (.ref f7) = true)
    (a8 : PySem.W.nsIn K mainGlobals "along" = some (some (.ref f8))) (l8 : K.lookup f8 = some ⟨oc8, od8, .func (PySem.W.fnOf "along" "along" (defArgs s_along) (defBody s_along) (defScope s_along) .none kV8 dc8 pm8 an8 cd8 ct8), sl8⟩) (c8 : PySem.W.codeIn K cd8 "along" = true) (k8 : PySem.W.keepIn K (.ref f8) = true)
    (a9 : PySem.W.nsIn K mainGlobals "_law_whole" = some (some (.ref f9))) (l9 : K.lookup f9 = some ⟨oc9, od9, .func (PySem.W.fnOf "_law_whole" "_law_whole" (defArgs s__law_whole) (defBody s__law_whole) (defScope s__law_whole) .none kV9 dc9 pm9 an9 cd9 ct9), sl9⟩) (c9 : PySem.W.codeIn K cd9 "_law_whole" = true) (k9 : PySem.W.keepIn K (.ref f9) = true)
    (a10 : PySem.W.nsIn K mainGlobals "_law_at" = some (some (.ref f10))) (l10 : K.lookup f10 = some ⟨oc10, od10, .func (PySem.W.fnOf "_law_at" "_law_at" (defArgs s__law_at) (defBody s__law_at) (defScope s__law_at) .none kV10 dc10 pm10 an10 cd10 ct10), sl10⟩) (c10 : PySem.W.codeIn K cd10 "_law_at" = true) (k10 : PySem.W.keepIn K (.ref f10) = true)
    (a11 : PySem.W.nsIn K mainGlobals "_law_stir" = some (some (.ref f11))) (l11 : K.lookup f11 = some ⟨oc11, od11, .func (PySem.W.fnOf "_law_stir" "_law_stir" (defArgs s__law_stir) (defBody s__law_stir) (defScope s__law_stir) .none kV11 dc11 pm11 an11 cd11 ct11), sl11⟩) (c11 : PySem.W.codeIn K cd11 "_law_stir" = true) (k11 : PySem.W.keepIn K (.ref f11) = true)
    (a12 : PySem.W.nsIn K mainGlobals "_law_gcd" = some (some (.ref f12))) (l12 : K.lookup f12 = some ⟨oc12, od12, .func (PySem.W.fnOf "_law_gcd" "_law_gcd" (defArgs s__law_gcd) (defBody s__law_gcd) (defScope s__law_gcd) .none kV12 dc12 pm12 an12 cd12 ct12), sl12⟩) (c12 : PySem.W.codeIn K cd12 "_law_gcd" = true) (k12 : PySem.W.keepIn K (.ref f12) = true)
    (a13 : PySem.W.nsIn K mainGlobals "_law_numbers" = some (some (.ref f13))) (l13 : K.lookup f13 = some ⟨oc13, od13, .func (PySem.W.fnOf "_law_numbers" "_law_numbers" (defArgs s__law_numbers) (defBody s__law_numbers) (defScope s__law_numbers) .none kV13 dc13 pm13 an13 cd13 ct13), sl13⟩) (c13 : PySem.W.codeIn K cd13 "_law_numbers" = true) (k13 : PySem.W.keepIn K (.ref f13) = true)
    (a14 : PySem.W.nsIn K mainGlobals "_law_rows" = some (some (.ref f14))) (l14 : K.lookup f14 = some ⟨oc14, od14, .func (PySem.W.fnOf "_law_rows" "_law_rows" (defArgs s__law_rows) (defBody s__law_rows) (defScope s__law_rows) .none kV14 dc14 pm14 an14 cd14 ct14), sl14⟩) (c14 : PySem.W.codeIn K cd14 "_law_rows" = true) (k14 : PySem.W.keepIn K (.ref f14) = true)
    (a15 : PySem.W.nsIn K mainGlobals "_law_strides" = some (some (.ref f15))) (l15 : K.lookup f15 = some ⟨oc15, od15, .func (PySem.W.fnOf "_law_strides" "_law_strides" (defArgs s__law_strides) (defBody s__law_strides) (defScope s__law_strides) .none kV15 dc15 pm15 an15 cd15 ct15), sl15⟩) (c15 : PySem.W.codeIn K cd15 "_law_strides" = true) (k15 : PySem.W.keepIn K (.ref f15) = true)
    (a16 : PySem.W.nsIn K mainGlobals "_law_simple" = some (some (.ref f16))) (l16 : K.lookup f16 = some ⟨oc16, od16, .func (PySem.W.fnOf "_law_simple" "_law_simple" (defArgs s__law_simple) (defBody s__law_simple) (defScope s__law_simple) .none kV16 dc16 pm16 an16 cd16 ct16), sl16⟩) (c16 : PySem.W.codeIn K cd16 "_law_simple" = true) (k16 : PySem.W.keepIn K (.ref f16) = true)
    (a17 : PySem.W.nsIn K mainGlobals "_law_swung" = some (some (.ref f17))) (l17 : K.lookup f17 = some ⟨oc17, od17, .func (PySem.W.fnOf "_law_swung" "_law_swung" (defArgs s__law_swung) (defBody s__law_swung) (defScope s__law_swung) .none kV17 dc17 pm17 an17 cd17 ct17), sl17⟩) (c17 : PySem.W.codeIn K cd17 "_law_swung" = true) (k17 : PySem.W.keepIn K (.ref f17) = true)
    (a18 : PySem.W.nsIn K mainGlobals "_law_parted" = some (some (.ref f18))) (l18 : K.lookup f18 = some ⟨oc18, od18, .func (PySem.W.fnOf "_law_parted" "_law_parted" (defArgs s__law_parted) (defBody s__law_parted) (defScope s__law_parted) .none kV18 dc18 pm18 an18 cd18 ct18), sl18⟩) (c18 : PySem.W.codeIn K cd18 "_law_parted" = true) (k18 : PySem.W.keepIn K (.ref f18) = true)
    (a19 : PySem.W.nsIn K mainGlobals "_law_way" = some (some (.ref f19))) (l19 : K.lookup f19 = some ⟨oc19, od19, .func (PySem.W.fnOf "_law_way" "_law_way" (defArgs s__law_way) (defBody s__law_way) (defScope s__law_way) .none kV19 dc19 pm19 an19 cd19 ct19), sl19⟩) (c19 : PySem.W.codeIn K cd19 "_law_way" = true) (k19 : PySem.W.keepIn K (.ref f19) = true)
    (a20 : PySem.W.nsIn K mainGlobals "_law_crossed" = some (some (.ref f20))) (l20 : K.lookup f20 = some ⟨oc20, od20, .func (PySem.W.fnOf "_law_crossed" "_law_crossed" (defArgs s__law_crossed) (defBody s__law_crossed) (defScope s__law_crossed) .none kV20 dc20 pm20 an20 cd20 ct20), sl20⟩) (c20 : PySem.W.codeIn K cd20 "_law_crossed" = true) (k20 : PySem.W.keepIn K (.ref f20) = true)
    (a21 : PySem.W.nsIn K mainGlobals "_law_first" = some (some (.ref f21))) (l21 : K.lookup f21 = some ⟨oc21, od21, .func (PySem.W.fnOf "_law_first" "_law_first" (defArgs s__law_first) (defBody s__law_first) (defScope s__law_first) .none kV21 dc21 pm21 an21 cd21 ct21), sl21⟩) (c21 : PySem.W.codeIn K cd21 "_law_first" = true) (k21 : PySem.W.keepIn K (.ref f21) = true)
    (a22 : PySem.W.nsIn K mainGlobals "_law_drawn_line" = some (some (.ref f22))) (l22 : K.lookup f22 = some ⟨oc22, od22, .func (PySem.W.fnOf "_law_drawn_line" "_law_drawn_line" (defArgs s__law_drawn_line) (defBody s__law_drawn_line) (defScope s__law_drawn_line) .none kV22 dc22 pm22 an22 cd22 ct22), sl22⟩) (c22 : PySem.W.codeIn K cd22 "_law_drawn_line" = true) (k22 : PySem.W.keepIn K (.ref f22) = true)
    (a23 : PySem.W.nsIn K mainGlobals "_law_spoiled" = some (some (.ref f23))) (l23 : K.lookup f23 = some ⟨oc23, od23, .func (PySem.W.fnOf "_law_spoiled" "_law_spoiled" (defArgs s__law_spoiled) (defBody s__law_spoiled) (defScope s__law_spoiled) .none kV23 dc23 pm23 an23 cd23 ct23), sl23⟩) (c23 : PySem.W.codeIn K cd23 "_law_spoiled" = true) (k23 : PySem.W.keepIn K (.ref f23) = true)
    (a24 : PySem.W.nsIn K mainGlobals "law" = some (some (.ref f24))) (l24 : K.lookup f24 = some ⟨oc24, od24, .func (PySem.W.fnOf "law" "law" (defArgs s_law) (defBody s_law) (defScope s_law) .none kV24 dc24 pm24 an24 cd24 ct24), sl24⟩) (c24 : PySem.W.codeIn K cd24 "law" = true) (k24 : PySem.W.keepIn K (.ref f24) = true)
    (z_abs : PySem.W.nsIn K mainGlobals "abs" = some none)
    (z_bool : PySem.W.nsIn K mainGlobals "bool" = some none)
    (z_int : PySem.W.nsIn K mainGlobals "int" = some none)
    (z_isinstance : PySem.W.nsIn K mainGlobals "isinstance" = some none)
    (z_len : PySem.W.nsIn K mainGlobals "len" = some none)
    (z_list : PySem.W.nsIn K mainGlobals "list" = some none)
    (z_max : PySem.W.nsIn K mainGlobals "max" = some none)
    (z_min : PySem.W.nsIn K mainGlobals "min" = some none)
    (z_range : PySem.W.nsIn K mainGlobals "range" = some none)
    (z_sorted : PySem.W.nsIn K mainGlobals "sorted" = some none)
    (z_tuple : PySem.W.nsIn K mainGlobals "tuple" = some none) :
    ∃ fd : FuncData, (∀ (s : Shared) (v : Value), BindsTo s fd ⟨[v], []⟩ [("_law_script", v)]) ∧ ∀ base : Heap, K.In base → base.Ns mainGlobals mg → FnOk l.prog w K mg base CX0 12 fa fd ["_law_script"] (spG (G0 K) (run false fns sub0 whileL 12) (frOf fns) 24) := by
  have e := hfa.symm.trans (PySem.W.mg_of X Gn a24)
  cases e
  have F0 := fun_mk (st := s_crossing) l0 c0 k0
  have B0 := F0.binds (ps := ["corners"]) fun _ _ _ _ _ _ us hl => match us, hl with | [_], _ => rfl
  have F1 := fun_mk (st := s_sides_cross) l1 c1 k1
  have B1 := F1.binds (ps := ["corners", "i", "j"]) fun _ _ _ _ _ _ us hl => match us, hl with | [_, _, _], _ => rfl
  have F2 := fun_mk (st := s_side_ends) l2 c2 k2
  have B2 := F2.binds (ps := ["corners", "k"]) fun _ _ _ _ _ _ us hl => match us, hl with | [_, _], _ => rfl
  have F3 := fun_mk (st := s_run_together) l3 c3 k3
  have B3 := F3.binds (ps := ["corner", "one", "two"]) fun _ _ _ _ _ _ us hl => match us, hl with | [_, _, _], _ => rfl
  have F4 := fun_mk (st := s_have_common_point) l4 c4 k4
  have B4 := F4.binds (ps := ["one", "two"]) fun _ _ _ _ _ _ us hl => match us, hl with | [_, _], _ => rfl
  have F5 := fun_mk (st := s_spans_meet) l5 c5 k5
  have B5 := F5.binds (ps := ["one", "two", "axis"]) fun _ _ _ _ _ _ us hl => match us, hl with | [_, _, _], _ => rfl
  have F6 := fun_mk (st := s_reaches_across) l6 c6 k6
  have B6 := F6.binds (ps := ["side", "line"]) fun _ _ _ _ _ _ us hl => match us, hl with | [_, _], _ => rfl
  have F7 := fun_mk (st := s_turn) l7 c7 k7
  have B7 := F7.binds (ps := ["start", "one", "two"]) fun _ _ _ _ _ _ us hl => match us, hl with | [_, _, _], _ => rfl
  have F8 := fun_mk (st := s_along) l8 c8 k8
  have B8 := F8.binds (ps := ["start", "one", "two"]) fun _ _ _ _ _ _ us hl => match us, hl with | [_, _, _], _ => rfl
  have F9 := fun_mk (st := s__law_whole) l9 c9 k9
  have B9 := F9.binds (ps := ["_law_found"]) fun _ _ _ _ _ _ us hl => match us, hl with | [_], _ => rfl
  have F10 := fun_mk (st := s__law_at) l10 c10 k10
  have B10 := F10.binds (ps := ["_law_script", "_law_k"]) fun _ _ _ _ _ _ us hl => match us, hl with | [_, _], _ => rfl
  have F11 := fun_mk (st := s__law_stir) l11 c11 k11
  have B11 := F11.binds (ps := ["_law_script", "_law_many"]) fun _ _ _ _ _ _ us hl => match us, hl with | [_, _], _ => rfl
  have F12 := fun_mk (st := s__law_gcd) l12 c12 k12
  have B12 := F12.binds (ps := ["_law_one", "_law_two"]) fun _ _ _ _ _ _ us hl => match us, hl with | [_, _], _ => rfl
  have F13 := fun_mk (st := s__law_numbers) l13 c13 k13
  have B13 := F13.binds (ps := ["_law_found", "_law_due"]) fun _ _ _ _ _ _ us hl => match us, hl with | [_, _], _ => rfl
  have F14 := fun_mk (st := s__law_rows) l14 c14 k14
  have B14 := F14.binds (ps := ["_law_found", "_law_due"]) fun _ _ _ _ _ _ us hl => match us, hl with | [_, _], _ => rfl
  have F15 := fun_mk (st := s__law_strides) l15 c15 k15
  have B15 := F15.binds (ps := ["_law_row", "_law_at_here", "_law_many"]) fun _ _ _ _ _ _ us hl => match us, hl with | [_, _, _], _ => rfl
  have F16 := fun_mk (st := s__law_simple) l16 c16 k16
  have B16 := F16.binds (ps := ["_law_row", "_law_many"]) fun _ _ _ _ _ _ us hl => match us, hl with | [_, _], _ => rfl
  have F17 := fun_mk (st := s__law_swung) l17 c17 k17
  have B17 := F17.binds (ps := ["_law_line", "_law_cell"]) fun _ _ _ _ _ _ us hl => match us, hl with | [_, _], _ => rfl
  have F18 := fun_mk (st := s__law_parted) l18 c18 k18
  have B18 := F18.binds (ps := ["_law_a", "_law_b", "_law_c", "_law_d"]) fun _ _ _ _ _ _ us hl => match us, hl with | [_, _, _, _], _ => rfl
  have F19 := fun_mk (st := s__law_way) l19 c19 k19
  have B19 := F19.binds (ps := ["_law_one", "_law_two"]) fun _ _ _ _ _ _ us hl => match us, hl with | [_, _], _ => rfl
  have F20 := fun_mk (st := s__law_crossed) l20 c20 k20
  have B20 := F20.binds (ps := ["_law_line", "_law_i", "_law_j"]) fun _ _ _ _ _ _ us hl => match us, hl with | [_, _, _], _ => rfl
  have F21 := fun_mk (st := s__law_first) l21 c21 k21
  have B21 := F21.binds (ps := ["_law_line"]) fun _ _ _ _ _ _ us hl => match us, hl with | [_], _ => rfl
  have F22 := fun_mk (st := s__law_drawn_line) l22 c22 k22
  have B22 := F22.binds (ps := ["_law_row", "_law_many"]) fun _ _ _ _ _ _ us hl => match us, hl with | [_, _], _ => rfl
  have F23 := fun_mk (st := s__law_spoiled) l23 c23 k23
  have B23 := F23.binds (ps := ["_law_row", "_law_many"]) fun _ _ _ _ _ _ us hl => match us, hl with | [_, _], _ => rfl
  have F24 := fun_mk (st := s_law) l24 c24 k24
  have B24 := F24.binds (ps := ["_law_script"]) fun _ _ _ _ _ _ us hl => match us, hl with | [_], _ => rfl
  let T : Txt K mg := ⟨f0, _, F0, B0, PySem.W.mg_of X Gn a0, k0, f1, _, F1, B1, PySem.W.mg_of X Gn a1, k1, f2, _, F2, B2, PySem.W.mg_of X Gn a2, k2, f3, _, F3, B3, PySem.W.mg_of X Gn a3, k3, f4, _, F4, B4, PySem.W.mg_of X Gn a4, k4, f5, _, F5, B5, PySem.W.mg_of X Gn a5, k5, f6, _, F6, B6, PySem.W.mg_of X Gn a6, k6, f7, _, F7, B7, PySem.W.mg_of X Gn a7, k7, f8, _, F8, B8, PySem.W.mg_of X Gn a8, k8, f9, _, F9, B9, PySem.W.mg_of X Gn a9, k9, f10, _, F10, B10, PySem.W.mg_of X Gn a10, k10, f11, _, F11, B11, PySem.W.mg_of X Gn a11, k11, f12, _, F12, B12, PySem.W.mg_of X Gn a12, k12, f13, _, F13, B13, PySem.W.mg_of X Gn a13, k13, f14, _, F14, B14, PySem.W.mg_of X Gn a14, k14, f15, _, F15, B15, PySem.W.mg_of X Gn a15, k15, f16, _, F16, B16, PySem.W.mg_of X Gn a16, k16, f17, _, F17, B17, PySem.W.mg_of X Gn a17, k17, f18, _, F18, B18, PySem.W.mg_of X Gn a18, k18, f19, _, F19, B19, PySem.W.mg_of X Gn a19, k19, f20, _, F20, B20, PySem.W.mg_of X Gn a20, k20, f21, _, F21, B21, PySem.W.mg_of X Gn a21, k21, f22, _, F22, B22, PySem.W.mg_of X Gn a22, k22, f23, _, F23, B23, PySem.W.mg_of X Gn a23, k23, fa, _, F24, B24, PySem.W.mg_of X Gn a24, k24, PySem.W.mg_none_of X Gn z_abs, PySem.W.mg_none_of X Gn z_bool, PySem.W.mg_none_of X Gn z_int, PySem.W.mg_none_of X Gn z_isinstance, PySem.W.mg_none_of X Gn z_len, PySem.W.mg_none_of X Gn z_list, PySem.W.mg_none_of X Gn z_max, PySem.W.mg_none_of X Gn z_min, PySem.W.mg_none_of X Gn z_range, PySem.W.mg_none_of X Gn z_sorted, PySem.W.mg_none_of X Gn z_tuple⟩
  exact ⟨PySem.W.fnOf "law" "law" (defArgs s_law) (defBody s_law) (defScope s_law) .none kV24 dc24 pm24 an24 cd24 ct24, fun s v => .of_eq rfl, fun base _ _ => (all (base := base) (P := l.prog) (w := w) (G := G0 K) T 12).o_law⟩
theorem mem_look : ∀ {K : List (Addr × Obj)} {a : Addr} {o : Obj}, K.lookup a = some o → (a, o) ∈ K
  | [], a, o, h => by cases h
  | (b, u) :: r, a, o, h => by
    rw [List.lookup_cons] at h
    split at h
    · rename_i hb
      cases h
      rw [beq_iff_eq.mp hb]
      exact List.mem_cons_self
    · exact List.mem_cons_of_mem _ (mem_look h)
def noLst (K : PySem.W.Frag) : Bool := K.all fun p => match p.2.cls with | .type n => n != "list" | _ => true
theorem noLst_no {K : PySem.W.Frag} (h : noLst K = true) {a : Addr} {o : Obj} (e : K.lookup a = some o) (hc : o.cls = .type "list") : False := by
  have hm := mem_look e
  have q := List.all_eq_true.mp h _ hm
  rw [show (a, o).2.cls = .type "list" from hc] at q
  simp at q
theorem reps_ints {G : Gx} {w : Wo} {H : Hp} : ∀ ns : List Int, Reps G w H (ns.map T.int) (ns.map V.int)
  | [] => rfl
  | n :: r => ⟨.int n, _, rfl, rfl, reps_ints r⟩
theorem walk (M : Math) {l : PySem.W.OpenLaw} {q : Program} {loose : List Str} {XP : (Str → Option Value) → Heap → Prop} {YP : World → Heap → Prop} {d : DefRec} {K : Params → PySem.W.Frag} (hn : l.most = some 63) (hdf : d.params.defaults = [])
    (hY : ∀ (w : World) (h : Heap), YP w h → (K w.params).In h) (hK : ∀ w : World, noLst (K w.params) = true)
    (F : ∀ (w : World) (mg : Str → Option Value) (fa : Addr) (h : Heap), (K w.params).In h → h.Ns mainGlobals mg → mg d.name = some (.ref fa) →
      ∃ fd : FuncData, (∀ (s : Shared) (u : Value), BindsTo s fd ⟨[u], []⟩ [("_law_script", u)]) ∧ ∀ base : Heap, (K w.params).In base → base.Ns mainGlobals mg → FnOk l.prog w (K w.params) mg base CX0 12 fa fd ["_law_script"] (spG (G0 (K w.params)) (run false fns sub0 whileL 12) (frOf fns) 24)) :
    PySem.W.WalkO q loose XP YP l.row.toRowW d [] (fun f vs => PySem.call f vs) := by
  refine L2.walk_of (n := 63) (k := 12) (x := "_law_script") (CX := fun _ => CX0) (sp := fun w => spG (G0 (K w.params)) (run false fns sub0 whileL 12) (frOf fns) 24) hn (by decide) hdf ⟨rfl, by decide, by decide⟩ hY F (fun w H a ns hl hO hS => ?_) fun _ _ _ _ _ z => z
  have hR : Rd H a (.lst (ns.map V.int)) := hS.elim id fun ⟨o, _, _, e, hc, _⟩ => (noLst_no (hK w) e hc).elim
  obtain ⟨s, e⟩ := M ns hl
  refine ⟨⟨0, fun _ => 0, fun b => b = a⟩, [], [.val (.lst (ns.map .int))], ⟨rfl, fun l m h => absurd h (Nat.not_lt_zero _), fun l h => absurd h (Nat.not_lt_zero _), fun l c h => by simp at h, fun b hb => ⟨ns.map V.int, by have hb : b = a := hb; subst hb; exact hR⟩⟩, ⟨.ref a, [], rfl, ⟨a, _, rfl, rfl, hR, reps_ints ns⟩, rfl⟩, ?_⟩
  rw [e]
  exact ⟨fun _ w' H' v _ _ r => r, fun z => by cases z⟩
end Pg
end IP

end
section
set_option Elab.async false
set_option linter.all false
set_option maxRecDepth 100000
/-! steps of the small language on written data, for simp -/
namespace IP
open L2
theorem mulB_small {i j : Int} (h : i.natAbs < 2 ^ 64) : mulB i j = true := by
  unfold mulB
  simp [h]
section
variable {x f : Bool} {σ : Fr} {s : Sto} {i j : Int} {ts us : List T} {t a b c d : T} {r : R}
@[simp] theorem leave_ret : leave x false (.ret r s) = .ok r s := rfl
@[simp] theorem leave_retO : leave x true (.retO ts s) = .ok (.val (.lst ts)) s := rfl
@[simp] theorem leave_next : leave x false (.next σ s) = .ok (.val .non) s := rfl
@[simp] theorem onB_bl (b : Bool) (m n : Res R) : onB (.val (.bl b)) m n = if b = true then m else n := by cases b <;> rfl
@[simp] theorem onBS_bl (b : Bool) (m n : SR) : onBS (.val (.bl b)) m n = if b = true then m else n := by cases b <;> rfl
@[simp] theorem onI_int (g : Int → Res R) : onI (.val (.int i)) g = g i := rfl
@[simp] theorem onV_val (g : T → Res (List T)) : onV (.val t) g = g t := rfl
@[simp] theorem onL_lst (g : List T → Res R) : onL (.val (.lst ts)) g = g ts := rfl
@[simp] theorem onO_some {α β : Type} (v : α) (g : α → Res β) : onO (some v) g = g v := rfl
@[simp] theorem int_int : (R.val (.int i)).int? = some i := rfl
@[simp] theorem val_val : (R.val t).val? = some t := rfl
@[simp] theorem val_bor : (R.bor ts).val? = none := rfl
@[simp] theorem lst_lst : (R.val (.lst ts)).lst? = some ts := rfl
@[simp] theorem seq_lst : (R.val (.lst ts)).seq = some ts := rfl
@[simp] theorem seq_bor : (R.bor ts).seq = some ts := rfl
@[simp] theorem sq2_lst : (R.val (.lst ts)).sq2 = some ts := rfl
@[simp] theorem sq2_tup : (R.val (.tup ts)).sq2 = some ts := rfl
@[simp] theorem sq2_bor : (R.bor ts).sq2 = some ts := rfl
@[simp] theorem sq3_lst : (R.val (.lst ts)).sq3 = some ts := rfl
@[simp] theorem sq3_tup : (R.val (.tup ts)).sq3 = some ts := rfl
@[simp] theorem tru_bl (b : Bool) : tru (.val (.bl b)) = some b := rfl
@[simp] theorem tru_int : tru (.val (.int i)) = some (i != 0) := rfl
@[simp] theorem one_ok : one (.ok (.val t) s) = .ok (some t) s := rfl
@[simp] theorem st_ite {p : Prop} [Decidable p] (m n : Res R) (k : R → Sto → SR) : (if p then m else n).st σ k = if p then m.st σ k else n.st σ k := by split <;> rfl
@[simp] theorem bind_ite {α β : Type} {p : Prop} [Decidable p] (m n : Res α) (k : α → Sto → Res β) : (if p then m else n).bind k = if p then m.bind k else n.bind k := by split <;> rfl
@[simp] theorem leave_ite {p : Prop} [Decidable p] (m n : SR) : leave x f (if p then m else n) = if p then leave x f m else leave x f n := by split <;> rfl
@[simp] theorem sbind_ite {p : Prop} [Decidable p] (m n : SR) (k : Fr → Sto → SR) : (if p then m else n).bind k = if p then m.bind k else n.bind k := by split <;> rfl
@[simp] theorem unlock_ite {p : Prop} [Decidable p] (m n : SR) (i : Nat) : (if p then m else n).unlock i = if p then m.unlock i else n.unlock i := by split <;> rfl
@[simp] theorem unlock_ret (v : R) (i : Nat) : (SR.ret v s).unlock i = .ret v s := rfl
@[simp] theorem unlock_next (i : Nat) : (SR.next σ s).unlock i = .next (IP.unlock σ i) s := rfl
@[simp] theorem op_add : opR .add (.val (.int i)) (.val (.int j)) = some (.val (.int (i + j))) := rfl
@[simp] theorem op_sub : opR .sub (.val (.int i)) (.val (.int j)) = some (.val (.int (i - j))) := rfl
theorem op_mul (h : mulB i j = true) : opR .mul (.val (.int i)) (.val (.int j)) = some (.val (.int (i * j))) := by simp [opR, opI, h]
theorem op_mod (h : 0 < j) : opR .mod (.val (.int i)) (.val (.int j)) = some (.val (.int (Int.fmod i j))) := by simp [opR, opI, show j ≠ 0 by omega]
theorem big_64 : (2 : Nat) ^ 64 < big := by unfold big; decide +kernel
theorem op_fdiv (h : 0 < j) (hb : j < 2 ^ 64) : opR .fdiv (.val (.int i)) (.val (.int j)) = some (.val (.int (Int.fdiv i j))) := by
  have : j.natAbs < big := Nat.lt_trans (by omega) big_64
  simp [opR, opI, show j ≠ 0 by omega, this]
@[simp] theorem cm_lt : cmpR .lt (.val (.int i)) (.val (.int j)) = some (decide (i < j)) := rfl
@[simp] theorem cm_le : cmpR .le (.val (.int i)) (.val (.int j)) = some (decide (i ≤ j)) := rfl
@[simp] theorem cm_gt : cmpR .gt (.val (.int i)) (.val (.int j)) = some (decide (j < i)) := rfl
@[simp] theorem cm_ge : cmpR .ge (.val (.int i)) (.val (.int j)) = some (decide (j ≤ i)) := rfl
@[simp] theorem cm_eq : cmpR .eq (.val a) (.val b) = eqD 8 a b := rfl
@[simp] theorem cm_ne : cmpR .ne (.val a) (.val b) = (eqD 8 a b).map (!·) := rfl
@[simp] theorem cm_isN : cmpR .isN r (.val .non) = some r.isNon := rfl
@[simp] theorem cm_notN : cmpR .notN r (.val .non) = some (!r.isNon) := rfl
@[simp] theorem eq_int : eqD 8 (.int i) (.int j) = some (i == j) := by simp [eqD]
@[simp] theorem sub_2a : subR (.val (.tup [a, b])) 0 = some a := rfl
@[simp] theorem sub_2b : subR (.val (.tup [a, b])) 1 = some b := rfl
theorem sub_at {n : Nat} (h : ts[n]? = some t) : subR (.val (.lst ts)) (n : Int) = some t := by
  have hl := (List.getElem?_eq_some_iff.mp h).1
  have h2 := (List.getElem?_eq_some_iff.mp h).2
  simp [subR, L2.atI, L2.ixN, hl, h2]
theorem sub_atB {n : Nat} (h : ts[n]? = some t) : subR (.bor ts) (n : Int) = some t := by
  have hl := (List.getElem?_eq_some_iff.mp h).1
  have h2 := (List.getElem?_eq_some_iff.mp h).2
  simp [subR, L2.atI, L2.ixN, hl, h2]
@[simp] theorem b1_len_lst : b1R .len (.val (.lst ts)) = some (.val (.int ts.length)) := rfl
@[simp] theorem b1_len_tup : b1R .len (.val (.tup ts)) = some (.val (.int ts.length)) := rfl
@[simp] theorem b1_len_bor : b1R .len (.bor ts) = some (.val (.int ts.length)) := rfl
@[simp] theorem b1_abs : b1R .abs (.val (.int i)) = some (.val (.int (if i < 0 then -i else i))) := rfl
@[simp] theorem b1_list : b1R .list (.val (.lst ts)) = some (.val (.lst ts)) := rfl
@[simp] theorem b1_sorted2 : b1R .sorted (.val (.lst [.int i, .int j])) = some (.val (.lst [.int (min i j), .int (max i j)])) := by
  by_cases h : j < i
  · simp [b1R, asInts, sortI, insI, h, show min i j = j by omega, show max i j = i by omega]
  · simp [b1R, asInts, sortI, insI, h, show min i j = i by omega, show max i j = j by omega]
@[simp] theorem b1_max2 : b1R .max (.val (.lst [.int i, .int j])) = some (.val (.int (max i j))) := by
  have h : b1R .max (.val (.lst [.int i, .int j])) = some (.val (.int (if j > i then j else i))) := rfl
  rw [h, show (if j > i then j else i) = max i j by split <;> omega]
@[simp] theorem b1_min2 : b1R .min (.val (.lst [.int i, .int j])) = some (.val (.int (min i j))) := by
  have h : b1R .min (.val (.lst [.int i, .int j])) = some (.val (.int (if j < i then j else i))) := rfl
  rw [h, show (if j < i then j else i) = min i j by split <;> omega]
@[simp] theorem sub_l2a : subR (.val (.lst [a, b])) 0 = some a := rfl
@[simp] theorem sub_l2b : subR (.val (.lst [a, b])) 1 = some b := rfl
end
/-! ### loops -/
theorem ex_for {C : Cf} {g : Tg} {it : E} {b : List S} {σ : Fr} {s s1 : Sto} {ts : List T} (h : ev C it .j σ s = .ok (.val (.lst ts)) s1) (hit : ∀ i, it ≠ .var i) : ex C (.for_ g it b) σ s = forL g (fun σ s => exs C b σ s) ts σ s1 := by
  have e : ex C (.for_ g it b) σ s = (ev C it .j σ s).st σ fun x s1 => onS x.lst? fun ts => forL g (fun σ s => exs C b σ s) ts σ s1 := by
    cases it <;> first | rfl | exact absurd rfl (hit _)
  rw [e, h]
  rfl
theorem lim_ge : 1000 ≤ lim := by decide
theorem lim_ge' : (1000 : Int) ≤ (lim : Int) := Int.ofNat_le.mpr lim_ge
theorem rng_a {j : Int} (h : j ≤ 1000) : decide (j ≤ (lim : Int)) = true := decide_eq_true (Int.le_trans h lim_ge')
theorem rng_b {n : Nat} (h : n ≤ 1000) : bnd (n : Int) = true := by
  unfold bnd
  simp
  omega
theorem ev_rng1' {C : Cf} {a : E} {σ : Fr} {s s1 : Sto} {j : Int} (h : ev C a .v σ s = .ok (.val (.int j)) s1) : ev C (.rng1 a) .j σ s = if bnd j && decide (j ≤ lim) then .ok (.val (.lst (rangeT 0 j))) s1 else .stuck := by
  unfold ev
  rw [h]
  rfl
theorem ev_rng2' {C : Cf} {a b : E} {σ : Fr} {s s1 s2 : Sto} {i j : Int} (h : ev C a .v σ s = .ok (.val (.int i)) s1) (h' : ev C b .v σ s1 = .ok (.val (.int j)) s2) : ev C (.rng2 a b) .j σ s = if bnd i && bnd j && decide (j - i ≤ lim) then .ok (.val (.lst (rangeT i j))) s2 else .stuck := by
  unfold ev
  rw [h]
  show (ev C b .v σ s1).bind _ = _
  rw [h']
  rfl
theorem ite_t {α : Type} {b : Bool} {x y : α} (h : b = true) : (if b then x else y) = x := by rw [h]; rfl
theorem and_t {a b : Bool} (h : a = true) (h' : b = true) : (a && b) = true := by rw [h, h']; rfl
theorem ev_rng1 {C : Cf} {a : E} {σ : Fr} {s s1 : Sto} {n : Nat} (h : ev C a .v σ s = .ok (.val (.int (n : Int))) s1) (hn : n ≤ 1000) : ev C (.rng1 a) .j σ s = .ok (.val (.lst (rangeT 0 n))) s1 :=
  (ev_rng1' h).trans (ite_t (and_t (rng_b hn) (rng_a (Int.ofNat_le.mpr hn))))
theorem ev_rng2 {C : Cf} {a b : E} {σ : Fr} {s s1 s2 : Sto} {m n : Nat} (h : ev C a .v σ s = .ok (.val (.int (m : Int))) s1) (h' : ev C b .v σ s1 = .ok (.val (.int (n : Int))) s2) (hm : m ≤ 1000) (hn : n ≤ 1000) : ev C (.rng2 a b) .j σ s = .ok (.val (.lst (rangeT m n))) s2 :=
  (ev_rng2' h h').trans (ite_t (and_t (and_t (rng_b hm) (rng_b hn)) (rng_a (by omega))))
theorem evi_rng1' {C : Cf} {a : E} {σ : Fr} {s s1 : Sto} {j : Int} (h : ev C a .v σ s = .ok (.val (.int j)) s1) : ev C (.rng1 a) .i σ s = if bnd j && decide (j ≤ lim) then .ok (.val (.lst (rangeT 0 j))) s1 else .stuck := by
  unfold ev
  rw [h]
  rfl
theorem evi_rng1 {C : Cf} {a : E} {σ : Fr} {s s1 : Sto} {n : Nat} (h : ev C a .v σ s = .ok (.val (.int (n : Int))) s1) (hn : n ≤ 1000) : ev C (.rng1 a) .i σ s = .ok (.val (.lst (rangeT 0 n))) s1 :=
  (evi_rng1' h).trans (ite_t (and_t (rng_b hn) (rng_a (Int.ofNat_le.mpr hn))))
theorem ex_ret {C : Cf} {e : E} {σ : Fr} {s s1 : Sto} {r : R} (h : ev C e .v σ s = .ok r s1) : ex C (.ret e) σ s = .ret r s1 := by unfold ex; rw [h]; rfl
theorem ex_asg {C : Cf} {e : E} {i : Nat} {σ : Fr} {s s1 : Sto} {t : T} (h : ev C e .v σ s = .ok (.val t) s1) : ex C (.asg i e) σ s = .next (put σ i t) s1 := by unfold ex; rw [h]; rfl
theorem mapRes_of {F : T → Sto → Res (Option T)} {s : Sto} {α : Type} (f : α → T) (P : α → Prop) : ∀ ts : List T, (∀ (m : Nat) (t : T), ts[m]? = some t → ∃ x, P x ∧ F t s = .ok (some (f x)) s) → ∃ xs : List α, xs.length = ts.length ∧ (∀ x ∈ xs, P x) ∧ mapRes F ts s = .ok (xs.map f) s
  | [], _ => ⟨[], rfl, by simp, rfl⟩
  | t :: ts, h => by
    obtain ⟨x, hx, e⟩ := h 0 t rfl
    obtain ⟨xs, h1, h2, h3⟩ := mapRes_of f P ts fun m u hm => h (m + 1) u (by simpa using hm)
    refine ⟨x :: xs, by simp [h1], fun y hy => ?_, ?_⟩
    · rcases List.mem_cons.mp hy with rfl | z
      · exact hx
      · exact h2 y z
    · unfold mapRes
      rw [e]
      simp [h3]
theorem ev_comp {C : Cf} {e it : E} {g : Tg} {σ : Fr} {s s1 s2 : Sto} {ts q : List T} (h : ev C it .i σ s = .ok (.val (.lst ts)) s1) (h2 : mapRes (fun t s => onO (bindTg σ g t) fun σ' => one (ev C e .v σ' s)) ts s1 = .ok q s2) : ev C (.comp e g it) .v σ s = .ok (.val (.lst q)) s2 := by
  unfold ev
  rw [h]
  show (mapRes (fun t s => onO (bindTg σ g t) fun σ' => one (ev C e .v σ' s)) ts s1).bind _ = _
  rw [h2]
  rfl
theorem exs_cons {C : Cf} {a : S} {r : List S} {σ : Fr} {s : Sto} : exs C (a :: r) σ s = (ex C a σ s).bind fun σ1 s1 => exs C r σ1 s1 := by simp only [exs]
theorem exs_next {C : Cf} {a : S} {r : List S} {σ σ1 : Fr} {s s1 : Sto} (h : ex C a σ s = .next σ1 s1) : exs C (a :: r) σ s = exs C r σ1 s1 := by rw [exs_cons, h]; rfl
theorem exs_ret {C : Cf} {a : S} {r : List S} {σ : Fr} {s s1 : Sto} {v : R} (h : ex C a σ s = .ret v s1) : exs C (a :: r) σ s = .ret v s1 := by rw [exs_cons, h]; rfl
@[simp] theorem rngM_j (m : Res R) : rngM .j m = m := rfl
@[simp] theorem rngM_i (m : Res R) : rngM .i m = m := rfl
section
variable {g : Tg} {body : Fr → Sto → SR} {s : Sto}
/-- a loop that goes to its end -/
theorem forL_inv (I : Nat → Fr → Prop) : ∀ (ts : List T) (n : Nat) (σ : Fr), I n σ → (∀ (m : Nat) (t : T) (σ : Fr), ts[m]? = some t → I (n + m) σ → ∃ σ1 σ2, bindTg σ g t = some σ1 ∧ body σ1 s = .next σ2 s ∧ I (n + m + 1) σ2) →
    ∃ σ', forL g body ts σ s = .next σ' s ∧ I (n + ts.length) σ'
  | [], n, σ, h, _ => ⟨σ, rfl, h⟩
  | t :: ts, n, σ, h, st => by
    obtain ⟨σ1, σ2, e1, e2, e3⟩ := st 0 t σ rfl h
    obtain ⟨σ', e4, e5⟩ := forL_inv I ts (n + 1) σ2 e3 fun m u σ em hm => by
      obtain ⟨a, b, c1, c2, c3⟩ := st (m + 1) u σ (by simpa using em) (by rw [show n + (m + 1) = n + 1 + m by omega]; exact hm)
      exact ⟨a, b, c1, c2, by rw [show n + 1 + m + 1 = n + (m + 1) + 1 by omega]; exact c3⟩
    refine ⟨σ', ?_, by rw [List.length_cons, show n + (ts.length + 1) = n + 1 + ts.length by omega]; exact e5⟩
    show onS (bindTg σ g t) _ = _
    rw [e1]
    show (body σ1 s).bind _ = _
    rw [e2]
    exact e4
/-- the first turn that hands something back -/
def firstN {α : Type} (q : Nat → Option α) : Nat → Nat → Option α
  | _, 0 => none
  | n, m + 1 => match q n with
    | some v => some v
    | none => firstN q (n + 1) m
theorem forL_first (I : Nat → Fr → Prop) (q : Nat → Option R) : ∀ (ts : List T) (n : Nat) (σ : Fr), I n σ →
    (∀ (m : Nat) (t : T) (σ : Fr), ts[m]? = some t → I (n + m) σ → ∃ σ1, bindTg σ g t = some σ1 ∧ match q (n + m) with
      | some r => body σ1 s = .ret r s
      | none => ∃ σ2, body σ1 s = .next σ2 s ∧ I (n + m + 1) σ2) →
    match firstN q n ts.length with
    | some r => forL g body ts σ s = .ret r s
    | none => ∃ σ', forL g body ts σ s = .next σ' s ∧ I (n + ts.length) σ'
  | [], n, σ, h, _ => ⟨σ, rfl, h⟩
  | t :: ts, n, σ, h, st => by
    obtain ⟨σ1, e1, e2⟩ := st 0 t σ rfl h
    rw [List.length_cons]
    unfold firstN
    cases hq : q n with
    | some r =>
      rw [show n + 0 = n from rfl, hq] at e2
      show onS (bindTg σ g t) _ = _
      rw [e1]
      show (body σ1 s).bind _ = _
      rw [show body σ1 s = _ from e2]
      rfl
    | none =>
      rw [show n + 0 = n from rfl, hq] at e2
      obtain ⟨σ2, e2, e3⟩ := e2
      have ih := forL_first I q ts (n + 1) σ2 e3 fun m u σ em hm => by
        obtain ⟨a, c1, c2⟩ := st (m + 1) u σ (by simpa using em) (by rw [show n + (m + 1) = n + 1 + m by omega]; exact hm)
        refine ⟨a, c1, ?_⟩
        rw [show n + (m + 1) = n + 1 + m by omega] at c2
        exact c2
      have e0 : forL g body (t :: ts) σ s = forL g body ts σ2 s := by
        show onS (bindTg σ g t) _ = _
        rw [e1]
        show (body σ1 s).bind _ = _
        rw [e2]
        rfl
      rw [e0]
      show (match firstN q (n + 1) ts.length with | some r => _ | none => _)
      cases hf : firstN q (n + 1) ts.length with
      | some r => rw [hf] at ih; exact ih
      | none =>
        rw [hf] at ih
        obtain ⟨σ', e4, e5⟩ := ih
        exact ⟨σ', e4, by rw [show n + (ts.length + 1) = n + 1 + ts.length by omega]; exact e5⟩
theorem rangeT_get {i j : Int} {n : Nat} {t : T} (h : (rangeT i j)[n]? = some t) : t = .int (i + n) ∧ n < (j - i).toNat := by
  unfold rangeT at h
  rw [List.getElem?_map] at h
  cases e : (List.range (j - i).toNat)[n]? with
  | none => rw [e] at h; cases h
  | some m =>
    rw [e] at h
    have hn := (List.getElem?_eq_some_iff.mp e).1
    have := (List.getElem?_eq_some_iff.mp e).2
    simp at this hn
    subst this
    simp at h
    exact ⟨h.symm, by omega⟩
theorem rangeT_len (i j : Int) : (rangeT i j).length = (j - i).toNat := by unfold rangeT; simp
end
end IP

end
section
set_option Elab.async false
set_option linter.all false
set_option maxRecDepth 100000
/-! the equations of a run, for simp -/
namespace IP
@[simp] theorem z_exs_1 : type_of% @exs.eq_1 := @exs.eq_1
@[simp] theorem z_exs_2 : type_of% @exs.eq_2 := @exs.eq_2
@[simp] theorem z_ex_1 : type_of% @ex.eq_1 := @ex.eq_1
@[simp] theorem z_ex_3 : type_of% @ex.eq_3 := @ex.eq_3
@[simp] theorem z_ex_4 : type_of% @ex.eq_4 := @ex.eq_4
@[simp] theorem z_ex_8 : type_of% @ex.eq_8 := @ex.eq_8
@[simp] theorem z_ex_9 : type_of% @ex.eq_9 := @ex.eq_9
@[simp] theorem z_ex_11 : type_of% @ex.eq_11 := @ex.eq_11
@[simp] theorem z_ex_12 : type_of% @ex.eq_12 := @ex.eq_12
@[simp] theorem z_ex_13 : type_of% @ex.eq_13 := @ex.eq_13
@[simp] theorem z_ex_14 : type_of% @ex.eq_14 := @ex.eq_14
@[simp] theorem z_ev_1 : type_of% @ev.eq_1 := @ev.eq_1
@[simp] theorem z_ev_2 : type_of% @ev.eq_2 := @ev.eq_2
@[simp] theorem z_ev_4 : type_of% @ev.eq_4 := @ev.eq_4
@[simp] theorem z_ev_5 : type_of% @ev.eq_5 := @ev.eq_5
@[simp] theorem z_ev_6 : type_of% @ev.eq_6 := @ev.eq_6
@[simp] theorem z_ev_7 : type_of% @ev.eq_7 := @ev.eq_7
@[simp] theorem z_ev_8 : type_of% @ev.eq_8 := @ev.eq_8
@[simp] theorem z_ev_9 : type_of% @ev.eq_9 := @ev.eq_9
@[simp] theorem z_ev_10 : type_of% @ev.eq_10 := @ev.eq_10
@[simp] theorem z_ev_11 : type_of% @ev.eq_11 := @ev.eq_11
@[simp] theorem z_ev_14 : type_of% @ev.eq_14 := @ev.eq_14
@[simp] theorem z_ev_15 : type_of% @ev.eq_15 := @ev.eq_15
@[simp] theorem z_ev_16 : type_of% @ev.eq_16 := @ev.eq_16
@[simp] theorem z_ev_17 : type_of% @ev.eq_17 := @ev.eq_17
@[simp] theorem z_ev_18 : type_of% @ev.eq_18 := @ev.eq_18
@[simp] theorem z_ev_20 : type_of% @ev.eq_20 := @ev.eq_20
@[simp] theorem z_ev_21 : type_of% @ev.eq_21 := @ev.eq_21
@[simp] theorem z_ev_23 : type_of% @ev.eq_23 := @ev.eq_23
@[simp] theorem z_ev_28 : type_of% @ev.eq_28 := @ev.eq_28
@[simp] theorem z_ev_29 : type_of% @ev.eq_29 := @ev.eq_29
@[simp] theorem z_evs_1 : type_of% @evs.eq_1 := @evs.eq_1
@[simp] theorem z_evs_2 : type_of% @evs.eq_2 := @evs.eq_2
@[simp] theorem z_evr_1 : type_of% @evr.eq_1 := @evr.eq_1
@[simp] theorem z_evr_2 : type_of% @evr.eq_2 := @evr.eq_2
@[simp] theorem z_enter_1 : type_of% @enter.eq_1 := @enter.eq_1
@[simp] theorem z_ofR_1 : type_of% @ofR.eq_1 := @ofR.eq_1
@[simp] theorem z_ofR_2 : type_of% @ofR.eq_2 := @ofR.eq_2
@[simp] theorem z_look_1 : type_of% @look.eq_1 := @look.eq_1
@[simp] theorem z_put_1 : type_of% @put.eq_1 := @put.eq_1
end IP

end
section
set_option linter.all false
set_option maxRecDepth 100000
namespace IP
namespace Pg
open L2
theorem run_at {k f : Nat} {F : Fn} {rs : List R} {s : Sto} (hF : fns[f]? = some F) (hl : rs.length = F.pars) : run false fns sub0 whileL (k + 1) f rs s = leave false F.fr (exs (cfK fns sub0 k) F.body (enter F rs) s) := by
  conv => lhs; unfold run
  rw [hF]
  exact if_pos hl
def pt (p : Int × Int) : T := .tup [.int p.1, .int p.2]
abbrev PT (p : Int × Int) : R := .val (pt p)
@[simp] theorem eqT_pt (p q : Int × Int) : eqD 8 (pt p) (pt q) = some (p == q) := by
  obtain ⟨a, b⟩ := p; obtain ⟨c, d⟩ := q
  simp [pt, eqD, eqL]
  rfl
@[simp] theorem subR_pt0 (p : Int × Int) : subR (.val (pt p)) 0 = some (.int p.1) := rfl
@[simp] theorem subR_pt1 (p : Int × Int) : subR (.val (pt p)) 1 = some (.int p.2) := rfl
def sml (p : Int × Int) : Prop := p.1.natAbs ≤ 2 ^ 20 ∧ p.2.natAbs ≤ 2 ^ 20
def turnZ (p q r : Int × Int) : Int := (q.1 - p.1) * (r.2 - p.2) - (q.2 - p.2) * (r.1 - p.1)
def alongZ (p q r : Int × Int) : Int := (q.1 - p.1) * (r.1 - p.1) + (q.2 - p.2) * (r.2 - p.2)
theorem sub_small {a b : Int} (ha : a.natAbs ≤ 2 ^ 20) (hb : b.natAbs ≤ 2 ^ 20) : (a - b).natAbs ≤ 2 ^ 21 := by omega
theorem mul_sub {a b j : Int} (ha : a.natAbs ≤ 2 ^ 20) (hb : b.natAbs ≤ 2 ^ 20) : opR .mul (.val (.int (a - b))) (.val (.int j)) = some (.val (.int ((a - b) * j))) := op_mul (mulB_small (by omega))
variable {k : Nat} {s : Sto} {p q r u : Int × Int}
theorem r_turn (hp : sml p) (hq : sml q) : run false fns sub0 whileL (k + 1) 7 [PT p, PT q, PT r] s = .ok (.val (.int (turnZ p q r))) s := by
  rw [run_at (F := ⟨3, 3, false, b_turn⟩) rfl rfl]
  simp [b_turn, mul_sub hq.1 hp.1, mul_sub hq.2 hp.2, turnZ]
theorem r_along (hp : sml p) (hq : sml q) : run false fns sub0 whileL (k + 1) 8 [PT p, PT q, PT r] s = .ok (.val (.int (alongZ p q r))) s := by
  rw [run_at (F := ⟨3, 3, false, b_along⟩) rfl rfl]
  simp [b_along, mul_sub hq.1 hp.1, mul_sub hq.2 hp.2, alongZ]
theorem natAbs_mul_le {a b : Int} {m n : Nat} (ha : a.natAbs ≤ m) (hb : b.natAbs ≤ n) : (a * b).natAbs ≤ m * n := by
  rw [Int.natAbs_mul]
  exact Nat.mul_le_mul ha hb
theorem turn_small (hp : sml p) (hq : sml q) (hr : sml r) : (turnZ p q r).natAbs < 2 ^ 64 := by
  have h1 := natAbs_mul_le (sub_small hq.1 hp.1) (sub_small hr.2 hp.2)
  have h2 := natAbs_mul_le (sub_small hq.2 hp.2) (sub_small hr.1 hp.1)
  unfold turnZ
  omega
def togetherB (p q r : Int × Int) : Bool := decide (turnZ p q r = 0) && decide (0 < alongZ p q r)
theorem r_together (hp : sml p) (hq : sml q) : run false fns sub0 whileL (k + 2) 3 [PT p, PT q, PT r] s = .ok (.val (.bl (togetherB p q r))) s := by
  rw [run_at (F := ⟨3, 3, false, b_run_together⟩) rfl rfl]
  have h1 := r_turn (k := k) (s := s) (r := r) hp hq
  have h2 := r_along (k := k) (s := s) (r := r) hp hq
  simp [b_run_together, h1, h2, togetherB]
  split <;> simp [*]
theorem r_reaches (hr : sml r) (hu : sml u) (hp : sml p) : run false fns sub0 whileL (k + 2) 6 [.val (.tup [pt p, pt q]), .val (.tup [pt r, pt u])] s = .ok (.val (.bl (decide (turnZ r u p * turnZ r u q ≤ 0)))) s := by
  rw [run_at (F := ⟨2, 2, false, b_reaches_across⟩) rfl rfl]
  have h1 := r_turn (k := k) (s := s) (r := p) hr hu
  have h2 := r_turn (k := k) (s := s) (r := q) hr hu
  have h3 := op_mul (i := turnZ r u p) (j := turnZ r u q) (mulB_small (turn_small hr hu hp))
  simp [b_reaches_across, h1, h2, h3]
def ax (b : Bool) (p : Int × Int) : Int := if b then p.2 else p.1
def spansB (b : Bool) (p q r u : Int × Int) : Bool := decide (min (ax b p) (ax b q) ≤ max (ax b r) (ax b u)) && decide (min (ax b r) (ax b u) ≤ max (ax b p) (ax b q))
theorem r_spans0 : run false fns sub0 whileL (k + 1) 5 [.val (.tup [pt p, pt q]), .val (.tup [pt r, pt u]), .val (.int 0)] s = .ok (.val (.bl (spansB false p q r u))) s := by
  rw [run_at (F := ⟨3, 5, false, b_spans_meet⟩) rfl rfl]
  simp [b_spans_meet, spansB, ax]
  split <;> simp [*]
theorem r_spans1 : run false fns sub0 whileL (k + 1) 5 [.val (.tup [pt p, pt q]), .val (.tup [pt r, pt u]), .val (.int 1)] s = .ok (.val (.bl (spansB true p q r u))) s := by
  rw [run_at (F := ⟨3, 5, false, b_spans_meet⟩) rfl rfl]
  simp [b_spans_meet, spansB, ax]
  split <;> simp [*]
def commonB (p q r u : Int × Int) : Bool := spansB false p q r u && spansB true p q r u && decide (turnZ r u p * turnZ r u q ≤ 0) && decide (turnZ p q r * turnZ p q u ≤ 0)
theorem r_common (hp : sml p) (hq : sml q) (hr : sml r) (hu : sml u) : run false fns sub0 whileL (k + 3) 4 [.val (.tup [pt p, pt q]), .val (.tup [pt r, pt u])] s = .ok (.val (.bl (commonB p q r u))) s := by
  rw [run_at (F := ⟨2, 2, false, b_have_common_point⟩) rfl rfl]
  have h1 := r_spans0 (k := k + 1) (s := s) (p := p) (q := q) (r := r) (u := u)
  have h2 := r_spans1 (k := k + 1) (s := s) (p := p) (q := q) (r := r) (u := u)
  have h3 := r_reaches (k := k) (s := s) (p := p) (q := q) hr hu hp
  have h4 := r_reaches (k := k) (s := s) (p := r) (q := u) (r := p) (u := q) hp hq hr
  simp [b_have_common_point, h1, h2, h3, h4, commonB]
  cases spansB false p q r u <;> cases spansB true p q r u <;> simp
  split <;> simp [*]
/-! ### a side -/
variable {l : List (Int × Int)}
abbrev LN (l : List (Int × Int)) : R := .val (.lst (l.map pt))
def cor (l : List (Int × Int)) (i : Nat) : Int × Int := l.getD (i % l.length) (0, 0)
theorem cor_get (h : 0 < l.length) (i : Nat) : (l.map pt)[i % l.length]? = some (pt (cor l i)) := by
  have := Nat.mod_lt i h
  simp [cor, List.getElem?_map, this]
theorem fmod_nat (i n : Nat) : Int.fmod (i : Int) (n : Int) = ((i % n : Nat) : Int) := by
  rw [Int.fmod_eq_emod_of_nonneg _ (Int.natCast_nonneg n)]
  simp
theorem mod_next (i : Nat) (n : Nat) (h : 0 < n) : opR .mod (.val (.int ((i : Int) + 1))) (.val (.int (n : Int))) = some (.val (.int (((i + 1) % n : Nat) : Int))) := by
  have h3 := op_mod (i := (i : Int) + 1) (j := (n : Int)) (by omega)
  rw [h3, show ((i : Int) + 1) = ((i + 1 : Nat) : Int) by omega, fmod_nat]
theorem r_ends {i : Nat} (hi : i < l.length) : run false fns sub0 whileL (k + 1) 2 [LN l, .val (.int i)] s = .ok (.val (.tup [pt (cor l i), pt (cor l (i + 1))])) s := by
  rw [run_at (F := ⟨2, 2, false, b_side_ends⟩) rfl rfl]
  have h0 : 0 < l.length := by omega
  have h1 := sub_at (cor_get h0 i)
  have h2 := sub_at (cor_get h0 (i + 1))
  rw [Nat.mod_eq_of_lt hi] at h1
  have h3 := mod_next i l.length h0
  generalize (i + 1) % l.length = m at h2 h3
  simp [b_side_ends, h1, h2, h3]
theorem cor_sml (hl : ∀ p ∈ l, sml p) (i : Nat) : sml (cor l i) := by
  unfold cor
  rw [List.getD_eq_getElem?_getD]
  cases e : l[i % l.length]? with
  | none => exact ⟨by decide, by decide⟩
  | some p => exact hl p (List.mem_of_getElem? e)
/-- the program's look at the sides i ≤ j -/
def sidesB (l : List (Int × Int)) (i j : Nat) : Bool :=
  if i = j then cor l i == cor l (i + 1)
  else if j = i + 1 then togetherB (cor l (i + 1)) (cor l i) (cor l (j + 1))
  else if j + 1 = l.length ∧ i = 0 then togetherB (cor l i) (cor l (i + 1)) (cor l j)
  else commonB (cor l i) (cor l (i + 1)) (cor l j) (cor l (j + 1))
theorem r_sides {i j : Nat} (hl : ∀ p ∈ l, sml p) (hij : i ≤ j) (hj : j < l.length) : run false fns sub0 whileL (k + 4) 1 [LN l, .val (.int i), .val (.int j)] s = .ok (.val (.bl (sidesB l i j))) s := by
  rw [run_at (F := ⟨3, 5, false, b_sides_cross⟩) rfl rfl]
  have h1 := r_ends (k := k + 2) (s := s) (l := l) (i := i) (by omega)
  have h2 := r_ends (k := k + 2) (s := s) (l := l) (i := j) hj
  have h3 := r_together (k := k + 1) (s := s) (p := cor l (i + 1)) (q := cor l i) (r := cor l (j + 1)) (cor_sml hl _) (cor_sml hl _)
  have h4 := r_together (k := k + 1) (s := s) (p := cor l i) (q := cor l (i + 1)) (r := cor l j) (cor_sml hl _) (cor_sml hl _)
  have h5 := r_common (k := k) (s := s) (p := cor l i) (q := cor l (i + 1)) (r := cor l j) (u := cor l (j + 1)) (cor_sml hl _) (cor_sml hl _) (cor_sml hl _) (cor_sml hl _)
  simp [b_sides_cross, h1, h2, h3, h4, h5]
  unfold sidesB
  by_cases c1 : i = j
  · simp [c1]
  · by_cases c2 : j = i + 1
    · rw [if_neg (by omega), if_pos (by omega), if_neg c1, if_pos c2]
    · rw [if_neg (by omega), if_neg (by omega), if_neg c1, if_neg c2]
      by_cases c3 : j + 1 = l.length
      · rw [if_pos (by omega)]
        by_cases c4 : i = 0
        · rw [if_pos c4, if_pos ⟨c3, c4⟩]
        · rw [if_neg c4, if_neg (fun z => c4 z.2)]
      · rw [if_neg (by omega), if_neg (fun z => c3 z.1)]
/-! ### the first pair -/
def pairBody (f : Nat) : List S := [.for_ (.one 1) (.rng1 (.b1 .len (.var 0))) [.for_ (.one 2) (.rng2 (.var 1) (.b1 .len (.var 0))) [.ifs (.call f [.var 0, .var 1, .var 2] []) [.ret (.tup [.var 1, .var 2])] []]], .ret (.cst .non)]
def qj (p : Nat → Nat → Bool) (i j : Nat) : Option R := if p i j then some (.val (.tup [.int i, .int j])) else none
def qi (p : Nat → Nat → Bool) (n i : Nat) : Option R := firstN (qj p i) i (n - i)
def fp (p : Nat → Nat → Bool) (n : Nat) : R := (firstN (qi p n) 0 n).getD (.val .non)
theorem pairs_inner {C : Cf} {f : Nat} {p : Nat → Nat → Bool} {i : Nat} (hp : ∀ j, i ≤ j → j < l.length → C.cf f [LN l, .val (.int i), .val (.int j)] s = .ok (.val (.bl (p i j))) s) (hi : i < l.length) (c : Option B) :
    match qi p l.length i with
    | some r => forL (.one 2) (fun σ s => exs C [.ifs (.call f [.var 0, .var 1, .var 2] []) [.ret (.tup [.var 1, .var 2])] []] σ s) (rangeT i l.length) [some (.val (.lst (l.map pt))), some (.val (.int i)), c] s = .ret r s
    | none => ∃ c', forL (.one 2) (fun σ s => exs C [.ifs (.call f [.var 0, .var 1, .var 2] []) [.ret (.tup [.var 1, .var 2])] []] σ s) (rangeT i l.length) [some (.val (.lst (l.map pt))), some (.val (.int i)), c] s = .next [some (.val (.lst (l.map pt))), some (.val (.int i)), c'] s := by
  have h := forL_first (g := .one 2) (body := fun σ s => exs C [.ifs (.call f [.var 0, .var 1, .var 2] []) [.ret (.tup [.var 1, .var 2])] []] σ s) (s := s) (fun _ σ => ∃ c, σ = [some (.val (.lst (l.map pt))), some (.val (.int i)), c]) (qj p i) (rangeT i l.length) i [some (.val (.lst (l.map pt))), some (.val (.int i)), c] ⟨c, rfl⟩ ?_
  · rw [rangeT_len, show ((l.length : Int) - (i : Int)).toNat = l.length - i by omega] at h
    unfold qi
    cases hq : firstN (qj p i) i (l.length - i) with
    | some r => rw [hq] at h; exact h
    | none =>
      rw [hq] at h
      obtain ⟨σ', e, c', rfl⟩ := h
      exact ⟨c', e⟩
  · rintro m t σ hm ⟨c, rfl⟩
    obtain ⟨rfl, hlt⟩ := rangeT_get hm
    have hq := hp (i + m) (by omega) (by omega)
    rw [show ((i + m : Nat) : Int) = (i : Int) + (m : Int) by omega] at hq
    refine ⟨[some (.val (.lst (l.map pt))), some (.val (.int i)), some (.val (.int (i + m)))], by simp [bindTg, put], ?_⟩
    unfold qj
    cases hb : p i (i + m) with
    | true => rw [hb] at hq; simp [hq]
    | false => rw [hb] at hq; simp [hq]
theorem pairs_run {C : Cf} {f : Nat} {p : Nat → Nat → Bool} (hl : l.length ≤ 1000) (hp : ∀ i j, i ≤ j → j < l.length → C.cf f [LN l, .val (.int i), .val (.int j)] s = .ok (.val (.bl (p i j))) s) :
    exs C (pairBody f) [some (.val (.lst (l.map pt))), none, none] s = .ret (fp p l.length) s := by
  have h := forL_first (g := .one 1) (body := fun σ s => exs C [.for_ (.one 2) (.rng2 (.var 1) (.b1 .len (.var 0))) [.ifs (.call f [.var 0, .var 1, .var 2] []) [.ret (.tup [.var 1, .var 2])] []]] σ s) (s := s) (fun _ σ => ∃ b c, σ = [some (.val (.lst (l.map pt))), b, c]) (qi p l.length) (rangeT 0 l.length) 0 [some (.val (.lst (l.map pt))), none, none] ⟨none, none, rfl⟩ ?_
  · rw [rangeT_len, show ((l.length : Int) - 0).toNat = l.length by omega] at h
    unfold fp
    have e1 : ex C (.for_ (.one 1) (.rng1 (.b1 .len (.var 0))) [.for_ (.one 2) (.rng2 (.var 1) (.b1 .len (.var 0))) [.ifs (.call f [.var 0, .var 1, .var 2] []) [.ret (.tup [.var 1, .var 2])] []]]) [some (.val (.lst (l.map pt))), none, none] s = _ := ex_for (ts := rangeT 0 l.length) (s1 := s) (ev_rng1 (by simp) hl) (by intro i h; cases h)
    cases hq : firstN (qi p l.length) 0 l.length with
    | some r =>
      rw [hq] at h
      exact exs_ret (e1.trans h)
    | none =>
      rw [hq] at h
      obtain ⟨σ', e, b, c, rfl⟩ := h
      refine (exs_next (e1.trans e)).trans ?_
      simp
  · rintro m t σ hm ⟨b, c, rfl⟩
    obtain ⟨rfl, hlt⟩ := rangeT_get hm
    have hlt : m < l.length := by omega
    have hin := pairs_inner (C := C) (f := f) (p := p) (i := m) (fun j h1 h2 => hp m j h1 h2) hlt c
    refine ⟨[some (.val (.lst (l.map pt))), some (.val (.int m)), c], by simp [bindTg, put], ?_⟩
    rw [show 0 + m = m by omega]
    have e1 : ex C (.for_ (.one 2) (.rng2 (.var 1) (.b1 .len (.var 0))) [.ifs (.call f [.var 0, .var 1, .var 2] []) [.ret (.tup [.var 1, .var 2])] []]) [some (.val (.lst (l.map pt))), some (.val (.int m)), c] s = _ := ex_for (ts := rangeT m l.length) (s1 := s) (ev_rng2 (s1 := s) (by simp) (by simp) (by omega) hl) (by intro i h; cases h)
    cases hq : qi p l.length m with
    | some r =>
      rw [hq] at hin
      exact exs_ret (e1.trans hin)
    | none =>
      rw [hq] at hin
      obtain ⟨c', e⟩ := hin
      exact ⟨_, (exs_next (e1.trans e)).trans (by simp only [exs]), some (.val (.int m)), c', rfl⟩
theorem r_crossing (hl : ∀ p ∈ l, sml p) (hn : l.length ≤ 1000) : run false fns sub0 whileL (k + 5) 0 [LN l] s = .ok (fp (sidesB l) l.length) s := by
  rw [run_at (F := ⟨1, 3, false, b_crossing⟩) rfl rfl]
  have h := pairs_run (C := cfK fns sub0 (k + 4)) (f := 1) (s := s) (l := l) (p := sidesB l) hn (fun i j h1 h2 => r_sides (k := k) hl h1 h2)
  exact congrArg (leave false false) h
end Pg
end IP

end
section
set_option linter.all false
set_option maxRecDepth 100000
namespace IP
namespace Pg
open L2
variable {k : Nat} {s : Sto} {p q r u : Int × Int} {l : List (Int × Int)}
@[simp] theorem asB_bl (b : Bool) : asB (.val (.bl b)) = some b := rfl
theorem ex_whl {C : Cf} {c : E} {b : List S} {σ : Fr} {s : Sto} (hw : C.wl = whileL) : ex C (.whl c b) σ s = whileL (fun σ s => (ev C c .t σ s).bind fun x s1 => .of (asB x) s1) (fun σ s => exs C b σ s) σ s := by
  conv => lhs; unfold ex
  rw [hw]
  rfl
theorem gcd_loop (C : Cf) (a b : T) : ∀ (n m : Nat) (c : Option B), ∃ c', whileL (fun σ s => (ev C (.cmp .gt (.var 3) (.cst (.int 0))) .t σ s).bind fun x s1 => .of (asB x) s1) (fun σ s => exs C [(.asg 4 (.bin .mod (.var 2) (.var 3))), (.asg 2 (.var 3)), (.asg 3 (.var 4))] σ s)
      [some (.val a), some (.val b), some (.val (.int m)), some (.val (.int n)), c] s = .next [some (.val a), some (.val b), some (.val (.int (Nat.gcd m n))), some (.val (.int 0)), c'] s := by
  intro n
  induction n using Nat.strongRecOn with
  | _ n ih =>
    intro m c
    rw [whileL_eq]
    by_cases h : n = 0
    · subst h
      exact ⟨c, by simp⟩
    · have hn : 0 < n := by omega
      have hd := op_mod (i := (m : Int)) (j := (n : Int)) (by omega)
      rw [fmod_nat] at hd
      obtain ⟨c', e⟩ := ih (m % n) (Nat.mod_lt _ hn) n (some (.val (.int ((m % n : Nat) : Int))))
      refine ⟨c', ?_⟩
      rw [show Nat.gcd m n = Nat.gcd n (m % n) by rw [Nat.gcd_comm m n, Nat.gcd_rec n m, Nat.gcd_comm]]
      rw [← e]
      generalize hg : ((m % n : Nat) : Int) = z at hd ⊢
      simp [hd, hn]
theorem r_gcd (a b : Int) : run false fns sub0 whileL (k + 1) 12 [.val (.int a), .val (.int b)] s = .ok (.val (.int (Nat.gcd a.natAbs b.natAbs))) s := by
  rw [run_at (F := ⟨2, 5, false, b__law_gcd⟩) rfl rfl]
  obtain ⟨c', e⟩ := gcd_loop (s := s) (cfK fns sub0 k) (.int a) (.int b) b.natAbs a.natAbs none
  have e1 : (if a < 0 then -a else a) = (a.natAbs : Int) := by split <;> omega
  have e2 : (if b < 0 then -b else b) = (b.natAbs : Int) := by split <;> omega
  have hx : exs (cfK fns sub0 k) b__law_gcd (enter ⟨2, 5, false, b__law_gcd⟩ [.val (.int a), .val (.int b)]) s = .ret (.val (.int (Nat.gcd a.natAbs b.natAbs))) s := by
    refine (exs_next (σ1 := [some (.val (.int a)), some (.val (.int b)), some (.val (.int a.natAbs)), none, none]) (s1 := s) (by simp [e1])).trans ?_
    refine (exs_next (σ1 := [some (.val (.int a)), some (.val (.int b)), some (.val (.int a.natAbs)), some (.val (.int b.natAbs)), none]) (s1 := s) (by simp [e2])).trans ?_
    refine (exs_next ((ex_whl rfl).trans e)).trans ?_
    simp
  rw [hx]
  rfl
/-- a side's way in lowest terms -/
def wayG (p q : Int × Int) : Int := max 1 (Nat.gcd (q.1 - p.1).natAbs (q.2 - p.2).natAbs : Nat)
def wayZ (p q : Int × Int) : Int × Int := (Int.fdiv (q.1 - p.1) (wayG p q), Int.fdiv (q.2 - p.2) (wayG p q))
theorem gcd_le_sub {a b : Int} (h : a.natAbs ≤ 2 ^ 21) (h' : b.natAbs ≤ 2 ^ 21) : Nat.gcd a.natAbs b.natAbs ≤ 2 ^ 21 := by
  by_cases h0 : a.natAbs = 0
  · rw [h0, Nat.gcd_zero_left]; exact h'
  · exact Nat.le_trans (Nat.gcd_le_left _ (by omega)) h
theorem r_way (hp : sml p) (hq : sml q) : run false fns sub0 whileL (k + 2) 19 [PT p, PT q] s = .ok (PT (wayZ p q)) s := by
  rw [run_at (F := ⟨2, 5, false, b__law_way⟩) rfl rfl]
  have h1 := r_gcd (k := k) (s := s) (q.1 - p.1) (q.2 - p.2)
  have hg := gcd_le_sub (sub_small hq.1 hp.1) (sub_small hq.2 hp.2)
  have hm : (if ((Nat.gcd (q.1 - p.1).natAbs (q.2 - p.2).natAbs : Nat) : Int) > 1 then ((Nat.gcd (q.1 - p.1).natAbs (q.2 - p.2).natAbs : Nat) : Int) else 1) = wayG p q := by
    unfold wayG
    split <;> omega
  have hw1 : 0 < wayG p q := by unfold wayG; omega
  have hw2 : wayG p q < 2 ^ 64 := by unfold wayG; omega
  have h2 := op_fdiv (i := q.1 - p.1) hw1 hw2
  have h3 := op_fdiv (i := q.2 - p.2) hw1 hw2
  generalize hG : ((Nat.gcd (q.1 - p.1).natAbs (q.2 - p.2).natAbs : Nat) : Int) = g at h1 hm
  simp only [gt_iff_lt] at hm
  simp [b__law_way, h1, hm, h2, h3, wayZ, pt]
/-! ### parted -/
def partB (p q r u d : Int × Int) : Bool := decide (max (p.1 * d.1 + p.2 * d.2) (q.1 * d.1 + q.2 * d.2) < min (r.1 * d.1 + r.2 * d.2) (u.1 * d.1 + u.2 * d.2)) || decide (max (r.1 * d.1 + r.2 * d.2) (u.1 * d.1 + u.2 * d.2) < min (p.1 * d.1 + p.2 * d.2) (q.1 * d.1 + q.2 * d.2))
def wayL (p q r u : Int × Int) : List (Int × Int) := [(1, 0), (0, 1), (q.1 - p.1, q.2 - p.2), (p.2 - q.2, q.1 - p.1), (u.1 - r.1, u.2 - r.2), (r.2 - u.2, u.1 - r.1)]
theorem mul_l {a j : Int} (ha : a.natAbs ≤ 2 ^ 20) : opR .mul (.val (.int a)) (.val (.int j)) = some (.val (.int (a * j))) := op_mul (mulB_small (by omega))
theorem chain (c : Prop) [Decidable c] (b : Bool) (m : Res R) (h : m = .ok (.val (.bl b)) s) : (if c then .ok (.val (.bl true)) s else m) = .ok (.val (.bl (decide c || b))) s := by
  by_cases hc : c
  · rw [if_pos hc, decide_eq_true hc]; rfl
  · rw [if_neg hc, h, decide_eq_false hc]; rfl
theorem r_parted (hp : sml p) (hq : sml q) (hr : sml r) (hu : sml u) : run false fns sub0 whileL (k + 1) 18 [PT p, PT q, PT r, PT u] s = .ok (.val (.bl ((wayL p q r u).any (partB p q r u)))) s := by
  rw [run_at (F := ⟨4, 11, false, b__law_parted⟩) rfl rfl]
  simp [b__law_parted, freshE, setOwn, ownAt, forL, bindTg, IP.puts, lim, lock, isOwn, unlock, mul_l hp.1, mul_l hp.2, mul_l hq.1, mul_l hq.2, mul_l hr.1, mul_l hr.2, mul_l hu.1, mul_l hu.2, pt]
  simp only [wayL, partB, List.any_cons, List.any_nil, Int.mul_one, Int.mul_zero, Int.add_zero, Int.zero_add, Bool.or_assoc]
  repeat refine chain _ _ _ ?_
  rfl
/-! ### the law's look at two sides -/
theorem turn_same : turnZ p q r = SegM.turn p.1 p.2 q.1 q.2 r.1 r.2 := rfl
theorem common_iff : commonB p q r u = true ↔ SegM.Common p.1 p.2 q.1 q.2 r.1 r.2 u.1 u.2 := by
  simp only [commonB, spansB, ax, Bool.and_eq_true, decide_eq_true_eq, SegM.Common, turn_same, if_true, Bool.false_eq_true, if_false]
  constructor
  · rintro ⟨⟨⟨a, b⟩, c⟩, d⟩; exact ⟨a, b, of_decide_eq_true c, of_decide_eq_true d⟩
  · rintro ⟨a, b, c, d⟩; exact ⟨⟨⟨a, b⟩, decide_eq_true c⟩, decide_eq_true d⟩
theorem part_iff (d : Int × Int) : partB p q r u d = true ↔ SegM.PartBy p.1 p.2 q.1 q.2 r.1 r.2 u.1 u.2 d.1 d.2 := by
  simp only [partB, SegM.PartBy, SegM.Below, Bool.or_eq_true, decide_eq_true_eq]
  generalize p.1 * d.1 + p.2 * d.2 = a
  generalize q.1 * d.1 + q.2 * d.2 = b
  generalize r.1 * d.1 + r.2 * d.2 = c
  generalize u.1 * d.1 + u.2 * d.2 = e
  omega
theorem parted_iff : (wayL p q r u).any (partB p q r u) = !(commonB p q r u) := by
  cases hc : commonB p q r u with
  | true =>
    have h := common_iff.mp hc
    rw [Bool.not_true, List.any_eq_false]
    intro d _ z
    exact SegM.common_not h d.1 d.2 ((part_iff d).mp z)
  | false =>
    have h : ¬ SegM.Common p.1 p.2 q.1 q.2 r.1 r.2 u.1 u.2 := fun z => by rw [common_iff.mpr z] at hc; cases hc
    rw [Bool.not_false, List.any_eq_true]
    rcases SegM.not_common h with z | z | z | z
    · exact ⟨(1, 0), by simp [wayL], (part_iff _).mpr z⟩
    · exact ⟨(0, 1), by simp [wayL], (part_iff _).mpr z⟩
    · exact ⟨(p.2 - q.2, q.1 - p.1), by simp [wayL], (part_iff _).mpr z⟩
    · exact ⟨(r.2 - u.2, u.1 - r.1), by simp [wayL], (part_iff _).mpr z⟩
/-- the law's look -/
def crossB (l : List (Int × Int)) (i j : Nat) : Bool :=
  if i = j then cor l i == cor l (i + 1)
  else if j = i + 1 then cor l i != cor l (i + 1) && wayZ (cor l (i + 1)) (cor l i) == wayZ (cor l (i + 1)) (cor l (j + 1))
  else if i = 0 ∧ j + 1 = l.length then cor l i != cor l (i + 1) && wayZ (cor l i) (cor l (i + 1)) == wayZ (cor l i) (cor l j)
  else !((wayL (cor l i) (cor l (i + 1)) (cor l j) (cor l (j + 1))).any (partB (cor l i) (cor l (i + 1)) (cor l j) (cor l (j + 1))))
theorem r_crossed {i j : Nat} (hl : ∀ p ∈ l, sml p) (hij : i ≤ j) (hj : j < l.length) : run false fns sub0 whileL (k + 3) 20 [LN l, .val (.int i), .val (.int j)] s = .ok (.val (.bl (crossB l i j))) s := by
  rw [run_at (F := ⟨3, 8, false, b__law_crossed⟩) rfl rfl]
  have h0 : 0 < l.length := by omega
  have a1 := sub_at (cor_get h0 i)
  have a2 := sub_at (cor_get h0 (i + 1))
  have a3 := sub_at (cor_get h0 j)
  have a4 := sub_at (cor_get h0 (j + 1))
  rw [Nat.mod_eq_of_lt (by omega)] at a1 a3
  have m1 := mod_next i l.length h0
  have m2 := mod_next j l.length h0
  generalize (i + 1) % l.length = i' at a2 m1
  generalize (j + 1) % l.length = j' at a4 m2
  have w1 := r_way (k := k) (s := s) (p := cor l (i + 1)) (q := cor l i) (cor_sml hl _) (cor_sml hl _)
  have w2 := r_way (k := k) (s := s) (p := cor l (i + 1)) (q := cor l (j + 1)) (cor_sml hl _) (cor_sml hl _)
  have w3 := r_way (k := k) (s := s) (p := cor l i) (q := cor l (i + 1)) (cor_sml hl _) (cor_sml hl _)
  have w4 := r_way (k := k) (s := s) (p := cor l i) (q := cor l j) (cor_sml hl _) (cor_sml hl _)
  have pa := r_parted (k := k + 1) (s := s) (p := cor l i) (q := cor l (i + 1)) (r := cor l j) (u := cor l (j + 1)) (cor_sml hl _) (cor_sml hl _) (cor_sml hl _) (cor_sml hl _)
  simp [b__law_crossed, a1, a2, a3, a4, m1, m2, w1, w2, w3, w4, pa]
  unfold crossB
  by_cases c1 : i = j
  · simp [c1]
  · by_cases c2 : j = i + 1
    · rw [if_neg (by omega), if_pos (by omega), if_neg c1, if_pos c2]
      by_cases c5 : cor l i = cor l (i + 1)
      · simp [c5]
      · rw [if_neg c5]; simp [c5]
    · rw [if_neg (by omega), if_neg (by omega), if_neg c1, if_neg c2]
      by_cases c4 : i = 0
      · rw [if_pos c4]
        by_cases c3 : j + 1 = l.length
        · have t3 : (j : Int) = (l.length : Int) - 1 := by omega
          rw [if_pos t3, if_pos (c := i = 0 ∧ j + 1 = l.length) ⟨c4, c3⟩]
          by_cases c5 : cor l i = cor l (i + 1)
          · simp [c5]
          · rw [if_neg c5]; simp [c5]
        · have t3 : ¬ (j : Int) = (l.length : Int) - 1 := by omega
          rw [if_neg t3, if_neg (c := i = 0 ∧ j + 1 = l.length) (fun z => c3 z.2)]
      · rw [if_neg c4, if_neg (fun z => c4 z.1)]
/-! ### both looks agree -/
theorem way_zero : wayZ p p = (0, 0) := by
  simp [wayZ, wayG]
theorem gcd_pos_of {a b : Int} (h : ¬ (a = 0 ∧ b = 0)) : 0 < Nat.gcd a.natAbs b.natAbs := by
  refine Nat.pos_of_ne_zero fun z => h ?_
  have := Nat.gcd_eq_zero_iff.mp z
  omega
theorem way_same (hq : q ≠ p) : togetherB p q r = (wayZ p q == wayZ p r) := by
  have hq0 : ¬ (q.1 - p.1 = 0 ∧ q.2 - p.2 = 0) := fun z => hq (by ext <;> omega)
  have gq := gcd_pos_of hq0
  by_cases hr : r = p
  · subst hr
    have e1 : togetherB r q r = false := by
      simp [togetherB, alongZ]
    rw [e1, way_zero]
    symm
    rw [beq_eq_false_iff_ne]
    intro z
    have hw : wayG r q = ((Nat.gcd (q.1 - r.1).natAbs (q.2 - r.2).natAbs : Nat) : Int) := by unfold wayG; omega
    have z1 := congrArg Prod.fst z
    have z2 := congrArg Prod.snd z
    simp only [wayZ] at z1 z2
    have g0 : (0 : Int) < ((Nat.gcd (q.1 - r.1).natAbs (q.2 - r.2).natAbs : Nat) : Int) := by omega
    generalize hg : ((Nat.gcd (q.1 - r.1).natAbs (q.2 - r.2).natAbs : Nat) : Int) = g at hw g0
    obtain ⟨i, j, e1, e2, _⟩ := WayM.low hg.symm g0
    rw [hw, e1, Int.mul_fdiv_cancel_left _ (by omega)] at z1
    rw [hw, e2, Int.mul_fdiv_cancel_left _ (by omega)] at z2
    subst z1 z2
    exact hq0 ⟨by omega, by omega⟩
  · have hr0 : ¬ (r.1 - p.1 = 0 ∧ r.2 - p.2 = 0) := fun z => hr (by ext <;> omega)
    have gr := gcd_pos_of hr0
    have h := WayM.same_way (p := q.1 - p.1) (q := q.2 - p.2) (r := r.1 - p.1) (s := r.2 - p.2) rfl rfl hq0 hr0
    have hw : wayG p q = ((Nat.gcd (q.1 - p.1).natAbs (q.2 - p.2).natAbs : Nat) : Int) := by unfold wayG; omega
    have hw2 : wayG p r = ((Nat.gcd (r.1 - p.1).natAbs (r.2 - p.2).natAbs : Nat) : Int) := by unfold wayG; omega
    rw [Bool.eq_iff_iff, beq_iff_eq]
    simp only [togetherB, turnZ, alongZ, Bool.and_eq_true, decide_eq_true_eq, wayZ, hw, hw2, Prod.mk.injEq]
    rw [← h]
    exact ⟨fun z => ⟨of_decide_eq_true z.1, of_decide_eq_true z.2⟩, fun z => ⟨decide_eq_true z.1, decide_eq_true z.2⟩⟩
theorem both (l : List (Int × Int)) (i j : Nat) : sidesB l i j = crossB l i j := by
  unfold sidesB crossB
  by_cases c1 : i = j
  · rw [if_pos c1, if_pos c1]
  · rw [if_neg c1, if_neg c1]
    by_cases c2 : j = i + 1
    · rw [if_pos c2, if_pos c2]
      by_cases e : cor l i = cor l (i + 1)
      · simp [e, togetherB, alongZ]
      · rw [way_same e]; simp [e]
    · rw [if_neg c2, if_neg c2]
      by_cases c3 : j + 1 = l.length ∧ i = 0
      · rw [if_pos c3, if_pos ⟨c3.2, c3.1⟩]
        by_cases e : cor l i = cor l (i + 1)
        · simp [e, togetherB, alongZ]
        · rw [way_same (Ne.symm e)]; simp [e]
      · rw [if_neg c3, if_neg (fun z => c3 ⟨z.2, z.1⟩), parted_iff, Bool.not_not]
theorem r_first (hl : ∀ p ∈ l, sml p) (hn : l.length ≤ 1000) : run false fns sub0 whileL (k + 4) 21 [LN l] s = .ok (fp (sidesB l) l.length) s := by
  rw [run_at (F := ⟨1, 3, false, b__law_first⟩) rfl rfl]
  have h := pairs_run (C := cfK fns sub0 (k + 3)) (f := 20) (s := s) (l := l) (p := sidesB l) hn (fun i j h1 h2 => by rw [both]; exact r_crossed (k := k) hl h1 h2)
  exact congrArg (leave false false) h
end Pg
end IP

end
section
set_option linter.all false
set_option maxRecDepth 100000
namespace IP
namespace Pg
open L2
variable {k : Nat} {s : Sto} {p q r u : Int × Int} {l : List (Int × Int)}
theorem r_whole (i : Int) : run false fns sub0 whileL (k + 1) 9 [.val (.int i)] s = .ok (.val (.bl true)) s := by
  rw [run_at (F := ⟨1, 1, false, b__law_whole⟩) rfl rfl]
  simp [b__law_whole, isiR]
theorem r_numbers (i j : Int) : run false fns sub0 whileL (k + 2) 13 [.val (.tup [.int i, .int j]), .val (.tup [.int i, .int j])] s = .ok (.val (.bl true)) s := by
  rw [run_at (F := ⟨2, 3, false, b__law_numbers⟩) rfl rfl]
  have w1 := r_whole (k := k) (s := s) i
  have w2 := r_whole (k := k) (s := s) j
  have hx : exs (cfK fns sub0 (k + 1)) b__law_numbers (enter ⟨2, 3, false, b__law_numbers⟩ [.val (.tup [.int i, .int j]), .val (.tup [.int i, .int j])]) s = .ret (.val (.bl true)) s := by
    refine (exs_next (σ1 := [some (.val (.tup [.int i, .int j])), some (.val (.tup [.int i, .int j])), none]) (s1 := s) (by simp [isiR])).trans ?_
    refine (exs_next (σ1 := [some (.val (.tup [.int i, .int j])), some (.val (.tup [.int i, .int j])), some (.val (.int 1))]) (s1 := s) ((ex_for (ts := [.int 0, .int 1]) (s1 := s) (ev_rng1 (n := 2) (by simp) (by decide)) (by intro _ h; cases h)).trans ?_)).trans ?_
    · simp [forL, bindTg, w1, w2]
    · simp
  rw [hx]
  rfl
theorem r_rows (hn : l.length ≤ 1000) : run false fns sub0 whileL (k + 3) 14 [LN l, LN l] s = .ok (.val (.bl true)) s := by
  rw [run_at (F := ⟨2, 3, false, b__law_rows⟩) rfl rfl]
  have hx : exs (cfK fns sub0 (k + 2)) b__law_rows (enter ⟨2, 3, false, b__law_rows⟩ [LN l, LN l]) s = .ret (.val (.bl true)) s := by
    refine (exs_next (σ1 := [some (.val (.lst (l.map pt))), some (.val (.lst (l.map pt))), none]) (s1 := s) (by simp [isiR])).trans ?_
    obtain ⟨σ', e, c, rfl⟩ := forL_inv (g := .one 2) (body := fun σ s => exs (cfK fns sub0 (k + 2)) [(.ifs (.not (.call 13 [(.sub (.var 0) (.var 2)), (.sub (.var 1) (.var 2))] [])) [(.ret (.cst (.bl false)))] [])] σ s) (s := s) (fun _ σ => ∃ c, σ = [some (.val (.lst (l.map pt))), some (.val (.lst (l.map pt))), c]) (rangeT 0 l.length) 0 [some (.val (.lst (l.map pt))), some (.val (.lst (l.map pt))), none] ⟨none, rfl⟩ (by
        rintro m t σ hm ⟨c, rfl⟩
        obtain ⟨rfl, hlt⟩ := rangeT_get hm
        have hlt : m < l.length := by omega
        have hg : (l.map pt)[m]? = some (pt l[m]) := by simp [hlt]
        have h1 := sub_at hg
        have h2 : run false fns sub0 whileL (k + 2) 13 [PT l[m], PT l[m]] s = .ok (.val (.bl true)) s := r_numbers l[m].1 l[m].2
        refine ⟨[some (.val (.lst (l.map pt))), some (.val (.lst (l.map pt))), some (.val (.int m))], [some (.val (.lst (l.map pt))), some (.val (.lst (l.map pt))), some (.val (.int m))], by simp [bindTg], by simp [h1, h2], _, rfl⟩)
    refine (exs_next (σ1 := [some (.val (.lst (l.map pt))), some (.val (.lst (l.map pt))), c]) (s1 := s) ((ex_for (ts := rangeT 0 l.length) (s1 := s) (ev_rng1 (n := l.length) (by simp) hn) (by intro _ h; cases h)).trans e)).trans ?_
    simp
  rw [hx]
  rfl
/-! ### the row of stirred numbers -/
theorem r_at (ns : List Int) (m : Nat) : ∃ v, run false fns sub0 whileL (k + 1) 10 [.val (.lst (ns.map .int)), .val (.int m)] s = .ok (.val (.int v)) s := by
  rw [run_at (F := ⟨2, 2, false, b__law_at⟩) rfl rfl]
  by_cases h : m < ns.length
  · have hg : (ns.map T.int)[m]? = some (.int ns[m]) := by simp [h]
    have h1 := sub_at hg
    exact ⟨ns[m], by simp [b__law_at, h, h1]⟩
  · exact ⟨0, by simp [b__law_at, h]⟩
def stirred (v : Int) : Prop := 0 ≤ v ∧ v ≤ 2147483646
theorem r_stir (ns : List Int) (n : Nat) (hn : n ≤ 1000) : ∃ row : List Int, row.length = n ∧ (∀ v ∈ row, stirred v) ∧ run false fns sub0 whileL (k + 2) 11 [.val (.lst (ns.map .int)), .val (.int n)] s = .ok (.val (.lst (row.map .int))) s := by
  obtain ⟨σ', e, st, row, c, rfl, h1, h2, h3⟩ := forL_inv (g := .one 4) (body := fun σ s => exs (cfK fns sub0 (k + 1)) [(.asg 2 (.bin .mod (.bin .add (.bin .add (.bin .mul (.var 2) (.cst (.int 48271))) (.call 10 [(.var 0), (.var 4)] [])) (.cst (.int 11))) (.cst (.int 2147483647)))), (.app 3 (.var 2))] σ s) (s := s)
    (fun m σ => ∃ (st : Int) (row : List Int) (c : Option B), σ = [some (.val (.lst (ns.map .int))), some (.val (.int n)), some (.val (.int st)), some (.own (row.map .int)), c] ∧ stirred st ∧ row.length = m ∧ ∀ v ∈ row, stirred v) (rangeT 0 n) 0 [some (.val (.lst (ns.map .int))), some (.val (.int n)), some (.val (.int 7)), some (.own []), none] ⟨7, [], none, rfl, ⟨by decide, by decide⟩, rfl, by simp⟩ (by
      rintro m t σ hm ⟨st, row, c, rfl, h1, h2, h3⟩
      obtain ⟨rfl, hlt⟩ := rangeT_get hm
      obtain ⟨v, hv⟩ := r_at (k := k) (s := s) ns m
      have hmul := op_mul (i := st) (j := 48271) (mulB_small (by have := h1.1; have := h1.2; omega))
      have hmod := op_mod (i := st * 48271 + v + 11) (j := 2147483647) (by decide)
      have hz : stirred (Int.fmod (st * 48271 + v + 11) 2147483647) := by
        rw [Int.fmod_eq_emod_of_nonneg _ (by decide)]
        unfold stirred
        omega
      have hlim : row.length < lim := Nat.lt_of_lt_of_le (show row.length < 1000 by omega) lim_ge
      refine ⟨[some (.val (.lst (ns.map .int))), some (.val (.int n)), some (.val (.int st)), some (.own (row.map .int)), some (.val (.int m))], [some (.val (.lst (ns.map .int))), some (.val (.int n)), some (.val (.int (Int.fmod (st * 48271 + v + 11) 2147483647))), some (.own ((row ++ [Int.fmod (st * 48271 + v + 11) 2147483647]).map .int)), some (.val (.int m))], by simp [bindTg], by simp [hv, hmul, hmod, ownAt, setOwn, hlim], Int.fmod (st * 48271 + v + 11) 2147483647, row ++ [Int.fmod (st * 48271 + v + 11) 2147483647], some (.val (.int m)), rfl, hz, by simp [h2], ?_⟩
      intro x hx
      rcases List.mem_append.mp hx with z | z
      · exact h3 x z
      · rw [List.mem_singleton.mp z]; exact hz)
  refine ⟨row, ?_, h3, ?_⟩
  · rw [h2, rangeT_len]; omega
  · rw [run_at (F := ⟨2, 5, false, b__law_stir⟩) rfl rfl]
    have hx : exs (cfK fns sub0 (k + 1)) b__law_stir (enter ⟨2, 5, false, b__law_stir⟩ [.val (.lst (ns.map .int)), .val (.int n)]) s = .ret (.val (.lst (row.map .int))) s := by
      refine (exs_next (σ1 := [some (.val (.lst (ns.map .int))), some (.val (.int n)), some (.val (.int 7)), none, none]) (s1 := s) (by simp)).trans ?_
      refine (exs_next (σ1 := [some (.val (.lst (ns.map .int))), some (.val (.int n)), some (.val (.int 7)), some (.own []), none]) (s1 := s) (by simp [freshE, setOwn])).trans ?_
      refine (exs_next ((ex_for (ts := rangeT 0 n) (s1 := s) (ev_rng1 (n := n) (by simp) hn) (by intro _ h; cases h)).trans e)).trans ?_
      simp [frz]
    rw [hx]
    rfl
/-! ### drawn lines -/
variable {row : List Int}
theorem row_at (hr : ∀ v ∈ row, stirred v) {m : Nat} (h : m < row.length) : ∃ v, stirred v ∧ subR (.val (.lst (row.map .int))) (m : Int) = some (.int v) ∧ row[m]? = some v := by
  refine ⟨row[m], hr _ (List.getElem_mem h), sub_at (by simp [h]), by simp [h]⟩
theorem fmod_pos (i : Int) {j : Int} (h : 0 < j) : 0 ≤ Int.fmod i j ∧ Int.fmod i j < j := by
  rw [Int.fmod_eq_emod_of_nonneg _ (by omega)]
  exact ⟨Int.emod_nonneg _ (by omega), Int.emod_lt_of_pos _ h⟩
/-- a comprehension over a range whose element is a value each time -/
theorem comp_rng {C : Cf} {e : E} {i : Nat} {a : E} {σ : Fr} {n : Nat} {α : Type} (f : α → T) (P : α → Prop) (ha : ev C a .v σ s = .ok (.val (.int n)) s) (hn : n ≤ 1000)
    (h : ∀ m : Nat, m < n → ∃ x, P x ∧ ev C e .v (put σ i (.int m)) s = .ok (.val (f x)) s) : ∃ xs : List α, xs.length = n ∧ (∀ x ∈ xs, P x) ∧ ev C (.comp e (.one i) (.rng1 a)) .v σ s = .ok (.val (.lst (xs.map f))) s := by
  obtain ⟨xs, h1, h2, h3⟩ := mapRes_of (F := fun t s => onO (bindTg σ (.one i) t) fun σ' => one (ev C e .v σ' s)) (s := s) f P (rangeT 0 n) (fun m t hm => by
    obtain ⟨rfl, hlt⟩ := rangeT_get hm
    obtain ⟨x, hx, e⟩ := h m (by omega)
    refine ⟨x, hx, ?_⟩
    show one (ev C _ .v (put σ i (.int (0 + m))) s) = _
    rw [Int.zero_add, e]
    rfl)
  exact ⟨xs, by rw [h1, rangeT_len]; omega, h2, ev_comp (evi_rng1 ha hn) h3⟩
theorem menu4 {a b c d : Int} {z : Int} (h0 : 0 ≤ z) (h1 : z < 4) : ∃ v, (v = a ∨ v = b ∨ v = c ∨ v = d) ∧ subR (.val (.lst [.int a, .int b, .int c, .int d])) z = some (.int v) := by
  have : z = 0 ∨ z = 1 ∨ z = 2 ∨ z = 3 := by omega
  rcases this with rfl | rfl | rfl | rfl
  · exact ⟨a, by simp, rfl⟩
  · exact ⟨b, by simp, rfl⟩
  · exact ⟨c, by simp, rfl⟩
  · exact ⟨d, by simp, rfl⟩
theorem r_drawn (hr : ∀ v ∈ row, stirred v) (hl : row.length = 60) {n : Nat} (h3 : 3 ≤ n) (hn : n ≤ 24) : ∃ l : List (Int × Int), l.length = n ∧ (∀ p ∈ l, sml p) ∧ run false fns sub0 whileL (k + 1) 22 [.val (.lst (row.map .int)), .val (.int n)] s = .ok (LN l) s := by
  obtain ⟨v, _, e1, _⟩ := row_at hr (m := 1) (by omega)
  have hm := op_mod (i := v) (j := 4) (by decide)
  have hz := fmod_pos v (j := 4) (by decide)
  generalize Int.fmod v 4 = z at hm hz
  obtain ⟨a, ha, e2⟩ := menu4 (a := 3) (b := 5) (c := 41) (d := 60001) hz.1 hz.2
  obtain ⟨b, hb, e3⟩ := menu4 (a := 0) (b := 0) (c := 0) (d := 30000) hz.1 hz.2
  have ha0 : 0 < a := by omega
  rw [run_at (F := ⟨2, 5, false, b__law_drawn_line⟩) rfl rfl]
  obtain ⟨l, h1, h2, h4⟩ := comp_rng (C := cfK fns sub0 k) (s := s) (e := (.tup [(.bin .sub (.bin .mod (.sub (.var 0) (.bin .add (.cst (.int 2)) (.bin .mul (.cst (.int 2)) (.var 4)))) (.var 2)) (.var 3)), (.bin .sub (.bin .mod (.sub (.var 0) (.bin .add (.cst (.int 3)) (.bin .mul (.cst (.int 2)) (.var 4)))) (.var 2)) (.var 3))])) (i := 4) (a := .var 1) (n := n)
    (σ := [some (.val (.lst (row.map .int))), some (.val (.int n)), some (.val (.int a)), some (.val (.int b)), none]) pt sml (by simp) (by omega) (fun m hm => by
      obtain ⟨x, _, f1, _⟩ := row_at hr (m := 2 + 2 * m) (by omega)
      obtain ⟨y, _, f2, _⟩ := row_at hr (m := 3 + 2 * m) (by omega)
      have g1 := op_mod (i := x) ha0
      have g2 := op_mod (i := y) ha0
      have p1 := fmod_pos x ha0
      have p2 := fmod_pos y ha0
      have mm := op_mul (i := 2) (j := (m : Int)) (mulB_small (by decide))
      rw [show ((2 + 2 * m : Nat) : Int) = 2 + 2 * (m : Int) by omega] at f1
      rw [show ((3 + 2 * m : Nat) : Int) = 3 + 2 * (m : Int) by omega] at f2
      refine ⟨(Int.fmod x a - b, Int.fmod y a - b), ⟨by omega, by omega⟩, by simp [mm, f1, f2, g1, g2, pt]⟩)
  refine ⟨l, h1, h2, ?_⟩
  have e1' : subR (.val (.lst (row.map .int))) 1 = some (.int v) := e1
  have hx : exs (cfK fns sub0 k) b__law_drawn_line (enter ⟨2, 5, false, b__law_drawn_line⟩ [.val (.lst (row.map .int)), .val (.int n)]) s = .ret (LN l) s := by
    refine (exs_next (σ1 := [some (.val (.lst (row.map .int))), some (.val (.int n)), some (.val (.int a)), none, none]) (s1 := s) (by simp [e1', hm, e2])).trans ?_
    refine (exs_next (σ1 := [some (.val (.lst (row.map .int))), some (.val (.int n)), some (.val (.int a)), some (.val (.int b)), none]) (s1 := s) (by simp [e1', hm, e3])).trans ?_
    exact exs_ret (ex_ret h4)
  rw [hx]
  rfl
end Pg
end IP

end
section
set_option linter.all false
set_option maxRecDepth 100000
namespace IP
namespace Pg
open L2
variable {k : Nat} {s : Sto} {p q r u : Int × Int} {l : List (Int × Int)} {row : List Int}
theorem sub_lastB {ts : List T} {m : Nat} {t : T} (hl : ts.length = m + 1) (h : ts[m]? = some t) : subR (.bor ts) (-1) = some t := by
  simp [subR, L2.atI, L2.ixN, hl]
  rw [if_pos (by omega)]
  have : ((-1 : Int) + ((m : Int) + 1)).toNat = m := by omega
  simp [this, h]
theorem sub_lastL {ts : List T} {m : Nat} {t : T} (hl : ts.length = m + 1) (h : ts[m]? = some t) : subR (.val (.lst ts)) (-1) = some t := by
  simp [subR, L2.atI, L2.ixN, hl]
  rw [if_pos (by omega)]
  have : ((-1 : Int) + ((m : Int) + 1)).toNat = m := by omega
  simp [this, h]
theorem r_strides (hr : ∀ v ∈ row, stirred v) (hl : row.length = 60) {a n : Nat} (h1 : 1 ≤ n) (hn : n ≤ 24) (ha : a + n ≤ 40) : ∃ far : List Int, far.length = n ∧ (∀ v ∈ far, 0 ≤ v ∧ v ≤ 100) ∧ run false fns sub0 whileL (k + 1) 15 [.val (.lst (row.map .int)), .val (.int a), .val (.int n)] s = .ok (.val (.lst (far.map .int))) s := by
  obtain ⟨σ', e, far, c, rfl, h2, h3⟩ := forL_inv (g := .one 4) (body := fun σ s => exs (cfK fns sub0 k) [(.app 3 (.bin .add (.bin .add (.sub (.var 3) (.neg (.cst (.int 1)))) (.cst (.int 1))) (.bin .mod (.sub (.var 0) (.bin .add (.var 1) (.var 4))) (.cst (.int 4)))))] σ s) (s := s)
    (fun m σ => ∃ (far : List Int) (c : Option B), σ = [some (.val (.lst (row.map .int))), some (.val (.int a)), some (.val (.int n)), some (.own (far.map .int)), c] ∧ far.length = m + 1 ∧ ∀ v ∈ far, 0 ≤ v ∧ v ≤ 4 * m) (rangeT 0 ((n - 1 : Nat) : Int)) 0 [some (.val (.lst (row.map .int))), some (.val (.int a)), some (.val (.int n)), some (.own [.int 0]), none] ⟨[0], none, rfl, rfl, by simp⟩ (by
      rintro m t σ hm ⟨far, c, rfl, h2, h3⟩
      obtain ⟨rfl, hlt⟩ := rangeT_get hm
      obtain ⟨x, _, f1, _⟩ := row_at hr (m := a + m) (by omega)
      rw [show ((a + m : Nat) : Int) = (a : Int) + (m : Int) by omega] at f1
      have hf : m < far.length := by omega
      have g1 := sub_lastB (ts := far.map T.int) (m := m) (t := .int far[m]) (by simp [h2]) (by simp [hf])
      have g2 := h3 _ (List.getElem_mem hf)
      have g3 := op_mod (i := x) (j := 4) (by decide)
      have g4 := fmod_pos x (j := 4) (by decide)
      have hlim : far.length < lim := Nat.lt_of_lt_of_le (show far.length < 1000 by omega) lim_ge
      refine ⟨[some (.val (.lst (row.map .int))), some (.val (.int a)), some (.val (.int n)), some (.own (far.map .int)), some (.val (.int m))], [some (.val (.lst (row.map .int))), some (.val (.int a)), some (.val (.int n)), some (.own ((far ++ [far[m] + 1 + Int.fmod x 4]).map .int)), some (.val (.int m))], by simp [bindTg], by simp [f1, g1, g3, ownAt, setOwn, hlim], far ++ [far[m] + 1 + Int.fmod x 4], some (.val (.int m)), rfl, by simp [h2], ?_⟩
      intro v hv
      rcases List.mem_append.mp hv with z | z
      · have := h3 v z; omega
      · rw [List.mem_singleton.mp z]; omega)
  refine ⟨far, ?_, fun v hv => ?_, ?_⟩
  · rw [h2, rangeT_len]; omega
  · have := h3 v hv
    rw [rangeT_len] at this
    omega
  · rw [run_at (F := ⟨3, 5, false, b__law_strides⟩) rfl rfl]
    have en : (n : Int) - 1 = ((n - 1 : Nat) : Int) := by omega
    have hx : exs (cfK fns sub0 k) b__law_strides (enter ⟨3, 5, false, b__law_strides⟩ [.val (.lst (row.map .int)), .val (.int a), .val (.int n)]) s = .ret (.val (.lst (far.map .int))) s := by
      refine (exs_next (σ1 := [some (.val (.lst (row.map .int))), some (.val (.int a)), some (.val (.int n)), some (.own [.int 0]), none]) (s1 := s) (by simp [freshE, setOwn])).trans ?_
      refine (exs_next ((ex_for (ts := rangeT 0 ((n - 1 : Nat) : Int)) (s1 := s) (ev_rng1 (n := n - 1) (by simp [en]) (by omega)) (by intro _ h; cases h)).trans e)).trans ?_
      simp [frz]
    rw [hx]
    rfl
def smn (B : Nat) (p : Int × Int) : Prop := p.1.natAbs ≤ B ∧ p.2.natAbs ≤ B
/-! rotated, turned round, swung -/
theorem comp_pts {C : Cf} {e : E} {i j : Nat} {x : Nat} {σ : Fr} {P Q : Int × Int → Prop} (hx : ev C (.var x) .v σ s = .ok (LN l) s) (hl : ∀ p ∈ l, P p)
    (h : ∀ p, P p → ∃ q, Q q ∧ ev C e .v (put (put σ i (.int p.1)) j (.int p.2)) s = .ok (PT q) s) : ∃ l' : List (Int × Int), l'.length = l.length ∧ (∀ q ∈ l', Q q) ∧ ev C (.comp e (.many [i, j]) (.var x)) .v σ s = .ok (LN l') s := by
  obtain ⟨xs, h1, h2, h3⟩ := mapRes_of (F := fun t s => onO (bindTg σ (.many [i, j]) t) fun σ' => one (ev C e .v σ' s)) (s := s) pt Q (l.map pt) (fun m t hm => by
    rw [List.getElem?_map] at hm
    cases hp : l[m]? with
    | none => rw [hp] at hm; cases hm
    | some p =>
      rw [hp] at hm
      cases hm
      obtain ⟨q, hq, e⟩ := h p (hl p (List.mem_of_getElem? hp))
      refine ⟨q, hq, ?_⟩
      show one (ev C _ .v (put (put σ i (.int p.1)) j (.int p.2)) s) = _
      rw [e]
      rfl)
  refine ⟨xs, by rw [h1]; simp, h2, ev_comp (ts := l.map pt) (s1 := s) ?_ h3⟩
  have : ev C (.var x) .i σ s = fin .i (ev C (.var x) .v σ s) := rfl
  rw [this, hx]
  rfl
end Pg
end IP

end
section
set_option linter.all false
set_option maxRecDepth 100000
namespace IP
namespace Pg
open L2
variable {k : Nat} {s : Sto} {p q r u : Int × Int} {l : List (Int × Int)} {row : List Int}
theorem cut_low {ts : List T} {m : Nat} (h : m ≤ ts.length) : cutR (.val (.lst ts)) (some (m : Int)) none = some (.val (.lst (ts.drop m))) := by
  have e : HT.sIx ts.length 0 (some (m : Int)) = m := by rw [HT.sIx_nat]; omega
  have e2 : HT.sIx ts.length ts.length none = ts.length := rfl
  simp [cutR, cutT, e, e2, ← List.length_drop, List.take_length]
theorem cut_up {ts : List T} {m : Nat} (h : m ≤ ts.length) : cutR (.val (.lst ts)) none (some (m : Int)) = some (.val (.lst (ts.take m))) := by
  have e : HT.sIx ts.length ts.length (some (m : Int)) = m := by rw [HT.sIx_nat]; omega
  have e2 : HT.sIx ts.length 0 none = 0 := rfl
  simp [cutR, cutT, e, e2]
theorem ex_ifs {C : Cf} {c : E} {a b : List S} {σ : Fr} {d : Bool} (h : ev C c .t σ s = .ok (.val (.bl d)) s) : ex C (.ifs c a b) σ s = if d = true then exs C a σ s else exs C b σ s := by
  unfold ex
  rw [h]
  simp
theorem r_swung {B : Nat} (hB : B ≤ 2 ^ 16) (hl : ∀ p ∈ l, smn B p) (hn : 0 < l.length) (hn2 : l.length ≤ 500) {c : Int} (hc : stirred c) : ∃ l' : List (Int × Int), l'.length = l.length ∧ (∀ q ∈ l', smn (3 * B) q) ∧ run false fns sub0 whileL (k + 1) 17 [LN l, .val (.int c)] s = .ok (LN l') s := by
  have m5 := op_mod (i := c) (j := 5) (by decide)
  have b5 := fmod_pos c (j := 5) (by decide)
  generalize Int.fmod c 5 = z5 at m5 b5
  have d5 := op_fdiv (i := c) (j := 5) (by decide) (by decide)
  have d10 := op_fdiv (i := c) (j := 10) (by decide) (by decide)
  have d20 := op_fdiv (i := c) (j := 20) (by decide) (by decide)
  generalize Int.fdiv c 5 = f5 at d5
  generalize Int.fdiv c 10 = f10 at d10
  generalize Int.fdiv c 20 = f20 at d20
  have n5 := op_mod (i := f5) (j := 2) (by decide)
  have n10 := op_mod (i := f10) (j := 2) (by decide)
  generalize Int.fmod f5 2 = g5 at n5
  generalize Int.fmod f10 2 = g10 at n10
  have n20 := op_mod (i := f20) (j := (l.length : Int)) (by omega)
  have b20 := fmod_pos f20 (j := (l.length : Int)) (by omega)
  generalize Int.fmod f20 (l.length : Int) = by' at n20 b20
  obtain ⟨l1, a1, a2, a3⟩ := comp_pts (C := cfK fns sub0 k) (s := s) (l := l) (e := .tup [(.bin .add (.var 5) (.bin .mul (.var 2) (.var 6))), (.var 6)]) (i := 5) (j := 6) (x := 0) (P := smn B) (Q := smn (3 * B))
    (σ := [some (.val (.lst (l.map pt))), some (.val (.int c)), some (.val (.int (z5 - 2))), none, none, none, none, none, none]) (by simp) hl (fun p hp => by
      have mm := op_mul (i := z5 - 2) (j := p.2) (mulB_small (by omega))
      have hb : ((z5 - 2) * p.2).natAbs ≤ 2 * B := natAbs_mul_le (by omega) hp.2
      have := hp.1
      have := hp.2
      refine ⟨(p.1 + (z5 - 2) * p.2, p.2), ⟨by show (p.1 + (z5 - 2) * p.2).natAbs ≤ 3 * B; omega, by show p.2.natAbs ≤ 3 * B; omega⟩, by simp [mm, pt]⟩)
  -- turned by a quarter or not
  obtain ⟨l2, c1, c2, c3⟩ : ∃ l2 : List (Int × Int), l2.length = l.length ∧ (∀ q ∈ l2, smn (3 * B) q) ∧ ex (cfK fns sub0 k) (.ifs (.cmp .eq (.bin .mod (.bin .fdiv (.var 1) (.cst (.int 5))) (.cst (.int 2))) (.cst (.int 1))) [(.asg 3 (.comp (.tup [(.bin .sub (.cst (.int 0)) (.var 8)), (.var 7)]) (.many [7, 8]) (.var 3)))] []) [some (.val (.lst (l.map pt))), some (.val (.int c)), some (.val (.int (z5 - 2))), some (.val (.lst (l1.map pt))), none, none, none, none, none] s = .next [some (.val (.lst (l.map pt))), some (.val (.int c)), some (.val (.int (z5 - 2))), some (.val (.lst (l2.map pt))), none, none, none, none, none] s := by
    by_cases hg : g5 = 1
    · obtain ⟨l2, e1, e2, e3⟩ := comp_pts (C := cfK fns sub0 k) (s := s) (l := l1) (e := .tup [(.bin .sub (.cst (.int 0)) (.var 8)), (.var 7)]) (i := 7) (j := 8) (x := 3) (P := smn (3 * B)) (Q := smn (3 * B))
        (σ := [some (.val (.lst (l.map pt))), some (.val (.int c)), some (.val (.int (z5 - 2))), some (.val (.lst (l1.map pt))), none, none, none, none, none]) (by simp) a2 (fun p hp => by
          have := hp.1
          have := hp.2
          refine ⟨(0 - p.2, p.1), ⟨by show (0 - p.2).natAbs ≤ 3 * B; omega, hp.1⟩, by simp [pt]⟩)
      refine ⟨l2, by omega, e2, ?_⟩
      rw [ex_ifs (d := true) (by simp [d5, n5, hg])]
      exact (exs_next (ex_asg e3)).trans (by simp)
    · refine ⟨l1, a1, a2, ?_⟩
      rw [ex_ifs (d := false) (by simp [d5, n5, hg])]
      simp
  obtain ⟨l3, f1, f2, f3⟩ : ∃ l3 : List (Int × Int), l3.length = l.length ∧ (∀ q ∈ l3, smn (3 * B) q) ∧ ex (cfK fns sub0 k) (.ifs (.cmp .eq (.bin .mod (.bin .fdiv (.var 1) (.cst (.int 10))) (.cst (.int 2))) (.cst (.int 1))) [(.asg 3 (.rev (.var 3)))] []) [some (.val (.lst (l.map pt))), some (.val (.int c)), some (.val (.int (z5 - 2))), some (.val (.lst (l2.map pt))), none, none, none, none, none] s = .next [some (.val (.lst (l.map pt))), some (.val (.int c)), some (.val (.int (z5 - 2))), some (.val (.lst (l3.map pt))), none, none, none, none, none] s := by
    by_cases hg : g10 = 1
    · refine ⟨l2.reverse, by simp [c1], fun q hq => c2 q (List.mem_reverse.mp hq), ?_⟩
      rw [ex_ifs (d := true) (by simp [d10, n10, hg])]
      simp
    · refine ⟨l2, c1, c2, ?_⟩
      rw [ex_ifs (d := false) (by simp [d10, n10, hg])]
      simp
  obtain ⟨m, rfl⟩ : ∃ m : Nat, by' = (m : Int) := ⟨by'.toNat, by omega⟩
  have u1 := cut_low (ts := l3.map pt) (m := m) (by simp; omega)
  have u2 := cut_up (ts := l3.map pt) (m := m) (by simp; omega)
  refine ⟨l3.drop m ++ l3.take m, by simp; omega, fun q hq => ?_, ?_⟩
  · rcases List.mem_append.mp hq with z | z
    · exact f2 q (List.mem_of_mem_drop z)
    · exact f2 q (List.mem_of_mem_take z)
  · rw [run_at (F := ⟨2, 9, true, b__law_swung⟩) rfl rfl]
    have hadd : opR .add (.val (.lst ((l3.map pt).drop m))) (.val (.lst ((l3.map pt).take m))) = some (.val (.lst ((l3.map pt).drop m ++ (l3.map pt).take m))) := by
      have hlim : ((l3.map pt).drop m).length + ((l3.map pt).take m).length ≤ lim := Nat.le_trans (by simp; omega) lim_ge
      show (if ((l3.map pt).drop m).length + ((l3.map pt).take m).length ≤ lim then _ else _) = _
      rw [if_pos hlim]
    have hx : exs (cfK fns sub0 k) b__law_swung (enter ⟨2, 9, true, b__law_swung⟩ [LN l, .val (.int c)]) s = .retO ((l3.drop m ++ l3.take m).map pt) s := by
      refine (exs_next (σ1 := [some (.val (.lst (l.map pt))), some (.val (.int c)), some (.val (.int (z5 - 2))), none, none, none, none, none, none]) (s1 := s) (by simp [m5])).trans ?_
      refine (exs_next (ex_asg a3)).trans ?_
      refine (exs_next c3).trans ?_
      refine (exs_next f3).trans ?_
      refine (exs_next (σ1 := [some (.val (.lst (l.map pt))), some (.val (.int c)), some (.val (.int (z5 - 2))), some (.val (.lst (l3.map pt))), some (.val (.int m)), none, none, none, none]) (s1 := s) (by simp [d20, f1, n20])).trans ?_
      simp [freshE, u1, u2, hadd]
    rw [hx]
    rfl
end Pg
end IP

end
section
set_option linter.all false
set_option maxRecDepth 100000
namespace IP
namespace Pg
open L2
variable {k : Nat} {s : Sto} {p q r u : Int × Int} {l : List (Int × Int)} {row : List Int}
theorem ints_at {xs : List Int} {m : Nat} (h : m < xs.length) : subR (.val (.lst (xs.map .int))) (m : Int) = some (.int xs[m]) := sub_at (by simp [h])
theorem prod_le {a b : Int} (ha : 0 ≤ a ∧ a ≤ 100) (hb : 0 ≤ b ∧ b ≤ 100) : (a * b).natAbs ≤ 10000 := natAbs_mul_le (m := 100) (n := 100) (by omega) (by omega)
theorem r_simple (hr : ∀ v ∈ row, stirred v) (hl : row.length = 60) {n : Nat} (h3 : 3 ≤ n) (hn : n ≤ 24) : ∃ l : List (Int × Int), l.length = n ∧ (∀ p ∈ l, smn 10000 p) ∧ run false fns sub0 whileL (k + 2) 16 [.val (.lst (row.map .int)), .val (.int n)] s = .ok (LN l) s := by
  obtain ⟨v0, _, r0, _⟩ := row_at hr (m := 0) (by omega)
  obtain ⟨v1, _, r1, _⟩ := row_at hr (m := 1) (by omega)
  have r0' : subR (.val (.lst (row.map .int))) 0 = some (.int v0) := r0
  have r1' : subR (.val (.lst (row.map .int))) 1 = some (.int v1) := r1
  have hm := op_mod (i := v1) (j := 4) (by decide)
  have hz := fmod_pos v1 (j := 4) (by decide)
  generalize Int.fmod v1 4 = z at hm hz
  obtain ⟨tall, ht, e2⟩ := menu4 (a := 1) (b := 3) (c := 50) (d := 900) hz.1 hz.2
  have ht0 : 0 < tall := by omega
  have ht1 : tall ≤ 900 := by omega
  -- low
  obtain ⟨low, lo1, lo2, lo3⟩ : ∃ low : Nat, 2 ≤ low ∧ low + 1 ≤ n ∧ ex (cfK fns sub0 (k + 1)) (.ifs (.cmp .gt (.var 1) (.cst (.int 3))) [(.asg 2 (.bin .add (.cst (.int 2)) (.bin .mod (.sub (.var 0) (.cst (.int 0))) (.bin .sub (.var 1) (.cst (.int 3))))))] []) [some (.val (.lst (row.map .int))), some (.val (.int n)), some (.val (.int 2)), none, none, none, none, none, none] s = .next [some (.val (.lst (row.map .int))), some (.val (.int n)), some (.val (.int low)), none, none, none, none, none, none] s := by
    by_cases h : 3 < n
    · have g1 := op_mod (i := v0) (j := (n : Int) - 3) (by omega)
      have g2 := fmod_pos v0 (j := (n : Int) - 3) (by omega)
      generalize Int.fmod v0 ((n : Int) - 3) = y at g1 g2
      refine ⟨2 + y.toNat, by omega, by omega, ?_⟩
      rw [ex_ifs (d := true) (by simp; omega)]
      rw [show ((2 + y.toNat : Nat) : Int) = 2 + y by omega]
      simp [r0', g1]
    · refine ⟨2, by omega, by omega, ?_⟩
      rw [ex_ifs (d := false) (by simp; omega)]
      simp
  obtain ⟨high, hi⟩ : ∃ high : Nat, n = low + high := ⟨n - low, by omega⟩
  obtain ⟨bot, b1, b2, b3⟩ := r_strides (k := k) (s := s) hr hl (a := 2) (n := low) (by omega) (by omega) (by omega)
  obtain ⟨tp, t1, t2, t3⟩ := r_strides (k := k) (s := s) hr hl (a := 2 + low) (n := high) (by omega) (by omega) (by omega)
  rw [show ((2 + low : Nat) : Int) = 2 + (low : Int) by omega] at t3
  have tl : high - 1 < tp.length := by omega
  have bl : low - 1 < bot.length := by omega
  have tlast := sub_lastL (ts := tp.map T.int) (m := high - 1) (t := .int tp[high - 1]) (by simp; omega) (by simp [tl])
  have blast := sub_lastL (ts := bot.map T.int) (m := low - 1) (t := .int bot[low - 1]) (by simp; omega) (by simp [bl])
  have tv := t2 _ (List.getElem_mem tl)
  have bv := b2 _ (List.getElem_mem bl)
  generalize tp[high - 1] = tz at tlast tv
  generalize bot[low - 1] = bz at blast bv
  -- the lower line
  obtain ⟨σ', e, l1, c, rfl, x1, x2⟩ := forL_inv (g := .one 8) (body := fun σ s => exs (cfK fns sub0 (k + 1)) [(.app 7 (.tup [(.bin .mul (.sub (.var 5) (.var 8)) (.mx2 (.cst (.int 1)) (.sub (.var 6) (.neg (.cst (.int 1)))))), (.bin .sub (.neg (.cst (.int 1))) (.bin .mod (.sub (.var 0) (.bin .add (.cst (.int 26)) (.var 8))) (.var 4)))]))] σ s) (s := s)
    (fun m σ => ∃ (l : List (Int × Int)) (c : Option B), σ = [some (.val (.lst (row.map .int))), some (.val (.int n)), some (.val (.int low)), some (.val (.int high)), some (.val (.int tall)), some (.val (.lst (bot.map .int))), some (.val (.lst (tp.map .int))), some (.own (l.map pt)), c] ∧ l.length = m ∧ ∀ p ∈ l, smn 10000 p) (rangeT 0 low) 0 [some (.val (.lst (row.map .int))), some (.val (.int n)), some (.val (.int low)), some (.val (.int high)), some (.val (.int tall)), some (.val (.lst (bot.map .int))), some (.val (.lst (tp.map .int))), some (.own []), none] ⟨[], none, rfl, rfl, by simp⟩ (by
      rintro m t σ hm ⟨l, c, rfl, h2, h3⟩
      obtain ⟨rfl, hlt⟩ := rangeT_get hm
      obtain ⟨x, _, f1, _⟩ := row_at hr (m := 26 + m) (by omega)
      rw [show ((26 + m : Nat) : Int) = 26 + (m : Int) by omega] at f1
      have hb : m < bot.length := by omega
      have f2 := ints_at hb
      have hbv := b2 _ (List.getElem_mem hb)
      have g1 := op_mod (i := x) ht0
      have g2 := fmod_pos x ht0
      have g3 := op_mul (i := bot[m]) (j := if 1 < tz then tz else 1) (mulB_small (by omega))
      have g4 := prod_le (a := bot[m]) (b := if 1 < tz then tz else 1) hbv (by split <;> omega)
      have hlim : l.length < lim := Nat.lt_of_lt_of_le (show l.length < 1000 by omega) lim_ge
      refine ⟨[some (.val (.lst (row.map .int))), some (.val (.int n)), some (.val (.int low)), some (.val (.int high)), some (.val (.int tall)), some (.val (.lst (bot.map .int))), some (.val (.lst (tp.map .int))), some (.own (l.map pt)), some (.val (.int m))], [some (.val (.lst (row.map .int))), some (.val (.int n)), some (.val (.int low)), some (.val (.int high)), some (.val (.int tall)), some (.val (.lst (bot.map .int))), some (.val (.lst (tp.map .int))), some (.own ((l ++ [(bot[m] * (if 1 < tz then tz else 1), -1 - Int.fmod x tall)]).map pt)), some (.val (.int m))], by simp [bindTg], by simp [f1, f2, g1, g3, tlast, ownAt, setOwn, hlim, pt], l ++ [(bot[m] * (if 1 < tz then tz else 1), -1 - Int.fmod x tall)], some (.val (.int m)), rfl, by simp [h2], ?_⟩
      intro v hv
      rcases List.mem_append.mp hv with z | z
      · exact h3 v z
      · rw [List.mem_singleton.mp z]; exact ⟨g4, by show (-1 - Int.fmod x tall).natAbs ≤ 10000; omega⟩)
  rw [rangeT_len] at x1
  -- the upper line
  obtain ⟨σ', e', l2, c', rfl, y1, y2⟩ := forL_inv (g := .one 8) (body := fun σ s => exs (cfK fns sub0 (k + 1)) [(.app 7 (.tup [(.bin .mul (.sub (.var 6) (.bin .sub (.bin .sub (.var 3) (.cst (.int 1))) (.var 8))) (.sub (.var 5) (.neg (.cst (.int 1))))), (.bin .add (.cst (.int 1)) (.bin .mod (.sub (.var 0) (.bin .add (.bin .add (.cst (.int 26)) (.var 2)) (.var 8))) (.var 4)))]))] σ s) (s := s)
    (fun m σ => ∃ (l : List (Int × Int)) (c : Option B), σ = [some (.val (.lst (row.map .int))), some (.val (.int n)), some (.val (.int low)), some (.val (.int high)), some (.val (.int tall)), some (.val (.lst (bot.map .int))), some (.val (.lst (tp.map .int))), some (.own (l.map pt)), c] ∧ l.length = low + m ∧ ∀ p ∈ l, smn 10000 p) (rangeT 0 high) 0 [some (.val (.lst (row.map .int))), some (.val (.int n)), some (.val (.int low)), some (.val (.int high)), some (.val (.int tall)), some (.val (.lst (bot.map .int))), some (.val (.lst (tp.map .int))), some (.own (l1.map pt)), c] ⟨l1, c, rfl, by omega, x2⟩ (by
      rintro m t σ hm ⟨l, c, rfl, h2, h3⟩
      obtain ⟨rfl, hlt⟩ := rangeT_get hm
      obtain ⟨x, _, f1, _⟩ := row_at hr (m := 26 + low + m) (by omega)
      rw [show ((26 + low + m : Nat) : Int) = 26 + (low : Int) + (m : Int) by omega] at f1
      have hb : high - 1 - m < tp.length := by omega
      have f2 := ints_at hb
      rw [show ((high - 1 - m : Nat) : Int) = (high : Int) - 1 - (m : Int) by omega] at f2
      have hbv := t2 _ (List.getElem_mem hb)
      generalize tp[high - 1 - m] = tw at f2 hbv
      have g1 := op_mod (i := x) ht0
      have g2 := fmod_pos x ht0
      have g3 := op_mul (i := tw) (j := bz) (mulB_small (by omega))
      have g4 := prod_le (a := tw) (b := bz) hbv bv
      have hlim : l.length < lim := Nat.lt_of_lt_of_le (show l.length < 1000 by omega) lim_ge
      refine ⟨[some (.val (.lst (row.map .int))), some (.val (.int n)), some (.val (.int low)), some (.val (.int high)), some (.val (.int tall)), some (.val (.lst (bot.map .int))), some (.val (.lst (tp.map .int))), some (.own (l.map pt)), some (.val (.int m))], [some (.val (.lst (row.map .int))), some (.val (.int n)), some (.val (.int low)), some (.val (.int high)), some (.val (.int tall)), some (.val (.lst (bot.map .int))), some (.val (.lst (tp.map .int))), some (.own ((l ++ [(tw * bz, 1 + Int.fmod x tall)]).map pt)), some (.val (.int m))], by simp [bindTg], by simp [f1, f2, g1, g3, blast, ownAt, setOwn, hlim, pt], l ++ [(tw * bz, 1 + Int.fmod x tall)], some (.val (.int m)), rfl, by simp [h2]; omega, ?_⟩
      intro v hv
      rcases List.mem_append.mp hv with z | z
      · exact h3 v z
      · rw [List.mem_singleton.mp z]; exact ⟨g4, by show (1 + Int.fmod x tall).natAbs ≤ 10000; omega⟩)
  rw [rangeT_len] at y1
  refine ⟨l2, by omega, y2, ?_⟩
  rw [run_at (F := ⟨2, 9, false, b__law_simple⟩) rfl rfl]
  have ehi : (n : Int) - (low : Int) = (high : Int) := by omega
  have b3' : run false fns sub0 whileL (k + 1) 15 [.val (.lst (row.map .int)), .val (.int 2), .val (.int low)] s = .ok (.val (.lst (bot.map .int))) s := b3
  have hx : exs (cfK fns sub0 (k + 1)) b__law_simple (enter ⟨2, 9, false, b__law_simple⟩ [.val (.lst (row.map .int)), .val (.int n)]) s = .ret (LN l2) s := by
    refine (exs_next (σ1 := [some (.val (.lst (row.map .int))), some (.val (.int n)), some (.val (.int 2)), none, none, none, none, none, none]) (s1 := s) (by simp)).trans ?_
    refine (exs_next lo3).trans ?_
    refine (exs_next (σ1 := [some (.val (.lst (row.map .int))), some (.val (.int n)), some (.val (.int low)), some (.val (.int high)), none, none, none, none, none]) (s1 := s) (by simp [ehi])).trans ?_
    refine (exs_next (σ1 := [some (.val (.lst (row.map .int))), some (.val (.int n)), some (.val (.int low)), some (.val (.int high)), some (.val (.int tall)), none, none, none, none]) (s1 := s) (by simp [r1', hm, e2])).trans ?_
    refine (exs_next (σ1 := [some (.val (.lst (row.map .int))), some (.val (.int n)), some (.val (.int low)), some (.val (.int high)), some (.val (.int tall)), some (.val (.lst (bot.map .int))), none, none, none]) (s1 := s) (by simp [b3'])).trans ?_
    refine (exs_next (σ1 := [some (.val (.lst (row.map .int))), some (.val (.int n)), some (.val (.int low)), some (.val (.int high)), some (.val (.int tall)), some (.val (.lst (bot.map .int))), some (.val (.lst (tp.map .int))), none, none]) (s1 := s) (by simp [t3])).trans ?_
    refine (exs_next (σ1 := [some (.val (.lst (row.map .int))), some (.val (.int n)), some (.val (.int low)), some (.val (.int high)), some (.val (.int tall)), some (.val (.lst (bot.map .int))), some (.val (.lst (tp.map .int))), some (.own []), none]) (s1 := s) (by simp [freshE, setOwn])).trans ?_
    refine (exs_next ((ex_for (ts := rangeT 0 low) (s1 := s) (ev_rng1 (n := low) (by simp) (by omega)) (by intro _ h; cases h)).trans e)).trans ?_
    refine (exs_next ((ex_for (ts := rangeT 0 high) (s1 := s) (ev_rng1 (n := high) (by simp) (by omega)) (by intro _ h; cases h)).trans e')).trans ?_
    simp [frz]
  rw [hx]
  rfl
end Pg
end IP

end
section
set_option linter.all false
set_option maxRecDepth 100000
namespace IP
namespace Pg
open L2
variable {k : Nat} {s : Sto} {p q r u : Int × Int} {l : List (Int × Int)} {row : List Int}
theorem ex_mk {C : Cf} {e : E} {i : Nat} {σ : Fr} {s1 : Sto} {ts : List T} (hf : freshE C e = true) (h : ev C e .v σ s = .ok (.val (.lst ts)) s1) : ex C (.mk i e) σ s = .next (setOwn σ i ts) s1 := by
  unfold ex
  rw [if_pos hf, h]
  rfl
theorem fdiv2 (x : Int) : Int.fdiv x 2 = x / 2 := Int.fdiv_eq_ediv_of_nonneg _ (by decide)
abbrev fS (row : List Int) (n : Nat) (l : List (Int × Int)) (m : Nat) (p q : Int × Int) (z : Int) : Fr := [some (.val (.lst (row.map .int))), some (.val (.int n)), some (.own (l.map pt)), some (.val (.int m)), some (.val (pt p)), some (.val (pt q)), some (.val (.int z))]
theorem put_pt {C : Cf} {e : E} {n m : Nat} {z : Int} {t : Int × Int} (hm : m < l.length) (h : ev C e .v (fS row n l m p q z) s = .ok (PT t) s) : ex C (.put 2 (.var 3) e) (fS row n l m p q z) s = .next (fS row n (l.set m t) m p q z) s := by
  have hx : L2.ixN (l.map pt).length (m : Int) = some m := by simp [L2.ixN, hm]
  unfold ex
  rw [show ownAt (fS row n l m p q z) 2 = some (l.map pt) from rfl]
  simp only [onS_some]
  rw [h]
  simp only [Res.st_ok, val_val, onS_some]
  rw [show ev C (.var 3) .v (fS row n l m p q z) s = .ok (.val (.int m)) s by simp]
  simp only [Res.st_ok, int_int, onS_some]
  rw [hx]
  simp only [onS_some, setOwn]
  rw [← List.map_set]
  rfl
theorem if_put {C : Cf} {c e : E} {n m : Nat} {z : Int} {t : Int × Int} {d : Bool} (hm : m < l.length) (hc : ev C c .t (fS row n l m p q z) s = .ok (.val (.bl d)) s) (h : ev C e .v (fS row n l m p q z) s = .ok (PT t) s) (ht : sml t) (hl : ∀ p ∈ l, sml p) :
    ∃ l', l'.length = l.length ∧ (∀ p ∈ l', sml p) ∧ ex C (.ifs c [.put 2 (.var 3) e] []) (fS row n l m p q z) s = .next (fS row n l' m p q z) s := by
  cases d with
  | true =>
    refine ⟨l.set m t, by simp, fun x hx => ?_, ?_⟩
    · rcases List.mem_or_eq_of_mem_set hx with y | y
      · exact hl x y
      · rw [y]; exact ht
    · rw [ex_ifs hc]
      exact (exs_next (put_pt hm h)).trans (by simp only [exs])
  | false =>
    refine ⟨l, rfl, hl, ?_⟩
    rw [ex_ifs hc]
    simp only [exs]
    rfl
theorem r_spoiled (hr : ∀ v ∈ row, stirred v) (hl : row.length = 60) {n : Nat} (h3 : 3 ≤ n) (hn : n ≤ 24) : ∃ l : List (Int × Int), l.length = n ∧ (∀ p ∈ l, sml p) ∧ run false fns sub0 whileL (k + 3) 23 [.val (.lst (row.map .int)), .val (.int n)] s = .ok (LN l) s := by
  obtain ⟨l0, a1, a2, a3⟩ := r_simple (k := k) (s := s) hr hl h3 hn
  obtain ⟨v52, s52, r52, _⟩ := row_at hr (m := 52) (by omega)
  obtain ⟨v53, _, r53, _⟩ := row_at hr (m := 53) (by omega)
  obtain ⟨v54, _, r54, _⟩ := row_at hr (m := 54) (by omega)
  obtain ⟨v55, _, r55, _⟩ := row_at hr (m := 55) (by omega)
  obtain ⟨v56, _, r56, _⟩ := row_at hr (m := 56) (by omega)
  obtain ⟨v57, _, r57, _⟩ := row_at hr (m := 57) (by omega)
  obtain ⟨v58, _, r58, _⟩ := row_at hr (m := 58) (by omega)
  have r52 : subR (.val (.lst (row.map .int))) 52 = some (.int v52) := r52
  have r53 : subR (.val (.lst (row.map .int))) 53 = some (.int v53) := r53
  have r54 : subR (.val (.lst (row.map .int))) 54 = some (.int v54) := r54
  have r55 : subR (.val (.lst (row.map .int))) 55 = some (.int v55) := r55
  have r56 : subR (.val (.lst (row.map .int))) 56 = some (.int v56) := r56
  have r57 : subR (.val (.lst (row.map .int))) 57 = some (.int v57) := r57
  have r58 : subR (.val (.lst (row.map .int))) 58 = some (.int v58) := r58
  obtain ⟨l1, b1, b2, b3⟩ := r_swung (k := k + 1) (s := s) (l := l0) (B := 10000) (by decide) a2 (by omega) (by omega) s52
  have hs1 : ∀ p ∈ l1, sml p := fun p hp => by have := b2 p hp; unfold smn at this; unfold sml; omega
  have m53 := op_mod (i := v53) (j := (n : Int)) (by omega)
  have m54 := op_mod (i := v54) (j := (n : Int)) (by omega)
  have m55 := op_mod (i := v55) (j := (n : Int)) (by omega)
  have m56 := op_mod (i := v56) (j := 4) (by decide)
  have m57 := op_mod (i := v57) (j := 5) (by decide)
  have m58 := op_mod (i := v58) (j := 5) (by decide)
  have p53 := fmod_pos v53 (j := (n : Int)) (by omega)
  have p54 := fmod_pos v54 (j := (n : Int)) (by omega)
  have p55 := fmod_pos v55 (j := (n : Int)) (by omega)
  have p57 := fmod_pos v57 (j := 5) (by decide)
  have p58 := fmod_pos v58 (j := 5) (by decide)
  generalize Int.fmod v53 (n : Int) = z3 at m53 p53
  generalize Int.fmod v54 (n : Int) = z4 at m54 p54
  generalize Int.fmod v55 (n : Int) = z5 at m55 p55
  generalize Int.fmod v56 4 = z6 at m56
  generalize Int.fmod v57 5 = z7 at m57 p57
  generalize Int.fmod v58 5 = z8 at m58 p58
  obtain ⟨i3, rfl⟩ : ∃ m : Nat, z3 = (m : Int) := ⟨z3.toNat, by omega⟩
  obtain ⟨i4, rfl⟩ : ∃ m : Nat, z4 = (m : Int) := ⟨z4.toNat, by omega⟩
  obtain ⟨i5, rfl⟩ : ∃ m : Nat, z5 = (m : Int) := ⟨z5.toNat, by omega⟩
  have h4 : i4 < l1.length := by omega
  have h5 : i5 < l1.length := by omega
  have g4 := sub_atB (ts := l1.map pt) (n := i4) (t := pt l1[i4]) (by simp [h4])
  have g5 := sub_atB (ts := l1.map pt) (n := i5) (t := pt l1[i5]) (by simp [h5])
  have c4 := b2 _ (List.getElem_mem h4)
  have c5 := b2 _ (List.getElem_mem h5)
  generalize l1[i4] = p at g4 c4
  generalize l1[i5] = q at g5 c5
  unfold smn at c4 c5
  have d1 := op_fdiv (i := p.1 + q.1) (j := 2) (by decide) (by decide)
  have d2 := op_fdiv (i := p.2 + q.2) (j := 2) (by decide) (by decide)
  obtain ⟨l2, x1, x2, x3⟩ := if_put (C := cfK fns sub0 (k + 2)) (s := s) (row := row) (n := n) (l := l1) (m := i3) (p := p) (q := q) (z := z6) (c := .cmp .eq (.var 6) (.cst (.int 1))) (e := .var 4) (t := p) (d := (z6 == 1)) (by omega) (by simp) (by simp) (by unfold sml; omega) hs1
  obtain ⟨l3, y1, y2, y3⟩ := if_put (C := cfK fns sub0 (k + 2)) (s := s) (row := row) (n := n) (l := l2) (m := i3) (p := p) (q := q) (z := z6) (c := .cmp .eq (.var 6) (.cst (.int 2))) (e := .tup [(.bin .fdiv (.bin .add (.sub (.var 4) (.cst (.int 0))) (.sub (.var 5) (.cst (.int 0)))) (.cst (.int 2))), (.bin .fdiv (.bin .add (.sub (.var 4) (.cst (.int 1))) (.sub (.var 5) (.cst (.int 1)))) (.cst (.int 2)))]) (t := (Int.fdiv (p.1 + q.1) 2, Int.fdiv (p.2 + q.2) 2)) (d := (z6 == 2)) (by omega) (by simp) (by simp [d1, d2]; simp [pt]) (by rw [fdiv2, fdiv2]; constructor <;> (show Int.natAbs _ ≤ _; omega)) x2
  obtain ⟨l4, w1, w2, w3⟩ := if_put (C := cfK fns sub0 (k + 2)) (s := s) (row := row) (n := n) (l := l3) (m := i3) (p := p) (q := q) (z := z6) (c := .cmp .eq (.var 6) (.cst (.int 3))) (e := .tup [(.bin .sub (.bin .add (.sub (.var 4) (.cst (.int 0))) (.bin .mod (.sub (.var 0) (.cst (.int 57))) (.cst (.int 5)))) (.cst (.int 2))), (.bin .sub (.bin .add (.sub (.var 5) (.cst (.int 1))) (.bin .mod (.sub (.var 0) (.cst (.int 58))) (.cst (.int 5)))) (.cst (.int 2)))]) (t := (p.1 + z7 - 2, q.2 + z8 - 2)) (d := (z6 == 3)) (by omega) (by simp) (by simp [r57, r58, m57, m58]; simp [pt]) (by constructor <;> (show Int.natAbs _ ≤ _; omega)) y2
  refine ⟨l4, by omega, w2, ?_⟩
  rw [run_at (F := ⟨2, 7, false, b__law_spoiled⟩) rfl rfl]
  have hx : exs (cfK fns sub0 (k + 2)) b__law_spoiled (enter ⟨2, 7, false, b__law_spoiled⟩ [.val (.lst (row.map .int)), .val (.int n)]) s = .ret (LN l4) s := by
    refine (exs_next (ex_mk (ts := l1.map pt) (s1 := s) rfl (by simp [a3, r52, b3]))).trans ?_
    refine (exs_next (σ1 := [some (.val (.lst (row.map .int))), some (.val (.int n)), some (.own (l1.map pt)), some (.val (.int i3)), none, none, none]) (s1 := s) (by simp [r53, m53, setOwn])).trans ?_
    refine (exs_next (σ1 := [some (.val (.lst (row.map .int))), some (.val (.int n)), some (.own (l1.map pt)), some (.val (.int i3)), some (.val (pt p)), none, none]) (s1 := s) (by simp [r54, m54, g4])).trans ?_
    refine (exs_next (σ1 := [some (.val (.lst (row.map .int))), some (.val (.int n)), some (.own (l1.map pt)), some (.val (.int i3)), some (.val (pt p)), some (.val (pt q)), none]) (s1 := s) (by simp [r55, m55, g5])).trans ?_
    refine (exs_next (σ1 := fS row n l1 i3 p q z6) (s1 := s) (by simp [r56, m56])).trans ?_
    refine (exs_next x3).trans ?_
    refine (exs_next y3).trans ?_
    refine (exs_next w3).trans ?_
    simp [frz]
  rw [hx]
  rfl
/-! ### the law -/
theorem firstN_is {q' : Nat → Option R} {P : R → Prop} (h : ∀ i v, q' i = some v → P v) : ∀ (m n : Nat) (v : R), firstN q' n m = some v → P v
  | 0, n, v, e => by cases e
  | m + 1, n, v, e => by
    unfold firstN at e
    cases hq : q' n with
    | some w => rw [hq] at e; obtain rfl := Option.some.inj e; exact h n _ hq
    | none => rw [hq] at e; exact firstN_is h m (n + 1) v e
theorem fp_is (f : Nat → Nat → Bool) (n : Nat) : fp f n = .val .non ∨ ∃ i j : Int, fp f n = .val (.tup [.int i, .int j]) := by
  unfold fp
  cases h : firstN (qi f n) 0 n with
  | none => exact .inl rfl
  | some v =>
    right
    refine firstN_is (P := fun v => ∃ i j : Int, v = .val (.tup [.int i, .int j])) (fun i v e => ?_) n 0 v h
    refine firstN_is (P := fun v => ∃ i j : Int, v = .val (.tup [.int i, .int j])) (fun j v e => ?_) _ _ v e
    unfold qj at e
    split at e
    · cases e; exact ⟨i, j, rfl⟩
    · cases e
abbrev fL (ns row : List Int) (n : Nat) (a b c d : Option B) : Fr := [some (.val (.lst (ns.map .int))), some (.val (.lst (row.map .int))), some (.val (.int n)), a, b, c, d]
theorem law_tail {C : Cf} {σ : Fr} {ns row : List Int} {n : Nat} {t : T} (hc : C.cf 0 [LN l] [] = .ok (.val t) []) (hf : C.cf 21 [LN l] [] = .ok (.val t) []) (hw : C.cf 14 [LN l, LN l] [] = .ok (.val (.bl true)) []) (ht : t = .non ∨ ∃ i j, t = .tup [.int i, .int j]) (hm : C.cf 13 [.val t, .val t] [] = .ok (.val (.bl true)) [] ∨ t = .non) :
    exs C [(.asg 5 (.call 0 [(.var 4)] [])), (.ifs (.not (.call 14 [(.var 4), (.var 3)] [])) [(.ret (.cst (.bl false)))] []), (.asg 6 (.call 21 [(.var 3)] [])), (.ifs (.cmp .isN (.var 6) (.cst .non)) [(.ret (.cmp .isN (.var 5) (.cst .non)))] []), (.ret (.call 13 [(.var 5), (.var 6)] []))] (fL ns row n (some (.val (.lst (l.map pt)))) (some (.val (.lst (l.map pt)))) none none) [] = .ret (.val (.bl true)) [] := by
  rcases ht with rfl | ⟨i, j, rfl⟩
  · simp [hc, hf, hw, R.isNon]
  · rcases hm with hm | z
    · simp [hc, hf, hw, hm, R.isNon]
    · cases z
theorem cf_eq (m : Nat) : run false fns sub0 whileL m = (cfK fns sub0 m).cf := rfl
theorem math_at (k : Nat) (ns : List Int) : ∃ s, run false fns sub0 whileL (k + 12) 24 [.val (.lst (ns.map .int))] [] = .ok (.val (.bl true)) s := by
  obtain ⟨row, a1, a2, a3⟩ := r_stir (k := k + 9) (s := []) ns 60 (by decide)
  obtain ⟨v59, _, r59, _⟩ := row_at a2 (m := 59) (by omega)
  obtain ⟨v58, _, r58, _⟩ := row_at a2 (m := 58) (by omega)
  have r59 : subR (.val (.lst (row.map .int))) 59 = some (.int v59) := r59
  have r58 : subR (.val (.lst (row.map .int))) 58 = some (.int v58) := r58
  have a3' : run false fns sub0 whileL (k + 11) 11 [.val (.lst (ns.map .int)), .val (.int 60)] [] = .ok (.val (.lst (row.map .int))) [] := by simpa using a3
  have m22 := op_mod (i := v59) (j := 22) (by decide)
  have p22 := fmod_pos v59 (j := 22) (by decide)
  have m3 := op_mod (i := v59) (j := 3) (by decide)
  have p3 := fmod_pos v59 (j := 3) (by decide)
  have d22 := op_fdiv (i := v59) (j := 22) (by decide) (by decide)
  have d7 := op_fdiv (i := v58) (j := 7) (by decide) (by decide)
  generalize Int.fmod v59 22 = z22 at m22 p22
  generalize Int.fmod v59 3 = z3 at m3 p3
  obtain ⟨y22, rfl⟩ : ∃ y : Nat, z22 = (y : Int) := ⟨z22.toNat, by omega⟩
  obtain ⟨y3, rfl⟩ : ∃ y : Nat, z3 = (y : Int) := ⟨z3.toNat, by omega⟩
  generalize Int.fdiv v59 22 = f22 at d22
  generalize Int.fdiv v58 7 = f7 at d7
  have n3 := op_mod (i := f22) (j := 3) (by decide)
  have n2 := op_mod (i := f7) (j := 2) (by decide)
  generalize Int.fmod f22 3 = g3 at n3
  generalize Int.fmod f7 2 = g2 at n2
  -- how many
  obtain ⟨n, h3, h24, e1⟩ : ∃ n : Nat, 3 ≤ n ∧ n ≤ 24 ∧ ex (cfK fns sub0 (k + 11)) (.ifs (.cmp .eq (.bin .mod (.bin .fdiv (.sub (.var 1) (.cst (.int 59))) (.cst (.int 22))) (.cst (.int 3))) (.cst (.int 0))) [(.asg 2 (.bin .add (.cst (.int 3)) (.bin .mod (.sub (.var 1) (.cst (.int 59))) (.cst (.int 3)))))] []) [some (.val (.lst (ns.map .int))), some (.val (.lst (row.map .int))), some (.val (.int (3 + y22))), none, none, none, none] [] = .next (fL ns row n none none none none) [] := by
    by_cases hg : g3 = 0
    · refine ⟨3 + y3, by omega, by omega, ?_⟩
      rw [ex_ifs (d := true) (by simp [r59, d22, n3, hg])]
      simp [r59, m3]
    · refine ⟨3 + y22, by omega, by omega, ?_⟩
      rw [ex_ifs (d := false) (by simp [r59, d22, n3, hg])]
      simp
  -- the line
  obtain ⟨l, l1, l2, e2⟩ : ∃ l : List (Int × Int), l.length = n ∧ (∀ p ∈ l, sml p) ∧ ex (cfK fns sub0 (k + 11)) (.ifs (.cmp .eq (.bin .mod (.bin .fdiv (.sub (.var 1) (.cst (.int 58))) (.cst (.int 7))) (.cst (.int 2))) (.cst (.int 0))) [(.asg 3 (.call 22 [(.var 1), (.var 2)] []))] [(.asg 3 (.call 23 [(.var 1), (.var 2)] []))]) (fL ns row n none none none none) [] = .next (fL ns row n (some (.val (.lst (l.map pt)))) none none none) [] := by
    by_cases hg : g2 = 0
    · obtain ⟨l, l1, l2, e⟩ := r_drawn (k := k + 10) (s := []) a2 a1 h3 h24
      refine ⟨l, l1, l2, ?_⟩
      rw [ex_ifs (d := true) (by simp [r58, d7, n2, hg])]
      simp [e]
    · obtain ⟨l, l1, l2, e⟩ := r_spoiled (k := k + 8) (s := []) a2 a1 h3 h24
      refine ⟨l, l1, l2, ?_⟩
      rw [ex_ifs (d := false) (by simp [r58, d7, n2, hg])]
      simp [e]
  have hc := r_crossing (k := k + 6) (s := []) l2 (by omega)
  have hf := r_first (k := k + 7) (s := []) l2 (by omega)
  have hw := r_rows (k := k + 8) (s := []) (l := l) (by omega)
  rw [show k + 6 + 5 = k + 11 from by omega] at hc
  rw [show k + 7 + 4 = k + 11 from by omega] at hf
  rw [show k + 8 + 3 = k + 11 from by omega] at hw
  refine ⟨[], ?_⟩
  rw [run_at (F := ⟨1, 7, false, b_law⟩) rfl rfl]
  have hx : exs (cfK fns sub0 (k + 11)) b_law (enter ⟨1, 7, false, b_law⟩ [.val (.lst (ns.map .int))]) [] = .ret (.val (.bl true)) [] := by
    refine (exs_next (σ1 := [some (.val (.lst (ns.map .int))), some (.val (.lst (row.map .int))), none, none, none, none, none]) (s1 := []) (by simp [a3'])).trans ?_
    refine (exs_next (σ1 := [some (.val (.lst (ns.map .int))), some (.val (.lst (row.map .int))), some (.val (.int (3 + y22))), none, none, none, none]) (s1 := []) (by simp [r59, m22])).trans ?_
    refine (exs_next e1).trans ?_
    refine (exs_next e2).trans ?_
    refine (exs_next (σ1 := fL ns row n (some (.val (.lst (l.map pt)))) (some (.val (.lst (l.map pt)))) none none) (s1 := []) (by simp)).trans ?_
    rcases fp_is (sidesB l) l.length with z | ⟨i, j, z⟩
    · rw [z] at hc hf
      rw [cf_eq] at hc hf hw
      exact law_tail (t := .non) (σ := []) hc hf hw (.inl rfl) (.inr rfl)
    · rw [z] at hc hf
      have hm := r_numbers (k := k + 9) (s := []) i j
      rw [show k + 9 + 2 = k + 11 from by omega] at hm
      rw [cf_eq] at hc hf hw hm
      exact law_tail (t := .tup [.int i, .int j]) (σ := []) hc hf hw (.inr ⟨i, j, rfl⟩) (.inl hm)
  rw [hx]
  rfl
theorem math : Math := fun ns _ => math_at 0 ns
end Pg
end IP

end
section
set_option maxRecDepth 100000
set_option maxHeartbeats 0
open PySem PySem.W PyProof.Rows
theorem PySem.Challenge.cw_gradecut_k08_crossing_holds : PySem.Challenge.rw_gradecut_k08_crossing.Holds := by
  w_on; o_law; k_head; (case hw => w_witness2)
  k_fill
  refine IP.Pg.walk IP.Pg.math (l := PySem.Challenge.rw_gradecut_k08_crossing) rfl rfl (fun w h Y => PySem.W.kIn_of Y) ?noL ?goF
  case noL => intro w; first | rfl | with_unfolding_all rfl | decide +kernel
  case goF =>
    intro w mg fa h KX G hmg
    refine' IP.Pg.all_mk KX G hmg ?a0 ?l0 ?c0 ?k0 ?a1 ?l1 ?c1 ?k1 ?a2 ?l2 ?c2 ?k2 ?a3 ?l3 ?c3 ?k3 ?a4 ?l4 ?c4 ?k4 ?a5 ?l5 ?c5 ?k5 ?a6 ?l6 ?c6 ?k6 ?a7 ?l7 ?c7 ?k7 ?a8 ?l8 ?c8 ?k8 ?a9 ?l9 ?c9 ?k9 ?a10 ?l10 ?c10 ?k10 ?a11 ?l11 ?c11 ?k11 ?a12 ?l12 ?c12 ?k12 ?a13 ?l13 ?c13 ?k13 ?a14 ?l14 ?c14 ?k14 ?a15 ?l15 ?c15 ?k15 ?a16 ?l16 ?c16 ?k16 ?a17 ?l17 ?c17 ?k17 ?a18 ?l18 ?c18 ?k18 ?a19 ?l19 ?c19 ?k19 ?a20 ?l20 ?c20 ?k20 ?a21 ?l21 ?c21 ?k21 ?a22 ?l22 ?c22 ?k22 ?a23 ?l23 ?c23 ?k23 ?a24 ?l24 ?c24 ?k24 ?z_abs ?z_bool ?z_int ?z_isinstance ?z_len ?z_list ?z_max ?z_min ?z_range ?z_sorted ?z_tuple
    (case a0 => k_is); (case l0 => k_is); (case c0 => k_is); (case k0 => k_is)
    (case a1 => k_is); (case l1 => k_is); (case c1 => k_is); (case k1 => k_is)
    (case a2 => k_is); (case l2 => k_is); (case c2 => k_is); (case k2 => k_is)
    (case a3 => k_is); (case l3 => k_is); (case c3 => k_is); (case k3 => k_is)
    (case a4 => k_is); (case l4 => k_is); (case c4 => k_is); (case k4 => k_is)
    (case a5 => k_is); (case l5 => k_is); (case c5 => k_is); (case k5 => k_is)
    (case a6 => k_is); (case l6 => k_is); (case c6 => k_is); (case k6 => k_is)
    (case a7 => k_is); (case l7 => k_is); (case c7 => k_is); (case k7 => k_is)
    (case a8 => k_is); (case l8 => k_is); (case c8 => k_is); (case k8 => k_is)
    (case a9 => k_is); (case l9 => k_is); (case c9 => k_is); (case k9 => k_is)
    (case a10 => k_is); (case l10 => k_is); (case c10 => k_is); (case k10 => k_is)
    (case a11 => k_is); (case l11 => k_is); (case c11 => k_is); (case k11 => k_is)
    (case a12 => k_is); (case l12 => k_is); (case c12 => k_is); (case k12 => k_is)
    (case a13 => k_is); (case l13 => k_is); (case c13 => k_is); (case k13 => k_is)
    (case a14 => k_is); (case l14 => k_is); (case c14 => k_is); (case k14 => k_is)
    (case a15 => k_is); (case l15 => k_is); (case c15 => k_is); (case k15 => k_is)
    (case a16 => k_is); (case l16 => k_is); (case c16 => k_is); (case k16 => k_is)
    (case a17 => k_is); (case l17 => k_is); (case c17 => k_is); (case k17 => k_is)
    (case a18 => k_is); (case l18 => k_is); (case c18 => k_is); (case k18 => k_is)
    (case a19 => k_is); (case l19 => k_is); (case c19 => k_is); (case k19 => k_is)
    (case a20 => k_is); (case l20 => k_is); (case c20 => k_is); (case k20 => k_is)
    (case a21 => k_is); (case l21 => k_is); (case c21 => k_is); (case k21 => k_is)
    (case a22 => k_is); (case l22 => k_is); (case c22 => k_is); (case k22 => k_is)
    (case a23 => k_is); (case l23 => k_is); (case c23 => k_is); (case k23 => k_is)
    (case a24 => k_is); (case l24 => k_is); (case c24 => k_is); (case k24 => k_is)
    (case z_abs => k_is)
    (case z_bool => k_is)
    (case z_int => k_is)
    (case z_isinstance => k_is)
    (case z_len => k_is)
    (case z_list => k_is)
    (case z_max => k_is)
    (case z_min => k_is)
    (case z_range => k_is)
    (case z_sorted => k_is)
    (case z_tuple => k_is)

end
