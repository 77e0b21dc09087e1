import PyProof.Rows.All
import Wide.All
import OpenK.AllK
import Wide.FinOn
import Lean
import PyProof.EqAt
import PyProof.EqKinds
import PyProof.TupleCall
import PyProof.NeKinds
import KE.KTryMore
import PyProof.EnumStmt
import PySem.Challenge.RW_gradecut_k10_hem_of_an_oblong
section
set_option Elab.async false
set_option linter.all false
set_option maxRecDepth 100000
namespace L2
open PySem PySem.Spec PyProof.Rows
abbrev Key := Sum Int Str
def keyIs : Key → Value → Bool
  | .inl k, v => Value.isInt k v
  | .inr x, v => Value.isStrOf x v
def keyH (w : World) : Key → Int
  | .inl k => hashInt k
  | .inr x => hashStr w x
theorem zaal : ∀ {k : Key} {v : Value}, keyIs k v = true → (∃ i t, k = Sum.inl i ∧ v = Value.int i t) ∨ (∃ x t, k = Sum.inr x ∧ v = Value.str x t)
  | .inl i, v, h => by
    obtain ⟨t, e⟩ := Value.isInt_shape (k := i) (v := v) h
    exact .inl ⟨i, t, rfl, e⟩
  | .inr x, v, h => by
    obtain ⟨t, e⟩ := Value.isStrOf_shape (x := x) (v := v) h
    exact .inr ⟨x, t, rfl, e⟩
theorem key_ll (a b : Int) : decide ((Sum.inl a : Key) = Sum.inl b) = (a == b) := by
  by_cases e : a = b
  · subst e; simp
  · have h : ¬ (Sum.inl a : Key) = Sum.inl b := fun q => e (Sum.inl.inj q)
    rw [decide_eq_false h]
    exact (beq_eq_false_iff_ne.mpr e).symm
theorem key_rr (a b : Str) : decide ((Sum.inr a : Key) = Sum.inr b) = decide (a = b) := by
  by_cases e : a = b
  · subst e; simp
  · have h : ¬ (Sum.inr a : Key) = Sum.inr b := fun q => e (Sum.inr.inj q)
    rw [decide_eq_false h, decide_eq_false e]
theorem key_lr (a : Int) (b : Str) : decide ((Sum.inl a : Key) = Sum.inr b) = false := decide_eq_false (fun q => nomatch q)
theorem key_rl (a : Str) (b : Int) : decide ((Sum.inr a : Key) = Sum.inl b) = false := decide_eq_false (fun q => nomatch q)
def zaeo (prog : Program) (w : World) : PySem.KeyKind prog w Key where
  is := keyIs
  hash := keyH w
  inj := fun v a b ha hb => by
    rcases zaal ha with ⟨i, t, rfl, rfl⟩ | ⟨x, t, rfl, rfl⟩
    · rcases zaal hb with ⟨j, u, rfl, e⟩ | ⟨y, u, rfl, e⟩
      · injection e with e1 _; rw [e1]
      · exact nomatch e
    · rcases zaal hb with ⟨j, u, rfl, e⟩ | ⟨y, u, rfl, e⟩
      · exact nomatch e
      · injection e with e1 _; rw [e1]
  byValue := fun k v h => by
    rcases zaal h with ⟨i, t, rfl, rfl⟩ | ⟨x, t, rfl, rfl⟩ <;> rfl
  pyHash := fun hv h => by
    rcases zaal hv with ⟨i, t, rfl, rfl⟩ | ⟨x, t, rfl, rfl⟩
    · exact wpAny_pyHash_int h
    · exact wpAny_pyHash_str h
  eqBool := fun hu hv h => by
    rcases zaal hu with ⟨i, t, rfl, rfl⟩ | ⟨x, t, rfl, rfl⟩
    · rcases zaal hv with ⟨j, u, rfl, rfl⟩ | ⟨y, u, rfl, rfl⟩
      · rw [key_ll] at h; exact wpAny_eqBool_int h
      · rw [key_lr] at h; exact SeqAt.EqAt.int_str i t y u _ _ _ _ h
    · rcases zaal hv with ⟨j, u, rfl, rfl⟩ | ⟨y, u, rfl, rfl⟩
      · rw [key_rl] at h; exact SeqAt.EqAt.str_int x t j u _ _ _ _ h
      · rw [key_rr] at h; exact wpAny_eqBool_str h
  «strs» := fun k x t v h => by
    rcases zaal h with ⟨i, u, rfl, e⟩ | ⟨y, u, rfl, e⟩
    · exact nomatch e
    · injection e with e1 _
      subst e1
      cases v <;> rfl
end L2
namespace L2
open PySem PySem.Spec PyProof.Rows
inductive V where
  | non | bl (b : Bool) | int (i : Int) | str (x : Str) | byt (b : Array UInt8) | flt (b : UInt64) | ref (a : Addr) | ty (n : String)
  deriving DecidableEq
def RelV : V → Value → Prop
  | .non, u => u = Value.none
  | .bl b, u => u = Value.bool b
  | .int i, u => ∃ t, u = Value.int i t
  | .str x, u => ∃ t, u = Value.str x t
  | .byt b, u => ∃ t, u = Value.bytes b t
  | .flt b, u => ∃ t, u = Value.float b t
  | .ref a, u => u = Value.ref a
  | .ty n, u => u = Value.type n
abbrev Vals : List V → List Value → Prop := Paired RelV
theorem Vals.length {xs : List V} {us : List Value} (r : Vals xs us) : xs.length = us.length := Paired.length r
theorem Vals.get : ∀ {xs : List V} {us : List Value} {i : Nat} {x : V}, Vals xs us → xs[i]? = some x → ∃ u, us[i]? = some u ∧ RelV x u
  | _, _, _, _, .nil, e => by simp at e
  | _, _, 0, _, .cons r _, e => by simp at e; subst e; exact ⟨_, rfl, r⟩
  | _, _, i + 1, x, .cons _ t, e => by
    obtain ⟨u, h1, h2⟩ := Vals.get (i := i) (x := x) t (by simpa using e)
    exact ⟨u, by simpa using h1, h2⟩
theorem Vals.set {x : V} {u : Value} (r : RelV x u) : ∀ {xs : List V} {us : List Value} (i : Nat), Vals xs us → Vals (xs.set i x) (us.set i u)
  | _, _, _, .nil => .nil
  | _, _, 0, .cons _ t => .cons r t
  | _, _, i + 1, .cons q t => .cons q (Vals.set r i t)
theorem Vals.append : ∀ {xs ys : List V} {us ws : List Value}, Vals xs us → Vals ys ws → Vals (xs ++ ys) (us ++ ws)
  | _, _, _, _, .nil, s => s
  | _, _, _, _, .cons r t, s => .cons r (Vals.append t s)
theorem Vals.take : ∀ {xs : List V} {us : List Value} (n : Nat), Vals xs us → Vals (xs.take n) (us.take n)
  | _, _, 0, _ => .nil
  | _, _, _ + 1, .nil => .nil
  | _, _, n + 1, .cons r t => .cons r (Vals.take n t)
theorem Vals.drop : ∀ {xs : List V} {us : List Value} (n : Nat), Vals xs us → Vals (xs.drop n) (us.drop n)
  | _, _, 0, r => r
  | _, _, _ + 1, .nil => .nil
  | _, _, n + 1, .cons _ t => Vals.drop n t
def RelO : Option V → Option Value → Prop
  | some v, some u => RelV v u
  | none, none => True
  | _, _ => False
def KV {κ : Type} : List (κ × V) → List (κ × Value) → Prop := Paired fun (p : κ × V) (q : κ × Value) => p.1 = q.1 ∧ RelV p.2 q.2
def kV : Key → V
  | .inl i => .int i
  | .inr x => .str x
inductive HO where
  | lst (xs : List V)
  | tup (xs : List V)
  | dK (kvs : List (Key × V)) | dT (kvs : List (List Key × V))
  | set (S : Int → Bool) (n : Nat)
  | ins (C dx : Addr) (fs : List (Str × V))
  | own (x : Addr)
  | xd (fs : List (Str × V))
  | met (f x : Addr)
  | rng (lo hi : Int)
  | frz (o : Obj) (u : HO)
  | tbl (ps : Array Value)
  | ext (φ : Heap → Prop)
abbrev Hp := Addr → Option HO
def upd (H : Hp) (a : Addr) (o : HO) : Hp := fun b => if b = a then some o else H b
theorem zaan {H : Hp} {a : Addr} {o : HO} : upd H a o a = some o := by unfold upd; rw [if_pos rfl]
theorem upd_ne {H : Hp} {a b : Addr} {o : HO} (h : b ≠ a) : upd H a o b = H b := by unfold upd; rw [if_neg h]
theorem ne_of {H : Hp} {a b : Addr} {o u : HO} (h : H a = some o) (h' : H b = some u) (d : o ≠ u) : a ≠ b := by
  intro e; subst e; rw [h] at h'; exact d (Option.some.inj h')
theorem zaav {H : Hp} {a b : Addr} {o : HO} (h : H a = some o) (h' : H b = none) : a ≠ b := by
  intro e; subst e; rw [h] at h'; cases h'
section
variable (P : Program) (w : World)
def ObjOk (H : Hp) (h : Heap) (a : Addr) : HO → Prop
  | .lst xs => xs.length ≤ sizeLine ∧ ∃ (its : List Value) (n : Nat), Vals xs its ∧ h.get? a = some { cls := .type "list", data := .seq its.toArray n }
  | .tup xs => xs.length ≤ sizeLine ∧ ∃ its : List Value, Vals xs its ∧ IsTup h a its.toArray
  | .dK kvs => kvs.length ≤ sizeLine ∧ (a == sysModules) = false ∧ ∃ vs, KV kvs vs ∧ h.DictOf (zaeo P w) a vs
  | .dT kvs => kvs.length ≤ sizeLine ∧ (a == sysModules) = false ∧ ∃ xs : List (List Key × Addr × Value),
      Paired (fun (p : List Key × V) (q : List Key × Addr × Value) => p.1 = q.1 ∧ H q.2.1 = some (.tup (p.1.map kV)) ∧ RelV p.2 q.2.2) kvs xs ∧
      ∃ o es ep, h.get? a = some o ∧ o.ExactDict ∧ o.data = .dict es ep ∧ es.toList = xs.map (entryOfKey (tupleKind (zaeo P w))) ∧ (xs.map (·.1)).Nodup
  | .set S n => h.SetOf (intKind P w) a S n
  | .ins C dx fs => H dx = some (.own a) ∧ fs.length ≤ 1000 ∧ dx ≠ a ∧ h.get? a = some (PySem.W.instObj C dx) ∧
      ∃ mA, h.Ns1 dx mA ∧ (∀ f, RelO (fs.lookup f) (mA f)) ∧ PySem.Within mA (fs.map (·.1))
  | .own _ => ∃ o, h.get? a = some o
  | .xd fs => ∃ mA, h.Ns1 a mA ∧ ∀ f, RelO (fs.lookup f) (mA f)
  | .rng lo hi => ∃ t u v, h.get? a = some { cls := .type "range", data := .fields #[.int lo t, .int hi u, .int 1 v] }
  | .frz o u => h.get? a = some o ∧ ObjOk H h a u
  | .tbl ps => h.get? a = some { cls := .none, data := .fields ps }
  | .met f x => h.get? a = some (PySem.W.methodObj (.ref f) (.ref x))
  | .ext φ => φ h ∧ (∃ o, h.get? a = some o) ∧ ∀ h1 h2 : Heap, φ h1 → (∀ o, h1.get? a = some o → h2.get? a = some o) → φ h2
def HOk (H : Hp) (h : Heap) : Prop := ∀ a o, H a = some o → ObjOk P w H h a o
end
section
variable {P : Program} {w : World} {H H' : Hp} {h h' : Heap} {a : Addr} {o : HO}
theorem ObjOk.lt (x : ObjOk P w H h a o) : a < h.objs.size := by
  cases o with
  | lst xs => obtain ⟨_, _, _, _, e⟩ := x; exact Heap.lt_size e
  | tup xs => obtain ⟨_, _, _, p⟩ := x; exact p.lt
  | dK kvs => obtain ⟨_, _, _, _, o, _, _, e, _⟩ := x; exact Heap.lt_size e
  | dT kvs => obtain ⟨_, _, _, _, o, _, _, e, _⟩ := x; exact Heap.lt_size e
  | set S n => obtain ⟨o, _, _, _, e, _⟩ := x; exact Heap.lt_size e
  | ins C dx fs => obtain ⟨_, _, _, e, _⟩ := x; exact Heap.lt_size e
  | own y => obtain ⟨_, e⟩ := x; exact Heap.lt_size e
  | xd fs => obtain ⟨_, ⟨_, _, _, e, _⟩, _⟩ := x; exact Heap.lt_size e
  | rng lo hi => obtain ⟨_, _, _, e⟩ := x; exact Heap.lt_size e
  | frz ob u => obtain ⟨e, _⟩ := x; exact Heap.lt_size e
  | tbl ps => exact Heap.lt_size (show h.get? a = some _ from x)
  | met f y => exact Heap.lt_size (show h.get? a = some _ from x)
  | ext φ => obtain ⟨_, ⟨_, e⟩, _⟩ := x; exact Heap.lt_size e
theorem Paired.mapP {α β : Type} {F G : α → β → Prop} : ∀ {l₁ : List α} {l₂ : List β}, Paired F l₁ l₂ → (∀ a b, F a b → G a b) → Paired G l₁ l₂
  | _, _, .nil, _ => .nil
  | _, _, .cons r t, f => .cons (f _ _ r) (Paired.mapP t f)
theorem ObjOk.stay (x : ObjOk P w H h a o) (k : ∀ b u, (b = a ∨ H b = some (.own a)) → h.get? b = some u → h'.get? b = some u)
    (ho : ∀ b, H b = some (.own a) → H' b = some (.own a)) (ht : ∀ b xs, H b = some (.tup xs) → H' b = some (.tup xs)) : ObjOk P w H' h' a o := by
  induction o with
  | lst xs => obtain ⟨z, its, n, r, e⟩ := x; exact ⟨z, its, n, r, k _ _ (.inl rfl) e⟩
  | tup xs => obtain ⟨z, its, r, ob, e, c⟩ := x; exact ⟨z, its, r, ob, k _ _ (.inl rfl) e, c⟩
  | dK kvs => obtain ⟨z, y, vs, r, ob, es, ep, e, c⟩ := x; exact ⟨z, y, vs, r, ob, es, ep, k _ _ (.inl rfl) e, c⟩
  | dT kvs =>
    obtain ⟨z, y, xs, r, ob, es, ep, e, c⟩ := x
    exact ⟨z, y, xs, Paired.mapP r fun p q z => ⟨z.1, ht _ _ z.2.1, z.2.2⟩, ob, es, ep, k _ _ (.inl rfl) e, c⟩
  | set S n => obtain ⟨ob, es, ep, t, e, c⟩ := x; exact ⟨ob, es, ep, t, k _ _ (.inl rfl) e, c⟩
  | ins C dx fs =>
    obtain ⟨d, z, ne, e, mA, ⟨od, es, ep, e2, c⟩, r⟩ := x
    exact ⟨ho _ d, z, ne, k _ _ (.inl rfl) e, mA, ⟨od, es, ep, k _ _ (.inr d) e2, c⟩, r⟩
  | own y => obtain ⟨ob, e⟩ := x; exact ⟨ob, k _ _ (.inl rfl) e⟩
  | xd fs => obtain ⟨mA, ⟨od, es, ep, e, c⟩, r⟩ := x; exact ⟨mA, ⟨od, es, ep, k _ _ (.inl rfl) e, c⟩, r⟩
  | rng lo hi => obtain ⟨t, u, v, e⟩ := x; exact ⟨t, u, v, k _ _ (.inl rfl) e⟩
  | frz ob u ih => obtain ⟨e, q⟩ := x; exact ⟨k _ _ (.inl rfl) e, ih q⟩
  | tbl ps =>
    have e : h.get? a = some { cls := .none, data := .fields ps } := x
    show h'.get? a = some { cls := .none, data := .fields ps }
    exact k a _ (.inl rfl) e
  | met f y =>
    have e : h.get? a = some (PySem.W.methodObj (.ref f) (.ref y)) := x
    show h'.get? a = some (PySem.W.methodObj (.ref f) (.ref y))
    exact k a _ (.inl rfl) e
  | ext φ => obtain ⟨p, ⟨o, e⟩, st⟩ := x; exact ⟨st _ _ p fun o q => k _ _ (.inl rfl) q, ⟨o, k _ _ (.inl rfl) e⟩, st⟩
theorem HOk.lt (x : HOk P w H h) (e : H a = some o) : a < h.objs.size := (x a o e).lt
theorem HOk.fresh (x : HOk P w H h) (e : h.objs.size ≤ a) : H a = none := by
  cases q : H a with
  | none => rfl
  | some u => exact absurd (Nat.lt_of_lt_of_le (x.lt q) e) (Nat.lt_irrefl _)
theorem HOk.kept (x : HOk P w H h) (k : ∀ b u, h.get? b = some u → h'.get? b = some u) : HOk P w H h' := fun a o e =>
  (x a o e).stay (fun b u _ q => k b u q) (fun _ q => q) fun _ _ q => q
theorem HOk.laid (x : HOk P w H h) (k : ∀ b u, h.get? b = some u → h'.get? b = some u) (hp : h.objs.size ≤ a) (new : ObjOk P w (upd H a o) h' a o) : HOk P w (upd H a o) h' := fun b u e => by
  have hn := x.fresh hp
  by_cases hb : b = a
  · subst hb; rw [zaan] at e; cases e; exact new
  · rw [upd_ne hb] at e
    exact (x b u e).stay (fun c v _ q => k c v q) (fun c q => by rw [upd_ne (zaav q hn)]; exact q) fun c xs q => by rw [upd_ne (zaav q hn)]; exact q
end
def Rd (H : Hp) (a : Addr) (u : HO) : Prop := H a = some u ∨ ∃ o, H a = some (.frz o u)
theorem Rd.of {H : Hp} {a : Addr} {u : HO} (h : H a = some u) : Rd H a u := .inl h
theorem Rd.ok {P : Program} {w : World} {H : Hp} {h : Heap} {a : Addr} {u : HO} (r : Rd H a u) (x : HOk P w H h) : ObjOk P w H h a u := by
  rcases r with r | ⟨o, r⟩
  · exact x a u r
  · obtain ⟨_, q⟩ := x a _ r
    exact q
def Mut : Option HO → Prop
  | some (.lst _) => True
  | some (.dK _) => True
  | some (.dT _) => True
  | some (.set _ _) => True
  | some (.ins _ _ _) => True
  | some (.ext _) => True
  | _ => False
section
variable {P : Program} {w : World} {H : Hp} {h h' : Heap} {x e : Addr} {o' : HO}
theorem HOk.write (ok : HOk P w H h) (mu : Mut (H x)) (he : e = x ∨ H e = some (.own x)) (k : ∀ b u, b ≠ e → h.get? b = some u → h'.get? b = some u) (heo : ∃ u, h'.get? e = some u)
    (new : ObjOk P w (upd H x o') h' x o') : HOk P w (upd H x o') h' := fun b u q => by
  have nown : ∀ c y, H c = some (.own y) → c ≠ x := fun c y r z => by subst z; rw [r] at mu; exact mu
  have ntup : ∀ c xs, H c = some (.tup xs) → c ≠ x := fun c xs r z => by subst z; rw [r] at mu; exact mu
  by_cases hb : b = x
  · subst hb; rw [zaan] at q; cases q; exact new
  · rw [upd_ne hb] at q
    by_cases hbe : b = e
    · have q' : H b = some (.own x) := by
        rcases he with z | z
        · exact absurd (hbe.trans z) hb
        · rw [hbe]; exact z
      rw [q] at q'; cases q'
      obtain ⟨v, hv⟩ := heo
      exact ⟨v, by rw [hbe]; exact hv⟩
    · refine (ok b u q).stay (fun c v hc r => k c v ?_ r) (fun c r => by rw [upd_ne (nown c b r)]; exact r) fun c xs r => by rw [upd_ne (ntup c xs r)]; exact r
      rcases hc with rfl | hc
      · exact hbe
      · rintro rfl
        rcases he with z | z
        · exact nown c b hc z
        · rw [hc] at z; cases z; exact hb rfl
end
structure Un (fs ex : List Addr) (H H' : Hp) (h h' : Heap) : Prop where
  keep : ∀ b o, h.get? b = some o → H b = none → b ∉ fs → b ∉ ex → h'.get? b = some o
  slot : ∀ b o, h.get? b = some o → H b = none → b ∈ fs → b ∉ ex → ∃ sl, h'.get? b = some { o with slots := sl }
  free : ∀ b o, h.get? b = some o → H b = none → b ∉ ex → H' b = none
  there : ∀ b o, h.get? b = some o → b ∉ ex → ∃ o', h'.get? b = some o'
  tups : ∀ b xs, H b = some (.tup xs) → H' b = some (.tup xs)
  frzs : ∀ b o u, H b = some (.frz o u) → H' b = some (.frz o u)
  tbls : ∀ b ps, H b = some (.tbl ps) → ∃ more, H' b = some (.tbl (ps ++ more))
section
variable {fs fs' ex ex' : List Addr} {H H1 H2 : Hp} {h h1 h2 h' : Heap} {a x e : Addr} {o : HO}
theorem Un.any (u : Un fs ex H H1 h h1) {b : Addr} {ob : Obj} (q : h.get? b = some ob) (n : H b = none) (hx : b ∉ ex) : ∃ sl, h1.get? b = some { ob with slots := sl } := by
  by_cases hb : b ∈ fs
  · exact u.slot b ob q n hb hx
  · exact ⟨ob.slots, u.keep b ob q n hb hx⟩
theorem Un.trans (a : Un fs ex H H1 h h1) (b : Un fs ex H1 H2 h1 h2) : Un fs ex H H2 h h2 where
  keep := fun c ob q n hc hx => b.keep c ob (a.keep c ob q n hc hx) (a.free c ob q n hx) hc hx
  slot := fun c ob q n hc hx => by
    obtain ⟨sl, e1⟩ := a.slot c ob q n hc hx
    obtain ⟨sl', e2⟩ := b.slot c _ e1 (a.free c ob q n hx) hc hx
    exact ⟨sl', e2⟩
  free := fun c ob q n hx => by
    obtain ⟨o', e1⟩ := a.there c ob q hx
    exact b.free c o' e1 (a.free c ob q n hx) hx
  there := fun c ob q hx => by
    obtain ⟨o', e1⟩ := a.there c ob q hx
    exact b.there c o' e1 hx
  tups := fun c xs q => b.tups c xs (a.tups c xs q)
  frzs := fun c ob xs q => b.frzs c ob xs (a.frzs c ob xs q)
  tbls := fun c ps q => by
    obtain ⟨m1, e1⟩ := a.tbls c ps q
    obtain ⟨m2, e2⟩ := b.tbls c _ e1
    exact ⟨m1 ++ m2, by rw [e2, Array.append_assoc]⟩
theorem Un.kept (k : ∀ b u, h.get? b = some u → h'.get? b = some u) : Un fs ex H H h h' :=
  ⟨fun b ob q _ _ _ => k b ob q, fun b ob q _ _ _ => ⟨ob.slots, k b ob q⟩, fun _ _ _ n _ => n, fun b ob q _ => ⟨ob, k b ob q⟩, fun _ _ q => q, fun _ _ _ q => q, fun _ ps q => ⟨#[], by rw [q]; simp⟩⟩
theorem Un.refl : Un fs ex H H h h := Un.kept fun _ _ q => q
theorem Un.laid (k : ∀ b u, h.get? b = some u → h'.get? b = some u) (hp : h.objs.size ≤ a) (hn : H a = none) : Un fs ex H (upd H a o) h h' where
  keep := fun b u q _ _ _ => k b u q
  slot := fun b u q _ _ _ => ⟨u.slots, k b u q⟩
  free := fun b u q n _ => by rw [upd_ne (Nat.ne_of_lt (Nat.lt_of_lt_of_le (Heap.lt_size q) hp))]; exact n
  there := fun b u q _ => ⟨u, k b u q⟩
  tups := fun b xs q => by rw [upd_ne (zaav q hn)]; exact q
  frzs := fun b u xs q => by rw [upd_ne (zaav q hn)]; exact q
  tbls := fun b ps q => ⟨#[], by rw [upd_ne (zaav q hn), q]; simp⟩
theorem Un.write (mu : Mut (H x)) (he : e = x ∨ H e = some (.own x)) (k : ∀ b u, b ≠ e → h.get? b = some u → h'.get? b = some u) (heo : ∃ u, h'.get? e = some u) : Un fs ex H (upd H x o) h h' := by
  have hx : ∀ b, H b = none → b ≠ x := fun b n z => by subst z; rw [n] at mu; exact mu
  have hb : ∀ b, H b = none → b ≠ e := fun b n z => by
    subst z
    rcases he with r | r
    · exact hx b n r
    · rw [n] at r; cases r
  have hm : ∀ b u, H b = some u → ¬ Mut (some u) → b ≠ x := fun b u q nm z => by subst z; rw [q] at mu; exact nm mu
  refine ⟨fun b u q n _ _ => k b u (hb b n) q, fun b u q n _ _ => ⟨u.slots, k b u (hb b n) q⟩, fun b u q n _ => by rw [upd_ne (hx b n)]; exact n, fun b u q _ => ?_,
    fun b xs q => by rw [upd_ne (hm b _ q fun z => z)]; exact q, fun b u xs q => by rw [upd_ne (hm b _ q fun z => z)]; exact q, fun b ps q => ⟨#[], by rw [upd_ne (hm b _ q fun z => z), q]; simp⟩⟩
  by_cases hbe : b = e
  · subst hbe; exact heo
  · exact ⟨u, k b u hbe q⟩
theorem Un.mono (u : Un fs ex H H1 h h1) (hs : ∀ b ∈ fs, b ∈ fs') (hx : ∀ b ∈ ex, b ∈ ex') : Un fs' ex' H H1 h h1 :=
  ⟨fun b ob q n hb he => u.keep b ob q n (fun z => hb (hs b z)) fun z => he (hx b z), fun _ _ q n _ he => u.any q n fun z => he (hx _ z), fun b ob q n he => u.free b ob q n fun z => he (hx b z), fun b ob q he => u.there b ob q fun z => he (hx b z), u.tups, u.frzs, u.tbls⟩
end
def trk (h : Heap) (H : Hp) : List Addr := (List.range h.objs.size).filter fun a => (H a).isSome
def hidT (h : Heap) (H : Hp) : Heap := PySem.W.hideAll h (trk h H)
theorem hidT_size (h : Heap) (H : Hp) : (hidT h H).objs.size = h.objs.size := PySem.W.hideAll_size _ _
theorem hidT_get {h : Heap} {H : Hp} {b : Addr} {o : Obj} (e : h.get? b = some o) (n : H b = none) : (hidT h H).get? b = some o :=
  PySem.W.hideAll_get _ e fun hm => by
    have q : (H b).isSome = true := (List.mem_filter.mp hm).2
    rw [n] at q; simp at q
theorem of_hidT {h : Heap} {H : Hp} {b : Addr} {o : Obj} (e : (hidT h H).get? b = some o) : h.get? b = some o ∧ H b = none := by
  have e' : h.get? b = some o := PySem.W.of_hideAll (trk h H) e
  refine ⟨e', ?_⟩
  cases q : H b with
  | none => rfl
  | some x =>
    have hm : b ∈ trk h H := List.mem_filter.mpr ⟨List.mem_range.mpr (Heap.lt_size e'), by simp [q]⟩
    have z : (hidT h H).get? b = none := PySem.W.hideAll_none (trk h H) hm
    rw [z] at e; cases e
def allNews (g h : Heap) (L : Addr) : List (Addr × Obj) := (List.range h.objs.size).filterMap fun a => if a = L ∨ (g.get? a).isSome = true then none else (h.get? a).map fun o => (a, o)
def rest (g h : Heap) (L d : Addr) : List (Addr × Obj) := (allNews g h L).filter fun p => decide (p.1 ≠ d)
end L2
namespace L2
open PySem PySem.Spec PyProof.Rows
structure Mod (K : PySem.W.Frag) (mg : Str → Option Value) (base : Heap) : Prop where
  kin : K.In base
  glob : base.Ns mainGlobals mg
  blt : ∃ mb, base.Ns builtinsNs mb ∧ ∀ x : Str, x ≠ "__name__" → mb x = bootBuiltins x
  nolimit : base.NoLimit
structure Cx where
  prog : Program
  w : World
  K : PySem.W.Frag
  mg : Str → Option Value
  base : Heap
  A : Around
  N : List Str
  s₀ : Shared
  H₀ : Hp
  env : Env
  outer : List Env
  stack : List Env
  ex : List Addr
  fn : Str → Bool
  calm : Bool
  pn : List (Addr × Obj)
  xe : Value → Shared → Prop
def frs (l : List Env) : List Addr := l.filterMap (·.frame)
abbrev Cx.fs (X : Cx) : List Addr := frs X.outer
def Vis (sc : Scope) (x : Str) : Prop := sc.names.lookup x = some .local ∨ sc.names.lookup x = some .cell ∨ sc.names.lookup x = some .free
def Loc (sc : Scope) (x : Str) : Prop := sc.names.lookup x = some .local ∨ sc.names.lookup x = some .cell
def Look (env : Env) (h : Heap) (m : Str → Option Value) (x : Str) (u : Value) : Prop :=
  (env.kindOf x = some .local ∧ m x = some u) ∨ ((env.kindOf x = some .cell ∨ env.kindOf x = some .free) ∧ ∃ c, env.cells.lookup x = some c ∧ h.IsCell c (some u))
structure Cx.Ok (X : Cx) : Prop where
  mod : Mod X.K X.mg X.base
  kind : X.env.scope.kind = .function
  glob : X.env.globals = mainGlobals
  blt : X.env.builtins = builtinsNs
  above : X.s₀.heap.objs.size ≤ X.env.locals
  inj : ∀ x y c, X.env.cells.lookup x = some c → X.env.cells.lookup y = some c → x = y
  has : ∀ x, (X.env.kindOf x = some .cell ∨ X.env.kindOf x = some .free) → ∃ c, X.env.cells.lookup x = some c
  cab : ∀ x c, X.fn x = true → X.env.cells.lookup x = some c → X.s₀.heap.objs.size ≤ c
  hd : X.calm = true → X.A.handled = none
  frames : X.A.frames = some X.stack
  stk : X.stack = X.outer ∨ (X.stack = X.env :: X.outer ∧ X.env.frame = some X.env.locals)
  exf : ∀ b ∈ X.ex, b ≠ X.env.locals ∧ ∀ x c, X.env.cells.lookup x = some c → c ≠ b
  bs : ∀ b o, X.base.get? b = some o → X.s₀.heap.get? b = some o ∧ X.H₀ b = none
  bsz : X.base.objs.size ≤ X.s₀.heap.objs.size
  noex : ∀ b o, X.base.get? b = some o → b ∉ X.ex
  exfs : ∀ b ∈ X.ex, b ∉ X.fs
  funs : X.s₀.heap.FunFrames X.base X.outer
  frf : ∀ b ∈ X.fs, X.H₀ b = none
structure Inv (X : Cx) (pins : List (Addr × Obj)) (σ : List (Option V)) (H : Hp) (s : Shared) : Prop where
  ok : X.Ok
  os : s.os = X.s₀.os
  bare : AllBare s.gens
  base : Un X.fs X.ex X.H₀ H X.s₀.heap s.heap
  loc : ∃ m, s.heap.Ns X.env.locals m ∧ ∀ (i : Nat) (x : Str) (v : V), X.N[i]? = some x → σ[i]? = some (some v) → Vis X.env.scope x → ∃ u, RelV v u ∧ Look X.env s.heap m x u
  cell : ∀ x c, X.env.cells.lookup x = some c → ∃ v, s.heap.IsCell c v
  free : H X.env.locals = none
  freeC : ∀ x c, X.env.cells.lookup x = some c → H c = none
  pin : ∀ p ∈ X.pn ++ pins, s.heap.get? p.1 = some p.2 ∧ H p.1 = none ∧ p.1 ≠ X.env.locals ∧ p.1 ∉ X.fs ∧ ∀ v, p.2.data ≠ .cell v
  hok : HOk X.prog X.w H s.heap
  len : σ.length = X.N.length
section
variable {X : Cx} {pins : List (Addr × Obj)} {σ : List (Option V)} {H H' : Hp} {s : Shared} {h' : Heap}
theorem Cx.Ok.nofr (ok : X.Ok) {b : Addr} {o : Obj} (e : X.base.get? b = some o) : b ∉ X.fs := fun hb => by
  have := (ok.funs.mem hb).1
  rw [e] at this; cases this
theorem Inv.bs (I : Inv X pins σ H s) : ∀ b o, X.base.get? b = some o → s.heap.get? b = some o ∧ H b = none := fun b o e =>
  ⟨I.base.keep b o (I.ok.bs b o e).1 (I.ok.bs b o e).2 (I.ok.nofr e) (I.ok.noex b o e), I.base.free b o (I.ok.bs b o e).1 (I.ok.bs b o e).2 (I.ok.noex b o e)⟩
theorem Inv.bk (I : Inv X pins σ H s) : ∀ b o, X.base.get? b = some o → s.heap.get? b = some o := fun b o e => (I.bs b o e).1
theorem Inv.mod (I : Inv X pins σ H s) : Mod X.K X.mg X.base := I.ok.mod
theorem Inv.kIn (I : Inv X pins σ H s) : X.K.In s.heap := I.ok.mod.kin.keeps I.bk
theorem Inv.nolimit (I : Inv X pins σ H s) : s.heap.NoLimit := I.ok.mod.nolimit.keeps I.bk
theorem Inv.fr (I : Inv X pins σ H s) : ∃ m, Fr X.base X.env.locals s.heap m :=
  let ⟨m, hn, _⟩ := I.loc
  ⟨m, hn, I.bk, Nat.le_trans I.ok.bsz I.ok.above⟩
theorem Inv.lt (I : Inv X pins σ H s) : X.env.locals < s.heap.objs.size := let ⟨_, hn, _⟩ := I.loc; hn.lt
theorem Inv.sz (I : Inv X pins σ H s) : X.s₀.heap.objs.size ≤ s.heap.objs.size := Nat.le_trans I.ok.above (Nat.le_of_lt I.lt)
theorem Inv.nofs (I : Inv X pins σ H s) {a : Addr} (h : s.heap.objs.size ≤ a) : a ∉ X.fs := fun hb => by
  obtain ⟨_, o, ho, _⟩ := I.ok.funs.mem hb
  exact absurd (Nat.lt_of_lt_of_le (Heap.lt_size ho) (Nat.le_trans I.sz h)) (Nat.lt_irrefl _)
theorem Inv.cne (I : Inv X pins σ H s) : ∀ x c, X.env.cells.lookup x = some c → c ≠ X.env.locals := fun x c e z => by
  obtain ⟨v, o, ho, hd⟩ := I.cell x c e
  obtain ⟨m, ⟨o', es, ep, ho', hd', _⟩, _⟩ := I.loc
  rw [z, ho'] at ho; cases ho; rw [hd'] at hd; cases hd
theorem Inv.funs (I : Inv X pins σ H s) : s.heap.FunFrames X.base X.outer := by
  have all : ∀ (l : List Env), (∀ b ∈ frs l, b ∈ X.fs) → X.s₀.heap.FunFrames X.base l → s.heap.FunFrames X.base l := by
    intro l
    induction l with
    | nil => intro _ _; trivial
    | cons env r ih =>
      intro hs hl
      obtain ⟨hk, ⟨L, o, hf, hn, ho, hd⟩, hr⟩ := hl
      have hL : L ∈ X.fs := hs L (by unfold frs; rw [List.filterMap_cons, hf]; exact List.mem_cons_self)
      obtain ⟨sl, e⟩ := I.base.slot L o ho (I.ok.frf L hL) hL fun z => I.ok.exfs L z hL
      exact ⟨hk, ⟨L, _, hf, hn, e, hd⟩, ih (fun b hb => hs b (by unfold frs; rw [List.filterMap_cons, hf]; exact List.mem_cons_of_mem _ hb)) hr⟩
  exact all X.outer (fun _ hb => hb) I.ok.funs
theorem Inv.stack (I : Inv X pins σ H s) : s.heap.FunFrames X.base X.stack := by
  rcases I.ok.stk with e | ⟨e, hf⟩
  · rw [e]; exact I.funs
  · rw [e]
    obtain ⟨m, hn, _⟩ := I.loc
    refine .cons (by rw [I.ok.kind]; decide) hf hn ?_ I.funs
    exact Heap.get?_none_of_le (Nat.le_trans I.ok.bsz I.ok.above)
theorem Inv.stkSub (I : Inv X pins σ H s) : ∀ b ∈ frs X.stack, b ∈ X.env.locals :: X.fs := fun b hb => by
  rcases I.ok.stk with e | ⟨e, hf⟩
  · rw [e] at hb; exact List.mem_cons_of_mem _ hb
  · rw [e] at hb
    unfold frs at hb
    rw [List.filterMap_cons, hf] at hb
    exact hb
theorem Inv.stkFree (I : Inv X pins σ H s) : ∀ b ∈ frs X.stack, H b = none := fun b hb => by
  rcases List.mem_cons.mp (I.stkSub b hb) with e | hb
  · rw [e]; exact I.free
  · obtain ⟨_, o, ho, _⟩ := I.ok.funs.mem hb
    exact I.base.free b o ho (I.ok.frf b hb) fun z => I.ok.exfs b z hb
theorem Inv.step {g' : Array GenState} {t' : Nat} {d' : Drawn} {ch : List Addr} (I : Inv X pins σ H s)
    (hch : ∀ b ∈ ch, (b ∈ X.ex ∨ X.s₀.heap.objs.size ≤ b) ∧ b ≠ X.env.locals ∧ (∀ x c, X.env.cells.lookup x = some c → c ≠ b) ∧ ∀ p ∈ X.pn ++ pins, p.1 ≠ b)
    (keep : ∀ b o, b ≠ X.env.locals → b ∉ X.fs → b ∉ ch → s.heap.get? b = some o → H b = none → h'.get? b = some o)
    (slot : ∀ b o, b ≠ X.env.locals → b ∈ X.fs → b ∉ ch → s.heap.get? b = some o → H b = none → ∃ sl, h'.get? b = some { o with slots := sl }) (free : ∀ b o, b ∉ ch → s.heap.get? b = some o → H b = none → H' b = none)
    (there : ∀ b o, b ∉ ch → s.heap.get? b = some o → ∃ o', h'.get? b = some o')
    (tups : ∀ b xs, H b = some (.tup xs) → H' b = some (.tup xs)) (frzs : ∀ b o u, H b = some (.frz o u) → H' b = some (.frz o u)) (tbls : ∀ b ps, H b = some (.tbl ps) → ∃ more, H' b = some (.tbl (ps ++ more)))
    (ns : ∀ m, s.heap.Ns X.env.locals m → h'.Ns X.env.locals m) (hok : HOk X.prog X.w H' h') (hg : AllBare g') :
    Inv X pins σ H' { s with heap := h', gens := g', drawn := d', toks := t' } := by
  have neL : ∀ b o, X.s₀.heap.get? b = some o → b ≠ X.env.locals := fun b o e => Nat.ne_of_lt (Nat.lt_of_lt_of_le (Heap.lt_size e) I.ok.above)
  have neC : ∀ b o, X.s₀.heap.get? b = some o → b ∉ X.ex → b ∉ ch := fun b o e hx hb => by
    rcases (hch b hb).1 with z | z
    · exact hx z
    · exact absurd (Nat.lt_of_lt_of_le (Heap.lt_size e) z) (Nat.lt_irrefl _)
  have cellK : ∀ x c, X.env.cells.lookup x = some c → ∀ v, s.heap.IsCell c v → h'.IsCell c v := fun x c e v ⟨o, ho, hd⟩ => by
    have nch : c ∉ ch := fun z => (hch c z).2.2.1 x c e rfl
    by_cases hc : c ∈ X.fs
    · obtain ⟨sl, q⟩ := slot c o (I.cne x c e) hc nch ho (I.freeC x c e)
      exact ⟨_, q, hd⟩
    · exact ⟨o, keep c o (I.cne x c e) hc nch ho (I.freeC x c e), hd⟩
  refine ⟨I.ok, I.os, hg, ⟨fun b o e n hb hx => ?_, fun b o e n hb hx => ?_, fun b o e n hx => ?_, fun b o e hx => ?_, fun b xs e => tups b xs (I.base.tups b xs e), fun b o xs e => frzs b o xs (I.base.frzs b o xs e), fun b ps e => ?_⟩, ?_, fun x c e => ?_, ?_, fun x c e => ?_, fun p hp => ?_, hok, I.len⟩
  · exact keep b o (neL b o e) hb (neC b o e hx) (I.base.keep b o e n hb hx) (I.base.free b o e n hx)
  · obtain ⟨sl, e1⟩ := I.base.slot b o e n hb hx
    obtain ⟨sl', e2⟩ := slot b _ (neL b o e) hb (neC b o e hx) e1 (I.base.free b o e n hx)
    exact ⟨sl', e2⟩
  · obtain ⟨o', e1⟩ := I.base.there b o e hx
    exact free b o' (neC b o e hx) e1 (I.base.free b o e n hx)
  · obtain ⟨o', e1⟩ := I.base.there b o e hx
    exact there b o' (neC b o e hx) e1
  · obtain ⟨m1, e1⟩ := I.base.tbls b ps e
    obtain ⟨m2, e2⟩ := tbls b _ e1
    exact ⟨m1 ++ m2, by rw [e2, Array.append_assoc]⟩
  · obtain ⟨m, hn, hl⟩ := I.loc
    refine ⟨m, ns m hn, fun i x v e1 e2 e3 => ?_⟩
    obtain ⟨u, r, l⟩ := hl i x v e1 e2 e3
    refine ⟨u, r, ?_⟩
    rcases l with l | ⟨k, c, e, z⟩
    · exact .inl l
    · exact .inr ⟨k, c, e, cellK x c e _ z⟩
  · obtain ⟨v, z⟩ := I.cell x c e
    exact ⟨v, cellK x c e v z⟩
  · obtain ⟨m, ⟨o, _, _, ho, _⟩, _⟩ := I.loc
    exact free _ o (fun z => (hch _ z).2.1 rfl) ho I.free
  · obtain ⟨v, o, ho, hd⟩ := I.cell x c e
    exact free c o (fun z => (hch c z).2.2.1 x c e rfl) ho (I.freeC x c e)
  · obtain ⟨e, n, ne, nf, d⟩ := I.pin p hp
    have nch : p.1 ∉ ch := fun z => (hch p.1 z).2.2.2 p hp rfl
    exact ⟨keep p.1 p.2 ne nf nch e n, free p.1 p.2 nch e n, ne, nf, d⟩
theorem Inv.un {t' : Nat} (I : Inv X pins σ H s) (u : Un X.fs [] H H' s.heap h') (hok : HOk X.prog X.w H' h') : Inv X pins σ H' { s with heap := h', toks := t' } := by
  obtain ⟨m, ⟨o, es, ep, ho, r⟩, _⟩ := id I.loc
  obtain ⟨sl, hL⟩ := u.any ho I.free (by simp)
  exact I.step (g' := s.gens) (d' := s.drawn) (ch := []) (fun _ z => nomatch z) (fun b o _ hb _ e n => u.keep b o e n hb (by simp)) (fun b o _ hb _ e n => u.slot b o e n hb (by simp)) (fun b o _ e n => u.free b o e n (by simp)) (fun b o _ e => u.there b o e (by simp)) u.tups u.frzs u.tbls (fun m' hm => by
    obtain ⟨o', es', ep', ho', r'⟩ := hm
    rw [ho] at ho'; cases ho'
    exact ⟨_, es', ep', hL, r'⟩) hok I.bare
theorem Inv.call {g' : Array GenState} {t' : Nat} {d' : Drawn} {ch : List Addr} (I : Inv X pins σ H s) (u : Un (frs X.stack) ch H H' s.heap h') (hok : HOk X.prog X.w H' h') (hg : AllBare g')
    (hch : ∀ b ∈ ch, (b ∈ X.ex ∨ X.s₀.heap.objs.size ≤ b) ∧ b ≠ X.env.locals ∧ (∀ x c, X.env.cells.lookup x = some c → c ≠ b) ∧ ∀ p ∈ X.pn ++ pins, p.1 ≠ b) :
    Inv X pins σ H' { s with heap := h', gens := g', drawn := d', toks := t' } := by
  obtain ⟨m, ⟨o, es, ep, ho, r⟩, _⟩ := id I.loc
  obtain ⟨sl, hL⟩ := u.any ho I.free fun z => (hch _ z).2.1 rfl
  exact I.step (ch := ch) hch (fun b o hL hb hc e n => u.keep b o e n (fun z => (List.mem_cons.mp (I.stkSub b z)).elim hL hb) hc) (fun b o _ _ hc e n => u.any e n hc) (fun b o hc e n => u.free b o e n hc) (fun b o hc e => u.there b o e hc) u.tups u.frzs u.tbls (fun m' hm => by
    obtain ⟨o', es', ep', ho', r'⟩ := hm
    rw [ho] at ho'; cases ho'
    exact ⟨_, es', ep', hL, r'⟩) hok hg
theorem Inv.turned {t' : Nat} {it : Addr} (I : Inv X pins σ H s) (k : ∀ b o, b ≠ it → s.heap.get? b = some o → h'.get? b = some o) (hn : H it = none) (hL : it ≠ X.env.locals)
    (h1 : it ∈ X.ex ∨ X.s₀.heap.objs.size ≤ it) (h2 : ∀ x c, X.env.cells.lookup x = some c → c ≠ it) (h3 : ∀ p ∈ X.pn ++ pins, p.1 ≠ it) : Inv X pins σ H { s with heap := h', toks := t' } := by
  have nit : ∀ b u, H b = some u → b ≠ it := fun b u e z => by rw [z, hn] at e; cases e
  refine I.step (g' := s.gens) (d' := s.drawn) (ch := [it]) (fun b hb => ?_) (fun b o _ _ hc e _ => k b o (fun z => hc (by simp [z])) e) (fun b o _ _ hc e _ => ⟨o.slots, k b o (fun z => hc (by simp [z])) e⟩) (fun _ _ _ _ n => n)
    (fun b o hc e => ⟨o, k b o (fun z => hc (by simp [z])) e⟩) (fun _ _ e => e) (fun _ _ _ e => e) (fun b ps e => ⟨#[], by rw [e]; simp⟩) (fun m hm => ?_) (fun b u e => ?_) I.bare
  · have e : b = it := by simpa using hb
    subst e
    exact ⟨h1, hL, h2, h3⟩
  · obtain ⟨o, es, ep, ho, r⟩ := hm
    exact ⟨o, es, ep, k _ o (Ne.symm hL) ho, r⟩
  · refine (I.hok b u e).stay (fun c v hc q => k c v ?_ q) (fun _ q => q) fun _ _ q => q
    rcases hc with z | z
    · rw [z]; exact nit b u e
    · exact nit c _ z
theorem Inv.tok (I : Inv X pins σ H s) (t : Nat) : Inv X pins σ H { s with toks := t } := I.un (h' := s.heap) (t' := t) Un.refl I.hok
theorem Inv.kept {t' : Nat} (I : Inv X pins σ H s) (k : ∀ b u, s.heap.get? b = some u → h'.get? b = some u) : Inv X pins σ H { s with heap := h', toks := t' } := I.un (Un.kept k) (I.hok.kept k)
theorem Inv.laid {a : Addr} {o : HO} {t' : Nat} (I : Inv X pins σ H s) (k : ∀ b u, s.heap.get? b = some u → h'.get? b = some u) (hp : s.heap.objs.size ≤ a) (new : ObjOk X.prog X.w (upd H a o) h' a o) :
    Inv X pins σ (upd H a o) { s with heap := h', toks := t' } := I.un (Un.laid k hp (I.hok.fresh hp)) (I.hok.laid k hp new)
theorem Inv.write {x e : Addr} {o : HO} {t' : Nat} (I : Inv X pins σ H s) (mu : Mut (H x)) (he : e = x ∨ H e = some (.own x)) (k : ∀ b u, b ≠ e → s.heap.get? b = some u → h'.get? b = some u) (heo : ∃ u, h'.get? e = some u)
    (new : ObjOk X.prog X.w (upd H x o) h' x o) : Inv X pins σ (upd H x o) { s with heap := h', toks := t' } := I.un (Un.write mu he k heo) (I.hok.write mu he k heo new)
theorem Inv.weak {σ' : List (Option V)} (I : Inv X pins σ H s) (hl : σ'.length = σ.length) (w : ∀ (i : Nat) v, σ'[i]? = some (some v) → σ[i]? = some (some v)) : Inv X pins σ' H s :=
  ⟨I.ok, I.os, I.bare, I.base, let ⟨m, hn, hl'⟩ := I.loc; ⟨m, hn, fun i x v e1 e2 e3 => hl' i x v e1 (w i v e2) e3⟩, I.cell, I.free, I.freeC, I.pin, I.hok, hl.trans I.len⟩
theorem Inv.pins_of {pins' : List (Addr × Obj)} (I : Inv X pins σ H s) (h : ∀ p ∈ pins', s.heap.get? p.1 = some p.2 ∧ H p.1 = none ∧ p.1 ≠ X.env.locals ∧ p.1 ∉ X.fs ∧ ∀ v, p.2.data ≠ .cell v) : Inv X pins' σ H s :=
  ⟨I.ok, I.os, I.bare, I.base, I.loc, I.cell, I.free, I.freeC, fun p hp => (List.mem_append.mp hp).elim (fun z => I.pin p (List.mem_append_left _ z)) (h p), I.hok, I.len⟩
theorem zafd {N : List Str} (hN : N.Nodup) {i j : Nat} {x : Str} (a : N[i]? = some x) (b : N[j]? = some x) : i = j := by
  obtain ⟨h1, e1⟩ := List.getElem?_eq_some_iff.mp a
  obtain ⟨h2, e2⟩ := List.getElem?_eq_some_iff.mp b
  exact (List.getElem_inj hN).mp (e1.trans e2.symm)
theorem zadj {M : Model} {A : Around} {E : Value → Shared → Prop} {i : Nat} {x : Str} {v : V} {u : Value} {Q : Unit → Shared → Prop} (I : Inv X pins σ H s) (hN : X.N.Nodup) (hi : X.N[i]? = some x) (hx : Loc X.env.scope x) (r : RelV v u)
    (h : ∀ s', Inv X pins (σ.set i (some v)) H s' → (∃ a, Heap.SameBut a s.heap s'.heap ∧ (a = X.env.locals ∨ X.env.cells.lookup x = some a)) → Q () s') (hf : X.fn x = true ∨ X.env.scope.names.lookup x = some .local := by first | exact .inl rfl | exact .inr rfl | assumption) : wpAny M A (storeName X.env x u) Q E s := by
  obtain ⟨m, hn, hl⟩ := id I.loc
  have hcls : (X.env.scope.kind == .class || (X.env.scope.kind == .module && X.env.locals != X.env.globals)) = false := by rw [I.ok.kind]; rfl
  have hiσ : i < σ.length := by rw [I.len]; exact (List.getElem?_eq_some_iff.mp hi).1
  have cne := I.cne
  have tracked : ∀ {a : Addr} {h' : Heap}, (∃ o, s.heap.get? a = some o ∧ H a = none) → Heap.SameBut a s.heap h' → HOk X.prog X.w H h' := fun {a h'} ha hs b ob e => by
    obtain ⟨_, _, hfree⟩ := ha
    refine (I.hok b ob e).stay (fun c w' hc q => (hs.2 c ?_).trans q) (fun _ q => q) fun _ _ q => q
    rintro rfl
    rcases hc with rfl | hc
    · rw [hfree] at e; cases e
    · rw [hfree] at hc; cases hc
  rcases hx with hk | hk
  · refine wpAny_storeName_local hk hn (fun h' hn' hs => ?_) hcls
    obtain ⟨oL, _, _, hoL, _⟩ := id hn
    refine h _ ⟨I.ok, I.os, I.bare, ⟨fun b o e n hb hx => ?_, fun b o e n hb hx => ?_, I.base.free, fun b o e hx => ?_, I.base.tups, I.base.frzs, I.base.tbls⟩, ⟨_, hn', fun j y v' e1 e2 e3 => ?_⟩, fun y c e => ?_, I.free, I.freeC, fun p hp => ?_, tracked ⟨oL, hoL, I.free⟩ hs, by simpa using I.len⟩ ⟨_, hs, .inl rfl⟩
    · exact (hs.2 b (Nat.ne_of_lt (Nat.lt_of_lt_of_le (Heap.lt_size e) I.ok.above))).trans (I.base.keep b o e n hb hx)
    · obtain ⟨sl, e1⟩ := I.base.slot b o e n hb hx
      exact ⟨sl, (hs.2 b (Nat.ne_of_lt (Nat.lt_of_lt_of_le (Heap.lt_size e) I.ok.above))).trans e1⟩
    · obtain ⟨o', e1⟩ := I.base.there b o e hx
      exact ⟨o', (hs.2 b (Nat.ne_of_lt (Nat.lt_of_lt_of_le (Heap.lt_size e) I.ok.above))).trans e1⟩
    · by_cases hj : j = i
      · subst hj
        rw [hi] at e1; cases e1
        rw [List.getElem?_set_self hiσ] at e2
        cases e2
        exact ⟨u, r, .inl ⟨hk, by simp⟩⟩
      · rw [List.getElem?_set_ne (Ne.symm hj)] at e2
        obtain ⟨u', r', q⟩ := hl j y v' e1 e2 e3
        refine ⟨u', r', ?_⟩
        rcases q with ⟨k, e⟩ | ⟨k, c, e, z⟩
        · refine .inl ⟨k, ?_⟩
          have : y ≠ x := fun e => hj (zafd hN e1 (e ▸ hi))
          simp [this, e]
        · exact .inr ⟨k, c, e, z.sameBut hs (cne y c e)⟩
    · obtain ⟨w', z⟩ := I.cell y c e
      exact ⟨w', z.sameBut hs (cne y c e)⟩
    · obtain ⟨e, n, ne, nf, d⟩ := I.pin p hp
      exact ⟨(hs.2 p.1 ne).trans e, n, ne, nf, d⟩
  · have hfn : X.fn x = true := by
      rcases hf with z | z
      · exact z
      · rw [z] at hk; cases hk
    obtain ⟨c, hc⟩ := I.ok.has x (.inl hk)
    obtain ⟨w', z⟩ := I.cell x c hc
    refine wpAny_storeName_cell I.ok.kind hk hc z (fun h' hc' hs => ?_)
    obtain ⟨oc, hoc, hocd⟩ := id z
    refine h { s with heap := h' } ⟨I.ok, I.os, I.bare, ⟨fun b o e n hb hx => ?_, fun b o e n hb hx => ?_, I.base.free, fun b o e hx => ?_, I.base.tups, I.base.frzs, I.base.tbls⟩, ⟨m, hn.sameBut hs (Ne.symm (cne x c hc)), fun j y v' e1 e2 e3 => ?_⟩, fun y c' e => ?_, I.free, I.freeC, fun p hp => ?_, tracked ⟨oc, hoc, I.freeC x c hc⟩ hs, by simpa using I.len⟩ ⟨c, hs, .inr hc⟩
    · exact (hs.2 b (Nat.ne_of_lt (Nat.lt_of_lt_of_le (Heap.lt_size e) (I.ok.cab x c hfn hc)))).trans (I.base.keep b o e n hb hx)
    · obtain ⟨sl, e1⟩ := I.base.slot b o e n hb hx
      exact ⟨sl, (hs.2 b (Nat.ne_of_lt (Nat.lt_of_lt_of_le (Heap.lt_size e) (I.ok.cab x c hfn hc)))).trans e1⟩
    · obtain ⟨o', e1⟩ := I.base.there b o e hx
      exact ⟨o', (hs.2 b (Nat.ne_of_lt (Nat.lt_of_lt_of_le (Heap.lt_size e) (I.ok.cab x c hfn hc)))).trans e1⟩
    · by_cases hj : j = i
      · subst hj
        rw [hi] at e1; cases e1
        rw [List.getElem?_set_self hiσ] at e2
        cases e2
        exact ⟨u, r, .inr ⟨.inl hk, c, hc, hc'⟩⟩
      · rw [List.getElem?_set_ne (Ne.symm hj)] at e2
        obtain ⟨u', r', q⟩ := hl j y v' e1 e2 e3
        refine ⟨u', r', ?_⟩
        rcases q with q | ⟨k, c', e, z'⟩
        · exact .inl q
        · refine .inr ⟨k, c', e, z'.sameBut hs ?_⟩
          rintro rfl
          exact hj (zafd hN e1 (I.ok.inj _ _ _ e hc ▸ hi))
    · by_cases hcc : c' = c
      · subst hcc; exact ⟨_, hc'⟩
      · obtain ⟨w2, z2⟩ := I.cell y c' e
        exact ⟨w2, z2.sameBut hs hcc⟩
    · obtain ⟨e, n, ne, nf, d⟩ := I.pin p hp
      refine ⟨(hs.2 p.1 ?_).trans e, n, ne, nf, d⟩
      intro q
      rw [q, hoc] at e
      have q' : oc = p.2 := Option.some.inj e
      exact d w' (by rw [← q']; exact hocd)
theorem zad4 {M : Model} {A : Around} {E : Value → Shared → Prop} {i : Nat} {x : Str} {v : V} {u : Value} {Q : Unit → Shared → Prop} (I : Inv X pins σ H s) (hN : X.N.Nodup) (hi : X.N[i]? = some x) (hx : Loc X.env.scope x) (r : RelV v u)
    (h : ∀ s', Inv X pins (σ.set i (some v)) H s' → Q () s') (hf : X.fn x = true ∨ X.env.scope.names.lookup x = some .local := by first | exact .inl rfl | exact .inr rfl | assumption) : wpAny M A (storeName X.env x u) Q E s :=
  zadj I hN hi hx r (fun s' I' _ => h s' I') hf
theorem Inv.call' {s' : Shared} {ch : List Addr} (I : Inv X pins σ H s) (ho : s'.os = s.os) (u : Un (frs X.stack) ch H H' s.heap s'.heap) (hok : HOk X.prog X.w H' s'.heap) (hg : AllBare s'.gens)
    (hch : ∀ b ∈ ch, (b ∈ X.ex ∨ X.s₀.heap.objs.size ≤ b) ∧ b ≠ X.env.locals ∧ (∀ x c, X.env.cells.lookup x = some c → c ≠ b) ∧ ∀ p ∈ X.pn ++ pins, p.1 ≠ b) : Inv X pins σ H' s' := by
  obtain ⟨h', g', d', t', o'⟩ := s'
  have e : o' = s.os := ho
  subst e
  exact I.call (g' := g') (t' := t') (d' := d') u hok hg hch
end
abbrev XK := Value → Option Addr → Hp → Prop
abbrev St := List (Option V)
abbrev VK := V → Hp → Prop
abbrev TE := St → Hp → VK → Prop
abbrev TT := St → Hp → (Bool → Hp → Prop) → Prop
abbrev TA := St → Hp → (List V → Hp → Prop) → Prop
structure Ends where
  nx : St → Hp → Prop
  rt : VK
  bk : St → Hp → Prop := fun _ _ => False
  ct : St → Hp → Prop := fun _ _ => False
abbrev TS := Ends → St → Hp → Prop
def EP (X : Cx) (pins : List (Addr × Obj)) (σ : St) (Q : VK) (u : Value) (s' : Shared) : Prop := ∃ v H', Inv X pins σ H' s' ∧ RelV v u ∧ Q v H'
def TP (X : Cx) (pins : List (Addr × Obj)) (σ : St) (Q : Bool → Hp → Prop) (b : Bool) (s' : Shared) : Prop := ∃ H', Inv X pins σ H' s' ∧ Q b H'
def AP (X : Cx) (pins : List (Addr × Obj)) (σ : St) (Q : List V → Hp → Prop) (us : List Value) (s' : Shared) : Prop := ∃ vs H', Inv X pins σ H' s' ∧ Vals vs us ∧ Q vs H'
def SP (X : Cx) (pins : List (Addr × Obj)) (D : Ends) (f : Flow) (s' : Shared) : Prop :=
  match f with
  | .next => ∃ σ' H', Inv X pins σ' H' s' ∧ D.nx σ' H'
  | .brk => ∃ σ' H', Inv X pins σ' H' s' ∧ D.bk σ' H'
  | .cont => ∃ σ' H', Inv X pins σ' H' s' ∧ D.ct σ' H'
  | .ret u => ∃ v σ' H', Inv X pins σ' H' s' ∧ RelV v u ∧ D.rt v H'
def PE (X : Cx) (e : Expr) (t : TE) : Prop :=
  ∀ (pins : List (Addr × Obj)) (s : Shared) (σ : St) (H : Hp) (Q : VK), Inv X pins σ H s → t σ H Q → wpAny (model X.prog X.w) X.A (eval e X.env) (EP X pins σ Q) X.xe s
def PT (X : Cx) (e : Expr) (t : TT) : Prop :=
  ∀ (pins : List (Addr × Obj)) (s : Shared) (σ : St) (H : Hp) (Q : Bool → Hp → Prop), Inv X pins σ H s → t σ H Q → wpAny (model X.prog X.w) X.A (isTrue e X.env (eval e X.env)) (TP X pins σ Q) X.xe s
def PW (X : Cx) (e : Expr) (t : TT) : Prop :=
  ∀ (whole : Sem Value) (pins : List (Addr × Obj)) (s : Shared) (σ : St) (H : Hp) (Q : Bool → Hp → Prop), Inv X pins σ H s → t σ H Q → wpAny (model X.prog X.w) X.A (isTrue e X.env whole) (TP X pins σ Q) X.xe s
theorem PW.pt {X : Cx} {e : Expr} {t : TT} (h : PW X e t) : PT X e t := h _
def PA (X : Cx) (es : List Expr) (t : TA) : Prop :=
  ∀ (pos : Pos) (pins : List (Addr × Obj)) (s : Shared) (σ : St) (H : Hp) (Q : List V → Hp → Prop), Inv X pins σ H s → t σ H Q → wpAny (model X.prog X.w) X.A (spliced (backTo pos (starEach es X.env))) (AP X pins σ Q) X.xe s
def PS (X : Cx) (st : Stmt) (t : TS) : Prop :=
  ∀ (pins : List (Addr × Obj)) (s : Shared) (σ : St) (H : Hp) (D : Ends), Inv X pins σ H s → t D σ H → wpAny (model X.prog X.w) X.A (exec st X.env) (SP X pins D) X.xe s
def PSs (X : Cx) (st : List Stmt) (t : TS) : Prop :=
  ∀ (pins : List (Addr × Obj)) (s : Shared) (σ : St) (H : Hp) (D : Ends), Inv X pins σ H s → t D σ H → wpAny (model X.prog X.w) X.A (execs st X.env) (SP X pins D) X.xe s
theorem thn {α : Type} {t : Sem α} {Q Q' : α → Shared → Prop} {M : Model} {A : Around} {E : Value → Shared → Prop} {s : Shared} (h : wpAny M A t Q E s) (hQ : ∀ a s, Q a s → Q' a s) : wpAny M A t Q' E s := wpAny_mono h hQ fun _ _ x => x
end L2
namespace L2
open PySem PySem.Spec PyProof.Rows
section
variable {X : Cx}
theorem bin {a b : Expr} {ta tb : TE} (ha : PE X a ta) (hb : PE X b tb) {pins : List (Addr × Obj)} {s : Shared} {σ : St} {H : Hp} {R : V → V → Hp → Prop} (I : Inv X pins σ H s) (h : ta σ H fun x H1 => tb σ H1 fun y H2 => R x y H2)
    {α : Type} {Q : α → Shared → Prop} {f : Value → Value → Sem α}
    (hf : ∀ v u s2 x y H2, Inv X pins σ H2 s2 → RelV x v → RelV y u → R x y H2 → wpAny (model X.prog X.w) X.A (f v u) Q X.xe s2) :
    wpAny (model X.prog X.w) X.A (eval a X.env) (fun v s₁ => wpAny (model X.prog X.w) X.A (eval b X.env) (fun u s₂ => wpAny (model X.prog X.w) X.A (f v u) Q X.xe s₂) X.xe s₁) X.xe s := by
  refine thn (ha pins s σ H _ I h) fun v s1 ⟨x, H1, I1, r1, q1⟩ => ?_
  refine thn (hb pins s1 σ H1 _ I1 q1) fun u s2 ⟨y, H2, I2, r2, q2⟩ => ?_
  exact hf v u s2 x y H2 I2 r1 r2 q2
def tVar (i : Nat) : TE := fun σ H Q => ∃ v, σ[i]? = some (some v) ∧ Q v H
def tC (v : V) : TE := fun _ H Q => Q v H
theorem pe_var {i : Nat} {x : Str} {pos : Pos} (hN : X.N[i]? = some x) (hv : Vis X.env.scope x) (hd : (x == ("__debug__" : Str)) = false := by decide) (hcd : (x == ("__classdict__" : Str)) = false := by decide) : PE X (.Name x pos) (tVar i) := by
  intro pins s σ H Q I h
  obtain ⟨v, e, h⟩ := h
  obtain ⟨m, hn, hl⟩ := I.loc
  obtain ⟨u, r, l⟩ := hl i x v hN e hv
  have fin : EP X pins σ Q u s := ⟨v, H, I, r, h⟩
  rcases l with ⟨hk, hm⟩ | ⟨hk, c, hc, hcell⟩
  · exact wpAny_Name (wpAny_loadName_local I.ok.kind hk hn hm fin) hd
  · rcases hk with hk | hk
    · exact wpAny_Name (wpAny_loadName_cell I.ok.kind hk hc hcell fin) hd
    · exact wpAny_Name (wpAny_loadName_free I.ok.kind hk hc hcell fin hcd) hd
theorem pe_int {i j pos} : PE X (.Constant (.int i) j pos) (tC (.int i)) := fun _ _ _ H _ I h => wpAny_Constant_int ⟨.int i, H, I.tok _, ⟨_, rfl⟩, h⟩
theorem pe_bl {b j pos} : PE X (.Constant (.bool b) j pos) (tC (.bl b)) := fun _ _ _ H _ I h => Constant_bool ⟨.bl b, H, I, rfl, h⟩
theorem pe_non {j pos} : PE X (.Constant .none j pos) (tC .non) := fun _ _ _ H _ I h => Constant_none ⟨.non, H, I, rfl, h⟩
theorem pe_str {x j pos} : PE X (.Constant (.str x) j pos) (tC (.str x)) := fun _ _ _ H _ I h => Calls.Constant_str ⟨.str x, H, I.tok _, ⟨_, rfl⟩, h⟩
def Gl (X : Cx) (x : Str) : Prop := X.env.kindOf x = some .globalImplicit
theorem ld_glob {E : Value → Shared → Prop} {pins : List (Addr × Obj)} {s : Shared} {σ : St} {H : Hp} {x : Str} {u : Value} {pos : Pos} {Q : Value → Shared → Prop} (I : Inv X pins σ H s) (hg : Gl X x) (hm : X.mg x = some u) (h : Q u s)
    (hd : (x == ("__debug__" : Str)) = false := by decide) : wpAny (model X.prog X.w) X.A (eval (.Name x pos) X.env) Q E s :=
  Calls.Name_function_global I.ok.kind hg (Calls.loadGlobal_global (by rw [I.ok.glob]; exact I.mod.glob.keeps I.bk) hm h) hd
theorem ld_blt {E : Value → Shared → Prop} {pins : List (Addr × Obj)} {s : Shared} {σ : St} {H : Hp} {x : Str} {u : Value} {pos : Pos} {Q : Value → Shared → Prop} (I : Inv X pins σ H s) (hg : Gl X x) (hm : X.mg x = none) (hv : bootBuiltins x = some u) (h : Q u s)
    (hn : x ≠ "__name__" := by decide) (hd : (x == ("__debug__" : Str)) = false := by decide) : wpAny (model X.prog X.w) X.A (eval (.Name x pos) X.env) Q E s := by
  obtain ⟨mb, h1, h2⟩ := I.mod.blt
  exact Calls.Name_function_global I.ok.kind hg (Calls.loadGlobal_builtin (by rw [I.ok.glob]; exact I.mod.glob.keeps I.bk) hm (by rw [I.ok.blt]; exact h1.keeps I.bk) ((h2 x hn).trans hv) h) hd
theorem pe_bltn {x : Str} {v : V} {u : Value} {pos : Pos} (hg : Gl X x) (hm : X.mg x = none) (hv : bootBuiltins x = some u) (r : RelV v u) (hn : x ≠ "__name__" := by decide) (hd : (x == ("__debug__" : Str)) = false := by decide) : PE X (.Name x pos) (tC v) :=
  fun _ _ _ H _ I h => ld_blt I hg hm hv ⟨v, H, I, r, h⟩ hn hd
variable {a b : Expr} {ta tb : TE} {pos : Pos}
variable {tA tB' : TT} {rest : List Expr}
def tAnd (t u : TT) : TT := fun σ H Q => t σ H fun c H1 => if c = true then u σ H1 Q else Q false H1
def tOr (t u : TT) : TT := fun σ H Q => t σ H fun c H1 => if c = true then Q true H1 else u σ H1 Q
def tNot (t : TT) : TT := fun σ H Q => t σ H fun c H1 => Q (!c) H1
theorem pw_and1 (ha : PT X a tA) : PW X (.BoolOp .And [a] pos) tA := by
  intro wh pins s σ H Q I h
  refine isTrue_and (thn (ha pins s σ H Q I h) fun c s1 e => ?_)
  cases c with
  | true => exact isTrue_and_nil e
  | false => exact e
theorem pw_or1 (ha : PT X a tA) : PW X (.BoolOp .Or [a] pos) tA := by
  intro wh pins s σ H Q I h
  refine isTrue_or (thn (ha pins s σ H Q I h) fun c s1 e => ?_)
  cases c with
  | false => exact isTrue_or_nil e
  | true => exact e
theorem pw_and (ha : PT X a tA) (hb : PW X (.BoolOp .And (b :: rest) pos) tB') : PW X (.BoolOp .And (a :: b :: rest) pos) (tAnd tA tB') := by
  intro wh pins s σ H Q I h
  refine isTrue_and (thn (ha pins s σ H _ I h) fun c s1 ⟨H1, I1, q1⟩ => ?_)
  cases c with
  | true => exact hb wh pins s1 σ H1 Q I1 q1
  | false => exact ⟨H1, I1, q1⟩
theorem pw_or (ha : PT X a tA) (hb : PW X (.BoolOp .Or (b :: rest) pos) tB') : PW X (.BoolOp .Or (a :: b :: rest) pos) (tOr tA tB') := by
  intro wh pins s σ H Q I h
  refine isTrue_or (thn (ha pins s σ H _ I h) fun c s1 ⟨H1, I1, q1⟩ => ?_)
  cases c with
  | true => exact ⟨H1, I1, q1⟩
  | false => exact hb wh pins s1 σ H1 Q I1 q1
theorem pt_not (ha : PT X a tA) : PT X (.UnaryOp .Not a pos) (tNot tA) := by
  intro pins s σ H Q I h
  exact isTrue_not (ha pins s σ H (fun c H1 => Q (!c) H1) I h)
def tAndV (ta tb : TE) : TE := fun σ H Q => ta σ H fun x H1 => ∃ c, x = .bl c ∧ if c = true then tb σ H1 Q else Q (.bl false) H1
theorem pe_one {op} {t : TE} (h : PE X a t) : PE X (.BoolOp op [a] pos) t := fun pins s σ H Q I hw => BoolOp_one (h pins s σ H Q I hw)
theorem pe_and (ha : PE X a ta) (hb : PE X (.BoolOp .And (b :: rest) pos) tb) : PE X (.BoolOp .And (a :: b :: rest) pos) (tAndV ta tb) := by
  intro pins s σ H Q I h
  refine BoolOp_and (thn (ha pins s σ H _ I h) fun v s1 ⟨x, H1, I1, r1, q1⟩ => ?_)
  obtain ⟨c, rfl, q1⟩ := q1
  cases r1
  refine wpAny_truthy_bool ?_
  cases c with
  | true => exact hb pins s1 σ H1 Q I1 q1
  | false => exact ⟨.bl false, H1, I1, rfl, q1⟩
def tIf (t : TT) (ta tb : TE) : TE := fun σ H Q => t σ H fun c H1 => if c = true then ta σ H1 Q else tb σ H1 Q
theorem pe_ifExp {c : Expr} (hc : PT X c tA) (ha : PE X a ta) (hb : PE X b tb) : PE X (.IfExp c a b pos) (tIf tA ta tb) := by
  intro pins s σ H Q I h
  refine wpAny_IfExp (thn (hc pins s σ H _ I h) fun d s1 ⟨H1, I1, q1⟩ => ?_)
  cases d with
  | true => exact ha pins s1 σ H1 Q I1 q1
  | false => exact hb pins s1 σ H1 Q I1 q1
end
end L2
namespace L2
open PySem PySem.Spec PyProof.Rows
def SqL (K : PySem.W.Frag) (H : Hp) (a : Addr) (xs : List V) : Prop :=
  Rd H a (.lst xs) ∨
    ∃ (o : Obj) (its : Array Value) (n : Nat), K.lookup a = some o ∧ o.cls = .type "list" ∧ o.dict = none ∧ o.data = .seq its n ∧ its.size ≤ sizeLine ∧ Vals xs its.toList
def SqT (K : PySem.W.Frag) (H : Hp) (a : Addr) (xs : List V) : Prop :=
  Rd H a (.tup xs) ∨
    ∃ (o : Obj) (its : Array Value) (n : Nat), K.lookup a = some o ∧ o.cls = .type "tuple" ∧ o.data = .seq its n ∧ its.size ≤ sizeLine ∧ Vals xs its.toList
def absV : Value → Option V
  | .none => some .non
  | .bool b => some (.bl b)
  | .int i _ => some (.int i)
  | .str x _ => some (.str x)
  | .bytes b _ => some (.byt b)
  | .float b _ => some (.flt b)
  | .ref a => some (.ref a)
  | .type n => some (.ty n)
  | _ => none
theorem RelV.abs {x : V} {u : Value} (r : RelV x u) : absV u = some x := by
  cases x with
  | non => cases r; rfl
  | bl _ => cases r; rfl
  | int _ => obtain ⟨t, rfl⟩ := r; rfl
  | str _ => obtain ⟨t, rfl⟩ := r; rfl
  | byt _ => obtain ⟨t, rfl⟩ := r; rfl
  | flt _ => obtain ⟨t, rfl⟩ := r; rfl
  | ref _ => cases r; rfl
  | ty _ => cases r; rfl
theorem RelV.inj {x y : V} {u : Value} (r : RelV x u) (q : RelV y u) : x = y := Option.some.inj (r.abs.symm.trans q.abs)
theorem Vals.inj : ∀ {xs ys : List V} {us : List Value}, Vals xs us → Vals ys us → xs = ys
  | _, _, _, .nil, .nil => rfl
  | _, _, _, .cons r t, .cons r' t' => by rw [r.inj r', Vals.inj t t']
section
variable {X : Cx} {pins : List (Addr × Obj)} {σ : St} {H : Hp} {s : Shared} {a : Addr} {xs ys : List V}
theorem SqL.of {K : PySem.W.Frag} (h : H a = some (.lst xs)) : SqL K H a xs := .inl (.inl h)
theorem SqT.of {K : PySem.W.Frag} (h : H a = some (.tup xs)) : SqT K H a xs := .inl (.inl h)
theorem Inv.list (I : Inv X pins σ H s) (h : SqL X.K H a xs) : ∃ its : List Value, Vals xs its ∧ PlainL s.heap a its.toArray ∧ xs.length ≤ sizeLine := by
  rcases h with h | ⟨o, its, n, hk, hc, hd, hs, hz, r⟩
  · obtain ⟨z, its, n, r, e⟩ := h.ok I.hok
    exact ⟨its, r, ⟨_, n, e, rfl, rfl, rfl⟩, z⟩
  · refine ⟨its.toList, r, ⟨o, n, I.kIn a o hk, hc, hd, by simpa using hs⟩, ?_⟩
    have e := r.length
    simp only [Array.length_toList] at e
    omega
theorem Inv.tuple (I : Inv X pins σ H s) (h : SqT X.K H a xs) : ∃ its : List Value, Vals xs its ∧ IsTup s.heap a its.toArray ∧ xs.length ≤ sizeLine := by
  rcases h with h | ⟨o, its, n, hk, hc, hs, hz, r⟩
  · obtain ⟨z, its, r, p⟩ := h.ok I.hok
    exact ⟨its, r, p, z⟩
  · refine ⟨its.toList, r, ⟨o, I.kIn a o hk, hc, n, by simpa using hs⟩, ?_⟩
    have e := r.length
    simp only [Array.length_toList] at e
    omega
theorem Inv.list_inj (I : Inv X pins σ H s) (h : SqL X.K H a xs) (h' : SqL X.K H a ys) : xs = ys := by
  obtain ⟨its, r, ⟨o, n, e, _, _, d⟩, _⟩ := I.list h
  obtain ⟨its', r', ⟨o', n', e', _, _, d'⟩, _⟩ := I.list h'
  rw [e] at e'; cases e'
  rw [d] at d'
  injection d' with d1 _
  have : its = its' := by simpa using congrArg Array.toList d1
  subst this
  exact r.inj r'
theorem Inv.tuple_inj (I : Inv X pins σ H s) (h : SqT X.K H a xs) (h' : SqT X.K H a ys) : xs = ys := by
  obtain ⟨its, r, ⟨o, e, _, n, d⟩, _⟩ := I.tuple h
  obtain ⟨its', r', ⟨o', e', _, n', d'⟩, _⟩ := I.tuple h'
  rw [e] at e'; cases e'
  rw [d] at d'
  injection d' with d1 _
  have : its = its' := by simpa using congrArg Array.toList d1
  subst this
  exact r.inj r'
end
abbrev Cx.wish (X : Cx) (E : Value → Shared → Prop) : Cx := { X with xe := E }
abbrev Cx.nox (X : Cx) : Cx := X.wish fun _ _ => False
theorem Cx.Ok.wish {X : Cx} (ok : X.Ok) (E : Value → Shared → Prop) : (X.wish E).Ok :=
  ⟨ok.mod, ok.kind, ok.glob, ok.blt, ok.above, ok.inj, ok.has, ok.cab, ok.hd, ok.frames, ok.stk, ok.exf, ok.bs, ok.bsz, ok.noex, ok.exfs, ok.funs, ok.frf⟩
theorem Cx.Ok.unwish {X : Cx} {E : Value → Shared → Prop} (ok : (X.wish E).Ok) : X.Ok :=
  ⟨ok.mod, ok.kind, ok.glob, ok.blt, ok.above, ok.inj, ok.has, ok.cab, ok.hd, ok.frames, ok.stk, ok.exf, ok.bs, ok.bsz, ok.noex, ok.exfs, ok.funs, ok.frf⟩
section
variable {X : Cx} {pins : List (Addr × Obj)} {σ : St} {H : Hp} {s : Shared} {E : Value → Shared → Prop}
theorem Inv.wish (I : Inv X pins σ H s) (E : Value → Shared → Prop) : Inv (X.wish E) pins σ H s := ⟨I.ok.wish E, I.os, I.bare, I.base, I.loc, I.cell, I.free, I.freeC, I.pin, I.hok, I.len⟩
theorem Inv.unwish (I : Inv (X.wish E) pins σ H s) : Inv X pins σ H s := ⟨I.ok.unwish, I.os, I.bare, I.base, I.loc, I.cell, I.free, I.freeC, I.pin, I.hok, I.len⟩
theorem SP.unwish {D : Ends} {f : Flow} {s' : Shared} (h : SP (X.wish E) pins D f s') : SP X pins D f s' := by
  cases f with
  | next => obtain ⟨σ', H', I, q⟩ := h; exact ⟨σ', H', I.unwish, q⟩
  | brk => obtain ⟨σ', H', I, q⟩ := h; exact ⟨σ', H', I.unwish, q⟩
  | cont => obtain ⟨σ', H', I, q⟩ := h; exact ⟨σ', H', I.unwish, q⟩
  | ret u => obtain ⟨v, σ', H', I, r, q⟩ := h; exact ⟨v, σ', H', I.unwish, r, q⟩
theorem PE.nox {e : Expr} {t : TE} (h : PE X.nox e t) : PE X e t := fun pins s σ H Q I hw =>
  wpAny_mono (h pins s σ H Q (I.wish _) hw) (fun _ _ ⟨v, H', I', r, q⟩ => ⟨v, H', I'.unwish, r, q⟩) fun _ _ z => False.elim z
theorem PT.nox {e : Expr} {t : TT} (h : PT X.nox e t) : PT X e t := fun pins s σ H Q I hw =>
  wpAny_mono (h pins s σ H Q (I.wish _) hw) (fun _ _ ⟨H', I', q⟩ => ⟨H', I'.unwish, q⟩) fun _ _ z => False.elim z
theorem PSs.nox {st : List Stmt} {t : TS} (h : PSs X.nox st t) : PSs X st t := fun pins s σ H D I hw =>
  wpAny_mono (h pins s σ H D (I.wish _) hw) (fun _ _ q => q.unwish) fun _ _ z => False.elim z
end
section
variable {X : Cx} {st : Stmt} {rest : List Stmt} {t u : TS} {e : Expr} {te : TE} {pos : Pos}
def tNext : TS := fun D σ H => D.nx σ H
def tSeq (t u : TS) : TS := fun D σ H => t { D with nx := u D } σ H
theorem pss_nil : PSs X [] tNext := fun _ _ σ H _ I h => wpAny_execs_nil ⟨σ, H, I, h⟩
theorem pss_cons (h1 : PS X st t) (h2 : PSs X rest u) : PSs X (st :: rest) (tSeq t u) := by
  intro pins s σ H D I h
  refine wpAny_execs_cons (thn (h1 pins s σ H { D with nx := u D } I h) fun f s1 q => ?_)
  cases f with
  | next =>
    obtain ⟨σ', H', I', q⟩ := q
    exact h2 pins s1 σ' H' D I' q
  | ret v => exact q
  | brk => exact q
  | cont => exact q
theorem Inv.quiet {pins : List (Addr × Obj)} {σ : St} {H : Hp} {s : Shared} (I : Inv X pins σ H s) : interactive X.env = false := by simp [interactive, I.ok.kind]
def tDrop (te : TE) : TS := fun D σ H => te σ H fun _ H1 => D.nx σ H1
theorem ps_expr (he : PE X e te) (hs : swapsWith e none pos.line X.env = pure false := by rfl) : PS X (.Expr e pos) (tDrop te) := by
  intro pins s σ H D I h
  exact wpAny_Expr_any (thn (he pins s σ H _ I h) fun v s1 ⟨x, H1, I1, r1, q1⟩ => ⟨σ, H1, I1, q1⟩) I.quiet hs
def tRet (te : TE) : TS := fun D σ H => te σ H D.rt
theorem ps_ret (he : PE X e te) : PS X (.Return (some e) pos) (tRet te) := by
  intro pins s σ H D I h
  exact wpAny_Return_some (thn (he pins s σ H _ I h) fun v s1 ⟨x, H1, I1, r1, q1⟩ => ⟨x, σ, H1, I1, r1, q1⟩)
def tIfS (c : TT) (t u : TS) : TS := fun D σ H => c σ H fun b H1 => if b = true then t D σ H1 else u D σ H1
theorem ps_if {c : Expr} {a b : List Stmt} {tc : TT} (hc : PT X c tc) (ha : PSs X a t) (hb : PSs X b u) : PS X (.If c a b pos) (tIfS tc t u) := by
  intro pins s σ H D I h
  refine wpAny_If (thn (hc pins s σ H _ I h) fun d s1 ⟨H1, I1, q1⟩ => ?_)
  cases d with
  | true => exact ha pins s1 σ H1 D I1 q1
  | false => exact hb pins s1 σ H1 D I1 q1
end
abbrev TG := V → St → Hp → (St → Hp → Prop) → Prop
abbrev TGs := List V → St → Hp → (St → Hp → Prop) → Prop
def PG (X : Cx) (target : Expr) (t : TG) : Prop :=
  ∀ (pins : List (Addr × Obj)) (s : Shared) (σ : St) (H : Hp) (v : V) (u : Value) (Q : St → Hp → Prop), Inv X pins σ H s → RelV v u → t v σ H Q →
    wpAny (model X.prog X.w) X.A (assign target X.env u) (fun _ s' => ∃ σ' H', Inv X pins σ' H' s' ∧ Q σ' H') X.xe s
def PGs (X : Cx) (ts : List Expr) (t : TGs) : Prop :=
  ∀ (pins : List (Addr × Obj)) (s : Shared) (σ : St) (H : Hp) (vs : List V) (us : List Value) (Q : St → Hp → Prop), Inv X pins σ H s → Vals vs us → t vs σ H Q →
    wpAny (model X.prog X.w) X.A (assignInOrder ((assignEach ts X.env).map (·.2)) us) (fun _ s' => ∃ σ' H', Inv X pins σ' H' s' ∧ Q σ' H') X.xe s
section
variable {X : Cx} {pos : Pos}
def gName (i : Nat) : TG := fun v σ H Q => Q (σ.set i (some v)) H
theorem pg_name {i : Nat} {x : Str} (hN : X.N.Nodup) (hi : X.N[i]? = some x) (hx : Loc X.env.scope x) (hf : X.fn x = true ∨ X.env.scope.names.lookup x = some .local := by first | exact .inl rfl | exact .inr rfl | assumption) : PG X (.Name x pos) (gName i) := by
  intro pins s σ H v u Q I r h
  exact wpAny_assign_Name (zad4 I hN hi hx r (fun s' I' => ⟨_, H, I', h⟩) hf)
def gNil : TGs := fun vs σ H Q => vs = [] ∧ Q σ H
def gCons (t : TG) (u : TGs) : TGs := fun vs σ H Q => ∃ v r, vs = v :: r ∧ t v σ H fun σ' H' => u r σ' H' Q
theorem pgs_nil : PGs X [] gNil := by
  intro pins s σ H vs us Q I r h
  obtain ⟨e, h⟩ := h
  subst e
  cases r
  exact assignInOrder_nil ⟨σ, H, I, h⟩
theorem pgs_cons {e : Expr} {es : List Expr} {t : TG} {u : TGs} (h1 : PG X e t) (h2 : PGs X es u)
    (hs : (assignEach (e :: es) X.env).map (·.2) = assign e X.env :: (assignEach es X.env).map (·.2) := by rfl) : PGs X (e :: es) (gCons t u) := by
  intro pins s σ H vs us Q I r h
  obtain ⟨v, vr, e1, h⟩ := h
  subst e1
  cases r with
  | cons r rr =>
    rw [hs]
    refine assignInOrder_cons (thn (h1 pins s σ H _ _ _ I r h) fun _ s1 ⟨σ1, H1, I1, q1⟩ => ?_)
    exact h2 pins s1 σ1 H1 _ _ Q I1 rr q1
def gTup (K : PySem.W.Frag) (n : Nat) (t : TGs) : TG := fun v σ H Q => ∃ a xs, v = .ref a ∧ SqT K H a xs ∧ xs.length = n ∧ t xs σ H Q
theorem pg_tup {es : List Expr} {k : Nat} {t : TGs} {n : Nat} (hc : X.calm = true) (h : PGs X es t)
    (hn : (assignEach es X.env).length = n := by rfl) (hst : (assignEach es X.env).findIdx? (·.1) = none := by rfl) : PG X (.Tuple es k pos) (gTup X.K n t) := by
  intro pins s σ H v u Q I r hw
  obtain ⟨a, xs, e1, hq, hl, hw⟩ := hw
  subst e1
  cases r
  obtain ⟨its, rv, ht, hz⟩ := I.tuple hq
  refine assign_Tuple_tuple (I.ok.hd hc) ht (by simp [hn, ← hl, rv.length]) hst fun h' hx => ?_
  have I1 : Inv X pins σ H { s with heap := h' } := I.kept (t' := s.toks) fun b o e => hx b o (Nat.ne_of_lt (Heap.lt_size e)) e
  exact h pins _ σ H xs _ Q I1 (by simpa using rv) hw
def tAsg (te : TE) (g : TG) : TS := fun D σ H => te σ H fun x H1 => g x σ H1 D.nx
theorem ps_set {i : Nat} {x : Str} {e : Expr} {te : TE} {pos' : Pos} (hN : X.N.Nodup) (hi : X.N[i]? = some x) (hx : Loc X.env.scope x) (he : PE X e te) (hs : swapsWith e (some (.Name x pos')) pos.line X.env = pure false := by rfl) (hf : X.fn x = true ∨ X.env.scope.names.lookup x = some .local := by first | exact .inl rfl | exact .inr rfl | assumption) :
    PS X (.Assign [.Name x pos'] e pos) (tAsg te (gName i)) := by
  intro pins s σ H D I h
  refine wpAny_Assign_Name (thn (he pins s σ H _ I h) fun v s1 ⟨y, H1, I1, r1, q1⟩ => ?_) hs
  exact zad4 I1 hN hi hx r1 (fun s2 I2 => ⟨_, H1, I2, q1⟩) hf
end
section
variable {X : Cx} {pos : Pos}
def tWhile (c : TT) (tb : TS) : TS := fun D σ H => ∃ W : Nat → St → Hp → Prop, (∃ m, W m σ H) ∧ ∀ m σ H, W m σ H →
  c σ H fun b H1 => if b = true then ∃ N : St → Hp → Prop, (∀ σ' H', N σ' H' → ∃ m', m' < m ∧ W m' σ' H') ∧ tb { D with nx := N, ct := N, bk := D.nx } σ H1 else D.nx σ H1
theorem ps_while {c : Expr} {body : List Stmt} {tc : TT} {tb : TS} (hp : PassesOwn (model X.prog X.w) X.A X.env X.xe) (hc : PT X c tc) (hb : PSs X body tb) : PS X (.While c body [] pos) (tWhile tc tb) := by
  intro pins s σ H D I h
  obtain ⟨W, ⟨m0, w0⟩, turn⟩ := h
  refine wpAny_While (codeAny_whileLoop (fun n s' => ∃ σ' H', Inv X pins σ' H' s' ∧ W n σ' H') ?_ m0 ⟨σ, H, I, w0⟩)
  rintro n s1 ⟨σ1, H1, I1, w1⟩
  refine wpAny_passesOwn hp (thn (hc pins s1 σ1 H1 _ I1 (turn n σ1 H1 w1)) fun b s2 ⟨H2, I2, q2⟩ => ?_)
  cases b with
  | true =>
    obtain ⟨N, hN, q2⟩ := q2
    rw [if_pos rfl]
    refine wpAny_passesOwn hp (thn (hb pins s2 σ1 H2 _ I2 q2) fun f s3 q3 => ?_)
    cases f with
    | next =>
      obtain ⟨σ3, H3, I3, n3⟩ := q3
      obtain ⟨m', hm, w3⟩ := hN σ3 H3 n3
      exact ⟨m', hm, σ3, H3, I3, w3⟩
    | cont =>
      obtain ⟨σ3, H3, I3, n3⟩ := q3
      obtain ⟨m', hm, w3⟩ := hN σ3 H3 n3
      exact ⟨m', hm, σ3, H3, I3, w3⟩
    | brk => exact q3
    | ret v => exact q3
  | false =>
    rw [if_neg Bool.false_ne_true]
    exact wpAny_execs_nil ⟨σ1, H2, I2, q2⟩
end
structure It where
  go : Nat → Hp → Prop
  yld : Nat → Hp → V → Hp → Prop
  stop : Nat → Hp → Prop
def FpOk (X : Cx) (pins : List (Addr × Obj)) (H : Hp) (b : Addr) : Prop :=
  H b = none ∧ b ≠ X.env.locals ∧ b ∉ X.fs ∧ (b ∈ X.ex ∨ X.s₀.heap.objs.size ≤ b) ∧ (∀ x c, X.env.cells.lookup x = some c → c ≠ b) ∧ ∀ p ∈ X.pn ++ pins, p.1 ≠ b
theorem Inv.fpOk {X : Cx} {pins : List (Addr × Obj)} {σ : St} {H H' : Hp} {s : Shared} {b : Addr} (I : Inv X pins σ H s) (hb : s.heap.objs.size ≤ b) (hn : H' b = none) : FpOk X pins H' b := by
  refine ⟨hn, Nat.ne_of_gt (Nat.lt_of_lt_of_le I.lt hb), I.nofs hb, .inr (Nat.le_trans I.sz hb), fun x c e z => ?_, fun p hp z => ?_⟩
  · obtain ⟨v, q⟩ := I.cell x c e
    exact absurd (Nat.lt_of_lt_of_le q.lt (by rw [z]; exact hb)) (Nat.lt_irrefl _)
  · exact absurd (Nat.lt_of_lt_of_le (Heap.lt_size (I.pin p hp).1) (by rw [z]; exact hb)) (Nat.lt_irrefl _)
structure Turn (P : Program) (w : World) (K : PySem.W.Frag) (tg : Expr) (J : It) (fp : List Addr) (it : Addr) (tn : Nat → Heap → Prop) : Prop where
  mem : it ∈ fp
  obj : ∀ i h, tn i h → ∀ b ∈ fp, ∃ o, h.get? b = some o ∧ ∀ v, o.data ≠ .cell v
  keep : ∀ i h h', tn i h → (∀ b ∈ fp, ∀ o, h.get? b = some o → h'.get? b = some o) → tn i h'
  item : ∀ (X : Cx), X.prog = P → X.w = w → X.K = K → X.calm = true → ∀ (i : Nat) (pins : List (Addr × Obj)) (s : Shared) (σ : St) (H : Hp) (E : Value → Shared → Prop), Inv X pins σ H s → (∀ b ∈ fp, FpOk X pins H b) → tn i s.heap → J.go i H →
    wpAny (model P w) X.A (pyNext (.ref it)) (fun r s1 => ∃ u, r = some u ∧
      wpAny (model P w) X.A (letOwnedTupleGo tg (.ref it) u) (fun _ s2 => ∃ x H', Inv X pins σ H' s2 ∧ RelV x u ∧ J.yld i H x H' ∧ tn (i + 1) s2.heap ∧ ∀ b ∈ fp, H' b = none) E s1) E s
  done : ∀ (X : Cx), X.prog = P → X.w = w → X.K = K → X.calm = true → ∀ (i : Nat) (pins : List (Addr × Obj)) (s : Shared) (σ : St) (H : Hp) (E : Value → Shared → Prop), Inv X pins σ H s → (∀ b ∈ fp, FpOk X pins H b) → tn i s.heap → J.stop i H →
    wpAny (model P w) X.A (pyNext (.ref it)) (fun r s1 => r = none ∧ Inv X pins σ H s1) E s
  self : ∀ (A : Around) (i : Nat) (s : Shared) (Q : Value → Shared → Prop) (E : Value → Shared → Prop), tn i s.heap → Q (.ref it) s → wpAny (model P w) A (pyIter (.ref it)) Q E s
abbrev TI := St → Hp → (It → Hp → Prop) → Prop
def PIE (X : Cx) (pins : List (Addr × Obj)) (σ : St) (tg : Expr) (R : It → Hp → Prop) (itv : Value) (s2 : Shared) : Prop :=
  ∃ (it : Addr) (fp : List Addr) (tn : Nat → Heap → Prop) (J : It) (H' : Hp), itv = .ref it ∧ Inv X pins σ H' s2 ∧ Turn X.prog X.w X.K tg J fp it tn ∧ tn 0 s2.heap ∧ (∀ b ∈ fp, FpOk X pins H' b) ∧ R J H'
def PI (X : Cx) (tg iter : Expr) (wi : TI) : Prop :=
  ∀ (pins : List (Addr × Obj)) (s : Shared) (σ : St) (H : Hp) (R : It → Hp → Prop), Inv X pins σ H s → wi σ H R →
    wpAny (model X.prog X.w) X.A (eval iter X.env) (fun v s1 => wpAny (model X.prog X.w) X.A (pyIter v) (PIE X pins σ tg R) X.xe s1) X.xe s
theorem go_of {M : Model} {A : Around} {E : Value → Shared → Prop} {s : Shared} {tg : Expr} {it : Addr} {u : Value} {o : Obj} {n : String} {vs : Array Value} {Q : Unit → Shared → Prop} (ho : s.heap.get? it = some o) (hc : o.cls = .type n) (hd : o.data = .fields vs)
    (hn : ["enumerate", "zip", "dict_itemiterator", "dict_reverseitemiterator", "odict_iterator", "itertools.zip_longest", "itertools.pairwise"].contains n = false) (hQ : Q () s) : wpAny M A (letOwnedTupleGo tg (.ref it) u) Q E s := by
  unfold letOwnedTupleGo
  cases tg <;> first
    | exact wpAny_pure hQ
    | (cases u <;> first
        | exact wpAny_pure hQ
        | (refine wpAny_bind (wpAny_load ho ?_)
           rw [hc, hd]
           show wpAny M A (if (["enumerate", "zip", "dict_itemiterator", "dict_reverseitemiterator", "odict_iterator", "itertools.zip_longest", "itertools.pairwise"].contains n && vs[0]? == some (rawInt _)) = true then _ else _) Q E s
           rw [if_neg (by intro h; rw [hn, Bool.false_and] at h; cases h)]
           exact wpAny_pure hQ))
def Itl (K : PySem.W.Frag) (a : Addr) : It :=
  ⟨fun i H => ∃ xs x, SqL K H a xs ∧ xs[i]? = some x, fun i H x H' => H' = H ∧ ∀ xs, SqL K H a xs → xs[i]? = some x, fun i H => ∃ xs, SqL K H a xs ∧ xs.length ≤ i⟩
def Itt (K : PySem.W.Frag) (a : Addr) : It :=
  ⟨fun i H => ∃ xs x, SqT K H a xs ∧ xs[i]? = some x, fun i H x H' => H' = H ∧ ∀ xs, SqT K H a xs → xs[i]? = some x, fun i H => ∃ xs, SqT K H a xs ∧ xs.length ≤ i⟩
def Itr (lo : Int) (n : Nat) : It := ⟨fun i _ => i < n, fun i H x H' => H' = H ∧ x = .int (lo + i), fun i _ => n ≤ i⟩
theorem turn_list {P : Program} {w : World} {K : PySem.W.Frag} {tg : Expr} (a it : Addr) : Turn P w K tg (Itl K a) [it] it (fun i h => h.IsListIter it a i) where
  mem := by simp
  obj := fun i h st b hb => by
    have e : b = it := by simpa using hb
    subst e
    obtain ⟨o, e, c, d⟩ := st
    exact ⟨o, e, fun v z => by rw [d] at z; cases z⟩
  keep := fun i h h' st k => st.at fun o e => k it (by simp) o e
  item := by
    intro X hP hw hK hc i pins s σ H E I hf st hg
    subst hP hw hK
    obtain ⟨xs, x, hq, hx⟩ := hg
    obtain ⟨its, rv, p, hz⟩ := I.list hq
    obtain ⟨u, hu, ru⟩ := rv.get hx
    obtain ⟨f0, f1, f2, f3, f4, f5⟩ := hf it (by simp)
    refine wpAny_pyNext_list_item st p.isList (x := u) (by simpa using hu) fun h' st' sb => ?_
    have I1 : Inv X pins σ H { s with heap := h' } := I.turned (t' := s.toks) (fun b o hb e => (sb.2 b hb).trans e) f0 f1 f3 f4 f5
    obtain ⟨o, e, c, d⟩ := id st'
    exact ⟨u, rfl, go_of (s := { s with heap := h' }) e c d (by decide) ⟨x, H, I1, ru, ⟨rfl, fun ys hy => by rw [I.list_inj hy hq]; exact hx⟩, st', fun b hb => (hf b hb).1⟩⟩
  done := by
    intro X hP hw hK hc i pins s σ H E I hf st hg
    subst hP hw hK
    obtain ⟨xs, hq, hx⟩ := hg
    obtain ⟨its, rv, p, hz⟩ := I.list hq
    obtain ⟨f0, f1, f2, f3, f4, f5⟩ := hf it (by simp)
    have hl := rv.length
    exact wpAny_pyNext_list_end (I.ok.hd hc) st p.isList (by simp; omega) fun h' eb => ⟨rfl, I.turned (t' := s.toks) (fun b o hb e => eb b o hb e) f0 f1 f3 f4 f5⟩
  self := fun _ _ _ _ _ st h => wpAny_pyIter_listiter st h
theorem zae1 {P : Program} {w : World} {K : PySem.W.Frag} {tg : Expr} (a it : Addr) : Turn P w K tg (Itt K a) [it] it (fun i h => h.IsTupleIter it a i) where
  mem := by simp
  obj := fun i h st b hb => by
    have e : b = it := by simpa using hb
    subst e
    obtain ⟨o, e, c, d⟩ := st
    exact ⟨o, e, fun v z => by rw [d] at z; cases z⟩
  keep := fun i h h' st k => st.at fun o e => k it (by simp) o e
  item := by
    intro X hP hw hK hc i pins s σ H E I hf st hg
    subst hP hw hK
    obtain ⟨xs, x, hq, hx⟩ := hg
    obtain ⟨its, rv, p, hz⟩ := I.tuple hq
    obtain ⟨u, hu, ru⟩ := rv.get hx
    obtain ⟨f0, f1, f2, f3, f4, f5⟩ := hf it (by simp)
    refine wpAny_pyNext_tuple_item st (show s.heap.IsTuple a its.toArray from p) (x := u) (by simpa using hu) fun h' st' sb => ?_
    have I1 : Inv X pins σ H { s with heap := h' } := I.turned (t' := s.toks) (fun b o hb e => (sb.2 b hb).trans e) f0 f1 f3 f4 f5
    obtain ⟨o, e, c, d⟩ := id st'
    exact ⟨u, rfl, go_of (s := { s with heap := h' }) e c d (by decide) ⟨x, H, I1, ru, ⟨rfl, fun ys hy => by rw [I.tuple_inj hy hq]; exact hx⟩, st', fun b hb => (hf b hb).1⟩⟩
  done := by
    intro X hP hw hK hc i pins s σ H E I hf st hg
    subst hP hw hK
    obtain ⟨xs, hq, hx⟩ := hg
    obtain ⟨its, rv, p, hz⟩ := I.tuple hq
    obtain ⟨f0, f1, f2, f3, f4, f5⟩ := hf it (by simp)
    have hl := rv.length
    exact wpAny_pyNext_tuple_end (I.ok.hd hc) st (show s.heap.IsTuple a its.toArray from p) (by simp; omega) fun h' eb => ⟨rfl, I.turned (t' := s.toks) (fun b o hb e => eb b o hb e) f0 f1 f3 f4 f5⟩
  self := fun _ _ _ _ _ st h => wpAny_pyIter_tupleiter st h
theorem zaet {P : Program} {w : World} {K : PySem.W.Frag} {tg : Expr} (it : Addr) (lo : Int) (n : Nat) : Turn P w K tg (Itr lo n) [it] it (fun i h => IsRangeIter h it (lo + (i : Nat) * 1) ((n : Int) - (i : Nat)) 1) where
  mem := by simp
  obj := fun i h st b hb => by
    have e : b = it := by simpa using hb
    subst e
    exact ⟨_, st, fun v z => by
      have z' : Data.fields _ = Data.cell v := z
      cases z'⟩
  keep := fun i h h' st k => k it (by simp) _ st
  item := by
    intro X hP hw hK hc i pins s σ H E I hf st hg
    subst hP hw hK
    obtain ⟨f0, f1, f2, f3, f4, f5⟩ := hf it (by simp)
    have W := Walks.range (prog := X.prog) (w := X.w) (I.ok.hd hc) it lo 1 n
    refine W.item i s _ _ hg st fun v h' tk hv st' kk => ?_
    obtain ⟨t, rfl⟩ := hv
    have I1 : Inv X pins σ H { s with heap := h', toks := tk } := I.turned (fun b o hb e => kk b o (by simpa using hb) e) f0 f1 f3 f4 f5
    refine ⟨_, rfl, go_of (s := { s with heap := h', toks := tk }) (n := "range_iterator") st' rfl rfl (by decide) ⟨.int (lo + i), H, I1, ⟨t, ?_⟩, ⟨rfl, rfl⟩, st', fun b hb => (hf b hb).1⟩⟩
    rw [Int.mul_one]
  done := by
    intro X hP hw hK hc i pins s σ H E I hf st hg
    subst hP hw hK
    obtain ⟨f0, f1, f2, f3, f4, f5⟩ := hf it (by simp)
    exact wpAny_pyNext_range_end (I.ok.hd hc) st (by have : n ≤ i := hg; omega) fun h' eb => ⟨rfl, I.turned (t' := s.toks) (fun b o hb e => eb b o hb e) f0 f1 f3 f4 f5⟩
  self := fun _ _ _ _ _ st h => wpAny_pyIter_rangeiter st h
end L2
namespace L2
open PySem PySem.Spec PyProof.Rows
section
variable {X : Cx} {tg : Expr}
theorem zaec {pins : List (Addr × Obj)} {σ : St} {H : Hp} {s : Shared} {R : It → Hp → Prop} {E : Value → Shared → Prop} {lo hi : Int} {t u v : Tok} {tk : Nat} (I : Inv X pins σ H s) (h1 : -(2 ^ 62) ≤ lo) (h2 : lo < 2 ^ 62) (h3 : -(2 ^ 62) ≤ hi) (h4 : hi < 2 ^ 62)
    (q : R (Itr lo (hi - lo).toNat) H) : wpAny (model X.prog X.w) X.A (pyIter (.ref s.heap.objs.size)) (PIE X pins σ tg R) E { s with heap := s.heap.push { cls := .type "range", data := .fields #[.int lo t, .int hi u, .int 1 v] }, toks := tk } := by
  refine wpAny_pyIter_range (IsRange.new ..) (small_one h1 h2 h3 h4) ?_
  have I1 : Inv X pins σ H { s with heap := s.heap.push { cls := .type "range", data := .fields #[.int lo t, .int hi u, .int 1 v] }, toks := tk } := I.kept fun b o e => Heap.get?_push_of_some _ e
  refine ⟨(s.heap.push { cls := .type "range", data := .fields #[.int lo t, .int hi u, .int 1 v] }).objs.size, [(s.heap.push { cls := .type "range", data := .fields #[.int lo t, .int hi u, .int 1 v] }).objs.size], _, _, H, rfl,
    I1.kept (t' := tk) fun b o e => Heap.get?_push_of_some _ e, zaet _ lo (hi - lo).toNat, ?_, fun b hb => ?_, q⟩
  · have e1 : lo + ((0 : Nat) : Int) * 1 = lo := by simp
    have e2 : (((hi - lo).toNat : Nat) : Int) - ((0 : Nat) : Int) = Builtin.Range.rangeSize lo hi 1 := by rw [rangeSize_one]; split <;> omega
    show IsRangeIter _ _ (lo + ((0 : Nat) : Int) * 1) ((((hi - lo).toNat : Nat) : Int) - ((0 : Nat) : Int)) 1
    rw [e1, e2]
    exact Heap.get?_push_size _ rfl
  · have e : b = (s.heap.push { cls := .type "range", data := .fields #[.int lo t, .int hi u, .int 1 v] }).objs.size := by simpa using hb
    subst e
    exact I1.fpOk (Nat.le_refl _) (I1.hok.fresh (Nat.le_refl _))
def iRng1 (ta : TA) : TI := fun σ H R => ta σ H fun vs H1 => ∃ j : Int, vs = [.int j] ∧ -(2 ^ 62) ≤ j ∧ j < 2 ^ 62 ∧ R (Itr 0 j.toNat) H1
def iRng2 (ta : TA) : TI := fun σ H R => ta σ H fun vs H1 => ∃ i j : Int, vs = [.int i, .int j] ∧ (-(2 ^ 62) ≤ i ∧ i < 2 ^ 62 ∧ -(2 ^ 62) ≤ j ∧ j < 2 ^ 62) ∧ R (Itr i (j - i).toNat) H1
theorem pi_range1 {a : Expr} {ta : TA} {p pos : Pos} (hg : Gl X "range") (hm : X.mg "range" = none) (ha : PA X [a] ta) (hs : starEach [a] X.env = [(false, eval a X.env)] := by rfl) : PI X tg (.Call (.Name "range" p) [a] [] pos) (iRng1 ta) := by
  intro pins s σ H R I h
  refine Call_ (ld_blt I hg hm boot_range (PyProof.Rows.callWith_type1 (thn (ha pos pins s σ H _ I h) fun us s1 ⟨vs, H1, I1, r1, q1⟩ => ?_) hs rfl))
  obtain ⟨j, e, q1, q2, q⟩ := q1
  subst e
  cases r1 with
  | cons r rr =>
    cases rr
    obtain ⟨t, rfl⟩ := r
    exact call_range_1 (zaec I1 (by omega) (by omega) q1 q2 (by simpa using q))
theorem pi_range2 {a b : Expr} {ta : TA} {p pos : Pos} (hg : Gl X "range") (hm : X.mg "range" = none) (ha : PA X [a, b] ta) (hs : starEach [a, b] X.env = [(false, eval a X.env), (false, eval b X.env)] := by rfl) (hs2 : starEach [b] X.env = [(false, eval b X.env)] := by rfl) :
    PI X tg (.Call (.Name "range" p) [a, b] [] pos) (iRng2 ta) := by
  intro pins s σ H R I h
  refine Call_ (ld_blt I hg hm boot_range (PyProof.Rows.callWith_type1 (thn (ha pos pins s σ H _ I h) fun us s1 ⟨vs, H1, I1, r1, q1⟩ => ?_) (by rw [hs, hs2]) (by rw [hs2]; rfl)))
  obtain ⟨i, j, e, ⟨q1, q2, q3, q4⟩, q⟩ := q1
  subst e
  cases r1 with
  | cons r rr =>
    cases rr with
    | cons r' rr =>
      cases rr
      obtain ⟨t, rfl⟩ := r
      obtain ⟨t', rfl⟩ := r'
      exact call_range_2 (zaec I1 q1 q2 q3 q4 q)
def tFor (wi : TI) (g : TG) (tb : TS) : TS := fun D σ H => wi σ H fun J H1 => ∃ W : Nat → Nat → St → Hp → Prop, (∃ m, W 0 m σ H1) ∧ ∀ i m σ H, W i m σ H →
  (J.stop i H ∧ D.nx σ H) ∨ (J.go i H ∧ ∃ N : St → Hp → Prop, (∀ σ' H', N σ' H' → ∃ m', m' < m ∧ W (i + 1) m' σ' H') ∧ ∀ x H', J.yld i H x H' → g x σ H' fun σ2 H2 => tb { D with nx := N, ct := N, bk := D.nx } σ2 H2)
def pinsAt (fp : List Addr) (h : Heap) : List (Addr × Obj) := fp.filterMap fun b => (h.get? b).map fun o => (b, o)
theorem zaa9 {fp : List Addr} {h : Heap} {b : Addr} {o : Obj} (hb : b ∈ fp) (e : h.get? b = some o) : (b, o) ∈ pinsAt fp h := List.mem_filterMap.mpr ⟨b, hb, by rw [e]; rfl⟩
theorem of_pinsAt {fp : List Addr} {h : Heap} {p : Addr × Obj} (hp : p ∈ pinsAt fp h) : p.1 ∈ fp ∧ h.get? p.1 = some p.2 := by
  obtain ⟨b, hb, e⟩ := List.mem_filterMap.mp hp
  cases q : h.get? b with
  | none => rw [q] at e; cases e
  | some o =>
    rw [q] at e
    have e' : (b, o) = p := Option.some.inj e
    subst e'
    exact ⟨hb, q⟩
theorem Inv.pinned {pins : List (Addr × Obj)} {σ : St} {H : Hp} {s : Shared} {fp : List Addr} (I : Inv X pins σ H s) (hf : ∀ b ∈ fp, FpOk X pins H b) (ho : ∀ b ∈ fp, ∃ o, s.heap.get? b = some o ∧ ∀ v, o.data ≠ .cell v) : Inv X (pins ++ pinsAt fp s.heap) σ H s :=
  I.pins_of fun p hp => (List.mem_append.mp hp).elim (fun z => I.pin p (List.mem_append_right _ z)) fun z => by
    obtain ⟨hb, e⟩ := of_pinsAt z
    obtain ⟨f0, f1, f2, _⟩ := hf p.1 hb
    obtain ⟨o, e', d⟩ := ho p.1 hb
    rw [e] at e'; cases e'
    exact ⟨e, f0, f1, f2, d⟩
theorem Inv.unpinned {pins pl : List (Addr × Obj)} {σ : St} {H : Hp} {s : Shared} (I : Inv X (pins ++ pl) σ H s) : Inv X pins σ H s := I.pins_of fun p hp => I.pin p (List.mem_append_right _ (List.mem_append_left _ hp))
theorem ps_for {iter : Expr} {body : List Stmt} {wi : TI} {g : TG} {tb : TS} {pos : Pos} (hp : PassesOwn (model X.prog X.w) X.A X.env X.xe) (hc : X.calm = true) (hi : PI X tg iter wi) (hg : PG X tg g) (hb : PSs X body tb)
    (hs : ∀ x, foldedSetIterable iter X.env x = pure x := by intro _; rfl) : PS X (.For tg iter body [] pos) (tFor wi g tb) := by
  intro pins s σ H D I h
  refine wpAny_For (thn (hi pins s σ H _ I h) fun v s1 h1 => thn h1 fun itv s2 h2 => ?_) hs
  obtain ⟨it, fp, tn, J, H2, e, I2, T, st2, f2, W, ⟨m0, w0⟩, turn⟩ := h2
  subst e
  have stat : ∀ {H' : Hp}, (∀ b ∈ fp, H' b = none) → ∀ b ∈ fp, FpOk X pins H' b := fun hn b hb => ⟨hn b hb, (f2 b hb).2⟩
  refine codeAny_forLoop_any (fun n s' => ∃ i σ' H', Inv X pins σ' H' s' ∧ tn i s'.heap ∧ (∀ b ∈ fp, H' b = none) ∧ W i n σ' H') ?_ m0 ⟨0, σ, H2, I2, st2, fun b hb => (f2 b hb).1, w0⟩
  rintro n s3 ⟨i, σ3, H3, I3, st3, fr3, w3⟩
  rcases turn i n σ3 H3 w3 with ⟨stop, qn⟩ | ⟨go, N, hN, step⟩
  · refine wpAny_passesOwn hp (thn (T.done X rfl rfl rfl hc i pins s3 σ3 H3 X.xe I3 (stat fr3) st3 stop) fun r s4 ⟨hr, I4⟩ => ?_)
    subst hr
    exact wpAny_execs_nil ⟨σ3, H3, I4, qn⟩
  · refine wpAny_passesOwn hp (thn (T.item X rfl rfl rfl hc i pins s3 σ3 H3 X.xe I3 (stat fr3) st3 go) fun r s4 ⟨u, hr, h4⟩ => ?_)
    subst hr
    refine wpAny_passesOwn hp (thn h4 fun _ s5 ⟨x, H5, I5, r5, y5, st5, fr5⟩ => ?_)
    have I5' := I5.pinned (stat fr5) (T.obj _ _ st5)
    refine wpAny_passesOwn hp (thn (hg _ s5 σ3 H5 x u _ I5' r5 (step x H5 y5)) fun _ s6 ⟨σ6, H6, I6, q6⟩ => ?_)
    refine wpAny_passesOwn hp (thn (hb _ s6 σ6 H6 _ I6 q6) fun f s7 q7 => ?_)
    have again : ∀ {σ7 : St} {H7 : Hp}, Inv X (pins ++ pinsAt fp s5.heap) σ7 H7 s7 → N σ7 H7 → ∃ m, m < n ∧ ∃ i σ' H', Inv X pins σ' H' s7 ∧ tn i s7.heap ∧ (∀ b ∈ fp, H' b = none) ∧ W i m σ' H' := fun {σ7 H7} I7 n7 => by
      obtain ⟨m', hm, w7⟩ := hN σ7 H7 n7
      refine ⟨m', hm, i + 1, σ7, H7, I7.unpinned, T.keep _ _ _ st5 fun b hb o e => (I7.pin (b, o) (List.mem_append_right _ (List.mem_append_right _ (zaa9 hb e)))).1, fun b hb => ?_, w7⟩
      obtain ⟨o, e, d⟩ := T.obj _ _ st5 b hb
      exact (I7.pin (b, o) (List.mem_append_right _ (List.mem_append_right _ (zaa9 hb e)))).2.1
    cases f with
    | next => obtain ⟨σ7, H7, I7, n7⟩ := q7; exact again I7 n7
    | cont => obtain ⟨σ7, H7, I7, n7⟩ := q7; exact again I7 n7
    | brk => obtain ⟨σ7, H7, I7, q7⟩ := q7; exact ⟨σ7, H7, I7.unpinned, q7⟩
    | ret v => obtain ⟨x7, σ7, H7, I7, r7, q7⟩ := q7; exact ⟨x7, σ7, H7, I7.unpinned, r7, q7⟩
end
end L2
namespace L2
open PySem PySem.Spec PyProof.Rows
abbrev R2 := V → V → Hp → VK → Prop
def OpR (X : Cx) (f : Value → Value → Sem Value) (r : R2) : Prop :=
  ∀ (pins : List (Addr × Obj)) (s : Shared) (σ : St) (H : Hp) (x y : V) (v u : Value) (Q : VK), Inv X pins σ H s → RelV x v → RelV y u → r x y H Q →
    wpAny (model X.prog X.w) X.A (f v u) (EP X pins σ Q) X.xe s
def UnR (X : Cx) (f : Value → Sem Value) (r : V → Hp → VK → Prop) : Prop :=
  ∀ (pins : List (Addr × Obj)) (s : Shared) (σ : St) (H : Hp) (x : V) (v : Value) (Q : VK), Inv X pins σ H s → RelV x v → r x H Q →
    wpAny (model X.prog X.w) X.A (f v) (EP X pins σ Q) X.xe s
def CallR (X : Cx) (f : Value) (r : List V → Hp → VK → Prop) : Prop :=
  ∀ (pins : List (Addr × Obj)) (s : Shared) (σ : St) (H : Hp) (xs : List V) (us : List Value) (Q : VK), Inv X pins σ H s → Vals xs us → r xs H Q →
    wpAny (model X.prog X.w) X.A (call f us) (EP X pins σ Q) X.xe s
def TruR (X : Cx) (r : V → Hp → (Bool → Hp → Prop) → Prop) : Prop :=
  ∀ (pins : List (Addr × Obj)) (s : Shared) (σ : St) (H : Hp) (x : V) (v : Value) (Q : Bool → Hp → Prop), Inv X pins σ H s → RelV x v → r x H Q →
    wpAny (model X.prog X.w) X.A (truthy v) (TP X pins σ Q) X.xe s
def tOp (r : R2) (ta tb : TE) : TE := fun σ H Q => ta σ H fun x H1 => tb σ H1 fun y H2 => r x y H2 Q
def tUn (r : V → Hp → VK → Prop) (ta : TE) : TE := fun σ H Q => ta σ H fun x H1 => r x H1 Q
def rI (C : Int → Int → Prop) (g : Int → Int → V) : R2 := fun x y H Q => ∃ i j, x = .int i ∧ y = .int j ∧ C i j ∧ Q (g i j) H
def rI0 (g : Int → Int → V) : R2 := fun x y H Q => ∃ i j, x = .int i ∧ y = .int j ∧ Q (g i j) H
def rU (g : Int → V) : V → Hp → VK → Prop := fun x H Q => ∃ i, x = .int i ∧ Q (g i) H
section
variable {X : Cx} {a b c : Expr} {ta tb tc : TE} {pos : Pos}
theorem binT (ha : PE X a ta) (hb : PE X b tb) {pins : List (Addr × Obj)} {s : Shared} {σ : St} {H : Hp} {R : V → V → Hp → Prop} (I : Inv X pins σ H s)
    (h : ta σ H fun x H1 => tb σ H1 fun y H2 => R x y H2) {Q : Value → Shared → Prop} {f : Value → Value → Sem Value}
    (hf : ∀ v u s2 x y H2, Inv X pins σ H2 s2 → RelV x v → RelV y u → R x y H2 → wpAny (model X.prog X.w) X.A (f v u) Q X.xe s2) :
    wpAny (model X.prog X.w) X.A (eval a X.env) (fun v s₁ => wpAny (model X.prog X.w) X.A (eval b X.env) (fun u s₂ => wpAny (model X.prog X.w) X.A (f v u) Q X.xe s₂) X.xe s₁) X.xe s := by
  refine thn (ha pins s σ H _ I h) fun v s1 ⟨x, H1, I1, r1, q1⟩ => ?_
  refine thn (hb pins s1 σ H1 _ I1 q1) fun u s2 ⟨y, H2, I2, r2, q2⟩ => ?_
  exact hf v u s2 x y H2 I2 r1 r2 q2
theorem pe_op {op : Operator} {r : R2} (ho : OpR X (binaryOp op) r) (ha : PE X a ta) (hb : PE X b tb) : PE X (.BinOp a op b pos) (tOp r ta tb) := by
  intro pins s σ H Q I h
  exact wpAny_BinOp (binT ha hb I h fun v u s2 x y H2 I2 rx ry q => ho pins s2 σ H2 x y v u Q I2 rx ry q)
theorem pe_un {op : UnaryOp} {r : V → Hp → VK → Prop} (ho : UnR X (unaryOp op) r) (ha : PE X a ta) : PE X (.UnaryOp op a pos) (tUn r ta) := by
  intro pins s σ H Q I h
  exact UnaryOp_ (thn (ha pins s σ H _ I h) fun v s1 ⟨x, H1, I1, r1, q1⟩ => ho pins s1 σ H1 x v Q I1 r1 q1)
theorem opI {f : Value → Value → Sem Value} {C : Int → Int → Prop} {g : Int → Int → Int}
    (rule : ∀ (i j : Int) (t u : Tok) (s : Shared) (Q : Value → Shared → Prop) (E : Value → Shared → Prop), C i j → Q (.int (g i j) s.toks) { s with toks := s.toks + 1 } → wpAny (model X.prog X.w) X.A (f (.int i t) (.int j u)) Q E s) :
    OpR X f (rI C fun i j => .int (g i j)) := by
  intro pins s σ H x y v u Q I rx ry h
  obtain ⟨i, j, rfl, rfl, hc, q⟩ := h
  obtain ⟨t, rfl⟩ := rx
  obtain ⟨t', rfl⟩ := ry
  exact rule i j t t' s _ _ hc ⟨.int (g i j), H, I.tok _, ⟨_, rfl⟩, q⟩
theorem opI0 {f : Value → Value → Sem Value} {g : Int → Int → Int}
    (rule : ∀ (i j : Int) (t u : Tok) (s : Shared) (Q : Value → Shared → Prop) (E : Value → Shared → Prop), Q (.int (g i j) s.toks) { s with toks := s.toks + 1 } → wpAny (model X.prog X.w) X.A (f (.int i t) (.int j u)) Q E s) :
    OpR X f (rI0 fun i j => .int (g i j)) := by
  intro pins s σ H x y v u Q I rx ry h
  obtain ⟨i, j, rfl, rfl, q⟩ := h
  obtain ⟨t, rfl⟩ := rx
  obtain ⟨t', rfl⟩ := ry
  exact rule i j t t' s _ _ ⟨.int (g i j), H, I.tok _, ⟨_, rfl⟩, q⟩
theorem opB0 {f : Value → Value → Sem Value} {g : Int → Int → Bool}
    (rule : ∀ (i j : Int) (t u : Tok) (s : Shared) (Q : Value → Shared → Prop) (E : Value → Shared → Prop), Q (.bool (g i j)) s → wpAny (model X.prog X.w) X.A (f (.int i t) (.int j u)) Q E s) :
    OpR X f (rI0 fun i j => .bl (g i j)) := by
  intro pins s σ H x y v u Q I rx ry h
  obtain ⟨i, j, rfl, rfl, q⟩ := h
  obtain ⟨t, rfl⟩ := rx
  obtain ⟨t', rfl⟩ := ry
  exact rule i j t t' s _ _ ⟨.bl (g i j), H, I, rfl, q⟩
def CDiv (i j : Int) : Prop := 0 < j ∧ j < 1073741824
def CMul (i j : Int) : Prop := (-(2 ^ 64) < i ∧ i < 2 ^ 64) ∨ (-(2 ^ 64) < j ∧ j < 2 ^ 64)
theorem CMul.ok {i j : Int} (h : CMul i j) : IntMulOk i j := by
  rcases h with ⟨h1, h2⟩ | ⟨h1, h2⟩
  · exact .of_left (intBits_le_64 h1 h2)
  · exact .of_right (intBits_le_64 h1 h2)
theorem op_add : OpR X (binaryOp .Add) (rI0 fun i j => .int (i + j)) := opI0 fun _ _ _ _ _ _ _ q => add_int q
theorem op_sub : OpR X (binaryOp .Sub) (rI0 fun i j => .int (i - j)) := opI0 fun _ _ _ _ _ _ _ q => sub_int q
theorem op_mul : OpR X (binaryOp .Mult) (rI CMul fun i j => .int (i * j)) := opI fun _ _ _ _ _ _ _ hc q => mul_int q hc.ok
theorem zaas : OpR X (binaryOp .FloorDiv) (rI CDiv fun i j => .int (i / j)) := opI fun i j _ _ _ _ _ hc q => by
  have h1 : (0 : Int) < j := hc.1
  have h2 : j < 1073741824 := hc.2
  exact floordiv_int (by omega) (by rw [Int.fdiv_eq_ediv_of_nonneg i (by omega)]; exact q) (.inl (PyProof.noPylong_small (by omega)))
theorem op_mod : OpR X (binaryOp .Mod) (rI (fun _ j => 0 < j) fun i j => .int (i % j)) := opI fun i j _ _ _ _ _ hc q => by
  have h1 : (0 : Int) < j := hc
  exact mod_int' (by omega) (by rw [Int.fmod_eq_emod_of_nonneg i (by omega)]; exact q)
theorem unI {f : Value → Sem Value} {g : Int → Int}
    (rule : ∀ (i : Int) (t : Tok) (s : Shared) (Q : Value → Shared → Prop) (E : Value → Shared → Prop), Q (.int (g i) s.toks) { s with toks := s.toks + 1 } → wpAny (model X.prog X.w) X.A (f (.int i t)) Q E s) :
    UnR X f (rU fun i => .int (g i)) := by
  intro pins s σ H x v Q I rx h
  obtain ⟨i, rfl, q⟩ := h
  obtain ⟨t, rfl⟩ := rx
  exact rule i t s _ _ ⟨.int (g i), H, I.tok _, ⟨_, rfl⟩, q⟩
theorem un_neg : UnR X (unaryOp .USub) (rU fun i => .int (-i)) := unI fun _ _ _ _ _ q => neg_int q
end
section
variable {X : Cx} {a b c : Expr} {ta tb tc : TE} {pos : Pos}
theorem fin_bl {pins : List (Addr × Obj)} {σ : St} {H : Hp} {s : Shared} {Q : VK} {k k' : Bool} (I : Inv X pins σ H s) (q : Q (.bl k) H) (e : k = k') : EP X pins σ Q (.bool k') s := by
  subst e
  exact ⟨.bl k, H, I, rfl, q⟩
theorem op_lt : OpR X (compareOp .Lt) (rI0 fun i j => .bl (decide (i < j))) := opB0 fun _ _ _ _ _ _ _ q => lt_int q
theorem op_le : OpR X (compareOp .LtE) (rI0 fun i j => .bl (decide (i ≤ j))) := opB0 fun _ _ _ _ _ _ _ q => le_int q
theorem op_gt : OpR X (compareOp .Gt) (rI0 fun i j => .bl (decide (j < i))) := opB0 fun _ _ _ _ _ _ _ q => gt_int q
theorem op_ge : OpR X (compareOp .GtE) (rI0 fun i j => .bl (decide (j ≤ i))) := opB0 fun _ _ _ _ _ _ _ q => ge_int q
theorem op_isN : OpR X (compareOp .Is) (fun x y H Q => y = .non ∧ Q (.bl (decide (x = .non))) H) := by
  intro pins s σ H x y v u Q I rx ry h
  obtain ⟨rfl, q⟩ := h
  cases ry
  refine is_none_gen (fin_bl I q ?_)
  cases x <;> first
    | (cases rx; rfl)
    | (obtain ⟨t, rfl⟩ := rx; rfl)
theorem op_notN : OpR X (compareOp .IsNot) (fun x y H Q => y = .non ∧ Q (.bl (!decide (x = .non))) H) := by
  intro pins s σ H x y v u Q I rx ry h
  obtain ⟨rfl, q⟩ := h
  cases ry
  refine isnot_none_gen (fin_bl I q ?_)
  cases x <;> first
    | (cases rx; rfl)
    | (obtain ⟨t, rfl⟩ := rx; rfl)
theorem OpR.or {f : Value → Value → Sem Value} {r r' : R2} (h : OpR X f r) (h' : OpR X f r') : OpR X f (fun x y H Q => r x y H Q ∨ r' x y H Q) := by
  intro pins s σ H x y v u Q I rx ry q
  rcases q with q | q
  · exact h pins s σ H x y v u Q I rx ry q
  · exact h' pins s σ H x y v u Q I rx ry q
theorem nomark (b : Expr) {op : CmpOp} (h : op ≠ .In := by decide) (h2 : op ≠ .NotIn := by decide) : behindInMarks op b = false := by
  have e1 : (op == CmpOp.In) = false := by cases op <;> first | rfl | exact absurd rfl h
  have e2 : (op == CmpOp.NotIn) = false := by cases op <;> first | rfl | exact absurd rfl h2
  cases b <;> simp [behindInMarks, e1, e2]
theorem pe_cmpR {op : CmpOp} {r : R2} (ho : OpR X (compareOp op) r) (ha : PE X a ta) (hb : PE X b tb) (hm : behindInMarks op b = false) : PE X (.Compare a [op] [b] pos) (tOp r ta tb) := by
  intro pins s σ H Q I h
  exact wpAny_Compare1 (binT ha hb I h fun v u s2 x y H2 I2 rx ry q => ho pins s2 σ H2 x y v u Q I2 rx ry q) hm
def tTest (t : TE) : TT := fun σ H Q => t σ H fun x H' => ∃ k, x = .bl k ∧ Q k H'
theorem pt_cmpR {op : CmpOp} {r : R2} (ho : OpR X (compareOp op) r) (ha : PE X a ta) (hb : PE X b tb) (hm : behindInMarks op b = false) : PT X (.Compare a [op] [b] pos) (tTest (tOp r ta tb)) := by
  intro pins s σ H Q I h
  refine wpAny_isTrue_Compare1 (thn (ha pins s σ H _ I h) fun v s1 ⟨x, H1, I1, r1, q1⟩ => thn (hb pins s1 σ H1 _ I1 q1) fun u s2 ⟨y, H2, I2, r2, q2⟩ =>
    thn (ho pins s2 σ H2 x y v u _ I2 r1 r2 q2) fun c s3 ⟨z, H3, I3, r3, k, e, q3⟩ => ?_) hm
  subst e
  cases r3
  exact wpAny_truthy_bool ⟨H3, I3, q3⟩
def TruV (K : PySem.W.Frag) (x : V) (H : Hp) (k : Bool) : Prop :=
  match x with
  | .non => k = false
  | .bl b => k = b
  | .int i => k = (i != 0)
  | .str y => y.length ≤ sizeLine ∧ k = ((y.length : Int) != 0)
  | .byt y => y.size ≤ sizeLine ∧ k = ((y.size : Int) != 0)
  | .ref p => (∃ xs, SqL K H p xs ∧ k = !xs.isEmpty) ∨ (∃ xs, SqT K H p xs ∧ k = !xs.isEmpty) ∨ ∃ kvs, H p = some (.dK kvs) ∧ k = !kvs.isEmpty
  | _ => False
theorem zadw {κ : Type} {kvs : List (κ × V)} {vs : List (κ × Value)} (r : KV kvs vs) : (!vs.isEmpty) = !kvs.isEmpty := by
  cases r <;> rfl
theorem zab9 {xs : List V} {its : List Value} (r : Vals xs its) : (!its.toArray.isEmpty) = !xs.isEmpty := by
  cases r <;> simp
theorem line63 : (sizeLine : Nat) < 2 ^ 63 := by rw [sizeLine_eq]; decide
theorem tru_ok : TruR X (fun x H Q => ∃ k, TruV X.K x H k ∧ Q k H) := by
  intro pins s σ H x v Q I rx h
  obtain ⟨k, e, q⟩ := h
  have hl := line63
  have hs : sizeLine = 16777216 := sizeLine_eq
  cases x with
  | non =>
    cases rx
    have e' : k = false := e
    subst e'
    exact truthy_none ⟨H, I, q⟩
  | bl b =>
    cases rx
    have e' : k = b := e
    subst e'
    exact wpAny_truthy_bool ⟨H, I, q⟩
  | int i =>
    obtain ⟨t, rfl⟩ := rx
    have e' : k = (i != 0) := e
    subst e'
    exact PySem.P.truthy_int ⟨H, I, q⟩
  | str y =>
    obtain ⟨t, rfl⟩ := rx
    obtain ⟨hy, e'⟩ : y.length ≤ sizeLine ∧ k = ((y.length : Int) != 0) := e
    subst e'
    exact PySem.P.truthy_str (by omega) ⟨H, I.tok _, q⟩
  | byt y =>
    obtain ⟨t, rfl⟩ := rx
    obtain ⟨hy, e'⟩ : y.size ≤ sizeLine ∧ k = ((y.size : Int) != 0) := e
    subst e'
    exact PySem.W.truthy_bytes (by omega) ⟨H, I.tok _, q⟩
  | ref p =>
    cases rx
    have e' : (∃ xs, SqL X.K H p xs ∧ k = !xs.isEmpty) ∨ (∃ xs, SqT X.K H p xs ∧ k = !xs.isEmpty) ∨ ∃ kvs, H p = some (.dK kvs) ∧ k = !kvs.isEmpty := e
    rcases e' with ⟨xs, hx, e'⟩ | ⟨xs, hx, e'⟩ | ⟨kvs, hx, e'⟩
    · subst e'
      obtain ⟨its, r, pl, hz⟩ := I.list hx
      have hlen := r.length
      exact wpAny_truthy_list pl.isList (by simp only [List.size_toArray]; omega) ⟨H, I.tok _, by rw [zab9 r]; exact q⟩
    · subst e'
      obtain ⟨its, r, pl, hz⟩ := I.tuple hx
      have hlen := r.length
      exact truthy_tuple pl (by simp only [List.size_toArray]; omega) ⟨H, I.tok _, by rw [zab9 r]; exact q⟩
    · subst e'
      obtain ⟨hz, hS, vs, r, m⟩ : kvs.length ≤ sizeLine ∧ (p == sysModules) = false ∧ ∃ vs, KV kvs vs ∧ s.heap.DictOf (zaeo X.prog X.w) p vs := I.hok p _ hx
      have hlen : kvs.length = vs.length := Paired.length r
      exact wpAny_truthy_dict hS m (by omega) ⟨H, I.tok _, by rw [zadw r]; exact q⟩
  | _ => exact (show False from e).elim
theorem pt_truth (ha : PE X a ta) (he : ∀ whole, isTrue a X.env whole = (do let v ← whole; standAt a.pos; holding [v] (truthy v))) :
    PT X a (fun σ H Q => ta σ H fun x H' => ∃ k, TruV X.K x H' k ∧ Q k H') := by
  intro pins s σ H Q I h
  exact isTrue_plain (thn (ha pins s σ H _ I h) fun v s1 ⟨x, H1, I1, r1, q1⟩ => tru_ok pins s1 σ H1 x v Q I1 r1 q1) (he _)
theorem vals1 {x : V} {us : List Value} (r : Vals [x] us) : ∃ u, us = [u] ∧ RelV x u := by
  cases r with
  | cons r1 r2 => cases r2; exact ⟨_, rfl, r1⟩
theorem vals2 {x y : V} {us : List Value} (r : Vals [x, y] us) : ∃ u w', us = [u, w'] ∧ RelV x u ∧ RelV y w' := by
  cases r with
  | cons r1 r2 =>
    cases r2 with
    | cons r3 r4 => cases r4; exact ⟨_, _, rfl, r1, r3⟩
theorem call_abs : CallR X (.builtin "abs") (fun xs H Q => ∃ i, xs = [.int i] ∧ Q (.int (if i < 0 then -i else i)) H) := by
  intro pins s σ H xs us Q I r h
  obtain ⟨i, rfl, q⟩ := h
  obtain ⟨u, rfl, t, rfl⟩ := vals1 r
  exact call_abs_int fun u tk => ⟨.int (if i < 0 then -i else i), H, I.tok _, ⟨_, rfl⟩, q⟩
theorem call_min2 (hc : X.calm = true) : CallR X (.builtin "min") (fun xs H Q => ∃ i j, xs = [.int i, .int j] ∧ Q (.int (if j < i then j else i)) H) := by
  intro pins s σ H xs us Q I r h
  obtain ⟨i, j, rfl, q⟩ := h
  obtain ⟨u, w', rfl, ⟨t, rfl⟩, ⟨t', rfl⟩⟩ := vals2 r
  refine min_two_ints (I.ok.hd hc) fun h' tk k => ⟨_, H, I.kept k, ?_, q⟩
  by_cases hj : j < i
  · rw [if_pos hj, if_pos hj]; exact ⟨_, rfl⟩
  · rw [if_neg hj, if_neg hj]; exact ⟨_, rfl⟩
end
end L2
namespace L2
open PySem PySem.Spec PyProof.Rows
structure ObjM (h : Heap) (x dx C : Addr) (mA : Str → Option Value) : Prop where
  obj : h.get? x = some (PySem.W.instObj C dx)
  ns : h.Ns1 dx mA
  ne : dx ≠ x
theorem lookIn_ns {h : Heap} {dx : Addr} {mA : Str → Option Value} (n : h.Ns1 dx mA) : ∃ od, h.get? dx = some od ∧ ∀ name, PySem.W.lookIn name od = some (mA name) := by
  obtain ⟨o, es, ep, ho, hd, hk, _, hm⟩ := n
  refine ⟨o, ho, fun name => ?_⟩
  have e := hm name
  unfold nsFind findBy at e
  rw [← Array.find?_toList] at e
  unfold PySem.W.lookIn
  rw [hd]
  dsimp only
  split
  · rename_i y q
    rw [q] at e
    exact congrArg some e
  · rename_i q
    rw [q] at e
    have a : es.toList.any (·.refKey) = false := by
      rw [List.any_eq_false]
      intro y hy
      obtain ⟨z, t, hkey⟩ := hk y (Array.mem_toList_iff.mp hy)
      simp [DictEntry.refKey, hkey]
    have a' : ¬ es.toList.any (·.refKey) = true := by rw [a]; exact Bool.false_ne_true
    rw [if_neg a']
    exact congrArg some e
theorem ObjM.look {h : Heap} {x dx C : Addr} {mA : Str → Option Value} (I : ObjM h x dx C mA) : ∃ od, PySem.W.InstAt h x (PySem.W.instObj C dx) C (some od) ∧ ∀ name, PySem.W.lookIn name od = some (mA name) :=
  let ⟨od, ho, hl⟩ := lookIn_ns I.ns
  ⟨od, ⟨I.obj, rfl, rfl, ho⟩, hl⟩
section
variable {prog : Program} {w : World} {A : Around} {E : Value → Shared → Prop} {s : Shared} {K : PySem.W.Frag} {x dx C f : Addr} {mA : Str → Option Value} {name : Str} {v : Value}
end
section
variable {P : Program} {w : World} {H H' : Hp} {h h' : Heap} {a C dx : Addr} {fs fs' : List (Str × V)}
theorem ins_get (hok : HOk P w H h) (e : H a = some (.ins C dx fs)) : ∃ mA, ObjM h a dx C mA ∧ (∀ f, RelO (fs.lookup f) (mA f)) ∧ PySem.Within mA (fs.map (·.1)) ∧ fs.length ≤ 1000 ∧ H dx = some (.own a) := by
  obtain ⟨d, z, ne, ob, mA, n, r, q⟩ := (show ObjOk P w H h a (.ins C dx fs) from hok a _ e)
  exact ⟨mA, ⟨ob, n, ne⟩, r, q, z, d⟩
end
structure Cls (K : PySem.W.Frag) (C : Addr) : Prop where
  pg : PySem.W.plainGet K C Str.empty = true
  hd : PySem.W.hasDictIn K C = true
  po : PySem.W.plainOver K C = true
  sa : PySem.W.findIn K (.ref C) "__setattr__" = some (some (.builtin "object.__setattr__"))
theorem Cls.get {K : PySem.W.Frag} {C : Addr} (c : Cls K C) (f : Str) : PySem.W.plainGet K C f = true := c.pg
structure Con (K : PySem.W.Frag) (C : Addr) (f : Str) (v : V) (u : Value) : Prop where
  at_ : PySem.W.findIn K (.ref C) f = some (some u)
  rel : RelV v u
  get : PySem.W.specialIn K u "__get__" = some none
  cp : PySem.W.copiedNames.contains f = false
structure Meth (K : PySem.W.Frag) (C : Addr) (m : Str) (f : Addr) : Prop where
  at_ : PySem.W.findIn K (.ref C) m = some (some (.ref f))
  fn : PySem.W.isFn K (.ref f) = true
  kp : PySem.W.keepIn K (.ref f) = true
section
variable {X : Cx} {pins : List (Addr × Obj)} {σ : St} {H : Hp} {s : Shared} {a C dx : Addr} {fs : List (Str × V)} {f : Str} {v : V} {A : Around} {E : Value → Shared → Prop}
theorem Inv.made (I : Inv X pins σ H s) : Inv X pins σ (upd (upd H s.heap.objs.size (.own (s.heap.objs.size + 1))) (s.heap.objs.size + 1) (.ins C s.heap.objs.size []))
    { s with heap := (s.heap.push PySem.W.emptyDict).push (PySem.W.instObj C s.heap.objs.size) } := by
  have e1 : (s.heap.push PySem.W.emptyDict).get? s.heap.objs.size = some PySem.W.emptyDict := Heap.get?_push_size s.heap rfl
  have e2 : ((s.heap.push PySem.W.emptyDict).push (PySem.W.instObj C s.heap.objs.size)).get? (s.heap.objs.size + 1) = some (PySem.W.instObj C s.heap.objs.size) := by
    have := Heap.get?_push_size (s.heap.push PySem.W.emptyDict) (o := PySem.W.instObj C s.heap.objs.size) rfl
    rwa [Heap.size_push] at this
  have e3 : (s.heap.push PySem.W.emptyDict).Ns s.heap.objs.size (fun _ => none) := ⟨PySem.W.emptyDict, #[], _, e1, rfl, (fun e he => absurd he (by simp)), fun _ => rfl⟩
  have I1 := I.laid (a := s.heap.objs.size) (o := .own (s.heap.objs.size + 1)) (h' := s.heap.push PySem.W.emptyDict) (t' := s.toks) (fun b u q => Heap.get?_push_of_some _ q) (Nat.le_refl _) ⟨_, e1⟩
  refine I1.laid (a := s.heap.objs.size + 1) (o := .ins C s.heap.objs.size []) (t' := s.toks) (fun b u q => Heap.get?_push_of_some _ q) (Nat.le_of_eq (Heap.size_push _ _)) ?_
  have ne : s.heap.objs.size ≠ s.heap.objs.size + 1 := Nat.ne_of_lt (Nat.lt_succ_self _)
  refine ⟨by rw [upd_ne ne, zaan], Nat.zero_le _, ne, e2, fun _ => none, (Heap.Ns1.of_empty e3).at fun o q => Heap.get?_push_of_some _ q, fun _ => True.intro, fun y hy => absurd rfl hy⟩
end
section
variable {X : Cx} {o e value : Expr} {f : Str} {pos pos' tpos : Pos} {ta tv : TE}
end
section
variable {X : Cx} {pins : List (Addr × Obj)} {σ : St} {H : Hp} {s : Shared} {A : Around} {E : Value → Shared → Prop} {Q : Value → Shared → Prop} {c : Value} {b : Bool}
inductive TyOf (K : PySem.W.Frag) (H : Hp) : V → Value → Prop where
  | non : TyOf K H .non (.type "NoneType")
  | bl (x : Bool) : TyOf K H (.bl x) (.type "bool")
  | int (i : Int) : TyOf K H (.int i) (.type "int")
  | str (x : Str) : TyOf K H (.str x) (.type "str")
  | flt (x : UInt64) : TyOf K H (.flt x) (.type "float")
  | lst {a : Addr} {xs : List V} (e : H a = some (.lst xs)) : TyOf K H (.ref a) (.type "list")
  | frz {a : Addr} {o : Obj} {xs : List V} (e : H a = some (.frz o (.lst xs))) : TyOf K H (.ref a) (.type "list")
  | tup {a : Addr} {xs : List V} (e : H a = some (.tup xs)) : TyOf K H (.ref a) (.type "tuple")
  | dK {a : Addr} {kvs : List (Key × V)} (e : H a = some (.dK kvs)) : TyOf K H (.ref a) (.type "dict")
  | dT {a : Addr} {kvs : List (List Key × V)} (e : H a = some (.dT kvs)) : TyOf K H (.ref a) (.type "dict")
  | ins {a C dx : Addr} {fs : List (Str × V)} (e : H a = some (.ins C dx fs)) (cl : Cls K C) (ha : PySem.W.findIn K (.ref C) "__class__" = some (some (.builtin "object.__class__")))
      (hn : PySem.W.specialIn K (.builtin "object.__class__") "__get__" = some (some (.builtin "getset_descriptor.__get__"))) (htk : PySem.W.takesIn K (.builtin "object.__class__") = some true)
      (hm : PySem.W.mroIn K C (.type "object") = some true) : TyOf K H (.ref a) (.ref C)
theorem isinst_ok {x : V} {u t : Value} (I : Inv X pins σ H s) (rx : RelV x u) (ty : TyOf X.K H x t) (e : PySem.W.kitOne X.K t c = some b) (h : ∀ tk, Q (.bool b) { s with toks := tk }) :
    wpAny (model X.prog X.w) A (call (.builtin "isinstance") [u, c]) Q E s := by
  cases ty with
  | non => cases (show u = Value.none from rx); exact PySem.W.kia_one PySem.W.kitx_none I.kIn True.intro e (fun z => nomatch z) h
  | bl y => cases (show u = Value.bool y from rx); exact PySem.W.kia_one PySem.W.kitx_bool I.kIn True.intro e (fun z => nomatch z) h
  | int i => obtain ⟨t, q⟩ := (show ∃ t, u = Value.int i t from rx); cases q; exact PySem.W.kia_one PySem.W.kitx_int I.kIn True.intro e (fun z => nomatch z) h
  | str y => obtain ⟨t, q⟩ := (show ∃ t, u = Value.str y t from rx); cases q; exact PySem.W.kia_one PySem.W.kitx_str I.kIn True.intro e (fun z => nomatch z) h
  | flt y => obtain ⟨t, q⟩ := (show ∃ t, u = Value.float y t from rx); cases q; exact PySem.W.kia_one PySem.W.kitx_float I.kIn True.intro e (fun z => nomatch z) h
  | @lst a xs ea =>
    cases (show u = Value.ref a from rx)
    obtain ⟨_, _, n, _, h1⟩ := (show ObjOk X.prog X.w H s.heap a (.lst xs) from I.hok a _ ea)
    exact PySem.W.kia_one PySem.W.kitx_list I.kIn ⟨_, h1, rfl⟩ e (fun z => nomatch z) h
  | @frz a ob xs ea =>
    cases (show u = Value.ref a from rx)
    obtain ⟨_, _, _, n, _, h1⟩ := (show ObjOk X.prog X.w H s.heap a (.frz ob (.lst xs)) from I.hok a _ ea)
    exact PySem.W.kia_one PySem.W.kitx_list I.kIn ⟨_, h1, rfl⟩ e (fun z => nomatch z) h
  | @tup a xs ea =>
    cases (show u = Value.ref a from rx)
    obtain ⟨_, _, _, p⟩ := (show ObjOk X.prog X.w H s.heap a (.tup xs) from I.hok a _ ea)
    obtain ⟨o, h1, h2, _⟩ := p
    exact PySem.W.kia_one PySem.W.kitx_tuple I.kIn ⟨o, h1, h2⟩ e (fun z => nomatch z) h
  | @dK a kvs ea =>
    cases (show u = Value.ref a from rx)
    obtain ⟨_, _, vs, _, p⟩ := (show ObjOk X.prog X.w H s.heap a (.dK kvs) from I.hok a _ ea)
    obtain ⟨o, es, ep, h1, h2, _⟩ := p
    exact PySem.W.kia_one PySem.W.kitx_dict I.kIn ⟨o, h1, h2.1⟩ e (fun z => nomatch z) h
  | @dT a kvs ea =>
    cases (show u = Value.ref a from rx)
    obtain ⟨_, _, xs, _, o, es, ep, h1, h2, _⟩ := (show ObjOk X.prog X.w H s.heap a (.dT kvs) from I.hok a _ ea)
    exact PySem.W.kia_one PySem.W.kitx_dict I.kIn ⟨o, h1, h2.1⟩ e (fun z => nomatch z) h
  | @ins a C dx fs ea cl ha hn htk hm =>
    cases (show u = Value.ref a from rx)
    obtain ⟨mA, O, _⟩ := ins_get I.hok ea
    obtain ⟨od, J, _⟩ := O.look
    exact PySem.W.kia_one (PySem.W.kitx_own (cl.get _) cl.hd ha hn htk hm) I.kIn J e (fun z => nomatch z) h
end
end L2
namespace L2
open PySem PySem.Spec PyProof.Rows
structure Room (k : Nat) (A : Around) : Prop where
  hd : A.handled = none
  dp : A.depth + 3 * k + 5 < recursionLimit
  un : A.units + 16 * k + 200 < cLine
theorem Room.mono {j k : Nat} {A : Around} (r : Room k A) (h : j ≤ k) : Room j A := ⟨r.hd, by have := r.dp; omega, by have := r.un; omega⟩
theorem Room.deeper {k : Nat} {A : Around} (r : Room (k + 1) A) (env : Env) : Room k (A.deeper env) :=
  ⟨r.hd, by have := r.dp; show A.depth + 1 + 3 * k + 5 < _; omega, by have := r.un; show A.units + 3 + 16 * k + 200 < _; omega⟩
theorem Room.in1 {k : Nat} {A : Around} (r : Room (k + 1) A) : Room k A.in1 :=
  ⟨r.hd, by have := r.dp; show A.depth + 3 * k + 5 < _; omega, by have := r.un; show A.units + 1 + 16 * k + 200 < _; omega⟩
theorem Room.depth {k : Nat} {A : Around} (r : Room k A) : A.depth < recursionLimit := by have := r.dp; omega
theorem Room.units {k : Nat} {A : Around} (r : Room k A) : A.units + 64 < cLine := by have := r.un; omega
def tNil : TA := fun _ H Q => Q [] H
def tCons (ta : TE) (tr : TA) : TA := fun σ H Q => ta σ H fun x H1 => tr σ H1 fun xs H2 => Q (x :: xs) H2
section
variable {X : Cx} {e : Expr} {es : List Expr} {te : TE} {t : TA} {pos : Pos}
theorem pa_nil : PA X [] tNil := fun _ _ _ _ H Q I h => Calls.spliced_nil ⟨[], H, I, .nil, h⟩
theorem zaao (ha : PE X e te) (hr : PA X es t) (hs : starEach (e :: es) X.env = (false, eval e X.env) :: starEach es X.env := by rfl) : PA X (e :: es) (tCons te t) := by
  intro pos pins s σ H Q I h
  rw [hs]
  show wpAny _ _ (spliced ((false, eval e X.env) :: backTo pos (starEach es X.env))) _ _ s
  refine Calls.spliced_cons (thn (ha pins s σ H _ I h) fun u s1 ⟨x, H1, I1, r1, q1⟩ => ?_)
  exact thn (hr pos pins s1 σ H1 _ I1 q1) fun us s2 ⟨xs, H2, I2, r2, q2⟩ => ⟨x :: xs, H2, I2, .cons r1 r2, q2⟩
def tTup (t : TA) : TE := fun σ H Q => t σ H fun xs H1 => xs.length ≤ sizeLine ∧ ∀ p, H1 p = none → Q (.ref p) (upd H1 p (.tup xs))
def tLst (t : TA) : TE := fun σ H Q => t σ H fun xs H1 => xs.length ≤ sizeLine ∧ ∀ p, H1 p = none → Q (.ref p) (upd H1 p (.lst xs))
theorem pe_tup {x1} (h : PA X es t) : PE X (.Tuple es x1 pos) (tTup t) := by
  intro pins s σ H Q I hq
  refine wpAny_Tuple_spliced (thn (h pos pins s σ H _ I hq) fun us s1 ⟨xs, H1, I1, r, z, q⟩ => ⟨by rw [← r.length]; exact z, ?_⟩)
  have hf : H1 s1.heap.objs.size = none := I1.hok.fresh (Nat.le_refl _)
  refine ⟨.ref s1.heap.objs.size, upd H1 s1.heap.objs.size (.tup xs), I1.laid (t' := s1.toks) (fun b u e => Heap.get?_push_of_some _ e) (Nat.le_refl _) ?_, rfl, q _ hf⟩
  exact ⟨z, us, r, ⟨_, Heap.get?_push_size _ rfl, rfl, _, rfl⟩⟩
theorem pe_lst (h : PA X es t) : PE X (.List es pos) (tLst t) := by
  intro pins s σ H Q I hq
  refine wpAny_List_spliced (thn (h pos pins s σ H _ I hq) fun us s1 ⟨xs, H1, I1, r, z, q⟩ => ⟨by rw [← r.length]; exact z, ?_⟩)
  have hf : H1 s1.heap.objs.size = none := I1.hok.fresh (Nat.le_refl _)
  refine ⟨.ref s1.heap.objs.size, upd H1 s1.heap.objs.size (.lst xs), I1.laid (t' := s1.toks) (fun b u e => Heap.get?_push_of_some _ e) (Nat.le_refl _) ?_, rfl, q _ hf⟩
  exact ⟨z, us, 0, r, Heap.get?_push_size _ rfl⟩
end
abbrev Sp := List V → Hp → VK → XK → Prop
abbrev CXT := List Env → Hp → Shared → XK → Value → Shared → Prop
structure Env0 (P : Program) (w : World) (K : PySem.W.Frag) (mg : Str → Option Value) (base : Heap) (A : Around) (outer : List Env) (s : Shared) (H : Hp) : Prop where
  frames : A.frames = some outer
  mod : Mod K mg base
  bs : ∀ b o, base.get? b = some o → s.heap.get? b = some o ∧ H b = none
  bsz : base.objs.size ≤ s.heap.objs.size
  funs : s.heap.FunFrames base outer
  frf : ∀ b ∈ frs outer, H b = none
  hok : HOk P w H s.heap
  bare : AllBare s.gens
def CE (outer : List Env) (P : Program) (w : World) (H : Hp) (s : Shared) (Q : VK) (u : Value) (s' : Shared) : Prop :=
  ∃ v H', s'.os = s.os ∧ AllBare s'.gens ∧ Un (frs outer) [] H H' s.heap s'.heap ∧ HOk P w H' s'.heap ∧ RelV v u ∧ Q v H'
def CR (CX : CXT) (outer : List Env) (P : Program) (w : World) (H : Hp) (s : Shared) (Q : VK) (E : XK) (r : Result) (s' : Shared) : Prop :=
  match r with
  | .ok (.ret u) => CE outer P w H s Q u s'
  | .ok _ => False
  | .error e => CX outer H s E e s'
structure FnOk (P : Program) (w : World) (K : PySem.W.Frag) (mg : Str → Option Value) (base : Heap) (CX : CXT) (k : Nat) (f : Addr) (fd : FuncData) (ps : List Str) (sp : Sp) : Prop where
  len : ∀ vs H Q E, sp vs H Q E → vs.length = ps.length
  run : ∀ (A : Around) (outer : List Env) (s : Shared) (H : Hp) (args : Args) (us : List Value) (vs : List V) (Q : VK) (E : XK), Room k A → Env0 P w K mg base A outer s H → BindsTo s fd args (ps.zip us) → Vals vs us → sp vs H Q E →
    codeAny (model P w) A (.call (.ref f) args) (CR CX outer P w H s Q E) s
theorem FnOk.mono {P : Program} {w : World} {K : PySem.W.Frag} {mg : Str → Option Value} {base : Heap} {CX : CXT} {j k : Nat} {f : Addr} {fd : FuncData} {ps : List Str} {sp : Sp} (F : FnOk P w K mg base CX j f fd ps sp) (h : j ≤ k) :
    FnOk P w K mg base CX k f fd ps sp := ⟨F.len, fun A outer s H args us vs Q E hr => F.run A outer s H args us vs Q E (hr.mono h)⟩
theorem FnOk.imp {P : Program} {w : World} {K : PySem.W.Frag} {mg : Str → Option Value} {base : Heap} {CX : CXT} {k : Nat} {f : Addr} {fd : FuncData} {ps : List Str} {sp sp' : Sp} (F : FnOk P w K mg base CX k f fd ps sp)
    (h : ∀ vs H Q E, sp' vs H Q E → sp vs H Q E) : FnOk P w K mg base CX k f fd ps sp' :=
  ⟨fun vs H Q E q => F.len vs H Q E (h _ _ _ _ q), fun A outer s H args us vs Q E hr he hb hv hs => F.run A outer s H args us vs Q E hr he hb hv (h _ _ _ _ hs)⟩
theorem Env0.in1 {P : Program} {w : World} {K : PySem.W.Frag} {mg : Str → Option Value} {base : Heap} {A : Around} {outer : List Env} {s : Shared} {H : Hp} (e : Env0 P w K mg base A outer s H) :
    Env0 P w K mg base A.in1 outer s H := ⟨e.frames, e.mod, e.bs, e.bsz, e.funs, e.frf, e.hok, e.bare⟩
section
variable {X : Cx} {pins : List (Addr × Obj)} {σ : St} {H : Hp} {s s' : Shared}
theorem Inv.env0 (I : Inv X pins σ H s) : Env0 X.prog X.w X.K X.mg X.base X.A X.stack s H :=
  ⟨I.ok.frames, I.ok.mod, I.bs, Nat.le_trans I.ok.bsz I.sz, I.stack, I.stkFree, I.hok, I.bare⟩
theorem Inv.after {Q : VK} {u : Value} (I : Inv X pins σ H s) (h : CE X.stack X.prog X.w H s Q u s') : EP X pins σ Q u s' := by
  obtain ⟨v, H', os, bare, un, hok, r, q⟩ := h
  obtain ⟨hh, g, d, t, os'⟩ := s'
  obtain rfl : os' = s.os := os
  exact ⟨v, H', I.call (h' := hh) (g' := g) (d' := d) (t' := t) (ch := []) un hok bare (fun b z => absurd z (by simp)), r, q⟩
end
def Binds (K : PySem.W.Frag) (fd : FuncData) (ps : List Str) (ds : List Value) : Prop :=
  ∀ (s : Shared) (us : List Value), K.In s.heap → (us ++ ds).length = ps.length → BindsTo s fd ⟨us, []⟩ (ps.zip (us ++ ds))
theorem Binds.all {K : PySem.W.Frag} {fd : FuncData} {ps : List Str} (h : ∀ us : List Value, us.length = ps.length → bindArgs fd ⟨us, []⟩ = pure (ps.zip us)) : Binds K fd ps [] := fun s us _ hl => by
  rw [List.append_nil] at hl ⊢
  exact .of_eq (h us hl)
section
variable {X : Cx} {CX : CXT} {k : Nat} {f C : Addr} {fd : FuncData} {ps : List Str} {sp : Sp} {dvs : List V} {ds : List Value} {E : XK} {x m : Str} {p pos apos : Pos} {e o : Expr} {es : List Expr} {ta : TE} {t : TA}
structure Mk (K : PySem.W.Frag) (C f : Addr) : Prop where
  makes : PySem.W.makesIn K C = true
  init : PySem.W.findIn K (.ref C) "__init__" = some (some (.ref f))
  fn : PySem.W.isFn K (.ref f) = true
  kp : PySem.W.keepIn K (.ref C) = true
end
section
variable {X : Cx} {CX : CXT} {k : Nat} {f C : Addr} {fd : FuncData} {ps ks : List Str} {sp : Sp} {E : XK} {x m : Str} {p pos apos kpos : Pos} {e o : Expr} {es : List Expr} {kws : List Keyword} {te ta : TE} {t tk : TA} {nm : Option Str}
structure KBinds (K : PySem.W.Frag) (fd : FuncData) (ps ks : List Str) (g : List Value → List Value → List Value) (gV : List V → List V → List V) : Prop where
  to : ∀ (s : Shared) (us ws : List Value), K.In s.heap → (g us ws).length = ps.length → BindsTo s fd ⟨us, ks.zip ws⟩ (ps.zip (g us ws))
  rel : ∀ {vs : List V} {us : List Value} {zs : List V} {ws : List Value}, Vals vs us → Vals zs ws → Vals (gV vs zs) (g us ws)
variable {g : List Value → List Value → List Value} {gV : List V → List V → List V}
end
structure FnScope (N P : List Str) (sc : Scope) : Prop where
  kind : sc.kind = .function
  co : sc.isCoroutine = false
  gen : sc.isGenerator = false
  nd : N.Nodup
  pre : N.take P.length = P
  par : ∀ x ∈ P, sc.names.lookup x = some .local ∨ sc.names.lookup x = some .cell
  nofree : ∀ y ∈ sc.names, y.2 ≠ .free
theorem zadm {kindOf : Str → Option NameKind} {x : Str} : ∀ {binds : List (Str × Value)} {m : Str → Option Value}, (∀ v, (x, v) ∉ binds) → bindL kindOf binds m x = m x
  | [], _, _ => rfl
  | (n, v) :: r, m, h => by
    unfold bindL
    rw [zadm fun w hw => h w (List.mem_cons_of_mem _ hw)]
    split
    · have : x ≠ n := by rintro rfl; exact h v List.mem_cons_self
      simp [this]
    · rfl
theorem zac7 {kindOf : Str → Option NameKind} {x : Str} : ∀ {binds : List (Str × Value)} {m : Str → Option Value}, (∀ v, (x, v) ∉ binds) → bindC kindOf binds m x = m x
  | [], _, _ => rfl
  | (n, v) :: r, m, h => by
    unfold bindC
    rw [zac7 fun w hw => h w (List.mem_cons_of_mem _ hw)]
    split
    · rfl
    · have : x ≠ n := by rintro rfl; exact h v List.mem_cons_self
      simp [this]
theorem zadk {kindOf : Str → Option NameKind} {x : Str} {v : Value} : ∀ {P : List Str} {vs : List Value} {i : Nat} {m : Str → Option Value}, P.Nodup → P[i]? = some x → vs[i]? = some v → kindOf x = some .local →
    bindL kindOf (P.zip vs) m x = some v
  | [], _, _, _, _, h, _, _ => by simp at h
  | _ :: _, [], _, _, _, _, h, _ => by simp at h
  | p :: P, w :: vs, 0, m, nd, h1, h2, hk => by
    simp at h1 h2; subst h1; subst h2
    show bindL kindOf ((p, w) :: P.zip vs) m p = _
    unfold bindL
    rw [zadm fun v hv => (List.nodup_cons.mp nd).1 (List.of_mem_zip hv).1, if_pos hk]
    simp
  | p :: P, w :: vs, i + 1, m, nd, h1, h2, hk => by
    show bindL kindOf ((p, w) :: P.zip vs) m x = _
    unfold bindL
    exact zadk (i := i) (List.nodup_cons.mp nd).2 (by simpa using h1) (by simpa using h2) hk
theorem zacz {kindOf : Str → Option NameKind} {x : Str} {v : Value} : ∀ {P : List Str} {vs : List Value} {i : Nat} {m : Str → Option Value}, P.Nodup → P[i]? = some x → vs[i]? = some v → kindOf x ≠ some .local →
    bindC kindOf (P.zip vs) m x = some v
  | [], _, _, _, _, h, _, _ => by simp at h
  | _ :: _, [], _, _, _, _, h, _ => by simp at h
  | p :: P, w :: vs, 0, m, nd, h1, h2, hk => by
    simp at h1 h2; subst h1; subst h2
    show bindC kindOf ((p, w) :: P.zip vs) m p = _
    unfold bindC
    rw [zac7 fun v hv => (List.nodup_cons.mp nd).1 (List.of_mem_zip hv).1, if_neg hk]
    simp
  | p :: P, w :: vs, i + 1, m, nd, h1, h2, hk => by
    show bindC kindOf ((p, w) :: P.zip vs) m x = _
    unfold bindC
    exact zacz (i := i) (List.nodup_cons.mp nd).2 (by simpa using h1) (by simpa using h2) hk
def start (N : List Str) (vs : List V) : St := vs.map some ++ List.replicate (N.length - vs.length) none
def cxOf (CX : CXT) (P : Program) (w : World) (K : PySem.W.Frag) (mg : Str → Option Value) (base : Heap) (N : List Str) (qual : Str) (scope : Scope) (f : Addr) (cd : Value) (A : Around) (outer : List Env) (s : Shared) (H : Hp) (E : XK) : Cx where
  prog := P
  w := w
  K := K
  mg := mg
  base := base
  A := A.deeper (envOfC qual scope s.heap.objs.size f cd)
  N := N
  s₀ := s
  H₀ := H
  env := envOfC qual scope s.heap.objs.size f cd
  outer := outer
  stack := envOfC qual scope s.heap.objs.size f cd :: outer
  ex := []
  calm := true
  fn := fun _ => true
  pn := []
  xe := fun e s' => wpAny (model P w) (A.deeper (envOfC qual scope s.heap.objs.size f cd)) (leaving (envOfC qual scope s.heap.objs.size f cd) e) (fun _ s'' => CX outer H s E e s'') (fun e' s'' => CX outer H s E e' s'') s'
theorem zad6 {sc : Scope} {n : Nat} {x : Str} (h : sc.names.lookup x = some .cell) : ∃ c, (cellsFrom n sc.names []).lookup x = some c := by
  have q := PySem.W.cellsFrom_some sc.names n [] (.inl h)
  exact Option.isSome_iff_exists.mp q
theorem zaby {CX : CXT} {P : Program} {w : World} {K : PySem.W.Frag} {mg : Str → Option Value} {base : Heap} {N ps : List Str} {qual : Str} {scope : Scope} {f : Addr} {cd : Value} {A : Around} {outer : List Env} {s s1 : Shared} {H : Hp} {E : XK} {us : List Value} {vs : List V}
    (S : FnScope N ps scope) (hd : A.handled = none) (e0 : Env0 P w K mg base A outer s H) (hl : vs.length = ps.length) (r : Vals vs us)
    (x : InCallC s s.heap.objs.size (bindL (envOfC qual scope s.heap.objs.size f cd).kindOf (ps.zip us) fun _ => none) (cellsFrom (s.heap.objs.size + 1) scope.names []) (bindC (envOfC qual scope s.heap.objs.size f cd).kindOf (ps.zip us) fun _ => none) s1) :
    Inv (cxOf CX P w K mg base N qual scope f cd A outer s H E) [] (start N vs) H s1 := by
  have hpl : ps.length ≤ N.length := by have := congrArg List.length S.pre; rw [List.length_take] at this; omega
  obtain ⟨h1, tk, rfl, hk⟩ := x.done
  have noA : ∀ b : Addr, b ∉ (cxOf CX P w K mg base N qual scope f cd A outer s H E).ex := fun b z => absurd (show b ∈ ([] : List Addr) from z) (by simp)
  refine ⟨⟨e0.mod, S.kind, rfl, rfl, Nat.le_refl _, fun y z c h1 h2 => ?_, fun y hy => ?_, fun y c _ h => ?_, fun _ => hd, Around.frames_deeper e0.frames, .inr ⟨rfl, rfl⟩, fun b z => absurd z (noA b), e0.bs, e0.bsz, fun b _ _ => noA b, fun b z => absurd z (noA b), e0.funs, e0.frf⟩,
    rfl, e0.bare, Un.kept hk, ⟨_, x.toInCall.ns, fun i y v h1 h2 h3 => ?_⟩, fun y c h => ⟨_, x.cell y c h⟩, e0.hok.fresh (Nat.le_refl _), fun y c h => ?_, fun p hp => absurd (show p ∈ ([] : List (Addr × Obj)) from hp) (by simp), e0.hok.kept hk, ?_⟩
  · exact name_of_addr x.apart (PySem.mem_of_lookup h1) (PySem.mem_of_lookup h2)
  · have hy : scope.names.lookup y = some .cell ∨ scope.names.lookup y = some .free := hy
    rcases hy with hy | hy
    · exact zad6 hy
    · exact absurd rfl (S.nofree _ (PySem.mem_of_lookup hy))
  · exact Nat.le_of_lt (x.above y c (PySem.mem_of_lookup h))
  · have hi : i < vs.length := by
      unfold start at h2
      by_cases hi : i < vs.length
      · exact hi
      · rw [List.getElem?_append_right (by simpa using hi)] at h2
        rw [List.getElem?_replicate] at h2
        split at h2 <;> cases h2
    have ha : vs[i]? = some v := by
      unfold start at h2
      rw [List.getElem?_append_left (by simpa using hi), List.getElem?_map] at h2
      cases e : vs[i]? with
      | none => rw [e] at h2; cases h2
      | some a => rw [e] at h2; cases h2; rfl
    obtain ⟨u, hu, rv⟩ := r.get ha
    have hp : ps[i]? = some y := by
      rw [← S.pre, List.getElem?_take_of_lt (by omega)]; exact h1
    have ndP : ps.Nodup := by rw [← S.pre]; exact S.nd.sublist (List.take_sublist _ _)
    refine ⟨u, rv, ?_⟩
    rcases S.par y (List.mem_of_getElem? hp) with k | k
    · exact .inl ⟨k, zadk ndP hp hu k⟩
    · obtain ⟨c, e⟩ := zad6 (n := s.heap.objs.size + 1) k
      refine .inr ⟨.inl k, c, e, ?_⟩
      have q := x.cell y c e
      rw [zacz ndP hp hu (by show scope.names.lookup y ≠ _; rw [k]; decide)] at q
      exact q
  · exact e0.hok.fresh (Nat.le_of_lt (x.above y c (PySem.mem_of_lookup h)))
  · unfold start
    show _ = N.length
    rw [List.length_append, List.length_map, List.length_replicate]
    omega
theorem fn_of {CX : CXT} {P : Program} {w : World} {K : PySem.W.Frag} {mg : Str → Option Value} {base : Heap} {k : Nat} {f : Addr} {name qual : Str} {params : Arguments} {body : List Stmt} {scope : Scope} {dV kV doc pm cdv ct oc : Value} {an od : Option Addr}
    {osl : Array (Option Value)} {N ps : List Str} {sp : Sp} (lk : K.lookup f = some ⟨oc, od, .func (PySem.W.fnOf name qual params body scope dV kV doc pm an cdv ct), osl⟩) (hcd : PySem.W.codeIn K cdv qual = true) (S : FnScope N ps scope)
    (len : ∀ vs H Q E, sp vs H Q E → vs.length = ps.length)
    (hbody : ∀ (A : Around) (outer : List Env) (s : Shared) (H : Hp) (vs : List V) (Q : VK) (E : XK), Room k (A.deeper (envOfC qual scope s.heap.objs.size f cdv)) → sp vs H Q E →
      ∃ t, PSs (cxOf CX P w K mg base N qual scope f cdv A outer s H E) body t ∧ t { nx := fun _ H' => Q .non H', rt := Q } (start N vs) H) :
    FnOk P w K mg base CX (k + 1) f (PySem.W.fnOf name qual params body scope dV kV doc pm an cdv ct) ps sp := by
  refine ⟨len, fun A outer s H args us vs Q E hr e0 hb r hsp => ?_⟩
  have hl := len _ _ _ _ hsp
  have KX : K.In s.heap := e0.mod.kin.keeps fun b o e => (e0.bs b o e).1
  have lim : s.heap.NoLimit := e0.mod.nolimit.keeps fun b o e => (e0.bs b o e).1
  have hkind : ∀ y ∈ ps.zip us, scope.names.lookup y.1 = some .local ∨ (scope.names.lookup y.1 = some .cell ∧ ((cellsFrom (s.heap.objs.size + 1) scope.names []).lookup y.1).isSome = true) := fun ⟨n, v⟩ hy => by
    rcases S.par n (List.of_mem_zip hy).1 with q | q
    · exact .inl q
    · exact .inr ⟨q, PySem.W.cellsFrom_some _ _ _ (.inl q)⟩
  refine codeAny_call_function hr.depth (KX _ _ lk) rfl S.co S.gen rfl (PySem.W.codeRec_of KX hcd) (hb _ _ _ _ ?_)
  refine wpAny_newFunctionEnv_cells S.kind hkind fun env he s1 x => ?_
  subst he
  refine ⟨lim.keeps x.toInCall.keep, codeAny_func ?_⟩
  obtain ⟨t, ht, hq⟩ := hbody A outer s H vs Q E (hr.deeper _) hsp
  have I : Inv (cxOf CX P w K mg base N qual scope f cdv A outer s H E) [] (start N vs) H s1 := zaby S hr.hd e0 hl r x
  refine wpAny_mono (ht [] s1 (start N vs) H _ I hq) (fun fl s' hs => ?_) fun e s' hs => hs
  have fin : ∀ {σ' : St} {H' : Hp} {v : V} {u : Value}, Inv (cxOf CX P w K mg base N qual scope f cdv A outer s H E) [] σ' H' s' → RelV v u → Q v H' → CE outer P w H s Q u s' :=
    fun {σ' H' v u} J rv q => ⟨v, H', J.os, J.bare, J.base, J.hok, rv, q⟩
  cases fl with
  | ret u =>
    obtain ⟨v, σ', H', J, rv, q⟩ := hs
    exact fin J rv q
  | next =>
    obtain ⟨σ', H', J, q⟩ := hs
    exact fin (v := V.non) (u := Value.none) J rfl q
  | brk =>
    obtain ⟨_, _, _, q⟩ := hs
    exact False.elim q
  | cont =>
    obtain ⟨_, _, _, q⟩ := hs
    exact False.elim q
end L2
namespace L2
open PySem PySem.Spec PyProof.Rows
section
variable {X : Cx} {x : Str} {p pos : Pos} {e : Expr} {es : List Expr} {t : TA} {id T : String} {r : List V → Hp → VK → Prop}
def tCB (r : List V → Hp → VK → Prop) (t : TA) : TE := fun σ H Q => t σ H fun vs H1 => r vs H1 Q
theorem zacu (hc : CallR X (.builtin id) r) (hg : Gl X x) (hm : X.mg x = none) (hv : bootBuiltins x = some (.builtin id)) (ha : PA X (e :: es) t) (hn : x ≠ "__name__" := by decide) (hdb : (x == ("__debug__" : Str)) = false := by decide)
    (he : starEach (e :: es) X.env = (false, eval e X.env) :: starEach es X.env := by rfl) (hpl : (backTo pos (starEach es X.env)).any (·.1) = false := by rfl) : PE X (.Call (.Name x p) (e :: es) [] pos) (tCB r t) := by
  intro pins s σ H Q I h
  refine wpAny_Call_Name_kw (ld_blt I hg hm hv ?_ hn hdb)
  exact PyProof.Rows.callWith_builtin1 (thn (ha pos pins s σ H _ I h) fun us s1 ⟨vs, H1, I1, r1, q1⟩ => hc pins s1 σ H1 vs us Q I1 r1 q1) he hpl
theorem pe_callTy (hc : CallR X (.type T) r) (hg : Gl X x) (hm : X.mg x = none) (hv : bootBuiltins x = some (.type T)) (ha : PA X (e :: es) t) (hn : x ≠ "__name__" := by decide) (hdb : (x == ("__debug__" : Str)) = false := by decide)
    (he : starEach (e :: es) X.env = (false, eval e X.env) :: starEach es X.env := by rfl) (hpl : (backTo pos (starEach es X.env)).any (·.1) = false := by rfl) : PE X (.Call (.Name x p) (e :: es) [] pos) (tCB r t) := by
  intro pins s σ H Q I h
  refine wpAny_Call_Name_kw (ld_blt I hg hm hv ?_ hn hdb)
  exact PyProof.Rows.callWith_type1 (thn (ha pos pins s σ H _ I h) fun us s1 ⟨vs, H1, I1, r1, q1⟩ => hc pins s1 σ H1 vs us Q I1 r1 q1) he hpl
end
end L2
namespace HT
open PySem PyProof.Rows
def lexLt : List Int → List Int → Bool
  | [], [] => false
  | [], _ :: _ => true
  | _ :: _, [] => false
  | x :: xs, y :: ys => if x = y then lexLt xs ys else decide (x < y)
section
open PySem.SeqAt
open PySem.AutoSeq1 (wpAny_loadPart')
open PySem.MeetsSeq PySem.MeetsSeq2 PySem.MeetsSeq3
end
section
variable {prog : Program} {w : World} {A : Around} {E : Value → Shared → Prop} {s : Shared}
theorem cat_tup {t b : Addr} {vs ws : List Value} {Q : Value → Shared → Prop} (ht : IsTup s.heap t vs.toArray) (hb : IsTup s.heap b ws.toArray) (hv : vs ≠ [])
    (h1 : ws = [] → Q (.ref t) s) (h2 : ws ≠ [] → Q (.ref s.heap.objs.size) { s with heap := s.heap.push { cls := .type "tuple", data := .seq (vs ++ ws).toArray } })
    (hsz : vs.length + ws.length ≤ sizeLine) : wpAny (model prog w) A (binaryOp .Add (.ref t) (.ref b)) Q E s := by
  obtain ⟨⟨cls, dd, data, sl⟩, ho, hc, n, hd⟩ := id ht
  obtain ⟨⟨cls2, dd2, data2, sl2⟩, ho2, hc2, n2, hd2⟩ := id hb
  simp only at hc hd hc2 hd2
  subst hc hd hc2 hd2
  have e : vs.toArray ++ ws.toArray = (vs ++ ws).toArray := by simp
  by_cases hw : ws = []
  · exact concat_meets ⟨_, ho, rfl⟩ ⟨_, ho2, rfl⟩ noFill_tuple_add seq_tuple_add PySem.F.slot_tuple_add PySem.F.entry_tuple_add (PySem.F.args_tuple_add_2 _ _)
      (tuple_addW1 t b vs.toArray ws.toArray n n2 dd dd2 sl sl2 (by simpa using hv) (by simp [hw])) ⟨ho, ho2, h1 hw⟩
  · refine concat_meets ⟨_, ho, rfl⟩ ⟨_, ho2, rfl⟩ noFill_tuple_add seq_tuple_add PySem.F.slot_tuple_add PySem.F.entry_tuple_add (PySem.F.args_tuple_add_2 _ _)
      (tuple_addW2 t b vs.toArray ws.toArray n n2 dd dd2 sl sl2 (by simpa using hv) (by simpa using hw) (by rw [List.size_toArray, List.size_toArray]; exact hsz)) ⟨ho, ho2, ?_⟩
    rw [e]
    exact h2 hw
def sIx (n d : Nat) : Option Int → Nat
  | none => d
  | some v => if v < 0 then (v + (n : Int)).toNat else min v.toNat n
theorem sIx_nat (n d k : Nat) : sIx n d (some (k : Int)) = min k n := by
  show (if (k : Int) < 0 then ((k : Int) + (n : Int)).toNat else min (k : Int).toNat n) = min k n
  rw [if_neg (by omega), Int.toNat_natCast]
theorem sIx_le (n d : Nat) (hd : d ≤ n) (o : Option Int) : sIx n d o ≤ n := by
  cases o with
  | none => exact hd
  | some v =>
    show (if v < 0 then (v + (n : Int)).toNat else min v.toNat n) ≤ n
    by_cases hv : v < 0
    · rw [if_pos hv]; omega
    · rw [if_neg hv]; exact Nat.min_le_right _ _
theorem clip_eq (v : Int) (n d : Nat) : (if v < 0 then max (v + (n : Int)) 0 else min v (n : Int)) = ((sIx n d (some v) : Nat) : Int) := by
  show (if v < 0 then max (v + (n : Int)) 0 else min v (n : Int)) = (((if v < 0 then (v + (n : Int)).toNat else min v.toNat n) : Nat) : Int)
  by_cases hv : v < 0
  · simp only [if_pos hv]; omega
  · simp only [if_neg hv]; omega
theorem zad7 (lo hi : Option Int) (n : Nat) : Builtin.Slice.sliceAdjust lo hi 1 (n : Int) = (((sIx n 0 lo : Nat) : Int), ((sIx n n hi : Nat) : Int)) := by
  have h1 : ¬ ((1 : Int) < 0) := by omega
  unfold Builtin.Slice.sliceAdjust
  simp only [h1, if_false]
  refine Prod.ext ?_ ?_
  · cases lo with
    | none => rfl
    | some v => exact clip_eq v n 0
  · cases hi with
    | none => rfl
    | some v => exact clip_eq v n n
theorem zaed (i j : Nat) : Builtin.Slice.slicePlaces (i : Int) (j : Int) 1 = j - i := by
  unfold Builtin.Slice.slicePlaces
  have h1 : (1 : Int) > 0 := by omega
  simp only [h1, if_true, Int.ediv_one]
  split <;> omega
theorem zacb {v : Value} {o : Option Int} {Q : Option Int → Shared → Prop} (p : IsPart v o) (h : Q o s) : wpAny (model prog w) A (Builtin.Slice.slicePartIndex v) Q E s := by
  cases p with
  | none => exact slicePart_none h
  | int i t => exact slicePart_int h
theorem zabh {sl : Addr} {vl vu : Value} {lo hi : Option Int} {n : Nat} {Q : Int × Int × Nat → Shared → Prop} (hs : s.heap.IsSliceOf sl vl vu .none) (pl : IsPart vl lo) (pu : IsPart vu hi)
    (h : Q (((sIx n 0 lo : Nat) : Int), 1, sIx n n hi - sIx n 0 lo) s) : wpAny (model prog w) A (Builtin.Slice.sliceApplied (.ref sl) (pure (n : Int))) Q E s := by
  obtain ⟨os, hos, hcs, hds⟩ := id hs
  unfold Builtin.Slice.sliceApplied Builtin.Slice.sliceFields
  refine wpAny_bind (wpAny_bind (wpAny_field hos hds (x := vl) rfl (wpAny_bind (wpAny_field hos hds (x := vu) rfl (wpAny_bind (wpAny_field hos hds (x := .none) rfl (wpAny_pure ?_)))))))
  refine wpAny_bind (slicePart_none ?_)
  show wpAny _ _ (if ((1 : Int) == 0) = true then _ else _) _ _ s
  rw [if_neg (by decide)]
  refine wpAny_bind (zacb pl (wpAny_bind (zacb pu (wpAny_bind (wpAny_pure ?_)))))
  show wpAny _ _ (match Builtin.Slice.sliceAdjust lo hi 1 (n : Int) with | (lo, hi) => pure (lo, (1 : Int), Builtin.Slice.slicePlaces lo hi 1)) _ _ s
  rw [zad7 lo hi n]
  show wpAny _ _ (pure (((sIx n 0 lo : Nat) : Int), (1 : Int), Builtin.Slice.slicePlaces ((sIx n 0 lo : Nat) : Int) ((sIx n n hi : Nat) : Int) 1)) _ _ s
  rw [zaed]
  exact wpAny_pure h
theorem pick_gen (xs : Array Value) (i k : Nat) : ((List.range k).filterMap fun (m : Nat) => xs[((i : Int) + (m : Int) * 1).toNat]?).toArray = ((xs.toList.drop i).take k).toArray := by
  have e : (fun (m : Nat) => xs[((i : Int) + (m : Int) * 1).toNat]?) = fun m => xs[i + m]? := by
    funext m
    have : ((i : Int) + (m : Int) * 1).toNat = i + m := by omega
    rw [this]
  rw [e]
  have := pick_run xs i k
  rw [List.filterMap_map] at this
  have e2 : ((fun x => xs[x]?) ∘ fun x => i + x) = fun m => xs[i + m]? := rfl
  rw [e2] at this
  rw [this]
theorem getItem_tuple_cut {t sl : Addr} {items : Array Value} {vl vu : Value} {lo hi : Option Int} {Q : Value → Shared → Prop} (ht : IsTup s.heap t items) (hs : s.heap.IsSliceOf sl vl vu .none) (pl : IsPart vl lo) (pu : IsPart vu hi)
    (hw : ¬ (sIx items.size 0 lo = 0 ∧ sIx items.size items.size hi = items.size))
    (h : Q (.ref s.heap.objs.size) { s with heap := s.heap.push { cls := .type "tuple", data := .seq ((items.toList.drop (sIx items.size 0 lo)).take (sIx items.size items.size hi - sIx items.size 0 lo)).toArray } })
    (hsz : items.size ≤ sizeLine) : wpAny (model prog w) A (getItem (.ref t) (.ref sl)) Q E s := by
  have htake : sizeOk (.seq ((items.toList.drop (sIx items.size 0 lo)).take (sIx items.size items.size hi - sIx items.size 0 lo)).toArray) := by
    show ((items.toList.drop (sIx items.size 0 lo)).take (sIx items.size items.size hi - sIx items.size 0 lo)).toArray.size ≤ sizeLine
    rw [List.size_toArray, List.length_take, List.length_drop, Array.length_toList]
    omega
  have hj : sIx items.size items.size hi ≤ items.size := sIx_le _ _ (Nat.le_refl _) hi
  obtain ⟨os, hos, hcs, hds⟩ := id hs
  have hTs : s.TypeIs (.ref sl) "slice" := ⟨os, hos, hcs⟩
  unfold getItem
  try with_reducible refine wpAny_holding ?_
  first | refine wpAny_bind (wpAny_pure ?_) | skip
  refine wpAny_bind (wpAny_sequenceKey ht.typeIs (by decide) ?_)
  refine wpAny_bind (wpAny_callSpecial?_slot (name := Str.ofString "__getitem__") ht.typeIs PyProof.Rows.slot_tuple_getitem
    (wpAny_call_entry PyProof.Rows.slot_tuple_getitem ht.typeIs entry_tuple_getitem ?_ (args_tuple_getitem _ _)))
  show wpAny _ _ (Builtin.Tuple.tupleItemsOf (.ref t) >>= _) _ _ s
  refine wpAny_bind (tupleItemsOf_ ht ?_)
  refine wpAny_bind (wpAny_typeOf hTs ?_)
  rw [if_pos (by decide)]
  refine wpAny_bind (zabh hs pl pu ?_)
  have hno : ¬ ((((sIx items.size 0 lo : Nat) : Int) == 0 && (1 : Int) == 1 && (sIx items.size items.size hi - sIx items.size 0 lo) == items.size) = true) := by
    intro q
    rw [Bool.and_eq_true, Bool.and_eq_true] at q
    have q1 : ((sIx items.size 0 lo : Nat) : Int) = 0 := eq_of_beq q.1.1
    have q2 : sIx items.size items.size hi - sIx items.size 0 lo = items.size := eq_of_beq q.2
    exact hw ⟨by omega, by omega⟩
  show wpAny _ _ (if (((sIx items.size 0 lo : Nat) : Int) == 0 && (1 : Int) == 1 && (sIx items.size items.size hi - sIx items.size 0 lo) == items.size) = true then _ else _) _ _ s
  rw [if_neg hno, pick_gen]
  first
    | exact wpAny_bind (m := Builtin.Tuple.tupleExact _) (wpAny_newObj_type (wpAny_pure ⟨_, rfl, wpAny_pure h⟩) htake)
    | exact wpAny_bind (m := Builtin.Tuple.tupleExact _) (wpAny_newObj_type (wpAny_bind (wpAny_pure (wpAny_pure ⟨_, rfl, wpAny_pure h⟩))) htake)
    | exact wpAny_bind (wpAny_bind (m := Builtin.Tuple.tupleExact _) (wpAny_newObj_type (wpAny_pure (wpAny_pure ⟨_, rfl, wpAny_pure h⟩)) htake))
    | exact wpAny_bind (wpAny_bind (m := Builtin.Tuple.tupleExact _) (wpAny_newObj_type (wpAny_pure ⟨_, rfl, wpAny_pure h⟩) htake))
end
end HT
namespace L2
open PySem PySem.Spec PyProof.Rows
abbrev TO := St → Hp → (Option Int → Hp → Prop) → Prop
def PO (X : Cx) (e : Option Expr) (t : TO) : Prop :=
  ∀ (pins : List (Addr × Obj)) (s : Shared) (σ : St) (H : Hp) (Q : Option Int → Hp → Prop), Inv X pins σ H s → t σ H Q →
    wpAny (model X.prog X.w) X.A (evalPart e X.env) (fun u s' => ∃ o H', Inv X pins σ H' s' ∧ IsPart u o ∧ Q o H') X.xe s
def tNoPart : TO := fun _ H Q => Q none H
def tPart (t : TE) : TO := fun σ H Q => t σ H fun x H1 => ∃ i, x = .int i ∧ Q (some i) H1
section
variable {X : Cx} {e : Expr} {te : TE} {lo hi : Option Expr} {tl th : TO} {pos p2 : Pos}
theorem zadh : PO X none tNoPart := by
  intro pins s σ H Q I h
  rw [evalPart_none]
  exact wpAny_pure ⟨none, H, I, .none, h⟩
theorem zadz (h : PE X e te) : PO X (some e) (tPart te) := by
  intro pins s σ H Q I hw
  rw [evalPart_some]
  refine thn (h pins s σ H _ I hw) fun u s1 ⟨x, H1, I1, r1, q1⟩ => ?_
  obtain ⟨i, rfl, q⟩ := q1
  obtain ⟨t, rfl⟩ := r1
  exact ⟨some i, H1, I1, .int i t, q⟩
def SlR (X : Cx) (r : V → Option Int → Option Int → Hp → VK → Prop) : Prop :=
  ∀ (pins : List (Addr × Obj)) (s : Shared) (σ : St) (H : Hp) (x : V) (v vl vu : Value) (lo hi : Option Int) (sl : Addr) (Q : VK), Inv X pins σ H s → RelV x v → s.heap.IsSliceOf sl vl vu .none → IsPart vl lo → IsPart vu hi → r x lo hi H Q →
    ∃ T id, typeLookup (.type T) "__getitem__" = pure (some (.builtin id)) ∧ s.TypeIs v T ∧ wpAny (model X.prog X.w) X.A (getItem v (.ref sl)) (EP X pins σ Q) X.xe s
theorem SlR.or {r r' : V → Option Int → Option Int → Hp → VK → Prop} (h : SlR X r) (h' : SlR X r') : SlR X (fun x lo hi H Q => r x lo hi H Q ∨ r' x lo hi H Q) := by
  intro pins s σ H x v vl vu lo hi sl Q I rx hs pl pu q
  rcases q with q | q
  · exact h pins s σ H x v vl vu lo hi sl Q I rx hs pl pu q
  · exact h' pins s σ H x v vl vu lo hi sl Q I rx hs pl pu q
def tSl (r : V → Option Int → Option Int → Hp → VK → Prop) (te : TE) (tl th : TO) : TE := fun σ H Q => te σ H fun x H1 => tl σ H1 fun l H2 => th σ H2 fun u H3 => r x l u H3 Q
theorem zaeg {r : V → Option Int → Option Int → Hp → VK → Prop} (hr : SlR X r) (he : PE X e te) (hl : PO X lo tl) (hu : PO X hi th) : PE X (.Subscript e (.Slice lo hi none p2) pos) (tSl r te tl th) := by
  intro pins s σ H Q I h
  refine Subscript_ (thn (he pins s σ H _ I h) fun v s1 ⟨x, H1, I1, r1, q1⟩ => ?_)
  refine wpAny_Slice (thn (hl pins s1 σ H1 _ I1 q1) fun vl s2 ⟨l, H2, I2, pl, q2⟩ => thn (hu pins s2 σ H2 _ I2 q2) fun vu s3 ⟨u, H3, I3, pu, q3⟩ => ?_)
  rw [evalPart_none]
  refine wpAny_pure ?_
  have I4 : Inv X pins σ H3 { s3 with heap := s3.heap.push { cls := .type "slice", data := .fields #[vl, vu, .none] } } := I3.kept (t' := s3.toks) fun b ob q => Heap.get?_push_of_some _ q
  obtain ⟨T, id, hT, ht, hg⟩ := hr pins { s3 with heap := s3.heap.push { cls := .type "slice", data := .fields #[vl, vu, .none] } } σ H3 x v vl vu l u s3.heap.objs.size Q I4 r1 (Heap.IsSliceOf.new ..) pl pu q3
  show wpAny (model X.prog X.w) X.A (subscriptTail e (.Slice lo hi none p2) v (.ref s3.heap.objs.size)) (EP X pins σ Q) X.xe { s3 with heap := s3.heap.push { cls := .type "slice", data := .fields #[vl, vu, .none] } }
  exact tail_any (ops := [.ref s3.heap.objs.size, v]) ht hT hg (by with_unfolding_all rfl)
def cutV (xs : List V) (lo hi : Option Int) : List V := (xs.drop (HT.sIx xs.length 0 lo)).take (HT.sIx xs.length xs.length hi - HT.sIx xs.length 0 lo)
theorem zabq (xs : List V) (lo hi : Option Int) : (cutV xs lo hi).length ≤ xs.length := by
  unfold cutV
  rw [List.length_take, List.length_drop]
  omega
def rSlT (K : PySem.W.Frag) : V → Option Int → Option Int → Hp → VK → Prop := fun x lo hi H Q => ∃ a xs, x = .ref a ∧ SqT K H a xs ∧
  ¬ (HT.sIx xs.length 0 lo = 0 ∧ HT.sIx xs.length xs.length hi = xs.length) ∧ ∀ p, H p = none → Q (.ref p) (upd H p (.tup (cutV xs lo hi)))
theorem sl_tup : SlR X (rSlT X.K) := by
  intro pins s σ H x v vl vu lo hi sl Q I rx hs pl pu h
  obtain ⟨a, xs, rfl, hx, hw, q⟩ := h
  cases rx
  obtain ⟨its, r, ht, hz⟩ := I.tuple hx
  have hlen : its.toArray.size = xs.length := by rw [List.size_toArray]; exact r.length.symm
  refine ⟨"tuple", _, PyProof.Rows.slot_tuple_getitem.lookup, ht.typeIs, ?_⟩
  refine HT.getItem_tuple_cut ht hs pl pu (by rw [hlen]; exact hw) ?_ (by rw [hlen]; exact hz)
  rw [hlen]
  refine ⟨.ref s.heap.objs.size, _, I.laid (t' := s.toks) (o := .tup (cutV xs lo hi)) (fun b ob q => Heap.get?_push_of_some _ q) (Nat.le_refl _) ?_, rfl, q _ (I.hok.fresh (Nat.le_refl _))⟩
  exact ⟨Nat.le_trans (zabq xs lo hi) hz, _, (r.drop (HT.sIx xs.length 0 lo)).take (HT.sIx xs.length xs.length hi - HT.sIx xs.length 0 lo), IsTup.new _ _⟩
def rCatT (K : PySem.W.Frag) : R2 := fun x y H Q => ∃ a b xs ys, x = .ref a ∧ y = .ref b ∧ SqT K H a xs ∧ SqT K H b ys ∧ xs ≠ [] ∧ xs.length + ys.length ≤ sizeLine ∧
  (ys = [] → Q (.ref a) H) ∧ (ys ≠ [] → ∀ p, H p = none → Q (.ref p) (upd H p (.tup (xs ++ ys))))
theorem Vals.nil_iff {xs : List V} {us : List Value} (r : Vals xs us) : us = [] ↔ xs = [] := by
  cases r with
  | nil => simp
  | cons _ _ => simp
theorem op_catT : OpR X (binaryOp .Add) (rCatT X.K) := by
  intro pins s σ H x y v u Q I rx ry h
  obtain ⟨a, b, xs, ys, rfl, rfl, ha, hb, hx, hz, q1, q2⟩ := h
  cases rx
  cases ry
  obtain ⟨its, r1, p1, _⟩ := I.tuple ha
  obtain ⟨its2, r2, p2, _⟩ := I.tuple hb
  refine HT.cat_tup p1 p2 (fun z => hx (r1.nil_iff.mp z)) (fun z => ⟨.ref a, H, I, rfl, q1 (r2.nil_iff.mp z)⟩) (fun z => ?_) (by rw [← r1.length, ← r2.length]; exact hz)
  refine ⟨.ref s.heap.objs.size, _, I.laid (t' := s.toks) (o := .tup (xs ++ ys)) (fun b ob q => Heap.get?_push_of_some _ q) (Nat.le_refl _) ?_, rfl, q2 (fun w => z (r2.nil_iff.mpr w)) _ (I.hok.fresh (Nat.le_refl _))⟩
  exact ⟨by rw [List.length_append]; exact hz, _, r1.append r2, IsTup.new _ _⟩
end
end L2
namespace L2
open PySem PySem.Spec PyProof.Rows
def ixN (n : Nat) (i : Int) : Option Nat := if 0 ≤ i then (if i < n then some i.toNat else none) else if -(n : Int) ≤ i then some (i + n).toNat else none
def atI {α : Type} (xs : List α) (i : Int) : Option α := (ixN xs.length i).bind fun j => xs[j]?
theorem ixN_seq {n : Nat} {i : Int} {j : Nat} (h : ixN n i = some j) : seqIndex? i n = some j ∧ j < n ∧ -(n : Int) ≤ i ∧ i < n := by
  unfold ixN at h
  by_cases h0 : 0 ≤ i
  · rw [if_pos h0] at h
    by_cases h1 : i < n
    · rw [if_pos h1] at h
      have e : i.toNat = j := Option.some.inj h
      exact ⟨by rw [seqIndex_of h0 h1, e], by omega, by omega, h1⟩
    · rw [if_neg h1] at h; cases h
  · rw [if_neg h0] at h
    by_cases h1 : -(n : Int) ≤ i
    · rw [if_pos h1] at h
      have e : (i + n).toNat = j := Option.some.inj h
      exact ⟨by rw [seqIndex_neg (by omega) h1, e], by omega, h1, by omega⟩
    · rw [if_neg h1] at h; cases h
theorem zae0 {α : Type} {xs : List α} {i : Int} {v : α} (h : atI xs i = some v) : ∃ j, seqIndex? i xs.length = some j ∧ xs[j]? = some v ∧ j < xs.length ∧ -(xs.length : Int) ≤ i ∧ i < xs.length := by
  unfold atI at h
  cases e : ixN xs.length i with
  | none => rw [e] at h; cases h
  | some j =>
    rw [e] at h
    obtain ⟨h1, h2, h3, h4⟩ := ixN_seq e
    exact ⟨j, h1, h, h2, h3, h4⟩
def zaey (b : Expr) : Prop := ∀ o i, subscripted b false o i = operate [o, i] (getItem o i)
def IxR (X : Cx) (r : R2) : Prop :=
  ∀ (value slice : Expr) (pins : List (Addr × Obj)) (s : Shared) (σ : St) (H : Hp) (x y : V) (v u : Value) (Q : VK), Inv X pins σ H s → RelV x v → RelV y u → r x y H Q →
    subscripted slice false v u = operate [v, u] (getItem v u) → wpAny (model X.prog X.w) X.A (subscriptTail value slice v u) (EP X pins σ Q) X.xe s
def MtR (X : Cx) (id : String) (r : V → List V → Hp → VK → Prop) : Prop :=
  ∀ (pins : List (Addr × Obj)) (s : Shared) (σ : St) (H : Hp) (x : V) (xs : List V) (v : Value) (us : List Value) (Q : VK), Inv X pins σ H s → RelV x v → Vals xs us → r x xs H Q →
    wpAny (model X.prog X.w) X.A (call (.builtin id) (v :: us)) (EP X pins σ Q) X.xe s
section
variable {X : Cx} {a b : Expr} {ta tb : TE} {pos : Pos}
theorem IxR.or {r r' : R2} (h : IxR X r) (h' : IxR X r') : IxR X (fun x y H Q => r x y H Q ∨ r' x y H Q) := by
  intro value slice pins s σ H x y v u Q I rx ry q hs
  rcases q with q | q
  · exact h value slice pins s σ H x y v u Q I rx ry q hs
  · exact h' value slice pins s σ H x y v u Q I rx ry q hs
theorem MtR.or {id : String} {r r' : V → List V → Hp → VK → Prop} (h : MtR X id r) (h' : MtR X id r') : MtR X id (fun x xs H Q => r x xs H Q ∨ r' x xs H Q) := by
  intro pins s σ H x xs v us Q I rx rs q
  rcases q with q | q
  · exact h pins s σ H x xs v us Q I rx rs q
  · exact h' pins s σ H x xs v us Q I rx rs q
theorem pe_ix {r : R2} (hr : IxR X r) (ha : PE X a ta) (hb : PE X b tb) (hs : zaey b) : PE X (.Subscript a b pos) (tOp r ta tb) := by
  intro pins s σ H Q I h
  exact Subscript_ (binT ha hb I h fun v u s2 x y H2 I2 rx ry q => hr a b pins s2 σ H2 x y v u Q I2 rx ry q (hs _ _))
def rIxL (K : PySem.W.Frag) : R2 := fun x y H Q => ∃ p xs i v, x = .ref p ∧ y = .int i ∧ SqL K H p xs ∧ atI xs i = some v ∧ Q v H
def rIxT (K : PySem.W.Frag) : R2 := fun x y H Q => ∃ p xs i v, x = .ref p ∧ y = .int i ∧ SqT K H p xs ∧ atI xs i = some v ∧ Q v H
def rIxS : R2 := fun x y H Q => ∃ z i c, x = .str z ∧ y = .int i ∧ z.length ≤ sizeLine ∧ atI z.cps.toList i = some c ∧ Q (.str ⟨#[c]⟩) H
theorem ix_list : IxR X (rIxL X.K) := by
  intro value slice pins s σ H x y v u Q I rx ry h hs
  obtain ⟨p, xs, i, z, rfl, rfl, hq, he, q⟩ := h
  cases rx
  obtain ⟨t, rfl⟩ := ry
  obtain ⟨its, r, pl, hz⟩ := I.list hq
  obtain ⟨j, h1, h2, h3, h4, h5⟩ := zae0 he
  obtain ⟨w, ew, rw'⟩ := r.get h2
  have hl := r.length
  have hn := line63
  have fin : EP X pins σ Q w s := ⟨z, H, I, rw', q⟩
  by_cases h0 : 0 ≤ i
  · have hj : i.toNat = j := by
      rw [seqIndex_of h0 h5] at h1
      exact Option.some.inj h1
    exact item_listR pl.isList h0 (by omega) (by rw [hj]; simpa using ew) fin hs
  · have hj : (i + (its.toArray.size : Int)).toNat = j := by
      rw [seqIndex_neg (by omega) h4] at h1
      rw [List.size_toArray, ← hl]
      exact Option.some.inj h1
    exact subscriptTail_builtinR (x := w) pl.isList.typeIs slot_list_getitem.lookup
      (wpAny_getItem_list_neg (Q := fun r s' => r = w ∧ EP X pins σ Q r s') pl.isList (by omega) (by rw [List.size_toArray] <;> omega) (by omega) (by rw [hj]; simpa using ew) ⟨rfl, fin⟩) hs
theorem ix_tup : IxR X (rIxT X.K) := by
  intro value slice pins s σ H x y v u Q I rx ry h hs
  obtain ⟨p, xs, i, z, rfl, rfl, hq, he, q⟩ := h
  cases rx
  obtain ⟨t, rfl⟩ := ry
  obtain ⟨its, r, pl, hz⟩ := I.tuple hq
  obtain ⟨j, h1, h2, h3, h4, h5⟩ := zae0 he
  obtain ⟨w, ew, rw'⟩ := r.get h2
  have hl := r.length
  have hn := line63
  have fin : EP X pins σ Q w s := ⟨z, H, I, rw', q⟩
  exact subscriptTail_builtinR (x := w) pl.typeIs slot_tuple_getitem.lookup
    (getItem_tuple (j := j) (Q := fun r s' => r = w ∧ EP X pins σ Q r s') pl (by omega) (by omega) (by rw [List.size_toArray, ← hl]; exact h1) (by simpa using ew) ⟨rfl, fin⟩) hs
theorem ix_str : IxR X rIxS := by
  intro value slice pins s σ H x y v u Q I rx ry h hs
  obtain ⟨z, i, c, rfl, rfl, hz, he, q⟩ := h
  obtain ⟨t, rfl⟩ := rx
  obtain ⟨t', rfl⟩ := ry
  obtain ⟨j, h1, h2, h3, h4, h5⟩ := zae0 he
  have hl : z.cps.toList.length = z.length := by simp [Str.length]
  rw [hl] at h1 h4 h5
  have hn := line63
  exact tail_any (typeIs_str s z t) slot_str_getitem.lookup (getItem_str (c := c) (by
    have e1 : decide (i < -(2 ^ 63 : Int)) = false := decide_eq_false (by omega)
    have e2 : decide (i ≥ 2 ^ 63) = false := decide_eq_false (by omega)
    rw [e1, e2, Bool.or_false]) (by rw [h1]; simpa using h2) ⟨.str ⟨#[c]⟩, H, I.tok _, ⟨_, rfl⟩, q⟩) hs
def rIx (K : PySem.W.Frag) : R2 := fun x y H Q => rIxL K x y H Q ∨ rIxT K x y H Q ∨ rIxS x y H Q
theorem ix_seq : IxR X (rIx X.K) := ix_list.or (ix_tup.or ix_str)
theorem Inv.lst {pins : List (Addr × Obj)} {σ : St} {H : Hp} {s : Shared} {p : Addr} {xs : List V} (I : Inv X pins σ H s) (h : H p = some (.lst xs)) :
    ∃ (its : List Value) (n : Nat), Vals xs its ∧ s.heap.get? p = some { cls := .type "list", data := .seq its.toArray n } ∧ xs.length ≤ sizeLine := by
  obtain ⟨z, its, n, r, e⟩ := I.hok p _ h
  exact ⟨its, n, r, e, z⟩
theorem zacr (lo hi : Option Int) (n : Nat) : (sliceBounds lo hi none n).1 = ((HT.sIx n 0 lo : Nat) : Int) ∧ (sliceBounds lo hi none n).2.1 = ((HT.sIx n n hi : Nat) : Int) ∧ (sliceBounds lo hi none n).2.2 = 1 := by
  refine ⟨?_, ?_, rfl⟩
  · cases lo with
    | none => simp [sliceBounds, HT.sIx]
    | some i =>
      simp only [sliceBounds, HT.sIx, Option.getD_none, show (1 : Int) > 0 by decide, if_true]
      by_cases h : i < 0
      · simp only [h, if_true] <;> omega
      · simp only [h, if_false] <;> omega
  · cases hi with
    | none => simp [sliceBounds, HT.sIx]
    | some i =>
      simp only [sliceBounds, HT.sIx, Option.getD_none, show (1 : Int) > 0 by decide, if_true]
      by_cases h : i < 0
      · simp only [h, if_true] <;> omega
      · simp only [h, if_false] <;> omega
theorem zacf (its : List Value) (lo hi : Option Int) : slicePick its.toArray lo hi none = ((its.drop (HT.sIx its.length 0 lo)).take (HT.sIx its.length its.length hi - HT.sIx its.length 0 lo)).toArray := by
  obtain ⟨h1, h2, h3⟩ := zacr lo hi its.toArray.size
  unfold slicePick
  rw [h1, h2, h3]
  simp only [sliceRange_one, pick_run, List.size_toArray] <;> rfl
def rSlL (K : PySem.W.Frag) : V → Option Int → Option Int → Hp → VK → Prop := fun x lo hi H Q => ∃ a xs, x = .ref a ∧ SqL K H a xs ∧ ∀ p, H p = none → Q (.ref p) (upd H p (.lst (cutV xs lo hi)))
theorem sl_list : SlR X (rSlL X.K) := by
  intro pins s σ H x v vl vu lo hi sl Q I rx hs pl pu h
  obtain ⟨a, xs, rfl, hx, q⟩ := h
  cases rx
  obtain ⟨its, r, ht, hz⟩ := I.list hx
  have hlen := r.length
  refine ⟨"list", _, slot_list_getitem.lookup, ht.isList.typeIs, ?_⟩
  refine wpAny_getItem_list_slice ht.isList hs pl pu .none (by simp) ?_ (by rw [List.size_toArray] <;> omega)
  rw [zacf, ← hlen]
  refine ⟨.ref s.heap.objs.size, _, I.laid (t' := s.toks) (o := .lst (cutV xs lo hi)) (fun b ob q => Heap.get?_push_of_some _ q) (Nat.le_refl _) ?_, rfl, q _ (I.hok.fresh (Nat.le_refl _))⟩
  exact ⟨Nat.le_trans (zabq xs lo hi) hz, _, 0, (r.drop (HT.sIx xs.length 0 lo)).take (HT.sIx xs.length xs.length hi - HT.sIx xs.length 0 lo), Heap.get?_push_size _ rfl⟩
theorem zact : CallR X (.builtin "len") (fun xs H Q => ∃ p ys, xs = [.ref p] ∧ (SqL X.K H p ys ∨ SqT X.K H p ys) ∧ Q (.int ys.length) H) := by
  intro pins s σ H xs us Q I r h
  obtain ⟨p, ys, rfl, hq, q⟩ := h
  obtain ⟨u, rfl, rx⟩ := vals1 r
  cases rx
  have hn := line63
  rcases hq with hq | hq
  · obtain ⟨its, r', pl, hz⟩ := I.list hq
    have hlen := r'.length
    exact Calls.call_len_list pl.isList (by simp only [List.size_toArray] <;> omega) ⟨.int ys.length, H, I.tok _, ⟨s.toks + 1, by rw [List.size_toArray, hlen]⟩, q⟩
  · obtain ⟨its, r', pl, hz⟩ := I.tuple hq
    have hlen := r'.length
    exact len_tuple pl (by simp only [List.size_toArray] <;> omega) ⟨.int ys.length, H, I.tok _, ⟨s.toks + 1, by rw [List.size_toArray, hlen]⟩, q⟩
theorem CallR.or {f : Value} {r r' : List V → Hp → VK → Prop} (h : CallR X f r) (h' : CallR X f r') : CallR X f (fun xs H Q => r xs H Q ∨ r' xs H Q) := by
  intro pins s σ H xs us Q I rs q
  rcases q with q | q
  · exact h pins s σ H xs us Q I rs q
  · exact h' pins s σ H xs us Q I rs q
theorem zacv : CallR X (.type "list") (fun xs H Q => ∃ p ys, xs = [.ref p] ∧ (SqL X.K H p ys ∨ SqT X.K H p ys) ∧ ∀ l, H l = none → Q (.ref l) (upd H l (.lst ys))) := by
  intro pins s σ H xs us Q I r h
  obtain ⟨p, ys, rfl, hq, q⟩ := h
  obtain ⟨u, rfl, rx⟩ := vals1 r
  cases rx
  have fin : ∀ (its : List Value), Vals ys its → ys.length ≤ sizeLine → ∀ (h' : Heap) (c' : Nat), (∀ b o', s.heap.get? b = some o' → h'.get? b = some o') →
      h'.get? s.heap.objs.size = some { cls := .type "list", dict := none, data := .seq its.toArray c', slots := #[] } → EP X pins σ Q (.ref s.heap.objs.size) { s with heap := h' } := fun its r' hz h' c' kp e =>
    ⟨.ref s.heap.objs.size, _, I.laid (t' := s.toks) kp (Nat.le_refl _) (show ObjOk X.prog X.w _ h' _ (.lst ys) from ⟨hz, its, c', r', e⟩), rfl, q _ (I.hok.fresh (Nat.le_refl _))⟩
  rcases hq with hq | hq
  · obtain ⟨its, r', pl, hz⟩ := I.list hq
    have hlen := r'.length
    obtain ⟨o, ho, hc, n, hd⟩ := pl.isList
    exact call_list_seq p (.inl rfl) ho hc hd (fun h' c' kp e => fin its r' hz h' c' kp e) (by simp only [List.size_toArray] <;> omega)
  · obtain ⟨its, r', pl, hz⟩ := I.tuple hq
    have hlen := r'.length
    obtain ⟨o, ho, hc, n, hd⟩ := pl
    exact call_list_seq p (.inr rfl) ho hc hd (fun h' c' kp e => fin its r' hz h' c' kp e) (by simp only [List.size_toArray] <;> omega)
def tyV (K : PySem.W.Frag) (T : String) (x : V) (H : Hp) : Prop := match x with
  | .str _ => T = "str"
  | .int _ => T = "int"
  | .ref p => (T = "list" ∧ ∃ xs, SqL K H p xs) ∨ (T = "tuple" ∧ ∃ o, K.lookup p = some o ∧ o.cls = .type "tuple" ∧ o.dict = none) ∨
      (T = "dict" ∧ ((∃ kvs, H p = some (.dK kvs)) ∨ ∃ kvs, H p = some (.dT kvs))) ∨ (T = "set" ∧ ∃ S n, H p = some (.set S n))
  | _ => False
theorem tyV_is {pins : List (Addr × Obj)} {σ : St} {H : Hp} {s : Shared} {T : String} {x : V} {v : Value} (I : Inv X pins σ H s) (r : RelV x v) (ty : tyV X.K T x H) :
    s.TypeIs v T ∧ ∀ a, v = .ref a → ∃ ob, s.heap.get? a = some ob ∧ ob.dict = none := by
  cases x with
  | str z =>
    obtain ⟨t, rfl⟩ := r
    cases (show T = "str" from ty)
    exact ⟨typeIs_str s z t, fun _ e => nomatch e⟩
  | int i =>
    obtain ⟨t, rfl⟩ := r
    cases (show T = "int" from ty)
    exact ⟨typeIs_int s i t, fun _ e => nomatch e⟩
  | ref p =>
    cases r
    rcases ty with ⟨rfl, xs, hq⟩ | ⟨rfl, o, hk, hc, hd⟩ | ⟨rfl, hk⟩ | ⟨rfl, S, n, hk⟩
    · obtain ⟨its, _, pl, _⟩ := I.list hq
      refine ⟨pl.isList.typeIs, fun a e => ?_⟩
      cases e
      obtain ⟨o, n, e, c, hd, _⟩ := pl
      exact ⟨o, e, hd⟩
    · refine ⟨⟨o, I.kIn p o hk, hc⟩, fun a e => ?_⟩
      cases e
      exact ⟨o, I.kIn _ o hk, hd⟩
    · have z : ∃ o, s.heap.get? p = some o ∧ o.ExactDict := by
        rcases hk with ⟨kvs, hk⟩ | ⟨kvs, hk⟩
        · obtain ⟨_, _, _, _, o, _, _, e, ex, _⟩ := I.hok p _ hk
          exact ⟨o, e, ex⟩
        · obtain ⟨_, _, _, _, o, _, _, e, ex, _⟩ := I.hok p _ hk
          exact ⟨o, e, ex⟩
      obtain ⟨o, e, ex⟩ := z
      refine ⟨⟨o, e, ex.1⟩, fun a e2 => ?_⟩
      cases e2
      exact ⟨o, e, ex.2.1⟩
    · obtain ⟨o, _, _, _, e, ex, _⟩ := I.hok p _ hk
      refine ⟨⟨o, e, ex.1⟩, fun a e2 => ?_⟩
      cases e2
      exact ⟨o, e, ex.2.1⟩
  | _ => exact False.elim ty
def tBM (K : PySem.W.Frag) (T : String) (r : V → List V → Hp → VK → Prop) (to : TE) (t : TA) : TE := fun σ H Q => to σ H fun x H1 => tyV K T x H1 ∧ t σ H1 fun xs H2 => r x xs H2 Q
variable {o e : Expr} {es : List Expr} {to : TE} {t : TA} {name : Str} {apos cpos : Pos} {T id : String} {r : V → List V → Hp → VK → Prop}
theorem pe_bm (pa : PlainAttrs T) (slot : Slot T name id) (hty : typeOf (.builtin id) = pure (.type "method_descriptor")) (hm : MtR X id r) (ho : PE X o to) (ha : PA X (e :: es) t)
    (hbase : attributeBase o name X.env (eval o X.env) = eval o X.env := by rfl)
    (hfew : ((backTo cpos (starEach (e :: es) X.env)).all (fun x => !x.1) && (backToKw cpos (keywordEach [] X.env)).all (fun x => x.1.isSome)
      && decide ((e :: es).length + ([] : List Keyword).length + (if ([] : List Keyword).isEmpty then 0 else 1) < 30)) = true := by rfl)
    (hline : (apos.endLine == cpos.line) = true := by rfl) (hs : starEach (e :: es) X.env = (false, eval e X.env) :: starEach es X.env := by rfl) (hplain : (backTo cpos (starEach es X.env)).any (·.1) = false := by rfl) :
    PE X (.Call (.Attribute o name apos) (e :: es) [] cpos) (tBM X.K T r to t) := by
  intro pins s σ H Q I h
  refine wpAny_Call_method_late hbase hfew hline rfl (thn (ho pins s σ H _ I h) fun v s1 ⟨x, H1, I1, r1, ty, q1⟩ => ?_)
  obtain ⟨h1, h2⟩ := tyV_is I1 r1 ty
  refine ⟨T, id, pa, slot, hty, h1, h2, ?_⟩
  have hA := ha cpos pins s1 σ H1 _ I1 q1
  rw [hs] at hA ⊢
  refine Calls.callWith_builtin (by show (false || (backTo cpos (starEach es X.env)).any (·.1)) = false; rw [hplain] <;> rfl) (Calls.evalArgs_plain ?_)
  exact thn hA fun us s2 ⟨vs, H2, I2, r2, q2⟩ => hm pins s2 σ H2 x vs v us Q I2 r1 r2 q2
end
end L2
namespace L2
open PySem PySem.Spec PyProof.Rows
def MtM (X : Cx) (id : String) (r : V → List V → Hp → VK → Prop) : Prop :=
  ∀ (pins : List (Addr × Obj)) (s : Shared) (σ : St) (H : Hp) (x : V) (xs : List V) (v : Value) (us : List Value) (Q : VK), Inv X pins σ H s → RelV x v → Vals xs us → r x xs H Q →
    wpAny (model X.prog X.w) X.A (call (.builtin id) (v :: us)) (EP X pins σ Q) X.xe s
theorem Vals.one : ∀ {x : V} {us : List Value}, Vals [x] us → ∃ u, us = [u] ∧ RelV x u
  | _, _, .cons r .nil => ⟨_, rfl, r⟩
theorem Vals.two : ∀ {x y : V} {us : List Value}, Vals [x, y] us → ∃ u v, us = [u, v] ∧ RelV x u ∧ RelV y v
  | _, _, _, .cons r (.cons q .nil) => ⟨_, _, rfl, r, q⟩
theorem Vals.zero : ∀ {us : List Value}, Vals [] us → us = []
  | _, .nil => rfl
theorem Vals.dropLast {xs : List V} {us : List Value} (h : Vals xs us) : Vals xs.dropLast us.dropLast := by
  induction h with
  | nil => exact .nil
  | cons r t ih =>
    cases t with
    | nil => exact .nil
    | cons q t' => exact .cons r ih
theorem Vals.reverse {xs : List V} {us : List Value} (h : Vals xs us) : Vals xs.reverse us.reverse := by
  induction h with
  | nil => exact .nil
  | cons r t ih => rw [List.reverse_cons, List.reverse_cons]; exact Vals.append ih (.cons r .nil)
section
variable {X : Cx} {pins : List (Addr × Obj)} {σ : St} {H : Hp} {s : Shared} {l b : Addr} {xs ys zs : List V}
theorem Inv.lset {its its' : List Value} {n : Nat} {f : Array Value → Array Value} {t' : Nat} (I : Inv X pins σ H s) (hH : H l = some (.lst xs))
    (e : s.heap.get? l = some { cls := .type "list", data := .seq its.toArray n }) (hf : f its.toArray = its'.toArray) (hv : Vals ys its') (hz : ys.length ≤ sizeLine) :
    Inv X pins σ (upd H l (.lst ys)) { s with heap := s.heap.update l (Obj.mapSeq f), toks := t' } := by
  have q := PySem.IsL.update e f
  rw [hf] at q
  refine I.write (x := l) (e := l) (by rw [hH]; exact trivial) (.inl rfl) (fun b' u hb hu => (Heap.get?_update_other s.heap (Obj.mapSeq f) (Ne.symm hb)).trans hu) ⟨_, q⟩ ?_
  exact ⟨hz, its', _, hv, q⟩
theorem Inv.lnew {its : List Value} {t' : Nat} (I : Inv X pins σ H s) (hv : Vals ys its) (hz : ys.length ≤ sizeLine) :
    Inv X pins σ (upd H s.heap.objs.size (.lst ys)) { s with heap := s.heap.push { cls := .type "list", data := .seq its.toArray }, toks := t' } :=
  I.laid (fun _ _ q => Heap.get?_push_of_some _ q) (Nat.le_refl _) ⟨hz, its, 0, hv, Heap.get?_push_size _ rfl⟩
theorem Inv.fresh (I : Inv X pins σ H s) : H s.heap.objs.size = none := I.hok.fresh (Nat.le_refl _)
theorem Inv.lstM (I : Inv X pins σ H s) (hH : H l = some (.lst xs)) : xs.length ≤ sizeLine ∧ ∃ (its : List Value) (n : Nat), Vals xs its ∧ xs.length = its.length ∧ s.heap.get? l = some { cls := .type "list", data := .seq its.toArray n } := by
  obtain ⟨z, its, n, r, e⟩ := I.hok l _ hH
  exact ⟨z, its, n, r, r.length, e⟩
end
section
variable {X : Cx}
def rAppend : V → List V → Hp → VK → Prop := fun x vs H Q => ∃ l xs y, x = .ref l ∧ vs = [y] ∧ H l = some (.lst xs) ∧ xs.length < sizeLine ∧ Q .non (upd H l (.lst (xs ++ [y])))
theorem zacx : MtM X "list.append" rAppend := by
  intro pins s σ H x vs v us Q I rx rv h
  obtain ⟨l, xs, y, rfl, rfl, hH, hz, q⟩ := h
  cases rx
  obtain ⟨u, rfl, ru⟩ := rv.one
  obtain ⟨z, its, n, r, hl, e⟩ := I.lstM hH
  refine call_meets F.slot_list_append ⟨_, e, rfl⟩ F.entry_list_append (F.args_list_append_2 _ _) (PySem.list_append l its.toArray n u (by rw [List.size_toArray]; omega)) ⟨e, ?_⟩
  refine ⟨.non, _, I.lset (its' := its ++ [u]) hH e (by simp) (r.append (.cons ru .nil)) ?_, rfl, q⟩
  rw [List.length_append, List.length_singleton]
  omega
end
section
variable {prog : Program} {w : World} {A : Around} {E : Value → Shared → Prop} {s : Shared}
end
section
variable {X : Cx}
end
end L2
namespace Att
open PySem PySem.W PySem.Calls PyProof.Rows
theorem zabn {P : Params} {h : Heap} : ∀ (ns : List Int) (vs : List Value), WellAll P h vs (ns.map WData.int) → IntsAre vs ns := by
  intro ns
  induction ns with
  | nil =>
    intro vs w
    rw [List.map_nil] at w
    cases w
    exact .nil
  | cons n ns ih =>
    intro vs w
    rw [List.map_cons] at w
    cases w with
    | cons a b =>
      cases a
      exact .cons _ _ (ih _ b)
theorem script_of {l : OpenLaw} {n : Nat} (hn : l.most = some n) {P : Params} {h : Heap} {args : List WData} {vals : List Value}
    (hpre : l.row.toRowW.claim.pre args = true) (hwl : WellAll P h vals args) :
    ∃ a vs ns, vals = [Value.ref a] ∧ args = [WData.list (ns.map WData.int)] ∧ h.get? a = some { cls := .type "list", data := .seq vs.toArray } ∧ IntsAre vs ns ∧ ns.length ≤ n := by
  have hsh : WShape.hasAll [] args [.list .int] = true := (pre_splitW hpre).1
  have hc : l.pre.holds [] { args := args } = true := (pre_splitW hpre).2
  obtain ⟨d, r, rfl, h1, h2⟩ := hasAllW_cons hsh
  obtain rfl := hasAllW_nil h2
  obtain ⟨xs, rfl, h3⟩ := hasW_list h1
  obtain ⟨ns, rfl⟩ := items_int h3
  have hlen : ns.length ≤ n := by
    unfold OpenLaw.pre at hc
    have h4 : (WTm.not (.lt (.lit (.int (n : Int))) (.len (.arg 0)))).holds [] { args := [.list (ns.map .int)] } = true := by
      have h4 := (holds_andW hc).1
      rw [hn] at h4
      exact h4
    have h5 := condW_of h4 (w_not (w_lt w_lit (w_len_list (w_arg rfl))))
    rw [List.length_map] at h5
    refine Nat.le_of_not_lt fun q => ?_
    have q' : (n : Int) < ((ns.length : Nat) : Int) := by omega
    first
      | (rw [decide_eq_true q'] at h5; exact absurd h5 (by decide))
      | (simp at h5; omega)
  cases hwl with
  | cons w1 w2 =>
    cases w2
    cases w1 with
    | list ho hall => exact ⟨_, _, ns, rfl, rfl, ho, zabn ns _ hall, hlen⟩
theorem post_true (l : OpenLaw) (args : List WData) : l.row.toRowW.claim.post args (.bool true) args = true :=
  postW_of (r := l.row.toRowW) (X := (true == true))
    (show WShape.has [] (.bool true) .bool = true by first | rfl | decide | simp [WShape.has, WShape.arms, WShape.armsAll])
    (show (WTm.eq .res (.lit (.bool true))).value [] { args := args, res := some (.bool true), after := args } = some (.bool (true == true)) from w_eq_bool (w_res rfl) w_lit) rfl
theorem attach_call {l : OpenLaw} {n : Nat} {q : Program} {loose : List Str} {XP : (Str → Option Value) → Heap → Prop} {YP : World → Heap → Prop} {d : DefRec}
    (hn : l.most = some n) (hdf : d.params.defaults = [])
    (call : ∀ (w : World) (s₀ s₁ : Shared) (mg mb : Str → Option Value) (fa : Addr) (o : Obj) (pm cd doc : Value) (a : Addr) (vs : List Value) (ns : List Int),
      Ground q loose [] XP w s₀ mg mb s₁.heap → YP w s₁.heap →
      s₁.heap.get? fa = some o → o.data = .func (docDef d.name d.params d.body d.scope pm cd doc) → s₁.heap.CodeRec cd d.name → mg d.name = some (.ref fa) →
      s₁.heap.get? a = some { cls := .type "list", data := .seq vs.toArray } → IntsAre vs ns → ns.length ≤ n → s₁.gens = #[] →
      codeAny (model l.prog w) callerA (.call (.ref fa) ⟨[.ref a], []⟩) (fun r s' => r = .ok (.ret (.bool true)) ∧ OldK s₁.heap s'.heap ∧ s'.os = s₁.os ∧ AllBare s'.gens) s₁) :
    WalkO q loose XP YP l.row.toRowW d [] (fun f vs => PySem.call f vs) := by
  intro w s₀ s₁ mg mb G Y fa o pm cd doc dV kV ho hd hcd hD hmg hg args vals as hpre hlay hrd hwl hlo
  obtain rfl : dV = .none := Dflts.none hD hdf
  obtain rfl : kV = .none := Dflts.noKw hD
  obtain ⟨a, vs, ns, rfl, rfl, hobj, hints, hlen⟩ := script_of hn hpre hwl
  refine enter_call (codeAny_mono (call w s₀ s₁ mg mb fa o pm cd doc a vs ns G Y ho (fd_plain hd) hcd hmg hobj hints hlen hg) fun r s' hq => ?_)
  obtain ⟨rfl, h2, h3, h4⟩ := hq
  exact ⟨.inl ⟨.bool true, .bool true, [], rfl, fun _ => rfl, .bool true, post_true l _, fun _ => ⟨List.Pairwise.nil, fun _ hm => (nomatch hm)⟩⟩, h2, h3, h4⟩
section
variable {prog : Program} {w : World} {A : Around} {E : Value → Shared → Prop} {s : Shared} {K : Frag}
def ledger (h : Heap) (L d : Addr) : List (Addr × Obj) := (List.range h.objs.size).filterMap fun a => if a = L ∨ a = d then none else (h.get? a).map fun o => (a, o)
end
end Att
namespace L2
open PySem PySem.Spec PyProof.Rows
theorem zac5 : ∀ {vs : List Value} {ns : List Int}, IntsAre vs ns → Vals (ns.map V.int) vs
  | _, _, .nil => .nil
  | _, _, .cons n t h => .cons ⟨t, rfl⟩ (zac5 h)
def Only (H : Hp) : Prop := ∀ b, H b = none ∨ ∃ o xs, H b = some (.frz o (.lst xs))
theorem law_call {P : Program} {w : World} {K : PySem.W.Frag} {mg mb : Str → Option Value} {CX : CXT} {k : Nat} {fa a : Addr} {fd : FuncData} {x : Str} {sp : Sp} {s₁ : Shared} {vs : List Value} {ns : List Int}
    (KX : K.In s₁.heap) (hns : s₁.heap.Ns mainGlobals mg) (hb : s₁.heap.Ns builtinsNs mb) (hbb : ∀ x : Str, x ≠ "__name__" → mb x = bootBuiltins x) (hlim : s₁.heap.NoLimit) (hg : s₁.gens = #[])
    (ha : s₁.heap.get? a = some { cls := .type "list", data := .seq vs.toArray }) (hi : IntsAre vs ns) (hl : ns.length ≤ sizeLine) (hr : Room k callerA)
    (F : ∀ base : Heap, K.In base → base.Ns mainGlobals mg → FnOk P w K mg base CX k fa fd [x] sp) (hbind : ∀ (s : Shared) (u : Value), BindsTo s fd ⟨[u], []⟩ [(x, u)])
    (hsp : ∀ H : Hp, Only H → SqL K H a (ns.map V.int) → sp [.ref a] H (fun v _ => v = .bl true) fun _ _ _ => False)
    (hCX : ∀ H e s', CX [] H s₁ (fun _ _ _ => False) e s' → False) :
    codeAny (model P w) callerA (.call (.ref fa) ⟨[.ref a], []⟩) (fun r s' => r = .ok (.ret (.bool true)) ∧ OldK s₁.heap s'.heap ∧ s'.os = s₁.os ∧ AllBare s'.gens) s₁ := by
  have rv := zac5 hi
  have lenV := hi.length
  have core : ∀ H : Hp, Only H → SqL K H a (ns.map V.int) → HOk P w H s₁.heap → (∀ b, H b ≠ none → b = a) → (H a ≠ none → K.lookup a = none) →
      codeAny (model P w) callerA (.call (.ref fa) ⟨[.ref a], []⟩) (fun r s' => r = .ok (.ret (.bool true)) ∧ OldK s₁.heap s'.heap ∧ s'.os = s₁.os ∧ AllBare s'.gens) s₁ := by
    intro H hO hS hok hA hK
    have base_of : ∀ {b : Addr} {o : Obj}, s₁.heap.get? b = some o → H b = none → (hidT s₁.heap H).get? b = some o := fun e n => hidT_get e n
    have noA : ∀ {b : Addr} {o : Obj} {es : Array DictEntry} {ep : Nat}, s₁.heap.get? b = some o → o.data = .dict es ep → H b = none := fun {b o es ep} e d => by
      cases q : H b with
      | none => rfl
      | some u =>
        have e' : b = a := hA b (by rw [q]; simp)
        subst e'
        rw [ha] at e; cases e
        have d' : Data.seq vs.toArray _ = Data.dict es ep := d
        cases d'
    have nsK : ∀ {b : Addr} {m : Str → Option Value}, s₁.heap.Ns b m → (hidT s₁.heap H).Ns b m := fun {b m} ⟨o, es, ep, e, d, r⟩ => ⟨o, es, ep, base_of e (noA e d), d, r⟩
    have hKb : K.In (hidT s₁.heap H) := fun b o e => base_of (KX b o e) (by
      cases q : H b with
      | none => rfl
      | some u =>
        have e' : b = a := hA b (by rw [q]; simp)
        subst e'
        rw [hK (by rw [q]; simp)] at e; cases e)
    have hM : Mod K mg (hidT s₁.heap H) := ⟨hKb, nsK hns, ⟨mb, nsK hb, hbb⟩, let ⟨mc, h1, h2⟩ := hlim; ⟨mc, nsK h1, h2⟩⟩
    have e0 : Env0 P w K mg (hidT s₁.heap H) callerA [] s₁ H := ⟨rfl, hM, fun b o e => of_hidT e, Nat.le_of_eq (hidT_size _ _), trivial, fun b hb => absurd (show b ∈ ([] : List Addr) from hb) (by simp), hok, .of_eq hg⟩
    refine codeAny_mono ((F _ hKb (nsK hns)).run callerA [] s₁ H ⟨[.ref a], []⟩ [.ref a] [.ref a] _ _ hr e0 (hbind s₁ (.ref a)) (.cons rfl .nil) (hsp H hO hS)) fun r s' h => ?_
    cases r with
    | error e => exact (hCX H e s' h).elim
    | ok fl =>
      cases fl with
      | next => exact False.elim h
      | brk => exact False.elim h
      | cont => exact False.elim h
      | ret u =>
        obtain ⟨v, H', os, bare, un, hok', r', q⟩ := h
        have q' : v = .bl true := q
        subst q'
        obtain rfl : u = Value.bool true := r'
        refine ⟨rfl, OldK.of_keep fun b o e => ?_, os, bare⟩
        cases q : H b with
        | none => exact un.keep b o e q (by intro z; exact absurd (show b ∈ ([] : List Addr) from z) (by simp)) (by simp)
        | some u =>
          rcases hO b with z | ⟨ob, xs, z⟩
          · rw [q] at z; cases z
          · have z2 := un.frzs b ob _ z
            obtain ⟨e1, _⟩ := hok b _ z
            obtain ⟨e2, _⟩ := hok' b _ z2
            rw [e] at e1; cases e1
            exact e2
  cases hk : K.lookup a with
  | some o =>
    have e := KX a o hk
    rw [ha] at e
    cases e
    refine core (fun _ => none) (fun _ => .inl rfl) (.inr ⟨_, vs.toArray, _, hk, rfl, rfl, rfl, by rw [List.size_toArray, lenV]; exact hl, by simpa using rv⟩) (fun b u z => by have z' : (none : Option HO) = some u := z; cases z') (fun b z => absurd rfl z) fun z => absurd rfl z
  | none =>
    refine core (fun b => if b = a then some (.frz { cls := .type "list", data := .seq vs.toArray } (.lst (ns.map V.int))) else none) (fun b => ?_) (.inl (.inr ⟨{ cls := .type "list", data := .seq vs.toArray }, if_pos rfl⟩)) (fun b u z => ?_) (fun b z => ?_) fun _ => hk
    · by_cases hb : b = a
      · exact .inr ⟨_, _, if_pos hb⟩
      · exact .inl (if_neg hb)
    · by_cases hb : b = a
      · have z' := (if_pos hb).symm.trans z
        cases z'
        subst hb
        exact ⟨ha, by rw [List.length_map]; exact hl, vs, _, rv, ha⟩
      · have z' := (if_neg hb).symm.trans z
        cases z'
    · by_cases hb : b = a
      · exact hb
      · exact absurd (if_neg hb) z
end L2
namespace L2
open PySem PySem.Spec PyProof.Rows
abbrev KOf {K : PySem.W.Frag} {h : Heap} (_ : K.In h) : PySem.W.Frag := K
theorem walk_of {l : PySem.W.OpenLaw} {n k : Nat} {q : Program} {loose : List Str} {XP : (Str → Option Value) → Heap → Prop} {YP : World → Heap → Prop} {d : DefRec} {K : Params → PySem.W.Frag} {CX : World → CXT} {sp : World → Sp} {x : Str}
    (hn : l.most = some n) (hn2 : n ≤ sizeLine) (hdf : d.params.defaults = []) (hr : Room k callerA)
    (hY : ∀ (w : World) (h : Heap), YP w h → (K w.params).In h)
    (F : ∀ (w : World) (mg : Str → Option Value) (fa : Addr) (h : Heap), (K w.params).In h → h.Ns mainGlobals mg → mg d.name = some (.ref fa) →
      ∃ fd : FuncData, (∀ (s : Shared) (u : Value), BindsTo s fd ⟨[u], []⟩ [(x, u)]) ∧
        ∀ base : Heap, (K w.params).In base → base.Ns mainGlobals mg → FnOk l.prog w (K w.params) mg base (CX w) k fa fd [x] (sp w))
    (hsp : ∀ (w : World) (H : Hp) (a : Addr) (ns : List Int), ns.length ≤ n → Only H → SqL (K w.params) H a (ns.map V.int) → sp w [.ref a] H (fun v _ => v = .bl true) fun _ _ _ => False)
    (hCX : ∀ (w : World) (H : Hp) (s : Shared) (e : Value) (s' : Shared), CX w [] H s (fun _ _ _ => False) e s' → False) :
    PySem.W.WalkO q loose XP YP l.row.toRowW d [] (fun f vs => PySem.call f vs) := by
  refine Att.attach_call hn hdf fun w s₀ s₁ mg mb fa o pm cd doc a vs ns G Y ho hd hcd hmg hobj hints hlen hg => ?_
  have KX := hY w _ Y
  obtain ⟨fd, hb, hF⟩ := F w mg fa _ KX G.T.g hmg
  exact law_call KX G.T.g G.T.b G.T.builtins G.T.nolimit hg hobj hints (Nat.le_trans hlen hn2) hr hF hb (fun H hO hS => hsp w H a ns hlen hO hS) fun H e s' => hCX w H s₁ e s'
end L2
namespace L2
open PySem PySem.Spec PyProof.Rows
def zaaf (s : Stmt) : Arguments := match s with
  | .FunctionDef _ a _ _ _ _ _ _ _ _ => a
  | _ => { posonlyargs := [], args := [], vararg := none, kwonlyargs := [], kw_defaults := [], kwarg := none, defaults := [] }
def zaae (s : Stmt) : List Stmt := match s with
  | .FunctionDef _ _ b _ _ _ _ _ _ _ => b
  | _ => []
def zaaa (s : Stmt) : Scope := match s with
  | .FunctionDef _ _ _ _ _ _ sc _ _ _ => sc
  | _ => { kind := .function, names := [], isGenerator := false, isCoroutine := false }
abbrev CX0 : CXT := fun _ _ _ _ _ _ => False
structure Fun (K : PySem.W.Frag) (x qual : Str) (st : Stmt) (f : Addr) (fd : FuncData) : Prop where
  ex : ∃ (oc : Value) (od : Option Addr) (kV doc pm : Value) (an : Option Addr) (cdv ct : Value) (osl : Array (Option Value)),
    fd = PySem.W.fnOf x qual (zaaf st) (zaae st) (zaaa st) .none kV doc pm an cdv ct ∧ K.lookup f = some ⟨oc, od, .func fd, osl⟩ ∧ PySem.W.codeIn K cdv qual = true
  kp : PySem.W.keepIn K (.ref f) = true
section
variable {P : Program} {w : World} {K : PySem.W.Frag} {mg : Str → Option Value} {base : Heap}
theorem Fun.ok {x qual : Str} {st : Stmt} {f : Addr} {fd : FuncData} {N ps : List Str} {k : Nat} {sp : Sp} (F : Fun K x qual st f fd) (S : FnScope N ps (zaaa st)) (len : ∀ vs H Q E, sp vs H Q E → vs.length = ps.length)
    (hbody : ∀ (cdv : Value) (A : Around) (outer : List Env) (s : Shared) (H : Hp) (vs : List V) (Q : VK) (E : XK), Room k (A.deeper (envOfC qual (zaaa st) s.heap.objs.size f cdv)) → sp vs H Q E →
      ∃ t, PSs (cxOf CX0 P w K mg base N qual (zaaa st) f cdv A outer s H E).nox (zaae st) t ∧ t { nx := fun _ H' => Q .non H', rt := Q } (start N vs) H) : FnOk P w K mg base CX0 (k + 1) f fd ps sp := by
  obtain ⟨oc, od, kV, doc, pm, an, cdv, ct, osl, rfl, lk, hcd⟩ := F.ex
  refine fn_of lk hcd S len fun A outer s H vs Q E hr hsp => ?_
  obtain ⟨t, h, q⟩ := hbody cdv A outer s H vs Q E hr hsp
  exact ⟨t, h.nox, q⟩
theorem Fun.binds {x qual : Str} {st : Stmt} {f : Addr} {fd : FuncData} {ps : List Str} (F : Fun K x qual st f fd)
    (h : ∀ (kV doc pm : Value) (an : Option Addr) (cdv ct : Value) (us : List Value), us.length = ps.length → bindArgs (PySem.W.fnOf x qual (zaaf st) (zaae st) (zaaa st) .none kV doc pm an cdv ct) ⟨us, []⟩ = pure (ps.zip us)) : Binds K fd ps [] := by
  obtain ⟨oc, od, kV, doc, pm, an, cdv, ct, osl, rfl, lk, hcd⟩ := F.ex
  exact .all (h kV doc pm an cdv ct)
end
section
variable {X : Cx}
end
theorem iteF {A B : Prop} (h : B) : if false = true then A else B := by
  rw [if_neg Bool.false_ne_true]
  exact h
theorem iteT {A B : Prop} (h : A) : if true = true then A else B := by
  rw [if_pos rfl]
  exact h
def Same (H H' : Hp) : Prop := ∀ b o, H b = some o → H' b = some o
theorem Same.refl (H : Hp) : Same H H := fun _ _ h => h
theorem Same.trans {H H1 H2 : Hp} (a : Same H H1) (b : Same H1 H2) : Same H H2 := fun c o h => b c o (a c o h)
theorem Same.free {H H' : Hp} (e : Same H H') {l : Addr} (h : H' l = Option.none) : H l = Option.none := by
  cases q : H l with
  | none => rfl
  | some o =>
    rw [e l o q] at h
    cases h
theorem Same.seq {K : PySem.W.Frag} {H H' : Hp} {a : Addr} {xs : List V} (e : Same H H') (h : SqL K H a xs) : SqL K H' a xs := by
  rcases h with (h | ⟨o, h⟩) | h
  · exact .inl (.inl (e _ _ h))
  · exact .inl (.inr ⟨o, e _ _ h⟩)
  · exact .inr h
end L2
end
section
set_option Elab.async false
set_option linter.all false
set_option maxRecDepth 100000
namespace IP
open PySem (Str)
inductive T where
  | non | bl (b : Bool) | int (i : Int) | str (x : Str) | tup (xs : List T) | lst (xs : List T) | loc (l : Nat) | exc (c : Nat)
  deriving Inhabited
inductive R where
  | val (t : T) | bor (ts : List T)
inductive B where
  | val (t : T) | own (ts : List T) | bor (ts : List T) | lck (ts : List T)
  deriving Inhabited
abbrev Fr := List (Option B)
inductive Cell where
  | lst (ts : List T) | ins (c : Nat) (fs : List (Option T))
abbrev Sto := List Cell
inductive Res (α : Type) where
  | stuck | ok (a : α) (s : Sto) | exc (c : Nat) (s : Sto)
def Res.bind {α β : Type} (m : Res α) (k : α → Sto → Res β) : Res β := match m with
  | .stuck => .stuck
  | .ok a s => k a s
  | .exc c s => .exc c s
@[simp] theorem Res.bind_ok {α β : Type} (a : α) (s : Sto) (k : α → Sto → Res β) : (Res.ok a s).bind k = k a s := rfl
@[simp] theorem Res.bind_exc {α β : Type} (c : Nat) (s : Sto) (k : α → Sto → Res β) : (Res.exc c s : Res α).bind k = .exc c s := rfl
@[simp] theorem Res.bind_stuck {α β : Type} (k : α → Sto → Res β) : (Res.stuck : Res α).bind k = .stuck := rfl
def Res.of {α : Type} (o : Option α) (s : Sto) : Res α := match o with
  | none => .stuck
  | some a => .ok a s
@[simp] theorem Res.of_some {α : Type} (a : α) (s : Sto) : Res.of (some a) s = .ok a s := rfl
@[simp] theorem Res.of_none {α : Type} (s : Sto) : Res.of (none : Option α) s = .stuck := rfl
inductive Op where | add | sub | mul | fdiv | mod | pow
inductive Cm where | lt | le | gt | ge | eq | ne | isN | notN | mem | nmem
inductive Bi where | len | abs | int | list | tuple | any | all | min | max | sorted | str
inductive Ty where | int | bool | tuple | list | str | cls (c : Nat)
inductive Tg where | one (i : Nat) | many (is : List Nat)
inductive E where
  | var (i : Nat)
  | cst (t : T)
  | glb (x : Str) (i : Int)
  | bin (o : Op) (a b : E)
  | neg (a : E)
  | not (a : E)
  | cmp (c : Cm) (a b : E)
  | and (a b : E) | or (a b : E)
  | ife (c a b : E)
  | tup (es : List E) | lst (es : List E)
  | sub (a b : E)
  | cutL (a lo : E) | cutU (a hi : E) | cutLU (a lo hi : E) | rev (a : E)
  | b1 (f : Bi) (a : E)
  | mn2 (a b : E) | mx2 (a b : E)
  | mxd (a d : E) | mnd (a d : E)
  | mnk (a : E) (i : Nat) (k : E) | sok (a : E) (i : Nat) (k : E)
  | isi (a : E) (c : Ty)
  | call (f : Nat) (es : List E) (ds : List T)
  | comp (elt : E) (tg : Tg) (it : E)
  | compIf (elt : E) (tg : Tg) (it c : E)
  | rng1 (a : E) | rng2 (a b : E) | enm (a : E) | zip (a b : E)
  | fld (a : E) (c f : Nat) | cell (a : E) | new (c f n : Nat) (es : List E) (ds : List T) | meth (a : E) (c f : Nat) (es : List E) (ds : List T)
  | compC (elt : E) (tg : Tg) (it : E)
  | cmpD (c : Cm) (a b : E)
  deriving Inhabited
inductive S where
  | asg (i : Nat) (e : E)
  | asgT (is : List Nat) (e : E)
  | mk (i : Nat) (e : E)
  | app (i : Nat) (e : E)
  | ext (i : Nat) (e : E)
  | put (i : Nat) (j e : E)
  | pop (k i : Nat)
  | frz (i : Nat)
  | ifs (c : E) (a b : List S)
  | whl (c : E) (b : List S)
  | for_ (tg : Tg) (it : E) (b : List S)
  | ret (e : E)
  | retO (e : E)
  | retV (i : Nat)
  | exp (e : E)
  | raise (c : Nat)
  | putL (a j e : E) | appL (a e : E) | setF (a : E) (c f : Nat) (e : E) | popL (a : E) | clrL (a : E) | forC (tg : Tg) (it : E) (b : List S)
  | try_ (b : List S) (c : Nat) (nm : Option Nat) (h : List S)
  | pass
  deriving Inhabited
def eqL (f : T → T → Option Bool) : List T → List T → Option Bool
  | [], [] => some true
  | [], _ :: _ => some false
  | _ :: _, [] => some false
  | a :: r, b :: q => match f a b, eqL f r q with
    | some k, some k' => some (k && k')
    | _, _ => none
def eqD : Nat → T → T → Option Bool
  | _, .non, .non => some true
  | _, .bl a, .bl b => some (a == b)
  | _, .int a, .int b => some (a == b)
  | _, .str a, .str b => some (a == b)
  | n + 1, .tup a, .tup b => eqL (eqD n) a b
  | n + 1, .lst a, .lst b => eqL (eqD n) a b
  | _, .non, .int _ => some false
  | _, .int _, .non => some false
  | _ + 1, .non, .tup _ => some false
  | _ + 1, .tup _, .non => some false
  | _, _, _ => none
abbrev eqT : T → T → Option Bool := eqD 8
abbrev eqTs : List T → List T → Option Bool := eqL (eqD 7)
def big : Nat := 10 ^ 300
def mulB (i j : Int) : Bool := decide (i.natAbs < 2 ^ 64) || decide (j.natAbs < 2 ^ 64) || (decide (i.natAbs < big) && decide (j.natAbs < big))
def lim : Nat := 1000000
def R.seq : R → Option (List T)
  | .val (.lst ts) => some ts
  | .bor ts => some ts
  | _ => none
def R.sq2 : R → Option (List T)
  | .val (.lst ts) => some ts
  | .val (.tup ts) => some ts
  | .bor ts => some ts
  | _ => none
def R.dr (s : Sto) : R → R
  | .val (.loc l) => match s[l]? with
    | some (.lst ts) => .bor ts
    | _ => .val (.loc l)
  | r => r
def opI : Op → Int → Int → Option Int
  | .add, i, j => some (i + j)
  | .sub, i, j => some (i - j)
  | .mul, i, j => if mulB i j then some (i * j) else none
  | .fdiv, i, j => if j ≠ 0 ∧ j.natAbs < big then some (Int.fdiv i j) else none
  | .mod, i, j => if j ≠ 0 then some (Int.fmod i j) else none
  | .pow, i, j => if 0 ≤ j ∧ j ≤ 100 ∧ i.natAbs < big then some (i ^ j.toNat) else none
def opR (o : Op) (x y : R) : Option R := match o, x, y with
  | o, .val (.int i), .val (.int j) => (opI o i j).map fun k => .val (.int k)
  | .add, .val (.tup xs), .val (.tup ys) => if xs ≠ [] ∧ ys ≠ [] ∧ xs.length + ys.length ≤ lim then some (.val (.tup (xs ++ ys))) else none
  | .add, x, y => match x.seq, y.seq with
    | some xs, some ys => if xs.length + ys.length ≤ lim then some (.val (.lst (xs ++ ys))) else none
    | _, _ => none
  | _, _, _ => none
def asInts : List T → Option (List Int)
  | [] => some []
  | .int i :: r => (asInts r).map (i :: ·)
  | _ => none
def zad0 : List T → Option (List Bool)
  | [] => some []
  | .bl b :: r => (zad0 r).map (b :: ·)
  | _ => none
def R.int? : R → Option Int
  | .val (.int i) => some i
  | _ => none
def R.isNon : R → Bool
  | .val .non => true
  | _ => false
def R.tup? : R → Option (List T)
  | .val (.tup ts) => some ts
  | .val (.lst ts) => some ts
  | _ => none
def R.val? : R → Option T
  | .val t => some t
  | _ => none
def tru : R → Option Bool
  | .val .non => some false
  | .val (.bl b) => some b
  | .val (.int i) => some (i != 0)
  | .val (.lst ts) => some (!ts.isEmpty)
  | .val (.tup ts) => some (!ts.isEmpty)
  | .bor ts => some (!ts.isEmpty)
  | _ => none
def eqR : R → R → Option Bool
  | .val a, .val b => eqT a b
  | .val (.lst a), .bor b => eqTs a b
  | .bor a, .val (.lst b) => eqTs a b
  | .bor a, .bor b => eqTs a b
  | _, _ => none
def memT (x : T) : List T → Option Bool
  | [] => some false
  | y :: r => match eqT y x, memT x r with
    | some k, some k' => some (k || k')
    | _, _ => none
def cmpR (c : Cm) (x y : R) : Option Bool := match c with
  | .lt => do let i ← x.int?; let j ← y.int?; some (decide (i < j))
  | .le => do let i ← x.int?; let j ← y.int?; some (decide (i ≤ j))
  | .gt => do let i ← x.int?; let j ← y.int?; some (decide (j < i))
  | .ge => do let i ← x.int?; let j ← y.int?; some (decide (j ≤ i))
  | .eq => eqR x y
  | .ne => (eqR x y).map (!·)
  | .isN => match y with
    | .val .non => some x.isNon
    | _ => none
  | .notN => match y with
    | .val .non => some (!x.isNon)
    | _ => none
  | .mem => do let t ← x.val?; let ts ← y.sq2; memT t ts
  | .nmem => do let t ← x.val?; let ts ← y.sq2; (memT t ts).map (!·)
def subR (x : R) (i : Int) : Option T := match x.sq2 with
  | some ts => L2.atI ts i
  | none => none
def cutT (ts : List T) (lo hi : Option Int) : List T := (ts.drop (HT.sIx ts.length 0 lo)).take (HT.sIx ts.length ts.length hi - HT.sIx ts.length 0 lo)
def cutR (x : R) (lo hi : Option Int) : Option R := match x with
  | .val (.tup ts) => if HT.sIx ts.length 0 lo = 0 ∧ HT.sIx ts.length ts.length hi = ts.length then none else some (.val (.tup (cutT ts lo hi)))
  | .val (.lst ts) => some (.val (.lst (cutT ts lo hi)))
  | .bor ts => some (.val (.lst (cutT ts lo hi)))
  | _ => none
def asTups : List T → Option (List (List Int))
  | [] => some []
  | .tup ts :: r => do let x ← asInts ts; let y ← asTups r; some (x :: y)
  | _ => none
def minI : List Int → Option Int
  | [] => none
  | a :: r => some (r.foldl (fun m x => if x < m then x else m) a)
def maxI : List Int → Option Int
  | [] => none
  | a :: r => some (r.foldl (fun m x => if x > m then x else m) a)
def minBy {α : Type} (lt : α → α → Bool) : List (α × T) → Option T
  | [] => none
  | a :: r => some (r.foldl (fun m x => if lt x.1 m.1 then x else m) a).2
def insI (x : Int) : List Int → List Int
  | [] => [x]
  | y :: r => if x < y then x :: y :: r else y :: insI x r
def sortI (xs : List Int) : List Int := xs.foldl (fun acc x => insI x acc) []
def b1R (f : Bi) (x : R) : Option R := match f with
  | .len => x.sq2.map fun ts => .val (.int ts.length)
  | .abs => x.int?.map fun i => .val (.int (if i < 0 then -i else i))
  | .int => match x with | .val (.int i) => some (.val (.int i)) | .val (.bl b) => some (.val (.int (if b then 1 else 0))) | _ => none
  | .list => x.sq2.map fun ts => .val (.lst ts)
  | .tuple => x.sq2.map fun ts => .val (.tup ts)
  | .any => do let ts ← x.seq; let bs ← zad0 ts; some (.val (.bl (bs.any id)))
  | .all => do let ts ← x.seq; let bs ← zad0 ts; some (.val (.bl (bs.all id)))
  | .min => do let ts ← x.seq; let is ← asInts ts; (minI is).map fun i => .val (.int i)
  | .max => do let ts ← x.seq; let is ← asInts ts; (maxI is).map fun i => .val (.int i)
  | .sorted => do let ts ← x.seq; let is ← asInts ts; if is.length < 64 then some (.val (.lst ((sortI is).map .int))) else none
  | .str => none
def isiR (x : R) (c : Ty) : Option Bool := match x, c with
  | .val (.int _), .int => some true | .val (.bl _), .int => some true | .val (.tup _), .int => some false | .val (.lst _), .int => some false | .val .non, .int => some false | .bor _, .int => some false
  | .val (.int _), .bool => some false | .val (.bl _), .bool => some true | .val (.tup _), .bool => some false | .val (.lst _), .bool => some false | .val .non, .bool => some false
  | .val (.tup _), .tuple => some true | .val (.int _), .tuple => some false | .val (.bl _), .tuple => some false | .val (.lst _), .tuple => some false | .val .non, .tuple => some false
  | .val (.lst _), .list => some true | .bor _, .list => some true | .val (.tup _), .list => some false | .val (.int _), .list => some false | .val .non, .list => some false
  | _, _ => none
def isiX (sub : Nat → Nat → Bool) (x : R) (c : Ty) : Option Bool := match x, c with
  | .val (.exc d), .cls k => some (sub d k)
  | x, c => isiR x c
def enT : Nat → List T → List T
  | _, [] => []
  | n, t :: ts => .tup [.int n, t] :: enT (n + 1) ts
def ziT : List T → List T → List T
  | a :: as, b :: bs => .tup [a, b] :: ziT as bs
  | _, _ => []
def fldR (s : Sto) (x : R) (c f : Nat) : Option T := match x with
  | .val (.loc l) => match s[l]? with
    | some (.ins d fs) => if d = c then (fs[f]?).join else none
    | _ => none
  | _ => none
def R.locL (s : Sto) : R → Option (Nat × List T)
  | .val (.loc l) => match s[l]? with
    | some (.lst ts) => some (l, ts)
    | _ => none
  | _ => none
def R.locI (s : Sto) (c : Nat) : R → Option (Nat × List (Option T))
  | .val (.loc l) => match s[l]? with
    | some (.ins d fs) => if d = c then some (l, fs) else none
    | _ => none
  | _ => none
def look (σ : Fr) (i : Nat) : Option R := match σ[i]? with
  | some (some (.val t)) => some (.val t)
  | some (some (.own ts)) => some (.bor ts)
  | some (some (.bor ts)) => some (.bor ts)
  | some (some (.lck ts)) => some (.bor ts)
  | _ => none
def put (σ : Fr) (i : Nat) (t : T) : Fr := σ.set i (some (.val t))
def puts (σ : Fr) : List Nat → List T → Option Fr
  | [], [] => some σ
  | i :: is, t :: ts => puts (put σ i t) is ts
  | _, _ => none
def bindTg (σ : Fr) (g : Tg) (t : T) : Option Fr := match g with
  | .one i => some (put σ i t)
  | .many is => match t with
    | .tup ts => puts σ is ts
    | .lst ts => puts σ is ts
    | _ => none
inductive SR where
  | stuck | next (σ : Fr) (s : Sto) | ret (r : R) (s : Sto) | retO (ts : List T) (s : Sto) | exc (c : Nat) (σ : Fr) (s : Sto)
structure Cf where
  cf : Nat → List R → Sto → Res R
  sub : Nat → Nat → Bool
  fr : Nat → Bool
  wl : (Fr → Sto → Res Bool) → (Fr → Sto → SR) → Fr → Sto → SR
def consO : Option T → List T → List T
  | some x, q => x :: q
  | none, q => q
@[simp] theorem consO_some (x : T) (q : List T) : consO (some x) q = x :: q := rfl
@[simp] theorem consO_none (q : List T) : consO none q = q := rfl
def mapRes (f : T → Sto → Res (Option T)) : List T → Sto → Res (List T)
  | [], s => .ok [] s
  | t :: ts, s => (f t s).bind fun r s1 => (mapRes f ts s1).bind fun q s2 => .ok (consO r q) s2
def rangeT (i j : Int) : List T := (List.range (j - i).toNat).map fun (k : Nat) => T.int (i + k)
def bnd (i : Int) : Bool := decide (-(2 ^ 62) ≤ i) && decide (i < 2 ^ 62)
inductive Md where | v | t | i | j
def R.sq3 : R → Option (List T)
  | .val (.lst ts) => some ts
  | .val (.tup ts) => some ts
  | _ => none
def fin (m : Md) (r : Res R) : Res R := match m with
  | .v => r
  | .t => r.bind fun x s => .of ((tru x).map fun k => .val (.bl k)) s
  | .i => r.bind fun x s => .of (x.sq2.map fun ts => .val (.lst ts)) s
  | .j => r.bind fun x s => .of (x.sq3.map fun ts => .val (.lst ts)) s
@[simp] theorem fin_v (r : Res R) : fin .v r = r := rfl
@[simp] theorem fin_t (r : Res R) : fin .t r = r.bind fun x s => .of ((tru x).map fun k => .val (.bl k)) s := rfl
@[simp] theorem fin_j (r : Res R) : fin .j r = r.bind fun x s => .of (x.sq3.map fun ts => .val (.lst ts)) s := rfl
@[simp] theorem fin_i (r : Res R) : fin .i r = r.bind fun x s => .of (x.sq2.map fun ts => .val (.lst ts)) s := rfl
def onB (x : R) (a b : Res R) : Res R := match x with
  | .val (.bl true) => a
  | .val (.bl false) => b
  | _ => .stuck
def onI (x : R) (f : Int → Res R) : Res R := match x with
  | .val (.int i) => f i
  | _ => .stuck
def onL (x : R) (f : List T → Res R) : Res R := match x with
  | .val (.lst ts) => f ts
  | _ => .stuck
def onV (x : R) (f : T → Res (List T)) : Res (List T) := match x with
  | .val t => f t
  | _ => .stuck
def one (m : Res R) : Res (Option T) := match m with
  | .ok r s => .of (r.val?.map some) s
  | _ => .stuck
def onO {α β : Type} (o : Option α) (f : α → Res β) : Res β := match o with
  | some a => f a
  | none => .stuck
def onN (x : R) (m : Res R) : Res R := match x with
  | .val .non => m
  | _ => .stuck
open Classical in
noncomputable def keepC {α : Type} (l : Nat) (ts : List T) (m : Res α) : Res α := match m with
  | .ok a s => if s[l]? = some (.lst ts) then .ok a s else .stuck
  | r => r
def rngM (m : Md) (r : Res R) : Res R := match m with | .i => r | .j => r | _ => .stuck
mutual
noncomputable def ev (C : Cf) : E → Md → Fr → Sto → Res R
  | .var i, m, σ, s => fin m (.of (look σ i) s)
  | .cst t, m, _, s => fin m (.ok (.val t) s)
  | .glb _ i, m, _, s => fin m (.ok (.val (.int i)) s)
  | .bin o a b, m, σ, s => fin m ((ev C a .v σ s).bind fun x s1 => (ev C b .v σ s1).bind fun y s2 => .of (opR o x y) s2)
  | .neg a, m, σ, s => fin m ((ev C a .v σ s).bind fun x s1 => .of (x.int?.map fun i => .val (.int (-i))) s1)
  | .not a, .t, σ, s => (ev C a .t σ s).bind fun x s1 => onB x (.ok (.val (.bl false)) s1) (.ok (.val (.bl true)) s1)
  | .not a, m, σ, s => fin m ((ev C a .v σ s).bind fun x s1 => .of ((tru x).map fun k => .val (.bl (!k))) s1)
  | .cmp c a b, m, σ, s => fin m ((ev C a .v σ s).bind fun x s1 => (ev C b .v σ s1).bind fun y s2 => .of ((cmpR c x y).map fun k => .val (.bl k)) s2)
  | .and a b, .t, σ, s => (ev C a .t σ s).bind fun x s1 => onB x (ev C b .t σ s1) (.ok (.val (.bl false)) s1)
  | .or a b, .t, σ, s => (ev C a .t σ s).bind fun x s1 => onB x (.ok (.val (.bl true)) s1) (ev C b .t σ s1)
  | .and a b, m, σ, s => fin m ((ev C a .v σ s).bind fun x s1 => onB x (ev C b .v σ s1) (.ok (.val (.bl false)) s1))
  | .or a b, m, σ, s => fin m ((ev C a .v σ s).bind fun x s1 => onB x (.ok (.val (.bl true)) s1) (ev C b .v σ s1))
  | .ife c a b, m, σ, s => fin m ((ev C c .t σ s).bind fun x s1 => onB x (ev C a .v σ s1) (ev C b .v σ s1))
  | .tup es, m, σ, s => fin m ((evs C es σ s).bind fun ts s1 => .ok (.val (.tup ts)) s1)
  | .lst es, m, σ, s => fin m ((evs C es σ s).bind fun ts s1 => .ok (.val (.lst ts)) s1)
  | .sub a b, m, σ, s => fin m ((ev C a .v σ s).bind fun x s1 => (ev C b .v σ s1).bind fun y s2 => onI y fun i => .of ((subR (x.dr s2) i).map .val) s2)
  | .cutL a l, m, σ, s => fin m ((ev C a .v σ s).bind fun x s1 => (ev C l .v σ s1).bind fun y s2 => onI y fun i => .of (cutR (x.dr s2) (some i) none) s2)
  | .cutU a h, m, σ, s => fin m ((ev C a .v σ s).bind fun x s1 => (ev C h .v σ s1).bind fun y s2 => onI y fun i => .of (cutR (x.dr s2) none (some i)) s2)
  | .cutLU a l h, m, σ, s => fin m ((ev C a .v σ s).bind fun x s1 => (ev C l .v σ s1).bind fun y s2 => onI y fun i => (ev C h .v σ s2).bind fun z s3 => onI z fun j => .of (cutR (x.dr s3) (some i) (some j)) s3)
  | .rev a, m, σ, s => fin m ((ev C a .v σ s).bind fun x s1 => .of (x.seq.map fun ts => .val (.lst ts.reverse)) s1)
  | .b1 f a, m, σ, s => fin m ((ev C a .v σ s).bind fun x s1 => .of (b1R f (x.dr s1)) s1)
  | .mn2 a b, m, σ, s => fin m ((ev C a .v σ s).bind fun x s1 => (ev C b .v σ s1).bind fun y s2 => .of (do let i ← x.int?; let j ← y.int?; some (.val (.int (if j < i then j else i)))) s2)
  | .mx2 a b, m, σ, s => fin m ((ev C a .v σ s).bind fun x s1 => (ev C b .v σ s1).bind fun y s2 => .of (do let i ← x.int?; let j ← y.int?; some (.val (.int (if j > i then j else i)))) s2)
  | .mxd a d, m, σ, s => fin m ((ev C a .v σ s).bind fun x s1 => (ev C d .v σ s1).bind fun y s2 => .of (do let ts ← x.seq; let is ← asInts ts; let d ← y.int?; some (.val (.int ((maxI is).getD d)))) s2)
  | .mnd a d, m, σ, s => fin m ((ev C a .v σ s).bind fun x s1 => (ev C d .v σ s1).bind fun y s2 => .of (do let ts ← x.seq; let is ← asInts ts; let d ← y.int?; some (.val (.int ((minI is).getD d)))) s2)
  | .mnk a i k, m, σ, s => fin m ((ev C a .v σ s).bind fun x s1 => onO x.seq fun ts =>
      (mapRes (fun t s => one (ev C k .v (put σ i t) s)) ts s1).bind fun ks s2 => .of (do let is ← asTups ks; (minBy HT.lexLt (is.zip ts)).map .val) s2)
  | .sok _ _ _, _, _, _ => .stuck
  | .isi a c, m, σ, s => fin m ((ev C a .v σ s).bind fun x s1 => .of ((isiX C.sub (x.dr s1) c).map fun k => .val (.bl k)) s1)
  | .call f es ds, m, σ, s => fin m ((evr C es σ s).bind fun rs s1 => C.cf f (rs ++ ds.map .val) s1)
  | .comp e g it, m, σ, s => fin m ((ev C it .i σ s).bind fun x s1 => onL x fun ts => (mapRes (fun t s => onO (bindTg σ g t) fun σ' => one (ev C e .v σ' s)) ts s1).bind fun q s2 => .ok (.val (.lst q)) s2)
  | .compIf e g it c, m, σ, s => fin m ((ev C it .i σ s).bind fun x s1 => onL x fun ts => (mapRes (fun t s => onO (bindTg σ g t) fun σ' =>
      match ev C c .t σ' s with
      | .ok (.val (.bl true)) s2 => one (ev C e .v σ' s2)
      | .ok (.val (.bl false)) s2 => .ok none s2
      | _ => .stuck) ts s1).bind fun q s2 => .ok (.val (.lst q)) s2)
  | .rng1 a, m, σ, s => rngM m ((ev C a .v σ s).bind fun x s1 => onI x fun j => if bnd j && decide (j ≤ lim) then .ok (.val (.lst (rangeT 0 j))) s1 else .stuck)
  | .rng2 a b, m, σ, s => rngM m ((ev C a .v σ s).bind fun x s1 => onI x fun i => (ev C b .v σ s1).bind fun y s2 => onI y fun j => if bnd i && bnd j && decide (j - i ≤ lim) then .ok (.val (.lst (rangeT i j))) s2 else .stuck)
  | .enm a, m, σ, s => rngM m ((ev C a .v σ s).bind fun x s1 => onL x fun ts => .ok (.val (.lst (enT 0 ts))) s1)
  | .zip a b, m, σ, s => rngM m ((ev C a .v σ s).bind fun x s1 => (ev C b .v σ s1).bind fun y s2 => .of (do let ts ← x.sq3; let us ← y.sq3; some (.val (.lst (ziT ts us)))) s2)
  | .fld a c f, m, σ, s => fin m ((ev C a .v σ s).bind fun x s1 => .of ((fldR s1 x c f).map .val) s1)
  | .cell a, m, σ, s => fin m ((ev C a .v σ s).bind fun x s1 => onL x fun ts => .ok (.val (.loc s1.length)) (s1 ++ [.lst ts]))
  | .new c f n es ds, m, σ, s => fin m ((evr C es σ s).bind fun rs s1 => (C.cf f (.val (.loc s1.length) :: rs ++ ds.map .val) (s1 ++ [.ins c (List.replicate n none)])).bind fun r s2 => onN r (.ok (.val (.loc s1.length)) s2))
  | .meth a c f es ds, m, σ, s => fin m ((ev C a .v σ s).bind fun x s1 => onO (x.locI s1 c) fun _ => (evr C es σ s1).bind fun rs s2 => C.cf f (x :: rs ++ ds.map .val) s2)
  | .compC e g it, m, σ, s => fin m ((ev C it .v σ s).bind fun x s1 => onO (x.locL s1) fun p => (mapRes (fun t s => onO (bindTg σ g t) fun σ' => keepC p.1 p.2 (one (ev C e .v σ' s))) p.2 s1).bind fun q s2 => .ok (.val (.lst q)) s2)
  | .cmpD c a b, m, σ, s => fin m ((ev C a .v σ s).bind fun x s1 => (ev C b .v σ s1).bind fun y s2 => .of ((cmpR c (x.dr s2) (y.dr s2)).map fun k => .val (.bl k)) s2)
noncomputable def evs (C : Cf) : List E → Fr → Sto → Res (List T)
  | [], _, s => .ok [] s
  | e :: es, σ, s => (ev C e .v σ s).bind fun x s1 => onV x fun t => (evs C es σ s1).bind fun ts s2 => .ok (t :: ts) s2
noncomputable def evr (C : Cf) : List E → Fr → Sto → Res (List R)
  | [], _, s => .ok [] s
  | e :: es, σ, s => (ev C e .v σ s).bind fun x s1 => (evr C es σ s1).bind fun xs s2 => .ok (x :: xs) s2
end
def frz (σ : Fr) (i : Nat) : Fr := match σ[i]? with
  | some (some (.own ts)) => σ.set i (some (.val (.lst ts)))
  | _ => σ
def setOwn (σ : Fr) (i : Nat) (ts : List T) : Fr := σ.set i (some (.own ts))
def ownAt (σ : Fr) (i : Nat) : Option (List T) := match σ[i]? with
  | some (some (.own ts)) => some ts
  | _ => none
def R.sto (r : R) : Option T := r.val?
def Res.st (m : Res R) (σ : Fr) (k : R → Sto → SR) : SR := match m with
  | .stuck => .stuck
  | .ok a s => k a s
  | .exc c s => .exc c σ s
@[simp] theorem Res.st_ok (a : R) (s : Sto) (σ : Fr) (k : R → Sto → SR) : (Res.ok a s).st σ k = k a s := rfl
@[simp] theorem Res.st_exc (c : Nat) (s : Sto) (σ : Fr) (k : R → Sto → SR) : (Res.exc c s).st σ k = .exc c σ s := rfl
def SR.bind (m : SR) (k : Fr → Sto → SR) : SR := match m with
  | .next σ s => k σ s
  | r => r
@[simp] theorem SR.bind_next (σ : Fr) (s : Sto) (k : Fr → Sto → SR) : (SR.next σ s).bind k = k σ s := rfl
@[simp] theorem SR.bind_ret (r : R) (s : Sto) (k : Fr → Sto → SR) : (SR.ret r s).bind k = .ret r s := rfl
@[simp] theorem SR.bind_retO (ts : List T) (s : Sto) (k : Fr → Sto → SR) : (SR.retO ts s).bind k = .retO ts s := rfl
@[simp] theorem SR.bind_exc (c : Nat) (σ : Fr) (s : Sto) (k : Fr → Sto → SR) : (SR.exc c σ s).bind k = .exc c σ s := rfl
@[simp] theorem SR.bind_stuck (k : Fr → Sto → SR) : SR.stuck.bind k = .stuck := rfl
def onS {α : Type} (o : Option α) (f : α → SR) : SR := match o with
  | some a => f a
  | none => .stuck
@[simp] theorem onS_some {α : Type} (a : α) (f : α → SR) : onS (some a) f = f a := rfl
@[simp] theorem onS_none {α : Type} (f : α → SR) : onS none f = .stuck := rfl
def onBS (x : R) (a b : SR) : SR := match x with
  | .val (.bl true) => a
  | .val (.bl false) => b
  | _ => .stuck
def R.lst? : R → Option (List T)
  | .val (.lst ts) => some ts
  | _ => none
def forL (g : Tg) (body : Fr → Sto → SR) : List T → Fr → Sto → SR
  | [], σ, s => .next σ s
  | t :: ts, σ, s => onS (bindTg σ g t) fun σ' => (body σ' s).bind fun σ2 s2 => forL g body ts σ2 s2
open Classical in
noncomputable def forC (g : Tg) (body : Fr → Sto → SR) (l : Nat) (all : List T) : List T → Fr → Sto → SR
  | [], σ, s => if s[l]? = some (.lst all) then .next σ s else .stuck
  | t :: ts, σ, s => if s[l]? = some (.lst all) then onS (bindTg σ g t) fun σ' => (body σ' s).bind fun σ2 s2 => forC g body l all ts σ2 s2 else .stuck
def SR.nox (r : SR) : SR := match r with
  | .exc _ _ _ => .stuck
  | r => r
def lock (σ : Fr) (i : Nat) : Fr := match σ[i]? with
  | some (some (.own ts)) => σ.set i (some (.lck ts))
  | _ => σ
def unlock (σ : Fr) (i : Nat) : Fr := match σ[i]? with
  | some (some (.lck ts)) => σ.set i (some (.own ts))
  | _ => σ
def SR.unlock (r : SR) (i : Nat) : SR := match r with
  | .next σ s => .next (IP.unlock σ i) s
  | .exc c σ s => .exc c (IP.unlock σ i) s
  | r => r
def isOwn (σ : Fr) (i : Nat) : Bool := match σ[i]? with
  | some (some (.own _)) => true
  | _ => false
def freshE (C : Cf) : E → Bool
  | .lst _ => true | .comp _ _ _ => true | .compIf _ _ _ _ => true | .b1 .list _ => true | .rev _ => true | .bin .add _ _ => true | .call f _ _ => C.fr f | _ => false
mutual
noncomputable def ex (C : Cf) : S → Fr → Sto → SR
  | .asg i e, σ, s => (ev C e .v σ s).st σ fun x s1 => onS x.val? fun t => .next (put σ i t) s1
  | .asgT is e, σ, s => (ev C e .v σ s).st σ fun x s1 => onS x.tup? fun ts => onS (puts σ is ts) fun σ' => .next σ' s1
  | .mk i e, σ, s => if freshE C e then (ev C e .v σ s).st σ fun x s1 => onS x.lst? fun ts => .next (setOwn σ i ts) s1 else .stuck
  | .app i e, σ, s => onS (ownAt σ i) fun ts => (ev C e .v σ s).st σ fun x s1 => onS x.val? fun t => if ts.length < lim then .next (setOwn σ i (ts ++ [t])) s1 else .stuck
  | .ext i e, σ, s => onS (ownAt σ i) fun ts => (ev C e .v σ s).st σ fun x s1 => onS x.lst? fun us => if ts.length + us.length ≤ lim then .next (setOwn σ i (ts ++ us)) s1 else .stuck
  | .put i j e, σ, s => onS (ownAt σ i) fun ts => (ev C e .v σ s).st σ fun x s1 => onS x.val? fun t => (ev C j .v σ s1).st σ fun y s2 => onS y.int? fun k => onS (L2.ixN ts.length k) fun n => .next (setOwn σ i (ts.set n t)) s2
  | .pop k i, σ, s => onS (ownAt σ i) fun ts => onS ts.getLast? fun t => .next (put (setOwn σ i ts.dropLast) k t) s
  | .frz i, σ, s => .next (frz σ i) s
  | .ifs c a b, σ, s => (ev C c .t σ s).st σ fun x s1 => onBS x (exs C a σ s1) (exs C b σ s1)
  | .whl c b, σ, s => C.wl (fun σ s => (ev C c .t σ s).bind fun x s1 => .of (match x with | .val (.bl k) => some k | _ => none) s1) (fun σ s => exs C b σ s) σ s
  | .for_ g it b, σ, s => match it with
    | .var i => (ev C (.var i) .i σ s).st σ fun x s1 => onS x.lst? fun ts => if isOwn σ i then (forL g (fun σ s => exs C b σ s) ts (lock σ i) s1).unlock i else forL g (fun σ s => exs C b σ s) ts σ s1
    | it => (ev C it .j σ s).st σ fun x s1 => onS x.lst? fun ts => forL g (fun σ s => exs C b σ s) ts σ s1
  | .ret e, σ, s => (ev C e .v σ s).st σ fun x s1 => .ret x s1
  | .retO e, σ, s => if freshE C e then (ev C e .v σ s).st σ fun x s1 => onS x.lst? fun ts => .retO ts s1 else .stuck
  | .retV i, σ, s => onS (ownAt σ i) fun ts => .retO ts s
  | .exp e, σ, s => (ev C e .v σ s).st σ fun _ s1 => .next σ s1
  | .raise c, σ, s => .exc c σ s
  | .try_ b c nm h, σ, s => match exs C b σ s with
    | .exc d σ1 s1 => if C.sub d c then (match nm with
        | none => (exs C h σ1 s1).nox
        | some i => (exs C h (put σ1 i (.exc d)) s1).nox.bind fun σ2 s2 => .next (σ2.set i none) s2) else .exc d σ1 s1
    | r => r
  | .putL a j e, σ, s => (ev C e .v σ s).st σ fun x s1 => onS x.val? fun t => (ev C a .v σ s1).st σ fun y s2 => (ev C j .v σ s2).st σ fun z s3 => onS (y.locL s3) fun p => onS z.int? fun k => onS (L2.ixN p.2.length k) fun n => .next σ (s3.set p.1 (.lst (p.2.set n t)))
  | .appL a e, σ, s => (ev C a .v σ s).st σ fun y s1 => onS (y.locL s1) fun _ => (ev C e .v σ s1).st σ fun x s2 => onS x.val? fun t => onS (y.locL s2) fun p => if p.2.length < lim then .next σ (s2.set p.1 (.lst (p.2 ++ [t]))) else .stuck
  | .setF a c f e, σ, s => (ev C e .v σ s).st σ fun x s1 => onS x.val? fun t => (ev C a .v σ s1).st σ fun y s2 => onS (y.locI s2 c) fun p => if f < p.2.length then .next σ (s2.set p.1 (.ins c (p.2.set f (some t)))) else .stuck
  | .popL a, σ, s => (ev C a .v σ s).st σ fun y s1 => onS (y.locL s1) fun p => if p.2.isEmpty then .stuck else .next σ (s1.set p.1 (.lst p.2.dropLast))
  | .clrL a, σ, s => (ev C a .v σ s).st σ fun y s1 => onS (y.locL s1) fun p => .next σ (s1.set p.1 (.lst []))
  | .forC g it b, σ, s => (ev C it .v σ s).st σ fun x s1 => onS (x.locL s1) fun p => forC g (fun σ s => exs C b σ s) p.1 p.2 p.2 σ s1
  | .pass, σ, s => .next σ s
noncomputable def exs (C : Cf) : List S → Fr → Sto → SR
  | [], σ, s => .next σ s
  | a :: r, σ, s => (ex C a σ s).bind fun σ1 s1 => exs C r σ1 s1
end
structure Fn where
  pars : Nat
  size : Nat
  fr : Bool
  body : List S
def ofR : R → B
  | .val t => .val t
  | .bor ts => .bor ts
def enter (F : Fn) (rs : List R) : Fr := rs.map (fun r => some (ofR r)) ++ List.replicate (F.size - rs.length) none
def leave (x fr : Bool) : SR → Res R
  | .ret r s => if fr then .stuck else .ok r s
  | .retO ts s => if fr then .ok (.val (.lst ts)) s else .stuck
  | .next _ s => if fr then .stuck else .ok (.val .non) s
  | .exc c _ s => if x then .exc c s else .stuck
  | .stuck => .stuck
def whileN (c : Fr → Sto → Res Bool) (b : Fr → Sto → SR) : Nat → Fr → Sto → SR
  | 0, _, _ => .stuck
  | n + 1, σ, s => match c σ s with
    | .stuck => .stuck
    | .exc d s1 => .exc d σ s1
    | .ok false s1 => .next σ s1
    | .ok true s1 => (b σ s1).bind fun σ2 s2 => whileN c b n σ2 s2
open Classical in
noncomputable def whileL (c : Fr → Sto → Res Bool) (b : Fr → Sto → SR) (σ : Fr) (s : Sto) : SR :=
  if h : ∃ n, whileN c b n σ s ≠ .stuck then whileN c b (choose h) σ s else .stuck
def frOf (fs : List Fn) (f : Nat) : Bool := match fs[f]? with
  | some F => F.fr
  | none => false
noncomputable def run (x : Bool) (fs : List Fn) (sub : Nat → Nat → Bool) (wl : (Fr → Sto → Res Bool) → (Fr → Sto → SR) → Fr → Sto → SR) : Nat → Nat → List R → Sto → Res R
  | 0, _, _, _ => .stuck
  | k + 1, f, rs, s => match fs[f]? with
    | none => .stuck
    | some F => if rs.length = F.pars then leave x F.fr (exs ⟨run x fs sub wl k, sub, frOf fs, wl⟩ F.body (enter F rs) s) else .stuck
end IP
end
section
set_option Elab.async false
set_option linter.all false
set_option maxRecDepth 100000
namespace IP
open PySem L2
structure Gx where
  K : PySem.W.Frag
  cA : Nat → Addr
  iA : Nat → Addr
  nm : Nat → List Str
structure Wo where
  n : Nat
  io : Nat → Addr
  Z : Addr → Prop
def errAt (a : Addr) (C : Addr) : Heap → Prop := fun h => ∃ o, h.get? a = some o ∧ o.cls = .ref C
section
variable (G : Gx)
mutual
def Rep (w : Wo) (H : Hp) : T → V → Prop
  | .non, v => v = .non
  | .bl b, v => v = .bl b
  | .int i, v => v = .int i
  | .str x, v => v = .str x
  | .tup ts, v => ∃ a vs, v = .ref a ∧ H a = some (.tup vs) ∧ Reps w H ts vs
  | .lst ts, v => ∃ a vs, v = .ref a ∧ w.Z a ∧ Rd H a (.lst vs) ∧ Reps w H ts vs
  | .loc l, v => l < w.n ∧ v = .ref (w.io l)
  | .exc c, v => ∃ a, v = .ref a ∧ H a = some (.ext (errAt a (G.cA c)))
def Reps (w : Wo) (H : Hp) : List T → List V → Prop
  | [], vs => vs = []
  | t :: ts, vs => ∃ v r, vs = v :: r ∧ Rep w H t v ∧ Reps w H ts r
end
end
def notLoc (w : Wo) (a : Addr) : Prop := ∀ l, l < w.n → a ≠ w.io l
structure Le (w w' : Wo) (H H' : Hp) : Prop where
  n : w.n ≤ w'.n
  io : ∀ l, l < w.n → w'.io l = w.io l
  Z : ∀ a, w.Z a → w'.Z a
  keep : ∀ a o, H a = some o → notLoc w a → H' a = some o
  newL : ∀ l, w.n ≤ l → l < w'.n → H (w'.io l) = none
  newZ : ∀ a, w'.Z a → w.Z a ∨ H a = none
  some_ : ∀ a, H a ≠ none → H' a ≠ none
theorem Le.refl (w : Wo) (H : Hp) : Le w w H H := ⟨Nat.le_refl _, fun _ _ => rfl, fun _ z => z, fun _ _ e _ => e, fun l a b => absurd (Nat.lt_of_lt_of_le b a) (Nat.lt_irrefl _), fun _ z => .inl z, fun _ z => z⟩
theorem Le.trans {w w1 w2 : Wo} {H H1 H2 : Hp} (a : Le w w1 H H1) (b : Le w1 w2 H1 H2) : Le w w2 H H2 where
  n := Nat.le_trans a.n b.n
  io := fun l h => (b.io l (Nat.lt_of_lt_of_le h a.n)).trans (a.io l h)
  Z := fun x z => b.Z x (a.Z x z)
  keep := fun x o e nl => b.keep x o (a.keep x o e nl) fun l hl q => by
    by_cases h : l < w.n
    · exact nl l h (q.trans (a.io l h))
    · have := a.newL l (Nat.le_of_not_lt h) hl
      rw [← q, e] at this
      cases this
  newL := fun l h1 h2 => by
    by_cases h : l < w1.n
    · rw [b.io l h]
      exact a.newL l h1 h
    · have q := b.newL l (Nat.le_of_not_lt h) h2
      cases e : H (w2.io l) with
      | none => rfl
      | some o => exact absurd q (a.some_ _ (by rw [e]; intro z; cases z))
  newZ := fun x z => by
    rcases b.newZ x z with z | z
    · exact a.newZ x z
    · refine .inr ?_
      cases e : H x with
      | none => rfl
      | some o => exact absurd z (a.some_ x (by rw [e]; intro q; cases q))
  some_ := fun x z => b.some_ x (a.some_ x z)
section
variable {G : Gx}
def KvOk (nm : List Str) (kvs : List (Str × V)) : Prop := (kvs.map (·.1)).Nodup ∧ ∀ x ∈ kvs.map (·.1), x ∈ nm
def CellOk (G : Gx) (w : Wo) (H : Hp) (a : Addr) : Cell → Prop
  | .lst ts => ∃ vs, H a = some (.lst vs) ∧ Reps G w H ts vs
  | .ins c fs => ∃ dx kvs, H a = some (.ins (G.iA c) dx kvs) ∧ KvOk (G.nm c) kvs ∧ ∀ (i : Nat) (x : Str) (t : T), (G.nm c)[i]? = some x → fs[i]? = some (some t) → ∃ v, kvs.lookup x = some v ∧ Rep G w H t v
structure StoOk (G : Gx) (w : Wo) (H : Hp) (s : Sto) : Prop where
  len : s.length = w.n
  inj : ∀ l m, l < w.n → m < w.n → w.io l = w.io m → l = m
  nz : ∀ l, l < w.n → ¬ w.Z (w.io l)
  cell : ∀ l c, s[l]? = some c → CellOk G w H (w.io l) c
  zt : ∀ a, w.Z a → ∃ vs, Rd H a (.lst vs)
theorem StoOk.loc {w : Wo} {H : Hp} {s : Sto} (S : StoOk G w H s) {l : Nat} (h : l < w.n) : (∃ vs, H (w.io l) = some (.lst vs)) ∨ ∃ c dx kvs, H (w.io l) = some (.ins c dx kvs) := by
  have hl : l < s.length := by rw [S.len]; exact h
  have q := S.cell l s[l] (List.getElem?_eq_getElem hl)
  cases e : s[l] with
  | lst ts => rw [e] at q; obtain ⟨vs, q, _⟩ := q; exact .inl ⟨vs, q⟩
  | ins c fs => rw [e] at q; obtain ⟨dx, kvs, q, _⟩ := q; exact .inr ⟨_, dx, kvs, q⟩
theorem StoOk.notLoc {w : Wo} {H : Hp} {s : Sto} (S : StoOk G w H s) {a : Addr} {o : HO} (e : H a = some o) (h1 : ∀ vs, o ≠ .lst vs) (h2 : ∀ c dx kvs, o ≠ .ins c dx kvs) : IP.notLoc w a := fun l hl q => by
  subst q
  rcases S.loc hl with ⟨vs, z⟩ | ⟨c, dx, kvs, z⟩
  · rw [e] at z; exact h1 vs (Option.some.inj z)
  · rw [e] at z; exact h2 c dx kvs (Option.some.inj z)
theorem StoOk.zLoc {w : Wo} {H : Hp} {s : Sto} (S : StoOk G w H s) {a : Addr} (z : w.Z a) : IP.notLoc w a := fun l hl q => S.nz l hl (q ▸ z)
theorem StoOk.fresh {w : Wo} {H : Hp} {s : Sto} (S : StoOk G w H s) {a : Addr} (h : H a = none) : ¬ w.Z a ∧ IP.notLoc w a := by
  refine ⟨fun z => ?_, fun l hl q => ?_⟩
  · obtain ⟨vs, r | ⟨o, r⟩⟩ := S.zt a z
    · rw [h] at r; cases r
    · rw [h] at r; cases r
  · subst q
    rcases S.loc hl with ⟨vs, z⟩ | ⟨c, dx, kvs, z⟩ <;> (rw [h] at z; cases z)
theorem Rd.keep {w w' : Wo} {H H' : Hp} {a : Addr} {u : HO} (L : Le w w' H H') (nl : IP.notLoc w a) (r : Rd H a u) : Rd H' a u := by
  rcases r with r | ⟨o, r⟩
  · exact .inl (L.keep _ _ r nl)
  · exact .inr ⟨o, L.keep _ _ r nl⟩
mutual
theorem Rep.mono {w w' : Wo} {H H' : Hp} {s : Sto} (L : Le w w' H H') (S : StoOk G w H s) : ∀ (t : T) (v : V), Rep G w H t v → Rep G w' H' t v
  | .non, v, h => h
  | .bl b, v, h => h
  | .int i, v, h => h
  | .str x, v, h => h
  | .tup ts, v, ⟨a, vs, e, h, r⟩ => ⟨a, vs, e, L.keep _ _ h (S.notLoc h (fun _ z => by cases z) fun _ _ _ z => by cases z), Reps.mono L S ts vs r⟩
  | .lst ts, v, ⟨a, vs, e, z, h, r⟩ => ⟨a, vs, e, L.Z _ z, Rd.keep L (S.zLoc z) h, Reps.mono L S ts vs r⟩
  | .loc l, v, ⟨h, e⟩ => ⟨Nat.lt_of_lt_of_le h L.n, by rw [L.io l h]; exact e⟩
  | .exc c, v, ⟨a, e, h⟩ => ⟨a, e, L.keep _ _ h (S.notLoc h (fun _ z => by cases z) fun _ _ _ z => by cases z)⟩
theorem Reps.mono {w w' : Wo} {H H' : Hp} {s : Sto} (L : Le w w' H H') (S : StoOk G w H s) : ∀ (ts : List T) (vs : List V), Reps G w H ts vs → Reps G w' H' ts vs
  | [], vs, h => h
  | t :: ts, vs, ⟨v, r, e, h, q⟩ => ⟨v, r, e, Rep.mono L S t v h, Reps.mono L S ts r q⟩
end
theorem Reps.length {w : Wo} {H : Hp} : ∀ {ts : List T} {vs : List V}, Reps G w H ts vs → ts.length = vs.length
  | [], _, h => by rw [h]; rfl
  | t :: ts, _, ⟨v, r, e, _, q⟩ => by subst e; simp [Reps.length q]
theorem Reps.get {w : Wo} {H : Hp} : ∀ {ts : List T} {vs : List V} {i : Nat} {t : T}, Reps G w H ts vs → ts[i]? = some t → ∃ v, vs[i]? = some v ∧ Rep G w H t v
  | [], _, i, t, h, e => by simp at e
  | t :: ts, _, 0, u, ⟨v, r, e, h, q⟩, z => by subst e; simp at z; subst z; exact ⟨v, rfl, h⟩
  | t :: ts, _, i + 1, u, ⟨v, r, e, h, q⟩, z => by
    subst e
    obtain ⟨x, h1, h2⟩ := Reps.get q (i := i) (t := u) (by simpa using z)
    exact ⟨x, by simpa using h1, h2⟩
theorem Reps.get' {w : Wo} {H : Hp} {ts : List T} {vs : List V} {i : Nat} {v : V} (h : Reps G w H ts vs) (e : vs[i]? = some v) : ∃ t, ts[i]? = some t ∧ Rep G w H t v := by
  have hi : i < ts.length := by
    rw [h.length]
    exact (List.getElem?_eq_some_iff.mp e).1
  obtain ⟨u, h1, h2⟩ := h.get (List.getElem?_eq_getElem hi)
  rw [e] at h1
  cases h1
  exact ⟨_, List.getElem?_eq_getElem hi, h2⟩
theorem Reps.append {w : Wo} {H : Hp} : ∀ {ts us : List T} {vs ws : List V}, Reps G w H ts vs → Reps G w H us ws → Reps G w H (ts ++ us) (vs ++ ws)
  | [], us, _, ws, h, q => by rw [h]; exact q
  | t :: ts, us, _, ws, ⟨v, r, e, h, k⟩, q => by subst e; exact ⟨v, r ++ ws, rfl, h, Reps.append k q⟩
theorem Reps.set {w : Wo} {H : Hp} {t : T} {v : V} (rv : Rep G w H t v) : ∀ {ts : List T} {vs : List V} (i : Nat), Reps G w H ts vs → Reps G w H (ts.set i t) (vs.set i v)
  | [], _, i, h => by rw [h]; exact rfl
  | x :: ts, _, 0, ⟨y, r, e, h, k⟩ => by subst e; exact ⟨v, r, rfl, rv, k⟩
  | x :: ts, _, i + 1, ⟨y, r, e, h, k⟩ => by subst e; exact ⟨y, r.set i v, rfl, h, Reps.set rv i k⟩
theorem Reps.drop {w : Wo} {H : Hp} : ∀ {ts : List T} {vs : List V} (i : Nat), Reps G w H ts vs → Reps G w H (ts.drop i) (vs.drop i)
  | ts, vs, 0, h => h
  | [], _, i + 1, h => by rw [h]; exact rfl
  | x :: ts, _, i + 1, ⟨y, r, e, h, k⟩ => by subst e; exact Reps.drop i k
theorem Reps.take {w : Wo} {H : Hp} : ∀ {ts : List T} {vs : List V} (i : Nat), Reps G w H ts vs → Reps G w H (ts.take i) (vs.take i)
  | ts, vs, 0, h => by simp; exact rfl
  | [], _, i + 1, h => by rw [h]; exact rfl
  | x :: ts, _, i + 1, ⟨y, r, e, h, k⟩ => by subst e; exact ⟨y, r.take i, rfl, h, Reps.take i k⟩
theorem Reps.reverse {w : Wo} {H : Hp} : ∀ {ts : List T} {vs : List V}, Reps G w H ts vs → Reps G w H ts.reverse vs.reverse
  | [], _, h => by rw [h]; exact rfl
  | x :: ts, _, ⟨y, r, e, h, k⟩ => by
    subst e
    rw [List.reverse_cons, List.reverse_cons]
    exact Reps.append (Reps.reverse k) ⟨y, [], rfl, h, rfl⟩
theorem Reps.cut {w : Wo} {H : Hp} {ts : List T} {vs : List V} (h : Reps G w H ts vs) (lo hi : Option Int) : Reps G w H (cutT ts lo hi) (cutV vs lo hi) := by
  unfold cutT cutV
  rw [← h.length]
  exact (h.drop _).take _
def RepR (G : Gx) (w : Wo) (H : Hp) : R → V → Prop
  | .val t, v => Rep G w H t v
  | .bor ts, v => ∃ a vs, v = .ref a ∧ H a = some (.lst vs) ∧ Reps G w H ts vs ∧ notLoc w a
def RepD (G : Gx) (w : Wo) (H : Hp) : R → V → Prop
  | .val t, v => Rep G w H t v
  | .bor ts, v => ∃ a vs, v = .ref a ∧ H a = some (.lst vs) ∧ Reps G w H ts vs
theorem RepR.d {w : Wo} {H : Hp} : ∀ {r : R} {v : V}, RepR G w H r v → RepD G w H r v
  | .val t, v, h => h
  | .bor ts, v, ⟨a, vs, e, h, r, _⟩ => ⟨a, vs, e, h, r⟩
theorem RepR.dr {w : Wo} {H : Hp} {s : Sto} (S : StoOk G w H s) {r : R} {v : V} (h : RepR G w H r v) : RepD G w H (r.dr s) v := by
  unfold R.dr
  split
  · rename_i l
    obtain ⟨hl, e⟩ := h
    split
    · rename_i ts q
      obtain ⟨vs, h1, h2⟩ := S.cell l _ q
      exact ⟨w.io l, vs, e, h1, h2⟩
    · exact ⟨hl, e⟩
  · exact h.d
theorem RepR.mono {w w' : Wo} {H H' : Hp} {s : Sto} (L : Le w w' H H') (S : StoOk G w H s) : ∀ {r : R} {v : V}, RepR G w H r v → RepR G w' H' r v
  | .val t, v, h => Rep.mono L S t v h
  | .bor ts, v, ⟨a, vs, e, h, r, nl⟩ => ⟨a, vs, e, L.keep _ _ h nl, Reps.mono L S ts vs r, fun l hl q => by
      by_cases k : l < w.n
      · exact nl l k (q.trans (L.io l k))
      · have := L.newL l (Nat.le_of_not_lt k) hl
        rw [← q, h] at this
        cases this⟩
def RepRs (G : Gx) (w : Wo) (H : Hp) : List R → List V → Prop
  | [], vs => vs = []
  | t :: ts, vs => ∃ v r, vs = v :: r ∧ RepR G w H t v ∧ RepRs G w H ts r
theorem RepRs.mono {w w' : Wo} {H H' : Hp} {s : Sto} (L : Le w w' H H') (S : StoOk G w H s) : ∀ {ts : List R} {vs : List V}, RepRs G w H ts vs → RepRs G w' H' ts vs
  | [], vs, h => h
  | t :: ts, vs, ⟨v, r, e, h, q⟩ => ⟨v, r, e, RepR.mono L S h, RepRs.mono L S q⟩
theorem RepRs.length {w : Wo} {H : Hp} : ∀ {ts : List R} {vs : List V}, RepRs G w H ts vs → ts.length = vs.length
  | [], _, h => by rw [h]; rfl
  | t :: ts, _, ⟨v, r, e, _, q⟩ => by subst e; simp [RepRs.length q]
def ownL : B → Option (List T)
  | .own ts => some ts
  | .lck ts => some ts
  | _ => none
structure FrOk (G : Gx) (w : Wo) (H H₀ : Hp) (σ : Fr) (σV : St) : Prop where
  len : σ.length = σV.length
  val : ∀ (i : Nat) (t : T), σ[i]? = some (some (.val t)) → ∃ v, σV[i]? = some (some v) ∧ Rep G w H t v
  own : ∀ (i : Nat) (b : B) (ts : List T), σ[i]? = some (some b) → ownL b = some ts → ∃ a vs, σV[i]? = some (some (.ref a)) ∧ H a = some (.lst vs) ∧ Reps G w H ts vs ∧ H₀ a = none ∧ ¬ w.Z a ∧ notLoc w a
  apart : ∀ (i j : Nat) (b c : B) (ts us : List T) (a : Addr), i ≠ j → σ[i]? = some (some b) → ownL b = some ts → σ[j]? = some (some c) → ownL c = some us → σV[i]? = some (some (.ref a)) → σV[j]? = some (some (.ref a)) → False
  bor : ∀ (i : Nat) (ts : List T), σ[i]? = some (some (.bor ts)) → ∃ a vs, σV[i]? = some (some (.ref a)) ∧ H a = some (.lst vs) ∧ Reps G w H ts vs ∧ H₀ a ≠ none ∧ notLoc w a
theorem notLoc.mono {w w' : Wo} {H H' : Hp} (L : Le w w' H H') {a : Addr} (h : H a ≠ none) (nl : notLoc w a) : notLoc w' a := fun l hl q => by
  by_cases k : l < w.n
  · exact nl l k (q.trans (L.io l k))
  · have := L.newL l (Nat.le_of_not_lt k) hl
    rw [← q] at this
    exact h this
theorem FrOk.mono {w w' : Wo} {H H' H₀ : Hp} {s : Sto} {σ : Fr} {σV : St} (L : Le w w' H H') (S : StoOk G w H s) (F : FrOk G w H H₀ σ σV) : FrOk G w' H' H₀ σ σV where
  len := F.len
  val := fun i t e => let ⟨v, h1, h2⟩ := F.val i t e; ⟨v, h1, Rep.mono L S t v h2⟩
  own := fun i b ts e eb => by
    obtain ⟨a, vs, h1, h2, h3, h4, h5, h6⟩ := F.own i b ts e eb
    have hn : H a ≠ none := by rw [h2]; intro z; cases z
    refine ⟨a, vs, h1, L.keep _ _ h2 h6, Reps.mono L S ts vs h3, h4, fun z => ?_, notLoc.mono L hn h6⟩
    rcases L.newZ a z with z | z
    · exact h5 z
    · exact hn z
  apart := F.apart
  bor := fun i ts e => by
    obtain ⟨a, vs, h1, h2, h3, h4, h6⟩ := F.bor i ts e
    have hn : H a ≠ none := by rw [h2]; intro z; cases z
    exact ⟨a, vs, h1, L.keep _ _ h2 h6, Reps.mono L S ts vs h3, h4, notLoc.mono L hn h6⟩
structure Good (G : Gx) (w₀ : Wo) (H₀ : Hp) (w : Wo) (H : Hp) (σ : Fr) (s : Sto) (σV : St) : Prop where
  sto : StoOk G w H s
  fr : FrOk G w H H₀ σ σV
  ent : Le w₀ w H₀ H
theorem Good.step {w₀ w w' : Wo} {H₀ H H' : Hp} {σ : Fr} {s s' : Sto} {σV : St} (g : Good G w₀ H₀ w H σ s σV) (L : Le w w' H H') (S : StoOk G w' H' s') : Good G w₀ H₀ w' H' σ s' σV := ⟨S, g.fr.mono L g.sto, g.ent.trans L⟩
end
end IP
end
section
set_option Elab.async false
set_option linter.all false
set_option maxRecDepth 100000
namespace IP
open PySem PySem.Spec L2
structure Flt (stack : List Env) (h B : Heap) (e : Addr) (sh : Heap) : Prop where
  cov : ∀ b o, B.get? b = some o ↔ h.get? b = some o ∧ b ∉ frs stack
  keep : ∀ b o, h.get? b = some o → b ∉ frs stack → sh.get? b = some o
  slot : ∀ b o, h.get? b = some o → b ∈ frs stack → ∃ sl, sh.get? b = some { o with slots := sl }
  new : h.get? e = none
def Thrown (G : Gx) (X : Cx) (pins : List (Addr × Obj)) (σV : St) (H : Hp) (c : Nat) (u : Value) (sh : Shared) : Prop :=
  ∃ (e : Addr) (h B : Heap), u = .ref e ∧ Inv X pins σV H { sh with heap := h } ∧ Flt X.stack h B e sh.heap ∧ X.base.StaysIn B ∧
    ((∃ args, Heap.MadeExcOf h sh.heap e (.ref (G.cA c)) args) ∨ (∃ t, Heap.FlyingW B X.stack e (.ref (G.cA c)) t sh.heap) ∨
     ∃ t L, X.env.frame = some L ∧ Heap.HeldW B X.stack e (.ref (G.cA c)) t L sh.heap)
def Want (G : Gx) (X : Cx) (σV : St) (w : Wo) (H : Hp) (res : Res R) (Q : VK) : Prop := match res with
  | .stuck => False
  | .ok r s' => ∀ w' H' v, Le w w' H H' → StoOk G w' H' s' → RepR G w' H' r v → Q v H'
  | .exc c s' => ∀ w' H' pins u sh, Le w w' H H' → StoOk G w' H' s' → Thrown G X pins σV H' c u sh → X.xe u sh
section
variable {G : Gx} {X : Cx} {σV : St} {w w₀ : Wo} {H H₀ : Hp} {Q Q' : VK}
theorem Want.imp {res : Res R} (h : Want G X σV w H res Q) (q : ∀ v H', Q v H' → Q' v H') : Want G X σV w H res Q' := by
  cases res with
  | stuck => exact h
  | ok r s => exact fun w' H' v a b c => q _ _ (h w' H' v a b c)
  | exc c s => exact h
theorem Want.mono {res : Res R} {w1 : Wo} {H1 : Hp} (L : Le w w1 H H1) (h : Want G X σV w H res Q) : Want G X σV w1 H1 res Q := by
  cases res with
  | stuck => exact h
  | ok r s => exact fun w' H' v a b c => h w' H' v (L.trans a) b c
  | exc c s => exact fun w' H' pins u sh a b => h w' H' pins u sh (L.trans a) b
theorem Want.bind {m : Res R} {k : R → Sto → Res R} (h : Want G X σV w H (m.bind k) Q) :
    Want G X σV w H m fun v H1 => ∃ w1 r s1, Le w w1 H H1 ∧ StoOk G w1 H1 s1 ∧ RepR G w1 H1 r v ∧ Want G X σV w1 H1 (k r s1) Q := by
  cases m with
  | stuck => exact h
  | ok r s => exact fun w' H' v a b c => ⟨w', r, s, a, b, c, Want.mono a h⟩
  | exc c s => exact h
theorem Want.of {o : Option R} {s : Sto} (h : Want G X σV w H (Res.of o s) Q) : ∃ r, o = some r ∧ ∀ w' H' v, Le w w' H H' → StoOk G w' H' s → RepR G w' H' r v → Q v H' := by
  cases o with
  | none => exact h.elim
  | some r => exact ⟨r, rfl, h⟩
theorem PE.imp {e : Expr} {t t' : TE} (h : PE X e t) (q : ∀ σ H Q, t' σ H Q → t σ H Q) : PE X e t' := fun pins s σ H Q I z => h pins s σ H Q I (q _ _ _ z)
theorem PT.imp {e : Expr} {t t' : TT} (h : PT X e t) (q : ∀ σ H Q, t' σ H Q → t σ H Q) : PT X e t' := fun pins s σ H Q I z => h pins s σ H Q I (q _ _ _ z)
theorem PA.imp {e : List Expr} {t t' : TA} (h : PA X e t) (q : ∀ σ H Q, t' σ H Q → t σ H Q) : PA X e t' := fun pos pins s σ H Q I z => h pos pins s σ H Q I (q _ _ _ z)
def tV (G : Gx) (X : Cx) (C : Cf) (e : E) : TE := fun σV H Q => ∃ w₀ H₀ w σ s, Good G w₀ H₀ w H σ s σV ∧ Want G X σV w H (ev C e .v σ s) Q
def tT (G : Gx) (X : Cx) (C : Cf) (e : E) : TT := fun σV H Q => ∃ w₀ H₀ w σ s, Good G w₀ H₀ w H σ s σV ∧ Want G X σV w H (ev C e .t σ s) fun v H' => ∃ k, v = .bl k ∧ Q k H'
theorem zabl {a p : Addr} {o : HO} (e : H a = some o) (hp : H p = none) : a ≠ p := fun q => by rw [q, hp] at e; cases e
theorem Le.new {p : Addr} (hp : H p = none) (o : HO) : Le w w H (upd H p o) where
  n := Nat.le_refl _
  io := fun _ _ => rfl
  Z := fun _ z => z
  keep := fun a u e _ => by rw [upd_ne (zabl e hp)]; exact e
  newL := fun l a b => absurd (Nat.lt_of_lt_of_le b a) (Nat.lt_irrefl _)
  newZ := fun _ z => .inl z
  some_ := fun a z => by
    cases e : H a with
    | none => exact absurd e z
    | some u => rw [upd_ne (zabl e hp), e]; intro q; cases q
def Wo.addZ (w : Wo) (p : Addr) : Wo := { w with Z := fun a => w.Z a ∨ a = p }
theorem Le.newZ_ {p : Addr} (hp : H p = none) (o : HO) : Le w (w.addZ p) H (upd H p o) where
  n := Nat.le_refl _
  io := fun _ _ => rfl
  Z := fun _ z => .inl z
  keep := (Le.new (w := w) hp o).keep
  newL := (Le.new (w := w) hp o).newL
  newZ := fun a z => z.elim .inl fun q => .inr (q ▸ hp)
  some_ := (Le.new (w := w) hp o).some_
theorem CellOk.mono {w' : Wo} {H' : Hp} {s : Sto} (L : Le w w' H H') (S : StoOk G w H s) {a : Addr} (e : H' a = H a) : ∀ {c : Cell}, CellOk G w H a c → CellOk G w' H' a c
  | .lst ts, ⟨vs, h, r⟩ => ⟨vs, e.trans h, Reps.mono L S ts vs r⟩
  | .ins c fs, ⟨dx, kvs, h, z, k⟩ => ⟨dx, kvs, e.trans h, z, fun i x t h1 h2 => let ⟨v, q1, q2⟩ := k i x t h1 h2; ⟨v, q1, Rep.mono L S t v q2⟩⟩
theorem StoOk.grow {w' : Wo} {H' : Hp} {s : Sto} (S : StoOk G w H s) (L : Le w w' H H') (hn : w'.n = w.n) (hl : ∀ l, l < w.n → H' (w.io l) = H (w.io l)) (hz : ∀ a, w'.Z a → ∃ vs, Rd H' a (.lst vs)) : StoOk G w' H' s where
  len := S.len.trans hn.symm
  inj := fun l m h1 h2 e => by
    rw [hn] at h1 h2
    rw [L.io l h1, L.io m h2] at e
    exact S.inj l m h1 h2 e
  nz := fun l h z => by
    rw [hn] at h
    rw [L.io l h] at z
    rcases L.newZ _ z with q | q
    · exact S.nz l h q
    · rcases S.loc h with ⟨vs, y⟩ | ⟨c, dx, kvs, y⟩ <;> (rw [q] at y; cases y)
  cell := fun l c e => by
    have h : l < w.n := by rw [← S.len]; exact (List.getElem?_eq_some_iff.mp e).1
    rw [L.io l h]
    exact CellOk.mono L S (hl l h) (S.cell l c e)
  zt := hz
theorem Rd.upd {a p : Addr} {u o : HO} (hp : H p = none) (r : Rd H a u) : Rd (upd H p o) a u := by
  rcases r with r | ⟨q, r⟩
  · exact .inl (by rw [upd_ne (zabl r hp)]; exact r)
  · exact .inr ⟨q, by rw [upd_ne (zabl r hp)]; exact r⟩
theorem StoOk.new {s : Sto} {p : Addr} (S : StoOk G w H s) (hp : H p = none) (o : HO) : StoOk G w (L2.upd H p o) s :=
  S.grow (Le.new hp o) rfl (fun l h => upd_ne ((S.fresh hp).2 l h).symm) fun a z => let ⟨vs, r⟩ := S.zt a z; ⟨vs, Rd.upd hp r⟩
theorem StoOk.newZ {s : Sto} {p : Addr} (S : StoOk G w H s) (hp : H p = none) (vs : List V) : StoOk G (w.addZ p) (L2.upd H p (.lst vs)) s :=
  S.grow (Le.newZ_ hp _) rfl (fun l h => upd_ne ((S.fresh hp).2 l h).symm) fun a z => z.elim (fun z => let ⟨vs, r⟩ := S.zt a z; ⟨vs, Rd.upd hp r⟩) fun q => ⟨vs, .inl (by rw [q]; exact zaan)⟩
theorem zady {s : Sto} {ts : List T} {vs : List V} (S : StoOk G w H s) (r : Reps G w H ts vs) (h : ∀ w' H' v, Le w w' H H' → StoOk G w' H' s → RepR G w' H' (.val (.tup ts)) v → Q v H') (p : Addr) (hp : H p = none) : Q (.ref p) (L2.upd H p (.tup vs)) :=
  h w _ _ (Le.new hp _) (S.new hp _) ⟨p, vs, rfl, zaan, Reps.mono (Le.new hp _) S ts vs r⟩
theorem zabt {s : Sto} {ts : List T} {vs : List V} (S : StoOk G w H s) (r : Reps G w H ts vs) (h : ∀ w' H' v, Le w w' H H' → StoOk G w' H' s → RepR G w' H' (.val (.lst ts)) v → Q v H') (p : Addr) (hp : H p = none) : Q (.ref p) (L2.upd H p (.lst vs)) :=
  h _ _ _ (Le.newZ_ hp _) (S.newZ hp vs) ⟨p, vs, rfl, .inr rfl, .inl zaan, Reps.mono (Le.newZ_ hp _) S ts vs r⟩
def WantO (G : Gx) (X : Cx) (σV : St) (w : Wo) (H : Hp) (res : Res R) (Q : VK) : Prop := match res with
  | .ok (.val (.lst ts)) s' => ∀ w' H' a vs, Le w w' H H' → StoOk G w' H' s' → H' a = some (.lst vs) → Reps G w' H' ts vs → H a = none → ¬ w'.Z a → notLoc w' a → Q (.ref a) H'
  | .exc c s' => ∀ w' H' pins u sh, Le w w' H H' → StoOk G w' H' s' → Thrown G X pins σV H' c u sh → X.xe u sh
  | _ => False
def tO (G : Gx) (X : Cx) (C : Cf) (e : E) : TE := fun σV H Q => ∃ w₀ H₀ w σ s, Good G w₀ H₀ w H σ s σV ∧ WantO G X σV w H (ev C e .v σ s) Q
theorem fin_own {s : Sto} {ts : List T} {vs : List V} (S : StoOk G w H s) (r : Reps G w H ts vs) (h : ∀ w' H' a vs, Le w w' H H' → StoOk G w' H' s → H' a = some (.lst vs) → Reps G w' H' ts vs → H a = none → ¬ w'.Z a → notLoc w' a → Q (.ref a) H') (p : Addr) (hp : H p = none) : Q (.ref p) (L2.upd H p (.lst vs)) :=
  h w _ p vs (Le.new hp _) (S.new hp _) zaan (Reps.mono (Le.new hp _) S ts vs r) hp (S.fresh hp).1 (S.fresh hp).2
theorem RepD.seq {s : Sto} {x : R} {v : V} {ts : List T} (r : RepD G w H x v) (e : x.seq = some ts) : ∃ a vs, v = .ref a ∧ Rd H a (.lst vs) ∧ Reps G w H ts vs := by
  match x, e with
  | .val (.lst us), e => obtain ⟨a, vs, e1, _, h, q⟩ := r; cases e; exact ⟨a, vs, e1, h, q⟩
  | .bor us, e => obtain ⟨a, vs, e1, h, q⟩ := r; cases e; exact ⟨a, vs, e1, .inl h, q⟩
theorem RepR.seq {s : Sto} {x : R} {v : V} {ts : List T} (r : RepR G w H x v) (e : x.seq = some ts) : ∃ a vs, v = .ref a ∧ Rd H a (.lst vs) ∧ Reps G w H ts vs := RepD.seq (s := s) r.d e
theorem RepD.sq2 {x : R} {v : V} {ts : List T} (r : RepD G w H x v) (e : x.sq2 = some ts) : ∃ a vs, v = .ref a ∧ (Rd H a (.lst vs) ∨ H a = some (.tup vs)) ∧ Reps G w H ts vs := by
  match x, e with
  | .val (.lst us), e => obtain ⟨a, vs, e1, _, h, q⟩ := r; cases e; exact ⟨a, vs, e1, .inl h, q⟩
  | .val (.tup us), e => obtain ⟨a, vs, e1, h, q⟩ := r; cases e; exact ⟨a, vs, e1, .inr h, q⟩
  | .bor us, e => obtain ⟨a, vs, e1, h, q⟩ := r; cases e; exact ⟨a, vs, e1, .inl (.inl h), q⟩
theorem RepR.sq2 {x : R} {v : V} {ts : List T} (r : RepR G w H x v) (e : x.sq2 = some ts) : ∃ a vs, v = .ref a ∧ (Rd H a (.lst vs) ∨ H a = some (.tup vs)) ∧ Reps G w H ts vs := RepD.sq2 r.d e
theorem RepR.int {x : R} {v : V} {i : Int} (r : RepR G w H x v) (e : x.int? = some i) : v = .int i := by
  match x, e with
  | .val (.int j), e => cases e; exact r
theorem RepD.int {x : R} {v : V} {i : Int} (r : RepD G w H x v) (e : x.int? = some i) : v = .int i := by
  match x, e with
  | .val (.int j), e => cases e; exact r
end
end IP
end
section
set_option Elab.async false
set_option linter.all false
set_option maxRecDepth 100000
namespace IP
open PySem PySem.Spec L2
section
variable {G : Gx} {X : Cx} {C : Cf} {a b c : Expr} {a' b' c' : E} {pos : Pos}
theorem Rd.lst {pins : List (Addr × Obj)} {σ : St} {H : Hp} {s : Shared} {p : Addr} {xs : List V} (I : Inv X pins σ H s) (h : Rd H p (.lst xs)) :
    xs.length ≤ sizeLine ∧ ∃ (its : List Value) (n : Nat), Vals xs its ∧ xs.length = its.length ∧ s.heap.get? p = some { cls := .type "list", data := .seq its.toArray n } := by
  obtain ⟨z, its, n, r, e⟩ := Rd.ok h I.hok
  exact ⟨z, its, n, r, r.length, e⟩
theorem sV_var {i : Nat} {x : Str} (hN : X.N[i]? = some x) (hv : Vis X.env.scope x) (hd : (x == ("__debug__" : Str)) = false) (hcd : (x == ("__classdict__" : Str)) = false) : PE X (.Name x pos) (tV G X C (.var i)) := by
  refine PE.imp (pe_var hN hv hd hcd) ?_
  rintro σV H Q ⟨w₀, H₀, w, σ, s, g, h⟩
  obtain ⟨r, e, q⟩ := Want.of h
  unfold look at e
  split at e
  · rename_i t ht
    cases e
    obtain ⟨v, h1, h2⟩ := g.fr.val i t ht
    exact ⟨v, h1, q w H v (Le.refl _ _) g.sto h2⟩
  · rename_i ts ht
    cases e
    obtain ⟨p, vs, h1, h2, h3, _, _, h6⟩ := g.fr.own i _ ts ht rfl
    exact ⟨_, h1, q w H _ (Le.refl _ _) g.sto ⟨p, vs, rfl, h2, h3, h6⟩⟩
  · rename_i ts ht
    cases e
    obtain ⟨p, vs, h1, h2, h3, _, h6⟩ := g.fr.bor i ts ht
    exact ⟨_, h1, q w H _ (Le.refl _ _) g.sto ⟨p, vs, rfl, h2, h3, h6⟩⟩
  · rename_i ts ht
    cases e
    obtain ⟨p, vs, h1, h2, h3, _, _, h6⟩ := g.fr.own i _ ts ht rfl
    exact ⟨_, h1, q w H _ (Le.refl _ _) g.sto ⟨p, vs, rfl, h2, h3, h6⟩⟩
  · cases e
theorem tC_of {t : T} {v : V} (r : ∀ w H, Rep G w H t v) {σV : St} {H : Hp} {Q : VK} (h : tV G X C (.cst t) σV H Q) : tC v σV H Q := by
  obtain ⟨w₀, H₀, w, σ, s, g, h⟩ := h
  exact h w H v (Le.refl _ _) g.sto (r w H)
theorem sV_int {i j} : PE X (.Constant (.int i) j pos) (tV G X C (.cst (.int i))) := PE.imp pe_int fun _ _ _ h => tC_of (t := .int i) (v := .int i) (fun _ _ => rfl) h
theorem sV_bl {b j} : PE X (.Constant (.bool b) j pos) (tV G X C (.cst (.bl b))) := PE.imp pe_bl fun _ _ _ h => tC_of (t := .bl b) (v := .bl b) (fun _ _ => rfl) h
theorem sV_non {j} : PE X (.Constant .none j pos) (tV G X C (.cst .non)) := PE.imp pe_non fun _ _ _ h => tC_of (t := .non) (v := .non) (fun _ _ => rfl) h
def r2 (G : Gx) (f : R → R → Option R) : R2 := fun x y H Q => ∃ w s rx ry r, StoOk G w H s ∧ RepR G w H rx x ∧ RepR G w H ry y ∧ f rx ry = some r ∧ ∀ w' H' v, Le w w' H H' → StoOk G w' H' s → RepR G w' H' r v → Q v H'
theorem t2_of {f : R → R → Option R} {σV : St} {H : Hp} {Q : VK} (h : ∃ w₀ H₀ w σ s, Good G w₀ H₀ w H σ s σV ∧ Want G X σV w H ((ev C a' .v σ s).bind fun x s1 => (ev C b' .v σ s1).bind fun y s2 => .of (f x y) s2) Q) :
    tOp (r2 G f) (tV G X C a') (tV G X C b') σV H Q := by
  obtain ⟨w₀, H₀, w, σ, s, g, h⟩ := h
  refine ⟨w₀, H₀, w, σ, s, g, (Want.bind h).imp ?_⟩
  rintro x H1 ⟨w1, r1, s1, L1, S1, R1, h1⟩
  refine ⟨w₀, H₀, w1, σ, s1, g.step L1 S1, (Want.bind h1).imp ?_⟩
  rintro y H2 ⟨w2, r2, s2, L2, S2, R2, h2⟩
  obtain ⟨r, e, q⟩ := Want.of h2
  exact ⟨w2, s2, r1, r2, r, S2, R1.mono L2 S1, R2, e, q⟩
theorem s2 {f : R → R → Option R} {op : Operator} (ho : OpR X (binaryOp op) (r2 G f)) (ha : PE X a (tV G X C a')) (hb : PE X b (tV G X C b')) {e : E} (he : ∀ σ s, ev C e .v σ s = (ev C a' .v σ s).bind fun x s1 => (ev C b' .v σ s1).bind fun y s2 => .of (f x y) s2) :
    PE X (.BinOp a op b pos) (tV G X C e) := by
  refine PE.imp (pe_op ho ha hb) fun σV H Q h => ?_
  obtain ⟨w₀, H₀, w, σ, s, g, h⟩ := h
  rw [he] at h
  exact t2_of ⟨w₀, H₀, w, σ, s, g, h⟩
theorem s2c {f : R → R → Option R} {op : CmpOp} (ho : OpR X (compareOp op) (r2 G f)) (ha : PE X a (tV G X C a')) (hb : PE X b (tV G X C b')) (hm : behindInMarks op b = false) {e : E} (he : ∀ σ s, ev C e .v σ s = (ev C a' .v σ s).bind fun x s1 => (ev C b' .v σ s1).bind fun y s2 => .of (f x y) s2) :
    PE X (.Compare a [op] [b] pos) (tV G X C e) := by
  refine PE.imp (pe_cmpR ho ha hb hm) fun σV H Q h => ?_
  obtain ⟨w₀, H₀, w, σ, s, g, h⟩ := h
  rw [he] at h
  exact t2_of ⟨w₀, H₀, w, σ, s, g, h⟩
theorem zacc {j : Int} (h : j.natAbs < big) : j.natAbs.log2 < 1000 := by
  rcases Nat.eq_zero_or_pos j.natAbs with h0 | hp
  · rw [h0]; decide
  · refine (Nat.log2_lt (Nat.ne_of_gt hp)).mpr (Nat.lt_trans h ?_)
    unfold big
    decide +kernel
theorem zaew {k : Int} (h : k.natAbs < big) : Builtin.Int.intBits k ≤ 1000 := by
  unfold Builtin.Int.intBits
  split
  · exact Nat.zero_le _
  · have := zacc h
    omega
theorem mulB_ok {i j : Int} (h : mulB i j = true) : IntMulOk i j := by
  unfold mulB at h
  rw [Bool.or_eq_true, Bool.or_eq_true, Bool.and_eq_true, decide_eq_true_iff, decide_eq_true_iff, decide_eq_true_iff, decide_eq_true_iff] at h
  rcases h with (h | h) | ⟨h1, h2⟩
  · exact IntMulOk.of_left (intBits_le_64 (by omega) (by omega))
  · exact IntMulOk.of_right (intBits_le_64 (by omega) (by omega))
  · exact PyProof.Rows.mulOk_of_bits (zaew h1) (zaew h2) (by decide)
def opOf : Op → Operator
  | .add => .Add | .sub => .Sub | .mul => .Mult | .fdiv => .FloorDiv | .mod => .Mod | .pow => .Pow
theorem int_op (o : Op) (i j k : Int) (h : opI o i j = some k) : ∀ (t u : Tok) (s : Shared) (Q : Value → Shared → Prop) (E : Value → Shared → Prop), Q (.int k s.toks) { s with toks := s.toks + 1 } → wpAny (model X.prog X.w) X.A (binaryOp (opOf o) (.int i t) (.int j u)) Q E s := by
  intro t u s Q E q
  cases o with
  | add => cases h; exact PyProof.Rows.add_int q
  | sub => cases h; exact PyProof.Rows.sub_int q
  | mul =>
    simp only [opI] at h
    split at h
    · rename_i hm; cases h; exact PyProof.Rows.mul_int q (mulB_ok hm)
    · cases h
  | fdiv =>
    simp only [opI] at h
    split at h
    · rename_i hm; cases h; exact PyProof.Rows.floordiv_int hm.1 q (Or.inl (PyProof.noPylong_of_log2 (Nat.lt_trans (zacc hm.2) (by decide))))
    · cases h
  | mod =>
    simp only [opI] at h
    split at h
    · rename_i hm; cases h; exact PyProof.Rows.mod_int hm q
    · cases h
  | pow =>
    simp only [opI] at h
    split at h
    · rename_i hm
      cases h
      refine PyProof.Rows.pow_int hm.1 ?_ q
      have h1 := zaew hm.2.2
      have h2 : ((Builtin.Int.intBits i : Nat) : Int) * j ≤ 1000 * 100 := by
        refine Int.mul_le_mul (by omega) hm.2.1 hm.1 (by omega)
      omega
    · cases h
theorem op_ok (o : Op) : OpR X (binaryOp (opOf o)) (r2 G (opR o)) := by
  intro pins s σ H x y v u Q I rx ry h
  obtain ⟨w, st, x', y', r, S, Rx, Ry, e, q⟩ := h
  have intc : ∀ i j k, x' = .val (.int i) → y' = .val (.int j) → opI o i j = some k → r = .val (.int k) → wpAny (model X.prog X.w) X.A (binaryOp (opOf o) v u) (EP X pins σ Q) X.xe s := by
    rintro i j k rfl rfl ho rfl
    have hx : x = .int i := Rx
    have hy : y = .int j := Ry
    subst hx hy
    obtain ⟨t, rfl⟩ := rx
    obtain ⟨t2, rfl⟩ := ry
    exact int_op o i j k ho t t2 s _ _ ⟨.int k, H, I.tok _, ⟨_, rfl⟩, q w H _ (Le.refl _ _) S rfl⟩
  have lstc : ∀ xs ys, x'.seq = some xs → y'.seq = some ys → o = .add → xs.length + ys.length ≤ lim → r = .val (.lst (xs ++ ys)) → wpAny (model X.prog X.w) X.A (binaryOp (opOf o) v u) (EP X pins σ Q) X.xe s := by
    rintro xs ys e1 e2 rfl hl rfl
    obtain ⟨p, vs, rfl, hp, r1⟩ := RepR.seq (s := st) Rx e1
    obtain ⟨p2, vs2, rfl, hp2, r2⟩ := RepR.seq (s := st) Ry e2
    cases rx
    cases ry
    obtain ⟨z, its, n, q1, l1, g1⟩ := Rd.lst I hp
    obtain ⟨z2, its2, n2, q2, l2, g2⟩ := Rd.lst I hp2
    have hz : its.length + its2.length ≤ sizeLine := by
      rw [← l1, ← l2, ← r1.length, ← r2.length]
      have : lim ≤ sizeLine := by decide
      omega
    refine PySem.P.add_list g1 g2 ?_ (by rw [List.size_toArray, List.size_toArray]; exact hz)
    have ea : its.toArray ++ its2.toArray = (its ++ its2).toArray := by simp
    rw [ea]
    exact ⟨.ref _, _, I.lnew (t' := s.toks) (q1.append q2) (by rw [List.length_append, l1, l2]; exact hz), rfl, zabt S (r1.append r2) q _ I.fresh⟩
  unfold opR at e
  split at e
  · rename_i i j
    cases ho : opI o i j with
    | none => rw [ho] at e; cases e
    | some k => rw [ho] at e; cases e; exact intc i j k rfl rfl ho rfl
  · rename_i xs ys
    split at e
    · rename_i hc
      cases e
      obtain ⟨p, vs, rfl, hp, r1⟩ := Rx
      obtain ⟨p2, vs2, rfl, hp2, r2⟩ := Ry
      have n1 : vs ≠ [] := by
        intro z; subst z
        exact hc.1 (List.length_eq_zero_iff.mp r1.length)
      have n2 : vs2 ≠ [] := by
        intro z; subst z
        exact hc.2.1 (List.length_eq_zero_iff.mp r2.length)
      refine op_catT pins s σ H _ _ v u Q I rx ry ⟨p, p2, vs, vs2, rfl, rfl, SqT.of hp, SqT.of hp2, n1, ?_, fun z => absurd z n2, fun _ => zady S (r1.append r2) q⟩
      rw [← r1.length, ← r2.length]
      have : lim ≤ sizeLine := by decide
      omega
    · cases e
  · split at e
    · rename_i xs ys e1 e2
      split at e
      · rename_i hl
        cases e
        exact lstc xs ys e1 e2 rfl hl rfl
      · cases e
    · cases e
  · cases e
theorem sV_bin (o : Op) (ha : PE X a (tV G X C a')) (hb : PE X b (tV G X C b')) : PE X (.BinOp a (opOf o) b pos) (tV G X C (.bin o a' b')) := s2 (op_ok o) ha hb fun _ _ => rfl
end
end IP
end
section
set_option Elab.async false
set_option linter.all false
set_option maxRecDepth 100000
namespace IP
open PySem PySem.Spec L2 PySem.SeqAt
section
variable {G : Gx} {X : Cx} {pins : List (Addr × Obj)} {σ : St} {H : Hp} {s : Shared} {w : Wo} {st : Sto}
theorem zaat {a : Addr} {vs : List V} (I : Inv X pins σ H s) (h : H a = some (.tup vs)) : ∃ its : List Value, Vals vs its ∧ s.heap.IsTuple a its.toArray := by
  obtain ⟨its, r, q, _⟩ := I.tuple (SqT.of (K := X.K) h)
  exact ⟨its, r, q⟩
theorem zaar {a : Addr} {vs : List V} (I : Inv X pins σ H s) (h : Rd H a (.lst vs)) : ∃ its : List Value, Vals vs its ∧ s.heap.IsList a its.toArray := by
  obtain ⟨_, its, n, r, _, e⟩ := Rd.lst I h
  exact ⟨its, r, _, e, rfl, n, rfl⟩
theorem zacp {f : T → T → Option Bool} : ∀ (ts us : List T) (vs : List V), (∀ t u v k, Rep G w H t v → Rep G w H u v → f t u = some k → k = true) → Reps G w H ts vs → Reps G w H us vs → ∀ k, eqL f ts us = some k → k = true
  | [], [], _, _, _, _, k, h => by cases h; rfl
  | [], _ :: _, _, _, h1, h2, k, h => by
    obtain ⟨v, r, e, _⟩ := h2
    rw [h1] at e
    cases e
  | _ :: _, [], _, _, h1, h2, k, h => by
    obtain ⟨v, r, e, _⟩ := h1
    rw [h2] at e
    cases e
  | t :: ts, u :: us, _, hf, ⟨v, r, e, h1, h2⟩, ⟨v', r', e', h1', h2'⟩, k, h => by
    subst e
    cases e'
    unfold eqL at h
    split at h
    · rename_i k1 k2 q1 q2
      cases h
      rw [hf t u v k1 h1 h1' q1, zacp ts us r hf h2 h2' k2 q2]
      rfl
    · cases h
theorem zab3 : ∀ (n : Nat) (t u : T) (v : V) (k : Bool), Rep G w H t v → Rep G w H u v → eqD n t u = some k → k = true
  | n, .non, u, v, k, h1, h2, h => by
    cases h1
    cases u <;> simp only [Rep] at h2 <;> first | (cases h2; done) | (simp [eqD] at h; exact h) | (obtain ⟨a, vs, e, _⟩ := h2; cases e) | (obtain ⟨e, e2⟩ := h2; cases e2; done) | (obtain ⟨e, e2, _⟩ := h2; cases e2)
  | n, .bl b, u, v, k, h1, h2, h => by
    cases h1
    cases u <;> simp only [Rep] at h2 <;> first | (cases h2; done) | (cases h2; simp [eqD] at h; exact h) | (obtain ⟨a, vs, e, _⟩ := h2; cases e) | (obtain ⟨e, e2⟩ := h2; cases e2; done) | (obtain ⟨e, e2, _⟩ := h2; cases e2)
  | n, .int i, u, v, k, h1, h2, h => by
    cases h1
    cases u <;> simp only [Rep] at h2 <;> first | (cases h2; done) | (cases h2; simp [eqD] at h; exact h) | (obtain ⟨a, vs, e, _⟩ := h2; cases e) | (obtain ⟨e, e2⟩ := h2; cases e2; done) | (obtain ⟨e, e2, _⟩ := h2; cases e2)
  | n, .str x, u, v, k, h1, h2, h => by
    cases h1
    cases u <;> simp only [Rep] at h2 <;> first | (cases h2; done) | (cases h2; simp [eqD] at h; exact h) | (obtain ⟨a, vs, e, _⟩ := h2; cases e) | (obtain ⟨e, e2⟩ := h2; cases e2; done) | (obtain ⟨e, e2, _⟩ := h2; cases e2)
  | 0, .tup ts, u, v, k, h1, h2, h => by cases u <;> simp [eqD] at h
  | n + 1, .tup ts, u, v, k, h1, h2, h => by
    obtain ⟨a, vs, e, q, r⟩ := h1
    subst e
    cases u with
    | tup us =>
      obtain ⟨a', vs', e', q', r'⟩ := h2
      cases e'
      rw [q] at q'
      cases q'
      simp only [eqD] at h
      exact zacp ts us vs (fun t u v k => zab3 n t u v k) r r' k h
    | non => cases h2
    | _ => simp [eqD] at h
  | 0, .lst ts, u, v, k, h1, h2, h => by cases u <;> simp [eqD] at h
  | n + 1, .lst ts, u, v, k, h1, h2, h => by
    obtain ⟨a, vs, e, z, q, r⟩ := h1
    subst e
    cases u with
    | lst us =>
      obtain ⟨a', vs', e', z', q', r'⟩ := h2
      cases e'
      have ev : vs = vs' := by
        rcases q with q | ⟨o, q⟩ <;> rcases q' with q' | ⟨o', q'⟩ <;> (rw [q] at q'; cases q'; try rfl)
      subst ev
      simp only [eqD] at h
      exact zacp ts us vs (fun t u v k => zab3 n t u v k) r r' k h
    | _ => simp [eqD] at h
  | n, .loc l, u, v, k, h1, h2, h => by cases u <;> simp [eqD] at h
  | n, .exc c, u, v, k, h1, h2, h => by cases u <;> simp [eqD] at h
theorem zach {f : T → T → Option Bool} : ∀ (ts us : List T) (k : Bool), eqL f ts us = some k → ∃ e : Nat → Bool, (∀ (j : Nat) t u, ts[j]? = some t → us[j]? = some u → f t u = some (e j)) ∧ k = ((List.range (min ts.length us.length)).all e && ts.length == us.length)
  | [], [], k, h => by cases h; exact ⟨fun _ => true, fun j t u z => by simp at z, rfl⟩
  | [], u :: us, k, h => by cases h; exact ⟨fun _ => true, fun j t u z => by simp at z, by simp⟩
  | t :: ts, [], k, h => by cases h; exact ⟨fun _ => true, fun j t u _ z => by simp at z, by simp⟩
  | t :: ts, u :: us, k, h => by
    unfold eqL at h
    split at h
    · rename_i k1 k2 q1 q2
      cases h
      obtain ⟨e, h1, h2⟩ := zach ts us k2 q2
      refine ⟨fun j => match j with | 0 => k1 | j + 1 => e j, fun j t' u' z1 z2 => ?_, ?_⟩
      · cases j with
        | zero => simp at z1 z2; subst z1 z2; exact q1
        | succ j => simp at z1 z2; exact h1 j t' u' z1 z2
      · rw [h2]
        have em : min (t :: ts).length (u :: us).length = min ts.length us.length + 1 := by simp [Nat.succ_min_succ]
        rw [em, List.range_succ_eq_map, List.all_cons, List.all_map]
        have el : ((t :: ts).length == (u :: us).length) = (ts.length == us.length) := by simp
        rw [el, Bool.and_assoc]
        rfl
    · cases h
theorem zacm {vs : List V} {its : List Value} (r : Vals vs its) {j : Nat} {u : Value} (e : its[j]? = some u) : ∃ v, vs[j]? = some v ∧ RelV v u := by
  have hj : j < vs.length := by rw [r.length]; exact (List.getElem?_eq_some_iff.mp e).1
  obtain ⟨u', h1, h2⟩ := r.get (List.getElem?_eq_getElem hj)
  rw [e] at h1
  cases h1
  exact ⟨_, List.getElem?_eq_getElem hj, h2⟩
variable {A : Around}
theorem zaaz {n : Nat} {ts us : List T} {vs vs' : List V} {its its' : List Value} {e : Nat → Bool} (r : Reps G w H ts vs) (r' : Reps G w H us vs') (q : Vals vs its) (q' : Vals vs' its')
    (he : ∀ (j : Nat) t u, ts[j]? = some t → us[j]? = some u → eqD n t u = some (e j))
    (ih : ∀ (t u : T) (v v' : V) (x y : Value) (k : Bool), Rep G w H t v → Rep G w H u v' → RelV v x → RelV v' y → eqD n t u = some k → EqAt A s x y k) :
    ∀ j (h1 : j < its.toArray.size) (h2 : j < its'.toArray.size), EqAt A s its.toArray[j] its'.toArray[j] (e j) := by
  intro j h1 h2
  have h1' : j < its.length := by simpa using h1
  have h2' : j < its'.length := by simpa using h2
  obtain ⟨v, e1, rv⟩ := zacm q (List.getElem?_eq_getElem h1')
  obtain ⟨v', e2, rv'⟩ := zacm q' (List.getElem?_eq_getElem h2')
  obtain ⟨t, e3, rt⟩ := r.get' e1
  obtain ⟨u, e4, ru⟩ := r'.get' e2
  have := ih t u v v' its[j] its'[j] (e j) rt ru rv rv' (he j t u e3 e4)
  simpa using this
theorem eqAt_T (I : Inv X pins σ H s) : ∀ (n : Nat) (A : Around), A.units + n < cLine → ∀ (t u : T) (v v' : V) (x y : Value) (k : Bool), Rep G w H t v → Rep G w H u v' → RelV v x → RelV v' y → eqD n t u = some k → EqAt A s x y k := by
  intro n
  induction n with
  | zero =>
    intro A hu t u v v' x y k h1 h2 r1 r2 h
    cases t <;> cases u <;> simp only [eqD] at h <;> first | (cases h; done) | skip
    · cases h; cases h1; cases h2; cases r1; cases r2; exact EqAt.same _
    · cases h; cases h1; cases h2; cases r1; obtain ⟨_, rfl⟩ := r2; exact EqAt.none_int _ _
    · cases h; cases h1; cases h2; cases r1; cases r2; exact EqAt.bool_bool _ _
    · cases h; cases h1; cases h2; obtain ⟨_, rfl⟩ := r1; cases r2; exact EqAt.int_none _ _
    · cases h; cases h1; cases h2; obtain ⟨_, rfl⟩ := r1; obtain ⟨_, rfl⟩ := r2; exact EqAt.int_int _ _ _ _
    · cases h; cases h1; cases h2; obtain ⟨_, rfl⟩ := r1; obtain ⟨_, rfl⟩ := r2; exact EqAt.str_str _ _ _ _
  | succ n ih =>
    intro A hu t u v v' x y k h1 h2 r1 r2 h
    have hu0 : A.units < cLine := by omega
    have hin : A.in1.units + n < cLine := by show A.units + 1 + n < cLine; omega
    cases t <;> cases u <;> simp only [eqD] at h <;> first | (cases h; done) | skip
    · cases h; cases h1; cases h2; cases r1; cases r2; exact EqAt.same _
    · cases h; cases h1; cases h2; cases r1; obtain ⟨_, rfl⟩ := r2; exact EqAt.none_int _ _
    · cases h
      obtain ⟨a, vs, e, q, _⟩ := h2
      subst e
      cases h1; cases r1; cases r2
      obtain ⟨its, _, hi⟩ := zaat I q
      exact EqAt.none_tuple hi hu0
    · cases h; cases h1; cases h2; cases r1; cases r2; exact EqAt.bool_bool _ _
    · cases h; cases h1; cases h2; obtain ⟨_, rfl⟩ := r1; cases r2; exact EqAt.int_none _ _
    · cases h; cases h1; cases h2; obtain ⟨_, rfl⟩ := r1; obtain ⟨_, rfl⟩ := r2; exact EqAt.int_int _ _ _ _
    · cases h; cases h1; cases h2; obtain ⟨_, rfl⟩ := r1; obtain ⟨_, rfl⟩ := r2; exact EqAt.str_str _ _ _ _
    · cases h
      obtain ⟨a, vs, e, q, _⟩ := h1
      subst e
      cases h2; cases r1; cases r2
      obtain ⟨its, _, hi⟩ := zaat I q
      exact EqAt.tuple_none hi hu0
    · rename_i ts us
      have hs := zab3 (G := G) (w := w) (H := H) (n + 1) (.tup ts) (.tup us)
      have h1' := h1
      have h2' := h2
      obtain ⟨a, vs, e, q, r⟩ := h1
      obtain ⟨a', vs', e', q', r'⟩ := h2
      subst e e'
      cases r1; cases r2
      by_cases ea : a = a'
      · subst ea
        have hk : k = true := hs (.ref a) k h1' h2' (by simp only [eqD]; exact h)
        subst hk
        exact EqAt.same _
      · obtain ⟨its, q1, hi⟩ := zaat I q
        obtain ⟨its', q1', hi'⟩ := zaat I q'
        obtain ⟨e, he, hk⟩ := zach ts us k h
        have hz := RcAt.tuples hi hi' hu0 (zaaz r r' q1 q1' he (ih A.in1 hin))
        rw [List.size_toArray, List.size_toArray, ← q1.length, ← q1'.length, ← r.length, ← r'.length, ← hk] at hz
        exact EqAt.of_refs ea hz
    · rename_i ts us
      have hs := zab3 (G := G) (w := w) (H := H) (n + 1) (.lst ts) (.lst us)
      have h1' := h1
      have h2' := h2
      obtain ⟨a, vs, e, _, q, r⟩ := h1
      obtain ⟨a', vs', e', _, q', r'⟩ := h2
      subst e e'
      cases r1; cases r2
      by_cases ea : a = a'
      · subst ea
        have hk : k = true := hs (.ref a) k h1' h2' (by simp only [eqD]; exact h)
        subst hk
        exact EqAt.same _
      · obtain ⟨its, q1, hi⟩ := zaar I q
        obtain ⟨its', q1', hi'⟩ := zaar I q'
        obtain ⟨e, he, hk⟩ := zach ts us k h
        have l1 : its.toArray.size = ts.length := by rw [List.size_toArray, ← q1.length, ← r.length]
        have l2 : its'.toArray.size = us.length := by rw [List.size_toArray, ← q1'.length, ← r'.length]
        by_cases el : ts.length = us.length
        · have hz := RcAt.lists hi hi' (by rw [l1, l2, el]) hu0 (zaaz r r' q1 q1' he (ih A.in1 hin))
          rw [l1] at hz
          rw [el, Nat.min_self] at hk
          have : k = (List.range us.length).all e := by rw [hk]; simp
          rw [el, ← this] at hz
          exact EqAt.of_refs ea hz
        · have hz := RcAt.lists_lengths hi hi' (by rw [l1, l2]; simpa using el) hu0
          have : k = false := by rw [hk]; simp [el]
          rw [this]
          exact EqAt.of_refs ea hz
end
end IP
end
section
set_option Elab.async false
set_option linter.all false
set_option maxRecDepth 100000
namespace IP
open PySem PySem.Spec L2 PySem.SeqAt
section
variable {G : Gx} {X : Cx} {pins : List (Addr × Obj)} {σ : St} {H : Hp} {s : Shared} {w : Wo} {st : Sto} {A : Around}
theorem zab6 (I : Inv X pins σ H s) (hu : A.units + 8 < cLine) {a b : Addr} {vs vs' : List V} {ts us : List T} {k : Bool} (q : Rd H a (.lst vs)) (q' : Rd H b (.lst vs')) (r : Reps G w H ts vs) (r' : Reps G w H us vs') (h : eqL (eqD 7) ts us = some k) :
    RcAt A s (.ref a) (.ref b) k ∧ RcNeAt A s (.ref a) (.ref b) (!k) := by
  have hu0 : A.units < cLine := by omega
  have hin : A.in1.units + 7 < cLine := by show A.units + 1 + 7 < cLine; omega
  obtain ⟨its, q1, hi⟩ := zaar I q
  obtain ⟨its', q1', hi'⟩ := zaar I q'
  obtain ⟨e, he, hk⟩ := zach ts us k h
  have l1 : its.toArray.size = ts.length := by rw [List.size_toArray, ← q1.length, ← r.length]
  have l2 : its'.toArray.size = us.length := by rw [List.size_toArray, ← q1'.length, ← r'.length]
  have hp := zaaz (s := s) (A := A.in1) r r' q1 q1' he (eqAt_T I 7 A.in1 hin)
  by_cases el : ts.length = us.length
  · have hz := RcAt.lists hi hi' (by rw [l1, l2, el]) hu0 hp
    have hy := RcNeAt.lists hi hi' (by rw [l1, l2, el]) hu0 hp
    rw [el, Nat.min_self] at hk
    have : k = (List.range us.length).all e := by rw [hk]; simp
    rw [l1, el, ← this] at hz hy
    exact ⟨hz, hy⟩
  · have hz := RcAt.lists_lengths hi hi' (by rw [l1, l2]; simpa using el) hu0
    have hy := RcNeAt.lists_lengths hi hi' (by rw [l1, l2]; simpa using el) hu0
    have : k = false := by rw [hk]; simp [el]
    rw [this]
    exact ⟨hz, hy⟩
theorem rc_tups (I : Inv X pins σ H s) (hu : A.units + 8 < cLine) {a b : Addr} {vs vs' : List V} {ts us : List T} {k : Bool} (q : H a = some (.tup vs)) (q' : H b = some (.tup vs')) (r : Reps G w H ts vs) (r' : Reps G w H us vs') (h : eqL (eqD 7) ts us = some k) :
    RcAt A s (.ref a) (.ref b) k ∧ RcNeAt A s (.ref a) (.ref b) (!k) := by
  have hu0 : A.units < cLine := by omega
  have hin : A.in1.units + 7 < cLine := by show A.units + 1 + 7 < cLine; omega
  obtain ⟨its, q1, hi⟩ := zaat I q
  obtain ⟨its', q1', hi'⟩ := zaat I q'
  obtain ⟨e, he, hk⟩ := zach ts us k h
  have hp := zaaz (s := s) (A := A.in1) r r' q1 q1' he (eqAt_T I 7 A.in1 hin)
  have hz := RcAt.tuples hi hi' hu0 hp
  have hy := RcNeAt.tuples hi hi' hu0 hp
  rw [List.size_toArray, List.size_toArray, ← q1.length, ← q1'.length, ← r.length, ← r'.length, ← hk] at hz hy
  exact ⟨hz, hy⟩
theorem rc_T (I : Inv X pins σ H s) (hu : A.units + 8 < cLine) {t u : T} {v v' : V} {x y : Value} {k : Bool} (h1 : Rep G w H t v) (h2 : Rep G w H u v') (r1 : RelV v x) (r2 : RelV v' y) (h : eqD 8 t u = some k) :
    RcAt A s x y k ∧ RcNeAt A s x y (!k) := by
  have hu0 : A.units < cLine := by omega
  cases t <;> cases u <;> simp only [eqD] at h <;> first | (cases h; done) | skip
  · cases h; cases h1; cases h2; cases r1; cases r2; exact ⟨RcAt.none_none, RcNeAt.none_none⟩
  · cases h; cases h1; cases h2; cases r1; obtain ⟨_, rfl⟩ := r2; exact ⟨RcAt.none_int _ _, RcNeAt.none_int _ _⟩
  · cases h
    obtain ⟨a, vs, e, q, _⟩ := h2
    subst e
    cases h1; cases r1; cases r2
    obtain ⟨its, _, hi⟩ := zaat I q
    exact ⟨RcAt.none_tuple hi hu0, RcNeAt.none_tuple hi hu0⟩
  · cases h; cases h1; cases h2; cases r1; cases r2; exact ⟨RcAt.bool_bool _ _, RcNeAt.bool_bool _ _⟩
  · cases h; cases h1; cases h2; obtain ⟨_, rfl⟩ := r1; cases r2; exact ⟨RcAt.int_none _ _, RcNeAt.int_none _ _⟩
  · cases h; cases h1; cases h2; obtain ⟨_, rfl⟩ := r1; obtain ⟨_, rfl⟩ := r2; exact ⟨RcAt.int_int _ _ _ _, RcNeAt.int_int _ _ _ _⟩
  · cases h; cases h1; cases h2; obtain ⟨_, rfl⟩ := r1; obtain ⟨_, rfl⟩ := r2; exact ⟨RcAt.str_str _ _ _ _, RcNeAt.str_str _ _ _ _⟩
  · cases h
    obtain ⟨a, vs, e, q, _⟩ := h1
    subst e
    cases h2; cases r1; cases r2
    obtain ⟨its, _, hi⟩ := zaat I q
    exact ⟨RcAt.tuple_none hi hu0, RcNeAt.tuple_none hi hu0⟩
  · obtain ⟨a, vs, e, q, r⟩ := h1
    obtain ⟨a', vs', e', q', r'⟩ := h2
    subst e e'
    cases r1; cases r2
    exact rc_tups I hu q q' r r' h
  · obtain ⟨a, vs, e, _, q, r⟩ := h1
    obtain ⟨a', vs', e', _, q', r'⟩ := h2
    subst e e'
    cases r1; cases r2
    exact zab6 I hu q q' r r' h
theorem rc_R (I : Inv X pins σ H s) (hu : A.units + 8 < cLine) {t u : R} {v v' : V} {x y : Value} {k : Bool} (h1 : RepR G w H t v) (h2 : RepR G w H u v') (r1 : RelV v x) (r2 : RelV v' y) (h : eqR t u = some k) :
    RcAt A s x y k ∧ RcNeAt A s x y (!k) := by
  unfold eqR at h
  split at h
  · exact rc_T I hu h1 h2 r1 r2 h
  · obtain ⟨a, vs, e, _, q, r⟩ := h1
    obtain ⟨a', vs', e', q', r', _⟩ := h2
    subst e e'
    cases r1; cases r2
    exact zab6 I hu q (.inl q') r r' h
  · obtain ⟨a, vs, e, q, r, _⟩ := h1
    obtain ⟨a', vs', e', _, q', r'⟩ := h2
    subst e e'
    cases r1; cases r2
    exact zab6 I hu (.inl q) q' r r' h
  · obtain ⟨a, vs, e, q, r, _⟩ := h1
    obtain ⟨a', vs', e', q', r', _⟩ := h2
    subst e e'
    cases r1; cases r2
    exact zab6 I hu (.inl q) (.inl q') r r' h
  · cases h
end
section
variable {G : Gx} {X : Cx} {C : Cf} {a b c : Expr} {a' b' c' : E} {pos : Pos}
def cmOf : Cm → CmpOp
  | .lt => .Lt | .le => .LtE | .gt => .Gt | .ge => .GtE | .eq => .Eq | .ne => .NotEq | .isN => .Is | .notN => .IsNot | .mem => .In | .nmem => .NotIn
def cmpV (c : Cm) (x y : R) : Option R := (cmpR c x y).map fun k => .val (.bl k)
theorem zaa1 {pins : List (Addr × Obj)} {σ : St} {H : Hp} {s : Shared} {w : Wo} {st : Sto} {Q : VK} {k : Bool} (I : Inv X pins σ H s) (S : StoOk G w H st) (q : ∀ w' H' v, Le w w' H H' → StoOk G w' H' st → RepR G w' H' (.val (.bl k)) v → Q v H') : EP X pins σ Q (.bool k) s :=
  ⟨.bl k, H, I, rfl, q w H _ (Le.refl _ _) S rfl⟩
theorem zac6 {op : CmpOp} {f : Int → Int → Bool} {c : Cm} (hc : ∀ x y r, cmpV c x y = some r → ∃ i j, x = .val (.int i) ∧ y = .val (.int j) ∧ r = .val (.bl (f i j)))
    (ho : OpR X (compareOp op) (rI0 fun i j => .bl (f i j))) : OpR X (compareOp op) (r2 G (cmpV c)) := by
  intro pins s σ H x y v u Q I rx ry h
  obtain ⟨w, st, x', y', r, S, Rx, Ry, e, q⟩ := h
  obtain ⟨i, j, rfl, rfl, rfl⟩ := hc x' y' r e
  have hx : x = .int i := Rx
  have hy : y = .int j := Ry
  exact ho pins s σ H x y v u Q I rx ry ⟨i, j, hx, hy, q w H _ (Le.refl _ _) S rfl⟩
theorem int2 {x y : R} {g : Int → Int → Bool} {r : R} (h : (do let i ← x.int?; let j ← y.int?; some (g i j)).map (fun k => R.val (.bl k)) = some r) : ∃ i j, x = .val (.int i) ∧ y = .val (.int j) ∧ r = .val (.bl (g i j)) := by
  match x, y with
  | .val (.int i), .val (.int j) => cases h; exact ⟨i, j, rfl, rfl, rfl⟩
  | .val (.int i), .val .non => cases h
  | .val (.int i), .val (.bl _) => cases h
  | .val (.int i), .val (.str _) => cases h
  | .val (.int i), .val (.tup _) => cases h
  | .val (.int i), .val (.lst _) => cases h
  | .val (.int i), .val (.loc _) => cases h
  | .val (.int i), .val (.exc _) => cases h
  | .val (.int i), .bor _ => cases h
  | .val .non, _ => cases h
  | .val (.bl _), _ => cases h
  | .val (.str _), _ => cases h
  | .val (.tup _), _ => cases h
  | .val (.lst _), _ => cases h
  | .val (.loc _), _ => cases h
  | .val (.exc _), _ => cases h
  | .bor _, _ => cases h
theorem zacd {w : Wo} {H : Hp} {x : R} {v : V} (r : RepR G w H x v) : decide (v = .non) = x.isNon := by
  match x, r with
  | .val .non, r => cases r; rfl
  | .val (.bl _), r => cases r; rfl
  | .val (.int _), r => cases r; rfl
  | .val (.str _), r => cases r; rfl
  | .val (.tup _), r => obtain ⟨_, _, e, _⟩ := r; subst e; rfl
  | .val (.lst _), r => obtain ⟨_, _, e, _⟩ := r; subst e; rfl
  | .val (.loc _), r => obtain ⟨_, e⟩ := r; subst e; rfl
  | .val (.exc _), r => obtain ⟨_, e, _⟩ := r; subst e; rfl
  | .bor _, r => obtain ⟨_, _, e, _⟩ := r; subst e; rfl
theorem zabx {w : Wo} {H : Hp} {f : T → T → Option Bool} (hf : ∀ t t' u v k k', Rep G w H t v → Rep G w H t' v → f t u = some k → f t' u = some k' → k = k') :
    ∀ (ts ts' us : List T) (vs : List V) (k k' : Bool), Reps G w H ts vs → Reps G w H ts' vs → eqL f ts us = some k → eqL f ts' us = some k' → k = k'
  | [], [], us, vs, k, k', _, _, h, h' => by rw [h] at h'; cases h'; rfl
  | [], _ :: _, us, vs, k, k', r, r', h, h' => by obtain ⟨v, q, e, _⟩ := r'; rw [r] at e; cases e
  | _ :: _, [], us, vs, k, k', r, r', h, h' => by obtain ⟨v, q, e, _⟩ := r; rw [r'] at e; cases e
  | t :: ts, t' :: ts', [], vs, k, k', r, r', h, h' => by cases h; cases h'; rfl
  | t :: ts, t' :: ts', u :: us, vs, k, k', ⟨v, q, e, h1, h2⟩, ⟨v', q', e', h1', h2'⟩, h, h' => by
    subst e
    cases e'
    unfold eqL at h h'
    split at h
    · rename_i k1 k2 z1 z2
      split at h'
      · rename_i k3 k4 z3 z4
        cases h
        cases h'
        rw [hf t t' u v k1 k3 h1 h1' z1 z3, zabx hf ts ts' us q k2 k4 h2 h2' z2 z4]
      · cases h'
    · cases h
theorem zado {w : Wo} {H : Hp} : ∀ (n : Nat) (t t' u : T) (v : V) (k k' : Bool), Rep G w H t v → Rep G w H t' v → eqD n t u = some k → eqD n t' u = some k' → k = k' := by
  intro n
  induction n with
  | zero =>
    intro t t' u v k k' h1 h2 e1 e2
    cases t <;> cases t' <;> first
      | (cases h1; cases h2; rw [e1] at e2; cases e2; rfl)
      | (cases u <;> simp [eqD] at e1; done)
      | (cases u <;> simp [eqD] at e2; done)
      | (cases h1; cases h2; done)
  | succ n ih =>
    intro t t' u v k k' h1 h2 e1 e2
    cases t <;> cases t' <;> first
      | (cases h1; cases h2; rw [e1] at e2; cases e2; rfl)
      | (cases h1; cases h2; done)
      | (cases u <;> simp [eqD] at e1; done)
      | (cases u <;> simp [eqD] at e2; done)
      | (cases h1; obtain ⟨_, _, z, _⟩ := h2; cases z; done)
      | (cases h2; obtain ⟨_, _, z, _⟩ := h1; cases z; done)
      | skip
    · rename_i ts ts'
      obtain ⟨a, vs, e, q, r⟩ := h1
      obtain ⟨a', vs', e', q', r'⟩ := h2
      subst e
      cases e'
      rw [q] at q'
      cases q'
      cases u <;> simp only [eqD] at e1 e2 <;> first | (cases e1; done) | (cases e1; cases e2; rfl) | exact zabx (ih ·  ·  ·  ·  ·  ·) ts ts' _ vs k k' r r' e1 e2
    · obtain ⟨a, vs, e, q, r⟩ := h1
      obtain ⟨a', vs', e', _, q', r'⟩ := h2
      subst e
      cases e'
      rcases q' with q' | ⟨_, q'⟩ <;> (rw [q] at q'; cases q')
    · obtain ⟨a, vs, e, _, q, r⟩ := h1
      obtain ⟨a', vs', e', q', r'⟩ := h2
      subst e
      cases e'
      rcases q with q | ⟨_, q⟩ <;> (rw [q] at q'; cases q')
    · rename_i ts ts'
      obtain ⟨a, vs, e, _, q, r⟩ := h1
      obtain ⟨a', vs', e', _, q', r'⟩ := h2
      subst e
      cases e'
      have ev : vs = vs' := by
        rcases q with q | ⟨o, q⟩ <;> rcases q' with q' | ⟨o', q'⟩ <;> (rw [q] at q'; cases q'; try rfl)
      subst ev
      cases u <;> simp only [eqD] at e1 e2 <;> first | (cases e1; done) | (cases e1; cases e2; rfl) | exact zabx (ih ·  ·  ·  ·  ·  ·) ts ts' _ vs k k' r r' e1 e2
theorem zael {x : T} : ∀ (ts : List T) (k : Bool), memT x ts = some k → (∀ t ∈ ts, ∃ j, eqD 8 t x = some j) ∧ (k = true ↔ ∃ t ∈ ts, eqD 8 t x = some true)
  | [], k, h => by cases h; exact ⟨fun t z => by simp at z, by simp⟩
  | t :: ts, k, h => by
    unfold memT at h
    split at h
    · rename_i k1 k2 z1 z2
      cases h
      obtain ⟨h1, h2⟩ := zael ts k2 z2
      refine ⟨fun u hu => ?_, ?_⟩
      · rcases List.mem_cons.mp hu with rfl | hu
        · exact ⟨k1, z1⟩
        · exact h1 u hu
      · constructor
        · intro q
          rcases (Bool.or_eq_true _ _).mp q with q | q
          · subst q; exact ⟨t, List.mem_cons_self .., z1⟩
          · obtain ⟨u, hu, e⟩ := h2.mp q
            exact ⟨u, List.mem_cons_of_mem _ hu, e⟩
        · rintro ⟨u, hu, e⟩
          rcases List.mem_cons.mp hu with rfl | hu
          · have : some k1 = some true := z1.symm.trans e
            cases this
            rfl
          · rw [h2.mpr ⟨u, hu, e⟩, Bool.or_true]
    · cases h
theorem zaee {vs : List V} {its : List Value} (r : Vals vs its) {u : Value} (h : u ∈ its) : ∃ v ∈ vs, RelV v u := by
  obtain ⟨j, hj, e⟩ := List.mem_iff_getElem.mp h
  obtain ⟨v, h1, h2⟩ := zacm r (List.getElem?_eq_some_iff.mpr ⟨hj, e⟩)
  exact ⟨v, List.mem_of_getElem? h1, h2⟩
theorem zae5 {w : Wo} {H : Hp} {ts : List T} {vs : List V} (r : Reps G w H ts vs) {v : V} (h : v ∈ vs) : ∃ t ∈ ts, Rep G w H t v := by
  obtain ⟨j, hj, e⟩ := List.mem_iff_getElem.mp h
  obtain ⟨t, h1, h2⟩ := r.get' (List.getElem?_eq_some_iff.mpr ⟨hj, e⟩)
  exact ⟨t, List.mem_of_getElem? h1, h2⟩
theorem mem_reps {w : Wo} {H : Hp} {ts : List T} {vs : List V} (r : Reps G w H ts vs) {t : T} (h : t ∈ ts) : ∃ v ∈ vs, Rep G w H t v := by
  obtain ⟨j, hj, e⟩ := List.mem_iff_getElem.mp h
  obtain ⟨t, h1, h2⟩ := r.get (List.getElem?_eq_some_iff.mpr ⟨hj, e⟩)
  exact ⟨t, List.mem_of_getElem? h1, h2⟩
theorem mem_vals {vs : List V} {its : List Value} (r : Vals vs its) {v : V} (h : v ∈ vs) : ∃ u ∈ its, RelV v u := by
  obtain ⟨j, hj, e⟩ := List.mem_iff_getElem.mp h
  obtain ⟨u, h1, h2⟩ := r.get (List.getElem?_eq_some_iff.mpr ⟨hj, e⟩)
  exact ⟨u, List.mem_of_getElem? h1, h2⟩
open Classical in
theorem zac4 {pins : List (Addr × Obj)} {σ : St} {H : Hp} {s : Shared} {w : Wo} {A : Around} (I : Inv X pins σ H s) (hu : A.units + 8 < cLine) {tx : T} {vx : V} {x : Value} {ts : List T} {vs : List V} {its : List Value} {k : Bool}
    (Rx : Rep G w H tx vx) (rx : RelV vx x) (r : Reps G w H ts vs) (q : Vals vs its) (h : memT tx ts = some k) : ∃ e : Value → Bool, (∀ y, y ∈ its.toArray → EqAt A s y x (e y)) ∧ its.toArray.any e = k := by
  obtain ⟨h1, h2⟩ := zael ts k h
  refine ⟨fun u => decide (∃ v t, RelV v u ∧ Rep G w H t v ∧ eqD 8 t tx = some true), fun y hy => ?_, ?_⟩
  · have hy' : y ∈ its := by simpa using hy
    obtain ⟨v, hv, rv⟩ := zaee q hy'
    obtain ⟨t, ht, rt⟩ := zae5 r hv
    obtain ⟨j, hj⟩ := h1 t ht
    have z := eqAt_T I 8 A hu t tx v vx y x j rt Rx rv rx hj
    have ej : decide (∃ v t, RelV v y ∧ Rep G w H t v ∧ eqD 8 t tx = some true) = j := by
      cases j with
      | true => exact decide_eq_true ⟨v, t, rv, rt, hj⟩
      | false =>
        refine decide_eq_false ?_
        rintro ⟨v', t', rv', rt', e'⟩
        cases rv.inj rv'
        exact Bool.noConfusion (zado 8 t t' tx v false true rt rt' hj e')
    dsimp only
    rw [ej]
    exact z
  · rw [Bool.eq_iff_iff, h2, List.any_toArray, List.any_eq_true]
    constructor
    · rintro ⟨u, hu', e⟩
      obtain ⟨v, t, rv, rt, e⟩ := of_decide_eq_true e
      obtain ⟨v', hv', rv'⟩ := zaee q hu'
      cases rv.inj rv'
      obtain ⟨t', ht', rt'⟩ := zae5 r hv'
      obtain ⟨j, hj⟩ := h1 t' ht'
      have := zado 8 t t' tx v true j rt rt' e hj
      subst this
      exact ⟨t', ht', hj⟩
    · rintro ⟨t, ht, e⟩
      obtain ⟨v, hv, rt⟩ := mem_reps r ht
      obtain ⟨u, hu', rv⟩ := mem_vals q hv
      exact ⟨u, hu', decide_eq_true ⟨v, t, rv, rt, e⟩⟩
theorem cmp_ok (hu : X.A.units + 9 < cLine) (c : Cm) : OpR X (compareOp (cmOf c)) (r2 G (cmpV c)) := by
  cases c with
  | lt => exact zac6 (fun x y r h => int2 h) op_lt
  | le => exact zac6 (fun x y r h => int2 h) op_le
  | gt => exact zac6 (fun x y r h => int2 h) op_gt
  | ge => exact zac6 (fun x y r h => int2 h) op_ge
  | eq =>
    intro pins s σ H x y v u Q I rx ry h
    obtain ⟨w, st, x', y', r, S, Rx, Ry, e, q⟩ := h
    unfold cmpV cmpR at e
    cases he : eqR x' y' with
    | none => simp [he] at e
    | some k =>
      simp only [he, Option.map_some, Option.some.injEq] at e
      subst e
      exact (rc_R I (by omega) Rx Ry rx ry he).1 _ _ _ _ (zaa1 I S q)
  | ne =>
    intro pins s σ H x y v u Q I rx ry h
    obtain ⟨w, st, x', y', r, S, Rx, Ry, e, q⟩ := h
    unfold cmpV cmpR at e
    cases he : eqR x' y' with
    | none => simp [he] at e
    | some k =>
      simp only [he, Option.map_some, Option.some.injEq] at e
      subst e
      exact (rc_R I (by omega) Rx Ry rx ry he).2 _ _ _ _ (zaa1 I S q)
  | isN =>
    intro pins s σ H x y v u Q I rx ry h
    obtain ⟨w, st, x', y', r, S, Rx, Ry, e, q⟩ := h
    unfold cmpV cmpR at e
    dsimp only at e
    split at e
    · have hy : y = .non := Ry
      refine op_isN pins s σ H x y v u Q I rx ry ⟨hy, ?_⟩
      rw [zacd Rx]
      cases e
      exact q w H _ (Le.refl _ _) S rfl
    · cases e
  | notN =>
    intro pins s σ H x y v u Q I rx ry h
    obtain ⟨w, st, x', y', r, S, Rx, Ry, e, q⟩ := h
    unfold cmpV cmpR at e
    dsimp only at e
    split at e
    · have hy : y = .non := Ry
      refine op_notN pins s σ H x y v u Q I rx ry ⟨hy, ?_⟩
      rw [zacd Rx]
      cases e
      exact q w H _ (Le.refl _ _) S rfl
    · cases e
  | mem =>
    intro pins s σ H x y v u Q I rx ry h
    obtain ⟨w, st, x', y', r, S, Rx, Ry, e, q⟩ := h
    unfold cmpV cmpR at e
    dsimp only at e
    cases hx : x'.val? with
    | none => simp [hx] at e
    | some tx =>
      cases hy : y'.sq2 with
      | none => simp [hx, hy] at e
      | some ts =>
        cases hm : memT tx ts with
        | none => simp [hx, hy, hm] at e
        | some k =>
          simp [hx, hy, hm] at e
          subst e
          have Rx' : Rep G w H tx x := by
            cases x' with
            | val t => cases hx; exact Rx
            | bor t => cases hx
          obtain ⟨p, vs, rfl, hp, rp⟩ := RepR.sq2 Ry hy
          cases ry
          rcases hp with hp | hp
          · obtain ⟨its, r1, hi⟩ := zaar I hp
            obtain ⟨e, h1, h2⟩ := zac4 (A := X.A.in1) I (by show X.A.units + 1 + 8 < cLine; omega) Rx' rx rp r1 hm
            exact in_listAt e hi h1 (by rw [h2]; exact zaa1 I S q)
          · obtain ⟨its, r1, hi⟩ := zaat I hp
            obtain ⟨e, h1, h2⟩ := zac4 (A := X.A.in1) I (by show X.A.units + 1 + 8 < cLine; omega) Rx' rx rp r1 hm
            exact in_tupleAt e hi h1 (by rw [h2]; exact zaa1 I S q)
  | nmem =>
    intro pins s σ H x y v u Q I rx ry h
    obtain ⟨w, st, x', y', r, S, Rx, Ry, e, q⟩ := h
    unfold cmpV cmpR at e
    dsimp only at e
    cases hx : x'.val? with
    | none => simp [hx] at e
    | some tx =>
      cases hy : y'.sq2 with
      | none => simp [hx, hy] at e
      | some ts =>
        cases hm : memT tx ts with
        | none => simp [hx, hy, hm] at e
        | some k =>
          simp [hx, hy, hm] at e
          subst e
          have Rx' : Rep G w H tx x := by
            cases x' with
            | val t => cases hx; exact Rx
            | bor t => cases hx
          obtain ⟨p, vs, rfl, hp, rp⟩ := RepR.sq2 Ry hy
          cases ry
          rcases hp with hp | hp
          · obtain ⟨its, r1, hi⟩ := zaar I hp
            obtain ⟨e, h1, h2⟩ := zac4 (A := X.A.in1) I (by show X.A.units + 1 + 8 < cLine; omega) Rx' rx rp r1 hm
            exact notIn_listAt e hi h1 (by rw [h2]; exact zaa1 I S q)
          · obtain ⟨its, r1, hi⟩ := zaat I hp
            obtain ⟨e, h1, h2⟩ := zac4 (A := X.A.in1) I (by show X.A.units + 1 + 8 < cLine; omega) Rx' rx rp r1 hm
            exact notIn_tupleAt e hi h1 (by rw [h2]; exact zaa1 I S q)
theorem sV_cmp (hu : X.A.units + 9 < cLine) (c : Cm) (ha : PE X a (tV G X C a')) (hb : PE X b (tV G X C b')) (hm : behindInMarks (cmOf c) b = false) : PE X (.Compare a [cmOf c] [b] pos) (tV G X C (.cmp c a' b')) :=
  s2c (cmp_ok hu c) ha hb hm fun _ _ => rfl
end
end IP
end
section
set_option Elab.async false
set_option linter.all false
set_option maxRecDepth 100000
namespace IP
open PySem PySem.Spec L2 PySem.SeqAt
section
variable {G : Gx} {X : Cx} {C : Cf} {a b c : Expr} {a' b' c' e' : E} {pos : Pos} {rest : List Expr}
theorem tru_V {w : Wo} {H : Hp} {x : R} {v : V} {k : Bool} (r : RepD G w H x v) (h : tru x = some k) : TruV X.K v H k := by
  match x, h with
  | .val .non, h => cases r; cases h; exact rfl
  | .val (.bl b), h => cases r; cases h; exact rfl
  | .val (.int i), h => cases r; cases h; exact rfl
  | .val (.lst ts), h =>
    cases h
    obtain ⟨a, vs, e, _, q, r⟩ := r
    subst e
    refine .inl ⟨vs, .inl q, ?_⟩
    cases ts with
    | nil => cases r; rfl
    | cons t ts => obtain ⟨_, _, e, _⟩ := r; subst e; rfl
  | .val (.tup ts), h =>
    cases h
    obtain ⟨a, vs, e, q, r⟩ := r
    subst e
    refine .inr (.inl ⟨vs, .inl (.inl q), ?_⟩)
    cases ts with
    | nil => cases r; rfl
    | cons t ts => obtain ⟨_, _, e, _⟩ := r; subst e; rfl
  | .bor ts, h =>
    cases h
    obtain ⟨a, vs, e, q, r⟩ := r
    subst e
    refine .inl ⟨vs, .inl (.inl q), ?_⟩
    cases ts with
    | nil => cases r; rfl
    | cons t ts => obtain ⟨_, _, e, _⟩ := r; subst e; rfl
def truK (x : R) : Option R := (tru x).map fun k => .val (.bl k)
theorem sT_plain {e : Expr} (hE : PE X e (tV G X C e')) (he : ∀ whole, isTrue e X.env whole = (do let v ← whole; standAt e.pos; holding [v] (truthy v)))
    (hev : ∀ σ s, ev C e' .t σ s = (ev C e' .v σ s).bind fun x s => .of (truK x) s) : PT X e (tT G X C e') := by
  refine PT.imp (pt_truth hE he) ?_
  rintro σV H Q ⟨w₀, H₀, w, σ, s, g, h⟩
  rw [hev] at h
  refine ⟨w₀, H₀, w, σ, s, g, (Want.bind h).imp ?_⟩
  rintro v H1 ⟨w1, r, s1, L1, S1, R1, h1⟩
  obtain ⟨r', e, q⟩ := Want.of h1
  unfold truK at e
  cases ht : tru r with
  | none => rw [ht] at e; cases e
  | some k =>
    rw [ht] at e
    cases e
    obtain ⟨k', e, q'⟩ := q w1 H1 (.bl k) (Le.refl _ _) S1 rfl
    cases e
    exact ⟨k, tru_V R1.d ht, q'⟩
theorem cmp_t (c : Cm) (σ : Fr) (s : Sto) : ev C (.cmp c a' b') .t σ s = ev C (.cmp c a' b') .v σ s := by
  show Res.bind (Res.bind (ev C a' .v σ s) _) _ = Res.bind (ev C a' .v σ s) _
  cases ev C a' .v σ s with
  | stuck => rfl
  | exc c s => rfl
  | ok x s1 =>
    show Res.bind (Res.bind (ev C b' .v σ s1) _) _ = Res.bind (ev C b' .v σ s1) _
    cases ev C b' .v σ s1 with
    | stuck => rfl
    | exc c s => rfl
    | ok y s2 =>
      show Res.bind (Res.of ((cmpR c x y).map _) s2) _ = Res.of ((cmpR c x y).map _) s2
      cases cmpR c x y <;> rfl
theorem sT_cmp (hu : X.A.units + 9 < cLine) (c : Cm) (ha : PE X a (tV G X C a')) (hb : PE X b (tV G X C b')) (hm : behindInMarks (cmOf c) b = false) : PT X (.Compare a [cmOf c] [b] pos) (tT G X C (.cmp c a' b')) := by
  refine PT.imp (pt_cmpR (cmp_ok (G := G) hu c) ha hb hm) ?_
  rintro σV H Q ⟨w₀, H₀, w, σ, s, g, h⟩
  rw [cmp_t] at h
  exact t2_of (f := cmpV c) ⟨w₀, H₀, w, σ, s, g, h⟩
def r1 (G : Gx) (f : R → Option R) : V → Hp → VK → Prop := fun x H Q => ∃ w s rx r, StoOk G w H s ∧ RepD G w H rx x ∧ f rx = some r ∧ ∀ w' H' v, Le w w' H H' → StoOk G w' H' s → RepR G w' H' r v → Q v H'
theorem t1_of {f : R → Option R} {σV : St} {H : Hp} {Q : VK} (h : ∃ w₀ H₀ w σ s, Good G w₀ H₀ w H σ s σV ∧ Want G X σV w H ((ev C a' .v σ s).bind fun x s1 => .of (f x) s1) Q) :
    tV G X C a' σV H fun x H1 => r1 G f x H1 Q := by
  obtain ⟨w₀, H₀, w, σ, s, g, h⟩ := h
  refine ⟨w₀, H₀, w, σ, s, g, (Want.bind h).imp ?_⟩
  rintro x H1 ⟨w1, r1, s1, L1, S1, R1, h1⟩
  obtain ⟨r, e, q⟩ := Want.of h1
  exact ⟨w1, s1, r1, r, S1, R1.d, e, q⟩
theorem t1_dr {f : R → Option R} {σV : St} {H : Hp} {Q : VK} (h : ∃ w₀ H₀ w σ s, Good G w₀ H₀ w H σ s σV ∧ Want G X σV w H ((ev C a' .v σ s).bind fun x s1 => .of (f (x.dr s1)) s1) Q) :
    tV G X C a' σV H fun x H1 => r1 G f x H1 Q := by
  obtain ⟨w₀, H₀, w, σ, s, g, h⟩ := h
  refine ⟨w₀, H₀, w, σ, s, g, (Want.bind h).imp ?_⟩
  rintro x H1 ⟨w1, r1, s1, L1, S1, R1, h1⟩
  obtain ⟨r, e, q⟩ := Want.of h1
  exact ⟨w1, s1, _, r, S1, R1.dr S1, e, q⟩
theorem sV_neg (ha : PE X a (tV G X C a')) : PE X (.UnaryOp .USub a pos) (tV G X C (.neg a')) := by
  refine PE.imp (pe_un un_neg ha) ?_
  rintro σV H Q h
  have h := t1_of (f := fun x => x.int?.map fun i => R.val (.int (-i))) h
  refine (show tV G X C a' σV H _ from ?_)
  obtain ⟨w₀, H₀, w, σ, s, g, h⟩ := h
  refine ⟨w₀, H₀, w, σ, s, g, h.imp ?_⟩
  rintro x H1 ⟨w1, s1, rx, r, S1, R1, e, q⟩
  match rx, e with
  | .val (.int i), e => cases e; cases R1; exact ⟨i, rfl, q w1 H1 _ (Le.refl _ _) S1 rfl⟩
theorem sV_not (ha : PE X a (tV G X C a')) : PE X (.UnaryOp .Not a pos) (tV G X C (.not a')) := by
  intro pins s σ H Q I h
  have h := t1_of (f := fun x => (tru x).map fun k => R.val (.bl (!k))) h
  refine PyProof.Rows.UnaryOp_ (thn (ha pins s σ H _ I h) fun v s1 ⟨x, H1, I1, r1, q1⟩ => ?_)
  obtain ⟨w1, st, rx, r, S1, R1, e, q⟩ := q1
  dsimp only at e
  cases ht : tru rx with
  | none => rw [ht] at e; cases e
  | some k =>
    rw [ht] at e
    cases e
    exact PyProof.Rows.not_of (thn (tru_ok pins s1 σ H1 x v (fun c H2 => Q (.bl (!c)) H2) I1 r1 ⟨k, tru_V R1 ht, q w1 H1 _ (Le.refl _ _) S1 rfl⟩) fun c s2 ⟨H2, I2, z⟩ => ⟨.bl (!c), H2, I2, rfl, z⟩)
theorem onB_t {w : Wo} {H : Hp} {σV : St} {x : R} {v : V} {m n : Res R} {Q : VK} (r : RepR G w H x v) (h : Want G X σV w H (onB x m n) Q) : ∃ k, v = .bl k ∧ x = .val (.bl k) ∧ Want G X σV w H (if k = true then m else n) Q := by
  match x, h with
  | .val (.bl true), h => exact ⟨true, r, rfl, h⟩
  | .val (.bl false), h => exact ⟨false, r, rfl, h⟩
  | .val .non, h => exact h.elim
  | .val (.int _), h => exact h.elim
  | .val (.str _), h => exact h.elim
  | .val (.tup _), h => exact h.elim
  | .val (.lst _), h => exact h.elim
  | .val (.loc _), h => exact h.elim
  | .val (.exc _), h => exact h.elim
  | .bor _, h => exact h.elim
theorem sT_not (ha : PT X a (tT G X C a')) : PT X (.UnaryOp .Not a pos) (tT G X C (.not a')) := by
  refine PT.imp (pt_not ha) ?_
  rintro σV H Q ⟨w₀, H₀, w, σ, s, g, h⟩
  refine ⟨w₀, H₀, w, σ, s, g, (Want.bind h).imp ?_⟩
  rintro v H1 ⟨w1, r, s1, L1, S1, R1, h1⟩
  obtain ⟨k, rfl, rfl, h1⟩ := onB_t R1 h1
  refine ⟨k, rfl, ?_⟩
  cases k with
  | true => obtain ⟨_, e, q⟩ := h1 w1 H1 (.bl false) (Le.refl _ _) S1 rfl; cases e; exact q
  | false => obtain ⟨_, e, q⟩ := h1 w1 H1 (.bl true) (Le.refl _ _) S1 rfl; cases e; exact q
theorem tT_and {σV : St} {H : Hp} {Q : Bool → Hp → Prop} (h : tT G X C (.and a' b') σV H Q) : tAnd (tT G X C a') (tT G X C b') σV H Q := by
  obtain ⟨w₀, H₀, w, σ, s, g, h⟩ := h
  refine ⟨w₀, H₀, w, σ, s, g, (Want.bind h).imp ?_⟩
  rintro v H1 ⟨w1, r, s1, L1, S1, R1, h1⟩
  obtain ⟨k, rfl, rfl, h1⟩ := onB_t R1 h1
  refine ⟨k, rfl, ?_⟩
  cases k with
  | true => exact iteT ⟨w₀, H₀, w1, σ, s1, g.step L1 S1, h1⟩
  | false => obtain ⟨_, e, q⟩ := h1 w1 H1 (.bl false) (Le.refl _ _) S1 rfl; cases e; exact iteF q
theorem tT_or {σV : St} {H : Hp} {Q : Bool → Hp → Prop} (h : tT G X C (.or a' b') σV H Q) : tOr (tT G X C a') (tT G X C b') σV H Q := by
  obtain ⟨w₀, H₀, w, σ, s, g, h⟩ := h
  refine ⟨w₀, H₀, w, σ, s, g, (Want.bind h).imp ?_⟩
  rintro v H1 ⟨w1, r, s1, L1, S1, R1, h1⟩
  obtain ⟨k, rfl, rfl, h1⟩ := onB_t R1 h1
  refine ⟨k, rfl, ?_⟩
  cases k with
  | true => obtain ⟨_, e, q⟩ := h1 w1 H1 (.bl true) (Le.refl _ _) S1 rfl; cases e; exact iteT q
  | false => exact iteF ⟨w₀, H₀, w1, σ, s1, g.step L1 S1, h1⟩
theorem PW.imp {e : Expr} {t t' : TT} (h : PW X e t) (q : ∀ σ H Q, t' σ H Q → t σ H Q) : PW X e t' := fun wh pins s σ H Q I z => h wh pins s σ H Q I (q _ _ _ z)
def PTb (X : Cx) (op : BoolOp) (es : List Expr) (pos : Pos) (t : TT) : Prop := PW X (.BoolOp op es pos) t
theorem zadt (h : PT X a (tT G X C a')) : PTb X .And [a] pos (tT G X C a') := pw_and1 h
theorem zaaq (h : PT X a (tT G X C a')) : PTb X .Or [a] pos (tT G X C a') := pw_or1 h
theorem ptb_and (ha : PT X a (tT G X C a')) (hb : PTb X .And (b :: rest) pos (tT G X C b')) : PTb X .And (a :: b :: rest) pos (tT G X C (.and a' b')) := PW.imp (pw_and ha hb) fun _ _ _ h => tT_and h
theorem ptb_or (ha : PT X a (tT G X C a')) (hb : PTb X .Or (b :: rest) pos (tT G X C b')) : PTb X .Or (a :: b :: rest) pos (tT G X C (.or a' b')) := PW.imp (pw_or ha hb) fun _ _ _ h => tT_or h
theorem sV_and (ha : PE X a (tV G X C a')) (hb : PE X (.BoolOp .And (b :: rest) pos) (tV G X C b')) : PE X (.BoolOp .And (a :: b :: rest) pos) (tV G X C (.and a' b')) := by
  refine PE.imp (pe_and ha hb) ?_
  rintro σV H Q ⟨w₀, H₀, w, σ, s, g, h⟩
  refine ⟨w₀, H₀, w, σ, s, g, (Want.bind h).imp ?_⟩
  rintro v H1 ⟨w1, r, s1, L1, S1, R1, h1⟩
  obtain ⟨k, rfl, rfl, h1⟩ := onB_t R1 h1
  refine ⟨k, rfl, ?_⟩
  cases k with
  | true => exact iteT ⟨w₀, H₀, w1, σ, s1, g.step L1 S1, h1⟩
  | false => exact iteF (h1 w1 H1 (.bl false) (Le.refl _ _) S1 rfl)
theorem sV_ife (hc : PT X c (tT G X C c')) (ha : PE X a (tV G X C a')) (hb : PE X b (tV G X C b')) : PE X (.IfExp c a b pos) (tV G X C (.ife c' a' b')) := by
  refine PE.imp (pe_ifExp hc ha hb) ?_
  rintro σV H Q ⟨w₀, H₀, w, σ, s, g, h⟩
  refine ⟨w₀, H₀, w, σ, s, g, (Want.bind h).imp ?_⟩
  rintro v H1 ⟨w1, r, s1, L1, S1, R1, h1⟩
  obtain ⟨k, rfl, rfl, h1⟩ := onB_t R1 h1
  refine ⟨k, rfl, ?_⟩
  cases k with
  | true => exact iteT ⟨w₀, H₀, w1, σ, s1, g.step L1 S1, h1⟩
  | false => exact iteF ⟨w₀, H₀, w1, σ, s1, g.step L1 S1, h1⟩
def WantA (G : Gx) (X : Cx) (σV : St) (w : Wo) (H : Hp) (res : Res (List T)) (Q : List V → Hp → Prop) : Prop := match res with
  | .stuck => False
  | .ok ts s' => ∀ w' H' vs, Le w w' H H' → StoOk G w' H' s' → Reps G w' H' ts vs → Q vs H'
  | .exc c s' => ∀ w' H' pins u sh, Le w w' H H' → StoOk G w' H' s' → Thrown G X pins σV H' c u sh → X.xe u sh
def WantR (G : Gx) (X : Cx) (σV : St) (w : Wo) (H : Hp) (res : Res (List R)) (Q : List V → Hp → Prop) : Prop := match res with
  | .stuck => False
  | .ok ts s' => ∀ w' H' vs, Le w w' H H' → StoOk G w' H' s' → RepRs G w' H' ts vs → Q vs H'
  | .exc c s' => ∀ w' H' pins u sh, Le w w' H H' → StoOk G w' H' s' → Thrown G X pins σV H' c u sh → X.xe u sh
def tA (G : Gx) (X : Cx) (C : Cf) (es : List E) : TA := fun σV H Q => ∃ w₀ H₀ w σ s, Good G w₀ H₀ w H σ s σV ∧ WantA G X σV w H (evs C es σ s) Q
def tR (G : Gx) (X : Cx) (C : Cf) (es : List E) : TA := fun σV H Q => ∃ w₀ H₀ w σ s, Good G w₀ H₀ w H σ s σV ∧ WantR G X σV w H (evr C es σ s) Q
theorem sA_nil : PA X [] (tA G X C []) := PA.imp pa_nil fun σV H Q ⟨w₀, H₀, w, σ, s, g, h⟩ => h w H [] (Le.refl _ _) g.sto rfl
theorem sR_nil : PA X [] (tR G X C []) := PA.imp pa_nil fun σV H Q ⟨w₀, H₀, w, σ, s, g, h⟩ => h w H [] (Le.refl _ _) g.sto rfl
variable {es : List Expr} {es' : List E}
theorem sA_cons (ha : PE X a (tV G X C a')) (hr : PA X es (tA G X C es')) (hs : starEach (a :: es) X.env = (false, eval a X.env) :: starEach es X.env) : PA X (a :: es) (tA G X C (a' :: es')) := by
  refine PA.imp (zaao ha hr hs) ?_
  rintro σV H Q ⟨w₀, H₀, w, σ, s, g, h⟩
  have h : WantA G X σV w H ((ev C a' .v σ s).bind fun x s1 => onV x fun t => (evs C es' σ s1).bind fun ts s2 => .ok (t :: ts) s2) Q := h
  refine ⟨w₀, H₀, w, σ, s, g, ?_⟩
  cases he : ev C a' .v σ s with
  | stuck => rw [he] at h; exact h
  | exc c s1 => rw [he] at h; exact h
  | ok x s1 =>
    rw [he] at h
    intro w1 H1 v L1 S1 R1
    match x, h with
    | .bor _, h => exact h.elim
    | .val t, h =>
      have h : WantA G X σV w H ((evs C es' σ s1).bind fun ts s2 => .ok (t :: ts) s2) Q := h
      refine ⟨w₀, H₀, w1, σ, s1, g.step L1 S1, ?_⟩
      cases hf : evs C es' σ s1 with
      | stuck => rw [hf] at h; exact h
      | exc c s2 => rw [hf] at h; exact fun w2 H2 pins u sh L2 => h w2 H2 pins u sh (L1.trans L2)
      | ok ts s2 =>
        rw [hf] at h
        intro w2 H2 vs L2 S2 R2
        exact h w2 H2 (v :: vs) (L1.trans L2) S2 ⟨v, vs, rfl, Rep.mono L2 S1 t v R1, R2⟩
theorem sR_cons (ha : PE X a (tV G X C a')) (hr : PA X es (tR G X C es')) (hs : starEach (a :: es) X.env = (false, eval a X.env) :: starEach es X.env) : PA X (a :: es) (tR G X C (a' :: es')) := by
  refine PA.imp (zaao ha hr hs) ?_
  rintro σV H Q ⟨w₀, H₀, w, σ, s, g, h⟩
  have h : WantR G X σV w H ((ev C a' .v σ s).bind fun x s1 => (evr C es' σ s1).bind fun ts s2 => .ok (x :: ts) s2) Q := h
  refine ⟨w₀, H₀, w, σ, s, g, ?_⟩
  cases he : ev C a' .v σ s with
  | stuck => rw [he] at h; exact h
  | exc c s1 => rw [he] at h; exact h
  | ok x s1 =>
    rw [he] at h
    intro w1 H1 v L1 S1 R1
    have h : WantR G X σV w H ((evr C es' σ s1).bind fun ts s2 => .ok (x :: ts) s2) Q := h
    refine ⟨w₀, H₀, w1, σ, s1, g.step L1 S1, ?_⟩
    cases hf : evr C es' σ s1 with
    | stuck => rw [hf] at h; exact h
    | exc c s2 => rw [hf] at h; exact fun w2 H2 pins u sh L2 => h w2 H2 pins u sh (L1.trans L2)
    | ok ts s2 =>
      rw [hf] at h
      intro w2 H2 vs L2 S2 R2
      exact h w2 H2 (v :: vs) (L1.trans L2) S2 ⟨v, vs, rfl, RepR.mono L2 S1 R1, R2⟩
theorem zadc (C : Cf) : ∀ (es : List E) (σ : Fr) (s : Sto) (ts : List T) (s' : Sto), evs C es σ s = .ok ts s' → ts.length = es.length
  | [], σ, s, ts, s', h => by cases h; rfl
  | e :: es, σ, s, ts, s', h => by
    unfold evs at h
    cases he : ev C e .v σ s with
    | stuck => rw [he] at h; cases h
    | exc c s1 => rw [he] at h; cases h
    | ok x s1 =>
      rw [he] at h
      match x, h with
      | .bor _, h => cases h
      | .val t, h =>
        have h : ((evs C es σ s1).bind fun ts s2 => Res.ok (t :: ts) s2) = .ok ts s' := h
        cases hf : evs C es σ s1 with
        | stuck => rw [hf] at h; cases h
        | exc c s2 => rw [hf] at h; cases h
        | ok us s2 =>
          rw [hf] at h
          cases h
          simp [zadc C es σ s1 us _ hf]
theorem sV_tup {k : Nat} (h : PA X es (tA G X C es')) (hz : es'.length ≤ sizeLine) : PE X (.Tuple es k pos) (tV G X C (.tup es')) := by
  refine PE.imp (pe_tup h) ?_
  rintro σV H Q ⟨w₀, H₀, w, σ, s, g, h⟩
  have h : Want G X σV w H ((evs C es' σ s).bind fun ts s1 => .ok (.val (.tup ts)) s1) Q := h
  refine ⟨w₀, H₀, w, σ, s, g, ?_⟩
  cases hf : evs C es' σ s with
  | stuck => rw [hf] at h; exact h
  | exc c s2 => rw [hf] at h; exact h
  | ok ts s2 =>
    rw [hf] at h
    intro w2 H2 vs L2 S2 R2
    refine ⟨by rw [← R2.length, zadc C _ _ _ _ _ hf]; exact hz, ?_⟩
    exact zady S2 R2 fun w' H' v L S R => h w' H' v (L2.trans L) S R
theorem sV_lst (h : PA X es (tA G X C es')) (hz : es'.length ≤ sizeLine) : PE X (.List es pos) (tV G X C (.lst es')) := by
  refine PE.imp (pe_lst h) ?_
  rintro σV H Q ⟨w₀, H₀, w, σ, s, g, h⟩
  have h : Want G X σV w H ((evs C es' σ s).bind fun ts s1 => .ok (.val (.lst ts)) s1) Q := h
  refine ⟨w₀, H₀, w, σ, s, g, ?_⟩
  cases hf : evs C es' σ s with
  | stuck => rw [hf] at h; exact h
  | exc c s2 => rw [hf] at h; exact h
  | ok ts s2 =>
    rw [hf] at h
    intro w2 H2 vs L2 S2 R2
    refine ⟨by rw [← R2.length, zadc C _ _ _ _ _ hf]; exact hz, ?_⟩
    exact zabt S2 R2 fun w' H' v L S R => h w' H' v (L2.trans L) S R
end
end IP
end
section
set_option Elab.async false
set_option linter.all false
set_option maxRecDepth 100000
namespace IP
open PySem PySem.Spec L2 PySem.SeqAt
section
variable {G : Gx} {X : Cx} {C : Cf} {a b c : Expr} {a' b' c' e' : E} {pos p : Pos} {rest : List Expr}
theorem Reps.atI {w : Wo} {H : Hp} {ts : List T} {vs : List V} {i : Int} {t : T} (r : Reps G w H ts vs) (h : L2.atI ts i = some t) : ∃ v, L2.atI vs i = some v ∧ Rep G w H t v := by
  unfold L2.atI at h ⊢
  rw [← r.length]
  cases e : ixN ts.length i with
  | none => rw [e] at h; cases h
  | some j =>
    rw [e] at h
    exact r.get h
theorem sV_sub (ha : PE X a (tV G X C a')) (hb : PE X b (tV G X C b')) (hs : zaey b) : PE X (.Subscript a b pos) (tV G X C (.sub a' b')) := by
  refine PE.imp (pe_ix ix_seq ha hb hs) ?_
  rintro σV H Q ⟨w₀, H₀, w, σ, s, g, h⟩
  refine ⟨w₀, H₀, w, σ, s, g, (Want.bind h).imp ?_⟩
  rintro x H1 ⟨w1, r1, s1, L1, S1, R1, h1⟩
  refine ⟨w₀, H₀, w1, σ, s1, g.step L1 S1, (Want.bind h1).imp ?_⟩
  rintro y H2 ⟨w2, r2, s2, M2, S2, R2, h2⟩
  have R1' := R1.mono M2 S1
  match r2, h2 with
  | .val (.int i), h2 =>
    obtain ⟨r, e, q⟩ := Want.of h2
    cases R2
    unfold subR at e
    cases hx : (r1.dr s2).sq2 with
    | none => rw [hx] at e; cases e
    | some ts =>
      rw [hx] at e
      dsimp only at e
      cases ht : L2.atI ts i with
      | none => rw [ht] at e; cases e
      | some t =>
        rw [ht] at e
        cases e
        obtain ⟨pa, vs, rfl, hp, rp⟩ := RepD.sq2 (R1'.dr S2) hx
        obtain ⟨v, hv, rv⟩ := rp.atI ht
        rcases hp with hp | hp
        · exact .inl ⟨pa, vs, i, v, rfl, rfl, .inl hp, hv, q w2 H2 v (Le.refl _ _) S2 rv⟩
        · exact .inr (.inl ⟨pa, vs, i, v, rfl, rfl, SqT.of hp, hv, q w2 H2 v (Le.refl _ _) S2 rv⟩)
  | .val .non, h2 => exact h2.elim
  | .val (.bl _), h2 => exact h2.elim
  | .val (.str _), h2 => exact h2.elim
  | .val (.tup _), h2 => exact h2.elim
  | .val (.lst _), h2 => exact h2.elim
  | .val (.loc _), h2 => exact h2.elim
  | .val (.exc _), h2 => exact h2.elim
  | .bor _, h2 => exact h2.elim
def rSl (G : Gx) : V → Option Int → Option Int → Hp → VK → Prop := fun x lo hi H Q => ∃ w s rx r, StoOk G w H s ∧ RepD G w H rx x ∧ cutR rx lo hi = some r ∧ ∀ w' H' v, Le w w' H H' → StoOk G w' H' s → RepR G w' H' r v → Q v H'
theorem SlR.imp {r r' : V → Option Int → Option Int → Hp → VK → Prop} (h : SlR X r) (q : ∀ x lo hi H Q, r' x lo hi H Q → r x lo hi H Q) : SlR X r' := fun pins s σ H x v vl vu lo hi sl Q I rx hs pl pu z => h pins s σ H x v vl vu lo hi sl Q I rx hs pl pu (q _ _ _ _ _ z)
theorem sl_ok : SlR X (rSl G) := by
  refine SlR.imp (SlR.or sl_tup sl_list) ?_
  rintro x lo hi H Q ⟨w, s, rx, r, S, R1, e, q⟩
  unfold cutR at e
  split at e
  · rename_i ts
    split at e
    · cases e
    · rename_i hc
      cases e
      obtain ⟨pa, vs, rfl, hp, rp⟩ := R1
      refine .inl ⟨pa, vs, rfl, SqT.of hp, by rw [← rp.length]; exact hc, zady S (rp.cut lo hi) q⟩
  · rename_i ts
    cases e
    obtain ⟨pa, vs, rfl, _, hp, rp⟩ := R1
    exact .inr ⟨pa, vs, rfl, .inl hp, zabt S (rp.cut lo hi) q⟩
  · rename_i ts
    cases e
    obtain ⟨pa, vs, rfl, hp, rp⟩ := R1
    exact .inr ⟨pa, vs, rfl, SqL.of hp, zabt S (rp.cut lo hi) q⟩
  · cases e
theorem onI_t {w : Wo} {H : Hp} {σV : St} {x : R} {v : V} {f : Int → Res R} {Q : VK} (r : RepR G w H x v) (h : Want G X σV w H (onI x f) Q) : ∃ i, v = .int i ∧ x = .val (.int i) ∧ Want G X σV w H (f i) Q := by
  match x, h with
  | .val (.int i), h => exact ⟨i, r, rfl, h⟩
  | .val .non, h => exact h.elim
  | .val (.bl _), h => exact h.elim
  | .val (.str _), h => exact h.elim
  | .val (.tup _), h => exact h.elim
  | .val (.lst _), h => exact h.elim
  | .val (.loc _), h => exact h.elim
  | .val (.exc _), h => exact h.elim
  | .bor _, h => exact h.elim
theorem sV_cutL {p2 : Pos} (ha : PE X a (tV G X C a')) (hb : PE X b (tV G X C b')) : PE X (.Subscript a (.Slice (some b) none none p2) pos) (tV G X C (.cutL a' b')) := by
  refine PE.imp (zaeg (sl_ok (G := G)) ha (zadz hb) zadh) ?_
  rintro σV H Q ⟨w₀, H₀, w, σ, s, g, h⟩
  refine ⟨w₀, H₀, w, σ, s, g, (Want.bind h).imp ?_⟩
  rintro x H1 ⟨w1, r1, s1, L1, S1, R1, h1⟩
  refine ⟨w₀, H₀, w1, σ, s1, g.step L1 S1, (Want.bind h1).imp ?_⟩
  rintro y H2 ⟨w2, r2, s2, L2, S2, R2, h2⟩
  obtain ⟨i, rfl, rfl, h2⟩ := onI_t R2 h2
  obtain ⟨r, e, q⟩ := Want.of h2
  exact ⟨i, rfl, w2, s2, _, r, S2, (R1.mono L2 S1).dr S2, e, q⟩
theorem sV_cutU {p2 : Pos} (ha : PE X a (tV G X C a')) (hb : PE X b (tV G X C b')) : PE X (.Subscript a (.Slice none (some b) none p2) pos) (tV G X C (.cutU a' b')) := by
  refine PE.imp (zaeg (sl_ok (G := G)) ha zadh (zadz hb)) ?_
  rintro σV H Q ⟨w₀, H₀, w, σ, s, g, h⟩
  refine ⟨w₀, H₀, w, σ, s, g, (Want.bind h).imp ?_⟩
  rintro x H1 ⟨w1, r1, s1, L1, S1, R1, h1⟩
  refine ⟨w₀, H₀, w1, σ, s1, g.step L1 S1, (Want.bind h1).imp ?_⟩
  rintro y H2 ⟨w2, r2, s2, L2, S2, R2, h2⟩
  obtain ⟨i, rfl, rfl, h2⟩ := onI_t R2 h2
  obtain ⟨r, e, q⟩ := Want.of h2
  exact ⟨i, rfl, w2, s2, _, r, S2, (R1.mono L2 S1).dr S2, e, q⟩
def rB1 (G : Gx) (f : R → Option R) : List V → Hp → VK → Prop := fun xs H Q => ∃ v, xs = [v] ∧ r1 G f v H Q
theorem CallR.imp {f : Value} {r r' : List V → Hp → VK → Prop} (h : CallR X f r) (q : ∀ xs H Q, r' xs H Q → r xs H Q) : CallR X f r' := fun pins s σ H xs us Q I rx z => h pins s σ H xs us Q I rx (q _ _ _ z)
theorem sB1 {f : R → Option R} {id : String} {x : Str} (hc : CallR X (.builtin id) (rB1 G f)) (hg : Gl X x) (hm : X.mg x = none) (hv : bootBuiltins x = some (.builtin id)) (hn : x ≠ "__name__") (hdb : (x == ("__debug__" : Str)) = false)
    (ha : PE X a (tV G X C a')) (hs : starEach [a] X.env = [(false, eval a X.env)]) (hev : ∀ σ s, ev C e' .v σ s = (ev C a' .v σ s).bind fun x s1 => .of (f (x.dr s1)) s1) : PE X (.Call (.Name x p) [a] [] pos) (tV G X C e') := by
  refine PE.imp (zacu hc hg hm hv (zaao ha pa_nil hs) hn hdb hs rfl) ?_
  rintro σV H Q ⟨w₀, H₀, w, σ, s, g, h⟩
  rw [hev] at h
  obtain ⟨w₀, H₀, w, σ, s, g, h⟩ := t1_dr ⟨w₀, H₀, w, σ, s, g, h⟩
  exact ⟨w₀, H₀, w, σ, s, g, h.imp fun v H1 q => ⟨v, rfl, q⟩⟩
theorem sTy1 {f : R → Option R} {T : String} {x : Str} (hc : CallR X (.type T) (rB1 G f)) (hg : Gl X x) (hm : X.mg x = none) (hv : bootBuiltins x = some (.type T)) (hn : x ≠ "__name__") (hdb : (x == ("__debug__" : Str)) = false)
    (ha : PE X a (tV G X C a')) (hs : starEach [a] X.env = [(false, eval a X.env)]) (hev : ∀ σ s, ev C e' .v σ s = (ev C a' .v σ s).bind fun x s1 => .of (f (x.dr s1)) s1) : PE X (.Call (.Name x p) [a] [] pos) (tV G X C e') := by
  refine PE.imp (pe_callTy hc hg hm hv (zaao ha pa_nil hs) hn hdb hs rfl) ?_
  rintro σV H Q ⟨w₀, H₀, w, σ, s, g, h⟩
  rw [hev] at h
  obtain ⟨w₀, H₀, w, σ, s, g, h⟩ := t1_dr ⟨w₀, H₀, w, σ, s, g, h⟩
  exact ⟨w₀, H₀, w, σ, s, g, h.imp fun v H1 q => ⟨v, rfl, q⟩⟩
theorem map_some {α β : Type} {o : Option α} {f : α → β} {r : β} (h : o.map f = some r) : ∃ a, o = some a ∧ r = f a := by
  cases o with
  | none => cases h
  | some a => cases h; exact ⟨a, rfl, rfl⟩
theorem c_len : CallR X (.builtin "len") (rB1 G (b1R .len)) := by
  refine CallR.imp zact ?_
  rintro xs H Q ⟨v, rfl, w, s, rx, r, S, R1, e, q⟩
  obtain ⟨ts, ht, rfl⟩ := map_some e
  obtain ⟨pa, vs, rfl, hp, rp⟩ := RepD.sq2 R1 ht
  refine ⟨pa, vs, rfl, hp.imp (fun h => .inl h) (fun h => SqT.of h), ?_⟩
  rw [← rp.length]
  exact q w H _ (Le.refl _ _) S rfl
theorem c_abs : CallR X (.builtin "abs") (rB1 G (b1R .abs)) := by
  refine CallR.imp call_abs ?_
  rintro xs H Q ⟨v, rfl, w, s, rx, r, S, R1, e, q⟩
  obtain ⟨i, hi, rfl⟩ := map_some e
  cases R1.int hi
  exact ⟨i, rfl, q w H _ (Le.refl _ _) S rfl⟩
theorem c_list : CallR X (.type "list") (rB1 G (b1R .list)) := by
  refine CallR.imp zacv ?_
  rintro xs H Q ⟨v, rfl, w, s, rx, r, S, R1, e, q⟩
  obtain ⟨ts, ht, rfl⟩ := map_some e
  obtain ⟨pa, vs, rfl, hp, rp⟩ := RepD.sq2 R1 ht
  exact ⟨pa, vs, rfl, hp.imp (fun h => .inl h) (fun h => SqT.of h), zabt S rp q⟩
def rB2 (G : Gx) (f : R → R → Option R) : List V → Hp → VK → Prop := fun xs H Q => ∃ v u, xs = [v, u] ∧ r2 G f v u H Q
theorem sB2 {f : R → R → Option R} {id : String} {x : Str} (hc : CallR X (.builtin id) (rB2 G f)) (hg : Gl X x) (hm : X.mg x = none) (hv : bootBuiltins x = some (.builtin id)) (hn : x ≠ "__name__") (hdb : (x == ("__debug__" : Str)) = false)
    (ha : PE X a (tV G X C a')) (hb : PE X b (tV G X C b')) (hs : starEach [a, b] X.env = [(false, eval a X.env), (false, eval b X.env)]) (hs2 : starEach [b] X.env = [(false, eval b X.env)])
    (hev : ∀ σ s, ev C e' .v σ s = (ev C a' .v σ s).bind fun x s1 => (ev C b' .v σ s1).bind fun y s2 => .of (f x y) s2) : PE X (.Call (.Name x p) [a, b] [] pos) (tV G X C e') := by
  refine PE.imp (zacu hc hg hm hv (zaao ha (zaao hb pa_nil hs2) (by rw [hs, hs2])) hn hdb (by rw [hs, hs2]) (by rw [hs2]; rfl)) ?_
  rintro σV H Q ⟨w₀, H₀, w, σ, s, g, h⟩
  rw [hev] at h
  obtain ⟨w₀, H₀, w, σ, s, g, h⟩ := t2_of (f := f) ⟨w₀, H₀, w, σ, s, g, h⟩
  refine ⟨w₀, H₀, w, σ, s, g, h.imp ?_⟩
  rintro v H1 ⟨w₀, H₀, w, σ, s, g, h⟩
  exact ⟨w₀, H₀, w, σ, s, g, h.imp fun u H2 q => ⟨v, u, rfl, q⟩⟩
def mn2R (x y : R) : Option R := do let i ← x.int?; let j ← y.int?; some (.val (.int (if j < i then j else i)))
theorem ii2 {x y r : R} {g : Int → Int → R} (h : (do let i ← x.int?; let j ← y.int?; some (g i j)) = some r) : ∃ i j, x.int? = some i ∧ y.int? = some j ∧ r = g i j := by
  cases hx : x.int? with
  | none => rw [hx] at h; cases h
  | some i =>
    cases hy : y.int? with
    | none => rw [hx, hy] at h; cases h
    | some j => rw [hx, hy] at h; cases h; exact ⟨i, j, rfl, rfl, rfl⟩
theorem c_min2 (hc : X.calm = true) : CallR X (.builtin "min") (rB2 G mn2R) := by
  refine CallR.imp (call_min2 hc) ?_
  rintro xs H Q ⟨v, u, rfl, w, s, rx, ry, r, S, R1, R2, e, q⟩
  obtain ⟨i, j, hi, hj, rfl⟩ := ii2 e
  cases R1.int hi
  cases R2.int hj
  exact ⟨i, j, rfl, q w H _ (Le.refl _ _) S rfl⟩
def tyOf : Ty → Option String
  | .int => some "int" | .bool => some "bool" | .tuple => some "tuple" | .list => some "list" | .str => some "str" | .cls _ => none
theorem isi_ty {w : Wo} {H : Hp} {st : Sto} {x : R} {v : V} {c : Ty} {k : Bool} {n : String} (S : StoOk G w H st) (r : RepD G w H x v) (hn : tyOf c = some n) (h : isiR x c = some k) : ∃ t, TyOf X.K H v t ∧ PySem.W.kitOne X.K t (.type n) = some k := by
  have lst : ∀ {a : Addr} {vs : List V}, Rd H a (.lst vs) → TyOf X.K H (.ref a) (.type "list") := fun {a vs} q => by
    rcases q with q | ⟨o, q⟩
    · exact .lst q
    · exact .frz q
  unfold isiR at h
  split at h <;> first
    | (cases h; done)
    | (cases h; cases hn; cases r; exact ⟨_, .int _, by with_unfolding_all rfl⟩)
    | (cases h; cases hn; cases r; exact ⟨_, .bl _, by with_unfolding_all rfl⟩)
    | (cases h; cases hn; cases r; exact ⟨_, .non, by with_unfolding_all rfl⟩)
    | (cases h; cases hn; obtain ⟨a, vs, rfl, q, _⟩ := r; exact ⟨_, .tup q, by with_unfolding_all rfl⟩)
    | (cases h; cases hn; obtain ⟨a, vs, rfl, _, q, _⟩ := r; exact ⟨_, lst q, by with_unfolding_all rfl⟩)
    | (cases h; cases hn; obtain ⟨a, vs, rfl, q, _⟩ := r; exact ⟨_, .lst q, by with_unfolding_all rfl⟩)
theorem isiX_ty {sub : Nat → Nat → Bool} {x : R} {c : Ty} {n : String} (hn : tyOf c = some n) : isiX sub x c = isiR x c := by
  cases c <;> first | (cases hn; done) | (unfold isiX; split <;> first | rfl | (rename_i z; cases z))
theorem sV_isi {c : Ty} {n : String} {y : Str} {py : Pos} (hn : tyOf c = some n) (hg : Gl X "isinstance") (hm : X.mg "isinstance" = none) (hgy : Gl X y) (hmy : X.mg y = none) (hv : bootBuiltins y = some (.type n)) (hy : y ≠ "__name__") (hdy : (y == ("__debug__" : Str)) = false)
    (ha : PE X a (tV G X C a')) (hs : starEach [a, .Name y py] X.env = [(false, eval a X.env), (false, eval (.Name y py) X.env)]) : PE X (.Call (.Name "isinstance" p) [a, .Name y py] [] pos) (tV G X C (.isi a' c)) := by
  have hc : CallR X (.builtin "isinstance") (fun xs H Q => ∃ v, xs = [v, .ty n] ∧ r1 G (fun x => (isiX C.sub x c).map fun k => .val (.bl k)) v H Q) := by
    rintro pins s σ H xs us Q I rv ⟨v, rfl, w, st, rx, r, S, R1, e, q⟩
    obtain ⟨u, u', rfl, r1, r2⟩ := rv.two
    cases r2
    obtain ⟨k, hk, rfl⟩ := map_some e
    rw [isiX_ty hn] at hk
    obtain ⟨t, ht, hk'⟩ := isi_ty (X := X) S R1 hn hk
    exact isinst_ok I r1 ht hk' fun tk => ⟨.bl k, H, I.tok tk, rfl, q w H _ (Le.refl _ _) S rfl⟩
  refine PE.imp (zacu hc hg hm (show bootBuiltins "isinstance" = some (.builtin "isinstance") by decide +kernel) (zaao ha (zaao (pe_bltn (v := .ty n) hgy hmy hv rfl hy hdy) pa_nil rfl) (by rw [hs]; rfl)) (by decide) (by decide) (by rw [hs]; rfl) rfl) ?_
  rintro σV H Q ⟨w₀, H₀, w, σ, s, g, h⟩
  obtain ⟨w₀, H₀, w, σ, s, g, h⟩ := t1_dr (f := fun x => (isiX C.sub x c).map fun k => .val (.bl k)) ⟨w₀, H₀, w, σ, s, g, h⟩
  exact ⟨w₀, H₀, w, σ, s, g, h.imp fun v H1 q => ⟨v, rfl, q⟩⟩
end
end IP
end
section
set_option Elab.async false
set_option linter.all false
set_option maxRecDepth 100000
namespace IP
open PySem PySem.Spec L2 PySem.SeqAt PyProof.Rows.LSm
section
variable {G : Gx} {X : Cx}
theorem zace {w : Wo} {H : Hp} : ∀ {ts : List T} {is : List Int} {vs : List V} {its : List Value}, asInts ts = some is → Reps G w H ts vs → Vals vs its → PyProof.Rows.IntsAre its is
  | [], is, vs, its, h, r, q => by
    cases h
    cases r
    rw [Vals.zero q]
    exact .nil
  | .int i :: ts, is, vs, its, h, ⟨v, r, e, h1, h2⟩, q => by
    unfold asInts at h
    obtain ⟨js, hj, rfl⟩ := map_some h
    subst e
    cases h1
    cases q with
    | cons q1 q2 =>
      obtain ⟨t, rfl⟩ := q1
      exact .cons i t (zace hj h2 q2)
  | .non :: ts, is, vs, its, h, r, q => by simp [asInts] at h
  | .bl _ :: ts, is, vs, its, h, r, q => by simp [asInts] at h
  | .str _ :: ts, is, vs, its, h, r, q => by simp [asInts] at h
  | .tup _ :: ts, is, vs, its, h, r, q => by simp [asInts] at h
  | .lst _ :: ts, is, vs, its, h, r, q => by simp [asInts] at h
  | .loc _ :: ts, is, vs, its, h, r, q => by simp [asInts] at h
  | .exc _ :: ts, is, vs, its, h, r, q => by simp [asInts] at h
theorem bind2 {α β γ : Type} {o : Option α} {p : α → Option β} {f : α → β → Option γ} {r : γ} (h : (do let a ← o; let b ← p a; f a b) = some r) : ∃ a b, o = some a ∧ p a = some b ∧ f a b = some r := by
  cases ho : o with
  | none => rw [ho] at h; cases h
  | some a =>
    rw [ho] at h
    cases hp : p a with
    | none => simp [hp] at h
    | some b => simp [hp] at h; exact ⟨a, b, rfl, hp, h⟩
theorem zabz (x : Int) : ∀ l : List Int, (insI x l).Perm (x :: l)
  | [] => .refl _
  | y :: r => by
    unfold insI
    split
    · exact .refl _
    · exact ((zabz x r).cons y).trans (.swap x y r)
theorem insI_pw (x : Int) : ∀ l : List Int, l.Pairwise (· ≤ ·) → (insI x l).Pairwise (· ≤ ·)
  | [], _ => by simp [insI]
  | y :: r, h => by
    unfold insI
    obtain ⟨h1, h2⟩ := List.pairwise_cons.mp h
    split
    · rename_i hlt
      refine List.pairwise_cons.mpr ⟨fun z hz => ?_, h⟩
      rcases List.mem_cons.mp hz with e | e
      · omega
      · have := h1 z e; omega
    · rename_i hlt
      refine List.pairwise_cons.mpr ⟨fun z hz => ?_, insI_pw x r h2⟩
      rcases List.mem_cons.mp ((zabz x r).mem_iff.mp hz) with e | e
      · omega
      · exact h1 z e
theorem zafc (is : List Int) : (sortI is).Perm is ∧ (sortI is).Pairwise (· ≤ ·) := by
  have go : ∀ (l acc : List Int), acc.Pairwise (· ≤ ·) → (l.foldl (fun acc x => insI x acc) acc).Perm (l ++ acc) ∧ (l.foldl (fun acc x => insI x acc) acc).Pairwise (· ≤ ·) := by
    intro l
    induction l with
    | nil => intro acc h; exact ⟨.refl _, h⟩
    | cons x l ih =>
      intro acc h
      obtain ⟨h1, h2⟩ := ih (insI x acc) (insI_pw x acc h)
      refine ⟨h1.trans ?_, h2⟩
      exact ((zabz x acc).append_left l).trans List.perm_middle
  have := go is [] List.Pairwise.nil
  rw [List.append_nil] at this
  exact this
theorem zabe : ∀ {its : List Value} {ns : List Int}, PyProof.Rows.IntsAre its ns → Vals (ns.map V.int) its
  | _, _, .nil => .nil
  | _, _, .cons n t r => .cons ⟨t, rfl⟩ (zabe r)
theorem zaay (w : Wo) (H : Hp) : ∀ ns : List Int, Reps G w H (ns.map T.int) (ns.map V.int)
  | [] => rfl
  | n :: r => ⟨_, _, rfl, rfl, zaay w H r⟩
theorem c_sorted : CallR X (.builtin "sorted") (rB1 G (b1R .sorted)) := by
  rintro pins s σ H xs us Q I rv ⟨v, rfl, w, st, rx, r, S, R1, e, q⟩
  obtain ⟨ts, is, ht, hb, he⟩ := bind2 (f := fun (_ : List T) (is : List Int) => if is.length < 64 then some (R.val (.lst ((sortI is).map .int))) else none) e
  split at he
  · rename_i h64
    cases he
    obtain ⟨pa, vs, rfl, hp, rp⟩ := RepD.seq (s := st) R1 ht
    obtain ⟨u, rfl, ru⟩ := rv.one
    cases ru
    obtain ⟨its, q1, hl⟩ := zaar I hp
    have hI := zace hb rp q1
    have hlen := hI.length
    refine PyProof.Rows.sorted_ints hl hI (by omega) fun out ns' a1 a2 a3 => ?_
    obtain ⟨s1, s2⟩ := zafc is
    have en : ns' = sortI is := PySem.W.ksm_same (a2.trans s1.symm) a3 s2
    subst en
    obtain ⟨ee, he⟩ := PyProof.Rows.sortedAll_at s.heap its out
    have hf : H (s.heap.objs.size + 1) = none := I.hok.fresh (Nat.le_succ _)
    have hlen2 : (sortI is).length ≤ sizeLine := by
      rw [s1.length_eq]
      have : (64 : Nat) ≤ sizeLine := by decide
      omega
    refine ⟨.ref (s.heap.objs.size + 1), upd H (s.heap.objs.size + 1) (.lst ((sortI is).map V.int)), I.laid (t' := s.toks) (fun b u e => PyProof.Rows.sortedAll_old e) (Nat.le_succ _) ?_, rfl, zabt S (zaay w H _) q _ hf⟩
    refine ⟨by rw [List.length_map]; exact hlen2, out.toList, ee, zabe a1, ?_⟩
    rw [he]
  · cases he
end
end IP
end
section
set_option Elab.async false
set_option linter.all false
set_option maxRecDepth 100000
namespace IP
open PySem PySem.Spec L2
def CXE (G : Gx) (P : Program) (w : World) (base : Heap) : CXT := fun outer H s E e s' =>
  ∃ (a : Addr) (cls t : Value) (H' : Hp) (h B : Heap), e = .ref a ∧ s'.os = s.os ∧ PyProof.Rows.AllBare s'.gens ∧ Un (frs outer) [] H H' s.heap h ∧ HOk P w H' h ∧ Flt outer h B a s'.heap ∧ base.StaysIn B ∧ Heap.FlyingW B outer a cls t s'.heap ∧ E cls none H'
section
variable {G : Gx} {X : Cx} {C : Cf} {k : Nat} {f fa : Addr} {fd : FuncData} {ps : List Str} {sp : Sp} {dvs : List V} {ds : List Value} {E : XK}
theorem Inv.after' {pins : List (Addr × Obj)} {σ : St} {H H' : Hp} {s s' : Shared} (I : Inv X pins σ H s) (os : s'.os = s.os) (bare : PyProof.Rows.AllBare s'.gens) (un : Un (frs X.stack) [] H H' s.heap s'.heap) (hok : HOk X.prog X.w H' s'.heap) : Inv X pins σ H' s' := by
  obtain ⟨hh, g, d, t, os'⟩ := s'
  obtain rfl : os' = s.os := os
  exact I.call (h' := hh) (g' := g) (d' := d) (t' := t) (ch := []) un hok bare (fun b z => absurd z (by simp))
theorem run_call {CX : CXT} {pins : List (Addr × Obj)} {σ : St} {H : Hp} {s : Shared} {Q : VK} {us : List Value} {vs : List V} (F : FnOk X.prog X.w X.K X.mg X.base CX k f fd ps sp) (hr : Room k X.A) (hb : Binds X.K fd ps ds) (hd : Vals dvs ds)
    (I : Inv X pins σ H s) (r : Vals vs us) (h : sp (vs ++ dvs) H Q E) (hx : ∀ e s', CX X.stack H s E e s' → X.xe e s') : wpAny (model X.prog X.w) X.A (call (.ref f) us) (EP X pins σ Q) X.xe s := by
  have r2 : Vals (vs ++ dvs) (us ++ ds) := r.append hd
  have hl : (us ++ ds).length = ps.length := by rw [← r2.length]; exact F.len _ _ _ _ h
  refine wpAny_call (codeAny_mono (F.run X.A X.stack s H ⟨us, []⟩ (us ++ ds) (vs ++ dvs) Q E hr I.env0 (hb s us I.kIn hl) r2 h) fun r s' hq => ?_)
  cases r with
  | error e => exact hx e s' hq
  | ok fl =>
    cases fl with
    | ret u => exact I.after hq
    | next => exact False.elim hq
    | brk => exact False.elim hq
    | cont => exact False.elim hq
def EX (G : Gx) (X : Cx) (σV : St) : XK := fun cls _ H' => ∀ pins u sh h B a t, u = .ref a → Inv X pins σV H' { sh with heap := h } → Flt X.stack h B a sh.heap → X.base.StaysIn B → Heap.FlyingW B X.stack a cls t sh.heap → X.xe u sh
theorem passes_of {pins : List (Addr × Obj)} {σ : St} {H : Hp} {s : Shared} (I : Inv X pins σ H s) (e : Value) (s' : Shared) (h : CXE G X.prog X.w X.base X.stack H s (EX G X σ) e s') : X.xe e s' := by
  obtain ⟨a, cls, t, H', hh, B, rfl, os, bare, un, hok, fl, sb, fly, q⟩ := h
  exact q pins (.ref a) s' hh B a t rfl (Inv.after' (s' := { s' with heap := hh }) I os bare un hok) fl sb fly
theorem zabb {w : Wo} {H : Hp} : ∀ {rs qs : List R} {vs us : List V}, RepRs G w H rs vs → RepRs G w H qs us → RepRs G w H (rs ++ qs) (vs ++ us)
  | [], qs, _, us, h, q => by rw [h]; exact q
  | t :: ts, qs, _, us, ⟨v, r, e, h, k⟩, q => by subst e; exact ⟨v, r ++ us, rfl, h, zabb k q⟩
def cstV : T → Option V
  | .non => some .non | .bl b => some (.bl b) | .int i => some (.int i) | .str x => some (.str x) | _ => none
theorem zade {w : Wo} {H : Hp} : ∀ {ts : List T} {vs : List V}, ts.mapM cstV = some vs → RepRs G w H (ts.map R.val) vs
  | [], vs, h => by cases h; exact rfl
  | t :: ts, vs, h => by
    rw [List.mapM_cons] at h
    cases e : cstV t with
    | none => simp [e] at h
    | some v =>
      cases e2 : ts.mapM cstV with
      | none => simp [e, e2] at h
      | some us =>
        simp [e, e2] at h
        subst h
        refine ⟨v, us, rfl, ?_, zade e2⟩
        cases t <;> cases e <;> exact rfl
variable {es : List Expr} {es' : List IP.E} {e₀ : Expr} {fi : Nat} {x : Str} {p pos : Pos} {dts : List T}
theorem zaeq {w : Wo} {H : Hp} {σV : St} {m : Res (List R)} {k : List R → Sto → Res R} {Q : VK} (h : Want G X σV w H (m.bind k) Q) : WantR G X σV w H m fun vs H1 => ∃ w1 rs s1, Le w w1 H H1 ∧ StoOk G w1 H1 s1 ∧ RepRs G w1 H1 rs vs ∧ Want G X σV w H (k rs s1) Q := by
  cases m with
  | stuck => exact h
  | ok rs s => exact fun w' H' vs a b c => ⟨w', rs, s, a, b, c, h⟩
  | exc c s => exact h
end
end IP
end
section
set_option Elab.async false
set_option linter.all false
set_option maxRecDepth 100000
namespace IP
open PySem PySem.Spec L2
def clo (cells : List (Str × Addr)) : List (Str × NameKind) → List (Str × Addr) → List (Str × Addr)
  | [], acc => acc
  | (n, k) :: r, acc => clo cells r (if k == .free then (match cells.lookup n with | some c => (n, c) :: acc | none => acc) else acc)
theorem zaes (scope : Scope) (env : Env) (h : ∀ x ∈ scope.names, x.2 = .free → ∃ c, env.cells.lookup x.1 = some c) : closureFor scope env = pure (clo env.cells scope.names []) := by
  unfold closureFor
  generalize ([] : List (Str × Addr)) = acc
  obtain ⟨k, names, a, b, c⟩ := scope
  simp only at h ⊢
  induction names generalizing acc with
  | nil => rfl
  | cons x r ih =>
    obtain ⟨n, k⟩ := x
    have ih := fun acc => ih acc (fun y hy => h y (List.mem_cons_of_mem _ hy))
    simp only [List.forIn_cons, clo]
    by_cases hk : (k == NameKind.free) = true
    · have hk' : k = .free := by simpa using hk
      obtain ⟨c, hc⟩ := h (n, k) (List.mem_cons_self ..) hk'
      have hc : List.lookup n env.cells = some c := hc
      simp only [hk, if_true, cellOf, hc, pure_bind]
      exact ih _
    · simp only [Bool.not_eq_true] at hk
      simp only [hk, Bool.false_eq_true, if_false, pure_bind]
      exact ih _
theorem zaev (cells : List (Str × Addr)) : ∀ (names : List (Str × NameKind)) (acc : List (Str × Addr)), (∀ x c, acc.lookup x = some c → cells.lookup x = some c) → ∀ x c, (clo cells names acc).lookup x = some c → cells.lookup x = some c
  | [], acc, h, x, c, e => h x c e
  | (n, k) :: r, acc, h, x, c, e => by
    refine zaev cells r _ (fun y d q => ?_) x c e
    split at q
    · split at q
      · rename_i d' hd
        rw [List.lookup_cons] at q
        split at q
        · rename_i hyn
          have : y = n := by simpa using hyn
          subst this
          cases q
          exact hd
        · exact h y d q
      · exact h y d q
    · exact h y d q
theorem zaeu (cells : List (Str × Addr)) : ∀ (names : List (Str × NameKind)) (acc : List (Str × Addr)) (x : Str), (∃ c, acc.lookup x = some c) → ∃ c, (clo cells names acc).lookup x = some c
  | [], acc, x, h => h
  | (n, k) :: r, acc, x, h => by
    refine zaeu cells r _ x ?_
    split
    · split
      · rename_i d' hd
        rw [List.lookup_cons]
        split
        · exact ⟨_, rfl⟩
        · exact h
      · exact h
    · exact h
theorem zaer (cells : List (Str × Addr)) : ∀ (names : List (Str × NameKind)) (acc : List (Str × Addr)) (x : Str), (x, NameKind.free) ∈ names → (∃ c, cells.lookup x = some c) → ∃ c, (clo cells names acc).lookup x = some c
  | [], acc, x, h, _ => by simp at h
  | (n, k) :: r, acc, x, h, hc => by
    rcases List.mem_cons.mp h with e | e
    · cases e
      obtain ⟨c, hc⟩ := hc
      refine zaeu cells r _ _ ?_
      simp [hc]
    · exact zaer cells r _ x e hc
theorem zacg {α : Type} : ∀ {l : List (Str × α)} {x : Str} {a : α}, l.lookup x = some a → (x, a) ∈ l
  | [], x, a, h => by simp at h
  | (y, b) :: r, x, a, h => by
    rw [List.lookup_cons] at h
    split at h
    · rename_i e
      have : x = y := by simpa using e
      subst this
      cases h
      exact List.mem_cons_self ..
    · exact List.mem_cons_of_mem _ (zacg h)
theorem zaba (scope : Scope) (env : Env) (x : Str) (k : NameKind) (h : (relabel scope env).names.lookup x = some k) : ∃ k', (x, k') ∈ scope.names ∧ ((k = .cell ∨ k = .free) → k' = .cell ∨ k' = .free) ∧ (k = .local → k' = .local) := by
  have h := zacg h
  unfold relabel at h
  obtain ⟨⟨n, k'⟩, hm, e⟩ := List.mem_map.mp h
  dsimp only at e
  split at e
  · rename_i hc
    cases e
    have : k' = .free := by
      have := (Bool.and_eq_true _ _).mp hc
      have := (Bool.and_eq_true _ _).mp this.1
      simpa using this.1
    exact ⟨k', hm, fun _ => .inr this, fun z => by cases z⟩
  · cases e
    exact ⟨_, hm, fun z => z, fun z => z⟩
section
variable {X : Cx}
def cxC (X : Cx) (N' : List Str) (scope : Scope) (C : Addr) (fp : List Addr) (s2 : Shared) (H2 : Hp) : Cx :=
  { X with N := N', s₀ := s2, H₀ := H2, env := compEnvC scope (clo X.env.cells scope.names []) C X.env, outer := X.stack, ex := fp, fn := fun _ => false, pn := [], xe := fun _ _ => False }
structure CompN (X : Cx) (scope : Scope) (N' : List Str) (js : List Nat) : Prop where
  kind : scope.kind = .function
  nocell : ∀ x ∈ scope.names, x.2 ≠ .cell
  free : ∀ x ∈ scope.names, x.2 = .free → X.env.kindOf x.1 = some .cell ∨ X.env.kindOf x.1 = some .free
  len : N'.length = X.N.length
  nd : N'.Nodup
  same : ∀ (i : Nat) (x : Str), N'[i]? = some x → i ∉ js → Vis (relabel scope X.env) x → X.N[i]? = some x ∧ (x, NameKind.free) ∈ scope.names ∧ ((relabel scope X.env).names.lookup x = some .cell ∨ (relabel scope X.env).names.lookup x = some .free)
  locs : ∀ x ∈ scope.names, x.2 = .local → scope.names.lookup x.1 = some .local
def clr (σ : St) (js : List Nat) : St := js.foldl (fun σ j => σ.set j none) σ
theorem clr_len (js : List Nat) : ∀ σ : St, (clr σ js).length = σ.length := by
  induction js with
  | nil => intro σ; rfl
  | cons j js ih => intro σ; show (clr (σ.set j none) js).length = _; rw [ih]; simp
theorem clr_get (js : List Nat) : ∀ (σ : St) (i : Nat) (v : V), (clr σ js)[i]? = some (some v) → σ[i]? = some (some v) ∧ i ∉ js := by
  induction js with
  | nil => intro σ i v h; exact ⟨h, by simp⟩
  | cons j js ih =>
    intro σ i v h
    obtain ⟨h1, h2⟩ := ih (σ.set j none) i v h
    by_cases e : j = i
    · subst e
      rw [List.getElem?_set_self'] at h1
      cases hq : σ[j]? with
      | none => rw [hq] at h1; cases h1
      | some q => rw [hq] at h1; cases h1
    · rw [List.getElem?_set_ne e] at h1
      exact ⟨h1, by simp [h2]; exact fun z => e z.symm⟩
theorem cxC_inv {pins : List (Addr × Obj)} {σ : St} {H : Hp} {s : Shared} {scope : Scope} {N' : List Str} {js : List Nat} {fp : List Addr} {h4 : Heap} {tk : Nat} (hN : CompN X scope N' js) (I : Inv X pins σ H s) (hfp : ∀ b ∈ fp, FpOk X pins H b) (hfo : ∀ b ∈ fp, ∃ o, s.heap.get? b = some o)
    (hns : h4.Ns s.heap.objs.size (fun _ => none)) (hk : ∀ b o, s.heap.get? b = some o → h4.get? b = some o) :
    Inv (cxC X N' scope s.heap.objs.size fp s H) [] (clr σ js) H { s with heap := h4, toks := tk } := by
  have hlt : ∀ {b : Addr} {o : Obj}, s.heap.get? b = some o → b ≠ s.heap.objs.size := fun e => Nat.ne_of_lt (Heap.lt_size e)
  have hsubc := zaev X.env.cells scope.names [] (fun x c z => by simp at z)
  have clt : ∀ x c, (clo X.env.cells scope.names []).lookup x = some c → c ≠ s.heap.objs.size := fun x c e => by
    obtain ⟨v, hv⟩ := I.cell x c (hsubc x c e)
    obtain ⟨o, ho, _⟩ := hv
    exact hlt ho
  have hkin : ∀ x : Str, (relabel scope X.env).names.lookup x = some .cell ∨ (relabel scope X.env).names.lookup x = some .free → (x, NameKind.free) ∈ scope.names := fun x hx => by
    have : ∃ k', (x, k') ∈ scope.names ∧ (k' = .cell ∨ k' = .free) := by
      rcases hx with hx | hx
      · obtain ⟨k', h1, h2, _⟩ := zaba _ _ _ _ hx; exact ⟨k', h1, h2 (.inl rfl)⟩
      · obtain ⟨k', h1, h2, _⟩ := zaba _ _ _ _ hx; exact ⟨k', h1, h2 (.inr rfl)⟩
    obtain ⟨k', h1, h2⟩ := this
    rcases h2 with rfl | rfl
    · exact absurd rfl (hN.nocell _ h1)
    · exact h1
  have hcell : ∀ x : Str, (x, NameKind.free) ∈ scope.names → ∃ c, X.env.cells.lookup x = some c := fun x hx => I.ok.has x (hN.free (x, .free) hx rfl)
  have hstk : ∀ b ∈ frs X.stack, b ∈ X.env.locals :: X.fs := I.stkSub
  refine ⟨⟨I.ok.mod, hN.kind, I.ok.glob, I.ok.blt, Nat.le_refl _, fun x y c h1 h2 => I.ok.inj x y c (hsubc _ _ h1) (hsubc _ _ h2), fun x hx => ?_, fun x c h _ => (Bool.noConfusion (show false = true from h)), I.ok.hd, I.ok.frames, .inl rfl, fun b hb => ?_, I.bs, Nat.le_trans I.ok.bsz I.sz, fun b o e hb => ?_, fun b hb hf => ?_, I.stack, I.stkFree⟩,
    rfl, I.bare, Un.kept hk, ⟨_, hns, fun i x v h1 h2 h3 => ?_⟩, fun x c h => ?_, I.hok.fresh (Nat.le_refl _), fun x c h => I.freeC x c (hsubc _ _ h), fun p hp => absurd (show p ∈ ([] : List (Addr × Obj)) from hp) (by simp), I.hok.kept hk, ?_⟩
  · exact zaer X.env.cells scope.names [] x (hkin x hx) (hcell x (hkin x hx))
  · obtain ⟨f0, f1, f2, f3, f4, f5⟩ := hfp b hb
    refine ⟨fun z => ?_, fun x c e z => f4 x c (hsubc _ _ e) z⟩
    obtain ⟨o, ho⟩ := hfo b hb
    exact hlt ho z
  · have := I.bs b o e
    obtain ⟨f0, f1, f2, f3, f4, f5⟩ := hfp b hb
    rcases f3 with f3 | f3
    · exact I.ok.noex b o e f3
    · exact absurd (Nat.lt_of_lt_of_le (Heap.lt_size (I.ok.bs b o e).1) f3) (Nat.lt_irrefl _)
  · obtain ⟨f0, f1, f2, f3, f4, f5⟩ := hfp b hb
    rcases List.mem_cons.mp (hstk b hf) with z | z
    · exact f1 z
    · exact f2 z
  · obtain ⟨h2', hj⟩ := clr_get js σ i v h2
    obtain ⟨q1, q2, q3⟩ := hN.same i x h1 hj h3
    obtain ⟨m, hm, hl⟩ := I.loc
    have hkx := hN.free (x, .free) q2 rfl
    obtain ⟨u, ru, lk⟩ := hl i x v q1 h2' (.inr hkx)
    refine ⟨u, ru, .inr ⟨q3, ?_⟩⟩
    · rcases lk with ⟨k1, _⟩ | ⟨_, c, hc, ic⟩
      · rcases hkx with z | z <;> (rw [z] at k1; cases k1)
      · obtain ⟨c', hc'⟩ := zaer X.env.cells scope.names [] x q2 ⟨c, hc⟩
        have := hsubc _ _ hc'
        rw [hc] at this
        cases this
        exact ⟨c, hc', ic.keeps hk⟩
  · obtain ⟨v, hv⟩ := I.cell x c (hsubc x c h)
    exact ⟨v, hv.keeps hk⟩
  · rw [clr_len, I.len]
    exact hN.len.symm
end
end IP
end
section
set_option Elab.async false
set_option linter.all false
set_option maxRecDepth 100000
namespace IP
open PySem PySem.Spec L2
section
variable {G : Gx} {w : Wo} {H H₀ : Hp}
mutual
theorem Rep.upd {a : Addr} {xs ys : List V} (ha : H a = some (.lst xs)) (hz : ¬ w.Z a) : ∀ (t : T) (v : V), Rep G w H t v → Rep G w (L2.upd H a (.lst ys)) t v
  | .non, v, h => h
  | .bl b, v, h => h
  | .int i, v, h => h
  | .str x, v, h => h
  | .tup ts, v, ⟨p, vs, e, h, r⟩ => ⟨p, vs, e, by rw [upd_ne (ne_of h ha (by intro z; cases z))]; exact h, Reps.upd ha hz ts vs r⟩
  | .lst ts, v, ⟨p, vs, e, z, h, r⟩ => by
    have ne : p ≠ a := fun q => hz (q ▸ z)
    refine ⟨p, vs, e, z, ?_, Reps.upd ha hz ts vs r⟩
    rcases h with h | ⟨o, h⟩
    · exact .inl (by rw [upd_ne ne]; exact h)
    · exact .inr ⟨o, by rw [upd_ne ne]; exact h⟩
  | .loc l, v, h => h
  | .exc c, v, ⟨p, e, h⟩ => ⟨p, e, by rw [upd_ne (ne_of h ha (by intro z; cases z))]; exact h⟩
theorem Reps.upd {a : Addr} {xs ys : List V} (ha : H a = some (.lst xs)) (hz : ¬ w.Z a) : ∀ (ts : List T) (vs : List V), Reps G w H ts vs → Reps G w (L2.upd H a (.lst ys)) ts vs
  | [], vs, h => h
  | t :: ts, vs, ⟨v, r, e, h, q⟩ => ⟨v, r, e, Rep.upd ha hz t v h, Reps.upd ha hz ts r q⟩
end
mutual
theorem Rep.zmono {w' : Wo} (hn : w'.n = w.n) (hio : w'.io = w.io) (hz : ∀ a, w.Z a → w'.Z a) : ∀ (t : T) (v : V), Rep G w H t v → Rep G w' H t v
  | .non, v, h => h
  | .bl b, v, h => h
  | .int i, v, h => h
  | .str x, v, h => h
  | .tup ts, v, ⟨p, vs, e, h, r⟩ => ⟨p, vs, e, h, Reps.zmono hn hio hz ts vs r⟩
  | .lst ts, v, ⟨p, vs, e, z, h, r⟩ => ⟨p, vs, e, hz _ z, h, Reps.zmono hn hio hz ts vs r⟩
  | .loc l, v, ⟨h, e⟩ => ⟨by rw [hn]; exact h, by rw [hio]; exact e⟩
  | .exc c, v, h => h
theorem Reps.zmono {w' : Wo} (hn : w'.n = w.n) (hio : w'.io = w.io) (hz : ∀ a, w.Z a → w'.Z a) : ∀ (ts : List T) (vs : List V), Reps G w H ts vs → Reps G w' H ts vs
  | [], vs, h => h
  | t :: ts, vs, ⟨v, r, e, h, q⟩ => ⟨v, r, e, Rep.zmono hn hio hz t v h, Reps.zmono hn hio hz ts r q⟩
end
theorem StoOk.upd {s : Sto} {a : Addr} {xs ys : List V} (S : StoOk G w H s) (ha : H a = some (.lst xs)) (hz : ¬ w.Z a) (hl : IP.notLoc w a) : StoOk G w (L2.upd H a (.lst ys)) s where
  len := S.len
  inj := S.inj
  nz := S.nz
  cell := fun l c e => by
    have h : l < w.n := by rw [← S.len]; exact (List.getElem?_eq_some_iff.mp e).1
    have q := S.cell l c e
    have ne : w.io l ≠ a := fun z => hl l h z.symm
    cases c with
    | lst ts => obtain ⟨vs, q1, q2⟩ := q; exact ⟨vs, by rw [upd_ne ne]; exact q1, Reps.upd ha hz ts vs q2⟩
    | ins c fs => obtain ⟨dx, kvs, q1, q2, q3⟩ := q; exact ⟨dx, kvs, by rw [upd_ne ne]; exact q1, q2, fun i x t h1 h2 => let ⟨v, z1, z2⟩ := q3 i x t h1 h2; ⟨v, z1, Rep.upd ha hz t v z2⟩⟩
  zt := fun p z => by
    obtain ⟨vs, r⟩ := S.zt p z
    have ne : p ≠ a := fun q => hz (q ▸ z)
    rcases r with r | ⟨o, r⟩
    · exact ⟨vs, .inl (by rw [upd_ne ne]; exact r)⟩
    · exact ⟨vs, .inr ⟨o, by rw [upd_ne ne]; exact r⟩⟩
theorem StoOk.addZ {s : Sto} {a : Addr} {xs : List V} (S : StoOk G w H s) (ha : H a = some (.lst xs)) (hl : IP.notLoc w a) : StoOk G (w.addZ a) H s where
  len := S.len
  inj := S.inj
  nz := fun l h z => z.elim (S.nz l h) fun q => hl l h q.symm
  cell := fun l c e => by
    have q := S.cell l c e
    cases c with
    | lst ts => obtain ⟨vs, q1, q2⟩ := q; exact ⟨vs, q1, Reps.zmono (w := w) (w' := w.addZ a) rfl rfl (fun _ z => .inl z) ts vs q2⟩
    | ins c fs => obtain ⟨dx, kvs, q1, q2, q3⟩ := q; exact ⟨dx, kvs, q1, q2, fun i x t h1 h2 => let ⟨v, z1, z2⟩ := q3 i x t h1 h2; ⟨v, z1, Rep.zmono (w := w) (w' := w.addZ a) rfl rfl (fun _ z => .inl z) t v z2⟩⟩
  zt := fun p z => z.elim (S.zt p) fun q => ⟨xs, .inl (by rw [q]; exact ha)⟩
theorem Le.updNew {w' : Wo} {H' : Hp} {a : Addr} {o : HO} (L : Le w w' H H') (ha : H a = none) (hs : H' a ≠ none) : Le w w' H (L2.upd H' a o) where
  n := L.n
  io := L.io
  Z := L.Z
  keep := fun p q e nl => by rw [upd_ne (zabl e ha)]; exact L.keep p q e nl
  newL := L.newL
  newZ := L.newZ
  some_ := fun p z => by
    by_cases e : p = a
    · subst e; exact absurd ha z
    · rw [upd_ne e]; exact L.some_ p z
theorem Le.addZ {w' : Wo} {H' : Hp} {a : Addr} (L : Le w w' H H') (ha : H a = none) : Le w (w'.addZ a) H H' where
  n := L.n
  io := L.io
  Z := fun p z => .inl (L.Z p z)
  keep := L.keep
  newL := L.newL
  newZ := fun p z => z.elim (L.newZ p) fun q => .inr (q ▸ ha)
  some_ := L.some_
theorem want_o {X : Cx} {σV : St} {res : Res R} {Q : VK} (hv : ∀ r s, res = .ok r s → ∃ ts, r = .val (.lst ts)) (h : Want G X σV w H res Q) : WantO G X σV w H res Q := by
  cases res with
  | stuck => exact h
  | exc c s => exact h
  | ok r s =>
    obtain ⟨ts, rfl⟩ := hv r s rfl
    intro w' H' a vs L S ha r hn nz nl
    exact h (w'.addZ a) H' (.ref a) (L.addZ hn) (S.addZ ha nl) ⟨a, vs, rfl, .inr rfl, .inl ha, Reps.zmono (w := w') (w' := w'.addZ a) rfl rfl (fun _ z => .inl z) ts vs r⟩
theorem FrOk.put {σ : Fr} {σV : St} {i : Nat} {t : T} {v : V} (F : FrOk G w H H₀ σ σV) (r : Rep G w H t v) : FrOk G w H H₀ (put σ i t) (σV.set i (some v)) where
  len := by unfold IP.put; simp [F.len]
  val := fun j u e => by
    unfold IP.put at e
    by_cases hj : i = j
    · subst hj
      have hlt : i < σ.length := by
        have := (List.getElem?_eq_some_iff.mp e).1
        simpa using this
      rw [List.getElem?_set_self hlt] at e
      cases e
      exact ⟨v, by rw [List.getElem?_set_self (by rw [← F.len]; exact hlt)], r⟩
    · rw [List.getElem?_set_ne hj] at e
      obtain ⟨x, h1, h2⟩ := F.val j u e
      exact ⟨x, by rw [List.getElem?_set_ne hj]; exact h1, h2⟩
  own := fun j b ts e eb => by
    unfold IP.put at e
    by_cases hj : i = j
    · subst hj
      have hlt : i < σ.length := by
        have := (List.getElem?_eq_some_iff.mp e).1
        simpa using this
      rw [List.getElem?_set_self hlt] at e
      cases e
      cases eb
    · rw [List.getElem?_set_ne hj] at e
      obtain ⟨a, vs, h1, h2⟩ := F.own j b ts e eb
      exact ⟨a, vs, by rw [List.getElem?_set_ne hj]; exact h1, h2⟩
  apart := fun j k b c ts us a hjk e1 eb e2 ec e3 e4 => by
    unfold IP.put at e1 e2
    have nj : i ≠ j := fun q => by
      subst q
      have hlt : i < σ.length := by
        have := (List.getElem?_eq_some_iff.mp e1).1
        simpa using this
      rw [List.getElem?_set_self hlt] at e1
      cases e1
      cases eb
    have nk : i ≠ k := fun q => by
      subst q
      have hlt : i < σ.length := by
        have := (List.getElem?_eq_some_iff.mp e2).1
        simpa using this
      rw [List.getElem?_set_self hlt] at e2
      cases e2
      cases ec
    rw [List.getElem?_set_ne nj] at e1 e3
    rw [List.getElem?_set_ne nk] at e2 e4
    exact F.apart j k b c ts us a hjk e1 eb e2 ec e3 e4
  bor := fun j ts e => by
    unfold IP.put at e
    by_cases hj : i = j
    · subst hj
      have hlt : i < σ.length := by
        have := (List.getElem?_eq_some_iff.mp e).1
        simpa using this
      rw [List.getElem?_set_self hlt] at e
      cases e
    · rw [List.getElem?_set_ne hj] at e
      obtain ⟨a, vs, h1, h2⟩ := F.bor j ts e
      exact ⟨a, vs, by rw [List.getElem?_set_ne hj]; exact h1, h2⟩
def setsV (σV : St) : List Nat → List V → St
  | [], _ => σV
  | _, [] => σV
  | i :: is, v :: vs => setsV (σV.set i (some v)) is vs
theorem zadn : ∀ (is : List Nat) (vs : List V) (σV : St), (setsV σV is vs).length = σV.length
  | [], _, σV => rfl
  | i :: is, [], σV => rfl
  | i :: is, v :: vs, σV => by show (setsV (σV.set i (some v)) is vs).length = _; rw [zadn is vs]; simp
theorem FrOk.puts : ∀ {is : List Nat} {ts : List T} {vs : List V} {σ σ' : Fr} {σV : St}, FrOk G w H H₀ σ σV → Reps G w H ts vs → IP.puts σ is ts = some σ' → FrOk G w H H₀ σ' (setsV σV is vs)
  | [], [], vs, σ, σ', σV, F, r, h => by cases h; exact F
  | [], _ :: _, vs, σ, σ', σV, F, r, h => by cases h
  | _ :: _, [], vs, σ, σ', σV, F, r, h => by cases h
  | i :: is, t :: ts, _, σ, σ', σV, F, ⟨v, r, e, h1, h2⟩, h => by
    subst e
    have z := FrOk.puts (is := is) (ts := ts) (vs := r) (σ' := σ') (F.put (i := i) h1) h2 h
    exact z
theorem set_comm' {σV : St} {i j : Nat} {x y : Option V} (h : i ≠ j) : (σV.set i x).set j y = (σV.set j y).set i x := List.set_comm x y h
theorem zaej {σV : St} {j : Nat} {x : Option V} : ∀ {js : List Nat}, j ∉ js → clr (σV.set j x) js = (clr σV js).set j x
  | [], _ => rfl
  | k :: js, h => by
    show clr ((σV.set j x).set k none) js = (clr (σV.set k none) js).set j x
    rw [set_comm' (fun q => h (by simp [q]))]
    exact zaej (σV := σV.set k none) fun q => h (List.mem_cons_of_mem _ q)
theorem zac2 : ∀ {js : List Nat} {vs : List V} {σV : St}, js.Nodup → js.length = vs.length → setsV (clr σV js) js vs = setsV σV js vs
  | [], [], σV, _, _ => rfl
  | j :: js, v :: vs, σV, hn, hl => by
    obtain ⟨h1, h2⟩ := List.nodup_cons.mp hn
    show setsV ((clr (σV.set j none) js).set j (some v)) js vs = setsV (σV.set j (some v)) js vs
    rw [zaej h1, List.set_set, ← zaej h1]
    exact zac2 h2 (by simpa using hl)
  | j :: js, [], σV, hn, hl => by simp at hl
  | [], _ :: _, σV, hn, hl => by simp at hl
end
end IP
end
section
set_option Elab.async false
set_option linter.all false
set_option maxRecDepth 100000
namespace IP
open PySem PySem.Spec L2
section
variable {prog : Program} {w : World} {A : Around} {E : Value → Shared → Prop} {s : Shared}
theorem zae3 {it l : Addr} {items : Array Value} (hne : l ≠ it) : ∀ (n i : Nat) (s : Shared) (Q : List Value → Shared → Prop), s.heap.IsListIter it l i → s.heap.IsList l items → i + n ≤ items.size →
    (∀ h', h'.IsListIter it l (i + n) → Heap.SameBut it s.heap h' → Q ((items.toList.drop i).take n) { s with heap := h' }) → wpAny (model prog w) A (draw (.ref it) n) Q E s
  | 0, i, s, Q, hit, _, _, hQ => by
    show wpAny _ _ (pure []) Q E s
    exact wpAny_pure (by simpa using hQ s.heap hit (Heap.SameBut.refl ..))
  | n + 1, i, s, Q, hit, ht, hle, hQ => by
    have hlt : i < items.size := by omega
    show wpAny _ _ (pyNext (.ref it) >>= _) Q E s
    refine wpAny_bind (wpAny_pyNext_list_item hit ht (x := items[i]) (by simp [hlt]) fun h₁ hit₁ hs₁ => ?_)
    refine wpAny_bind (wpAny_holding (zae3 hne n (i + 1) _ _ hit₁ (ht.extBut hs₁.extBut hne) (by omega) fun h₂ hit₂ hs₂ => wpAny_pure ?_))
    have hd : items.toList.drop i = items[i] :: items.toList.drop (i + 1) := by simp [List.drop_eq_getElem_cons, hlt]
    have := hQ h₂ (by rw [show i + (n + 1) = i + 1 + n by omega]; exact hit₂) (hs₁.trans hs₂)
    rw [hd, List.take_succ_cons] at this
    exact this
theorem zabo {l : Addr} {items : Array Value} {Q : List Value → Shared → Prop} (hh : A.handled = none) (ht : s.heap.IsList l items)
    (hQ : ∀ h', Heap.ExtBut s.heap.objs.size s.heap h' → Q items.toList { s with heap := h' }) : wpAny (model prog w) A (unpackItems (.ref l) items.size none) Q E s := by
  have hlt : l ≠ s.heap.objs.size := by obtain ⟨o, ho, _⟩ := ht; exact Nat.ne_of_lt (Heap.lt_size ho)
  unfold unpackItems
  refine wpAny_bind ?_
  · unfold notIterableAtAll
    refine wpAny_bind (wpAny_specialOf ht.typeIs slot_list_iter.lookup ?_)
    refine wpAny_pure ?_
    simp only [Bool.false_eq_true, if_false]
    refine wpAny_bind (wpAny_holding (wpAny_pyIter_list ht ?_))
    have ht0 : (s.heap.push { cls := .type "list_iterator", data := .fields #[.ref l, .int 0 0] }).IsList l items := ht.extBut (b := s.heap.objs.size) (fun b o _ e => Heap.get?_push_of_some _ e) hlt
    refine wpAny_bind (wpAny_holding (zae3 hlt items.size 0 _ _ ⟨_, Heap.get?_push_size _ rfl, rfl, rfl⟩ ht0 (by omega) fun h₁ hit₁ hs₁ => ?_))
    have hall : List.take items.size (List.drop 0 items.toList) = items.toList := by
      rw [List.drop_zero]; exact List.take_of_length_le (by simp)
    rw [hall]
    rw [if_neg (by simp)]
    have ht₁ : h₁.IsList l items := ht0.extBut hs₁.extBut hlt
    refine wpAny_bind (wpAny_holding (wpAny_pyNext_list_end hh hit₁ ht₁ (by simp) fun h₂ he₂ => ?_))
    simp only [Option.isSome_none, Bool.false_eq_true, if_false]
    refine wpAny_pure (hQ h₂ fun b o hb e => he₂ b o hb (hs₁.extBut b o hb (Heap.get?_push_of_some _ e)))
theorem zabg {env : Env} {elts : List Expr} {x1} {pos : Pos} {l : Addr} {items : Array Value} {Q : Unit → Shared → Prop} (hh : A.handled = none) (ht : s.heap.IsList l items)
    (hn : (assignEach elts env).length = items.size) (hstar : (assignEach elts env).findIdx? (·.1) = none)
    (h : ∀ h', Heap.ExtBut s.heap.objs.size s.heap h' → wpAny (model prog w) A (assignInOrder ((assignEach elts env).map (·.2)) items.toList) Q E { s with heap := h' }) :
    wpAny (model prog w) A (assign (.Tuple elts x1 pos) env (.ref l)) Q E s := by
  rw [PyProof.Rows.assign_Tuple]
  refine wpAny_bind (wpAny_standAt ?_)
  unfold unpack
  rw [hn, hstar]
  exact wpAny_bind (wpAny_holding (zabo hh ht h))
end
section
variable {X : Cx}
theorem pg_lst {es : List Expr} {k : Nat} {t : TGs} {n : Nat} {pos : Pos} (hc : X.calm = true) (h : PGs X es t) (hn : (assignEach es X.env).length = n) (hst : (assignEach es X.env).findIdx? (·.1) = none) :
    PG X (.Tuple es k pos) (fun v σ H Q => ∃ a xs, v = .ref a ∧ Rd H a (.lst xs) ∧ xs.length = n ∧ t xs σ H Q) := by
  intro pins s σ H v u Q I r hw
  obtain ⟨a, xs, e1, hq, hl, hw⟩ := hw
  subst e1
  cases r
  obtain ⟨its, rv, p⟩ := zaar I hq
  refine zabg (I.ok.hd hc) p (by simp [hn, ← hl, rv.length]) hst fun h' hx => ?_
  have I1 : Inv X pins σ H { s with heap := h' } := I.kept (t' := s.toks) fun b o e => hx b o (Nat.ne_of_lt (Heap.lt_size e)) e
  exact h pins _ σ H xs _ Q I1 (by simpa using rv) hw
end
end IP
end
section
set_option Elab.async false
set_option linter.all false
set_option maxRecDepth 100000
namespace IP
open PySem PySem.Spec L2
inductive Src where
  | l (a : Addr) (vs : List V) | t (a : Addr) (vs : List V) | r (lo : Int) (n : Nat)
def itOf (K : PySem.W.Frag) : Src → It
  | .l a _ => Itl K a
  | .t a _ => Itt K a
  | .r lo n => Itr lo n
def SrcOk (G : Gx) (w : Wo) (H : Hp) (z : Bool) : Src → List T → Prop
  | .l a vs, ts => Rd H a (.lst vs) ∧ Reps G w H ts vs ∧ notLoc w a ∧ (z = true → w.Z a)
  | .t a vs, ts => H a = some (.tup vs) ∧ Reps G w H ts vs
  | .r lo n, ts => ts = (List.range n).map (fun (k : Nat) => T.int (lo + k)) ∧ n ≤ sizeLine
section
variable {G : Gx} {X : Cx} {C : Cf} {w w' : Wo} {H H' : Hp}
theorem Rd.some {a : Addr} {u : HO} (r : Rd H a u) : H a ≠ none := by
  rcases r with r | ⟨o, r⟩ <;> (rw [r]; intro z; cases z)
theorem SrcOk.mono {z : Bool} {s : Sto} (L : Le w w' H H') (S : StoOk G w H s) : ∀ {src : Src} {ts : List T}, SrcOk G w H z src ts → SrcOk G w' H' z src ts
  | .l a vs, ts, ⟨h1, h2, h3, h4⟩ => ⟨Rd.keep L h3 h1, Reps.mono L S ts vs h2, notLoc.mono L (Rd.some h1) h3, fun q => L.Z a (h4 q)⟩
  | .t a vs, ts, ⟨h1, h2⟩ => ⟨L.keep _ _ h1 (S.notLoc h1 (fun _ z => by cases z) fun _ _ _ z => by cases z), Reps.mono L S ts vs h2⟩
  | .r lo n, ts, h => h
def SrcNow (G : Gx) (w : Wo) (H : Hp) : Src → List T → Prop
  | .l a _, ts => ∃ vs, Rd H a (.lst vs) ∧ Reps G w H ts vs
  | .t a vs, ts => H a = some (.tup vs) ∧ Reps G w H ts vs
  | .r lo n, ts => ts = (List.range n).map (fun (k : Nat) => T.int (lo + k)) ∧ n ≤ sizeLine
theorem SrcOk.now {z : Bool} : ∀ {src : Src} {ts : List T}, SrcOk G w H z src ts → SrcNow G w H src ts
  | .l _ vs, _, h => ⟨vs, h.1, h.2.1⟩
  | .t _ _, _, h => h
  | .r _ _, _, h => h
theorem SrcNow.go : ∀ {src : Src} {ts : List T} {K : PySem.W.Frag} {i : Nat} {t : T}, SrcNow G w H src ts → ts[i]? = some t → (itOf K src).go i H ∧ ∀ x H', (itOf K src).yld i H x H' → H' = H ∧ Rep G w H t x
  | .l a _, ts, K, i, t, ⟨vs, h1, h2⟩, e => by
    obtain ⟨v, e1, r⟩ := h2.get e
    refine ⟨⟨vs, v, .inl h1, e1⟩, fun x H' ⟨q1, q2⟩ => ⟨q1, ?_⟩⟩
    have := q2 vs (.inl h1)
    rw [e1] at this
    cases this
    exact r
  | .t a vs, ts, K, i, t, ⟨h1, h2⟩, e => by
    obtain ⟨v, e1, r⟩ := h2.get e
    refine ⟨⟨vs, v, SqT.of h1, e1⟩, fun x H' ⟨q1, q2⟩ => ⟨q1, ?_⟩⟩
    have := q2 vs (SqT.of h1)
    rw [e1] at this
    cases this
    exact r
  | .r lo n, ts, K, i, t, ⟨h1, _⟩, e => by
    subst h1
    rw [List.getElem?_map] at e
    obtain ⟨k, hk, rfl⟩ := map_some e
    obtain ⟨hi, hk⟩ := List.getElem?_eq_some_iff.mp hk
    simp at hi hk
    subst hk
    refine ⟨hi, fun x H' ⟨q1, q2⟩ => ⟨q1, ?_⟩⟩
    rw [q2]
    exact rfl
theorem SrcNow.stop : ∀ {src : Src} {ts : List T} {K : PySem.W.Frag}, SrcNow G w H src ts → (itOf K src).stop ts.length H
  | .l a _, ts, K, ⟨vs, h1, h2⟩ => ⟨vs, .inl h1, by rw [h2.length]; exact Nat.le_refl _⟩
  | .t a vs, ts, K, ⟨h1, h2⟩ => ⟨vs, SqT.of h1, by rw [h2.length]; exact Nat.le_refl _⟩
  | .r lo n, ts, K, ⟨h1, _⟩ => by subst h1; show n ≤ _; simp
theorem SrcNow.small {pins : List (Addr × Obj)} {σ : St} {s : Shared} (I : Inv X pins σ H s) : ∀ {src : Src} {ts : List T}, SrcNow G w H src ts → ts.length ≤ sizeLine
  | .l a _, ts, ⟨vs, h1, h2⟩ => by rw [h2.length]; exact (Rd.lst I h1).1
  | .t a vs, ts, ⟨h1, h2⟩ => by
    rw [h2.length]
    exact (I.hok a _ h1).1
  | .r lo n, ts, ⟨h1, h2⟩ => by subst h1; simpa using h2
theorem SrcOk.go {z : Bool} {src : Src} {ts : List T} {K : PySem.W.Frag} {i : Nat} {t : T} (h : SrcOk G w H z src ts) (e : ts[i]? = some t) : (itOf K src).go i H ∧ ∀ x H', (itOf K src).yld i H x H' → H' = H ∧ Rep G w H t x := h.now.go e
theorem SrcOk.stop {z : Bool} {src : Src} {ts : List T} {K : PySem.W.Frag} (h : SrcOk G w H z src ts) : (itOf K src).stop ts.length H := h.now.stop
theorem SrcOk.small {z : Bool} {pins : List (Addr × Obj)} {σ : St} {s : Shared} (I : Inv X pins σ H s) {src : Src} {ts : List T} (h : SrcOk G w H z src ts) : ts.length ≤ sizeLine := h.now.small I
def WantI (G : Gx) (X : Cx) (σV : St) (w : Wo) (H : Hp) (z : Bool) (res : Res R) (Q : It → Hp → Prop) : Prop := match res with
  | .ok (.val (.lst ts)) s' => ∀ w' H' src, Le w w' H H' → StoOk G w' H' s' → SrcOk G w' H' z src ts → Q (itOf X.K src) H'
  | .exc c s' => ∀ w' H' pins u sh, Le w w' H H' → StoOk G w' H' s' → Thrown G X pins σV H' c u sh → X.xe u sh
  | _ => False
def tI (G : Gx) (X : Cx) (C : Cf) (e : E) (m : Md) (z : Bool) : TI := fun σV H R => ∃ w₀ H₀ w σ s, Good G w₀ H₀ w H σ s σV ∧ WantI G X σV w H z (ev C e m σ s) R
theorem PI.imp {tg e : Expr} {t t' : TI} (h : PI X tg e t) (q : ∀ σ H R, t' σ H R → t σ H R) : PI X tg e t' := fun pins s σ H R I z => h pins s σ H R I (q _ _ _ z)
theorem pi_seq {tg l : Expr} {tl : TE} (hl : PE X l tl) : PI X tg l (fun σ H R => tl σ H fun x H1 => ∃ a, x = .ref a ∧ ((∃ xs, Rd H1 a (.lst xs) ∧ R (Itl X.K a) H1) ∨ ∃ xs, H1 a = some (.tup xs) ∧ R (Itt X.K a) H1)) := by
  intro pins s σ H R I h
  refine thn (hl pins s σ H _ I h) fun v s1 ⟨x, H1, I1, r1, q1⟩ => ?_
  obtain ⟨a, e, q⟩ := q1
  subst e
  cases r1
  have hf : ∀ b ∈ [s1.heap.objs.size], FpOk X pins H1 b := fun b hb => by
    have e : b = s1.heap.objs.size := by simpa using hb
    subst e
    exact I1.fpOk (Nat.le_refl _) (I1.hok.fresh (Nat.le_refl _))
  rcases q with ⟨xs, hq, q⟩ | ⟨xs, hq, q⟩
  · obtain ⟨its, rv, p⟩ := zaar I1 hq
    refine wpAny_pyIter_list p ?_
    exact ⟨s1.heap.objs.size, [s1.heap.objs.size], _, _, H1, rfl, I1.kept (t' := s1.toks) fun b o e => Heap.get?_push_of_some _ e, turn_list a _, ⟨_, Heap.get?_push_size _ rfl, rfl, rfl⟩, hf, q⟩
  · obtain ⟨its, rv, p⟩ := zaat I1 hq
    refine wpAny_pyIter_tuple p ?_
    exact ⟨s1.heap.objs.size, [s1.heap.objs.size], _, _, H1, rfl, I1.kept (t' := s1.toks) fun b o e => Heap.get?_push_of_some _ e, zae1 a _, ⟨_, Heap.get?_push_size _ rfl, rfl, rfl⟩, hf, q⟩
theorem zaeb {tg e : Expr} {e' : E} {m : Md} {z : Bool} (hE : PE X e (tV G X C e')) (hm : m = .i ∧ z = false ∨ m = .j ∧ z = true)
    (hev : ∀ σ s, ev C e' m σ s = fin m (ev C e' .v σ s)) : PI X tg e (tI G X C e' m z) := by
  refine PI.imp (pi_seq hE) ?_
  rintro σV H R ⟨w₀, H₀, w, σ, s, g, h⟩
  rw [hev] at h
  refine ⟨w₀, H₀, w, σ, s, g, ?_⟩
  cases he : ev C e' .v σ s with
  | stuck => rw [he] at h; rcases hm with ⟨rfl, rfl⟩ | ⟨rfl, rfl⟩ <;> exact h
  | exc c s1 => rw [he] at h; rcases hm with ⟨rfl, rfl⟩ | ⟨rfl, rfl⟩ <;> exact h
  | ok x s1 =>
    rw [he] at h
    intro w1 H1 v L1 S1 R1
    match x, R1 with
    | .val (.lst ts), ⟨a, vs, e, hz, hr, rp⟩ =>
      subst e
      refine ⟨a, rfl, .inl ⟨vs, hr, ?_⟩⟩
      rcases hm with ⟨rfl, rfl⟩ | ⟨rfl, rfl⟩ <;> exact h w1 H1 (.l a vs) L1 S1 ⟨hr, rp, S1.zLoc hz, fun _ => hz⟩
    | .val (.tup ts), ⟨a, vs, e, hr, rp⟩ =>
      subst e
      refine ⟨a, rfl, .inr ⟨vs, hr, ?_⟩⟩
      rcases hm with ⟨rfl, rfl⟩ | ⟨rfl, rfl⟩ <;> exact h w1 H1 (.t a vs) L1 S1 ⟨hr, rp⟩
    | .bor ts, ⟨a, vs, e, hr, rp, nl⟩ =>
      subst e
      rcases hm with ⟨rfl, rfl⟩ | ⟨rfl, rfl⟩
      · exact ⟨a, rfl, .inl ⟨vs, .inl hr, h w1 H1 (.l a vs) L1 S1 ⟨.inl hr, rp, nl, fun z => by cases z⟩⟩⟩
      · exact h.elim
    | .val .non, _ => rcases hm with ⟨rfl, rfl⟩ | ⟨rfl, rfl⟩ <;> exact h.elim
    | .val (.bl _), _ => rcases hm with ⟨rfl, rfl⟩ | ⟨rfl, rfl⟩ <;> exact h.elim
    | .val (.int _), _ => rcases hm with ⟨rfl, rfl⟩ | ⟨rfl, rfl⟩ <;> exact h.elim
    | .val (.str _), _ => rcases hm with ⟨rfl, rfl⟩ | ⟨rfl, rfl⟩ <;> exact h.elim
    | .val (.loc _), _ => rcases hm with ⟨rfl, rfl⟩ | ⟨rfl, rfl⟩ <;> exact h.elim
    | .val (.exc _), _ => rcases hm with ⟨rfl, rfl⟩ | ⟨rfl, rfl⟩ <;> exact h.elim
theorem bnd_of {i : Int} (h : bnd i = true) : -(2 ^ 62) ≤ i ∧ i < 2 ^ 62 := by
  unfold bnd at h
  rw [Bool.and_eq_true, decide_eq_true_iff, decide_eq_true_iff] at h
  exact h
theorem lim_le : lim ≤ sizeLine := by decide
theorem sI_rng1 {tg a : Expr} {a' : E} {p pos : Pos} {m : Md} {z : Bool} (hm : m = .i ∨ m = .j) (hg : Gl X "range") (hmg : X.mg "range" = none) (ha : PE X a (tV G X C a')) (hs : starEach [a] X.env = [(false, eval a X.env)]) : PI X tg (.Call (.Name "range" p) [a] [] pos) (tI G X C (.rng1 a') m z) := by
  refine PI.imp (pi_range1 hg hmg (zaao ha pa_nil hs) hs) ?_
  rintro σV H R ⟨w₀, H₀, w, σ, s, g, h⟩
  have h : WantI G X σV w H z ((ev C a' .v σ s).bind fun x s1 => onI x fun j => if bnd j && decide (j ≤ lim) then .ok (.val (.lst (rangeT 0 j))) s1 else .stuck) R := by rcases hm with rfl | rfl <;> exact h
  refine ⟨w₀, H₀, w, σ, s, g, ?_⟩
  cases he : ev C a' .v σ s with
  | stuck => rw [he] at h; exact h
  | exc c s1 => rw [he] at h; exact h
  | ok x s1 =>
    rw [he] at h
    intro w1 H1 v L1 S1 R1
    match x, R1, h with
    | .val (.int j), R1, h =>
      cases R1
      have h : WantI G X σV w H z (if bnd j && decide (j ≤ lim) then .ok (.val (.lst (rangeT 0 j))) s1 else .stuck) R := h
      split at h
      · rename_i hb
        rw [Bool.and_eq_true, decide_eq_true_iff] at hb
        refine ⟨j, rfl, (bnd_of hb.1).1, (bnd_of hb.1).2, ?_⟩
        refine h w1 H1 (.r 0 j.toNat) L1 S1 ⟨?_, ?_⟩
        · unfold rangeT; simp
        · have := lim_le; omega
      · exact h.elim
    | .val .non, _, h => exact h.elim
    | .val (.bl _), _, h => exact h.elim
    | .val (.str _), _, h => exact h.elim
    | .val (.tup _), _, h => exact h.elim
    | .val (.lst _), _, h => exact h.elim
    | .val (.loc _), _, h => exact h.elim
    | .val (.exc _), _, h => exact h.elim
    | .bor _, _, h => exact h.elim
theorem sI_rng2 {tg a b : Expr} {a' b' : E} {p pos : Pos} {m : Md} {z : Bool} (hm : m = .i ∨ m = .j) (hg : Gl X "range") (hmg : X.mg "range" = none) (ha : PE X a (tV G X C a')) (hb : PE X b (tV G X C b')) (hs : starEach [a, b] X.env = [(false, eval a X.env), (false, eval b X.env)]) (hs2 : starEach [b] X.env = [(false, eval b X.env)]) : PI X tg (.Call (.Name "range" p) [a, b] [] pos) (tI G X C (.rng2 a' b') m z) := by
  refine PI.imp (pi_range2 hg hmg (zaao ha (zaao hb pa_nil hs2) (by rw [hs, hs2])) hs hs2) ?_
  rintro σV H R ⟨w₀, H₀, w, σ, s, g, h⟩
  have h : WantI G X σV w H z ((ev C a' .v σ s).bind fun x s1 => onI x fun i => (ev C b' .v σ s1).bind fun y s2 => onI y fun j => if bnd i && bnd j && decide (j - i ≤ lim) then .ok (.val (.lst (rangeT i j))) s2 else .stuck) R := by rcases hm with rfl | rfl <;> exact h
  refine ⟨w₀, H₀, w, σ, s, g, ?_⟩
  cases he : ev C a' .v σ s with
  | stuck => rw [he] at h; exact h
  | exc c s1 => rw [he] at h; exact h
  | ok x s1 =>
    rw [he] at h
    intro w1 H1 v L1 S1 R1
    match x, R1, h with
    | .val (.int i), R1, h =>
      cases R1
      refine ⟨w₀, H₀, w1, σ, s1, g.step L1 S1, ?_⟩
      have h : WantI G X σV w H z ((ev C b' .v σ s1).bind fun y s2 => onI y fun j => if bnd i && bnd j && decide (j - i ≤ lim) then .ok (.val (.lst (rangeT i j))) s2 else .stuck) R := h
      cases hf : ev C b' .v σ s1 with
      | stuck => rw [hf] at h; exact h
      | exc c s2 => rw [hf] at h; exact fun w2 H2 pins u sh L2 => h w2 H2 pins u sh (L1.trans L2)
      | ok y s2 =>
        rw [hf] at h
        intro w2 H2 v2 M2 S2 R2
        match y, R2, h with
        | .val (.int j), R2, h =>
          cases R2
          have h : WantI G X σV w H z (if bnd i && bnd j && decide (j - i ≤ lim) then .ok (.val (.lst (rangeT i j))) s2 else .stuck) R := h
          split at h
          · rename_i hb
            rw [Bool.and_eq_true, Bool.and_eq_true, decide_eq_true_iff] at hb
            refine ⟨i, j, rfl, ⟨(bnd_of hb.1.1).1, (bnd_of hb.1.1).2, (bnd_of hb.1.2).1, (bnd_of hb.1.2).2⟩, ?_⟩
            refine h w2 H2 (.r i (j - i).toNat) (L1.trans M2) S2 ⟨rfl, ?_⟩
            have := lim_le
            omega
          · exact h.elim
        | .val .non, _, h => exact h.elim
        | .val (.bl _), _, h => exact h.elim
        | .val (.str _), _, h => exact h.elim
        | .val (.tup _), _, h => exact h.elim
        | .val (.lst _), _, h => exact h.elim
        | .val (.loc _), _, h => exact h.elim
        | .val (.exc _), _, h => exact h.elim
        | .bor _, _, h => exact h.elim
    | .val .non, _, h => exact h.elim
    | .val (.bl _), _, h => exact h.elim
    | .val (.str _), _, h => exact h.elim
    | .val (.tup _), _, h => exact h.elim
    | .val (.lst _), _, h => exact h.elim
    | .val (.loc _), _, h => exact h.elim
    | .val (.exc _), _, h => exact h.elim
    | .bor _, _, h => exact h.elim
def slots : Tg → List Nat
  | .one i => [i]
  | .many is => is
def gTg (G : Gx) (g : Tg) : TG := fun v σV H Q => ∃ w s t σ σ', StoOk G w H s ∧ Rep G w H t v ∧ bindTg σ g t = some σ' ∧ ∀ vs, (∀ H₀ σV', FrOk G w H H₀ σ σV' → FrOk G w H H₀ σ' (setsV σV' (slots g) vs)) → vs.length = (slots g).length → Q (setsV σV (slots g) vs) H
theorem PG.imp {tg : Expr} {t t' : TG} (h : PG X tg t) (q : ∀ v σ H Q, t' v σ H Q → t v σ H Q) : PG X tg t' := fun pins s σ H v u Q I r z => h pins s σ H v u Q I r (q _ _ _ _ z)
theorem sG_one {i : Nat} {x : Str} {pos : Pos} (hN : X.N.Nodup) (hi : X.N[i]? = some x) (hx : Loc X.env.scope x) (hf : X.fn x = true ∨ X.env.scope.names.lookup x = some .local) : PG X (.Name x pos) (gTg G (.one i)) := by
  refine PG.imp (pg_name hN hi hx hf) ?_
  rintro v σV H Q ⟨w, s, t, σ, σ', S, r, e, q⟩
  cases e
  exact q [v] (fun H₀ σV' F => F.put r) rfl
def gMany (js : List Nat) : TGs := fun vs σ H Q => vs.length = js.length ∧ Q (setsV σ js vs) H
theorem PGs.imp {ts : List Expr} {t t' : TGs} (h : PGs X ts t) (q : ∀ v σ H Q, t' v σ H Q → t v σ H Q) : PGs X ts t' := fun pins s σ H v u Q I r z => h pins s σ H v u Q I r (q _ _ _ _ z)
theorem sG_nil : PGs X [] (gMany []) := PGs.imp pgs_nil fun vs σ H Q ⟨h, q⟩ => by
  have : vs = [] := List.length_eq_zero_iff.mp h
  subst this
  exact ⟨rfl, q⟩
theorem sG_cons {i : Nat} {js : List Nat} {x : Str} {pos : Pos} {es : List Expr} (hN : X.N.Nodup) (hi : X.N[i]? = some x) (hx : Loc X.env.scope x) (hf : X.fn x = true ∨ X.env.scope.names.lookup x = some .local) (h2 : PGs X es (gMany js)) : PGs X (.Name x pos :: es) (gMany (i :: js)) := by
  refine PGs.imp (pgs_cons (pg_name hN hi hx hf) h2 rfl) ?_
  rintro vs σ H Q ⟨h, q⟩
  match vs, h, q with
  | v :: r, h, q => exact ⟨v, r, rfl, by simpa using h, q⟩
theorem zacs : ∀ {is : List Nat} {ts : List T} {σ σ' : Fr}, puts σ is ts = some σ' → is.length = ts.length
  | [], [], _, _, _ => rfl
  | [], _ :: _, _, _, h => by cases h
  | _ :: _, [], _, _, h => by cases h
  | i :: is, t :: ts, σ, σ', h => by simp [zacs (is := is) (ts := ts) (σ := put σ i t) h]
theorem sG_many {js : List Nat} {es : List Expr} {k : Nat} {pos : Pos} (hc : X.calm = true) (h : PGs X es (gMany js)) (hn : (assignEach es X.env).length = js.length) (hst : (assignEach es X.env).findIdx? (·.1) = none) : PG X (.Tuple es k pos) (gTg G (.many js)) := by
  rintro pins s0 σV H v u Q I ru ⟨w, s, t, σ, σ', S, r, e, q⟩
  match t, r, e with
  | .tup ts, ⟨a, vs, e1, hp, rp⟩, e =>
    have e : puts σ js ts = some σ' := e
    have hl := zacs e
    refine pg_tup hc h hn hst pins s0 σV H v u Q I ru ⟨a, vs, e1, SqT.of hp, by rw [← rp.length, hl], by rw [← rp.length, hl], ?_⟩
    exact q vs (fun H₀ σV' F => FrOk.puts F rp e) (by rw [← rp.length]; exact hl.symm)
  | .lst ts, ⟨a, vs, e1, _, hp, rp⟩, e =>
    have e : puts σ js ts = some σ' := e
    have hl := zacs e
    refine pg_lst hc h hn hst pins s0 σV H v u Q I ru ⟨a, vs, e1, hp, by rw [← rp.length, hl], by rw [← rp.length, hl], ?_⟩
    exact q vs (fun H₀ σV' F => FrOk.puts F rp e) (by rw [← rp.length]; exact hl.symm)
  | .non, _, e => cases e
  | .bl _, _, e => cases e
  | .int _, _, e => cases e
  | .str _, _, e => cases e
  | .loc _, _, e => cases e
  | .exc _, _, e => cases e
end
end IP
end
section
set_option Elab.async false
set_option linter.all false
set_option maxRecDepth 100000
namespace IP
open PySem PySem.Spec L2
section
variable {G : Gx} {X : Cx} {C : Cf}
def RepO (G : Gx) (w : Wo) (H : Hp) : Option T → Option V → Prop
  | some t, some v => Rep G w H t v
  | none, none => True
  | _, _ => False
def Turned (G : Gx) (X : Cx) (ifs : List Expr) (elt : Expr) (f : Fr → Sto → Res (Option T)) : Prop :=
  ∀ (pins : List (Addr × Obj)) (s : Shared) (σV : St) (H : Hp) (w₀ : Wo) (H₀ : Hp) (w : Wo) (σ : Fr) (st st1 : Sto) (o : Option T) (Q : Option V → Hp → Prop) (E : Value → Shared → Prop), Inv X pins σV H s → Good G w₀ H₀ w H σ st σV → f σ st = .ok o st1 →
    (∀ w1 H1 vo, Le w w1 H H1 → StoOk G w1 H1 st1 → RepO G w1 H1 o vo → Q vo H1) →
    wpAny (model X.prog X.w) X.A (forIn ifs true fun c r => if r = true then do let ok ← isTrue c X.env (eval c X.env); pure (ForInStep.yield ok) else pure (ForInStep.yield r))
      (fun ok s3 => if ok = true then wpAny (model X.prog X.w) X.A (eval elt X.env) (fun u s4 => ∃ v H4, Inv X pins σV H4 s4 ∧ RelV v u ∧ Q (some v) H4) E s3 else ∃ H3, Inv X pins σV H3 s3 ∧ Q none H3) E s
theorem zadq {f : T → Sto → Res (Option T)} {t : T} {ts q : List T} {s s' : Sto} (h : mapRes f (t :: ts) s = .ok q s') : ∃ o s1 r, f t s = .ok o s1 ∧ mapRes f ts s1 = .ok r s' ∧ q = consO o r := by
  unfold mapRes at h
  cases hf : f t s with
  | stuck => rw [hf] at h; cases h
  | exc c s1 => rw [hf] at h; cases h
  | ok o s1 =>
    rw [hf] at h
    have h : ((mapRes f ts s1).bind fun q s2 => Res.ok (consO o q) s2) = .ok q s' := h
    cases hm : mapRes f ts s1 with
    | stuck => rw [hm] at h; cases h
    | exc c s2 => rw [hm] at h; cases h
    | ok r s2 =>
      rw [hm] at h
      cases h
      exact ⟨o, s1, r, rfl, hm, rfl⟩
theorem zabk {f : T → Sto → Res (Option T)} (hf : ∀ t s c s', f t s ≠ .exc c s') : ∀ (ts : List T) (s : Sto) (c : Nat) (s' : Sto), mapRes f ts s ≠ .exc c s'
  | [], s, c, s', h => by cases h
  | t :: ts, s, c, s', h => by
    unfold mapRes at h
    cases hq : f t s with
    | stuck => rw [hq] at h; cases h
    | exc d s1 => exact hf _ _ _ _ hq
    | ok o s1 =>
      rw [hq] at h
      have h : ((mapRes f ts s1).bind fun q s2 => Res.ok (consO o q) s2) = .exc c s' := h
      cases hm : mapRes f ts s1 with
      | stuck => rw [hm] at h; cases h
      | exc d s2 => exact zabk hf ts s1 d s2 hm
      | ok r s2 => rw [hm] at h; cases h
theorem onO_noexc {α β : Type} {o : Option α} {f : α → Res β} {c : Nat} {s : Sto} (h : onO o f = .exc c s) : ∃ a, o = some a ∧ f a = .exc c s := by
  cases o with
  | none => cases h
  | some a => exact ⟨a, rfl, h⟩
theorem onO_ok {α β : Type} {o : Option α} {f : α → Res β} {b : β} {s : Sto} (h : onO o f = .ok b s) : ∃ a, o = some a ∧ f a = .ok b s := by
  cases o with
  | none => cases h
  | some a => exact ⟨a, rfl, h⟩
variable {elt iter tg : Expr} {ifs : List Expr} {scope : Scope} {pos : Pos} {it' ce : E} {g : Tg} {N' : List Str} {f : Fr → Sto → Res (Option T)}
theorem appended {pins : List (Addr × Obj)} {σ : St} {H : Hp} {s : Shared} {D : Addr} {xs : List V} {v : V} {u : Value} {Y : Cx} {E : Value → Shared → Prop} {Q : Shared → Prop} (I : Inv Y pins σ H s) (r : RelV v u) (hD : H D = some (.lst xs)) (hl : xs.length < sizeLine)
    (q : ∀ s', Inv Y pins σ (upd H D (.lst (xs ++ [v]))) s' → Q s') : wpAny (model Y.prog Y.w) Y.A (call (.builtin "list.append") [.ref D, u]) (fun _ s' => Q s') E s := by
  have z := zacx (X := Y.wish E) pins s σ H (.ref D) [v] (.ref D) [u] (fun _ H' => H' = upd H D (.lst (xs ++ [v]))) (I.wish E) rfl (.cons r .nil) ⟨D, xs, v, rfl, rfl, hD, hl, rfl⟩
  refine thn z fun u' s' ⟨_, H', I', _, e⟩ => ?_
  subst e
  exact q s' I'.unwish
theorem zac9 : ∀ {js : List Nat} {vs : List V} {σV : St} {i : Nat}, i ∉ js → (setsV σV js vs)[i]? = σV[i]?
  | [], vs, σV, i, _ => by cases vs <;> rfl
  | j :: js, [], σV, i, _ => rfl
  | j :: js, v :: vs, σV, i, h => by
    show (setsV (σV.set j (some v)) js vs)[i]? = _
    rw [zac9 fun q => h (List.mem_cons_of_mem _ q), List.getElem?_set_ne fun q => h (by simp [q])]
def SrcGives (G : Gx) (X : Cx) (g : Tg) (f : Fr → Sto → Res (Option T)) (σ : Fr) (w : Wo) (H : Hp) (Q : VK) (J : It) (H2 : Hp) : Prop :=
  ∃ (w2 : Wo) (src : Src) (ts : List T) (st2 st' : Sto) (q : List T) (K : Sto → Prop) (kp : Res (Option T) → Res (Option T)), Le w w2 H H2 ∧ StoOk G w2 H2 st2 ∧ J = itOf X.K src ∧ (∀ w' H' s', Le w2 w' H2 H' → StoOk G w' H' s' → K s' → SrcNow G w' H' src ts) ∧ K st2 ∧ (∀ r o s', kp r = .ok o s' → r = .ok o s' ∧ K s') ∧
    mapRes (fun t s => onO (bindTg σ g t) fun σ' => kp (f σ' s)) ts st2 = .ok q st' ∧ ∀ w' H' a vs, Le w w' H H' → StoOk G w' H' st' → H' a = some (.lst vs) → Reps G w' H' q vs → H a = none → ¬ w'.Z a → notLoc w' a → Q (.ref a) H'
theorem zaen (hc : X.calm = true) (hN : CompN X scope N' (slots g)) (hnd : (slots g).Nodup) {tx : TI} (hI : PI X tg iter tx)
    (hG : ∀ A fp s2 H2, PG (cxC X N' scope A fp s2 H2) tg (gTg G g)) (hE : ∀ A fp s2 H2, Turned G (cxC X N' scope A fp s2 H2) ifs elt f) (hs : ∀ x, foldedSetIterable iter X.env x = pure x)
    {pins : List (Addr × Obj)} {s : Shared} {σV : St} {H : Hp} {w₀ w : Wo} {H₀ : Hp} {σ : Fr} {st : Sto} {Q : VK} (I : Inv X pins σV H s) (gd : Good G w₀ H₀ w H σ st σV)
    (hsrc : tx σV H (SrcGives G X g f σ w H Q))
    {use : Option (Value → Sem Unit)} {Q' : Value → Shared → Prop}
    (hfin : ∀ (s' : Shared) (Hc : Hp) (A D : Addr), Inv X pins σV Hc s' → FpOk X pins Hc A → (∃ m, s'.heap.Ns A m) → Q (.ref D) Hc → compPost (model X.prog X.w) X.A X.xe use Q' (.ref D) A (.ok .next) s') :
    wpAny (model X.prog X.w) X.A (comprehension (.ListComp elt [⟨tg, iter, ifs, 0⟩] scope pos) scope X.env (firstIterPos [⟨tg, iter, ifs, 0⟩] pos) (newList []) false (eval iter X.env) use) Q' X.xe s := by
  have hfree : ∀ x ∈ scope.names, x.2 = .free → ∃ c, X.env.cells.lookup x.1 = some c := fun x hx hf => I.ok.has x.1 (hN.free x hx hf)
  refine wpAny_comprehension_free (use := use) rfl hs (zaes scope X.env hfree) hN.kind hN.locs (thn (hI pins s σV H _ I hsrc) fun xv s1 h1 => thn h1 fun itv s2 h2 => ?_)
  obtain ⟨it, fp, tn, J, H2, rfl, I2, T, st2, f2, w2, src, ts, stc, st', q, KK, kp, L2, S2, rfl, now, hK, hkp, hm, hq⟩ := h2
  have ho2 : ∀ b ∈ fp, ∃ o, s2.heap.get? b = some o := fun b hb => let ⟨o, e, _⟩ := T.obj _ _ st2 b hb; ⟨o, e⟩
  refine wpAny_newObj_type (wpAny_newFunctionEnv hN.nocell (by intro y hy; simp at hy) (fun h₁ hns₁ hsb₁ => ?_) hN.kind)
  have hns₁ : h₁.Ns (s2.heap.push { cls := .type "list", data := .seq ([] : List Value).toArray }).objs.size (fun _ => none) := hns₁
  have hfD : H2 s2.heap.objs.size = none := I2.hok.fresh (Nat.le_refl _)
  generalize hD : s2.heap.objs.size = D at hfD
  have I3 : Inv X pins σV (upd H2 D (.lst [])) { s2 with heap := s2.heap.push { cls := .type "list", data := .seq ([] : List Value).toArray } } := by
    rw [← hD]
    exact I2.lnew (its := []) (t' := s2.toks) .nil (Nat.zero_le _)
  generalize hs3 : ({ s2 with heap := s2.heap.push { cls := .type "list", data := .seq ([] : List Value).toArray } } : Shared) = s3 at I3
  have k3 : ∀ b o, s2.heap.get? b = some o → s3.heap.get? b = some o := fun b o e => by rw [← hs3]; exact Heap.get?_push_of_some _ e
  have fpD : ∀ b ∈ fp, b ≠ D := fun b hb => by
    obtain ⟨o, e⟩ := ho2 b hb
    rw [← hD]
    exact Nat.ne_of_lt (Heap.lt_size e)
  have f3 : ∀ b ∈ fp, FpOk X pins (upd H2 D (.lst [])) b := fun b hb => ⟨by rw [upd_ne (fpD b hb)]; exact (f2 b hb).1, (f2 b hb).2⟩
  have ho3 : ∀ b ∈ fp, ∃ o, s3.heap.get? b = some o := fun b hb => let ⟨o, e⟩ := ho2 b hb; ⟨o, k3 b o e⟩
  have e3 : (s2.heap.push { cls := .type "list", data := .seq ([] : List Value).toArray }) = s3.heap := by rw [← hs3]
  rw [e3] at hns₁ hsb₁
  have k4 : ∀ b o, s3.heap.get? b = some o → h₁.get? b = some o := fun b o e => hsb₁.extBut b o (Nat.ne_of_lt (Heap.lt_size e)) (Heap.get?_push_of_some _ e)
  have I4 : Inv (cxC X N' scope s3.heap.objs.size fp s3 (upd H2 D (.lst []))) [] (clr σV (slots g)) (upd H2 D (.lst [])) { s3 with heap := h₁, toks := s3.toks + ([] : List (Str × Value)).length } := cxC_inv hN I3 f3 ho3 hns₁ k4
  have tn4 : tn 0 h₁ := T.keep _ _ _ st2 fun b hb o e => k4 b o (k3 b o e)
  generalize hA : s3.heap.objs.size = A at I4 hns₁ hsb₁
  have hAD : D ≠ A := by
    rw [← hA, ← hs3]
    show D ≠ (s2.heap.push _).objs.size
    rw [Heap.size_push, hD]
    exact Nat.ne_of_lt (Nat.lt_succ_self _)
  generalize hY : cxC X N' scope A fp s3 (upd H2 D (.lst [])) = Y at I4
  have eP : Y.prog = X.prog := by rw [← hY]; rfl
  have eW : Y.w = X.w := by rw [← hY]; rfl
  have eK : Y.K = X.K := by rw [← hY]; rfl
  have eA : Y.A = X.A := by rw [← hY]; rfl
  have eC : Y.calm = true := by rw [← hY]; exact hc
  have eL : Y.env.locals = A := by rw [← hY]; rfl
  have eN : Y.env = compEnvC scope (clo X.env.cells scope.names []) A X.env := by rw [← hY]; rfl
  have stat : ∀ {H' : Hp}, (∀ b ∈ fp, H' b = none) → ∀ b ∈ fp, FpOk Y [] H' b := fun {H'} hn b hb => by
    obtain ⟨f0, f1, fx, fy, fz, fw⟩ := f2 b hb
    subst hY
    refine ⟨hn b hb, ?_, ?_, .inl hb, fun x c e => fz x c (zaev X.env.cells scope.names [] (fun x c z => by simp at z) x c e), fun p hp => absurd (show p ∈ ([] : List (Addr × Obj)) from hp) (by simp)⟩
    · show b ≠ A
      obtain ⟨o, e⟩ := ho3 b hb
      rw [← hA]
      exact Nat.ne_of_lt (Heap.lt_size e)
    · intro hm
      rcases List.mem_cons.mp (I2.stkSub b hm) with z | z
      · exact f1 z
      · exact fx z
  have hGY : PG Y tg (gTg G g) := by rw [← hY]; exact hG A fp s3 _
  have hEY : Turned G Y ifs elt f := by rw [← hY]; exact hE A fp s3 _
  have last : ∀ (s' : Shared) (Hc : Hp) (wc : Wo) (accV : List V), Inv Y [] (clr σV (slots g)) Hc s' → Le w2 wc H2 Hc → StoOk G wc Hc st' → Hc D = some (.lst accV) → Reps G wc Hc q accV → ¬ wc.Z D → notLoc wc D →
      compPost (model X.prog X.w) X.A X.xe use Q' (.ref D) A (.ok .next) s' := by
    intro s' Hc wc accV Ic Lc Sc hDc rc nzc nl
    obtain ⟨m, hm', _⟩ := Ic.loc
    rw [eL] at hm'
    have un : Un (frs X.stack) fp (upd H2 D (.lst [])) Hc s3.heap s'.heap := by
      have := Ic.base
      subst hY
      exact this
    have hcA : Hc A = none := by have := Ic.free; rw [eL] at this; exact this
    have hok : HOk X.prog X.w Hc s'.heap := by rw [← eP, ← eW]; exact Ic.hok
    have I5 : Inv X pins σV Hc s' := by
      have os : s'.os = s3.os := by have := Ic.os; subst hY; exact this
      exact I3.call' (s' := s') (ch := fp) os un hok Ic.bare fun b hb => ⟨(f2 b hb).2.2.2.1, (f2 b hb).2.1, (f2 b hb).2.2.2.2.1, (f2 b hb).2.2.2.2.2⟩
    have fA : FpOk X pins Hc A := by rw [← hA]; exact I3.fpOk (Nat.le_refl _) (by rw [hA]; exact hcA)
    have hHD : H D = none := by
      cases e : H D with
      | none => rfl
      | some o => exact absurd hfD (L2.some_ D (by rw [e]; intro z; cases z))
    exact hfin s' Hc A D I5 fA ⟨m, hm'⟩ (hq wc Hc D accV (L2.trans Lc) Sc hDc rc hHD nzc nl)
  have loop : ∀ s4 : Shared, s4 = { s3 with heap := h₁, toks := s3.toks + ([] : List (Str × Value)).length } →
      codeAny (model X.prog X.w) X.A (.compLoop (.ListComp elt [⟨tg, iter, ifs, 0⟩] scope pos) 0 (.ref it) (.ref D) Y.env) (compPost (model X.prog X.w) X.A X.xe use Q' (.ref D) A) s4 := by
    rintro s4 rfl
    refine codeAny_loop rfl (fun n s' => ∃ (i : Nat) (Hc : Hp) (wc : Wo) (stc' : Sto) (accT : List IP.T) (accV : List V) (rest : List IP.T), n = ts.length - i ∧ i ≤ ts.length ∧ Inv Y [] (clr σV (slots g)) Hc s' ∧ tn i s'.heap ∧ (∀ b ∈ fp, Hc b = none) ∧
        Le w2 wc H2 Hc ∧ StoOk G wc Hc stc' ∧ Hc D = some (.lst accV) ∧ Reps G wc Hc accT accV ∧ ¬ wc.Z D ∧ notLoc wc D ∧ accT.length ≤ i ∧
        KK stc' ∧ mapRes (fun t s => onO (bindTg σ g t) fun σ' => kp (f σ' s)) (ts.drop i) stc' = .ok rest st' ∧ q = accT ++ rest) ?_ ts.length
      ⟨0, upd H2 D (.lst []), w2, stc, [], [], q, rfl, Nat.zero_le _, I4, tn4, fun b hb => by rw [upd_ne (fpD b hb)]; exact (f2 b hb).1, Le.new hfD _, S2.new hfD _, zaan, rfl, (S2.fresh hfD).1, (S2.fresh hfD).2, Nat.le_refl _, hK, hm, rfl⟩
    rintro n s' ⟨i, Hc, wc, stc', accT, accV, rest, hn, hi, Ic, tc, fc, Lc, Sc, hDc, rc, nz, nl, hal, hKc, hmr, hqr⟩
    have SOc : SrcNow G wc Hc src ts := now wc Hc stc' Lc Sc hKc
    show wpAny _ X.A ((compTurn (.ListComp elt [⟨tg, iter, ifs, 0⟩] scope pos) 0 (.ref it) (.ref D) Y.env).onRaise (fun x => do noteFrame x Y.env; theTreesLotGoes x)) _ _ s'
    refine wpAny_noted ?_
    rw [compTurn_list]
    refine wpAny_bind (wpAny_standAt (wpAny_bind ?_))
    by_cases hlt : i < ts.length
    · have et : ts[i]? = some ts[i] := List.getElem?_eq_getElem hlt
      have ed : ts.drop i = ts[i] :: ts.drop (i + 1) := List.drop_eq_getElem_cons hlt
      rw [ed] at hmr
      obtain ⟨o, st1, r1, hf1, hm1, er⟩ := zadq hmr
      obtain ⟨σ', hb, hf2⟩ := onO_ok hf1
      obtain ⟨hf2, hK1⟩ := hkp _ _ _ hf2
      obtain ⟨go, yld⟩ := SOc.go (K := X.K) et
      have z := T.item Y eP eW eK eC i [] s' (clr σV (slots g)) Hc (notedBy (model X.prog X.w) X.A Y.env fun e s' => compPost (model X.prog X.w) X.A X.xe use Q' (.ref D) A (.error e) s') Ic (stat fc) tc go
      rw [eA] at z
      refine thn z fun r s5 ⟨u, hr, h5⟩ => ?_
      subst hr
      refine wpAny_bind (thn h5 fun _ s6 ⟨x, H6, I6, r6, y6, t6, f6⟩ => ?_)
      have rx := (yld x H6 y6).2
      obtain rfl : Hc = H6 := (yld x H6 y6).1.symm
      have I6' := I6.pinned (stat f6) (T.obj _ _ t6)
      have hgd : Good G w₀ H₀ wc Hc σ stc' σV := (gd.step L2 S2).step Lc Sc
      have zg := hGY _ s6 (clr σV (slots g)) Hc x u (fun σ7 H7 => H7 = Hc ∧ ∃ vs, σ7 = setsV σV (slots g) vs ∧ FrOk G wc Hc H₀ σ' (setsV σV (slots g) vs)) I6' r6
        ⟨wc, stc', ts[i], σ, σ', Sc, rx, hb, fun vs hfr hl => ⟨rfl, vs, zac2 hnd hl.symm, hfr H₀ σV hgd.fr⟩⟩
      rw [eP, eW, eA] at zg
      have zg' := wpAny_noRaise (E := notedBy (model X.prog X.w) X.A Y.env fun e s' => compPost (model X.prog X.w) X.A X.xe use Q' (.ref D) A (.error e) s') (by
        have e0 : Y.xe = fun _ _ => False := by rw [← hY]; rfl
        rw [e0] at zg
        exact zg)
      refine wpAny_bind (thn zg' fun _ s7 ⟨σ7, H7, I7, eH7, vs, e7, F7⟩ => ?_)
      obtain rfl : Hc = H7 := eH7.symm
      subst e7
      have zt := hEY _ s7 _ Hc w₀ H₀ wc σ' stc' st1 o (fun vo H8 => ∃ w8, Le wc w8 Hc H8 ∧ StoOk G w8 H8 st1 ∧ RepO G w8 H8 o vo) (notedBy (model X.prog X.w) X.A Y.env fun e s' => compPost (model X.prog X.w) X.A X.xe use Q' (.ref D) A (.error e) s')
        I7 ⟨Sc, F7, hgd.ent⟩ hf2 fun w8 H8 vo L8 S8 R8 => ⟨w8, L8, S8, R8⟩
      rw [eP, eW, eA] at zt
      have next : ∀ (s8 : Shared) (H8 : Hp) (w8 : Wo) (accT' : List IP.T) (accV' : List V), Inv Y ([] ++ pinsAt fp s6.heap) (setsV σV (slots g) vs) H8 s8 → Le w2 w8 H2 H8 → StoOk G w8 H8 st1 → H8 D = some (.lst accV') → Reps G w8 H8 accT' accV' → ¬ w8.Z D → notLoc w8 D → accT'.length ≤ i + 1 → q = accT' ++ r1 →
          ∃ m, m < n ∧ ∃ (i : Nat) (Hc : Hp) (wc : Wo) (stc' : Sto) (accT : List IP.T) (accV : List V) (rest : List IP.T), m = ts.length - i ∧ i ≤ ts.length ∧ Inv Y [] (clr σV (slots g)) Hc s8 ∧ tn i s8.heap ∧ (∀ b ∈ fp, Hc b = none) ∧
            Le w2 wc H2 Hc ∧ StoOk G wc Hc stc' ∧ Hc D = some (.lst accV) ∧ Reps G wc Hc accT accV ∧ ¬ wc.Z D ∧ notLoc wc D ∧ accT.length ≤ i ∧
            KK stc' ∧ mapRes (fun t s => onO (bindTg σ g t) fun σ' => kp (f σ' s)) (ts.drop i) stc' = .ok rest st' ∧ q = accT ++ rest := by
        intro s8 H8 w8 accT' accV' I8 L8 S8 hD8 r8 nz8 nl8 hl8 hq8
        have hpin : ∀ b ∈ fp, ∀ o, s6.heap.get? b = some o → s8.heap.get? b = some o ∧ H8 b = none := fun b hb o e => by
          have := I8.pin (b, o) (List.mem_append_right _ (List.mem_append_right _ (zaa9 hb e)))
          exact ⟨this.1, this.2.1⟩
        refine ⟨ts.length - (i + 1), by omega, i + 1, H8, w8, st1, accT', accV', r1, rfl, hlt, ?_, T.keep _ _ _ t6 fun b hb o e => (hpin b hb o e).1, fun b hb => ?_, L8, S8, hD8, r8, nz8, nl8, hl8, hK1, hm1, hq8⟩
        · refine Inv.unpinned (pins := []) (pl := pinsAt fp s6.heap) (I8.weak ?_ fun j v e => ?_)
          · rw [clr_len, zadn]
          · obtain ⟨e1, e2⟩ := clr_get _ _ _ _ e
            rw [zac9 e2]
            exact e1
        · obtain ⟨o, e, _⟩ := T.obj _ _ t6 b hb
          exact (hpin b hb o e).2
      refine wpAny_bind (thn zt fun ok s8 h8 => ?_)
      have nzD : ∀ {w8 : Wo} {H8 : Hp}, Le wc w8 Hc H8 → ¬ w8.Z D := fun L8 z => by
        rcases L8.newZ D z with z | z
        · exact nz z
        · rw [hDc] at z; cases z
      have nlD : ∀ {w8 : Wo} {H8 : Hp}, Le wc w8 Hc H8 → notLoc w8 D := fun L8 => notLoc.mono L8 (by rw [hDc]; intro z; cases z) nl
      cases ok with
      | false =>
        simp only [Bool.false_eq_true, if_false] at h8 ⊢
        obtain ⟨H8, I8, w8, L8, S8, R8⟩ := h8
        have eo : o = none := by cases o with | none => rfl | some t => exact R8.elim
        subst eo
        subst er
        exact wpAny_pure ⟨rfl, next s8 H8 w8 accT accV I8 (Lc.trans L8) S8 (L8.keep D _ hDc nl) (Reps.mono L8 Sc _ _ rc) (nzD L8) (nlD L8) (by omega) hqr⟩
      | true =>
        simp only [if_true] at h8 ⊢
        refine wpAny_bind (wpAny_bind (thn h8 fun u9 s9 ⟨v9, H9, I9, r9, w9, L9, S9, R9⟩ => ?_))
        have eo : ∃ t9, o = some t9 := by cases o with | none => exact R9.elim | some t => exact ⟨t, rfl⟩
        obtain ⟨t9, rfl⟩ := eo
        have R9 : Rep G w9 H9 t9 v9 := R9
        subst er
        have hD9 := L9.keep D _ hDc nl
        have hlen : accV.length < sizeLine := by
          rw [← rc.length]
          have := SOc.small Ic
          omega
        have za := appended (E := notedBy (model X.prog X.w) X.A Y.env fun e s' => compPost (model X.prog X.w) X.A X.xe use Q' (.ref D) A (.error e) s') I9 r9 hD9 hlen fun s10 I10 =>
          next s10 _ w9 (accT ++ [t9]) (accV ++ [v9]) I10 ((Lc.trans L9).updNew hfD (by rw [hD9]; intro z; cases z)) (S9.upd hD9 (nzD L9) (nlD L9)) zaan
            (Reps.upd hD9 (nzD L9) _ _ ((Reps.mono L9 Sc _ _ rc).append ⟨v9, [], rfl, R9, rfl⟩)) (nzD L9) (nlD L9) (by rw [List.length_append, List.length_singleton]; omega) (by rw [List.append_assoc]; exact hqr)
        rw [eP, eW, eA] at za
        exact wpAny_bind (thn za fun _ s10 h10 => wpAny_pure (wpAny_pure ⟨rfl, h10⟩))
    · have ei : i = ts.length := by omega
      subst ei
      rw [List.drop_length] at hmr
      cases hmr
      rw [List.append_nil] at hqr
      subst hqr
      have z := T.done Y eP eW eK eC ts.length [] s' (clr σV (slots g)) Hc (notedBy (model X.prog X.w) X.A Y.env fun e s' => compPost (model X.prog X.w) X.A X.xe use Q' (.ref D) A (.error e) s') Ic (stat fc) tc SOc.stop
      rw [eA] at z
      refine thn z fun r s5 ⟨hr, I5⟩ => ?_
      subst hr
      exact wpAny_pure (last s5 Hc wc accV I5 Lc Sc hDc rc nz nl)
  show codeAny (model X.prog X.w) X.A (.compStart (.ListComp elt [⟨tg, iter, ifs, 0⟩] scope pos) 0 (.ref it) (.ref D) (compEnvC scope (clo X.env.cells scope.names []) A X.env)) (compPost (model X.prog X.w) X.A X.xe use Q' (.ref D) A) _
  rw [← eN]
  exact codeAny_compStart_list (loop _ rfl) (T.self _ 0 _ _ _ tn4 (loop _ rfl))
theorem zac1 (hc : X.calm = true) (hN : CompN X scope N' (slots g)) (hnd : (slots g).Nodup) (hI : PI X tg iter (tI G X C it' .i false))
    (hG : ∀ A fp s2 H2, PG (cxC X N' scope A fp s2 H2) tg (gTg G g)) (hE : ∀ A fp s2 H2, Turned G (cxC X N' scope A fp s2 H2) ifs elt f) (hs : ∀ x, foldedSetIterable iter X.env x = pure x)
    (hne : ∀ σ s c s', f σ s ≠ .exc c s')
    {pins : List (Addr × Obj)} {s : Shared} {σV : St} {H : Hp} {w₀ w : Wo} {H₀ : Hp} {σ : Fr} {st : Sto} {Q : VK} (I : Inv X pins σV H s) (gd : Good G w₀ H₀ w H σ st σV)
    (h : WantO G X σV w H ((ev C it' .i σ st).bind fun x s1 => onL x fun ts => (mapRes (fun t s => onO (bindTg σ g t) fun σ' => f σ' s) ts s1).bind fun q s2 => .ok (.val (.lst q)) s2) Q)
    {use : Option (Value → Sem Unit)} {Q' : Value → Shared → Prop}
    (hfin : ∀ (s' : Shared) (Hc : Hp) (A D : Addr), Inv X pins σV Hc s' → FpOk X pins Hc A → (∃ m, s'.heap.Ns A m) → Q (.ref D) Hc → compPost (model X.prog X.w) X.A X.xe use Q' (.ref D) A (.ok .next) s') :
    wpAny (model X.prog X.w) X.A (comprehension (.ListComp elt [⟨tg, iter, ifs, 0⟩] scope pos) scope X.env (firstIterPos [⟨tg, iter, ifs, 0⟩] pos) (newList []) false (eval iter X.env) use) Q' X.xe s := by
  refine zaen hc hN hnd hI hG hE hs I gd ?_ hfin
  refine ⟨w₀, H₀, w, σ, st, gd, ?_⟩
  cases he : ev C it' .i σ st with
  | stuck => rw [he] at h; exact h
  | exc c s1 => rw [he] at h; exact h
  | ok x s1 =>
    rw [he] at h
    match x, h with
    | .val (.lst ts), h =>
      intro w2 H2 src L S SO
      have h : WantO G X σV w H ((mapRes (fun t s => onO (bindTg σ g t) fun σ' => f σ' s) ts s1).bind fun q s2 => .ok (.val (.lst q)) s2) Q := h
      cases hm : mapRes (fun t s => onO (bindTg σ g t) fun σ' => f σ' s) ts s1 with
      | stuck => rw [hm] at h; exact h.elim
      | exc c s2 =>
        refine absurd hm (zabk (fun t s c s' z => ?_) ts s1 c s2)
        obtain ⟨σ', _, z⟩ := onO_noexc z
        exact hne _ _ _ _ z
      | ok q st' =>
        rw [hm] at h
        exact ⟨w2, src, ts, s1, st', q, fun _ => True, id, L, S, rfl, fun w' H' s' L' _ _ => (SO.mono L' S).now, trivial, fun r o s' e => ⟨e, trivial⟩, hm, h⟩
    | .val .non, h => exact h.elim
    | .val (.bl _), h => exact h.elim
    | .val (.int _), h => exact h.elim
    | .val (.str _), h => exact h.elim
    | .val (.tup _), h => exact h.elim
    | .val (.loc _), h => exact h.elim
    | .val (.exc _), h => exact h.elim
    | .bor _, h => exact h.elim
theorem gone {pins : List (Addr × Obj)} {s : Shared} {σV : St} {H : Hp} {A : Addr} {h' : Heap} (I : Inv X pins σV H s) (fA : FpOk X pins H A) (sb : Heap.SameBut A s.heap h') : Inv X pins σV H { s with heap := h' } :=
  I.turned (t' := s.toks) (fun b o ne e => (sb.2 b ne).trans e) fA.1 fA.2.1 fA.2.2.2.1 fA.2.2.2.2.1 fA.2.2.2.2.2
theorem zabv (hc : X.calm = true) (hN : CompN X scope N' (slots g)) (hnd : (slots g).Nodup) (hI : PI X tg iter (tI G X C it' .i false))
    (hG : ∀ A fp s2 H2, PG (cxC X N' scope A fp s2 H2) tg (gTg G g)) (hE : ∀ A fp s2 H2, Turned G (cxC X N' scope A fp s2 H2) ifs elt f) (hs : ∀ x, foldedSetIterable iter X.env x = pure x) (hne : ∀ σ s c s', f σ s ≠ .exc c s')
    (hev : ∀ σ s, ev C ce .v σ s = (ev C it' .i σ s).bind fun x s1 => onL x fun ts => (mapRes (fun t s => onO (bindTg σ g t) fun σ' => f σ' s) ts s1).bind fun q s2 => .ok (.val (.lst q)) s2) :
    PE X (.ListComp elt [⟨tg, iter, ifs, 0⟩] scope pos) (tO G X C ce) := by
  rintro pins s σV H Q I ⟨w₀, H₀, w, σ, st, gd, h⟩
  rw [hev] at h
  rw [eval_ListComp]
  refine zac1 hc hN hnd hI hG hE hs hne I gd h (use := none) fun s' Hc A D I' fA ⟨m, hm⟩ q => ?_
  exact ⟨m, hm, fun h' sb => ⟨.ref D, Hc, gone I' fA sb, rfl, q⟩⟩
theorem zad1 {y : Str} {py spos : Pos} {i : Nat} (hc : X.calm = true) (hN : CompN X scope N' (slots g)) (hnd : (slots g).Nodup) (hI : PI X tg iter (tI G X C it' .i false))
    (hG : ∀ A fp s2 H2, PG (cxC X N' scope A fp s2 H2) tg (gTg G g)) (hE : ∀ A fp s2 H2, Turned G (cxC X N' scope A fp s2 H2) ifs elt f) (hs : ∀ x, foldedSetIterable iter X.env x = pure x) (hne : ∀ σ s c s', f σ s ≠ .exc c s')
    (hev : ∀ σ s, ev C ce .v σ s = (ev C it' .i σ s).bind fun x s1 => onL x fun ts => (mapRes (fun t s => onO (bindTg σ g t) fun σ' => f σ' s) ts s1).bind fun q s2 => .ok (.val (.lst q)) s2)
    (hsw : swapsWith (.ListComp elt [⟨tg, iter, ifs, 0⟩] scope pos) (some (.Name y py)) spos.line X.env = pure true) (hXN : X.N.Nodup) (hi : X.N[i]? = some y) (hy : X.env.scope.names.lookup y = some .local) :
    PS X (.Assign [.Name y py] (.ListComp elt [⟨tg, iter, ifs, 0⟩] scope pos) spos) (fun D σV H => tO G X C ce σV H fun v H1 => D.nx (σV.set i (some v)) H1) := by
  rintro pins s σV H DD I ⟨w₀, H₀, w, σ, st, gd, h⟩
  rw [hev] at h
  rw [exec_Assign_Name_used _ _ _ _ hsw]
  refine wpAny_bind (wpAny_standAt (wpAny_bind ?_))
  show wpAny _ X.A (do let _ ← comprehension (.ListComp elt [⟨tg, iter, ifs, 0⟩] scope pos) scope X.env _ (newList []) false (eval iter X.env) (some (assign (.Name y py) X.env))) _ _ s
  refine wpAny_bind (thn (zac1 (pos := pos) hc hN hnd hI hG hE hs hne I gd h (use := some (assign (.Name y py) X.env)) (Q' := fun _ s' => SP X pins DD .next s') fun s' Hc A D I' fA ⟨m, hm⟩ q => ?_) fun _ s' hq => wpAny_pure (wpAny_pure hq))
  refine wpAny_assign_Name (zadj (v := .ref D) I' hXN hi (.inl hy) rfl (fun s'' I'' ⟨a, sb, ha⟩ => ?_) (.inr hy))
  have neA : A ≠ a := fun z => by
    subst z
    rcases ha with ha | ha
    · exact fA.2.1 ha
    · exact fA.2.2.2.2.1 y _ ha rfl
  refine ⟨m, ?_, fun h' sb' => ?_⟩
  · obtain ⟨o, es, ep, e, r⟩ := hm
    exact ⟨o, es, ep, (sb.2 A neA).trans e, r⟩
  · exact ⟨_, Hc, gone I'' fA sb', q⟩
theorem zabs {Y : Cx} {elt : Expr} {e' : E} (hE : PE Y elt (tV G Y C e')) (hx : Y.xe = fun _ _ => False) : Turned G Y [] elt (fun σ st => one (ev C e' .v σ st)) := by
  intro pins s σV H w₀ H₀ w σ st st1 o Q E I gd hf hq
  refine wpAny_tests_nil ?_
  rw [if_pos rfl]
  dsimp only at hf
  cases he : ev C e' .v σ st with
  | stuck => rw [he] at hf; cases hf
  | exc c s1 => rw [he] at hf; cases hf
  | ok r s1 =>
    rw [he] at hf
    match r, hf, he with
    | .val t, hf, he =>
      cases hf
      have z := hE pins s σV H (fun v H' => Q (some v) H') I ⟨w₀, H₀, w, σ, st, gd, by rw [he]; exact fun w' H' v L S R => hq w' H' (some v) L S R⟩
      rw [hx] at z
      exact wpAny_noRaise z
    | .bor ts, hf, he => cases hf
theorem zaaw (m : Res R) (c : Nat) (s : Sto) : one m ≠ .exc c s := by
  intro h
  cases m with
  | stuck => cases h
  | exc d s1 => cases h
  | ok r s1 => cases r <;> cases h
end
end IP
end
section
set_option Elab.async false
set_option linter.all false
set_option maxRecDepth 100000
namespace IP
open PySem PySem.Spec L2
def Own (σ : Fr) (σV : St) (a : Addr) : Prop := ∃ (i : Nat) (ts : List T), σ[i]? = some (some (.own ts)) ∧ σV[i]? = some (some (.ref a))
structure LeS (w w' : Wo) (H H' : Hp) (σ σ' : Fr) (σV σV' : St) : Prop where
  n : w.n ≤ w'.n
  io : ∀ l, l < w.n → w'.io l = w.io l
  Z : ∀ a, w.Z a → w'.Z a
  keep : ∀ a o, H a = some o → notLoc w a → ¬ Own σ σV a → H' a = some o
  newL : ∀ l, w.n ≤ l → l < w'.n → H (w'.io l) = none
  some_ : ∀ a, H a ≠ none → H' a ≠ none
  own : ∀ a, Own σ' σV' a → Own σ σV a ∨ H a = none
  lk : ∀ (i : Nat) (ts : List T), σ'[i]? = some (some (.lck ts)) → (∃ us, σ[i]? = some (some (.lck us))) ∧ σV'[i]? = σV[i]?
section
variable {G : Gx} {X : Cx} {C : Cf} {w w' w₀ : Wo} {H H' H₀ : Hp} {σ σ' : Fr} {σV σV' : St}
theorem LeS.refl : LeS w w H H σ σ σV σV := ⟨Nat.le_refl _, fun _ _ => rfl, fun _ z => z, fun _ _ e _ _ => e, fun l a b => absurd (Nat.lt_of_lt_of_le b a) (Nat.lt_irrefl _), fun _ z => z, fun _ z => .inl z, fun i ts e => ⟨⟨ts, e⟩, rfl⟩⟩
theorem LeS.notLoc (L : LeS w w' H H' σ σ' σV σV') {a : Addr} (h : H a ≠ none) (nl : IP.notLoc w a) : IP.notLoc w' a := fun l hl q => by
  by_cases k : l < w.n
  · exact nl l k (q.trans (L.io l k))
  · have := L.newL l (Nat.le_of_not_lt k) hl
    rw [← q] at this
    exact h this
theorem LeS.trans {w2 : Wo} {H2 : Hp} {σ2 : Fr} {σV2 : St} (a : LeS w w' H H' σ σ' σV σV') (b : LeS w' w2 H' H2 σ' σ2 σV' σV2) : LeS w w2 H H2 σ σ2 σV σV2 where
  n := Nat.le_trans a.n b.n
  io := fun l h => (b.io l (Nat.lt_of_lt_of_le h a.n)).trans (a.io l h)
  Z := fun x z => b.Z x (a.Z x z)
  keep := fun x o e nl no => by
    have hn : H x ≠ none := by rw [e]; intro z; cases z
    refine b.keep x o (a.keep x o e nl no) (a.notLoc hn nl) fun z => ?_
    rcases a.own x z with z | z
    · exact no z
    · exact hn z
  newL := fun l h1 h2 => by
    by_cases h : l < w'.n
    · rw [b.io l h]
      exact a.newL l h1 h
    · have q := b.newL l (Nat.le_of_not_lt h) h2
      cases e : H (w2.io l) with
      | none => rfl
      | some o => exact absurd q (a.some_ _ (by rw [e]; intro z; cases z))
  some_ := fun x z => b.some_ x (a.some_ x z)
  own := fun x z => by
    rcases b.own x z with z | z
    · exact a.own x z
    · refine .inr ?_
      cases e : H x with
      | none => rfl
      | some o => exact absurd z (a.some_ x (by rw [e]; intro q; cases q))
  lk := fun i ts e => by
    obtain ⟨⟨us, h1⟩, h2⟩ := b.lk i ts e
    obtain ⟨h3, h4⟩ := a.lk i us h1
    exact ⟨h3, h2.trans h4⟩
theorem LeS.of (L : Le w w' H H') : LeS w w' H H' σ σ σV σV := ⟨L.n, L.io, L.Z, fun a o e nl _ => L.keep a o e nl, L.newL, L.some_, fun _ z => .inl z, fun i ts e => ⟨⟨ts, e⟩, rfl⟩⟩
structure Kp (w w' : Wo) (H H' : Hp) : Prop where
  n : w.n ≤ w'.n
  io : ∀ l, l < w.n → w'.io l = w.io l
  Z : ∀ a, w.Z a → w'.Z a
  z : ∀ a u, w.Z a → Rd H a u → Rd H' a u
  t : ∀ a vs, H a = some (.tup vs) → H' a = some (.tup vs)
  x : ∀ a φ, H a = some (.ext φ) → H' a = some (.ext φ)
mutual
theorem Rep.kp (L : Kp w w' H H') : ∀ (t : T) (v : V), Rep G w H t v → Rep G w' H' t v
  | .non, v, h => h
  | .bl b, v, h => h
  | .int i, v, h => h
  | .str x, v, h => h
  | .tup ts, v, ⟨a, vs, e, h, r⟩ => ⟨a, vs, e, L.t _ _ h, Reps.kp L ts vs r⟩
  | .lst ts, v, ⟨a, vs, e, z, h, r⟩ => ⟨a, vs, e, L.Z _ z, L.z _ _ z h, Reps.kp L ts vs r⟩
  | .loc l, v, ⟨h, e⟩ => ⟨Nat.lt_of_lt_of_le h L.n, by rw [L.io l h]; exact e⟩
  | .exc c, v, ⟨a, e, h⟩ => ⟨a, e, L.x _ _ h⟩
theorem Reps.kp (L : Kp w w' H H') : ∀ (ts : List T) (vs : List V), Reps G w H ts vs → Reps G w' H' ts vs
  | [], vs, h => h
  | t :: ts, vs, ⟨v, r, e, h, q⟩ => ⟨v, r, e, Rep.kp L t v h, Reps.kp L ts r q⟩
end
theorem FrOk.notOwnZ (F : FrOk G w H H₀ σ σV) {a : Addr} (z : w.Z a) : ¬ Own σ σV a := fun ⟨i, ts, e1, e2⟩ => by
  obtain ⟨b, vs, h1, _, _, _, h5, _⟩ := F.own i _ ts e1 rfl
  rw [e2] at h1
  cases h1
  exact h5 z
theorem FrOk.notOwnT (F : FrOk G w H H₀ σ σV) {a : Addr} {o : HO} (e : H a = some o) (h : ∀ vs, o ≠ .lst vs) : ¬ Own σ σV a := fun ⟨i, ts, e1, e2⟩ => by
  obtain ⟨b, vs, h1, h2, _⟩ := F.own i _ ts e1 rfl
  rw [e2] at h1
  cases h1
  rw [e] at h2
  exact h vs (Option.some.inj h2)
theorem LeS.kp {s : Sto} (L : LeS w w' H H' σ σ' σV σV') (S : StoOk G w H s) (F : FrOk G w H H₀ σ σV) : Kp w w' H H' where
  n := L.n
  io := L.io
  Z := L.Z
  z := fun a u z r => by
    have no := F.notOwnZ z
    rcases r with r | ⟨o, r⟩
    · exact .inl (L.keep _ _ r (S.zLoc z) no)
    · exact .inr ⟨o, L.keep _ _ r (S.zLoc z) no⟩
  t := fun a vs e => L.keep _ _ e (S.notLoc e (fun _ z => by cases z) fun _ _ _ z => by cases z) (F.notOwnT e fun _ z => by cases z)
  x := fun a φ e => L.keep _ _ e (S.notLoc e (fun _ z => by cases z) fun _ _ _ z => by cases z) (F.notOwnT e fun _ z => by cases z)
def WantS (G : Gx) (X : Cx) (w₀ : Wo) (H₀ : Hp) (w : Wo) (H : Hp) (σ : Fr) (σV : St) (res : SR) (D : Ends) : Prop := match res with
  | .stuck => False
  | .next σ' s' => ∀ w' H' σV', Good G w₀ H₀ w' H' σ' s' σV' → LeS w w' H H' σ σ' σV σV' → D.nx σV' H'
  | .ret r s' => ∀ w' H' v, StoOk G w' H' s' → RepR G w' H' r v → Le w₀ w' H₀ H' → D.rt v H'
  | .retO ts s' => ∀ w' H' a vs, StoOk G w' H' s' → H' a = some (.lst vs) → Reps G w' H' ts vs → H₀ a = none → ¬ w'.Z a → notLoc w' a → Le w₀ w' H₀ H' → D.rt (.ref a) H'
  | .exc c σ' s' => ∀ w' H' σV' pins u sh, Good G w₀ H₀ w' H' σ' s' σV' → LeS w w' H H' σ σ' σV σV' → Thrown G X pins σV' H' c u sh → X.xe u sh
def tS (G : Gx) (X : Cx) (C : Cf) (a : S) : TS := fun D σV H => ∃ w₀ H₀ w σ s, Good G w₀ H₀ w H σ s σV ∧ WantS G X w₀ H₀ w H σ σV (ex C a σ s) D
def tSs (G : Gx) (X : Cx) (C : Cf) (a : List S) : TS := fun D σV H => ∃ w₀ H₀ w σ s, Good G w₀ H₀ w H σ s σV ∧ WantS G X w₀ H₀ w H σ σV (exs C a σ s) D
theorem PS.imp {st : Stmt} {t t' : TS} (h : PS X st t) (q : ∀ D σ H, t' D σ H → t D σ H) : PS X st t' := fun pins s σ H D I z => h pins s σ H D I (q _ _ _ z)
theorem PSs.imp {st : List Stmt} {t t' : TS} (h : PSs X st t) (q : ∀ D σ H, t' D σ H → t D σ H) : PSs X st t' := fun pins s σ H D I z => h pins s σ H D I (q _ _ _ z)
theorem WantS.mono {res : SR} {D : Ends} (L : LeS w w' H H' σ σ' σV σV') (h : WantS G X w₀ H₀ w H σ σV res D) : WantS G X w₀ H₀ w' H' σ' σV' res D := by
  cases res with
  | stuck => exact h
  | next σ2 s2 => exact fun w2 H2 σV2 g M => h w2 H2 σV2 g (L.trans M)
  | ret r s2 => exact h
  | retO ts s2 => exact h
  | exc c σ2 s2 => exact fun w2 H2 σV2 pins u sh g M => h w2 H2 σV2 pins u sh g (L.trans M)
theorem WantS.bind {m : SR} {k : Fr → Sto → SR} {D : Ends} {u : TS} (h : WantS G X w₀ H₀ w H σ σV (m.bind k) D)
    (hu : ∀ w1 H1 σ1 s1 σV1, Good G w₀ H₀ w1 H1 σ1 s1 σV1 → WantS G X w₀ H₀ w1 H1 σ1 σV1 (k σ1 s1) D → u D σV1 H1) : WantS G X w₀ H₀ w H σ σV m { D with nx := u D } := by
  cases m with
  | stuck => exact h
  | next σ2 s2 => exact fun w2 H2 σV2 g L => hu w2 H2 σ2 s2 σV2 g (WantS.mono L h)
  | ret r s2 => exact h
  | retO ts s2 => exact h
  | exc c σ2 s2 => exact h
theorem zaac : PSs X [] (tSs G X C []) := PSs.imp pss_nil fun D σV H ⟨w₀, H₀, w, σ, s, g, h⟩ => h w H σV g LeS.refl
theorem zaab {st : Stmt} {rest : List Stmt} {a : S} {as : List S} (h1 : PS X st (tS G X C a)) (h2 : PSs X rest (tSs G X C as)) : PSs X (st :: rest) (tSs G X C (a :: as)) := by
  refine PSs.imp (pss_cons h1 h2) ?_
  rintro D σV H ⟨w₀, H₀, w, σ, s, g, h⟩
  refine ⟨w₀, H₀, w, σ, s, g, WantS.bind h fun w1 H1 σ1 s1 σV1 g1 h1 => ?_⟩
  exact ⟨w₀, H₀, w1, σ1, s1, g1, h1⟩
theorem st_of {m : Res R} {k : R → Sto → SR} {D : Ends} {s : Sto} (g : Good G w₀ H₀ w H σ s σV) (h : WantS G X w₀ H₀ w H σ σV (m.st σ k) D) :
    Want G X σV w H m fun v H1 => ∃ w1 r s1, Le w w1 H H1 ∧ StoOk G w1 H1 s1 ∧ RepR G w1 H1 r v ∧ Good G w₀ H₀ w1 H1 σ s1 σV ∧ WantS G X w₀ H₀ w1 H1 σ σV (k r s1) D := by
  cases m with
  | stuck => exact h
  | ok r s1 => exact fun w1 H1 v L S R => ⟨w1, r, s1, L, S, R, g.step L S, WantS.mono (LeS.of L) h⟩
  | exc c s1 => exact fun w1 H1 pins u sh L S T => h w1 H1 σV pins u sh (g.step L S) (LeS.of L) T
theorem onS_w {α : Type} {o : Option α} {f : α → SR} {D : Ends} (h : WantS G X w₀ H₀ w H σ σV (onS o f) D) : ∃ a, o = some a ∧ WantS G X w₀ H₀ w H σ σV (f a) D := by
  cases o with
  | none => exact h.elim
  | some a => exact ⟨a, rfl, h⟩
theorem val_of {r : R} {t : T} (h : r.val? = some t) : r = .val t := by
  cases r with
  | val u => cases h; rfl
  | bor u => cases h
theorem own_set {i : Nat} {b : Option B} {x : Option V} (hb : ∀ ts, b ≠ some (.own ts)) {a : Addr} (h : Own (σ.set i b) (σV.set i x) a) : Own σ σV a := by
  obtain ⟨j, ts, e1, e2⟩ := h
  by_cases hj : i = j
  · subst hj
    have hlt : i < σ.length := by
      have := (List.getElem?_eq_some_iff.mp e1).1
      simpa using this
    rw [List.getElem?_set_self hlt] at e1
    exact absurd (Option.some.inj e1) (hb ts)
  · rw [List.getElem?_set_ne hj] at e1 e2
    exact ⟨j, ts, e1, e2⟩
theorem lk_set {i : Nat} {b : Option B} {x : Option V} (hb : ∀ ts, b ≠ some (.lck ts)) (j : Nat) (ts : List T) (e : (σ.set i b)[j]? = some (some (.lck ts))) : (∃ us, σ[j]? = some (some (.lck us))) ∧ (σV.set i x)[j]? = σV[j]? := by
  by_cases hj : i = j
  · subst hj
    have hlt : i < σ.length := by
      have := (List.getElem?_eq_some_iff.mp e).1
      simpa using this
    rw [List.getElem?_set_self hlt] at e
    exact absurd (Option.some.inj e) (hb ts)
  · rw [List.getElem?_set_ne hj] at e ⊢
    exact ⟨⟨ts, e⟩, rfl⟩
theorem LeS.set {i : Nat} {b : Option B} {x : Option V} (hb : ∀ ts, b ≠ some (.own ts)) (hb' : ∀ ts, b ≠ some (.lck ts)) : LeS w w H H σ (σ.set i b) σV (σV.set i x) :=
  ⟨Nat.le_refl _, fun _ _ => rfl, fun _ z => z, fun _ _ e _ _ => e, fun l a b => absurd (Nat.lt_of_lt_of_le b a) (Nat.lt_irrefl _), fun _ z => z, fun a z => .inl (own_set hb z), lk_set hb'⟩
theorem LeS.put {i : Nat} {t : T} {v : V} : LeS w w H H σ (IP.put σ i t) σV (σV.set i (some v)) := LeS.set (by intro ts z; cases z) (by intro ts z; cases z)
theorem Good.put {s : Sto} {i : Nat} {t : T} {v : V} (g : Good G w₀ H₀ w H σ s σV) (r : Rep G w H t v) : Good G w₀ H₀ w H (IP.put σ i t) s (σV.set i (some v)) := ⟨g.sto, g.fr.put r, g.ent⟩
variable {e : Expr} {e' : E} {x : Str} {pos pos' : Pos} {i : Nat}
theorem sS_asg (hN : X.N.Nodup) (hi : X.N[i]? = some x) (hx : Loc X.env.scope x) (he : PE X e (tV G X C e')) (hs : swapsWith e (some (.Name x pos')) pos.line X.env = pure false) (hf : X.fn x = true ∨ X.env.scope.names.lookup x = some .local) :
    PS X (.Assign [.Name x pos'] e pos) (tS G X C (.asg i e')) := by
  refine PS.imp (ps_set hN hi hx he hs hf) ?_
  rintro D σV H ⟨w₀, H₀, w, σ, s, g, h⟩
  refine ⟨w₀, H₀, w, σ, s, g, (st_of g h).imp ?_⟩
  rintro v H1 ⟨w1, r, s1, L1, S1, R1, g1, h1⟩
  obtain ⟨t, ht, h1⟩ := onS_w h1
  cases val_of ht
  exact h1 w1 H1 _ (g1.put R1) LeS.put
theorem sS_ret (he : PE X e (tV G X C e')) : PS X (.Return (some e) pos) (tS G X C (.ret e')) := by
  refine PS.imp (ps_ret he) ?_
  rintro D σV H ⟨w₀, H₀, w, σ, s, g, h⟩
  refine ⟨w₀, H₀, w, σ, s, g, (st_of g h).imp ?_⟩
  rintro v H1 ⟨w1, r, s1, L1, S1, R1, g1, h1⟩
  exact h1 w1 H1 v S1 R1 g1.ent
theorem onBS_t {x : R} {v : V} {m n : SR} {D : Ends} (r : RepR G w H x v) (h : WantS G X w₀ H₀ w H σ σV (onBS x m n) D) : ∃ k, v = .bl k ∧ WantS G X w₀ H₀ w H σ σV (if k = true then m else n) D := by
  match x, h with
  | .val (.bl true), h => exact ⟨true, r, h⟩
  | .val (.bl false), h => exact ⟨false, r, h⟩
  | .val .non, h => exact h.elim
  | .val (.int _), h => exact h.elim
  | .val (.str _), h => exact h.elim
  | .val (.tup _), h => exact h.elim
  | .val (.lst _), h => exact h.elim
  | .val (.loc _), h => exact h.elim
  | .val (.exc _), h => exact h.elim
  | .bor _, h => exact h.elim
theorem sS_ifs {c : Expr} {c' : E} {a b : List Stmt} {a' b' : List S} (hc : PT X c (tT G X C c')) (ha : PSs X a (tSs G X C a')) (hb : PSs X b (tSs G X C b')) : PS X (.If c a b pos) (tS G X C (.ifs c' a' b')) := by
  refine PS.imp (ps_if hc ha hb) ?_
  rintro D σV H ⟨w₀, H₀, w, σ, s, g, h⟩
  refine ⟨w₀, H₀, w, σ, s, g, (st_of g h).imp ?_⟩
  rintro v H1 ⟨w1, r, s1, L1, S1, R1, g1, h1⟩
  obtain ⟨k, rfl, h1⟩ := onBS_t R1 h1
  refine ⟨k, rfl, ?_⟩
  cases k with
  | true => exact iteT ⟨w₀, H₀, w1, σ, s1, g1, h1⟩
  | false => exact iteF ⟨w₀, H₀, w1, σ, s1, g1, h1⟩
end
end IP
end
section
set_option Elab.async false
set_option linter.all false
set_option maxRecDepth 100000
namespace IP
open PySem PySem.Spec L2
section
variable {G : Gx} {X : Cx} {C : Cf} {w w' w₀ : Wo} {H H' H₀ : Hp} {σ σ' : Fr} {σV σV' : St}
theorem zaaj {α : Type} {l : List (Option α)} {i j : Nat} {b : Option α} {c : α} (h : (l.set i b)[j]? = some (some c)) : (i = j ∧ b = some c ∧ i < l.length) ∨ (i ≠ j ∧ l[j]? = some (some c)) := by
  by_cases hj : i = j
  · subst hj
    have hlt : i < l.length := by
      have := (List.getElem?_eq_some_iff.mp h).1
      simpa using this
    rw [List.getElem?_set_self hlt] at h
    exact .inl ⟨rfl, Option.some.inj h, hlt⟩
  · rw [List.getElem?_set_ne hj] at h
    exact .inr ⟨hj, h⟩
theorem FrOk.mkO {i : Nat} {ts : List T} {a : Addr} {vs : List V} (F : FrOk G w H H₀ σ σV) (ha : H a = some (.lst vs)) (r : Reps G w H ts vs) (h0 : H₀ a = none) (hz : ¬ w.Z a) (hl : notLoc w a)
    (hap : ∀ (j : Nat) (b : B) (us : List T), σ[j]? = some (some b) → ownL b = some us → σV[j]? ≠ some (some (.ref a))) : FrOk G w H H₀ (setOwn σ i ts) (σV.set i (some (.ref a))) where
  len := by unfold setOwn; simp [F.len]
  val := fun j t e => by
    rcases zaaj e with ⟨_, z, _⟩ | ⟨ne, z⟩
    · cases z
    · obtain ⟨v, h1, h2⟩ := F.val j t z
      exact ⟨v, by rw [List.getElem?_set_ne ne]; exact h1, h2⟩
  own := fun j b us e eb => by
    rcases zaaj e with ⟨rfl, z, hlt⟩ | ⟨ne, z⟩
    · cases z
      cases eb
      exact ⟨a, vs, by rw [List.getElem?_set_self (by rw [← F.len]; exact hlt)], ha, r, h0, hz, hl⟩
    · obtain ⟨p, us', h1, h2⟩ := F.own j b us z eb
      exact ⟨p, us', by rw [List.getElem?_set_ne ne]; exact h1, h2⟩
  apart := fun j k b c us us' p hjk e1 eb e2 ec e3 e4 => by
    rcases zaaj e1 with ⟨rfl, z, hlt⟩ | ⟨ne, z⟩
    · rcases zaaj e2 with ⟨rfl, _, _⟩ | ⟨ne', z'⟩
      · exact hjk rfl
      · rw [List.getElem?_set_self (by rw [← F.len]; exact hlt)] at e3
        cases e3
        rw [List.getElem?_set_ne ne'] at e4
        exact hap k c us' z' ec e4
    · rcases zaaj e2 with ⟨rfl, z', hlt⟩ | ⟨ne', z'⟩
      · rw [List.getElem?_set_self (by rw [← F.len]; exact hlt)] at e4
        cases e4
        rw [List.getElem?_set_ne ne] at e3
        exact hap j b us z eb e3
      · rw [List.getElem?_set_ne ne] at e3
        rw [List.getElem?_set_ne ne'] at e4
        exact F.apart j k b c us us' p hjk z eb z' ec e3 e4
  bor := fun j us e => by
    rcases zaaj e with ⟨_, z, _⟩ | ⟨ne, z⟩
    · cases z
    · obtain ⟨p, us', h1, h2⟩ := F.bor j us z
      exact ⟨p, us', by rw [List.getElem?_set_ne ne]; exact h1, h2⟩
theorem FrOk.chg {i : Nat} {ts us : List T} {a : Addr} {xs ys : List V} (F : FrOk G w H H₀ σ σV) (hi : σ[i]? = some (some (.own ts))) (hv : σV[i]? = some (some (.ref a))) (ha : H a = some (.lst xs)) (r : Reps G w H us ys) :
    FrOk G w (upd H a (.lst ys)) H₀ (setOwn σ i us) σV := by
  obtain ⟨a', xs', h1, h2, h3, h4, h5, h6⟩ := F.own i _ ts hi rfl
  rw [hv] at h1
  cases h1
  have hlt : i < σ.length := (List.getElem?_eq_some_iff.mp hi).1
  exact {
    len := by unfold setOwn; simp [F.len]
    val := fun j t e => by
      rcases zaaj e with ⟨_, z, _⟩ | ⟨ne, z⟩
      · cases z
      · obtain ⟨v, q1, q2⟩ := F.val j t z
        exact ⟨v, q1, Rep.upd ha h5 t v q2⟩
    own := fun j b vs e eb => by
      rcases zaaj e with ⟨rfl, z, hlt⟩ | ⟨ne, z⟩
      · cases z
        cases eb
        exact ⟨a, ys, hv, zaan, Reps.upd ha h5 us ys r, h4, h5, h6⟩
      · obtain ⟨p, us', q1, q2, q3, q4⟩ := F.own j b vs z eb
        have np : p ≠ a := fun y => by
          subst y
          exact F.apart i j _ b ts vs p ne hi rfl z eb hv q1
        exact ⟨p, us', q1, by rw [upd_ne np]; exact q2, Reps.upd ha h5 _ _ q3, q4⟩
    apart := fun j k b c us1 us2 p hjk e1 eb e2 ec e3 e4 => by
      have old : ∀ {j : Nat} {b : B} {us1 : List T}, (setOwn σ i us)[j]? = some (some b) → ownL b = some us1 → ∃ b' us', σ[j]? = some (some b') ∧ ownL b' = some us' := fun {j b us1} e eb => by
        rcases zaaj e with ⟨rfl, z, _⟩ | ⟨ne, z⟩
        · exact ⟨_, ts, hi, rfl⟩
        · exact ⟨b, us1, z, eb⟩
      obtain ⟨b', u1, z1, y1⟩ := old e1 eb
      obtain ⟨c', u2, z2, y2⟩ := old e2 ec
      exact F.apart j k b' c' u1 u2 p hjk z1 y1 z2 y2 e3 e4
    bor := fun j vs e => by
      rcases zaaj e with ⟨_, z, _⟩ | ⟨ne, z⟩
      · cases z
      · obtain ⟨p, us', q1, q2, q3, q4, q5⟩ := F.bor j vs z
        have np : p ≠ a := fun y => by subst y; exact q4 h4
        exact ⟨p, us', q1, by rw [upd_ne np]; exact q2, Reps.upd ha h5 _ _ q3, q4, q5⟩ }
theorem ownAt_get {i : Nat} {ts : List T} (h : ownAt σ i = some ts) : σ[i]? = some (some (.own ts)) := by
  unfold ownAt at h
  split at h
  · rename_i us e
    cases h
    exact e
  · cases h
theorem Good.chg {s : Sto} {i : Nat} {ts us : List T} {a : Addr} {xs ys : List V} (g : Good G w₀ H₀ w H σ s σV) (hi : σ[i]? = some (some (.own ts))) (hv : σV[i]? = some (some (.ref a))) (ha : H a = some (.lst xs)) (r : Reps G w H us ys) :
    Good G w₀ H₀ w (upd H a (.lst ys)) (setOwn σ i us) s σV ∧ LeS w w H (upd H a (.lst ys)) σ (setOwn σ i us) σV σV := by
  obtain ⟨a', xs', h1, h2, h3, h4, h5, h6⟩ := g.fr.own i _ ts hi rfl
  rw [hv] at h1
  cases h1
  have hlt : i < σ.length := (List.getElem?_eq_some_iff.mp hi).1
  refine ⟨⟨g.sto.upd ha h5 h6, g.fr.chg hi hv ha r, g.ent.updNew h4 (by rw [ha]; intro z; cases z)⟩, Nat.le_refl _, fun _ _ => rfl, fun _ z => z, fun p o e nl no => ?_, fun l a b => absurd (Nat.lt_of_lt_of_le b a) (Nat.lt_irrefl _), fun p z => ?_, fun p z => .inl ?_, fun j vs e => ?_⟩
  · have np : p ≠ a := fun y => by subst y; exact no ⟨i, ts, hi, hv⟩
    rw [upd_ne np]
    exact e
  · by_cases e : p = a
    · subst e; rw [zaan]; intro z; cases z
    · rw [upd_ne e]; exact z
  · obtain ⟨j, vs, e1, e2⟩ := z
    rcases zaaj e1 with ⟨rfl, _, _⟩ | ⟨ne, z⟩
    · exact ⟨i, ts, hi, e2⟩
    · exact ⟨j, vs, z, e2⟩
  · rcases zaaj e with ⟨rfl, z, _⟩ | ⟨ne, z⟩
    · cases z
    · exact ⟨⟨vs, z⟩, rfl⟩
variable {e j : Expr} {e' j' : E} {x : Str} {pos pos' p1 p2 : Pos} {i : Nat}
theorem tO_mk {D : Ends} {s : Sto} (g : Good G w₀ H₀ w H σ s σV) (h : WantS G X w₀ H₀ w H σ σV (ex C (.mk i e') σ s) D) : WantO G X σV w H (ev C e' .v σ s) fun v H1 => D.nx (σV.set i (some v)) H1 := by
  unfold ex at h
  split at h
  · cases hv : ev C e' .v σ s with
    | stuck => rw [hv] at h; exact h
    | exc c s1 => rw [hv] at h; exact fun w1 H1 pins u sh L S T => h w1 H1 σV pins u sh (g.step L S) (LeS.of L) T
    | ok r s1 =>
      rw [hv] at h
      obtain ⟨ts, ht, h⟩ := onS_w (show WantS G X w₀ H₀ w H σ σV (onS r.lst? fun ts => .next (setOwn σ i ts) s1) D from h)
      have er : r = .val (.lst ts) := by
        match r, ht with
        | .val (.lst us), ht => cases ht; rfl
      subst er
      intro w1 H1 a vs L S ha r hn nz nl
      have h0 : H₀ a = none := by
        cases q : H₀ a with
        | none => rfl
        | some o => exact absurd hn (g.ent.some_ a (by rw [q]; intro z; cases z))
      have g1 := g.step L S
      have hap : ∀ (j : Nat) (b : B) (us : List T), σ[j]? = some (some b) → ownL b = some us → σV[j]? ≠ some (some (.ref a)) := fun j b us e eb q => by
        obtain ⟨a', xs', h1, h2, _⟩ := g.fr.own j b us e eb
        rw [q] at h1
        cases h1
        rw [hn] at h2
        cases h2
      refine h w1 H1 _ ⟨g1.sto, g1.fr.mkO ha r h0 nz nl hap, g1.ent⟩ ⟨L.n, L.io, L.Z, fun p o e nl _ => L.keep p o e nl, L.newL, L.some_, fun p z => ?_, fun k us e => ?_⟩
      · obtain ⟨k, us, e1, e2⟩ := z
        rcases zaaj e1 with ⟨rfl, _, hlt⟩ | ⟨ne, z⟩
        · rw [List.getElem?_set_self (by rw [← g.fr.len]; exact hlt)] at e2
          cases e2
          exact .inr hn
        · rw [List.getElem?_set_ne ne] at e2
          exact .inl ⟨k, us, z, e2⟩
      · rcases zaaj e with ⟨_, z, _⟩ | ⟨ne, z⟩
        · cases z
        · exact ⟨⟨us, z⟩, by rw [List.getElem?_set_ne ne]⟩
  · exact h.elim
theorem sS_mk (hN : X.N.Nodup) (hi : X.N[i]? = some x) (hx : Loc X.env.scope x) (he : PE X e (tO G X C e')) (hs : swapsWith e (some (.Name x pos')) pos.line X.env = pure false) (hf : X.fn x = true ∨ X.env.scope.names.lookup x = some .local) :
    PS X (.Assign [.Name x pos'] e pos) (tS G X C (.mk i e')) := by
  refine PS.imp (ps_set hN hi hx he hs hf) ?_
  rintro D σV H ⟨w₀, H₀, w, σ, s, g, h⟩
  exact ⟨w₀, H₀, w, σ, s, g, tO_mk g h⟩
theorem zabr (hfr : ∀ σ s r s1, ev C e' .v σ s = .ok r s1 → ∃ ts, r = .val (.lst ts)) (he : PS X (.Assign [.Name x pos'] e pos) (fun D σV H => tO G X C e' σV H fun v H1 => D.nx (σV.set i (some v)) H1)) : PS X (.Assign [.Name x pos'] e pos) (tS G X C (.asg i e')) := by
  refine PS.imp he ?_
  rintro D σV H ⟨w₀, H₀, w, σ, s, g, h⟩
  refine ⟨w₀, H₀, w, σ, s, g, want_o (hfr σ s) ((st_of g h).imp ?_)⟩
  rintro v H1 ⟨w1, r, s1, L1, S1, R1, g1, h1⟩
  obtain ⟨t, ht, h1⟩ := onS_w h1
  cases val_of ht
  exact h1 w1 H1 _ (g1.put R1) LeS.put
theorem sS_app {cpos : Pos} (hN : X.N[i]? = some x) (hv : Vis X.env.scope x) (hd : (x == ("__debug__" : Str)) = false) (hcd : (x == ("__classdict__" : Str)) = false) (he : PE X e (tV G X C e')) (hst : starEach [e] X.env = [(false, eval e X.env)])
    (hline : (p2.endLine == cpos.line) = true) (hbase : attributeBase (.Name x p1) "append" X.env (eval (.Name x p1) X.env) = eval (.Name x p1) X.env)
    (hfew : ((backTo cpos (starEach [e] X.env)).all (fun x => !x.1) && (backToKw cpos (keywordEach [] X.env)).all (fun x => x.1.isSome) && decide ([e].length + ([] : List Keyword).length + (if ([] : List Keyword).isEmpty then 0 else 1) < 30)) = true)
    (hs : swapsWith (.Call (.Attribute (.Name x p1) "append" p2) [e] [] cpos) none pos.line X.env = pure false) :
    PS X (.Expr (.Call (.Attribute (.Name x p1) "append" p2) [e] [] cpos) pos) (tS G X C (.app i e')) := by
  refine PS.imp (ps_expr (pe_bm PySem.F.plainAttrs_list PySem.F.slot_list_append PySem.F.type_list_append zacx (pe_var hN hv hd hcd) (zaao he pa_nil hst) hbase hfew hline hst rfl) hs) ?_
  rintro D σV H ⟨w₀, H₀, w, σ, s, g, h⟩
  obtain ⟨ts, ho, h⟩ := onS_w (show WantS G X w₀ H₀ w H σ σV (onS (ownAt σ i) fun ts => (ev C e' .v σ s).st σ fun x s1 => onS x.val? fun t => if ts.length < lim then .next (setOwn σ i (ts ++ [t])) s1 else .stuck) D from h)
  have hi := ownAt_get ho
  obtain ⟨a, vs, h1, h2, h3, h4, h5, h6⟩ := g.fr.own i _ ts hi rfl
  refine ⟨.ref a, h1, .inl ⟨rfl, vs, SqL.of h2⟩, w₀, H₀, w, σ, s, g, (st_of g h).imp ?_⟩
  rintro v H1 ⟨w1, r, s1, L1, S1, R1, g1, q1⟩
  obtain ⟨t, ht, q1⟩ := onS_w q1
  cases val_of ht
  split at q1
  · rename_i hlim
    have ha1 := L1.keep a _ h2 h6
    have r1 := Reps.mono L1 g.sto ts vs h3
    refine ⟨a, vs, v, rfl, rfl, ha1, by rw [← h3.length]; have := lim_le; omega, ?_⟩
    obtain ⟨g2, l2⟩ := g1.chg hi h1 ha1 (r1.append (show Reps G w1 H1 [t] [v] from ⟨v, [], rfl, R1, rfl⟩))
    exact q1 w1 _ σV g2 l2
  · exact q1.elim
theorem Good.frz {s : Sto} (g : Good G w₀ H₀ w H σ s σV) (i : Nat) : ∃ w', Good G w₀ H₀ w' H (frz σ i) s σV ∧ LeS w w' H H σ (frz σ i) σV σV := by
  unfold IP.frz
  split
  · rename_i ts hi
    obtain ⟨a, vs, h1, h2, h3, h4, h5, h6⟩ := g.fr.own i _ ts hi rfl
    have zm := fun (t : T) (v : V) (h : Rep G w H t v) => Rep.zmono (w := w) (w' := w.addZ a) rfl rfl (fun _ z => .inl z) t v h
    have zms := fun (t : List T) (v : List V) (h : Reps G w H t v) => Reps.zmono (w := w) (w' := w.addZ a) rfl rfl (fun _ z => .inl z) t v h
    refine ⟨w.addZ a, ⟨g.sto.addZ h2 h6, ⟨by simp [g.fr.len], fun j t e => ?_, fun j b us e eb => ?_, fun j k b c us us' p hjk e1 eb e2 ec => ?_, fun j us e => ?_⟩, g.ent.addZ h4⟩, Nat.le_refl _, fun _ _ => rfl, fun _ z => .inl z, fun _ _ e _ _ => e, fun l a b => absurd (Nat.lt_of_lt_of_le b a) (Nat.lt_irrefl _), fun _ z => z, fun p z => .inl ?_, fun j us e => ?_⟩
    · rcases zaaj e with ⟨rfl, z, _⟩ | ⟨ne, z⟩
      · cases z
        exact ⟨.ref a, h1, a, vs, rfl, .inr rfl, .inl h2, zms _ _ h3⟩
      · obtain ⟨v, q1, q2⟩ := g.fr.val j t z
        exact ⟨v, q1, zm t v q2⟩
    · rcases zaaj e with ⟨_, z, _⟩ | ⟨ne, z⟩
      · cases z; cases eb
      · obtain ⟨p, us', q1, q2, q3, q4, q5, q6⟩ := g.fr.own j b us z eb
        refine ⟨p, us', q1, q2, zms _ _ q3, q4, fun y => y.elim q5 fun y => ?_, q6⟩
        subst y
        exact g.fr.apart i j _ b ts us p ne hi rfl z eb h1 q1
    · rcases zaaj e1 with ⟨_, z, _⟩ | ⟨ne, z⟩
      · cases z; cases eb
      · rcases zaaj e2 with ⟨_, z', _⟩ | ⟨ne', z'⟩
        · cases z'; cases ec
        · exact g.fr.apart j k b c us us' p hjk z eb z' ec
    · rcases zaaj e with ⟨_, z, _⟩ | ⟨ne, z⟩
      · cases z
      · obtain ⟨p, us', q1, q2, q3, q4⟩ := g.fr.bor j us z
        exact ⟨p, us', q1, q2, zms _ _ q3, q4⟩
    · obtain ⟨j, us, e1, e2⟩ := z
      rcases zaaj e1 with ⟨_, z, _⟩ | ⟨ne, z⟩
      · cases z
      · exact ⟨j, us, z, e2⟩
    · rcases zaaj e with ⟨_, z, _⟩ | ⟨ne, z⟩
      · cases z
      · exact ⟨⟨us, z⟩, rfl⟩
  · exact ⟨w, g, LeS.refl⟩
theorem sSs_frz {rest : List Stmt} {as : List S} (h : PSs X rest (tSs G X C as)) : PSs X rest (tSs G X C (.frz i :: as)) := by
  refine PSs.imp h ?_
  rintro D σV H ⟨w₀, H₀, w, σ, s, g, h⟩
  obtain ⟨w', g', l'⟩ := g.frz i
  exact ⟨w₀, H₀, w', IP.frz σ i, s, g', WantS.mono l' h⟩
end
end IP
end
section
set_option Elab.async false
set_option linter.all false
set_option maxRecDepth 100000
namespace IP
open PySem PySem.Spec L2
theorem whileN_up {c : Fr → Sto → Res Bool} {b : Fr → Sto → SR} : ∀ (n : Nat) (σ : Fr) (s : Sto), whileN c b n σ s ≠ .stuck → whileN c b (n + 1) σ s = whileN c b n σ s := by
  intro n
  induction n with
  | zero => intro σ s h; exact absurd rfl h
  | succ n ih =>
    intro σ s h
    have h' := h
    unfold whileN at h
    show whileN c b (n + 1 + 1) σ s = _
    conv => lhs; unfold whileN
    conv => rhs; unfold whileN
    cases hc : c σ s with
    | stuck => rfl
    | exc d s1 => rfl
    | ok k s1 =>
      cases k with
      | false => rfl
      | true =>
        rw [hc] at h
        have h : ((b σ s1).bind fun σ2 s2 => whileN c b n σ2 s2) ≠ .stuck := h
        show ((b σ s1).bind fun σ2 s2 => whileN c b (n + 1) σ2 s2) = ((b σ s1).bind fun σ2 s2 => whileN c b n σ2 s2)
        cases hb : b σ s1 with
        | stuck => rfl
        | ret r s2 => rfl
        | retO ts s2 => rfl
        | exc d σ2 s2 => rfl
        | next σ2 s2 =>
          rw [hb] at h
          exact ih σ2 s2 h
theorem zabw {c : Fr → Sto → Res Bool} {b : Fr → Sto → SR} {n : Nat} {σ : Fr} {s : Sto} (h : whileN c b n σ s ≠ .stuck) : ∀ k, whileN c b (n + k) σ s = whileN c b n σ s
  | 0 => rfl
  | k + 1 => by
    have ih := zabw h k
    rw [← Nat.add_assoc, whileN_up (n + k) σ s (by rw [ih]; exact h), ih]
theorem zadg {c : Fr → Sto → Res Bool} {b : Fr → Sto → SR} {n : Nat} {σ : Fr} {s : Sto} (h : whileN c b n σ s ≠ .stuck) : whileL c b σ s = whileN c b n σ s := by
  have hx : ∃ n, whileN c b n σ s ≠ .stuck := ⟨n, h⟩
  unfold whileL
  rw [dif_pos hx]
  have hm := Classical.choose_spec hx
  generalize Classical.choose hx = m at hm
  rcases Nat.le_total n m with q | q
  · obtain ⟨k, rfl⟩ := Nat.exists_eq_add_of_le q
    exact zabw h k
  · obtain ⟨k, rfl⟩ := Nat.exists_eq_add_of_le q
    exact (zabw hm k).symm
theorem zad3 {c : Fr → Sto → Res Bool} {b : Fr → Sto → SR} {σ : Fr} {s : Sto} (h : whileL c b σ s ≠ .stuck) : ∃ n, whileL c b σ s = whileN c b n σ s := by
  unfold whileL at h ⊢
  split at h
  · rename_i hx
    rw [dif_pos hx]
    exact ⟨_, rfl⟩
  · exact absurd rfl h
theorem whileL_eq (c : Fr → Sto → Res Bool) (b : Fr → Sto → SR) (σ : Fr) (s : Sto) : whileL c b σ s = match c σ s with
    | .stuck => .stuck
    | .exc d s1 => .exc d σ s1
    | .ok false s1 => .next σ s1
    | .ok true s1 => (b σ s1).bind fun σ2 s2 => whileL c b σ2 s2 := by
  by_cases h : ∃ n, whileN c b n σ s ≠ .stuck
  · obtain ⟨n, hn⟩ := h
    cases n with
    | zero => exact absurd rfl hn
    | succ n =>
      rw [zadg hn]
      unfold whileN at hn ⊢
      cases hc : c σ s with
      | stuck => rfl
      | exc d s1 => rfl
      | ok k s1 =>
        cases k with
        | false => rfl
        | true =>
          rw [hc] at hn
          have hn : ((b σ s1).bind fun σ2 s2 => whileN c b n σ2 s2) ≠ .stuck := hn
          show ((b σ s1).bind fun σ2 s2 => whileN c b n σ2 s2) = ((b σ s1).bind fun σ2 s2 => whileL c b σ2 s2)
          cases hb : b σ s1 with
          | stuck => rfl
          | ret r s2 => rfl
          | retO ts s2 => rfl
          | exc d σ2 s2 => rfl
          | next σ2 s2 =>
            rw [hb] at hn
            exact (zadg hn).symm
  · have e : whileL c b σ s = .stuck := by unfold whileL; rw [dif_neg h]
    rw [e]
    have h : ∀ n, whileN c b n σ s = .stuck := fun n => Classical.byContradiction fun q => h ⟨n, q⟩
    have h1 := h 1
    unfold whileN at h1
    cases hc : c σ s with
    | stuck => rfl
    | exc d s1 => rw [hc] at h1; cases h1
    | ok k s1 =>
      cases k with
      | false => rw [hc] at h1; cases h1
      | true =>
        show SR.stuck = ((b σ s1).bind fun σ2 s2 => whileL c b σ2 s2)
        cases hb : b σ s1 with
        | stuck => rfl
        | ret r s2 => rw [hc] at h1; simp [hb, whileN] at h1
        | retO ts s2 => rw [hc] at h1; simp [hb, whileN] at h1
        | exc d σ2 s2 => rw [hc] at h1; simp [hb, whileN] at h1
        | next σ2 s2 =>
          show SR.stuck = whileL c b σ2 s2
          unfold whileL
          rw [dif_neg]
          rintro ⟨n, hn⟩
          have := h (n + 1)
          unfold whileN at this
          rw [hc] at this
          simp only [hb, SR.bind_next] at this
          exact hn this
section
variable {G : Gx} {X : Cx} {C : Cf} {w w' w₀ : Wo} {H H' H₀ : Hp} {σ σ' : Fr} {σV σV' : St} {pos : Pos}
def asB (x : R) : Option Bool := match x with | .val (.bl k) => some k | _ => none
theorem sS_whl {c : Expr} {c' : E} {b : List Stmt} {b' : List S} (hwl : C.wl = whileL) (hp : PassesOwn (model X.prog X.w) X.A X.env X.xe) (hc : PT X c (tT G X C c')) (hb : PSs X b (tSs G X C b')) : PS X (.While c b [] pos) (tS G X C (.whl c' b')) := by
  refine PS.imp (ps_while hp hc hb) ?_
  rintro D σV H ⟨w₀, H₀, w, σ, s, g, h⟩
  have h : WantS G X w₀ H₀ w H σ σV (C.wl (fun σ s => (ev C c' .t σ s).bind fun x s1 => .of (match x with | .val (.bl k) => some k | _ => none) s1) (fun σ s => exs C b' σ s) σ s) D := h
  rw [hwl] at h
  generalize hcf : (fun σ s => (ev C c' .t σ s).bind fun x s1 => Res.of (match x with | .val (.bl k) => some k | _ => none) s1) = cf at h
  generalize hbf : (fun σ s => exs C b' σ s) = bf at h
  refine ⟨fun m σV1 H1 => ∃ w1 σ1 s1, Good G w₀ H₀ w1 H1 σ1 s1 σV1 ∧ whileN cf bf m σ1 s1 ≠ .stuck ∧ WantS G X w₀ H₀ w1 H1 σ1 σV1 (whileN cf bf m σ1 s1) D, ?_, ?_⟩
  · have hn : whileL cf bf σ s ≠ .stuck := fun z => by rw [z] at h; exact h
    obtain ⟨n, hn'⟩ := zad3 hn
    rw [hn'] at hn h
    exact ⟨n, w, σ, s, g, hn, h⟩
  · rintro m σV1 H1 ⟨w1, σ1, s1, g1, hn1, h1⟩
    cases m with
    | zero => exact absurd rfl hn1
    | succ n =>
      unfold whileN at hn1 h1
      refine ⟨w₀, H₀, w1, σ1, s1, g1, ?_⟩
      have ec : cf σ1 s1 = (ev C c' .t σ1 s1).bind fun x s1 => Res.of (match x with | .val (.bl k) => some k | _ => none) s1 := by rw [← hcf]
      rw [ec] at hn1 h1
      cases he : ev C c' .t σ1 s1 with
      | stuck => rw [he] at hn1; exact absurd rfl hn1
      | exc d s2 => rw [he] at h1; exact fun w2 H2 pins u sh L S T => h1 w2 H2 σV1 pins u sh (g1.step L S) (LeS.of L) T
      | ok x s2 =>
        rw [he] at hn1 h1
        intro w2 H2 v L2 S2 R2
        match x, R2, hn1, h1 with
        | .val (.bl true), R2, hn1, h1 =>
          cases R2
          refine ⟨true, rfl, iteT ?_⟩
          have hn1 : ((bf σ1 s2).bind fun σ2 s2 => whileN cf bf n σ2 s2) ≠ .stuck := hn1
          have h1 : WantS G X w₀ H₀ w1 H1 σ1 σV1 ((bf σ1 s2).bind fun σ2 s2 => whileN cf bf n σ2 s2) D := h1
          refine ⟨fun σV3 H3 => ∃ w3 σ3 s3, Good G w₀ H₀ w3 H3 σ3 s3 σV3 ∧ whileN cf bf n σ3 s3 ≠ .stuck ∧ WantS G X w₀ H₀ w3 H3 σ3 σV3 (whileN cf bf n σ3 s3) D, fun σV3 H3 q => ⟨n, Nat.lt_succ_self _, q⟩, ?_⟩
          refine ⟨w₀, H₀, w2, σ1, s2, g1.step L2 S2, ?_⟩
          have eb : bf σ1 s2 = exs C b' σ1 s2 := by rw [← hbf]
          rw [eb] at hn1 h1
          cases hx : exs C b' σ1 s2 with
          | stuck => rw [hx] at h1; exact h1
          | ret r s3 => rw [hx] at h1; exact h1
          | retO ts s3 => rw [hx] at h1; exact h1
          | exc d σ3 s3 => rw [hx] at h1; exact fun w3 H3 σV3 pins u sh g3 L3 T => h1 w3 H3 σV3 pins u sh g3 ((LeS.of L2).trans L3) T
          | next σ3 s3 =>
            rw [hx] at h1 hn1
            intro w3 H3 σV3 g3 L3
            exact ⟨w3, σ3, s3, g3, hn1, WantS.mono ((LeS.of L2).trans L3) h1⟩
        | .val (.bl false), R2, hn1, h1 =>
          cases R2
          exact ⟨false, rfl, iteF (h1 w2 H2 σV1 (g1.step L2 S2) (LeS.of L2))⟩
        | .val .non, _, hn1, h1 => exact h1.elim
        | .val (.int _), _, hn1, h1 => exact h1.elim
        | .val (.str _), _, hn1, h1 => exact h1.elim
        | .val (.tup _), _, hn1, h1 => exact h1.elim
        | .val (.lst _), _, hn1, h1 => exact h1.elim
        | .val (.loc _), _, hn1, h1 => exact h1.elim
        | .val (.exc _), _, hn1, h1 => exact h1.elim
        | .bor _, _, hn1, h1 => exact h1.elim
def zaca (σ : Fr) (σV : St) : Src → Prop
  | .l a _ => ¬ Own σ σV a
  | _ => True
theorem SrcOk.monoS {z : Bool} {s : Sto} (L : LeS w w' H H' σ σ' σV σV') (S : StoOk G w H s) (F : FrOk G w H H₀ σ σV) : ∀ {src : Src} {ts : List T}, zaca σ σV src → SrcOk G w H z src ts → SrcOk G w' H' z src ts ∧ zaca σ' σV' src
  | .l a vs, ts, nf, ⟨h1, h2, h3, h4⟩ => by
    have hs := Rd.some h1
    refine ⟨⟨?_, Reps.kp (L.kp S F) ts vs h2, L.notLoc hs h3, fun q => L.Z a (h4 q)⟩, fun z => ?_⟩
    · rcases h1 with h1 | ⟨o, h1⟩
      · exact .inl (L.keep _ _ h1 h3 nf)
      · exact .inr ⟨o, L.keep _ _ h1 h3 nf⟩
    · rcases L.own a z with z | z
      · exact nf z
      · exact hs z
  | .t a vs, ts, _, ⟨h1, h2⟩ => ⟨⟨(L.kp S F).t _ _ h1, Reps.kp (L.kp S F) ts vs h2⟩, True.intro⟩
  | .r lo n, ts, _, h => ⟨h, True.intro⟩
theorem for_loop {tg : Expr} {g : Tg} {b : List Stmt} {b' : List S} {D : Ends} {src : Src} {ts : List T} {s : Sto} {K : PySem.W.Frag} {z : Bool} (gd : Good G w₀ H₀ w H σ s σV) (SO : SrcOk G w H z src ts) (SF : zaca σ σV src)
    (h : WantS G X w₀ H₀ w H σ σV (forL g (fun σ s => exs C b' σ s) ts σ s) D) :
    ∃ W : Nat → Nat → St → Hp → Prop, (∃ m, W 0 m σV H) ∧ ∀ i m σV H, W i m σV H →
      ((itOf K src).stop i H ∧ D.nx σV H) ∨ ((itOf K src).go i H ∧ ∃ N : St → Hp → Prop, (∀ σ' H', N σ' H' → ∃ m', m' < m ∧ W (i + 1) m' σ' H') ∧ ∀ x H', (itOf K src).yld i H x H' → gTg G g x σV H' fun σ2 H2 => tSs G X C b' { D with nx := N, ct := N, bk := D.nx } σ2 H2) := by
  refine ⟨fun i m σV1 H1 => ∃ w1 σ1 s1, m = ts.length - i ∧ i ≤ ts.length ∧ Good G w₀ H₀ w1 H1 σ1 s1 σV1 ∧ SrcOk G w1 H1 z src ts ∧ zaca σ1 σV1 src ∧ WantS G X w₀ H₀ w1 H1 σ1 σV1 (forL g (fun σ s => exs C b' σ s) (ts.drop i) σ1 s1) D,
    ⟨ts.length, w, σ, s, rfl, Nat.zero_le _, gd, SO, SF, h⟩, ?_⟩
  rintro i m σV1 H1 ⟨w1, σ1, s1, hm, hi, g1, SO1, SF1, h1⟩
  by_cases hlt : i < ts.length
  · refine .inr ?_
    have et : ts[i]? = some ts[i] := List.getElem?_eq_getElem hlt
    have ed : ts.drop i = ts[i] :: ts.drop (i + 1) := List.drop_eq_getElem_cons hlt
    rw [ed] at h1
    obtain ⟨σ2, hb, h1⟩ := onS_w (show WantS G X w₀ H₀ w1 H1 σ1 σV1 (onS (bindTg σ1 g ts[i]) fun σ' => (exs C b' σ' s1).bind fun σ2 s2 => forL g (fun σ s => exs C b' σ s) (ts.drop (i + 1)) σ2 s2) D from h1)
    obtain ⟨go, yld⟩ := SO1.go (K := K) et
    refine ⟨go, fun σV3 H3 => ∃ w3 σ3 s3, Good G w₀ H₀ w3 H3 σ3 s3 σV3 ∧ SrcOk G w3 H3 z src ts ∧ zaca σ3 σV3 src ∧ WantS G X w₀ H₀ w3 H3 σ3 σV3 (forL g (fun σ s => exs C b' σ s) (ts.drop (i + 1)) σ3 s3) D, fun σV3 H3 ⟨w3, σ3, s3, q1, q2, q3, q4⟩ => ⟨ts.length - (i + 1), by omega, w3, σ3, s3, rfl, hlt, q1, q2, q3, q4⟩, fun x H' hy => ?_⟩
    have rx := (yld x H' hy).2
    obtain rfl : H1 = H' := (yld x H' hy).1.symm
    refine ⟨w1, s1, ts[i], σ1, σ2, g1.sto, rx, hb, fun vs hfr hl => ?_⟩
    have g2 : Good G w₀ H₀ w1 H1 σ2 s1 (setsV σV1 (slots g) vs) := ⟨g1.sto, hfr H₀ σV1 g1.fr, g1.ent⟩
    have l2 : LeS w1 w1 H1 H1 σ1 σ2 σV1 (setsV σV1 (slots g) vs) := by
      cases g with
      | one k =>
        cases hb
        match vs, hl with
        | [v], _ => exact LeS.put
      | many ks =>
        have hb' : ∃ us, puts σ1 ks us = some σ2 := by
          match hts : ts[i], hb with
          | .tup us, hb => exact ⟨us, hb⟩
          | .lst us, hb => exact ⟨us, hb⟩
          | .non, hb => cases hb
          | .bl _, hb => cases hb
          | .int _, hb => cases hb
          | .str _, hb => cases hb
          | .loc _, hb => cases hb
          | .exc _, hb => cases hb
        obtain ⟨us, hb⟩ := hb'
        have go : ∀ (ks : List Nat) (us : List T) (vs : List V) (σ1 : Fr) (σV1 : St), puts σ1 ks us = some σ2 → vs.length = ks.length → LeS w1 w1 H1 H1 σ1 σ2 σV1 (setsV σV1 ks vs) := by
          intro ks
          induction ks with
          | nil =>
            intro us vs σ1 σV1 hp hl
            cases us with
            | nil => cases hp; cases vs <;> exact LeS.refl
            | cons u us => cases hp
          | cons k ks ih =>
            intro us vs σ1 σV1 hp hl
            cases us with
            | nil => cases hp
            | cons u us =>
              cases vs with
              | nil => simp at hl
              | cons v vs => exact LeS.trans (LeS.put (v := v)) (ih us vs (put σ1 k u) (σV1.set k (some v)) hp (by simpa using hl))
        exact go ks us vs σ1 σV1 hb hl
    obtain ⟨SO2, SF2⟩ := SO1.monoS l2 g1.sto g1.fr SF1
    refine ⟨w₀, H₀, w1, σ2, s1, g2, ?_⟩
    cases hx : exs C b' σ2 s1 with
    | stuck => rw [hx] at h1; exact h1
    | ret r s3 => rw [hx] at h1; exact h1
    | retO ts s3 => rw [hx] at h1; exact h1
    | exc d σ3 s3 => rw [hx] at h1; exact fun w3 H3 σV3 pins u sh g3 L3 T => h1 w3 H3 σV3 pins u sh g3 (l2.trans L3) T
    | next σ3 s3 =>
      rw [hx] at h1
      intro w3 H3 σV3 g3 L3
      obtain ⟨SO3, SF3⟩ := SO2.monoS L3 g2.sto g2.fr SF2
      exact ⟨w3, σ3, s3, g3, SO3, SF3, WantS.mono (l2.trans L3) h1⟩
  · have ei : i = ts.length := by omega
    subst ei
    rw [List.drop_length] at h1
    exact .inl ⟨SO1.stop, h1 w1 H1 σV1 g1 LeS.refl⟩
theorem zabu {i j : Nat} {b : B} (h : (lock σ i)[j]? = some (some b)) : (σ[j]? = some (some b) ∧ (i = j → ∀ ts, b ≠ .own ts)) ∨ (i = j ∧ ∃ ts, b = .lck ts ∧ σ[i]? = some (some (.own ts))) := by
  unfold lock at h
  split at h
  · rename_i ts e
    rcases zaaj h with ⟨rfl, z, _⟩ | ⟨ne, z⟩
    · exact .inr ⟨rfl, ts, by cases z; rfl, e⟩
    · exact .inl ⟨z, fun q => absurd q ne⟩
  · rename_i hn
    refine .inl ⟨h, fun q ts z => ?_⟩
    subst q z
    exact hn ts h
theorem zabd {i j : Nat} {b : B} (h : (unlock σ i)[j]? = some (some b)) : σ[j]? = some (some b) ∨ (i = j ∧ ∃ ts, b = .own ts ∧ σ[i]? = some (some (.lck ts))) := by
  unfold unlock at h
  split at h
  · rename_i ts e
    rcases zaaj h with ⟨rfl, z, _⟩ | ⟨ne, z⟩
    · exact .inr ⟨rfl, ts, by cases z; rfl, e⟩
    · exact .inl z
  · exact .inl h
theorem lock_len (σ : Fr) (i : Nat) : (lock σ i).length = σ.length := by unfold lock; split <;> simp
theorem zadv (σ : Fr) (i : Nat) : (unlock σ i).length = σ.length := by unfold unlock; split <;> simp
theorem FrOk.relock (F : FrOk G w H H₀ σ σV) (hl : σ'.length = σ.length) (hr : ∀ (j : Nat) (b : B), σ'[j]? = some (some b) → σ[j]? = some (some b) ∨ ∃ b' ts, σ[j]? = some (some b') ∧ ownL b = some ts ∧ ownL b' = some ts) : FrOk G w H H₀ σ' σV where
  len := hl.trans F.len
  val := fun j t e => by
    rcases hr j _ e with z | ⟨b', ts, _, z, _⟩
    · exact F.val j t z
    · cases z
  own := fun j b ts e eb => by
    rcases hr j _ e with z | ⟨b', us, z1, z2, z3⟩
    · exact F.own j b ts z eb
    · rw [eb] at z2
      cases z2
      exact F.own j b' ts z1 z3
  apart := fun j k b c ts us a hjk e1 eb e2 ec e3 e4 => by
    have old : ∀ {j : Nat} {b : B} {ts : List T}, σ'[j]? = some (some b) → ownL b = some ts → ∃ b', σ[j]? = some (some b') ∧ ownL b' = some ts := fun {j b ts} e eb => by
      rcases hr j _ e with z | ⟨b', us, z1, z2, z3⟩
      · exact ⟨b, z, eb⟩
      · rw [eb] at z2
        cases z2
        exact ⟨b', z1, z3⟩
    obtain ⟨b', y1, y2⟩ := old e1 eb
    obtain ⟨c', y3, y4⟩ := old e2 ec
    exact F.apart j k b' c' ts us a hjk y1 y2 y3 y4 e3 e4
  bor := fun j ts e => by
    rcases hr j _ e with z | ⟨b', us, _, z, _⟩
    · exact F.bor j ts z
    · cases z
theorem Good.lock {s : Sto} (g : Good G w₀ H₀ w H σ s σV) (i : Nat) : Good G w₀ H₀ w H (lock σ i) s σV := ⟨g.sto, g.fr.relock (lock_len σ i) fun j b e => by
  rcases zabu e with ⟨z, _⟩ | ⟨rfl, ts, rfl, z⟩
  · exact .inl z
  · exact .inr ⟨_, ts, z, rfl, rfl⟩, g.ent⟩
theorem Good.unlock {s : Sto} (g : Good G w₀ H₀ w H σ s σV) (i : Nat) : Good G w₀ H₀ w H (unlock σ i) s σV := ⟨g.sto, g.fr.relock (zadv σ i) fun j b e => by
  rcases zabd e with z | ⟨rfl, ts, rfl, z⟩
  · exact .inl z
  · exact .inr ⟨_, ts, z, rfl, rfl⟩, g.ent⟩
theorem LeS.unlock {i : Nat} (hi : isOwn σ i = true) (L : LeS w w' H H' (lock σ i) σ' σV σV') : LeS w w' H H' σ (unlock σ' i) σV σV' where
  n := L.n
  io := L.io
  Z := L.Z
  keep := fun a o e nl no => L.keep a o e nl fun ⟨j, ts, e1, e2⟩ => by
    rcases zabu e1 with ⟨z, _⟩ | ⟨_, us, z, _⟩
    · exact no ⟨j, ts, z, e2⟩
    · cases z
  newL := L.newL
  some_ := L.some_
  own := fun a ⟨j, ts, e1, e2⟩ => by
    rcases zabd e1 with z | ⟨rfl, us, z1, z2⟩
    · rcases L.own a ⟨j, ts, z, e2⟩ with ⟨k, us, y1, y2⟩ | y
      · rcases zabu y1 with ⟨z, _⟩ | ⟨_, vs, z, _⟩
        · exact .inl ⟨k, us, z, y2⟩
        · cases z
      · exact .inr y
    · obtain ⟨⟨vs, y1⟩, y2⟩ := L.lk i us z2
      unfold isOwn at hi
      split at hi
      · rename_i xs ex
        rw [e2] at y2
        exact .inl ⟨i, xs, ex, y2.symm⟩
      · cases hi
  lk := fun j ts e => by
    rcases zabd e with z | ⟨_, us, z, _⟩
    · obtain ⟨⟨us, y1⟩, y2⟩ := L.lk j ts z
      rcases zabu y1 with ⟨y, _⟩ | ⟨rfl, vs, _, y⟩
      · exact ⟨⟨us, y⟩, y2⟩
      · exfalso
        unfold IP.unlock at e
        split at e
        · rename_i q
          rcases zaaj e with ⟨_, q2, _⟩ | ⟨ne, _⟩
          · cases q2
          · exact ne rfl
        · rename_i q
          exact q ts e
    · cases z
theorem WantS.unlock {i : Nat} {r : SR} {D : Ends} (hi : isOwn σ i = true) (h : WantS G X w₀ H₀ w H σ σV (r.unlock i) D) : WantS G X w₀ H₀ w H (lock σ i) σV r D := by
  cases r with
  | stuck => exact h
  | ret r s => exact h
  | retO ts s => exact h
  | next σ1 s1 => exact fun w' H' σV' g L => h w' H' σV' (g.unlock i) (L.unlock hi)
  | exc c σ1 s1 => exact fun w' H' σV' pins u sh g L T => h w' H' σV' pins u sh (g.unlock i) (L.unlock hi) T
theorem lst_of {x : R} {ts : List T} (h : x.lst? = some ts) : x = .val (.lst ts) := by
  match x, h with
  | .val (.lst us), h => cases h; rfl
theorem sS_for {tg iter : Expr} {it' : E} {g : Tg} {b : List Stmt} {b' : List S} (hp : PassesOwn (model X.prog X.w) X.A X.env X.xe) (hc : X.calm = true) (hI : PI X tg iter (tI G X C it' .j true)) (hg : PG X tg (gTg G g)) (hb : PSs X b (tSs G X C b'))
    (hs : ∀ x, foldedSetIterable iter X.env x = pure x) (hit : ∀ i, it' ≠ .var i) : PS X (.For tg iter b [] pos) (tS G X C (.for_ g it' b')) := by
  refine PS.imp (ps_for hp hc hI hg hb hs) ?_
  rintro D σV H ⟨w₀, H₀, w, σ, s, gd, h⟩
  have h : WantS G X w₀ H₀ w H σ σV ((ev C it' .j σ s).st σ fun x s1 => onS x.lst? fun ts => forL g (fun σ s => exs C b' σ s) ts σ s1) D := by
    cases it' <;> first | exact h | exact absurd rfl (hit _)
  refine ⟨w₀, H₀, w, σ, s, gd, ?_⟩
  cases he : ev C it' .j σ s with
  | stuck => rw [he] at h; exact h.elim
  | exc c s1 => rw [he] at h; exact fun w1 H1 pins u sh L S T => h w1 H1 σV pins u sh (gd.step L S) (LeS.of L) T
  | ok x s1 =>
    rw [he] at h
    obtain ⟨ts, ht, h⟩ := onS_w (show WantS G X w₀ H₀ w H σ σV (onS x.lst? fun ts => forL g (fun σ s => exs C b' σ s) ts σ s1) D from h)
    cases lst_of ht
    intro w1 H1 src L S SO
    have g1 := gd.step L S
    refine for_loop (X := X) (tg := tg) (b := b) (z := true) (K := X.K) g1 SO ?_ (WantS.mono (LeS.of L) h)
    cases src with
    | l a vs => exact g1.fr.notOwnZ (SO.2.2.2 rfl)
    | t a vs => exact True.intro
    | r lo n => exact True.intro
end
end IP
end
section
set_option Elab.async false
set_option linter.all false
set_option maxRecDepth 100000
namespace IP
open PySem PySem.Spec L2
open PyProof.Rows (subscriptTail)
section
variable {G : Gx} {X : Cx} {C : Cf} {w w' w₀ : Wo} {H H' H₀ : Hp} {σ σ' : Fr} {σV σV' : St} {a b e : Expr} {a' b' e' : E} {pos p p2 : Pos} {Q : VK} {i : Nat} {x : Str}
theorem WantO.mono {res : Res R} {w1 : Wo} {H1 : Hp} (L : Le w w1 H H1) (h : WantO G X σV w H res Q) : WantO G X σV w1 H1 res Q := by
  match res, h with
  | .stuck, h => exact h
  | .exc c s, h => exact fun w' H' pins u sh a b => h w' H' pins u sh (L.trans a) b
  | .ok (.val (.lst ts)) s, h =>
    intro w' H' a vs L' S ha r hn nz nl
    refine h w' H' a vs (L.trans L') S ha r ?_ nz nl
    cases q : H a with
    | none => rfl
    | some o => exact absurd hn (L.some_ a (by rw [q]; intro z; cases z))
  | .ok (.val .non) s, h => exact h
  | .ok (.val (.bl _)) s, h => exact h
  | .ok (.val (.int _)) s, h => exact h
  | .ok (.val (.str _)) s, h => exact h
  | .ok (.val (.tup _)) s, h => exact h
  | .ok (.val (.loc _)) s, h => exact h
  | .ok (.val (.exc _)) s, h => exact h
  | .ok (.bor _) s, h => exact h
theorem WantO.bind {m : Res R} {k : R → Sto → Res R} (h : WantO G X σV w H (m.bind k) Q) :
    Want G X σV w H m fun v H1 => ∃ w1 r s1, Le w w1 H H1 ∧ StoOk G w1 H1 s1 ∧ RepR G w1 H1 r v ∧ WantO G X σV w1 H1 (k r s1) Q := by
  cases m with
  | stuck => exact h
  | ok r s => exact fun w' H' v a b c => ⟨w', r, s, a, b, c, WantO.mono a h⟩
  | exc c s => exact h
theorem WantO.of {o : Option R} {s : Sto} (h : WantO G X σV w H (Res.of o s) Q) : ∃ ts, o = some (.val (.lst ts)) ∧ ∀ w' H' a vs, Le w w' H H' → StoOk G w' H' s → H' a = some (.lst vs) → Reps G w' H' ts vs → H a = none → ¬ w'.Z a → notLoc w' a → Q (.ref a) H' := by
  match o, h with
  | none, h => exact h.elim
  | some (.val (.lst ts)), h => exact ⟨ts, rfl, h⟩
  | some (.val .non), h => exact h.elim
  | some (.val (.bl _)), h => exact h.elim
  | some (.val (.int _)), h => exact h.elim
  | some (.val (.str _)), h => exact h.elim
  | some (.val (.tup _)), h => exact h.elim
  | some (.val (.loc _)), h => exact h.elim
  | some (.val (.exc _)), h => exact h.elim
  | some (.bor _), h => exact h.elim
theorem sV_of (hE : PE X e (tO G X C e')) (hfr : ∀ σ s r s1, ev C e' .v σ s = .ok r s1 → ∃ ts, r = .val (.lst ts)) : PE X e (tV G X C e') :=
  PE.imp hE fun σV H Q ⟨w₀, H₀, w, σ, s, g, h⟩ => ⟨w₀, H₀, w, σ, s, g, want_o (hfr σ s) h⟩
theorem sO_lst {es : List Expr} {es' : List E} (h : PA X es (tA G X C es')) (hz : es'.length ≤ sizeLine) : PE X (.List es pos) (tO G X C (.lst es')) := by
  refine PE.imp (pe_lst h) ?_
  rintro σV H Q ⟨w₀, H₀, w, σ, s, g, h⟩
  have h : WantO G X σV w H ((evs C es' σ s).bind fun ts s1 => .ok (.val (.lst ts)) s1) Q := h
  refine ⟨w₀, H₀, w, σ, s, g, ?_⟩
  cases hf : evs C es' σ s with
  | stuck => rw [hf] at h; exact h
  | exc c s2 => rw [hf] at h; exact h
  | ok ts s2 =>
    rw [hf] at h
    intro w2 H2 vs L2 S2 R2
    refine ⟨by rw [← R2.length, zadc C _ _ _ _ _ hf]; exact hz, ?_⟩
    exact fin_own S2 R2 (WantO.mono L2 h)
theorem sO_rev {k1 : Nat} {pu pn ps : Pos} (ha : PE X a (tV G X C a')) : PE X (.Subscript a (.Slice none none (some (.UnaryOp .USub (.Constant (.int 1) k1 pn) pu)) ps) pos) (tO G X C (.rev a')) := by
  intro pins s σV H Q I h
  obtain ⟨w₀, H₀, w, σ, st, g, h⟩ := h
  have h : WantO G X σV w H ((ev C a' .v σ st).bind fun x s1 => .of (x.seq.map fun ts => .val (.lst ts.reverse)) s1) Q := h
  refine PyProof.Rows.Subscript_ (thn (ha pins s σV H _ I ⟨w₀, H₀, w, σ, st, g, WantO.bind h⟩) fun v s1 ⟨x, H1, I1, r1, q1⟩ => ?_)
  obtain ⟨w1, rr, st1, L1, S1, R1, h1⟩ := q1
  obtain ⟨ts, e, q⟩ := WantO.of h1
  obtain ⟨us, hs, er⟩ := map_some e
  cases er
  obtain ⟨pa, vs, rfl, hp, rp⟩ := RepR.seq (s := st1) R1 hs
  cases r1
  have hneg : PE X (.UnaryOp .USub (.Constant (.int 1) k1 pn) pu) (tV G X C (.neg (.cst (.int 1)))) := sV_neg sV_int
  refine wpAny_Slice (thn (zadh pins s1 σV H1 (fun o H2 => o = none ∧ H2 = H1) I1 ⟨rfl, rfl⟩) fun vl s2 ⟨l, H2, I2, pl, e2, e2'⟩ => thn (zadh pins s2 σV H2 (fun o H3 => o = none ∧ H3 = H1) I2 ⟨rfl, e2'⟩) fun vu s3 ⟨u, H3, I3, pu, e3, e3'⟩ => ?_)
  subst e2' e3' e2 e3
  refine thn (zadz hneg pins s3 σV H3 (fun o H4 => o = some (-1) ∧ ∃ w4, Le w1 w4 H3 H4 ∧ StoOk G w4 H4 st1) I3 ⟨w₀, H₀, w1, σ, st1, g.step L1 S1, fun w4 H4 v L4 S4 R4 => ⟨-1, R4, rfl, w4, L4, S4⟩⟩) fun vk s4 ⟨o, H4, I4, pk, e4, w4, L4, S4⟩ => ?_
  subst e4
  cases pl
  cases pu
  have nl : Rd H3 pa (.lst vs) := hp
  have R4 : RepR G w4 H4 rr (.ref pa) := R1.mono L4 S1
  obtain ⟨pa', vs', ee, hp', rp'⟩ := RepR.seq (s := st1) R4 hs
  cases ee
  have I5 : Inv X pins σV H4 { s4 with heap := s4.heap.push { cls := .type "slice", data := .fields #[.none, .none, vk] } } := I4.kept (t' := s4.toks) fun b ob q => Heap.get?_push_of_some _ q
  obtain ⟨z, its, n, q1, l1, g1⟩ := Rd.lst I5 hp'
  show wpAny (model X.prog X.w) X.A (subscriptTail a (.Slice none none (some (.UnaryOp .USub (.Constant (.int 1) k1 pn) pu)) ps) (.ref pa) (.ref s4.heap.objs.size)) (EP X pins σV Q) X.xe { s4 with heap := s4.heap.push { cls := .type "slice", data := .fields #[.none, .none, vk] } }
  have il : ({ s4 with heap := s4.heap.push { cls := .type "slice", data := .fields #[.none, .none, vk] } } : Shared).heap.IsList pa its.toArray := ⟨_, g1, rfl, _, rfl⟩
  refine PyProof.Rows.tail_any (ops := [.ref pa, .ref s4.heap.objs.size]) il.typeIs slot_list_getitem.lookup ?_ (by with_unfolding_all rfl)
  refine wpAny_getItem_list_slice il (Heap.IsSliceOf.new ..) .none .none pk (by simp) ?_ (by rw [List.size_toArray, ← l1]; exact z)
  rw [PySem.W.krv_pick]
  refine ⟨.ref _, _, I5.lnew (t' := s4.toks) (ys := vs'.reverse) (its := its.reverse) ?_ (by rw [List.length_reverse]; exact z), rfl, ?_⟩
  · exact q1.reverse
  · exact fin_own S4 rp'.reverse (fun w' H' a vs L S ha r hn => q w' H' a vs (L4.trans L) S ha r (by
      cases qq : H3 a with
      | none => rfl
      | some o => exact absurd hn (L4.some_ a (by rw [qq]; intro z; cases z)))) _ I5.fresh
end
end IP
end
section
set_option Elab.async false
set_option linter.all false
set_option maxRecDepth 100000
namespace IP
open PySem PySem.Spec L2
section
variable {G : Gx} {X : Cx} {C : Cf} {w w' w₀ : Wo} {H H' H₀ : Hp} {σ σ' : Fr} {σV σV' : St} {a b e : Expr} {a' b' e' : IP.E} {pos p p2 : Pos} {Q : VK} {i : Nat} {x : Str}
def spG (G : Gx) (cf : Nat → List R → Sto → Res R) (fr : Nat → Bool) (f : Nat) : Sp := fun vs H Q E => ∃ w s rs, StoOk G w H s ∧ RepRs G w H rs vs ∧ match cf f rs s with
  | .stuck => False
  | .ok r s' => (fr f = false → ∀ w' H' v, Le w w' H H' → StoOk G w' H' s' → RepR G w' H' r v → Q v H') ∧
      (fr f = true → ∃ ts, r = .val (.lst ts) ∧ ∀ w' H' a vs, Le w w' H H' → StoOk G w' H' s' → H' a = some (.lst vs) → Reps G w' H' ts vs → H a = none → ¬ w'.Z a → notLoc w' a → Q (.ref a) H')
  | .exc c s' => ∀ w' H', Le w w' H H' → StoOk G w' H' s' → E (.ref (G.cA c)) none H'
variable {k fi : Nat} {fa : Addr} {fd : FuncData} {ps : List Str} {e₀ : Expr} {es : List Expr} {es' : List IP.E} {rs : List R} {vs : List V}
end
section
variable {fs : List Fn} {sub : Nat → Nat → Bool} {k fi : Nat}
variable {G : Gx} {P : Program} {w : World} {K : PySem.W.Frag} {mg : Str → Option Value} {base : Heap}
theorem zaa6 {F : Fn} {rs : List R} {i : Nat} {b : B} (h : (enter F rs)[i]? = some (some b)) : ∃ r, rs[i]? = some r ∧ ofR r = b := by
  unfold enter at h
  by_cases hi : i < rs.length
  · rw [List.getElem?_append_left (by simpa using hi), List.getElem?_map] at h
    cases q : rs[i]? with
    | none => rw [q] at h; cases h
    | some r => rw [q] at h; cases h; exact ⟨r, rfl, rfl⟩
  · rw [List.getElem?_append_right (by simpa using hi), List.getElem?_replicate] at h
    split at h <;> cases h
theorem RepRs.get {wo : Wo} {H : Hp} : ∀ {rs : List R} {vs : List V} {i : Nat} {r : R}, RepRs G wo H rs vs → rs[i]? = some r → ∃ v, vs[i]? = some v ∧ RepR G wo H r v
  | [], _, i, t, h, e => by simp at e
  | t :: ts, _, 0, u, ⟨v, r, e, h, q⟩, z => by subst e; simp at z; subst z; exact ⟨v, rfl, h⟩
  | t :: ts, _, i + 1, u, ⟨v, r, e, h, q⟩, z => by
    subst e
    obtain ⟨x, h1, h2⟩ := RepRs.get q (i := i) (r := u) (by simpa using z)
    exact ⟨x, by simpa using h1, h2⟩
theorem zac8 {N : List Str} {vs : List V} {i : Nat} {v : V} (h : vs[i]? = some v) : (L2.start N vs)[i]? = some (some v) := by
  unfold L2.start
  have hi := (List.getElem?_eq_some_iff.mp h).1
  rw [List.getElem?_append_left (by simpa using hi), List.getElem?_map, h]
  rfl
theorem zae7 {wo : Wo} {H : Hp} {s : Sto} {F : Fn} {rs : List R} {vs : List V} {N : List Str} (S : StoOk G wo H s) (R1 : RepRs G wo H rs vs) (hs : F.size = N.length) : Good G wo H wo H (enter F rs) s (L2.start N vs) := by
  refine ⟨S, ⟨?_, fun i t e => ?_, fun i b ts e eb => ?_, fun i j b c ts us a ne e eb => ?_, fun i ts e => ?_⟩, Le.refl _ _⟩
  · unfold enter L2.start
    rw [List.length_append, List.length_append, List.length_map, List.length_map, List.length_replicate, List.length_replicate, hs, R1.length]
  · obtain ⟨r, hr, q⟩ := zaa6 e
    obtain ⟨v, hv, rv⟩ := R1.get hr
    cases r with
    | val u => cases q; exact ⟨v, zac8 hv, rv⟩
    | bor u => cases q
  · obtain ⟨r, hr, q⟩ := zaa6 e
    cases r <;> subst q <;> cases eb
  · obtain ⟨r, hr, q⟩ := zaa6 e
    cases r <;> subst q <;> cases eb
  · obtain ⟨r, hr, q⟩ := zaa6 e
    obtain ⟨v, hv, rv⟩ := R1.get hr
    cases r with
    | val u => cases q
    | bor u =>
      cases q
      obtain ⟨a, xs, e1, e2, e3, e4⟩ := rv
      subst e1
      exact ⟨a, xs, zac8 hv, e2, e3, (by rw [e2]; intro z; cases z), e4⟩
end
end IP
end
section
set_option Elab.async false
set_option linter.all false
set_option maxRecDepth 100000
namespace IP
open PySem PySem.Spec L2
theorem zaap {h : Heap} {as : List Addr} {b : Addr} {o : Obj} : (PySem.W.hideAll h as).get? b = some o ↔ h.get? b = some o ∧ b ∉ as := by
  refine ⟨fun e => ⟨PySem.W.of_hideAll as e, fun z => ?_⟩, fun ⟨e, n⟩ => PySem.W.hideAll_get as e n⟩
  rw [PySem.W.hideAll_none as z] at e
  cases e
section
variable {G : Gx} {X : Cx} {pins : List (Addr × Obj)} {σV : St} {H : Hp} {c : Nat} {u : Value} {sh : Shared}
theorem zaep {s : Shared} (I : Inv X pins σV H s) : X.base.StaysIn (PySem.W.hideAll s.heap (frs X.stack)) := fun b o e =>
  zaap.mpr ⟨I.bk b o e, fun z => by have := (I.stack.mem z).1; rw [e] at this; cases this⟩
theorem zads {s : Shared} (I : Inv X pins σV H s) {h' : Heap} {e : Addr} {args : List Value} (hm : Heap.MadeExcOf s.heap h' e (.ref (G.cA c)) args) : Thrown G X pins σV H c (.ref e) { s with heap := h' } :=
  ⟨e, s.heap, PySem.W.hideAll s.heap (frs X.stack), rfl, I, ⟨fun _ _ => zaap, fun b o q _ => hm.keeps b o q, fun b o q _ => ⟨o.slots, hm.keeps b o q⟩, hm.new⟩, zaep I, .inl ⟨args, hm⟩⟩
theorem fun_cov {base h B : Heap} {as : List Addr} (hc : ∀ b o, B.get? b = some o → b ∉ as) : ∀ {l : List Env}, h.FunFrames base l → (∀ b ∈ frs l, b ∈ as) → h.FunFrames B l
  | [], _, _ => trivial
  | env :: l, ⟨hk, ⟨L, o, hf, _, ho, hd⟩, hr⟩, hin => by
    have hL : L ∈ as := hin L (by unfold frs; rw [List.filterMap_cons, hf]; exact List.mem_cons_self)
    refine ⟨hk, ⟨L, o, hf, ?_, ho, hd⟩, fun_cov hc hr fun b hb => hin b ?_⟩
    · cases q : B.get? L with
      | none => rfl
      | some z => exact absurd hL (hc L z q)
    · unfold frs
      rw [List.filterMap_cons, hf]
      exact List.mem_cons_of_mem _ hb
theorem Flt.next {stack : List Env} {base h B h1 h2 : Heap} {e : Addr} (F : Flt stack h B e h1) (hf : h.FunFrames base stack) (st : B.StaysIn h2) (sm : h1.UpToSlots h2) : Flt stack h B e h2 where
  cov := F.cov
  keep := fun b o q n => st b o ((F.cov b o).mpr ⟨q, n⟩)
  slot := fun b o q n => by
    obtain ⟨sl, e1⟩ := F.slot b o q n
    obtain ⟨_, o', ho', hd⟩ := hf.mem n
    rw [q] at ho'
    cases ho'
    obtain ⟨sl', e2⟩ := sm b _ e1 hd
    exact ⟨sl', e2⟩
  new := F.new
theorem note_made {M : Model} {A : Around} {E : Value → Shared → Prop} {s : Shared} {B h : Heap} {env : Env} {outer : List Env} {L e : Addr} {cls : Value} {args : List Value} {Q : Unit → Shared → Prop}
    (hfr : A.frames = some (env :: outer)) (hf : env.frame = some L) (hkb : B.StaysIn h) (hl : h.FunFrames B (env :: outer)) (hx : Heap.MadeExcOf h s.heap e cls args)
    (hQ : ∀ h' t, Heap.HeldW B (env :: outer) e cls t L h' → s.heap.UpToSlots h' → Q () { s with heap := h' }) : wpAny M A (noteFrame (.ref e) env) Q E s := by
  obtain ⟨t, he, htn, ht⟩ := hx.there
  have hen : B.get? e = none := by
    cases hq : B.get? e with
    | none => rfl
    | some o' => have := hkb e o' hq; rw [hx.new] at this; cases this
  unfold noteFrame
  simp only [hf]
  refine wpAny_bind (wpAny_field (x := .none) he rfl rfl ?_)
  rw [if_neg (by decide)]
  refine wpAny_entryW (a0 := .ref t) hfr (hl.of_keeps fun b o hb _ => ⟨o, hx.keeps b o hb, rfl⟩) hf he (fun b o hb => hx.keeps b o (hkb b o hb)) hen rfl (by simp) rfl fun h' hN => ?_
  obtain ⟨k1, k2, k3, k4⟩ := hN
  exact hQ h' (.ref t) ⟨k1, hen, k2, k3⟩ k4
theorem zaco {E E' : Value → Shared → Prop} {Q : Unit → Shared → Prop} (hst : X.stack = X.env :: X.outer ∧ X.env.frame = some X.env.locals) (T : Thrown G X pins σV H c u sh)
    (hQ : ∀ e h B h' t, u = .ref e → Inv X pins σV H { sh with heap := h } → Flt X.stack h B e h' → X.base.StaysIn B → Heap.FlyingW B X.stack e (.ref (G.cA c)) t h' → Q () { sh with heap := h' }) :
    wpAny (model X.prog X.w) X.A (noteFrame u X.env) (fun _ s2 => wpAny (model X.prog X.w) X.A (setFlight u none) Q E s2) E' sh := by
  obtain ⟨e, h, B, rfl, I, F, sb, T⟩ := T
  have hff : h.FunFrames X.base X.stack := I.stack
  have hfr : X.A.frames = some (X.env :: X.outer) := by rw [I.ok.frames, hst.1]
  have fB : h.FunFrames B X.stack := fun_cov (fun b o q => ((F.cov b o).mp q).2) hff fun _ z => z
  have land : ∀ (h1 : Heap) (t : Value), Heap.HeldW B X.stack e (.ref (G.cA c)) t X.env.locals h1 → sh.heap.UpToSlots h1 → wpAny (model X.prog X.w) X.A (setFlight (.ref e) none) Q E { sh with heap := h1 } := fun h1 t hh sm => by
    refine wpAny_landsW (s := { sh with heap := h1 }) hh fun h2 hfl sm2 => ?_
    exact hQ e h B h2 t rfl I (F.next hff hfl.1 (sm.trans sm2)) sb hfl
  rcases T with ⟨args, hm⟩ | ⟨t, hf⟩ | ⟨t, L, hL, hh⟩
  · rw [hst.1] at fB
    refine note_made hfr hst.2 (fun b o q => ((F.cov b o).mp q).1) fB hm fun h1 t hh sm => ?_
    rw [← hst.1] at hh
    exact land h1 t hh sm
  · rw [hst.1] at hf
    refine wpAny_looks_onW hfr hst.2 hf fun h1 hh sm => ?_
    rw [← hst.1] at hh
    exact land h1 t hh sm
  · have eL : L = X.env.locals := Option.some.inj (hL.symm.trans hst.2)
    subst eL
    exact wpAny_noteFrame_againW hst.2 hh.2.2.2 (land sh.heap t hh (.refl _))
theorem zaef {M : Model} {A : Around} {E : Value → Shared → Prop} {s : Shared} {env : Env} {u : Value} {Q : Unit → Shared → Prop} (h : wpAny M A (noteFrame u env) (fun _ s2 => wpAny M A (setFlight u none) Q E s2) E s) : wpAny M A (leaving env u) Q E s := by
  unfold leaving
  exact wpAny_bind h
end
end IP
end
section
set_option Elab.async false
set_option linter.all false
set_option maxRecDepth 100000
namespace IP
open PySem PySem.Spec L2
section
variable {G : Gx} {X : Cx} {C : Cf} {pins : List (Addr × Obj)} {σV : St} {H : Hp} {c : Nat} {u : Value} {sh : Shared}
theorem hok_hide {P : Program} {w : World} {h : Heap} {L : Addr} (k : HOk P w H h) (n : H L = none) : HOk P w H (PySem.W.hideAll h [L]) := fun a o q => by
  refine (k a o q).stay (fun b v hb r => zaap.mpr ⟨r, fun z => ?_⟩) (fun _ r => r) fun _ _ r => r
  have z : b = L := by simpa using z
  subst z
  rcases hb with rfl | hb
  · rw [n] at q; cases q
  · rw [n] at hb; cases hb
theorem zae6 {P : Program} {w : World} {K : PySem.W.Frag} {mg : Str → Option Value} {base : Heap} {N : List Str} {qual : Str} {scope : Scope} {f : Addr} {cd : Value} {A : Around} {outer : List Env} {s : Shared} {H₁ : Hp} {E : XK}
    (T : Thrown G (cxOf (CXE G P w base) P w K mg base N qual scope f cd A outer s H₁ E) pins σV H c u sh) (hE : E (.ref (G.cA c)) none H) : (cxOf (CXE G P w base) P w K mg base N qual scope f cd A outer s H₁ E).xe u sh := by
  refine zaef (zaco (X := cxOf (CXE G P w base) P w K mg base N qual scope f cd A outer s H₁ E) ⟨rfl, rfl⟩ T fun e h B h' t eu I F sb fly => ?_)
  have hL : H s.heap.objs.size = none := I.free
  have un := I.base
  obtain ⟨f1, f2, ⟨_, _, f3⟩, f4⟩ := fly
  have hne : ∀ b, b < s.heap.objs.size → b ∉ [s.heap.objs.size] := fun b hb z => by
    have : b = s.heap.objs.size := by simpa using z
    omega
  refine ⟨e, _, t, H, PySem.W.hideAll h [s.heap.objs.size], B, eu, I.os, I.bare, ⟨fun b o q n hb hx => ?_, fun b o q n hb hx => ?_, un.free, fun b o q hx => ?_, un.tups, un.frzs, un.tbls⟩, hok_hide I.hok hL, ⟨fun b o => ?_, fun b o q n => ?_, fun b o q n => ?_, ?_⟩, sb, ⟨f1, f2, f3, f4⟩, hE⟩
  · exact zaap.mpr ⟨un.keep b o q n hb hx, hne b (Heap.lt_size q)⟩
  · obtain ⟨sl, z⟩ := un.slot b o q n hb hx
    exact ⟨sl, zaap.mpr ⟨z, hne b (Heap.lt_size q)⟩⟩
  · obtain ⟨o', z⟩ := un.there b o q hx
    exact ⟨o', zaap.mpr ⟨z, hne b (Heap.lt_size q)⟩⟩
  · rw [F.cov b o, zaap]
    have efs : b ∈ frs (cxOf (CXE G P w base) P w K mg base N qual scope f cd A outer s H₁ E).stack ↔ b ∈ [s.heap.objs.size] ∨ b ∈ frs outer := by
      show b ∈ s.heap.objs.size :: frs outer ↔ _
      simp
    rw [efs]
    exact ⟨fun ⟨a, z⟩ => ⟨⟨a, fun y => z (.inl y)⟩, fun y => z (.inr y)⟩, fun ⟨⟨a, y⟩, z⟩ => ⟨a, fun y' => y'.elim y z⟩⟩
  · obtain ⟨a, y⟩ := zaap.mp q
    refine F.keep b o a fun z => ?_
    rcases List.mem_cons.mp (show b ∈ s.heap.objs.size :: frs outer from z) with r | r
    · exact y (by simp [r])
    · exact n r
  · obtain ⟨a, y⟩ := zaap.mp q
    exact F.slot b o a (List.mem_cons_of_mem _ n)
  · cases q : (PySem.W.hideAll h [s.heap.objs.size]).get? e with
    | none => rfl
    | some o => have := (zaap.mp q).1; rw [F.new] at this; cases this
theorem passes_leave {Q : Value → Unit → Shared → Prop} {E₁ : Value → Value → Shared → Prop} (hx : X.xe = fun e s => wpAny (model X.prog X.w) X.A (leaving X.env e) (Q e) (E₁ e) s) : PassesOwn (model X.prog X.w) X.A X.env X.xe := by
  intro e s' h
  rw [hx] at h
  have h2 := wpAny_leaving_again (A' := X.A) (A'' := X.A) (SameStack.refl X.A) (what := "frame.own-activation:exception-without-traceback") (E₂ := X.xe) (E₃ := cameBackBy (model X.prog X.w) X.A X.env X.xe) h
  refine wpAny_mono h2 (fun _ s1 q => ?_) fun _ _ z => z
  refine wpAny_mono q (fun _ s2 z => ?_) fun _ _ z => z
  show X.xe e s2
  rw [hx]
  exact z
end
end IP
end
section
set_option Elab.async false
set_option linter.all false
set_option maxRecDepth 100000
namespace IP
open PySem PySem.Spec L2
section
variable {G : Gx} {X : Cx} {C : Cf} {w w' w₀ : Wo} {H H' H₀ : Hp} {σ σ' : Fr} {σV σV' : St} {a b e : Expr} {a' b' e' : IP.E} {pos p p2 : Pos} {Q : VK} {i : Nat} {x : Str}
variable {k fi : Nat} {fa : Addr} {fd : FuncData} {ps : List Str} {e₀ : Expr} {es : List Expr} {es' : List IP.E} {rs : List R} {vs dvs : List V} {ds : List Value} {dts : List T}
theorem spG_vE {H1 : Hp} {w1 : Wo} {s1 : Sto} (hf : C.fr fi = false) (L1 : Le w w1 H H1) (S1 : StoOk G w1 H1 s1) (R1 : RepRs G w1 H1 rs vs) (h : Want G X σV w H (C.cf fi rs s1) Q) : spG G C.cf C.fr fi vs H1 Q (EX G X σV) := by
  refine ⟨w1, s1, rs, S1, R1, ?_⟩
  have h := Want.mono L1 h
  cases hc : C.cf fi rs s1 with
  | stuck => rw [hc] at h; exact h
  | ok r s' => rw [hc] at h; exact ⟨fun _ => h, fun z => by rw [hf] at z; cases z⟩
  | exc c s' =>
    rw [hc] at h
    intro w' H' L S pins u sh hh B a t e I fl sb fly
    exact h w' H' pins u sh L S ⟨a, hh, B, e, I, fl, sb, .inr (.inl ⟨t, fly⟩)⟩
theorem sV_callX (hf : C.fr fi = false) (F : FnOk X.prog X.w X.K X.mg X.base (CXE G X.prog X.w X.base) k fa fd ps (spG G C.cf C.fr fi)) (hr : Room k X.A) (hg : Gl X x) (hm : X.mg x = some (.ref fa)) (hk : PySem.W.keepIn X.K (.ref fa) = true) (hb : Binds X.K fd ps ds) (hd : Vals dvs ds)
    (hdt : dts.mapM cstV = some dvs) (ha : PA X (e₀ :: es) (tR G X C es')) (hdb : (x == ("__debug__" : Str)) = false) (he : starEach (e₀ :: es) X.env = (false, eval e₀ X.env) :: starEach es X.env) (hpl : (backTo pos (starEach es X.env)).any (·.1) = false) :
    PE X (.Call (.Name x p) (e₀ :: es) [] pos) (tV G X C (.call fi es' dts)) := by
  rintro pins s σV H Q I ⟨w₀, H₀, w, σ, st, g, h⟩
  have h : Want G X σV w H ((evr C es' σ st).bind fun rs s1 => C.cf fi (rs ++ dts.map .val) s1) Q := h
  refine wpAny_Call_Name_kw (ld_glob I hg hm ?_ hdb)
  refine PySem.W.callWith_K (h₀ := X.base) I.ok.mod.kin hk (thn (ha pos pins s σV H _ I ⟨w₀, H₀, w, σ, st, g, zaeq h⟩) fun us s1 ⟨vs, H1, I1, r, q⟩ => ⟨I1.kIn, ?_⟩) he hpl
  obtain ⟨w1, rs, st1, L1, S1, R1, h1⟩ := q
  exact run_call F hr hb hd I1 r (spG_vE hf L1 S1 (zabb R1 (zade hdt)) h1) (passes_of I1)
end
structure FunD (K : PySem.W.Frag) (x qual : Str) (st : Stmt) (f : Addr) (fd : FuncData) : Prop where
  ex : ∃ (oc : Value) (od : Option Addr) (dV kV doc pm : Value) (an : Option Addr) (cdv ct : Value) (osl : Array (Option Value)),
    fd = PySem.W.fnOf x qual (zaaf st) (zaae st) (zaaa st) dV kV doc pm an cdv ct ∧ K.lookup f = some ⟨oc, od, .func fd, osl⟩ ∧ PySem.W.codeIn K cdv qual = true
  kp : PySem.W.keepIn K (.ref f) = true
theorem zaai {K : PySem.W.Frag} {x qual : Str} {st : Stmt} {f : Addr} {oc : Value} {od an : Option Addr} {osl : Array (Option Value)} {dV kV doc pm cdv ct : Value} (l : K.lookup f = some ⟨oc, od, .func (PySem.W.fnOf x qual (zaaf st) (zaae st) (zaaa st) dV kV doc pm an cdv ct), osl⟩)
    (c : PySem.W.codeIn K cdv qual = true) (k : PySem.W.keepIn K (.ref f) = true) : FunD K x qual st f (PySem.W.fnOf x qual (zaaf st) (zaae st) (zaaa st) dV kV doc pm an cdv ct) := ⟨⟨oc, od, dV, kV, doc, pm, an, cdv, ct, osl, rfl, l, c⟩, k⟩
section
variable {fs : List Fn} {sub : Nat → Nat → Bool} {k fi : Nat}
variable {G : Gx} {P : Program} {w : World} {K : PySem.W.Frag} {mg : Str → Option Value} {base : Heap}
theorem zaad {CX : CXT} {f : Addr} {fd : FuncData} {ps : List Str} {k : Nat} : FnOk P w K mg base CX k f fd ps (spG G (run true fs sub whileL 0) (frOf fs) fi) :=
  ⟨fun vs H Q E ⟨_, _, _, _, _, z⟩ => z.elim, fun A outer s H args us vs Q E hr e0 hb hv ⟨_, _, _, _, _, z⟩ => z.elim⟩
@[reducible] noncomputable def cfX (fs : List Fn) (sub : Nat → Nat → Bool) (k : Nat) : Cf := ⟨run true fs sub whileL k, sub, frOf fs, whileL⟩
theorem fn_okX {x qual : Str} {st : Stmt} {f : Addr} {fd : FuncData} {N ps : List Str} {F : Fn} (Fu : FunD K x qual st f fd) (S : FnScope N ps (zaaa st)) (hF : fs[fi]? = some F) (hp : F.pars = ps.length) (hs : F.size = N.length)
    (hbody : ∀ (cdv : Value) (A : Around) (outer : List Env) (s : Shared) (H : Hp) (E : XK), Room (2 * k + 1) (A.deeper (PyProof.Rows.envOfC qual (zaaa st) s.heap.objs.size f cdv)) →
      PSs (cxOf (CXE G P w base) P w K mg base N qual (zaaa st) f cdv A outer s H E) (zaae st) (tSs G (cxOf (CXE G P w base) P w K mg base N qual (zaaa st) f cdv A outer s H E) (cfX fs sub k) F.body)) :
    FnOk P w K mg base (CXE G P w base) (2 * (k + 1)) f fd ps (spG G (run true fs sub whileL (k + 1)) (frOf fs) fi) := by
  have hrun : ∀ rs s, run true fs sub whileL (k + 1) fi rs s = if rs.length = F.pars then leave true F.fr (exs (cfX fs sub k) F.body (enter F rs) s) else .stuck := fun rs s => by
    conv => lhs; unfold run
    rw [hF]
  have hfr : frOf fs fi = F.fr := by unfold frOf; rw [hF]
  obtain ⟨oc, od, dV, kV, doc, pm, an, cdv, ct, osl, rfl, lk, hcd⟩ := Fu.ex
  refine fn_of (k := 2 * k + 1) lk hcd S (fun vs H Q E h => ?_) fun A outer s H vs Q E hr h => ⟨_, hbody cdv A outer s H E hr, ?_⟩
  · obtain ⟨wo, st, rs, S1, R1, h⟩ := h
    rw [hrun] at h
    by_cases hl : rs.length = F.pars
    · exact R1.length.symm.trans (hl.trans hp)
    · rw [if_neg hl] at h; exact h.elim
  · obtain ⟨wo, st, rs, S1, R1, h⟩ := h
    rw [hrun] at h
    by_cases hl : rs.length = F.pars
    · rw [if_pos hl] at h
      refine ⟨wo, H, wo, enter F rs, st, zae7 S1 R1 hs, ?_⟩
      rw [hfr] at h
      cases hx : exs (cfX fs sub k) F.body (enter F rs) st with
      | stuck => rw [hx] at h; exact h.elim
      | next σ' s' =>
        rw [hx] at h
        cases hb : F.fr with
        | true => rw [hb] at h; exact h.elim
        | false => rw [hb] at h; exact fun w' H' σV' g L => h.1 rfl w' H' .non g.ent g.sto rfl
      | ret r s' =>
        rw [hx] at h
        cases hb : F.fr with
        | true => rw [hb] at h; exact h.elim
        | false => rw [hb] at h; exact fun w' H' v S R L => h.1 rfl w' H' v L S R
      | retO ts s' =>
        rw [hx] at h
        cases hb : F.fr with
        | false => rw [hb] at h; exact h.elim
        | true =>
          rw [hb] at h
          obtain ⟨us, e, q⟩ := h.2 rfl
          cases e
          exact fun w' H' a vs S ha r hn nz nl L => q w' H' a vs L S ha r hn nz nl
      | exc c σ' s' =>
        rw [hx] at h
        exact fun w' H' σV' pins u sh g L T => zae6 T (h w' H' g.ent g.sto)
    · rw [if_neg hl] at h; exact h.elim
end
end IP
end
section
set_option Elab.async false
set_option linter.all false
set_option maxRecDepth 100000
namespace IP
open PySem PySem.Spec L2
theorem exc_obj {K : PySem.W.Frag} {h : Heap} {Ca : Addr} {bB : List Value} {nid : String} (hK : K.In h) (q : PySem.W.excIn K Ca bB nid = true) :
    ∃ bm N nm qn bs hdct sn sub ab col dd k0 k1 k2 k3 k5 mN, h.get? Ca = some (excClassObj nm qn Ca N bs bm hdct sn sub ab col dd k0 k1 k2 k3 k5 nid) ∧ h.Ns N mN ∧ mN "__init__" = none ∧ OwnTail h bB bm := by
  unfold PySem.W.excIn at q
  split at q
  · rename_i d1 cl sl ho
    split at q
    · rename_i Cb tl u0 u1 u2 u3 nn u5 em es
      simp only [Bool.and_eq_true, beq_iff_eq, Bool.not_eq_true'] at q
      obtain ⟨⟨⟨⟨⟨q1, q2⟩, q3⟩, q4⟩, q5⟩, q6⟩ := q
      subst q1 q2
      obtain ⟨nm0, bs0, mro0, ns0, qn0, hd0, sn0, sub0, ab0, col0, del0⟩ := cl
      dsimp only at em q3 q5 q6
      subst em q3
      have hg := hK _ _ ho
      have esl : sl = #[u0, u1, u2, u3, some (.builtin nn), u5] := by
        apply Array.toList_inj.mp
        rw [es]
      subst esl
      exact ⟨tl, ns0, nm0, qn0, bs0, hd0, sn0, sub0, ab0, col0, d1, u0, u1, u2, u3, u5, _, hg, .of_isNs (PySem.W.isNs_of_in hK q5), PySem.W.nsMap_none_of_in hK q5 q6, PySem.W.tail_of_in hK q4⟩
    · cases q
  · cases q
section
variable {G : Gx} {X : Cx} {C : Cf} {w w' w₀ : Wo} {H H' H₀ : Hp} {σ σ' : Fr} {σV σV' : St} {c : Nat} {x : Str} {np cpos pos mp : Pos} {m : Str} {j : Nat}
theorem sS_raise {bB : List Value} {B nid iid : String} (hc : X.calm = true) (hg : Gl X x) (hm : X.mg x = some (.ref (G.cA c))) (hq : PySem.W.excIn X.K (G.cA c) bB nid = true) (FB : ExcBaseFacts B nid iid bB) (hdb : (x == ("__debug__" : Str)) = false)
    (he : starEach [.Constant (.str m) j mp] X.env = [(false, eval (.Constant (.str m) j mp) X.env)]) : PS X (.Raise (some (.Call (.Name x np) [.Constant (.str m) j mp] [] cpos)) none pos) (tS G X C (.raise c)) := by
  rintro pins s σV H D I ⟨w₀, H₀, w, σ, st, g, h⟩
  have hx : ∀ u sh, Thrown G X pins σV H c u sh → X.xe u sh := fun u sh T => h w H σV pins u sh g LeS.refl T
  obtain ⟨tl, N, nm, qn, bs, hdct, sn, sub, ab, col, dd, k0, k1, k2, k3, k5, mN, hC, hN, hni, T⟩ := exc_obj (I.ok.mod.kin) hq
  refine wpAny_Raise_call_subT (C := G.cA c) (nm := nm) (q := qn) (N := N) (bs := bs) (bm := tl) (hdct := hdct) (sn := sn) (sub := sub) (ab := ab) (col := col) (dd := dd) (k0 := k0) (k1 := k1) (k2 := k2) (k3 := k3) (k5 := k5)
    FB (mN := mN) (T.hasType FB.hasBase) (I.ok.hd hc) (by rw [he]; rfl) hni (ld_glob I hg hm ⟨rfl, ?_⟩ hdb)
  have ha : PA X [.Constant (.str m) j mp] (tCons (tC (.str m)) tNil) := zaao pe_str pa_nil (by rw [he]; rfl)
  have z := ha cpos pins s σV H (fun vs H1 => vs = [.str m] ∧ H1 = H) I ⟨rfl, rfl⟩
  rw [he] at z ⊢
  refine PySem.Calls.evalArgs_plain (wpAny_mono z (fun vs s₂ h₂ => ?_) fun _ _ y => y)
  obtain ⟨ws, H1, I1, rv, rfl, rfl⟩ := h₂
  have hl := rv.length
  refine ⟨rfl, ?_, I1.bk _ _ hC, hN.keeps I1.bk, T.keeps I1.bk, fun h' e hmd => hx _ _ (zads I1 hmd)⟩
  show vs.length ≤ sizeLine
  rw [← hl]
  show 1 ≤ sizeLine
  decide
end
section
variable {M : Model} {A : Around} {E : Value → Shared → Prop} {s : Shared} {env : Env}
end
end IP
end
section
set_option Elab.async false
set_option linter.all false
set_option maxRecDepth 100000
namespace IP
open PySem PySem.Spec L2
section
variable {G : Gx} {X : Cx} {C : Cf} {w w' w₀ : Wo} {H H' H₀ : Hp} {σ σ' : Fr} {σV σV' : St} {s : Sto} {a : Addr} {l : Nat}
end
end IP
end
section
set_option Elab.async false
set_option linter.all false
set_option maxRecDepth 100000
namespace IP
open PySem PySem.Spec L2
section
variable {G : Gx} {X : Cx} {C : Cf} {w w' w₀ : Wo} {H H' H₀ : Hp} {σ σ' : Fr} {σV σV' : St} {a b e j o : Expr} {a' b' e' j' : IP.E} {pos pos' p p1 p2 apos : Pos} {Q : VK} {i c f : Nat} {x m : Str}
variable {k fi : Nat} {fa : Addr} {fd : FuncData} {ps : List Str} {e₀ : Expr} {es : List Expr} {es' : List IP.E} {rs : List R} {vs dvs : List V} {ds : List Value} {dts : List T}
end
end IP
end
section
set_option Elab.async false
set_option linter.all false
set_option maxRecDepth 100000
namespace IP
open PySem PySem.Spec L2
abbrev hnd (X : Cx) (e : Addr) : Cx := { X with A := X.A.mark (some (.ref e)), calm := false, xe := fun _ _ => False }
section
variable {G : Gx} {X : Cx} {C : Cf} {pins : List (Addr × Obj)} {σV : St} {H : Hp} {c : Nat} {u : Value} {sh s : Shared} {e : Addr}
end
end IP
end
section
set_option Elab.async false
set_option linter.all false
set_option maxRecDepth 100000
namespace IP
open PySem PySem.Spec L2
section
variable {G : Gx} {X : Cx} {C : Cf} {pins pins' : List (Addr × Obj)} {w w' w₀ : Wo} {H H' H₀ : Hp} {σ σ' : Fr} {σV σV' : St} {c : Nat} {u : Value} {sh s : Shared} {e : Addr} {E : Value → Shared → Prop}
end
end IP
end
section
set_option Elab.async false
set_option linter.all false
set_option maxRecDepth 100000
namespace IP
open PySem PySem.Spec L2
section
variable {G : Gx} {X : Cx} {C : Cf} {pins pins' : List (Addr × Obj)} {w w' w₀ : Wo} {H H' H₀ : Hp} {σ σ' : Fr} {σV σV' : St} {c i : Nat} {u : Value} {sh s : Shared} {e : Addr} {E : Value → Shared → Prop}
variable {body suite : List Stmt} {b' h' : List S} {y n : Str} {yp hpos pos : Pos} {b₀ : Stmt}
end
end IP
end
section
set_option Elab.async false
set_option linter.all false
set_option maxRecDepth 100000
namespace IP
open PySem PySem.W PySem.Spec PySem.Calls PyProof.Rows Builtin Builtin.ObjectAttr Builtin.Getset_descriptor
section
variable {KK : Frag} {x D : Addr}
end
end IP
namespace IP
open PySem PySem.W PySem.Spec PySem.Calls PyProof.Rows Builtin Builtin.ObjectAttr Builtin.Getset_descriptor
section
variable {KK : Frag} {x D : Addr} {prog : Program} {w : World} {A : Around} {E : Value → Shared → Prop}
end
end IP
namespace IP
open PySem PySem.Spec L2
structure ExcK (K : PySem.W.Frag) (D : Addr) : Prop where
  ga : PySem.W.findIn K (.ref D) "__getattribute__" = some (some (.builtin "BaseException.__getattribute__"))
  gn : PySem.W.findIn K (.ref D) "__getattr__" = some none
  dct : PySem.W.hasDictIn K D = true
  ca : PySem.W.findIn K (.ref D) "__class__" = some (some (.builtin "object.__class__"))
  sp : PySem.W.specialIn K (.builtin "object.__class__") "__get__" = some (some (.builtin "getset_descriptor.__get__"))
  tk : PySem.W.takesIn K (.builtin "object.__class__") = some true
  mo : PySem.W.mroIn K D (.type "object") = some true
  mb : PySem.W.mroIn K D (.type "BaseException") = some true
section
variable {G : Gx} {X : Cx} {C : Cf} {a : Expr} {a' : IP.E} {pos p py : Pos} {y : Str} {k : Nat}
end
end IP
end
section
set_option Elab.async false
set_option linter.all false
set_option maxRecDepth 100000
namespace IP
open PySem PySem.Spec L2
section
variable {G : Gx} {X : Cx} {C : Cf} {w w' w₀ : Wo} {H H' H₀ : Hp} {σ σ' : Fr} {σV σV' : St} {a b e : Expr} {a' b' e' : IP.E} {pos p p2 : Pos} {Q : VK}
theorem LeS.puts : ∀ {ks : List Nat} {us : List T} {vs : List V} {σ : Fr} {σV : St}, IP.puts σ ks us = some σ' → vs.length = ks.length → LeS w w H H σ σ' σV (setsV σV ks vs)
  | [], [], vs, σ, σV, hp, hl => by cases hp; cases vs <;> exact LeS.refl
  | [], _ :: _, vs, σ, σV, hp, hl => by cases hp
  | _ :: _, [], vs, σ, σV, hp, hl => by cases hp
  | k :: ks, u :: us, [], σ, σV, hp, hl => by simp at hl
  | k :: ks, u :: us, v :: vs, σ, σV, hp, hl => LeS.trans (LeS.put (v := v)) (LeS.puts (ks := ks) (us := us) (vs := vs) (σ := IP.put σ k u) (σV := σV.set k (some v)) hp (by simpa using hl))
end
end IP
end
section
set_option Elab.async false
set_option linter.all false
set_option maxRecDepth 100000
namespace IP
open PySem PySem.Spec L2
section
variable {G : Gx} {X : Cx} {C : Cf}
variable {elt iter tg : Expr} {ifs : List Expr} {scope : Scope} {pos : Pos} {it' ce : E} {g : Tg} {N' : List Str} {f : Fr → Sto → Res (Option T)}
end
end IP
end
section
set_option Elab.async false
set_option linter.all false
set_option maxRecDepth 100000
namespace IP
open PySem PySem.Spec L2
section
variable {G : Gx} {X : Cx} {C : Cf}
end
end IP
end
section
set_option Elab.async false
set_option linter.all false
set_option maxRecDepth 100000
namespace IP
open PySem PySem.Spec L2
def Ite (a : Addr) : It :=
  ⟨fun i H => ∃ vs v, Rd H a (.lst vs) ∧ vs[i]? = some v,
   fun i H x H' => ∃ T v, x = .ref T ∧ H T = none ∧ H' = upd H T (.tup [.int i, v]) ∧ ∀ vs, Rd H a (.lst vs) → vs[i]? = some v,
   fun i H => ∃ vs, Rd H a (.lst vs) ∧ vs.length ≤ i⟩
section
variable {G : Gx} {X : Cx} {C : Cf} {w w' w₀ : Wo} {H H' H₀ : Hp} {σ σ' : Fr} {σV σV' : St} {pos : Pos}
theorem zadu {pins : List (Addr × Obj)} {σ : St} {H : Hp} {s : Shared} {h' : Heap} {t' : Nat} {e it : Addr} (I : Inv X pins σ H s) (k : ∀ b o, b ≠ e → b ≠ it → s.heap.get? b = some o → h'.get? b = some o) (f1 : FpOk X pins H e) (f2 : FpOk X pins H it) :
    Inv X pins σ H { s with heap := h', toks := t' } := by
  have hf : ∀ b ∈ [e, it], FpOk X pins H b := fun b hb => by
    rcases List.mem_cons.mp hb with rfl | hb
    · exact f1
    · have : b = it := by simpa using hb
      subst this
      exact f2
  have k' : ∀ b o, b ∉ [e, it] → s.heap.get? b = some o → h'.get? b = some o := fun b o hb q => k b o (fun z => hb (by simp [z])) (fun z => hb (by simp [z])) q
  have nit : ∀ b u, H b = some u → b ∉ [e, it] := fun b u q z => by rw [(hf b z).1] at q; cases q
  refine I.step (g' := s.gens) (d' := s.drawn) (ch := [e, it]) (fun b hb => ?_) (fun b o _ _ hc e _ => k' b o hc e) (fun b o _ _ hc e _ => ⟨o.slots, k' b o hc e⟩) (fun _ _ _ _ n => n)
    (fun b o hc e => ⟨o, k' b o hc e⟩) (fun _ _ e => e) (fun _ _ _ e => e) (fun b ps e => ⟨#[], by rw [e]; simp⟩) (fun m hm => ?_) (fun b u e => ?_) I.bare
  · obtain ⟨_, g1, g2, g3, g4, g5⟩ := hf b hb
    exact ⟨g3, g1, g4, g5⟩
  · obtain ⟨o, es, ep, ho, r⟩ := hm
    exact ⟨o, es, ep, k' _ o (fun z => (hf _ z).2.1 rfl) ho, r⟩
  · refine (I.hok b u e).stay (fun c v hc q => k' c v ?_ q) (fun _ q => q) fun _ _ q => q
    rcases hc with z | z
    · rw [z]; exact nit b u e
    · exact nit c _ z
theorem turn_enum {P : Program} {w : World} {K : PySem.W.Frag} {es : List Expr} {k : Nat} {p : Pos} (a e it : Addr) (hei : e ≠ it) : Turn P w K (.Tuple es k p) (Ite a) [e, it] e (fun i h => (∃ old, IsEnum h e it i old) ∧ h.IsListIter it a i) where
  mem := by simp
  obj := fun i h ⟨⟨old, he⟩, hit⟩ b hb => by
    rcases List.mem_cons.mp hb with rfl | hb
    · exact ⟨_, he, fun v z => by cases z⟩
    · have : b = it := by simpa using hb
      subst this
      obtain ⟨o, e1, c, d⟩ := hit
      exact ⟨o, e1, fun v z => by rw [d] at z; cases z⟩
  keep := fun i h h' ⟨⟨old, he⟩, hit⟩ k => ⟨⟨old, k e (by simp) _ he⟩, hit.at fun o x => k it (by simp) o x⟩
  item := by
    intro X hP hw hK hc i pins s σ H E I hf ⟨⟨old, he⟩, hit⟩ ⟨vs, v, hr, hx⟩
    subst hP hw hK
    obtain ⟨its, rv, p⟩ := zaar I hr
    obtain ⟨u, hu, ru⟩ := rv.get hx
    have f1 := hf e (by simp)
    have f2 := hf it (by simp)
    have le : e < s.heap.objs.size := Heap.lt_size he
    have li : it < s.heap.objs.size := by obtain ⟨o, q, _⟩ := hit; exact Heap.lt_size q
    refine wpAny_pyNext_enum_item he hit p (x := u) (by simpa using hu) hei fun h1 ho hit1 hT hsz hk => ⟨_, rfl, ?_⟩
    refine wpAny_letOwnedTupleGo_enum ho fun h2 he2 hs2 => ?_
    have hn : H s.heap.objs.size = none := I.hok.fresh (Nat.le_refl _)
    have I1 : Inv X pins σ (upd H s.heap.objs.size (.tup [.int i, v])) { s with heap := s.heap.push { cls := .type "tuple", data := .seq #[.int i s.toks, u] }, toks := s.toks + 1 } := by
      refine I.laid (fun b o q => Heap.get?_push_of_some _ q) (Nat.le_refl _) ⟨show 2 ≤ sizeLine by decide, [.int i s.toks, u], .cons ⟨_, rfl⟩ (.cons ru .nil), ?_⟩
      exact ⟨_, Heap.get?_push_size _ rfl, rfl, _, rfl⟩
    have fp : ∀ b ∈ [e, it], FpOk X pins (upd H s.heap.objs.size (.tup [.int i, v])) b := fun b hb => by
      refine ⟨?_, (hf b hb).2⟩
      have : b ≠ s.heap.objs.size := by
        rcases List.mem_cons.mp hb with rfl | hb
        · exact Nat.ne_of_lt le
        · have : b = it := by simpa using hb
          subst this
          exact Nat.ne_of_lt li
      rw [upd_ne this]
      exact (hf b hb).1
    have I2 : Inv X pins σ (upd H s.heap.objs.size (.tup [.int i, v])) { s with heap := h2, toks := s.toks + 1 } := by
      refine zadu (s := { s with heap := s.heap.push { cls := .type "tuple", data := .seq #[.int i s.toks, u] }, toks := s.toks + 1 }) I1 (fun b o n1 n2 q => ?_) (fp e (by simp)) (fp it (by simp))
      rcases Heap.get?_push_cases q with ⟨rfl, rfl⟩ | q
      · exact (hs2.2 _ (Nat.ne_of_gt le)).trans hT
      · exact (hs2.2 b n1).trans (hk b o n1 n2 q)
    refine ⟨.ref s.heap.objs.size, _, I2, rfl, ⟨_, v, rfl, hn, rfl, fun ws hw => ?_⟩, ⟨⟨u, by simpa using he2⟩, hit1.at fun o q => (hs2.2 it hei.symm).trans q⟩, fun b hb => (fp b hb).1⟩
    have : ws = vs := by
      obtain ⟨its2, rv2, p2⟩ := zaar I hw
      obtain ⟨o1, e1, _, n1, d1⟩ := p
      obtain ⟨o2, e2, _, n2, d2⟩ := p2
      rw [e1] at e2
      cases e2
      rw [d1] at d2
      injection d2 with d3 _
      have : its = its2 := by simpa using congrArg Array.toList d3
      subst this
      exact rv2.inj rv
    rw [this]; exact hx
  done := by
    intro X hP hw hK hc i pins s σ H E I hf ⟨⟨old, he⟩, hit⟩ ⟨vs, hr, hx⟩
    subst hP hw hK
    obtain ⟨its, rv, p⟩ := zaar I hr
    have hl := rv.length
    obtain ⟨f0, f1, f2, f3, f4, f5⟩ := hf it (by simp)
    exact wpAny_pyNext_enum_end (I.ok.hd hc) he hit p (by simp; omega) fun h' eb => ⟨rfl, I.turned (t' := s.toks) (fun b o hb q => eb b o hb q) f0 f1 f3 f4 f5⟩
  self := fun _ _ _ _ _ ⟨⟨old, he⟩, _⟩ h => wpAny_pyIter_enum he h
theorem zab0 : bootBuiltins "enumerate" = some (.type "enumerate") := by decide +kernel
theorem pi_enum {es : List Expr} {k : Nat} {p1 : Pos} {a : Expr} {ta : TA} {p pos : Pos} (hg : Gl X "enumerate") (hm : X.mg "enumerate" = none) (ha : PA X [a] ta) (hs : starEach [a] X.env = [(false, eval a X.env)]) :
    PI X (.Tuple es k p1) (.Call (.Name "enumerate" p) [a] [] pos) (fun σ H R => ta σ H fun vs H1 => ∃ b, vs = [.ref b] ∧ (∃ xs, Rd H1 b (.lst xs)) ∧ R (Ite b) H1) := by
  intro pins s σ H R I h
  refine PyProof.Rows.Call_ (ld_blt I hg hm zab0 (PyProof.Rows.callWith_type1 (thn (ha pos pins s σ H _ I h) fun us s1 ⟨vs, H1, I1, r1, q1⟩ => ?_) hs rfl))
  obtain ⟨b, e, ⟨xs, hr⟩, q⟩ := q1
  subst e
  cases r1 with
  | cons r rr =>
    cases rr
    cases r
    obtain ⟨_, its, n, rv, _, e⟩ := Rd.lst I1 hr
    refine call_enumerate_1 e fun h' he hit hsz hk => wpAny_pyIter_enum he ?_
    have I2 : Inv X pins σ H1 { s1 with heap := h' } := I1.kept (t' := s1.toks) hk
    refine ⟨_, [s1.heap.objs.size + 1, s1.heap.objs.size], _, _, H1, rfl, I2, turn_enum b _ _ (Nat.succ_ne_self _), ⟨⟨_, he⟩, hit⟩, fun c hc => ?_, q⟩
    have : s1.heap.objs.size ≤ c := by
      rcases List.mem_cons.mp hc with rfl | hc
      · exact Nat.le_succ _
      · have : c = s1.heap.objs.size := by simpa using hc
        exact Nat.le_of_eq this.symm
    exact I1.fpOk this (I1.hok.fresh this)
end
end IP
end
section
set_option Elab.async false
set_option linter.all false
set_option maxRecDepth 100000
namespace IP
open PySem PySem.Spec L2
theorem zaex : ∀ (ts : List T) (n i : Nat), (enT n ts)[i]? = ts[i]?.map fun t => T.tup [.int ((n + i : Nat) : Int), t]
  | [], n, i => by simp [enT]
  | t :: ts, n, 0 => by simp [enT]
  | t :: ts, n, i + 1 => by
    have := zaex ts (n + 1) i
    simp only [enT, List.getElem?_cons_succ, this]
    congr 1
    funext u
    have : n + 1 + i = n + (i + 1) := by omega
    rw [this]
theorem zac0 : ∀ (ts : List T) (n : Nat), (enT n ts).length = ts.length
  | [], _ => rfl
  | t :: ts, n => by simp [enT, zac0 ts]
section
variable {G : Gx} {X : Cx} {C : Cf} {w w' w₀ : Wo} {H H' H₀ : Hp} {σ σ' : Fr} {σV σV' : St} {pos : Pos}
theorem enm_loop {js : List Nat} {b' : List S} {D : Ends} {a : Addr} {vs : List V} {ts : List T} {s : Sto} (gd : Good G w₀ H₀ w H σ s σV) (SO : SrcOk G w H true (.l a vs) ts)
    (h : WantS G X w₀ H₀ w H σ σV (forL (.many js) (fun σ s => exs C b' σ s) (enT 0 ts) σ s) D) :
    ∃ W : Nat → Nat → St → Hp → Prop, (∃ m, W 0 m σV H) ∧ ∀ i m σV H, W i m σV H →
      ((Ite a).stop i H ∧ D.nx σV H) ∨ ((Ite a).go i H ∧ ∃ N : St → Hp → Prop, (∀ σ' H', N σ' H' → ∃ m', m' < m ∧ W (i + 1) m' σ' H') ∧ ∀ x H', (Ite a).yld i H x H' → gTg G (.many js) x σV H' fun σ2 H2 => tSs G X C b' { D with nx := N, ct := N, bk := D.nx } σ2 H2) := by
  refine ⟨fun i m σV1 H1 => ∃ w1 σ1 s1, m = ts.length - i ∧ i ≤ ts.length ∧ Good G w₀ H₀ w1 H1 σ1 s1 σV1 ∧ SrcOk G w1 H1 true (.l a vs) ts ∧ WantS G X w₀ H₀ w1 H1 σ1 σV1 (forL (.many js) (fun σ s => exs C b' σ s) ((enT 0 ts).drop i) σ1 s1) D,
    ⟨ts.length, w, σ, s, rfl, Nat.zero_le _, gd, SO, h⟩, ?_⟩
  rintro i m σV1 H1 ⟨w1, σ1, s1, hm, hi, g1, SO1, h1⟩
  by_cases hlt : i < ts.length
  · refine .inr ?_
    have et : ts[i]? = some ts[i] := List.getElem?_eq_getElem hlt
    have hl2 : i < (enT 0 ts).length := by rw [zac0]; exact hlt
    have ed : (enT 0 ts).drop i = T.tup [.int (i : Int), ts[i]] :: (enT 0 ts).drop (i + 1) := by
      rw [List.drop_eq_getElem_cons hl2]
      congr 1
      have := zaex ts 0 i
      rw [et, List.getElem?_eq_getElem hl2] at this
      simpa using this
    rw [ed] at h1
    obtain ⟨σ2, hb, h1⟩ := onS_w (show WantS G X w₀ H₀ w1 H1 σ1 σV1 (onS (bindTg σ1 (.many js) (T.tup [.int (i : Int), ts[i]])) fun σ' => (exs C b' σ' s1).bind fun σ2 s2 => forL (.many js) (fun σ s => exs C b' σ s) ((enT 0 ts).drop (i + 1)) σ2 s2) D from h1)
    obtain ⟨r1, r2, r3, r4⟩ := id SO1
    obtain ⟨v, ev, rv⟩ := r2.get et
    refine ⟨⟨vs, v, r1, ev⟩, fun σV3 H3 => ∃ w3 σ3 s3, Good G w₀ H₀ w3 H3 σ3 s3 σV3 ∧ SrcOk G w3 H3 true (.l a vs) ts ∧ WantS G X w₀ H₀ w3 H3 σ3 σV3 (forL (.many js) (fun σ s => exs C b' σ s) ((enT 0 ts).drop (i + 1)) σ3 s3) D, fun σV3 H3 ⟨w3, σ3, s3, q1, q2, q3⟩ => ⟨ts.length - (i + 1), by omega, w3, σ3, s3, rfl, hlt, q1, q2, q3⟩, fun x H' hy => ?_⟩
    obtain ⟨T₁, v', ex, hn, rfl, hv⟩ := hy
    subst ex
    have : v' = v := by
      have := hv vs r1
      rw [ev] at this
      exact (Option.some.inj this).symm
    subst this
    have L1 : Le w1 w1 H1 (L2.upd H1 T₁ (.tup [.int i, v'])) := Le.new hn _
    have S1 := g1.sto.new hn (.tup [.int i, v'])
    have g1' := g1.step L1 S1
    have rT : Rep G w1 (L2.upd H1 T₁ (.tup [.int i, v'])) (T.tup [.int (i : Int), ts[i]]) (.ref T₁) := ⟨T₁, _, rfl, zaan, ⟨_, _, rfl, rfl, _, _, rfl, Rep.mono L1 g1.sto _ _ rv, rfl⟩⟩
    refine ⟨w1, s1, _, σ1, σ2, S1, rT, hb, fun us hfr hl => ?_⟩
    have g2 : Good G w₀ H₀ w1 (L2.upd H1 T₁ (.tup [.int i, v'])) σ2 s1 (setsV σV1 js us) := ⟨S1, hfr H₀ σV1 g1'.fr, g1'.ent⟩
    have l2 : LeS w1 w1 H1 (L2.upd H1 T₁ (.tup [.int i, v'])) σ1 σ2 σV1 (setsV σV1 js us) := (LeS.of L1).trans (LeS.puts (show puts σ1 js [.int (i : Int), ts[i]] = some σ2 from hb) hl)
    obtain ⟨SO2, SF2⟩ := SrcOk.monoS (src := .l a vs) l2 g1.sto g1.fr (g1.fr.notOwnZ (r4 rfl)) SO1
    refine ⟨w₀, H₀, w1, σ2, s1, g2, ?_⟩
    cases hx : exs C b' σ2 s1 with
    | stuck => rw [hx] at h1; exact h1
    | ret r s3 => rw [hx] at h1; exact h1
    | retO ts s3 => rw [hx] at h1; exact h1
    | exc d σ3 s3 => rw [hx] at h1; exact fun w3 H3 σV3 pins u sh g3 L3 T => h1 w3 H3 σV3 pins u sh g3 (l2.trans L3) T
    | next σ3 s3 =>
      rw [hx] at h1
      intro w3 H3 σV3 g3 L3
      obtain ⟨SO3, SF3⟩ := SrcOk.monoS (src := .l a vs) L3 g2.sto g2.fr SF2 SO2
      exact ⟨w3, σ3, s3, g3, SO3, WantS.mono (l2.trans L3) h1⟩
  · have ei : i = ts.length := by omega
    subst ei
    have : (enT 0 ts).drop ts.length = [] := List.drop_of_length_le (Nat.le_of_eq (zac0 ts 0))
    rw [this] at h1
    obtain ⟨r1, r2, r3, r4⟩ := SO1
    exact .inl ⟨⟨vs, r1, by rw [r2.length]; exact Nat.le_refl _⟩, h1 w1 H1 σV1 g1 LeS.refl⟩
theorem sS_enm {es : List Expr} {k : Nat} {p p1 p2 : Pos} {a : Expr} {a' : E} {js : List Nat} {b : List Stmt} {b' : List S} (hp : PassesOwn (model X.prog X.w) X.A X.env X.xe) (hc : X.calm = true) (hgl : Gl X "enumerate") (hmg : X.mg "enumerate" = none) (ha : PE X a (tV G X C a'))
    (hst : starEach [a] X.env = [(false, eval a X.env)]) (hg : PG X (.Tuple es k p1) (gTg G (.many js))) (hb : PSs X b (tSs G X C b')) (hs : ∀ x, foldedSetIterable (.Call (.Name "enumerate" p) [a] [] p2) X.env x = pure x) :
    PS X (.For (.Tuple es k p1) (.Call (.Name "enumerate" p) [a] [] p2) b [] pos) (tS G X C (.for_ (.many js) (.enm a') b')) := by
  refine PS.imp (ps_for hp hc (pi_enum hgl hmg (zaao ha pa_nil hst) hst) hg hb hs) ?_
  rintro D σV H ⟨w₀, H₀, w, σ, s, gd, h⟩
  have h : WantS G X w₀ H₀ w H σ σV (((ev C a' .v σ s).bind fun x s1 => onL x fun ts => .ok (.val (.lst (enT 0 ts))) s1).st σ fun x s1 => onS x.lst? fun ts => forL (.many js) (fun σ s => exs C b' σ s) ts σ s1) D := h
  refine ⟨w₀, H₀, w, σ, s, gd, ?_⟩
  cases he : ev C a' .v σ s with
  | stuck => rw [he] at h; exact h.elim
  | exc c s1 => rw [he] at h; exact fun w1 H1 pins u sh L S T => h w1 H1 σV pins u sh (gd.step L S) (LeS.of L) T
  | ok x s1 =>
    rw [he] at h
    intro w1 H1 v L S R1
    match x, R1, h with
    | .val (.lst ts), ⟨a, vs, e, z, r, q⟩, h =>
      subst e
      have h : WantS G X w₀ H₀ w H σ σV (forL (.many js) (fun σ s => exs C b' σ s) (enT 0 ts) σ s1) D := h
      exact ⟨a, rfl, ⟨vs, r⟩, enm_loop (gd.step L S) ⟨r, q, S.zLoc z, fun _ => z⟩ (WantS.mono (LeS.of L) h)⟩
    | .val .non, _, h => exact h.elim
    | .val (.bl _), _, h => exact h.elim
    | .val (.str _), _, h => exact h.elim
    | .val (.tup _), _, h => exact h.elim
    | .val (.int _), _, h => exact h.elim
    | .val (.loc _), _, h => exact h.elim
    | .val (.exc _), _, h => exact h.elim
    | .bor _, _, h => exact h.elim
end
end IP
end
section
set_option Elab.async false
set_option linter.all false
set_option maxRecDepth 100000
namespace IP
open PySem PySem.Spec L2
section
variable {G : Gx} {X : Cx} {C : Cf} {a b e : Expr} {a' b' e' : IP.E} {pos p p2 : Pos}
def relN (sc names : List (Str × NameKind)) : List (Str × NameKind) := names.map fun (n, k) => if (k == .free && sc.lookup n == some .cell) then (n, .cell) else (n, k)
def visB (names : List (Str × NameKind)) (x : Str) : Bool := names.lookup x == some .local || names.lookup x == some .cell || names.lookup x == some .free
def ckComp (sc names : List (Str × NameKind)) (N N' : List Str) (js : List Nat) : Bool :=
  names.all (fun x => x.2 != .cell) && names.all (fun x => x.2 != .free || sc.lookup x.1 == some .cell || sc.lookup x.1 == some .free) && decide (N'.length = N.length) && decide N'.Nodup &&
  names.all (fun x => x.2 != .local || names.lookup x.1 == some .local) &&
  (List.range N'.length).all fun i => js.contains i || match N'[i]? with
    | none => true
    | some x => !visB (relN sc names) x || (N[i]? == some x && names.contains (x, NameKind.free) && ((relN sc names).lookup x == some .cell || (relN sc names).lookup x == some .free))
theorem rel_eq {scope : Scope} {sc : List (Str × NameKind)} (hsc : X.env.scope.names = sc) (hk : X.env.scope.kind = .function) : (relabel scope X.env).names = relN sc scope.names := by
  subst hsc
  unfold relabel relN Env.kindOf
  rw [hk]
  simp
theorem zaa3 {scope : Scope} {sc : List (Str × NameKind)} {N N' : List Str} {js : List Nat} (hsc : X.env.scope.names = sc) (hk : X.env.scope.kind = .function) (hN : X.N = N) (hks : scope.kind = .function) (h : ckComp sc scope.names N N' js = true) : CompN X scope N' js := by
  unfold ckComp at h
  simp only [Bool.and_eq_true, List.all_eq_true, Bool.or_eq_true, bne_iff_ne, ne_eq, beq_iff_eq, decide_eq_true_eq] at h
  obtain ⟨⟨⟨⟨⟨h1, h2⟩, h3⟩, h4⟩, h5⟩, h6⟩ := h
  refine ⟨hks, h1, fun x hx e => ?_, by rw [hN]; exact h3, h4, fun i x hi hj hv => ?_, fun x hx e => ?_⟩
  · rcases h2 x hx with (q | q) | q
    · exact absurd e q
    · exact .inl (by unfold Env.kindOf; rw [hsc]; exact q)
    · exact .inr (by unfold Env.kindOf; rw [hsc]; exact q)
  · have hil : i < N'.length := (List.getElem?_eq_some_iff.mp hi).1
    have q := h6 i (List.mem_range.mpr hil)
    rw [hi] at q
    unfold Vis at hv
    rw [rel_eq hsc hk] at hv ⊢
    rcases q with q | q
    · exact absurd (List.contains_iff_mem.mp q) hj
    · have hv' : visB (relN sc scope.names) x = true := by
        unfold visB
        rcases hv with z | z | z <;> rw [z] <;> rfl
      simp only [hv', Bool.not_true, Bool.false_eq_true, false_or, Bool.and_eq_true, Bool.or_eq_true, beq_iff_eq] at q
      obtain ⟨⟨q1, q2⟩, q3⟩ := q
      exact ⟨by rw [hN]; exact q1, List.contains_iff_mem.mp q2, q3⟩
  · rcases h5 x hx with q | q
    · exact absurd e q
    · exact q
theorem map_lst {f : T → Sto → Res (Option T)} {m : Res R} {r : R} {s1 : Sto} (h : (m.bind fun x s1 => onL x fun ts => (mapRes f ts s1).bind fun q s2 => .ok (.val (.lst q)) s2) = .ok r s1) : ∃ ts, r = .val (.lst ts) := by
  cases m with
  | stuck => cases h
  | exc c s => cases h
  | ok x s =>
    replace h : (onL x fun ts => (mapRes f ts s).bind fun q s2 => .ok (.val (.lst q)) s2) = .ok r s1 := h
    unfold onL at h
    split at h
    · rename_i ts
      replace h : ((mapRes f ts s).bind fun q s2 => .ok (.val (.lst q)) s2) = .ok r s1 := h
      cases hm : mapRes f ts s with
      | stuck => rw [hm] at h; cases h
      | exc c s => rw [hm] at h; cases h
      | ok q s2 => rw [hm] at h; cases h; exact ⟨q, rfl⟩
    · cases h
theorem zabp {elt it : IP.E} {g : Tg} {σ : Fr} {s : Sto} {r : R} {s1 : Sto} (h : ev C (.comp elt g it) .v σ s = .ok r s1) : ∃ ts, r = .val (.lst ts) := map_lst h
theorem rev_is {σ : Fr} {s : Sto} {r : R} {s1 : Sto} (h : ev C (.rev a') .v σ s = .ok r s1) : ∃ ts, r = .val (.lst ts) := by
  have h : (ev C a' .v σ s).bind (fun x s1 => .of (x.seq.map fun ts => .val (.lst ts.reverse)) s1) = .ok r s1 := h
  cases hq : ev C a' .v σ s with
  | stuck => rw [hq] at h; cases h
  | exc c s2 => rw [hq] at h; cases h
  | ok rs s2 =>
    rw [hq] at h
    have h : Res.of (rs.seq.map fun ts => .val (.lst ts.reverse)) s2 = .ok r s1 := h
    cases hs : rs.seq with
    | none => rw [hs] at h; cases h
    | some ts => rw [hs] at h; cases h; exact ⟨_, rfl⟩
theorem wv (i : Nat) {x : Str} (hN : X.N[i]? = some x := by rfl) (hv : Vis X.env.scope x := by first | exact Or.inl rfl | exact Or.inr (Or.inl rfl) | exact Or.inr (Or.inr rfl)) (hd : (x == ("__debug__" : Str)) = false := by decide) (hcd : (x == ("__classdict__" : Str)) = false := by decide) : PE X (.Name x pos) (tV G X C (.var i)) := sV_var hN hv hd hcd
theorem wtr {e : Expr} (hE : PE X e (tV G X C e')) (he : ∀ whole, isTrue e X.env whole = (do let v ← whole; standAt e.pos; holding [v] (truthy v)) := by intro _; rfl)
    (hev : ∀ σ s, ev C e' .t σ s = (ev C e' .v σ s).bind fun x s => .of (truK x) s := by intro _ _; rfl) : PT X e (tT G X C e') := sT_plain hE he hev
theorem wcv (hu : X.A.units + 9 < cLine) (c : Cm) (ha : PE X a (tV G X C a')) (hb : PE X b (tV G X C b')) (hm : behindInMarks (cmOf c) b = false := by rfl) : PE X (.Compare a [cmOf c] [b] pos) (tV G X C (.cmp c a' b')) := sV_cmp hu c ha hb hm
theorem wct (hu : X.A.units + 9 < cLine) (c : Cm) (ha : PE X a (tV G X C a')) (hb : PE X b (tV G X C b')) (hm : behindInMarks (cmOf c) b = false := by rfl) : PT X (.Compare a [cmOf c] [b] pos) (tT G X C (.cmp c a' b')) := sT_cmp hu c ha hb hm
theorem wone {op} (h : PE X a (tV G X C a')) : PE X (.BoolOp op [a] pos) (tV G X C a') := pe_one h
theorem wsub (ha : PE X a (tV G X C a')) (hb : PE X b (tV G X C b')) (hs : zaey b := by intro _ _; rfl) : PE X (.Subscript a b pos) (tV G X C (.sub a' b')) := sV_sub ha hb hs
theorem wac {es : List Expr} {es' : List IP.E} (ha : PE X a (tV G X C a')) (hr : PA X es (tA G X C es')) (hs : starEach (a :: es) X.env = (false, eval a X.env) :: starEach es X.env := by rfl) : PA X (a :: es) (tA G X C (a' :: es')) := sA_cons ha hr hs
theorem wrc {es : List Expr} {es' : List IP.E} (ha : PE X a (tV G X C a')) (hr : PA X es (tR G X C es')) (hs : starEach (a :: es) X.env = (false, eval a X.env) :: starEach es X.env := by rfl) : PA X (a :: es) (tR G X C (a' :: es')) := sR_cons ha hr hs
theorem wtup {es : List Expr} {es' : List IP.E} {k : Nat} (h : PA X es (tA G X C es')) (hz : es'.length ≤ 1000 := by decide) : PE X (.Tuple es k pos) (tV G X C (.tup es')) := sV_tup h (Nat.le_trans hz (by decide))
theorem wlst {es : List Expr} {es' : List IP.E} (h : PA X es (tA G X C es')) (hz : es'.length ≤ 1000 := by decide) : PE X (.List es pos) (tV G X C (.lst es')) := sV_lst h (Nat.le_trans hz (by decide))
theorem wlstO {es : List Expr} {es' : List IP.E} (h : PA X es (tA G X C es')) (hz : es'.length ≤ 1000 := by decide) : PE X (.List es pos) (tO G X C (.lst es')) := sO_lst h (Nat.le_trans hz (by decide))
theorem wlen (hm : X.mg "len" = none) (ha : PE X a (tV G X C a')) (hg : Gl X "len" := by rfl) (hs : starEach [a] X.env = [(false, eval a X.env)] := by rfl) : PE X (.Call (.Name "len" p) [a] [] pos) (tV G X C (.b1 .len a')) := sB1 c_len hg hm (by rfl) (by decide) (by decide) ha hs fun _ _ => rfl
theorem wabs (hm : X.mg "abs" = none) (ha : PE X a (tV G X C a')) (hg : Gl X "abs" := by rfl) (hs : starEach [a] X.env = [(false, eval a X.env)] := by rfl) : PE X (.Call (.Name "abs" p) [a] [] pos) (tV G X C (.b1 .abs a')) := sB1 c_abs hg hm (by rfl) (by decide) (by decide) ha hs fun _ _ => rfl
theorem wlist (hm : X.mg "list" = none) (ha : PE X a (tV G X C a')) (hg : Gl X "list" := by rfl) (hs : starEach [a] X.env = [(false, eval a X.env)] := by rfl) : PE X (.Call (.Name "list" p) [a] [] pos) (tV G X C (.b1 .list a')) := sTy1 c_list hg hm (by rfl) (by decide) (by decide) ha hs fun _ _ => rfl
theorem wsorted (hm : X.mg "sorted" = none) (ha : PE X a (tV G X C a')) (hg : Gl X "sorted" := by rfl) (hs : starEach [a] X.env = [(false, eval a X.env)] := by rfl) : PE X (.Call (.Name "sorted" p) [a] [] pos) (tV G X C (.b1 .sorted a')) := sB1 c_sorted hg hm (by rfl) (by decide) (by decide) ha hs fun _ _ => rfl
theorem wmin2 (hm : X.mg "min" = none) (ha : PE X a (tV G X C a')) (hb : PE X b (tV G X C b')) (hg : Gl X "min" := by rfl) (hs : starEach [a, b] X.env = [(false, eval a X.env), (false, eval b X.env)] := by rfl) (hs2 : starEach [b] X.env = [(false, eval b X.env)] := by rfl) (hc : X.calm = true := by rfl) : PE X (.Call (.Name "min" p) [a, b] [] pos) (tV G X C (.mn2 a' b')) := sB2 (c_min2 hc) hg hm (by rfl) (by decide) (by decide) ha hb hs hs2 fun _ _ => rfl
theorem wisi (c : Ty) {n : String} {y : Str} {py : Pos} (hm : X.mg "isinstance" = none) (hmy : X.mg y = none) (ha : PE X a (tV G X C a')) (hn : tyOf c = some n := by rfl) (hg : Gl X "isinstance" := by rfl) (hgy : Gl X y := by rfl) (hv : bootBuiltins y = some (.type n) := by rfl) (hy : y ≠ "__name__" := by decide) (hdy : (y == ("__debug__" : Str)) = false := by decide)
    (hs : starEach [a, .Name y py] X.env = [(false, eval a X.env), (false, eval (.Name y py) X.env)] := by rfl) : PE X (.Call (.Name "isinstance" p) [a, .Name y py] [] pos) (tV G X C (.isi a' c)) := sV_isi hn hg hm hgy hmy hv hy hdy ha hs
theorem wpl {tg e : Expr} (hE : PE X e (tV G X C e')) (hev : ∀ σ s, ev C e' .i σ s = fin .i (ev C e' .v σ s) := by intro _ _; rfl) : PI X tg e (tI G X C e' .i false) := zaeb hE (.inl ⟨rfl, rfl⟩) hev
theorem wpj {tg e : Expr} (hE : PE X e (tV G X C e')) (hev : ∀ σ s, ev C e' .j σ s = fin .j (ev C e' .v σ s) := by intro _ _; rfl) : PI X tg e (tI G X C e' .j true) := zaeb hE (.inr ⟨rfl, rfl⟩) hev
theorem wr1 {tg : Expr} {m : Md} {z : Bool} (hmg : X.mg "range" = none) (ha : PE X a (tV G X C a')) (hm : m = .i ∨ m = .j := by first | exact .inl rfl | exact .inr rfl) (hg : Gl X "range" := by rfl) (hs : starEach [a] X.env = [(false, eval a X.env)] := by rfl) : PI X tg (.Call (.Name "range" p) [a] [] pos) (tI G X C (.rng1 a') m z) := sI_rng1 hm hg hmg ha hs
theorem wr2 {tg : Expr} {m : Md} {z : Bool} (hmg : X.mg "range" = none) (ha : PE X a (tV G X C a')) (hb : PE X b (tV G X C b')) (hm : m = .i ∨ m = .j := by first | exact .inl rfl | exact .inr rfl) (hg : Gl X "range" := by rfl) (hs : starEach [a, b] X.env = [(false, eval a X.env), (false, eval b X.env)] := by rfl) (hs2 : starEach [b] X.env = [(false, eval b X.env)] := by rfl) : PI X tg (.Call (.Name "range" p) [a, b] [] pos) (tI G X C (.rng2 a' b') m z) := sI_rng2 hm hg hmg ha hb hs hs2
theorem wg1 {i : Nat} {x : Str} (hN : X.N.Nodup) (hi : X.N[i]? = some x := by rfl) (hx : Loc X.env.scope x := by first | exact Or.inl rfl | exact Or.inr rfl) (hf : X.fn x = true ∨ X.env.scope.names.lookup x = some .local := by first | exact Or.inl rfl | exact Or.inr rfl) : PG X (.Name x pos) (gTg G (.one i)) := sG_one hN hi hx hf
theorem wgc {i : Nat} {js : List Nat} {x : Str} {es : List Expr} (hN : X.N.Nodup) (h2 : PGs X es (gMany js)) (hi : X.N[i]? = some x := by rfl) (hx : Loc X.env.scope x := by first | exact Or.inl rfl | exact Or.inr rfl) (hf : X.fn x = true ∨ X.env.scope.names.lookup x = some .local := by first | exact Or.inl rfl | exact Or.inr rfl) : PGs X (.Name x pos :: es) (gMany (i :: js)) := sG_cons hN hi hx hf h2
theorem wgm {js : List Nat} {es : List Expr} {k : Nat} (h : PGs X es (gMany js)) (hc : X.calm = true := by rfl) (hn : (assignEach es X.env).length = js.length := by rfl) (hst : (assignEach es X.env).findIdx? (·.1) = none := by rfl) : PG X (.Tuple es k pos) (gTg G (.many js)) := sG_many hc h hn hst
variable {i : Nat} {x : Str} {pos' : Pos}
theorem qasg (hN : X.N.Nodup) (he : PE X e (tV G X C e')) (hi : X.N[i]? = some x := by rfl) (hx : Loc X.env.scope x := by first | exact Or.inl rfl | exact Or.inr rfl) (hs : swapsWith e (some (.Name x pos')) pos.line X.env = pure false := by rfl) (hf : X.fn x = true ∨ X.env.scope.names.lookup x = some .local := by exact Or.inl rfl) : PS X (.Assign [.Name x pos'] e pos) (tS G X C (.asg i e')) := sS_asg hN hi hx he hs hf
theorem qmk (hN : X.N.Nodup) (he : PE X e (tO G X C e')) (hi : X.N[i]? = some x := by rfl) (hx : Loc X.env.scope x := by first | exact Or.inl rfl | exact Or.inr rfl) (hs : swapsWith e (some (.Name x pos')) pos.line X.env = pure false := by rfl) (hf : X.fn x = true ∨ X.env.scope.names.lookup x = some .local := by exact Or.inl rfl) : PS X (.Assign [.Name x pos'] e pos) (tS G X C (.mk i e')) := sS_mk hN hi hx he hs hf
theorem qapp {p1 cpos : Pos} (he : PE X e (tV G X C e')) (hN : X.N[i]? = some x := by rfl) (hv : Vis X.env.scope x := by first | exact Or.inl rfl | exact Or.inr (Or.inl rfl)) (hd : (x == ("__debug__" : Str)) = false := by decide) (hcd : (x == ("__classdict__" : Str)) = false := by decide) (hst : starEach [e] X.env = [(false, eval e X.env)] := by rfl)
    (hline : (p2.endLine == cpos.line) = true := by rfl) (hbase : attributeBase (.Name x p1) "append" X.env (eval (.Name x p1) X.env) = eval (.Name x p1) X.env := by rfl)
    (hfew : ((backTo cpos (starEach [e] X.env)).all (fun x => !x.1) && (backToKw cpos (keywordEach [] X.env)).all (fun x => x.1.isSome) && decide ([e].length + ([] : List Keyword).length + (if ([] : List Keyword).isEmpty then 0 else 1) < 30)) = true := by rfl)
    (hs : swapsWith (.Call (.Attribute (.Name x p1) "append" p2) [e] [] cpos) none pos.line X.env = pure false := by rfl) :
    PS X (.Expr (.Call (.Attribute (.Name x p1) "append" p2) [e] [] cpos) pos) (tS G X C (.app i e')) := sS_app hN hv hd hcd he hst hline hbase hfew hs
end
section
variable {G : Gx} {X : Cx} {fs : List Fn} {sub : Nat → Nat → Bool} {k fi : Nat} {fa : Addr} {fd : FuncData} {ps : List Str} {e₀ : Expr} {es : List Expr} {es' : List IP.E} {x : Str} {p pos : Pos}
end
end IP
end
section
set_option Elab.async false
set_option linter.all false
set_option maxRecDepth 100000
namespace IP
open PySem PySem.Spec L2
def nth {α : Type} : List α → α → Nat → α
  | [], z, _ => z
  | a :: _, _, 0 => a
  | _ :: r, z, n + 1 => nth r z n
theorem fn_top {G : Gx} {P : Program} {w : World} {K : PySem.W.Frag} {mg : Str → Option Value} {base : Heap} {k : Nat} {f : Addr} {fd : FuncData} {ps : List Str} {sp : Sp} (F : FnOk P w K mg base (CXE G P w base) k f fd ps sp) : FnOk P w K mg base CX0 k f fd ps (fun vs H Q _ => sp vs H Q fun _ _ _ => False) := by
  refine ⟨fun vs H Q E h => F.len vs H Q _ h, fun A outer s H args us vs Q E hr e0 hb hv h => codeAny_mono (F.run A outer s H args us vs Q (fun _ _ _ => False) hr e0 hb hv h) fun r s' q => ?_⟩
  cases r with
  | ok fl =>
    cases fl with
    | ret u => exact q
    | next => exact q
    | brk => exact q
    | cont => exact q
  | error e =>
    obtain ⟨a, cls, t, H', h, B, _, _, _, _, _, _, _, _, z⟩ := q
    exact z
section
variable {G : Gx} {X : Cx} {fs : List Fn} {sub : Nat → Nat → Bool} {k fi : Nat} {fa : Addr} {fd : FuncData} {ps : List Str} {a b e j o e₀ : Expr} {es : List Expr} {a' b' e' j' : IP.E} {es' : List IP.E} {x m y n : Str} {p p1 p2 pos pos' apos cpos : Pos} {ds : List Value} {dvs : List V} {dts : List T} {c f i : Nat}
theorem xcall (F : FnOk X.prog X.w X.K X.mg X.base (CXE G X.prog X.w X.base) (2 * k) fa fd ps (spG G (cfX fs sub k).cf (cfX fs sub k).fr fi)) (hr : Room (2 * k + 1) X.A) (hm : X.mg x = some (.ref fa)) (hk : PySem.W.keepIn X.K (.ref fa) = true) (hb : Binds X.K fd ps ds) (hd : Vals dvs ds) (hdt : dts.mapM cstV = some dvs) (ha : PA X (e₀ :: es) (tR G X (cfX fs sub k) es'))
    (hf : frOf fs fi = false := by rfl) (hg : Gl X x := by rfl) (hdb : (x == ("__debug__" : Str)) = false := by decide) (he : starEach (e₀ :: es) X.env = (false, eval e₀ X.env) :: starEach es X.env := by rfl) (hpl : (backTo pos (starEach es X.env)).any (·.1) = false := by rfl) :
    PE X (.Call (.Name x p) (e₀ :: es) [] pos) (tV G X (cfX fs sub k) (.call fi es' dts)) := sV_callX hf F (hr.mono (Nat.le_succ _)) hg hm hk hb hd hdt ha hdb he hpl
end
section
variable {G : Gx} {X : Cx} {C : Cf} {a b e j o e₀ : Expr} {es : List Expr} {a' b' e' j' : IP.E} {es' : List IP.E} {x m y n : Str} {p p1 p2 pos pos' apos cpos np mp yp hpos : Pos} {c f i : Nat}
theorem yraise {ms : Str} {jj : Nat} (hm : X.mg x = some (.ref (G.cA c))) (hq : PySem.W.excIn X.K (G.cA c) [.type "ValueError", .type "Exception", .type "BaseException", .type "object"] "ValueError.__new__" = true) (hc : X.calm = true := by rfl) (hg : Gl X x := by rfl) (hdb : (x == ("__debug__" : Str)) = false := by decide)
    (he : starEach [.Constant (.str ms) jj mp] X.env = [(false, eval (.Constant (.str ms) jj mp) X.env)] := by rfl) : PS X (.Raise (some (.Call (.Name x np) [.Constant (.str ms) jj mp] [] cpos)) none pos) (tS G X C (.raise c)) := sS_raise hc hg hm hq PySem.F.excBase_ValueError hdb he
theorem ywhl {cc : Expr} {c' : IP.E} {bb : List Stmt} {b' : List S} (hp : PassesOwn (model X.prog X.w) X.A X.env X.xe) (hc : PT X cc (tT G X C c')) (hb : PSs X bb (tSs G X C b')) (hwl : C.wl = whileL := by rfl) : PS X (.While cc bb [] pos) (tS G X C (.whl c' b')) := sS_whl hwl hp hc hb
theorem yfor {tg iter : Expr} {it' : IP.E} {g : Tg} {bb : List Stmt} {b' : List S} (hp : PassesOwn (model X.prog X.w) X.A X.env X.xe) (hI : PI X tg iter (tI G X C it' .j true)) (hg : PG X tg (gTg G g)) (hb : PSs X bb (tSs G X C b')) (hc : X.calm = true := by rfl)
    (hs : ∀ x, foldedSetIterable iter X.env x = pure x := by intro _; rfl) (hit : ∀ i, it' ≠ .var i := by intro _ h; cases h) : PS X (.For tg iter bb [] pos) (tS G X C (.for_ g it' b')) := sS_for hp hc hI hg hb hs hit
theorem yenm {es : List Expr} {kk : Nat} {p1 : Pos} {js : List Nat} {bb : List Stmt} {b' : List S} (hp : PassesOwn (model X.prog X.w) X.A X.env X.xe) (hmg : X.mg "enumerate" = none) (ha : PE X a (tV G X C a')) (hg : PG X (.Tuple es kk p1) (gTg G (.many js))) (hb : PSs X bb (tSs G X C b')) (hc : X.calm = true := by rfl) (hgl : Gl X "enumerate" := by rfl)
    (hst : starEach [a] X.env = [(false, eval a X.env)] := by rfl) (hs : ∀ x, foldedSetIterable (.Call (.Name "enumerate" p) [a] [] p2) X.env x = pure x := by intro _; rfl) : PS X (.For (.Tuple es kk p1) (.Call (.Name "enumerate" p) [a] [] p2) bb [] pos) (tS G X C (.for_ (.many js) (.enm a') b')) := sS_enm hp hc hgl hmg ha hst hg hb hs
end
end IP
end
section
set_option Elab.async false
set_option linter.all false
set_option maxRecDepth 100000
set_option maxHeartbeats 0
namespace IP
open PySem PySem.Spec L2
namespace Pg
def top (i : Nat) : Stmt := PySem.Challenge.pw_gradecut_k10_hem_of_an_oblong.main.body.getD i (.Pass ⟨0, 0, 0, 0⟩)
abbrev sz12 : Stmt := top 1
def nmz12 : List Str := ["corners", "i", "j"]
theorem ndz12 : (nmz12).Nodup := by decide +kernel
abbrev bz12_L0 : List S := [(.ifs (.call 1 [(.var 0), (.var 1), (.var 2)] []) [(.ret (.tup [(.var 1), (.var 2)]))] [])]
abbrev bz12_L1 : List S := [(.for_ (.one 2) (.rng2 (.var 1) (.b1 .len (.var 0))) bz12_L0)]
def bz12 : List S := [(.for_ (.one 1) (.rng1 (.b1 .len (.var 0))) bz12_L1),
  (.ret (.cst .non))]
abbrev Fz12 : Fn := ⟨1, 3, false, bz12⟩
theorem scz12 : FnScope nmz12 ["corners"] (zaaa sz12) := ⟨rfl, rfl, rfl, ndz12, rfl, by decide +kernel, by decide +kernel⟩
abbrev sz24 : Stmt := top 2
def nmz24 : List Str := ["corners", "i", "j", "one", "two"]
theorem ndz24 : (nmz24).Nodup := by decide +kernel
def bz24 : List S := [(.asg 3 (.call 2 [(.var 0), (.var 1)] [])),
  (.asg 4 (.call 2 [(.var 0), (.var 2)] [])),
  (.ifs (.cmp .eq (.var 1) (.var 2)) [(.ret (.cmp .eq (.sub (.var 3) (.cst (.int 0))) (.sub (.var 3) (.cst (.int 1)))))] []),
  (.ifs (.cmp .eq (.var 2) (.bin .add (.var 1) (.cst (.int 1)))) [(.ret (.call 3 [(.sub (.var 3) (.cst (.int 1))), (.sub (.var 3) (.cst (.int 0))), (.sub (.var 4) (.cst (.int 1)))] []))] []),
  (.ifs (.and (.cmp .eq (.bin .add (.var 2) (.cst (.int 1))) (.b1 .len (.var 0))) (.cmp .eq (.var 1) (.cst (.int 0)))) [(.ret (.call 3 [(.sub (.var 3) (.cst (.int 0))), (.sub (.var 3) (.cst (.int 1))), (.sub (.var 4) (.cst (.int 0)))] []))] []),
  (.ret (.call 4 [(.var 3), (.var 4)] []))]
abbrev Fz24 : Fn := ⟨3, 5, false, bz24⟩
theorem scz24 : FnScope nmz24 ["corners", "i", "j"] (zaaa sz24) := ⟨rfl, rfl, rfl, ndz24, rfl, by decide +kernel, by decide +kernel⟩
abbrev sz23 : Stmt := top 3
def nmz23 : List Str := ["corners", "k"]
theorem ndz23 : (nmz23).Nodup := by decide +kernel
def bz23 : List S := [(.ret (.tup [(.sub (.var 0) (.var 1)), (.sub (.var 0) (.bin .mod (.bin .add (.var 1) (.cst (.int 1))) (.b1 .len (.var 0))))]))]
abbrev Fz23 : Fn := ⟨2, 2, false, bz23⟩
theorem scz23 : FnScope nmz23 ["corners", "k"] (zaaa sz23) := ⟨rfl, rfl, rfl, ndz23, rfl, by decide +kernel, by decide +kernel⟩
abbrev sz21 : Stmt := top 4
def nmz21 : List Str := ["corner", "one", "two"]
theorem ndz21 : (nmz21).Nodup := by decide +kernel
def bz21 : List S := [(.ret (.and (.cmp .eq (.call 7 [(.var 0), (.var 1), (.var 2)] []) (.cst (.int 0))) (.cmp .gt (.call 8 [(.var 0), (.var 1), (.var 2)] []) (.cst (.int 0)))))]
abbrev Fz21 : Fn := ⟨3, 3, false, bz21⟩
theorem scz21 : FnScope nmz21 ["corner", "one", "two"] (zaaa sz21) := ⟨rfl, rfl, rfl, ndz21, rfl, by decide +kernel, by decide +kernel⟩
abbrev sz14 : Stmt := top 5
def nmz14 : List Str := ["one", "two"]
theorem ndz14 : (nmz14).Nodup := by decide +kernel
def bz14 : List S := [(.ifs (.or (.not (.call 5 [(.var 0), (.var 1), (.cst (.int 0))] [])) (.not (.call 5 [(.var 0), (.var 1), (.cst (.int 1))] []))) [(.ret (.cst (.bl false)))] []),
  (.ret (.and (.call 6 [(.var 0), (.var 1)] []) (.call 6 [(.var 1), (.var 0)] [])))]
abbrev Fz14 : Fn := ⟨2, 2, false, bz14⟩
theorem scz14 : FnScope nmz14 ["one", "two"] (zaaa sz14) := ⟨rfl, rfl, rfl, ndz14, rfl, by decide +kernel, by decide +kernel⟩
abbrev sz25 : Stmt := top 6
def nmz25 : List Str := ["one", "two", "axis", "one_span", "two_span"]
theorem ndz25 : (nmz25).Nodup := by decide +kernel
def bz25 : List S := [(.asg 3 (.b1 .sorted (.lst [(.sub (.sub (.var 0) (.cst (.int 0))) (.var 2)), (.sub (.sub (.var 0) (.cst (.int 1))) (.var 2))]))),
  (.asg 4 (.b1 .sorted (.lst [(.sub (.sub (.var 1) (.cst (.int 0))) (.var 2)), (.sub (.sub (.var 1) (.cst (.int 1))) (.var 2))]))),
  (.ret (.and (.cmp .le (.sub (.var 3) (.cst (.int 0))) (.sub (.var 4) (.cst (.int 1)))) (.cmp .le (.sub (.var 4) (.cst (.int 0))) (.sub (.var 3) (.cst (.int 1))))))]
abbrev Fz25 : Fn := ⟨3, 5, false, bz25⟩
theorem scz25 : FnScope nmz25 ["one", "two", "axis"] (zaaa sz25) := ⟨rfl, rfl, rfl, ndz25, rfl, by decide +kernel, by decide +kernel⟩
abbrev sz20 : Stmt := top 7
def nmz20 : List Str := ["side", "line"]
theorem ndz20 : (nmz20).Nodup := by decide +kernel
def bz20 : List S := [(.ret (.cmp .le (.bin .mul (.call 7 [(.sub (.var 1) (.cst (.int 0))), (.sub (.var 1) (.cst (.int 1))), (.sub (.var 0) (.cst (.int 0)))] []) (.call 7 [(.sub (.var 1) (.cst (.int 0))), (.sub (.var 1) (.cst (.int 1))), (.sub (.var 0) (.cst (.int 1)))] [])) (.cst (.int 0))))]
abbrev Fz20 : Fn := ⟨2, 2, false, bz20⟩
theorem scz20 : FnScope nmz20 ["side", "line"] (zaaa sz20) := ⟨rfl, rfl, rfl, ndz20, rfl, by decide +kernel, by decide +kernel⟩
abbrev sz29 : Stmt := top 8
def nmz29 : List Str := ["start", "one", "two"]
theorem ndz29 : (nmz29).Nodup := by decide +kernel
def bz29 : List S := [(.ret (.bin .sub (.bin .mul (.bin .sub (.sub (.var 1) (.cst (.int 0))) (.sub (.var 0) (.cst (.int 0)))) (.bin .sub (.sub (.var 2) (.cst (.int 1))) (.sub (.var 0) (.cst (.int 1))))) (.bin .mul (.bin .sub (.sub (.var 1) (.cst (.int 1))) (.sub (.var 0) (.cst (.int 1)))) (.bin .sub (.sub (.var 2) (.cst (.int 0))) (.sub (.var 0) (.cst (.int 0)))))))]
abbrev Fz29 : Fn := ⟨3, 3, false, bz29⟩
theorem scz29 : FnScope nmz29 ["start", "one", "two"] (zaaa sz29) := ⟨rfl, rfl, rfl, ndz29, rfl, by decide +kernel, by decide +kernel⟩
abbrev sz10 : Stmt := top 9
def nmz10 : List Str := ["start", "one", "two"]
theorem ndz10 : (nmz10).Nodup := by decide +kernel
def bz10 : List S := [(.ret (.bin .add (.bin .mul (.bin .sub (.sub (.var 1) (.cst (.int 0))) (.sub (.var 0) (.cst (.int 0)))) (.bin .sub (.sub (.var 2) (.cst (.int 0))) (.sub (.var 0) (.cst (.int 0))))) (.bin .mul (.bin .sub (.sub (.var 1) (.cst (.int 1))) (.sub (.var 0) (.cst (.int 1)))) (.bin .sub (.sub (.var 2) (.cst (.int 1))) (.sub (.var 0) (.cst (.int 1)))))))]
abbrev Fz10 : Fn := ⟨3, 3, false, bz10⟩
theorem scz10 : FnScope nmz10 ["start", "one", "two"] (zaaa sz10) := ⟨rfl, rfl, rfl, ndz10, rfl, by decide +kernel, by decide +kernel⟩
abbrev sz26 : Stmt := top 14
def nmz26 : List Str := ["one", "two"]
theorem ndz26 : (nmz26).Nodup := by decide +kernel
def bz26 : List S := [(.ret (.bin .add (.bin .pow (.bin .sub (.sub (.var 1) (.cst (.int 0))) (.sub (.var 0) (.cst (.int 0)))) (.cst (.int 2))) (.bin .pow (.bin .sub (.sub (.var 1) (.cst (.int 1))) (.sub (.var 0) (.cst (.int 1)))) (.cst (.int 2)))))]
abbrev Fz26 : Fn := ⟨2, 2, false, bz26⟩
theorem scz26 : FnScope nmz26 ["one", "two"] (zaaa sz26) := ⟨rfl, rfl, rfl, ndz26, rfl, by decide +kernel, by decide +kernel⟩
abbrev sz31 : Stmt := top 15
abbrev iz31 : Nat := 10
def nmz31 : List Str := ["number", "root", "nearer"]
theorem ndz31 : (nmz31).Nodup := by decide +kernel
abbrev bz31_L0 : List S := [(.asg 1 (.var 2)),
  (.asg 2 (.bin .fdiv (.bin .add (.var 1) (.bin .fdiv (.var 0) (.var 1))) (.cst (.int 2))))]
def bz31 : List S := [(.asg 1 (.var 0)),
  (.asg 2 (.bin .fdiv (.bin .add (.var 0) (.cst (.int 1))) (.cst (.int 2)))),
  (.whl (.cmp .lt (.var 2) (.var 1)) bz31_L0),
  (.ret (.var 1))]
abbrev Fz31 : Fn := ⟨1, 3, false, bz31⟩
theorem scz31 : FnScope nmz31 ["number"] (zaaa sz31) := ⟨rfl, rfl, rfl, ndz31, rfl, by decide +kernel, by decide +kernel⟩
abbrev sz16 : Stmt := top 17
abbrev iz16 : Nat := 11
def nmz16 : List Str := ["part", "whole", "divisor"]
theorem ndz16 : (nmz16).Nodup := by decide +kernel
def bz16 : List S := [(.asg 2 (.call 12 [(.b1 .abs (.var 0)), (.var 1)] [])),
  (.ret (.tup [(.bin .fdiv (.var 0) (.var 2)), (.bin .fdiv (.var 1) (.var 2))]))]
abbrev Fz16 : Fn := ⟨2, 3, false, bz16⟩
theorem scz16 : FnScope nmz16 ["part", "whole"] (zaaa sz16) := ⟨rfl, rfl, rfl, ndz16, rfl, by decide +kernel, by decide +kernel⟩
abbrev sz13 : Stmt := top 18
abbrev iz13 : Nat := 12
def nmz13 : List Str := ["one", "two", "rest"]
theorem ndz13 : (nmz13).Nodup := by decide +kernel
abbrev zadl : List S := [(.asg 2 (.bin .mod (.var 0) (.var 1))),
  (.asg 0 (.var 1)),
  (.asg 1 (.var 2))]
def bz13 : List S := [(.whl (.cmp .ne (.var 1) (.cst (.int 0))) zadl),
  (.ret (.var 0))]
abbrev Fz13 : Fn := ⟨2, 3, false, bz13⟩
theorem scz13 : FnScope nmz13 ["one", "two"] (zaaa sz13) := ⟨rfl, rfl, rfl, ndz13, rfl, by decide +kernel, by decide +kernel⟩
abbrev sz18 : Stmt := top 20
def nmz18 : List Str := ["corners", "breadth", "leftward", "outward", "?4", "?5"]
theorem ndz18 : (nmz18).Nodup := by decide +kernel
def zacq : List Str := ["corners", "breadth", "leftward", "outward", "k", "!5"]
theorem zae4 : (zacq).Nodup := by decide +kernel
def zaea : List Str := ["corners", "breadth", "leftward", "outward", "!4", "k"]
theorem ndz18_c1 : (zaea).Nodup := by decide +kernel
abbrev zada : E := (.call 15 [(.var 0), (.var 4), (.var 2)] [])
abbrev zaem : E := (.call 16 [(.sub (.var 0) (.var 5)), (.sub (.var 3) (.bin .sub (.var 5) (.cst (.int 1)))), (.sub (.var 3) (.var 5)), (.var 1)] [])
def bz18 : List S := [(.ifs (.cmp .notN (.call 0 [(.var 0)] []) (.cst .non)) [(.raise 1)] []),
  (.asg 2 (.call 14 [(.var 0)] [])),
  (.asg 3 (.comp zada (.one 4) (.rng1 (.b1 .len (.var 0))))),
  (.ret (.comp zaem (.one 5) (.rng1 (.b1 .len (.var 0)))))]
abbrev Fz18 : Fn := ⟨2, 6, false, bz18⟩
theorem scz18 : FnScope nmz18 ["corners", "breadth"] (zaaa sz18) := ⟨rfl, rfl, rfl, ndz18, rfl, by decide +kernel, by decide +kernel⟩
abbrev sz22 : Stmt := top 21
def nmz22 : List Str := ["corners", "doubled", "k", "corner", "before"]
theorem ndz22 : (nmz22).Nodup := by decide +kernel
abbrev bz22_L0 : List S := [(.asg 4 (.sub (.var 0) (.bin .sub (.var 2) (.cst (.int 1))))),
  (.asg 1 (.bin .sub (.bin .add (.var 1) (.bin .mul (.sub (.var 4) (.cst (.int 0))) (.sub (.var 3) (.cst (.int 1))))) (.bin .mul (.sub (.var 4) (.cst (.int 1))) (.sub (.var 3) (.cst (.int 0))))))]
def bz22 : List S := [(.asg 1 (.cst (.int 0))),
  (.for_ (.many [2, 3]) (.enm (.var 0)) bz22_L0),
  (.ret (.cmp .gt (.var 1) (.cst (.int 0))))]
abbrev Fz22 : Fn := ⟨1, 5, false, bz22⟩
theorem scz22 : FnScope nmz22 ["corners"] (zaaa sz22) := ⟨rfl, rfl, rfl, ndz22, rfl, by decide +kernel, by decide +kernel⟩
abbrev sz19 : Stmt := top 22
def nmz19 : List Str := ["corners", "k", "leftward", "ends", "across", "up", "divisor", "p", "q"]
theorem ndz19 : (nmz19).Nodup := by decide +kernel
def bz19 : List S := [(.asg 3 (.call 2 [(.var 0), (.var 1)] [])),
  (.asg 4 (.bin .sub (.sub (.sub (.var 3) (.cst (.int 1))) (.cst (.int 0))) (.sub (.sub (.var 3) (.cst (.int 0))) (.cst (.int 0))))),
  (.asg 5 (.bin .sub (.sub (.sub (.var 3) (.cst (.int 1))) (.cst (.int 1))) (.sub (.sub (.var 3) (.cst (.int 0))) (.cst (.int 1))))),
  (.asg 6 (.call 12 [(.b1 .abs (.var 4)), (.b1 .abs (.var 5))] [])),
  (.asg 7 (.bin .fdiv (.var 4) (.var 6))),
  (.asg 8 (.bin .fdiv (.var 5) (.var 6))),
  (.ret (.ife (.var 2) (.tup [(.var 8), (.neg (.var 7))]) (.tup [(.neg (.var 8)), (.var 7)])))]
abbrev Fz19 : Fn := ⟨3, 9, false, bz19⟩
theorem scz19 : FnScope nmz19 ["corners", "k", "leftward"] (zaaa sz19) := ⟨rfl, rfl, rfl, ndz19, rfl, by decide +kernel, by decide +kernel⟩
abbrev sz15 : Stmt := top 23
def nmz15 : List Str := ["corner", "before", "after", "breadth", "cut"]
theorem ndz15 : (nmz15).Nodup := by decide +kernel
def bz15 : List S := [(.asg 4 (.bin .sub (.bin .mul (.sub (.var 1) (.cst (.int 0))) (.sub (.var 2) (.cst (.int 1)))) (.bin .mul (.sub (.var 1) (.cst (.int 1))) (.sub (.var 2) (.cst (.int 0)))))),
  (.ifs (.cmp .eq (.var 4) (.cst (.int 0))) [(.ret (.call 17 [(.var 0), (.var 2), (.var 3)] []))] []),
  (.ret (.call 18 [(.var 0), (.var 1), (.var 2), (.var 4), (.var 3)] []))]
abbrev Fz15 : Fn := ⟨4, 5, false, bz15⟩
theorem scz15 : FnScope nmz15 ["corner", "before", "after", "breadth"] (zaaa sz15) := ⟨rfl, rfl, rfl, ndz15, rfl, by decide +kernel, by decide +kernel⟩
abbrev sz11 : Stmt := top 24
def nmz11 : List Str := ["corner", "vector", "breadth", "root", "across", "up"]
theorem ndz11 : (nmz11).Nodup := by decide +kernel
def bz11 : List S := [(.asg 3 (.call 20 [(.var 1)] [])),
  (.asg 4 (.bin .mul (.bin .mul (.cst (.int 1000)) (.var 2)) (.sub (.var 1) (.cst (.int 0))))),
  (.asg 5 (.bin .mul (.bin .mul (.cst (.int 1000)) (.var 2)) (.sub (.var 1) (.cst (.int 1))))),
  (.ret (.tup [(.call 21 [(.sub (.var 0) (.cst (.int 0))), (.var 4), (.var 3)] []), (.call 21 [(.sub (.var 0) (.cst (.int 1))), (.var 5), (.var 3)] [])]))]
abbrev Fz11 : Fn := ⟨3, 6, false, bz11⟩
theorem scz11 : FnScope nmz11 ["corner", "vector", "breadth"] (zaaa sz11) := ⟨rfl, rfl, rfl, ndz11, rfl, by decide +kernel, by decide +kernel⟩
abbrev sz30 : Stmt := top 25
def nmz30 : List Str := ["corner", "before", "after", "cut", "breadth", "before_root", "after_root", "before_product", "after_product", "across", "up", "whole"]
theorem ndz30 : (nmz30).Nodup := by decide +kernel
def bz30 : List S := [(.asg 5 (.call 20 [(.var 1)] [])),
  (.asg 6 (.call 20 [(.var 2)] [])),
  (.asg 7 (.bin .mul (.bin .mul (.bin .mul (.cst (.int 1000)) (.var 4)) (.call 19 [(.var 1)] [])) (.var 6))),
  (.asg 8 (.bin .mul (.bin .mul (.bin .mul (.cst (.int 1000)) (.var 4)) (.call 19 [(.var 2)] [])) (.var 5))),
  (.asg 9 (.bin .sub (.bin .mul (.var 7) (.sub (.var 2) (.cst (.int 1)))) (.bin .mul (.var 8) (.sub (.var 1) (.cst (.int 1)))))),
  (.asg 10 (.bin .sub (.bin .mul (.var 8) (.sub (.var 1) (.cst (.int 0)))) (.bin .mul (.var 7) (.sub (.var 2) (.cst (.int 0)))))),
  (.asg 11 (.bin .mul (.bin .mul (.var 3) (.var 5)) (.var 6))),
  (.ret (.tup [(.call 21 [(.sub (.var 0) (.cst (.int 0))), (.var 9), (.var 11)] []), (.call 21 [(.sub (.var 0) (.cst (.int 1))), (.var 10), (.var 11)] [])]))]
abbrev Fz30 : Fn := ⟨5, 12, false, bz30⟩
theorem scz30 : FnScope nmz30 ["corner", "before", "after", "cut", "breadth"] (zaaa sz30) := ⟨rfl, rfl, rfl, ndz30, rfl, by decide +kernel, by decide +kernel⟩
abbrev sz27 : Stmt := top 26
def nmz27 : List Str := ["vector"]
theorem ndz27 : (nmz27).Nodup := by decide +kernel
def bz27 : List S := [(.ret (.call 9 [(.tup [(.cst (.int 0)), (.cst (.int 0))]), (.var 0)] []))]
abbrev Fz27 : Fn := ⟨1, 1, false, bz27⟩
theorem scz27 : FnScope nmz27 ["vector"] (zaaa sz27) := ⟨rfl, rfl, rfl, ndz27, rfl, by decide +kernel, by decide +kernel⟩
abbrev sz28 : Stmt := top 27
def nmz28 : List Str := ["vector"]
theorem ndz28 : (nmz28).Nodup := by decide +kernel
def bz28 : List S := [(.ret (.call 10 [(.bin .mul (.cst (.int 1000000)) (.call 19 [(.var 0)] []))] []))]
abbrev Fz28 : Fn := ⟨1, 1, false, bz28⟩
theorem scz28 : FnScope nmz28 ["vector"] (zaaa sz28) := ⟨rfl, rfl, rfl, ndz28, rfl, by decide +kernel, by decide +kernel⟩
abbrev sz17 : Stmt := top 28
def nmz17 : List Str := ["number", "part", "whole"]
theorem ndz17 : (nmz17).Nodup := by decide +kernel
def bz17 : List S := [(.ifs (.cmp .lt (.var 2) (.cst (.int 0))) [(.ret (.call 21 [(.var 0), (.neg (.var 1)), (.neg (.var 2))] []))] []),
  (.ret (.call 11 [(.bin .add (.bin .mul (.var 0) (.var 2)) (.var 1)), (.var 2)] []))]
abbrev Fz17 : Fn := ⟨3, 3, false, bz17⟩
theorem scz17 : FnScope nmz17 ["number", "part", "whole"] (zaaa sz17) := ⟨rfl, rfl, rfl, ndz17, rfl, by decide +kernel, by decide +kernel⟩
abbrev sz9 : Stmt := top 30
abbrev iz9 : Nat := 22
def nmz9 : List Str := ["_law_found"]
theorem ndz9 : (nmz9).Nodup := by decide +kernel
def bz9 : List S := [(.ret (.and (.isi (.var 0) .int) (.not (.isi (.var 0) .bool))))]
abbrev Fz9 : Fn := ⟨1, 1, false, bz9⟩
theorem scz9 : FnScope nmz9 ["_law_found"] (zaaa sz9) := ⟨rfl, rfl, rfl, ndz9, rfl, by decide +kernel, by decide +kernel⟩
abbrev sz2 : Stmt := top 31
abbrev iz2 : Nat := 23
def nmz2 : List Str := ["_law_script", "_law_k"]
theorem ndz2 : (nmz2).Nodup := by decide +kernel
def bz2 : List S := [(.ifs (.cmp .lt (.var 1) (.b1 .len (.var 0))) [(.ret (.sub (.var 0) (.var 1)))] []),
  (.ret (.cst (.int 0)))]
abbrev Fz2 : Fn := ⟨2, 2, false, bz2⟩
theorem scz2 : FnScope nmz2 ["_law_script", "_law_k"] (zaaa sz2) := ⟨rfl, rfl, rfl, ndz2, rfl, by decide +kernel, by decide +kernel⟩
abbrev sz3 : Stmt := top 32
def nmz3 : List Str := ["_law_cell", "_law_most"]
theorem ndz3 : (nmz3).Nodup := by decide +kernel
def bz3 : List S := [(.ifs (.cmp .eq (.bin .mod (.var 0) (.cst (.int 5))) (.cst (.int 1))) [(.ret (.sub (.lst [(.cst (.int 0)), (.cst (.int 1)), (.neg (.cst (.int 1))), (.var 1), (.bin .sub (.cst (.int 0)) (.var 1))]) (.bin .mod (.bin .fdiv (.var 0) (.cst (.int 5))) (.cst (.int 5)))))] []),
  (.ret (.bin .sub (.bin .mod (.bin .fdiv (.var 0) (.cst (.int 5))) (.bin .add (.bin .mul (.cst (.int 2)) (.var 1)) (.cst (.int 1)))) (.var 1)))]
abbrev Fz3 : Fn := ⟨2, 2, false, bz3⟩
theorem scz3 : FnScope nmz3 ["_law_cell", "_law_most"] (zaaa sz3) := ⟨rfl, rfl, rfl, ndz3, rfl, by decide +kernel, by decide +kernel⟩
abbrev sz5 : Stmt := top 33
abbrev iz5 : Nat := 25
def nmz5 : List Str := ["_law_found", "_law_due", "_law_k"]
theorem ndz5 : (nmz5).Nodup := by decide +kernel
abbrev bz5_L0 : List S := [(.ifs (.or (.not (.call 22 [(.sub (.var 0) (.var 2))] [])) (.cmp .ne (.sub (.var 0) (.var 2)) (.sub (.var 1) (.var 2)))) [(.ret (.cst (.bl false)))] [])]
def bz5 : List S := [(.ifs (.or (.not (.isi (.var 0) .tuple)) (.cmp .ne (.b1 .len (.var 0)) (.b1 .len (.var 1)))) [(.ret (.cst (.bl false)))] []),
  (.for_ (.one 2) (.rng1 (.b1 .len (.var 1))) bz5_L0),
  (.ret (.cst (.bl true)))]
abbrev Fz5 : Fn := ⟨2, 3, false, bz5⟩
theorem scz5 : FnScope nmz5 ["_law_found", "_law_due"] (zaaa sz5) := ⟨rfl, rfl, rfl, ndz5, rfl, by decide +kernel, by decide +kernel⟩
abbrev sz8 : Stmt := top 34
abbrev iz8 : Nat := 26
def nmz8 : List Str := ["_law_found", "_law_due", "_law_k"]
theorem ndz8 : (nmz8).Nodup := by decide +kernel
abbrev bz8_L0 : List S := [(.ifs (.not (.call 25 [(.sub (.var 0) (.var 2)), (.sub (.var 1) (.var 2))] [])) [(.ret (.cst (.bl false)))] [])]
def bz8 : List S := [(.ifs (.or (.not (.isi (.var 0) .list)) (.cmp .ne (.b1 .len (.var 0)) (.b1 .len (.var 1)))) [(.ret (.cst (.bl false)))] []),
  (.for_ (.one 2) (.rng1 (.b1 .len (.var 1))) bz8_L0),
  (.ret (.cst (.bl true)))]
abbrev Fz8 : Fn := ⟨2, 3, false, bz8⟩
theorem scz8 : FnScope nmz8 ["_law_found", "_law_due"] (zaaa sz8) := ⟨rfl, rfl, rfl, ndz8, rfl, by decide +kernel, by decide +kernel⟩
abbrev sz4 : Stmt := top 35
def nmz4 : List Str := ["_law_many", "_law_long", "_law_more", "?3"]
theorem ndz4 : (nmz4).Nodup := by decide +kernel
def nmz4_c0 : List Str := ["_law_many", "_law_long", "_law_more", "_law_k"]
theorem ndz4_c0 : (nmz4_c0).Nodup := by decide +kernel
abbrev ez4_C0 : E := (.bin .fdiv (.bin .mul (.var 1) (.bin .add (.var 3) (.cst (.int 1)))) (.bin .add (.var 2) (.cst (.int 1))))
def bz4 : List S := [(.asg 2 (.mn2 (.var 0) (.bin .sub (.var 1) (.cst (.int 1))))),
  (.ret (.bin .add (.lst [(.cst (.int 0))]) (.comp ez4_C0 (.one 3) (.rng1 (.var 2)))))]
abbrev Fz4 : Fn := ⟨2, 4, false, bz4⟩
theorem scz4 : FnScope nmz4 ["_law_many", "_law_long"] (zaaa sz4) := ⟨rfl, rfl, rfl, ndz4, rfl, by decide +kernel, by decide +kernel⟩
abbrev sz6 : Stmt := top 36
def nmz6 : List Str := ["_law_script", "_law_broad", "_law_high", "_law_line", "_law_far"]
theorem ndz6 : (nmz6).Nodup := by decide +kernel
abbrev bz6_L0 : List S := [(.app 3 (.tup [(.var 4), (.cst (.int 0))]))]
abbrev bz6_L1 : List S := [(.app 3 (.tup [(.var 1), (.var 4)]))]
abbrev bz6_L2 : List S := [(.app 3 (.tup [(.bin .sub (.var 1) (.var 4)), (.var 2)]))]
abbrev bz6_L3 : List S := [(.app 3 (.tup [(.cst (.int 0)), (.bin .sub (.var 2) (.var 4))]))]
def bz6 : List S := [(.mk 3 (.lst [])),
  (.for_ (.one 4) (.call 27 [(.bin .mod (.call 23 [(.var 0), (.cst (.int 6))] []) (.cst (.int 6))), (.var 1)] []) bz6_L0),
  (.for_ (.one 4) (.call 27 [(.bin .mod (.call 23 [(.var 0), (.cst (.int 7))] []) (.cst (.int 6))), (.var 2)] []) bz6_L1),
  (.for_ (.one 4) (.call 27 [(.bin .mod (.call 23 [(.var 0), (.cst (.int 8))] []) (.cst (.int 6))), (.var 1)] []) bz6_L2),
  (.for_ (.one 4) (.call 27 [(.bin .mod (.call 23 [(.var 0), (.cst (.int 9))] []) (.cst (.int 6))), (.var 2)] []) bz6_L3),
  (.frz 3),
  (.ret (.var 3))]
abbrev Fz6 : Fn := ⟨3, 5, false, bz6⟩
theorem scz6 : FnScope nmz6 ["_law_script", "_law_broad", "_law_high"] (zaaa sz6) := ⟨rfl, rfl, rfl, ndz6, rfl, by decide +kernel, by decide +kernel⟩
abbrev sz7 : Stmt := top 37
def nmz7 : List Str := ["_law_far", "_law_most", "_law_breadth"]
theorem ndz7 : (nmz7).Nodup := by decide +kernel
def bz7 : List S := [(.ifs (.cmp .eq (.var 0) (.cst (.int 0))) [(.ret (.bin .sub (.cst (.int 0)) (.var 2)))] []),
  (.ifs (.cmp .eq (.var 0) (.var 1)) [(.ret (.bin .add (.var 1) (.var 2)))] []),
  (.ret (.var 0))]
abbrev Fz7 : Fn := ⟨3, 3, false, bz7⟩
theorem scz7 : FnScope nmz7 ["_law_far", "_law_most", "_law_breadth"] (zaaa sz7) := ⟨rfl, rfl, rfl, ndz7, rfl, by decide +kernel, by decide +kernel⟩
abbrev s_law : Stmt := top 38
def nm_law : List Str := ["_law_script", "_law_x", "_law_y", "_law_broad", "_law_high", "_law_breadth", "_law_line", "_law_by", "_law_handed", "_law_kept", "_law_found", "_law_k", "?12"]
theorem nd_law : (nm_law).Nodup := by decide +kernel
def zab7 : List Str := ["_law_script", "_law_x", "_law_y", "_law_broad", "_law_high", "_law_breadth", "_law_line", "_law_by", "_law_handed", "_law_kept", "_law_found", "_law_k", "_law_spot"]
theorem zac3 : (zab7).Nodup := by decide +kernel
abbrev zab2 : E := (.tup [(.bin .add (.var 1) (.sub (.var 12) (.cst (.int 0)))), (.bin .add (.var 2) (.sub (.var 12) (.cst (.int 1))))])
abbrev zacw : List S := [(.ifs (.or (.not (.isi (.sub (.var 10) (.var 11)) .tuple)) (.cmp .ne (.b1 .len (.sub (.var 10) (.var 11))) (.cst (.int 2)))) [(.ret (.cst (.bl false)))] []),
  (.ifs (.not (.call 25 [(.sub (.sub (.var 10) (.var 11)) (.cst (.int 0))), (.tup [(.bin .add (.var 1) (.call 29 [(.sub (.sub (.var 6) (.var 11)) (.cst (.int 0))), (.var 3), (.var 5)] [])), (.cst (.int 1))])] [])) [(.ret (.cst (.bl false)))] []),
  (.ifs (.not (.call 25 [(.sub (.sub (.var 10) (.var 11)) (.cst (.int 1))), (.tup [(.bin .add (.var 2) (.call 29 [(.sub (.sub (.var 6) (.var 11)) (.cst (.int 1))), (.var 4), (.var 5)] [])), (.cst (.int 1))])] [])) [(.ret (.cst (.bl false)))] [])]
def b_law : List S := [(.asg 1 (.call 24 [(.call 23 [(.var 0), (.cst (.int 0))] []), (.cst (.int 9000))] [])),
  (.asg 2 (.call 24 [(.call 23 [(.var 0), (.cst (.int 1))] []), (.cst (.int 9000))] [])),
  (.asg 3 (.bin .add (.cst (.int 1)) (.bin .mod (.call 23 [(.var 0), (.cst (.int 2))] []) (.cst (.int 2000))))),
  (.asg 4 (.bin .add (.cst (.int 1)) (.bin .mod (.call 23 [(.var 0), (.cst (.int 3))] []) (.cst (.int 2000))))),
  (.asg 5 (.b1 .abs (.call 24 [(.call 23 [(.var 0), (.cst (.int 4))] []), (.cst (.int 1000))] []))),
  (.asg 6 (.call 28 [(.var 0), (.var 3), (.var 4)] [])),
  (.ifs (.cmp .eq (.bin .mod (.call 23 [(.var 0), (.cst (.int 5))] []) (.cst (.int 2))) (.cst (.int 1))) [(.asg 6 (.rev (.var 6)))] []),
  (.asg 7 (.bin .mod (.bin .fdiv (.call 23 [(.var 0), (.cst (.int 5))] []) (.cst (.int 2))) (.b1 .len (.var 6)))),
  (.asg 6 (.bin .add (.cutL (.var 6) (.var 7)) (.cutU (.var 6) (.var 7)))),
  (.asg 8 (.comp zab2 (.one 12) (.var 6))),
  (.asg 9 (.b1 .list (.var 8))),
  (.asg 10 (.call 13 [(.var 8), (.var 5)] [])),
  (.ifs (.not (.call 26 [(.var 8), (.var 9)] [])) [(.ret (.cst (.bl false)))] []),
  (.ifs (.or (.not (.isi (.var 10) .list)) (.cmp .ne (.b1 .len (.var 10)) (.b1 .len (.var 6)))) [(.ret (.cst (.bl false)))] []),
  (.for_ (.one 11) (.rng1 (.b1 .len (.var 6))) zacw),
  (.ret (.cst (.bl true)))]
abbrev F_law : Fn := ⟨1, 13, false, b_law⟩
theorem sc_law : FnScope nm_law ["_law_script"] (zaaa s_law) := ⟨rfl, rfl, rfl, nd_law, rfl, by decide +kernel, by decide +kernel⟩
def fns : List Fn := [⟨1, 3, false, bz12⟩,
  ⟨3, 5, false, bz24⟩,
  ⟨2, 2, false, bz23⟩,
  ⟨3, 3, false, bz21⟩,
  ⟨2, 2, false, bz14⟩,
  ⟨3, 5, false, bz25⟩,
  ⟨2, 2, false, bz20⟩,
  ⟨3, 3, false, bz29⟩,
  ⟨3, 3, false, bz10⟩,
  ⟨2, 2, false, bz26⟩,
  ⟨1, 3, false, bz31⟩,
  ⟨2, 3, false, bz16⟩,
  ⟨2, 3, false, bz13⟩,
  ⟨2, 6, false, bz18⟩,
  ⟨1, 5, false, bz22⟩,
  ⟨3, 9, false, bz19⟩,
  ⟨4, 5, false, bz15⟩,
  ⟨3, 6, false, bz11⟩,
  ⟨5, 12, false, bz30⟩,
  ⟨1, 1, false, bz27⟩,
  ⟨1, 1, false, bz28⟩,
  ⟨3, 3, false, bz17⟩,
  ⟨1, 1, false, bz9⟩,
  ⟨2, 2, false, bz2⟩,
  ⟨2, 2, false, bz3⟩,
  ⟨2, 3, false, bz5⟩,
  ⟨2, 3, false, bz8⟩,
  ⟨2, 4, false, bz4⟩,
  ⟨3, 5, false, bz6⟩,
  ⟨3, 3, false, bz7⟩,
  ⟨1, 13, false, b_law⟩]
def sub0 (d c : Nat) : Bool := nth (nth [[true, false], [true, true]] [true, false] d) false c
set_option genInjectivity false in
set_option genSizeOf false in
structure Txt (K : PySem.W.Frag) (mg : Str → Option Value) where
  ez1 : Addr
  mez1 : mg "GradeError" = some (.ref ez1)
  ez0 : Addr
  mez0 : mg "Crossed" = some (.ref ez0)
  qz0 : PySem.W.excIn K ez0 [.type "ValueError", .type "Exception", .type "BaseException", .type "object"] "ValueError.__new__" = true
  fz12 : Addr
  dz12 : FuncData
  tz12 : FunD K "crossing" "crossing" sz12 fz12 dz12
  bdz12 : Binds K dz12 ["corners"] []
  mz12 : mg "crossing" = some (.ref fz12)
  kz12 : PySem.W.keepIn K (.ref fz12) = true
  fz24 : Addr
  dz24 : FuncData
  tz24 : FunD K "sides_cross" "sides_cross" sz24 fz24 dz24
  bdz24 : Binds K dz24 ["corners", "i", "j"] []
  mz24 : mg "sides_cross" = some (.ref fz24)
  kz24 : PySem.W.keepIn K (.ref fz24) = true
  fz23 : Addr
  dz23 : FuncData
  tz23 : FunD K "side_ends" "side_ends" sz23 fz23 dz23
  bdz23 : Binds K dz23 ["corners", "k"] []
  mz23 : mg "side_ends" = some (.ref fz23)
  kz23 : PySem.W.keepIn K (.ref fz23) = true
  fz21 : Addr
  dz21 : FuncData
  tz21 : FunD K "run_together" "run_together" sz21 fz21 dz21
  bdz21 : Binds K dz21 ["corner", "one", "two"] []
  mz21 : mg "run_together" = some (.ref fz21)
  kz21 : PySem.W.keepIn K (.ref fz21) = true
  fz14 : Addr
  dz14 : FuncData
  tz14 : FunD K "have_common_point" "have_common_point" sz14 fz14 dz14
  bdz14 : Binds K dz14 ["one", "two"] []
  mz14 : mg "have_common_point" = some (.ref fz14)
  kz14 : PySem.W.keepIn K (.ref fz14) = true
  fz25 : Addr
  dz25 : FuncData
  tz25 : FunD K "spans_meet" "spans_meet" sz25 fz25 dz25
  bdz25 : Binds K dz25 ["one", "two", "axis"] []
  mz25 : mg "spans_meet" = some (.ref fz25)
  kz25 : PySem.W.keepIn K (.ref fz25) = true
  fz20 : Addr
  dz20 : FuncData
  tz20 : FunD K "reaches_across" "reaches_across" sz20 fz20 dz20
  bdz20 : Binds K dz20 ["side", "line"] []
  mz20 : mg "reaches_across" = some (.ref fz20)
  kz20 : PySem.W.keepIn K (.ref fz20) = true
  fz29 : Addr
  dz29 : FuncData
  tz29 : FunD K "turn" "turn" sz29 fz29 dz29
  bdz29 : Binds K dz29 ["start", "one", "two"] []
  mz29 : mg "turn" = some (.ref fz29)
  kz29 : PySem.W.keepIn K (.ref fz29) = true
  fz10 : Addr
  dz10 : FuncData
  tz10 : FunD K "along" "along" sz10 fz10 dz10
  bdz10 : Binds K dz10 ["start", "one", "two"] []
  mz10 : mg "along" = some (.ref fz10)
  kz10 : PySem.W.keepIn K (.ref fz10) = true
  fz26 : Addr
  dz26 : FuncData
  tz26 : FunD K "square" "square" sz26 fz26 dz26
  bdz26 : Binds K dz26 ["one", "two"] []
  mz26 : mg "square" = some (.ref fz26)
  kz26 : PySem.W.keepIn K (.ref fz26) = true
  fz31 : Addr
  dz31 : FuncData
  tz31 : FunD K "whole_root" "whole_root" sz31 fz31 dz31
  bdz31 : Binds K dz31 ["number"] []
  mz31 : mg "whole_root" = some (.ref fz31)
  kz31 : PySem.W.keepIn K (.ref fz31) = true
  fz16 : Addr
  dz16 : FuncData
  tz16 : FunD K "lowest_terms" "lowest_terms" sz16 fz16 dz16
  bdz16 : Binds K dz16 ["part", "whole"] []
  mz16 : mg "lowest_terms" = some (.ref fz16)
  kz16 : PySem.W.keepIn K (.ref fz16) = true
  fz13 : Addr
  dz13 : FuncData
  tz13 : FunD K "greatest_divisor" "greatest_divisor" sz13 fz13 dz13
  bdz13 : Binds K dz13 ["one", "two"] []
  mz13 : mg "greatest_divisor" = some (.ref fz13)
  kz13 : PySem.W.keepIn K (.ref fz13) = true
  fz18 : Addr
  dz18 : FuncData
  tz18 : FunD K "outline" "outline" sz18 fz18 dz18
  bdz18 : Binds K dz18 ["corners", "breadth"] []
  mz18 : mg "outline" = some (.ref fz18)
  kz18 : PySem.W.keepIn K (.ref fz18) = true
  fz22 : Addr
  dz22 : FuncData
  tz22 : FunD K "runs_leftward" "runs_leftward" sz22 fz22 dz22
  bdz22 : Binds K dz22 ["corners"] []
  mz22 : mg "runs_leftward" = some (.ref fz22)
  kz22 : PySem.W.keepIn K (.ref fz22) = true
  fz19 : Addr
  dz19 : FuncData
  tz19 : FunD K "outward_vector" "outward_vector" sz19 fz19 dz19
  bdz19 : Binds K dz19 ["corners", "k", "leftward"] []
  mz19 : mg "outward_vector" = some (.ref fz19)
  kz19 : PySem.W.keepIn K (.ref fz19) = true
  fz15 : Addr
  dz15 : FuncData
  tz15 : FunD K "hem_corner" "hem_corner" sz15 fz15 dz15
  bdz15 : Binds K dz15 ["corner", "before", "after", "breadth"] []
  mz15 : mg "hem_corner" = some (.ref fz15)
  kz15 : PySem.W.keepIn K (.ref fz15) = true
  fz11 : Addr
  dz11 : FuncData
  tz11 : FunD K "beside" "beside" sz11 fz11 dz11
  bdz11 : Binds K dz11 ["corner", "vector", "breadth"] []
  mz11 : mg "beside" = some (.ref fz11)
  kz11 : PySem.W.keepIn K (.ref fz11) = true
  fz30 : Addr
  dz30 : FuncData
  tz30 : FunD K "where_they_cut" "where_they_cut" sz30 fz30 dz30
  bdz30 : Binds K dz30 ["corner", "before", "after", "cut", "breadth"] []
  mz30 : mg "where_they_cut" = some (.ref fz30)
  kz30 : PySem.W.keepIn K (.ref fz30) = true
  fz27 : Addr
  dz27 : FuncData
  tz27 : FunD K "square_of" "square_of" sz27 fz27 dz27
  bdz27 : Binds K dz27 ["vector"] []
  mz27 : mg "square_of" = some (.ref fz27)
  kz27 : PySem.W.keepIn K (.ref fz27) = true
  fz28 : Addr
  dz28 : FuncData
  tz28 : FunD K "thousandfold_length" "thousandfold_length" sz28 fz28 dz28
  bdz28 : Binds K dz28 ["vector"] []
  mz28 : mg "thousandfold_length" = some (.ref fz28)
  kz28 : PySem.W.keepIn K (.ref fz28) = true
  fz17 : Addr
  dz17 : FuncData
  tz17 : FunD K "moved_number" "moved_number" sz17 fz17 dz17
  bdz17 : Binds K dz17 ["number", "part", "whole"] []
  mz17 : mg "moved_number" = some (.ref fz17)
  kz17 : PySem.W.keepIn K (.ref fz17) = true
  fz9 : Addr
  dz9 : FuncData
  tz9 : FunD K "_law_whole" "_law_whole" sz9 fz9 dz9
  bdz9 : Binds K dz9 ["_law_found"] []
  mz9 : mg "_law_whole" = some (.ref fz9)
  kz9 : PySem.W.keepIn K (.ref fz9) = true
  fz2 : Addr
  dz2 : FuncData
  tz2 : FunD K "_law_at" "_law_at" sz2 fz2 dz2
  bdz2 : Binds K dz2 ["_law_script", "_law_k"] []
  mz2 : mg "_law_at" = some (.ref fz2)
  kz2 : PySem.W.keepIn K (.ref fz2) = true
  fz3 : Addr
  dz3 : FuncData
  tz3 : FunD K "_law_drawn" "_law_drawn" sz3 fz3 dz3
  bdz3 : Binds K dz3 ["_law_cell", "_law_most"] []
  mz3 : mg "_law_drawn" = some (.ref fz3)
  kz3 : PySem.W.keepIn K (.ref fz3) = true
  fz5 : Addr
  dz5 : FuncData
  tz5 : FunD K "_law_numbers" "_law_numbers" sz5 fz5 dz5
  bdz5 : Binds K dz5 ["_law_found", "_law_due"] []
  mz5 : mg "_law_numbers" = some (.ref fz5)
  kz5 : PySem.W.keepIn K (.ref fz5) = true
  fz8 : Addr
  dz8 : FuncData
  tz8 : FunD K "_law_rows" "_law_rows" sz8 fz8 dz8
  bdz8 : Binds K dz8 ["_law_found", "_law_due"] []
  mz8 : mg "_law_rows" = some (.ref fz8)
  kz8 : PySem.W.keepIn K (.ref fz8) = true
  fz4 : Addr
  dz4 : FuncData
  tz4 : FunD K "_law_marks" "_law_marks" sz4 fz4 dz4
  bdz4 : Binds K dz4 ["_law_many", "_law_long"] []
  mz4 : mg "_law_marks" = some (.ref fz4)
  kz4 : PySem.W.keepIn K (.ref fz4) = true
  fz6 : Addr
  dz6 : FuncData
  tz6 : FunD K "_law_oblong" "_law_oblong" sz6 fz6 dz6
  bdz6 : Binds K dz6 ["_law_script", "_law_broad", "_law_high"] []
  mz6 : mg "_law_oblong" = some (.ref fz6)
  kz6 : PySem.W.keepIn K (.ref fz6) = true
  fz7 : Addr
  dz7 : FuncData
  tz7 : FunD K "_law_out" "_law_out" sz7 fz7 dz7
  bdz7 : Binds K dz7 ["_law_far", "_law_most", "_law_breadth"] []
  mz7 : mg "_law_out" = some (.ref fz7)
  kz7 : PySem.W.keepIn K (.ref fz7) = true
  f_law : Addr
  d_law : FuncData
  t_law : FunD K "law" "law" s_law f_law d_law
  bd_law : Binds K d_law ["_law_script"] []
  m_law : mg "law" = some (.ref f_law)
  k_law : PySem.W.keepIn K (.ref f_law) = true
  b_abs : mg "abs" = none
  b_bool : mg "bool" = none
  b_enumerate : mg "enumerate" = none
  b_int : mg "int" = none
  b_isinstance : mg "isinstance" = none
  b_len : mg "len" = none
  b_list : mg "list" = none
  b_min : mg "min" = none
  b_range : mg "range" = none
  b_sorted : mg "sorted" = none
  b_tuple : mg "tuple" = none
section
variable {K : PySem.W.Frag} {mg : Str → Option Value}
def Gof (T : Txt K mg) : Gx := ⟨K, nth [T.ez1, T.ez0] (T.ez1), nth [] (0), nth [] []⟩
theorem emz0 (T : Txt K mg) : mg "Crossed" = some (.ref ((Gof T).cA 1)) := T.mez0
theorem eqz0 (T : Txt K mg) : PySem.W.excIn K ((Gof T).cA 1) [.type "ValueError", .type "Exception", .type "BaseException", .type "object"] "ValueError.__new__" = true := T.qz0
end
section
variable {P : Program} {w : World} {K : PySem.W.Frag} {mg : Str → Option Value} {base : Heap} {k : Nat}
set_option genInjectivity false in
set_option genSizeOf false in
structure Ok (P : Program) (w : World) {K : PySem.W.Frag} {mg : Str → Option Value} (base : Heap) (T : Txt K mg) (k : Nat) : Prop where
  oz12 : FnOk P w K mg base (CXE (Gof T) P w base) (2 * k) T.fz12 T.dz12 ["corners"] (spG (Gof T) (cfX fns sub0 k).cf (cfX fns sub0 k).fr 0)
  oz24 : FnOk P w K mg base (CXE (Gof T) P w base) (2 * k) T.fz24 T.dz24 ["corners", "i", "j"] (spG (Gof T) (cfX fns sub0 k).cf (cfX fns sub0 k).fr 1)
  oz23 : FnOk P w K mg base (CXE (Gof T) P w base) (2 * k) T.fz23 T.dz23 ["corners", "k"] (spG (Gof T) (cfX fns sub0 k).cf (cfX fns sub0 k).fr 2)
  oz21 : FnOk P w K mg base (CXE (Gof T) P w base) (2 * k) T.fz21 T.dz21 ["corner", "one", "two"] (spG (Gof T) (cfX fns sub0 k).cf (cfX fns sub0 k).fr 3)
  oz14 : FnOk P w K mg base (CXE (Gof T) P w base) (2 * k) T.fz14 T.dz14 ["one", "two"] (spG (Gof T) (cfX fns sub0 k).cf (cfX fns sub0 k).fr 4)
  oz25 : FnOk P w K mg base (CXE (Gof T) P w base) (2 * k) T.fz25 T.dz25 ["one", "two", "axis"] (spG (Gof T) (cfX fns sub0 k).cf (cfX fns sub0 k).fr 5)
  oz20 : FnOk P w K mg base (CXE (Gof T) P w base) (2 * k) T.fz20 T.dz20 ["side", "line"] (spG (Gof T) (cfX fns sub0 k).cf (cfX fns sub0 k).fr 6)
  oz29 : FnOk P w K mg base (CXE (Gof T) P w base) (2 * k) T.fz29 T.dz29 ["start", "one", "two"] (spG (Gof T) (cfX fns sub0 k).cf (cfX fns sub0 k).fr 7)
  oz10 : FnOk P w K mg base (CXE (Gof T) P w base) (2 * k) T.fz10 T.dz10 ["start", "one", "two"] (spG (Gof T) (cfX fns sub0 k).cf (cfX fns sub0 k).fr 8)
  oz26 : FnOk P w K mg base (CXE (Gof T) P w base) (2 * k) T.fz26 T.dz26 ["one", "two"] (spG (Gof T) (cfX fns sub0 k).cf (cfX fns sub0 k).fr 9)
  oz31 : FnOk P w K mg base (CXE (Gof T) P w base) (2 * k) T.fz31 T.dz31 ["number"] (spG (Gof T) (cfX fns sub0 k).cf (cfX fns sub0 k).fr 10)
  oz16 : FnOk P w K mg base (CXE (Gof T) P w base) (2 * k) T.fz16 T.dz16 ["part", "whole"] (spG (Gof T) (cfX fns sub0 k).cf (cfX fns sub0 k).fr 11)
  oz13 : FnOk P w K mg base (CXE (Gof T) P w base) (2 * k) T.fz13 T.dz13 ["one", "two"] (spG (Gof T) (cfX fns sub0 k).cf (cfX fns sub0 k).fr 12)
  oz18 : FnOk P w K mg base (CXE (Gof T) P w base) (2 * k) T.fz18 T.dz18 ["corners", "breadth"] (spG (Gof T) (cfX fns sub0 k).cf (cfX fns sub0 k).fr 13)
  oz22 : FnOk P w K mg base (CXE (Gof T) P w base) (2 * k) T.fz22 T.dz22 ["corners"] (spG (Gof T) (cfX fns sub0 k).cf (cfX fns sub0 k).fr 14)
  oz19 : FnOk P w K mg base (CXE (Gof T) P w base) (2 * k) T.fz19 T.dz19 ["corners", "k", "leftward"] (spG (Gof T) (cfX fns sub0 k).cf (cfX fns sub0 k).fr 15)
  oz15 : FnOk P w K mg base (CXE (Gof T) P w base) (2 * k) T.fz15 T.dz15 ["corner", "before", "after", "breadth"] (spG (Gof T) (cfX fns sub0 k).cf (cfX fns sub0 k).fr 16)
  oz11 : FnOk P w K mg base (CXE (Gof T) P w base) (2 * k) T.fz11 T.dz11 ["corner", "vector", "breadth"] (spG (Gof T) (cfX fns sub0 k).cf (cfX fns sub0 k).fr 17)
  oz30 : FnOk P w K mg base (CXE (Gof T) P w base) (2 * k) T.fz30 T.dz30 ["corner", "before", "after", "cut", "breadth"] (spG (Gof T) (cfX fns sub0 k).cf (cfX fns sub0 k).fr 18)
  oz27 : FnOk P w K mg base (CXE (Gof T) P w base) (2 * k) T.fz27 T.dz27 ["vector"] (spG (Gof T) (cfX fns sub0 k).cf (cfX fns sub0 k).fr 19)
  oz28 : FnOk P w K mg base (CXE (Gof T) P w base) (2 * k) T.fz28 T.dz28 ["vector"] (spG (Gof T) (cfX fns sub0 k).cf (cfX fns sub0 k).fr 20)
  oz17 : FnOk P w K mg base (CXE (Gof T) P w base) (2 * k) T.fz17 T.dz17 ["number", "part", "whole"] (spG (Gof T) (cfX fns sub0 k).cf (cfX fns sub0 k).fr 21)
  oz9 : FnOk P w K mg base (CXE (Gof T) P w base) (2 * k) T.fz9 T.dz9 ["_law_found"] (spG (Gof T) (cfX fns sub0 k).cf (cfX fns sub0 k).fr 22)
  oz2 : FnOk P w K mg base (CXE (Gof T) P w base) (2 * k) T.fz2 T.dz2 ["_law_script", "_law_k"] (spG (Gof T) (cfX fns sub0 k).cf (cfX fns sub0 k).fr 23)
  oz3 : FnOk P w K mg base (CXE (Gof T) P w base) (2 * k) T.fz3 T.dz3 ["_law_cell", "_law_most"] (spG (Gof T) (cfX fns sub0 k).cf (cfX fns sub0 k).fr 24)
  oz5 : FnOk P w K mg base (CXE (Gof T) P w base) (2 * k) T.fz5 T.dz5 ["_law_found", "_law_due"] (spG (Gof T) (cfX fns sub0 k).cf (cfX fns sub0 k).fr 25)
  oz8 : FnOk P w K mg base (CXE (Gof T) P w base) (2 * k) T.fz8 T.dz8 ["_law_found", "_law_due"] (spG (Gof T) (cfX fns sub0 k).cf (cfX fns sub0 k).fr 26)
  oz4 : FnOk P w K mg base (CXE (Gof T) P w base) (2 * k) T.fz4 T.dz4 ["_law_many", "_law_long"] (spG (Gof T) (cfX fns sub0 k).cf (cfX fns sub0 k).fr 27)
  oz6 : FnOk P w K mg base (CXE (Gof T) P w base) (2 * k) T.fz6 T.dz6 ["_law_script", "_law_broad", "_law_high"] (spG (Gof T) (cfX fns sub0 k).cf (cfX fns sub0 k).fr 28)
  oz7 : FnOk P w K mg base (CXE (Gof T) P w base) (2 * k) T.fz7 T.dz7 ["_law_far", "_law_most", "_law_breadth"] (spG (Gof T) (cfX fns sub0 k).cf (cfX fns sub0 k).fr 29)
  o_law : FnOk P w K mg base (CXE (Gof T) P w base) (2 * k) T.f_law T.d_law ["_law_script"] (spG (Gof T) (cfX fns sub0 k).cf (cfX fns sub0 k).fr 30)
theorem ihz12 {T : Txt K mg} (ih : Ok P w base T k) : FnOk P w K mg base (CXE (Gof T) P w base) (2 * k) T.fz12 T.dz12 ["corners"] (spG (Gof T) (cfX fns sub0 k).cf (cfX fns sub0 k).fr 0) := ih.oz12
theorem ihz24 {T : Txt K mg} (ih : Ok P w base T k) : FnOk P w K mg base (CXE (Gof T) P w base) (2 * k) T.fz24 T.dz24 ["corners", "i", "j"] (spG (Gof T) (cfX fns sub0 k).cf (cfX fns sub0 k).fr 1) := ih.oz24
theorem ihz23 {T : Txt K mg} (ih : Ok P w base T k) : FnOk P w K mg base (CXE (Gof T) P w base) (2 * k) T.fz23 T.dz23 ["corners", "k"] (spG (Gof T) (cfX fns sub0 k).cf (cfX fns sub0 k).fr 2) := ih.oz23
theorem ihz21 {T : Txt K mg} (ih : Ok P w base T k) : FnOk P w K mg base (CXE (Gof T) P w base) (2 * k) T.fz21 T.dz21 ["corner", "one", "two"] (spG (Gof T) (cfX fns sub0 k).cf (cfX fns sub0 k).fr 3) := ih.oz21
theorem ihz14 {T : Txt K mg} (ih : Ok P w base T k) : FnOk P w K mg base (CXE (Gof T) P w base) (2 * k) T.fz14 T.dz14 ["one", "two"] (spG (Gof T) (cfX fns sub0 k).cf (cfX fns sub0 k).fr 4) := ih.oz14
theorem ihz25 {T : Txt K mg} (ih : Ok P w base T k) : FnOk P w K mg base (CXE (Gof T) P w base) (2 * k) T.fz25 T.dz25 ["one", "two", "axis"] (spG (Gof T) (cfX fns sub0 k).cf (cfX fns sub0 k).fr 5) := ih.oz25
theorem ihz20 {T : Txt K mg} (ih : Ok P w base T k) : FnOk P w K mg base (CXE (Gof T) P w base) (2 * k) T.fz20 T.dz20 ["side", "line"] (spG (Gof T) (cfX fns sub0 k).cf (cfX fns sub0 k).fr 6) := ih.oz20
theorem ihz29 {T : Txt K mg} (ih : Ok P w base T k) : FnOk P w K mg base (CXE (Gof T) P w base) (2 * k) T.fz29 T.dz29 ["start", "one", "two"] (spG (Gof T) (cfX fns sub0 k).cf (cfX fns sub0 k).fr 7) := ih.oz29
theorem ihz10 {T : Txt K mg} (ih : Ok P w base T k) : FnOk P w K mg base (CXE (Gof T) P w base) (2 * k) T.fz10 T.dz10 ["start", "one", "two"] (spG (Gof T) (cfX fns sub0 k).cf (cfX fns sub0 k).fr 8) := ih.oz10
theorem ihz26 {T : Txt K mg} (ih : Ok P w base T k) : FnOk P w K mg base (CXE (Gof T) P w base) (2 * k) T.fz26 T.dz26 ["one", "two"] (spG (Gof T) (cfX fns sub0 k).cf (cfX fns sub0 k).fr 9) := ih.oz26
theorem ihz31 {T : Txt K mg} (ih : Ok P w base T k) : FnOk P w K mg base (CXE (Gof T) P w base) (2 * k) T.fz31 T.dz31 ["number"] (spG (Gof T) (cfX fns sub0 k).cf (cfX fns sub0 k).fr 10) := ih.oz31
theorem ihz16 {T : Txt K mg} (ih : Ok P w base T k) : FnOk P w K mg base (CXE (Gof T) P w base) (2 * k) T.fz16 T.dz16 ["part", "whole"] (spG (Gof T) (cfX fns sub0 k).cf (cfX fns sub0 k).fr 11) := ih.oz16
theorem ihz13 {T : Txt K mg} (ih : Ok P w base T k) : FnOk P w K mg base (CXE (Gof T) P w base) (2 * k) T.fz13 T.dz13 ["one", "two"] (spG (Gof T) (cfX fns sub0 k).cf (cfX fns sub0 k).fr 12) := ih.oz13
theorem ihz18 {T : Txt K mg} (ih : Ok P w base T k) : FnOk P w K mg base (CXE (Gof T) P w base) (2 * k) T.fz18 T.dz18 ["corners", "breadth"] (spG (Gof T) (cfX fns sub0 k).cf (cfX fns sub0 k).fr 13) := ih.oz18
theorem ihz22 {T : Txt K mg} (ih : Ok P w base T k) : FnOk P w K mg base (CXE (Gof T) P w base) (2 * k) T.fz22 T.dz22 ["corners"] (spG (Gof T) (cfX fns sub0 k).cf (cfX fns sub0 k).fr 14) := ih.oz22
theorem ihz19 {T : Txt K mg} (ih : Ok P w base T k) : FnOk P w K mg base (CXE (Gof T) P w base) (2 * k) T.fz19 T.dz19 ["corners", "k", "leftward"] (spG (Gof T) (cfX fns sub0 k).cf (cfX fns sub0 k).fr 15) := ih.oz19
theorem ihz15 {T : Txt K mg} (ih : Ok P w base T k) : FnOk P w K mg base (CXE (Gof T) P w base) (2 * k) T.fz15 T.dz15 ["corner", "before", "after", "breadth"] (spG (Gof T) (cfX fns sub0 k).cf (cfX fns sub0 k).fr 16) := ih.oz15
theorem ihz11 {T : Txt K mg} (ih : Ok P w base T k) : FnOk P w K mg base (CXE (Gof T) P w base) (2 * k) T.fz11 T.dz11 ["corner", "vector", "breadth"] (spG (Gof T) (cfX fns sub0 k).cf (cfX fns sub0 k).fr 17) := ih.oz11
theorem ihz30 {T : Txt K mg} (ih : Ok P w base T k) : FnOk P w K mg base (CXE (Gof T) P w base) (2 * k) T.fz30 T.dz30 ["corner", "before", "after", "cut", "breadth"] (spG (Gof T) (cfX fns sub0 k).cf (cfX fns sub0 k).fr 18) := ih.oz30
theorem ihz27 {T : Txt K mg} (ih : Ok P w base T k) : FnOk P w K mg base (CXE (Gof T) P w base) (2 * k) T.fz27 T.dz27 ["vector"] (spG (Gof T) (cfX fns sub0 k).cf (cfX fns sub0 k).fr 19) := ih.oz27
theorem ihz28 {T : Txt K mg} (ih : Ok P w base T k) : FnOk P w K mg base (CXE (Gof T) P w base) (2 * k) T.fz28 T.dz28 ["vector"] (spG (Gof T) (cfX fns sub0 k).cf (cfX fns sub0 k).fr 20) := ih.oz28
theorem ihz17 {T : Txt K mg} (ih : Ok P w base T k) : FnOk P w K mg base (CXE (Gof T) P w base) (2 * k) T.fz17 T.dz17 ["number", "part", "whole"] (spG (Gof T) (cfX fns sub0 k).cf (cfX fns sub0 k).fr 21) := ih.oz17
theorem ihz9 {T : Txt K mg} (ih : Ok P w base T k) : FnOk P w K mg base (CXE (Gof T) P w base) (2 * k) T.fz9 T.dz9 ["_law_found"] (spG (Gof T) (cfX fns sub0 k).cf (cfX fns sub0 k).fr 22) := ih.oz9
theorem ihz2 {T : Txt K mg} (ih : Ok P w base T k) : FnOk P w K mg base (CXE (Gof T) P w base) (2 * k) T.fz2 T.dz2 ["_law_script", "_law_k"] (spG (Gof T) (cfX fns sub0 k).cf (cfX fns sub0 k).fr 23) := ih.oz2
theorem ihz3 {T : Txt K mg} (ih : Ok P w base T k) : FnOk P w K mg base (CXE (Gof T) P w base) (2 * k) T.fz3 T.dz3 ["_law_cell", "_law_most"] (spG (Gof T) (cfX fns sub0 k).cf (cfX fns sub0 k).fr 24) := ih.oz3
theorem ihz5 {T : Txt K mg} (ih : Ok P w base T k) : FnOk P w K mg base (CXE (Gof T) P w base) (2 * k) T.fz5 T.dz5 ["_law_found", "_law_due"] (spG (Gof T) (cfX fns sub0 k).cf (cfX fns sub0 k).fr 25) := ih.oz5
theorem ihz8 {T : Txt K mg} (ih : Ok P w base T k) : FnOk P w K mg base (CXE (Gof T) P w base) (2 * k) T.fz8 T.dz8 ["_law_found", "_law_due"] (spG (Gof T) (cfX fns sub0 k).cf (cfX fns sub0 k).fr 26) := ih.oz8
theorem ihz4 {T : Txt K mg} (ih : Ok P w base T k) : FnOk P w K mg base (CXE (Gof T) P w base) (2 * k) T.fz4 T.dz4 ["_law_many", "_law_long"] (spG (Gof T) (cfX fns sub0 k).cf (cfX fns sub0 k).fr 27) := ih.oz4
theorem ihz6 {T : Txt K mg} (ih : Ok P w base T k) : FnOk P w K mg base (CXE (Gof T) P w base) (2 * k) T.fz6 T.dz6 ["_law_script", "_law_broad", "_law_high"] (spG (Gof T) (cfX fns sub0 k).cf (cfX fns sub0 k).fr 28) := ih.oz6
theorem ihz7 {T : Txt K mg} (ih : Ok P w base T k) : FnOk P w K mg base (CXE (Gof T) P w base) (2 * k) T.fz7 T.dz7 ["_law_far", "_law_most", "_law_breadth"] (spG (Gof T) (cfX fns sub0 k).cf (cfX fns sub0 k).fr 29) := ih.oz7
theorem okz12 (T : Txt K mg) (ih : Ok P w base T k) : FnOk P w K mg base (CXE (Gof T) P w base) (2 * (k + 1)) T.fz12 T.dz12 ["corners"] (spG (Gof T) (run true fns sub0 whileL (k + 1)) (frOf fns) 0) := by
  refine fn_okX T.tz12 scz12 rfl rfl rfl fun cdv A outer s H E hr => ?_
  have hu := Nat.lt_of_le_of_lt (Nat.add_le_add_left (by decide : 9 ≤ 64) _) hr.units
  have hp := IP.passes_leave (X := cxOf (CXE (Gof T) P w base) P w K mg base nmz12 "crossing" (zaaa sz12) T.fz12 cdv A outer s H E) rfl
  exact (zaab (yfor hp (wr1 (T.b_range) (wlen (T.b_len) (wv 0))) (wg1 ndz12) (zaab (yfor hp (wr2 (T.b_range) (wv 1) (wlen (T.b_len) (wv 0))) (wg1 ndz12) (zaab (sS_ifs (wtr (xcall (ihz24 ih) hr T.mz24 T.kz24 T.bdz24 .nil rfl (wrc (wv 0) (wrc (wv 1) (wrc (wv 2) sR_nil))))) (zaab (sS_ret (wtup (wac (wv 1) (wac (wv 2) sA_nil))))
  zaac) zaac)
  zaac))
  zaac))
  (zaab (sS_ret sV_non)
  zaac))
theorem okz24 (T : Txt K mg) (ih : Ok P w base T k) : FnOk P w K mg base (CXE (Gof T) P w base) (2 * (k + 1)) T.fz24 T.dz24 ["corners", "i", "j"] (spG (Gof T) (run true fns sub0 whileL (k + 1)) (frOf fns) 1) := by
  refine fn_okX T.tz24 scz24 rfl rfl rfl fun cdv A outer s H E hr => ?_
  have hu := Nat.lt_of_le_of_lt (Nat.add_le_add_left (by decide : 9 ≤ 64) _) hr.units
  have hp := IP.passes_leave (X := cxOf (CXE (Gof T) P w base) P w K mg base nmz24 "sides_cross" (zaaa sz24) T.fz24 cdv A outer s H E) rfl
  exact (zaab (qasg ndz24 (xcall (ihz23 ih) hr T.mz23 T.kz23 T.bdz23 .nil rfl (wrc (wv 0) (wrc (wv 1) sR_nil))))
  (zaab (qasg ndz24 (xcall (ihz23 ih) hr T.mz23 T.kz23 T.bdz23 .nil rfl (wrc (wv 0) (wrc (wv 2) sR_nil))))
  (zaab (sS_ifs (wct hu .eq (wv 1) (wv 2)) (zaab (sS_ret (wcv hu .eq (wsub (wv 3) sV_int) (wsub (wv 3) sV_int)))
  zaac) zaac)
  (zaab (sS_ifs (wct hu .eq (wv 2) (sV_bin .add (wv 1) sV_int)) (zaab (sS_ret (xcall (ihz21 ih) hr T.mz21 T.kz21 T.bdz21 .nil rfl (wrc (wsub (wv 3) sV_int) (wrc (wsub (wv 3) sV_int) (wrc (wsub (wv 4) sV_int) sR_nil)))))
  zaac) zaac)
  (zaab (sS_ifs (PW.pt (ptb_and (wct hu .eq (sV_bin .add (wv 2) sV_int) (wlen (T.b_len) (wv 0))) (zadt (wct hu .eq (wv 1) sV_int)))) (zaab (sS_ret (xcall (ihz21 ih) hr T.mz21 T.kz21 T.bdz21 .nil rfl (wrc (wsub (wv 3) sV_int) (wrc (wsub (wv 3) sV_int) (wrc (wsub (wv 4) sV_int) sR_nil)))))
  zaac) zaac)
  (zaab (sS_ret (xcall (ihz14 ih) hr T.mz14 T.kz14 T.bdz14 .nil rfl (wrc (wv 3) (wrc (wv 4) sR_nil))))
  zaac))))))
theorem okz23 (T : Txt K mg) (ih : Ok P w base T k) : FnOk P w K mg base (CXE (Gof T) P w base) (2 * (k + 1)) T.fz23 T.dz23 ["corners", "k"] (spG (Gof T) (run true fns sub0 whileL (k + 1)) (frOf fns) 2) := by
  refine fn_okX T.tz23 scz23 rfl rfl rfl fun cdv A outer s H E hr => ?_
  have hu := Nat.lt_of_le_of_lt (Nat.add_le_add_left (by decide : 9 ≤ 64) _) hr.units
  have hp := IP.passes_leave (X := cxOf (CXE (Gof T) P w base) P w K mg base nmz23 "side_ends" (zaaa sz23) T.fz23 cdv A outer s H E) rfl
  exact (zaab (sS_ret (wtup (wac (wsub (wv 0) (wv 1)) (wac (wsub (wv 0) (sV_bin .mod (sV_bin .add (wv 1) sV_int) (wlen (T.b_len) (wv 0)))) sA_nil))))
  zaac)
theorem okz21 (T : Txt K mg) (ih : Ok P w base T k) : FnOk P w K mg base (CXE (Gof T) P w base) (2 * (k + 1)) T.fz21 T.dz21 ["corner", "one", "two"] (spG (Gof T) (run true fns sub0 whileL (k + 1)) (frOf fns) 3) := by
  refine fn_okX T.tz21 scz21 rfl rfl rfl fun cdv A outer s H E hr => ?_
  have hu := Nat.lt_of_le_of_lt (Nat.add_le_add_left (by decide : 9 ≤ 64) _) hr.units
  have hp := IP.passes_leave (X := cxOf (CXE (Gof T) P w base) P w K mg base nmz21 "run_together" (zaaa sz21) T.fz21 cdv A outer s H E) rfl
  exact (zaab (sS_ret (sV_and (wcv hu .eq (xcall (ihz29 ih) hr T.mz29 T.kz29 T.bdz29 .nil rfl (wrc (wv 0) (wrc (wv 1) (wrc (wv 2) sR_nil)))) sV_int) (wone (wcv hu .gt (xcall (ihz10 ih) hr T.mz10 T.kz10 T.bdz10 .nil rfl (wrc (wv 0) (wrc (wv 1) (wrc (wv 2) sR_nil)))) sV_int))))
  zaac)
theorem okz14 (T : Txt K mg) (ih : Ok P w base T k) : FnOk P w K mg base (CXE (Gof T) P w base) (2 * (k + 1)) T.fz14 T.dz14 ["one", "two"] (spG (Gof T) (run true fns sub0 whileL (k + 1)) (frOf fns) 4) := by
  refine fn_okX T.tz14 scz14 rfl rfl rfl fun cdv A outer s H E hr => ?_
  have hu := Nat.lt_of_le_of_lt (Nat.add_le_add_left (by decide : 9 ≤ 64) _) hr.units
  have hp := IP.passes_leave (X := cxOf (CXE (Gof T) P w base) P w K mg base nmz14 "have_common_point" (zaaa sz14) T.fz14 cdv A outer s H E) rfl
  exact (zaab (sS_ifs (PW.pt (ptb_or (sT_not (wtr (xcall (ihz25 ih) hr T.mz25 T.kz25 T.bdz25 .nil rfl (wrc (wv 0) (wrc (wv 1) (wrc sV_int sR_nil)))))) (zaaq (sT_not (wtr (xcall (ihz25 ih) hr T.mz25 T.kz25 T.bdz25 .nil rfl (wrc (wv 0) (wrc (wv 1) (wrc sV_int sR_nil))))))))) (zaab (sS_ret sV_bl)
  zaac) zaac)
  (zaab (sS_ret (sV_and (xcall (ihz20 ih) hr T.mz20 T.kz20 T.bdz20 .nil rfl (wrc (wv 0) (wrc (wv 1) sR_nil))) (wone (xcall (ihz20 ih) hr T.mz20 T.kz20 T.bdz20 .nil rfl (wrc (wv 1) (wrc (wv 0) sR_nil))))))
  zaac))
theorem okz25 (T : Txt K mg) (ih : Ok P w base T k) : FnOk P w K mg base (CXE (Gof T) P w base) (2 * (k + 1)) T.fz25 T.dz25 ["one", "two", "axis"] (spG (Gof T) (run true fns sub0 whileL (k + 1)) (frOf fns) 5) := by
  refine fn_okX T.tz25 scz25 rfl rfl rfl fun cdv A outer s H E hr => ?_
  have hu := Nat.lt_of_le_of_lt (Nat.add_le_add_left (by decide : 9 ≤ 64) _) hr.units
  have hp := IP.passes_leave (X := cxOf (CXE (Gof T) P w base) P w K mg base nmz25 "spans_meet" (zaaa sz25) T.fz25 cdv A outer s H E) rfl
  exact (zaab (qasg ndz25 (wsorted (T.b_sorted) (wlst (wac (wsub (wsub (wv 0) sV_int) (wv 2)) (wac (wsub (wsub (wv 0) sV_int) (wv 2)) sA_nil)))))
  (zaab (qasg ndz25 (wsorted (T.b_sorted) (wlst (wac (wsub (wsub (wv 1) sV_int) (wv 2)) (wac (wsub (wsub (wv 1) sV_int) (wv 2)) sA_nil)))))
  (zaab (sS_ret (sV_and (wcv hu .le (wsub (wv 3) sV_int) (wsub (wv 4) sV_int)) (wone (wcv hu .le (wsub (wv 4) sV_int) (wsub (wv 3) sV_int)))))
  zaac)))
theorem okz20 (T : Txt K mg) (ih : Ok P w base T k) : FnOk P w K mg base (CXE (Gof T) P w base) (2 * (k + 1)) T.fz20 T.dz20 ["side", "line"] (spG (Gof T) (run true fns sub0 whileL (k + 1)) (frOf fns) 6) := by
  refine fn_okX T.tz20 scz20 rfl rfl rfl fun cdv A outer s H E hr => ?_
  have hu := Nat.lt_of_le_of_lt (Nat.add_le_add_left (by decide : 9 ≤ 64) _) hr.units
  have hp := IP.passes_leave (X := cxOf (CXE (Gof T) P w base) P w K mg base nmz20 "reaches_across" (zaaa sz20) T.fz20 cdv A outer s H E) rfl
  exact (zaab (sS_ret (wcv hu .le (sV_bin .mul (xcall (ihz29 ih) hr T.mz29 T.kz29 T.bdz29 .nil rfl (wrc (wsub (wv 1) sV_int) (wrc (wsub (wv 1) sV_int) (wrc (wsub (wv 0) sV_int) sR_nil)))) (xcall (ihz29 ih) hr T.mz29 T.kz29 T.bdz29 .nil rfl (wrc (wsub (wv 1) sV_int) (wrc (wsub (wv 1) sV_int) (wrc (wsub (wv 0) sV_int) sR_nil))))) sV_int))
  zaac)
theorem okz29 (T : Txt K mg) (ih : Ok P w base T k) : FnOk P w K mg base (CXE (Gof T) P w base) (2 * (k + 1)) T.fz29 T.dz29 ["start", "one", "two"] (spG (Gof T) (run true fns sub0 whileL (k + 1)) (frOf fns) 7) := by
  refine fn_okX T.tz29 scz29 rfl rfl rfl fun cdv A outer s H E hr => ?_
  have hu := Nat.lt_of_le_of_lt (Nat.add_le_add_left (by decide : 9 ≤ 64) _) hr.units
  have hp := IP.passes_leave (X := cxOf (CXE (Gof T) P w base) P w K mg base nmz29 "turn" (zaaa sz29) T.fz29 cdv A outer s H E) rfl
  exact (zaab (sS_ret (sV_bin .sub (sV_bin .mul (sV_bin .sub (wsub (wv 1) sV_int) (wsub (wv 0) sV_int)) (sV_bin .sub (wsub (wv 2) sV_int) (wsub (wv 0) sV_int))) (sV_bin .mul (sV_bin .sub (wsub (wv 1) sV_int) (wsub (wv 0) sV_int)) (sV_bin .sub (wsub (wv 2) sV_int) (wsub (wv 0) sV_int)))))
  zaac)
theorem okz10 (T : Txt K mg) (ih : Ok P w base T k) : FnOk P w K mg base (CXE (Gof T) P w base) (2 * (k + 1)) T.fz10 T.dz10 ["start", "one", "two"] (spG (Gof T) (run true fns sub0 whileL (k + 1)) (frOf fns) 8) := by
  refine fn_okX T.tz10 scz10 rfl rfl rfl fun cdv A outer s H E hr => ?_
  have hu := Nat.lt_of_le_of_lt (Nat.add_le_add_left (by decide : 9 ≤ 64) _) hr.units
  have hp := IP.passes_leave (X := cxOf (CXE (Gof T) P w base) P w K mg base nmz10 "along" (zaaa sz10) T.fz10 cdv A outer s H E) rfl
  exact (zaab (sS_ret (sV_bin .add (sV_bin .mul (sV_bin .sub (wsub (wv 1) sV_int) (wsub (wv 0) sV_int)) (sV_bin .sub (wsub (wv 2) sV_int) (wsub (wv 0) sV_int))) (sV_bin .mul (sV_bin .sub (wsub (wv 1) sV_int) (wsub (wv 0) sV_int)) (sV_bin .sub (wsub (wv 2) sV_int) (wsub (wv 0) sV_int)))))
  zaac)
theorem okz26 (T : Txt K mg) (ih : Ok P w base T k) : FnOk P w K mg base (CXE (Gof T) P w base) (2 * (k + 1)) T.fz26 T.dz26 ["one", "two"] (spG (Gof T) (run true fns sub0 whileL (k + 1)) (frOf fns) 9) := by
  refine fn_okX T.tz26 scz26 rfl rfl rfl fun cdv A outer s H E hr => ?_
  have hu := Nat.lt_of_le_of_lt (Nat.add_le_add_left (by decide : 9 ≤ 64) _) hr.units
  have hp := IP.passes_leave (X := cxOf (CXE (Gof T) P w base) P w K mg base nmz26 "square" (zaaa sz26) T.fz26 cdv A outer s H E) rfl
  exact (zaab (sS_ret (sV_bin .add (sV_bin .pow (sV_bin .sub (wsub (wv 1) sV_int) (wsub (wv 0) sV_int)) sV_int) (sV_bin .pow (sV_bin .sub (wsub (wv 1) sV_int) (wsub (wv 0) sV_int)) sV_int)))
  zaac)
theorem okz31 (T : Txt K mg) (ih : Ok P w base T k) : FnOk P w K mg base (CXE (Gof T) P w base) (2 * (k + 1)) T.fz31 T.dz31 ["number"] (spG (Gof T) (run true fns sub0 whileL (k + 1)) (frOf fns) 10) := by
  refine fn_okX T.tz31 scz31 rfl rfl rfl fun cdv A outer s H E hr => ?_
  have hu := Nat.lt_of_le_of_lt (Nat.add_le_add_left (by decide : 9 ≤ 64) _) hr.units
  have hp := IP.passes_leave (X := cxOf (CXE (Gof T) P w base) P w K mg base nmz31 "whole_root" (zaaa sz31) T.fz31 cdv A outer s H E) rfl
  exact (zaab (qasg ndz31 (wv 0))
  (zaab (qasg ndz31 (sV_bin .fdiv (sV_bin .add (wv 0) sV_int) sV_int))
  (zaab (ywhl hp (wct hu .lt (wv 2) (wv 1)) (zaab (qasg ndz31 (wv 2))
  (zaab (qasg ndz31 (sV_bin .fdiv (sV_bin .add (wv 1) (sV_bin .fdiv (wv 0) (wv 1))) sV_int))
  zaac)))
  (zaab (sS_ret (wv 1))
  zaac))))
theorem okz16 (T : Txt K mg) (ih : Ok P w base T k) : FnOk P w K mg base (CXE (Gof T) P w base) (2 * (k + 1)) T.fz16 T.dz16 ["part", "whole"] (spG (Gof T) (run true fns sub0 whileL (k + 1)) (frOf fns) 11) := by
  refine fn_okX T.tz16 scz16 rfl rfl rfl fun cdv A outer s H E hr => ?_
  have hu := Nat.lt_of_le_of_lt (Nat.add_le_add_left (by decide : 9 ≤ 64) _) hr.units
  have hp := IP.passes_leave (X := cxOf (CXE (Gof T) P w base) P w K mg base nmz16 "lowest_terms" (zaaa sz16) T.fz16 cdv A outer s H E) rfl
  exact (zaab (qasg ndz16 (xcall (ihz13 ih) hr T.mz13 T.kz13 T.bdz13 .nil rfl (wrc (wabs (T.b_abs) (wv 0)) (wrc (wv 1) sR_nil))))
  (zaab (sS_ret (wtup (wac (sV_bin .fdiv (wv 0) (wv 2)) (wac (sV_bin .fdiv (wv 1) (wv 2)) sA_nil))))
  zaac))
theorem okz13 (T : Txt K mg) (ih : Ok P w base T k) : FnOk P w K mg base (CXE (Gof T) P w base) (2 * (k + 1)) T.fz13 T.dz13 ["one", "two"] (spG (Gof T) (run true fns sub0 whileL (k + 1)) (frOf fns) 12) := by
  refine fn_okX T.tz13 scz13 rfl rfl rfl fun cdv A outer s H E hr => ?_
  have hu := Nat.lt_of_le_of_lt (Nat.add_le_add_left (by decide : 9 ≤ 64) _) hr.units
  have hp := IP.passes_leave (X := cxOf (CXE (Gof T) P w base) P w K mg base nmz13 "greatest_divisor" (zaaa sz13) T.fz13 cdv A outer s H E) rfl
  exact (zaab (ywhl hp (wct hu .ne (wv 1) sV_int) (zaab (qasg ndz13 (sV_bin .mod (wv 0) (wv 1)))
  (zaab (qasg ndz13 (wv 1))
  (zaab (qasg ndz13 (wv 2))
  zaac))))
  (zaab (sS_ret (wv 0))
  zaac))
theorem okz18 (T : Txt K mg) (ih : Ok P w base T k) : FnOk P w K mg base (CXE (Gof T) P w base) (2 * (k + 1)) T.fz18 T.dz18 ["corners", "breadth"] (spG (Gof T) (run true fns sub0 whileL (k + 1)) (frOf fns) 13) := by
  refine fn_okX T.tz18 scz18 rfl rfl rfl fun cdv A outer s H E hr => ?_
  have hu := Nat.lt_of_le_of_lt (Nat.add_le_add_left (by decide : 9 ≤ 64) _) hr.units
  have hp := IP.passes_leave (X := cxOf (CXE (Gof T) P w base) P w K mg base nmz18 "outline" (zaaa sz18) T.fz18 cdv A outer s H E) rfl
  exact (zaab (sS_ifs (wct hu .notN (xcall (ihz12 ih) hr T.mz12 T.kz12 T.bdz12 .nil rfl (wrc (wv 0) sR_nil)) sV_non) (zaab (yraise (emz0 T) (eqz0 T))
  zaac) zaac)
  (zaab (qasg ndz18 (xcall (ihz22 ih) hr T.mz22 T.kz22 T.bdz22 .nil rfl (wrc (wv 0) sR_nil)))
  (zaab (by first | exact zabr (fun _ _ _ _ h => zabp h) (zad1 (f := fun σ st => one (ev (cfX fns sub0 k) zada .v σ st)) rfl (zaa3 (sc := (zaaa sz18).names) (N := nmz18) (N' := zacq) rfl rfl rfl rfl (by decide +kernel)) (by decide) (wr1 (T.b_range) (wlen (T.b_len) (wv 0))) (fun _ _ _ _ => (wg1 zae4)) (fun _ _ _ _ => zabs (xcall (ihz19 ih) hr T.mz19 T.kz19 T.bdz19 .nil rfl (wrc (wv 0) (wrc (wv 4) (wrc (wv 2) sR_nil)))) rfl) (fun _ => rfl) (fun _ _ _ _ => zaaw _ _ _) (fun _ _ => rfl) rfl ndz18 rfl rfl) | exact qasg ndz18 (sV_of (zabv (f := fun σ st => one (ev (cfX fns sub0 k) zada .v σ st)) rfl (zaa3 (sc := (zaaa sz18).names) (N := nmz18) (N' := zacq) rfl rfl rfl rfl (by decide +kernel)) (by decide) (wr1 (T.b_range) (wlen (T.b_len) (wv 0))) (fun _ _ _ _ => (wg1 zae4)) (fun _ _ _ _ => zabs (xcall (ihz19 ih) hr T.mz19 T.kz19 T.bdz19 .nil rfl (wrc (wv 0) (wrc (wv 4) (wrc (wv 2) sR_nil)))) rfl) (fun _ => rfl) (fun _ _ _ _ => zaaw _ _ _) (fun _ _ => rfl)) fun _ _ _ _ h => zabp h))
  (zaab (sS_ret (sV_of (zabv (f := fun σ st => one (ev (cfX fns sub0 k) zaem .v σ st)) rfl (zaa3 (sc := (zaaa sz18).names) (N := nmz18) (N' := zaea) rfl rfl rfl rfl (by decide +kernel)) (by decide) (wr1 (T.b_range) (wlen (T.b_len) (wv 0))) (fun _ _ _ _ => (wg1 ndz18_c1)) (fun _ _ _ _ => zabs (xcall (ihz15 ih) hr T.mz15 T.kz15 T.bdz15 .nil rfl (wrc (wsub (wv 0) (wv 5)) (wrc (wsub (wv 3) (sV_bin .sub (wv 5) sV_int)) (wrc (wsub (wv 3) (wv 5)) (wrc (wv 1) sR_nil))))) rfl) (fun _ => rfl) (fun _ _ _ _ => zaaw _ _ _) (fun _ _ => rfl)) fun _ _ _ _ h => zabp h))
  zaac))))
theorem okz22 (T : Txt K mg) (ih : Ok P w base T k) : FnOk P w K mg base (CXE (Gof T) P w base) (2 * (k + 1)) T.fz22 T.dz22 ["corners"] (spG (Gof T) (run true fns sub0 whileL (k + 1)) (frOf fns) 14) := by
  refine fn_okX T.tz22 scz22 rfl rfl rfl fun cdv A outer s H E hr => ?_
  have hu := Nat.lt_of_le_of_lt (Nat.add_le_add_left (by decide : 9 ≤ 64) _) hr.units
  have hp := IP.passes_leave (X := cxOf (CXE (Gof T) P w base) P w K mg base nmz22 "runs_leftward" (zaaa sz22) T.fz22 cdv A outer s H E) rfl
  exact (zaab (qasg ndz22 sV_int)
  (zaab (yenm hp (T.b_enumerate) (wv 0) (wgm (wgc ndz22 (wgc ndz22 sG_nil))) (zaab (qasg ndz22 (wsub (wv 0) (sV_bin .sub (wv 2) sV_int)))
  (zaab (qasg ndz22 (sV_bin .sub (sV_bin .add (wv 1) (sV_bin .mul (wsub (wv 4) sV_int) (wsub (wv 3) sV_int))) (sV_bin .mul (wsub (wv 4) sV_int) (wsub (wv 3) sV_int))))
  zaac)))
  (zaab (sS_ret (wcv hu .gt (wv 1) sV_int))
  zaac)))
theorem okz19 (T : Txt K mg) (ih : Ok P w base T k) : FnOk P w K mg base (CXE (Gof T) P w base) (2 * (k + 1)) T.fz19 T.dz19 ["corners", "k", "leftward"] (spG (Gof T) (run true fns sub0 whileL (k + 1)) (frOf fns) 15) := by
  refine fn_okX T.tz19 scz19 rfl rfl rfl fun cdv A outer s H E hr => ?_
  have hu := Nat.lt_of_le_of_lt (Nat.add_le_add_left (by decide : 9 ≤ 64) _) hr.units
  have hp := IP.passes_leave (X := cxOf (CXE (Gof T) P w base) P w K mg base nmz19 "outward_vector" (zaaa sz19) T.fz19 cdv A outer s H E) rfl
  exact (zaab (qasg ndz19 (xcall (ihz23 ih) hr T.mz23 T.kz23 T.bdz23 .nil rfl (wrc (wv 0) (wrc (wv 1) sR_nil))))
  (zaab (qasg ndz19 (sV_bin .sub (wsub (wsub (wv 3) sV_int) sV_int) (wsub (wsub (wv 3) sV_int) sV_int)))
  (zaab (qasg ndz19 (sV_bin .sub (wsub (wsub (wv 3) sV_int) sV_int) (wsub (wsub (wv 3) sV_int) sV_int)))
  (zaab (qasg ndz19 (xcall (ihz13 ih) hr T.mz13 T.kz13 T.bdz13 .nil rfl (wrc (wabs (T.b_abs) (wv 4)) (wrc (wabs (T.b_abs) (wv 5)) sR_nil))))
  (zaab (qasg ndz19 (sV_bin .fdiv (wv 4) (wv 6)))
  (zaab (qasg ndz19 (sV_bin .fdiv (wv 5) (wv 6)))
  (zaab (sS_ret (sV_ife (wtr (wv 2)) (wtup (wac (wv 8) (wac (sV_neg (wv 7)) sA_nil))) (wtup (wac (sV_neg (wv 8)) (wac (wv 7) sA_nil)))))
  zaac)))))))
theorem okz15 (T : Txt K mg) (ih : Ok P w base T k) : FnOk P w K mg base (CXE (Gof T) P w base) (2 * (k + 1)) T.fz15 T.dz15 ["corner", "before", "after", "breadth"] (spG (Gof T) (run true fns sub0 whileL (k + 1)) (frOf fns) 16) := by
  refine fn_okX T.tz15 scz15 rfl rfl rfl fun cdv A outer s H E hr => ?_
  have hu := Nat.lt_of_le_of_lt (Nat.add_le_add_left (by decide : 9 ≤ 64) _) hr.units
  have hp := IP.passes_leave (X := cxOf (CXE (Gof T) P w base) P w K mg base nmz15 "hem_corner" (zaaa sz15) T.fz15 cdv A outer s H E) rfl
  exact (zaab (qasg ndz15 (sV_bin .sub (sV_bin .mul (wsub (wv 1) sV_int) (wsub (wv 2) sV_int)) (sV_bin .mul (wsub (wv 1) sV_int) (wsub (wv 2) sV_int))))
  (zaab (sS_ifs (wct hu .eq (wv 4) sV_int) (zaab (sS_ret (xcall (ihz11 ih) hr T.mz11 T.kz11 T.bdz11 .nil rfl (wrc (wv 0) (wrc (wv 2) (wrc (wv 3) sR_nil)))))
  zaac) zaac)
  (zaab (sS_ret (xcall (ihz30 ih) hr T.mz30 T.kz30 T.bdz30 .nil rfl (wrc (wv 0) (wrc (wv 1) (wrc (wv 2) (wrc (wv 4) (wrc (wv 3) sR_nil)))))))
  zaac)))
theorem okz11 (T : Txt K mg) (ih : Ok P w base T k) : FnOk P w K mg base (CXE (Gof T) P w base) (2 * (k + 1)) T.fz11 T.dz11 ["corner", "vector", "breadth"] (spG (Gof T) (run true fns sub0 whileL (k + 1)) (frOf fns) 17) := by
  refine fn_okX T.tz11 scz11 rfl rfl rfl fun cdv A outer s H E hr => ?_
  have hu := Nat.lt_of_le_of_lt (Nat.add_le_add_left (by decide : 9 ≤ 64) _) hr.units
  have hp := IP.passes_leave (X := cxOf (CXE (Gof T) P w base) P w K mg base nmz11 "beside" (zaaa sz11) T.fz11 cdv A outer s H E) rfl
  exact (zaab (qasg ndz11 (xcall (ihz28 ih) hr T.mz28 T.kz28 T.bdz28 .nil rfl (wrc (wv 1) sR_nil)))
  (zaab (qasg ndz11 (sV_bin .mul (sV_bin .mul sV_int (wv 2)) (wsub (wv 1) sV_int)))
  (zaab (qasg ndz11 (sV_bin .mul (sV_bin .mul sV_int (wv 2)) (wsub (wv 1) sV_int)))
  (zaab (sS_ret (wtup (wac (xcall (ihz17 ih) hr T.mz17 T.kz17 T.bdz17 .nil rfl (wrc (wsub (wv 0) sV_int) (wrc (wv 4) (wrc (wv 3) sR_nil)))) (wac (xcall (ihz17 ih) hr T.mz17 T.kz17 T.bdz17 .nil rfl (wrc (wsub (wv 0) sV_int) (wrc (wv 5) (wrc (wv 3) sR_nil)))) sA_nil))))
  zaac))))
theorem okz30 (T : Txt K mg) (ih : Ok P w base T k) : FnOk P w K mg base (CXE (Gof T) P w base) (2 * (k + 1)) T.fz30 T.dz30 ["corner", "before", "after", "cut", "breadth"] (spG (Gof T) (run true fns sub0 whileL (k + 1)) (frOf fns) 18) := by
  refine fn_okX T.tz30 scz30 rfl rfl rfl fun cdv A outer s H E hr => ?_
  have hu := Nat.lt_of_le_of_lt (Nat.add_le_add_left (by decide : 9 ≤ 64) _) hr.units
  have hp := IP.passes_leave (X := cxOf (CXE (Gof T) P w base) P w K mg base nmz30 "where_they_cut" (zaaa sz30) T.fz30 cdv A outer s H E) rfl
  exact (zaab (qasg ndz30 (xcall (ihz28 ih) hr T.mz28 T.kz28 T.bdz28 .nil rfl (wrc (wv 1) sR_nil)))
  (zaab (qasg ndz30 (xcall (ihz28 ih) hr T.mz28 T.kz28 T.bdz28 .nil rfl (wrc (wv 2) sR_nil)))
  (zaab (qasg ndz30 (sV_bin .mul (sV_bin .mul (sV_bin .mul sV_int (wv 4)) (xcall (ihz27 ih) hr T.mz27 T.kz27 T.bdz27 .nil rfl (wrc (wv 1) sR_nil))) (wv 6)))
  (zaab (qasg ndz30 (sV_bin .mul (sV_bin .mul (sV_bin .mul sV_int (wv 4)) (xcall (ihz27 ih) hr T.mz27 T.kz27 T.bdz27 .nil rfl (wrc (wv 2) sR_nil))) (wv 5)))
  (zaab (qasg ndz30 (sV_bin .sub (sV_bin .mul (wv 7) (wsub (wv 2) sV_int)) (sV_bin .mul (wv 8) (wsub (wv 1) sV_int))))
  (zaab (qasg ndz30 (sV_bin .sub (sV_bin .mul (wv 8) (wsub (wv 1) sV_int)) (sV_bin .mul (wv 7) (wsub (wv 2) sV_int))))
  (zaab (qasg ndz30 (sV_bin .mul (sV_bin .mul (wv 3) (wv 5)) (wv 6)))
  (zaab (sS_ret (wtup (wac (xcall (ihz17 ih) hr T.mz17 T.kz17 T.bdz17 .nil rfl (wrc (wsub (wv 0) sV_int) (wrc (wv 9) (wrc (wv 11) sR_nil)))) (wac (xcall (ihz17 ih) hr T.mz17 T.kz17 T.bdz17 .nil rfl (wrc (wsub (wv 0) sV_int) (wrc (wv 10) (wrc (wv 11) sR_nil)))) sA_nil))))
  zaac))))))))
theorem okz27 (T : Txt K mg) (ih : Ok P w base T k) : FnOk P w K mg base (CXE (Gof T) P w base) (2 * (k + 1)) T.fz27 T.dz27 ["vector"] (spG (Gof T) (run true fns sub0 whileL (k + 1)) (frOf fns) 19) := by
  refine fn_okX T.tz27 scz27 rfl rfl rfl fun cdv A outer s H E hr => ?_
  have hu := Nat.lt_of_le_of_lt (Nat.add_le_add_left (by decide : 9 ≤ 64) _) hr.units
  have hp := IP.passes_leave (X := cxOf (CXE (Gof T) P w base) P w K mg base nmz27 "square_of" (zaaa sz27) T.fz27 cdv A outer s H E) rfl
  exact (zaab (sS_ret (xcall (ihz26 ih) hr T.mz26 T.kz26 T.bdz26 .nil rfl (wrc (wtup (wac sV_int (wac sV_int sA_nil))) (wrc (wv 0) sR_nil))))
  zaac)
theorem okz28 (T : Txt K mg) (ih : Ok P w base T k) : FnOk P w K mg base (CXE (Gof T) P w base) (2 * (k + 1)) T.fz28 T.dz28 ["vector"] (spG (Gof T) (run true fns sub0 whileL (k + 1)) (frOf fns) 20) := by
  refine fn_okX T.tz28 scz28 rfl rfl rfl fun cdv A outer s H E hr => ?_
  have hu := Nat.lt_of_le_of_lt (Nat.add_le_add_left (by decide : 9 ≤ 64) _) hr.units
  have hp := IP.passes_leave (X := cxOf (CXE (Gof T) P w base) P w K mg base nmz28 "thousandfold_length" (zaaa sz28) T.fz28 cdv A outer s H E) rfl
  exact (zaab (sS_ret (xcall (ihz31 ih) hr T.mz31 T.kz31 T.bdz31 .nil rfl (wrc (sV_bin .mul sV_int (xcall (ihz27 ih) hr T.mz27 T.kz27 T.bdz27 .nil rfl (wrc (wv 0) sR_nil))) sR_nil)))
  zaac)
theorem okz17 (T : Txt K mg) (ih : Ok P w base T k) : FnOk P w K mg base (CXE (Gof T) P w base) (2 * (k + 1)) T.fz17 T.dz17 ["number", "part", "whole"] (spG (Gof T) (run true fns sub0 whileL (k + 1)) (frOf fns) 21) := by
  refine fn_okX T.tz17 scz17 rfl rfl rfl fun cdv A outer s H E hr => ?_
  have hu := Nat.lt_of_le_of_lt (Nat.add_le_add_left (by decide : 9 ≤ 64) _) hr.units
  have hp := IP.passes_leave (X := cxOf (CXE (Gof T) P w base) P w K mg base nmz17 "moved_number" (zaaa sz17) T.fz17 cdv A outer s H E) rfl
  exact (zaab (sS_ifs (wct hu .lt (wv 2) sV_int) (zaab (sS_ret (xcall (ihz17 ih) hr T.mz17 T.kz17 T.bdz17 .nil rfl (wrc (wv 0) (wrc (sV_neg (wv 1)) (wrc (sV_neg (wv 2)) sR_nil)))))
  zaac) zaac)
  (zaab (sS_ret (xcall (ihz16 ih) hr T.mz16 T.kz16 T.bdz16 .nil rfl (wrc (sV_bin .add (sV_bin .mul (wv 0) (wv 2)) (wv 1)) (wrc (wv 2) sR_nil))))
  zaac))
theorem okz9 (T : Txt K mg) (ih : Ok P w base T k) : FnOk P w K mg base (CXE (Gof T) P w base) (2 * (k + 1)) T.fz9 T.dz9 ["_law_found"] (spG (Gof T) (run true fns sub0 whileL (k + 1)) (frOf fns) 22) := by
  refine fn_okX T.tz9 scz9 rfl rfl rfl fun cdv A outer s H E hr => ?_
  have hu := Nat.lt_of_le_of_lt (Nat.add_le_add_left (by decide : 9 ≤ 64) _) hr.units
  have hp := IP.passes_leave (X := cxOf (CXE (Gof T) P w base) P w K mg base nmz9 "_law_whole" (zaaa sz9) T.fz9 cdv A outer s H E) rfl
  exact (zaab (sS_ret (sV_and (wisi .int (T.b_isinstance) (T.b_int) (wv 0)) (wone (sV_not (wisi .bool (T.b_isinstance) (T.b_bool) (wv 0))))))
  zaac)
theorem okz2 (T : Txt K mg) (ih : Ok P w base T k) : FnOk P w K mg base (CXE (Gof T) P w base) (2 * (k + 1)) T.fz2 T.dz2 ["_law_script", "_law_k"] (spG (Gof T) (run true fns sub0 whileL (k + 1)) (frOf fns) 23) := by
  refine fn_okX T.tz2 scz2 rfl rfl rfl fun cdv A outer s H E hr => ?_
  have hu := Nat.lt_of_le_of_lt (Nat.add_le_add_left (by decide : 9 ≤ 64) _) hr.units
  have hp := IP.passes_leave (X := cxOf (CXE (Gof T) P w base) P w K mg base nmz2 "_law_at" (zaaa sz2) T.fz2 cdv A outer s H E) rfl
  exact (zaab (sS_ifs (wct hu .lt (wv 1) (wlen (T.b_len) (wv 0))) (zaab (sS_ret (wsub (wv 0) (wv 1)))
  zaac) zaac)
  (zaab (sS_ret sV_int)
  zaac))
theorem okz3 (T : Txt K mg) (ih : Ok P w base T k) : FnOk P w K mg base (CXE (Gof T) P w base) (2 * (k + 1)) T.fz3 T.dz3 ["_law_cell", "_law_most"] (spG (Gof T) (run true fns sub0 whileL (k + 1)) (frOf fns) 24) := by
  refine fn_okX T.tz3 scz3 rfl rfl rfl fun cdv A outer s H E hr => ?_
  have hu := Nat.lt_of_le_of_lt (Nat.add_le_add_left (by decide : 9 ≤ 64) _) hr.units
  have hp := IP.passes_leave (X := cxOf (CXE (Gof T) P w base) P w K mg base nmz3 "_law_drawn" (zaaa sz3) T.fz3 cdv A outer s H E) rfl
  exact (zaab (sS_ifs (wct hu .eq (sV_bin .mod (wv 0) sV_int) sV_int) (zaab (sS_ret (wsub (wlst (wac sV_int (wac sV_int (wac (sV_neg sV_int) (wac (wv 1) (wac (sV_bin .sub sV_int (wv 1)) sA_nil)))))) (sV_bin .mod (sV_bin .fdiv (wv 0) sV_int) sV_int)))
  zaac) zaac)
  (zaab (sS_ret (sV_bin .sub (sV_bin .mod (sV_bin .fdiv (wv 0) sV_int) (sV_bin .add (sV_bin .mul sV_int (wv 1)) sV_int)) (wv 1)))
  zaac))
theorem okz5 (T : Txt K mg) (ih : Ok P w base T k) : FnOk P w K mg base (CXE (Gof T) P w base) (2 * (k + 1)) T.fz5 T.dz5 ["_law_found", "_law_due"] (spG (Gof T) (run true fns sub0 whileL (k + 1)) (frOf fns) 25) := by
  refine fn_okX T.tz5 scz5 rfl rfl rfl fun cdv A outer s H E hr => ?_
  have hu := Nat.lt_of_le_of_lt (Nat.add_le_add_left (by decide : 9 ≤ 64) _) hr.units
  have hp := IP.passes_leave (X := cxOf (CXE (Gof T) P w base) P w K mg base nmz5 "_law_numbers" (zaaa sz5) T.fz5 cdv A outer s H E) rfl
  exact (zaab (sS_ifs (PW.pt (ptb_or (sT_not (wtr (wisi .tuple (T.b_isinstance) (T.b_tuple) (wv 0)))) (zaaq (wct hu .ne (wlen (T.b_len) (wv 0)) (wlen (T.b_len) (wv 1)))))) (zaab (sS_ret sV_bl)
  zaac) zaac)
  (zaab (yfor hp (wr1 (T.b_range) (wlen (T.b_len) (wv 1))) (wg1 ndz5) (zaab (sS_ifs (PW.pt (ptb_or (sT_not (wtr (xcall (ihz9 ih) hr T.mz9 T.kz9 T.bdz9 .nil rfl (wrc (wsub (wv 0) (wv 2)) sR_nil)))) (zaaq (wct hu .ne (wsub (wv 0) (wv 2)) (wsub (wv 1) (wv 2)))))) (zaab (sS_ret sV_bl)
  zaac) zaac)
  zaac))
  (zaab (sS_ret sV_bl)
  zaac)))
theorem okz8 (T : Txt K mg) (ih : Ok P w base T k) : FnOk P w K mg base (CXE (Gof T) P w base) (2 * (k + 1)) T.fz8 T.dz8 ["_law_found", "_law_due"] (spG (Gof T) (run true fns sub0 whileL (k + 1)) (frOf fns) 26) := by
  refine fn_okX T.tz8 scz8 rfl rfl rfl fun cdv A outer s H E hr => ?_
  have hu := Nat.lt_of_le_of_lt (Nat.add_le_add_left (by decide : 9 ≤ 64) _) hr.units
  have hp := IP.passes_leave (X := cxOf (CXE (Gof T) P w base) P w K mg base nmz8 "_law_rows" (zaaa sz8) T.fz8 cdv A outer s H E) rfl
  exact (zaab (sS_ifs (PW.pt (ptb_or (sT_not (wtr (wisi .list (T.b_isinstance) (T.b_list) (wv 0)))) (zaaq (wct hu .ne (wlen (T.b_len) (wv 0)) (wlen (T.b_len) (wv 1)))))) (zaab (sS_ret sV_bl)
  zaac) zaac)
  (zaab (yfor hp (wr1 (T.b_range) (wlen (T.b_len) (wv 1))) (wg1 ndz8) (zaab (sS_ifs (sT_not (wtr (xcall (ihz5 ih) hr T.mz5 T.kz5 T.bdz5 .nil rfl (wrc (wsub (wv 0) (wv 2)) (wrc (wsub (wv 1) (wv 2)) sR_nil))))) (zaab (sS_ret sV_bl)
  zaac) zaac)
  zaac))
  (zaab (sS_ret sV_bl)
  zaac)))
theorem okz4 (T : Txt K mg) (ih : Ok P w base T k) : FnOk P w K mg base (CXE (Gof T) P w base) (2 * (k + 1)) T.fz4 T.dz4 ["_law_many", "_law_long"] (spG (Gof T) (run true fns sub0 whileL (k + 1)) (frOf fns) 27) := by
  refine fn_okX T.tz4 scz4 rfl rfl rfl fun cdv A outer s H E hr => ?_
  have hu := Nat.lt_of_le_of_lt (Nat.add_le_add_left (by decide : 9 ≤ 64) _) hr.units
  have hp := IP.passes_leave (X := cxOf (CXE (Gof T) P w base) P w K mg base nmz4 "_law_marks" (zaaa sz4) T.fz4 cdv A outer s H E) rfl
  exact (zaab (qasg ndz4 (wmin2 (T.b_min) (wv 0) (sV_bin .sub (wv 1) sV_int)))
  (zaab (sS_ret (sV_bin .add (wlst (wac sV_int sA_nil)) (sV_of (zabv (f := fun σ st => one (ev (cfX fns sub0 k) ez4_C0 .v σ st)) rfl (zaa3 (sc := (zaaa sz4).names) (N := nmz4) (N' := nmz4_c0) rfl rfl rfl rfl (by decide +kernel)) (by decide) (wr1 (T.b_range) (wv 2)) (fun _ _ _ _ => (wg1 ndz4_c0)) (fun _ _ _ _ => zabs (sV_bin .fdiv (sV_bin .mul (wv 1) (sV_bin .add (wv 3) sV_int)) (sV_bin .add (wv 2) sV_int)) rfl) (fun _ => rfl) (fun _ _ _ _ => zaaw _ _ _) (fun _ _ => rfl)) fun _ _ _ _ h => zabp h)))
  zaac))
theorem okz6 (T : Txt K mg) (ih : Ok P w base T k) : FnOk P w K mg base (CXE (Gof T) P w base) (2 * (k + 1)) T.fz6 T.dz6 ["_law_script", "_law_broad", "_law_high"] (spG (Gof T) (run true fns sub0 whileL (k + 1)) (frOf fns) 28) := by
  refine fn_okX T.tz6 scz6 rfl rfl rfl fun cdv A outer s H E hr => ?_
  have hu := Nat.lt_of_le_of_lt (Nat.add_le_add_left (by decide : 9 ≤ 64) _) hr.units
  have hp := IP.passes_leave (X := cxOf (CXE (Gof T) P w base) P w K mg base nmz6 "_law_oblong" (zaaa sz6) T.fz6 cdv A outer s H E) rfl
  exact (zaab (qmk ndz6 (wlstO sA_nil))
  (zaab (yfor hp (wpj (xcall (ihz4 ih) hr T.mz4 T.kz4 T.bdz4 .nil rfl (wrc (sV_bin .mod (xcall (ihz2 ih) hr T.mz2 T.kz2 T.bdz2 .nil rfl (wrc (wv 0) (wrc sV_int sR_nil))) sV_int) (wrc (wv 1) sR_nil)))) (wg1 ndz6) (zaab (qapp (i := 3) (wtup (wac (wv 4) (wac sV_int sA_nil))))
  zaac))
  (zaab (yfor hp (wpj (xcall (ihz4 ih) hr T.mz4 T.kz4 T.bdz4 .nil rfl (wrc (sV_bin .mod (xcall (ihz2 ih) hr T.mz2 T.kz2 T.bdz2 .nil rfl (wrc (wv 0) (wrc sV_int sR_nil))) sV_int) (wrc (wv 2) sR_nil)))) (wg1 ndz6) (zaab (qapp (i := 3) (wtup (wac (wv 1) (wac (wv 4) sA_nil))))
  zaac))
  (zaab (yfor hp (wpj (xcall (ihz4 ih) hr T.mz4 T.kz4 T.bdz4 .nil rfl (wrc (sV_bin .mod (xcall (ihz2 ih) hr T.mz2 T.kz2 T.bdz2 .nil rfl (wrc (wv 0) (wrc sV_int sR_nil))) sV_int) (wrc (wv 1) sR_nil)))) (wg1 ndz6) (zaab (qapp (i := 3) (wtup (wac (sV_bin .sub (wv 1) (wv 4)) (wac (wv 2) sA_nil))))
  zaac))
  (zaab (yfor hp (wpj (xcall (ihz4 ih) hr T.mz4 T.kz4 T.bdz4 .nil rfl (wrc (sV_bin .mod (xcall (ihz2 ih) hr T.mz2 T.kz2 T.bdz2 .nil rfl (wrc (wv 0) (wrc sV_int sR_nil))) sV_int) (wrc (wv 2) sR_nil)))) (wg1 ndz6) (zaab (qapp (i := 3) (wtup (wac sV_int (wac (sV_bin .sub (wv 2) (wv 4)) sA_nil))))
  zaac))
  (sSs_frz (zaab (sS_ret (wv 3))
  zaac)))))))
theorem okz7 (T : Txt K mg) (ih : Ok P w base T k) : FnOk P w K mg base (CXE (Gof T) P w base) (2 * (k + 1)) T.fz7 T.dz7 ["_law_far", "_law_most", "_law_breadth"] (spG (Gof T) (run true fns sub0 whileL (k + 1)) (frOf fns) 29) := by
  refine fn_okX T.tz7 scz7 rfl rfl rfl fun cdv A outer s H E hr => ?_
  have hu := Nat.lt_of_le_of_lt (Nat.add_le_add_left (by decide : 9 ≤ 64) _) hr.units
  have hp := IP.passes_leave (X := cxOf (CXE (Gof T) P w base) P w K mg base nmz7 "_law_out" (zaaa sz7) T.fz7 cdv A outer s H E) rfl
  exact (zaab (sS_ifs (wct hu .eq (wv 0) sV_int) (zaab (sS_ret (sV_bin .sub sV_int (wv 2)))
  zaac) zaac)
  (zaab (sS_ifs (wct hu .eq (wv 0) (wv 1)) (zaab (sS_ret (sV_bin .add (wv 1) (wv 2)))
  zaac) zaac)
  (zaab (sS_ret (wv 0))
  zaac)))
theorem ok_law (T : Txt K mg) (ih : Ok P w base T k) : FnOk P w K mg base (CXE (Gof T) P w base) (2 * (k + 1)) T.f_law T.d_law ["_law_script"] (spG (Gof T) (run true fns sub0 whileL (k + 1)) (frOf fns) 30) := by
  refine fn_okX T.t_law sc_law rfl rfl rfl fun cdv A outer s H E hr => ?_
  have hu := Nat.lt_of_le_of_lt (Nat.add_le_add_left (by decide : 9 ≤ 64) _) hr.units
  have hp := IP.passes_leave (X := cxOf (CXE (Gof T) P w base) P w K mg base nm_law "law" (zaaa s_law) T.f_law cdv A outer s H E) rfl
  exact (zaab (qasg nd_law (xcall (ihz3 ih) hr T.mz3 T.kz3 T.bdz3 .nil rfl (wrc (xcall (ihz2 ih) hr T.mz2 T.kz2 T.bdz2 .nil rfl (wrc (wv 0) (wrc sV_int sR_nil))) (wrc sV_int sR_nil))))
  (zaab (qasg nd_law (xcall (ihz3 ih) hr T.mz3 T.kz3 T.bdz3 .nil rfl (wrc (xcall (ihz2 ih) hr T.mz2 T.kz2 T.bdz2 .nil rfl (wrc (wv 0) (wrc sV_int sR_nil))) (wrc sV_int sR_nil))))
  (zaab (qasg nd_law (sV_bin .add sV_int (sV_bin .mod (xcall (ihz2 ih) hr T.mz2 T.kz2 T.bdz2 .nil rfl (wrc (wv 0) (wrc sV_int sR_nil))) sV_int)))
  (zaab (qasg nd_law (sV_bin .add sV_int (sV_bin .mod (xcall (ihz2 ih) hr T.mz2 T.kz2 T.bdz2 .nil rfl (wrc (wv 0) (wrc sV_int sR_nil))) sV_int)))
  (zaab (qasg nd_law (wabs (T.b_abs) (xcall (ihz3 ih) hr T.mz3 T.kz3 T.bdz3 .nil rfl (wrc (xcall (ihz2 ih) hr T.mz2 T.kz2 T.bdz2 .nil rfl (wrc (wv 0) (wrc sV_int sR_nil))) (wrc sV_int sR_nil)))))
  (zaab (qasg nd_law (xcall (ihz6 ih) hr T.mz6 T.kz6 T.bdz6 .nil rfl (wrc (wv 0) (wrc (wv 3) (wrc (wv 4) sR_nil)))))
  (zaab (sS_ifs (wct hu .eq (sV_bin .mod (xcall (ihz2 ih) hr T.mz2 T.kz2 T.bdz2 .nil rfl (wrc (wv 0) (wrc sV_int sR_nil))) sV_int) sV_int) (zaab (qasg nd_law (sV_of (sO_rev (wv 6)) fun _ _ _ _ h => rev_is h))
  zaac) zaac)
  (zaab (qasg nd_law (sV_bin .mod (sV_bin .fdiv (xcall (ihz2 ih) hr T.mz2 T.kz2 T.bdz2 .nil rfl (wrc (wv 0) (wrc sV_int sR_nil))) sV_int) (wlen (T.b_len) (wv 6))))
  (zaab (qasg nd_law (sV_bin .add (sV_cutL (wv 6) (wv 7)) (sV_cutU (wv 6) (wv 7))))
  (zaab (by first | exact zabr (fun _ _ _ _ h => zabp h) (zad1 (f := fun σ st => one (ev (cfX fns sub0 k) zab2 .v σ st)) rfl (zaa3 (sc := (zaaa s_law).names) (N := nm_law) (N' := zab7) rfl rfl rfl rfl (by decide +kernel)) (by decide) (wpl (wv 6)) (fun _ _ _ _ => (wg1 zac3)) (fun _ _ _ _ => zabs (wtup (wac (sV_bin .add (wv 1) (wsub (wv 12) sV_int)) (wac (sV_bin .add (wv 2) (wsub (wv 12) sV_int)) sA_nil))) rfl) (fun _ => rfl) (fun _ _ _ _ => zaaw _ _ _) (fun _ _ => rfl) rfl nd_law rfl rfl) | exact qasg nd_law (sV_of (zabv (f := fun σ st => one (ev (cfX fns sub0 k) zab2 .v σ st)) rfl (zaa3 (sc := (zaaa s_law).names) (N := nm_law) (N' := zab7) rfl rfl rfl rfl (by decide +kernel)) (by decide) (wpl (wv 6)) (fun _ _ _ _ => (wg1 zac3)) (fun _ _ _ _ => zabs (wtup (wac (sV_bin .add (wv 1) (wsub (wv 12) sV_int)) (wac (sV_bin .add (wv 2) (wsub (wv 12) sV_int)) sA_nil))) rfl) (fun _ => rfl) (fun _ _ _ _ => zaaw _ _ _) (fun _ _ => rfl)) fun _ _ _ _ h => zabp h))
  (zaab (qasg nd_law (wlist (T.b_list) (wv 8)))
  (zaab (qasg nd_law (xcall (ihz18 ih) hr T.mz18 T.kz18 T.bdz18 .nil rfl (wrc (wv 8) (wrc (wv 5) sR_nil))))
  (zaab (sS_ifs (sT_not (wtr (xcall (ihz8 ih) hr T.mz8 T.kz8 T.bdz8 .nil rfl (wrc (wv 8) (wrc (wv 9) sR_nil))))) (zaab (sS_ret sV_bl)
  zaac) zaac)
  (zaab (sS_ifs (PW.pt (ptb_or (sT_not (wtr (wisi .list (T.b_isinstance) (T.b_list) (wv 10)))) (zaaq (wct hu .ne (wlen (T.b_len) (wv 10)) (wlen (T.b_len) (wv 6)))))) (zaab (sS_ret sV_bl)
  zaac) zaac)
  (zaab (yfor hp (wr1 (T.b_range) (wlen (T.b_len) (wv 6))) (wg1 nd_law) (zaab (sS_ifs (PW.pt (ptb_or (sT_not (wtr (wisi .tuple (T.b_isinstance) (T.b_tuple) (wsub (wv 10) (wv 11))))) (zaaq (wct hu .ne (wlen (T.b_len) (wsub (wv 10) (wv 11))) sV_int)))) (zaab (sS_ret sV_bl)
  zaac) zaac)
  (zaab (sS_ifs (sT_not (wtr (xcall (ihz5 ih) hr T.mz5 T.kz5 T.bdz5 .nil rfl (wrc (wsub (wsub (wv 10) (wv 11)) sV_int) (wrc (wtup (wac (sV_bin .add (wv 1) (xcall (ihz7 ih) hr T.mz7 T.kz7 T.bdz7 .nil rfl (wrc (wsub (wsub (wv 6) (wv 11)) sV_int) (wrc (wv 3) (wrc (wv 5) sR_nil))))) (wac sV_int sA_nil))) sR_nil))))) (zaab (sS_ret sV_bl)
  zaac) zaac)
  (zaab (sS_ifs (sT_not (wtr (xcall (ihz5 ih) hr T.mz5 T.kz5 T.bdz5 .nil rfl (wrc (wsub (wsub (wv 10) (wv 11)) sV_int) (wrc (wtup (wac (sV_bin .add (wv 2) (xcall (ihz7 ih) hr T.mz7 T.kz7 T.bdz7 .nil rfl (wrc (wsub (wsub (wv 6) (wv 11)) sV_int) (wrc (wv 4) (wrc (wv 5) sR_nil))))) (wac sV_int sA_nil))) sR_nil))))) (zaab (sS_ret sV_bl)
  zaac) zaac)
  zaac))))
  (zaab (sS_ret sV_bl)
  zaac))))))))))))))))
theorem all (T : Txt K mg) : ∀ k, Ok P w base T k
  | 0 => ⟨zaad (sub := sub0), zaad (sub := sub0), zaad (sub := sub0), zaad (sub := sub0), zaad (sub := sub0), zaad (sub := sub0), zaad (sub := sub0), zaad (sub := sub0), zaad (sub := sub0), zaad (sub := sub0), zaad (sub := sub0), zaad (sub := sub0), zaad (sub := sub0), zaad (sub := sub0), zaad (sub := sub0), zaad (sub := sub0), zaad (sub := sub0), zaad (sub := sub0), zaad (sub := sub0), zaad (sub := sub0), zaad (sub := sub0), zaad (sub := sub0), zaad (sub := sub0), zaad (sub := sub0), zaad (sub := sub0), zaad (sub := sub0), zaad (sub := sub0), zaad (sub := sub0), zaad (sub := sub0), zaad (sub := sub0), zaad (sub := sub0)⟩
  | k + 1 => ⟨okz12 T (all T k), okz24 T (all T k), okz23 T (all T k), okz21 T (all T k), okz14 T (all T k), okz25 T (all T k), okz20 T (all T k), okz29 T (all T k), okz10 T (all T k), okz26 T (all T k), okz31 T (all T k), okz16 T (all T k), okz13 T (all T k), okz18 T (all T k), okz22 T (all T k), okz19 T (all T k), okz15 T (all T k), okz11 T (all T k), okz30 T (all T k), okz27 T (all T k), okz28 T (all T k), okz17 T (all T k), okz9 T (all T k), okz2 T (all T k), okz3 T (all T k), okz5 T (all T k), okz8 T (all T k), okz4 T (all T k), okz6 T (all T k), okz7 T (all T k), ok_law T (all T k)⟩
end
end Pg
end IP
end
section
set_option Elab.async false
set_option linter.all false
set_option maxRecDepth 100000
set_option maxHeartbeats 0
namespace IP
open PySem PySem.Spec L2
namespace Pg
def Math : Prop := ∀ ns : List Int, ns.length ≤ 63 → ∃ s, run true fns sub0 whileL 16 30 [.val (.lst (ns.map .int))] [] = .ok (.val (.bl true)) s
abbrev spTop (G : Gx) : Sp := fun vs H Q _ => spG G (run true fns sub0 whileL 16) (frOf fns) 30 vs H Q fun _ _ _ => False
theorem all_mk {l : PySem.W.OpenLaw} {w : World} {K : PySem.W.Frag} {h : Heap} {mg : Str → Option Value} {fa : Addr} {ez1 : Addr} {ez0 : Addr} {fz12 : Addr} {odz12 anz12 : Option Addr} {slz12 : Array (Option Value)} {ocz12 kVz12 dcz12 pmz12 cdz12 ctz12 : Value} {fz24 : Addr} {odz24 anz24 : Option Addr} {slz24 : Array (Option Value)} {ocz24 kVz24 dcz24 pmz24 cdz24 ctz24 : Value} {fz23 : Addr} {odz23 anz23 : Option Addr} {slz23 : Array (Option Value)} {ocz23 kVz23 dcz23 pmz23 cdz23 ctz23 : Value} {fz21 : Addr} {odz21 anz21 : Option Addr} {slz21 : Array (Option Value)} {ocz21 kVz21 dcz21 pmz21 cdz21 ctz21 : Value} {fz14 : Addr} {odz14 anz14 : Option Addr} {slz14 : Array (Option Value)} {ocz14 kVz14 dcz14 pmz14 cdz14 ctz14 : Value} {fz25 : Addr} {odz25 anz25 : Option Addr} {slz25 : Array (Option Value)} {ocz25 kVz25 dcz25 pmz25 cdz25 ctz25 : Value} {fz20 : Addr} {odz20 anz20 : Option Addr} {slz20 : Array (Option Value)} {ocz20 kVz20 dcz20 pmz20 cdz20 ctz20 : Value} {fz29 : Addr} {odz29 anz29 : Option Addr} {slz29 : Array (Option Value)} {ocz29 kVz29 dcz29 pmz29 cdz29 ctz29 : Value} {fz10 : Addr} {odz10 anz10 : Option Addr} {slz10 : Array (Option Value)} {ocz10 kVz10 dcz10 pmz10 cdz10 ctz10 : Value} {fz26 : Addr} {odz26 anz26 : Option Addr} {slz26 : Array (Option Value)} {ocz26 kVz26 dcz26 pmz26 cdz26 ctz26 : Value} {fz31 : Addr} {odz31 anz31 : Option Addr} {slz31 : Array (Option Value)} {ocz31 kVz31 dcz31 pmz31 cdz31 ctz31 : Value} {fz16 : Addr} {odz16 anz16 : Option Addr} {slz16 : Array (Option Value)} {ocz16 kVz16 dcz16 pmz16 cdz16 ctz16 : Value} {fz13 : Addr} {odz13 anz13 : Option Addr} {slz13 : Array (Option Value)} {ocz13 kVz13 dcz13 pmz13 cdz13 ctz13 : Value} {fz18 : Addr} {odz18 anz18 : Option Addr} {slz18 : Array (Option Value)} {ocz18 kVz18 dcz18 pmz18 cdz18 ctz18 : Value} {fz22 : Addr} {odz22 anz22 : Option Addr} {slz22 : Array (Option Value)} {ocz22 kVz22 dcz22 pmz22 cdz22 ctz22 : Value} {fz19 : Addr} {odz19 anz19 : Option Addr} {slz19 : Array (Option Value)} {ocz19 kVz19 dcz19 pmz19 cdz19 ctz19 : Value} {fz15 : Addr} {odz15 anz15 : Option Addr} {slz15 : Array (Option Value)} {ocz15 kVz15 dcz15 pmz15 cdz15 ctz15 : Value} {fz11 : Addr} {odz11 anz11 : Option Addr} {slz11 : Array (Option Value)} {ocz11 kVz11 dcz11 pmz11 cdz11 ctz11 : Value} {fz30 : Addr} {odz30 anz30 : Option Addr} {slz30 : Array (Option Value)} {ocz30 kVz30 dcz30 pmz30 cdz30 ctz30 : Value} {fz27 : Addr} {odz27 anz27 : Option Addr} {slz27 : Array (Option Value)} {ocz27 kVz27 dcz27 pmz27 cdz27 ctz27 : Value} {fz28 : Addr} {odz28 anz28 : Option Addr} {slz28 : Array (Option Value)} {ocz28 kVz28 dcz28 pmz28 cdz28 ctz28 : Value} {fz17 : Addr} {odz17 anz17 : Option Addr} {slz17 : Array (Option Value)} {ocz17 kVz17 dcz17 pmz17 cdz17 ctz17 : Value} {fz9 : Addr} {odz9 anz9 : Option Addr} {slz9 : Array (Option Value)} {ocz9 kVz9 dcz9 pmz9 cdz9 ctz9 : Value} {fz2 : Addr} {odz2 anz2 : Option Addr} {slz2 : Array (Option Value)} {ocz2 kVz2 dcz2 pmz2 cdz2 ctz2 : Value} {fz3 : Addr} {odz3 anz3 : Option Addr} {slz3 : Array (Option Value)} {ocz3 kVz3 dcz3 pmz3 cdz3 ctz3 : Value} {fz5 : Addr} {odz5 anz5 : Option Addr} {slz5 : Array (Option Value)} {ocz5 kVz5 dcz5 pmz5 cdz5 ctz5 : Value} {fz8 : Addr} {odz8 anz8 : Option Addr} {slz8 : Array (Option Value)} {ocz8 kVz8 dcz8 pmz8 cdz8 ctz8 : Value} {fz4 : Addr} {odz4 anz4 : Option Addr} {slz4 : Array (Option Value)} {ocz4 kVz4 dcz4 pmz4 cdz4 ctz4 : Value} {fz6 : Addr} {odz6 anz6 : Option Addr} {slz6 : Array (Option Value)} {ocz6 kVz6 dcz6 pmz6 cdz6 ctz6 : Value} {fz7 : Addr} {odz7 anz7 : Option Addr} {slz7 : Array (Option Value)} {ocz7 kVz7 dcz7 pmz7 cdz7 ctz7 : Value} {f_law : Addr} {od_law an_law : Option Addr} {sl_law : Array (Option Value)} {oc_law kV_law dc_law pm_law cd_law ct_law : Value} (X : K.In h) (Gn : h.Ns mainGlobals mg) (hfa : mg "law" = some (.ref fa))
    (aez1 : PySem.W.nsIn K mainGlobals "GradeError" = some (some (.ref ez1)))
    (aez0 : PySem.W.nsIn K mainGlobals "Crossed" = some (some (.ref ez0)))
    (qez0 : PySem.W.excIn K ez0 [.type "ValueError", .type "Exception", .type "BaseException", .type "object"] "ValueError.__new__" = true)
    (az12 : PySem.W.nsIn K mainGlobals "crossing" = some (some (.ref fz12)))
    (lz12 : K.lookup fz12 = some ⟨ocz12, odz12, .func (PySem.W.fnOf "crossing" "crossing" (zaaf sz12) (zaae sz12) (zaaa sz12) .none kVz12 dcz12 pmz12 anz12 cdz12 ctz12), slz12⟩)
    (cz12 : PySem.W.codeIn K cdz12 "crossing" = true)
    (kz12 : PySem.W.keepIn K (.ref fz12) = true)
    (az24 : PySem.W.nsIn K mainGlobals "sides_cross" = some (some (.ref fz24)))
    (lz24 : K.lookup fz24 = some ⟨ocz24, odz24, .func (PySem.W.fnOf "sides_cross" "sides_cross" (zaaf sz24) (zaae sz24) (zaaa sz24) .none kVz24 dcz24 pmz24 anz24 cdz24 ctz24), slz24⟩)
    (cz24 : PySem.W.codeIn K cdz24 "sides_cross" = true)
    (kz24 : PySem.W.keepIn K (.ref fz24) = true)
    (az23 : PySem.W.nsIn K mainGlobals "side_ends" = some (some (.ref fz23)))
    (lz23 : K.lookup fz23 = some ⟨ocz23, odz23, .func (PySem.W.fnOf "side_ends" "side_ends" (zaaf sz23) (zaae sz23) (zaaa sz23) .none kVz23 dcz23 pmz23 anz23 cdz23 ctz23), slz23⟩)
    (cz23 : PySem.W.codeIn K cdz23 "side_ends" = true)
    (kz23 : PySem.W.keepIn K (.ref fz23) = true)
    (az21 : PySem.W.nsIn K mainGlobals "run_together" = some (some (.ref fz21)))
    (lz21 : K.lookup fz21 = some ⟨ocz21, odz21, .func (PySem.W.fnOf "run_together" "run_together" (zaaf sz21) (zaae sz21) (zaaa sz21) .none kVz21 dcz21 pmz21 anz21 cdz21 ctz21), slz21⟩)
    (cz21 : PySem.W.codeIn K cdz21 "run_together" = true)
    (kz21 : PySem.W.keepIn K (.ref fz21) = true)
    (az14 : PySem.W.nsIn K mainGlobals "have_common_point" = some (some (.ref fz14)))
    (lz14 : K.lookup fz14 = some ⟨ocz14, odz14, .func (PySem.W.fnOf "have_common_point" "have_common_point" (zaaf sz14) (zaae sz14) (zaaa sz14) .none kVz14 dcz14 pmz14 anz14 cdz14 ctz14), slz14⟩)
    (cz14 : PySem.W.codeIn K cdz14 "have_common_point" = true)
    (kz14 : PySem.W.keepIn K (.ref fz14) = true)
    (az25 : PySem.W.nsIn K mainGlobals "spans_meet" = some (some (.ref fz25)))
    (lz25 : K.lookup fz25 = some ⟨ocz25, odz25, .func (PySem.W.fnOf "spans_meet" "spans_meet" (zaaf sz25) (zaae sz25) (zaaa sz25) .none kVz25 dcz25 pmz25 anz25 cdz25 ctz25), slz25⟩)
    (cz25 : PySem.W.codeIn K cdz25 "spans_meet" = true)
    (kz25 : PySem.W.keepIn K (.ref fz25) = true)
    (az20 : PySem.W.nsIn K mainGlobals "reaches_across" = some (some (.ref fz20)))
    (lz20 : K.lookup fz20 = some ⟨ocz20, odz20, .func (PySem.W.fnOf "reaches_across" "reaches_across" (zaaf sz20) (zaae sz20) (zaaa sz20) .none kVz20 dcz20 pmz20 anz20 cdz20 ctz20), slz20⟩)
    (cz20 : PySem.W.codeIn K cdz20 "reaches_across" = true)
    (kz20 : PySem.W.keepIn K (.ref fz20) = true)
    (az29 : PySem.W.nsIn K mainGlobals "turn" = some (some (.ref fz29)))
    (lz29 : K.lookup fz29 = some ⟨ocz29, odz29, .func (PySem.W.fnOf "turn" "turn" (zaaf sz29) (zaae sz29) (zaaa sz29) .none kVz29 dcz29 pmz29 anz29 cdz29 ctz29), slz29⟩)
    (cz29 : PySem.W.codeIn K cdz29 "turn" = true)
    (kz29 : PySem.W.keepIn K (.ref fz29) = true)
    (az10 : PySem.W.nsIn K mainGlobals "along" = some (some (.ref fz10)))
    (lz10 : K.lookup fz10 = some ⟨ocz10, odz10, .func (PySem.W.fnOf "along" "along" (zaaf sz10) (zaae sz10) (zaaa sz10) .none kVz10 dcz10 pmz10 anz10 cdz10 ctz10), slz10⟩)
    (cz10 : PySem.W.codeIn K cdz10 "along" = true)
    (kz10 : PySem.W.keepIn K (.ref fz10) = true)
    (az26 : PySem.W.nsIn K mainGlobals "square" = some (some (.ref fz26)))
    (lz26 : K.lookup fz26 = some ⟨ocz26, odz26, .func (PySem.W.fnOf "square" "square" (zaaf sz26) (zaae sz26) (zaaa sz26) .none kVz26 dcz26 pmz26 anz26 cdz26 ctz26), slz26⟩)
    (cz26 : PySem.W.codeIn K cdz26 "square" = true)
    (kz26 : PySem.W.keepIn K (.ref fz26) = true)
    (az31 : PySem.W.nsIn K mainGlobals "whole_root" = some (some (.ref fz31)))
    (lz31 : K.lookup fz31 = some ⟨ocz31, odz31, .func (PySem.W.fnOf "whole_root" "whole_root" (zaaf sz31) (zaae sz31) (zaaa sz31) .none kVz31 dcz31 pmz31 anz31 cdz31 ctz31), slz31⟩)
    (cz31 : PySem.W.codeIn K cdz31 "whole_root" = true)
    (kz31 : PySem.W.keepIn K (.ref fz31) = true)
    (az16 : PySem.W.nsIn K mainGlobals "lowest_terms" = some (some (.ref fz16)))
    (lz16 : K.lookup fz16 = some ⟨ocz16, odz16, .func (PySem.W.fnOf "lowest_terms" "lowest_terms" (zaaf sz16) (zaae sz16) (zaaa sz16) .none kVz16 dcz16 pmz16 anz16 cdz16 ctz16), slz16⟩)
    (cz16 : PySem.W.codeIn K cdz16 "lowest_terms" = true)
    (kz16 : PySem.W.keepIn K (.ref fz16) = true)
    (az13 : PySem.W.nsIn K mainGlobals "greatest_divisor" = some (some (.ref fz13)))
    (lz13 : K.lookup fz13 = some ⟨ocz13, odz13, .func (PySem.W.fnOf "greatest_divisor" "greatest_divisor" (zaaf sz13) (zaae sz13) (zaaa sz13) .none kVz13 dcz13 pmz13 anz13 cdz13 ctz13), slz13⟩)
    (cz13 : PySem.W.codeIn K cdz13 "greatest_divisor" = true)
    (kz13 : PySem.W.keepIn K (.ref fz13) = true)
    (az18 : PySem.W.nsIn K mainGlobals "outline" = some (some (.ref fz18)))
    (lz18 : K.lookup fz18 = some ⟨ocz18, odz18, .func (PySem.W.fnOf "outline" "outline" (zaaf sz18) (zaae sz18) (zaaa sz18) .none kVz18 dcz18 pmz18 anz18 cdz18 ctz18), slz18⟩)
    (cz18 : PySem.W.codeIn K cdz18 "outline" = true)
    (kz18 : PySem.W.keepIn K (.ref fz18) = true)
    (az22 : PySem.W.nsIn K mainGlobals "runs_leftward" = some (some (.ref fz22)))
    (lz22 : K.lookup fz22 = some ⟨ocz22, odz22, .func (PySem.W.fnOf "runs_leftward" "runs_leftward" (zaaf sz22) (zaae sz22) (zaaa sz22) .none kVz22 dcz22 pmz22 anz22 cdz22 ctz22), slz22⟩)
    (cz22 : PySem.W.codeIn K cdz22 "runs_leftward" = true)
    (kz22 : PySem.W.keepIn K (.ref fz22) = true)
    (az19 : PySem.W.nsIn K mainGlobals "outward_vector" = some (some (.ref fz19)))
    (lz19 : K.lookup fz19 = some ⟨ocz19, odz19, .func (PySem.W.fnOf "outward_vector" "outward_vector" (zaaf sz19) (zaae sz19) (zaaa sz19) .none kVz19 dcz19 pmz19 anz19 cdz19 ctz19), slz19⟩)
    (cz19 : PySem.W.codeIn K cdz19 "outward_vector" = true)
    (kz19 : PySem.W.keepIn K (.ref fz19) = true)
    (az15 : PySem.W.nsIn K mainGlobals "hem_corner" = some (some (.ref fz15)))
    (lz15 : K.lookup fz15 = some ⟨ocz15, odz15, .func (PySem.W.fnOf "hem_corner" "hem_corner" (zaaf sz15) (zaae sz15) (zaaa sz15) .none kVz15 dcz15 pmz15 anz15 cdz15 ctz15), slz15⟩)
    (cz15 : PySem.W.codeIn K cdz15 "hem_corner" = true)
    (kz15 : PySem.W.keepIn K (.ref fz15) = true)
    (az11 : PySem.W.nsIn K mainGlobals "beside" = some (some (.ref fz11)))
    (lz11 : K.lookup fz11 = some ⟨ocz11, odz11, .func (PySem.W.fnOf "beside" "beside" (zaaf sz11) (zaae sz11) (zaaa sz11) .none kVz11 dcz11 pmz11 anz11 cdz11 ctz11), slz11⟩)
    (cz11 : PySem.W.codeIn K cdz11 "beside" = true)
    (kz11 : PySem.W.keepIn K (.ref fz11) = true)
    (az30 : PySem.W.nsIn K mainGlobals "where_they_cut" = some (some (.ref fz30)))
    (lz30 : K.lookup fz30 = some ⟨ocz30, odz30, .func (PySem.W.fnOf "where_they_cut" "where_they_cut" (zaaf sz30) (zaae sz30) (zaaa sz30) .none kVz30 dcz30 pmz30 anz30 cdz30 ctz30), slz30⟩)
    (cz30 : PySem.W.codeIn K cdz30 "where_they_cut" = true)
    (kz30 : PySem.W.keepIn K (.ref fz30) = true)
    (az27 : PySem.W.nsIn K mainGlobals "square_of" = some (some (.ref fz27)))
    (lz27 : K.lookup fz27 = some ⟨ocz27, odz27, .func (PySem.W.fnOf "square_of" "square_of" (zaaf sz27) (zaae sz27) (zaaa sz27) .none kVz27 dcz27 pmz27 anz27 cdz27 ctz27), slz27⟩)
    (cz27 : PySem.W.codeIn K cdz27 "square_of" = true)
    (kz27 : PySem.W.keepIn K (.ref fz27) = true)
    (az28 : PySem.W.nsIn K mainGlobals "thousandfold_length" = some (some (.ref fz28)))
    (lz28 : K.lookup fz28 = some ⟨ocz28, odz28, .func (PySem.W.fnOf "thousandfold_length" "thousandfold_length" (zaaf sz28) (zaae sz28) (zaaa sz28) .none kVz28 dcz28 pmz28 anz28 cdz28 ctz28), slz28⟩)
    (cz28 : PySem.W.codeIn K cdz28 "thousandfold_length" = true)
    (kz28 : PySem.W.keepIn K (.ref fz28) = true)
    (az17 : PySem.W.nsIn K mainGlobals "moved_number" = some (some (.ref fz17)))
    (lz17 : K.lookup fz17 = some ⟨ocz17, odz17, .func (PySem.W.fnOf "moved_number" "moved_number" (zaaf sz17) (zaae sz17) (zaaa sz17) .none kVz17 dcz17 pmz17 anz17 cdz17 ctz17), slz17⟩)
    (cz17 : PySem.W.codeIn K cdz17 "moved_number" = true)
    (kz17 : PySem.W.keepIn K (.ref fz17) = true)
    (az9 : PySem.W.nsIn K mainGlobals "_law_whole" = some (some (.ref fz9)))
    (lz9 : K.lookup fz9 = some ⟨ocz9, odz9, .func (PySem.W.fnOf "_law_whole" "_law_whole" (zaaf sz9) (zaae sz9) (zaaa sz9) .none kVz9 dcz9 pmz9 anz9 cdz9 ctz9), slz9⟩)
    (cz9 : PySem.W.codeIn K cdz9 "_law_whole" = true)
    (kz9 : PySem.W.keepIn K (.ref fz9) = true)
    (az2 : PySem.W.nsIn K mainGlobals "_law_at" = some (some (.ref fz2)))
    (lz2 : K.lookup fz2 = some ⟨ocz2, odz2, .func (PySem.W.fnOf "_law_at" "_law_at" (zaaf sz2) (zaae sz2) (zaaa sz2) .none kVz2 dcz2 pmz2 anz2 cdz2 ctz2), slz2⟩)
    (cz2 : PySem.W.codeIn K cdz2 "_law_at" = true)
    (kz2 : PySem.W.keepIn K (.ref fz2) = true)
    (az3 : PySem.W.nsIn K mainGlobals "_law_drawn" = some (some (.ref fz3)))
    (lz3 : K.lookup fz3 = some ⟨ocz3, odz3, .func (PySem.W.fnOf "_law_drawn" "_law_drawn" (zaaf sz3) (zaae sz3) (zaaa sz3) .none kVz3 dcz3 pmz3 anz3 cdz3 ctz3), slz3⟩)
    (cz3 : PySem.W.codeIn K cdz3 "_law_drawn" = true)
    (kz3 : PySem.W.keepIn K (.ref fz3) = true)
    (az5 : PySem.W.nsIn K mainGlobals "_law_numbers" = some (some (.ref fz5)))
    (lz5 : K.lookup fz5 = some ⟨ocz5, odz5, .func (PySem.W.fnOf "_law_numbers" "_law_numbers" (zaaf sz5) (zaae sz5) (zaaa sz5) .none kVz5 dcz5 pmz5 anz5 cdz5 ctz5), slz5⟩)
    (cz5 : PySem.W.codeIn K cdz5 "_law_numbers" = true)
    (kz5 : PySem.W.keepIn K (.ref fz5) = true)
    (az8 : PySem.W.nsIn K mainGlobals "_law_rows" = some (some (.ref fz8)))
    (lz8 : K.lookup fz8 = some ⟨ocz8, odz8, .func (PySem.W.fnOf "_law_rows" "_law_rows" (zaaf sz8) (zaae sz8) (zaaa sz8) .none kVz8 dcz8 pmz8 anz8 cdz8 ctz8), slz8⟩)
    (cz8 : PySem.W.codeIn K cdz8 "_law_rows" = true)
    (kz8 : PySem.W.keepIn K (.ref fz8) = true)
    (az4 : PySem.W.nsIn K mainGlobals "_law_marks" = some (some (.ref fz4)))
    (lz4 : K.lookup fz4 = some ⟨ocz4, odz4, .func (PySem.W.fnOf "_law_marks" "_law_marks" (zaaf sz4) (zaae sz4) (zaaa sz4) .none kVz4 dcz4 pmz4 anz4 cdz4 ctz4), slz4⟩)
    (cz4 : PySem.W.codeIn K cdz4 "_law_marks" = true)
    (kz4 : PySem.W.keepIn K (.ref fz4) = true)
    (az6 : PySem.W.nsIn K mainGlobals "_law_oblong" = some (some (.ref fz6)))
    (lz6 : K.lookup fz6 = some ⟨ocz6, odz6, .func (PySem.W.fnOf "_law_oblong" "_law_oblong" (zaaf sz6) (zaae sz6) (zaaa sz6) .none kVz6 dcz6 pmz6 anz6 cdz6 ctz6), slz6⟩)
    (cz6 : PySem.W.codeIn K cdz6 "_law_oblong" = true)
    (kz6 : PySem.W.keepIn K (.ref fz6) = true)
    (az7 : PySem.W.nsIn K mainGlobals "_law_out" = some (some (.ref fz7)))
    (lz7 : K.lookup fz7 = some ⟨ocz7, odz7, .func (PySem.W.fnOf "_law_out" "_law_out" (zaaf sz7) (zaae sz7) (zaaa sz7) .none kVz7 dcz7 pmz7 anz7 cdz7 ctz7), slz7⟩)
    (cz7 : PySem.W.codeIn K cdz7 "_law_out" = true)
    (kz7 : PySem.W.keepIn K (.ref fz7) = true)
    (a_law : PySem.W.nsIn K mainGlobals "law" = some (some (.ref f_law)))
    (l_law : K.lookup f_law = some ⟨oc_law, od_law, .func (PySem.W.fnOf "law" "law" (zaaf s_law) (zaae s_law) (zaaa s_law) .none kV_law dc_law pm_law an_law cd_law ct_law), sl_law⟩)
    (c_law : PySem.W.codeIn K cd_law "law" = true)
    (k_law : PySem.W.keepIn K (.ref f_law) = true)
    (z_abs : PySem.W.nsIn K mainGlobals "abs" = some none)
    (z_bool : PySem.W.nsIn K mainGlobals "bool" = some none)
    (z_enumerate : PySem.W.nsIn K mainGlobals "enumerate" = some none)
    (z_int : PySem.W.nsIn K mainGlobals "int" = some none)
    (z_isinstance : PySem.W.nsIn K mainGlobals "isinstance" = some none)
    (z_len : PySem.W.nsIn K mainGlobals "len" = some none)
    (z_list : PySem.W.nsIn K mainGlobals "list" = some none)
    (z_min : PySem.W.nsIn K mainGlobals "min" = some none)
    (z_range : PySem.W.nsIn K mainGlobals "range" = some none)
    (z_sorted : PySem.W.nsIn K mainGlobals "sorted" = some none)
    (z_tuple : PySem.W.nsIn K mainGlobals "tuple" = some none) :
    ∃ (fd : FuncData) (G : Gx), (∀ (s : Shared) (v : Value), BindsTo s fd ⟨[v], []⟩ [("_law_script", v)]) ∧ ∀ base : Heap, K.In base → base.Ns mainGlobals mg → FnOk l.prog w K mg base CX0 32 fa fd ["_law_script"] (spTop G) := by
  have e := hfa.symm.trans (PySem.W.mg_of X Gn a_law)
  cases e
  have Fz12 := zaai (st := sz12) lz12 cz12 kz12
  have Bz12 : Binds K (PySem.W.fnOf "crossing" "crossing" (zaaf sz12) (zaae sz12) (zaaa sz12) .none kVz12 dcz12 pmz12 anz12 cdz12 ctz12) ["corners"] [] := .all fun us hl => match us, hl with | [_], _ => rfl
  have Fz24 := zaai (st := sz24) lz24 cz24 kz24
  have Bz24 : Binds K (PySem.W.fnOf "sides_cross" "sides_cross" (zaaf sz24) (zaae sz24) (zaaa sz24) .none kVz24 dcz24 pmz24 anz24 cdz24 ctz24) ["corners", "i", "j"] [] := .all fun us hl => match us, hl with | [_, _, _], _ => rfl
  have Fz23 := zaai (st := sz23) lz23 cz23 kz23
  have Bz23 : Binds K (PySem.W.fnOf "side_ends" "side_ends" (zaaf sz23) (zaae sz23) (zaaa sz23) .none kVz23 dcz23 pmz23 anz23 cdz23 ctz23) ["corners", "k"] [] := .all fun us hl => match us, hl with | [_, _], _ => rfl
  have Fz21 := zaai (st := sz21) lz21 cz21 kz21
  have Bz21 : Binds K (PySem.W.fnOf "run_together" "run_together" (zaaf sz21) (zaae sz21) (zaaa sz21) .none kVz21 dcz21 pmz21 anz21 cdz21 ctz21) ["corner", "one", "two"] [] := .all fun us hl => match us, hl with | [_, _, _], _ => rfl
  have Fz14 := zaai (st := sz14) lz14 cz14 kz14
  have Bz14 : Binds K (PySem.W.fnOf "have_common_point" "have_common_point" (zaaf sz14) (zaae sz14) (zaaa sz14) .none kVz14 dcz14 pmz14 anz14 cdz14 ctz14) ["one", "two"] [] := .all fun us hl => match us, hl with | [_, _], _ => rfl
  have Fz25 := zaai (st := sz25) lz25 cz25 kz25
  have Bz25 : Binds K (PySem.W.fnOf "spans_meet" "spans_meet" (zaaf sz25) (zaae sz25) (zaaa sz25) .none kVz25 dcz25 pmz25 anz25 cdz25 ctz25) ["one", "two", "axis"] [] := .all fun us hl => match us, hl with | [_, _, _], _ => rfl
  have Fz20 := zaai (st := sz20) lz20 cz20 kz20
  have Bz20 : Binds K (PySem.W.fnOf "reaches_across" "reaches_across" (zaaf sz20) (zaae sz20) (zaaa sz20) .none kVz20 dcz20 pmz20 anz20 cdz20 ctz20) ["side", "line"] [] := .all fun us hl => match us, hl with | [_, _], _ => rfl
  have Fz29 := zaai (st := sz29) lz29 cz29 kz29
  have Bz29 : Binds K (PySem.W.fnOf "turn" "turn" (zaaf sz29) (zaae sz29) (zaaa sz29) .none kVz29 dcz29 pmz29 anz29 cdz29 ctz29) ["start", "one", "two"] [] := .all fun us hl => match us, hl with | [_, _, _], _ => rfl
  have Fz10 := zaai (st := sz10) lz10 cz10 kz10
  have Bz10 : Binds K (PySem.W.fnOf "along" "along" (zaaf sz10) (zaae sz10) (zaaa sz10) .none kVz10 dcz10 pmz10 anz10 cdz10 ctz10) ["start", "one", "two"] [] := .all fun us hl => match us, hl with | [_, _, _], _ => rfl
  have Fz26 := zaai (st := sz26) lz26 cz26 kz26
  have Bz26 : Binds K (PySem.W.fnOf "square" "square" (zaaf sz26) (zaae sz26) (zaaa sz26) .none kVz26 dcz26 pmz26 anz26 cdz26 ctz26) ["one", "two"] [] := .all fun us hl => match us, hl with | [_, _], _ => rfl
  have Fz31 := zaai (st := sz31) lz31 cz31 kz31
  have Bz31 : Binds K (PySem.W.fnOf "whole_root" "whole_root" (zaaf sz31) (zaae sz31) (zaaa sz31) .none kVz31 dcz31 pmz31 anz31 cdz31 ctz31) ["number"] [] := .all fun us hl => match us, hl with | [_], _ => rfl
  have Fz16 := zaai (st := sz16) lz16 cz16 kz16
  have Bz16 : Binds K (PySem.W.fnOf "lowest_terms" "lowest_terms" (zaaf sz16) (zaae sz16) (zaaa sz16) .none kVz16 dcz16 pmz16 anz16 cdz16 ctz16) ["part", "whole"] [] := .all fun us hl => match us, hl with | [_, _], _ => rfl
  have Fz13 := zaai (st := sz13) lz13 cz13 kz13
  have Bz13 : Binds K (PySem.W.fnOf "greatest_divisor" "greatest_divisor" (zaaf sz13) (zaae sz13) (zaaa sz13) .none kVz13 dcz13 pmz13 anz13 cdz13 ctz13) ["one", "two"] [] := .all fun us hl => match us, hl with | [_, _], _ => rfl
  have Fz18 := zaai (st := sz18) lz18 cz18 kz18
  have Bz18 : Binds K (PySem.W.fnOf "outline" "outline" (zaaf sz18) (zaae sz18) (zaaa sz18) .none kVz18 dcz18 pmz18 anz18 cdz18 ctz18) ["corners", "breadth"] [] := .all fun us hl => match us, hl with | [_, _], _ => rfl
  have Fz22 := zaai (st := sz22) lz22 cz22 kz22
  have Bz22 : Binds K (PySem.W.fnOf "runs_leftward" "runs_leftward" (zaaf sz22) (zaae sz22) (zaaa sz22) .none kVz22 dcz22 pmz22 anz22 cdz22 ctz22) ["corners"] [] := .all fun us hl => match us, hl with | [_], _ => rfl
  have Fz19 := zaai (st := sz19) lz19 cz19 kz19
  have Bz19 : Binds K (PySem.W.fnOf "outward_vector" "outward_vector" (zaaf sz19) (zaae sz19) (zaaa sz19) .none kVz19 dcz19 pmz19 anz19 cdz19 ctz19) ["corners", "k", "leftward"] [] := .all fun us hl => match us, hl with | [_, _, _], _ => rfl
  have Fz15 := zaai (st := sz15) lz15 cz15 kz15
  have Bz15 : Binds K (PySem.W.fnOf "hem_corner" "hem_corner" (zaaf sz15) (zaae sz15) (zaaa sz15) .none kVz15 dcz15 pmz15 anz15 cdz15 ctz15) ["corner", "before", "after", "breadth"] [] := .all fun us hl => match us, hl with | [_, _, _, _], _ => rfl
  have Fz11 := zaai (st := sz11) lz11 cz11 kz11
  have Bz11 : Binds K (PySem.W.fnOf "beside" "beside" (zaaf sz11) (zaae sz11) (zaaa sz11) .none kVz11 dcz11 pmz11 anz11 cdz11 ctz11) ["corner", "vector", "breadth"] [] := .all fun us hl => match us, hl with | [_, _, _], _ => rfl
  have Fz30 := zaai (st := sz30) lz30 cz30 kz30
  have Bz30 : Binds K (PySem.W.fnOf "where_they_cut" "where_they_cut" (zaaf sz30) (zaae sz30) (zaaa sz30) .none kVz30 dcz30 pmz30 anz30 cdz30 ctz30) ["corner", "before", "after", "cut", "breadth"] [] := .all fun us hl => match us, hl with | [_, _, _, _, _], _ => rfl
  have Fz27 := zaai (st := sz27) lz27 cz27 kz27
  have Bz27 : Binds K (PySem.W.fnOf "square_of" "square_of" (zaaf sz27) (zaae sz27) (zaaa sz27) .none kVz27 dcz27 pmz27 anz27 cdz27 ctz27) ["vector"] [] := .all fun us hl => match us, hl with | [_], _ => rfl
  have Fz28 := zaai (st := sz28) lz28 cz28 kz28
  have Bz28 : Binds K (PySem.W.fnOf "thousandfold_length" "thousandfold_length" (zaaf sz28) (zaae sz28) (zaaa sz28) .none kVz28 dcz28 pmz28 anz28 cdz28 ctz28) ["vector"] [] := .all fun us hl => match us, hl with | [_], _ => rfl
  have Fz17 := zaai (st := sz17) lz17 cz17 kz17
  have Bz17 : Binds K (PySem.W.fnOf "moved_number" "moved_number" (zaaf sz17) (zaae sz17) (zaaa sz17) .none kVz17 dcz17 pmz17 anz17 cdz17 ctz17) ["number", "part", "whole"] [] := .all fun us hl => match us, hl with | [_, _, _], _ => rfl
  have Fz9 := zaai (st := sz9) lz9 cz9 kz9
  have Bz9 : Binds K (PySem.W.fnOf "_law_whole" "_law_whole" (zaaf sz9) (zaae sz9) (zaaa sz9) .none kVz9 dcz9 pmz9 anz9 cdz9 ctz9) ["_law_found"] [] := .all fun us hl => match us, hl with | [_], _ => rfl
  have Fz2 := zaai (st := sz2) lz2 cz2 kz2
  have Bz2 : Binds K (PySem.W.fnOf "_law_at" "_law_at" (zaaf sz2) (zaae sz2) (zaaa sz2) .none kVz2 dcz2 pmz2 anz2 cdz2 ctz2) ["_law_script", "_law_k"] [] := .all fun us hl => match us, hl with | [_, _], _ => rfl
  have Fz3 := zaai (st := sz3) lz3 cz3 kz3
  have Bz3 : Binds K (PySem.W.fnOf "_law_drawn" "_law_drawn" (zaaf sz3) (zaae sz3) (zaaa sz3) .none kVz3 dcz3 pmz3 anz3 cdz3 ctz3) ["_law_cell", "_law_most"] [] := .all fun us hl => match us, hl with | [_, _], _ => rfl
  have Fz5 := zaai (st := sz5) lz5 cz5 kz5
  have Bz5 : Binds K (PySem.W.fnOf "_law_numbers" "_law_numbers" (zaaf sz5) (zaae sz5) (zaaa sz5) .none kVz5 dcz5 pmz5 anz5 cdz5 ctz5) ["_law_found", "_law_due"] [] := .all fun us hl => match us, hl with | [_, _], _ => rfl
  have Fz8 := zaai (st := sz8) lz8 cz8 kz8
  have Bz8 : Binds K (PySem.W.fnOf "_law_rows" "_law_rows" (zaaf sz8) (zaae sz8) (zaaa sz8) .none kVz8 dcz8 pmz8 anz8 cdz8 ctz8) ["_law_found", "_law_due"] [] := .all fun us hl => match us, hl with | [_, _], _ => rfl
  have Fz4 := zaai (st := sz4) lz4 cz4 kz4
  have Bz4 : Binds K (PySem.W.fnOf "_law_marks" "_law_marks" (zaaf sz4) (zaae sz4) (zaaa sz4) .none kVz4 dcz4 pmz4 anz4 cdz4 ctz4) ["_law_many", "_law_long"] [] := .all fun us hl => match us, hl with | [_, _], _ => rfl
  have Fz6 := zaai (st := sz6) lz6 cz6 kz6
  have Bz6 : Binds K (PySem.W.fnOf "_law_oblong" "_law_oblong" (zaaf sz6) (zaae sz6) (zaaa sz6) .none kVz6 dcz6 pmz6 anz6 cdz6 ctz6) ["_law_script", "_law_broad", "_law_high"] [] := .all fun us hl => match us, hl with | [_, _, _], _ => rfl
  have Fz7 := zaai (st := sz7) lz7 cz7 kz7
  have Bz7 : Binds K (PySem.W.fnOf "_law_out" "_law_out" (zaaf sz7) (zaae sz7) (zaaa sz7) .none kVz7 dcz7 pmz7 anz7 cdz7 ctz7) ["_law_far", "_law_most", "_law_breadth"] [] := .all fun us hl => match us, hl with | [_, _, _], _ => rfl
  have F_law := zaai (st := s_law) l_law c_law k_law
  have B_law : Binds K (PySem.W.fnOf "law" "law" (zaaf s_law) (zaae s_law) (zaaa s_law) .none kV_law dc_law pm_law an_law cd_law ct_law) ["_law_script"] [] := .all fun us hl => match us, hl with | [_], _ => rfl
  let T : Txt K mg := ⟨ez1, PySem.W.mg_of X Gn aez1, ez0, PySem.W.mg_of X Gn aez0, qez0, fz12, _, Fz12, Bz12, PySem.W.mg_of X Gn az12, kz12, fz24, _, Fz24, Bz24, PySem.W.mg_of X Gn az24, kz24, fz23, _, Fz23, Bz23, PySem.W.mg_of X Gn az23, kz23, fz21, _, Fz21, Bz21, PySem.W.mg_of X Gn az21, kz21, fz14, _, Fz14, Bz14, PySem.W.mg_of X Gn az14, kz14, fz25, _, Fz25, Bz25, PySem.W.mg_of X Gn az25, kz25, fz20, _, Fz20, Bz20, PySem.W.mg_of X Gn az20, kz20, fz29, _, Fz29, Bz29, PySem.W.mg_of X Gn az29, kz29, fz10, _, Fz10, Bz10, PySem.W.mg_of X Gn az10, kz10, fz26, _, Fz26, Bz26, PySem.W.mg_of X Gn az26, kz26, fz31, _, Fz31, Bz31, PySem.W.mg_of X Gn az31, kz31, fz16, _, Fz16, Bz16, PySem.W.mg_of X Gn az16, kz16, fz13, _, Fz13, Bz13, PySem.W.mg_of X Gn az13, kz13, fz18, _, Fz18, Bz18, PySem.W.mg_of X Gn az18, kz18, fz22, _, Fz22, Bz22, PySem.W.mg_of X Gn az22, kz22, fz19, _, Fz19, Bz19, PySem.W.mg_of X Gn az19, kz19, fz15, _, Fz15, Bz15, PySem.W.mg_of X Gn az15, kz15, fz11, _, Fz11, Bz11, PySem.W.mg_of X Gn az11, kz11, fz30, _, Fz30, Bz30, PySem.W.mg_of X Gn az30, kz30, fz27, _, Fz27, Bz27, PySem.W.mg_of X Gn az27, kz27, fz28, _, Fz28, Bz28, PySem.W.mg_of X Gn az28, kz28, fz17, _, Fz17, Bz17, PySem.W.mg_of X Gn az17, kz17, fz9, _, Fz9, Bz9, PySem.W.mg_of X Gn az9, kz9, fz2, _, Fz2, Bz2, PySem.W.mg_of X Gn az2, kz2, fz3, _, Fz3, Bz3, PySem.W.mg_of X Gn az3, kz3, fz5, _, Fz5, Bz5, PySem.W.mg_of X Gn az5, kz5, fz8, _, Fz8, Bz8, PySem.W.mg_of X Gn az8, kz8, fz4, _, Fz4, Bz4, PySem.W.mg_of X Gn az4, kz4, fz6, _, Fz6, Bz6, PySem.W.mg_of X Gn az6, kz6, fz7, _, Fz7, Bz7, PySem.W.mg_of X Gn az7, kz7, fa, _, F_law, B_law, PySem.W.mg_of X Gn a_law, k_law, PySem.W.mg_none_of X Gn z_abs, PySem.W.mg_none_of X Gn z_bool, PySem.W.mg_none_of X Gn z_enumerate, PySem.W.mg_none_of X Gn z_int, PySem.W.mg_none_of X Gn z_isinstance, PySem.W.mg_none_of X Gn z_len, PySem.W.mg_none_of X Gn z_list, PySem.W.mg_none_of X Gn z_min, PySem.W.mg_none_of X Gn z_range, PySem.W.mg_none_of X Gn z_sorted, PySem.W.mg_none_of X Gn z_tuple⟩
  exact ⟨PySem.W.fnOf "law" "law" (zaaf s_law) (zaae s_law) (zaaa s_law) .none kV_law dc_law pm_law an_law cd_law ct_law, Gof T, fun s v => .of_eq rfl, fun base _ _ => fn_top (all (base := base) (P := l.prog) (w := w) T 16).o_law⟩
theorem zad9 : ∀ {K : List (Addr × Obj)} {a : Addr} {o : Obj}, K.lookup a = some o → (a, o) ∈ K
  | [], a, o, h => by cases h
  | (b, u) :: r, a, o, h => by
    rw [List.lookup_cons] at h
    split at h
    · rename_i hb
      cases h
      rw [beq_iff_eq.mp hb]
      exact List.mem_cons_self
    · exact List.mem_cons_of_mem _ (zad9 h)
def noLst (K : PySem.W.Frag) : Bool := K.all fun p => match p.2.cls with | .type n => n != "list" | _ => true
theorem noLst_no {K : PySem.W.Frag} (h : noLst K = true) {a : Addr} {o : Obj} (e : K.lookup a = some o) (hc : o.cls = .type "list") : False := by
  have hm := zad9 e
  have q := List.all_eq_true.mp h _ hm
  rw [show (a, o).2.cls = .type "list" from hc] at q
  simp at q
theorem zaay {G : Gx} {w : Wo} {H : Hp} : ∀ ns : List Int, Reps G w H (ns.map T.int) (ns.map V.int)
  | [] => rfl
  | n :: r => ⟨.int n, _, rfl, rfl, zaay r⟩
theorem walk (M : Math) {l : PySem.W.OpenLaw} {q : Program} {loose : List Str} {XP : (Str → Option Value) → Heap → Prop} {YP : World → Heap → Prop} {d : DefRec} {K : Params → PySem.W.Frag} (hn : l.most = some 63) (hdf : d.params.defaults = [])
    (hY : ∀ (w : World) (h : Heap), YP w h → (K w.params).In h) (hK : ∀ w : World, noLst (K w.params) = true)
    (F : ∀ (w : World) (mg : Str → Option Value) (fa : Addr) (h : Heap), (K w.params).In h → h.Ns mainGlobals mg → mg d.name = some (.ref fa) →
      ∃ (fd : FuncData) (G : Gx), (∀ (s : Shared) (u : Value), BindsTo s fd ⟨[u], []⟩ [("_law_script", u)]) ∧ ∀ base : Heap, (K w.params).In base → base.Ns mainGlobals mg → FnOk l.prog w (K w.params) mg base CX0 32 fa fd ["_law_script"] (spTop G)) :
    PySem.W.WalkO q loose XP YP l.row.toRowW d [] (fun f vs => PySem.call f vs) := by
  refine L2.walk_of (n := 63) (k := 32) (x := "_law_script") (CX := fun _ => CX0) (sp := fun w => fun vs H Q E => ∃ (a : Addr) (ns : List Int), vs = [.ref a] ∧ ns.length ≤ 63 ∧ Rd H a (.lst (ns.map V.int)) ∧ ∀ H', Q (.bl true) H') hn (by decide) hdf ⟨rfl, by decide, by decide⟩ hY (fun w mg fa h a b c => ?_) (fun w H a ns hl hO hS => ?_) fun _ _ _ _ _ z => z
  · obtain ⟨fd, G, hb, hF⟩ := F w mg fa h a b c
    refine ⟨fd, hb, fun base kb nb => ?_⟩
    have hf := hF base kb nb
    refine ⟨fun vs H Q E ⟨a, ns, e, _⟩ => by subst e; rfl, fun A outer s H args us vs Q E hr e0 hb hv ⟨a, ns, e, hl, hR, hq⟩ => hf.run A outer s H args us vs Q E hr e0 hb hv ?_⟩
    subst e
    obtain ⟨st, e⟩ := M ns hl
    refine ⟨⟨0, fun _ => 0, fun b => b = a⟩, [], [.val (.lst (ns.map .int))], ⟨rfl, fun l m h => absurd h (Nat.not_lt_zero _), fun l h => absurd h (Nat.not_lt_zero _), fun l c h => by simp at h, fun b hb => ⟨ns.map V.int, by have hb : b = a := hb; subst hb; exact hR⟩⟩, ⟨.ref a, [], rfl, ⟨a, _, rfl, rfl, hR, zaay ns⟩, rfl⟩, ?_⟩
    rw [e]
    exact ⟨fun _ w' H' v _ _ r => by cases r; exact hq _, fun z => by cases z⟩
  · have hR : Rd H a (.lst (ns.map V.int)) := hS.elim id fun ⟨o, _, _, e, hc, _⟩ => (noLst_no (hK w) e hc).elim
    exact ⟨a, ns, rfl, hl, hR, fun _ => rfl⟩
end Pg
end IP
end
section
set_option Elab.async false
set_option linter.all false
set_option maxRecDepth 100000
namespace IP
open L2
theorem zaak {i j : Int} (h : i.natAbs < 2 ^ 64) : mulB i j = true := by
  unfold mulB
  simp [h]
theorem mulB_r {i j : Int} (h : j.natAbs < 2 ^ 64) : mulB i j = true := by
  unfold mulB
  simp [h]
section
variable {x f : Bool} {σ : Fr} {s : Sto} {i j : Int} {ts us : List T} {t a b c d : T} {r : R}
@[simp] theorem leave_ret : leave x false (.ret r s) = .ok r s := rfl
@[simp] theorem leave_retO : leave x true (.retO ts s) = .ok (.val (.lst ts)) s := rfl
@[simp] theorem leave_next : leave x false (.next σ s) = .ok (.val .non) s := rfl
@[simp] theorem onB_bl (b : Bool) (m n : Res R) : onB (.val (.bl b)) m n = if b = true then m else n := by cases b <;> rfl
@[simp] theorem onBS_bl (b : Bool) (m n : SR) : onBS (.val (.bl b)) m n = if b = true then m else n := by cases b <;> rfl
@[simp] theorem onI_int (g : Int → Res R) : onI (.val (.int i)) g = g i := rfl
@[simp] theorem onV_val (g : T → Res (List T)) : onV (.val t) g = g t := rfl
@[simp] theorem onL_lst (g : List T → Res R) : onL (.val (.lst ts)) g = g ts := rfl
@[simp] theorem onO_some {α β : Type} (v : α) (g : α → Res β) : onO (some v) g = g v := rfl
@[simp] theorem int_int : (R.val (.int i)).int? = some i := rfl
@[simp] theorem val_val : (R.val t).val? = some t := rfl
@[simp] theorem val_bor : (R.bor ts).val? = none := rfl
@[simp] theorem lst_lst : (R.val (.lst ts)).lst? = some ts := rfl
@[simp] theorem seq_lst : (R.val (.lst ts)).seq = some ts := rfl
@[simp] theorem seq_bor : (R.bor ts).seq = some ts := rfl
@[simp] theorem sq2_lst : (R.val (.lst ts)).sq2 = some ts := rfl
@[simp] theorem sq2_tup : (R.val (.tup ts)).sq2 = some ts := rfl
@[simp] theorem sq2_bor : (R.bor ts).sq2 = some ts := rfl
@[simp] theorem sq3_lst : (R.val (.lst ts)).sq3 = some ts := rfl
@[simp] theorem sq3_tup : (R.val (.tup ts)).sq3 = some ts := rfl
@[simp] theorem tru_bl (b : Bool) : tru (.val (.bl b)) = some b := rfl
@[simp] theorem tru_int : tru (.val (.int i)) = some (i != 0) := rfl
@[simp] theorem one_ok : one (.ok (.val t) s) = .ok (some t) s := rfl
@[simp] theorem st_ite {p : Prop} [Decidable p] (m n : Res R) (k : R → Sto → SR) : (if p then m else n).st σ k = if p then m.st σ k else n.st σ k := by split <;> rfl
@[simp] theorem bind_ite {α β : Type} {p : Prop} [Decidable p] (m n : Res α) (k : α → Sto → Res β) : (if p then m else n).bind k = if p then m.bind k else n.bind k := by split <;> rfl
@[simp] theorem leave_ite {p : Prop} [Decidable p] (m n : SR) : leave x f (if p then m else n) = if p then leave x f m else leave x f n := by split <;> rfl
@[simp] theorem sbind_ite {p : Prop} [Decidable p] (m n : SR) (k : Fr → Sto → SR) : (if p then m else n).bind k = if p then m.bind k else n.bind k := by split <;> rfl
@[simp] theorem unlock_ite {p : Prop} [Decidable p] (m n : SR) (i : Nat) : (if p then m else n).unlock i = if p then m.unlock i else n.unlock i := by split <;> rfl
@[simp] theorem unlock_ret (v : R) (i : Nat) : (SR.ret v s).unlock i = .ret v s := rfl
@[simp] theorem unlock_next (i : Nat) : (SR.next σ s).unlock i = .next (IP.unlock σ i) s := rfl
@[simp] theorem op_add : opR .add (.val (.int i)) (.val (.int j)) = some (.val (.int (i + j))) := rfl
@[simp] theorem op_sub : opR .sub (.val (.int i)) (.val (.int j)) = some (.val (.int (i - j))) := rfl
theorem op_mul (h : mulB i j = true) : opR .mul (.val (.int i)) (.val (.int j)) = some (.val (.int (i * j))) := by simp [opR, opI, h]
theorem op_mod (h : 0 < j) : opR .mod (.val (.int i)) (.val (.int j)) = some (.val (.int (Int.fmod i j))) := by simp [opR, opI, show j ≠ 0 by omega]
theorem big_64 : (2 : Nat) ^ 64 < big := by unfold big; decide +kernel
theorem zaas (h : 0 < j) (hb : j < 2 ^ 64) : opR .fdiv (.val (.int i)) (.val (.int j)) = some (.val (.int (Int.fdiv i j))) := by
  have : j.natAbs < big := Nat.lt_trans (by omega) big_64
  simp [opR, opI, show j ≠ 0 by omega, this]
@[simp] theorem cm_lt : cmpR .lt (.val (.int i)) (.val (.int j)) = some (decide (i < j)) := rfl
@[simp] theorem cm_le : cmpR .le (.val (.int i)) (.val (.int j)) = some (decide (i ≤ j)) := rfl
@[simp] theorem cm_gt : cmpR .gt (.val (.int i)) (.val (.int j)) = some (decide (j < i)) := rfl
@[simp] theorem cm_ge : cmpR .ge (.val (.int i)) (.val (.int j)) = some (decide (j ≤ i)) := rfl
@[simp] theorem cm_eq : cmpR .eq (.val a) (.val b) = eqD 8 a b := rfl
@[simp] theorem cm_ne : cmpR .ne (.val a) (.val b) = (eqD 8 a b).map (!·) := rfl
@[simp] theorem cm_isN : cmpR .isN r (.val .non) = some r.isNon := rfl
@[simp] theorem cm_notN : cmpR .notN r (.val .non) = some (!r.isNon) := rfl
@[simp] theorem eq_int : eqD 8 (.int i) (.int j) = some (i == j) := by simp [eqD]
@[simp] theorem sub_2a : subR (.val (.tup [a, b])) 0 = some a := rfl
@[simp] theorem sub_2b : subR (.val (.tup [a, b])) 1 = some b := rfl
theorem sub_at {n : Nat} (h : ts[n]? = some t) : subR (.val (.lst ts)) (n : Int) = some t := by
  have hl := (List.getElem?_eq_some_iff.mp h).1
  have h2 := (List.getElem?_eq_some_iff.mp h).2
  simp [subR, L2.atI, L2.ixN, hl, h2]
@[simp] theorem b1_len_lst : b1R .len (.val (.lst ts)) = some (.val (.int ts.length)) := rfl
@[simp] theorem b1_len_tup : b1R .len (.val (.tup ts)) = some (.val (.int ts.length)) := rfl
@[simp] theorem b1_len_bor : b1R .len (.bor ts) = some (.val (.int ts.length)) := rfl
@[simp] theorem b1_abs : b1R .abs (.val (.int i)) = some (.val (.int (if i < 0 then -i else i))) := rfl
@[simp] theorem b1_list : b1R .list (.val (.lst ts)) = some (.val (.lst ts)) := rfl
@[simp] theorem b1_sorted2 : b1R .sorted (.val (.lst [.int i, .int j])) = some (.val (.lst [.int (min i j), .int (max i j)])) := by
  by_cases h : j < i
  · simp [b1R, asInts, sortI, insI, h, show min i j = j by omega, show max i j = i by omega]
  · simp [b1R, asInts, sortI, insI, h, show min i j = i by omega, show max i j = j by omega]
@[simp] theorem b1_max2 : b1R .max (.val (.lst [.int i, .int j])) = some (.val (.int (max i j))) := by
  have h : b1R .max (.val (.lst [.int i, .int j])) = some (.val (.int (if j > i then j else i))) := rfl
  rw [h, show (if j > i then j else i) = max i j by split <;> omega]
@[simp] theorem b1_min2 : b1R .min (.val (.lst [.int i, .int j])) = some (.val (.int (min i j))) := by
  have h : b1R .min (.val (.lst [.int i, .int j])) = some (.val (.int (if j < i then j else i))) := rfl
  rw [h, show (if j < i then j else i) = min i j by split <;> omega]
@[simp] theorem sub_l2a : subR (.val (.lst [a, b])) 0 = some a := rfl
@[simp] theorem sub_l2b : subR (.val (.lst [a, b])) 1 = some b := rfl
end
theorem ex_for {C : Cf} {g : Tg} {it : E} {b : List S} {σ : Fr} {s s1 : Sto} {ts : List T} (h : ev C it .j σ s = .ok (.val (.lst ts)) s1) (hit : ∀ i, it ≠ .var i) : ex C (.for_ g it b) σ s = forL g (fun σ s => exs C b σ s) ts σ s1 := by
  have e : ex C (.for_ g it b) σ s = (ev C it .j σ s).st σ fun x s1 => onS x.lst? fun ts => forL g (fun σ s => exs C b σ s) ts σ s1 := by
    cases it <;> first | rfl | exact absurd rfl (hit _)
  rw [e, h]
  rfl
theorem lim_ge : 1000 ≤ lim := by decide
theorem lim_ge' : (1000 : Int) ≤ (lim : Int) := Int.ofNat_le.mpr lim_ge
theorem rng_a {j : Int} (h : j ≤ 1000) : decide (j ≤ (lim : Int)) = true := decide_eq_true (Int.le_trans h lim_ge')
theorem rng_b {n : Nat} (h : n ≤ 1000) : bnd (n : Int) = true := by
  unfold bnd
  simp
  omega
theorem ev_rng1' {C : Cf} {a : E} {σ : Fr} {s s1 : Sto} {j : Int} (h : ev C a .v σ s = .ok (.val (.int j)) s1) : ev C (.rng1 a) .j σ s = if bnd j && decide (j ≤ lim) then .ok (.val (.lst (rangeT 0 j))) s1 else .stuck := by
  unfold ev
  rw [h]
  rfl
theorem ev_rng2' {C : Cf} {a b : E} {σ : Fr} {s s1 s2 : Sto} {i j : Int} (h : ev C a .v σ s = .ok (.val (.int i)) s1) (h' : ev C b .v σ s1 = .ok (.val (.int j)) s2) : ev C (.rng2 a b) .j σ s = if bnd i && bnd j && decide (j - i ≤ lim) then .ok (.val (.lst (rangeT i j))) s2 else .stuck := by
  unfold ev
  rw [h]
  show (ev C b .v σ s1).bind _ = _
  rw [h']
  rfl
theorem ite_t {α : Type} {b : Bool} {x y : α} (h : b = true) : (if b then x else y) = x := by rw [h]; rfl
theorem and_t {a b : Bool} (h : a = true) (h' : b = true) : (a && b) = true := by rw [h, h']; rfl
theorem zadi {C : Cf} {a : E} {σ : Fr} {s s1 : Sto} {n : Nat} (h : ev C a .v σ s = .ok (.val (.int (n : Int))) s1) (hn : n ≤ 1000) : ev C (.rng1 a) .j σ s = .ok (.val (.lst (rangeT 0 n))) s1 :=
  (ev_rng1' h).trans (ite_t (and_t (rng_b hn) (rng_a (Int.ofNat_le.mpr hn))))
theorem ev_rng2 {C : Cf} {a b : E} {σ : Fr} {s s1 s2 : Sto} {m n : Nat} (h : ev C a .v σ s = .ok (.val (.int (m : Int))) s1) (h' : ev C b .v σ s1 = .ok (.val (.int (n : Int))) s2) (hm : m ≤ 1000) (hn : n ≤ 1000) : ev C (.rng2 a b) .j σ s = .ok (.val (.lst (rangeT m n))) s2 :=
  (ev_rng2' h h').trans (ite_t (and_t (and_t (rng_b hm) (rng_b hn)) (rng_a (by omega))))
theorem evi_rng1' {C : Cf} {a : E} {σ : Fr} {s s1 : Sto} {j : Int} (h : ev C a .v σ s = .ok (.val (.int j)) s1) : ev C (.rng1 a) .i σ s = if bnd j && decide (j ≤ lim) then .ok (.val (.lst (rangeT 0 j))) s1 else .stuck := by
  unfold ev
  rw [h]
  rfl
theorem zae2 {C : Cf} {a : E} {σ : Fr} {s s1 : Sto} {n : Nat} (h : ev C a .v σ s = .ok (.val (.int (n : Int))) s1) (hn : n ≤ 1000) : ev C (.rng1 a) .i σ s = .ok (.val (.lst (rangeT 0 n))) s1 :=
  (evi_rng1' h).trans (ite_t (and_t (rng_b hn) (rng_a (Int.ofNat_le.mpr hn))))
theorem ex_ret {C : Cf} {e : E} {σ : Fr} {s s1 : Sto} {r : R} (h : ev C e .v σ s = .ok r s1) : ex C (.ret e) σ s = .ret r s1 := by unfold ex; rw [h]; rfl
theorem ex_asg {C : Cf} {e : E} {i : Nat} {σ : Fr} {s s1 : Sto} {t : T} (h : ev C e .v σ s = .ok (.val t) s1) : ex C (.asg i e) σ s = .next (put σ i t) s1 := by unfold ex; rw [h]; rfl
theorem ev_comp {C : Cf} {e it : E} {g : Tg} {σ : Fr} {s s1 s2 : Sto} {ts q : List T} (h : ev C it .i σ s = .ok (.val (.lst ts)) s1) (h2 : mapRes (fun t s => onO (bindTg σ g t) fun σ' => one (ev C e .v σ' s)) ts s1 = .ok q s2) : ev C (.comp e g it) .v σ s = .ok (.val (.lst q)) s2 := by
  unfold ev
  rw [h]
  show (mapRes (fun t s => onO (bindTg σ g t) fun σ' => one (ev C e .v σ' s)) ts s1).bind _ = _
  rw [h2]
  rfl
theorem zafa {C : Cf} {a : S} {r : List S} {σ : Fr} {s : Sto} : exs C (a :: r) σ s = (ex C a σ s).bind fun σ1 s1 => exs C r σ1 s1 := by simp only [exs]
theorem zaag {C : Cf} {a : S} {r : List S} {σ σ1 : Fr} {s s1 : Sto} (h : ex C a σ s = .next σ1 s1) : exs C (a :: r) σ s = exs C r σ1 s1 := by rw [zafa, h]; rfl
theorem zacy {C : Cf} {a : S} {r : List S} {σ : Fr} {s s1 : Sto} {v : R} (h : ex C a σ s = .ret v s1) : exs C (a :: r) σ s = .ret v s1 := by rw [zafa, h]; rfl
@[simp] theorem rngM_j (m : Res R) : rngM .j m = m := rfl
@[simp] theorem rngM_i (m : Res R) : rngM .i m = m := rfl
section
variable {g : Tg} {body : Fr → Sto → SR} {s : Sto}
theorem zabi (I : Nat → Fr → Prop) : ∀ (ts : List T) (n : Nat) (σ : Fr), I n σ → (∀ (m : Nat) (t : T) (σ : Fr), ts[m]? = some t → I (n + m) σ → ∃ σ1 σ2, bindTg σ g t = some σ1 ∧ body σ1 s = .next σ2 s ∧ I (n + m + 1) σ2) →
    ∃ σ', forL g body ts σ s = .next σ' s ∧ I (n + ts.length) σ'
  | [], n, σ, h, _ => ⟨σ, rfl, h⟩
  | t :: ts, n, σ, h, st => by
    obtain ⟨σ1, σ2, e1, e2, e3⟩ := st 0 t σ rfl h
    obtain ⟨σ', e4, e5⟩ := zabi I ts (n + 1) σ2 e3 fun m u σ em hm => by
      obtain ⟨a, b, c1, c2, c3⟩ := st (m + 1) u σ (by simpa using em) (by rw [show n + (m + 1) = n + 1 + m by omega]; exact hm)
      exact ⟨a, b, c1, c2, by rw [show n + 1 + m + 1 = n + (m + 1) + 1 by omega]; exact c3⟩
    refine ⟨σ', ?_, by rw [List.length_cons, show n + (ts.length + 1) = n + 1 + ts.length by omega]; exact e5⟩
    show onS (bindTg σ g t) _ = _
    rw [e1]
    show (body σ1 s).bind _ = _
    rw [e2]
    exact e4
def firstN {α : Type} (q : Nat → Option α) : Nat → Nat → Option α
  | _, 0 => none
  | n, m + 1 => match q n with
    | some v => some v
    | none => firstN q (n + 1) m
theorem zabc (I : Nat → Fr → Prop) (q : Nat → Option R) : ∀ (ts : List T) (n : Nat) (σ : Fr), I n σ →
    (∀ (m : Nat) (t : T) (σ : Fr), ts[m]? = some t → I (n + m) σ → ∃ σ1, bindTg σ g t = some σ1 ∧ match q (n + m) with
      | some r => body σ1 s = .ret r s
      | none => ∃ σ2, body σ1 s = .next σ2 s ∧ I (n + m + 1) σ2) →
    match firstN q n ts.length with
    | some r => forL g body ts σ s = .ret r s
    | none => ∃ σ', forL g body ts σ s = .next σ' s ∧ I (n + ts.length) σ'
  | [], n, σ, h, _ => ⟨σ, rfl, h⟩
  | t :: ts, n, σ, h, st => by
    obtain ⟨σ1, e1, e2⟩ := st 0 t σ rfl h
    rw [List.length_cons]
    unfold firstN
    cases hq : q n with
    | some r =>
      rw [show n + 0 = n from rfl, hq] at e2
      show onS (bindTg σ g t) _ = _
      rw [e1]
      show (body σ1 s).bind _ = _
      rw [show body σ1 s = _ from e2]
      rfl
    | none =>
      rw [show n + 0 = n from rfl, hq] at e2
      obtain ⟨σ2, e2, e3⟩ := e2
      have ih := zabc I q ts (n + 1) σ2 e3 fun m u σ em hm => by
        obtain ⟨a, c1, c2⟩ := st (m + 1) u σ (by simpa using em) (by rw [show n + (m + 1) = n + 1 + m by omega]; exact hm)
        refine ⟨a, c1, ?_⟩
        rw [show n + (m + 1) = n + 1 + m by omega] at c2
        exact c2
      have e0 : forL g body (t :: ts) σ s = forL g body ts σ2 s := by
        show onS (bindTg σ g t) _ = _
        rw [e1]
        show (body σ1 s).bind _ = _
        rw [e2]
        rfl
      rw [e0]
      show (match firstN q (n + 1) ts.length with | some r => _ | none => _)
      cases hf : firstN q (n + 1) ts.length with
      | some r => rw [hf] at ih; exact ih
      | none =>
        rw [hf] at ih
        obtain ⟨σ', e4, e5⟩ := ih
        exact ⟨σ', e4, by rw [show n + (ts.length + 1) = n + 1 + ts.length by omega]; exact e5⟩
theorem zaau {i j : Int} {n : Nat} {t : T} (h : (rangeT i j)[n]? = some t) : t = .int (i + n) ∧ n < (j - i).toNat := by
  unfold rangeT at h
  rw [List.getElem?_map] at h
  cases e : (List.range (j - i).toNat)[n]? with
  | none => rw [e] at h; cases h
  | some m =>
    rw [e] at h
    have hn := (List.getElem?_eq_some_iff.mp e).1
    have := (List.getElem?_eq_some_iff.mp e).2
    simp at this hn
    subst this
    simp at h
    exact ⟨h.symm, by omega⟩
theorem zacj (i j : Int) : (rangeT i j).length = (j - i).toNat := by unfold rangeT; simp
end
end IP
end
section
set_option Elab.async false
set_option linter.all false
set_option maxRecDepth 100000
namespace IP
@[simp] theorem z_exs_1 : type_of% @exs.eq_1 := @exs.eq_1
@[simp] theorem z_exs_2 : type_of% @exs.eq_2 := @exs.eq_2
@[simp] theorem z_ex_1 : type_of% @ex.eq_1 := @ex.eq_1
@[simp] theorem z_ex_3 : type_of% @ex.eq_3 := @ex.eq_3
@[simp] theorem z_ex_4 : type_of% @ex.eq_4 := @ex.eq_4
@[simp] theorem z_ex_8 : type_of% @ex.eq_8 := @ex.eq_8
@[simp] theorem z_ex_9 : type_of% @ex.eq_9 := @ex.eq_9
@[simp] theorem z_ex_13 : type_of% @ex.eq_13 := @ex.eq_13
@[simp] theorem z_ex_17 : type_of% @ex.eq_17 := @ex.eq_17
@[simp] theorem z_ev_1 : type_of% @ev.eq_1 := @ev.eq_1
@[simp] theorem z_ev_2 : type_of% @ev.eq_2 := @ev.eq_2
@[simp] theorem z_ev_4 : type_of% @ev.eq_4 := @ev.eq_4
@[simp] theorem z_ev_5 : type_of% @ev.eq_5 := @ev.eq_5
@[simp] theorem z_ev_6 : type_of% @ev.eq_6 := @ev.eq_6
@[simp] theorem z_ev_7 : type_of% @ev.eq_7 := @ev.eq_7
@[simp] theorem z_ev_8 : type_of% @ev.eq_8 := @ev.eq_8
@[simp] theorem z_ev_9 : type_of% @ev.eq_9 := @ev.eq_9
@[simp] theorem z_ev_10 : type_of% @ev.eq_10 := @ev.eq_10
@[simp] theorem z_ev_11 : type_of% @ev.eq_11 := @ev.eq_11
@[simp] theorem z_ev_13 : type_of% @ev.eq_13 := @ev.eq_13
@[simp] theorem z_ev_14 : type_of% @ev.eq_14 := @ev.eq_14
@[simp] theorem z_ev_15 : type_of% @ev.eq_15 := @ev.eq_15
@[simp] theorem z_ev_16 : type_of% @ev.eq_16 := @ev.eq_16
@[simp] theorem z_ev_17 : type_of% @ev.eq_17 := @ev.eq_17
@[simp] theorem z_ev_18 : type_of% @ev.eq_18 := @ev.eq_18
@[simp] theorem z_ev_20 : type_of% @ev.eq_20 := @ev.eq_20
@[simp] theorem z_ev_21 : type_of% @ev.eq_21 := @ev.eq_21
@[simp] theorem z_ev_22 : type_of% @ev.eq_22 := @ev.eq_22
@[simp] theorem z_ev_28 : type_of% @ev.eq_28 := @ev.eq_28
@[simp] theorem z_ev_29 : type_of% @ev.eq_29 := @ev.eq_29
@[simp] theorem z_ev_34 : type_of% @ev.eq_34 := @ev.eq_34
@[simp] theorem z_evs_1 : type_of% @evs.eq_1 := @evs.eq_1
@[simp] theorem z_evs_2 : type_of% @evs.eq_2 := @evs.eq_2
@[simp] theorem z_evr_1 : type_of% @evr.eq_1 := @evr.eq_1
@[simp] theorem z_evr_2 : type_of% @evr.eq_2 := @evr.eq_2
@[simp] theorem z_enter_1 : type_of% @enter.eq_1 := @enter.eq_1
@[simp] theorem z_ofR_1 : type_of% @ofR.eq_1 := @ofR.eq_1
@[simp] theorem z_ofR_2 : type_of% @ofR.eq_2 := @ofR.eq_2
@[simp] theorem z_look_1 : type_of% @look.eq_1 := @look.eq_1
@[simp] theorem z_put_1 : type_of% @put.eq_1 := @put.eq_1
section
variable {x f : Bool} {σ : Fr} {s : Sto} {i j : Int} {ts us : List T} {t a b c : T} {r : R} {l d k : Nat} {sub : Nat → Nat → Bool} {fs : List (Option T)}
@[simp] theorem dr_non : (R.val .non).dr s = .val .non := rfl
@[simp] theorem dr_bl (b : Bool) : (R.val (.bl b)).dr s = .val (.bl b) := rfl
@[simp] theorem dr_int : (R.val (.int i)).dr s = .val (.int i) := rfl
@[simp] theorem dr_tup : (R.val (.tup ts)).dr s = .val (.tup ts) := rfl
@[simp] theorem dr_lst : (R.val (.lst ts)).dr s = .val (.lst ts) := rfl
@[simp] theorem dr_exc : (R.val (.exc d)).dr s = .val (.exc d) := rfl
@[simp] theorem dr_bor : (R.bor ts).dr s = .bor ts := rfl
@[simp] theorem isx_exc : isiX sub (.val (.exc d)) (.cls k) = some (sub d k) := rfl
@[simp] theorem isx_int_int : isiX sub (.val (.int i)) .int = some true := rfl
@[simp] theorem isx_int_bool : isiX sub (.val (.int i)) .bool = some false := rfl
@[simp] theorem isx_tup_tup : isiX sub (.val (.tup ts)) .tuple = some true := rfl
@[simp] theorem isx_lst_lst : isiX sub (.val (.lst ts)) .list = some true := rfl
@[simp] theorem isx_bor_lst : isiX sub (.bor ts) .list = some true := rfl
@[simp] theorem leave_excX : leave true f (.exc d σ s) = .exc d s := rfl
@[simp] theorem nox_next : (SR.next σ s).nox = .next σ s := rfl
@[simp] theorem nox_ret : (SR.ret r s).nox = .ret r s := rfl
@[simp] theorem onN_non (m : Res R) : onN (.val .non) m = m := rfl
@[simp] theorem tup_tup : (R.val (.tup ts)).tup? = some ts := rfl
@[simp] theorem b1_int_bl (b : Bool) : b1R .int (.val (.bl b)) = some (.val (.int (if b then 1 else 0))) := rfl
@[simp] theorem b1_int_int : b1R .int (.val (.int i)) = some (.val (.int i)) := rfl
@[simp] theorem b1_list_bor : b1R .list (.bor ts) = some (.val (.lst ts)) := rfl
@[simp] theorem b1_tuple_bor : b1R .tuple (.bor ts) = some (.val (.tup ts)) := rfl
@[simp] theorem b1_tuple_lst : b1R .tuple (.val (.lst ts)) = some (.val (.tup ts)) := rfl
theorem zaa8 {C : Cf} {e it : E} {i : Nat} {α : Type} (xs : List α) (g : α → T) (f : α → T) (ha : ev C it .i σ s = .ok (.val (.lst (xs.map g))) s)
    (h : ∀ x ∈ xs, ev C e .v (put σ i (g x)) s = .ok (.val (f x)) s) : ev C (.comp e (.one i) it) .v σ s = .ok (.val (.lst (xs.map f))) s := by
  refine ev_comp ha ?_
  clear ha
  induction xs with
  | nil => rfl
  | cons x xs ih =>
    have h0 := h x (by simp)
    have h1 := ih fun y hy => h y (by simp [hy])
    rw [List.map_cons, List.map_cons]
    unfold mapRes
    rw [show onO (bindTg σ (.one i) (g x)) (fun σ' => one (ev C e .v σ' s)) = .ok (some (f x)) s by show one (ev C e .v (put σ i (g x)) s) = _; rw [h0]; rfl]
    simp only [Res.bind_ok]
    rw [h1]
    rfl
end
@[simp] theorem eq_bl (a b : Bool) : eqD 8 (.bl a) (.bl b) = some (a == b) := by simp [eqD]
theorem zaah {fs : List Fn} {sub : Nat → Nat → Bool} {k f : Nat} {F : Fn} {rs : List R} {s : Sto} (hF : fs[f]? = some F) (hl : rs.length = F.pars) : run true fs sub whileL (k + 1) f rs s = leave true F.fr (exs (cfX fs sub k) F.body (enter F rs) s) := by
  conv => lhs; unfold run
  rw [hF]
  exact if_pos hl
end IP
end
section
set_option linter.all false
set_option maxRecDepth 100000
namespace IP
namespace Pg
open L2
def pt (p : Int × Int) : T := .tup [.int p.1, .int p.2]
abbrev PT (p : Int × Int) : R := .val (pt p)
@[simp] theorem dr_pt (p : Int × Int) (s : Sto) : (R.val (pt p)).dr s = .val (pt p) := rfl
@[simp] theorem eqT_pt (p q : Int × Int) : eqD 8 (pt p) (pt q) = some (p == q) := by
  obtain ⟨a, b⟩ := p; obtain ⟨c, d⟩ := q
  simp [pt, eqD, eqL]
  rfl
@[simp] theorem subR_pt0 (p : Int × Int) : subR (.val (pt p)) 0 = some (.int p.1) := rfl
@[simp] theorem subR_pt1 (p : Int × Int) : subR (.val (pt p)) 1 = some (.int p.2) := rfl
def sml (p : Int × Int) : Prop := p.1.natAbs ≤ 2 ^ 20 ∧ p.2.natAbs ≤ 2 ^ 20
def turnZ (p q r : Int × Int) : Int := (q.1 - p.1) * (r.2 - p.2) - (q.2 - p.2) * (r.1 - p.1)
def alongZ (p q r : Int × Int) : Int := (q.1 - p.1) * (r.1 - p.1) + (q.2 - p.2) * (r.2 - p.2)
theorem zaa7 {a b : Int} (ha : a.natAbs ≤ 2 ^ 20) (hb : b.natAbs ≤ 2 ^ 20) : (a - b).natAbs ≤ 2 ^ 21 := by omega
theorem mul_sub {a b j : Int} (ha : a.natAbs ≤ 2 ^ 20) (hb : b.natAbs ≤ 2 ^ 20) : opR .mul (.val (.int (a - b))) (.val (.int j)) = some (.val (.int ((a - b) * j))) := op_mul (zaak (by omega))
variable {k : Nat} {s : Sto} {p q r u : Int × Int}
theorem r_turn (hp : sml p) (hq : sml q) : run true fns sub0 whileL (k + 1) 7 [PT p, PT q, PT r] s = .ok (.val (.int (turnZ p q r))) s := by
  rw [zaah (F := ⟨3, 3, false, bz29⟩) rfl rfl]
  simp [bz29, mul_sub hq.1 hp.1, mul_sub hq.2 hp.2, turnZ]
theorem r_along (hp : sml p) (hq : sml q) : run true fns sub0 whileL (k + 1) 8 [PT p, PT q, PT r] s = .ok (.val (.int (alongZ p q r))) s := by
  rw [zaah (F := ⟨3, 3, false, bz10⟩) rfl rfl]
  simp [bz10, mul_sub hq.1 hp.1, mul_sub hq.2 hp.2, alongZ]
theorem zaa5 {a b : Int} {m n : Nat} (ha : a.natAbs ≤ m) (hb : b.natAbs ≤ n) : (a * b).natAbs ≤ m * n := by
  rw [Int.natAbs_mul]
  exact Nat.mul_le_mul ha hb
theorem zad5 (hp : sml p) (hq : sml q) (hr : sml r) : (turnZ p q r).natAbs < 2 ^ 64 := by
  have h1 := zaa5 (zaa7 hq.1 hp.1) (zaa7 hr.2 hp.2)
  have h2 := zaa5 (zaa7 hq.2 hp.2) (zaa7 hr.1 hp.1)
  unfold turnZ
  omega
def zaax (p q r : Int × Int) : Bool := decide (turnZ p q r = 0) && decide (0 < alongZ p q r)
theorem zaci (hp : sml p) (hq : sml q) : run true fns sub0 whileL (k + 2) 3 [PT p, PT q, PT r] s = .ok (.val (.bl (zaax p q r))) s := by
  rw [zaah (F := ⟨3, 3, false, bz21⟩) rfl rfl]
  have h1 := r_turn (k := k) (s := s) (r := r) hp hq
  have h2 := r_along (k := k) (s := s) (r := r) hp hq
  simp [bz21, h1, h2, zaax]
  split <;> simp [*]
theorem zadf (hr : sml r) (hu : sml u) (hp : sml p) : run true fns sub0 whileL (k + 2) 6 [.val (.tup [pt p, pt q]), .val (.tup [pt r, pt u])] s = .ok (.val (.bl (decide (turnZ r u p * turnZ r u q ≤ 0)))) s := by
  rw [zaah (F := ⟨2, 2, false, bz20⟩) rfl rfl]
  have h1 := r_turn (k := k) (s := s) (r := p) hr hu
  have h2 := r_turn (k := k) (s := s) (r := q) hr hu
  have h3 := op_mul (i := turnZ r u p) (j := turnZ r u q) (zaak (zad5 hr hu hp))
  simp [bz20, h1, h2, h3]
def ax (b : Bool) (p : Int × Int) : Int := if b then p.2 else p.1
def spansB (b : Bool) (p q r u : Int × Int) : Bool := decide (min (ax b p) (ax b q) ≤ max (ax b r) (ax b u)) && decide (min (ax b r) (ax b u) ≤ max (ax b p) (ax b q))
theorem r_spans0 : run true fns sub0 whileL (k + 1) 5 [.val (.tup [pt p, pt q]), .val (.tup [pt r, pt u]), .val (.int 0)] s = .ok (.val (.bl (spansB false p q r u))) s := by
  rw [zaah (F := ⟨3, 5, false, bz25⟩) rfl rfl]
  simp [bz25, spansB, ax]
  split <;> simp [*]
theorem r_spans1 : run true fns sub0 whileL (k + 1) 5 [.val (.tup [pt p, pt q]), .val (.tup [pt r, pt u]), .val (.int 1)] s = .ok (.val (.bl (spansB true p q r u))) s := by
  rw [zaah (F := ⟨3, 5, false, bz25⟩) rfl rfl]
  simp [bz25, spansB, ax]
  split <;> simp [*]
def zab8 (p q r u : Int × Int) : Bool := spansB false p q r u && spansB true p q r u && decide (turnZ r u p * turnZ r u q ≤ 0) && decide (turnZ p q r * turnZ p q u ≤ 0)
theorem r_common (hp : sml p) (hq : sml q) (hr : sml r) (hu : sml u) : run true fns sub0 whileL (k + 3) 4 [.val (.tup [pt p, pt q]), .val (.tup [pt r, pt u])] s = .ok (.val (.bl (zab8 p q r u))) s := by
  rw [zaah (F := ⟨2, 2, false, bz14⟩) rfl rfl]
  have h1 := r_spans0 (k := k + 1) (s := s) (p := p) (q := q) (r := r) (u := u)
  have h2 := r_spans1 (k := k + 1) (s := s) (p := p) (q := q) (r := r) (u := u)
  have h3 := zadf (k := k) (s := s) (p := p) (q := q) hr hu hp
  have h4 := zadf (k := k) (s := s) (p := r) (q := u) (r := p) (u := q) hp hq hr
  simp [bz14, h1, h2, h3, h4, zab8]
  cases spansB false p q r u <;> cases spansB true p q r u <;> simp
  split <;> simp [*]
variable {l : List (Int × Int)}
abbrev LN (l : List (Int × Int)) : R := .val (.lst (l.map pt))
def cor (l : List (Int × Int)) (i : Nat) : Int × Int := l.getD (i % l.length) (0, 0)
theorem zabm (h : 0 < l.length) (i : Nat) : (l.map pt)[i % l.length]? = some (pt (cor l i)) := by
  have := Nat.mod_lt i h
  simp [cor, List.getElem?_map, this]
theorem zaez (i n : Nat) : Int.fmod (i : Int) (n : Int) = ((i % n : Nat) : Int) := by
  rw [Int.fmod_eq_emod_of_nonneg _ (Int.natCast_nonneg n)]
  simp
theorem mod_next (i : Nat) (n : Nat) (h : 0 < n) : opR .mod (.val (.int ((i : Int) + 1))) (.val (.int (n : Int))) = some (.val (.int (((i + 1) % n : Nat) : Int))) := by
  have h3 := op_mod (i := (i : Int) + 1) (j := (n : Int)) (by omega)
  rw [h3, show ((i : Int) + 1) = ((i + 1 : Nat) : Int) by omega, zaez]
theorem r_ends {i : Nat} (hi : i < l.length) : run true fns sub0 whileL (k + 1) 2 [LN l, .val (.int i)] s = .ok (.val (.tup [pt (cor l i), pt (cor l (i + 1))])) s := by
  rw [zaah (F := ⟨2, 2, false, bz23⟩) rfl rfl]
  have h0 : 0 < l.length := by omega
  have h1 := sub_at (zabm h0 i)
  have h2 := sub_at (zabm h0 (i + 1))
  rw [Nat.mod_eq_of_lt hi] at h1
  have h3 := mod_next i l.length h0
  generalize (i + 1) % l.length = m at h2 h3
  simp [bz23, h1, h2, h3]
theorem zaa0 (hl : ∀ p ∈ l, sml p) (i : Nat) : sml (cor l i) := by
  unfold cor
  rw [List.getD_eq_getElem?_getD]
  cases e : l[i % l.length]? with
  | none => exact ⟨by decide, by decide⟩
  | some p => exact hl p (List.mem_of_getElem? e)
def sidesB (l : List (Int × Int)) (i j : Nat) : Bool :=
  if i = j then cor l i == cor l (i + 1)
  else if j = i + 1 then zaax (cor l (i + 1)) (cor l i) (cor l (j + 1))
  else if j + 1 = l.length ∧ i = 0 then zaax (cor l i) (cor l (i + 1)) (cor l j)
  else zab8 (cor l i) (cor l (i + 1)) (cor l j) (cor l (j + 1))
theorem r_sides {i j : Nat} (hl : ∀ p ∈ l, sml p) (hij : i ≤ j) (hj : j < l.length) : run true fns sub0 whileL (k + 4) 1 [LN l, .val (.int i), .val (.int j)] s = .ok (.val (.bl (sidesB l i j))) s := by
  rw [zaah (F := ⟨3, 5, false, bz24⟩) rfl rfl]
  have h1 := r_ends (k := k + 2) (s := s) (l := l) (i := i) (by omega)
  have h2 := r_ends (k := k + 2) (s := s) (l := l) (i := j) hj
  have h3 := zaci (k := k + 1) (s := s) (p := cor l (i + 1)) (q := cor l i) (r := cor l (j + 1)) (zaa0 hl _) (zaa0 hl _)
  have h4 := zaci (k := k + 1) (s := s) (p := cor l i) (q := cor l (i + 1)) (r := cor l j) (zaa0 hl _) (zaa0 hl _)
  have h5 := r_common (k := k) (s := s) (p := cor l i) (q := cor l (i + 1)) (r := cor l j) (u := cor l (j + 1)) (zaa0 hl _) (zaa0 hl _) (zaa0 hl _) (zaa0 hl _)
  simp [bz24, h1, h2, h3, h4, h5]
  unfold sidesB
  by_cases c1 : i = j
  · simp [c1]
  · by_cases c2 : j = i + 1
    · rw [if_neg (by omega), if_pos (by omega), if_neg c1, if_pos c2]
    · rw [if_neg (by omega), if_neg (by omega), if_neg c1, if_neg c2]
      by_cases c3 : j + 1 = l.length
      · rw [if_pos (by omega)]
        by_cases c4 : i = 0
        · rw [if_pos c4, if_pos ⟨c3, c4⟩]
        · rw [if_neg c4, if_neg (fun z => c4 z.2)]
      · rw [if_neg (by omega), if_neg (fun z => c3 z.1)]
def pairBody (f : Nat) : List S := [.for_ (.one 1) (.rng1 (.b1 .len (.var 0))) [.for_ (.one 2) (.rng2 (.var 1) (.b1 .len (.var 0))) [.ifs (.call f [.var 0, .var 1, .var 2] []) [.ret (.tup [.var 1, .var 2])] []]], .ret (.cst .non)]
def qj (p : Nat → Nat → Bool) (i j : Nat) : Option R := if p i j then some (.val (.tup [.int i, .int j])) else none
def qi (p : Nat → Nat → Bool) (n i : Nat) : Option R := firstN (qj p i) i (n - i)
def fp (p : Nat → Nat → Bool) (n : Nat) : R := (firstN (qi p n) 0 n).getD (.val .non)
theorem zadp {C : Cf} {f : Nat} {p : Nat → Nat → Bool} {i : Nat} (hp : ∀ j, i ≤ j → j < l.length → C.cf f [LN l, .val (.int i), .val (.int j)] s = .ok (.val (.bl (p i j))) s) (hi : i < l.length) (c : Option B) :
    match qi p l.length i with
    | some r => forL (.one 2) (fun σ s => exs C [.ifs (.call f [.var 0, .var 1, .var 2] []) [.ret (.tup [.var 1, .var 2])] []] σ s) (rangeT i l.length) [some (.val (.lst (l.map pt))), some (.val (.int i)), c] s = .ret r s
    | none => ∃ c', forL (.one 2) (fun σ s => exs C [.ifs (.call f [.var 0, .var 1, .var 2] []) [.ret (.tup [.var 1, .var 2])] []] σ s) (rangeT i l.length) [some (.val (.lst (l.map pt))), some (.val (.int i)), c] s = .next [some (.val (.lst (l.map pt))), some (.val (.int i)), c'] s := by
  have h := zabc (g := .one 2) (body := fun σ s => exs C [.ifs (.call f [.var 0, .var 1, .var 2] []) [.ret (.tup [.var 1, .var 2])] []] σ s) (s := s) (fun _ σ => ∃ c, σ = [some (.val (.lst (l.map pt))), some (.val (.int i)), c]) (qj p i) (rangeT i l.length) i [some (.val (.lst (l.map pt))), some (.val (.int i)), c] ⟨c, rfl⟩ ?_
  · rw [zacj, show ((l.length : Int) - (i : Int)).toNat = l.length - i by omega] at h
    unfold qi
    cases hq : firstN (qj p i) i (l.length - i) with
    | some r => rw [hq] at h; exact h
    | none =>
      rw [hq] at h
      obtain ⟨σ', e, c', rfl⟩ := h
      exact ⟨c', e⟩
  · rintro m t σ hm ⟨c, rfl⟩
    obtain ⟨rfl, hlt⟩ := zaau hm
    have hq := hp (i + m) (by omega) (by omega)
    rw [show ((i + m : Nat) : Int) = (i : Int) + (m : Int) by omega] at hq
    refine ⟨[some (.val (.lst (l.map pt))), some (.val (.int i)), some (.val (.int (i + m)))], by simp [bindTg, put], ?_⟩
    unfold qj
    cases hb : p i (i + m) with
    | true => rw [hb] at hq; simp [hq]
    | false => rw [hb] at hq; simp [hq]
theorem pairs_run {C : Cf} {f : Nat} {p : Nat → Nat → Bool} (hl : l.length ≤ 1000) (hp : ∀ i j, i ≤ j → j < l.length → C.cf f [LN l, .val (.int i), .val (.int j)] s = .ok (.val (.bl (p i j))) s) :
    exs C (pairBody f) [some (.val (.lst (l.map pt))), none, none] s = .ret (fp p l.length) s := by
  have h := zabc (g := .one 1) (body := fun σ s => exs C [.for_ (.one 2) (.rng2 (.var 1) (.b1 .len (.var 0))) [.ifs (.call f [.var 0, .var 1, .var 2] []) [.ret (.tup [.var 1, .var 2])] []]] σ s) (s := s) (fun _ σ => ∃ b c, σ = [some (.val (.lst (l.map pt))), b, c]) (qi p l.length) (rangeT 0 l.length) 0 [some (.val (.lst (l.map pt))), none, none] ⟨none, none, rfl⟩ ?_
  · rw [zacj, show ((l.length : Int) - 0).toNat = l.length by omega] at h
    unfold fp
    have e1 : ex C (.for_ (.one 1) (.rng1 (.b1 .len (.var 0))) [.for_ (.one 2) (.rng2 (.var 1) (.b1 .len (.var 0))) [.ifs (.call f [.var 0, .var 1, .var 2] []) [.ret (.tup [.var 1, .var 2])] []]]) [some (.val (.lst (l.map pt))), none, none] s = _ := ex_for (ts := rangeT 0 l.length) (s1 := s) (zadi (by simp) hl) (by intro i h; cases h)
    cases hq : firstN (qi p l.length) 0 l.length with
    | some r =>
      rw [hq] at h
      exact zacy (e1.trans h)
    | none =>
      rw [hq] at h
      obtain ⟨σ', e, b, c, rfl⟩ := h
      refine (zaag (e1.trans e)).trans ?_
      simp
  · rintro m t σ hm ⟨b, c, rfl⟩
    obtain ⟨rfl, hlt⟩ := zaau hm
    have hlt : m < l.length := by omega
    have hin := zadp (C := C) (f := f) (p := p) (i := m) (fun j h1 h2 => hp m j h1 h2) hlt c
    refine ⟨[some (.val (.lst (l.map pt))), some (.val (.int m)), c], by simp [bindTg, put], ?_⟩
    rw [show 0 + m = m by omega]
    have e1 : ex C (.for_ (.one 2) (.rng2 (.var 1) (.b1 .len (.var 0))) [.ifs (.call f [.var 0, .var 1, .var 2] []) [.ret (.tup [.var 1, .var 2])] []]) [some (.val (.lst (l.map pt))), some (.val (.int m)), c] s = _ := ex_for (ts := rangeT m l.length) (s1 := s) (ev_rng2 (s1 := s) (by simp) (by simp) (by omega) hl) (by intro i h; cases h)
    cases hq : qi p l.length m with
    | some r =>
      rw [hq] at hin
      exact zacy (e1.trans hin)
    | none =>
      rw [hq] at hin
      obtain ⟨c', e⟩ := hin
      exact ⟨_, (zaag (e1.trans e)).trans (by simp only [exs]), some (.val (.int m)), c', rfl⟩
theorem zaeh (hl : ∀ p ∈ l, sml p) (hn : l.length ≤ 1000) : run true fns sub0 whileL (k + 5) 0 [LN l] s = .ok (fp (sidesB l) l.length) s := by
  rw [zaah (F := ⟨1, 3, false, bz12⟩) rfl rfl]
  have h := pairs_run (C := cfX fns sub0 (k + 4)) (f := 1) (s := s) (l := l) (p := sidesB l) hn (fun i j h1 h2 => r_sides (k := k) hl h1 h2)
  exact congrArg (leave true false) h
end Pg
end IP
end
section
set_option linter.all false
set_option maxRecDepth 100000
set_option maxHeartbeats 0
namespace IP
namespace Pg
def rim (w h t : Int) : Int × Int := if t ≤ w then (t, 0) else if t ≤ w + h then (w, t - w) else if t ≤ 2 * w + h then (2 * w + h - t, h) else (0, 2 * w + 2 * h - t)
def nx (w h t : Int) : Int := if t = 0 then 2 * w + 2 * h else t
structure Ob (w h : Int) (n : Nat) (U : Nat → Int) : Prop where
  w1 : 1 ≤ w
  h1 : 1 ≤ h
  n1 : 4 ≤ n
  per : ∀ i, U (i + n) = U i
  rng : ∀ i, 0 ≤ U i ∧ U i < 2 * w + 2 * h
  inj : ∀ i j, i < n → j < n → U i = U j → i = j
  suc : ∀ i, U i < nx w h (U (i + 1)) ∧ ∀ j, ¬ (U i < U j ∧ U j < nx w h (U (i + 1)))
  c0 : ∃ i, U i = 0
  c1 : ∃ i, U i = w
  c2 : ∃ i, U i = w + h
  c3 : ∃ i, U i = 2 * w + h
theorem rim_nx {w h t : Int} (hw : 1 ≤ w) (hh : 1 ≤ h) : rim w h (nx w h t) = rim w h t := by
  unfold nx
  split
  · rename_i e
    subst e
    unfold rim
    rw [if_neg (by omega), if_neg (by omega), if_neg (by omega), if_pos (by omega)]
    simp
  · rfl
structure Seg (w h a b : Int) (p q : Int × Int) : Prop where
  lt : a < b
  a0 : 0 ≤ a
  b0 : b ≤ 2 * w + 2 * h
  on : (b ≤ w ∧ p = (a, 0) ∧ q = (b, 0)) ∨ (w ≤ a ∧ b ≤ w + h ∧ p = (w, a - w) ∧ q = (w, b - w)) ∨ (w + h ≤ a ∧ b ≤ 2 * w + h ∧ p = (2 * w + h - a, h) ∧ q = (2 * w + h - b, h)) ∨ (2 * w + h ≤ a ∧ p = (0, 2 * w + 2 * h - a) ∧ q = (0, 2 * w + 2 * h - b))
section
variable {w h : Int} {n : Nat} {U : Nat → Int} (O : Ob w h n U)
include O
theorem Ob.seg (i : Nat) : Seg w h (U i) (nx w h (U (i + 1))) (rim w h (U i)) (rim w h (U (i + 1))) := by
  obtain ⟨i1, e1⟩ := O.c1
  obtain ⟨i2, e2⟩ := O.c2
  obtain ⟨i3, e3⟩ := O.c3
  obtain ⟨s1, s2⟩ := O.suc i
  have q1 := s2 i1
  have q2 := s2 i2
  have q3 := s2 i3
  rw [e1] at q1
  rw [e2] at q2
  rw [e3] at q3
  have r := O.rng i
  have r' := O.rng (i + 1)
  have hw := O.w1
  have hh := O.h1
  have hb : nx w h (U (i + 1)) ≤ 2 * w + 2 * h := by unfold nx; split <;> omega
  rw [← rim_nx hw hh (t := U (i + 1))]
  generalize nx w h (U (i + 1)) = b at *
  generalize U i = a at *
  refine ⟨s1, r.1, hb, ?_⟩
  by_cases k1 : b ≤ w
  · refine .inl ⟨k1, ?_, ?_⟩
    · unfold rim; rw [if_pos (by omega)]
    · unfold rim; rw [if_pos (by omega)]
  by_cases k2 : b ≤ w + h
  · refine .inr (.inl ⟨by omega, k2, ?_, ?_⟩)
    · unfold rim
      by_cases k : a = w
      · rw [if_pos (by omega), k]; simp
      · rw [if_neg (by omega), if_pos (by omega)]
    · unfold rim; rw [if_neg (by omega), if_pos (by omega)]
  by_cases k3 : b ≤ 2 * w + h
  · refine .inr (.inr (.inl ⟨by omega, k3, ?_, ?_⟩))
    · unfold rim
      by_cases k : a = w + h
      · rw [if_neg (by omega), if_pos (by omega), k]; exact Prod.ext (by simp only []; omega) (by simp only []; omega)
      · rw [if_neg (by omega), if_neg (by omega), if_pos (by omega)]
    · unfold rim; rw [if_neg (by omega), if_neg (by omega), if_pos (by omega)]
  · refine .inr (.inr (.inr ⟨by omega, ?_, ?_⟩))
    · unfold rim
      by_cases k : a = 2 * w + h
      · rw [if_neg (by omega), if_neg (by omega), if_pos (by omega), k]; exact Prod.ext (by simp only []; omega) (by simp only []; omega)
      · rw [if_neg (by omega), if_neg (by omega), if_neg (by omega)]
    · unfold rim; rw [if_neg (by omega), if_neg (by omega), if_neg (by omega)]
end
def put2 (x y : Int) (sw : Bool) (q : Int × Int) : Int × Int := if sw then (x + q.2, y + q.1) else (x + q.1, y + q.2)
abbrev bt (a b c : Int) : Prop := (a - b ≤ 0 ∧ 0 ≤ c - b) ∨ (0 ≤ a - b ∧ c - b ≤ 0)
theorem npos {a b : Int} (h : (a ≤ 0 ∧ 0 ≤ b) ∨ (0 ≤ a ∧ b ≤ 0)) : a * b ≤ 0 := by
  rcases h with ⟨h1, h2⟩ | ⟨h1, h2⟩
  · have := Int.mul_nonneg (show 0 ≤ -a by omega) h2
    rw [Int.neg_mul] at this
    omega
  · have := Int.mul_nonneg h1 (show 0 ≤ -b by omega)
    rw [Int.mul_neg] at this
    omega
theorem no_tog {x y : Int} {sw : Bool} {p q r : Int × Int} (h1 : bt q.1 p.1 r.1) (h2 : bt q.2 p.2 r.2) : zaax (put2 x y sw p) (put2 x y sw q) (put2 x y sw r) = false := by
  have a1 := npos (a := q.1 - p.1) (b := r.1 - p.1) h1
  have a2 := npos (a := q.2 - p.2) (b := r.2 - p.2) h2
  have : alongZ (put2 x y sw p) (put2 x y sw q) (put2 x y sw r) = (q.1 - p.1) * (r.1 - p.1) + (q.2 - p.2) * (r.2 - p.2) := by
    unfold alongZ put2
    cases sw
    · simp only [Bool.false_eq_true, if_false]
      rw [show x + q.1 - (x + p.1) = q.1 - p.1 by omega, show x + r.1 - (x + p.1) = r.1 - p.1 by omega, show y + q.2 - (y + p.2) = q.2 - p.2 by omega, show y + r.2 - (y + p.2) = r.2 - p.2 by omega]
    · simp only [if_true]
      rw [show x + q.2 - (x + p.2) = q.2 - p.2 by omega, show x + r.2 - (x + p.2) = r.2 - p.2 by omega, show y + q.1 - (y + p.1) = q.1 - p.1 by omega, show y + r.1 - (y + p.1) = r.1 - p.1 by omega]
      omega
  unfold zaax
  rw [this]
  simp
  intro _
  omega
abbrev sp (a b c d : Int) : Prop := (a < c ∧ a < d ∧ b < c ∧ b < d) ∨ (c < a ∧ c < b ∧ d < a ∧ d < b)
theorem no_com {x y : Int} {sw : Bool} {p q r u : Int × Int} (h : sp p.1 q.1 r.1 u.1 ∨ sp p.2 q.2 r.2 u.2) : zab8 (put2 x y sw p) (put2 x y sw q) (put2 x y sw r) (put2 x y sw u) = false := by
  have key : ∀ b, spansB b (put2 x y sw p) (put2 x y sw q) (put2 x y sw r) (put2 x y sw u) = spansB b (put2 x y sw p) (put2 x y sw q) (put2 x y sw r) (put2 x y sw u) := fun _ => rfl
  have : spansB false (put2 x y sw p) (put2 x y sw q) (put2 x y sw r) (put2 x y sw u) = false ∨ spansB true (put2 x y sw p) (put2 x y sw q) (put2 x y sw r) (put2 x y sw u) = false := by
    cases sw
    · rcases h with h | h
      · refine .inl ?_
        simp only [spansB, put2, ax, Bool.false_eq_true, if_false, Bool.and_eq_false_iff, decide_eq_false_iff_not]
        omega
      · refine .inr ?_
        simp only [spansB, put2, ax, Bool.false_eq_true, if_false, if_true, Bool.and_eq_false_iff, decide_eq_false_iff_not]
        omega
    · rcases h with h | h
      · refine .inr ?_
        simp only [spansB, put2, ax, if_true, Bool.and_eq_false_iff, decide_eq_false_iff_not]
        omega
      · refine .inl ?_
        simp only [spansB, put2, ax, Bool.false_eq_true, if_false, if_true, Bool.and_eq_false_iff, decide_eq_false_iff_not]
        omega
  unfold zab8
  rcases this with e | e <;> rw [e] <;> simp
theorem put2_inj {x y : Int} {sw : Bool} {p q : Int × Int} (h : put2 x y sw p = put2 x y sw q) : p = q := by
  unfold put2 at h
  cases sw
  · simp only [Bool.false_eq_true, if_false, Prod.mk.injEq] at h
    exact Prod.ext (by omega) (by omega)
  · simp only [if_true, Prod.mk.injEq] at h
    exact Prod.ext (by omega) (by omega)
section
variable {w h x y : Int} {sw : Bool} {n : Nat} {U : Nat → Int} (O : Ob w h n U) {l : List (Int × Int)} (hn : l.length = n) (hc : ∀ i, cor l i = put2 x y sw (rim w h (U i)))
include O hn hc
theorem Ob.free {i j : Nat} (hij : i ≤ j) (hj : j < n) : sidesB l i j = false := by
  have hw := O.w1
  have hh := O.h1
  unfold sidesB
  simp only [hc, hn]
  have s1 := O.seg i
  have s2 := O.seg j
  split
  · have : ¬ rim w h (U i) = rim w h (U (i + 1)) := by
      intro e
      obtain ⟨lt, a0, b0, on⟩ := s1
      generalize rim w h (U i) = p at *
      generalize rim w h (U (i + 1)) = q at *
      subst e
      rcases on with ⟨_, e1, e2⟩ | ⟨_, _, e1, e2⟩ | ⟨_, _, e1, e2⟩ | ⟨_, e1, e2⟩ <;> (rw [e1] at e2; simp only [Prod.mk.injEq] at e2; omega)
    simp only [beq_eq_false_iff_ne, ne_eq]
    exact fun e => this (put2_inj e)
  rename_i hne
  have nb : ∀ i j, U (i + 1) = U j → nx w h (U (i + 1)) = U j ∨ (U j = 0 ∧ nx w h (U (i + 1)) = 2 * w + 2 * h) := fun i j e => by
    unfold nx
    split
    · exact .inr ⟨by omega, rfl⟩
    · exact .inl e
  split
  · rename_i hj1
    subst hj1
    have e := nb i (i + 1) rfl
    obtain ⟨lt, a0, b0, on⟩ := s1
    obtain ⟨lt', a0', b0', on'⟩ := s2
    generalize rim w h (U i) = p at *
    generalize rim w h (U (i + 1)) = q at *
    generalize rim w h (U (i + 1 + 1)) = r at *
    generalize nx w h (U (i + 1)) = b at *
    generalize nx w h (U (i + 1 + 1)) = b' at *
    generalize U (i + 1) = a' at *
    generalize U i = a at *
    refine no_tog ?_ ?_
    · rcases on with ⟨_, rfl, rfl⟩ | ⟨_, _, rfl, rfl⟩ | ⟨_, _, rfl, rfl⟩ | ⟨_, rfl, rfl⟩ <;> rcases on' with ⟨_, e1, rfl⟩ | ⟨_, _, e1, rfl⟩ | ⟨_, _, e1, rfl⟩ | ⟨_, e1, rfl⟩ <;> (simp only [Prod.mk.injEq] at e1; simp only [bt]; omega)
    · rcases on with ⟨_, rfl, rfl⟩ | ⟨_, _, rfl, rfl⟩ | ⟨_, _, rfl, rfl⟩ | ⟨_, rfl, rfl⟩ <;> rcases on' with ⟨_, e1, rfl⟩ | ⟨_, _, e1, rfl⟩ | ⟨_, _, e1, rfl⟩ | ⟨_, e1, rfl⟩ <;> (simp only [Prod.mk.injEq] at e1; simp only [bt]; omega)
  rename_i hj1
  split
  · rename_i hj2
    obtain ⟨hj2, rfl⟩ := hj2
    have ej : U (j + 1) = U 0 := by rw [hj2, ← Nat.zero_add n, O.per]
    have e := nb j 0 ej
    rw [ej] at s2 e
    obtain ⟨lt, a0, b0, on⟩ := s1
    obtain ⟨lt', a0', b0', on'⟩ := s2
    generalize rim w h (U (0 + 1)) = p at *
    generalize rim w h (U 0) = q at *
    generalize rim w h (U j) = r at *
    generalize nx w h (U (0 + 1)) = b at *
    generalize nx w h (U 0) = b' at *
    generalize U 0 = a at *
    generalize U j = a' at *
    refine no_tog ?_ ?_
    · rcases on with ⟨_, rfl, rfl⟩ | ⟨_, _, rfl, rfl⟩ | ⟨_, _, rfl, rfl⟩ | ⟨_, rfl, rfl⟩ <;> rcases on' with ⟨_, rfl, e1⟩ | ⟨_, _, rfl, e1⟩ | ⟨_, _, rfl, e1⟩ | ⟨_, rfl, e1⟩ <;> (simp only [Prod.mk.injEq] at e1; simp only [bt]; omega)
    · rcases on with ⟨_, rfl, rfl⟩ | ⟨_, _, rfl, rfl⟩ | ⟨_, _, rfl, rfl⟩ | ⟨_, rfl, rfl⟩ <;> rcases on' with ⟨_, rfl, e1⟩ | ⟨_, _, rfl, e1⟩ | ⟨_, _, rfl, e1⟩ | ⟨_, rfl, e1⟩ <;> (simp only [Prod.mk.injEq] at e1; simp only [bt]; omega)
  rename_i hj2
  have nn := O.n1
  have d1 : nx w h (U (i + 1)) ≠ U j := fun e => by
    have r := O.rng j
    unfold nx at e
    split at e
    · omega
    · exact hj1 (O.inj (i + 1) j (by omega) hj e).symm
  have d2 : ¬ (U i = 0 ∧ nx w h (U (j + 1)) = 2 * w + 2 * h) := fun ⟨e1, e2⟩ => by
    have r := O.rng (j + 1)
    have e3 : U (j + 1) = U i := by
      unfold nx at e2
      split at e2 <;> omega
    by_cases k : j + 1 = n
    · rw [k, ← Nat.zero_add n, O.per] at e3
      exact hj2 ⟨k, (O.inj 0 i (by omega) (by omega) e3).symm⟩
    · have := O.inj (j + 1) i (by omega) (by omega) e3
      omega
  have d3 : nx w h (U (j + 1)) ≠ U i := fun e => by
    have r := O.rng i
    unfold nx at e
    split at e
    · omega
    · by_cases k : j + 1 = n
      · rw [k, ← Nat.zero_add n, O.per] at e
        exact hj2 ⟨k, (O.inj 0 i (by omega) (by omega) e).symm⟩
      · have := O.inj (j + 1) i (by omega) (by omega) e
        omega
  have d4 : ¬ (U j = 0 ∧ nx w h (U (i + 1)) = 2 * w + 2 * h) := fun ⟨e1, e2⟩ => by
    have r := O.rng (i + 1)
    have e3 : U (i + 1) = U j := by
      unfold nx at e2
      split at e2 <;> omega
    exact hj1 (O.inj (i + 1) j (by omega) hj e3).symm
  have o1 := (O.suc i).2 j
  have o2 := (O.suc j).2 i
  have o3 : U i ≠ U j := fun e => hne (O.inj i j (by omega) hj e)
  obtain ⟨lt, a0, b0, on⟩ := s1
  obtain ⟨lt', a0', b0', on'⟩ := s2
  clear hc hj1 hj2 nb hne hij hj hn
  generalize rim w h (U i) = p at *
  generalize rim w h (U (i + 1)) = q at *
  generalize rim w h (U j) = r at *
  generalize rim w h (U (j + 1)) = u at *
  generalize nx w h (U (i + 1)) = b at *
  generalize nx w h (U (j + 1)) = b' at *
  generalize U i = a at *
  generalize U j = a' at *
  refine no_com ?_
  rcases on with ⟨_, rfl, rfl⟩ | ⟨_, _, rfl, rfl⟩ | ⟨_, _, rfl, rfl⟩ | ⟨_, rfl, rfl⟩ <;> rcases on' with ⟨_, rfl, rfl⟩ | ⟨_, _, rfl, rfl⟩ | ⟨_, _, rfl, rfl⟩ | ⟨_, rfl, rfl⟩ <;> (simp only [sp]; omega)
end
end Pg
end IP
end
section
set_option linter.all false
namespace M3
def rootN : Nat → Nat
  | 0 => 0
  | n + 1 => if (rootN n + 1) * (rootN n + 1) ≤ n + 1 then rootN n + 1 else rootN n
theorem zabf : ∀ n, rootN n * rootN n ≤ n ∧ n < (rootN n + 1) * (rootN n + 1)
  | 0 => by decide
  | n + 1 => by
    have ih := zabf n
    unfold rootN
    split
    · rename_i h
      refine ⟨h, ?_⟩
      have : (rootN n + 1 + 1) * (rootN n + 1 + 1) = (rootN n + 1) * (rootN n + 1) + 2 * rootN n + 3 := by grind
      omega
    · omega
def wroot (n : Int) : Int := (rootN n.toNat : Nat)
theorem zaam (n : Int) : 0 ≤ wroot n := Int.natCast_nonneg _
theorem zacn (n : Int) (h : 0 ≤ n) : wroot n * wroot n ≤ n := by
  have := (zabf n.toNat).1
  show ((rootN n.toNat : Nat) : Int) * ((rootN n.toNat : Nat) : Int) ≤ n
  have e : ((rootN n.toNat : Nat) : Int) * ((rootN n.toNat : Nat) : Int) = ((rootN n.toNat * rootN n.toNat : Nat) : Int) := by simp
  rw [e]; omega
theorem zab4 (n : Int) (h : 0 ≤ n) : n < (wroot n + 1) * (wroot n + 1) := by
  have := (zabf n.toNat).2
  show n < ((rootN n.toNat : Nat) + 1 : Int) * ((rootN n.toNat : Nat) + 1 : Int)
  have e : ((rootN n.toNat : Nat) + 1 : Int) * ((rootN n.toNat : Nat) + 1 : Int) = (((rootN n.toNat + 1) * (rootN n.toNat + 1) : Nat) : Int) := by simp
  rw [e]; omega
theorem sq_lt {a b : Int} (ha : 0 ≤ a) (h : a * a < b * b) (hb : 0 ≤ b) : a < b := by
  apply Int.lt_of_not_ge
  intro hc
  have := Int.mul_le_mul hc hc hb ha
  omega
theorem zaa4 {n r : Int} (h0 : 0 ≤ r) (h1 : r * r ≤ n) (h2 : n < (r + 1) * (r + 1)) (hn : 0 ≤ n) : wroot n = r := by
  have a := zacn n hn
  have b := zab4 n hn
  have c := zaam n
  have x : wroot n < r + 1 := sq_lt c (by omega) (by omega)
  have y : r < wroot n + 1 := sq_lt h0 (by omega) (by omega)
  omega
theorem newton {n r q : Int} (hn : 0 ≤ n) (hr : 0 < r) (hq : q = n / r) : wroot n ≤ (r + q) / 2 := by
  have a := zacn n hn
  have c := zaam n
  generalize hs : wroot n = s at *
  have h1 : n < r * (q + 1) := by
    have := Int.lt_ediv_add_one_mul_self n hr
    rw [hq]; rw [Int.mul_comm]; exact this
  have h2 : 0 ≤ (s - r) * (s - r) := by
    rcases Int.le_total s r with h | h
    · have : 0 ≤ (r - s) * (r - s) := Int.mul_nonneg (by omega) (by omega)
      grind
    · exact Int.mul_nonneg (by omega) (by omega)
  have h3 : r * (2 * s) < r * (q + 1 + r) := by grind
  have h4 : 2 * s < q + 1 + r := Int.lt_of_mul_lt_mul_left h3 (by omega)
  omega
structure Inv (n r m : Int) : Prop where
  r0 : 0 ≤ r
  rn : r ≤ n
  sr : wroot n ≤ r
  sm : wroot n ≤ m
  e : r ≤ m → r = wroot n
theorem root_pos {n : Int} (h : 0 < n) : 1 ≤ wroot n := by
  have b := zab4 n (by omega)
  have c := zaam n
  rcases (by omega : wroot n = 0 ∨ 1 ≤ wroot n) with z | z
  · rw [z] at b; omega
  · exact z
theorem zaby {n : Int} (h : 0 ≤ n) : Inv n n (Int.fdiv (n + 1) 2) := by
  rw [Int.fdiv_eq_ediv_of_nonneg _ (by decide)]
  have a := zacn n h
  have b := zab4 n h
  have c := zaam n
  have d : 0 ≤ (wroot n - 1) * (wroot n - 1) := by
    rcases (by omega : wroot n = 0 ∨ 1 ≤ wroot n) with z | z
    · rw [z]; decide
    · exact Int.mul_nonneg (by omega) (by omega)
  have d2 : (wroot n - 1) * (wroot n - 1) = wroot n * wroot n - 2 * wroot n + 1 := by grind
  refine ⟨h, Int.le_refl _, ?_, by omega, ?_⟩
  · rcases (by omega : wroot n = 0 ∨ 1 ≤ wroot n) with z | z
    · omega
    · have := Int.mul_le_mul_of_nonneg_left z c
      omega
  · intro hc
    have : n = 0 ∨ n = 1 := by omega
    rcases this with z | z
    · exact (zaa4 (by omega) (by subst z; decide) (by subst z; decide) h).symm
    · exact (zaa4 (by omega) (by subst z; decide) (by subst z; decide) h).symm
theorem inv_pos {n r m : Int} (h : Inv n r m) (hlt : m < r) : 0 < m := by
  have := h.sm
  have := root_pos (n := n) (by have := h.rn; have := h.sm; have := zaam n; omega)
  omega
theorem inv_turn {n r m : Int} (h : Inv n r m) (hlt : m < r) : Inv n m (Int.fdiv (m + Int.fdiv n m) 2) := by
  have mp := inv_pos h hlt
  have n0 : 0 ≤ n := by have := h.rn; have := h.r0; omega
  rw [Int.fdiv_eq_ediv_of_nonneg _ (by decide), Int.fdiv_eq_ediv_of_nonneg n (by omega : 0 ≤ m)]
  have nw := newton n0 mp rfl
  refine ⟨by omega, by have := h.rn; omega, h.sm, nw, ?_⟩
  intro hc
  have h2 : m ≤ n / m := by omega
  have h3 : m * m ≤ n := by
    have e1 : n / m * m ≤ n := Int.ediv_mul_le n (by omega)
    have e2 : m * m ≤ n / m * m := Int.mul_le_mul_of_nonneg_right h2 (by omega)
    omega
  have b := zab4 n n0
  have : m < wroot n + 1 := sq_lt (by omega) (by omega) (by have := zaam n; omega)
  have := h.sm
  omega
theorem inv_out {n r m : Int} (h : Inv n r m) (hlt : ¬ m < r) : r = wroot n := h.e (by omega)
theorem nn {a : Int} : 0 ≤ a * a := by
  rcases Int.le_total 0 a with h | h
  · exact Int.mul_nonneg h h
  · have : 0 ≤ (-a) * (-a) := Int.mul_nonneg (by omega) (by omega)
    grind
end M3
end
section
set_option linter.all false
set_option maxRecDepth 100000
set_option maxHeartbeats 0
namespace IP
namespace Pg
open L2
variable {k : Nat} {s : Sto} {l : List (Int × Int)}
theorem zad2 {m : Nat} (h : m < l.length) : subR (LN l) ((m : Int) - 1) = some (pt (cor l (m + l.length - 1))) := by
  have hg := zabm (l := l) (by omega) (m + l.length - 1)
  cases m with
  | zero =>
    have e : (0 + l.length - 1) % l.length = l.length - 1 := by rw [Nat.zero_add]; exact Nat.mod_eq_of_lt (by omega)
    rw [e] at hg
    show L2.atI (l.map pt) ((0 : Int) - 1) = _
    unfold L2.atI L2.ixN
    simp only [List.length_map]
    rw [if_neg (by omega), if_pos (by omega)]
    rw [show ((0 : Int) - 1 + (l.length : Int)).toNat = l.length - 1 by omega]
    exact hg
  | succ m =>
    have e : (m + 1 + l.length - 1) % l.length = m := by
      rw [show m + 1 + l.length - 1 = m + l.length by omega, Nat.add_mod_right]
      exact Nat.mod_eq_of_lt (by omega)
    rw [e] at hg
    rw [show (((m + 1 : Nat) : Int) - 1) = (m : Int) by omega]
    exact sub_at hg
def dsum (l : List (Int × Int)) : Nat → Int
  | 0 => 0
  | m + 1 => dsum l m + (cor l (m + l.length - 1)).1 * (cor l m).2 - (cor l (m + l.length - 1)).2 * (cor l m).1
theorem enT_at : ∀ (ts : List T) (n i : Nat), (enT n ts)[i]? = ts[i]?.map fun t => T.tup [.int ((n + i : Nat) : Int), t] := zaex
theorem zae9 (hl : ∀ p ∈ l, sml p) (h0 : 0 < l.length) : run true fns sub0 whileL (k + 1) 14 [LN l] s = .ok (.val (.bl (decide (0 < dsum l l.length)))) s := by
  rw [zaah (F := Fz22) rfl rfl]
  obtain ⟨σ', e, c2, c3, c4, rfl⟩ := zabi (g := .many [2, 3]) (body := fun σ s => exs (cfX fns sub0 k) bz22_L0 σ s) (s := s) (fun m σ => ∃ c2 c3 c4, σ = [some (.val (.lst (l.map pt))), some (.val (.int (dsum l m))), c2, c3, c4]) (enT 0 (l.map pt)) 0 [some (.val (.lst (l.map pt))), some (.val (.int 0)), none, none, none] ⟨_, _, _, rfl⟩ (by
      rintro m t σ hm ⟨c2, c3, c4, rfl⟩
      rw [enT_at, Nat.zero_add] at hm
      have hlt : m < l.length := by
        cases e : (l.map pt)[m]? with
        | none => rw [e] at hm; cases hm
        | some u => have := (List.getElem?_eq_some_iff.mp e).1; simpa using this
      have hg := zabm (l := l) h0 m
      rw [Nat.mod_eq_of_lt hlt] at hg
      rw [hg] at hm
      cases hm
      have hp := zad2 hlt
      have sp := zaa0 hl (m + l.length - 1)
      have m1 := op_mul (i := (cor l (m + l.length - 1)).1) (j := (cor l m).2) (zaak (by have := sp.1; omega))
      have m2 := op_mul (i := (cor l (m + l.length - 1)).2) (j := (cor l m).1) (zaak (by have := sp.2; omega))
      refine ⟨[some (.val (.lst (l.map pt))), some (.val (.int (dsum l m))), some (.val (.int m)), some (.val (pt (cor l m))), c4], [some (.val (.lst (l.map pt))), some (.val (.int (dsum l (m + 1)))), some (.val (.int m)), some (.val (pt (cor l m))), some (.val (pt (cor l (m + l.length - 1))))], ?_, ?_, _, _, _, by rw [Nat.zero_add]⟩
      · simp [bindTg, puts]
      · simp [hp, m1, m2, dsum])
  rw [zac0, List.length_map, Nat.zero_add] at e
  have hx : exs (cfX fns sub0 k) bz22 (enter Fz22 [LN l]) s = .ret (.val (.bl (decide (0 < dsum l l.length)))) s := by
    refine (zaag (σ1 := [some (.val (.lst (l.map pt))), some (.val (.int 0)), none, none, none]) (s1 := s) (by simp)).trans ?_
    refine (zaag ((ex_for (ts := enT 0 (l.map pt)) (s1 := s) (by simp) (by intro _ h; cases h)).trans e)).trans ?_
    simp
  rw [hx]
  rfl
def crossZ (p q : Int × Int) : Int := p.1 * q.2 - p.2 * q.1
def eSum (w h : Int) (n : Nat) (U : Nat → Int) : Nat → Int
  | 0 => 0
  | m + 1 => eSum w h n U m + crossZ (rim w h (U (m + n - 1))) (rim w h (U m))
section
variable {w h x y : Int} {sw : Bool} {n : Nat} {U : Nat → Int} (O : Ob w h n U)
include O
theorem Ob.cross (m : Nat) : 0 ≤ crossZ (rim w h (U (m + n - 1))) (rim w h (U m)) ∧ (U (m + n - 1) = w → 0 < crossZ (rim w h (U (m + n - 1))) (rim w h (U m))) := by
  have hn := O.n1
  have s1 := O.seg (m + n - 1)
  have hw := O.w1
  have hh := O.h1
  rw [show m + n - 1 + 1 = m + n by omega, O.per] at s1
  obtain ⟨lt, a0, b0, on⟩ := s1
  generalize rim w h (U (m + n - 1)) = p at *
  generalize rim w h (U m) = q at *
  generalize nx w h (U m) = b at *
  generalize U (m + n - 1) = a at *
  rcases on with ⟨_, rfl, rfl⟩ | ⟨_, _, rfl, rfl⟩ | ⟨_, _, rfl, rfl⟩ | ⟨_, rfl, rfl⟩
  · simp only [crossZ]
    omega
  · simp only [crossZ]
    have e : w * (b - w) - (a - w) * w = w * (b - a) := by grind
    have := Int.mul_pos (show 0 < w by omega) (show 0 < b - a by omega)
    omega
  · simp only [crossZ]
    have e : (2 * w + h - a) * h - h * (2 * w + h - b) = h * (b - a) := by grind
    have := Int.mul_pos (show 0 < h by omega) (show 0 < b - a by omega)
    omega
  · simp only [crossZ]
    omega
theorem Ob.eSum_le : ∀ m d, eSum w h n U m ≤ eSum w h n U (m + d)
  | m, 0 => Int.le_refl _
  | m, d + 1 => by
    have := Ob.eSum_le m d
    have := (O.cross (m + d)).1
    have e : eSum w h n U (m + (d + 1)) = eSum w h n U (m + d) + crossZ (rim w h (U (m + d + n - 1))) (rim w h (U (m + d))) := rfl
    omega
theorem Ob.mod1 : ∃ i, i < n ∧ U (i + n - 1) = w := by
  have hn := O.n1
  obtain ⟨i1, e1⟩ := O.c1
  have pm : ∀ d i, U (i + d * n) = U i := fun d => by
    induction d with
    | zero => intro i; simp
    | succ d ih => intro i; rw [show i + (d + 1) * n = i + d * n + n by rw [Nat.add_mul]; omega, O.per, ih]
  have hm : U (i1 % n) = w := by
    rw [← pm (i1 / n) (i1 % n), Nat.mul_comm, Nat.mod_add_div]; exact e1
  have hlt := Nat.mod_lt i1 (show 0 < n by omega)
  generalize i1 % n = i at *
  by_cases k : i + 1 = n
  · exact ⟨0, by omega, by rw [show 0 + n - 1 = i by omega]; exact hm⟩
  · exact ⟨i + 1, by omega, by rw [show i + 1 + n - 1 = i + n by omega, O.per]; exact hm⟩
theorem Ob.ePos : 0 < eSum w h n U n := by
  obtain ⟨i, hi, e⟩ := O.mod1
  have h1 := O.eSum_le 0 i
  have h2 := (O.cross i).2 e
  have h3 := O.eSum_le (i + 1) (n - (i + 1))
  rw [show i + 1 + (n - (i + 1)) = n by omega] at h3
  have h4 : eSum w h n U (i + 1) = eSum w h n U i + crossZ (rim w h (U (i + n - 1))) (rim w h (U i)) := rfl
  rw [Nat.zero_add] at h1
  have h5 : eSum w h n U 0 = 0 := rfl
  omega
end
section
variable {w h x y : Int} {sw : Bool} {n : Nat} {U : Nat → Int} (O : Ob w h n U) (hn : l.length = n) (hc : ∀ i, cor l i = put2 x y sw (rim w h (U i)))
include O hn hc
theorem Ob.dsum_is (m : Nat) : dsum l m = (if sw then -eSum w h n U m else eSum w h n U m) + (if sw then x * ((rim w h (U (m + n - 1))).1 - (rim w h (U (0 + n - 1))).1) - y * ((rim w h (U (m + n - 1))).2 - (rim w h (U (0 + n - 1))).2) else x * ((rim w h (U (m + n - 1))).2 - (rim w h (U (0 + n - 1))).2) - y * ((rim w h (U (m + n - 1))).1 - (rim w h (U (0 + n - 1))).1)) := by
  have n1 := O.n1
  induction m with
  | zero =>
    simp only [dsum, eSum, Int.sub_self, Int.mul_zero]
    split <;> rfl
  | succ m ih =>
    rw [show m + 1 + n - 1 = m + n by omega, O.per]
    unfold dsum eSum
    rw [ih, hc, hc, hn]
    generalize rim w h (U (m + n - 1)) = p
    generalize rim w h (U m) = q
    generalize rim w h (U (0 + n - 1)) = r
    generalize eSum w h n U m = e
    unfold put2 crossZ
    cases sw
    · simp only [Bool.false_eq_true, if_false]
      grind
    · simp only [if_true]
      grind
theorem Ob.left : decide (0 < dsum l l.length) = !sw := by
  have n1 := O.n1
  have e := O.dsum_is hn hc n
  rw [show n + n - 1 = n - 1 + n by omega, O.per, show 0 + n - 1 = n - 1 by omega] at e
  have p := O.ePos
  rw [hn]
  cases sw
  · simp only [Bool.false_eq_true, if_false, Int.sub_self, Int.mul_zero, Int.add_zero] at e
    rw [e]
    simp [p]
  · simp only [if_true, Int.sub_self, Int.mul_zero, Int.add_zero] at e
    rw [e]
    simp
    omega
end
end Pg
end IP
end
section
set_option linter.all false
set_option maxRecDepth 100000
namespace IP
theorem wl_mono {c : Fr → Sto → Res Bool} {b : Fr → Sto → SR} : ∀ (n : Nat) (σ : Fr) (s : Sto), whileN c b n σ s ≠ .stuck → whileN c b (n + 1) σ s = whileN c b n σ s
  | 0, σ, s, h => absurd rfl h
  | n + 1, σ, s, h => by
    rw [whileN]
    conv => rhs; rw [whileN]
    rw [whileN] at h
    cases hc : c σ s with
    | stuck => rfl
    | exc d s1 => rfl
    | ok v s1 =>
      cases v with
      | false => rfl
      | true =>
        rw [hc] at h
        simp only at h ⊢
        cases hb : b σ s1 with
        | next σ2 s2 =>
          rw [hb] at h
          simp only [SR.bind_next] at h ⊢
          exact wl_mono n σ2 s2 h
        | _ => rfl
theorem wl_le {c : Fr → Sto → Res Bool} {b : Fr → Sto → SR} {σ : Fr} {s : Sto} {n m : Nat} (h : whileN c b n σ s ≠ .stuck) (hm : n ≤ m) : whileN c b m σ s = whileN c b n σ s := by
  induction hm with
  | refl => rfl
  | step _ ih => rw [wl_mono _ _ _ (by rw [ih]; exact h), ih]
theorem wl_of {c : Fr → Sto → Res Bool} {b : Fr → Sto → SR} {σ : Fr} {s : Sto} {n : Nat} {r : SR} (h : whileN c b n σ s = r) (hr : r ≠ .stuck) : whileL c b σ s = r := by
  have hex : ∃ n, whileN c b n σ s ≠ .stuck := ⟨n, by rw [h]; exact hr⟩
  unfold whileL
  rw [dif_pos hex]
  have h2 := Classical.choose_spec hex
  generalize Classical.choose hex = m at h2
  rcases Nat.le_total n m with z | z
  · rw [wl_le (by rw [h]; exact hr) z, h]
  · rw [← wl_le h2 z, h]
theorem zafb {c : Fr → Sto → Res Bool} {b : Fr → Sto → SR} {s : Sto} (I : Fr → Prop) (μ : Fr → Nat) (hc : ∀ σ, I σ → (c σ s = .ok false s) ∨ (c σ s = .ok true s ∧ ∃ σ2, b σ s = .next σ2 s ∧ I σ2 ∧ μ σ2 < μ σ)) (σ : Fr) (h : I σ) : ∃ σ', whileL c b σ s = .next σ' s ∧ I σ' ∧ c σ' s = .ok false s := by
  have key : ∀ (m : Nat) (σ : Fr), μ σ ≤ m → I σ → ∃ n σ', whileN c b n σ s = .next σ' s ∧ I σ' ∧ c σ' s = .ok false s := by
    intro m
    induction m with
    | zero =>
      intro σ hm hI
      rcases hc σ hI with e | ⟨_, σ2, _, _, e⟩
      · exact ⟨1, σ, by rw [whileN, e], hI, e⟩
      · omega
    | succ m ih =>
      intro σ hm hI
      rcases hc σ hI with e | ⟨e, σ2, e2, h2, e3⟩
      · exact ⟨1, σ, by rw [whileN, e], hI, e⟩
      · obtain ⟨n, σ', q1, q2, q3⟩ := ih σ2 (by omega) h2
        exact ⟨n + 1, σ', by rw [whileN, e]; simp only [e2, SR.bind_next, q1], q2, q3⟩
  obtain ⟨n, σ', q1, q2, q3⟩ := key _ σ (Nat.le_refl _) h
  exact ⟨σ', wl_of q1 (by intro h; cases h), q2, q3⟩
namespace Pg
open L2 M3
variable {k : Nat} {s : Sto}
theorem zacl {n : Int} (h0 : 0 ≤ n) (hn : n < 2 ^ 60) : run true fns sub0 whileL (k + 1) iz31 [.val (.int n)] s = .ok (.val (.int (wroot n))) s := by
  rw [zaah (F := Fz31) rfl rfl]
  obtain ⟨σ', e, ⟨r, m, rfl, hI⟩, hout⟩ := zafb (s := s) (c := fun σ s => (ev (cfX fns sub0 k) (.cmp .lt (.var 2) (.var 1)) .t σ s).bind fun x s1 => .of (match x with | .val (.bl k) => some k | _ => none) s1) (b := fun σ s => exs (cfX fns sub0 k) bz31_L0 σ s)
    (fun σ => ∃ r m : Int, σ = [some (.val (.int n)), some (.val (.int r)), some (.val (.int m))] ∧ Inv n r m) (fun σ => match σ with | [_, some (.val (.int r)), _] => r.toNat | _ => 0) (by
      rintro σ ⟨r, m, rfl, hI⟩
      by_cases hlt : m < r
      · refine .inr ⟨by simp [hlt], ?_⟩
        have hp := inv_pos hI hlt
        have hr := hI.rn
        have hd := zaas (i := n) (j := m) hp (by omega)
        exact ⟨[some (.val (.int n)), some (.val (.int m)), some (.val (.int (Int.fdiv (m + Int.fdiv n m) 2)))], by simp [hd, zaas], ⟨m, _, rfl, inv_turn hI hlt⟩, by simp; omega⟩
      · exact .inl (by simp [hlt])) [some (.val (.int n)), some (.val (.int n)), some (.val (.int (Int.fdiv (n + 1) 2)))] ⟨n, _, rfl, zaby h0⟩
  have hle : ¬ m < r := by
    intro hlt
    simp [hlt] at hout
  have hx : exs (cfX fns sub0 k) bz31 (enter Fz31 [.val (.int n)]) s = .ret (.val (.int (wroot n))) s := by
    refine (zaag (σ1 := [some (.val (.int n)), some (.val (.int n)), none]) (s1 := s) (by simp)).trans ?_
    refine (zaag (σ1 := [some (.val (.int n)), some (.val (.int n)), some (.val (.int (Int.fdiv (n + 1) 2)))]) (s1 := s) (by simp [zaas])).trans ?_
    refine (zaag (σ1 := [some (.val (.int n)), some (.val (.int r)), some (.val (.int m))]) (s1 := s) ?_).trans ?_
    · rw [ex]
      exact e
    rw [← inv_out hI hle]
    simp
  rw [hx]
  rfl
end Pg
end IP
end
section
set_option linter.all false
set_option maxRecDepth 100000
set_option maxHeartbeats 0
namespace IP
namespace Pg
open L2 M3
variable {k : Nat} {s : Sto} {l : List (Int × Int)}
@[simp] theorem asB_bl (b : Bool) : asB (.val (.bl b)) = some b := rfl
theorem ex_whl {C : Cf} {c : E} {b : List S} {σ : Fr} {s : Sto} (hw : C.wl = whileL) : ex C (.whl c b) σ s = whileL (fun σ s => (ev C c .t σ s).bind fun x s1 => .of (asB x) s1) (fun σ s => exs C b σ s) σ s := by
  conv => lhs; unfold ex
  rw [hw]
  rfl
theorem gd_loop (C : Cf) : ∀ (n m : Nat) (c : Option B), ∃ c', whileL (fun σ s => (ev C (.cmp .ne (.var 1) (.cst (.int 0))) .t σ s).bind fun x s1 => .of (asB x) s1) (fun σ s => exs C zadl σ s)
      [some (.val (.int m)), some (.val (.int n)), c] s = .next [some (.val (.int (Nat.gcd m n))), some (.val (.int 0)), c'] s := by
  intro n
  induction n using Nat.strongRecOn with
  | _ n ih =>
    intro m c
    rw [whileL_eq]
    by_cases h : n = 0
    · subst h
      exact ⟨c, by simp⟩
    · have hn : 0 < n := by omega
      have hd := op_mod (i := (m : Int)) (j := (n : Int)) (by omega)
      rw [zaez] at hd
      obtain ⟨c', e⟩ := ih (m % n) (Nat.mod_lt _ hn) n (some (.val (.int ((m % n : Nat) : Int))))
      refine ⟨c', ?_⟩
      rw [show Nat.gcd m n = Nat.gcd n (m % n) by rw [Nat.gcd_comm m n, Nat.gcd_rec n m, Nat.gcd_comm]]
      have h0 : ((n : Int) == 0) = false := by simp; omega
      have hc : (ev C (.cmp .ne (.var 1) (.cst (.int 0))) .t [some (.val (.int m)), some (.val (.int n)), c] s).bind (fun x s1 => Res.of (asB x) s1) = .ok true s := by simp [h0]
      have hb : exs C zadl [some (.val (.int m)), some (.val (.int n)), c] s = .next [some (.val (.int n)), some (.val (.int ((m % n : Nat) : Int))), some (.val (.int ((m % n : Nat) : Int)))] s := by
        generalize ((m % n : Nat) : Int) = z at hd ⊢
        simp [hd]
      rw [hc]
      show (exs C zadl [some (.val (.int m)), some (.val (.int n)), c] s).bind _ = _
      rw [hb]
      exact e
theorem r_gd (m n : Nat) : run true fns sub0 whileL (k + 1) iz13 [.val (.int m), .val (.int n)] s = .ok (.val (.int (Nat.gcd m n))) s := by
  rw [zaah (F := Fz13) rfl rfl]
  obtain ⟨c', e⟩ := gd_loop (s := s) (cfX fns sub0 k) n m none
  have hx : exs (cfX fns sub0 k) bz13 (enter Fz13 [.val (.int m), .val (.int n)]) s = .ret (.val (.int (Nat.gcd m n))) s := by
    refine (zaag ((ex_whl rfl).trans e)).trans ?_
    simp
  rw [hx]
  rfl
theorem ab (a : Int) : (if a < 0 then -a else a) = (a.natAbs : Int) := by split <;> omega
theorem r_low {m W : Int} (h : 0 < W) (hw : W < 2 ^ 64) : run true fns sub0 whileL (k + 2) iz16 [.val (.int (W * m)), .val (.int W)] s = .ok (PT (m, 1)) s := by
  rw [zaah (F := Fz16) rfl rfl]
  have e := r_gd (k := k) (s := s) (W * m).natAbs W.natAbs
  have eg : (Nat.gcd (W * m).natAbs W.natAbs : Nat) = W.natAbs := by
    rw [Int.natAbs_mul, Nat.gcd_comm]
    exact Nat.gcd_mul_right_right ..
  rw [eg, show ((W.natAbs : Nat) : Int) = W by omega] at e
  have q1 := zaas (i := W * m) (j := W) h hw
  have q2 := zaas (i := W) (j := W) h hw
  have f1 : Int.fdiv (W * m) W = m := by
    rw [Int.fdiv_eq_ediv_of_nonneg _ (by omega)]
    exact Int.mul_ediv_cancel_left m (by omega)
  have f2 : Int.fdiv W W = 1 := by
    rw [Int.fdiv_eq_ediv_of_nonneg _ (by omega)]
    exact Int.ediv_self (by omega)
  rw [f1] at q1
  rw [f2] at q2
  simp [bz16, ab, e, q1, q2, pt]
def unit (v : Int × Int) : Prop := v = (0, -1) ∨ v = (1, 0) ∨ v = (0, 1) ∨ v = (-1, 0)
theorem r_sqof {v : Int × Int} (h : unit v) : run true fns sub0 whileL (k + 2) 19 [PT v] s = .ok (.val (.int 1)) s := by
  rw [zaah (F := Fz27) rfl rfl]
  have hb : ∀ x : Int, -10 ≤ x ∧ x ≤ 10 → opR .pow (.val (.int x)) (.val (.int 2)) = some (.val (.int (x * x))) := fun x hx => by
    have hb : x.natAbs < big := Nat.lt_trans (show x.natAbs < 2 ^ 64 by omega) big_64
    have e : x ^ 2 = x * x := by rw [Int.pow_succ, Int.pow_succ, Int.pow_zero, Int.one_mul]
    simp [opR, opI, hb, e]
  have e : run true fns sub0 whileL (k + 1) 9 [.val (.tup [.int 0, .int 0]), PT v] s = .ok (.val (.int 1)) s := by
    rw [zaah (F := Fz26) rfl rfl]
    rcases h with rfl | rfl | rfl | rfl <;> simp [bz26, pt, hb]
  simp [bz27, e]
theorem r_thou {v : Int × Int} (h : unit v) : run true fns sub0 whileL (k + 3) 20 [PT v] s = .ok (.val (.int 1000)) s := by
  rw [zaah (F := Fz28) rfl rfl]
  have e1 := r_sqof (k := k) (s := s) h
  have e2 := zacl (k := k + 1) (s := s) (n := 1000000) (by decide) (by decide)
  have er : wroot 1000000 = 1000 := zaa4 (by decide) (by decide) (by decide) (by decide)
  rw [er] at e2
  have m := op_mul (i := 1000000) (j := 1) (zaak (by decide))
  simp [bz28, e1, m, e2]
theorem zadd {c m W : Int} (h : W ≠ 0) (hw : W.natAbs < 2 ^ 60) : run true fns sub0 whileL (k + 4) 21 [.val (.int c), .val (.int (W * m)), .val (.int W)] s = .ok (PT (c + m, 1)) s := by
  have pos : ∀ (k : Nat) (m W : Int), 0 < W → W < 2 ^ 60 → run true fns sub0 whileL (k + 3) 21 [.val (.int c), .val (.int (W * m)), .val (.int W)] s = .ok (PT (c + m, 1)) s := fun k m W h hw => by
    rw [zaah (F := Fz17) rfl rfl]
    have e := r_low (k := k) (s := s) (m := c + m) (W := W) h (by omega)
    have q := op_mul (i := c) (j := W) (mulB_r (by omega))
    rw [show W * (c + m) = c * W + W * m by grind] at e
    simp [bz17, show ¬ W < 0 by omega, q, e]
  by_cases h0 : 0 < W
  · exact pos (k + 1) m W h0 (by omega)
  · rw [zaah (F := Fz17) rfl rfl]
    have e := pos k m (-W) (by omega) (by omega)
    rw [Int.neg_mul] at e
    simp [bz17, show W < 0 by omega, e]
def bow (before after : Int × Int) : Int × Int := if before.1 * after.2 - before.2 * after.1 = 0 then after else (before.1 + after.1, before.2 + after.2)
def hemT (c v : Int × Int) (b : Int) : T := .tup [pt (c.1 + b * v.1, 1), pt (c.2 + b * v.2, 1)]
theorem zab5 {v : Int × Int} (h : unit v) : (-1 ≤ v.1 ∧ v.1 ≤ 1) ∧ (-1 ≤ v.2 ∧ v.2 ≤ 1) := by
  rcases h with rfl | rfl | rfl | rfl <;> decide
theorem r_beside {c v : Int × Int} {b : Int} (h : unit v) (hb : 0 ≤ b ∧ b ≤ 1000) : run true fns sub0 whileL (k + 5) 17 [PT c, PT v, .val (.int b)] s = .ok (.val (hemT c v b)) s := by
  rw [zaah (F := Fz11) rfl rfl]
  have e1 := r_thou (k := k + 1) (s := s) h
  have u := zab5 h
  have q1 := op_mul (i := 1000) (j := b) (zaak (by decide))
  have q2 := op_mul (i := 1000 * b) (j := v.1) (mulB_r (by omega))
  have q3 := op_mul (i := 1000 * b) (j := v.2) (mulB_r (by omega))
  have e2 := zadd (k := k) (s := s) (c := c.1) (m := b * v.1) (W := 1000) (by decide) (by decide)
  have e3 := zadd (k := k) (s := s) (c := c.2) (m := b * v.2) (W := 1000) (by decide) (by decide)
  rw [← Int.mul_assoc] at e2 e3
  simp [bz11, e1, q1, q2, q3, e2, e3, hemT]
theorem r_cut {c p v : Int × Int} {b z : Int} (hp : unit p) (h : unit v) (hb : 0 ≤ b ∧ b ≤ 1000) (hz : z = 1 ∨ z = -1) (h1 : v.2 - p.2 = z * (p.1 + v.1)) (h2 : p.1 - v.1 = z * (p.2 + v.2)) : run true fns sub0 whileL (k + 5) 18 [PT c, PT p, PT v, .val (.int z), .val (.int b)] s = .ok (.val (hemT c (p.1 + v.1, p.2 + v.2) b)) s := by
  rw [zaah (F := Fz30) rfl rfl]
  have e1 := r_thou (k := k + 1) (s := s) h
  have e1' := r_thou (k := k + 1) (s := s) hp
  have e4 := r_sqof (k := k + 2) (s := s) h
  have e4' := r_sqof (k := k + 2) (s := s) hp
  have u := zab5 h
  have u' := zab5 hp
  have q1 := op_mul (i := 1000) (j := b) (zaak (by decide))
  have q2 := op_mul (i := 1000 * b) (j := 1) (mulB_r (by decide))
  have q3 := op_mul (i := 1000 * b * 1) (j := 1000) (mulB_r (by decide))
  have q4 : ∀ j : Int, -1 ≤ j ∧ j ≤ 1 → opR .mul (.val (.int (1000 * b * 1 * 1000))) (.val (.int j)) = some (.val (.int (1000 * b * 1 * 1000 * j))) := fun j hj => op_mul (mulB_r (by omega))
  have q5 := op_mul (i := z) (j := 1000) (mulB_r (by decide))
  have q6 := op_mul (i := z * 1000) (j := 1000) (mulB_r (by decide))
  have hW : z * 1000 * 1000 ≠ 0 := by omega
  have e2 := zadd (k := k) (s := s) (c := c.1) (m := b * (p.1 + v.1)) (W := z * 1000 * 1000) hW (by omega)
  have e3 := zadd (k := k) (s := s) (c := c.2) (m := b * (p.2 + v.2)) (W := z * 1000 * 1000) hW (by omega)
  have x1 : z * 1000 * 1000 * (b * (p.1 + v.1)) = 1000 * b * 1 * 1000 * v.2 - 1000 * b * 1 * 1000 * p.2 := by
    rw [← Int.mul_sub, h1]; grind
  have x2 : z * 1000 * 1000 * (b * (p.2 + v.2)) = 1000 * b * 1 * 1000 * p.1 - 1000 * b * 1 * 1000 * v.1 := by
    rw [← Int.mul_sub, h2]; grind
  rw [x1] at e2
  rw [x2] at e3
  have y1 := q4 v.2 u.2
  have y2 := q4 p.2 u'.2
  have y3 := q4 p.1 u'.1
  have y4 := q4 v.1 u.1
  generalize 1000 * b * 1 * 1000 = K at *
  have hx : exs (cfX fns sub0 (k + 4)) bz30 (enter Fz30 [PT c, PT p, PT v, .val (.int z), .val (.int b)]) s = .ret (.val (hemT c (p.1 + v.1, p.2 + v.2) b)) s := by
    generalize hk1 : 1000 * b = K1 at *
    generalize hk2 : K1 * 1 = K2 at *
    generalize hk3 : z * 1000 = Z1 at *
    generalize hk4 : Z1 * 1000 = Z2 at *
    simp [bz30, e1, e1', e4, e4', q1, q2, q3, y1, y2, y3, y4, q5, q6, e2, e3, hemT]
  rw [hx]
  rfl
theorem r_hem {c p v : Int × Int} {b : Int} (hp : unit p) (h : unit v) (hno : ¬ (p.1 + v.1 = 0 ∧ p.2 + v.2 = 0)) (hb : 0 ≤ b ∧ b ≤ 1000) : run true fns sub0 whileL (k + 6) 16 [PT c, PT p, PT v, .val (.int b)] s = .ok (.val (hemT c (bow p v) b)) s := by
  rw [zaah (F := Fz15) rfl rfl]
  have u' := zab5 hp
  have q1 := op_mul (i := p.1) (j := v.2) (zaak (by omega))
  have q2 := op_mul (i := p.2) (j := v.1) (zaak (by omega))
  unfold bow
  by_cases h0 : p.1 * v.2 - p.2 * v.1 = 0
  · rw [if_pos h0]
    have e := r_beside (k := k) (s := s) (c := c) h hb
    simp [bz15, q1, q2, h0, e]
  · rw [if_neg h0]
    have e := r_cut (k := k) (s := s) (c := c) (b := b) (z := p.1 * v.2 - p.2 * v.1) hp h hb (by rcases hp with rfl | rfl | rfl | rfl <;> rcases h with rfl | rfl | rfl | rfl <;> revert h0 <;> decide) (by rcases hp with rfl | rfl | rfl | rfl <;> rcases h with rfl | rfl | rfl | rfl <;> revert h0 hno <;> decide) (by rcases hp with rfl | rfl | rfl | rfl <;> rcases h with rfl | rfl | rfl | rfl <;> revert h0 hno <;> decide)
    simp [bz15, q1, q2, h0, e]
end Pg
end IP
end
section
set_option linter.all false
set_option maxRecDepth 100000
set_option maxHeartbeats 0
namespace IP
namespace Pg
open L2
variable {k : Nat} {s : Sto} {l : List (Int × Int)}
theorem fd {d u : Int} (h : 0 < d) : Int.fdiv (d * u) d = u := by
  rw [Int.fdiv_eq_ediv_of_nonneg _ (by omega)]
  exact Int.mul_ediv_cancel_left u (by omega)
theorem r_out {i : Nat} (hi : i < l.length) {lw : Bool} {d : Int} {u : Int × Int} (hd : 0 < d ∧ d < 2 ^ 40) (hu : unit u) (h1 : (cor l (i + 1)).1 - (cor l i).1 = d * u.1) (h2 : (cor l (i + 1)).2 - (cor l i).2 = d * u.2) :
    run true fns sub0 whileL (k + 2) 15 [LN l, .val (.int i), .val (.bl lw)] s = .ok (PT (if lw then (u.2, -u.1) else (-u.2, u.1))) s := by
  rw [zaah (F := Fz19) rfl rfl]
  have e1 := r_ends (k := k) (s := s) hi
  have e2 := r_gd (k := k) (s := s) (d * u.1).natAbs (d * u.2).natAbs
  have eg : (((Nat.gcd (d * u.1).natAbs (d * u.2).natAbs : Nat)) : Int) = d := by
    rcases hu with rfl | rfl | rfl | rfl <;> simp <;> omega
  rw [eg] at e2
  have q1 := zaas (i := d * u.1) (j := d) hd.1 (by omega)
  have q2 := zaas (i := d * u.2) (j := d) hd.1 (by omega)
  rw [fd hd.1] at q1 q2
  generalize cor l i = a at *
  generalize cor l (i + 1) = b at *
  generalize hA : d * u.1 = A at *
  generalize hB : d * u.2 = Z at *
  cases lw
  · simp [bz19, e1, h1, h2, ab, e2, q1, q2, pt]
  · simp [bz19, e1, h1, h2, ab, e2, q1, q2, pt]
def nrm (w h t : Int) : Int × Int := if t < w then (0, -1) else if t < w + h then (1, 0) else if t < 2 * w + h then (0, 1) else (-1, 0)
def nrmP (w h t : Int) : Int × Int := if t = 0 then (-1, 0) else if t ≤ w then (0, -1) else if t ≤ w + h then (1, 0) else if t ≤ 2 * w + h then (0, 1) else (-1, 0)
theorem zae8 (w h t : Int) : unit (nrm w h t) := by
  unfold nrm unit
  repeat' split
  all_goals simp
theorem zadx {v : Int × Int} (sw : Bool) (h : unit v) : unit (put2 0 0 sw v) := by
  cases sw <;> rcases h with rfl | rfl | rfl | rfl <;> simp [unit, put2]
section
variable {w h x y : Int} {sw : Bool} {n : Nat} {U : Nat → Int} (O : Ob w h n U) (hn : l.length = n) (hc : ∀ i, cor l i = put2 x y sw (rim w h (U i))) (hw : w ≤ 100000) (hh : h ≤ 100000)
include O hn hc hw hh
theorem Ob.outward {i : Nat} (hi : i < n) : run true fns sub0 whileL (k + 2) 15 [LN l, .val (.int i), .val (.bl (!sw))] s = .ok (PT (put2 0 0 sw (nrm w h (U i)))) s := by
  have w1 := O.w1
  have h1 := O.h1
  have s1 := O.seg i
  have c1 := hc i
  have c2 := hc (i + 1)
  obtain ⟨lt, a0, b0, on⟩ := s1
  generalize rim w h (U i) = p at *
  generalize rim w h (U (i + 1)) = q at *
  generalize nx w h (U (i + 1)) = b at *
  generalize U i = a at *
  rcases on with ⟨k1, rfl, rfl⟩ | ⟨k1, k2, rfl, rfl⟩ | ⟨k1, k2, rfl, rfl⟩ | ⟨k1, rfl, rfl⟩
  · cases sw
    · rw [r_out (by omega) (lw := !false) (d := b - a) (u := (1, 0)) (by omega) (by simp [unit]) (by rw [c1, c2]; simp [put2]; omega) (by rw [c1, c2]; simp [put2])]
      rw [show nrm w h a = (0, -1) by unfold nrm; rw [if_pos (by omega)]]; rfl
    · rw [r_out (by omega) (lw := !true) (d := b - a) (u := (0, 1)) (by omega) (by simp [unit]) (by rw [c1, c2]; simp [put2]) (by rw [c1, c2]; simp [put2]; omega)]
      rw [show nrm w h a = (0, -1) by unfold nrm; rw [if_pos (by omega)]]; rfl
  · cases sw
    · rw [r_out (by omega) (lw := !false) (d := b - a) (u := (0, 1)) (by omega) (by simp [unit]) (by rw [c1, c2]; simp [put2]) (by rw [c1, c2]; simp [put2]; omega)]
      rw [show nrm w h a = (1, 0) by unfold nrm; rw [if_neg (by omega), if_pos (by omega)]]; rfl
    · rw [r_out (by omega) (lw := !true) (d := b - a) (u := (1, 0)) (by omega) (by simp [unit]) (by rw [c1, c2]; simp [put2]; omega) (by rw [c1, c2]; simp [put2])]
      rw [show nrm w h a = (1, 0) by unfold nrm; rw [if_neg (by omega), if_pos (by omega)]]; rfl
  · cases sw
    · rw [r_out (by omega) (lw := !false) (d := b - a) (u := (-1, 0)) (by omega) (by simp [unit]) (by rw [c1, c2]; simp [put2]; omega) (by rw [c1, c2]; simp [put2])]
      rw [show nrm w h a = (0, 1) by unfold nrm; rw [if_neg (by omega), if_neg (by omega), if_pos (by omega)]]; rfl
    · rw [r_out (by omega) (lw := !true) (d := b - a) (u := (0, -1)) (by omega) (by simp [unit]) (by rw [c1, c2]; simp [put2]) (by rw [c1, c2]; simp [put2]; omega)]
      rw [show nrm w h a = (0, 1) by unfold nrm; rw [if_neg (by omega), if_neg (by omega), if_pos (by omega)]]; rfl
  · cases sw
    · rw [r_out (by omega) (lw := !false) (d := b - a) (u := (0, -1)) (by omega) (by simp [unit]) (by rw [c1, c2]; simp [put2]) (by rw [c1, c2]; simp [put2]; omega)]
      rw [show nrm w h a = (-1, 0) by unfold nrm; rw [if_neg (by omega), if_neg (by omega), if_neg (by omega)]]; rfl
    · rw [r_out (by omega) (lw := !true) (d := b - a) (u := (-1, 0)) (by omega) (by simp [unit]) (by rw [c1, c2]; simp [put2]; omega) (by rw [c1, c2]; simp [put2])]
      rw [show nrm w h a = (-1, 0) by unfold nrm; rw [if_neg (by omega), if_neg (by omega), if_neg (by omega)]]; rfl
end
def outZ (f m b : Int) : Int := if f = 0 then 0 - b else if f = m then m + b else f
section
variable {w h : Int} {n : Nat} {U : Nat → Int} (O : Ob w h n U)
include O
theorem Ob.prev (i : Nat) : nrm w h (U (i + n - 1)) = nrmP w h (U i) := by
  have n1 := O.n1
  have s1 := O.seg (i + n - 1)
  have w1 := O.w1
  have h1 := O.h1
  have r := O.rng i
  have e : U (i + n - 1 + 1) = U i := by rw [show i + n - 1 + 1 = i + n by omega, O.per]
  rw [e] at s1
  obtain ⟨lt, a0, b0, on⟩ := s1
  have nxe : (U i = 0 ∧ nx w h (U i) = 2 * w + 2 * h) ∨ (U i ≠ 0 ∧ nx w h (U i) = U i) := by
    unfold nx
    split
    · exact .inl ⟨by assumption, rfl⟩
    · exact .inr ⟨by assumption, rfl⟩
  generalize U (i + n - 1) = a at *
  generalize nx w h (U i) = b at *
  generalize U i = t at *
  unfold nrm nrmP
  rcases on with ⟨k1, _, _⟩ | ⟨k1, k2, _, _⟩ | ⟨k1, k2, _, _⟩ | ⟨k1, _, _⟩
  · rw [if_pos (by omega), if_neg (by omega), if_pos (by omega)]
  · rw [if_neg (by omega), if_pos (by omega), if_neg (by omega), if_neg (by omega), if_pos (by omega)]
  · rw [if_neg (by omega), if_neg (by omega), if_pos (by omega), if_neg (by omega), if_neg (by omega), if_neg (by omega), if_pos (by omega)]
  · rw [if_neg (by omega), if_neg (by omega), if_neg (by omega)]
    by_cases k : t = 0
    · rw [if_pos k]
    · rw [if_neg k, if_neg (by omega), if_neg (by omega), if_neg (by omega)]
end
theorem bow_put {p v : Int × Int} (sw : Bool) (hp : unit p) (h : unit v) (hno : ¬ (p.1 + v.1 = 0 ∧ p.2 + v.2 = 0)) : bow (put2 0 0 sw p) (put2 0 0 sw v) = put2 0 0 sw (bow p v) := by
  cases sw <;> rcases hp with rfl | rfl | rfl | rfl <;> rcases h with rfl | rfl | rfl | rfl <;> revert hno <;> decide
theorem hem_due {w h t b : Int} (w1 : 1 ≤ w) (h1 : 1 ≤ h) (r : 0 ≤ t ∧ t < 2 * w + 2 * h) : ¬ ((nrmP w h t).1 + (nrm w h t).1 = 0 ∧ (nrmP w h t).2 + (nrm w h t).2 = 0) ∧
    (rim w h t).1 + b * (bow (nrmP w h t) (nrm w h t)).1 = outZ (rim w h t).1 w b ∧ (rim w h t).2 + b * (bow (nrmP w h t) (nrm w h t)).2 = outZ (rim w h t).2 h b := by
  have c : t = 0 ∨ (0 < t ∧ t < w) ∨ t = w ∨ (w < t ∧ t < w + h) ∨ t = w + h ∨ (w + h < t ∧ t < 2 * w + h) ∨ t = 2 * w + h ∨ 2 * w + h < t := by omega
  rcases c with c | c | c | c | c | c | c | c
  · rw [show rim w h t = (t, 0) by unfold rim; rw [if_pos (by omega)], show nrm w h t = (0, -1) by unfold nrm; rw [if_pos (by omega)], show nrmP w h t = (-1, 0) by unfold nrmP; rw [if_pos (by omega)], show bow (-1, 0) (0, -1) = (-1, -1) by decide]
    refine ⟨by decide, ?_⟩
    simp only [outZ]
    repeat' split
    all_goals first | omega | simp_all
  · rw [show rim w h t = (t, 0) by unfold rim; rw [if_pos (by omega)], show nrm w h t = (0, -1) by unfold nrm; rw [if_pos (by omega)], show nrmP w h t = (0, -1) by unfold nrmP; rw [if_neg (by omega), if_pos (by omega)], show bow (0, -1) (0, -1) = (0, -1) by decide]
    refine ⟨by decide, ?_⟩
    simp only [outZ]
    repeat' split
    all_goals first | omega | simp_all
  · rw [show rim w h t = (t, 0) by unfold rim; rw [if_pos (by omega)], show nrm w h t = (1, 0) by unfold nrm; rw [if_neg (by omega), if_pos (by omega)], show nrmP w h t = (0, -1) by unfold nrmP; rw [if_neg (by omega), if_pos (by omega)], show bow (0, -1) (1, 0) = (1, -1) by decide]
    refine ⟨by decide, ?_⟩
    simp only [outZ]
    repeat' split
    all_goals first | omega | simp_all
  · rw [show rim w h t = (w, t - w) by unfold rim; rw [if_neg (by omega), if_pos (by omega)], show nrm w h t = (1, 0) by unfold nrm; rw [if_neg (by omega), if_pos (by omega)], show nrmP w h t = (1, 0) by unfold nrmP; rw [if_neg (by omega), if_neg (by omega), if_pos (by omega)], show bow (1, 0) (1, 0) = (1, 0) by decide]
    refine ⟨by decide, ?_⟩
    simp only [outZ]
    repeat' split
    all_goals first | omega | simp_all
  · rw [show rim w h t = (w, t - w) by unfold rim; rw [if_neg (by omega), if_pos (by omega)], show nrm w h t = (0, 1) by unfold nrm; rw [if_neg (by omega), if_neg (by omega), if_pos (by omega)], show nrmP w h t = (1, 0) by unfold nrmP; rw [if_neg (by omega), if_neg (by omega), if_pos (by omega)], show bow (1, 0) (0, 1) = (1, 1) by decide]
    refine ⟨by decide, ?_⟩
    simp only [outZ]
    repeat' split
    all_goals first | omega | simp_all
  · rw [show rim w h t = (2 * w + h - t, h) by unfold rim; rw [if_neg (by omega), if_neg (by omega), if_pos (by omega)], show nrm w h t = (0, 1) by unfold nrm; rw [if_neg (by omega), if_neg (by omega), if_pos (by omega)], show nrmP w h t = (0, 1) by unfold nrmP; rw [if_neg (by omega), if_neg (by omega), if_neg (by omega), if_pos (by omega)], show bow (0, 1) (0, 1) = (0, 1) by decide]
    refine ⟨by decide, ?_⟩
    simp only [outZ]
    repeat' split
    all_goals first | omega | simp_all
  · rw [show rim w h t = (2 * w + h - t, h) by unfold rim; rw [if_neg (by omega), if_neg (by omega), if_pos (by omega)], show nrm w h t = (-1, 0) by unfold nrm; rw [if_neg (by omega), if_neg (by omega), if_neg (by omega)], show nrmP w h t = (0, 1) by unfold nrmP; rw [if_neg (by omega), if_neg (by omega), if_neg (by omega), if_pos (by omega)], show bow (0, 1) (-1, 0) = (-1, 1) by decide]
    refine ⟨by decide, ?_⟩
    simp only [outZ]
    repeat' split
    all_goals first | omega | simp_all
  · rw [show rim w h t = (0, 2 * w + 2 * h - t) by unfold rim; rw [if_neg (by omega), if_neg (by omega), if_neg (by omega)], show nrm w h t = (-1, 0) by unfold nrm; rw [if_neg (by omega), if_neg (by omega), if_neg (by omega)], show nrmP w h t = (-1, 0) by unfold nrmP; rw [if_neg (by omega), if_neg (by omega), if_neg (by omega), if_neg (by omega)], show bow (-1, 0) (-1, 0) = (-1, 0) by decide]
    refine ⟨by decide, ?_⟩
    simp only [outZ]
    repeat' split
    all_goals first | omega | simp_all
end Pg
end IP
end
section
set_option linter.all false
set_option maxRecDepth 100000
set_option maxHeartbeats 0
namespace IP
namespace Pg
open L2
variable {k : Nat} {s : Sto} {l : List (Int × Int)}
abbrev LN' (l : List (Int × Int)) : B := .val (.lst (l.map pt))
theorem zab1 {α : Type} {q : Nat → Option α} : ∀ (m n : Nat), (∀ i, n ≤ i → i < n + m → q i = none) → firstN q n m = none
  | 0, _, _ => rfl
  | m + 1, n, h => by
    unfold firstN
    rw [h n (Nat.le_refl _) (by omega)]
    exact zab1 m (n + 1) fun i h1 h2 => h i (by omega) (by omega)
theorem fp_no {p : Nat → Nat → Bool} {n : Nat} (h : ∀ i j, i ≤ j → j < n → p i j = false) : fp p n = .val .non := by
  unfold fp
  rw [zab1 n 0 fun i _ hi => ?_]
  · rfl
  unfold qi
  refine zab1 _ _ fun j h1 h2 => ?_
  unfold qj
  rw [h i j h1 (by omega)]
  rfl
theorem zack (n : Nat) : rangeT 0 (n : Int) = (List.range n).map fun k : Nat => T.int k := by
  unfold rangeT
  simp
theorem cor_range {f : Nat → Int × Int} {n : Nat} (h : 0 < n) (i : Nat) : cor ((List.range n).map f) i = f (i % n) := by
  have := Nat.mod_lt i h
  unfold cor
  simp [this]
theorem Ob.pmod {w h : Int} {n : Nat} {U : Nat → Int} (O : Ob w h n U) (i : Nat) : U (i % n) = U i := by
  have pm : ∀ d i, U (i + d * n) = U i := fun d => by
    induction d with
    | zero => intro i; simp
    | succ d ih => intro i; rw [show i + (d + 1) * n = i + d * n + n by rw [Nat.add_mul]; omega, O.per, ih]
  rw [← pm (i / n) (i % n), Nat.mul_comm, Nat.mod_add_div]
def dueP (x y : Int) (sw : Bool) (w h t b : Int) : Int × Int := put2 x y sw (outZ (rim w h t).1 w b, outZ (rim w h t).2 h b)
def dueT (p : Int × Int) : T := .tup [pt (p.1, 1), pt (p.2, 1)]
theorem cf_of {m n f : Nat} {rs : List R} {s : Sto} {r : Res R} (h : run true fns sub0 whileL n f rs s = r) (e : n = m) : (cfX fns sub0 m).cf f rs s = r := by
  subst e
  exact h
theorem zadr {C : Cf} {n : Nat} (h0 : 0 < n) (hn : l.length = n) (h1000 : n ≤ 1000) {b : Int} {lw : Bool} {v : Nat → Int × Int} {d : Nat → T} (e1 : C.cf 0 [LN l] s = .ok (.val .non) s) (e2 : C.cf 14 [LN l] s = .ok (.val (.bl lw)) s)
    (e3 : ∀ i : Nat, i < n → C.cf 15 [LN l, .val (.int i), .val (.bl lw)] s = .ok (PT (v i)) s) (e4 : ∀ i : Nat, i < n → C.cf 16 [PT (cor l i), PT (v ((i + n - 1) % n)), PT (v i), .val (.int b)] s = .ok (.val (d i)) s) :
    exs C bz18 [some (.val (.lst (l.map pt))), some (.val (.int b)), none, none, none, none] s = .ret (.val (.lst ((List.range n).map d))) s := by
  have hlen : ∀ σ : Fr, σ[0]? = some (some (.val (.lst (l.map pt)))) → ev C (.rng1 (.b1 .len (.var 0))) .i σ s = .ok (.val (.lst ((List.range n).map fun k : Nat => T.int k))) s := fun σ h0 => by
    rw [← zack]
    exact zae2 (n := n) (by simp [look, h0, hn]) h1000
  have c0 : ev C (.comp zada (.one 4) (.rng1 (.b1 .len (.var 0)))) .v [some (.val (.lst (l.map pt))), some (.val (.int b)), some (.val (.bl lw)), none, none, none] s = .ok (.val (.lst ((List.range n).map fun i => pt (v i)))) s := by
    refine zaa8 (i := 4) (List.range n) (fun k : Nat => T.int k) (fun i => pt (v i)) (hlen _ rfl) (fun i hi => ?_)
    have e := e3 i (List.mem_range.mp hi)
    simp [e]
  have c1 : ev C (.comp zaem (.one 5) (.rng1 (.b1 .len (.var 0)))) .v [some (.val (.lst (l.map pt))), some (.val (.int b)), some (.val (.bl lw)), some (LN' ((List.range n).map v)), none, none] s = .ok (.val (.lst ((List.range n).map d))) s := by
    refine zaa8 (i := 5) (List.range n) (fun k : Nat => T.int k) d (hlen _ rfl) (fun i hi => ?_)
    have hi := List.mem_range.mp hi
    have g1 := sub_at (zabm (l := l) (by omega) i)
    rw [hn, Nat.mod_eq_of_lt hi] at g1
    have g2 := zad2 (l := (List.range n).map v) (m := i) (by simp; exact hi)
    have g3 := sub_at (zabm (l := (List.range n).map v) (by simp; omega) i)
    simp only [List.length_map, List.length_range] at g2 g3
    rw [cor_range h0] at g2 g3
    rw [Nat.mod_eq_of_lt hi] at g3
    have e := e4 i hi
    generalize (List.range n).map v = L at g2 g3 ⊢
    simp [g1, g2, g3, e, LN']
  refine (zaag (σ1 := [some (.val (.lst (l.map pt))), some (.val (.int b)), none, none, none, none]) (s1 := s) (by simp [e1, R.isNon])).trans ?_
  refine (zaag (σ1 := [some (.val (.lst (l.map pt))), some (.val (.int b)), some (.val (.bl lw)), none, none, none]) (s1 := s) (by simp [e2])).trans ?_
  refine (zaag (σ1 := [some (.val (.lst (l.map pt))), some (.val (.int b)), some (.val (.bl lw)), some (LN' ((List.range n).map v)), none, none]) (s1 := s) ((ex_asg c0).trans (by simp [LN', Function.comp_def]))).trans ?_
  exact zacy (ex_ret c1)
section
variable {w h x y : Int} {sw : Bool} {n : Nat} {U : Nat → Int} (O : Ob w h n U) (hn : l.length = n) (hc : ∀ i, cor l i = put2 x y sw (rim w h (U i))) (hw : w ≤ 100000) (hh : h ≤ 100000) (hs : ∀ p ∈ l, sml p) (h1000 : n ≤ 1000)
include O hn hc hw hh hs h1000
theorem Ob.outline {b : Int} (hb : 0 ≤ b ∧ b ≤ 1000) : run true fns sub0 whileL (k + 7) 13 [LN l, .val (.int b)] s = .ok (.val (.lst ((List.range n).map fun i => dueT (dueP x y sw w h (U i) b)))) s := by
  have n1 := O.n1
  rw [zaah (F := Fz18) rfl rfl]
  have e1 := zaeh (k := k + 1) (s := s) hs (by omega)
  rw [fp_no fun i j h1 h2 => O.free hn hc h1 (by omega)] at e1
  have e2 := zae9 (k := k + 5) (s := s) hs (by omega)
  rw [O.left hn hc] at e2
  have key := zadr (C := cfX fns sub0 (k + 6)) (s := s) (l := l) (n := n) (by omega) hn h1000 (b := b) (lw := !sw) (v := fun i => put2 0 0 sw (nrm w h (U i))) (d := fun i => dueT (dueP x y sw w h (U i) b)) (cf_of e1 rfl) (cf_of e2 rfl) (fun i hi => cf_of (O.outward (k := k + 4) (s := s) hn hc hw hh hi) rfl) (fun i hi => by
    have r := O.rng i
    obtain ⟨d1, d2, d3⟩ := hem_due (w := w) (h := h) (t := U i) (b := b) O.w1 O.h1 r
    have up : unit (nrmP w h (U i)) := by rw [← O.prev]; exact zae8 _ _ _
    have uv := zae8 w h (U i)
    show (cfX fns sub0 (k + 6)).cf 16 [PT (cor l i), PT (put2 0 0 sw (nrm w h (U ((i + n - 1) % n)))), PT (put2 0 0 sw (nrm w h (U i))), .val (.int b)] s = _
    rw [O.pmod, O.prev]
    have hno : ¬ ((put2 0 0 sw (nrmP w h (U i))).1 + (put2 0 0 sw (nrm w h (U i))).1 = 0 ∧ (put2 0 0 sw (nrmP w h (U i))).2 + (put2 0 0 sw (nrm w h (U i))).2 = 0) := by
      intro q
      apply d1
      cases sw
      · simp only [put2, Bool.false_eq_true, if_false] at q; omega
      · simp only [put2, if_true] at q; omega
    have e := r_hem (k := k) (s := s) (c := cor l i) (zadx sw up) (zadx sw uv) hno hb
    have ed : hemT (cor l i) (bow (put2 0 0 sw (nrmP w h (U i))) (put2 0 0 sw (nrm w h (U i)))) b = dueT (dueP x y sw w h (U i) b) := by
      rw [bow_put sw up uv d1, hc]
      generalize bow (nrmP w h (U i)) (nrm w h (U i)) = v at *
      unfold hemT dueT dueP
      rw [← d2, ← d3]
      cases sw
      · simp only [put2, Bool.false_eq_true, if_false, Int.zero_add, Int.add_assoc]
      · simp only [put2, if_true, Int.zero_add, Int.add_assoc]
    rw [ed] at e
    exact cf_of e rfl)
  have hx : exs (cfX fns sub0 (k + 6)) bz18 (enter Fz18 [LN l, .val (.int b)]) s = .ret (.val (.lst ((List.range n).map fun i => dueT (dueP x y sw w h (U i) b)))) s := key
  rw [hx]
  rfl
end
end Pg
end IP
end
section
set_option linter.all false
set_option maxRecDepth 100000
set_option maxHeartbeats 0
namespace IP
namespace Pg
structure So (w h : Int) (n : Nat) (t : Nat → Int) : Prop where
  w1 : 1 ≤ w
  h1 : 1 ≤ h
  n1 : 4 ≤ n
  t0 : t 0 = 0
  mono : ∀ i j, i < j → j < n → t i < t j
  top : ∀ i, i < n → t i < 2 * w + 2 * h
  c1 : ∃ i, i < n ∧ t i = w
  c2 : ∃ i, i < n ∧ t i = w + h
  c3 : ∃ i, i < n ∧ t i = 2 * w + h
theorem zaek {n : Nat} (hn : 0 < n) (i : Nat) : ((i + 1) % n = i % n + 1 ∧ i % n + 1 < n) ∨ ((i + 1) % n = 0 ∧ i % n + 1 = n) := by
  have h := Nat.mod_lt i hn
  by_cases k : i % n + 1 = n
  · refine .inr ⟨?_, k⟩
    rw [Nat.add_mod]
    by_cases h1 : n = 1
    · subst h1; omega
    · rw [Nat.mod_eq_of_lt (show 1 < n by omega), k, Nat.mod_self]
  · refine .inl ⟨?_, by omega⟩
    rw [Nat.add_mod]
    rw [Nat.mod_eq_of_lt (show 1 < n by omega), Nat.mod_eq_of_lt (by omega)]
section
variable {w h : Int} {n : Nat} {t : Nat → Int} (S : So w h n t)
include S
theorem So.nn {i : Nat} (hi : i < n) : 0 ≤ t i ∧ (t i = 0 → i = 0) := by
  by_cases k : i = 0
  · subst k; rw [S.t0]; exact ⟨by omega, fun _ => rfl⟩
  · have := S.mono 0 i (by omega) hi
    rw [S.t0] at this
    exact ⟨by omega, fun e => by omega⟩
theorem So.in {i j : Nat} (hi : i < n) (hj : j < n) (e : t i = t j) : i = j := by
  rcases Nat.lt_trichotomy i j with k | k | k
  · have := S.mono i j k hj; omega
  · exact k
  · have := S.mono j i k hi; omega
theorem So.le {i j : Nat} (hi : i ≤ j) (hj : j < n) : t i ≤ t j := by
  by_cases k : i = j
  · rw [k]; exact Int.le_refl _
  · have := S.mono i j (by omega) hj; omega
theorem So.ob : Ob w h n (fun i => t (i % n)) := by
  have n1 := S.n1
  have lt : ∀ i, i % n < n := fun i => Nat.mod_lt _ (by omega)
  refine ⟨S.w1, S.h1, n1, fun i => ?_, fun i => ⟨(S.nn (lt i)).1, S.top _ (lt i)⟩, fun i j hi hj e => ?_, fun i => ?_, ⟨0, ?_⟩, ?_, ?_, ?_⟩
  · simp
  · have e : t (i % n) = t (j % n) := e
    rw [Nat.mod_eq_of_lt hi, Nat.mod_eq_of_lt hj] at e
    exact S.in hi hj e
  · show t (i % n) < nx w h (t ((i + 1) % n)) ∧ ∀ j, ¬ (t (i % n) < t (j % n) ∧ t (j % n) < nx w h (t ((i + 1) % n)))
    rcases zaek (show 0 < n by omega) i with ⟨e, k⟩ | ⟨e, k⟩
    · rw [e]
      have m := S.mono (i % n) (i % n + 1) (by omega) k
      have z := S.nn (lt i)
      have : nx w h (t (i % n + 1)) = t (i % n + 1) := by unfold nx; rw [if_neg (by omega)]
      rw [this]
      refine ⟨m, fun j ⟨q1, q2⟩ => ?_⟩
      have := lt j
      rcases Nat.lt_or_ge (i % n) (j % n) with c | c
      · have := S.le (i := i % n + 1) (j := j % n) (by omega) (lt j); omega
      · have := S.le c (lt i); omega
    · rw [e, S.t0]
      have : nx w h 0 = 2 * w + 2 * h := by unfold nx; rw [if_pos rfl]
      rw [this]
      refine ⟨S.top _ (lt i), fun j ⟨q1, _⟩ => ?_⟩
      have := lt j
      have := S.le (i := j % n) (j := i % n) (by omega) (lt i)
      omega
  · show t (0 % n) = 0
    rw [Nat.zero_mod]; exact S.t0
  · obtain ⟨i, hi, e⟩ := S.c1
    exact ⟨i, by show t (i % n) = _; rw [Nat.mod_eq_of_lt hi]; exact e⟩
  · obtain ⟨i, hi, e⟩ := S.c2
    exact ⟨i, by show t (i % n) = _; rw [Nat.mod_eq_of_lt hi]; exact e⟩
  · obtain ⟨i, hi, e⟩ := S.c3
    exact ⟨i, by show t (i % n) = _; rw [Nat.mod_eq_of_lt hi]; exact e⟩
def mir (w h t : Int) : Int := if t = 0 then 0 else 2 * w + 2 * h - t
theorem So.rev : Ob h w n (fun i => mir w h (t (n - 1 - i % n))) := by
  have n1 := S.n1
  have lt : ∀ i, i % n < n := fun i => Nat.mod_lt _ (by omega)
  have w1 := S.w1
  have h1 := S.h1
  have mi : ∀ i, i < n → 0 ≤ mir w h (t i) ∧ mir w h (t i) < 2 * h + 2 * w ∧ nx h w (mir w h (t i)) = 2 * w + 2 * h - t i := fun i hi => by
    have a := S.nn hi
    have b := S.top i hi
    unfold mir nx
    by_cases k : t i = 0
    · rw [if_pos k, if_pos rfl]; omega
    · rw [if_neg k, if_neg (by omega)]; omega
  refine ⟨h1, w1, n1, fun i => ?_, fun i => ?_, fun i j hi hj e => ?_, fun i => ?_, ⟨n - 1, ?_⟩, ?_, ?_, ?_⟩
  · simp
  · have := mi (n - 1 - i % n) (by omega)
    exact ⟨this.1, by show mir w h _ < _; omega⟩
  · have e : mir w h (t (n - 1 - i % n)) = mir w h (t (n - 1 - j % n)) := e
    rw [Nat.mod_eq_of_lt hi, Nat.mod_eq_of_lt hj] at e
    have a := (mi (n - 1 - i) (by omega)).2.2
    have b := (mi (n - 1 - j) (by omega)).2.2
    rw [e] at a
    have := S.in (i := n - 1 - i) (j := n - 1 - j) (by omega) (by omega) (by omega)
    omega
  · show mir w h (t (n - 1 - i % n)) < nx h w (mir w h (t (n - 1 - (i + 1) % n))) ∧ ∀ j, ¬ (mir w h (t (n - 1 - i % n)) < mir w h (t (n - 1 - j % n)) ∧ mir w h (t (n - 1 - j % n)) < nx h w (mir w h (t (n - 1 - (i + 1) % n))))
    have li := lt i
    rcases zaek (show 0 < n by omega) i with ⟨e, k⟩ | ⟨e, k⟩
    · rw [e, (mi (n - 1 - (i % n + 1)) (by omega)).2.2]
      have m := S.mono (n - 1 - (i % n + 1)) (n - 1 - i % n) (by omega) (by omega)
      have z := S.nn (i := n - 1 - (i % n + 1)) (by omega)
      have q : mir w h (t (n - 1 - i % n)) = 2 * w + 2 * h - t (n - 1 - i % n) := by unfold mir; rw [if_neg (by omega)]
      rw [q]
      refine ⟨by omega, fun j ⟨q1, q2⟩ => ?_⟩
      have lj := lt j
      have tp := S.top (n - 1 - i % n) (by omega)
      have q3 : mir w h (t (n - 1 - j % n)) = 2 * w + 2 * h - t (n - 1 - j % n) := by
        unfold mir at q1 ⊢
        split
        · rename_i c; rw [if_pos c] at q1; omega
        · rfl
      rw [q3] at q1 q2
      rcases Nat.lt_or_ge (i % n) (j % n) with c | c
      · have := S.le (i := n - 1 - j % n) (j := n - 1 - (i % n + 1)) (by omega) (by omega); omega
      · have := S.le (i := n - 1 - i % n) (j := n - 1 - j % n) (by omega) (by omega); omega
    · rw [e, (mi (n - 1 - 0) (by omega)).2.2]
      have q : mir w h (t (n - 1 - i % n)) = 0 := by rw [show n - 1 - i % n = 0 by omega, S.t0]; unfold mir; rw [if_pos rfl]
      rw [q]
      have tp := S.top (n - 1 - 0) (by omega)
      refine ⟨by omega, fun j ⟨q1, q2⟩ => ?_⟩
      have lj := lt j
      have q3 : mir w h (t (n - 1 - j % n)) = 2 * w + 2 * h - t (n - 1 - j % n) := by
        unfold mir at q1 ⊢
        split
        · rename_i c; rw [if_pos c] at q1; omega
        · rfl
      have := S.le (i := n - 1 - j % n) (j := n - 1 - 0) (by omega) (by omega)
      omega
  · show mir w h (t (n - 1 - (n - 1) % n)) = 0
    rw [Nat.mod_eq_of_lt (by omega), show n - 1 - (n - 1) = 0 by omega, S.t0]
    unfold mir; rw [if_pos rfl]
  · obtain ⟨i, hi, e⟩ := S.c3
    refine ⟨n - 1 - i, ?_⟩
    show mir w h (t (n - 1 - (n - 1 - i) % n)) = _
    rw [Nat.mod_eq_of_lt (by omega), show n - 1 - (n - 1 - i) = i by omega, e]
    unfold mir; rw [if_neg (by omega)]; omega
  · obtain ⟨i, hi, e⟩ := S.c2
    refine ⟨n - 1 - i, ?_⟩
    show mir w h (t (n - 1 - (n - 1 - i) % n)) = _
    rw [Nat.mod_eq_of_lt (by omega), show n - 1 - (n - 1 - i) = i by omega, e]
    unfold mir; rw [if_neg (by omega)]; omega
  · obtain ⟨i, hi, e⟩ := S.c1
    refine ⟨n - 1 - i, ?_⟩
    show mir w h (t (n - 1 - (n - 1 - i) % n)) = _
    rw [Nat.mod_eq_of_lt (by omega), show n - 1 - (n - 1 - i) = i by omega, e]
    unfold mir; rw [if_neg (by omega)]; omega
end
theorem rim_mir {w h t : Int} (w1 : 1 ≤ w) (h1 : 1 ≤ h) (r : 0 ≤ t ∧ t < 2 * w + 2 * h) : rim w h t = ((rim h w (mir w h t)).2, (rim h w (mir w h t)).1) := by
  unfold mir
  by_cases k : t = 0
  · rw [if_pos k, k]
    unfold rim
    rw [if_pos (by omega), if_pos (by omega)]
  · rw [if_neg k]
    unfold rim
    repeat' split
    all_goals first | (exfalso; omega) | (refine Prod.ext ?_ ?_ <;> dsimp only <;> omega)
theorem Ob.rot {w h : Int} {n : Nat} {U : Nat → Int} (O : Ob w h n U) (m : Nat) (hm : m < n) : Ob w h n (fun i => U (i + m)) := by
  have n1 := O.n1
  have sh : ∀ j, ∃ i, U (i + m) = U j := fun j => ⟨j + (n - m), by rw [show j + (n - m) + m = j + n by omega, O.per]⟩
  refine ⟨O.w1, O.h1, n1, fun i => ?_, fun i => O.rng _, fun i j hi hj e => ?_, fun i => ?_, ?_, ?_, ?_, ?_⟩
  · show U (i + n + m) = U (i + m)
    rw [show i + n + m = i + m + n by omega, O.per]
  · have e : U (i + m) = U (j + m) := e
    have f : ∀ i, i < n → ∃ i', i' < n ∧ U (i + m) = U i' ∧ ((i + m < n ∧ i' = i + m) ∨ (n ≤ i + m ∧ i' = i + m - n)) := fun i hi => by
      by_cases k : i + m < n
      · exact ⟨i + m, k, rfl, .inl ⟨k, rfl⟩⟩
      · exact ⟨i + m - n, by omega, by have := O.per (i + m - n); rw [show i + m - n + n = i + m by omega] at this; exact this, .inr ⟨by omega, rfl⟩⟩
    obtain ⟨i', h1, h2, h3⟩ := f i hi
    obtain ⟨j', h4, h5, h6⟩ := f j hj
    have := O.inj i' j' h1 h4 (by omega)
    omega
  · have s := O.suc (i + m)
    refine ⟨by show U (i + m) < nx w h (U (i + 1 + m)); rw [show i + 1 + m = i + m + 1 by omega]; exact s.1, fun j => ?_⟩
    show ¬ (U (i + m) < U (j + m) ∧ U (j + m) < nx w h (U (i + 1 + m)))
    rw [show i + 1 + m = i + m + 1 by omega]
    exact s.2 (j + m)
  · obtain ⟨j, e⟩ := O.c0; obtain ⟨i, f⟩ := sh j; exact ⟨i, f.trans e⟩
  · obtain ⟨j, e⟩ := O.c1; obtain ⟨i, f⟩ := sh j; exact ⟨i, f.trans e⟩
  · obtain ⟨j, e⟩ := O.c2; obtain ⟨i, f⟩ := sh j; exact ⟨i, f.trans e⟩
  · obtain ⟨j, e⟩ := O.c3; obtain ⟨i, f⟩ := sh j; exact ⟨i, f.trans e⟩
theorem cor_rot {l : List (Int × Int)} {m : Nat} (hm : m < l.length) (i : Nat) : cor (l.drop m ++ l.take m) i = cor l (i + m) := by
  have hl : (l.drop m ++ l.take m).length = l.length := by simp; omega
  unfold cor
  rw [hl, List.getD_eq_getElem?_getD, List.getD_eq_getElem?_getD]
  have hi := Nat.mod_lt i (show 0 < l.length by omega)
  have e : (i + m) % l.length = if i % l.length + m < l.length then i % l.length + m else i % l.length + m - l.length := by
    rw [Nat.add_mod, Nat.mod_eq_of_lt hm]
    split
    · exact Nat.mod_eq_of_lt (by assumption)
    · rw [Nat.mod_eq_sub_mod (by omega)]; exact Nat.mod_eq_of_lt (by omega)
  rw [e]
  generalize i % l.length = a at *
  by_cases k : a + m < l.length
  · rw [if_pos k, List.getElem?_append_left (by simp; omega), List.getElem?_drop, Nat.add_comm]
  · rw [if_neg k, List.getElem?_append_right (by simp; omega), List.length_drop, List.getElem?_take_of_lt (by omega), show a - (l.length - m) = a + m - l.length by omega]
theorem cor_rev {l : List (Int × Int)} (h0 : 0 < l.length) (i : Nat) : cor l.reverse i = cor l (l.length - 1 - i % l.length) := by
  unfold cor
  have hi := Nat.mod_lt i h0
  rw [List.length_reverse, List.getD_eq_getElem?_getD, List.getD_eq_getElem?_getD, List.getElem?_reverse hi, Nat.mod_eq_of_lt (show l.length - 1 - i % l.length < l.length by omega)]
theorem cor_map {l : List (Int × Int)} (h0 : 0 < l.length) (f : Int × Int → Int × Int) (i : Nat) : cor (l.map f) i = f (cor l i) := by
  unfold cor
  have hi := Nat.mod_lt i h0
  rw [List.length_map, List.getD_eq_getElem?_getD, List.getD_eq_getElem?_getD]
  simp [hi]
end Pg
end IP
end
section
set_option linter.all false
set_option maxRecDepth 100000
namespace IP
namespace Pg
open L2
variable {k : Nat} {s : Sto}
abbrev iL (xs : List Int) : List T := xs.map .int
abbrev tI (xs : List Int) : T := .tup (iL xs)
theorem r_whole (i : Int) : run true fns sub0 whileL (k + 1) iz9 [.val (.int i)] s = .ok (.val (.bl true)) s := by
  rw [zaah (F := Fz9) rfl rfl]
  simp [bz9]
theorem at_get {ts : List T} {m : Nat} {t : T} (h : ts[m]? = some t) : L2.atI ts (m : Int) = some t := by
  have hl := (List.getElem?_eq_some_iff.mp h).1
  have h2 := (List.getElem?_eq_some_iff.mp h).2
  simp [L2.atI, L2.ixN, hl, h2]
theorem sub_atT {ts : List T} {n : Nat} {t : T} (h : ts[n]? = some t) : subR (.val (.tup ts)) (n : Int) = some t := at_get h
theorem zadb (xs : List Int) (hn : xs.length ≤ 1000) : run true fns sub0 whileL (k + 2) iz5 [.val (tI xs), .val (tI xs)] s = .ok (.val (.bl true)) s := by
  rw [zaah (F := Fz5) rfl rfl]
  have hx : exs (cfX fns sub0 (k + 1)) bz5 (enter Fz5 [.val (tI xs), .val (tI xs)]) s = .ret (.val (.bl true)) s := by
    refine (zaag (σ1 := [some (.val (tI xs)), some (.val (tI xs)), none]) (s1 := s) (by simp)).trans ?_
    obtain ⟨σ', e, c, rfl⟩ := zabi (g := .one 2) (body := fun σ s => exs (cfX fns sub0 (k + 1)) bz5_L0 σ s) (s := s) (fun _ σ => ∃ c, σ = [some (.val (tI xs)), some (.val (tI xs)), c]) (rangeT 0 xs.length) 0 [some (.val (tI xs)), some (.val (tI xs)), none] ⟨none, rfl⟩ (by
        rintro m t σ hm ⟨c, rfl⟩
        obtain ⟨rfl, hlt⟩ := zaau hm
        have hlt : m < xs.length := by omega
        have hg : (iL xs)[m]? = some (.int xs[m]) := by simp [hlt]
        have h1 := sub_atT hg
        have w1 := r_whole (k := k) (s := s) xs[m]
        refine ⟨[some (.val (tI xs)), some (.val (tI xs)), some (.val (.int m))], [some (.val (tI xs)), some (.val (tI xs)), some (.val (.int m))], by simp [bindTg], by simp [h1, w1], _, rfl⟩)
    refine (zaag (σ1 := [some (.val (tI xs)), some (.val (tI xs)), c]) (s1 := s) ((ex_for (ts := rangeT 0 xs.length) (s1 := s) (zadi (n := xs.length) (by simp) hn) (by intro _ h; cases h)).trans e)).trans ?_
    simp
  rw [hx]
  rfl
abbrev tIs (l : List (List Int)) : T := .lst (l.map tI)
theorem r_rows (l : List (List Int)) (hn : l.length ≤ 1000) (hm : ∀ xs ∈ l, xs.length ≤ 1000) : run true fns sub0 whileL (k + 3) iz8 [.val (tIs l), .val (tIs l)] s = .ok (.val (.bl true)) s := by
  rw [zaah (F := Fz8) rfl rfl]
  have hx : exs (cfX fns sub0 (k + 2)) bz8 (enter Fz8 [.val (tIs l), .val (tIs l)]) s = .ret (.val (.bl true)) s := by
    refine (zaag (σ1 := [some (.val (tIs l)), some (.val (tIs l)), none]) (s1 := s) (by simp)).trans ?_
    obtain ⟨σ', e, c, rfl⟩ := zabi (g := .one 2) (body := fun σ s => exs (cfX fns sub0 (k + 2)) bz8_L0 σ s) (s := s) (fun _ σ => ∃ c, σ = [some (.val (tIs l)), some (.val (tIs l)), c]) (rangeT 0 l.length) 0 [some (.val (tIs l)), some (.val (tIs l)), none] ⟨none, rfl⟩ (by
        rintro m t σ hm' ⟨c, rfl⟩
        obtain ⟨rfl, hlt⟩ := zaau hm'
        have hlt : m < l.length := by omega
        have hg : (l.map tI)[m]? = some (tI l[m]) := by simp [hlt]
        have h1 := sub_at hg
        have w1 := zadb (k := k) (s := s) l[m] (hm _ (List.getElem_mem hlt))
        refine ⟨[some (.val (tIs l)), some (.val (tIs l)), some (.val (.int m))], [some (.val (tIs l)), some (.val (tIs l)), some (.val (.int m))], by simp [bindTg], by simp [h1, w1], _, rfl⟩)
    refine (zaag (σ1 := [some (.val (tIs l)), some (.val (tIs l)), c]) (s1 := s) ((ex_for (ts := rangeT 0 l.length) (s1 := s) (zadi (n := l.length) (by simp) hn) (by intro _ h; cases h)).trans e)).trans ?_
    simp
  rw [hx]
  rfl
theorem r_at (ns : List Int) (m : Nat) : ∃ v, run true fns sub0 whileL (k + 1) iz2 [.val (.lst (iL ns)), .val (.int m)] s = .ok (.val (.int v)) s := by
  rw [zaah (F := Fz2) rfl rfl]
  by_cases h : m < ns.length
  · have hg : (ns.map T.int)[m]? = some (.int ns[m]) := by simp [h]
    have h1 := sub_at hg
    exact ⟨ns[m], by simp [bz2, h, h1]⟩
  · exact ⟨0, by simp [bz2, h]⟩
theorem zaa2 (i : Int) {j : Int} (h : 0 < j) : 0 ≤ Int.fmod i j ∧ Int.fmod i j < j := by
  rw [Int.fmod_eq_emod_of_nonneg _ (by omega)]
  exact ⟨Int.emod_nonneg _ (by omega), Int.emod_lt_of_pos _ h⟩
end Pg
end IP
end
section
set_option linter.all false
set_option maxRecDepth 100000
set_option maxHeartbeats 0
namespace IP
namespace Pg
open L2
variable {k : Nat} {s : Sto}
theorem menu5 {m z : Int} (h0 : 0 ≤ z) (h1 : z < 5) (hm : 1 ≤ m) : ∃ v, (-m ≤ v ∧ v ≤ m) ∧ subR (.val (.lst [.int 0, .int 1, .int (-1), .int m, .int (0 - m)])) z = some (.int v) := by
  have : z = 0 ∨ z = 1 ∨ z = 2 ∨ z = 3 ∨ z = 4 := by omega
  rcases this with rfl | rfl | rfl | rfl | rfl
  · exact ⟨0, by omega, rfl⟩
  · exact ⟨1, by omega, rfl⟩
  · exact ⟨-1, by omega, rfl⟩
  · exact ⟨m, by omega, rfl⟩
  · exact ⟨0 - m, by omega, rfl⟩
theorem r_drawn (c : Int) {m : Int} (hm : 1 ≤ m ∧ m ≤ 10000) : ∃ v, (-m ≤ v ∧ v ≤ m) ∧ run true fns sub0 whileL (k + 1) 24 [.val (.int c), .val (.int m)] s = .ok (.val (.int v)) s := by
  rw [zaah (F := Fz3) rfl rfl]
  have d1 := op_mod (i := c) (j := 5) (by decide)
  have d2 := zaas (i := c) (j := 5) (by decide) (by decide)
  have d3 := op_mod (i := Int.fdiv c 5) (j := 5) (by decide)
  have b3 := zaa2 (Int.fdiv c 5) (j := 5) (by decide)
  obtain ⟨v, hv, e⟩ := menu5 b3.1 b3.2 hm.1
  have d4 := op_mul (i := 2) (j := m) (zaak (by decide))
  have d5 := op_mod (i := Int.fdiv c 5) (j := 2 * m + 1) (by omega)
  have b5 := zaa2 (Int.fdiv c 5) (j := 2 * m + 1) (by omega)
  rw [Int.zero_sub] at e
  by_cases h1 : Int.fmod c 5 = 1
  · exact ⟨v, hv, by simp [bz3, d1, d2, d3, h1, e]⟩
  · exact ⟨Int.fmod (Int.fdiv c 5) (2 * m + 1) - m, by omega, by simp [bz3, d1, d2, h1, d4, d5]⟩
structure MkOk (long : Int) (ms : List Int) : Prop where
  hd : ∃ r, ms = 0 :: r
  pw : ms.Pairwise (· < ·)
  lt : ∀ f ∈ ms, 0 ≤ f ∧ f < long
  len : ms.length ≤ 6
def mk (long : Int) (m j : Nat) : Int := Int.fdiv (long * j) ((m : Int) + 1)
theorem mk_mono {long : Int} {m : Nat} (hm : (m : Int) + 1 ≤ long) {i j : Nat} (h : i < j) : mk long m i < mk long m j := by
  unfold mk
  rw [Int.fdiv_eq_ediv_of_nonneg _ (by omega), Int.fdiv_eq_ediv_of_nonneg _ (by omega)]
  have h1 : long * i + ((m : Int) + 1) ≤ long * j := by
    have := Int.mul_le_mul_of_nonneg_left (show (i : Int) + 1 ≤ j by omega) (show 0 ≤ long by omega)
    rw [Int.mul_add, Int.mul_one] at this
    omega
  have h2 := Int.ediv_le_ediv (show 0 < (m : Int) + 1 by omega) h1
  rw [Int.add_ediv_of_dvd_right (Int.dvd_refl _), Int.ediv_self (by omega)] at h2
  omega
theorem mk_lt {long : Int} {m j : Nat} (hl : 1 ≤ long) (h : j ≤ m) : 0 ≤ mk long m j ∧ mk long m j < long := by
  unfold mk
  rw [Int.fdiv_eq_ediv_of_nonneg _ (by omega)]
  refine ⟨Int.ediv_nonneg (Int.mul_nonneg (by omega) (by omega)) (by omega), ?_⟩
  refine Int.ediv_lt_of_lt_mul (by omega) ?_
  exact Int.mul_lt_mul_of_pos_left (by omega) (by omega)
theorem marks_c {C : Cf} {many long : Int} {m : Nat} (hl : 1 ≤ long ∧ long ≤ 2000) (hm5 : m ≤ 5) : ev C (.comp ez4_C0 (.one 3) (.rng1 (.var 2))) .v [some (.val (.int many)), some (.val (.int long)), some (.val (.int m)), none] s = .ok (.val (.lst ((List.range m).map fun j => .int (mk long m (j + 1))))) s := by
  refine zaa8 (i := 3) (List.range m) (fun k : Nat => T.int k) (fun j => .int (mk long m (j + 1))) ?_ (fun j hj => ?_)
  · rw [← zack]; exact zae2 (n := m) (by simp) (by omega)
  · have q1 := op_mul (i := long) (j := (j : Int) + 1) (zaak (by omega))
    have q2 := zaas (i := long * ((j : Int) + 1)) (j := (m : Int) + 1) (by omega) (by omega)
    simp [q1, q2, mk]
theorem marks_a {long : Int} {m : Nat} (hm5 : m ≤ 5) : opR .add (.val (.lst [.int 0])) (.val (.lst ((List.range m).map fun j => .int (mk long m (j + 1))))) = some (.val (.lst (iL ((List.range (m + 1)).map (mk long m))))) := by
  have hlim : 1 + m ≤ lim := Nat.le_trans (show 1 + m ≤ 1000 by omega) lim_ge
  have e : iL ((List.range (m + 1)).map (mk long m)) = [.int 0] ++ (List.range m).map fun j => .int (mk long m (j + 1)) := by
    rw [List.range_succ_eq_map]
    simp [mk, Function.comp_def]
  rw [e]
  generalize hL : (List.range m).map (fun j => T.int (mk long m (j + 1))) = L
  have hl : 1 + L.length ≤ lim := by rw [← hL]; simpa using hlim
  simp [opR, hl]
theorem ev_add {C : Cf} {a b : E} {σ : Fr} {s s1 s2 : Sto} {x y r : R} (h1 : ev C a .v σ s = .ok x s1) (h2 : ev C b .v σ s1 = .ok y s2) (h3 : opR .add x y = some r) : ev C (.bin .add a b) .v σ s = .ok r s2 := by
  rw [ev.eq_4, h1]
  simp only [Res.bind_ok, h2, h3, fin_v, Res.of_some]
theorem marks_any {C : Cf} {many long : Int} {m : Nat} (hl : 1 ≤ long ∧ long ≤ 2000) (hm : (if long - 1 < many then long - 1 else many) = (m : Int)) (hm5 : m ≤ 5) : exs C bz4 [some (.val (.int many)), some (.val (.int long)), none, none] s = .ret (.val (.lst (iL ((List.range (m + 1)).map (mk long m))))) s := by
  have hc := marks_c (C := C) (s := s) (many := many) hl hm5
  have ea := marks_a (long := long) hm5
  refine (zaag (σ1 := [some (.val (.int many)), some (.val (.int long)), some (.val (.int m)), none]) (s1 := s) (by simp [hm])).trans ?_
  refine zacy (ex_ret ?_)
  have e0 : ev C (.lst [(.cst (.int 0))]) .v [some (.val (.int many)), some (.val (.int long)), some (.val (.int m)), none] s = .ok (.val (.lst [.int 0])) s := by simp
  exact ev_add e0 hc ea
theorem r_marks {many : Int} (hmn : 0 ≤ many ∧ many ≤ 5) {long : Int} (hl : 1 ≤ long ∧ long ≤ 2000) : ∃ ms, MkOk long ms ∧ run true fns sub0 whileL (k + 1) 27 [.val (.int many), .val (.int long)] s = .ok (.val (.lst (iL ms))) s := by
  obtain ⟨m, hm⟩ : ∃ m : Nat, (if long - 1 < many then long - 1 else many) = (m : Int) := ⟨(if long - 1 < many then long - 1 else many).toNat, by split <;> omega⟩
  have hml : (m : Int) + 1 ≤ long := by rw [← hm]; split <;> omega
  have hm5 : m ≤ 5 := by
    have : (m : Int) ≤ 5 := by rw [← hm]; split <;> omega
    omega
  refine ⟨(List.range (m + 1)).map (mk long m), ⟨⟨(List.range m).map fun j => mk long m (j + 1), ?_⟩, ?_, ?_, by simp; omega⟩, ?_⟩
  · rw [List.range_succ_eq_map]
    simp [mk, Function.comp_def]
  · rw [List.pairwise_map]
    exact List.Pairwise.imp (fun h => mk_mono hml h) List.pairwise_lt_range
  · intro f hf
    obtain ⟨j, hj, rfl⟩ := List.mem_map.mp hf
    exact mk_lt hl.1 (by have := List.mem_range.mp hj; omega)
  · have hx := marks_any (s := s) (C := cfX fns sub0 k) hl hm hm5
    exact (zaah (F := Fz4) rfl rfl).trans (congrArg (leave true false) hx)
theorem zabj {C : Cf} {body : List S} {A0 A1 A2 : Option B} {f : Int → Int × Int} (hb : ∀ (x : Int) (acc : List (Int × Int)), acc.length < 900 → exs C body [A0, A1, A2, some (.own (acc.map pt)), some (.val (.int x))] s = .next [A0, A1, A2, some (.own ((acc ++ [f x]).map pt)), some (.val (.int x))] s) :
    ∀ (ms : List Int) (acc : List (Int × Int)) (c : Option B), acc.length + ms.length ≤ 900 → ∃ c', forL (.one 4) (fun σ s => exs C body σ s) (iL ms) [A0, A1, A2, some (.own (acc.map pt)), c] s = .next [A0, A1, A2, some (.own ((acc ++ ms.map f).map pt)), c'] s
  | [], acc, c, _ => ⟨c, by simp [forL]⟩
  | x :: ms, acc, c, h => by
    obtain ⟨c', e⟩ := zabj hb ms (acc ++ [f x]) (some (.val (.int x))) (by simp at h ⊢; omega)
    refine ⟨c', ?_⟩
    have h1 := hb x acc (by simp at h; omega)
    show (exs C body [A0, A1, A2, some (.own (acc.map pt)), some (.val (.int x))] s).bind _ = _
    rw [h1]
    show forL (.one 4) (fun σ s => exs C body σ s) (iL ms) [A0, A1, A2, some (.own ((acc ++ [f x]).map pt)), some (.val (.int x))] s = _
    rw [e]
    simp
end Pg
end IP
end
section
set_option linter.all false
set_option maxRecDepth 100000
set_option maxHeartbeats 0
namespace IP
namespace Pg
open L2
variable {k : Nat} {s : Sto}
def stret (w h : Int) (A B C D : List Int) : List Int := A ++ (B.map (fun f => w + f) ++ (C.map (fun f => w + h + f) ++ D.map (fun f => 2 * w + h + f)))
theorem so_of {w h : Int} {A B C D : List Int} (w1 : 1 ≤ w) (h1 : 1 ≤ h) (hA : MkOk w A) (hB : MkOk h B) (hC : MkOk w C) (hD : MkOk h D) : So w h (stret w h A B C D).length (fun i => (stret w h A B C D).getD i 0) := by
  obtain ⟨ra, ea⟩ := hA.hd
  obtain ⟨rb, eb⟩ := hB.hd
  obtain ⟨rc, ec⟩ := hC.hd
  obtain ⟨rd, ed⟩ := hD.hd
  have mem : ∀ t ∈ stret w h A B C D, (t ∈ A) ∨ (∃ f ∈ B, t = w + f) ∨ (∃ f ∈ C, t = w + h + f) ∨ (∃ f ∈ D, t = 2 * w + h + f) := fun t ht => by
    simp only [stret, List.mem_append, List.mem_map] at ht
    rcases ht with ht | ⟨f, hf, rfl⟩ | ⟨f, hf, rfl⟩ | ⟨f, hf, rfl⟩
    · exact .inl ht
    · exact .inr (.inl ⟨f, hf, rfl⟩)
    · exact .inr (.inr (.inl ⟨f, hf, rfl⟩))
    · exact .inr (.inr (.inr ⟨f, hf, rfl⟩))
  have pw : (stret w h A B C D).Pairwise (· < ·) := by
    unfold stret
    rw [List.pairwise_append]
    refine ⟨hA.pw, ?_, fun a ha b hb => ?_⟩
    · rw [List.pairwise_append]
      refine ⟨?_, ?_, fun a ha b hb => ?_⟩
      · rw [List.pairwise_map]; exact hB.pw.imp (fun h => by omega)
      · rw [List.pairwise_append]
        refine ⟨?_, ?_, fun a ha b hb => ?_⟩
        · rw [List.pairwise_map]; exact hC.pw.imp (fun h => by omega)
        · rw [List.pairwise_map]; exact hD.pw.imp (fun h => by omega)
        · obtain ⟨f, hf, rfl⟩ := List.mem_map.mp ha
          obtain ⟨g, hg, rfl⟩ := List.mem_map.mp hb
          have := hC.lt f hf; have := hD.lt g hg; omega
      · obtain ⟨f, hf, rfl⟩ := List.mem_map.mp ha
        have := hB.lt f hf
        rcases List.mem_append.mp hb with hb | hb
        · obtain ⟨g, hg, rfl⟩ := List.mem_map.mp hb
          have := hC.lt g hg; omega
        · obtain ⟨g, hg, rfl⟩ := List.mem_map.mp hb
          have := hD.lt g hg; omega
    · have := hA.lt a ha
      rcases List.mem_append.mp hb with hb | hb
      · obtain ⟨g, hg, rfl⟩ := List.mem_map.mp hb
        have := hB.lt g hg; omega
      rcases List.mem_append.mp hb with hb | hb
      · obtain ⟨g, hg, rfl⟩ := List.mem_map.mp hb
        have := hC.lt g hg; omega
      · obtain ⟨g, hg, rfl⟩ := List.mem_map.mp hb
        have := hD.lt g hg; omega
  have hit : ∀ t ∈ stret w h A B C D, ∃ i, i < (stret w h A B C D).length ∧ (stret w h A B C D).getD i 0 = t := fun t ht => by
    obtain ⟨i, hi, e⟩ := List.getElem_of_mem ht
    exact ⟨i, hi, by rw [List.getD_eq_getElem?_getD, List.getElem?_eq_getElem hi, e]; rfl⟩
  have get : ∀ i, i < (stret w h A B C D).length → (stret w h A B C D).getD i 0 ∈ stret w h A B C D := fun i hi => by
    rw [List.getD_eq_getElem?_getD, List.getElem?_eq_getElem hi]
    exact List.getElem_mem hi
  refine ⟨w1, h1, ?_, ?_, fun i j hij hj => ?_, fun i hi => ?_, hit w ?_, hit (w + h) ?_, hit (2 * w + h) ?_⟩
  · rw [ea, eb, ec, ed]; simp [stret]; omega
  · show (stret w h A B C D).getD 0 0 = 0
    rw [ea]; rfl
  · show (stret w h A B C D).getD i 0 < (stret w h A B C D).getD j 0
    have := (List.pairwise_iff_getElem.mp pw) i j (by omega) hj hij
    rw [List.getD_eq_getElem?_getD, List.getD_eq_getElem?_getD, List.getElem?_eq_getElem (show i < _ by omega), List.getElem?_eq_getElem hj]
    exact this
  · show (stret w h A B C D).getD i 0 < _
    rcases mem _ (get i hi) with q | ⟨f, hf, q⟩ | ⟨f, hf, q⟩ | ⟨f, hf, q⟩
    · have := hA.lt _ q; omega
    · have := hB.lt f hf; omega
    · have := hC.lt f hf; omega
    · have := hD.lt f hf; omega
  · rw [eb]; simp [stret]
  · rw [ec]; simp [stret]
  · rw [ed]; simp [stret]
theorem pts_of {w h : Int} {A B C D : List Int} (w1 : 1 ≤ w) (h1 : 1 ≤ h) (hA : MkOk w A) (hB : MkOk h B) (hC : MkOk w C) (hD : MkOk h D) :
    A.map (fun f => (f, (0 : Int))) ++ B.map (fun f => (w, f)) ++ C.map (fun f => (w - f, h)) ++ D.map (fun f => ((0 : Int), h - f)) = (stret w h A B C D).map (rim w h) := by
  unfold stret
  simp only [List.map_append, List.map_map, List.append_assoc]
  congr 1
  · refine List.map_congr_left fun f hf => ?_
    have := hA.lt f hf
    unfold rim; rw [if_pos (by omega)]
  congr 1
  · refine List.map_congr_left fun f hf => ?_
    have := hB.lt f hf
    show _ = rim w h (w + f)
    unfold rim
    by_cases k : f = 0
    · subst k; rw [if_pos (by omega)]; simp
    · rw [if_neg (by omega), if_pos (by omega)]; exact Prod.ext rfl (by dsimp only; omega)
  congr 1
  · refine List.map_congr_left fun f hf => ?_
    have := hC.lt f hf
    show _ = rim w h (w + h + f)
    unfold rim
    by_cases k : f = 0
    · subst k; rw [if_neg (by omega), if_pos (by omega)]; exact Prod.ext (by dsimp only; omega) (by dsimp only; omega)
    · rw [if_neg (by omega), if_neg (by omega), if_pos (by omega)]; exact Prod.ext (by dsimp only; omega) rfl
  · refine List.map_congr_left fun f hf => ?_
    have := hD.lt f hf
    show _ = rim w h (2 * w + h + f)
    unfold rim
    by_cases k : f = 0
    · subst k; rw [if_neg (by omega), if_neg (by omega), if_pos (by omega)]; exact Prod.ext (by dsimp only; omega) (by dsimp only; omega)
    · rw [if_neg (by omega), if_neg (by omega), if_neg (by omega)]; exact Prod.ext rfl (by dsimp only; omega)
structure Has1 (C : Cf) (ns : List Int) (s : Sto) : Prop where
  at_ : ∀ m : Nat, ∃ v, C.cf 23 [.val (.lst (iL ns)), .val (.int m)] s = .ok (.val (.int v)) s
  mks : ∀ many long : Int, (0 ≤ many ∧ many ≤ 5) → (1 ≤ long ∧ long ≤ 2000) → ∃ ms, MkOk long ms ∧ C.cf 27 [.val (.int many), .val (.int long)] s = .ok (.val (.lst (iL ms))) s
theorem zaei {C : Cf} {ns : List Int} (hC : Has1 C ns s) {w h : Int} (hw : 1 ≤ w ∧ w ≤ 2000) (hh : 1 ≤ h ∧ h ≤ 2000) : ∃ A B C' D, MkOk w A ∧ MkOk h B ∧ MkOk w C' ∧ MkOk h D ∧
    exs C bz6 [some (.val (.lst (iL ns))), some (.val (.int w)), some (.val (.int h)), none, none] s = .ret (LN (A.map (fun f => (f, (0 : Int))) ++ B.map (fun f => (w, f)) ++ C'.map (fun f => (w - f, h)) ++ D.map (fun f => ((0 : Int), h - f)))) s := by
  obtain ⟨v6, a6⟩ := hC.at_ 6
  obtain ⟨v7, a7⟩ := hC.at_ 7
  obtain ⟨v8, a8⟩ := hC.at_ 8
  obtain ⟨v9, a9⟩ := hC.at_ 9
  have md : ∀ i : Int, opR .mod (.val (.int i)) (.val (.int 6)) = some (.val (.int (Int.fmod i 6))) := fun i => op_mod (by decide)
  have b : ∀ i : Int, 0 ≤ Int.fmod i 6 ∧ Int.fmod i 6 ≤ 5 := fun i => by have := zaa2 i (j := 6) (by decide); omega
  obtain ⟨A, hA, eA⟩ := hC.mks _ w (b v6) hw
  obtain ⟨B, hB, eB⟩ := hC.mks _ h (b v7) hh
  obtain ⟨C', hC', eC⟩ := hC.mks _ w (b v8) hw
  obtain ⟨D, hD, eD⟩ := hC.mks _ h (b v9) hh
  refine ⟨A, B, C', D, hA, hB, hC', hD, ?_⟩
  simp only [Int.cast_ofNat_Int] at a6 a7 a8 a9
  have la := hA.len
  have lb := hB.len
  have lc := hC'.len
  have ld := hD.len
  have lim' : ∀ n : Nat, n < 900 → n < lim := fun n h => Nat.lt_of_lt_of_le (show n < 1000 by omega) lim_ge
  obtain ⟨c1, q1⟩ := zabj (s := s) (C := C) (body := bz6_L0) (A0 := some (.val (.lst (iL ns)))) (A1 := some (.val (.int w))) (A2 := some (.val (.int h))) (f := fun f => (f, 0)) (fun x acc ha => by simp [ownAt, setOwn, lim' _ ha, pt]) A [] none (by simp; omega)
  obtain ⟨c2, q2⟩ := zabj (s := s) (C := C) (body := bz6_L1) (A0 := some (.val (.lst (iL ns)))) (A1 := some (.val (.int w))) (A2 := some (.val (.int h))) (f := fun f => (w, f)) (fun x acc ha => by simp [ownAt, setOwn, lim' _ ha, pt]) B ([] ++ A.map fun f => (f, 0)) c1 (by simp; omega)
  obtain ⟨c3, q3⟩ := zabj (s := s) (C := C) (body := bz6_L2) (A0 := some (.val (.lst (iL ns)))) (A1 := some (.val (.int w))) (A2 := some (.val (.int h))) (f := fun f => (w - f, h)) (fun x acc ha => by simp [ownAt, setOwn, lim' _ ha, pt]) C' ([] ++ A.map (fun f => (f, 0)) ++ B.map fun f => (w, f)) c2 (by simp; omega)
  obtain ⟨c4, q4⟩ := zabj (s := s) (C := C) (body := bz6_L3) (A0 := some (.val (.lst (iL ns)))) (A1 := some (.val (.int w))) (A2 := some (.val (.int h))) (f := fun f => (0, h - f)) (fun x acc ha => by simp [ownAt, setOwn, lim' _ ha, pt]) D ([] ++ A.map (fun f => (f, 0)) ++ B.map (fun f => (w, f)) ++ C'.map fun f => (w - f, h)) c3 (by simp; omega)
  refine (zaag (σ1 := [some (.val (.lst (iL ns))), some (.val (.int w)), some (.val (.int h)), some (.own (([] : List (Int × Int)).map pt)), none]) (s1 := s) (by simp [freshE, setOwn])).trans ?_
  refine (zaag ((ex_for (ts := iL A) (s1 := s) (by simp [a6, md, eA]) (by intro _ h; cases h)).trans q1)).trans ?_
  refine (zaag ((ex_for (ts := iL B) (s1 := s) (by simp [a7, md, eB]) (by intro _ h; cases h)).trans q2)).trans ?_
  refine (zaag ((ex_for (ts := iL C') (s1 := s) (by simp [a8, md, eC]) (by intro _ h; cases h)).trans q3)).trans ?_
  refine (zaag ((ex_for (ts := iL D) (s1 := s) (by simp [a9, md, eD]) (by intro _ h; cases h)).trans q4)).trans ?_
  simp only [List.nil_append]
  generalize A.map (fun f => (f, (0 : Int))) ++ B.map (fun f => (w, f)) ++ C'.map (fun f => (w - f, h)) ++ D.map (fun f => ((0 : Int), h - f)) = L
  simp [frz]
end Pg
end IP
end
section
set_option linter.all false
set_option maxRecDepth 100000
set_option maxHeartbeats 0
namespace IP
namespace Pg
open L2
variable {k : Nat} {s : Sto}
def Round (w h : Int) (l : List (Int × Int)) : Prop := ∃ (sw : Bool) (U : Nat → Int), Ob (if sw then h else w) (if sw then w else h) l.length U ∧ ∀ i, cor l i = put2 0 0 sw (rim (if sw then h else w) (if sw then w else h) (U i))
theorem put0 (q : Int × Int) : put2 0 0 false q = q := by simp [put2]
theorem round_of {w h : Int} {ts : List Int} (S : So w h ts.length (fun i => ts.getD i 0)) : Round w h (ts.map (rim w h)) ∧ Round w h (ts.map (rim w h)).reverse := by
  have n1 := S.n1
  have ci : ∀ i, cor (ts.map (rim w h)) i = rim w h (ts.getD (i % ts.length) 0) := fun i => by
    unfold cor
    have hi := Nat.mod_lt i (show 0 < ts.length by omega)
    rw [List.length_map, List.getD_eq_getElem?_getD, List.getD_eq_getElem?_getD]
    simp [hi]
  refine ⟨⟨false, _, by simpa using S.ob, fun i => ?_⟩, true, _, by simpa using S.rev, fun i => ?_⟩
  · rw [ci, put0]; rfl
  · rw [cor_rev (by simp; omega), ci, List.length_map]
    have hi := Nat.mod_lt i (show 0 < ts.length by omega)
    rw [Nat.mod_eq_of_lt (show ts.length - 1 - i % ts.length < ts.length by omega)]
    have z := S.nn (i := ts.length - 1 - i % ts.length) (by omega)
    have tp := S.top (ts.length - 1 - i % ts.length) (by omega)
    have e := rim_mir (w := w) (h := h) (t := ts.getD (ts.length - 1 - i % ts.length) 0) S.w1 S.h1 ⟨z.1, tp⟩
    rw [e]
    simp [put2]
theorem Round.rot {w h : Int} {l : List (Int × Int)} (R : Round w h l) {m : Nat} (hm : m < l.length) : Round w h (l.drop m ++ l.take m) := by
  obtain ⟨sw, U, O, hc⟩ := R
  have hl : (l.drop m ++ l.take m).length = l.length := by simp; omega
  refine ⟨sw, fun i => U (i + m), by rw [hl]; exact O.rot m hm, fun i => ?_⟩
  rw [cor_rot hm, hc]
theorem Round.len {w h : Int} {l : List (Int × Int)} (R : Round w h l) : 4 ≤ l.length := by
  obtain ⟨sw, U, O, hc⟩ := R
  exact O.n1
theorem rim_in {w h t : Int} (w1 : 1 ≤ w) (h1 : 1 ≤ h) (r : 0 ≤ t ∧ t < 2 * w + 2 * h) : (0 ≤ (rim w h t).1 ∧ (rim w h t).1 ≤ w) ∧ (0 ≤ (rim w h t).2 ∧ (rim w h t).2 ≤ h) := by
  unfold rim
  repeat' split
  all_goals (dsimp only; omega)
theorem zad8 {l : List (Int × Int)} {p : Int × Int} (h : p ∈ l) : ∃ i, i < l.length ∧ cor l i = p := by
  obtain ⟨i, hi, e⟩ := List.getElem_of_mem h
  refine ⟨i, hi, ?_⟩
  unfold cor
  rw [Nat.mod_eq_of_lt hi, List.getD_eq_getElem?_getD, List.getElem?_eq_getElem hi, e]
  rfl
def shift (x y : Int) (p : Int × Int) : Int × Int := (x + p.1, y + p.2)
def due (w h b : Int) (p : Int × Int) : Int × Int := (outZ p.1 w b, outZ p.2 h b)
theorem Round.outline {w h x y b : Int} {l : List (Int × Int)} (R : Round w h l) (hw : 1 ≤ w ∧ w ≤ 2000) (hh : 1 ≤ h ∧ h ≤ 2000) (hx : -9000 ≤ x ∧ x ≤ 9000) (hy : -9000 ≤ y ∧ y ≤ 9000) (hb : 0 ≤ b ∧ b ≤ 1000) (hl : l.length ≤ 1000) :
    run true fns sub0 whileL (k + 7) 13 [LN (l.map (shift x y)), .val (.int b)] s = .ok (.val (.lst ((List.range l.length).map fun i => dueT (shift x y (due w h b (cor l i)))))) s := by
  obtain ⟨sw, U, O, hc⟩ := R
  have n1 := O.n1
  have hW : (if sw then h else w) ≤ 100000 := by split <;> omega
  have hH : (if sw then w else h) ≤ 100000 := by split <;> omega
  have hc' : ∀ i, cor (l.map (shift x y)) i = put2 x y sw (rim (if sw then h else w) (if sw then w else h) (U i)) := fun i => by
    rw [cor_map (by omega), hc]
    cases sw <;> simp [put2, shift]
  have hin : ∀ i, (0 ≤ (rim (if sw then h else w) (if sw then w else h) (U i)).1 ∧ (rim (if sw then h else w) (if sw then w else h) (U i)).1 ≤ 2000) ∧ (0 ≤ (rim (if sw then h else w) (if sw then w else h) (U i)).2 ∧ (rim (if sw then h else w) (if sw then w else h) (U i)).2 ≤ 2000) := fun i => by
    have := rim_in O.w1 O.h1 (O.rng i)
    have h1 : (if sw then h else w) ≤ 2000 := by split <;> omega
    have h2 : (if sw then w else h) ≤ 2000 := by split <;> omega
    omega
  have hs : ∀ p ∈ l.map (shift x y), sml p := fun p hp => by
    obtain ⟨i, hi, rfl⟩ := zad8 hp
    rw [hc']
    have := hin i
    generalize rim (if sw then h else w) (if sw then w else h) (U i) = q at this ⊢
    unfold sml put2
    split <;> (dsimp only; omega)
  have e := O.outline (k := k) (s := s) (l := l.map (shift x y)) (by simp) hc' hW hH hs hl hb
  have ee : ((List.range l.length).map fun i => dueT (dueP x y sw (if sw then h else w) (if sw then w else h) (U i) b)) = (List.range l.length).map fun i => dueT (shift x y (due w h b (cor l i))) := by
    refine List.map_congr_left fun i hi => ?_
    rw [hc i]
    unfold dueP due shift
    cases sw <;> simp [put2]
  rw [e, ee]
theorem r_law_out (f m b : Int) : run true fns sub0 whileL (k + 1) 29 [.val (.int f), .val (.int m), .val (.int b)] s = .ok (.val (.int (outZ f m b))) s := by
  rw [zaah (F := Fz7) rfl rfl]
  unfold outZ
  by_cases h1 : f = 0
  · simp [bz7, h1]
  · by_cases h2 : f = m
    · subst h2; simp [bz7, h1]
    · simp [bz7, h1, h2]
structure Has (C : Cf) (ns : List Int) : Prop where
  at_ : ∀ m : Nat, ∃ v, C.cf 23 [.val (.lst (iL ns)), .val (.int m)] [] = .ok (.val (.int v)) []
  drawn : ∀ (c m : Int), (1 ≤ m ∧ m ≤ 10000) → ∃ v, (-m ≤ v ∧ v ≤ m) ∧ C.cf 24 [.val (.int c), .val (.int m)] [] = .ok (.val (.int v)) []
  obl : ∀ w h : Int, (1 ≤ w ∧ w ≤ 2000) → (1 ≤ h ∧ h ≤ 2000) → ∃ l : List (Int × Int), Round w h l ∧ Round w h l.reverse ∧ l.length ≤ 24 ∧ C.cf 28 [.val (.lst (iL ns)), .val (.int w), .val (.int h)] [] = .ok (LN l) []
  out : ∀ f m b : Int, C.cf 29 [.val (.int f), .val (.int m), .val (.int b)] [] = .ok (.val (.int (outZ f m b))) []
  nums : ∀ p : Int × Int, C.cf 25 [PT p, PT p] [] = .ok (.val (.bl true)) []
  rows : ∀ l : List (Int × Int), l.length ≤ 1000 → C.cf 26 [LN l, LN l] [] = .ok (.val (.bl true)) []
  line : ∀ (w h x y b : Int) (l : List (Int × Int)), Round w h l → (1 ≤ w ∧ w ≤ 2000) → (1 ≤ h ∧ h ≤ 2000) → (-9000 ≤ x ∧ x ≤ 9000) → (-9000 ≤ y ∧ y ≤ 9000) → (0 ≤ b ∧ b ≤ 1000) → l.length ≤ 1000 →
    C.cf 13 [LN (l.map (shift x y)), .val (.int b)] [] = .ok (.val (.lst ((List.range l.length).map fun i => dueT (shift x y (due w h b (cor l i)))))) []
theorem has (k : Nat) (ns : List Int) : Has (cfX fns sub0 (k + 7)) ns where
  at_ := fun m => by
    obtain ⟨v, hv⟩ := r_at (k := k + 6) (s := []) ns m
    exact ⟨v, cf_of hv rfl⟩
  drawn := fun c m hm => by
    obtain ⟨v, h1, h2⟩ := r_drawn (k := k + 6) (s := []) c hm
    exact ⟨v, h1, cf_of h2 rfl⟩
  obl := fun w h hw hh => by
    have h1 : Has1 (cfX fns sub0 (k + 6)) ns [] := ⟨fun m => by
      obtain ⟨v, hv⟩ := r_at (k := k + 5) (s := []) ns m
      exact ⟨v, cf_of hv rfl⟩, fun many long h1 h2 => by
      obtain ⟨ms, a, b⟩ := r_marks (k := k + 5) (s := []) h1 h2
      exact ⟨ms, a, cf_of b rfl⟩⟩
    obtain ⟨A, B, C', D, hA, hB, hC, hD, e⟩ := zaei h1 hw hh
    rw [pts_of hw.1 hh.1 hA hB hC hD] at e
    have S := so_of hw.1 hh.1 hA hB hC hD
    have R := round_of S
    refine ⟨_, R.1, R.2, ?_, ?_⟩
    · have := hA.len; have := hB.len; have := hC.len; have := hD.len
      simp [stret]; omega
    · refine cf_of (n := k + 7) ((zaah (F := Fz6) rfl rfl).trans (congrArg (leave true false) e)) rfl
  out := fun f m b => cf_of (r_law_out (k := k + 6) f m b) rfl
  nums := fun p => cf_of (zadb (k := k + 5) [p.1, p.2] (by simp)) rfl
  rows := fun l hl => by
    have e := r_rows (k := k + 4) (s := []) (l.map fun p => [p.1, p.2]) (by simpa using hl) (fun xs hx => by
      obtain ⟨p, _, rfl⟩ := List.mem_map.mp hx
      simp)
    have e2 : tIs (l.map fun p => [p.1, p.2]) = .lst (l.map pt) := by
      simp only [tIs, List.map_map]
      rfl
    rw [e2] at e
    exact cf_of e rfl
  line := fun w h x y b l R hw hh hx hy hb hl => cf_of (R.outline (k := k) hw hh hx hy hb hl) rfl
end Pg
end IP
end
section
set_option linter.all false
set_option maxRecDepth 100000
set_option maxHeartbeats 0
namespace IP
namespace Pg
open L2
abbrev iV (i : Int) : Option B := some (.val (.int i))
abbrev g10 (ns : List Int) (v1 v2 v3 v4 v5 v6 v7 v8 v9 v10 v11 : Option B) : Fr := [some (.val (.lst (iL ns))), v1, v2, v3, v4, v5, v6, v7, v8, v9, v10, v11, none]
abbrev lV (l : List (Int × Int)) : Option B := some (.val (.lst (l.map pt)))
theorem cut_low {ts : List T} {m : Nat} (h : m ≤ ts.length) : cutR (.val (.lst ts)) (some (m : Int)) none = some (.val (.lst (ts.drop m))) := by
  have e : HT.sIx ts.length 0 (some (m : Int)) = m := by rw [HT.sIx_nat]; omega
  have e2 : HT.sIx ts.length ts.length none = ts.length := rfl
  simp [cutR, cutT, e, e2, ← List.length_drop, List.take_length]
theorem cut_up {ts : List T} {m : Nat} (h : m ≤ ts.length) : cutR (.val (.lst ts)) none (some (m : Int)) = some (.val (.lst (ts.take m))) := by
  have e : HT.sIx ts.length ts.length (some (m : Int)) = m := by rw [HT.sIx_nat]; omega
  have e2 : HT.sIx ts.length 0 none = 0 := rfl
  simp [cutR, cutT, e, e2]
theorem add_lists {a b : List T} (h : a.length + b.length ≤ 1000) : opR .add (.val (.lst a)) (.val (.lst b)) = some (.val (.lst (a ++ b))) := by
  have : a.length + b.length ≤ lim := Nat.le_trans h lim_ge
  simp [opR, this]
section
variable {C : Cf} {ns : List Int} (hC : Has C ns)
include hC
theorem turn10 {w h x y b : Int} {l : List (Int × Int)} {v7 v8 v9 : Option B} {i : Nat} (hi : i < l.length) :
    exs C zacw (g10 ns (iV x) (iV y) (iV w) (iV h) (iV b) (lV l) v7 v8 v9 (some (.val (.lst ((List.range l.length).map fun i => dueT (shift x y (due w h b (cor l i))))))) (iV i)) [] = .next (g10 ns (iV x) (iV y) (iV w) (iV h) (iV b) (lV l) v7 v8 v9 (some (.val (.lst ((List.range l.length).map fun i => dueT (shift x y (due w h b (cor l i))))))) (iV i)) [] := by
  have g1 : subR (.val (.lst ((List.range l.length).map fun i => dueT (shift x y (due w h b (cor l i)))))) (i : Int) = some (dueT (shift x y (due w h b (cor l i)))) := sub_at (by simp [hi])
  have g2 := sub_at (zabm (l := l) (by omega) i)
  rw [Nat.mod_eq_of_lt hi] at g2
  have o1 := hC.out (cor l i).1 w b
  have o2 := hC.out (cor l i).2 h b
  have n1 := hC.nums ((shift x y (due w h b (cor l i))).1, 1)
  have n2 := hC.nums ((shift x y (due w h b (cor l i))).2, 1)
  have p1 : T.tup [.int (x + outZ (cor l i).1 w b), .int 1] = pt ((shift x y (due w h b (cor l i))).1, 1) := rfl
  have p2 : T.tup [.int (y + outZ (cor l i).2 h b), .int 1] = pt ((shift x y (due w h b (cor l i))).2, 1) := rfl
  have d0 : ∀ P : Int × Int, subR (.val (dueT P)) 0 = some (pt (P.1, 1)) := fun _ => rfl
  have d1 : ∀ P : Int × Int, subR (.val (dueT P)) 1 = some (pt (P.2, 1)) := fun _ => rfl
  have d2 : ∀ (P : Int × Int) s, (R.val (dueT P)).dr s = .val (dueT P) := fun _ _ => rfl
  have d3 : ∀ P : Int × Int, isiX C.sub (.val (dueT P)) .tuple = some true := fun _ => rfl
  have d4 : ∀ P : Int × Int, b1R .len (.val (dueT P)) = some (.val (.int 2)) := fun _ => rfl
  generalize shift x y (due w h b (cor l i)) = P at g1 n1 n2 p1 p2
  generalize ((List.range l.length).map fun i => dueT (shift x y (due w h b (cor l i)))) = L at g1 ⊢
  generalize cor l i = c at g2 o1 o2 p1 p2
  refine (zaag (σ1 := g10 ns (iV x) (iV y) (iV w) (iV h) (iV b) (lV l) v7 v8 v9 (some (.val (.lst L))) (iV i)) (s1 := []) (by simp [g1, d2, d3, d4])).trans ?_
  refine (zaag (σ1 := g10 ns (iV x) (iV y) (iV w) (iV h) (iV b) (lV l) v7 v8 v9 (some (.val (.lst L))) (iV i)) (s1 := []) (by simp [g1, g2, d2, d0, o1, p1, n1])).trans ?_
  refine (zaag (σ1 := g10 ns (iV x) (iV y) (iV w) (iV h) (iV b) (lV l) v7 v8 v9 (some (.val (.lst L))) (iV i)) (s1 := []) (by simp [g1, g2, d2, d1, o2, p2, n2])).trans ?_
  simp
theorem law_any : exs C b_law (enter F_law [.val (.lst (iL ns))]) [] = .ret (.val (.bl true)) [] := by
  obtain ⟨a0, e0⟩ := hC.at_ 0
  obtain ⟨a1, e1⟩ := hC.at_ 1
  obtain ⟨a2, e2⟩ := hC.at_ 2
  obtain ⟨a3, e3⟩ := hC.at_ 3
  obtain ⟨a4, e4⟩ := hC.at_ 4
  obtain ⟨a5, e5⟩ := hC.at_ 5
  simp only [Int.cast_ofNat_Int] at e0 e1 e2 e3 e4 e5
  obtain ⟨x, hx, dx⟩ := hC.drawn a0 9000 (by decide)
  obtain ⟨y, hy, dy⟩ := hC.drawn a1 9000 (by decide)
  obtain ⟨bb, hbb, db⟩ := hC.drawn a4 1000 (by decide)
  have m2 := op_mod (i := a2) (j := 2000) (by decide)
  have b2 := zaa2 a2 (j := 2000) (by decide)
  have m3 := op_mod (i := a3) (j := 2000) (by decide)
  have b3 := zaa2 a3 (j := 2000) (by decide)
  generalize Int.fmod a2 2000 = f2 at m2 b2
  generalize Int.fmod a3 2000 = f3 at m3 b3
  generalize hw' : 1 + f2 = w at *
  generalize hh' : 1 + f3 = h at *
  have hb : 0 ≤ (if bb < 0 then -bb else bb) ∧ (if bb < 0 then -bb else bb) ≤ 1000 := by split <;> omega
  generalize hb' : (if bb < 0 then -bb else bb) = b at hb
  have hw : 1 ≤ w ∧ w ≤ 2000 := by omega
  have hh : 1 ≤ h ∧ h ≤ 2000 := by omega
  obtain ⟨l0, R0, R0r, len0, eo⟩ := hC.obl w h hw hh
  have m5 := op_mod (i := a5) (j := 2) (by decide)
  have d5 := zaas (i := a5) (j := 2) (by decide) (by decide)
  refine (zaag (σ1 := g10 ns (iV x) none none none none none none none none none none) (s1 := []) (by simp [e0, dx])).trans ?_
  refine (zaag (σ1 := g10 ns (iV x) (iV y) none none none none none none none none none) (s1 := []) (by simp [e1, dy])).trans ?_
  refine (zaag (σ1 := g10 ns (iV x) (iV y) (iV w) none none none none none none none none) (s1 := []) (by simp [e2, m2, hw'])).trans ?_
  refine (zaag (σ1 := g10 ns (iV x) (iV y) (iV w) (iV h) none none none none none none none) (s1 := []) (by simp [e3, m3, hh'])).trans ?_
  refine (zaag (σ1 := g10 ns (iV x) (iV y) (iV w) (iV h) (iV b) none none none none none none) (s1 := []) (by simp [e4, db, hb'])).trans ?_
  refine (zaag (σ1 := g10 ns (iV x) (iV y) (iV w) (iV h) (iV b) (lV l0) none none none none none) (s1 := []) (by simp [eo])).trans ?_
  obtain ⟨l1, R1, len1, e7⟩ : ∃ l1 : List (Int × Int), Round w h l1 ∧ l1.length = l0.length ∧ ex C (.ifs (.cmp .eq (.bin .mod (.call 23 [(.var 0), (.cst (.int 5))] []) (.cst (.int 2))) (.cst (.int 1))) [(.asg 6 (.rev (.var 6)))] []) (g10 ns (iV x) (iV y) (iV w) (iV h) (iV b) (lV l0) none none none none none) [] = .next (g10 ns (iV x) (iV y) (iV w) (iV h) (iV b) (lV l1) none none none none none) [] := by
    by_cases q : Int.fmod a5 2 = 1
    · exact ⟨l0.reverse, R0r, by simp, by simp [e5, m5, q]⟩
    · exact ⟨l0, R0, rfl, by simp [e5, m5, q]⟩
  refine (zaag e7).trans ?_
  have n4 := R1.len
  obtain ⟨m, hm, em⟩ : ∃ m : Nat, m < l1.length ∧ opR .mod (.val (.int (Int.fdiv a5 2))) (.val (.int (l1.length : Int))) = some (.val (.int (m : Int))) := by
    have hp := zaa2 (Int.fdiv a5 2) (j := (l1.length : Int)) (by omega)
    obtain ⟨i, hi⟩ : ∃ i : Nat, Int.fmod (Int.fdiv a5 2) (l1.length : Int) = (i : Int) := ⟨(Int.fmod (Int.fdiv a5 2) (l1.length : Int)).toNat, by omega⟩
    exact ⟨i, by omega, by rw [← hi]; exact op_mod (by omega)⟩
  refine (zaag (σ1 := g10 ns (iV x) (iV y) (iV w) (iV h) (iV b) (lV l1) (iV m) none none none none) (s1 := []) (by simp [e5, d5, em])).trans ?_
  have R2 := R1.rot hm
  have e8 : ev C (.bin .add (.cutL (.var 6) (.var 7)) (.cutU (.var 6) (.var 7))) .v (g10 ns (iV x) (iV y) (iV w) (iV h) (iV b) (lV l1) (iV m) none none none none) [] = .ok (.val (.lst ((l1.drop m ++ l1.take m).map pt))) [] := by
    have u1 := cut_low (ts := l1.map pt) (m := m) (by simp; omega)
    have u2 := cut_up (ts := l1.map pt) (m := m) (by simp; omega)
    refine ev_add (x := .val (.lst ((l1.map pt).drop m))) (y := .val (.lst ((l1.map pt).take m))) (s1 := []) (by simp [u1]) (by simp [u2]) ?_
    rw [add_lists (by simp; omega), List.map_append, List.map_drop, List.map_take]
  have len2 : (l1.drop m ++ l1.take m).length ≤ 24 := by simp; omega
  generalize l1.drop m ++ l1.take m = l at *
  refine (zaag (σ1 := g10 ns (iV x) (iV y) (iV w) (iV h) (iV b) (lV l) (iV m) none none none none) (s1 := []) (ex_asg e8)).trans ?_
  have e9 : ev C (.comp zab2 (.one 12) (.var 6)) .v (g10 ns (iV x) (iV y) (iV w) (iV h) (iV b) (lV l) (iV m) none none none none) [] = .ok (.val (.lst ((l.map (shift x y)).map pt))) [] := by
    rw [List.map_map]
    refine zaa8 (i := 12) l pt (fun p => pt (shift x y p)) (by simp) (fun p hp => ?_)
    simp [shift]
    rfl
  refine (zaag (σ1 := g10 ns (iV x) (iV y) (iV w) (iV h) (iV b) (lV l) (iV m) (lV (l.map (shift x y))) none none none) (s1 := []) (ex_asg e9)).trans ?_
  have er := hC.rows (l.map (shift x y)) (by simp; omega)
  have eL := hC.line w h x y b l R2 hw hh (by omega) (by omega) hb (by omega)
  have hLl : ((List.range l.length).map fun i => dueT (shift x y (due w h b (cor l i)))).length = l.length := by simp
  obtain ⟨σ', e15, c, rfl⟩ := zabi (g := .one 11) (body := fun σ s => exs C zacw σ s) (s := []) (fun _ σ => ∃ c, σ = g10 ns (iV x) (iV y) (iV w) (iV h) (iV b) (lV l) (iV m) (lV (l.map (shift x y))) (lV (l.map (shift x y))) (some (.val (.lst ((List.range l.length).map fun i => dueT (shift x y (due w h b (cor l i))))))) c) (rangeT 0 l.length) 0 _ ⟨none, rfl⟩ (by
      rintro i t σ hi' ⟨c, rfl⟩
      obtain ⟨rfl, hlt⟩ := zaau hi'
      have hlt : i < l.length := by omega
      rw [Int.zero_add]
      exact ⟨_, _, rfl, turn10 hC (l := l) hlt, _, rfl⟩)
  generalize hK : l.map (shift x y) = K at er eL e15 ⊢
  generalize hD : ((List.range l.length).map fun i => dueT (shift x y (due w h b (cor l i)))) = D at eL hLl e15
  refine (zaag (σ1 := g10 ns (iV x) (iV y) (iV w) (iV h) (iV b) (lV l) (iV m) (lV K) (lV K) none none) (s1 := []) (by simp)).trans ?_
  refine (zaag (σ1 := g10 ns (iV x) (iV y) (iV w) (iV h) (iV b) (lV l) (iV m) (lV K) (lV K) (some (.val (.lst D))) none) (s1 := []) (by simp [eL])).trans ?_
  refine (zaag (σ1 := g10 ns (iV x) (iV y) (iV w) (iV h) (iV b) (lV l) (iV m) (lV K) (lV K) (some (.val (.lst D))) none) (s1 := []) (by simp [er])).trans ?_
  refine (zaag (σ1 := g10 ns (iV x) (iV y) (iV w) (iV h) (iV b) (lV l) (iV m) (lV K) (lV K) (some (.val (.lst D))) none) (s1 := []) (by simp [hLl])).trans ?_
  refine (zaag ((ex_for (ts := rangeT 0 l.length) (s1 := []) (zadi (n := l.length) (by simp) (by omega)) (by intro _ h; cases h)).trans e15)).trans ?_
  simp
end
theorem law10 (k : Nat) (ns : List Int) : ∃ s, run true fns sub0 whileL (k + 8) 30 [.val (.lst (ns.map .int))] [] = .ok (.val (.bl true)) s :=
  ⟨[], (zaah (F := F_law) rfl rfl).trans (congrArg (leave true false) (law_any (has k ns)))⟩
theorem math : Math := fun ns _ => law10 8 ns
end Pg
end IP
end
section
namespace PySem.W.Fast
def tw7333024393654329312:=()
def tw7813180428865401514:=()
def tw4468658986324892050:=()
def tw6067782652474304011:=()
def tw15586103493602594701:=()
def tw7535245104672205552:=()
def tw10108511727656898275:=()
def tw3593407035988613606:=()
def tw2983886506931531415:=()
def tw4604356203542838966:=()
def tw15655759187336869165:=()
def tw7327153441714622970:=()
def tw8382013015254489772:=()
def tw13484649047787420042:=()
def tw1834022583503988548:=()
def tw10784719643421247989:=()
def tw13062183211070665117:=()
def tw688802404946815125:=()
def tw9766839745279607807:=()
def tw15306040331396666699:=()
def tw15148682910229080183:=()
def tw18073010731859084539:=()
def tw16972619636278862228:=()
def tw10493687864544452085:=()
def tw6657970242660273073:=()
def tw9608233029612103432:=()
def tw9127310364855342598:=()
def tw15430463313154684459:=()
def tw6520042293214690321:=()
def tw3832556875141257854:=()
def tw6006067924557600888:=()
def tw3525693851837494048:=()
def tw2407733201534213879:=()
def tw16373627950610599308:=()
def tw4848019474789099670:=()
def tw11051918092641149115:=()
def tw6014175073301131868:=()
def tw14851705439503597534:=()
def tw8084179416326312438:=()
def tw10462745871829168133:=()
def tw13443356020460212695:=()
def tw4371210910105314016:=()
def tw11195265699207236289:=()
def tw6967584595357038893:=()
def tw11430172334734986571:=()
def tw12123448096450494244:=()
def tw5186780382777817898:=()
def tw10815809000879519723:=()
def tw6002876720342279910:=()
def tw10785050664071636046:=()
def tw11701132788296833074:=()
def tw9025988750710141227:=()
def tw16414572778175632412:=()
def tw16132783079302965032:=()
def tw8756490369492851639:=()
def tw3893861884639623073:=()
def tw3624537043064891599:=()
def tw2010367243168209970:=()
def tw1767477032898689700:=()
def tw4121263921896426242:=()
def tw5547164419057539409:=()
def tw734695858342318303:=()
def tw6451564889586236894:=()
def tw13358541695400614488:=()
def tw9015877383884717861:=()
def tw3493567492629211090:=()
def tw15912622308034012609:=()
def tw10743935769420629751:=()
def tw17726751176450950135:=()
def tw13048777889931810132:=()
def tw2879976267149131409:=()
def tw139762223167588848:=()
def tw670129556235679534:=()
def tw810359462226183918:=()
def tw8314311777298369431:=()
def tw15500383111208410210:=()
def tw6751591845646399421:=()
def tw3458105027369466197:=()
def tw2961819466756250321:=()
def tw12802047027134058829:=()
def tw3022085192345949303:=()
def tw17730493490203320706:=()
def tw10634964233734181433:=()
def tw16787442390297842020:=()
def tw7425966163615812627:=()
def tw500742820651064867:=()
def tw254082718379459814:=()
def tw9412752293329472279:=()
def tw5287112224807402185:=()
def tw2428609499353398821:=()
def tw4377125684882902732:=()
def tw1789567473379690362:=()
def tw13454073708098577272:=()
def tw3350611365153693547:=()
def tw9461302779139127881:=()
def tw1441064744691879827:=()
def tw16007107604788107234:=()
def tw926519819739358738:=()
def tw13497677314891541672:=()
def tw7042110793440915948:=()
def tw16238453372746438801:=()
def tw7488831706265283473:=()
def tw16711241316680945740:=()
def tw15847389937549119052:=()
def tw1599140665757301085:=()
def tw1977462747972259479:=()
def tw1391983453203060478:=()
def tw6236865248828408789:=()
def tw1006037430166174746:=()
def tw1594770525229626753:=()
def tw9182688735366773814:=()
def tw18130853978575916668:=()
def tw14729711242500679770:=()
def tw1113191231000580344:=()
def tw15705568429775226572:=()
def tw14491632114172585740:=()
def tw3303782992290758656:=()
def tw5082755935636261601:=()
def tw9841008868136479968:=()
def tw6698701294006586033:=()
def tw18390428998115281821:=()
def tw11269929724767358875:=()
def tw2681988849750836714:=()
def tw5260683054265348910:=()
def tw9415132543499188715:=()
def tw5146447008278528125:=()
def tw1910703523017672048:=()
def tw14057076927400141288:=()
def tw4448986326600860093:=()
def tw16989413468872846607:=()
def tw15946200345264130544:=()
def tw11786873519481501462:=()
def tw4445465430082695854:=()
def tw5359097820075467230:=()
def tw2352545416718270655:=()
def tw4524414247444376946:=()
def tw8013129252482402617:=()
def tw10136882930919600657:=()
def tw15610801571196186258:=()
def tw10068822942711921915:=()
def tw12291763710329883852:=()
def tw1929677276417184418:=()
def tw15114608034223999652:=()
def tw8638768363337532759:=()
def tw536519911238422361:=()
def tw7700547454306478013:=()
def tw3499358028168284298:=()
def tw682526400302669530:=()
def tw14277723664589639784:=()
def tw6263684356595666897:=()
def tw4511045324406014901:=()
def tw13799585061552897318:=()
def tw16196558694695988406:=()
def tw4285787395303520946:=()
def tw399894593542265355:=()
def tw11204582191658680490:=()
def tw10071864616819703422:=()
def tw10267043945801490564:=()
def tw4657068241309817409:=()
def tw9875859504279692788:=()
def tw6478684859120954793:=()
def tw2347759138077668591:=()
def tw8363891963013257703:=()
def tw10641882574210926161:=()
def tw16308455377380584279:=()
def tw10285512126688369726:=()
def tw8884535885306279557:=()
def tw16921147456336073406:=()
def tw13823666972731292991:=()
def tw3109405550329681806:=()
def tw9065203853609154500:=()
def tw17054779711561374004:=()
def tw7346842523146091061:=()
def tw8725720002546280339:=()
def tw9373773768145209302:=()
def tw17497246285486959779:=()
def tw16805119865722676409:=()
def tw1849063607488826417:=()
def tw3354952107879689615:=()
def tw15091905769600049806:=()
def tw1698718666616362567:=()
def tw11919144637465458266:=()
def tw4879574214970275969:=()
def tw5170352516097203591:=()
def tw6846695863463097477:=()
def tw12421462589406182009:=()
def tw1543565130453780570:=()
def tw989517926052011143:=()
def tw4258906255828290786:=()
def tw8540516515956285954:=()
def tw13458357598187122014:=()
def tw17955114484234592533:=()
def tw7146983113885174355:=()
def tw17078756039383006488:=()
def tw295765980304660814:=()
def tw3891526897958211265:=()
def tw2611783421175705343:=()
def tw9087872001648315926:=()
def tw1271057793622278679:=()
def tw17693438341442879916:=()
def tw16920476715557926176:=()
def tw18127405502152200812:=()
def tw4653166242687000470:=()
def tw8962456726041639983:=()
def tw1206653672923882336:=()
def tw1286769225779478720:=()
def tw16002356413911148519:=()
def tw13349880020553803717:=()
def tw4053899041242028539:=()
def tw4551065681635339051:=()
def tw7803850600035422431:=()
def tw13580577180774839089:=()
def tw2193377636656404777:=()
def tw13288387448368743802:=()
def tw4825767023032911657:=()
def tw13019240514233782063:=()
def tw16007933958815410460:=()
def tw7500781782917494359:=()
def tw12771135054837668511:=()
def tw3428586072594935278:=()
def tw8105108020428856912:=()
def tw9457715691550329439:=()
def tw7908653515671419567:=()
def tw4910494283328218533:=()
def tw8813472503326231245:=()
def tw9417518989680174690:=()
end PySem.W.Fast
set_option Elab.async false
set_option maxRecDepth 100000
set_option maxHeartbeats 0
open PySem PySem.W PyProof.Rows
theorem PySem.Challenge.cw_gradecut_k10_hem_of_an_oblong_holds : PySem.Challenge.rw_gradecut_k10_hem_of_an_oblong.Holds := by
  w_on; o_law; k_head; (case hw => w_witness2)
  k_fill
  refine IP.Pg.walk IP.Pg.math (l := PySem.Challenge.rw_gradecut_k10_hem_of_an_oblong) rfl rfl (fun w h Y => PySem.W.kIn_of Y) ?noL ?goF
  case noL => intro w; first | rfl | with_unfolding_all rfl | decide +kernel
  case goF =>
    intro w mg fa h KX G hmg
    refine' IP.Pg.all_mk KX G hmg ?aez1 ?aez0 ?qez0 ?az12 ?lz12 ?cz12 ?kz12 ?az24 ?lz24 ?cz24 ?kz24 ?az23 ?lz23 ?cz23 ?kz23 ?az21 ?lz21 ?cz21 ?kz21 ?az14 ?lz14 ?cz14 ?kz14 ?az25 ?lz25 ?cz25 ?kz25 ?az20 ?lz20 ?cz20 ?kz20 ?az29 ?lz29 ?cz29 ?kz29 ?az10 ?lz10 ?cz10 ?kz10 ?az26 ?lz26 ?cz26 ?kz26 ?az31 ?lz31 ?cz31 ?kz31 ?az16 ?lz16 ?cz16 ?kz16 ?az13 ?lz13 ?cz13 ?kz13 ?az18 ?lz18 ?cz18 ?kz18 ?az22 ?lz22 ?cz22 ?kz22 ?az19 ?lz19 ?cz19 ?kz19 ?az15 ?lz15 ?cz15 ?kz15 ?az11 ?lz11 ?cz11 ?kz11 ?az30 ?lz30 ?cz30 ?kz30 ?az27 ?lz27 ?cz27 ?kz27 ?az28 ?lz28 ?cz28 ?kz28 ?az17 ?lz17 ?cz17 ?kz17 ?az9 ?lz9 ?cz9 ?kz9 ?az2 ?lz2 ?cz2 ?kz2 ?az3 ?lz3 ?cz3 ?kz3 ?az5 ?lz5 ?cz5 ?kz5 ?az8 ?lz8 ?cz8 ?kz8 ?az4 ?lz4 ?cz4 ?kz4 ?az6 ?lz6 ?cz6 ?kz6 ?az7 ?lz7 ?cz7 ?kz7 ?a_law ?l_law ?c_law ?k_law ?z_abs ?z_bool ?z_enumerate ?z_int ?z_isinstance ?z_len ?z_list ?z_min ?z_range ?z_sorted ?z_tuple
    (case aez1 => k_is)
    (case aez0 => k_is)
    (case qez0 => k_exc)
    (case az12 => k_is)
    (case lz12 => k_is)
    (case cz12 => k_is)
    (case kz12 => k_is)
    (case az24 => k_is)
    (case lz24 => k_is)
    (case cz24 => k_is)
    (case kz24 => k_is)
    (case az23 => k_is)
    (case lz23 => k_is)
    (case cz23 => k_is)
    (case kz23 => k_is)
    (case az21 => k_is)
    (case lz21 => k_is)
    (case cz21 => k_is)
    (case kz21 => k_is)
    (case az14 => k_is)
    (case lz14 => k_is)
    (case cz14 => k_is)
    (case kz14 => k_is)
    (case az25 => k_is)
    (case lz25 => k_is)
    (case cz25 => k_is)
    (case kz25 => k_is)
    (case az20 => k_is)
    (case lz20 => k_is)
    (case cz20 => k_is)
    (case kz20 => k_is)
    (case az29 => k_is)
    (case lz29 => k_is)
    (case cz29 => k_is)
    (case kz29 => k_is)
    (case az10 => k_is)
    (case lz10 => k_is)
    (case cz10 => k_is)
    (case kz10 => k_is)
    (case az26 => k_is)
    (case lz26 => k_is)
    (case cz26 => k_is)
    (case kz26 => k_is)
    (case az31 => k_is)
    (case lz31 => k_is)
    (case cz31 => k_is)
    (case kz31 => k_is)
    (case az16 => k_is)
    (case lz16 => k_is)
    (case cz16 => k_is)
    (case kz16 => k_is)
    (case az13 => k_is)
    (case lz13 => k_is)
    (case cz13 => k_is)
    (case kz13 => k_is)
    (case az18 => k_is)
    (case lz18 => k_is)
    (case cz18 => k_is)
    (case kz18 => k_is)
    (case az22 => k_is)
    (case lz22 => k_is)
    (case cz22 => k_is)
    (case kz22 => k_is)
    (case az19 => k_is)
    (case lz19 => k_is)
    (case cz19 => k_is)
    (case kz19 => k_is)
    (case az15 => k_is)
    (case lz15 => k_is)
    (case cz15 => k_is)
    (case kz15 => k_is)
    (case az11 => k_is)
    (case lz11 => k_is)
    (case cz11 => k_is)
    (case kz11 => k_is)
    (case az30 => k_is)
    (case lz30 => k_is)
    (case cz30 => k_is)
    (case kz30 => k_is)
    (case az27 => k_is)
    (case lz27 => k_is)
    (case cz27 => k_is)
    (case kz27 => k_is)
    (case az28 => k_is)
    (case lz28 => k_is)
    (case cz28 => k_is)
    (case kz28 => k_is)
    (case az17 => k_is)
    (case lz17 => k_is)
    (case cz17 => k_is)
    (case kz17 => k_is)
    (case az9 => k_is)
    (case lz9 => k_is)
    (case cz9 => k_is)
    (case kz9 => k_is)
    (case az2 => k_is)
    (case lz2 => k_is)
    (case cz2 => k_is)
    (case kz2 => k_is)
    (case az3 => k_is)
    (case lz3 => k_is)
    (case cz3 => k_is)
    (case kz3 => k_is)
    (case az5 => k_is)
    (case lz5 => k_is)
    (case cz5 => k_is)
    (case kz5 => k_is)
    (case az8 => k_is)
    (case lz8 => k_is)
    (case cz8 => k_is)
    (case kz8 => k_is)
    (case az4 => k_is)
    (case lz4 => k_is)
    (case cz4 => k_is)
    (case kz4 => k_is)
    (case az6 => k_is)
    (case lz6 => k_is)
    (case cz6 => k_is)
    (case kz6 => k_is)
    (case az7 => k_is)
    (case lz7 => k_is)
    (case cz7 => k_is)
    (case kz7 => k_is)
    (case a_law => k_is)
    (case l_law => k_is)
    (case c_law => k_is)
    (case k_law => k_is)
    (case z_abs => k_is)
    (case z_bool => k_is)
    (case z_enumerate => k_is)
    (case z_int => k_is)
    (case z_isinstance => k_is)
    (case z_len => k_is)
    (case z_list => k_is)
    (case z_min => k_is)
    (case z_range => k_is)
    (case z_sorted => k_is)
    (case z_tuple => k_is)
end
