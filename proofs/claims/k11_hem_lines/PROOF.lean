import PyProof.Rows.All
import Wide.All
import OpenK.AllK
import Wide.FinOn
import Lean
import PyProof.EqAt
import PyProof.EqKinds
import PyProof.TupleCall
import PyProof.NeKinds
import KE.KTryMore
import PyProof.EnumStmt
import PySem.Challenge.RW_gradecut_k11_hem_lines
section
set_option Elab.async false
set_option linter.all false
set_option maxRecDepth 100000
namespace L2
open PySem PySem.Spec PyProof.Rows
abbrev Key := Sum Int Str
def keyIs : Key → Value → Bool
  | .inl k, v => Value.isInt k v
  | .inr x, v => Value.isStrOf x v
def keyH (w : World) : Key → Int
  | .inl k => hashInt k
  | .inr x => hashStr w x
theorem zaam : ∀ {k : Key} {v : Value}, keyIs k v = true → (∃ i t, k = Sum.inl i ∧ v = Value.int i t) ∨ (∃ x t, k = Sum.inr x ∧ v = Value.str x t)
  | .inl i, v, h => by
    obtain ⟨t, e⟩ := Value.isInt_shape (k := i) (v := v) h
    exact .inl ⟨i, t, rfl, e⟩
  | .inr x, v, h => by
    obtain ⟨t, e⟩ := Value.isStrOf_shape (x := x) (v := v) h
    exact .inr ⟨x, t, rfl, e⟩
theorem key_ll (a b : Int) : decide ((Sum.inl a : Key) = Sum.inl b) = (a == b) := by
  by_cases e : a = b
  · subst e; simp
  · have h : ¬ (Sum.inl a : Key) = Sum.inl b := fun q => e (Sum.inl.inj q)
    rw [decide_eq_false h]
    exact (beq_eq_false_iff_ne.mpr e).symm
theorem key_rr (a b : Str) : decide ((Sum.inr a : Key) = Sum.inr b) = decide (a = b) := by
  by_cases e : a = b
  · subst e; simp
  · have h : ¬ (Sum.inr a : Key) = Sum.inr b := fun q => e (Sum.inr.inj q)
    rw [decide_eq_false h, decide_eq_false e]
theorem key_lr (a : Int) (b : Str) : decide ((Sum.inl a : Key) = Sum.inr b) = false := decide_eq_false (fun q => nomatch q)
theorem key_rl (a : Str) (b : Int) : decide ((Sum.inr a : Key) = Sum.inl b) = false := decide_eq_false (fun q => nomatch q)
def zaf6 (prog : Program) (w : World) : PySem.KeyKind prog w Key where
  is := keyIs
  hash := keyH w
  inj := fun v a b ha hb => by
    rcases zaam ha with ⟨i, t, rfl, rfl⟩ | ⟨x, t, rfl, rfl⟩
    · rcases zaam hb with ⟨j, u, rfl, e⟩ | ⟨y, u, rfl, e⟩
      · injection e with e1 _; rw [e1]
      · exact nomatch e
    · rcases zaam hb with ⟨j, u, rfl, e⟩ | ⟨y, u, rfl, e⟩
      · exact nomatch e
      · injection e with e1 _; rw [e1]
  byValue := fun k v h => by
    rcases zaam h with ⟨i, t, rfl, rfl⟩ | ⟨x, t, rfl, rfl⟩ <;> rfl
  pyHash := fun hv h => by
    rcases zaam hv with ⟨i, t, rfl, rfl⟩ | ⟨x, t, rfl, rfl⟩
    · exact wpAny_pyHash_int h
    · exact wpAny_pyHash_str h
  eqBool := fun hu hv h => by
    rcases zaam hu with ⟨i, t, rfl, rfl⟩ | ⟨x, t, rfl, rfl⟩
    · rcases zaam hv with ⟨j, u, rfl, rfl⟩ | ⟨y, u, rfl, rfl⟩
      · rw [key_ll] at h; exact wpAny_eqBool_int h
      · rw [key_lr] at h; exact SeqAt.EqAt.int_str i t y u _ _ _ _ h
    · rcases zaam hv with ⟨j, u, rfl, rfl⟩ | ⟨y, u, rfl, rfl⟩
      · rw [key_rl] at h; exact SeqAt.EqAt.str_int x t j u _ _ _ _ h
      · rw [key_rr] at h; exact wpAny_eqBool_str h
  «strs» := fun k x t v h => by
    rcases zaam h with ⟨i, u, rfl, e⟩ | ⟨y, u, rfl, e⟩
    · exact nomatch e
    · injection e with e1 _
      subst e1
      cases v <;> rfl
end L2
namespace L2
open PySem PySem.Spec PyProof.Rows
inductive V where
  | non | bl (b : Bool) | int (i : Int) | str (x : Str) | byt (b : Array UInt8) | flt (b : UInt64) | ref (a : Addr) | ty (n : String)
  deriving DecidableEq
def RelV : V → Value → Prop
  | .non, u => u = Value.none
  | .bl b, u => u = Value.bool b
  | .int i, u => ∃ t, u = Value.int i t
  | .str x, u => ∃ t, u = Value.str x t
  | .byt b, u => ∃ t, u = Value.bytes b t
  | .flt b, u => ∃ t, u = Value.float b t
  | .ref a, u => u = Value.ref a
  | .ty n, u => u = Value.type n
abbrev Vals : List V → List Value → Prop := Paired RelV
theorem Vals.length {xs : List V} {us : List Value} (r : Vals xs us) : xs.length = us.length := Paired.length r
theorem Vals.get : ∀ {xs : List V} {us : List Value} {i : Nat} {x : V}, Vals xs us → xs[i]? = some x → ∃ u, us[i]? = some u ∧ RelV x u
  | _, _, _, _, .nil, e => by simp at e
  | _, _, 0, _, .cons r _, e => by simp at e; subst e; exact ⟨_, rfl, r⟩
  | _, _, i + 1, x, .cons _ t, e => by
    obtain ⟨u, h1, h2⟩ := Vals.get (i := i) (x := x) t (by simpa using e)
    exact ⟨u, by simpa using h1, h2⟩
theorem Vals.set {x : V} {u : Value} (r : RelV x u) : ∀ {xs : List V} {us : List Value} (i : Nat), Vals xs us → Vals (xs.set i x) (us.set i u)
  | _, _, _, .nil => .nil
  | _, _, 0, .cons _ t => .cons r t
  | _, _, i + 1, .cons q t => .cons q (Vals.set r i t)
theorem Vals.append : ∀ {xs ys : List V} {us ws : List Value}, Vals xs us → Vals ys ws → Vals (xs ++ ys) (us ++ ws)
  | _, _, _, _, .nil, s => s
  | _, _, _, _, .cons r t, s => .cons r (Vals.append t s)
theorem Vals.take : ∀ {xs : List V} {us : List Value} (n : Nat), Vals xs us → Vals (xs.take n) (us.take n)
  | _, _, 0, _ => .nil
  | _, _, _ + 1, .nil => .nil
  | _, _, n + 1, .cons r t => .cons r (Vals.take n t)
theorem Vals.drop : ∀ {xs : List V} {us : List Value} (n : Nat), Vals xs us → Vals (xs.drop n) (us.drop n)
  | _, _, 0, r => r
  | _, _, _ + 1, .nil => .nil
  | _, _, n + 1, .cons _ t => Vals.drop n t
def RelO : Option V → Option Value → Prop
  | some v, some u => RelV v u
  | none, none => True
  | _, _ => False
def KV {κ : Type} : List (κ × V) → List (κ × Value) → Prop := Paired fun (p : κ × V) (q : κ × Value) => p.1 = q.1 ∧ RelV p.2 q.2
def kV : Key → V
  | .inl i => .int i
  | .inr x => .str x
inductive HO where
  | lst (xs : List V)
  | tup (xs : List V)
  | dK (kvs : List (Key × V)) | dT (kvs : List (List Key × V))
  | set (S : Int → Bool) (n : Nat)
  | ins (C dx : Addr) (fs : List (Str × V))
  | own (x : Addr)
  | xd (fs : List (Str × V))
  | met (f x : Addr)
  | rng (lo hi : Int)
  | frz (o : Obj) (u : HO)
  | tbl (ps : Array Value)
  | ext (φ : Heap → Prop)
abbrev Hp := Addr → Option HO
def upd (H : Hp) (a : Addr) (o : HO) : Hp := fun b => if b = a then some o else H b
theorem zaaq {H : Hp} {a : Addr} {o : HO} : upd H a o a = some o := by unfold upd; rw [if_pos rfl]
theorem upd_ne {H : Hp} {a b : Addr} {o : HO} (h : b ≠ a) : upd H a o b = H b := by unfold upd; rw [if_neg h]
theorem ne_of {H : Hp} {a b : Addr} {o u : HO} (h : H a = some o) (h' : H b = some u) (d : o ≠ u) : a ≠ b := by
  intro e; subst e; rw [h] at h'; exact d (Option.some.inj h')
theorem zaa2 {H : Hp} {a b : Addr} {o : HO} (h : H a = some o) (h' : H b = none) : a ≠ b := by
  intro e; subst e; rw [h] at h'; cases h'
section
variable (P : Program) (w : World)
def ObjOk (H : Hp) (h : Heap) (a : Addr) : HO → Prop
  | .lst xs => xs.length ≤ sizeLine ∧ ∃ (its : List Value) (n : Nat), Vals xs its ∧ h.get? a = some { cls := .type "list", data := .seq its.toArray n }
  | .tup xs => xs.length ≤ sizeLine ∧ ∃ its : List Value, Vals xs its ∧ IsTup h a its.toArray
  | .dK kvs => kvs.length ≤ sizeLine ∧ (a == sysModules) = false ∧ ∃ vs, KV kvs vs ∧ h.DictOf (zaf6 P w) a vs
  | .dT kvs => kvs.length ≤ sizeLine ∧ (a == sysModules) = false ∧ ∃ xs : List (List Key × Addr × Value),
      Paired (fun (p : List Key × V) (q : List Key × Addr × Value) => p.1 = q.1 ∧ H q.2.1 = some (.tup (p.1.map kV)) ∧ RelV p.2 q.2.2) kvs xs ∧
      ∃ o es ep, h.get? a = some o ∧ o.ExactDict ∧ o.data = .dict es ep ∧ es.toList = xs.map (entryOfKey (tupleKind (zaf6 P w))) ∧ (xs.map (·.1)).Nodup
  | .set S n => h.SetOf (intKind P w) a S n
  | .ins C dx fs => H dx = some (.own a) ∧ fs.length ≤ 1000 ∧ dx ≠ a ∧ h.get? a = some (PySem.W.instObj C dx) ∧
      ∃ mA, h.Ns1 dx mA ∧ (∀ f, RelO (fs.lookup f) (mA f)) ∧ PySem.Within mA (fs.map (·.1))
  | .own _ => ∃ o, h.get? a = some o
  | .xd fs => ∃ mA, h.Ns1 a mA ∧ ∀ f, RelO (fs.lookup f) (mA f)
  | .rng lo hi => ∃ t u v, h.get? a = some { cls := .type "range", data := .fields #[.int lo t, .int hi u, .int 1 v] }
  | .frz o u => h.get? a = some o ∧ ObjOk H h a u
  | .tbl ps => h.get? a = some { cls := .none, data := .fields ps }
  | .met f x => h.get? a = some (PySem.W.methodObj (.ref f) (.ref x))
  | .ext φ => φ h ∧ (∃ o, h.get? a = some o) ∧ ∀ h1 h2 : Heap, φ h1 → (∀ o, h1.get? a = some o → h2.get? a = some o) → φ h2
def HOk (H : Hp) (h : Heap) : Prop := ∀ a o, H a = some o → ObjOk P w H h a o
end
section
variable {P : Program} {w : World} {H H' : Hp} {h h' : Heap} {a : Addr} {o : HO}
theorem ObjOk.lt (x : ObjOk P w H h a o) : a < h.objs.size := by
  cases o with
  | lst xs => obtain ⟨_, _, _, _, e⟩ := x; exact Heap.lt_size e
  | tup xs => obtain ⟨_, _, _, p⟩ := x; exact p.lt
  | dK kvs => obtain ⟨_, _, _, _, o, _, _, e, _⟩ := x; exact Heap.lt_size e
  | dT kvs => obtain ⟨_, _, _, _, o, _, _, e, _⟩ := x; exact Heap.lt_size e
  | set S n => obtain ⟨o, _, _, _, e, _⟩ := x; exact Heap.lt_size e
  | ins C dx fs => obtain ⟨_, _, _, e, _⟩ := x; exact Heap.lt_size e
  | own y => obtain ⟨_, e⟩ := x; exact Heap.lt_size e
  | xd fs => obtain ⟨_, ⟨_, _, _, e, _⟩, _⟩ := x; exact Heap.lt_size e
  | rng lo hi => obtain ⟨_, _, _, e⟩ := x; exact Heap.lt_size e
  | frz ob u => obtain ⟨e, _⟩ := x; exact Heap.lt_size e
  | tbl ps => exact Heap.lt_size (show h.get? a = some _ from x)
  | met f y => exact Heap.lt_size (show h.get? a = some _ from x)
  | ext φ => obtain ⟨_, ⟨_, e⟩, _⟩ := x; exact Heap.lt_size e
theorem Paired.mapP {α β : Type} {F G : α → β → Prop} : ∀ {l₁ : List α} {l₂ : List β}, Paired F l₁ l₂ → (∀ a b, F a b → G a b) → Paired G l₁ l₂
  | _, _, .nil, _ => .nil
  | _, _, .cons r t, f => .cons (f _ _ r) (Paired.mapP t f)
theorem ObjOk.stay (x : ObjOk P w H h a o) (k : ∀ b u, (b = a ∨ H b = some (.own a)) → h.get? b = some u → h'.get? b = some u)
    (ho : ∀ b, H b = some (.own a) → H' b = some (.own a)) (ht : ∀ b xs, H b = some (.tup xs) → H' b = some (.tup xs)) : ObjOk P w H' h' a o := by
  induction o with
  | lst xs => obtain ⟨z, its, n, r, e⟩ := x; exact ⟨z, its, n, r, k _ _ (.inl rfl) e⟩
  | tup xs => obtain ⟨z, its, r, ob, e, c⟩ := x; exact ⟨z, its, r, ob, k _ _ (.inl rfl) e, c⟩
  | dK kvs => obtain ⟨z, y, vs, r, ob, es, ep, e, c⟩ := x; exact ⟨z, y, vs, r, ob, es, ep, k _ _ (.inl rfl) e, c⟩
  | dT kvs =>
    obtain ⟨z, y, xs, r, ob, es, ep, e, c⟩ := x
    exact ⟨z, y, xs, Paired.mapP r fun p q z => ⟨z.1, ht _ _ z.2.1, z.2.2⟩, ob, es, ep, k _ _ (.inl rfl) e, c⟩
  | set S n => obtain ⟨ob, es, ep, t, e, c⟩ := x; exact ⟨ob, es, ep, t, k _ _ (.inl rfl) e, c⟩
  | ins C dx fs =>
    obtain ⟨d, z, ne, e, mA, ⟨od, es, ep, e2, c⟩, r⟩ := x
    exact ⟨ho _ d, z, ne, k _ _ (.inl rfl) e, mA, ⟨od, es, ep, k _ _ (.inr d) e2, c⟩, r⟩
  | own y => obtain ⟨ob, e⟩ := x; exact ⟨ob, k _ _ (.inl rfl) e⟩
  | xd fs => obtain ⟨mA, ⟨od, es, ep, e, c⟩, r⟩ := x; exact ⟨mA, ⟨od, es, ep, k _ _ (.inl rfl) e, c⟩, r⟩
  | rng lo hi => obtain ⟨t, u, v, e⟩ := x; exact ⟨t, u, v, k _ _ (.inl rfl) e⟩
  | frz ob u ih => obtain ⟨e, q⟩ := x; exact ⟨k _ _ (.inl rfl) e, ih q⟩
  | tbl ps =>
    have e : h.get? a = some { cls := .none, data := .fields ps } := x
    show h'.get? a = some { cls := .none, data := .fields ps }
    exact k a _ (.inl rfl) e
  | met f y =>
    have e : h.get? a = some (PySem.W.methodObj (.ref f) (.ref y)) := x
    show h'.get? a = some (PySem.W.methodObj (.ref f) (.ref y))
    exact k a _ (.inl rfl) e
  | ext φ => obtain ⟨p, ⟨o, e⟩, st⟩ := x; exact ⟨st _ _ p fun o q => k _ _ (.inl rfl) q, ⟨o, k _ _ (.inl rfl) e⟩, st⟩
theorem HOk.lt (x : HOk P w H h) (e : H a = some o) : a < h.objs.size := (x a o e).lt
theorem HOk.fresh (x : HOk P w H h) (e : h.objs.size ≤ a) : H a = none := by
  cases q : H a with
  | none => rfl
  | some u => exact absurd (Nat.lt_of_lt_of_le (x.lt q) e) (Nat.lt_irrefl _)
theorem HOk.kept (x : HOk P w H h) (k : ∀ b u, h.get? b = some u → h'.get? b = some u) : HOk P w H h' := fun a o e =>
  (x a o e).stay (fun b u _ q => k b u q) (fun _ q => q) fun _ _ q => q
theorem HOk.laid (x : HOk P w H h) (k : ∀ b u, h.get? b = some u → h'.get? b = some u) (hp : h.objs.size ≤ a) (new : ObjOk P w (upd H a o) h' a o) : HOk P w (upd H a o) h' := fun b u e => by
  have hn := x.fresh hp
  by_cases hb : b = a
  · subst hb; rw [zaaq] at e; cases e; exact new
  · rw [upd_ne hb] at e
    exact (x b u e).stay (fun c v _ q => k c v q) (fun c q => by rw [upd_ne (zaa2 q hn)]; exact q) fun c xs q => by rw [upd_ne (zaa2 q hn)]; exact q
end
def Rd (H : Hp) (a : Addr) (u : HO) : Prop := H a = some u ∨ ∃ o, H a = some (.frz o u)
theorem Rd.of {H : Hp} {a : Addr} {u : HO} (h : H a = some u) : Rd H a u := .inl h
theorem Rd.ok {P : Program} {w : World} {H : Hp} {h : Heap} {a : Addr} {u : HO} (r : Rd H a u) (x : HOk P w H h) : ObjOk P w H h a u := by
  rcases r with r | ⟨o, r⟩
  · exact x a u r
  · obtain ⟨_, q⟩ := x a _ r
    exact q
def Mut : Option HO → Prop
  | some (.lst _) => True
  | some (.dK _) => True
  | some (.dT _) => True
  | some (.set _ _) => True
  | some (.ins _ _ _) => True
  | some (.ext _) => True
  | _ => False
section
variable {P : Program} {w : World} {H : Hp} {h h' : Heap} {x e : Addr} {o' : HO}
theorem HOk.write (ok : HOk P w H h) (mu : Mut (H x)) (he : e = x ∨ H e = some (.own x)) (k : ∀ b u, b ≠ e → h.get? b = some u → h'.get? b = some u) (heo : ∃ u, h'.get? e = some u)
    (new : ObjOk P w (upd H x o') h' x o') : HOk P w (upd H x o') h' := fun b u q => by
  have nown : ∀ c y, H c = some (.own y) → c ≠ x := fun c y r z => by subst z; rw [r] at mu; exact mu
  have ntup : ∀ c xs, H c = some (.tup xs) → c ≠ x := fun c xs r z => by subst z; rw [r] at mu; exact mu
  by_cases hb : b = x
  · subst hb; rw [zaaq] at q; cases q; exact new
  · rw [upd_ne hb] at q
    by_cases hbe : b = e
    · have q' : H b = some (.own x) := by
        rcases he with z | z
        · exact absurd (hbe.trans z) hb
        · rw [hbe]; exact z
      rw [q] at q'; cases q'
      obtain ⟨v, hv⟩ := heo
      exact ⟨v, by rw [hbe]; exact hv⟩
    · refine (ok b u q).stay (fun c v hc r => k c v ?_ r) (fun c r => by rw [upd_ne (nown c b r)]; exact r) fun c xs r => by rw [upd_ne (ntup c xs r)]; exact r
      rcases hc with rfl | hc
      · exact hbe
      · rintro rfl
        rcases he with z | z
        · exact nown c b hc z
        · rw [hc] at z; cases z; exact hb rfl
end
structure Un (fs ex : List Addr) (H H' : Hp) (h h' : Heap) : Prop where
  keep : ∀ b o, h.get? b = some o → H b = none → b ∉ fs → b ∉ ex → h'.get? b = some o
  slot : ∀ b o, h.get? b = some o → H b = none → b ∈ fs → b ∉ ex → ∃ sl, h'.get? b = some { o with slots := sl }
  free : ∀ b o, h.get? b = some o → H b = none → b ∉ ex → H' b = none
  there : ∀ b o, h.get? b = some o → b ∉ ex → ∃ o', h'.get? b = some o'
  tups : ∀ b xs, H b = some (.tup xs) → H' b = some (.tup xs)
  frzs : ∀ b o u, H b = some (.frz o u) → H' b = some (.frz o u)
  tbls : ∀ b ps, H b = some (.tbl ps) → ∃ more, H' b = some (.tbl (ps ++ more))
section
variable {fs fs' ex ex' : List Addr} {H H1 H2 : Hp} {h h1 h2 h' : Heap} {a x e : Addr} {o : HO}
theorem Un.any (u : Un fs ex H H1 h h1) {b : Addr} {ob : Obj} (q : h.get? b = some ob) (n : H b = none) (hx : b ∉ ex) : ∃ sl, h1.get? b = some { ob with slots := sl } := by
  by_cases hb : b ∈ fs
  · exact u.slot b ob q n hb hx
  · exact ⟨ob.slots, u.keep b ob q n hb hx⟩
theorem Un.trans (a : Un fs ex H H1 h h1) (b : Un fs ex H1 H2 h1 h2) : Un fs ex H H2 h h2 where
  keep := fun c ob q n hc hx => b.keep c ob (a.keep c ob q n hc hx) (a.free c ob q n hx) hc hx
  slot := fun c ob q n hc hx => by
    obtain ⟨sl, e1⟩ := a.slot c ob q n hc hx
    obtain ⟨sl', e2⟩ := b.slot c _ e1 (a.free c ob q n hx) hc hx
    exact ⟨sl', e2⟩
  free := fun c ob q n hx => by
    obtain ⟨o', e1⟩ := a.there c ob q hx
    exact b.free c o' e1 (a.free c ob q n hx) hx
  there := fun c ob q hx => by
    obtain ⟨o', e1⟩ := a.there c ob q hx
    exact b.there c o' e1 hx
  tups := fun c xs q => b.tups c xs (a.tups c xs q)
  frzs := fun c ob xs q => b.frzs c ob xs (a.frzs c ob xs q)
  tbls := fun c ps q => by
    obtain ⟨m1, e1⟩ := a.tbls c ps q
    obtain ⟨m2, e2⟩ := b.tbls c _ e1
    exact ⟨m1 ++ m2, by rw [e2, Array.append_assoc]⟩
theorem Un.kept (k : ∀ b u, h.get? b = some u → h'.get? b = some u) : Un fs ex H H h h' :=
  ⟨fun b ob q _ _ _ => k b ob q, fun b ob q _ _ _ => ⟨ob.slots, k b ob q⟩, fun _ _ _ n _ => n, fun b ob q _ => ⟨ob, k b ob q⟩, fun _ _ q => q, fun _ _ _ q => q, fun _ ps q => ⟨#[], by rw [q]; simp⟩⟩
theorem Un.refl : Un fs ex H H h h := Un.kept fun _ _ q => q
theorem Un.laid (k : ∀ b u, h.get? b = some u → h'.get? b = some u) (hp : h.objs.size ≤ a) (hn : H a = none) : Un fs ex H (upd H a o) h h' where
  keep := fun b u q _ _ _ => k b u q
  slot := fun b u q _ _ _ => ⟨u.slots, k b u q⟩
  free := fun b u q n _ => by rw [upd_ne (Nat.ne_of_lt (Nat.lt_of_lt_of_le (Heap.lt_size q) hp))]; exact n
  there := fun b u q _ => ⟨u, k b u q⟩
  tups := fun b xs q => by rw [upd_ne (zaa2 q hn)]; exact q
  frzs := fun b u xs q => by rw [upd_ne (zaa2 q hn)]; exact q
  tbls := fun b ps q => ⟨#[], by rw [upd_ne (zaa2 q hn), q]; simp⟩
theorem Un.write (mu : Mut (H x)) (he : e = x ∨ H e = some (.own x)) (k : ∀ b u, b ≠ e → h.get? b = some u → h'.get? b = some u) (heo : ∃ u, h'.get? e = some u) : Un fs ex H (upd H x o) h h' := by
  have hx : ∀ b, H b = none → b ≠ x := fun b n z => by subst z; rw [n] at mu; exact mu
  have hb : ∀ b, H b = none → b ≠ e := fun b n z => by
    subst z
    rcases he with r | r
    · exact hx b n r
    · rw [n] at r; cases r
  have hm : ∀ b u, H b = some u → ¬ Mut (some u) → b ≠ x := fun b u q nm z => by subst z; rw [q] at mu; exact nm mu
  refine ⟨fun b u q n _ _ => k b u (hb b n) q, fun b u q n _ _ => ⟨u.slots, k b u (hb b n) q⟩, fun b u q n _ => by rw [upd_ne (hx b n)]; exact n, fun b u q _ => ?_,
    fun b xs q => by rw [upd_ne (hm b _ q fun z => z)]; exact q, fun b u xs q => by rw [upd_ne (hm b _ q fun z => z)]; exact q, fun b ps q => ⟨#[], by rw [upd_ne (hm b _ q fun z => z), q]; simp⟩⟩
  by_cases hbe : b = e
  · subst hbe; exact heo
  · exact ⟨u, k b u hbe q⟩
theorem Un.mono (u : Un fs ex H H1 h h1) (hs : ∀ b ∈ fs, b ∈ fs') (hx : ∀ b ∈ ex, b ∈ ex') : Un fs' ex' H H1 h h1 :=
  ⟨fun b ob q n hb he => u.keep b ob q n (fun z => hb (hs b z)) fun z => he (hx b z), fun _ _ q n _ he => u.any q n fun z => he (hx _ z), fun b ob q n he => u.free b ob q n fun z => he (hx b z), fun b ob q he => u.there b ob q fun z => he (hx b z), u.tups, u.frzs, u.tbls⟩
end
def trk (h : Heap) (H : Hp) : List Addr := (List.range h.objs.size).filter fun a => (H a).isSome
def hidT (h : Heap) (H : Hp) : Heap := PySem.W.hideAll h (trk h H)
theorem hidT_size (h : Heap) (H : Hp) : (hidT h H).objs.size = h.objs.size := PySem.W.hideAll_size _ _
theorem hidT_get {h : Heap} {H : Hp} {b : Addr} {o : Obj} (e : h.get? b = some o) (n : H b = none) : (hidT h H).get? b = some o :=
  PySem.W.hideAll_get _ e fun hm => by
    have q : (H b).isSome = true := (List.mem_filter.mp hm).2
    rw [n] at q; simp at q
theorem of_hidT {h : Heap} {H : Hp} {b : Addr} {o : Obj} (e : (hidT h H).get? b = some o) : h.get? b = some o ∧ H b = none := by
  have e' : h.get? b = some o := PySem.W.of_hideAll (trk h H) e
  refine ⟨e', ?_⟩
  cases q : H b with
  | none => rfl
  | some x =>
    have hm : b ∈ trk h H := List.mem_filter.mpr ⟨List.mem_range.mpr (Heap.lt_size e'), by simp [q]⟩
    have z : (hidT h H).get? b = none := PySem.W.hideAll_none (trk h H) hm
    rw [z] at e; cases e
def allNews (g h : Heap) (L : Addr) : List (Addr × Obj) := (List.range h.objs.size).filterMap fun a => if a = L ∨ (g.get? a).isSome = true then none else (h.get? a).map fun o => (a, o)
def rest (g h : Heap) (L d : Addr) : List (Addr × Obj) := (allNews g h L).filter fun p => decide (p.1 ≠ d)
end L2
namespace L2
open PySem PySem.Spec PyProof.Rows
structure Mod (K : PySem.W.Frag) (mg : Str → Option Value) (base : Heap) : Prop where
  kin : K.In base
  glob : base.Ns mainGlobals mg
  blt : ∃ mb, base.Ns builtinsNs mb ∧ ∀ x : Str, x ≠ "__name__" → mb x = bootBuiltins x
  nolimit : base.NoLimit
structure Cx where
  prog : Program
  w : World
  K : PySem.W.Frag
  mg : Str → Option Value
  base : Heap
  A : Around
  N : List Str
  s₀ : Shared
  H₀ : Hp
  env : Env
  outer : List Env
  stack : List Env
  ex : List Addr
  fn : Str → Bool
  calm : Bool
  pn : List (Addr × Obj)
  xe : Value → Shared → Prop
def frs (l : List Env) : List Addr := l.filterMap (·.frame)
abbrev Cx.fs (X : Cx) : List Addr := frs X.outer
def Vis (sc : Scope) (x : Str) : Prop := sc.names.lookup x = some .local ∨ sc.names.lookup x = some .cell ∨ sc.names.lookup x = some .free
def Loc (sc : Scope) (x : Str) : Prop := sc.names.lookup x = some .local ∨ sc.names.lookup x = some .cell
def Look (env : Env) (h : Heap) (m : Str → Option Value) (x : Str) (u : Value) : Prop :=
  (env.kindOf x = some .local ∧ m x = some u) ∨ ((env.kindOf x = some .cell ∨ env.kindOf x = some .free) ∧ ∃ c, env.cells.lookup x = some c ∧ h.IsCell c (some u))
structure Cx.Ok (X : Cx) : Prop where
  mod : Mod X.K X.mg X.base
  kind : X.env.scope.kind = .function
  glob : X.env.globals = mainGlobals
  blt : X.env.builtins = builtinsNs
  above : X.s₀.heap.objs.size ≤ X.env.locals
  inj : ∀ x y c, X.env.cells.lookup x = some c → X.env.cells.lookup y = some c → x = y
  has : ∀ x, (X.env.kindOf x = some .cell ∨ X.env.kindOf x = some .free) → ∃ c, X.env.cells.lookup x = some c
  cab : ∀ x c, X.fn x = true → X.env.cells.lookup x = some c → X.s₀.heap.objs.size ≤ c
  hd : X.calm = true → X.A.handled = none
  frames : X.A.frames = some X.stack
  stk : X.stack = X.outer ∨ (X.stack = X.env :: X.outer ∧ X.env.frame = some X.env.locals)
  exf : ∀ b ∈ X.ex, b ≠ X.env.locals ∧ ∀ x c, X.env.cells.lookup x = some c → c ≠ b
  bs : ∀ b o, X.base.get? b = some o → X.s₀.heap.get? b = some o ∧ X.H₀ b = none
  bsz : X.base.objs.size ≤ X.s₀.heap.objs.size
  noex : ∀ b o, X.base.get? b = some o → b ∉ X.ex
  exfs : ∀ b ∈ X.ex, b ∉ X.fs
  funs : X.s₀.heap.FunFrames X.base X.outer
  frf : ∀ b ∈ X.fs, X.H₀ b = none
structure Inv (X : Cx) (pins : List (Addr × Obj)) (σ : List (Option V)) (H : Hp) (s : Shared) : Prop where
  ok : X.Ok
  os : s.os = X.s₀.os
  bare : AllBare s.gens
  base : Un X.fs X.ex X.H₀ H X.s₀.heap s.heap
  loc : ∃ m, s.heap.Ns X.env.locals m ∧ ∀ (i : Nat) (x : Str) (v : V), X.N[i]? = some x → σ[i]? = some (some v) → Vis X.env.scope x → ∃ u, RelV v u ∧ Look X.env s.heap m x u
  cell : ∀ x c, X.env.cells.lookup x = some c → ∃ v, s.heap.IsCell c v
  free : H X.env.locals = none
  freeC : ∀ x c, X.env.cells.lookup x = some c → H c = none
  pin : ∀ p ∈ X.pn ++ pins, s.heap.get? p.1 = some p.2 ∧ H p.1 = none ∧ p.1 ≠ X.env.locals ∧ p.1 ∉ X.fs ∧ ∀ v, p.2.data ≠ .cell v
  hok : HOk X.prog X.w H s.heap
  len : σ.length = X.N.length
section
variable {X : Cx} {pins : List (Addr × Obj)} {σ : List (Option V)} {H H' : Hp} {s : Shared} {h' : Heap}
theorem Cx.Ok.nofr (ok : X.Ok) {b : Addr} {o : Obj} (e : X.base.get? b = some o) : b ∉ X.fs := fun hb => by
  have := (ok.funs.mem hb).1
  rw [e] at this; cases this
theorem Inv.bs (I : Inv X pins σ H s) : ∀ b o, X.base.get? b = some o → s.heap.get? b = some o ∧ H b = none := fun b o e =>
  ⟨I.base.keep b o (I.ok.bs b o e).1 (I.ok.bs b o e).2 (I.ok.nofr e) (I.ok.noex b o e), I.base.free b o (I.ok.bs b o e).1 (I.ok.bs b o e).2 (I.ok.noex b o e)⟩
theorem Inv.bk (I : Inv X pins σ H s) : ∀ b o, X.base.get? b = some o → s.heap.get? b = some o := fun b o e => (I.bs b o e).1
theorem Inv.mod (I : Inv X pins σ H s) : Mod X.K X.mg X.base := I.ok.mod
theorem Inv.kIn (I : Inv X pins σ H s) : X.K.In s.heap := I.ok.mod.kin.keeps I.bk
theorem Inv.nolimit (I : Inv X pins σ H s) : s.heap.NoLimit := I.ok.mod.nolimit.keeps I.bk
theorem Inv.fr (I : Inv X pins σ H s) : ∃ m, Fr X.base X.env.locals s.heap m :=
  let ⟨m, hn, _⟩ := I.loc
  ⟨m, hn, I.bk, Nat.le_trans I.ok.bsz I.ok.above⟩
theorem Inv.lt (I : Inv X pins σ H s) : X.env.locals < s.heap.objs.size := let ⟨_, hn, _⟩ := I.loc; hn.lt
theorem Inv.sz (I : Inv X pins σ H s) : X.s₀.heap.objs.size ≤ s.heap.objs.size := Nat.le_trans I.ok.above (Nat.le_of_lt I.lt)
theorem Inv.nofs (I : Inv X pins σ H s) {a : Addr} (h : s.heap.objs.size ≤ a) : a ∉ X.fs := fun hb => by
  obtain ⟨_, o, ho, _⟩ := I.ok.funs.mem hb
  exact absurd (Nat.lt_of_lt_of_le (Heap.lt_size ho) (Nat.le_trans I.sz h)) (Nat.lt_irrefl _)
theorem Inv.cne (I : Inv X pins σ H s) : ∀ x c, X.env.cells.lookup x = some c → c ≠ X.env.locals := fun x c e z => by
  obtain ⟨v, o, ho, hd⟩ := I.cell x c e
  obtain ⟨m, ⟨o', es, ep, ho', hd', _⟩, _⟩ := I.loc
  rw [z, ho'] at ho; cases ho; rw [hd'] at hd; cases hd
theorem Inv.funs (I : Inv X pins σ H s) : s.heap.FunFrames X.base X.outer := by
  have all : ∀ (l : List Env), (∀ b ∈ frs l, b ∈ X.fs) → X.s₀.heap.FunFrames X.base l → s.heap.FunFrames X.base l := by
    intro l
    induction l with
    | nil => intro _ _; trivial
    | cons env r ih =>
      intro hs hl
      obtain ⟨hk, ⟨L, o, hf, hn, ho, hd⟩, hr⟩ := hl
      have hL : L ∈ X.fs := hs L (by unfold frs; rw [List.filterMap_cons, hf]; exact List.mem_cons_self)
      obtain ⟨sl, e⟩ := I.base.slot L o ho (I.ok.frf L hL) hL fun z => I.ok.exfs L z hL
      exact ⟨hk, ⟨L, _, hf, hn, e, hd⟩, ih (fun b hb => hs b (by unfold frs; rw [List.filterMap_cons, hf]; exact List.mem_cons_of_mem _ hb)) hr⟩
  exact all X.outer (fun _ hb => hb) I.ok.funs
theorem Inv.stack (I : Inv X pins σ H s) : s.heap.FunFrames X.base X.stack := by
  rcases I.ok.stk with e | ⟨e, hf⟩
  · rw [e]; exact I.funs
  · rw [e]
    obtain ⟨m, hn, _⟩ := I.loc
    refine .cons (by rw [I.ok.kind]; decide) hf hn ?_ I.funs
    exact Heap.get?_none_of_le (Nat.le_trans I.ok.bsz I.ok.above)
theorem Inv.stkSub (I : Inv X pins σ H s) : ∀ b ∈ frs X.stack, b ∈ X.env.locals :: X.fs := fun b hb => by
  rcases I.ok.stk with e | ⟨e, hf⟩
  · rw [e] at hb; exact List.mem_cons_of_mem _ hb
  · rw [e] at hb
    unfold frs at hb
    rw [List.filterMap_cons, hf] at hb
    exact hb
theorem Inv.stkFree (I : Inv X pins σ H s) : ∀ b ∈ frs X.stack, H b = none := fun b hb => by
  rcases List.mem_cons.mp (I.stkSub b hb) with e | hb
  · rw [e]; exact I.free
  · obtain ⟨_, o, ho, _⟩ := I.ok.funs.mem hb
    exact I.base.free b o ho (I.ok.frf b hb) fun z => I.ok.exfs b z hb
theorem Inv.step {g' : Array GenState} {t' : Nat} {d' : Drawn} {ch : List Addr} (I : Inv X pins σ H s)
    (hch : ∀ b ∈ ch, (b ∈ X.ex ∨ X.s₀.heap.objs.size ≤ b) ∧ b ≠ X.env.locals ∧ (∀ x c, X.env.cells.lookup x = some c → c ≠ b) ∧ ∀ p ∈ X.pn ++ pins, p.1 ≠ b)
    (keep : ∀ b o, b ≠ X.env.locals → b ∉ X.fs → b ∉ ch → s.heap.get? b = some o → H b = none → h'.get? b = some o)
    (slot : ∀ b o, b ≠ X.env.locals → b ∈ X.fs → b ∉ ch → s.heap.get? b = some o → H b = none → ∃ sl, h'.get? b = some { o with slots := sl }) (free : ∀ b o, b ∉ ch → s.heap.get? b = some o → H b = none → H' b = none)
    (there : ∀ b o, b ∉ ch → s.heap.get? b = some o → ∃ o', h'.get? b = some o')
    (tups : ∀ b xs, H b = some (.tup xs) → H' b = some (.tup xs)) (frzs : ∀ b o u, H b = some (.frz o u) → H' b = some (.frz o u)) (tbls : ∀ b ps, H b = some (.tbl ps) → ∃ more, H' b = some (.tbl (ps ++ more)))
    (ns : ∀ m, s.heap.Ns X.env.locals m → h'.Ns X.env.locals m) (hok : HOk X.prog X.w H' h') (hg : AllBare g') :
    Inv X pins σ H' { s with heap := h', gens := g', drawn := d', toks := t' } := by
  have neL : ∀ b o, X.s₀.heap.get? b = some o → b ≠ X.env.locals := fun b o e => Nat.ne_of_lt (Nat.lt_of_lt_of_le (Heap.lt_size e) I.ok.above)
  have neC : ∀ b o, X.s₀.heap.get? b = some o → b ∉ X.ex → b ∉ ch := fun b o e hx hb => by
    rcases (hch b hb).1 with z | z
    · exact hx z
    · exact absurd (Nat.lt_of_lt_of_le (Heap.lt_size e) z) (Nat.lt_irrefl _)
  have cellK : ∀ x c, X.env.cells.lookup x = some c → ∀ v, s.heap.IsCell c v → h'.IsCell c v := fun x c e v ⟨o, ho, hd⟩ => by
    have nch : c ∉ ch := fun z => (hch c z).2.2.1 x c e rfl
    by_cases hc : c ∈ X.fs
    · obtain ⟨sl, q⟩ := slot c o (I.cne x c e) hc nch ho (I.freeC x c e)
      exact ⟨_, q, hd⟩
    · exact ⟨o, keep c o (I.cne x c e) hc nch ho (I.freeC x c e), hd⟩
  refine ⟨I.ok, I.os, hg, ⟨fun b o e n hb hx => ?_, fun b o e n hb hx => ?_, fun b o e n hx => ?_, fun b o e hx => ?_, fun b xs e => tups b xs (I.base.tups b xs e), fun b o xs e => frzs b o xs (I.base.frzs b o xs e), fun b ps e => ?_⟩, ?_, fun x c e => ?_, ?_, fun x c e => ?_, fun p hp => ?_, hok, I.len⟩
  · exact keep b o (neL b o e) hb (neC b o e hx) (I.base.keep b o e n hb hx) (I.base.free b o e n hx)
  · obtain ⟨sl, e1⟩ := I.base.slot b o e n hb hx
    obtain ⟨sl', e2⟩ := slot b _ (neL b o e) hb (neC b o e hx) e1 (I.base.free b o e n hx)
    exact ⟨sl', e2⟩
  · obtain ⟨o', e1⟩ := I.base.there b o e hx
    exact free b o' (neC b o e hx) e1 (I.base.free b o e n hx)
  · obtain ⟨o', e1⟩ := I.base.there b o e hx
    exact there b o' (neC b o e hx) e1
  · obtain ⟨m1, e1⟩ := I.base.tbls b ps e
    obtain ⟨m2, e2⟩ := tbls b _ e1
    exact ⟨m1 ++ m2, by rw [e2, Array.append_assoc]⟩
  · obtain ⟨m, hn, hl⟩ := I.loc
    refine ⟨m, ns m hn, fun i x v e1 e2 e3 => ?_⟩
    obtain ⟨u, r, l⟩ := hl i x v e1 e2 e3
    refine ⟨u, r, ?_⟩
    rcases l with l | ⟨k, c, e, z⟩
    · exact .inl l
    · exact .inr ⟨k, c, e, cellK x c e _ z⟩
  · obtain ⟨v, z⟩ := I.cell x c e
    exact ⟨v, cellK x c e v z⟩
  · obtain ⟨m, ⟨o, _, _, ho, _⟩, _⟩ := I.loc
    exact free _ o (fun z => (hch _ z).2.1 rfl) ho I.free
  · obtain ⟨v, o, ho, hd⟩ := I.cell x c e
    exact free c o (fun z => (hch c z).2.2.1 x c e rfl) ho (I.freeC x c e)
  · obtain ⟨e, n, ne, nf, d⟩ := I.pin p hp
    have nch : p.1 ∉ ch := fun z => (hch p.1 z).2.2.2 p hp rfl
    exact ⟨keep p.1 p.2 ne nf nch e n, free p.1 p.2 nch e n, ne, nf, d⟩
theorem Inv.un {t' : Nat} (I : Inv X pins σ H s) (u : Un X.fs [] H H' s.heap h') (hok : HOk X.prog X.w H' h') : Inv X pins σ H' { s with heap := h', toks := t' } := by
  obtain ⟨m, ⟨o, es, ep, ho, r⟩, _⟩ := id I.loc
  obtain ⟨sl, hL⟩ := u.any ho I.free (by simp)
  exact I.step (g' := s.gens) (d' := s.drawn) (ch := []) (fun _ z => nomatch z) (fun b o _ hb _ e n => u.keep b o e n hb (by simp)) (fun b o _ hb _ e n => u.slot b o e n hb (by simp)) (fun b o _ e n => u.free b o e n (by simp)) (fun b o _ e => u.there b o e (by simp)) u.tups u.frzs u.tbls (fun m' hm => by
    obtain ⟨o', es', ep', ho', r'⟩ := hm
    rw [ho] at ho'; cases ho'
    exact ⟨_, es', ep', hL, r'⟩) hok I.bare
theorem Inv.call {g' : Array GenState} {t' : Nat} {d' : Drawn} {ch : List Addr} (I : Inv X pins σ H s) (u : Un (frs X.stack) ch H H' s.heap h') (hok : HOk X.prog X.w H' h') (hg : AllBare g')
    (hch : ∀ b ∈ ch, (b ∈ X.ex ∨ X.s₀.heap.objs.size ≤ b) ∧ b ≠ X.env.locals ∧ (∀ x c, X.env.cells.lookup x = some c → c ≠ b) ∧ ∀ p ∈ X.pn ++ pins, p.1 ≠ b) :
    Inv X pins σ H' { s with heap := h', gens := g', drawn := d', toks := t' } := by
  obtain ⟨m, ⟨o, es, ep, ho, r⟩, _⟩ := id I.loc
  obtain ⟨sl, hL⟩ := u.any ho I.free fun z => (hch _ z).2.1 rfl
  exact I.step (ch := ch) hch (fun b o hL hb hc e n => u.keep b o e n (fun z => (List.mem_cons.mp (I.stkSub b z)).elim hL hb) hc) (fun b o _ _ hc e n => u.any e n hc) (fun b o hc e n => u.free b o e n hc) (fun b o hc e => u.there b o e hc) u.tups u.frzs u.tbls (fun m' hm => by
    obtain ⟨o', es', ep', ho', r'⟩ := hm
    rw [ho] at ho'; cases ho'
    exact ⟨_, es', ep', hL, r'⟩) hok hg
theorem Inv.turned {t' : Nat} {it : Addr} (I : Inv X pins σ H s) (k : ∀ b o, b ≠ it → s.heap.get? b = some o → h'.get? b = some o) (hn : H it = none) (hL : it ≠ X.env.locals)
    (h1 : it ∈ X.ex ∨ X.s₀.heap.objs.size ≤ it) (h2 : ∀ x c, X.env.cells.lookup x = some c → c ≠ it) (h3 : ∀ p ∈ X.pn ++ pins, p.1 ≠ it) : Inv X pins σ H { s with heap := h', toks := t' } := by
  have nit : ∀ b u, H b = some u → b ≠ it := fun b u e z => by rw [z, hn] at e; cases e
  refine I.step (g' := s.gens) (d' := s.drawn) (ch := [it]) (fun b hb => ?_) (fun b o _ _ hc e _ => k b o (fun z => hc (by simp [z])) e) (fun b o _ _ hc e _ => ⟨o.slots, k b o (fun z => hc (by simp [z])) e⟩) (fun _ _ _ _ n => n)
    (fun b o hc e => ⟨o, k b o (fun z => hc (by simp [z])) e⟩) (fun _ _ e => e) (fun _ _ _ e => e) (fun b ps e => ⟨#[], by rw [e]; simp⟩) (fun m hm => ?_) (fun b u e => ?_) I.bare
  · have e : b = it := by simpa using hb
    subst e
    exact ⟨h1, hL, h2, h3⟩
  · obtain ⟨o, es, ep, ho, r⟩ := hm
    exact ⟨o, es, ep, k _ o (Ne.symm hL) ho, r⟩
  · refine (I.hok b u e).stay (fun c v hc q => k c v ?_ q) (fun _ q => q) fun _ _ q => q
    rcases hc with z | z
    · rw [z]; exact nit b u e
    · exact nit c _ z
theorem Inv.tok (I : Inv X pins σ H s) (t : Nat) : Inv X pins σ H { s with toks := t } := I.un (h' := s.heap) (t' := t) Un.refl I.hok
theorem Inv.kept {t' : Nat} (I : Inv X pins σ H s) (k : ∀ b u, s.heap.get? b = some u → h'.get? b = some u) : Inv X pins σ H { s with heap := h', toks := t' } := I.un (Un.kept k) (I.hok.kept k)
theorem Inv.laid {a : Addr} {o : HO} {t' : Nat} (I : Inv X pins σ H s) (k : ∀ b u, s.heap.get? b = some u → h'.get? b = some u) (hp : s.heap.objs.size ≤ a) (new : ObjOk X.prog X.w (upd H a o) h' a o) :
    Inv X pins σ (upd H a o) { s with heap := h', toks := t' } := I.un (Un.laid k hp (I.hok.fresh hp)) (I.hok.laid k hp new)
theorem Inv.write {x e : Addr} {o : HO} {t' : Nat} (I : Inv X pins σ H s) (mu : Mut (H x)) (he : e = x ∨ H e = some (.own x)) (k : ∀ b u, b ≠ e → s.heap.get? b = some u → h'.get? b = some u) (heo : ∃ u, h'.get? e = some u)
    (new : ObjOk X.prog X.w (upd H x o) h' x o) : Inv X pins σ (upd H x o) { s with heap := h', toks := t' } := I.un (Un.write mu he k heo) (I.hok.write mu he k heo new)
theorem Inv.weak {σ' : List (Option V)} (I : Inv X pins σ H s) (hl : σ'.length = σ.length) (w : ∀ (i : Nat) v, σ'[i]? = some (some v) → σ[i]? = some (some v)) : Inv X pins σ' H s :=
  ⟨I.ok, I.os, I.bare, I.base, let ⟨m, hn, hl'⟩ := I.loc; ⟨m, hn, fun i x v e1 e2 e3 => hl' i x v e1 (w i v e2) e3⟩, I.cell, I.free, I.freeC, I.pin, I.hok, hl.trans I.len⟩
theorem Inv.pins_of {pins' : List (Addr × Obj)} (I : Inv X pins σ H s) (h : ∀ p ∈ pins', s.heap.get? p.1 = some p.2 ∧ H p.1 = none ∧ p.1 ≠ X.env.locals ∧ p.1 ∉ X.fs ∧ ∀ v, p.2.data ≠ .cell v) : Inv X pins' σ H s :=
  ⟨I.ok, I.os, I.bare, I.base, I.loc, I.cell, I.free, I.freeC, fun p hp => (List.mem_append.mp hp).elim (fun z => I.pin p (List.mem_append_left _ z)) (h p), I.hok, I.len⟩
theorem zafe {N : List Str} (hN : N.Nodup) {i j : Nat} {x : Str} (a : N[i]? = some x) (b : N[j]? = some x) : i = j := by
  obtain ⟨h1, e1⟩ := List.getElem?_eq_some_iff.mp a
  obtain ⟨h2, e2⟩ := List.getElem?_eq_some_iff.mp b
  exact (List.getElem_inj hN).mp (e1.trans e2.symm)
theorem zadl {M : Model} {A : Around} {E : Value → Shared → Prop} {i : Nat} {x : Str} {v : V} {u : Value} {Q : Unit → Shared → Prop} (I : Inv X pins σ H s) (hN : X.N.Nodup) (hi : X.N[i]? = some x) (hx : Loc X.env.scope x) (r : RelV v u)
    (h : ∀ s', Inv X pins (σ.set i (some v)) H s' → (∃ a, Heap.SameBut a s.heap s'.heap ∧ (a = X.env.locals ∨ X.env.cells.lookup x = some a)) → Q () s') (hf : X.fn x = true ∨ X.env.scope.names.lookup x = some .local := by first | exact .inl rfl | exact .inr rfl | assumption) : wpAny M A (storeName X.env x u) Q E s := by
  obtain ⟨m, hn, hl⟩ := id I.loc
  have hcls : (X.env.scope.kind == .class || (X.env.scope.kind == .module && X.env.locals != X.env.globals)) = false := by rw [I.ok.kind]; rfl
  have hiσ : i < σ.length := by rw [I.len]; exact (List.getElem?_eq_some_iff.mp hi).1
  have cne := I.cne
  have tracked : ∀ {a : Addr} {h' : Heap}, (∃ o, s.heap.get? a = some o ∧ H a = none) → Heap.SameBut a s.heap h' → HOk X.prog X.w H h' := fun {a h'} ha hs b ob e => by
    obtain ⟨_, _, hfree⟩ := ha
    refine (I.hok b ob e).stay (fun c w' hc q => (hs.2 c ?_).trans q) (fun _ q => q) fun _ _ q => q
    rintro rfl
    rcases hc with rfl | hc
    · rw [hfree] at e; cases e
    · rw [hfree] at hc; cases hc
  rcases hx with hk | hk
  · refine wpAny_storeName_local hk hn (fun h' hn' hs => ?_) hcls
    obtain ⟨oL, _, _, hoL, _⟩ := id hn
    refine h _ ⟨I.ok, I.os, I.bare, ⟨fun b o e n hb hx => ?_, fun b o e n hb hx => ?_, I.base.free, fun b o e hx => ?_, I.base.tups, I.base.frzs, I.base.tbls⟩, ⟨_, hn', fun j y v' e1 e2 e3 => ?_⟩, fun y c e => ?_, I.free, I.freeC, fun p hp => ?_, tracked ⟨oL, hoL, I.free⟩ hs, by simpa using I.len⟩ ⟨_, hs, .inl rfl⟩
    · exact (hs.2 b (Nat.ne_of_lt (Nat.lt_of_lt_of_le (Heap.lt_size e) I.ok.above))).trans (I.base.keep b o e n hb hx)
    · obtain ⟨sl, e1⟩ := I.base.slot b o e n hb hx
      exact ⟨sl, (hs.2 b (Nat.ne_of_lt (Nat.lt_of_lt_of_le (Heap.lt_size e) I.ok.above))).trans e1⟩
    · obtain ⟨o', e1⟩ := I.base.there b o e hx
      exact ⟨o', (hs.2 b (Nat.ne_of_lt (Nat.lt_of_lt_of_le (Heap.lt_size e) I.ok.above))).trans e1⟩
    · by_cases hj : j = i
      · subst hj
        rw [hi] at e1; cases e1
        rw [List.getElem?_set_self hiσ] at e2
        cases e2
        exact ⟨u, r, .inl ⟨hk, by simp⟩⟩
      · rw [List.getElem?_set_ne (Ne.symm hj)] at e2
        obtain ⟨u', r', q⟩ := hl j y v' e1 e2 e3
        refine ⟨u', r', ?_⟩
        rcases q with ⟨k, e⟩ | ⟨k, c, e, z⟩
        · refine .inl ⟨k, ?_⟩
          have : y ≠ x := fun e => hj (zafe hN e1 (e ▸ hi))
          simp [this, e]
        · exact .inr ⟨k, c, e, z.sameBut hs (cne y c e)⟩
    · obtain ⟨w', z⟩ := I.cell y c e
      exact ⟨w', z.sameBut hs (cne y c e)⟩
    · obtain ⟨e, n, ne, nf, d⟩ := I.pin p hp
      exact ⟨(hs.2 p.1 ne).trans e, n, ne, nf, d⟩
  · have hfn : X.fn x = true := by
      rcases hf with z | z
      · exact z
      · rw [z] at hk; cases hk
    obtain ⟨c, hc⟩ := I.ok.has x (.inl hk)
    obtain ⟨w', z⟩ := I.cell x c hc
    refine wpAny_storeName_cell I.ok.kind hk hc z (fun h' hc' hs => ?_)
    obtain ⟨oc, hoc, hocd⟩ := id z
    refine h { s with heap := h' } ⟨I.ok, I.os, I.bare, ⟨fun b o e n hb hx => ?_, fun b o e n hb hx => ?_, I.base.free, fun b o e hx => ?_, I.base.tups, I.base.frzs, I.base.tbls⟩, ⟨m, hn.sameBut hs (Ne.symm (cne x c hc)), fun j y v' e1 e2 e3 => ?_⟩, fun y c' e => ?_, I.free, I.freeC, fun p hp => ?_, tracked ⟨oc, hoc, I.freeC x c hc⟩ hs, by simpa using I.len⟩ ⟨c, hs, .inr hc⟩
    · exact (hs.2 b (Nat.ne_of_lt (Nat.lt_of_lt_of_le (Heap.lt_size e) (I.ok.cab x c hfn hc)))).trans (I.base.keep b o e n hb hx)
    · obtain ⟨sl, e1⟩ := I.base.slot b o e n hb hx
      exact ⟨sl, (hs.2 b (Nat.ne_of_lt (Nat.lt_of_lt_of_le (Heap.lt_size e) (I.ok.cab x c hfn hc)))).trans e1⟩
    · obtain ⟨o', e1⟩ := I.base.there b o e hx
      exact ⟨o', (hs.2 b (Nat.ne_of_lt (Nat.lt_of_lt_of_le (Heap.lt_size e) (I.ok.cab x c hfn hc)))).trans e1⟩
    · by_cases hj : j = i
      · subst hj
        rw [hi] at e1; cases e1
        rw [List.getElem?_set_self hiσ] at e2
        cases e2
        exact ⟨u, r, .inr ⟨.inl hk, c, hc, hc'⟩⟩
      · rw [List.getElem?_set_ne (Ne.symm hj)] at e2
        obtain ⟨u', r', q⟩ := hl j y v' e1 e2 e3
        refine ⟨u', r', ?_⟩
        rcases q with q | ⟨k, c', e, z'⟩
        · exact .inl q
        · refine .inr ⟨k, c', e, z'.sameBut hs ?_⟩
          rintro rfl
          exact hj (zafe hN e1 (I.ok.inj _ _ _ e hc ▸ hi))
    · by_cases hcc : c' = c
      · subst hcc; exact ⟨_, hc'⟩
      · obtain ⟨w2, z2⟩ := I.cell y c' e
        exact ⟨w2, z2.sameBut hs hcc⟩
    · obtain ⟨e, n, ne, nf, d⟩ := I.pin p hp
      refine ⟨(hs.2 p.1 ?_).trans e, n, ne, nf, d⟩
      intro q
      rw [q, hoc] at e
      have q' : oc = p.2 := Option.some.inj e
      exact d w' (by rw [← q']; exact hocd)
theorem zaet {M : Model} {A : Around} {E : Value → Shared → Prop} {i : Nat} {x : Str} {v : V} {u : Value} {Q : Unit → Shared → Prop} (I : Inv X pins σ H s) (hN : X.N.Nodup) (hi : X.N[i]? = some x) (hx : Loc X.env.scope x) (r : RelV v u)
    (h : ∀ s', Inv X pins (σ.set i (some v)) H s' → Q () s') (hf : X.fn x = true ∨ X.env.scope.names.lookup x = some .local := by first | exact .inl rfl | exact .inr rfl | assumption) : wpAny M A (storeName X.env x u) Q E s :=
  zadl I hN hi hx r (fun s' I' _ => h s' I') hf
theorem Inv.call' {s' : Shared} {ch : List Addr} (I : Inv X pins σ H s) (ho : s'.os = s.os) (u : Un (frs X.stack) ch H H' s.heap s'.heap) (hok : HOk X.prog X.w H' s'.heap) (hg : AllBare s'.gens)
    (hch : ∀ b ∈ ch, (b ∈ X.ex ∨ X.s₀.heap.objs.size ≤ b) ∧ b ≠ X.env.locals ∧ (∀ x c, X.env.cells.lookup x = some c → c ≠ b) ∧ ∀ p ∈ X.pn ++ pins, p.1 ≠ b) : Inv X pins σ H' s' := by
  obtain ⟨h', g', d', t', o'⟩ := s'
  have e : o' = s.os := ho
  subst e
  exact I.call (g' := g') (t' := t') (d' := d') u hok hg hch
end
abbrev XK := Value → Option Addr → Hp → Prop
abbrev St := List (Option V)
abbrev VK := V → Hp → Prop
abbrev TE := St → Hp → VK → Prop
abbrev TT := St → Hp → (Bool → Hp → Prop) → Prop
abbrev TA := St → Hp → (List V → Hp → Prop) → Prop
structure Ends where
  nx : St → Hp → Prop
  rt : VK
  bk : St → Hp → Prop := fun _ _ => False
  ct : St → Hp → Prop := fun _ _ => False
abbrev TS := Ends → St → Hp → Prop
def EP (X : Cx) (pins : List (Addr × Obj)) (σ : St) (Q : VK) (u : Value) (s' : Shared) : Prop := ∃ v H', Inv X pins σ H' s' ∧ RelV v u ∧ Q v H'
def TP (X : Cx) (pins : List (Addr × Obj)) (σ : St) (Q : Bool → Hp → Prop) (b : Bool) (s' : Shared) : Prop := ∃ H', Inv X pins σ H' s' ∧ Q b H'
def AP (X : Cx) (pins : List (Addr × Obj)) (σ : St) (Q : List V → Hp → Prop) (us : List Value) (s' : Shared) : Prop := ∃ vs H', Inv X pins σ H' s' ∧ Vals vs us ∧ Q vs H'
def SP (X : Cx) (pins : List (Addr × Obj)) (D : Ends) (f : Flow) (s' : Shared) : Prop :=
  match f with
  | .next => ∃ σ' H', Inv X pins σ' H' s' ∧ D.nx σ' H'
  | .brk => ∃ σ' H', Inv X pins σ' H' s' ∧ D.bk σ' H'
  | .cont => ∃ σ' H', Inv X pins σ' H' s' ∧ D.ct σ' H'
  | .ret u => ∃ v σ' H', Inv X pins σ' H' s' ∧ RelV v u ∧ D.rt v H'
def PE (X : Cx) (e : Expr) (t : TE) : Prop :=
  ∀ (pins : List (Addr × Obj)) (s : Shared) (σ : St) (H : Hp) (Q : VK), Inv X pins σ H s → t σ H Q → wpAny (model X.prog X.w) X.A (eval e X.env) (EP X pins σ Q) X.xe s
def PT (X : Cx) (e : Expr) (t : TT) : Prop :=
  ∀ (pins : List (Addr × Obj)) (s : Shared) (σ : St) (H : Hp) (Q : Bool → Hp → Prop), Inv X pins σ H s → t σ H Q → wpAny (model X.prog X.w) X.A (isTrue e X.env (eval e X.env)) (TP X pins σ Q) X.xe s
def PW (X : Cx) (e : Expr) (t : TT) : Prop :=
  ∀ (whole : Sem Value) (pins : List (Addr × Obj)) (s : Shared) (σ : St) (H : Hp) (Q : Bool → Hp → Prop), Inv X pins σ H s → t σ H Q → wpAny (model X.prog X.w) X.A (isTrue e X.env whole) (TP X pins σ Q) X.xe s
theorem PW.pt {X : Cx} {e : Expr} {t : TT} (h : PW X e t) : PT X e t := h _
def PA (X : Cx) (es : List Expr) (t : TA) : Prop :=
  ∀ (pos : Pos) (pins : List (Addr × Obj)) (s : Shared) (σ : St) (H : Hp) (Q : List V → Hp → Prop), Inv X pins σ H s → t σ H Q → wpAny (model X.prog X.w) X.A (spliced (backTo pos (starEach es X.env))) (AP X pins σ Q) X.xe s
def PS (X : Cx) (st : Stmt) (t : TS) : Prop :=
  ∀ (pins : List (Addr × Obj)) (s : Shared) (σ : St) (H : Hp) (D : Ends), Inv X pins σ H s → t D σ H → wpAny (model X.prog X.w) X.A (exec st X.env) (SP X pins D) X.xe s
def PSs (X : Cx) (st : List Stmt) (t : TS) : Prop :=
  ∀ (pins : List (Addr × Obj)) (s : Shared) (σ : St) (H : Hp) (D : Ends), Inv X pins σ H s → t D σ H → wpAny (model X.prog X.w) X.A (execs st X.env) (SP X pins D) X.xe s
theorem thn {α : Type} {t : Sem α} {Q Q' : α → Shared → Prop} {M : Model} {A : Around} {E : Value → Shared → Prop} {s : Shared} (h : wpAny M A t Q E s) (hQ : ∀ a s, Q a s → Q' a s) : wpAny M A t Q' E s := wpAny_mono h hQ fun _ _ x => x
end L2
namespace L2
open PySem PySem.Spec PyProof.Rows
section
variable {X : Cx}
theorem bin {a b : Expr} {ta tb : TE} (ha : PE X a ta) (hb : PE X b tb) {pins : List (Addr × Obj)} {s : Shared} {σ : St} {H : Hp} {R : V → V → Hp → Prop} (I : Inv X pins σ H s) (h : ta σ H fun x H1 => tb σ H1 fun y H2 => R x y H2)
    {α : Type} {Q : α → Shared → Prop} {f : Value → Value → Sem α}
    (hf : ∀ v u s2 x y H2, Inv X pins σ H2 s2 → RelV x v → RelV y u → R x y H2 → wpAny (model X.prog X.w) X.A (f v u) Q X.xe s2) :
    wpAny (model X.prog X.w) X.A (eval a X.env) (fun v s₁ => wpAny (model X.prog X.w) X.A (eval b X.env) (fun u s₂ => wpAny (model X.prog X.w) X.A (f v u) Q X.xe s₂) X.xe s₁) X.xe s := by
  refine thn (ha pins s σ H _ I h) fun v s1 ⟨x, H1, I1, r1, q1⟩ => ?_
  refine thn (hb pins s1 σ H1 _ I1 q1) fun u s2 ⟨y, H2, I2, r2, q2⟩ => ?_
  exact hf v u s2 x y H2 I2 r1 r2 q2
def tVar (i : Nat) : TE := fun σ H Q => ∃ v, σ[i]? = some (some v) ∧ Q v H
def tC (v : V) : TE := fun _ H Q => Q v H
theorem pe_var {i : Nat} {x : Str} {pos : Pos} (hN : X.N[i]? = some x) (hv : Vis X.env.scope x) (hd : (x == ("__debug__" : Str)) = false := by decide) (hcd : (x == ("__classdict__" : Str)) = false := by decide) : PE X (.Name x pos) (tVar i) := by
  intro pins s σ H Q I h
  obtain ⟨v, e, h⟩ := h
  obtain ⟨m, hn, hl⟩ := I.loc
  obtain ⟨u, r, l⟩ := hl i x v hN e hv
  have fin : EP X pins σ Q u s := ⟨v, H, I, r, h⟩
  rcases l with ⟨hk, hm⟩ | ⟨hk, c, hc, hcell⟩
  · exact wpAny_Name (wpAny_loadName_local I.ok.kind hk hn hm fin) hd
  · rcases hk with hk | hk
    · exact wpAny_Name (wpAny_loadName_cell I.ok.kind hk hc hcell fin) hd
    · exact wpAny_Name (wpAny_loadName_free I.ok.kind hk hc hcell fin hcd) hd
theorem pe_int {i j pos} : PE X (.Constant (.int i) j pos) (tC (.int i)) := fun _ _ _ H _ I h => wpAny_Constant_int ⟨.int i, H, I.tok _, ⟨_, rfl⟩, h⟩
theorem pe_bl {b j pos} : PE X (.Constant (.bool b) j pos) (tC (.bl b)) := fun _ _ _ H _ I h => Constant_bool ⟨.bl b, H, I, rfl, h⟩
theorem pe_non {j pos} : PE X (.Constant .none j pos) (tC .non) := fun _ _ _ H _ I h => Constant_none ⟨.non, H, I, rfl, h⟩
theorem pe_str {x j pos} : PE X (.Constant (.str x) j pos) (tC (.str x)) := fun _ _ _ H _ I h => Calls.Constant_str ⟨.str x, H, I.tok _, ⟨_, rfl⟩, h⟩
def Gl (X : Cx) (x : Str) : Prop := X.env.kindOf x = some .globalImplicit
theorem ld_glob {E : Value → Shared → Prop} {pins : List (Addr × Obj)} {s : Shared} {σ : St} {H : Hp} {x : Str} {u : Value} {pos : Pos} {Q : Value → Shared → Prop} (I : Inv X pins σ H s) (hg : Gl X x) (hm : X.mg x = some u) (h : Q u s)
    (hd : (x == ("__debug__" : Str)) = false := by decide) : wpAny (model X.prog X.w) X.A (eval (.Name x pos) X.env) Q E s :=
  Calls.Name_function_global I.ok.kind hg (Calls.loadGlobal_global (by rw [I.ok.glob]; exact I.mod.glob.keeps I.bk) hm h) hd
theorem ld_blt {E : Value → Shared → Prop} {pins : List (Addr × Obj)} {s : Shared} {σ : St} {H : Hp} {x : Str} {u : Value} {pos : Pos} {Q : Value → Shared → Prop} (I : Inv X pins σ H s) (hg : Gl X x) (hm : X.mg x = none) (hv : bootBuiltins x = some u) (h : Q u s)
    (hn : x ≠ "__name__" := by decide) (hd : (x == ("__debug__" : Str)) = false := by decide) : wpAny (model X.prog X.w) X.A (eval (.Name x pos) X.env) Q E s := by
  obtain ⟨mb, h1, h2⟩ := I.mod.blt
  exact Calls.Name_function_global I.ok.kind hg (Calls.loadGlobal_builtin (by rw [I.ok.glob]; exact I.mod.glob.keeps I.bk) hm (by rw [I.ok.blt]; exact h1.keeps I.bk) ((h2 x hn).trans hv) h) hd
theorem pe_bltn {x : Str} {v : V} {u : Value} {pos : Pos} (hg : Gl X x) (hm : X.mg x = none) (hv : bootBuiltins x = some u) (r : RelV v u) (hn : x ≠ "__name__" := by decide) (hd : (x == ("__debug__" : Str)) = false := by decide) : PE X (.Name x pos) (tC v) :=
  fun _ _ _ H _ I h => ld_blt I hg hm hv ⟨v, H, I, r, h⟩ hn hd
variable {a b : Expr} {ta tb : TE} {pos : Pos}
variable {tA tB' : TT} {rest : List Expr}
def tAnd (t u : TT) : TT := fun σ H Q => t σ H fun c H1 => if c = true then u σ H1 Q else Q false H1
def tOr (t u : TT) : TT := fun σ H Q => t σ H fun c H1 => if c = true then Q true H1 else u σ H1 Q
def tNot (t : TT) : TT := fun σ H Q => t σ H fun c H1 => Q (!c) H1
theorem pw_and1 (ha : PT X a tA) : PW X (.BoolOp .And [a] pos) tA := by
  intro wh pins s σ H Q I h
  refine isTrue_and (thn (ha pins s σ H Q I h) fun c s1 e => ?_)
  cases c with
  | true => exact isTrue_and_nil e
  | false => exact e
theorem pw_or1 (ha : PT X a tA) : PW X (.BoolOp .Or [a] pos) tA := by
  intro wh pins s σ H Q I h
  refine isTrue_or (thn (ha pins s σ H Q I h) fun c s1 e => ?_)
  cases c with
  | false => exact isTrue_or_nil e
  | true => exact e
theorem pw_and (ha : PT X a tA) (hb : PW X (.BoolOp .And (b :: rest) pos) tB') : PW X (.BoolOp .And (a :: b :: rest) pos) (tAnd tA tB') := by
  intro wh pins s σ H Q I h
  refine isTrue_and (thn (ha pins s σ H _ I h) fun c s1 ⟨H1, I1, q1⟩ => ?_)
  cases c with
  | true => exact hb wh pins s1 σ H1 Q I1 q1
  | false => exact ⟨H1, I1, q1⟩
theorem pw_or (ha : PT X a tA) (hb : PW X (.BoolOp .Or (b :: rest) pos) tB') : PW X (.BoolOp .Or (a :: b :: rest) pos) (tOr tA tB') := by
  intro wh pins s σ H Q I h
  refine isTrue_or (thn (ha pins s σ H _ I h) fun c s1 ⟨H1, I1, q1⟩ => ?_)
  cases c with
  | true => exact ⟨H1, I1, q1⟩
  | false => exact hb wh pins s1 σ H1 Q I1 q1
theorem pt_not (ha : PT X a tA) : PT X (.UnaryOp .Not a pos) (tNot tA) := by
  intro pins s σ H Q I h
  exact isTrue_not (ha pins s σ H (fun c H1 => Q (!c) H1) I h)
def tAndV (ta tb : TE) : TE := fun σ H Q => ta σ H fun x H1 => ∃ c, x = .bl c ∧ if c = true then tb σ H1 Q else Q (.bl false) H1
theorem pe_one {op} {t : TE} (h : PE X a t) : PE X (.BoolOp op [a] pos) t := fun pins s σ H Q I hw => BoolOp_one (h pins s σ H Q I hw)
theorem pe_and (ha : PE X a ta) (hb : PE X (.BoolOp .And (b :: rest) pos) tb) : PE X (.BoolOp .And (a :: b :: rest) pos) (tAndV ta tb) := by
  intro pins s σ H Q I h
  refine BoolOp_and (thn (ha pins s σ H _ I h) fun v s1 ⟨x, H1, I1, r1, q1⟩ => ?_)
  obtain ⟨c, rfl, q1⟩ := q1
  cases r1
  refine wpAny_truthy_bool ?_
  cases c with
  | true => exact hb pins s1 σ H1 Q I1 q1
  | false => exact ⟨.bl false, H1, I1, rfl, q1⟩
def tIf (t : TT) (ta tb : TE) : TE := fun σ H Q => t σ H fun c H1 => if c = true then ta σ H1 Q else tb σ H1 Q
theorem pe_ifExp {c : Expr} (hc : PT X c tA) (ha : PE X a ta) (hb : PE X b tb) : PE X (.IfExp c a b pos) (tIf tA ta tb) := by
  intro pins s σ H Q I h
  refine wpAny_IfExp (thn (hc pins s σ H _ I h) fun d s1 ⟨H1, I1, q1⟩ => ?_)
  cases d with
  | true => exact ha pins s1 σ H1 Q I1 q1
  | false => exact hb pins s1 σ H1 Q I1 q1
end
end L2
namespace L2
open PySem PySem.Spec PyProof.Rows
def SqL (K : PySem.W.Frag) (H : Hp) (a : Addr) (xs : List V) : Prop :=
  Rd H a (.lst xs) ∨
    ∃ (o : Obj) (its : Array Value) (n : Nat), K.lookup a = some o ∧ o.cls = .type "list" ∧ o.dict = none ∧ o.data = .seq its n ∧ its.size ≤ sizeLine ∧ Vals xs its.toList
def SqT (K : PySem.W.Frag) (H : Hp) (a : Addr) (xs : List V) : Prop :=
  Rd H a (.tup xs) ∨
    ∃ (o : Obj) (its : Array Value) (n : Nat), K.lookup a = some o ∧ o.cls = .type "tuple" ∧ o.data = .seq its n ∧ its.size ≤ sizeLine ∧ Vals xs its.toList
def absV : Value → Option V
  | .none => some .non
  | .bool b => some (.bl b)
  | .int i _ => some (.int i)
  | .str x _ => some (.str x)
  | .bytes b _ => some (.byt b)
  | .float b _ => some (.flt b)
  | .ref a => some (.ref a)
  | .type n => some (.ty n)
  | _ => none
theorem RelV.abs {x : V} {u : Value} (r : RelV x u) : absV u = some x := by
  cases x with
  | non => cases r; rfl
  | bl _ => cases r; rfl
  | int _ => obtain ⟨t, rfl⟩ := r; rfl
  | str _ => obtain ⟨t, rfl⟩ := r; rfl
  | byt _ => obtain ⟨t, rfl⟩ := r; rfl
  | flt _ => obtain ⟨t, rfl⟩ := r; rfl
  | ref _ => cases r; rfl
  | ty _ => cases r; rfl
theorem RelV.inj {x y : V} {u : Value} (r : RelV x u) (q : RelV y u) : x = y := Option.some.inj (r.abs.symm.trans q.abs)
theorem Vals.inj : ∀ {xs ys : List V} {us : List Value}, Vals xs us → Vals ys us → xs = ys
  | _, _, _, .nil, .nil => rfl
  | _, _, _, .cons r t, .cons r' t' => by rw [r.inj r', Vals.inj t t']
section
variable {X : Cx} {pins : List (Addr × Obj)} {σ : St} {H : Hp} {s : Shared} {a : Addr} {xs ys : List V}
theorem SqL.of {K : PySem.W.Frag} (h : H a = some (.lst xs)) : SqL K H a xs := .inl (.inl h)
theorem SqT.of {K : PySem.W.Frag} (h : H a = some (.tup xs)) : SqT K H a xs := .inl (.inl h)
theorem Inv.list (I : Inv X pins σ H s) (h : SqL X.K H a xs) : ∃ its : List Value, Vals xs its ∧ PlainL s.heap a its.toArray ∧ xs.length ≤ sizeLine := by
  rcases h with h | ⟨o, its, n, hk, hc, hd, hs, hz, r⟩
  · obtain ⟨z, its, n, r, e⟩ := h.ok I.hok
    exact ⟨its, r, ⟨_, n, e, rfl, rfl, rfl⟩, z⟩
  · refine ⟨its.toList, r, ⟨o, n, I.kIn a o hk, hc, hd, by simpa using hs⟩, ?_⟩
    have e := r.length
    simp only [Array.length_toList] at e
    omega
theorem Inv.tuple (I : Inv X pins σ H s) (h : SqT X.K H a xs) : ∃ its : List Value, Vals xs its ∧ IsTup s.heap a its.toArray ∧ xs.length ≤ sizeLine := by
  rcases h with h | ⟨o, its, n, hk, hc, hs, hz, r⟩
  · obtain ⟨z, its, r, p⟩ := h.ok I.hok
    exact ⟨its, r, p, z⟩
  · refine ⟨its.toList, r, ⟨o, I.kIn a o hk, hc, n, by simpa using hs⟩, ?_⟩
    have e := r.length
    simp only [Array.length_toList] at e
    omega
theorem Inv.list_inj (I : Inv X pins σ H s) (h : SqL X.K H a xs) (h' : SqL X.K H a ys) : xs = ys := by
  obtain ⟨its, r, ⟨o, n, e, _, _, d⟩, _⟩ := I.list h
  obtain ⟨its', r', ⟨o', n', e', _, _, d'⟩, _⟩ := I.list h'
  rw [e] at e'; cases e'
  rw [d] at d'
  injection d' with d1 _
  have : its = its' := by simpa using congrArg Array.toList d1
  subst this
  exact r.inj r'
theorem Inv.tuple_inj (I : Inv X pins σ H s) (h : SqT X.K H a xs) (h' : SqT X.K H a ys) : xs = ys := by
  obtain ⟨its, r, ⟨o, e, _, n, d⟩, _⟩ := I.tuple h
  obtain ⟨its', r', ⟨o', e', _, n', d'⟩, _⟩ := I.tuple h'
  rw [e] at e'; cases e'
  rw [d] at d'
  injection d' with d1 _
  have : its = its' := by simpa using congrArg Array.toList d1
  subst this
  exact r.inj r'
end
abbrev Cx.wish (X : Cx) (E : Value → Shared → Prop) : Cx := { X with xe := E }
abbrev Cx.nox (X : Cx) : Cx := X.wish fun _ _ => False
theorem Cx.Ok.wish {X : Cx} (ok : X.Ok) (E : Value → Shared → Prop) : (X.wish E).Ok :=
  ⟨ok.mod, ok.kind, ok.glob, ok.blt, ok.above, ok.inj, ok.has, ok.cab, ok.hd, ok.frames, ok.stk, ok.exf, ok.bs, ok.bsz, ok.noex, ok.exfs, ok.funs, ok.frf⟩
theorem Cx.Ok.unwish {X : Cx} {E : Value → Shared → Prop} (ok : (X.wish E).Ok) : X.Ok :=
  ⟨ok.mod, ok.kind, ok.glob, ok.blt, ok.above, ok.inj, ok.has, ok.cab, ok.hd, ok.frames, ok.stk, ok.exf, ok.bs, ok.bsz, ok.noex, ok.exfs, ok.funs, ok.frf⟩
section
variable {X : Cx} {pins : List (Addr × Obj)} {σ : St} {H : Hp} {s : Shared} {E : Value → Shared → Prop}
theorem Inv.wish (I : Inv X pins σ H s) (E : Value → Shared → Prop) : Inv (X.wish E) pins σ H s := ⟨I.ok.wish E, I.os, I.bare, I.base, I.loc, I.cell, I.free, I.freeC, I.pin, I.hok, I.len⟩
theorem Inv.unwish (I : Inv (X.wish E) pins σ H s) : Inv X pins σ H s := ⟨I.ok.unwish, I.os, I.bare, I.base, I.loc, I.cell, I.free, I.freeC, I.pin, I.hok, I.len⟩
theorem SP.unwish {D : Ends} {f : Flow} {s' : Shared} (h : SP (X.wish E) pins D f s') : SP X pins D f s' := by
  cases f with
  | next => obtain ⟨σ', H', I, q⟩ := h; exact ⟨σ', H', I.unwish, q⟩
  | brk => obtain ⟨σ', H', I, q⟩ := h; exact ⟨σ', H', I.unwish, q⟩
  | cont => obtain ⟨σ', H', I, q⟩ := h; exact ⟨σ', H', I.unwish, q⟩
  | ret u => obtain ⟨v, σ', H', I, r, q⟩ := h; exact ⟨v, σ', H', I.unwish, r, q⟩
theorem PE.nox {e : Expr} {t : TE} (h : PE X.nox e t) : PE X e t := fun pins s σ H Q I hw =>
  wpAny_mono (h pins s σ H Q (I.wish _) hw) (fun _ _ ⟨v, H', I', r, q⟩ => ⟨v, H', I'.unwish, r, q⟩) fun _ _ z => False.elim z
theorem PT.nox {e : Expr} {t : TT} (h : PT X.nox e t) : PT X e t := fun pins s σ H Q I hw =>
  wpAny_mono (h pins s σ H Q (I.wish _) hw) (fun _ _ ⟨H', I', q⟩ => ⟨H', I'.unwish, q⟩) fun _ _ z => False.elim z
theorem PSs.nox {st : List Stmt} {t : TS} (h : PSs X.nox st t) : PSs X st t := fun pins s σ H D I hw =>
  wpAny_mono (h pins s σ H D (I.wish _) hw) (fun _ _ q => q.unwish) fun _ _ z => False.elim z
end
section
variable {X : Cx} {st : Stmt} {rest : List Stmt} {t u : TS} {e : Expr} {te : TE} {pos : Pos}
def tNext : TS := fun D σ H => D.nx σ H
def tSeq (t u : TS) : TS := fun D σ H => t { D with nx := u D } σ H
theorem pss_nil : PSs X [] tNext := fun _ _ σ H _ I h => wpAny_execs_nil ⟨σ, H, I, h⟩
theorem pss_cons (h1 : PS X st t) (h2 : PSs X rest u) : PSs X (st :: rest) (tSeq t u) := by
  intro pins s σ H D I h
  refine wpAny_execs_cons (thn (h1 pins s σ H { D with nx := u D } I h) fun f s1 q => ?_)
  cases f with
  | next =>
    obtain ⟨σ', H', I', q⟩ := q
    exact h2 pins s1 σ' H' D I' q
  | ret v => exact q
  | brk => exact q
  | cont => exact q
theorem Inv.quiet {pins : List (Addr × Obj)} {σ : St} {H : Hp} {s : Shared} (I : Inv X pins σ H s) : interactive X.env = false := by simp [interactive, I.ok.kind]
def tDrop (te : TE) : TS := fun D σ H => te σ H fun _ H1 => D.nx σ H1
theorem ps_expr (he : PE X e te) (hs : swapsWith e none pos.line X.env = pure false := by rfl) : PS X (.Expr e pos) (tDrop te) := by
  intro pins s σ H D I h
  exact wpAny_Expr_any (thn (he pins s σ H _ I h) fun v s1 ⟨x, H1, I1, r1, q1⟩ => ⟨σ, H1, I1, q1⟩) I.quiet hs
def tRet (te : TE) : TS := fun D σ H => te σ H D.rt
theorem ps_ret (he : PE X e te) : PS X (.Return (some e) pos) (tRet te) := by
  intro pins s σ H D I h
  exact wpAny_Return_some (thn (he pins s σ H _ I h) fun v s1 ⟨x, H1, I1, r1, q1⟩ => ⟨x, σ, H1, I1, r1, q1⟩)
def tIfS (c : TT) (t u : TS) : TS := fun D σ H => c σ H fun b H1 => if b = true then t D σ H1 else u D σ H1
theorem ps_if {c : Expr} {a b : List Stmt} {tc : TT} (hc : PT X c tc) (ha : PSs X a t) (hb : PSs X b u) : PS X (.If c a b pos) (tIfS tc t u) := by
  intro pins s σ H D I h
  refine wpAny_If (thn (hc pins s σ H _ I h) fun d s1 ⟨H1, I1, q1⟩ => ?_)
  cases d with
  | true => exact ha pins s1 σ H1 D I1 q1
  | false => exact hb pins s1 σ H1 D I1 q1
end
abbrev TG := V → St → Hp → (St → Hp → Prop) → Prop
abbrev TGs := List V → St → Hp → (St → Hp → Prop) → Prop
def PG (X : Cx) (target : Expr) (t : TG) : Prop :=
  ∀ (pins : List (Addr × Obj)) (s : Shared) (σ : St) (H : Hp) (v : V) (u : Value) (Q : St → Hp → Prop), Inv X pins σ H s → RelV v u → t v σ H Q →
    wpAny (model X.prog X.w) X.A (assign target X.env u) (fun _ s' => ∃ σ' H', Inv X pins σ' H' s' ∧ Q σ' H') X.xe s
def PGs (X : Cx) (ts : List Expr) (t : TGs) : Prop :=
  ∀ (pins : List (Addr × Obj)) (s : Shared) (σ : St) (H : Hp) (vs : List V) (us : List Value) (Q : St → Hp → Prop), Inv X pins σ H s → Vals vs us → t vs σ H Q →
    wpAny (model X.prog X.w) X.A (assignInOrder ((assignEach ts X.env).map (·.2)) us) (fun _ s' => ∃ σ' H', Inv X pins σ' H' s' ∧ Q σ' H') X.xe s
section
variable {X : Cx} {pos : Pos}
def gName (i : Nat) : TG := fun v σ H Q => Q (σ.set i (some v)) H
theorem pg_name {i : Nat} {x : Str} (hN : X.N.Nodup) (hi : X.N[i]? = some x) (hx : Loc X.env.scope x) (hf : X.fn x = true ∨ X.env.scope.names.lookup x = some .local := by first | exact .inl rfl | exact .inr rfl | assumption) : PG X (.Name x pos) (gName i) := by
  intro pins s σ H v u Q I r h
  exact wpAny_assign_Name (zaet I hN hi hx r (fun s' I' => ⟨_, H, I', h⟩) hf)
def gNil : TGs := fun vs σ H Q => vs = [] ∧ Q σ H
def gCons (t : TG) (u : TGs) : TGs := fun vs σ H Q => ∃ v r, vs = v :: r ∧ t v σ H fun σ' H' => u r σ' H' Q
theorem pgs_nil : PGs X [] gNil := by
  intro pins s σ H vs us Q I r h
  obtain ⟨e, h⟩ := h
  subst e
  cases r
  exact assignInOrder_nil ⟨σ, H, I, h⟩
theorem pgs_cons {e : Expr} {es : List Expr} {t : TG} {u : TGs} (h1 : PG X e t) (h2 : PGs X es u)
    (hs : (assignEach (e :: es) X.env).map (·.2) = assign e X.env :: (assignEach es X.env).map (·.2) := by rfl) : PGs X (e :: es) (gCons t u) := by
  intro pins s σ H vs us Q I r h
  obtain ⟨v, vr, e1, h⟩ := h
  subst e1
  cases r with
  | cons r rr =>
    rw [hs]
    refine assignInOrder_cons (thn (h1 pins s σ H _ _ _ I r h) fun _ s1 ⟨σ1, H1, I1, q1⟩ => ?_)
    exact h2 pins s1 σ1 H1 _ _ Q I1 rr q1
def gTup (K : PySem.W.Frag) (n : Nat) (t : TGs) : TG := fun v σ H Q => ∃ a xs, v = .ref a ∧ SqT K H a xs ∧ xs.length = n ∧ t xs σ H Q
theorem pg_tup {es : List Expr} {k : Nat} {t : TGs} {n : Nat} (hc : X.calm = true) (h : PGs X es t)
    (hn : (assignEach es X.env).length = n := by rfl) (hst : (assignEach es X.env).findIdx? (·.1) = none := by rfl) : PG X (.Tuple es k pos) (gTup X.K n t) := by
  intro pins s σ H v u Q I r hw
  obtain ⟨a, xs, e1, hq, hl, hw⟩ := hw
  subst e1
  cases r
  obtain ⟨its, rv, ht, hz⟩ := I.tuple hq
  refine assign_Tuple_tuple (I.ok.hd hc) ht (by simp [hn, ← hl, rv.length]) hst fun h' hx => ?_
  have I1 : Inv X pins σ H { s with heap := h' } := I.kept (t' := s.toks) fun b o e => hx b o (Nat.ne_of_lt (Heap.lt_size e)) e
  exact h pins _ σ H xs _ Q I1 (by simpa using rv) hw
def tAsg (te : TE) (g : TG) : TS := fun D σ H => te σ H fun x H1 => g x σ H1 D.nx
theorem ps_asg {tg e : Expr} {te : TE} {g : TG} (he : PE X e te) (hg : PG X tg g) (hs : swapsWithSole [tg] e pos.line X.env = pure false := by rfl) (hw : swappedStores [tg] e X.env = pure none := by rfl)
    (h1 : (assignEach [tg] X.env).map (·.2) = [assign tg X.env] := by rfl) : PS X (.Assign [tg] e pos) (tAsg te g) := by
  intro pins s σ H D I h
  refine wpAny_Assign_stores (thn (he pins s σ H _ I h) fun v s1 ⟨x, H1, I1, r1, q1⟩ => ?_) hs hw
  rw [h1]
  exact thn (hg pins s1 σ H1 x v _ I1 r1 q1) fun _ s2 q => q
theorem ps_set {i : Nat} {x : Str} {e : Expr} {te : TE} {pos' : Pos} (hN : X.N.Nodup) (hi : X.N[i]? = some x) (hx : Loc X.env.scope x) (he : PE X e te) (hs : swapsWith e (some (.Name x pos')) pos.line X.env = pure false := by rfl) (hf : X.fn x = true ∨ X.env.scope.names.lookup x = some .local := by first | exact .inl rfl | exact .inr rfl | assumption) :
    PS X (.Assign [.Name x pos'] e pos) (tAsg te (gName i)) := by
  intro pins s σ H D I h
  refine wpAny_Assign_Name (thn (he pins s σ H _ I h) fun v s1 ⟨y, H1, I1, r1, q1⟩ => ?_) hs
  exact zaet I1 hN hi hx r1 (fun s2 I2 => ⟨_, H1, I2, q1⟩) hf
end
section
variable {X : Cx} {pos : Pos}
def tWhile (c : TT) (tb : TS) : TS := fun D σ H => ∃ W : Nat → St → Hp → Prop, (∃ m, W m σ H) ∧ ∀ m σ H, W m σ H →
  c σ H fun b H1 => if b = true then ∃ N : St → Hp → Prop, (∀ σ' H', N σ' H' → ∃ m', m' < m ∧ W m' σ' H') ∧ tb { D with nx := N, ct := N, bk := D.nx } σ H1 else D.nx σ H1
theorem ps_while {c : Expr} {body : List Stmt} {tc : TT} {tb : TS} (hp : PassesOwn (model X.prog X.w) X.A X.env X.xe) (hc : PT X c tc) (hb : PSs X body tb) : PS X (.While c body [] pos) (tWhile tc tb) := by
  intro pins s σ H D I h
  obtain ⟨W, ⟨m0, w0⟩, turn⟩ := h
  refine wpAny_While (codeAny_whileLoop (fun n s' => ∃ σ' H', Inv X pins σ' H' s' ∧ W n σ' H') ?_ m0 ⟨σ, H, I, w0⟩)
  rintro n s1 ⟨σ1, H1, I1, w1⟩
  refine wpAny_passesOwn hp (thn (hc pins s1 σ1 H1 _ I1 (turn n σ1 H1 w1)) fun b s2 ⟨H2, I2, q2⟩ => ?_)
  cases b with
  | true =>
    obtain ⟨N, hN, q2⟩ := q2
    rw [if_pos rfl]
    refine wpAny_passesOwn hp (thn (hb pins s2 σ1 H2 _ I2 q2) fun f s3 q3 => ?_)
    cases f with
    | next =>
      obtain ⟨σ3, H3, I3, n3⟩ := q3
      obtain ⟨m', hm, w3⟩ := hN σ3 H3 n3
      exact ⟨m', hm, σ3, H3, I3, w3⟩
    | cont =>
      obtain ⟨σ3, H3, I3, n3⟩ := q3
      obtain ⟨m', hm, w3⟩ := hN σ3 H3 n3
      exact ⟨m', hm, σ3, H3, I3, w3⟩
    | brk => exact q3
    | ret v => exact q3
  | false =>
    rw [if_neg Bool.false_ne_true]
    exact wpAny_execs_nil ⟨σ1, H2, I2, q2⟩
end
structure It where
  go : Nat → Hp → Prop
  yld : Nat → Hp → V → Hp → Prop
  stop : Nat → Hp → Prop
def FpOk (X : Cx) (pins : List (Addr × Obj)) (H : Hp) (b : Addr) : Prop :=
  H b = none ∧ b ≠ X.env.locals ∧ b ∉ X.fs ∧ (b ∈ X.ex ∨ X.s₀.heap.objs.size ≤ b) ∧ (∀ x c, X.env.cells.lookup x = some c → c ≠ b) ∧ ∀ p ∈ X.pn ++ pins, p.1 ≠ b
theorem Inv.fpOk {X : Cx} {pins : List (Addr × Obj)} {σ : St} {H H' : Hp} {s : Shared} {b : Addr} (I : Inv X pins σ H s) (hb : s.heap.objs.size ≤ b) (hn : H' b = none) : FpOk X pins H' b := by
  refine ⟨hn, Nat.ne_of_gt (Nat.lt_of_lt_of_le I.lt hb), I.nofs hb, .inr (Nat.le_trans I.sz hb), fun x c e z => ?_, fun p hp z => ?_⟩
  · obtain ⟨v, q⟩ := I.cell x c e
    exact absurd (Nat.lt_of_lt_of_le q.lt (by rw [z]; exact hb)) (Nat.lt_irrefl _)
  · exact absurd (Nat.lt_of_lt_of_le (Heap.lt_size (I.pin p hp).1) (by rw [z]; exact hb)) (Nat.lt_irrefl _)
structure Turn (P : Program) (w : World) (K : PySem.W.Frag) (tg : Expr) (J : It) (fp : List Addr) (it : Addr) (tn : Nat → Heap → Prop) : Prop where
  mem : it ∈ fp
  obj : ∀ i h, tn i h → ∀ b ∈ fp, ∃ o, h.get? b = some o ∧ ∀ v, o.data ≠ .cell v
  keep : ∀ i h h', tn i h → (∀ b ∈ fp, ∀ o, h.get? b = some o → h'.get? b = some o) → tn i h'
  item : ∀ (X : Cx), X.prog = P → X.w = w → X.K = K → X.calm = true → ∀ (i : Nat) (pins : List (Addr × Obj)) (s : Shared) (σ : St) (H : Hp) (E : Value → Shared → Prop), Inv X pins σ H s → (∀ b ∈ fp, FpOk X pins H b) → tn i s.heap → J.go i H →
    wpAny (model P w) X.A (pyNext (.ref it)) (fun r s1 => ∃ u, r = some u ∧
      wpAny (model P w) X.A (letOwnedTupleGo tg (.ref it) u) (fun _ s2 => ∃ x H', Inv X pins σ H' s2 ∧ RelV x u ∧ J.yld i H x H' ∧ tn (i + 1) s2.heap ∧ ∀ b ∈ fp, H' b = none) E s1) E s
  done : ∀ (X : Cx), X.prog = P → X.w = w → X.K = K → X.calm = true → ∀ (i : Nat) (pins : List (Addr × Obj)) (s : Shared) (σ : St) (H : Hp) (E : Value → Shared → Prop), Inv X pins σ H s → (∀ b ∈ fp, FpOk X pins H b) → tn i s.heap → J.stop i H →
    wpAny (model P w) X.A (pyNext (.ref it)) (fun r s1 => r = none ∧ Inv X pins σ H s1) E s
  self : ∀ (A : Around) (i : Nat) (s : Shared) (Q : Value → Shared → Prop) (E : Value → Shared → Prop), tn i s.heap → Q (.ref it) s → wpAny (model P w) A (pyIter (.ref it)) Q E s
abbrev TI := St → Hp → (It → Hp → Prop) → Prop
def PIE (X : Cx) (pins : List (Addr × Obj)) (σ : St) (tg : Expr) (R : It → Hp → Prop) (itv : Value) (s2 : Shared) : Prop :=
  ∃ (it : Addr) (fp : List Addr) (tn : Nat → Heap → Prop) (J : It) (H' : Hp), itv = .ref it ∧ Inv X pins σ H' s2 ∧ Turn X.prog X.w X.K tg J fp it tn ∧ tn 0 s2.heap ∧ (∀ b ∈ fp, FpOk X pins H' b) ∧ R J H'
def PI (X : Cx) (tg iter : Expr) (wi : TI) : Prop :=
  ∀ (pins : List (Addr × Obj)) (s : Shared) (σ : St) (H : Hp) (R : It → Hp → Prop), Inv X pins σ H s → wi σ H R →
    wpAny (model X.prog X.w) X.A (eval iter X.env) (fun v s1 => wpAny (model X.prog X.w) X.A (pyIter v) (PIE X pins σ tg R) X.xe s1) X.xe s
theorem go_of {M : Model} {A : Around} {E : Value → Shared → Prop} {s : Shared} {tg : Expr} {it : Addr} {u : Value} {o : Obj} {n : String} {vs : Array Value} {Q : Unit → Shared → Prop} (ho : s.heap.get? it = some o) (hc : o.cls = .type n) (hd : o.data = .fields vs)
    (hn : ["enumerate", "zip", "dict_itemiterator", "dict_reverseitemiterator", "odict_iterator", "itertools.zip_longest", "itertools.pairwise"].contains n = false) (hQ : Q () s) : wpAny M A (letOwnedTupleGo tg (.ref it) u) Q E s := by
  unfold letOwnedTupleGo
  cases tg <;> first
    | exact wpAny_pure hQ
    | (cases u <;> first
        | exact wpAny_pure hQ
        | (refine wpAny_bind (wpAny_load ho ?_)
           rw [hc, hd]
           show wpAny M A (if (["enumerate", "zip", "dict_itemiterator", "dict_reverseitemiterator", "odict_iterator", "itertools.zip_longest", "itertools.pairwise"].contains n && vs[0]? == some (rawInt _)) = true then _ else _) Q E s
           rw [if_neg (by intro h; rw [hn, Bool.false_and] at h; cases h)]
           exact wpAny_pure hQ))
def Itl (K : PySem.W.Frag) (a : Addr) : It :=
  ⟨fun i H => ∃ xs x, SqL K H a xs ∧ xs[i]? = some x, fun i H x H' => H' = H ∧ ∀ xs, SqL K H a xs → xs[i]? = some x, fun i H => ∃ xs, SqL K H a xs ∧ xs.length ≤ i⟩
def Itt (K : PySem.W.Frag) (a : Addr) : It :=
  ⟨fun i H => ∃ xs x, SqT K H a xs ∧ xs[i]? = some x, fun i H x H' => H' = H ∧ ∀ xs, SqT K H a xs → xs[i]? = some x, fun i H => ∃ xs, SqT K H a xs ∧ xs.length ≤ i⟩
def Itr (lo : Int) (n : Nat) : It := ⟨fun i _ => i < n, fun i H x H' => H' = H ∧ x = .int (lo + i), fun i _ => n ≤ i⟩
theorem turn_list {P : Program} {w : World} {K : PySem.W.Frag} {tg : Expr} (a it : Addr) : Turn P w K tg (Itl K a) [it] it (fun i h => h.IsListIter it a i) where
  mem := by simp
  obj := fun i h st b hb => by
    have e : b = it := by simpa using hb
    subst e
    obtain ⟨o, e, c, d⟩ := st
    exact ⟨o, e, fun v z => by rw [d] at z; cases z⟩
  keep := fun i h h' st k => st.at fun o e => k it (by simp) o e
  item := by
    intro X hP hw hK hc i pins s σ H E I hf st hg
    subst hP hw hK
    obtain ⟨xs, x, hq, hx⟩ := hg
    obtain ⟨its, rv, p, hz⟩ := I.list hq
    obtain ⟨u, hu, ru⟩ := rv.get hx
    obtain ⟨f0, f1, f2, f3, f4, f5⟩ := hf it (by simp)
    refine wpAny_pyNext_list_item st p.isList (x := u) (by simpa using hu) fun h' st' sb => ?_
    have I1 : Inv X pins σ H { s with heap := h' } := I.turned (t' := s.toks) (fun b o hb e => (sb.2 b hb).trans e) f0 f1 f3 f4 f5
    obtain ⟨o, e, c, d⟩ := id st'
    exact ⟨u, rfl, go_of (s := { s with heap := h' }) e c d (by decide) ⟨x, H, I1, ru, ⟨rfl, fun ys hy => by rw [I.list_inj hy hq]; exact hx⟩, st', fun b hb => (hf b hb).1⟩⟩
  done := by
    intro X hP hw hK hc i pins s σ H E I hf st hg
    subst hP hw hK
    obtain ⟨xs, hq, hx⟩ := hg
    obtain ⟨its, rv, p, hz⟩ := I.list hq
    obtain ⟨f0, f1, f2, f3, f4, f5⟩ := hf it (by simp)
    have hl := rv.length
    exact wpAny_pyNext_list_end (I.ok.hd hc) st p.isList (by simp; omega) fun h' eb => ⟨rfl, I.turned (t' := s.toks) (fun b o hb e => eb b o hb e) f0 f1 f3 f4 f5⟩
  self := fun _ _ _ _ _ st h => wpAny_pyIter_listiter st h
theorem zael {P : Program} {w : World} {K : PySem.W.Frag} {tg : Expr} (a it : Addr) : Turn P w K tg (Itt K a) [it] it (fun i h => h.IsTupleIter it a i) where
  mem := by simp
  obj := fun i h st b hb => by
    have e : b = it := by simpa using hb
    subst e
    obtain ⟨o, e, c, d⟩ := st
    exact ⟨o, e, fun v z => by rw [d] at z; cases z⟩
  keep := fun i h h' st k => st.at fun o e => k it (by simp) o e
  item := by
    intro X hP hw hK hc i pins s σ H E I hf st hg
    subst hP hw hK
    obtain ⟨xs, x, hq, hx⟩ := hg
    obtain ⟨its, rv, p, hz⟩ := I.tuple hq
    obtain ⟨u, hu, ru⟩ := rv.get hx
    obtain ⟨f0, f1, f2, f3, f4, f5⟩ := hf it (by simp)
    refine wpAny_pyNext_tuple_item st (show s.heap.IsTuple a its.toArray from p) (x := u) (by simpa using hu) fun h' st' sb => ?_
    have I1 : Inv X pins σ H { s with heap := h' } := I.turned (t' := s.toks) (fun b o hb e => (sb.2 b hb).trans e) f0 f1 f3 f4 f5
    obtain ⟨o, e, c, d⟩ := id st'
    exact ⟨u, rfl, go_of (s := { s with heap := h' }) e c d (by decide) ⟨x, H, I1, ru, ⟨rfl, fun ys hy => by rw [I.tuple_inj hy hq]; exact hx⟩, st', fun b hb => (hf b hb).1⟩⟩
  done := by
    intro X hP hw hK hc i pins s σ H E I hf st hg
    subst hP hw hK
    obtain ⟨xs, hq, hx⟩ := hg
    obtain ⟨its, rv, p, hz⟩ := I.tuple hq
    obtain ⟨f0, f1, f2, f3, f4, f5⟩ := hf it (by simp)
    have hl := rv.length
    exact wpAny_pyNext_tuple_end (I.ok.hd hc) st (show s.heap.IsTuple a its.toArray from p) (by simp; omega) fun h' eb => ⟨rfl, I.turned (t' := s.toks) (fun b o hb e => eb b o hb e) f0 f1 f3 f4 f5⟩
  self := fun _ _ _ _ _ st h => wpAny_pyIter_tupleiter st h
theorem zaey {P : Program} {w : World} {K : PySem.W.Frag} {tg : Expr} (it : Addr) (lo : Int) (n : Nat) : Turn P w K tg (Itr lo n) [it] it (fun i h => IsRangeIter h it (lo + (i : Nat) * 1) ((n : Int) - (i : Nat)) 1) where
  mem := by simp
  obj := fun i h st b hb => by
    have e : b = it := by simpa using hb
    subst e
    exact ⟨_, st, fun v z => by
      have z' : Data.fields _ = Data.cell v := z
      cases z'⟩
  keep := fun i h h' st k => k it (by simp) _ st
  item := by
    intro X hP hw hK hc i pins s σ H E I hf st hg
    subst hP hw hK
    obtain ⟨f0, f1, f2, f3, f4, f5⟩ := hf it (by simp)
    have W := Walks.range (prog := X.prog) (w := X.w) (I.ok.hd hc) it lo 1 n
    refine W.item i s _ _ hg st fun v h' tk hv st' kk => ?_
    obtain ⟨t, rfl⟩ := hv
    have I1 : Inv X pins σ H { s with heap := h', toks := tk } := I.turned (fun b o hb e => kk b o (by simpa using hb) e) f0 f1 f3 f4 f5
    refine ⟨_, rfl, go_of (s := { s with heap := h', toks := tk }) (n := "range_iterator") st' rfl rfl (by decide) ⟨.int (lo + i), H, I1, ⟨t, ?_⟩, ⟨rfl, rfl⟩, st', fun b hb => (hf b hb).1⟩⟩
    rw [Int.mul_one]
  done := by
    intro X hP hw hK hc i pins s σ H E I hf st hg
    subst hP hw hK
    obtain ⟨f0, f1, f2, f3, f4, f5⟩ := hf it (by simp)
    exact wpAny_pyNext_range_end (I.ok.hd hc) st (by have : n ≤ i := hg; omega) fun h' eb => ⟨rfl, I.turned (t' := s.toks) (fun b o hb e => eb b o hb e) f0 f1 f3 f4 f5⟩
  self := fun _ _ _ _ _ st h => wpAny_pyIter_rangeiter st h
end L2
namespace L2
open PySem PySem.Spec PyProof.Rows
section
variable {X : Cx} {tg : Expr}
theorem zae6 {pins : List (Addr × Obj)} {σ : St} {H : Hp} {s : Shared} {R : It → Hp → Prop} {E : Value → Shared → Prop} {lo hi : Int} {t u v : Tok} {tk : Nat} (I : Inv X pins σ H s) (h1 : -(2 ^ 62) ≤ lo) (h2 : lo < 2 ^ 62) (h3 : -(2 ^ 62) ≤ hi) (h4 : hi < 2 ^ 62)
    (q : R (Itr lo (hi - lo).toNat) H) : wpAny (model X.prog X.w) X.A (pyIter (.ref s.heap.objs.size)) (PIE X pins σ tg R) E { s with heap := s.heap.push { cls := .type "range", data := .fields #[.int lo t, .int hi u, .int 1 v] }, toks := tk } := by
  refine wpAny_pyIter_range (IsRange.new ..) (small_one h1 h2 h3 h4) ?_
  have I1 : Inv X pins σ H { s with heap := s.heap.push { cls := .type "range", data := .fields #[.int lo t, .int hi u, .int 1 v] }, toks := tk } := I.kept fun b o e => Heap.get?_push_of_some _ e
  refine ⟨(s.heap.push { cls := .type "range", data := .fields #[.int lo t, .int hi u, .int 1 v] }).objs.size, [(s.heap.push { cls := .type "range", data := .fields #[.int lo t, .int hi u, .int 1 v] }).objs.size], _, _, H, rfl,
    I1.kept (t' := tk) fun b o e => Heap.get?_push_of_some _ e, zaey _ lo (hi - lo).toNat, ?_, fun b hb => ?_, q⟩
  · have e1 : lo + ((0 : Nat) : Int) * 1 = lo := by simp
    have e2 : (((hi - lo).toNat : Nat) : Int) - ((0 : Nat) : Int) = Builtin.Range.rangeSize lo hi 1 := by rw [rangeSize_one]; split <;> omega
    show IsRangeIter _ _ (lo + ((0 : Nat) : Int) * 1) ((((hi - lo).toNat : Nat) : Int) - ((0 : Nat) : Int)) 1
    rw [e1, e2]
    exact Heap.get?_push_size _ rfl
  · have e : b = (s.heap.push { cls := .type "range", data := .fields #[.int lo t, .int hi u, .int 1 v] }).objs.size := by simpa using hb
    subst e
    exact I1.fpOk (Nat.le_refl _) (I1.hok.fresh (Nat.le_refl _))
def iRng1 (ta : TA) : TI := fun σ H R => ta σ H fun vs H1 => ∃ j : Int, vs = [.int j] ∧ -(2 ^ 62) ≤ j ∧ j < 2 ^ 62 ∧ R (Itr 0 j.toNat) H1
def iRng2 (ta : TA) : TI := fun σ H R => ta σ H fun vs H1 => ∃ i j : Int, vs = [.int i, .int j] ∧ (-(2 ^ 62) ≤ i ∧ i < 2 ^ 62 ∧ -(2 ^ 62) ≤ j ∧ j < 2 ^ 62) ∧ R (Itr i (j - i).toNat) H1
theorem pi_range1 {a : Expr} {ta : TA} {p pos : Pos} (hg : Gl X "range") (hm : X.mg "range" = none) (ha : PA X [a] ta) (hs : starEach [a] X.env = [(false, eval a X.env)] := by rfl) : PI X tg (.Call (.Name "range" p) [a] [] pos) (iRng1 ta) := by
  intro pins s σ H R I h
  refine Call_ (ld_blt I hg hm boot_range (PyProof.Rows.callWith_type1 (thn (ha pos pins s σ H _ I h) fun us s1 ⟨vs, H1, I1, r1, q1⟩ => ?_) hs rfl))
  obtain ⟨j, e, q1, q2, q⟩ := q1
  subst e
  cases r1 with
  | cons r rr =>
    cases rr
    obtain ⟨t, rfl⟩ := r
    exact call_range_1 (zae6 I1 (by omega) (by omega) q1 q2 (by simpa using q))
theorem pi_range2 {a b : Expr} {ta : TA} {p pos : Pos} (hg : Gl X "range") (hm : X.mg "range" = none) (ha : PA X [a, b] ta) (hs : starEach [a, b] X.env = [(false, eval a X.env), (false, eval b X.env)] := by rfl) (hs2 : starEach [b] X.env = [(false, eval b X.env)] := by rfl) :
    PI X tg (.Call (.Name "range" p) [a, b] [] pos) (iRng2 ta) := by
  intro pins s σ H R I h
  refine Call_ (ld_blt I hg hm boot_range (PyProof.Rows.callWith_type1 (thn (ha pos pins s σ H _ I h) fun us s1 ⟨vs, H1, I1, r1, q1⟩ => ?_) (by rw [hs, hs2]) (by rw [hs2]; rfl)))
  obtain ⟨i, j, e, ⟨q1, q2, q3, q4⟩, q⟩ := q1
  subst e
  cases r1 with
  | cons r rr =>
    cases rr with
    | cons r' rr =>
      cases rr
      obtain ⟨t, rfl⟩ := r
      obtain ⟨t', rfl⟩ := r'
      exact call_range_2 (zae6 I1 q1 q2 q3 q4 q)
def tFor (wi : TI) (g : TG) (tb : TS) : TS := fun D σ H => wi σ H fun J H1 => ∃ W : Nat → Nat → St → Hp → Prop, (∃ m, W 0 m σ H1) ∧ ∀ i m σ H, W i m σ H →
  (J.stop i H ∧ D.nx σ H) ∨ (J.go i H ∧ ∃ N : St → Hp → Prop, (∀ σ' H', N σ' H' → ∃ m', m' < m ∧ W (i + 1) m' σ' H') ∧ ∀ x H', J.yld i H x H' → g x σ H' fun σ2 H2 => tb { D with nx := N, ct := N, bk := D.nx } σ2 H2)
def pinsAt (fp : List Addr) (h : Heap) : List (Addr × Obj) := fp.filterMap fun b => (h.get? b).map fun o => (b, o)
theorem zabi {fp : List Addr} {h : Heap} {b : Addr} {o : Obj} (hb : b ∈ fp) (e : h.get? b = some o) : (b, o) ∈ pinsAt fp h := List.mem_filterMap.mpr ⟨b, hb, by rw [e]; rfl⟩
theorem of_pinsAt {fp : List Addr} {h : Heap} {p : Addr × Obj} (hp : p ∈ pinsAt fp h) : p.1 ∈ fp ∧ h.get? p.1 = some p.2 := by
  obtain ⟨b, hb, e⟩ := List.mem_filterMap.mp hp
  cases q : h.get? b with
  | none => rw [q] at e; cases e
  | some o =>
    rw [q] at e
    have e' : (b, o) = p := Option.some.inj e
    subst e'
    exact ⟨hb, q⟩
theorem Inv.pinned {pins : List (Addr × Obj)} {σ : St} {H : Hp} {s : Shared} {fp : List Addr} (I : Inv X pins σ H s) (hf : ∀ b ∈ fp, FpOk X pins H b) (ho : ∀ b ∈ fp, ∃ o, s.heap.get? b = some o ∧ ∀ v, o.data ≠ .cell v) : Inv X (pins ++ pinsAt fp s.heap) σ H s :=
  I.pins_of fun p hp => (List.mem_append.mp hp).elim (fun z => I.pin p (List.mem_append_right _ z)) fun z => by
    obtain ⟨hb, e⟩ := of_pinsAt z
    obtain ⟨f0, f1, f2, _⟩ := hf p.1 hb
    obtain ⟨o, e', d⟩ := ho p.1 hb
    rw [e] at e'; cases e'
    exact ⟨e, f0, f1, f2, d⟩
theorem Inv.unpinned {pins pl : List (Addr × Obj)} {σ : St} {H : Hp} {s : Shared} (I : Inv X (pins ++ pl) σ H s) : Inv X pins σ H s := I.pins_of fun p hp => I.pin p (List.mem_append_right _ (List.mem_append_left _ hp))
theorem ps_for {iter : Expr} {body : List Stmt} {wi : TI} {g : TG} {tb : TS} {pos : Pos} (hp : PassesOwn (model X.prog X.w) X.A X.env X.xe) (hc : X.calm = true) (hi : PI X tg iter wi) (hg : PG X tg g) (hb : PSs X body tb)
    (hs : ∀ x, foldedSetIterable iter X.env x = pure x := by intro _; rfl) : PS X (.For tg iter body [] pos) (tFor wi g tb) := by
  intro pins s σ H D I h
  refine wpAny_For (thn (hi pins s σ H _ I h) fun v s1 h1 => thn h1 fun itv s2 h2 => ?_) hs
  obtain ⟨it, fp, tn, J, H2, e, I2, T, st2, f2, W, ⟨m0, w0⟩, turn⟩ := h2
  subst e
  have stat : ∀ {H' : Hp}, (∀ b ∈ fp, H' b = none) → ∀ b ∈ fp, FpOk X pins H' b := fun hn b hb => ⟨hn b hb, (f2 b hb).2⟩
  refine codeAny_forLoop_any (fun n s' => ∃ i σ' H', Inv X pins σ' H' s' ∧ tn i s'.heap ∧ (∀ b ∈ fp, H' b = none) ∧ W i n σ' H') ?_ m0 ⟨0, σ, H2, I2, st2, fun b hb => (f2 b hb).1, w0⟩
  rintro n s3 ⟨i, σ3, H3, I3, st3, fr3, w3⟩
  rcases turn i n σ3 H3 w3 with ⟨stop, qn⟩ | ⟨go, N, hN, step⟩
  · refine wpAny_passesOwn hp (thn (T.done X rfl rfl rfl hc i pins s3 σ3 H3 X.xe I3 (stat fr3) st3 stop) fun r s4 ⟨hr, I4⟩ => ?_)
    subst hr
    exact wpAny_execs_nil ⟨σ3, H3, I4, qn⟩
  · refine wpAny_passesOwn hp (thn (T.item X rfl rfl rfl hc i pins s3 σ3 H3 X.xe I3 (stat fr3) st3 go) fun r s4 ⟨u, hr, h4⟩ => ?_)
    subst hr
    refine wpAny_passesOwn hp (thn h4 fun _ s5 ⟨x, H5, I5, r5, y5, st5, fr5⟩ => ?_)
    have I5' := I5.pinned (stat fr5) (T.obj _ _ st5)
    refine wpAny_passesOwn hp (thn (hg _ s5 σ3 H5 x u _ I5' r5 (step x H5 y5)) fun _ s6 ⟨σ6, H6, I6, q6⟩ => ?_)
    refine wpAny_passesOwn hp (thn (hb _ s6 σ6 H6 _ I6 q6) fun f s7 q7 => ?_)
    have again : ∀ {σ7 : St} {H7 : Hp}, Inv X (pins ++ pinsAt fp s5.heap) σ7 H7 s7 → N σ7 H7 → ∃ m, m < n ∧ ∃ i σ' H', Inv X pins σ' H' s7 ∧ tn i s7.heap ∧ (∀ b ∈ fp, H' b = none) ∧ W i m σ' H' := fun {σ7 H7} I7 n7 => by
      obtain ⟨m', hm, w7⟩ := hN σ7 H7 n7
      refine ⟨m', hm, i + 1, σ7, H7, I7.unpinned, T.keep _ _ _ st5 fun b hb o e => (I7.pin (b, o) (List.mem_append_right _ (List.mem_append_right _ (zabi hb e)))).1, fun b hb => ?_, w7⟩
      obtain ⟨o, e, d⟩ := T.obj _ _ st5 b hb
      exact (I7.pin (b, o) (List.mem_append_right _ (List.mem_append_right _ (zabi hb e)))).2.1
    cases f with
    | next => obtain ⟨σ7, H7, I7, n7⟩ := q7; exact again I7 n7
    | cont => obtain ⟨σ7, H7, I7, n7⟩ := q7; exact again I7 n7
    | brk => obtain ⟨σ7, H7, I7, q7⟩ := q7; exact ⟨σ7, H7, I7.unpinned, q7⟩
    | ret v => obtain ⟨x7, σ7, H7, I7, r7, q7⟩ := q7; exact ⟨x7, σ7, H7, I7.unpinned, r7, q7⟩
end
end L2
namespace L2
open PySem PySem.Spec PyProof.Rows
abbrev R2 := V → V → Hp → VK → Prop
def OpR (X : Cx) (f : Value → Value → Sem Value) (r : R2) : Prop :=
  ∀ (pins : List (Addr × Obj)) (s : Shared) (σ : St) (H : Hp) (x y : V) (v u : Value) (Q : VK), Inv X pins σ H s → RelV x v → RelV y u → r x y H Q →
    wpAny (model X.prog X.w) X.A (f v u) (EP X pins σ Q) X.xe s
def UnR (X : Cx) (f : Value → Sem Value) (r : V → Hp → VK → Prop) : Prop :=
  ∀ (pins : List (Addr × Obj)) (s : Shared) (σ : St) (H : Hp) (x : V) (v : Value) (Q : VK), Inv X pins σ H s → RelV x v → r x H Q →
    wpAny (model X.prog X.w) X.A (f v) (EP X pins σ Q) X.xe s
def CallR (X : Cx) (f : Value) (r : List V → Hp → VK → Prop) : Prop :=
  ∀ (pins : List (Addr × Obj)) (s : Shared) (σ : St) (H : Hp) (xs : List V) (us : List Value) (Q : VK), Inv X pins σ H s → Vals xs us → r xs H Q →
    wpAny (model X.prog X.w) X.A (call f us) (EP X pins σ Q) X.xe s
def TruR (X : Cx) (r : V → Hp → (Bool → Hp → Prop) → Prop) : Prop :=
  ∀ (pins : List (Addr × Obj)) (s : Shared) (σ : St) (H : Hp) (x : V) (v : Value) (Q : Bool → Hp → Prop), Inv X pins σ H s → RelV x v → r x H Q →
    wpAny (model X.prog X.w) X.A (truthy v) (TP X pins σ Q) X.xe s
def tOp (r : R2) (ta tb : TE) : TE := fun σ H Q => ta σ H fun x H1 => tb σ H1 fun y H2 => r x y H2 Q
def tUn (r : V → Hp → VK → Prop) (ta : TE) : TE := fun σ H Q => ta σ H fun x H1 => r x H1 Q
def rI (C : Int → Int → Prop) (g : Int → Int → V) : R2 := fun x y H Q => ∃ i j, x = .int i ∧ y = .int j ∧ C i j ∧ Q (g i j) H
def rI0 (g : Int → Int → V) : R2 := fun x y H Q => ∃ i j, x = .int i ∧ y = .int j ∧ Q (g i j) H
def rU (g : Int → V) : V → Hp → VK → Prop := fun x H Q => ∃ i, x = .int i ∧ Q (g i) H
section
variable {X : Cx} {a b c : Expr} {ta tb tc : TE} {pos : Pos}
theorem binT (ha : PE X a ta) (hb : PE X b tb) {pins : List (Addr × Obj)} {s : Shared} {σ : St} {H : Hp} {R : V → V → Hp → Prop} (I : Inv X pins σ H s)
    (h : ta σ H fun x H1 => tb σ H1 fun y H2 => R x y H2) {Q : Value → Shared → Prop} {f : Value → Value → Sem Value}
    (hf : ∀ v u s2 x y H2, Inv X pins σ H2 s2 → RelV x v → RelV y u → R x y H2 → wpAny (model X.prog X.w) X.A (f v u) Q X.xe s2) :
    wpAny (model X.prog X.w) X.A (eval a X.env) (fun v s₁ => wpAny (model X.prog X.w) X.A (eval b X.env) (fun u s₂ => wpAny (model X.prog X.w) X.A (f v u) Q X.xe s₂) X.xe s₁) X.xe s := by
  refine thn (ha pins s σ H _ I h) fun v s1 ⟨x, H1, I1, r1, q1⟩ => ?_
  refine thn (hb pins s1 σ H1 _ I1 q1) fun u s2 ⟨y, H2, I2, r2, q2⟩ => ?_
  exact hf v u s2 x y H2 I2 r1 r2 q2
theorem pe_op {op : Operator} {r : R2} (ho : OpR X (binaryOp op) r) (ha : PE X a ta) (hb : PE X b tb) : PE X (.BinOp a op b pos) (tOp r ta tb) := by
  intro pins s σ H Q I h
  exact wpAny_BinOp (binT ha hb I h fun v u s2 x y H2 I2 rx ry q => ho pins s2 σ H2 x y v u Q I2 rx ry q)
theorem pe_un {op : UnaryOp} {r : V → Hp → VK → Prop} (ho : UnR X (unaryOp op) r) (ha : PE X a ta) : PE X (.UnaryOp op a pos) (tUn r ta) := by
  intro pins s σ H Q I h
  exact UnaryOp_ (thn (ha pins s σ H _ I h) fun v s1 ⟨x, H1, I1, r1, q1⟩ => ho pins s1 σ H1 x v Q I1 r1 q1)
theorem opI {f : Value → Value → Sem Value} {C : Int → Int → Prop} {g : Int → Int → Int}
    (rule : ∀ (i j : Int) (t u : Tok) (s : Shared) (Q : Value → Shared → Prop) (E : Value → Shared → Prop), C i j → Q (.int (g i j) s.toks) { s with toks := s.toks + 1 } → wpAny (model X.prog X.w) X.A (f (.int i t) (.int j u)) Q E s) :
    OpR X f (rI C fun i j => .int (g i j)) := by
  intro pins s σ H x y v u Q I rx ry h
  obtain ⟨i, j, rfl, rfl, hc, q⟩ := h
  obtain ⟨t, rfl⟩ := rx
  obtain ⟨t', rfl⟩ := ry
  exact rule i j t t' s _ _ hc ⟨.int (g i j), H, I.tok _, ⟨_, rfl⟩, q⟩
theorem opI0 {f : Value → Value → Sem Value} {g : Int → Int → Int}
    (rule : ∀ (i j : Int) (t u : Tok) (s : Shared) (Q : Value → Shared → Prop) (E : Value → Shared → Prop), Q (.int (g i j) s.toks) { s with toks := s.toks + 1 } → wpAny (model X.prog X.w) X.A (f (.int i t) (.int j u)) Q E s) :
    OpR X f (rI0 fun i j => .int (g i j)) := by
  intro pins s σ H x y v u Q I rx ry h
  obtain ⟨i, j, rfl, rfl, q⟩ := h
  obtain ⟨t, rfl⟩ := rx
  obtain ⟨t', rfl⟩ := ry
  exact rule i j t t' s _ _ ⟨.int (g i j), H, I.tok _, ⟨_, rfl⟩, q⟩
theorem opB0 {f : Value → Value → Sem Value} {g : Int → Int → Bool}
    (rule : ∀ (i j : Int) (t u : Tok) (s : Shared) (Q : Value → Shared → Prop) (E : Value → Shared → Prop), Q (.bool (g i j)) s → wpAny (model X.prog X.w) X.A (f (.int i t) (.int j u)) Q E s) :
    OpR X f (rI0 fun i j => .bl (g i j)) := by
  intro pins s σ H x y v u Q I rx ry h
  obtain ⟨i, j, rfl, rfl, q⟩ := h
  obtain ⟨t, rfl⟩ := rx
  obtain ⟨t', rfl⟩ := ry
  exact rule i j t t' s _ _ ⟨.bl (g i j), H, I, rfl, q⟩
def CDiv (i j : Int) : Prop := 0 < j ∧ j < 1073741824
def CMul (i j : Int) : Prop := (-(2 ^ 64) < i ∧ i < 2 ^ 64) ∨ (-(2 ^ 64) < j ∧ j < 2 ^ 64)
theorem CMul.ok {i j : Int} (h : CMul i j) : IntMulOk i j := by
  rcases h with ⟨h1, h2⟩ | ⟨h1, h2⟩
  · exact .of_left (intBits_le_64 h1 h2)
  · exact .of_right (intBits_le_64 h1 h2)
theorem op_add : OpR X (binaryOp .Add) (rI0 fun i j => .int (i + j)) := opI0 fun _ _ _ _ _ _ _ q => add_int q
theorem op_sub : OpR X (binaryOp .Sub) (rI0 fun i j => .int (i - j)) := opI0 fun _ _ _ _ _ _ _ q => sub_int q
theorem op_mul : OpR X (binaryOp .Mult) (rI CMul fun i j => .int (i * j)) := opI fun _ _ _ _ _ _ _ hc q => mul_int q hc.ok
theorem zabe : OpR X (binaryOp .FloorDiv) (rI CDiv fun i j => .int (i / j)) := opI fun i j _ _ _ _ _ hc q => by
  have h1 : (0 : Int) < j := hc.1
  have h2 : j < 1073741824 := hc.2
  exact floordiv_int (by omega) (by rw [Int.fdiv_eq_ediv_of_nonneg i (by omega)]; exact q) (.inl (PyProof.noPylong_small (by omega)))
theorem op_mod : OpR X (binaryOp .Mod) (rI (fun _ j => 0 < j) fun i j => .int (i % j)) := opI fun i j _ _ _ _ _ hc q => by
  have h1 : (0 : Int) < j := hc
  exact mod_int' (by omega) (by rw [Int.fmod_eq_emod_of_nonneg i (by omega)]; exact q)
theorem unI {f : Value → Sem Value} {g : Int → Int}
    (rule : ∀ (i : Int) (t : Tok) (s : Shared) (Q : Value → Shared → Prop) (E : Value → Shared → Prop), Q (.int (g i) s.toks) { s with toks := s.toks + 1 } → wpAny (model X.prog X.w) X.A (f (.int i t)) Q E s) :
    UnR X f (rU fun i => .int (g i)) := by
  intro pins s σ H x v Q I rx h
  obtain ⟨i, rfl, q⟩ := h
  obtain ⟨t, rfl⟩ := rx
  exact rule i t s _ _ ⟨.int (g i), H, I.tok _, ⟨_, rfl⟩, q⟩
theorem un_neg : UnR X (unaryOp .USub) (rU fun i => .int (-i)) := unI fun _ _ _ _ _ q => neg_int q
end
section
variable {X : Cx} {a b c : Expr} {ta tb tc : TE} {pos : Pos}
theorem fin_bl {pins : List (Addr × Obj)} {σ : St} {H : Hp} {s : Shared} {Q : VK} {k k' : Bool} (I : Inv X pins σ H s) (q : Q (.bl k) H) (e : k = k') : EP X pins σ Q (.bool k') s := by
  subst e
  exact ⟨.bl k, H, I, rfl, q⟩
theorem op_lt : OpR X (compareOp .Lt) (rI0 fun i j => .bl (decide (i < j))) := opB0 fun _ _ _ _ _ _ _ q => lt_int q
theorem op_le : OpR X (compareOp .LtE) (rI0 fun i j => .bl (decide (i ≤ j))) := opB0 fun _ _ _ _ _ _ _ q => le_int q
theorem op_gt : OpR X (compareOp .Gt) (rI0 fun i j => .bl (decide (j < i))) := opB0 fun _ _ _ _ _ _ _ q => gt_int q
theorem op_ge : OpR X (compareOp .GtE) (rI0 fun i j => .bl (decide (j ≤ i))) := opB0 fun _ _ _ _ _ _ _ q => ge_int q
theorem op_isN : OpR X (compareOp .Is) (fun x y H Q => y = .non ∧ Q (.bl (decide (x = .non))) H) := by
  intro pins s σ H x y v u Q I rx ry h
  obtain ⟨rfl, q⟩ := h
  cases ry
  refine is_none_gen (fin_bl I q ?_)
  cases x <;> first
    | (cases rx; rfl)
    | (obtain ⟨t, rfl⟩ := rx; rfl)
theorem op_notN : OpR X (compareOp .IsNot) (fun x y H Q => y = .non ∧ Q (.bl (!decide (x = .non))) H) := by
  intro pins s σ H x y v u Q I rx ry h
  obtain ⟨rfl, q⟩ := h
  cases ry
  refine isnot_none_gen (fin_bl I q ?_)
  cases x <;> first
    | (cases rx; rfl)
    | (obtain ⟨t, rfl⟩ := rx; rfl)
theorem OpR.or {f : Value → Value → Sem Value} {r r' : R2} (h : OpR X f r) (h' : OpR X f r') : OpR X f (fun x y H Q => r x y H Q ∨ r' x y H Q) := by
  intro pins s σ H x y v u Q I rx ry q
  rcases q with q | q
  · exact h pins s σ H x y v u Q I rx ry q
  · exact h' pins s σ H x y v u Q I rx ry q
theorem nomark (b : Expr) {op : CmpOp} (h : op ≠ .In := by decide) (h2 : op ≠ .NotIn := by decide) : behindInMarks op b = false := by
  have e1 : (op == CmpOp.In) = false := by cases op <;> first | rfl | exact absurd rfl h
  have e2 : (op == CmpOp.NotIn) = false := by cases op <;> first | rfl | exact absurd rfl h2
  cases b <;> simp [behindInMarks, e1, e2]
theorem pe_cmpR {op : CmpOp} {r : R2} (ho : OpR X (compareOp op) r) (ha : PE X a ta) (hb : PE X b tb) (hm : behindInMarks op b = false) : PE X (.Compare a [op] [b] pos) (tOp r ta tb) := by
  intro pins s σ H Q I h
  exact wpAny_Compare1 (binT ha hb I h fun v u s2 x y H2 I2 rx ry q => ho pins s2 σ H2 x y v u Q I2 rx ry q) hm
def tTest (t : TE) : TT := fun σ H Q => t σ H fun x H' => ∃ k, x = .bl k ∧ Q k H'
theorem pt_cmpR {op : CmpOp} {r : R2} (ho : OpR X (compareOp op) r) (ha : PE X a ta) (hb : PE X b tb) (hm : behindInMarks op b = false) : PT X (.Compare a [op] [b] pos) (tTest (tOp r ta tb)) := by
  intro pins s σ H Q I h
  refine wpAny_isTrue_Compare1 (thn (ha pins s σ H _ I h) fun v s1 ⟨x, H1, I1, r1, q1⟩ => thn (hb pins s1 σ H1 _ I1 q1) fun u s2 ⟨y, H2, I2, r2, q2⟩ =>
    thn (ho pins s2 σ H2 x y v u _ I2 r1 r2 q2) fun c s3 ⟨z, H3, I3, r3, k, e, q3⟩ => ?_) hm
  subst e
  cases r3
  exact wpAny_truthy_bool ⟨H3, I3, q3⟩
def TruV (K : PySem.W.Frag) (x : V) (H : Hp) (k : Bool) : Prop :=
  match x with
  | .non => k = false
  | .bl b => k = b
  | .int i => k = (i != 0)
  | .str y => y.length ≤ sizeLine ∧ k = ((y.length : Int) != 0)
  | .byt y => y.size ≤ sizeLine ∧ k = ((y.size : Int) != 0)
  | .ref p => (∃ xs, SqL K H p xs ∧ k = !xs.isEmpty) ∨ (∃ xs, SqT K H p xs ∧ k = !xs.isEmpty) ∨ ∃ kvs, H p = some (.dK kvs) ∧ k = !kvs.isEmpty
  | _ => False
theorem zaft {κ : Type} {kvs : List (κ × V)} {vs : List (κ × Value)} (r : KV kvs vs) : (!vs.isEmpty) = !kvs.isEmpty := by
  cases r <;> rfl
theorem zacq {xs : List V} {its : List Value} (r : Vals xs its) : (!its.toArray.isEmpty) = !xs.isEmpty := by
  cases r <;> simp
theorem line63 : (sizeLine : Nat) < 2 ^ 63 := by rw [sizeLine_eq]; decide
theorem tru_ok : TruR X (fun x H Q => ∃ k, TruV X.K x H k ∧ Q k H) := by
  intro pins s σ H x v Q I rx h
  obtain ⟨k, e, q⟩ := h
  have hl := line63
  have hs : sizeLine = 16777216 := sizeLine_eq
  cases x with
  | non =>
    cases rx
    have e' : k = false := e
    subst e'
    exact truthy_none ⟨H, I, q⟩
  | bl b =>
    cases rx
    have e' : k = b := e
    subst e'
    exact wpAny_truthy_bool ⟨H, I, q⟩
  | int i =>
    obtain ⟨t, rfl⟩ := rx
    have e' : k = (i != 0) := e
    subst e'
    exact PySem.P.truthy_int ⟨H, I, q⟩
  | str y =>
    obtain ⟨t, rfl⟩ := rx
    obtain ⟨hy, e'⟩ : y.length ≤ sizeLine ∧ k = ((y.length : Int) != 0) := e
    subst e'
    exact PySem.P.truthy_str (by omega) ⟨H, I.tok _, q⟩
  | byt y =>
    obtain ⟨t, rfl⟩ := rx
    obtain ⟨hy, e'⟩ : y.size ≤ sizeLine ∧ k = ((y.size : Int) != 0) := e
    subst e'
    exact PySem.W.truthy_bytes (by omega) ⟨H, I.tok _, q⟩
  | ref p =>
    cases rx
    have e' : (∃ xs, SqL X.K H p xs ∧ k = !xs.isEmpty) ∨ (∃ xs, SqT X.K H p xs ∧ k = !xs.isEmpty) ∨ ∃ kvs, H p = some (.dK kvs) ∧ k = !kvs.isEmpty := e
    rcases e' with ⟨xs, hx, e'⟩ | ⟨xs, hx, e'⟩ | ⟨kvs, hx, e'⟩
    · subst e'
      obtain ⟨its, r, pl, hz⟩ := I.list hx
      have hlen := r.length
      exact wpAny_truthy_list pl.isList (by simp only [List.size_toArray]; omega) ⟨H, I.tok _, by rw [zacq r]; exact q⟩
    · subst e'
      obtain ⟨its, r, pl, hz⟩ := I.tuple hx
      have hlen := r.length
      exact truthy_tuple pl (by simp only [List.size_toArray]; omega) ⟨H, I.tok _, by rw [zacq r]; exact q⟩
    · subst e'
      obtain ⟨hz, hS, vs, r, m⟩ : kvs.length ≤ sizeLine ∧ (p == sysModules) = false ∧ ∃ vs, KV kvs vs ∧ s.heap.DictOf (zaf6 X.prog X.w) p vs := I.hok p _ hx
      have hlen : kvs.length = vs.length := Paired.length r
      exact wpAny_truthy_dict hS m (by omega) ⟨H, I.tok _, by rw [zaft r]; exact q⟩
  | _ => exact (show False from e).elim
theorem pt_truth (ha : PE X a ta) (he : ∀ whole, isTrue a X.env whole = (do let v ← whole; standAt a.pos; holding [v] (truthy v))) :
    PT X a (fun σ H Q => ta σ H fun x H' => ∃ k, TruV X.K x H' k ∧ Q k H') := by
  intro pins s σ H Q I h
  exact isTrue_plain (thn (ha pins s σ H _ I h) fun v s1 ⟨x, H1, I1, r1, q1⟩ => tru_ok pins s1 σ H1 x v Q I1 r1 q1) (he _)
theorem vals1 {x : V} {us : List Value} (r : Vals [x] us) : ∃ u, us = [u] ∧ RelV x u := by
  cases r with
  | cons r1 r2 => cases r2; exact ⟨_, rfl, r1⟩
theorem vals2 {x y : V} {us : List Value} (r : Vals [x, y] us) : ∃ u w', us = [u, w'] ∧ RelV x u ∧ RelV y w' := by
  cases r with
  | cons r1 r2 =>
    cases r2 with
    | cons r3 r4 => cases r4; exact ⟨_, _, rfl, r1, r3⟩
theorem call_abs : CallR X (.builtin "abs") (fun xs H Q => ∃ i, xs = [.int i] ∧ Q (.int (if i < 0 then -i else i)) H) := by
  intro pins s σ H xs us Q I r h
  obtain ⟨i, rfl, q⟩ := h
  obtain ⟨u, rfl, t, rfl⟩ := vals1 r
  exact call_abs_int fun u tk => ⟨.int (if i < 0 then -i else i), H, I.tok _, ⟨_, rfl⟩, q⟩
theorem call_max2 (hc : X.calm = true) : CallR X (.builtin "max") (fun xs H Q => ∃ i j, xs = [.int i, .int j] ∧ Q (.int (if j > i then j else i)) H) := by
  intro pins s σ H xs us Q I r h
  obtain ⟨i, j, rfl, q⟩ := h
  obtain ⟨u, w', rfl, ⟨t, rfl⟩, ⟨t', rfl⟩⟩ := vals2 r
  refine max_two_ints (I.ok.hd hc) fun h' tk k => ⟨_, H, I.kept k, ?_, q⟩
  by_cases hj : j > i
  · rw [if_pos hj, if_pos hj]; exact ⟨_, rfl⟩
  · rw [if_neg hj, if_neg hj]; exact ⟨_, rfl⟩
end
end L2
namespace L2
open PySem PySem.Spec PyProof.Rows
structure ObjM (h : Heap) (x dx C : Addr) (mA : Str → Option Value) : Prop where
  obj : h.get? x = some (PySem.W.instObj C dx)
  ns : h.Ns1 dx mA
  ne : dx ≠ x
theorem lookIn_ns {h : Heap} {dx : Addr} {mA : Str → Option Value} (n : h.Ns1 dx mA) : ∃ od, h.get? dx = some od ∧ ∀ name, PySem.W.lookIn name od = some (mA name) := by
  obtain ⟨o, es, ep, ho, hd, hk, _, hm⟩ := n
  refine ⟨o, ho, fun name => ?_⟩
  have e := hm name
  unfold nsFind findBy at e
  rw [← Array.find?_toList] at e
  unfold PySem.W.lookIn
  rw [hd]
  dsimp only
  split
  · rename_i y q
    rw [q] at e
    exact congrArg some e
  · rename_i q
    rw [q] at e
    have a : es.toList.any (·.refKey) = false := by
      rw [List.any_eq_false]
      intro y hy
      obtain ⟨z, t, hkey⟩ := hk y (Array.mem_toList_iff.mp hy)
      simp [DictEntry.refKey, hkey]
    have a' : ¬ es.toList.any (·.refKey) = true := by rw [a]; exact Bool.false_ne_true
    rw [if_neg a']
    exact congrArg some e
theorem ObjM.look {h : Heap} {x dx C : Addr} {mA : Str → Option Value} (I : ObjM h x dx C mA) : ∃ od, PySem.W.InstAt h x (PySem.W.instObj C dx) C (some od) ∧ ∀ name, PySem.W.lookIn name od = some (mA name) :=
  let ⟨od, ho, hl⟩ := lookIn_ns I.ns
  ⟨od, ⟨I.obj, rfl, rfl, ho⟩, hl⟩
section
variable {prog : Program} {w : World} {A : Around} {E : Value → Shared → Prop} {s : Shared} {K : PySem.W.Frag} {x dx C f : Addr} {mA : Str → Option Value} {name : Str} {v : Value}
end
section
variable {P : Program} {w : World} {H H' : Hp} {h h' : Heap} {a C dx : Addr} {fs fs' : List (Str × V)}
theorem ins_get (hok : HOk P w H h) (e : H a = some (.ins C dx fs)) : ∃ mA, ObjM h a dx C mA ∧ (∀ f, RelO (fs.lookup f) (mA f)) ∧ PySem.Within mA (fs.map (·.1)) ∧ fs.length ≤ 1000 ∧ H dx = some (.own a) := by
  obtain ⟨d, z, ne, ob, mA, n, r, q⟩ := (show ObjOk P w H h a (.ins C dx fs) from hok a _ e)
  exact ⟨mA, ⟨ob, n, ne⟩, r, q, z, d⟩
end
structure Cls (K : PySem.W.Frag) (C : Addr) : Prop where
  pg : PySem.W.plainGet K C Str.empty = true
  hd : PySem.W.hasDictIn K C = true
  po : PySem.W.plainOver K C = true
  sa : PySem.W.findIn K (.ref C) "__setattr__" = some (some (.builtin "object.__setattr__"))
theorem Cls.get {K : PySem.W.Frag} {C : Addr} (c : Cls K C) (f : Str) : PySem.W.plainGet K C f = true := c.pg
structure Con (K : PySem.W.Frag) (C : Addr) (f : Str) (v : V) (u : Value) : Prop where
  at_ : PySem.W.findIn K (.ref C) f = some (some u)
  rel : RelV v u
  get : PySem.W.specialIn K u "__get__" = some none
  cp : PySem.W.copiedNames.contains f = false
structure Meth (K : PySem.W.Frag) (C : Addr) (m : Str) (f : Addr) : Prop where
  at_ : PySem.W.findIn K (.ref C) m = some (some (.ref f))
  fn : PySem.W.isFn K (.ref f) = true
  kp : PySem.W.keepIn K (.ref f) = true
section
variable {X : Cx} {pins : List (Addr × Obj)} {σ : St} {H : Hp} {s : Shared} {a C dx : Addr} {fs : List (Str × V)} {f : Str} {v : V} {A : Around} {E : Value → Shared → Prop}
theorem Inv.made (I : Inv X pins σ H s) : Inv X pins σ (upd (upd H s.heap.objs.size (.own (s.heap.objs.size + 1))) (s.heap.objs.size + 1) (.ins C s.heap.objs.size []))
    { s with heap := (s.heap.push PySem.W.emptyDict).push (PySem.W.instObj C s.heap.objs.size) } := by
  have e1 : (s.heap.push PySem.W.emptyDict).get? s.heap.objs.size = some PySem.W.emptyDict := Heap.get?_push_size s.heap rfl
  have e2 : ((s.heap.push PySem.W.emptyDict).push (PySem.W.instObj C s.heap.objs.size)).get? (s.heap.objs.size + 1) = some (PySem.W.instObj C s.heap.objs.size) := by
    have := Heap.get?_push_size (s.heap.push PySem.W.emptyDict) (o := PySem.W.instObj C s.heap.objs.size) rfl
    rwa [Heap.size_push] at this
  have e3 : (s.heap.push PySem.W.emptyDict).Ns s.heap.objs.size (fun _ => none) := ⟨PySem.W.emptyDict, #[], _, e1, rfl, (fun e he => absurd he (by simp)), fun _ => rfl⟩
  have I1 := I.laid (a := s.heap.objs.size) (o := .own (s.heap.objs.size + 1)) (h' := s.heap.push PySem.W.emptyDict) (t' := s.toks) (fun b u q => Heap.get?_push_of_some _ q) (Nat.le_refl _) ⟨_, e1⟩
  refine I1.laid (a := s.heap.objs.size + 1) (o := .ins C s.heap.objs.size []) (t' := s.toks) (fun b u q => Heap.get?_push_of_some _ q) (Nat.le_of_eq (Heap.size_push _ _)) ?_
  have ne : s.heap.objs.size ≠ s.heap.objs.size + 1 := Nat.ne_of_lt (Nat.lt_succ_self _)
  refine ⟨by rw [upd_ne ne, zaaq], Nat.zero_le _, ne, e2, fun _ => none, (Heap.Ns1.of_empty e3).at fun o q => Heap.get?_push_of_some _ q, fun _ => True.intro, fun y hy => absurd rfl hy⟩
end
section
variable {X : Cx} {o e value : Expr} {f : Str} {pos pos' tpos : Pos} {ta tv : TE}
end
section
variable {X : Cx} {pins : List (Addr × Obj)} {σ : St} {H : Hp} {s : Shared} {A : Around} {E : Value → Shared → Prop} {Q : Value → Shared → Prop} {c : Value} {b : Bool}
inductive TyOf (K : PySem.W.Frag) (H : Hp) : V → Value → Prop where
  | non : TyOf K H .non (.type "NoneType")
  | bl (x : Bool) : TyOf K H (.bl x) (.type "bool")
  | int (i : Int) : TyOf K H (.int i) (.type "int")
  | str (x : Str) : TyOf K H (.str x) (.type "str")
  | flt (x : UInt64) : TyOf K H (.flt x) (.type "float")
  | lst {a : Addr} {xs : List V} (e : H a = some (.lst xs)) : TyOf K H (.ref a) (.type "list")
  | frz {a : Addr} {o : Obj} {xs : List V} (e : H a = some (.frz o (.lst xs))) : TyOf K H (.ref a) (.type "list")
  | tup {a : Addr} {xs : List V} (e : H a = some (.tup xs)) : TyOf K H (.ref a) (.type "tuple")
  | dK {a : Addr} {kvs : List (Key × V)} (e : H a = some (.dK kvs)) : TyOf K H (.ref a) (.type "dict")
  | dT {a : Addr} {kvs : List (List Key × V)} (e : H a = some (.dT kvs)) : TyOf K H (.ref a) (.type "dict")
  | ins {a C dx : Addr} {fs : List (Str × V)} (e : H a = some (.ins C dx fs)) (cl : Cls K C) (ha : PySem.W.findIn K (.ref C) "__class__" = some (some (.builtin "object.__class__")))
      (hn : PySem.W.specialIn K (.builtin "object.__class__") "__get__" = some (some (.builtin "getset_descriptor.__get__"))) (htk : PySem.W.takesIn K (.builtin "object.__class__") = some true)
      (hm : PySem.W.mroIn K C (.type "object") = some true) : TyOf K H (.ref a) (.ref C)
theorem isinst_ok {x : V} {u t : Value} (I : Inv X pins σ H s) (rx : RelV x u) (ty : TyOf X.K H x t) (e : PySem.W.kitOne X.K t c = some b) (h : ∀ tk, Q (.bool b) { s with toks := tk }) :
    wpAny (model X.prog X.w) A (call (.builtin "isinstance") [u, c]) Q E s := by
  cases ty with
  | non => cases (show u = Value.none from rx); exact PySem.W.kia_one PySem.W.kitx_none I.kIn True.intro e (fun z => nomatch z) h
  | bl y => cases (show u = Value.bool y from rx); exact PySem.W.kia_one PySem.W.kitx_bool I.kIn True.intro e (fun z => nomatch z) h
  | int i => obtain ⟨t, q⟩ := (show ∃ t, u = Value.int i t from rx); cases q; exact PySem.W.kia_one PySem.W.kitx_int I.kIn True.intro e (fun z => nomatch z) h
  | str y => obtain ⟨t, q⟩ := (show ∃ t, u = Value.str y t from rx); cases q; exact PySem.W.kia_one PySem.W.kitx_str I.kIn True.intro e (fun z => nomatch z) h
  | flt y => obtain ⟨t, q⟩ := (show ∃ t, u = Value.float y t from rx); cases q; exact PySem.W.kia_one PySem.W.kitx_float I.kIn True.intro e (fun z => nomatch z) h
  | @lst a xs ea =>
    cases (show u = Value.ref a from rx)
    obtain ⟨_, _, n, _, h1⟩ := (show ObjOk X.prog X.w H s.heap a (.lst xs) from I.hok a _ ea)
    exact PySem.W.kia_one PySem.W.kitx_list I.kIn ⟨_, h1, rfl⟩ e (fun z => nomatch z) h
  | @frz a ob xs ea =>
    cases (show u = Value.ref a from rx)
    obtain ⟨_, _, _, n, _, h1⟩ := (show ObjOk X.prog X.w H s.heap a (.frz ob (.lst xs)) from I.hok a _ ea)
    exact PySem.W.kia_one PySem.W.kitx_list I.kIn ⟨_, h1, rfl⟩ e (fun z => nomatch z) h
  | @tup a xs ea =>
    cases (show u = Value.ref a from rx)
    obtain ⟨_, _, _, p⟩ := (show ObjOk X.prog X.w H s.heap a (.tup xs) from I.hok a _ ea)
    obtain ⟨o, h1, h2, _⟩ := p
    exact PySem.W.kia_one PySem.W.kitx_tuple I.kIn ⟨o, h1, h2⟩ e (fun z => nomatch z) h
  | @dK a kvs ea =>
    cases (show u = Value.ref a from rx)
    obtain ⟨_, _, vs, _, p⟩ := (show ObjOk X.prog X.w H s.heap a (.dK kvs) from I.hok a _ ea)
    obtain ⟨o, es, ep, h1, h2, _⟩ := p
    exact PySem.W.kia_one PySem.W.kitx_dict I.kIn ⟨o, h1, h2.1⟩ e (fun z => nomatch z) h
  | @dT a kvs ea =>
    cases (show u = Value.ref a from rx)
    obtain ⟨_, _, xs, _, o, es, ep, h1, h2, _⟩ := (show ObjOk X.prog X.w H s.heap a (.dT kvs) from I.hok a _ ea)
    exact PySem.W.kia_one PySem.W.kitx_dict I.kIn ⟨o, h1, h2.1⟩ e (fun z => nomatch z) h
  | @ins a C dx fs ea cl ha hn htk hm =>
    cases (show u = Value.ref a from rx)
    obtain ⟨mA, O, _⟩ := ins_get I.hok ea
    obtain ⟨od, J, _⟩ := O.look
    exact PySem.W.kia_one (PySem.W.kitx_own (cl.get _) cl.hd ha hn htk hm) I.kIn J e (fun z => nomatch z) h
end
end L2
namespace L2
open PySem PySem.Spec PyProof.Rows
structure Room (k : Nat) (A : Around) : Prop where
  hd : A.handled = none
  dp : A.depth + 3 * k + 5 < recursionLimit
  un : A.units + 16 * k + 200 < cLine
theorem Room.mono {j k : Nat} {A : Around} (r : Room k A) (h : j ≤ k) : Room j A := ⟨r.hd, by have := r.dp; omega, by have := r.un; omega⟩
theorem Room.deeper {k : Nat} {A : Around} (r : Room (k + 1) A) (env : Env) : Room k (A.deeper env) :=
  ⟨r.hd, by have := r.dp; show A.depth + 1 + 3 * k + 5 < _; omega, by have := r.un; show A.units + 3 + 16 * k + 200 < _; omega⟩
theorem Room.in1 {k : Nat} {A : Around} (r : Room (k + 1) A) : Room k A.in1 :=
  ⟨r.hd, by have := r.dp; show A.depth + 3 * k + 5 < _; omega, by have := r.un; show A.units + 1 + 16 * k + 200 < _; omega⟩
theorem Room.depth {k : Nat} {A : Around} (r : Room k A) : A.depth < recursionLimit := by have := r.dp; omega
theorem Room.units {k : Nat} {A : Around} (r : Room k A) : A.units + 64 < cLine := by have := r.un; omega
def tNil : TA := fun _ H Q => Q [] H
def tCons (ta : TE) (tr : TA) : TA := fun σ H Q => ta σ H fun x H1 => tr σ H1 fun xs H2 => Q (x :: xs) H2
section
variable {X : Cx} {e : Expr} {es : List Expr} {te : TE} {t : TA} {pos : Pos}
theorem pa_nil : PA X [] tNil := fun _ _ _ _ H Q I h => Calls.spliced_nil ⟨[], H, I, .nil, h⟩
theorem zaaw (ha : PE X e te) (hr : PA X es t) (hs : starEach (e :: es) X.env = (false, eval e X.env) :: starEach es X.env := by rfl) : PA X (e :: es) (tCons te t) := by
  intro pos pins s σ H Q I h
  rw [hs]
  show wpAny _ _ (spliced ((false, eval e X.env) :: backTo pos (starEach es X.env))) _ _ s
  refine Calls.spliced_cons (thn (ha pins s σ H _ I h) fun u s1 ⟨x, H1, I1, r1, q1⟩ => ?_)
  exact thn (hr pos pins s1 σ H1 _ I1 q1) fun us s2 ⟨xs, H2, I2, r2, q2⟩ => ⟨x :: xs, H2, I2, .cons r1 r2, q2⟩
def tTup (t : TA) : TE := fun σ H Q => t σ H fun xs H1 => xs.length ≤ sizeLine ∧ ∀ p, H1 p = none → Q (.ref p) (upd H1 p (.tup xs))
def tLst (t : TA) : TE := fun σ H Q => t σ H fun xs H1 => xs.length ≤ sizeLine ∧ ∀ p, H1 p = none → Q (.ref p) (upd H1 p (.lst xs))
theorem pe_tup {x1} (h : PA X es t) : PE X (.Tuple es x1 pos) (tTup t) := by
  intro pins s σ H Q I hq
  refine wpAny_Tuple_spliced (thn (h pos pins s σ H _ I hq) fun us s1 ⟨xs, H1, I1, r, z, q⟩ => ⟨by rw [← r.length]; exact z, ?_⟩)
  have hf : H1 s1.heap.objs.size = none := I1.hok.fresh (Nat.le_refl _)
  refine ⟨.ref s1.heap.objs.size, upd H1 s1.heap.objs.size (.tup xs), I1.laid (t' := s1.toks) (fun b u e => Heap.get?_push_of_some _ e) (Nat.le_refl _) ?_, rfl, q _ hf⟩
  exact ⟨z, us, r, ⟨_, Heap.get?_push_size _ rfl, rfl, _, rfl⟩⟩
theorem pe_lst (h : PA X es t) : PE X (.List es pos) (tLst t) := by
  intro pins s σ H Q I hq
  refine wpAny_List_spliced (thn (h pos pins s σ H _ I hq) fun us s1 ⟨xs, H1, I1, r, z, q⟩ => ⟨by rw [← r.length]; exact z, ?_⟩)
  have hf : H1 s1.heap.objs.size = none := I1.hok.fresh (Nat.le_refl _)
  refine ⟨.ref s1.heap.objs.size, upd H1 s1.heap.objs.size (.lst xs), I1.laid (t' := s1.toks) (fun b u e => Heap.get?_push_of_some _ e) (Nat.le_refl _) ?_, rfl, q _ hf⟩
  exact ⟨z, us, 0, r, Heap.get?_push_size _ rfl⟩
end
abbrev Sp := List V → Hp → VK → XK → Prop
abbrev CXT := List Env → Hp → Shared → XK → Value → Shared → Prop
structure Env0 (P : Program) (w : World) (K : PySem.W.Frag) (mg : Str → Option Value) (base : Heap) (A : Around) (outer : List Env) (s : Shared) (H : Hp) : Prop where
  frames : A.frames = some outer
  mod : Mod K mg base
  bs : ∀ b o, base.get? b = some o → s.heap.get? b = some o ∧ H b = none
  bsz : base.objs.size ≤ s.heap.objs.size
  funs : s.heap.FunFrames base outer
  frf : ∀ b ∈ frs outer, H b = none
  hok : HOk P w H s.heap
  bare : AllBare s.gens
def CE (outer : List Env) (P : Program) (w : World) (H : Hp) (s : Shared) (Q : VK) (u : Value) (s' : Shared) : Prop :=
  ∃ v H', s'.os = s.os ∧ AllBare s'.gens ∧ Un (frs outer) [] H H' s.heap s'.heap ∧ HOk P w H' s'.heap ∧ RelV v u ∧ Q v H'
def CR (CX : CXT) (outer : List Env) (P : Program) (w : World) (H : Hp) (s : Shared) (Q : VK) (E : XK) (r : Result) (s' : Shared) : Prop :=
  match r with
  | .ok (.ret u) => CE outer P w H s Q u s'
  | .ok _ => False
  | .error e => CX outer H s E e s'
structure FnOk (P : Program) (w : World) (K : PySem.W.Frag) (mg : Str → Option Value) (base : Heap) (CX : CXT) (k : Nat) (f : Addr) (fd : FuncData) (ps : List Str) (sp : Sp) : Prop where
  len : ∀ vs H Q E, sp vs H Q E → vs.length = ps.length
  run : ∀ (A : Around) (outer : List Env) (s : Shared) (H : Hp) (args : Args) (us : List Value) (vs : List V) (Q : VK) (E : XK), Room k A → Env0 P w K mg base A outer s H → BindsTo s fd args (ps.zip us) → Vals vs us → sp vs H Q E →
    codeAny (model P w) A (.call (.ref f) args) (CR CX outer P w H s Q E) s
theorem FnOk.mono {P : Program} {w : World} {K : PySem.W.Frag} {mg : Str → Option Value} {base : Heap} {CX : CXT} {j k : Nat} {f : Addr} {fd : FuncData} {ps : List Str} {sp : Sp} (F : FnOk P w K mg base CX j f fd ps sp) (h : j ≤ k) :
    FnOk P w K mg base CX k f fd ps sp := ⟨F.len, fun A outer s H args us vs Q E hr => F.run A outer s H args us vs Q E (hr.mono h)⟩
theorem FnOk.imp {P : Program} {w : World} {K : PySem.W.Frag} {mg : Str → Option Value} {base : Heap} {CX : CXT} {k : Nat} {f : Addr} {fd : FuncData} {ps : List Str} {sp sp' : Sp} (F : FnOk P w K mg base CX k f fd ps sp)
    (h : ∀ vs H Q E, sp' vs H Q E → sp vs H Q E) : FnOk P w K mg base CX k f fd ps sp' :=
  ⟨fun vs H Q E q => F.len vs H Q E (h _ _ _ _ q), fun A outer s H args us vs Q E hr he hb hv hs => F.run A outer s H args us vs Q E hr he hb hv (h _ _ _ _ hs)⟩
theorem Env0.in1 {P : Program} {w : World} {K : PySem.W.Frag} {mg : Str → Option Value} {base : Heap} {A : Around} {outer : List Env} {s : Shared} {H : Hp} (e : Env0 P w K mg base A outer s H) :
    Env0 P w K mg base A.in1 outer s H := ⟨e.frames, e.mod, e.bs, e.bsz, e.funs, e.frf, e.hok, e.bare⟩
section
variable {X : Cx} {pins : List (Addr × Obj)} {σ : St} {H : Hp} {s s' : Shared}
theorem Inv.env0 (I : Inv X pins σ H s) : Env0 X.prog X.w X.K X.mg X.base X.A X.stack s H :=
  ⟨I.ok.frames, I.ok.mod, I.bs, Nat.le_trans I.ok.bsz I.sz, I.stack, I.stkFree, I.hok, I.bare⟩
theorem Inv.after {Q : VK} {u : Value} (I : Inv X pins σ H s) (h : CE X.stack X.prog X.w H s Q u s') : EP X pins σ Q u s' := by
  obtain ⟨v, H', os, bare, un, hok, r, q⟩ := h
  obtain ⟨hh, g, d, t, os'⟩ := s'
  obtain rfl : os' = s.os := os
  exact ⟨v, H', I.call (h' := hh) (g' := g) (d' := d) (t' := t) (ch := []) un hok bare (fun b z => absurd z (by simp)), r, q⟩
end
def Binds (K : PySem.W.Frag) (fd : FuncData) (ps : List Str) (ds : List Value) : Prop :=
  ∀ (s : Shared) (us : List Value), K.In s.heap → (us ++ ds).length = ps.length → BindsTo s fd ⟨us, []⟩ (ps.zip (us ++ ds))
theorem Binds.all {K : PySem.W.Frag} {fd : FuncData} {ps : List Str} (h : ∀ us : List Value, us.length = ps.length → bindArgs fd ⟨us, []⟩ = pure (ps.zip us)) : Binds K fd ps [] := fun s us _ hl => by
  rw [List.append_nil] at hl ⊢
  exact .of_eq (h us hl)
section
variable {X : Cx} {CX : CXT} {k : Nat} {f C : Addr} {fd : FuncData} {ps : List Str} {sp : Sp} {dvs : List V} {ds : List Value} {E : XK} {x m : Str} {p pos apos : Pos} {e o : Expr} {es : List Expr} {ta : TE} {t : TA}
structure Mk (K : PySem.W.Frag) (C f : Addr) : Prop where
  makes : PySem.W.makesIn K C = true
  init : PySem.W.findIn K (.ref C) "__init__" = some (some (.ref f))
  fn : PySem.W.isFn K (.ref f) = true
  kp : PySem.W.keepIn K (.ref C) = true
end
section
variable {X : Cx} {CX : CXT} {k : Nat} {f C : Addr} {fd : FuncData} {ps ks : List Str} {sp : Sp} {E : XK} {x m : Str} {p pos apos kpos : Pos} {e o : Expr} {es : List Expr} {kws : List Keyword} {te ta : TE} {t tk : TA} {nm : Option Str}
structure KBinds (K : PySem.W.Frag) (fd : FuncData) (ps ks : List Str) (g : List Value → List Value → List Value) (gV : List V → List V → List V) : Prop where
  to : ∀ (s : Shared) (us ws : List Value), K.In s.heap → (g us ws).length = ps.length → BindsTo s fd ⟨us, ks.zip ws⟩ (ps.zip (g us ws))
  rel : ∀ {vs : List V} {us : List Value} {zs : List V} {ws : List Value}, Vals vs us → Vals zs ws → Vals (gV vs zs) (g us ws)
variable {g : List Value → List Value → List Value} {gV : List V → List V → List V}
end
structure FnScope (N P : List Str) (sc : Scope) : Prop where
  kind : sc.kind = .function
  co : sc.isCoroutine = false
  gen : sc.isGenerator = false
  nd : N.Nodup
  pre : N.take P.length = P
  par : ∀ x ∈ P, sc.names.lookup x = some .local ∨ sc.names.lookup x = some .cell
  nofree : ∀ y ∈ sc.names, y.2 ≠ .free
theorem zadq {kindOf : Str → Option NameKind} {x : Str} : ∀ {binds : List (Str × Value)} {m : Str → Option Value}, (∀ v, (x, v) ∉ binds) → bindL kindOf binds m x = m x
  | [], _, _ => rfl
  | (n, v) :: r, m, h => by
    unfold bindL
    rw [zadq fun w hw => h w (List.mem_cons_of_mem _ hw)]
    split
    · have : x ≠ n := by rintro rfl; exact h v List.mem_cons_self
      simp [this]
    · rfl
theorem zadn {kindOf : Str → Option NameKind} {x : Str} : ∀ {binds : List (Str × Value)} {m : Str → Option Value}, (∀ v, (x, v) ∉ binds) → bindC kindOf binds m x = m x
  | [], _, _ => rfl
  | (n, v) :: r, m, h => by
    unfold bindC
    rw [zadn fun w hw => h w (List.mem_cons_of_mem _ hw)]
    split
    · rfl
    · have : x ≠ n := by rintro rfl; exact h v List.mem_cons_self
      simp [this]
theorem zad7 {kindOf : Str → Option NameKind} {x : Str} {v : Value} : ∀ {P : List Str} {vs : List Value} {i : Nat} {m : Str → Option Value}, P.Nodup → P[i]? = some x → vs[i]? = some v → kindOf x = some .local →
    bindL kindOf (P.zip vs) m x = some v
  | [], _, _, _, _, h, _, _ => by simp at h
  | _ :: _, [], _, _, _, _, h, _ => by simp at h
  | p :: P, w :: vs, 0, m, nd, h1, h2, hk => by
    simp at h1 h2; subst h1; subst h2
    show bindL kindOf ((p, w) :: P.zip vs) m p = _
    unfold bindL
    rw [zadq fun v hv => (List.nodup_cons.mp nd).1 (List.of_mem_zip hv).1, if_pos hk]
    simp
  | p :: P, w :: vs, i + 1, m, nd, h1, h2, hk => by
    show bindL kindOf ((p, w) :: P.zip vs) m x = _
    unfold bindL
    exact zad7 (i := i) (List.nodup_cons.mp nd).2 (by simpa using h1) (by simpa using h2) hk
theorem zadf {kindOf : Str → Option NameKind} {x : Str} {v : Value} : ∀ {P : List Str} {vs : List Value} {i : Nat} {m : Str → Option Value}, P.Nodup → P[i]? = some x → vs[i]? = some v → kindOf x ≠ some .local →
    bindC kindOf (P.zip vs) m x = some v
  | [], _, _, _, _, h, _, _ => by simp at h
  | _ :: _, [], _, _, _, _, h, _ => by simp at h
  | p :: P, w :: vs, 0, m, nd, h1, h2, hk => by
    simp at h1 h2; subst h1; subst h2
    show bindC kindOf ((p, w) :: P.zip vs) m p = _
    unfold bindC
    rw [zadn fun v hv => (List.nodup_cons.mp nd).1 (List.of_mem_zip hv).1, if_neg hk]
    simp
  | p :: P, w :: vs, i + 1, m, nd, h1, h2, hk => by
    show bindC kindOf ((p, w) :: P.zip vs) m x = _
    unfold bindC
    exact zadf (i := i) (List.nodup_cons.mp nd).2 (by simpa using h1) (by simpa using h2) hk
def start (N : List Str) (vs : List V) : St := vs.map some ++ List.replicate (N.length - vs.length) none
def cxOf (CX : CXT) (P : Program) (w : World) (K : PySem.W.Frag) (mg : Str → Option Value) (base : Heap) (N : List Str) (qual : Str) (scope : Scope) (f : Addr) (cd : Value) (A : Around) (outer : List Env) (s : Shared) (H : Hp) (E : XK) : Cx where
  prog := P
  w := w
  K := K
  mg := mg
  base := base
  A := A.deeper (envOfC qual scope s.heap.objs.size f cd)
  N := N
  s₀ := s
  H₀ := H
  env := envOfC qual scope s.heap.objs.size f cd
  outer := outer
  stack := envOfC qual scope s.heap.objs.size f cd :: outer
  ex := []
  calm := true
  fn := fun _ => true
  pn := []
  xe := fun e s' => wpAny (model P w) (A.deeper (envOfC qual scope s.heap.objs.size f cd)) (leaving (envOfC qual scope s.heap.objs.size f cd) e) (fun _ s'' => CX outer H s E e s'') (fun e' s'' => CX outer H s E e' s'') s'
theorem zafr {sc : Scope} {n : Nat} {x : Str} (h : sc.names.lookup x = some .cell) : ∃ c, (cellsFrom n sc.names []).lookup x = some c := by
  have q := PySem.W.cellsFrom_some sc.names n [] (.inl h)
  exact Option.isSome_iff_exists.mp q
theorem zacd {CX : CXT} {P : Program} {w : World} {K : PySem.W.Frag} {mg : Str → Option Value} {base : Heap} {N ps : List Str} {qual : Str} {scope : Scope} {f : Addr} {cd : Value} {A : Around} {outer : List Env} {s s1 : Shared} {H : Hp} {E : XK} {us : List Value} {vs : List V}
    (S : FnScope N ps scope) (hd : A.handled = none) (e0 : Env0 P w K mg base A outer s H) (hl : vs.length = ps.length) (r : Vals vs us)
    (x : InCallC s s.heap.objs.size (bindL (envOfC qual scope s.heap.objs.size f cd).kindOf (ps.zip us) fun _ => none) (cellsFrom (s.heap.objs.size + 1) scope.names []) (bindC (envOfC qual scope s.heap.objs.size f cd).kindOf (ps.zip us) fun _ => none) s1) :
    Inv (cxOf CX P w K mg base N qual scope f cd A outer s H E) [] (start N vs) H s1 := by
  have hpl : ps.length ≤ N.length := by have := congrArg List.length S.pre; rw [List.length_take] at this; omega
  obtain ⟨h1, tk, rfl, hk⟩ := x.done
  have noA : ∀ b : Addr, b ∉ (cxOf CX P w K mg base N qual scope f cd A outer s H E).ex := fun b z => absurd (show b ∈ ([] : List Addr) from z) (by simp)
  refine ⟨⟨e0.mod, S.kind, rfl, rfl, Nat.le_refl _, fun y z c h1 h2 => ?_, fun y hy => ?_, fun y c _ h => ?_, fun _ => hd, Around.frames_deeper e0.frames, .inr ⟨rfl, rfl⟩, fun b z => absurd z (noA b), e0.bs, e0.bsz, fun b _ _ => noA b, fun b z => absurd z (noA b), e0.funs, e0.frf⟩,
    rfl, e0.bare, Un.kept hk, ⟨_, x.toInCall.ns, fun i y v h1 h2 h3 => ?_⟩, fun y c h => ⟨_, x.cell y c h⟩, e0.hok.fresh (Nat.le_refl _), fun y c h => ?_, fun p hp => absurd (show p ∈ ([] : List (Addr × Obj)) from hp) (by simp), e0.hok.kept hk, ?_⟩
  · exact name_of_addr x.apart (PySem.mem_of_lookup h1) (PySem.mem_of_lookup h2)
  · have hy : scope.names.lookup y = some .cell ∨ scope.names.lookup y = some .free := hy
    rcases hy with hy | hy
    · exact zafr hy
    · exact absurd rfl (S.nofree _ (PySem.mem_of_lookup hy))
  · exact Nat.le_of_lt (x.above y c (PySem.mem_of_lookup h))
  · have hi : i < vs.length := by
      unfold start at h2
      by_cases hi : i < vs.length
      · exact hi
      · rw [List.getElem?_append_right (by simpa using hi)] at h2
        rw [List.getElem?_replicate] at h2
        split at h2 <;> cases h2
    have ha : vs[i]? = some v := by
      unfold start at h2
      rw [List.getElem?_append_left (by simpa using hi), List.getElem?_map] at h2
      cases e : vs[i]? with
      | none => rw [e] at h2; cases h2
      | some a => rw [e] at h2; cases h2; rfl
    obtain ⟨u, hu, rv⟩ := r.get ha
    have hp : ps[i]? = some y := by
      rw [← S.pre, List.getElem?_take_of_lt (by omega)]; exact h1
    have ndP : ps.Nodup := by rw [← S.pre]; exact S.nd.sublist (List.take_sublist _ _)
    refine ⟨u, rv, ?_⟩
    rcases S.par y (List.mem_of_getElem? hp) with k | k
    · exact .inl ⟨k, zad7 ndP hp hu k⟩
    · obtain ⟨c, e⟩ := zafr (n := s.heap.objs.size + 1) k
      refine .inr ⟨.inl k, c, e, ?_⟩
      have q := x.cell y c e
      rw [zadf ndP hp hu (by show scope.names.lookup y ≠ _; rw [k]; decide)] at q
      exact q
  · exact e0.hok.fresh (Nat.le_of_lt (x.above y c (PySem.mem_of_lookup h)))
  · unfold start
    show _ = N.length
    rw [List.length_append, List.length_map, List.length_replicate]
    omega
theorem fn_of {CX : CXT} {P : Program} {w : World} {K : PySem.W.Frag} {mg : Str → Option Value} {base : Heap} {k : Nat} {f : Addr} {name qual : Str} {params : Arguments} {body : List Stmt} {scope : Scope} {dV kV doc pm cdv ct oc : Value} {an od : Option Addr}
    {osl : Array (Option Value)} {N ps : List Str} {sp : Sp} (lk : K.lookup f = some ⟨oc, od, .func (PySem.W.fnOf name qual params body scope dV kV doc pm an cdv ct), osl⟩) (hcd : PySem.W.codeIn K cdv qual = true) (S : FnScope N ps scope)
    (len : ∀ vs H Q E, sp vs H Q E → vs.length = ps.length)
    (hbody : ∀ (A : Around) (outer : List Env) (s : Shared) (H : Hp) (vs : List V) (Q : VK) (E : XK), Room k (A.deeper (envOfC qual scope s.heap.objs.size f cdv)) → sp vs H Q E →
      ∃ t, PSs (cxOf CX P w K mg base N qual scope f cdv A outer s H E) body t ∧ t { nx := fun _ H' => Q .non H', rt := Q } (start N vs) H) :
    FnOk P w K mg base CX (k + 1) f (PySem.W.fnOf name qual params body scope dV kV doc pm an cdv ct) ps sp := by
  refine ⟨len, fun A outer s H args us vs Q E hr e0 hb r hsp => ?_⟩
  have hl := len _ _ _ _ hsp
  have KX : K.In s.heap := e0.mod.kin.keeps fun b o e => (e0.bs b o e).1
  have lim : s.heap.NoLimit := e0.mod.nolimit.keeps fun b o e => (e0.bs b o e).1
  have hkind : ∀ y ∈ ps.zip us, scope.names.lookup y.1 = some .local ∨ (scope.names.lookup y.1 = some .cell ∧ ((cellsFrom (s.heap.objs.size + 1) scope.names []).lookup y.1).isSome = true) := fun ⟨n, v⟩ hy => by
    rcases S.par n (List.of_mem_zip hy).1 with q | q
    · exact .inl q
    · exact .inr ⟨q, PySem.W.cellsFrom_some _ _ _ (.inl q)⟩
  refine codeAny_call_function hr.depth (KX _ _ lk) rfl S.co S.gen rfl (PySem.W.codeRec_of KX hcd) (hb _ _ _ _ ?_)
  refine wpAny_newFunctionEnv_cells S.kind hkind fun env he s1 x => ?_
  subst he
  refine ⟨lim.keeps x.toInCall.keep, codeAny_func ?_⟩
  obtain ⟨t, ht, hq⟩ := hbody A outer s H vs Q E (hr.deeper _) hsp
  have I : Inv (cxOf CX P w K mg base N qual scope f cdv A outer s H E) [] (start N vs) H s1 := zacd S hr.hd e0 hl r x
  refine wpAny_mono (ht [] s1 (start N vs) H _ I hq) (fun fl s' hs => ?_) fun e s' hs => hs
  have fin : ∀ {σ' : St} {H' : Hp} {v : V} {u : Value}, Inv (cxOf CX P w K mg base N qual scope f cdv A outer s H E) [] σ' H' s' → RelV v u → Q v H' → CE outer P w H s Q u s' :=
    fun {σ' H' v u} J rv q => ⟨v, H', J.os, J.bare, J.base, J.hok, rv, q⟩
  cases fl with
  | ret u =>
    obtain ⟨v, σ', H', J, rv, q⟩ := hs
    exact fin J rv q
  | next =>
    obtain ⟨σ', H', J, q⟩ := hs
    exact fin (v := V.non) (u := Value.none) J rfl q
  | brk =>
    obtain ⟨_, _, _, q⟩ := hs
    exact False.elim q
  | cont =>
    obtain ⟨_, _, _, q⟩ := hs
    exact False.elim q
end L2
namespace L2
open PySem PySem.Spec PyProof.Rows
section
variable {X : Cx} {x : Str} {p pos : Pos} {e : Expr} {es : List Expr} {t : TA} {id T : String} {r : List V → Hp → VK → Prop}
def tCB (r : List V → Hp → VK → Prop) (t : TA) : TE := fun σ H Q => t σ H fun vs H1 => r vs H1 Q
theorem zac3 (hc : CallR X (.builtin id) r) (hg : Gl X x) (hm : X.mg x = none) (hv : bootBuiltins x = some (.builtin id)) (ha : PA X (e :: es) t) (hn : x ≠ "__name__" := by decide) (hdb : (x == ("__debug__" : Str)) = false := by decide)
    (he : starEach (e :: es) X.env = (false, eval e X.env) :: starEach es X.env := by rfl) (hpl : (backTo pos (starEach es X.env)).any (·.1) = false := by rfl) : PE X (.Call (.Name x p) (e :: es) [] pos) (tCB r t) := by
  intro pins s σ H Q I h
  refine wpAny_Call_Name_kw (ld_blt I hg hm hv ?_ hn hdb)
  exact PyProof.Rows.callWith_builtin1 (thn (ha pos pins s σ H _ I h) fun us s1 ⟨vs, H1, I1, r1, q1⟩ => hc pins s1 σ H1 vs us Q I1 r1 q1) he hpl
theorem pe_callTy (hc : CallR X (.type T) r) (hg : Gl X x) (hm : X.mg x = none) (hv : bootBuiltins x = some (.type T)) (ha : PA X (e :: es) t) (hn : x ≠ "__name__" := by decide) (hdb : (x == ("__debug__" : Str)) = false := by decide)
    (he : starEach (e :: es) X.env = (false, eval e X.env) :: starEach es X.env := by rfl) (hpl : (backTo pos (starEach es X.env)).any (·.1) = false := by rfl) : PE X (.Call (.Name x p) (e :: es) [] pos) (tCB r t) := by
  intro pins s σ H Q I h
  refine wpAny_Call_Name_kw (ld_blt I hg hm hv ?_ hn hdb)
  exact PyProof.Rows.callWith_type1 (thn (ha pos pins s σ H _ I h) fun us s1 ⟨vs, H1, I1, r1, q1⟩ => hc pins s1 σ H1 vs us Q I1 r1 q1) he hpl
end
end L2
namespace HT
open PySem PyProof.Rows
def lexLt : List Int → List Int → Bool
  | [], [] => false
  | [], _ :: _ => true
  | _ :: _, [] => false
  | x :: xs, y :: ys => if x = y then lexLt xs ys else decide (x < y)
section
open PySem.SeqAt
open PySem.AutoSeq1 (wpAny_loadPart')
open PySem.MeetsSeq PySem.MeetsSeq2 PySem.MeetsSeq3
end
section
variable {prog : Program} {w : World} {A : Around} {E : Value → Shared → Prop} {s : Shared}
theorem cat_tup {t b : Addr} {vs ws : List Value} {Q : Value → Shared → Prop} (ht : IsTup s.heap t vs.toArray) (hb : IsTup s.heap b ws.toArray) (hv : vs ≠ [])
    (h1 : ws = [] → Q (.ref t) s) (h2 : ws ≠ [] → Q (.ref s.heap.objs.size) { s with heap := s.heap.push { cls := .type "tuple", data := .seq (vs ++ ws).toArray } })
    (hsz : vs.length + ws.length ≤ sizeLine) : wpAny (model prog w) A (binaryOp .Add (.ref t) (.ref b)) Q E s := by
  obtain ⟨⟨cls, dd, data, sl⟩, ho, hc, n, hd⟩ := id ht
  obtain ⟨⟨cls2, dd2, data2, sl2⟩, ho2, hc2, n2, hd2⟩ := id hb
  simp only at hc hd hc2 hd2
  subst hc hd hc2 hd2
  have e : vs.toArray ++ ws.toArray = (vs ++ ws).toArray := by simp
  by_cases hw : ws = []
  · exact concat_meets ⟨_, ho, rfl⟩ ⟨_, ho2, rfl⟩ noFill_tuple_add seq_tuple_add PySem.F.slot_tuple_add PySem.F.entry_tuple_add (PySem.F.args_tuple_add_2 _ _)
      (tuple_addW1 t b vs.toArray ws.toArray n n2 dd dd2 sl sl2 (by simpa using hv) (by simp [hw])) ⟨ho, ho2, h1 hw⟩
  · refine concat_meets ⟨_, ho, rfl⟩ ⟨_, ho2, rfl⟩ noFill_tuple_add seq_tuple_add PySem.F.slot_tuple_add PySem.F.entry_tuple_add (PySem.F.args_tuple_add_2 _ _)
      (tuple_addW2 t b vs.toArray ws.toArray n n2 dd dd2 sl sl2 (by simpa using hv) (by simpa using hw) (by rw [List.size_toArray, List.size_toArray]; exact hsz)) ⟨ho, ho2, ?_⟩
    rw [e]
    exact h2 hw
def sIx (n d : Nat) : Option Int → Nat
  | none => d
  | some v => if v < 0 then (v + (n : Int)).toNat else min v.toNat n
theorem sIx_nat (n d k : Nat) : sIx n d (some (k : Int)) = min k n := by
  show (if (k : Int) < 0 then ((k : Int) + (n : Int)).toNat else min (k : Int).toNat n) = min k n
  rw [if_neg (by omega), Int.toNat_natCast]
theorem sIx_le (n d : Nat) (hd : d ≤ n) (o : Option Int) : sIx n d o ≤ n := by
  cases o with
  | none => exact hd
  | some v =>
    show (if v < 0 then (v + (n : Int)).toNat else min v.toNat n) ≤ n
    by_cases hv : v < 0
    · rw [if_pos hv]; omega
    · rw [if_neg hv]; exact Nat.min_le_right _ _
theorem clip_eq (v : Int) (n d : Nat) : (if v < 0 then max (v + (n : Int)) 0 else min v (n : Int)) = ((sIx n d (some v) : Nat) : Int) := by
  show (if v < 0 then max (v + (n : Int)) 0 else min v (n : Int)) = (((if v < 0 then (v + (n : Int)).toNat else min v.toNat n) : Nat) : Int)
  by_cases hv : v < 0
  · simp only [if_pos hv]; omega
  · simp only [if_neg hv]; omega
theorem zaew (lo hi : Option Int) (n : Nat) : Builtin.Slice.sliceAdjust lo hi 1 (n : Int) = (((sIx n 0 lo : Nat) : Int), ((sIx n n hi : Nat) : Int)) := by
  have h1 : ¬ ((1 : Int) < 0) := by omega
  unfold Builtin.Slice.sliceAdjust
  simp only [h1, if_false]
  refine Prod.ext ?_ ?_
  · cases lo with
    | none => rfl
    | some v => exact clip_eq v n 0
  · cases hi with
    | none => rfl
    | some v => exact clip_eq v n n
theorem zaej (i j : Nat) : Builtin.Slice.slicePlaces (i : Int) (j : Int) 1 = j - i := by
  unfold Builtin.Slice.slicePlaces
  have h1 : (1 : Int) > 0 := by omega
  simp only [h1, if_true, Int.ediv_one]
  split <;> omega
theorem zacu {v : Value} {o : Option Int} {Q : Option Int → Shared → Prop} (p : IsPart v o) (h : Q o s) : wpAny (model prog w) A (Builtin.Slice.slicePartIndex v) Q E s := by
  cases p with
  | none => exact slicePart_none h
  | int i t => exact slicePart_int h
theorem zabo {sl : Addr} {vl vu : Value} {lo hi : Option Int} {n : Nat} {Q : Int × Int × Nat → Shared → Prop} (hs : s.heap.IsSliceOf sl vl vu .none) (pl : IsPart vl lo) (pu : IsPart vu hi)
    (h : Q (((sIx n 0 lo : Nat) : Int), 1, sIx n n hi - sIx n 0 lo) s) : wpAny (model prog w) A (Builtin.Slice.sliceApplied (.ref sl) (pure (n : Int))) Q E s := by
  obtain ⟨os, hos, hcs, hds⟩ := id hs
  unfold Builtin.Slice.sliceApplied Builtin.Slice.sliceFields
  refine wpAny_bind (wpAny_bind (wpAny_field hos hds (x := vl) rfl (wpAny_bind (wpAny_field hos hds (x := vu) rfl (wpAny_bind (wpAny_field hos hds (x := .none) rfl (wpAny_pure ?_)))))))
  refine wpAny_bind (slicePart_none ?_)
  show wpAny _ _ (if ((1 : Int) == 0) = true then _ else _) _ _ s
  rw [if_neg (by decide)]
  refine wpAny_bind (zacu pl (wpAny_bind (zacu pu (wpAny_bind (wpAny_pure ?_)))))
  show wpAny _ _ (match Builtin.Slice.sliceAdjust lo hi 1 (n : Int) with | (lo, hi) => pure (lo, (1 : Int), Builtin.Slice.slicePlaces lo hi 1)) _ _ s
  rw [zaew lo hi n]
  show wpAny _ _ (pure (((sIx n 0 lo : Nat) : Int), (1 : Int), Builtin.Slice.slicePlaces ((sIx n 0 lo : Nat) : Int) ((sIx n n hi : Nat) : Int) 1)) _ _ s
  rw [zaej]
  exact wpAny_pure h
theorem pick_gen (xs : Array Value) (i k : Nat) : ((List.range k).filterMap fun (m : Nat) => xs[((i : Int) + (m : Int) * 1).toNat]?).toArray = ((xs.toList.drop i).take k).toArray := by
  have e : (fun (m : Nat) => xs[((i : Int) + (m : Int) * 1).toNat]?) = fun m => xs[i + m]? := by
    funext m
    have : ((i : Int) + (m : Int) * 1).toNat = i + m := by omega
    rw [this]
  rw [e]
  have := pick_run xs i k
  rw [List.filterMap_map] at this
  have e2 : ((fun x => xs[x]?) ∘ fun x => i + x) = fun m => xs[i + m]? := rfl
  rw [e2] at this
  rw [this]
theorem getItem_tuple_cut {t sl : Addr} {items : Array Value} {vl vu : Value} {lo hi : Option Int} {Q : Value → Shared → Prop} (ht : IsTup s.heap t items) (hs : s.heap.IsSliceOf sl vl vu .none) (pl : IsPart vl lo) (pu : IsPart vu hi)
    (hw : ¬ (sIx items.size 0 lo = 0 ∧ sIx items.size items.size hi = items.size))
    (h : Q (.ref s.heap.objs.size) { s with heap := s.heap.push { cls := .type "tuple", data := .seq ((items.toList.drop (sIx items.size 0 lo)).take (sIx items.size items.size hi - sIx items.size 0 lo)).toArray } })
    (hsz : items.size ≤ sizeLine) : wpAny (model prog w) A (getItem (.ref t) (.ref sl)) Q E s := by
  have htake : sizeOk (.seq ((items.toList.drop (sIx items.size 0 lo)).take (sIx items.size items.size hi - sIx items.size 0 lo)).toArray) := by
    show ((items.toList.drop (sIx items.size 0 lo)).take (sIx items.size items.size hi - sIx items.size 0 lo)).toArray.size ≤ sizeLine
    rw [List.size_toArray, List.length_take, List.length_drop, Array.length_toList]
    omega
  have hj : sIx items.size items.size hi ≤ items.size := sIx_le _ _ (Nat.le_refl _) hi
  obtain ⟨os, hos, hcs, hds⟩ := id hs
  have hTs : s.TypeIs (.ref sl) "slice" := ⟨os, hos, hcs⟩
  unfold getItem
  try with_reducible refine wpAny_holding ?_
  first | refine wpAny_bind (wpAny_pure ?_) | skip
  refine wpAny_bind (wpAny_sequenceKey ht.typeIs (by decide) ?_)
  refine wpAny_bind (wpAny_callSpecial?_slot (name := Str.ofString "__getitem__") ht.typeIs PyProof.Rows.slot_tuple_getitem
    (wpAny_call_entry PyProof.Rows.slot_tuple_getitem ht.typeIs entry_tuple_getitem ?_ (args_tuple_getitem _ _)))
  show wpAny _ _ (Builtin.Tuple.tupleItemsOf (.ref t) >>= _) _ _ s
  refine wpAny_bind (tupleItemsOf_ ht ?_)
  refine wpAny_bind (wpAny_typeOf hTs ?_)
  rw [if_pos (by decide)]
  refine wpAny_bind (zabo hs pl pu ?_)
  have hno : ¬ ((((sIx items.size 0 lo : Nat) : Int) == 0 && (1 : Int) == 1 && (sIx items.size items.size hi - sIx items.size 0 lo) == items.size) = true) := by
    intro q
    rw [Bool.and_eq_true, Bool.and_eq_true] at q
    have q1 : ((sIx items.size 0 lo : Nat) : Int) = 0 := eq_of_beq q.1.1
    have q2 : sIx items.size items.size hi - sIx items.size 0 lo = items.size := eq_of_beq q.2
    exact hw ⟨by omega, by omega⟩
  show wpAny _ _ (if (((sIx items.size 0 lo : Nat) : Int) == 0 && (1 : Int) == 1 && (sIx items.size items.size hi - sIx items.size 0 lo) == items.size) = true then _ else _) _ _ s
  rw [if_neg hno, pick_gen]
  first
    | exact wpAny_bind (m := Builtin.Tuple.tupleExact _) (wpAny_newObj_type (wpAny_pure ⟨_, rfl, wpAny_pure h⟩) htake)
    | exact wpAny_bind (m := Builtin.Tuple.tupleExact _) (wpAny_newObj_type (wpAny_bind (wpAny_pure (wpAny_pure ⟨_, rfl, wpAny_pure h⟩))) htake)
    | exact wpAny_bind (wpAny_bind (m := Builtin.Tuple.tupleExact _) (wpAny_newObj_type (wpAny_pure (wpAny_pure ⟨_, rfl, wpAny_pure h⟩)) htake))
    | exact wpAny_bind (wpAny_bind (m := Builtin.Tuple.tupleExact _) (wpAny_newObj_type (wpAny_pure ⟨_, rfl, wpAny_pure h⟩) htake))
end
end HT
namespace L2
open PySem PySem.Spec PyProof.Rows
abbrev TO := St → Hp → (Option Int → Hp → Prop) → Prop
def PO (X : Cx) (e : Option Expr) (t : TO) : Prop :=
  ∀ (pins : List (Addr × Obj)) (s : Shared) (σ : St) (H : Hp) (Q : Option Int → Hp → Prop), Inv X pins σ H s → t σ H Q →
    wpAny (model X.prog X.w) X.A (evalPart e X.env) (fun u s' => ∃ o H', Inv X pins σ H' s' ∧ IsPart u o ∧ Q o H') X.xe s
def tNoPart : TO := fun _ H Q => Q none H
def tPart (t : TE) : TO := fun σ H Q => t σ H fun x H1 => ∃ i, x = .int i ∧ Q (some i) H1
section
variable {X : Cx} {e : Expr} {te : TE} {lo hi : Option Expr} {tl th : TO} {pos p2 : Pos}
theorem zadg : PO X none tNoPart := by
  intro pins s σ H Q I h
  rw [evalPart_none]
  exact wpAny_pure ⟨none, H, I, .none, h⟩
theorem zaer (h : PE X e te) : PO X (some e) (tPart te) := by
  intro pins s σ H Q I hw
  rw [evalPart_some]
  refine thn (h pins s σ H _ I hw) fun u s1 ⟨x, H1, I1, r1, q1⟩ => ?_
  obtain ⟨i, rfl, q⟩ := q1
  obtain ⟨t, rfl⟩ := r1
  exact ⟨some i, H1, I1, .int i t, q⟩
def SlR (X : Cx) (r : V → Option Int → Option Int → Hp → VK → Prop) : Prop :=
  ∀ (pins : List (Addr × Obj)) (s : Shared) (σ : St) (H : Hp) (x : V) (v vl vu : Value) (lo hi : Option Int) (sl : Addr) (Q : VK), Inv X pins σ H s → RelV x v → s.heap.IsSliceOf sl vl vu .none → IsPart vl lo → IsPart vu hi → r x lo hi H Q →
    ∃ T id, typeLookup (.type T) "__getitem__" = pure (some (.builtin id)) ∧ s.TypeIs v T ∧ wpAny (model X.prog X.w) X.A (getItem v (.ref sl)) (EP X pins σ Q) X.xe s
theorem SlR.or {r r' : V → Option Int → Option Int → Hp → VK → Prop} (h : SlR X r) (h' : SlR X r') : SlR X (fun x lo hi H Q => r x lo hi H Q ∨ r' x lo hi H Q) := by
  intro pins s σ H x v vl vu lo hi sl Q I rx hs pl pu q
  rcases q with q | q
  · exact h pins s σ H x v vl vu lo hi sl Q I rx hs pl pu q
  · exact h' pins s σ H x v vl vu lo hi sl Q I rx hs pl pu q
def tSl (r : V → Option Int → Option Int → Hp → VK → Prop) (te : TE) (tl th : TO) : TE := fun σ H Q => te σ H fun x H1 => tl σ H1 fun l H2 => th σ H2 fun u H3 => r x l u H3 Q
theorem zafu {r : V → Option Int → Option Int → Hp → VK → Prop} (hr : SlR X r) (he : PE X e te) (hl : PO X lo tl) (hu : PO X hi th) : PE X (.Subscript e (.Slice lo hi none p2) pos) (tSl r te tl th) := by
  intro pins s σ H Q I h
  refine Subscript_ (thn (he pins s σ H _ I h) fun v s1 ⟨x, H1, I1, r1, q1⟩ => ?_)
  refine wpAny_Slice (thn (hl pins s1 σ H1 _ I1 q1) fun vl s2 ⟨l, H2, I2, pl, q2⟩ => thn (hu pins s2 σ H2 _ I2 q2) fun vu s3 ⟨u, H3, I3, pu, q3⟩ => ?_)
  rw [evalPart_none]
  refine wpAny_pure ?_
  have I4 : Inv X pins σ H3 { s3 with heap := s3.heap.push { cls := .type "slice", data := .fields #[vl, vu, .none] } } := I3.kept (t' := s3.toks) fun b ob q => Heap.get?_push_of_some _ q
  obtain ⟨T, id, hT, ht, hg⟩ := hr pins { s3 with heap := s3.heap.push { cls := .type "slice", data := .fields #[vl, vu, .none] } } σ H3 x v vl vu l u s3.heap.objs.size Q I4 r1 (Heap.IsSliceOf.new ..) pl pu q3
  show wpAny (model X.prog X.w) X.A (subscriptTail e (.Slice lo hi none p2) v (.ref s3.heap.objs.size)) (EP X pins σ Q) X.xe { s3 with heap := s3.heap.push { cls := .type "slice", data := .fields #[vl, vu, .none] } }
  exact tail_any (ops := [.ref s3.heap.objs.size, v]) ht hT hg (by with_unfolding_all rfl)
def cutV (xs : List V) (lo hi : Option Int) : List V := (xs.drop (HT.sIx xs.length 0 lo)).take (HT.sIx xs.length xs.length hi - HT.sIx xs.length 0 lo)
theorem zab1 (xs : List V) (lo hi : Option Int) : (cutV xs lo hi).length ≤ xs.length := by
  unfold cutV
  rw [List.length_take, List.length_drop]
  omega
def rSlT (K : PySem.W.Frag) : V → Option Int → Option Int → Hp → VK → Prop := fun x lo hi H Q => ∃ a xs, x = .ref a ∧ SqT K H a xs ∧
  ¬ (HT.sIx xs.length 0 lo = 0 ∧ HT.sIx xs.length xs.length hi = xs.length) ∧ ∀ p, H p = none → Q (.ref p) (upd H p (.tup (cutV xs lo hi)))
theorem sl_tup : SlR X (rSlT X.K) := by
  intro pins s σ H x v vl vu lo hi sl Q I rx hs pl pu h
  obtain ⟨a, xs, rfl, hx, hw, q⟩ := h
  cases rx
  obtain ⟨its, r, ht, hz⟩ := I.tuple hx
  have hlen : its.toArray.size = xs.length := by rw [List.size_toArray]; exact r.length.symm
  refine ⟨"tuple", _, PyProof.Rows.slot_tuple_getitem.lookup, ht.typeIs, ?_⟩
  refine HT.getItem_tuple_cut ht hs pl pu (by rw [hlen]; exact hw) ?_ (by rw [hlen]; exact hz)
  rw [hlen]
  refine ⟨.ref s.heap.objs.size, _, I.laid (t' := s.toks) (o := .tup (cutV xs lo hi)) (fun b ob q => Heap.get?_push_of_some _ q) (Nat.le_refl _) ?_, rfl, q _ (I.hok.fresh (Nat.le_refl _))⟩
  exact ⟨Nat.le_trans (zab1 xs lo hi) hz, _, (r.drop (HT.sIx xs.length 0 lo)).take (HT.sIx xs.length xs.length hi - HT.sIx xs.length 0 lo), IsTup.new _ _⟩
def rCatT (K : PySem.W.Frag) : R2 := fun x y H Q => ∃ a b xs ys, x = .ref a ∧ y = .ref b ∧ SqT K H a xs ∧ SqT K H b ys ∧ xs ≠ [] ∧ xs.length + ys.length ≤ sizeLine ∧
  (ys = [] → Q (.ref a) H) ∧ (ys ≠ [] → ∀ p, H p = none → Q (.ref p) (upd H p (.tup (xs ++ ys))))
theorem Vals.nil_iff {xs : List V} {us : List Value} (r : Vals xs us) : us = [] ↔ xs = [] := by
  cases r with
  | nil => simp
  | cons _ _ => simp
theorem op_catT : OpR X (binaryOp .Add) (rCatT X.K) := by
  intro pins s σ H x y v u Q I rx ry h
  obtain ⟨a, b, xs, ys, rfl, rfl, ha, hb, hx, hz, q1, q2⟩ := h
  cases rx
  cases ry
  obtain ⟨its, r1, p1, _⟩ := I.tuple ha
  obtain ⟨its2, r2, p2, _⟩ := I.tuple hb
  refine HT.cat_tup p1 p2 (fun z => hx (r1.nil_iff.mp z)) (fun z => ⟨.ref a, H, I, rfl, q1 (r2.nil_iff.mp z)⟩) (fun z => ?_) (by rw [← r1.length, ← r2.length]; exact hz)
  refine ⟨.ref s.heap.objs.size, _, I.laid (t' := s.toks) (o := .tup (xs ++ ys)) (fun b ob q => Heap.get?_push_of_some _ q) (Nat.le_refl _) ?_, rfl, q2 (fun w => z (r2.nil_iff.mpr w)) _ (I.hok.fresh (Nat.le_refl _))⟩
  exact ⟨by rw [List.length_append]; exact hz, _, r1.append r2, IsTup.new _ _⟩
end
end L2
namespace L2
open PySem PySem.Spec PyProof.Rows
def ixN (n : Nat) (i : Int) : Option Nat := if 0 ≤ i then (if i < n then some i.toNat else none) else if -(n : Int) ≤ i then some (i + n).toNat else none
def atI {α : Type} (xs : List α) (i : Int) : Option α := (ixN xs.length i).bind fun j => xs[j]?
theorem ixN_seq {n : Nat} {i : Int} {j : Nat} (h : ixN n i = some j) : seqIndex? i n = some j ∧ j < n ∧ -(n : Int) ≤ i ∧ i < n := by
  unfold ixN at h
  by_cases h0 : 0 ≤ i
  · rw [if_pos h0] at h
    by_cases h1 : i < n
    · rw [if_pos h1] at h
      have e : i.toNat = j := Option.some.inj h
      exact ⟨by rw [seqIndex_of h0 h1, e], by omega, by omega, h1⟩
    · rw [if_neg h1] at h; cases h
  · rw [if_neg h0] at h
    by_cases h1 : -(n : Int) ≤ i
    · rw [if_pos h1] at h
      have e : (i + n).toNat = j := Option.some.inj h
      exact ⟨by rw [seqIndex_neg (by omega) h1, e], by omega, h1, by omega⟩
    · rw [if_neg h1] at h; cases h
theorem zaeo {α : Type} {xs : List α} {i : Int} {v : α} (h : atI xs i = some v) : ∃ j, seqIndex? i xs.length = some j ∧ xs[j]? = some v ∧ j < xs.length ∧ -(xs.length : Int) ≤ i ∧ i < xs.length := by
  unfold atI at h
  cases e : ixN xs.length i with
  | none => rw [e] at h; cases h
  | some j =>
    rw [e] at h
    obtain ⟨h1, h2, h3, h4⟩ := ixN_seq e
    exact ⟨j, h1, h, h2, h3, h4⟩
def zaf0 (b : Expr) : Prop := ∀ o i, subscripted b false o i = operate [o, i] (getItem o i)
def IxR (X : Cx) (r : R2) : Prop :=
  ∀ (value slice : Expr) (pins : List (Addr × Obj)) (s : Shared) (σ : St) (H : Hp) (x y : V) (v u : Value) (Q : VK), Inv X pins σ H s → RelV x v → RelV y u → r x y H Q →
    subscripted slice false v u = operate [v, u] (getItem v u) → wpAny (model X.prog X.w) X.A (subscriptTail value slice v u) (EP X pins σ Q) X.xe s
def MtR (X : Cx) (id : String) (r : V → List V → Hp → VK → Prop) : Prop :=
  ∀ (pins : List (Addr × Obj)) (s : Shared) (σ : St) (H : Hp) (x : V) (xs : List V) (v : Value) (us : List Value) (Q : VK), Inv X pins σ H s → RelV x v → Vals xs us → r x xs H Q →
    wpAny (model X.prog X.w) X.A (call (.builtin id) (v :: us)) (EP X pins σ Q) X.xe s
section
variable {X : Cx} {a b : Expr} {ta tb : TE} {pos : Pos}
theorem IxR.or {r r' : R2} (h : IxR X r) (h' : IxR X r') : IxR X (fun x y H Q => r x y H Q ∨ r' x y H Q) := by
  intro value slice pins s σ H x y v u Q I rx ry q hs
  rcases q with q | q
  · exact h value slice pins s σ H x y v u Q I rx ry q hs
  · exact h' value slice pins s σ H x y v u Q I rx ry q hs
theorem MtR.or {id : String} {r r' : V → List V → Hp → VK → Prop} (h : MtR X id r) (h' : MtR X id r') : MtR X id (fun x xs H Q => r x xs H Q ∨ r' x xs H Q) := by
  intro pins s σ H x xs v us Q I rx rs q
  rcases q with q | q
  · exact h pins s σ H x xs v us Q I rx rs q
  · exact h' pins s σ H x xs v us Q I rx rs q
theorem pe_ix {r : R2} (hr : IxR X r) (ha : PE X a ta) (hb : PE X b tb) (hs : zaf0 b) : PE X (.Subscript a b pos) (tOp r ta tb) := by
  intro pins s σ H Q I h
  exact Subscript_ (binT ha hb I h fun v u s2 x y H2 I2 rx ry q => hr a b pins s2 σ H2 x y v u Q I2 rx ry q (hs _ _))
def rIxL (K : PySem.W.Frag) : R2 := fun x y H Q => ∃ p xs i v, x = .ref p ∧ y = .int i ∧ SqL K H p xs ∧ atI xs i = some v ∧ Q v H
def rIxT (K : PySem.W.Frag) : R2 := fun x y H Q => ∃ p xs i v, x = .ref p ∧ y = .int i ∧ SqT K H p xs ∧ atI xs i = some v ∧ Q v H
def rIxS : R2 := fun x y H Q => ∃ z i c, x = .str z ∧ y = .int i ∧ z.length ≤ sizeLine ∧ atI z.cps.toList i = some c ∧ Q (.str ⟨#[c]⟩) H
theorem ix_list : IxR X (rIxL X.K) := by
  intro value slice pins s σ H x y v u Q I rx ry h hs
  obtain ⟨p, xs, i, z, rfl, rfl, hq, he, q⟩ := h
  cases rx
  obtain ⟨t, rfl⟩ := ry
  obtain ⟨its, r, pl, hz⟩ := I.list hq
  obtain ⟨j, h1, h2, h3, h4, h5⟩ := zaeo he
  obtain ⟨w, ew, rw'⟩ := r.get h2
  have hl := r.length
  have hn := line63
  have fin : EP X pins σ Q w s := ⟨z, H, I, rw', q⟩
  by_cases h0 : 0 ≤ i
  · have hj : i.toNat = j := by
      rw [seqIndex_of h0 h5] at h1
      exact Option.some.inj h1
    exact item_listR pl.isList h0 (by omega) (by rw [hj]; simpa using ew) fin hs
  · have hj : (i + (its.toArray.size : Int)).toNat = j := by
      rw [seqIndex_neg (by omega) h4] at h1
      rw [List.size_toArray, ← hl]
      exact Option.some.inj h1
    exact subscriptTail_builtinR (x := w) pl.isList.typeIs slot_list_getitem.lookup
      (wpAny_getItem_list_neg (Q := fun r s' => r = w ∧ EP X pins σ Q r s') pl.isList (by omega) (by rw [List.size_toArray] <;> omega) (by omega) (by rw [hj]; simpa using ew) ⟨rfl, fin⟩) hs
theorem ix_tup : IxR X (rIxT X.K) := by
  intro value slice pins s σ H x y v u Q I rx ry h hs
  obtain ⟨p, xs, i, z, rfl, rfl, hq, he, q⟩ := h
  cases rx
  obtain ⟨t, rfl⟩ := ry
  obtain ⟨its, r, pl, hz⟩ := I.tuple hq
  obtain ⟨j, h1, h2, h3, h4, h5⟩ := zaeo he
  obtain ⟨w, ew, rw'⟩ := r.get h2
  have hl := r.length
  have hn := line63
  have fin : EP X pins σ Q w s := ⟨z, H, I, rw', q⟩
  exact subscriptTail_builtinR (x := w) pl.typeIs slot_tuple_getitem.lookup
    (getItem_tuple (j := j) (Q := fun r s' => r = w ∧ EP X pins σ Q r s') pl (by omega) (by omega) (by rw [List.size_toArray, ← hl]; exact h1) (by simpa using ew) ⟨rfl, fin⟩) hs
theorem ix_str : IxR X rIxS := by
  intro value slice pins s σ H x y v u Q I rx ry h hs
  obtain ⟨z, i, c, rfl, rfl, hz, he, q⟩ := h
  obtain ⟨t, rfl⟩ := rx
  obtain ⟨t', rfl⟩ := ry
  obtain ⟨j, h1, h2, h3, h4, h5⟩ := zaeo he
  have hl : z.cps.toList.length = z.length := by simp [Str.length]
  rw [hl] at h1 h4 h5
  have hn := line63
  exact tail_any (typeIs_str s z t) slot_str_getitem.lookup (getItem_str (c := c) (by
    have e1 : decide (i < -(2 ^ 63 : Int)) = false := decide_eq_false (by omega)
    have e2 : decide (i ≥ 2 ^ 63) = false := decide_eq_false (by omega)
    rw [e1, e2, Bool.or_false]) (by rw [h1]; simpa using h2) ⟨.str ⟨#[c]⟩, H, I.tok _, ⟨_, rfl⟩, q⟩) hs
def rIx (K : PySem.W.Frag) : R2 := fun x y H Q => rIxL K x y H Q ∨ rIxT K x y H Q ∨ rIxS x y H Q
theorem ix_seq : IxR X (rIx X.K) := ix_list.or (ix_tup.or ix_str)
theorem Inv.lst {pins : List (Addr × Obj)} {σ : St} {H : Hp} {s : Shared} {p : Addr} {xs : List V} (I : Inv X pins σ H s) (h : H p = some (.lst xs)) :
    ∃ (its : List Value) (n : Nat), Vals xs its ∧ s.heap.get? p = some { cls := .type "list", data := .seq its.toArray n } ∧ xs.length ≤ sizeLine := by
  obtain ⟨z, its, n, r, e⟩ := I.hok p _ h
  exact ⟨its, n, r, e, z⟩
theorem zac6 (lo hi : Option Int) (n : Nat) : (sliceBounds lo hi none n).1 = ((HT.sIx n 0 lo : Nat) : Int) ∧ (sliceBounds lo hi none n).2.1 = ((HT.sIx n n hi : Nat) : Int) ∧ (sliceBounds lo hi none n).2.2 = 1 := by
  refine ⟨?_, ?_, rfl⟩
  · cases lo with
    | none => simp [sliceBounds, HT.sIx]
    | some i =>
      simp only [sliceBounds, HT.sIx, Option.getD_none, show (1 : Int) > 0 by decide, if_true]
      by_cases h : i < 0
      · simp only [h, if_true] <;> omega
      · simp only [h, if_false] <;> omega
  · cases hi with
    | none => simp [sliceBounds, HT.sIx]
    | some i =>
      simp only [sliceBounds, HT.sIx, Option.getD_none, show (1 : Int) > 0 by decide, if_true]
      by_cases h : i < 0
      · simp only [h, if_true] <;> omega
      · simp only [h, if_false] <;> omega
theorem zaco (its : List Value) (lo hi : Option Int) : slicePick its.toArray lo hi none = ((its.drop (HT.sIx its.length 0 lo)).take (HT.sIx its.length its.length hi - HT.sIx its.length 0 lo)).toArray := by
  obtain ⟨h1, h2, h3⟩ := zac6 lo hi its.toArray.size
  unfold slicePick
  rw [h1, h2, h3]
  simp only [sliceRange_one, pick_run, List.size_toArray] <;> rfl
def rSlL (K : PySem.W.Frag) : V → Option Int → Option Int → Hp → VK → Prop := fun x lo hi H Q => ∃ a xs, x = .ref a ∧ SqL K H a xs ∧ ∀ p, H p = none → Q (.ref p) (upd H p (.lst (cutV xs lo hi)))
theorem sl_list : SlR X (rSlL X.K) := by
  intro pins s σ H x v vl vu lo hi sl Q I rx hs pl pu h
  obtain ⟨a, xs, rfl, hx, q⟩ := h
  cases rx
  obtain ⟨its, r, ht, hz⟩ := I.list hx
  have hlen := r.length
  refine ⟨"list", _, slot_list_getitem.lookup, ht.isList.typeIs, ?_⟩
  refine wpAny_getItem_list_slice ht.isList hs pl pu .none (by simp) ?_ (by rw [List.size_toArray] <;> omega)
  rw [zaco, ← hlen]
  refine ⟨.ref s.heap.objs.size, _, I.laid (t' := s.toks) (o := .lst (cutV xs lo hi)) (fun b ob q => Heap.get?_push_of_some _ q) (Nat.le_refl _) ?_, rfl, q _ (I.hok.fresh (Nat.le_refl _))⟩
  exact ⟨Nat.le_trans (zab1 xs lo hi) hz, _, 0, (r.drop (HT.sIx xs.length 0 lo)).take (HT.sIx xs.length xs.length hi - HT.sIx xs.length 0 lo), Heap.get?_push_size _ rfl⟩
theorem zac1 : CallR X (.builtin "len") (fun xs H Q => ∃ p ys, xs = [.ref p] ∧ (SqL X.K H p ys ∨ SqT X.K H p ys) ∧ Q (.int ys.length) H) := by
  intro pins s σ H xs us Q I r h
  obtain ⟨p, ys, rfl, hq, q⟩ := h
  obtain ⟨u, rfl, rx⟩ := vals1 r
  cases rx
  have hn := line63
  rcases hq with hq | hq
  · obtain ⟨its, r', pl, hz⟩ := I.list hq
    have hlen := r'.length
    exact Calls.call_len_list pl.isList (by simp only [List.size_toArray] <;> omega) ⟨.int ys.length, H, I.tok _, ⟨s.toks + 1, by rw [List.size_toArray, hlen]⟩, q⟩
  · obtain ⟨its, r', pl, hz⟩ := I.tuple hq
    have hlen := r'.length
    exact len_tuple pl (by simp only [List.size_toArray] <;> omega) ⟨.int ys.length, H, I.tok _, ⟨s.toks + 1, by rw [List.size_toArray, hlen]⟩, q⟩
theorem CallR.or {f : Value} {r r' : List V → Hp → VK → Prop} (h : CallR X f r) (h' : CallR X f r') : CallR X f (fun xs H Q => r xs H Q ∨ r' xs H Q) := by
  intro pins s σ H xs us Q I rs q
  rcases q with q | q
  · exact h pins s σ H xs us Q I rs q
  · exact h' pins s σ H xs us Q I rs q
theorem zadd : CallR X (.type "list") (fun xs H Q => ∃ p ys, xs = [.ref p] ∧ (SqL X.K H p ys ∨ SqT X.K H p ys) ∧ ∀ l, H l = none → Q (.ref l) (upd H l (.lst ys))) := by
  intro pins s σ H xs us Q I r h
  obtain ⟨p, ys, rfl, hq, q⟩ := h
  obtain ⟨u, rfl, rx⟩ := vals1 r
  cases rx
  have fin : ∀ (its : List Value), Vals ys its → ys.length ≤ sizeLine → ∀ (h' : Heap) (c' : Nat), (∀ b o', s.heap.get? b = some o' → h'.get? b = some o') →
      h'.get? s.heap.objs.size = some { cls := .type "list", dict := none, data := .seq its.toArray c', slots := #[] } → EP X pins σ Q (.ref s.heap.objs.size) { s with heap := h' } := fun its r' hz h' c' kp e =>
    ⟨.ref s.heap.objs.size, _, I.laid (t' := s.toks) kp (Nat.le_refl _) (show ObjOk X.prog X.w _ h' _ (.lst ys) from ⟨hz, its, c', r', e⟩), rfl, q _ (I.hok.fresh (Nat.le_refl _))⟩
  rcases hq with hq | hq
  · obtain ⟨its, r', pl, hz⟩ := I.list hq
    have hlen := r'.length
    obtain ⟨o, ho, hc, n, hd⟩ := pl.isList
    exact call_list_seq p (.inl rfl) ho hc hd (fun h' c' kp e => fin its r' hz h' c' kp e) (by simp only [List.size_toArray] <;> omega)
  · obtain ⟨its, r', pl, hz⟩ := I.tuple hq
    have hlen := r'.length
    obtain ⟨o, ho, hc, n, hd⟩ := pl
    exact call_list_seq p (.inr rfl) ho hc hd (fun h' c' kp e => fin its r' hz h' c' kp e) (by simp only [List.size_toArray] <;> omega)
def tyV (K : PySem.W.Frag) (T : String) (x : V) (H : Hp) : Prop := match x with
  | .str _ => T = "str"
  | .int _ => T = "int"
  | .ref p => (T = "list" ∧ ∃ xs, SqL K H p xs) ∨ (T = "tuple" ∧ ∃ o, K.lookup p = some o ∧ o.cls = .type "tuple" ∧ o.dict = none) ∨
      (T = "dict" ∧ ((∃ kvs, H p = some (.dK kvs)) ∨ ∃ kvs, H p = some (.dT kvs))) ∨ (T = "set" ∧ ∃ S n, H p = some (.set S n))
  | _ => False
theorem tyV_is {pins : List (Addr × Obj)} {σ : St} {H : Hp} {s : Shared} {T : String} {x : V} {v : Value} (I : Inv X pins σ H s) (r : RelV x v) (ty : tyV X.K T x H) :
    s.TypeIs v T ∧ ∀ a, v = .ref a → ∃ ob, s.heap.get? a = some ob ∧ ob.dict = none := by
  cases x with
  | str z =>
    obtain ⟨t, rfl⟩ := r
    cases (show T = "str" from ty)
    exact ⟨typeIs_str s z t, fun _ e => nomatch e⟩
  | int i =>
    obtain ⟨t, rfl⟩ := r
    cases (show T = "int" from ty)
    exact ⟨typeIs_int s i t, fun _ e => nomatch e⟩
  | ref p =>
    cases r
    rcases ty with ⟨rfl, xs, hq⟩ | ⟨rfl, o, hk, hc, hd⟩ | ⟨rfl, hk⟩ | ⟨rfl, S, n, hk⟩
    · obtain ⟨its, _, pl, _⟩ := I.list hq
      refine ⟨pl.isList.typeIs, fun a e => ?_⟩
      cases e
      obtain ⟨o, n, e, c, hd, _⟩ := pl
      exact ⟨o, e, hd⟩
    · refine ⟨⟨o, I.kIn p o hk, hc⟩, fun a e => ?_⟩
      cases e
      exact ⟨o, I.kIn _ o hk, hd⟩
    · have z : ∃ o, s.heap.get? p = some o ∧ o.ExactDict := by
        rcases hk with ⟨kvs, hk⟩ | ⟨kvs, hk⟩
        · obtain ⟨_, _, _, _, o, _, _, e, ex, _⟩ := I.hok p _ hk
          exact ⟨o, e, ex⟩
        · obtain ⟨_, _, _, _, o, _, _, e, ex, _⟩ := I.hok p _ hk
          exact ⟨o, e, ex⟩
      obtain ⟨o, e, ex⟩ := z
      refine ⟨⟨o, e, ex.1⟩, fun a e2 => ?_⟩
      cases e2
      exact ⟨o, e, ex.2.1⟩
    · obtain ⟨o, _, _, _, e, ex, _⟩ := I.hok p _ hk
      refine ⟨⟨o, e, ex.1⟩, fun a e2 => ?_⟩
      cases e2
      exact ⟨o, e, ex.2.1⟩
  | _ => exact False.elim ty
def tBM (K : PySem.W.Frag) (T : String) (r : V → List V → Hp → VK → Prop) (to : TE) (t : TA) : TE := fun σ H Q => to σ H fun x H1 => tyV K T x H1 ∧ t σ H1 fun xs H2 => r x xs H2 Q
variable {o e : Expr} {es : List Expr} {to : TE} {t : TA} {name : Str} {apos cpos : Pos} {T id : String} {r : V → List V → Hp → VK → Prop}
theorem pe_bm (pa : PlainAttrs T) (slot : Slot T name id) (hty : typeOf (.builtin id) = pure (.type "method_descriptor")) (hm : MtR X id r) (ho : PE X o to) (ha : PA X (e :: es) t)
    (hbase : attributeBase o name X.env (eval o X.env) = eval o X.env := by rfl)
    (hfew : ((backTo cpos (starEach (e :: es) X.env)).all (fun x => !x.1) && (backToKw cpos (keywordEach [] X.env)).all (fun x => x.1.isSome)
      && decide ((e :: es).length + ([] : List Keyword).length + (if ([] : List Keyword).isEmpty then 0 else 1) < 30)) = true := by rfl)
    (hline : (apos.endLine == cpos.line) = true := by rfl) (hs : starEach (e :: es) X.env = (false, eval e X.env) :: starEach es X.env := by rfl) (hplain : (backTo cpos (starEach es X.env)).any (·.1) = false := by rfl) :
    PE X (.Call (.Attribute o name apos) (e :: es) [] cpos) (tBM X.K T r to t) := by
  intro pins s σ H Q I h
  refine wpAny_Call_method_late hbase hfew hline rfl (thn (ho pins s σ H _ I h) fun v s1 ⟨x, H1, I1, r1, ty, q1⟩ => ?_)
  obtain ⟨h1, h2⟩ := tyV_is I1 r1 ty
  refine ⟨T, id, pa, slot, hty, h1, h2, ?_⟩
  have hA := ha cpos pins s1 σ H1 _ I1 q1
  rw [hs] at hA ⊢
  refine Calls.callWith_builtin (by show (false || (backTo cpos (starEach es X.env)).any (·.1)) = false; rw [hplain] <;> rfl) (Calls.evalArgs_plain ?_)
  exact thn hA fun us s2 ⟨vs, H2, I2, r2, q2⟩ => hm pins s2 σ H2 x vs v us Q I2 r1 r2 q2
end
end L2
namespace L2
open PySem PySem.Spec PyProof.Rows
def MtM (X : Cx) (id : String) (r : V → List V → Hp → VK → Prop) : Prop :=
  ∀ (pins : List (Addr × Obj)) (s : Shared) (σ : St) (H : Hp) (x : V) (xs : List V) (v : Value) (us : List Value) (Q : VK), Inv X pins σ H s → RelV x v → Vals xs us → r x xs H Q →
    wpAny (model X.prog X.w) X.A (call (.builtin id) (v :: us)) (EP X pins σ Q) X.xe s
theorem Vals.one : ∀ {x : V} {us : List Value}, Vals [x] us → ∃ u, us = [u] ∧ RelV x u
  | _, _, .cons r .nil => ⟨_, rfl, r⟩
theorem Vals.two : ∀ {x y : V} {us : List Value}, Vals [x, y] us → ∃ u v, us = [u, v] ∧ RelV x u ∧ RelV y v
  | _, _, _, .cons r (.cons q .nil) => ⟨_, _, rfl, r, q⟩
theorem Vals.zero : ∀ {us : List Value}, Vals [] us → us = []
  | _, .nil => rfl
theorem Vals.dropLast {xs : List V} {us : List Value} (h : Vals xs us) : Vals xs.dropLast us.dropLast := by
  induction h with
  | nil => exact .nil
  | cons r t ih =>
    cases t with
    | nil => exact .nil
    | cons q t' => exact .cons r ih
theorem Vals.reverse {xs : List V} {us : List Value} (h : Vals xs us) : Vals xs.reverse us.reverse := by
  induction h with
  | nil => exact .nil
  | cons r t ih => rw [List.reverse_cons, List.reverse_cons]; exact Vals.append ih (.cons r .nil)
section
variable {X : Cx} {pins : List (Addr × Obj)} {σ : St} {H : Hp} {s : Shared} {l b : Addr} {xs ys zs : List V}
theorem Inv.lset {its its' : List Value} {n : Nat} {f : Array Value → Array Value} {t' : Nat} (I : Inv X pins σ H s) (hH : H l = some (.lst xs))
    (e : s.heap.get? l = some { cls := .type "list", data := .seq its.toArray n }) (hf : f its.toArray = its'.toArray) (hv : Vals ys its') (hz : ys.length ≤ sizeLine) :
    Inv X pins σ (upd H l (.lst ys)) { s with heap := s.heap.update l (Obj.mapSeq f), toks := t' } := by
  have q := PySem.IsL.update e f
  rw [hf] at q
  refine I.write (x := l) (e := l) (by rw [hH]; exact trivial) (.inl rfl) (fun b' u hb hu => (Heap.get?_update_other s.heap (Obj.mapSeq f) (Ne.symm hb)).trans hu) ⟨_, q⟩ ?_
  exact ⟨hz, its', _, hv, q⟩
theorem Inv.lnew {its : List Value} {t' : Nat} (I : Inv X pins σ H s) (hv : Vals ys its) (hz : ys.length ≤ sizeLine) :
    Inv X pins σ (upd H s.heap.objs.size (.lst ys)) { s with heap := s.heap.push { cls := .type "list", data := .seq its.toArray }, toks := t' } :=
  I.laid (fun _ _ q => Heap.get?_push_of_some _ q) (Nat.le_refl _) ⟨hz, its, 0, hv, Heap.get?_push_size _ rfl⟩
theorem Inv.fresh (I : Inv X pins σ H s) : H s.heap.objs.size = none := I.hok.fresh (Nat.le_refl _)
theorem Inv.lstM (I : Inv X pins σ H s) (hH : H l = some (.lst xs)) : xs.length ≤ sizeLine ∧ ∃ (its : List Value) (n : Nat), Vals xs its ∧ xs.length = its.length ∧ s.heap.get? l = some { cls := .type "list", data := .seq its.toArray n } := by
  obtain ⟨z, its, n, r, e⟩ := I.hok l _ hH
  exact ⟨z, its, n, r, r.length, e⟩
end
section
variable {X : Cx}
def rAppend : V → List V → Hp → VK → Prop := fun x vs H Q => ∃ l xs y, x = .ref l ∧ vs = [y] ∧ H l = some (.lst xs) ∧ xs.length < sizeLine ∧ Q .non (upd H l (.lst (xs ++ [y])))
theorem zadw : MtM X "list.append" rAppend := by
  intro pins s σ H x vs v us Q I rx rv h
  obtain ⟨l, xs, y, rfl, rfl, hH, hz, q⟩ := h
  cases rx
  obtain ⟨u, rfl, ru⟩ := rv.one
  obtain ⟨z, its, n, r, hl, e⟩ := I.lstM hH
  refine call_meets F.slot_list_append ⟨_, e, rfl⟩ F.entry_list_append (F.args_list_append_2 _ _) (PySem.list_append l its.toArray n u (by rw [List.size_toArray]; omega)) ⟨e, ?_⟩
  refine ⟨.non, _, I.lset (its' := its ++ [u]) hH e (by simp) (r.append (.cons ru .nil)) ?_, rfl, q⟩
  rw [List.length_append, List.length_singleton]
  omega
end
section
variable {prog : Program} {w : World} {A : Around} {E : Value → Shared → Prop} {s : Shared}
end
section
variable {X : Cx}
end
end L2
namespace Att
open PySem PySem.W PySem.Calls PyProof.Rows
theorem zaby {P : Params} {h : Heap} : ∀ (ns : List Int) (vs : List Value), WellAll P h vs (ns.map WData.int) → IntsAre vs ns := by
  intro ns
  induction ns with
  | nil =>
    intro vs w
    rw [List.map_nil] at w
    cases w
    exact .nil
  | cons n ns ih =>
    intro vs w
    rw [List.map_cons] at w
    cases w with
    | cons a b =>
      cases a
      exact .cons _ _ (ih _ b)
theorem script_of {l : OpenLaw} {n : Nat} (hn : l.most = some n) {P : Params} {h : Heap} {args : List WData} {vals : List Value}
    (hpre : l.row.toRowW.claim.pre args = true) (hwl : WellAll P h vals args) :
    ∃ a vs ns, vals = [Value.ref a] ∧ args = [WData.list (ns.map WData.int)] ∧ h.get? a = some { cls := .type "list", data := .seq vs.toArray } ∧ IntsAre vs ns ∧ ns.length ≤ n := by
  have hsh : WShape.hasAll [] args [.list .int] = true := (pre_splitW hpre).1
  have hc : l.pre.holds [] { args := args } = true := (pre_splitW hpre).2
  obtain ⟨d, r, rfl, h1, h2⟩ := hasAllW_cons hsh
  obtain rfl := hasAllW_nil h2
  obtain ⟨xs, rfl, h3⟩ := hasW_list h1
  obtain ⟨ns, rfl⟩ := items_int h3
  have hlen : ns.length ≤ n := by
    unfold OpenLaw.pre at hc
    have h4 : (WTm.not (.lt (.lit (.int (n : Int))) (.len (.arg 0)))).holds [] { args := [.list (ns.map .int)] } = true := by
      have h4 := (holds_andW hc).1
      rw [hn] at h4
      exact h4
    have h5 := condW_of h4 (w_not (w_lt w_lit (w_len_list (w_arg rfl))))
    rw [List.length_map] at h5
    refine Nat.le_of_not_lt fun q => ?_
    have q' : (n : Int) < ((ns.length : Nat) : Int) := by omega
    first
      | (rw [decide_eq_true q'] at h5; exact absurd h5 (by decide))
      | (simp at h5; omega)
  cases hwl with
  | cons w1 w2 =>
    cases w2
    cases w1 with
    | list ho hall => exact ⟨_, _, ns, rfl, rfl, ho, zaby ns _ hall, hlen⟩
theorem post_true (l : OpenLaw) (args : List WData) : l.row.toRowW.claim.post args (.bool true) args = true :=
  postW_of (r := l.row.toRowW) (X := (true == true))
    (show WShape.has [] (.bool true) .bool = true by first | rfl | decide | simp [WShape.has, WShape.arms, WShape.armsAll])
    (show (WTm.eq .res (.lit (.bool true))).value [] { args := args, res := some (.bool true), after := args } = some (.bool (true == true)) from w_eq_bool (w_res rfl) w_lit) rfl
theorem attach_call {l : OpenLaw} {n : Nat} {q : Program} {loose : List Str} {XP : (Str → Option Value) → Heap → Prop} {YP : World → Heap → Prop} {d : DefRec}
    (hn : l.most = some n) (hdf : d.params.defaults = [])
    (call : ∀ (w : World) (s₀ s₁ : Shared) (mg mb : Str → Option Value) (fa : Addr) (o : Obj) (pm cd doc : Value) (a : Addr) (vs : List Value) (ns : List Int),
      Ground q loose [] XP w s₀ mg mb s₁.heap → YP w s₁.heap →
      s₁.heap.get? fa = some o → o.data = .func (docDef d.name d.params d.body d.scope pm cd doc) → s₁.heap.CodeRec cd d.name → mg d.name = some (.ref fa) →
      s₁.heap.get? a = some { cls := .type "list", data := .seq vs.toArray } → IntsAre vs ns → ns.length ≤ n → s₁.gens = #[] →
      codeAny (model l.prog w) callerA (.call (.ref fa) ⟨[.ref a], []⟩) (fun r s' => r = .ok (.ret (.bool true)) ∧ OldK s₁.heap s'.heap ∧ s'.os = s₁.os ∧ AllBare s'.gens) s₁) :
    WalkO q loose XP YP l.row.toRowW d [] (fun f vs => PySem.call f vs) := by
  intro w s₀ s₁ mg mb G Y fa o pm cd doc dV kV ho hd hcd hD hmg hg args vals as hpre hlay hrd hwl hlo
  obtain rfl : dV = .none := Dflts.none hD hdf
  obtain rfl : kV = .none := Dflts.noKw hD
  obtain ⟨a, vs, ns, rfl, rfl, hobj, hints, hlen⟩ := script_of hn hpre hwl
  refine enter_call (codeAny_mono (call w s₀ s₁ mg mb fa o pm cd doc a vs ns G Y ho (fd_plain hd) hcd hmg hobj hints hlen hg) fun r s' hq => ?_)
  obtain ⟨rfl, h2, h3, h4⟩ := hq
  exact ⟨.inl ⟨.bool true, .bool true, [], rfl, fun _ => rfl, .bool true, post_true l _, fun _ => ⟨List.Pairwise.nil, fun _ hm => (nomatch hm)⟩⟩, h2, h3, h4⟩
section
variable {prog : Program} {w : World} {A : Around} {E : Value → Shared → Prop} {s : Shared} {K : Frag}
def ledger (h : Heap) (L d : Addr) : List (Addr × Obj) := (List.range h.objs.size).filterMap fun a => if a = L ∨ a = d then none else (h.get? a).map fun o => (a, o)
end
end Att
namespace L2
open PySem PySem.Spec PyProof.Rows
theorem zadx : ∀ {vs : List Value} {ns : List Int}, IntsAre vs ns → Vals (ns.map V.int) vs
  | _, _, .nil => .nil
  | _, _, .cons n t h => .cons ⟨t, rfl⟩ (zadx h)
def Only (H : Hp) : Prop := ∀ b, H b = none ∨ ∃ o xs, H b = some (.frz o (.lst xs))
theorem law_call {P : Program} {w : World} {K : PySem.W.Frag} {mg mb : Str → Option Value} {CX : CXT} {k : Nat} {fa a : Addr} {fd : FuncData} {x : Str} {sp : Sp} {s₁ : Shared} {vs : List Value} {ns : List Int}
    (KX : K.In s₁.heap) (hns : s₁.heap.Ns mainGlobals mg) (hb : s₁.heap.Ns builtinsNs mb) (hbb : ∀ x : Str, x ≠ "__name__" → mb x = bootBuiltins x) (hlim : s₁.heap.NoLimit) (hg : s₁.gens = #[])
    (ha : s₁.heap.get? a = some { cls := .type "list", data := .seq vs.toArray }) (hi : IntsAre vs ns) (hl : ns.length ≤ sizeLine) (hr : Room k callerA)
    (F : ∀ base : Heap, K.In base → base.Ns mainGlobals mg → FnOk P w K mg base CX k fa fd [x] sp) (hbind : ∀ (s : Shared) (u : Value), BindsTo s fd ⟨[u], []⟩ [(x, u)])
    (hsp : ∀ H : Hp, Only H → SqL K H a (ns.map V.int) → sp [.ref a] H (fun v _ => v = .bl true) fun _ _ _ => False)
    (hCX : ∀ H e s', CX [] H s₁ (fun _ _ _ => False) e s' → False) :
    codeAny (model P w) callerA (.call (.ref fa) ⟨[.ref a], []⟩) (fun r s' => r = .ok (.ret (.bool true)) ∧ OldK s₁.heap s'.heap ∧ s'.os = s₁.os ∧ AllBare s'.gens) s₁ := by
  have rv := zadx hi
  have lenV := hi.length
  have core : ∀ H : Hp, Only H → SqL K H a (ns.map V.int) → HOk P w H s₁.heap → (∀ b, H b ≠ none → b = a) → (H a ≠ none → K.lookup a = none) →
      codeAny (model P w) callerA (.call (.ref fa) ⟨[.ref a], []⟩) (fun r s' => r = .ok (.ret (.bool true)) ∧ OldK s₁.heap s'.heap ∧ s'.os = s₁.os ∧ AllBare s'.gens) s₁ := by
    intro H hO hS hok hA hK
    have base_of : ∀ {b : Addr} {o : Obj}, s₁.heap.get? b = some o → H b = none → (hidT s₁.heap H).get? b = some o := fun e n => hidT_get e n
    have noA : ∀ {b : Addr} {o : Obj} {es : Array DictEntry} {ep : Nat}, s₁.heap.get? b = some o → o.data = .dict es ep → H b = none := fun {b o es ep} e d => by
      cases q : H b with
      | none => rfl
      | some u =>
        have e' : b = a := hA b (by rw [q]; simp)
        subst e'
        rw [ha] at e; cases e
        have d' : Data.seq vs.toArray _ = Data.dict es ep := d
        cases d'
    have nsK : ∀ {b : Addr} {m : Str → Option Value}, s₁.heap.Ns b m → (hidT s₁.heap H).Ns b m := fun {b m} ⟨o, es, ep, e, d, r⟩ => ⟨o, es, ep, base_of e (noA e d), d, r⟩
    have hKb : K.In (hidT s₁.heap H) := fun b o e => base_of (KX b o e) (by
      cases q : H b with
      | none => rfl
      | some u =>
        have e' : b = a := hA b (by rw [q]; simp)
        subst e'
        rw [hK (by rw [q]; simp)] at e; cases e)
    have hM : Mod K mg (hidT s₁.heap H) := ⟨hKb, nsK hns, ⟨mb, nsK hb, hbb⟩, let ⟨mc, h1, h2⟩ := hlim; ⟨mc, nsK h1, h2⟩⟩
    have e0 : Env0 P w K mg (hidT s₁.heap H) callerA [] s₁ H := ⟨rfl, hM, fun b o e => of_hidT e, Nat.le_of_eq (hidT_size _ _), trivial, fun b hb => absurd (show b ∈ ([] : List Addr) from hb) (by simp), hok, .of_eq hg⟩
    refine codeAny_mono ((F _ hKb (nsK hns)).run callerA [] s₁ H ⟨[.ref a], []⟩ [.ref a] [.ref a] _ _ hr e0 (hbind s₁ (.ref a)) (.cons rfl .nil) (hsp H hO hS)) fun r s' h => ?_
    cases r with
    | error e => exact (hCX H e s' h).elim
    | ok fl =>
      cases fl with
      | next => exact False.elim h
      | brk => exact False.elim h
      | cont => exact False.elim h
      | ret u =>
        obtain ⟨v, H', os, bare, un, hok', r', q⟩ := h
        have q' : v = .bl true := q
        subst q'
        obtain rfl : u = Value.bool true := r'
        refine ⟨rfl, OldK.of_keep fun b o e => ?_, os, bare⟩
        cases q : H b with
        | none => exact un.keep b o e q (by intro z; exact absurd (show b ∈ ([] : List Addr) from z) (by simp)) (by simp)
        | some u =>
          rcases hO b with z | ⟨ob, xs, z⟩
          · rw [q] at z; cases z
          · have z2 := un.frzs b ob _ z
            obtain ⟨e1, _⟩ := hok b _ z
            obtain ⟨e2, _⟩ := hok' b _ z2
            rw [e] at e1; cases e1
            exact e2
  cases hk : K.lookup a with
  | some o =>
    have e := KX a o hk
    rw [ha] at e
    cases e
    refine core (fun _ => none) (fun _ => .inl rfl) (.inr ⟨_, vs.toArray, _, hk, rfl, rfl, rfl, by rw [List.size_toArray, lenV]; exact hl, by simpa using rv⟩) (fun b u z => by have z' : (none : Option HO) = some u := z; cases z') (fun b z => absurd rfl z) fun z => absurd rfl z
  | none =>
    refine core (fun b => if b = a then some (.frz { cls := .type "list", data := .seq vs.toArray } (.lst (ns.map V.int))) else none) (fun b => ?_) (.inl (.inr ⟨{ cls := .type "list", data := .seq vs.toArray }, if_pos rfl⟩)) (fun b u z => ?_) (fun b z => ?_) fun _ => hk
    · by_cases hb : b = a
      · exact .inr ⟨_, _, if_pos hb⟩
      · exact .inl (if_neg hb)
    · by_cases hb : b = a
      · have z' := (if_pos hb).symm.trans z
        cases z'
        subst hb
        exact ⟨ha, by rw [List.length_map]; exact hl, vs, _, rv, ha⟩
      · have z' := (if_neg hb).symm.trans z
        cases z'
    · by_cases hb : b = a
      · exact hb
      · exact absurd (if_neg hb) z
end L2
namespace L2
open PySem PySem.Spec PyProof.Rows
abbrev KOf {K : PySem.W.Frag} {h : Heap} (_ : K.In h) : PySem.W.Frag := K
theorem walk_of {l : PySem.W.OpenLaw} {n k : Nat} {q : Program} {loose : List Str} {XP : (Str → Option Value) → Heap → Prop} {YP : World → Heap → Prop} {d : DefRec} {K : Params → PySem.W.Frag} {CX : World → CXT} {sp : World → Sp} {x : Str}
    (hn : l.most = some n) (hn2 : n ≤ sizeLine) (hdf : d.params.defaults = []) (hr : Room k callerA)
    (hY : ∀ (w : World) (h : Heap), YP w h → (K w.params).In h)
    (F : ∀ (w : World) (mg : Str → Option Value) (fa : Addr) (h : Heap), (K w.params).In h → h.Ns mainGlobals mg → mg d.name = some (.ref fa) →
      ∃ fd : FuncData, (∀ (s : Shared) (u : Value), BindsTo s fd ⟨[u], []⟩ [(x, u)]) ∧
        ∀ base : Heap, (K w.params).In base → base.Ns mainGlobals mg → FnOk l.prog w (K w.params) mg base (CX w) k fa fd [x] (sp w))
    (hsp : ∀ (w : World) (H : Hp) (a : Addr) (ns : List Int), ns.length ≤ n → Only H → SqL (K w.params) H a (ns.map V.int) → sp w [.ref a] H (fun v _ => v = .bl true) fun _ _ _ => False)
    (hCX : ∀ (w : World) (H : Hp) (s : Shared) (e : Value) (s' : Shared), CX w [] H s (fun _ _ _ => False) e s' → False) :
    PySem.W.WalkO q loose XP YP l.row.toRowW d [] (fun f vs => PySem.call f vs) := by
  refine Att.attach_call hn hdf fun w s₀ s₁ mg mb fa o pm cd doc a vs ns G Y ho hd hcd hmg hobj hints hlen hg => ?_
  have KX := hY w _ Y
  obtain ⟨fd, hb, hF⟩ := F w mg fa _ KX G.T.g hmg
  exact law_call KX G.T.g G.T.b G.T.builtins G.T.nolimit hg hobj hints (Nat.le_trans hlen hn2) hr hF hb (fun H hO hS => hsp w H a ns hlen hO hS) fun H e s' => hCX w H s₁ e s'
end L2
namespace L2
open PySem PySem.Spec PyProof.Rows
def zaag (s : Stmt) : Arguments := match s with
  | .FunctionDef _ a _ _ _ _ _ _ _ _ => a
  | _ => { posonlyargs := [], args := [], vararg := none, kwonlyargs := [], kw_defaults := [], kwarg := none, defaults := [] }
def zaaf (s : Stmt) : List Stmt := match s with
  | .FunctionDef _ _ b _ _ _ _ _ _ _ => b
  | _ => []
def zaab (s : Stmt) : Scope := match s with
  | .FunctionDef _ _ _ _ _ _ sc _ _ _ => sc
  | _ => { kind := .function, names := [], isGenerator := false, isCoroutine := false }
abbrev CX0 : CXT := fun _ _ _ _ _ _ => False
structure Fun (K : PySem.W.Frag) (x qual : Str) (st : Stmt) (f : Addr) (fd : FuncData) : Prop where
  ex : ∃ (oc : Value) (od : Option Addr) (kV doc pm : Value) (an : Option Addr) (cdv ct : Value) (osl : Array (Option Value)),
    fd = PySem.W.fnOf x qual (zaag st) (zaaf st) (zaab st) .none kV doc pm an cdv ct ∧ K.lookup f = some ⟨oc, od, .func fd, osl⟩ ∧ PySem.W.codeIn K cdv qual = true
  kp : PySem.W.keepIn K (.ref f) = true
section
variable {P : Program} {w : World} {K : PySem.W.Frag} {mg : Str → Option Value} {base : Heap}
theorem Fun.ok {x qual : Str} {st : Stmt} {f : Addr} {fd : FuncData} {N ps : List Str} {k : Nat} {sp : Sp} (F : Fun K x qual st f fd) (S : FnScope N ps (zaab st)) (len : ∀ vs H Q E, sp vs H Q E → vs.length = ps.length)
    (hbody : ∀ (cdv : Value) (A : Around) (outer : List Env) (s : Shared) (H : Hp) (vs : List V) (Q : VK) (E : XK), Room k (A.deeper (envOfC qual (zaab st) s.heap.objs.size f cdv)) → sp vs H Q E →
      ∃ t, PSs (cxOf CX0 P w K mg base N qual (zaab st) f cdv A outer s H E).nox (zaaf st) t ∧ t { nx := fun _ H' => Q .non H', rt := Q } (start N vs) H) : FnOk P w K mg base CX0 (k + 1) f fd ps sp := by
  obtain ⟨oc, od, kV, doc, pm, an, cdv, ct, osl, rfl, lk, hcd⟩ := F.ex
  refine fn_of lk hcd S len fun A outer s H vs Q E hr hsp => ?_
  obtain ⟨t, h, q⟩ := hbody cdv A outer s H vs Q E hr hsp
  exact ⟨t, h.nox, q⟩
theorem Fun.binds {x qual : Str} {st : Stmt} {f : Addr} {fd : FuncData} {ps : List Str} (F : Fun K x qual st f fd)
    (h : ∀ (kV doc pm : Value) (an : Option Addr) (cdv ct : Value) (us : List Value), us.length = ps.length → bindArgs (PySem.W.fnOf x qual (zaag st) (zaaf st) (zaab st) .none kV doc pm an cdv ct) ⟨us, []⟩ = pure (ps.zip us)) : Binds K fd ps [] := by
  obtain ⟨oc, od, kV, doc, pm, an, cdv, ct, osl, rfl, lk, hcd⟩ := F.ex
  exact .all (h kV doc pm an cdv ct)
end
section
variable {X : Cx}
end
theorem iteF {A B : Prop} (h : B) : if false = true then A else B := by
  rw [if_neg Bool.false_ne_true]
  exact h
theorem iteT {A B : Prop} (h : A) : if true = true then A else B := by
  rw [if_pos rfl]
  exact h
def Same (H H' : Hp) : Prop := ∀ b o, H b = some o → H' b = some o
theorem Same.refl (H : Hp) : Same H H := fun _ _ h => h
theorem Same.trans {H H1 H2 : Hp} (a : Same H H1) (b : Same H1 H2) : Same H H2 := fun c o h => b c o (a c o h)
theorem Same.free {H H' : Hp} (e : Same H H') {l : Addr} (h : H' l = Option.none) : H l = Option.none := by
  cases q : H l with
  | none => rfl
  | some o =>
    rw [e l o q] at h
    cases h
theorem Same.seq {K : PySem.W.Frag} {H H' : Hp} {a : Addr} {xs : List V} (e : Same H H') (h : SqL K H a xs) : SqL K H' a xs := by
  rcases h with (h | ⟨o, h⟩) | h
  · exact .inl (.inl (e _ _ h))
  · exact .inl (.inr ⟨o, e _ _ h⟩)
  · exact .inr h
end L2
end
section
set_option Elab.async false
set_option linter.all false
set_option maxRecDepth 100000
namespace IP
open PySem (Str)
inductive T where
  | non | bl (b : Bool) | int (i : Int) | str (x : Str) | tup (xs : List T) | lst (xs : List T) | loc (l : Nat) | exc (c : Nat)
  deriving Inhabited
inductive R where
  | val (t : T) | bor (ts : List T)
inductive B where
  | val (t : T) | own (ts : List T) | bor (ts : List T) | lck (ts : List T)
  deriving Inhabited
abbrev Fr := List (Option B)
inductive Cell where
  | lst (ts : List T) | ins (c : Nat) (fs : List (Option T))
abbrev Sto := List Cell
inductive Res (α : Type) where
  | stuck | ok (a : α) (s : Sto) | exc (c : Nat) (s : Sto)
def Res.bind {α β : Type} (m : Res α) (k : α → Sto → Res β) : Res β := match m with
  | .stuck => .stuck
  | .ok a s => k a s
  | .exc c s => .exc c s
@[simp] theorem Res.bind_ok {α β : Type} (a : α) (s : Sto) (k : α → Sto → Res β) : (Res.ok a s).bind k = k a s := rfl
@[simp] theorem Res.bind_exc {α β : Type} (c : Nat) (s : Sto) (k : α → Sto → Res β) : (Res.exc c s : Res α).bind k = .exc c s := rfl
@[simp] theorem Res.bind_stuck {α β : Type} (k : α → Sto → Res β) : (Res.stuck : Res α).bind k = .stuck := rfl
def Res.of {α : Type} (o : Option α) (s : Sto) : Res α := match o with
  | none => .stuck
  | some a => .ok a s
@[simp] theorem Res.of_some {α : Type} (a : α) (s : Sto) : Res.of (some a) s = .ok a s := rfl
@[simp] theorem Res.of_none {α : Type} (s : Sto) : Res.of (none : Option α) s = .stuck := rfl
inductive Op where | add | sub | mul | fdiv | mod | pow
inductive Cm where | lt | le | gt | ge | eq | ne | isN | notN | mem | nmem
inductive Bi where | len | abs | int | list | tuple | any | all | min | max | sorted | str
inductive Ty where | int | bool | tuple | list | str | cls (c : Nat)
inductive Tg where | one (i : Nat) | many (is : List Nat)
inductive E where
  | var (i : Nat)
  | cst (t : T)
  | glb (x : Str) (i : Int)
  | bin (o : Op) (a b : E)
  | neg (a : E)
  | not (a : E)
  | cmp (c : Cm) (a b : E)
  | and (a b : E) | or (a b : E)
  | ife (c a b : E)
  | tup (es : List E) | lst (es : List E)
  | sub (a b : E)
  | cutL (a lo : E) | cutU (a hi : E) | cutLU (a lo hi : E) | rev (a : E)
  | b1 (f : Bi) (a : E)
  | mn2 (a b : E) | mx2 (a b : E)
  | mxd (a d : E) | mnd (a d : E)
  | mnk (a : E) (i : Nat) (k : E) | sok (a : E) (i : Nat) (k : E)
  | isi (a : E) (c : Ty)
  | call (f : Nat) (es : List E) (ds : List T)
  | comp (elt : E) (tg : Tg) (it : E)
  | compIf (elt : E) (tg : Tg) (it c : E)
  | rng1 (a : E) | rng2 (a b : E) | enm (a : E) | zip (a b : E)
  | fld (a : E) (c f : Nat) | cell (a : E) | new (c f n : Nat) (es : List E) (ds : List T) | meth (a : E) (c f : Nat) (es : List E) (ds : List T)
  | compC (elt : E) (tg : Tg) (it : E)
  | cmpD (c : Cm) (a b : E)
  deriving Inhabited
inductive S where
  | asg (i : Nat) (e : E)
  | asgT (is : List Nat) (e : E)
  | mk (i : Nat) (e : E)
  | app (i : Nat) (e : E)
  | ext (i : Nat) (e : E)
  | put (i : Nat) (j e : E)
  | pop (k i : Nat)
  | frz (i : Nat)
  | ifs (c : E) (a b : List S)
  | whl (c : E) (b : List S)
  | for_ (tg : Tg) (it : E) (b : List S)
  | ret (e : E)
  | retO (e : E)
  | retV (i : Nat)
  | exp (e : E)
  | raise (c : Nat)
  | putL (a j e : E) | appL (a e : E) | setF (a : E) (c f : Nat) (e : E) | popL (a : E) | clrL (a : E) | forC (tg : Tg) (it : E) (b : List S)
  | try_ (b : List S) (c : Nat) (nm : Option Nat) (h : List S)
  | pass
  deriving Inhabited
def eqL (f : T → T → Option Bool) : List T → List T → Option Bool
  | [], [] => some true
  | [], _ :: _ => some false
  | _ :: _, [] => some false
  | a :: r, b :: q => match f a b, eqL f r q with
    | some k, some k' => some (k && k')
    | _, _ => none
def eqD : Nat → T → T → Option Bool
  | _, .non, .non => some true
  | _, .bl a, .bl b => some (a == b)
  | _, .int a, .int b => some (a == b)
  | _, .str a, .str b => some (a == b)
  | n + 1, .tup a, .tup b => eqL (eqD n) a b
  | n + 1, .lst a, .lst b => eqL (eqD n) a b
  | _, .non, .int _ => some false
  | _, .int _, .non => some false
  | _ + 1, .non, .tup _ => some false
  | _ + 1, .tup _, .non => some false
  | _, _, _ => none
abbrev eqT : T → T → Option Bool := eqD 8
abbrev eqTs : List T → List T → Option Bool := eqL (eqD 7)
def big : Nat := 10 ^ 300
def mulB (i j : Int) : Bool := decide (i.natAbs < 2 ^ 64) || decide (j.natAbs < 2 ^ 64) || (decide (i.natAbs < big) && decide (j.natAbs < big))
def lim : Nat := 1000000
def R.seq : R → Option (List T)
  | .val (.lst ts) => some ts
  | .bor ts => some ts
  | _ => none
def R.sq2 : R → Option (List T)
  | .val (.lst ts) => some ts
  | .val (.tup ts) => some ts
  | .bor ts => some ts
  | _ => none
def R.dr (s : Sto) : R → R
  | .val (.loc l) => match s[l]? with
    | some (.lst ts) => .bor ts
    | _ => .val (.loc l)
  | r => r
def opI : Op → Int → Int → Option Int
  | .add, i, j => some (i + j)
  | .sub, i, j => some (i - j)
  | .mul, i, j => if mulB i j then some (i * j) else none
  | .fdiv, i, j => if j ≠ 0 ∧ j.natAbs < big then some (Int.fdiv i j) else none
  | .mod, i, j => if j ≠ 0 then some (Int.fmod i j) else none
  | .pow, i, j => if 0 ≤ j ∧ j ≤ 100 ∧ i.natAbs < big then some (i ^ j.toNat) else none
def opR (o : Op) (x y : R) : Option R := match o, x, y with
  | o, .val (.int i), .val (.int j) => (opI o i j).map fun k => .val (.int k)
  | .add, .val (.tup xs), .val (.tup ys) => if xs ≠ [] ∧ ys ≠ [] ∧ xs.length + ys.length ≤ lim then some (.val (.tup (xs ++ ys))) else none
  | .add, x, y => match x.seq, y.seq with
    | some xs, some ys => if xs.length + ys.length ≤ lim then some (.val (.lst (xs ++ ys))) else none
    | _, _ => none
  | _, _, _ => none
def asInts : List T → Option (List Int)
  | [] => some []
  | .int i :: r => (asInts r).map (i :: ·)
  | _ => none
def zafq : List T → Option (List Bool)
  | [] => some []
  | .bl b :: r => (zafq r).map (b :: ·)
  | _ => none
def R.int? : R → Option Int
  | .val (.int i) => some i
  | _ => none
def R.isNon : R → Bool
  | .val .non => true
  | _ => false
def R.tup? : R → Option (List T)
  | .val (.tup ts) => some ts
  | .val (.lst ts) => some ts
  | _ => none
def R.val? : R → Option T
  | .val t => some t
  | _ => none
def tru : R → Option Bool
  | .val .non => some false
  | .val (.bl b) => some b
  | .val (.int i) => some (i != 0)
  | .val (.lst ts) => some (!ts.isEmpty)
  | .val (.tup ts) => some (!ts.isEmpty)
  | .bor ts => some (!ts.isEmpty)
  | _ => none
def eqR : R → R → Option Bool
  | .val a, .val b => eqT a b
  | .val (.lst a), .bor b => eqTs a b
  | .bor a, .val (.lst b) => eqTs a b
  | .bor a, .bor b => eqTs a b
  | _, _ => none
def memT (x : T) : List T → Option Bool
  | [] => some false
  | y :: r => match eqT y x, memT x r with
    | some k, some k' => some (k || k')
    | _, _ => none
def cmpR (c : Cm) (x y : R) : Option Bool := match c with
  | .lt => do let i ← x.int?; let j ← y.int?; some (decide (i < j))
  | .le => do let i ← x.int?; let j ← y.int?; some (decide (i ≤ j))
  | .gt => do let i ← x.int?; let j ← y.int?; some (decide (j < i))
  | .ge => do let i ← x.int?; let j ← y.int?; some (decide (j ≤ i))
  | .eq => eqR x y
  | .ne => (eqR x y).map (!·)
  | .isN => match y with
    | .val .non => some x.isNon
    | _ => none
  | .notN => match y with
    | .val .non => some (!x.isNon)
    | _ => none
  | .mem => do let t ← x.val?; let ts ← y.sq2; memT t ts
  | .nmem => do let t ← x.val?; let ts ← y.sq2; (memT t ts).map (!·)
def subR (x : R) (i : Int) : Option T := match x.sq2 with
  | some ts => L2.atI ts i
  | none => none
def cutT (ts : List T) (lo hi : Option Int) : List T := (ts.drop (HT.sIx ts.length 0 lo)).take (HT.sIx ts.length ts.length hi - HT.sIx ts.length 0 lo)
def cutR (x : R) (lo hi : Option Int) : Option R := match x with
  | .val (.tup ts) => if HT.sIx ts.length 0 lo = 0 ∧ HT.sIx ts.length ts.length hi = ts.length then none else some (.val (.tup (cutT ts lo hi)))
  | .val (.lst ts) => some (.val (.lst (cutT ts lo hi)))
  | .bor ts => some (.val (.lst (cutT ts lo hi)))
  | _ => none
def asTups : List T → Option (List (List Int))
  | [] => some []
  | .tup ts :: r => do let x ← asInts ts; let y ← asTups r; some (x :: y)
  | _ => none
def minI : List Int → Option Int
  | [] => none
  | a :: r => some (r.foldl (fun m x => if x < m then x else m) a)
def maxI : List Int → Option Int
  | [] => none
  | a :: r => some (r.foldl (fun m x => if x > m then x else m) a)
def minBy {α : Type} (lt : α → α → Bool) : List (α × T) → Option T
  | [] => none
  | a :: r => some (r.foldl (fun m x => if lt x.1 m.1 then x else m) a).2
def insI (x : Int) : List Int → List Int
  | [] => [x]
  | y :: r => if x < y then x :: y :: r else y :: insI x r
def sortI (xs : List Int) : List Int := xs.foldl (fun acc x => insI x acc) []
def b1R (f : Bi) (x : R) : Option R := match f with
  | .len => x.sq2.map fun ts => .val (.int ts.length)
  | .abs => x.int?.map fun i => .val (.int (if i < 0 then -i else i))
  | .int => match x with | .val (.int i) => some (.val (.int i)) | .val (.bl b) => some (.val (.int (if b then 1 else 0))) | _ => none
  | .list => x.sq2.map fun ts => .val (.lst ts)
  | .tuple => x.sq2.map fun ts => .val (.tup ts)
  | .any => do let ts ← x.seq; let bs ← zafq ts; some (.val (.bl (bs.any id)))
  | .all => do let ts ← x.seq; let bs ← zafq ts; some (.val (.bl (bs.all id)))
  | .min => do let ts ← x.seq; let is ← asInts ts; (minI is).map fun i => .val (.int i)
  | .max => do let ts ← x.seq; let is ← asInts ts; (maxI is).map fun i => .val (.int i)
  | .sorted => do let ts ← x.seq; let is ← asInts ts; if is.length < 64 then some (.val (.lst ((sortI is).map .int))) else none
  | .str => none
def isiR (x : R) (c : Ty) : Option Bool := match x, c with
  | .val (.int _), .int => some true | .val (.bl _), .int => some true | .val (.tup _), .int => some false | .val (.lst _), .int => some false | .val .non, .int => some false | .bor _, .int => some false
  | .val (.int _), .bool => some false | .val (.bl _), .bool => some true | .val (.tup _), .bool => some false | .val (.lst _), .bool => some false | .val .non, .bool => some false
  | .val (.tup _), .tuple => some true | .val (.int _), .tuple => some false | .val (.bl _), .tuple => some false | .val (.lst _), .tuple => some false | .val .non, .tuple => some false
  | .val (.lst _), .list => some true | .bor _, .list => some true | .val (.tup _), .list => some false | .val (.int _), .list => some false | .val .non, .list => some false
  | _, _ => none
def isiX (sub : Nat → Nat → Bool) (x : R) (c : Ty) : Option Bool := match x, c with
  | .val (.exc d), .cls k => some (sub d k)
  | x, c => isiR x c
def enT : Nat → List T → List T
  | _, [] => []
  | n, t :: ts => .tup [.int n, t] :: enT (n + 1) ts
def ziT : List T → List T → List T
  | a :: as, b :: bs => .tup [a, b] :: ziT as bs
  | _, _ => []
def fldR (s : Sto) (x : R) (c f : Nat) : Option T := match x with
  | .val (.loc l) => match s[l]? with
    | some (.ins d fs) => if d = c then (fs[f]?).join else none
    | _ => none
  | _ => none
def R.locL (s : Sto) : R → Option (Nat × List T)
  | .val (.loc l) => match s[l]? with
    | some (.lst ts) => some (l, ts)
    | _ => none
  | _ => none
def R.locI (s : Sto) (c : Nat) : R → Option (Nat × List (Option T))
  | .val (.loc l) => match s[l]? with
    | some (.ins d fs) => if d = c then some (l, fs) else none
    | _ => none
  | _ => none
def look (σ : Fr) (i : Nat) : Option R := match σ[i]? with
  | some (some (.val t)) => some (.val t)
  | some (some (.own ts)) => some (.bor ts)
  | some (some (.bor ts)) => some (.bor ts)
  | some (some (.lck ts)) => some (.bor ts)
  | _ => none
def put (σ : Fr) (i : Nat) (t : T) : Fr := σ.set i (some (.val t))
def puts (σ : Fr) : List Nat → List T → Option Fr
  | [], [] => some σ
  | i :: is, t :: ts => puts (put σ i t) is ts
  | _, _ => none
def bindTg (σ : Fr) (g : Tg) (t : T) : Option Fr := match g with
  | .one i => some (put σ i t)
  | .many is => match t with
    | .tup ts => puts σ is ts
    | .lst ts => puts σ is ts
    | _ => none
inductive SR where
  | stuck | next (σ : Fr) (s : Sto) | ret (r : R) (s : Sto) | retO (ts : List T) (s : Sto) | exc (c : Nat) (σ : Fr) (s : Sto)
structure Cf where
  cf : Nat → List R → Sto → Res R
  sub : Nat → Nat → Bool
  fr : Nat → Bool
  wl : (Fr → Sto → Res Bool) → (Fr → Sto → SR) → Fr → Sto → SR
def consO : Option T → List T → List T
  | some x, q => x :: q
  | none, q => q
@[simp] theorem consO_some (x : T) (q : List T) : consO (some x) q = x :: q := rfl
@[simp] theorem consO_none (q : List T) : consO none q = q := rfl
def mapRes (f : T → Sto → Res (Option T)) : List T → Sto → Res (List T)
  | [], s => .ok [] s
  | t :: ts, s => (f t s).bind fun r s1 => (mapRes f ts s1).bind fun q s2 => .ok (consO r q) s2
def rangeT (i j : Int) : List T := (List.range (j - i).toNat).map fun (k : Nat) => T.int (i + k)
def bnd (i : Int) : Bool := decide (-(2 ^ 62) ≤ i) && decide (i < 2 ^ 62)
inductive Md where | v | t | i | j
def R.sq3 : R → Option (List T)
  | .val (.lst ts) => some ts
  | .val (.tup ts) => some ts
  | _ => none
def fin (m : Md) (r : Res R) : Res R := match m with
  | .v => r
  | .t => r.bind fun x s => .of ((tru x).map fun k => .val (.bl k)) s
  | .i => r.bind fun x s => .of (x.sq2.map fun ts => .val (.lst ts)) s
  | .j => r.bind fun x s => .of (x.sq3.map fun ts => .val (.lst ts)) s
@[simp] theorem fin_v (r : Res R) : fin .v r = r := rfl
@[simp] theorem fin_t (r : Res R) : fin .t r = r.bind fun x s => .of ((tru x).map fun k => .val (.bl k)) s := rfl
@[simp] theorem fin_j (r : Res R) : fin .j r = r.bind fun x s => .of (x.sq3.map fun ts => .val (.lst ts)) s := rfl
@[simp] theorem fin_i (r : Res R) : fin .i r = r.bind fun x s => .of (x.sq2.map fun ts => .val (.lst ts)) s := rfl
def onB (x : R) (a b : Res R) : Res R := match x with
  | .val (.bl true) => a
  | .val (.bl false) => b
  | _ => .stuck
def onI (x : R) (f : Int → Res R) : Res R := match x with
  | .val (.int i) => f i
  | _ => .stuck
def onL (x : R) (f : List T → Res R) : Res R := match x with
  | .val (.lst ts) => f ts
  | _ => .stuck
def onV (x : R) (f : T → Res (List T)) : Res (List T) := match x with
  | .val t => f t
  | _ => .stuck
def one (m : Res R) : Res (Option T) := match m with
  | .ok r s => .of (r.val?.map some) s
  | _ => .stuck
def onO {α β : Type} (o : Option α) (f : α → Res β) : Res β := match o with
  | some a => f a
  | none => .stuck
def onN (x : R) (m : Res R) : Res R := match x with
  | .val .non => m
  | _ => .stuck
open Classical in
noncomputable def keepC {α : Type} (l : Nat) (ts : List T) (m : Res α) : Res α := match m with
  | .ok a s => if s[l]? = some (.lst ts) then .ok a s else .stuck
  | r => r
def rngM (m : Md) (r : Res R) : Res R := match m with | .i => r | .j => r | _ => .stuck
mutual
noncomputable def ev (C : Cf) : E → Md → Fr → Sto → Res R
  | .var i, m, σ, s => fin m (.of (look σ i) s)
  | .cst t, m, _, s => fin m (.ok (.val t) s)
  | .glb _ i, m, _, s => fin m (.ok (.val (.int i)) s)
  | .bin o a b, m, σ, s => fin m ((ev C a .v σ s).bind fun x s1 => (ev C b .v σ s1).bind fun y s2 => .of (opR o x y) s2)
  | .neg a, m, σ, s => fin m ((ev C a .v σ s).bind fun x s1 => .of (x.int?.map fun i => .val (.int (-i))) s1)
  | .not a, .t, σ, s => (ev C a .t σ s).bind fun x s1 => onB x (.ok (.val (.bl false)) s1) (.ok (.val (.bl true)) s1)
  | .not a, m, σ, s => fin m ((ev C a .v σ s).bind fun x s1 => .of ((tru x).map fun k => .val (.bl (!k))) s1)
  | .cmp c a b, m, σ, s => fin m ((ev C a .v σ s).bind fun x s1 => (ev C b .v σ s1).bind fun y s2 => .of ((cmpR c x y).map fun k => .val (.bl k)) s2)
  | .and a b, .t, σ, s => (ev C a .t σ s).bind fun x s1 => onB x (ev C b .t σ s1) (.ok (.val (.bl false)) s1)
  | .or a b, .t, σ, s => (ev C a .t σ s).bind fun x s1 => onB x (.ok (.val (.bl true)) s1) (ev C b .t σ s1)
  | .and a b, m, σ, s => fin m ((ev C a .v σ s).bind fun x s1 => onB x (ev C b .v σ s1) (.ok (.val (.bl false)) s1))
  | .or a b, m, σ, s => fin m ((ev C a .v σ s).bind fun x s1 => onB x (.ok (.val (.bl true)) s1) (ev C b .v σ s1))
  | .ife c a b, m, σ, s => fin m ((ev C c .t σ s).bind fun x s1 => onB x (ev C a .v σ s1) (ev C b .v σ s1))
  | .tup es, m, σ, s => fin m ((evs C es σ s).bind fun ts s1 => .ok (.val (.tup ts)) s1)
  | .lst es, m, σ, s => fin m ((evs C es σ s).bind fun ts s1 => .ok (.val (.lst ts)) s1)
  | .sub a b, m, σ, s => fin m ((ev C a .v σ s).bind fun x s1 => (ev C b .v σ s1).bind fun y s2 => onI y fun i => .of ((subR (x.dr s2) i).map .val) s2)
  | .cutL a l, m, σ, s => fin m ((ev C a .v σ s).bind fun x s1 => (ev C l .v σ s1).bind fun y s2 => onI y fun i => .of (cutR (x.dr s2) (some i) none) s2)
  | .cutU a h, m, σ, s => fin m ((ev C a .v σ s).bind fun x s1 => (ev C h .v σ s1).bind fun y s2 => onI y fun i => .of (cutR (x.dr s2) none (some i)) s2)
  | .cutLU a l h, m, σ, s => fin m ((ev C a .v σ s).bind fun x s1 => (ev C l .v σ s1).bind fun y s2 => onI y fun i => (ev C h .v σ s2).bind fun z s3 => onI z fun j => .of (cutR (x.dr s3) (some i) (some j)) s3)
  | .rev a, m, σ, s => fin m ((ev C a .v σ s).bind fun x s1 => .of (x.seq.map fun ts => .val (.lst ts.reverse)) s1)
  | .b1 f a, m, σ, s => fin m ((ev C a .v σ s).bind fun x s1 => .of (b1R f (x.dr s1)) s1)
  | .mn2 a b, m, σ, s => fin m ((ev C a .v σ s).bind fun x s1 => (ev C b .v σ s1).bind fun y s2 => .of (do let i ← x.int?; let j ← y.int?; some (.val (.int (if j < i then j else i)))) s2)
  | .mx2 a b, m, σ, s => fin m ((ev C a .v σ s).bind fun x s1 => (ev C b .v σ s1).bind fun y s2 => .of (do let i ← x.int?; let j ← y.int?; some (.val (.int (if j > i then j else i)))) s2)
  | .mxd a d, m, σ, s => fin m ((ev C a .v σ s).bind fun x s1 => (ev C d .v σ s1).bind fun y s2 => .of (do let ts ← x.seq; let is ← asInts ts; let d ← y.int?; some (.val (.int ((maxI is).getD d)))) s2)
  | .mnd a d, m, σ, s => fin m ((ev C a .v σ s).bind fun x s1 => (ev C d .v σ s1).bind fun y s2 => .of (do let ts ← x.seq; let is ← asInts ts; let d ← y.int?; some (.val (.int ((minI is).getD d)))) s2)
  | .mnk a i k, m, σ, s => fin m ((ev C a .v σ s).bind fun x s1 => onO x.seq fun ts =>
      (mapRes (fun t s => one (ev C k .v (put σ i t) s)) ts s1).bind fun ks s2 => .of (do let is ← asTups ks; (minBy HT.lexLt (is.zip ts)).map .val) s2)
  | .sok _ _ _, _, _, _ => .stuck
  | .isi a c, m, σ, s => fin m ((ev C a .v σ s).bind fun x s1 => .of ((isiX C.sub (x.dr s1) c).map fun k => .val (.bl k)) s1)
  | .call f es ds, m, σ, s => fin m ((evr C es σ s).bind fun rs s1 => C.cf f (rs ++ ds.map .val) s1)
  | .comp e g it, m, σ, s => fin m ((ev C it .i σ s).bind fun x s1 => onL x fun ts => (mapRes (fun t s => onO (bindTg σ g t) fun σ' => one (ev C e .v σ' s)) ts s1).bind fun q s2 => .ok (.val (.lst q)) s2)
  | .compIf e g it c, m, σ, s => fin m ((ev C it .i σ s).bind fun x s1 => onL x fun ts => (mapRes (fun t s => onO (bindTg σ g t) fun σ' =>
      match ev C c .t σ' s with
      | .ok (.val (.bl true)) s2 => one (ev C e .v σ' s2)
      | .ok (.val (.bl false)) s2 => .ok none s2
      | _ => .stuck) ts s1).bind fun q s2 => .ok (.val (.lst q)) s2)
  | .rng1 a, m, σ, s => rngM m ((ev C a .v σ s).bind fun x s1 => onI x fun j => if bnd j && decide (j ≤ lim) then .ok (.val (.lst (rangeT 0 j))) s1 else .stuck)
  | .rng2 a b, m, σ, s => rngM m ((ev C a .v σ s).bind fun x s1 => onI x fun i => (ev C b .v σ s1).bind fun y s2 => onI y fun j => if bnd i && bnd j && decide (j - i ≤ lim) then .ok (.val (.lst (rangeT i j))) s2 else .stuck)
  | .enm a, m, σ, s => rngM m ((ev C a .v σ s).bind fun x s1 => onL x fun ts => .ok (.val (.lst (enT 0 ts))) s1)
  | .zip a b, m, σ, s => rngM m ((ev C a .v σ s).bind fun x s1 => (ev C b .v σ s1).bind fun y s2 => .of (do let ts ← x.sq3; let us ← y.sq3; some (.val (.lst (ziT ts us)))) s2)
  | .fld a c f, m, σ, s => fin m ((ev C a .v σ s).bind fun x s1 => .of ((fldR s1 x c f).map .val) s1)
  | .cell a, m, σ, s => fin m ((ev C a .v σ s).bind fun x s1 => onL x fun ts => .ok (.val (.loc s1.length)) (s1 ++ [.lst ts]))
  | .new c f n es ds, m, σ, s => fin m ((evr C es σ s).bind fun rs s1 => (C.cf f (.val (.loc s1.length) :: rs ++ ds.map .val) (s1 ++ [.ins c (List.replicate n none)])).bind fun r s2 => onN r (.ok (.val (.loc s1.length)) s2))
  | .meth a c f es ds, m, σ, s => fin m ((ev C a .v σ s).bind fun x s1 => onO (x.locI s1 c) fun _ => (evr C es σ s1).bind fun rs s2 => C.cf f (x :: rs ++ ds.map .val) s2)
  | .compC e g it, m, σ, s => fin m ((ev C it .v σ s).bind fun x s1 => onO (x.locL s1) fun p => (mapRes (fun t s => onO (bindTg σ g t) fun σ' => keepC p.1 p.2 (one (ev C e .v σ' s))) p.2 s1).bind fun q s2 => .ok (.val (.lst q)) s2)
  | .cmpD c a b, m, σ, s => fin m ((ev C a .v σ s).bind fun x s1 => (ev C b .v σ s1).bind fun y s2 => .of ((cmpR c (x.dr s2) (y.dr s2)).map fun k => .val (.bl k)) s2)
noncomputable def evs (C : Cf) : List E → Fr → Sto → Res (List T)
  | [], _, s => .ok [] s
  | e :: es, σ, s => (ev C e .v σ s).bind fun x s1 => onV x fun t => (evs C es σ s1).bind fun ts s2 => .ok (t :: ts) s2
noncomputable def evr (C : Cf) : List E → Fr → Sto → Res (List R)
  | [], _, s => .ok [] s
  | e :: es, σ, s => (ev C e .v σ s).bind fun x s1 => (evr C es σ s1).bind fun xs s2 => .ok (x :: xs) s2
end
def frz (σ : Fr) (i : Nat) : Fr := match σ[i]? with
  | some (some (.own ts)) => σ.set i (some (.val (.lst ts)))
  | _ => σ
def setOwn (σ : Fr) (i : Nat) (ts : List T) : Fr := σ.set i (some (.own ts))
def ownAt (σ : Fr) (i : Nat) : Option (List T) := match σ[i]? with
  | some (some (.own ts)) => some ts
  | _ => none
def R.sto (r : R) : Option T := r.val?
def Res.st (m : Res R) (σ : Fr) (k : R → Sto → SR) : SR := match m with
  | .stuck => .stuck
  | .ok a s => k a s
  | .exc c s => .exc c σ s
@[simp] theorem Res.st_ok (a : R) (s : Sto) (σ : Fr) (k : R → Sto → SR) : (Res.ok a s).st σ k = k a s := rfl
@[simp] theorem Res.st_exc (c : Nat) (s : Sto) (σ : Fr) (k : R → Sto → SR) : (Res.exc c s).st σ k = .exc c σ s := rfl
def SR.bind (m : SR) (k : Fr → Sto → SR) : SR := match m with
  | .next σ s => k σ s
  | r => r
@[simp] theorem SR.bind_next (σ : Fr) (s : Sto) (k : Fr → Sto → SR) : (SR.next σ s).bind k = k σ s := rfl
@[simp] theorem SR.bind_ret (r : R) (s : Sto) (k : Fr → Sto → SR) : (SR.ret r s).bind k = .ret r s := rfl
@[simp] theorem SR.bind_retO (ts : List T) (s : Sto) (k : Fr → Sto → SR) : (SR.retO ts s).bind k = .retO ts s := rfl
@[simp] theorem SR.bind_exc (c : Nat) (σ : Fr) (s : Sto) (k : Fr → Sto → SR) : (SR.exc c σ s).bind k = .exc c σ s := rfl
@[simp] theorem SR.bind_stuck (k : Fr → Sto → SR) : SR.stuck.bind k = .stuck := rfl
def onS {α : Type} (o : Option α) (f : α → SR) : SR := match o with
  | some a => f a
  | none => .stuck
@[simp] theorem onS_some {α : Type} (a : α) (f : α → SR) : onS (some a) f = f a := rfl
@[simp] theorem onS_none {α : Type} (f : α → SR) : onS none f = .stuck := rfl
def onBS (x : R) (a b : SR) : SR := match x with
  | .val (.bl true) => a
  | .val (.bl false) => b
  | _ => .stuck
def R.lst? : R → Option (List T)
  | .val (.lst ts) => some ts
  | _ => none
def forL (g : Tg) (body : Fr → Sto → SR) : List T → Fr → Sto → SR
  | [], σ, s => .next σ s
  | t :: ts, σ, s => onS (bindTg σ g t) fun σ' => (body σ' s).bind fun σ2 s2 => forL g body ts σ2 s2
open Classical in
noncomputable def forC (g : Tg) (body : Fr → Sto → SR) (l : Nat) (all : List T) : List T → Fr → Sto → SR
  | [], σ, s => if s[l]? = some (.lst all) then .next σ s else .stuck
  | t :: ts, σ, s => if s[l]? = some (.lst all) then onS (bindTg σ g t) fun σ' => (body σ' s).bind fun σ2 s2 => forC g body l all ts σ2 s2 else .stuck
def SR.nox (r : SR) : SR := match r with
  | .exc _ _ _ => .stuck
  | r => r
def lock (σ : Fr) (i : Nat) : Fr := match σ[i]? with
  | some (some (.own ts)) => σ.set i (some (.lck ts))
  | _ => σ
def unlock (σ : Fr) (i : Nat) : Fr := match σ[i]? with
  | some (some (.lck ts)) => σ.set i (some (.own ts))
  | _ => σ
def SR.unlock (r : SR) (i : Nat) : SR := match r with
  | .next σ s => .next (IP.unlock σ i) s
  | .exc c σ s => .exc c (IP.unlock σ i) s
  | r => r
def isOwn (σ : Fr) (i : Nat) : Bool := match σ[i]? with
  | some (some (.own _)) => true
  | _ => false
def freshE (C : Cf) : E → Bool
  | .lst _ => true | .comp _ _ _ => true | .compIf _ _ _ _ => true | .b1 .list _ => true | .rev _ => true | .bin .add _ _ => true | .call f _ _ => C.fr f | _ => false
mutual
noncomputable def ex (C : Cf) : S → Fr → Sto → SR
  | .asg i e, σ, s => (ev C e .v σ s).st σ fun x s1 => onS x.val? fun t => .next (put σ i t) s1
  | .asgT is e, σ, s => (ev C e .v σ s).st σ fun x s1 => onS x.tup? fun ts => onS (puts σ is ts) fun σ' => .next σ' s1
  | .mk i e, σ, s => if freshE C e then (ev C e .v σ s).st σ fun x s1 => onS x.lst? fun ts => .next (setOwn σ i ts) s1 else .stuck
  | .app i e, σ, s => onS (ownAt σ i) fun ts => (ev C e .v σ s).st σ fun x s1 => onS x.val? fun t => if ts.length < lim then .next (setOwn σ i (ts ++ [t])) s1 else .stuck
  | .ext i e, σ, s => onS (ownAt σ i) fun ts => (ev C e .v σ s).st σ fun x s1 => onS x.lst? fun us => if ts.length + us.length ≤ lim then .next (setOwn σ i (ts ++ us)) s1 else .stuck
  | .put i j e, σ, s => onS (ownAt σ i) fun ts => (ev C e .v σ s).st σ fun x s1 => onS x.val? fun t => (ev C j .v σ s1).st σ fun y s2 => onS y.int? fun k => onS (L2.ixN ts.length k) fun n => .next (setOwn σ i (ts.set n t)) s2
  | .pop k i, σ, s => onS (ownAt σ i) fun ts => onS ts.getLast? fun t => .next (put (setOwn σ i ts.dropLast) k t) s
  | .frz i, σ, s => .next (frz σ i) s
  | .ifs c a b, σ, s => (ev C c .t σ s).st σ fun x s1 => onBS x (exs C a σ s1) (exs C b σ s1)
  | .whl c b, σ, s => C.wl (fun σ s => (ev C c .t σ s).bind fun x s1 => .of (match x with | .val (.bl k) => some k | _ => none) s1) (fun σ s => exs C b σ s) σ s
  | .for_ g it b, σ, s => match it with
    | .var i => (ev C (.var i) .i σ s).st σ fun x s1 => onS x.lst? fun ts => if isOwn σ i then (forL g (fun σ s => exs C b σ s) ts (lock σ i) s1).unlock i else forL g (fun σ s => exs C b σ s) ts σ s1
    | it => (ev C it .j σ s).st σ fun x s1 => onS x.lst? fun ts => forL g (fun σ s => exs C b σ s) ts σ s1
  | .ret e, σ, s => (ev C e .v σ s).st σ fun x s1 => .ret x s1
  | .retO e, σ, s => if freshE C e then (ev C e .v σ s).st σ fun x s1 => onS x.lst? fun ts => .retO ts s1 else .stuck
  | .retV i, σ, s => onS (ownAt σ i) fun ts => .retO ts s
  | .exp e, σ, s => (ev C e .v σ s).st σ fun _ s1 => .next σ s1
  | .raise c, σ, s => .exc c σ s
  | .try_ b c nm h, σ, s => match exs C b σ s with
    | .exc d σ1 s1 => if C.sub d c then (match nm with
        | none => (exs C h σ1 s1).nox
        | some i => (exs C h (put σ1 i (.exc d)) s1).nox.bind fun σ2 s2 => .next (σ2.set i none) s2) else .exc d σ1 s1
    | r => r
  | .putL a j e, σ, s => (ev C e .v σ s).st σ fun x s1 => onS x.val? fun t => (ev C a .v σ s1).st σ fun y s2 => (ev C j .v σ s2).st σ fun z s3 => onS (y.locL s3) fun p => onS z.int? fun k => onS (L2.ixN p.2.length k) fun n => .next σ (s3.set p.1 (.lst (p.2.set n t)))
  | .appL a e, σ, s => (ev C a .v σ s).st σ fun y s1 => onS (y.locL s1) fun _ => (ev C e .v σ s1).st σ fun x s2 => onS x.val? fun t => onS (y.locL s2) fun p => if p.2.length < lim then .next σ (s2.set p.1 (.lst (p.2 ++ [t]))) else .stuck
  | .setF a c f e, σ, s => (ev C e .v σ s).st σ fun x s1 => onS x.val? fun t => (ev C a .v σ s1).st σ fun y s2 => onS (y.locI s2 c) fun p => if f < p.2.length then .next σ (s2.set p.1 (.ins c (p.2.set f (some t)))) else .stuck
  | .popL a, σ, s => (ev C a .v σ s).st σ fun y s1 => onS (y.locL s1) fun p => if p.2.isEmpty then .stuck else .next σ (s1.set p.1 (.lst p.2.dropLast))
  | .clrL a, σ, s => (ev C a .v σ s).st σ fun y s1 => onS (y.locL s1) fun p => .next σ (s1.set p.1 (.lst []))
  | .forC g it b, σ, s => (ev C it .v σ s).st σ fun x s1 => onS (x.locL s1) fun p => forC g (fun σ s => exs C b σ s) p.1 p.2 p.2 σ s1
  | .pass, σ, s => .next σ s
noncomputable def exs (C : Cf) : List S → Fr → Sto → SR
  | [], σ, s => .next σ s
  | a :: r, σ, s => (ex C a σ s).bind fun σ1 s1 => exs C r σ1 s1
end
structure Fn where
  pars : Nat
  size : Nat
  fr : Bool
  body : List S
def ofR : R → B
  | .val t => .val t
  | .bor ts => .bor ts
def enter (F : Fn) (rs : List R) : Fr := rs.map (fun r => some (ofR r)) ++ List.replicate (F.size - rs.length) none
def leave (x fr : Bool) : SR → Res R
  | .ret r s => if fr then .stuck else .ok r s
  | .retO ts s => if fr then .ok (.val (.lst ts)) s else .stuck
  | .next _ s => if fr then .stuck else .ok (.val .non) s
  | .exc c _ s => if x then .exc c s else .stuck
  | .stuck => .stuck
def whileN (c : Fr → Sto → Res Bool) (b : Fr → Sto → SR) : Nat → Fr → Sto → SR
  | 0, _, _ => .stuck
  | n + 1, σ, s => match c σ s with
    | .stuck => .stuck
    | .exc d s1 => .exc d σ s1
    | .ok false s1 => .next σ s1
    | .ok true s1 => (b σ s1).bind fun σ2 s2 => whileN c b n σ2 s2
open Classical in
noncomputable def whileL (c : Fr → Sto → Res Bool) (b : Fr → Sto → SR) (σ : Fr) (s : Sto) : SR :=
  if h : ∃ n, whileN c b n σ s ≠ .stuck then whileN c b (choose h) σ s else .stuck
def frOf (fs : List Fn) (f : Nat) : Bool := match fs[f]? with
  | some F => F.fr
  | none => false
noncomputable def run (x : Bool) (fs : List Fn) (sub : Nat → Nat → Bool) (wl : (Fr → Sto → Res Bool) → (Fr → Sto → SR) → Fr → Sto → SR) : Nat → Nat → List R → Sto → Res R
  | 0, _, _, _ => .stuck
  | k + 1, f, rs, s => match fs[f]? with
    | none => .stuck
    | some F => if rs.length = F.pars then leave x F.fr (exs ⟨run x fs sub wl k, sub, frOf fs, wl⟩ F.body (enter F rs) s) else .stuck
end IP
end
section
set_option Elab.async false
set_option linter.all false
set_option maxRecDepth 100000
namespace IP
open PySem L2
structure Gx where
  K : PySem.W.Frag
  cA : Nat → Addr
  iA : Nat → Addr
  nm : Nat → List Str
structure Wo where
  n : Nat
  io : Nat → Addr
  Z : Addr → Prop
def errAt (a : Addr) (C : Addr) : Heap → Prop := fun h => ∃ o, h.get? a = some o ∧ o.cls = .ref C
section
variable (G : Gx)
mutual
def Rep (w : Wo) (H : Hp) : T → V → Prop
  | .non, v => v = .non
  | .bl b, v => v = .bl b
  | .int i, v => v = .int i
  | .str x, v => v = .str x
  | .tup ts, v => ∃ a vs, v = .ref a ∧ H a = some (.tup vs) ∧ Reps w H ts vs
  | .lst ts, v => ∃ a vs, v = .ref a ∧ w.Z a ∧ Rd H a (.lst vs) ∧ Reps w H ts vs
  | .loc l, v => l < w.n ∧ v = .ref (w.io l)
  | .exc c, v => ∃ a, v = .ref a ∧ H a = some (.ext (errAt a (G.cA c)))
def Reps (w : Wo) (H : Hp) : List T → List V → Prop
  | [], vs => vs = []
  | t :: ts, vs => ∃ v r, vs = v :: r ∧ Rep w H t v ∧ Reps w H ts r
end
end
def notLoc (w : Wo) (a : Addr) : Prop := ∀ l, l < w.n → a ≠ w.io l
structure Le (w w' : Wo) (H H' : Hp) : Prop where
  n : w.n ≤ w'.n
  io : ∀ l, l < w.n → w'.io l = w.io l
  Z : ∀ a, w.Z a → w'.Z a
  keep : ∀ a o, H a = some o → notLoc w a → H' a = some o
  newL : ∀ l, w.n ≤ l → l < w'.n → H (w'.io l) = none
  newZ : ∀ a, w'.Z a → w.Z a ∨ H a = none
  some_ : ∀ a, H a ≠ none → H' a ≠ none
theorem Le.refl (w : Wo) (H : Hp) : Le w w H H := ⟨Nat.le_refl _, fun _ _ => rfl, fun _ z => z, fun _ _ e _ => e, fun l a b => absurd (Nat.lt_of_lt_of_le b a) (Nat.lt_irrefl _), fun _ z => .inl z, fun _ z => z⟩
theorem Le.trans {w w1 w2 : Wo} {H H1 H2 : Hp} (a : Le w w1 H H1) (b : Le w1 w2 H1 H2) : Le w w2 H H2 where
  n := Nat.le_trans a.n b.n
  io := fun l h => (b.io l (Nat.lt_of_lt_of_le h a.n)).trans (a.io l h)
  Z := fun x z => b.Z x (a.Z x z)
  keep := fun x o e nl => b.keep x o (a.keep x o e nl) fun l hl q => by
    by_cases h : l < w.n
    · exact nl l h (q.trans (a.io l h))
    · have := a.newL l (Nat.le_of_not_lt h) hl
      rw [← q, e] at this
      cases this
  newL := fun l h1 h2 => by
    by_cases h : l < w1.n
    · rw [b.io l h]
      exact a.newL l h1 h
    · have q := b.newL l (Nat.le_of_not_lt h) h2
      cases e : H (w2.io l) with
      | none => rfl
      | some o => exact absurd q (a.some_ _ (by rw [e]; intro z; cases z))
  newZ := fun x z => by
    rcases b.newZ x z with z | z
    · exact a.newZ x z
    · refine .inr ?_
      cases e : H x with
      | none => rfl
      | some o => exact absurd z (a.some_ x (by rw [e]; intro q; cases q))
  some_ := fun x z => b.some_ x (a.some_ x z)
section
variable {G : Gx}
def KvOk (nm : List Str) (kvs : List (Str × V)) : Prop := (kvs.map (·.1)).Nodup ∧ ∀ x ∈ kvs.map (·.1), x ∈ nm
def CellOk (G : Gx) (w : Wo) (H : Hp) (a : Addr) : Cell → Prop
  | .lst ts => ∃ vs, H a = some (.lst vs) ∧ Reps G w H ts vs
  | .ins c fs => ∃ dx kvs, H a = some (.ins (G.iA c) dx kvs) ∧ KvOk (G.nm c) kvs ∧ ∀ (i : Nat) (x : Str) (t : T), (G.nm c)[i]? = some x → fs[i]? = some (some t) → ∃ v, kvs.lookup x = some v ∧ Rep G w H t v
structure StoOk (G : Gx) (w : Wo) (H : Hp) (s : Sto) : Prop where
  len : s.length = w.n
  inj : ∀ l m, l < w.n → m < w.n → w.io l = w.io m → l = m
  nz : ∀ l, l < w.n → ¬ w.Z (w.io l)
  cell : ∀ l c, s[l]? = some c → CellOk G w H (w.io l) c
  zt : ∀ a, w.Z a → ∃ vs, Rd H a (.lst vs)
theorem StoOk.loc {w : Wo} {H : Hp} {s : Sto} (S : StoOk G w H s) {l : Nat} (h : l < w.n) : (∃ vs, H (w.io l) = some (.lst vs)) ∨ ∃ c dx kvs, H (w.io l) = some (.ins c dx kvs) := by
  have hl : l < s.length := by rw [S.len]; exact h
  have q := S.cell l s[l] (List.getElem?_eq_getElem hl)
  cases e : s[l] with
  | lst ts => rw [e] at q; obtain ⟨vs, q, _⟩ := q; exact .inl ⟨vs, q⟩
  | ins c fs => rw [e] at q; obtain ⟨dx, kvs, q, _⟩ := q; exact .inr ⟨_, dx, kvs, q⟩
theorem StoOk.notLoc {w : Wo} {H : Hp} {s : Sto} (S : StoOk G w H s) {a : Addr} {o : HO} (e : H a = some o) (h1 : ∀ vs, o ≠ .lst vs) (h2 : ∀ c dx kvs, o ≠ .ins c dx kvs) : IP.notLoc w a := fun l hl q => by
  subst q
  rcases S.loc hl with ⟨vs, z⟩ | ⟨c, dx, kvs, z⟩
  · rw [e] at z; exact h1 vs (Option.some.inj z)
  · rw [e] at z; exact h2 c dx kvs (Option.some.inj z)
theorem StoOk.zLoc {w : Wo} {H : Hp} {s : Sto} (S : StoOk G w H s) {a : Addr} (z : w.Z a) : IP.notLoc w a := fun l hl q => S.nz l hl (q ▸ z)
theorem StoOk.fresh {w : Wo} {H : Hp} {s : Sto} (S : StoOk G w H s) {a : Addr} (h : H a = none) : ¬ w.Z a ∧ IP.notLoc w a := by
  refine ⟨fun z => ?_, fun l hl q => ?_⟩
  · obtain ⟨vs, r | ⟨o, r⟩⟩ := S.zt a z
    · rw [h] at r; cases r
    · rw [h] at r; cases r
  · subst q
    rcases S.loc hl with ⟨vs, z⟩ | ⟨c, dx, kvs, z⟩ <;> (rw [h] at z; cases z)
theorem Rd.keep {w w' : Wo} {H H' : Hp} {a : Addr} {u : HO} (L : Le w w' H H') (nl : IP.notLoc w a) (r : Rd H a u) : Rd H' a u := by
  rcases r with r | ⟨o, r⟩
  · exact .inl (L.keep _ _ r nl)
  · exact .inr ⟨o, L.keep _ _ r nl⟩
mutual
theorem Rep.mono {w w' : Wo} {H H' : Hp} {s : Sto} (L : Le w w' H H') (S : StoOk G w H s) : ∀ (t : T) (v : V), Rep G w H t v → Rep G w' H' t v
  | .non, v, h => h
  | .bl b, v, h => h
  | .int i, v, h => h
  | .str x, v, h => h
  | .tup ts, v, ⟨a, vs, e, h, r⟩ => ⟨a, vs, e, L.keep _ _ h (S.notLoc h (fun _ z => by cases z) fun _ _ _ z => by cases z), Reps.mono L S ts vs r⟩
  | .lst ts, v, ⟨a, vs, e, z, h, r⟩ => ⟨a, vs, e, L.Z _ z, Rd.keep L (S.zLoc z) h, Reps.mono L S ts vs r⟩
  | .loc l, v, ⟨h, e⟩ => ⟨Nat.lt_of_lt_of_le h L.n, by rw [L.io l h]; exact e⟩
  | .exc c, v, ⟨a, e, h⟩ => ⟨a, e, L.keep _ _ h (S.notLoc h (fun _ z => by cases z) fun _ _ _ z => by cases z)⟩
theorem Reps.mono {w w' : Wo} {H H' : Hp} {s : Sto} (L : Le w w' H H') (S : StoOk G w H s) : ∀ (ts : List T) (vs : List V), Reps G w H ts vs → Reps G w' H' ts vs
  | [], vs, h => h
  | t :: ts, vs, ⟨v, r, e, h, q⟩ => ⟨v, r, e, Rep.mono L S t v h, Reps.mono L S ts r q⟩
end
theorem Reps.length {w : Wo} {H : Hp} : ∀ {ts : List T} {vs : List V}, Reps G w H ts vs → ts.length = vs.length
  | [], _, h => by rw [h]; rfl
  | t :: ts, _, ⟨v, r, e, _, q⟩ => by subst e; simp [Reps.length q]
theorem Reps.get {w : Wo} {H : Hp} : ∀ {ts : List T} {vs : List V} {i : Nat} {t : T}, Reps G w H ts vs → ts[i]? = some t → ∃ v, vs[i]? = some v ∧ Rep G w H t v
  | [], _, i, t, h, e => by simp at e
  | t :: ts, _, 0, u, ⟨v, r, e, h, q⟩, z => by subst e; simp at z; subst z; exact ⟨v, rfl, h⟩
  | t :: ts, _, i + 1, u, ⟨v, r, e, h, q⟩, z => by
    subst e
    obtain ⟨x, h1, h2⟩ := Reps.get q (i := i) (t := u) (by simpa using z)
    exact ⟨x, by simpa using h1, h2⟩
theorem Reps.get' {w : Wo} {H : Hp} {ts : List T} {vs : List V} {i : Nat} {v : V} (h : Reps G w H ts vs) (e : vs[i]? = some v) : ∃ t, ts[i]? = some t ∧ Rep G w H t v := by
  have hi : i < ts.length := by
    rw [h.length]
    exact (List.getElem?_eq_some_iff.mp e).1
  obtain ⟨u, h1, h2⟩ := h.get (List.getElem?_eq_getElem hi)
  rw [e] at h1
  cases h1
  exact ⟨_, List.getElem?_eq_getElem hi, h2⟩
theorem Reps.append {w : Wo} {H : Hp} : ∀ {ts us : List T} {vs ws : List V}, Reps G w H ts vs → Reps G w H us ws → Reps G w H (ts ++ us) (vs ++ ws)
  | [], us, _, ws, h, q => by rw [h]; exact q
  | t :: ts, us, _, ws, ⟨v, r, e, h, k⟩, q => by subst e; exact ⟨v, r ++ ws, rfl, h, Reps.append k q⟩
theorem Reps.set {w : Wo} {H : Hp} {t : T} {v : V} (rv : Rep G w H t v) : ∀ {ts : List T} {vs : List V} (i : Nat), Reps G w H ts vs → Reps G w H (ts.set i t) (vs.set i v)
  | [], _, i, h => by rw [h]; exact rfl
  | x :: ts, _, 0, ⟨y, r, e, h, k⟩ => by subst e; exact ⟨v, r, rfl, rv, k⟩
  | x :: ts, _, i + 1, ⟨y, r, e, h, k⟩ => by subst e; exact ⟨y, r.set i v, rfl, h, Reps.set rv i k⟩
theorem Reps.drop {w : Wo} {H : Hp} : ∀ {ts : List T} {vs : List V} (i : Nat), Reps G w H ts vs → Reps G w H (ts.drop i) (vs.drop i)
  | ts, vs, 0, h => h
  | [], _, i + 1, h => by rw [h]; exact rfl
  | x :: ts, _, i + 1, ⟨y, r, e, h, k⟩ => by subst e; exact Reps.drop i k
theorem Reps.take {w : Wo} {H : Hp} : ∀ {ts : List T} {vs : List V} (i : Nat), Reps G w H ts vs → Reps G w H (ts.take i) (vs.take i)
  | ts, vs, 0, h => by simp; exact rfl
  | [], _, i + 1, h => by rw [h]; exact rfl
  | x :: ts, _, i + 1, ⟨y, r, e, h, k⟩ => by subst e; exact ⟨y, r.take i, rfl, h, Reps.take i k⟩
theorem Reps.reverse {w : Wo} {H : Hp} : ∀ {ts : List T} {vs : List V}, Reps G w H ts vs → Reps G w H ts.reverse vs.reverse
  | [], _, h => by rw [h]; exact rfl
  | x :: ts, _, ⟨y, r, e, h, k⟩ => by
    subst e
    rw [List.reverse_cons, List.reverse_cons]
    exact Reps.append (Reps.reverse k) ⟨y, [], rfl, h, rfl⟩
theorem Reps.cut {w : Wo} {H : Hp} {ts : List T} {vs : List V} (h : Reps G w H ts vs) (lo hi : Option Int) : Reps G w H (cutT ts lo hi) (cutV vs lo hi) := by
  unfold cutT cutV
  rw [← h.length]
  exact (h.drop _).take _
def RepR (G : Gx) (w : Wo) (H : Hp) : R → V → Prop
  | .val t, v => Rep G w H t v
  | .bor ts, v => ∃ a vs, v = .ref a ∧ H a = some (.lst vs) ∧ Reps G w H ts vs ∧ notLoc w a
def RepD (G : Gx) (w : Wo) (H : Hp) : R → V → Prop
  | .val t, v => Rep G w H t v
  | .bor ts, v => ∃ a vs, v = .ref a ∧ H a = some (.lst vs) ∧ Reps G w H ts vs
theorem RepR.d {w : Wo} {H : Hp} : ∀ {r : R} {v : V}, RepR G w H r v → RepD G w H r v
  | .val t, v, h => h
  | .bor ts, v, ⟨a, vs, e, h, r, _⟩ => ⟨a, vs, e, h, r⟩
theorem RepR.dr {w : Wo} {H : Hp} {s : Sto} (S : StoOk G w H s) {r : R} {v : V} (h : RepR G w H r v) : RepD G w H (r.dr s) v := by
  unfold R.dr
  split
  · rename_i l
    obtain ⟨hl, e⟩ := h
    split
    · rename_i ts q
      obtain ⟨vs, h1, h2⟩ := S.cell l _ q
      exact ⟨w.io l, vs, e, h1, h2⟩
    · exact ⟨hl, e⟩
  · exact h.d
theorem RepR.mono {w w' : Wo} {H H' : Hp} {s : Sto} (L : Le w w' H H') (S : StoOk G w H s) : ∀ {r : R} {v : V}, RepR G w H r v → RepR G w' H' r v
  | .val t, v, h => Rep.mono L S t v h
  | .bor ts, v, ⟨a, vs, e, h, r, nl⟩ => ⟨a, vs, e, L.keep _ _ h nl, Reps.mono L S ts vs r, fun l hl q => by
      by_cases k : l < w.n
      · exact nl l k (q.trans (L.io l k))
      · have := L.newL l (Nat.le_of_not_lt k) hl
        rw [← q, h] at this
        cases this⟩
def RepRs (G : Gx) (w : Wo) (H : Hp) : List R → List V → Prop
  | [], vs => vs = []
  | t :: ts, vs => ∃ v r, vs = v :: r ∧ RepR G w H t v ∧ RepRs G w H ts r
theorem RepRs.mono {w w' : Wo} {H H' : Hp} {s : Sto} (L : Le w w' H H') (S : StoOk G w H s) : ∀ {ts : List R} {vs : List V}, RepRs G w H ts vs → RepRs G w' H' ts vs
  | [], vs, h => h
  | t :: ts, vs, ⟨v, r, e, h, q⟩ => ⟨v, r, e, RepR.mono L S h, RepRs.mono L S q⟩
theorem RepRs.length {w : Wo} {H : Hp} : ∀ {ts : List R} {vs : List V}, RepRs G w H ts vs → ts.length = vs.length
  | [], _, h => by rw [h]; rfl
  | t :: ts, _, ⟨v, r, e, _, q⟩ => by subst e; simp [RepRs.length q]
def ownL : B → Option (List T)
  | .own ts => some ts
  | .lck ts => some ts
  | _ => none
structure FrOk (G : Gx) (w : Wo) (H H₀ : Hp) (σ : Fr) (σV : St) : Prop where
  len : σ.length = σV.length
  val : ∀ (i : Nat) (t : T), σ[i]? = some (some (.val t)) → ∃ v, σV[i]? = some (some v) ∧ Rep G w H t v
  own : ∀ (i : Nat) (b : B) (ts : List T), σ[i]? = some (some b) → ownL b = some ts → ∃ a vs, σV[i]? = some (some (.ref a)) ∧ H a = some (.lst vs) ∧ Reps G w H ts vs ∧ H₀ a = none ∧ ¬ w.Z a ∧ notLoc w a
  apart : ∀ (i j : Nat) (b c : B) (ts us : List T) (a : Addr), i ≠ j → σ[i]? = some (some b) → ownL b = some ts → σ[j]? = some (some c) → ownL c = some us → σV[i]? = some (some (.ref a)) → σV[j]? = some (some (.ref a)) → False
  bor : ∀ (i : Nat) (ts : List T), σ[i]? = some (some (.bor ts)) → ∃ a vs, σV[i]? = some (some (.ref a)) ∧ H a = some (.lst vs) ∧ Reps G w H ts vs ∧ H₀ a ≠ none ∧ notLoc w a
theorem notLoc.mono {w w' : Wo} {H H' : Hp} (L : Le w w' H H') {a : Addr} (h : H a ≠ none) (nl : notLoc w a) : notLoc w' a := fun l hl q => by
  by_cases k : l < w.n
  · exact nl l k (q.trans (L.io l k))
  · have := L.newL l (Nat.le_of_not_lt k) hl
    rw [← q] at this
    exact h this
theorem FrOk.mono {w w' : Wo} {H H' H₀ : Hp} {s : Sto} {σ : Fr} {σV : St} (L : Le w w' H H') (S : StoOk G w H s) (F : FrOk G w H H₀ σ σV) : FrOk G w' H' H₀ σ σV where
  len := F.len
  val := fun i t e => let ⟨v, h1, h2⟩ := F.val i t e; ⟨v, h1, Rep.mono L S t v h2⟩
  own := fun i b ts e eb => by
    obtain ⟨a, vs, h1, h2, h3, h4, h5, h6⟩ := F.own i b ts e eb
    have hn : H a ≠ none := by rw [h2]; intro z; cases z
    refine ⟨a, vs, h1, L.keep _ _ h2 h6, Reps.mono L S ts vs h3, h4, fun z => ?_, notLoc.mono L hn h6⟩
    rcases L.newZ a z with z | z
    · exact h5 z
    · exact hn z
  apart := F.apart
  bor := fun i ts e => by
    obtain ⟨a, vs, h1, h2, h3, h4, h6⟩ := F.bor i ts e
    have hn : H a ≠ none := by rw [h2]; intro z; cases z
    exact ⟨a, vs, h1, L.keep _ _ h2 h6, Reps.mono L S ts vs h3, h4, notLoc.mono L hn h6⟩
structure Good (G : Gx) (w₀ : Wo) (H₀ : Hp) (w : Wo) (H : Hp) (σ : Fr) (s : Sto) (σV : St) : Prop where
  sto : StoOk G w H s
  fr : FrOk G w H H₀ σ σV
  ent : Le w₀ w H₀ H
theorem Good.step {w₀ w w' : Wo} {H₀ H H' : Hp} {σ : Fr} {s s' : Sto} {σV : St} (g : Good G w₀ H₀ w H σ s σV) (L : Le w w' H H') (S : StoOk G w' H' s') : Good G w₀ H₀ w' H' σ s' σV := ⟨S, g.fr.mono L g.sto, g.ent.trans L⟩
end
end IP
end
section
set_option Elab.async false
set_option linter.all false
set_option maxRecDepth 100000
namespace IP
open PySem PySem.Spec L2
structure Flt (stack : List Env) (h B : Heap) (e : Addr) (sh : Heap) : Prop where
  cov : ∀ b o, B.get? b = some o ↔ h.get? b = some o ∧ b ∉ frs stack
  keep : ∀ b o, h.get? b = some o → b ∉ frs stack → sh.get? b = some o
  slot : ∀ b o, h.get? b = some o → b ∈ frs stack → ∃ sl, sh.get? b = some { o with slots := sl }
  new : h.get? e = none
def Thrown (G : Gx) (X : Cx) (pins : List (Addr × Obj)) (σV : St) (H : Hp) (c : Nat) (u : Value) (sh : Shared) : Prop :=
  ∃ (e : Addr) (h B : Heap), u = .ref e ∧ Inv X pins σV H { sh with heap := h } ∧ Flt X.stack h B e sh.heap ∧ X.base.StaysIn B ∧
    ((∃ args, Heap.MadeExcOf h sh.heap e (.ref (G.cA c)) args) ∨ (∃ t, Heap.FlyingW B X.stack e (.ref (G.cA c)) t sh.heap) ∨
     ∃ t L, X.env.frame = some L ∧ Heap.HeldW B X.stack e (.ref (G.cA c)) t L sh.heap)
def Want (G : Gx) (X : Cx) (σV : St) (w : Wo) (H : Hp) (res : Res R) (Q : VK) : Prop := match res with
  | .stuck => False
  | .ok r s' => ∀ w' H' v, Le w w' H H' → StoOk G w' H' s' → RepR G w' H' r v → Q v H'
  | .exc c s' => ∀ w' H' pins u sh, Le w w' H H' → StoOk G w' H' s' → Thrown G X pins σV H' c u sh → X.xe u sh
section
variable {G : Gx} {X : Cx} {σV : St} {w w₀ : Wo} {H H₀ : Hp} {Q Q' : VK}
theorem Want.imp {res : Res R} (h : Want G X σV w H res Q) (q : ∀ v H', Q v H' → Q' v H') : Want G X σV w H res Q' := by
  cases res with
  | stuck => exact h
  | ok r s => exact fun w' H' v a b c => q _ _ (h w' H' v a b c)
  | exc c s => exact h
theorem Want.mono {res : Res R} {w1 : Wo} {H1 : Hp} (L : Le w w1 H H1) (h : Want G X σV w H res Q) : Want G X σV w1 H1 res Q := by
  cases res with
  | stuck => exact h
  | ok r s => exact fun w' H' v a b c => h w' H' v (L.trans a) b c
  | exc c s => exact fun w' H' pins u sh a b => h w' H' pins u sh (L.trans a) b
theorem Want.bind {m : Res R} {k : R → Sto → Res R} (h : Want G X σV w H (m.bind k) Q) :
    Want G X σV w H m fun v H1 => ∃ w1 r s1, Le w w1 H H1 ∧ StoOk G w1 H1 s1 ∧ RepR G w1 H1 r v ∧ Want G X σV w1 H1 (k r s1) Q := by
  cases m with
  | stuck => exact h
  | ok r s => exact fun w' H' v a b c => ⟨w', r, s, a, b, c, Want.mono a h⟩
  | exc c s => exact h
theorem Want.of {o : Option R} {s : Sto} (h : Want G X σV w H (Res.of o s) Q) : ∃ r, o = some r ∧ ∀ w' H' v, Le w w' H H' → StoOk G w' H' s → RepR G w' H' r v → Q v H' := by
  cases o with
  | none => exact h.elim
  | some r => exact ⟨r, rfl, h⟩
theorem PE.imp {e : Expr} {t t' : TE} (h : PE X e t) (q : ∀ σ H Q, t' σ H Q → t σ H Q) : PE X e t' := fun pins s σ H Q I z => h pins s σ H Q I (q _ _ _ z)
theorem PT.imp {e : Expr} {t t' : TT} (h : PT X e t) (q : ∀ σ H Q, t' σ H Q → t σ H Q) : PT X e t' := fun pins s σ H Q I z => h pins s σ H Q I (q _ _ _ z)
theorem PA.imp {e : List Expr} {t t' : TA} (h : PA X e t) (q : ∀ σ H Q, t' σ H Q → t σ H Q) : PA X e t' := fun pos pins s σ H Q I z => h pos pins s σ H Q I (q _ _ _ z)
def tV (G : Gx) (X : Cx) (C : Cf) (e : E) : TE := fun σV H Q => ∃ w₀ H₀ w σ s, Good G w₀ H₀ w H σ s σV ∧ Want G X σV w H (ev C e .v σ s) Q
def tT (G : Gx) (X : Cx) (C : Cf) (e : E) : TT := fun σV H Q => ∃ w₀ H₀ w σ s, Good G w₀ H₀ w H σ s σV ∧ Want G X σV w H (ev C e .t σ s) fun v H' => ∃ k, v = .bl k ∧ Q k H'
theorem zabk {a p : Addr} {o : HO} (e : H a = some o) (hp : H p = none) : a ≠ p := fun q => by rw [q, hp] at e; cases e
theorem Le.new {p : Addr} (hp : H p = none) (o : HO) : Le w w H (upd H p o) where
  n := Nat.le_refl _
  io := fun _ _ => rfl
  Z := fun _ z => z
  keep := fun a u e _ => by rw [upd_ne (zabk e hp)]; exact e
  newL := fun l a b => absurd (Nat.lt_of_lt_of_le b a) (Nat.lt_irrefl _)
  newZ := fun _ z => .inl z
  some_ := fun a z => by
    cases e : H a with
    | none => exact absurd e z
    | some u => rw [upd_ne (zabk e hp), e]; intro q; cases q
def Wo.addZ (w : Wo) (p : Addr) : Wo := { w with Z := fun a => w.Z a ∨ a = p }
theorem Le.newZ_ {p : Addr} (hp : H p = none) (o : HO) : Le w (w.addZ p) H (upd H p o) where
  n := Nat.le_refl _
  io := fun _ _ => rfl
  Z := fun _ z => .inl z
  keep := (Le.new (w := w) hp o).keep
  newL := (Le.new (w := w) hp o).newL
  newZ := fun a z => z.elim .inl fun q => .inr (q ▸ hp)
  some_ := (Le.new (w := w) hp o).some_
theorem CellOk.mono {w' : Wo} {H' : Hp} {s : Sto} (L : Le w w' H H') (S : StoOk G w H s) {a : Addr} (e : H' a = H a) : ∀ {c : Cell}, CellOk G w H a c → CellOk G w' H' a c
  | .lst ts, ⟨vs, h, r⟩ => ⟨vs, e.trans h, Reps.mono L S ts vs r⟩
  | .ins c fs, ⟨dx, kvs, h, z, k⟩ => ⟨dx, kvs, e.trans h, z, fun i x t h1 h2 => let ⟨v, q1, q2⟩ := k i x t h1 h2; ⟨v, q1, Rep.mono L S t v q2⟩⟩
theorem StoOk.grow {w' : Wo} {H' : Hp} {s : Sto} (S : StoOk G w H s) (L : Le w w' H H') (hn : w'.n = w.n) (hl : ∀ l, l < w.n → H' (w.io l) = H (w.io l)) (hz : ∀ a, w'.Z a → ∃ vs, Rd H' a (.lst vs)) : StoOk G w' H' s where
  len := S.len.trans hn.symm
  inj := fun l m h1 h2 e => by
    rw [hn] at h1 h2
    rw [L.io l h1, L.io m h2] at e
    exact S.inj l m h1 h2 e
  nz := fun l h z => by
    rw [hn] at h
    rw [L.io l h] at z
    rcases L.newZ _ z with q | q
    · exact S.nz l h q
    · rcases S.loc h with ⟨vs, y⟩ | ⟨c, dx, kvs, y⟩ <;> (rw [q] at y; cases y)
  cell := fun l c e => by
    have h : l < w.n := by rw [← S.len]; exact (List.getElem?_eq_some_iff.mp e).1
    rw [L.io l h]
    exact CellOk.mono L S (hl l h) (S.cell l c e)
  zt := hz
theorem Rd.upd {a p : Addr} {u o : HO} (hp : H p = none) (r : Rd H a u) : Rd (upd H p o) a u := by
  rcases r with r | ⟨q, r⟩
  · exact .inl (by rw [upd_ne (zabk r hp)]; exact r)
  · exact .inr ⟨q, by rw [upd_ne (zabk r hp)]; exact r⟩
theorem StoOk.new {s : Sto} {p : Addr} (S : StoOk G w H s) (hp : H p = none) (o : HO) : StoOk G w (L2.upd H p o) s :=
  S.grow (Le.new hp o) rfl (fun l h => upd_ne ((S.fresh hp).2 l h).symm) fun a z => let ⟨vs, r⟩ := S.zt a z; ⟨vs, Rd.upd hp r⟩
theorem StoOk.newZ {s : Sto} {p : Addr} (S : StoOk G w H s) (hp : H p = none) (vs : List V) : StoOk G (w.addZ p) (L2.upd H p (.lst vs)) s :=
  S.grow (Le.newZ_ hp _) rfl (fun l h => upd_ne ((S.fresh hp).2 l h).symm) fun a z => z.elim (fun z => let ⟨vs, r⟩ := S.zt a z; ⟨vs, Rd.upd hp r⟩) fun q => ⟨vs, .inl (by rw [q]; exact zaaq)⟩
theorem zafv {s : Sto} {ts : List T} {vs : List V} (S : StoOk G w H s) (r : Reps G w H ts vs) (h : ∀ w' H' v, Le w w' H H' → StoOk G w' H' s → RepR G w' H' (.val (.tup ts)) v → Q v H') (p : Addr) (hp : H p = none) : Q (.ref p) (L2.upd H p (.tup vs)) :=
  h w _ _ (Le.new hp _) (S.new hp _) ⟨p, vs, rfl, zaaq, Reps.mono (Le.new hp _) S ts vs r⟩
theorem zab0 {s : Sto} {ts : List T} {vs : List V} (S : StoOk G w H s) (r : Reps G w H ts vs) (h : ∀ w' H' v, Le w w' H H' → StoOk G w' H' s → RepR G w' H' (.val (.lst ts)) v → Q v H') (p : Addr) (hp : H p = none) : Q (.ref p) (L2.upd H p (.lst vs)) :=
  h _ _ _ (Le.newZ_ hp _) (S.newZ hp vs) ⟨p, vs, rfl, .inr rfl, .inl zaaq, Reps.mono (Le.newZ_ hp _) S ts vs r⟩
def WantO (G : Gx) (X : Cx) (σV : St) (w : Wo) (H : Hp) (res : Res R) (Q : VK) : Prop := match res with
  | .ok (.val (.lst ts)) s' => ∀ w' H' a vs, Le w w' H H' → StoOk G w' H' s' → H' a = some (.lst vs) → Reps G w' H' ts vs → H a = none → ¬ w'.Z a → notLoc w' a → Q (.ref a) H'
  | .exc c s' => ∀ w' H' pins u sh, Le w w' H H' → StoOk G w' H' s' → Thrown G X pins σV H' c u sh → X.xe u sh
  | _ => False
def tO (G : Gx) (X : Cx) (C : Cf) (e : E) : TE := fun σV H Q => ∃ w₀ H₀ w σ s, Good G w₀ H₀ w H σ s σV ∧ WantO G X σV w H (ev C e .v σ s) Q
theorem fin_own {s : Sto} {ts : List T} {vs : List V} (S : StoOk G w H s) (r : Reps G w H ts vs) (h : ∀ w' H' a vs, Le w w' H H' → StoOk G w' H' s → H' a = some (.lst vs) → Reps G w' H' ts vs → H a = none → ¬ w'.Z a → notLoc w' a → Q (.ref a) H') (p : Addr) (hp : H p = none) : Q (.ref p) (L2.upd H p (.lst vs)) :=
  h w _ p vs (Le.new hp _) (S.new hp _) zaaq (Reps.mono (Le.new hp _) S ts vs r) hp (S.fresh hp).1 (S.fresh hp).2
theorem RepD.seq {s : Sto} {x : R} {v : V} {ts : List T} (r : RepD G w H x v) (e : x.seq = some ts) : ∃ a vs, v = .ref a ∧ Rd H a (.lst vs) ∧ Reps G w H ts vs := by
  match x, e with
  | .val (.lst us), e => obtain ⟨a, vs, e1, _, h, q⟩ := r; cases e; exact ⟨a, vs, e1, h, q⟩
  | .bor us, e => obtain ⟨a, vs, e1, h, q⟩ := r; cases e; exact ⟨a, vs, e1, .inl h, q⟩
theorem RepR.seq {s : Sto} {x : R} {v : V} {ts : List T} (r : RepR G w H x v) (e : x.seq = some ts) : ∃ a vs, v = .ref a ∧ Rd H a (.lst vs) ∧ Reps G w H ts vs := RepD.seq (s := s) r.d e
theorem RepD.sq2 {x : R} {v : V} {ts : List T} (r : RepD G w H x v) (e : x.sq2 = some ts) : ∃ a vs, v = .ref a ∧ (Rd H a (.lst vs) ∨ H a = some (.tup vs)) ∧ Reps G w H ts vs := by
  match x, e with
  | .val (.lst us), e => obtain ⟨a, vs, e1, _, h, q⟩ := r; cases e; exact ⟨a, vs, e1, .inl h, q⟩
  | .val (.tup us), e => obtain ⟨a, vs, e1, h, q⟩ := r; cases e; exact ⟨a, vs, e1, .inr h, q⟩
  | .bor us, e => obtain ⟨a, vs, e1, h, q⟩ := r; cases e; exact ⟨a, vs, e1, .inl (.inl h), q⟩
theorem RepR.sq2 {x : R} {v : V} {ts : List T} (r : RepR G w H x v) (e : x.sq2 = some ts) : ∃ a vs, v = .ref a ∧ (Rd H a (.lst vs) ∨ H a = some (.tup vs)) ∧ Reps G w H ts vs := RepD.sq2 r.d e
theorem RepR.int {x : R} {v : V} {i : Int} (r : RepR G w H x v) (e : x.int? = some i) : v = .int i := by
  match x, e with
  | .val (.int j), e => cases e; exact r
theorem RepD.int {x : R} {v : V} {i : Int} (r : RepD G w H x v) (e : x.int? = some i) : v = .int i := by
  match x, e with
  | .val (.int j), e => cases e; exact r
end
end IP
end
section
set_option Elab.async false
set_option linter.all false
set_option maxRecDepth 100000
namespace IP
open PySem PySem.Spec L2
section
variable {G : Gx} {X : Cx} {C : Cf} {a b c : Expr} {a' b' c' : E} {pos : Pos}
theorem Rd.lst {pins : List (Addr × Obj)} {σ : St} {H : Hp} {s : Shared} {p : Addr} {xs : List V} (I : Inv X pins σ H s) (h : Rd H p (.lst xs)) :
    xs.length ≤ sizeLine ∧ ∃ (its : List Value) (n : Nat), Vals xs its ∧ xs.length = its.length ∧ s.heap.get? p = some { cls := .type "list", data := .seq its.toArray n } := by
  obtain ⟨z, its, n, r, e⟩ := Rd.ok h I.hok
  exact ⟨z, its, n, r, r.length, e⟩
theorem sV_var {i : Nat} {x : Str} (hN : X.N[i]? = some x) (hv : Vis X.env.scope x) (hd : (x == ("__debug__" : Str)) = false) (hcd : (x == ("__classdict__" : Str)) = false) : PE X (.Name x pos) (tV G X C (.var i)) := by
  refine PE.imp (pe_var hN hv hd hcd) ?_
  rintro σV H Q ⟨w₀, H₀, w, σ, s, g, h⟩
  obtain ⟨r, e, q⟩ := Want.of h
  unfold look at e
  split at e
  · rename_i t ht
    cases e
    obtain ⟨v, h1, h2⟩ := g.fr.val i t ht
    exact ⟨v, h1, q w H v (Le.refl _ _) g.sto h2⟩
  · rename_i ts ht
    cases e
    obtain ⟨p, vs, h1, h2, h3, _, _, h6⟩ := g.fr.own i _ ts ht rfl
    exact ⟨_, h1, q w H _ (Le.refl _ _) g.sto ⟨p, vs, rfl, h2, h3, h6⟩⟩
  · rename_i ts ht
    cases e
    obtain ⟨p, vs, h1, h2, h3, _, h6⟩ := g.fr.bor i ts ht
    exact ⟨_, h1, q w H _ (Le.refl _ _) g.sto ⟨p, vs, rfl, h2, h3, h6⟩⟩
  · rename_i ts ht
    cases e
    obtain ⟨p, vs, h1, h2, h3, _, _, h6⟩ := g.fr.own i _ ts ht rfl
    exact ⟨_, h1, q w H _ (Le.refl _ _) g.sto ⟨p, vs, rfl, h2, h3, h6⟩⟩
  · cases e
theorem tC_of {t : T} {v : V} (r : ∀ w H, Rep G w H t v) {σV : St} {H : Hp} {Q : VK} (h : tV G X C (.cst t) σV H Q) : tC v σV H Q := by
  obtain ⟨w₀, H₀, w, σ, s, g, h⟩ := h
  exact h w H v (Le.refl _ _) g.sto (r w H)
theorem sV_int {i j} : PE X (.Constant (.int i) j pos) (tV G X C (.cst (.int i))) := PE.imp pe_int fun _ _ _ h => tC_of (t := .int i) (v := .int i) (fun _ _ => rfl) h
theorem sV_bl {b j} : PE X (.Constant (.bool b) j pos) (tV G X C (.cst (.bl b))) := PE.imp pe_bl fun _ _ _ h => tC_of (t := .bl b) (v := .bl b) (fun _ _ => rfl) h
theorem sV_non {j} : PE X (.Constant .none j pos) (tV G X C (.cst .non)) := PE.imp pe_non fun _ _ _ h => tC_of (t := .non) (v := .non) (fun _ _ => rfl) h
def r2 (G : Gx) (f : R → R → Option R) : R2 := fun x y H Q => ∃ w s rx ry r, StoOk G w H s ∧ RepR G w H rx x ∧ RepR G w H ry y ∧ f rx ry = some r ∧ ∀ w' H' v, Le w w' H H' → StoOk G w' H' s → RepR G w' H' r v → Q v H'
theorem t2_of {f : R → R → Option R} {σV : St} {H : Hp} {Q : VK} (h : ∃ w₀ H₀ w σ s, Good G w₀ H₀ w H σ s σV ∧ Want G X σV w H ((ev C a' .v σ s).bind fun x s1 => (ev C b' .v σ s1).bind fun y s2 => .of (f x y) s2) Q) :
    tOp (r2 G f) (tV G X C a') (tV G X C b') σV H Q := by
  obtain ⟨w₀, H₀, w, σ, s, g, h⟩ := h
  refine ⟨w₀, H₀, w, σ, s, g, (Want.bind h).imp ?_⟩
  rintro x H1 ⟨w1, r1, s1, L1, S1, R1, h1⟩
  refine ⟨w₀, H₀, w1, σ, s1, g.step L1 S1, (Want.bind h1).imp ?_⟩
  rintro y H2 ⟨w2, r2, s2, L2, S2, R2, h2⟩
  obtain ⟨r, e, q⟩ := Want.of h2
  exact ⟨w2, s2, r1, r2, r, S2, R1.mono L2 S1, R2, e, q⟩
theorem s2 {f : R → R → Option R} {op : Operator} (ho : OpR X (binaryOp op) (r2 G f)) (ha : PE X a (tV G X C a')) (hb : PE X b (tV G X C b')) {e : E} (he : ∀ σ s, ev C e .v σ s = (ev C a' .v σ s).bind fun x s1 => (ev C b' .v σ s1).bind fun y s2 => .of (f x y) s2) :
    PE X (.BinOp a op b pos) (tV G X C e) := by
  refine PE.imp (pe_op ho ha hb) fun σV H Q h => ?_
  obtain ⟨w₀, H₀, w, σ, s, g, h⟩ := h
  rw [he] at h
  exact t2_of ⟨w₀, H₀, w, σ, s, g, h⟩
theorem s2c {f : R → R → Option R} {op : CmpOp} (ho : OpR X (compareOp op) (r2 G f)) (ha : PE X a (tV G X C a')) (hb : PE X b (tV G X C b')) (hm : behindInMarks op b = false) {e : E} (he : ∀ σ s, ev C e .v σ s = (ev C a' .v σ s).bind fun x s1 => (ev C b' .v σ s1).bind fun y s2 => .of (f x y) s2) :
    PE X (.Compare a [op] [b] pos) (tV G X C e) := by
  refine PE.imp (pe_cmpR ho ha hb hm) fun σV H Q h => ?_
  obtain ⟨w₀, H₀, w, σ, s, g, h⟩ := h
  rw [he] at h
  exact t2_of ⟨w₀, H₀, w, σ, s, g, h⟩
theorem zacx {j : Int} (h : j.natAbs < big) : j.natAbs.log2 < 1000 := by
  rcases Nat.eq_zero_or_pos j.natAbs with h0 | hp
  · rw [h0]; decide
  · refine (Nat.log2_lt (Nat.ne_of_gt hp)).mpr (Nat.lt_trans h ?_)
    unfold big
    decide +kernel
theorem zafy {k : Int} (h : k.natAbs < big) : Builtin.Int.intBits k ≤ 1000 := by
  unfold Builtin.Int.intBits
  split
  · exact Nat.zero_le _
  · have := zacx h
    omega
theorem mulB_ok {i j : Int} (h : mulB i j = true) : IntMulOk i j := by
  unfold mulB at h
  rw [Bool.or_eq_true, Bool.or_eq_true, Bool.and_eq_true, decide_eq_true_iff, decide_eq_true_iff, decide_eq_true_iff, decide_eq_true_iff] at h
  rcases h with (h | h) | ⟨h1, h2⟩
  · exact IntMulOk.of_left (intBits_le_64 (by omega) (by omega))
  · exact IntMulOk.of_right (intBits_le_64 (by omega) (by omega))
  · exact PyProof.Rows.mulOk_of_bits (zafy h1) (zafy h2) (by decide)
def opOf : Op → Operator
  | .add => .Add | .sub => .Sub | .mul => .Mult | .fdiv => .FloorDiv | .mod => .Mod | .pow => .Pow
theorem int_op (o : Op) (i j k : Int) (h : opI o i j = some k) : ∀ (t u : Tok) (s : Shared) (Q : Value → Shared → Prop) (E : Value → Shared → Prop), Q (.int k s.toks) { s with toks := s.toks + 1 } → wpAny (model X.prog X.w) X.A (binaryOp (opOf o) (.int i t) (.int j u)) Q E s := by
  intro t u s Q E q
  cases o with
  | add => cases h; exact PyProof.Rows.add_int q
  | sub => cases h; exact PyProof.Rows.sub_int q
  | mul =>
    simp only [opI] at h
    split at h
    · rename_i hm; cases h; exact PyProof.Rows.mul_int q (mulB_ok hm)
    · cases h
  | fdiv =>
    simp only [opI] at h
    split at h
    · rename_i hm; cases h; exact PyProof.Rows.floordiv_int hm.1 q (Or.inl (PyProof.noPylong_of_log2 (Nat.lt_trans (zacx hm.2) (by decide))))
    · cases h
  | mod =>
    simp only [opI] at h
    split at h
    · rename_i hm; cases h; exact PyProof.Rows.mod_int hm q
    · cases h
  | pow =>
    simp only [opI] at h
    split at h
    · rename_i hm
      cases h
      refine PyProof.Rows.pow_int hm.1 ?_ q
      have h1 := zafy hm.2.2
      have h2 : ((Builtin.Int.intBits i : Nat) : Int) * j ≤ 1000 * 100 := by
        refine Int.mul_le_mul (by omega) hm.2.1 hm.1 (by omega)
      omega
    · cases h
theorem op_ok (o : Op) : OpR X (binaryOp (opOf o)) (r2 G (opR o)) := by
  intro pins s σ H x y v u Q I rx ry h
  obtain ⟨w, st, x', y', r, S, Rx, Ry, e, q⟩ := h
  have intc : ∀ i j k, x' = .val (.int i) → y' = .val (.int j) → opI o i j = some k → r = .val (.int k) → wpAny (model X.prog X.w) X.A (binaryOp (opOf o) v u) (EP X pins σ Q) X.xe s := by
    rintro i j k rfl rfl ho rfl
    have hx : x = .int i := Rx
    have hy : y = .int j := Ry
    subst hx hy
    obtain ⟨t, rfl⟩ := rx
    obtain ⟨t2, rfl⟩ := ry
    exact int_op o i j k ho t t2 s _ _ ⟨.int k, H, I.tok _, ⟨_, rfl⟩, q w H _ (Le.refl _ _) S rfl⟩
  have lstc : ∀ xs ys, x'.seq = some xs → y'.seq = some ys → o = .add → xs.length + ys.length ≤ lim → r = .val (.lst (xs ++ ys)) → wpAny (model X.prog X.w) X.A (binaryOp (opOf o) v u) (EP X pins σ Q) X.xe s := by
    rintro xs ys e1 e2 rfl hl rfl
    obtain ⟨p, vs, rfl, hp, r1⟩ := RepR.seq (s := st) Rx e1
    obtain ⟨p2, vs2, rfl, hp2, r2⟩ := RepR.seq (s := st) Ry e2
    cases rx
    cases ry
    obtain ⟨z, its, n, q1, l1, g1⟩ := Rd.lst I hp
    obtain ⟨z2, its2, n2, q2, l2, g2⟩ := Rd.lst I hp2
    have hz : its.length + its2.length ≤ sizeLine := by
      rw [← l1, ← l2, ← r1.length, ← r2.length]
      have : lim ≤ sizeLine := by decide
      omega
    refine PySem.P.add_list g1 g2 ?_ (by rw [List.size_toArray, List.size_toArray]; exact hz)
    have ea : its.toArray ++ its2.toArray = (its ++ its2).toArray := by simp
    rw [ea]
    exact ⟨.ref _, _, I.lnew (t' := s.toks) (q1.append q2) (by rw [List.length_append, l1, l2]; exact hz), rfl, zab0 S (r1.append r2) q _ I.fresh⟩
  unfold opR at e
  split at e
  · rename_i i j
    cases ho : opI o i j with
    | none => rw [ho] at e; cases e
    | some k => rw [ho] at e; cases e; exact intc i j k rfl rfl ho rfl
  · rename_i xs ys
    split at e
    · rename_i hc
      cases e
      obtain ⟨p, vs, rfl, hp, r1⟩ := Rx
      obtain ⟨p2, vs2, rfl, hp2, r2⟩ := Ry
      have n1 : vs ≠ [] := by
        intro z; subst z
        exact hc.1 (List.length_eq_zero_iff.mp r1.length)
      have n2 : vs2 ≠ [] := by
        intro z; subst z
        exact hc.2.1 (List.length_eq_zero_iff.mp r2.length)
      refine op_catT pins s σ H _ _ v u Q I rx ry ⟨p, p2, vs, vs2, rfl, rfl, SqT.of hp, SqT.of hp2, n1, ?_, fun z => absurd z n2, fun _ => zafv S (r1.append r2) q⟩
      rw [← r1.length, ← r2.length]
      have : lim ≤ sizeLine := by decide
      omega
    · cases e
  · split at e
    · rename_i xs ys e1 e2
      split at e
      · rename_i hl
        cases e
        exact lstc xs ys e1 e2 rfl hl rfl
      · cases e
    · cases e
  · cases e
theorem sV_bin (o : Op) (ha : PE X a (tV G X C a')) (hb : PE X b (tV G X C b')) : PE X (.BinOp a (opOf o) b pos) (tV G X C (.bin o a' b')) := s2 (op_ok o) ha hb fun _ _ => rfl
end
end IP
end
section
set_option Elab.async false
set_option linter.all false
set_option maxRecDepth 100000
namespace IP
open PySem PySem.Spec L2 PySem.SeqAt
section
variable {G : Gx} {X : Cx} {pins : List (Addr × Obj)} {σ : St} {H : Hp} {s : Shared} {w : Wo} {st : Sto}
theorem zaa3 {a : Addr} {vs : List V} (I : Inv X pins σ H s) (h : H a = some (.tup vs)) : ∃ its : List Value, Vals vs its ∧ s.heap.IsTuple a its.toArray := by
  obtain ⟨its, r, q, _⟩ := I.tuple (SqT.of (K := X.K) h)
  exact ⟨its, r, q⟩
theorem zaa0 {a : Addr} {vs : List V} (I : Inv X pins σ H s) (h : Rd H a (.lst vs)) : ∃ its : List Value, Vals vs its ∧ s.heap.IsList a its.toArray := by
  obtain ⟨_, its, n, r, _, e⟩ := Rd.lst I h
  exact ⟨its, r, _, e, rfl, n, rfl⟩
theorem zac2 {f : T → T → Option Bool} : ∀ (ts us : List T) (vs : List V), (∀ t u v k, Rep G w H t v → Rep G w H u v → f t u = some k → k = true) → Reps G w H ts vs → Reps G w H us vs → ∀ k, eqL f ts us = some k → k = true
  | [], [], _, _, _, _, k, h => by cases h; rfl
  | [], _ :: _, _, _, h1, h2, k, h => by
    obtain ⟨v, r, e, _⟩ := h2
    rw [h1] at e
    cases e
  | _ :: _, [], _, _, h1, h2, k, h => by
    obtain ⟨v, r, e, _⟩ := h1
    rw [h2] at e
    cases e
  | t :: ts, u :: us, _, hf, ⟨v, r, e, h1, h2⟩, ⟨v', r', e', h1', h2'⟩, k, h => by
    subst e
    cases e'
    unfold eqL at h
    split at h
    · rename_i k1 k2 q1 q2
      cases h
      rw [hf t u v k1 h1 h1' q1, zac2 ts us r hf h2 h2' k2 q2]
      rfl
    · cases h
theorem zacl : ∀ (n : Nat) (t u : T) (v : V) (k : Bool), Rep G w H t v → Rep G w H u v → eqD n t u = some k → k = true
  | n, .non, u, v, k, h1, h2, h => by
    cases h1
    cases u <;> simp only [Rep] at h2 <;> first | (cases h2; done) | (simp [eqD] at h; exact h) | (obtain ⟨a, vs, e, _⟩ := h2; cases e) | (obtain ⟨e, e2⟩ := h2; cases e2; done) | (obtain ⟨e, e2, _⟩ := h2; cases e2)
  | n, .bl b, u, v, k, h1, h2, h => by
    cases h1
    cases u <;> simp only [Rep] at h2 <;> first | (cases h2; done) | (cases h2; simp [eqD] at h; exact h) | (obtain ⟨a, vs, e, _⟩ := h2; cases e) | (obtain ⟨e, e2⟩ := h2; cases e2; done) | (obtain ⟨e, e2, _⟩ := h2; cases e2)
  | n, .int i, u, v, k, h1, h2, h => by
    cases h1
    cases u <;> simp only [Rep] at h2 <;> first | (cases h2; done) | (cases h2; simp [eqD] at h; exact h) | (obtain ⟨a, vs, e, _⟩ := h2; cases e) | (obtain ⟨e, e2⟩ := h2; cases e2; done) | (obtain ⟨e, e2, _⟩ := h2; cases e2)
  | n, .str x, u, v, k, h1, h2, h => by
    cases h1
    cases u <;> simp only [Rep] at h2 <;> first | (cases h2; done) | (cases h2; simp [eqD] at h; exact h) | (obtain ⟨a, vs, e, _⟩ := h2; cases e) | (obtain ⟨e, e2⟩ := h2; cases e2; done) | (obtain ⟨e, e2, _⟩ := h2; cases e2)
  | 0, .tup ts, u, v, k, h1, h2, h => by cases u <;> simp [eqD] at h
  | n + 1, .tup ts, u, v, k, h1, h2, h => by
    obtain ⟨a, vs, e, q, r⟩ := h1
    subst e
    cases u with
    | tup us =>
      obtain ⟨a', vs', e', q', r'⟩ := h2
      cases e'
      rw [q] at q'
      cases q'
      simp only [eqD] at h
      exact zac2 ts us vs (fun t u v k => zacl n t u v k) r r' k h
    | non => cases h2
    | _ => simp [eqD] at h
  | 0, .lst ts, u, v, k, h1, h2, h => by cases u <;> simp [eqD] at h
  | n + 1, .lst ts, u, v, k, h1, h2, h => by
    obtain ⟨a, vs, e, z, q, r⟩ := h1
    subst e
    cases u with
    | lst us =>
      obtain ⟨a', vs', e', z', q', r'⟩ := h2
      cases e'
      have ev : vs = vs' := by
        rcases q with q | ⟨o, q⟩ <;> rcases q' with q' | ⟨o', q'⟩ <;> (rw [q] at q'; cases q'; try rfl)
      subst ev
      simp only [eqD] at h
      exact zac2 ts us vs (fun t u v k => zacl n t u v k) r r' k h
    | _ => simp [eqD] at h
  | n, .loc l, u, v, k, h1, h2, h => by cases u <;> simp [eqD] at h
  | n, .exc c, u, v, k, h1, h2, h => by cases u <;> simp [eqD] at h
theorem zacr {f : T → T → Option Bool} : ∀ (ts us : List T) (k : Bool), eqL f ts us = some k → ∃ e : Nat → Bool, (∀ (j : Nat) t u, ts[j]? = some t → us[j]? = some u → f t u = some (e j)) ∧ k = ((List.range (min ts.length us.length)).all e && ts.length == us.length)
  | [], [], k, h => by cases h; exact ⟨fun _ => true, fun j t u z => by simp at z, rfl⟩
  | [], u :: us, k, h => by cases h; exact ⟨fun _ => true, fun j t u z => by simp at z, by simp⟩
  | t :: ts, [], k, h => by cases h; exact ⟨fun _ => true, fun j t u _ z => by simp at z, by simp⟩
  | t :: ts, u :: us, k, h => by
    unfold eqL at h
    split at h
    · rename_i k1 k2 q1 q2
      cases h
      obtain ⟨e, h1, h2⟩ := zacr ts us k2 q2
      refine ⟨fun j => match j with | 0 => k1 | j + 1 => e j, fun j t' u' z1 z2 => ?_, ?_⟩
      · cases j with
        | zero => simp at z1 z2; subst z1 z2; exact q1
        | succ j => simp at z1 z2; exact h1 j t' u' z1 z2
      · rw [h2]
        have em : min (t :: ts).length (u :: us).length = min ts.length us.length + 1 := by simp [Nat.succ_min_succ]
        rw [em, List.range_succ_eq_map, List.all_cons, List.all_map]
        have el : ((t :: ts).length == (u :: us).length) = (ts.length == us.length) := by simp
        rw [el, Bool.and_assoc]
        rfl
    · cases h
theorem zac7 {vs : List V} {its : List Value} (r : Vals vs its) {j : Nat} {u : Value} (e : its[j]? = some u) : ∃ v, vs[j]? = some v ∧ RelV v u := by
  have hj : j < vs.length := by rw [r.length]; exact (List.getElem?_eq_some_iff.mp e).1
  obtain ⟨u', h1, h2⟩ := r.get (List.getElem?_eq_getElem hj)
  rw [e] at h1
  cases h1
  exact ⟨_, List.getElem?_eq_getElem hj, h2⟩
variable {A : Around}
theorem zaa7 {n : Nat} {ts us : List T} {vs vs' : List V} {its its' : List Value} {e : Nat → Bool} (r : Reps G w H ts vs) (r' : Reps G w H us vs') (q : Vals vs its) (q' : Vals vs' its')
    (he : ∀ (j : Nat) t u, ts[j]? = some t → us[j]? = some u → eqD n t u = some (e j))
    (ih : ∀ (t u : T) (v v' : V) (x y : Value) (k : Bool), Rep G w H t v → Rep G w H u v' → RelV v x → RelV v' y → eqD n t u = some k → EqAt A s x y k) :
    ∀ j (h1 : j < its.toArray.size) (h2 : j < its'.toArray.size), EqAt A s its.toArray[j] its'.toArray[j] (e j) := by
  intro j h1 h2
  have h1' : j < its.length := by simpa using h1
  have h2' : j < its'.length := by simpa using h2
  obtain ⟨v, e1, rv⟩ := zac7 q (List.getElem?_eq_getElem h1')
  obtain ⟨v', e2, rv'⟩ := zac7 q' (List.getElem?_eq_getElem h2')
  obtain ⟨t, e3, rt⟩ := r.get' e1
  obtain ⟨u, e4, ru⟩ := r'.get' e2
  have := ih t u v v' its[j] its'[j] (e j) rt ru rv rv' (he j t u e3 e4)
  simpa using this
theorem eqAt_T (I : Inv X pins σ H s) : ∀ (n : Nat) (A : Around), A.units + n < cLine → ∀ (t u : T) (v v' : V) (x y : Value) (k : Bool), Rep G w H t v → Rep G w H u v' → RelV v x → RelV v' y → eqD n t u = some k → EqAt A s x y k := by
  intro n
  induction n with
  | zero =>
    intro A hu t u v v' x y k h1 h2 r1 r2 h
    cases t <;> cases u <;> simp only [eqD] at h <;> first | (cases h; done) | skip
    · cases h; cases h1; cases h2; cases r1; cases r2; exact EqAt.same _
    · cases h; cases h1; cases h2; cases r1; obtain ⟨_, rfl⟩ := r2; exact EqAt.none_int _ _
    · cases h; cases h1; cases h2; cases r1; cases r2; exact EqAt.bool_bool _ _
    · cases h; cases h1; cases h2; obtain ⟨_, rfl⟩ := r1; cases r2; exact EqAt.int_none _ _
    · cases h; cases h1; cases h2; obtain ⟨_, rfl⟩ := r1; obtain ⟨_, rfl⟩ := r2; exact EqAt.int_int _ _ _ _
    · cases h; cases h1; cases h2; obtain ⟨_, rfl⟩ := r1; obtain ⟨_, rfl⟩ := r2; exact EqAt.str_str _ _ _ _
  | succ n ih =>
    intro A hu t u v v' x y k h1 h2 r1 r2 h
    have hu0 : A.units < cLine := by omega
    have hin : A.in1.units + n < cLine := by show A.units + 1 + n < cLine; omega
    cases t <;> cases u <;> simp only [eqD] at h <;> first | (cases h; done) | skip
    · cases h; cases h1; cases h2; cases r1; cases r2; exact EqAt.same _
    · cases h; cases h1; cases h2; cases r1; obtain ⟨_, rfl⟩ := r2; exact EqAt.none_int _ _
    · cases h
      obtain ⟨a, vs, e, q, _⟩ := h2
      subst e
      cases h1; cases r1; cases r2
      obtain ⟨its, _, hi⟩ := zaa3 I q
      exact EqAt.none_tuple hi hu0
    · cases h; cases h1; cases h2; cases r1; cases r2; exact EqAt.bool_bool _ _
    · cases h; cases h1; cases h2; obtain ⟨_, rfl⟩ := r1; cases r2; exact EqAt.int_none _ _
    · cases h; cases h1; cases h2; obtain ⟨_, rfl⟩ := r1; obtain ⟨_, rfl⟩ := r2; exact EqAt.int_int _ _ _ _
    · cases h; cases h1; cases h2; obtain ⟨_, rfl⟩ := r1; obtain ⟨_, rfl⟩ := r2; exact EqAt.str_str _ _ _ _
    · cases h
      obtain ⟨a, vs, e, q, _⟩ := h1
      subst e
      cases h2; cases r1; cases r2
      obtain ⟨its, _, hi⟩ := zaa3 I q
      exact EqAt.tuple_none hi hu0
    · rename_i ts us
      have hs := zacl (G := G) (w := w) (H := H) (n + 1) (.tup ts) (.tup us)
      have h1' := h1
      have h2' := h2
      obtain ⟨a, vs, e, q, r⟩ := h1
      obtain ⟨a', vs', e', q', r'⟩ := h2
      subst e e'
      cases r1; cases r2
      by_cases ea : a = a'
      · subst ea
        have hk : k = true := hs (.ref a) k h1' h2' (by simp only [eqD]; exact h)
        subst hk
        exact EqAt.same _
      · obtain ⟨its, q1, hi⟩ := zaa3 I q
        obtain ⟨its', q1', hi'⟩ := zaa3 I q'
        obtain ⟨e, he, hk⟩ := zacr ts us k h
        have hz := RcAt.tuples hi hi' hu0 (zaa7 r r' q1 q1' he (ih A.in1 hin))
        rw [List.size_toArray, List.size_toArray, ← q1.length, ← q1'.length, ← r.length, ← r'.length, ← hk] at hz
        exact EqAt.of_refs ea hz
    · rename_i ts us
      have hs := zacl (G := G) (w := w) (H := H) (n + 1) (.lst ts) (.lst us)
      have h1' := h1
      have h2' := h2
      obtain ⟨a, vs, e, _, q, r⟩ := h1
      obtain ⟨a', vs', e', _, q', r'⟩ := h2
      subst e e'
      cases r1; cases r2
      by_cases ea : a = a'
      · subst ea
        have hk : k = true := hs (.ref a) k h1' h2' (by simp only [eqD]; exact h)
        subst hk
        exact EqAt.same _
      · obtain ⟨its, q1, hi⟩ := zaa0 I q
        obtain ⟨its', q1', hi'⟩ := zaa0 I q'
        obtain ⟨e, he, hk⟩ := zacr ts us k h
        have l1 : its.toArray.size = ts.length := by rw [List.size_toArray, ← q1.length, ← r.length]
        have l2 : its'.toArray.size = us.length := by rw [List.size_toArray, ← q1'.length, ← r'.length]
        by_cases el : ts.length = us.length
        · have hz := RcAt.lists hi hi' (by rw [l1, l2, el]) hu0 (zaa7 r r' q1 q1' he (ih A.in1 hin))
          rw [l1] at hz
          rw [el, Nat.min_self] at hk
          have : k = (List.range us.length).all e := by rw [hk]; simp
          rw [el, ← this] at hz
          exact EqAt.of_refs ea hz
        · have hz := RcAt.lists_lengths hi hi' (by rw [l1, l2]; simpa using el) hu0
          have : k = false := by rw [hk]; simp [el]
          rw [this]
          exact EqAt.of_refs ea hz
end
end IP
end
section
set_option Elab.async false
set_option linter.all false
set_option maxRecDepth 100000
namespace IP
open PySem PySem.Spec L2 PySem.SeqAt
section
variable {G : Gx} {X : Cx} {pins : List (Addr × Obj)} {σ : St} {H : Hp} {s : Shared} {w : Wo} {st : Sto} {A : Around}
theorem zab6 (I : Inv X pins σ H s) (hu : A.units + 8 < cLine) {a b : Addr} {vs vs' : List V} {ts us : List T} {k : Bool} (q : Rd H a (.lst vs)) (q' : Rd H b (.lst vs')) (r : Reps G w H ts vs) (r' : Reps G w H us vs') (h : eqL (eqD 7) ts us = some k) :
    RcAt A s (.ref a) (.ref b) k ∧ RcNeAt A s (.ref a) (.ref b) (!k) := by
  have hu0 : A.units < cLine := by omega
  have hin : A.in1.units + 7 < cLine := by show A.units + 1 + 7 < cLine; omega
  obtain ⟨its, q1, hi⟩ := zaa0 I q
  obtain ⟨its', q1', hi'⟩ := zaa0 I q'
  obtain ⟨e, he, hk⟩ := zacr ts us k h
  have l1 : its.toArray.size = ts.length := by rw [List.size_toArray, ← q1.length, ← r.length]
  have l2 : its'.toArray.size = us.length := by rw [List.size_toArray, ← q1'.length, ← r'.length]
  have hp := zaa7 (s := s) (A := A.in1) r r' q1 q1' he (eqAt_T I 7 A.in1 hin)
  by_cases el : ts.length = us.length
  · have hz := RcAt.lists hi hi' (by rw [l1, l2, el]) hu0 hp
    have hy := RcNeAt.lists hi hi' (by rw [l1, l2, el]) hu0 hp
    rw [el, Nat.min_self] at hk
    have : k = (List.range us.length).all e := by rw [hk]; simp
    rw [l1, el, ← this] at hz hy
    exact ⟨hz, hy⟩
  · have hz := RcAt.lists_lengths hi hi' (by rw [l1, l2]; simpa using el) hu0
    have hy := RcNeAt.lists_lengths hi hi' (by rw [l1, l2]; simpa using el) hu0
    have : k = false := by rw [hk]; simp [el]
    rw [this]
    exact ⟨hz, hy⟩
theorem rc_tups (I : Inv X pins σ H s) (hu : A.units + 8 < cLine) {a b : Addr} {vs vs' : List V} {ts us : List T} {k : Bool} (q : H a = some (.tup vs)) (q' : H b = some (.tup vs')) (r : Reps G w H ts vs) (r' : Reps G w H us vs') (h : eqL (eqD 7) ts us = some k) :
    RcAt A s (.ref a) (.ref b) k ∧ RcNeAt A s (.ref a) (.ref b) (!k) := by
  have hu0 : A.units < cLine := by omega
  have hin : A.in1.units + 7 < cLine := by show A.units + 1 + 7 < cLine; omega
  obtain ⟨its, q1, hi⟩ := zaa3 I q
  obtain ⟨its', q1', hi'⟩ := zaa3 I q'
  obtain ⟨e, he, hk⟩ := zacr ts us k h
  have hp := zaa7 (s := s) (A := A.in1) r r' q1 q1' he (eqAt_T I 7 A.in1 hin)
  have hz := RcAt.tuples hi hi' hu0 hp
  have hy := RcNeAt.tuples hi hi' hu0 hp
  rw [List.size_toArray, List.size_toArray, ← q1.length, ← q1'.length, ← r.length, ← r'.length, ← hk] at hz hy
  exact ⟨hz, hy⟩
theorem rc_T (I : Inv X pins σ H s) (hu : A.units + 8 < cLine) {t u : T} {v v' : V} {x y : Value} {k : Bool} (h1 : Rep G w H t v) (h2 : Rep G w H u v') (r1 : RelV v x) (r2 : RelV v' y) (h : eqD 8 t u = some k) :
    RcAt A s x y k ∧ RcNeAt A s x y (!k) := by
  have hu0 : A.units < cLine := by omega
  cases t <;> cases u <;> simp only [eqD] at h <;> first | (cases h; done) | skip
  · cases h; cases h1; cases h2; cases r1; cases r2; exact ⟨RcAt.none_none, RcNeAt.none_none⟩
  · cases h; cases h1; cases h2; cases r1; obtain ⟨_, rfl⟩ := r2; exact ⟨RcAt.none_int _ _, RcNeAt.none_int _ _⟩
  · cases h
    obtain ⟨a, vs, e, q, _⟩ := h2
    subst e
    cases h1; cases r1; cases r2
    obtain ⟨its, _, hi⟩ := zaa3 I q
    exact ⟨RcAt.none_tuple hi hu0, RcNeAt.none_tuple hi hu0⟩
  · cases h; cases h1; cases h2; cases r1; cases r2; exact ⟨RcAt.bool_bool _ _, RcNeAt.bool_bool _ _⟩
  · cases h; cases h1; cases h2; obtain ⟨_, rfl⟩ := r1; cases r2; exact ⟨RcAt.int_none _ _, RcNeAt.int_none _ _⟩
  · cases h; cases h1; cases h2; obtain ⟨_, rfl⟩ := r1; obtain ⟨_, rfl⟩ := r2; exact ⟨RcAt.int_int _ _ _ _, RcNeAt.int_int _ _ _ _⟩
  · cases h; cases h1; cases h2; obtain ⟨_, rfl⟩ := r1; obtain ⟨_, rfl⟩ := r2; exact ⟨RcAt.str_str _ _ _ _, RcNeAt.str_str _ _ _ _⟩
  · cases h
    obtain ⟨a, vs, e, q, _⟩ := h1
    subst e
    cases h2; cases r1; cases r2
    obtain ⟨its, _, hi⟩ := zaa3 I q
    exact ⟨RcAt.tuple_none hi hu0, RcNeAt.tuple_none hi hu0⟩
  · obtain ⟨a, vs, e, q, r⟩ := h1
    obtain ⟨a', vs', e', q', r'⟩ := h2
    subst e e'
    cases r1; cases r2
    exact rc_tups I hu q q' r r' h
  · obtain ⟨a, vs, e, _, q, r⟩ := h1
    obtain ⟨a', vs', e', _, q', r'⟩ := h2
    subst e e'
    cases r1; cases r2
    exact zab6 I hu q q' r r' h
theorem rc_R (I : Inv X pins σ H s) (hu : A.units + 8 < cLine) {t u : R} {v v' : V} {x y : Value} {k : Bool} (h1 : RepR G w H t v) (h2 : RepR G w H u v') (r1 : RelV v x) (r2 : RelV v' y) (h : eqR t u = some k) :
    RcAt A s x y k ∧ RcNeAt A s x y (!k) := by
  unfold eqR at h
  split at h
  · exact rc_T I hu h1 h2 r1 r2 h
  · obtain ⟨a, vs, e, _, q, r⟩ := h1
    obtain ⟨a', vs', e', q', r', _⟩ := h2
    subst e e'
    cases r1; cases r2
    exact zab6 I hu q (.inl q') r r' h
  · obtain ⟨a, vs, e, q, r, _⟩ := h1
    obtain ⟨a', vs', e', _, q', r'⟩ := h2
    subst e e'
    cases r1; cases r2
    exact zab6 I hu (.inl q) q' r r' h
  · obtain ⟨a, vs, e, q, r, _⟩ := h1
    obtain ⟨a', vs', e', q', r', _⟩ := h2
    subst e e'
    cases r1; cases r2
    exact zab6 I hu (.inl q) (.inl q') r r' h
  · cases h
end
section
variable {G : Gx} {X : Cx} {C : Cf} {a b c : Expr} {a' b' c' : E} {pos : Pos}
def cmOf : Cm → CmpOp
  | .lt => .Lt | .le => .LtE | .gt => .Gt | .ge => .GtE | .eq => .Eq | .ne => .NotEq | .isN => .Is | .notN => .IsNot | .mem => .In | .nmem => .NotIn
def cmpV (c : Cm) (x y : R) : Option R := (cmpR c x y).map fun k => .val (.bl k)
theorem zabd {pins : List (Addr × Obj)} {σ : St} {H : Hp} {s : Shared} {w : Wo} {st : Sto} {Q : VK} {k : Bool} (I : Inv X pins σ H s) (S : StoOk G w H st) (q : ∀ w' H' v, Le w w' H H' → StoOk G w' H' st → RepR G w' H' (.val (.bl k)) v → Q v H') : EP X pins σ Q (.bool k) s :=
  ⟨.bl k, H, I, rfl, q w H _ (Le.refl _ _) S rfl⟩
theorem zad9 {op : CmpOp} {f : Int → Int → Bool} {c : Cm} (hc : ∀ x y r, cmpV c x y = some r → ∃ i j, x = .val (.int i) ∧ y = .val (.int j) ∧ r = .val (.bl (f i j)))
    (ho : OpR X (compareOp op) (rI0 fun i j => .bl (f i j))) : OpR X (compareOp op) (r2 G (cmpV c)) := by
  intro pins s σ H x y v u Q I rx ry h
  obtain ⟨w, st, x', y', r, S, Rx, Ry, e, q⟩ := h
  obtain ⟨i, j, rfl, rfl, rfl⟩ := hc x' y' r e
  have hx : x = .int i := Rx
  have hy : y = .int j := Ry
  exact ho pins s σ H x y v u Q I rx ry ⟨i, j, hx, hy, q w H _ (Le.refl _ _) S rfl⟩
theorem int2 {x y : R} {g : Int → Int → Bool} {r : R} (h : (do let i ← x.int?; let j ← y.int?; some (g i j)).map (fun k => R.val (.bl k)) = some r) : ∃ i j, x = .val (.int i) ∧ y = .val (.int j) ∧ r = .val (.bl (g i j)) := by
  match x, y with
  | .val (.int i), .val (.int j) => cases h; exact ⟨i, j, rfl, rfl, rfl⟩
  | .val (.int i), .val .non => cases h
  | .val (.int i), .val (.bl _) => cases h
  | .val (.int i), .val (.str _) => cases h
  | .val (.int i), .val (.tup _) => cases h
  | .val (.int i), .val (.lst _) => cases h
  | .val (.int i), .val (.loc _) => cases h
  | .val (.int i), .val (.exc _) => cases h
  | .val (.int i), .bor _ => cases h
  | .val .non, _ => cases h
  | .val (.bl _), _ => cases h
  | .val (.str _), _ => cases h
  | .val (.tup _), _ => cases h
  | .val (.lst _), _ => cases h
  | .val (.loc _), _ => cases h
  | .val (.exc _), _ => cases h
  | .bor _, _ => cases h
theorem zacn {w : Wo} {H : Hp} {x : R} {v : V} (r : RepR G w H x v) : decide (v = .non) = x.isNon := by
  match x, r with
  | .val .non, r => cases r; rfl
  | .val (.bl _), r => cases r; rfl
  | .val (.int _), r => cases r; rfl
  | .val (.str _), r => cases r; rfl
  | .val (.tup _), r => obtain ⟨_, _, e, _⟩ := r; subst e; rfl
  | .val (.lst _), r => obtain ⟨_, _, e, _⟩ := r; subst e; rfl
  | .val (.loc _), r => obtain ⟨_, e⟩ := r; subst e; rfl
  | .val (.exc _), r => obtain ⟨_, e, _⟩ := r; subst e; rfl
  | .bor _, r => obtain ⟨_, _, e, _⟩ := r; subst e; rfl
theorem zach {w : Wo} {H : Hp} {f : T → T → Option Bool} (hf : ∀ t t' u v k k', Rep G w H t v → Rep G w H t' v → f t u = some k → f t' u = some k' → k = k') :
    ∀ (ts ts' us : List T) (vs : List V) (k k' : Bool), Reps G w H ts vs → Reps G w H ts' vs → eqL f ts us = some k → eqL f ts' us = some k' → k = k'
  | [], [], us, vs, k, k', _, _, h, h' => by rw [h] at h'; cases h'; rfl
  | [], _ :: _, us, vs, k, k', r, r', h, h' => by obtain ⟨v, q, e, _⟩ := r'; rw [r] at e; cases e
  | _ :: _, [], us, vs, k, k', r, r', h, h' => by obtain ⟨v, q, e, _⟩ := r; rw [r'] at e; cases e
  | t :: ts, t' :: ts', [], vs, k, k', r, r', h, h' => by cases h; cases h'; rfl
  | t :: ts, t' :: ts', u :: us, vs, k, k', ⟨v, q, e, h1, h2⟩, ⟨v', q', e', h1', h2'⟩, h, h' => by
    subst e
    cases e'
    unfold eqL at h h'
    split at h
    · rename_i k1 k2 z1 z2
      split at h'
      · rename_i k3 k4 z3 z4
        cases h
        cases h'
        rw [hf t t' u v k1 k3 h1 h1' z1 z3, zach hf ts ts' us q k2 k4 h2 h2' z2 z4]
      · cases h'
    · cases h
theorem zad2 {w : Wo} {H : Hp} : ∀ (n : Nat) (t t' u : T) (v : V) (k k' : Bool), Rep G w H t v → Rep G w H t' v → eqD n t u = some k → eqD n t' u = some k' → k = k' := by
  intro n
  induction n with
  | zero =>
    intro t t' u v k k' h1 h2 e1 e2
    cases t <;> cases t' <;> first
      | (cases h1; cases h2; rw [e1] at e2; cases e2; rfl)
      | (cases u <;> simp [eqD] at e1; done)
      | (cases u <;> simp [eqD] at e2; done)
      | (cases h1; cases h2; done)
  | succ n ih =>
    intro t t' u v k k' h1 h2 e1 e2
    cases t <;> cases t' <;> first
      | (cases h1; cases h2; rw [e1] at e2; cases e2; rfl)
      | (cases h1; cases h2; done)
      | (cases u <;> simp [eqD] at e1; done)
      | (cases u <;> simp [eqD] at e2; done)
      | (cases h1; obtain ⟨_, _, z, _⟩ := h2; cases z; done)
      | (cases h2; obtain ⟨_, _, z, _⟩ := h1; cases z; done)
      | skip
    · rename_i ts ts'
      obtain ⟨a, vs, e, q, r⟩ := h1
      obtain ⟨a', vs', e', q', r'⟩ := h2
      subst e
      cases e'
      rw [q] at q'
      cases q'
      cases u <;> simp only [eqD] at e1 e2 <;> first | (cases e1; done) | (cases e1; cases e2; rfl) | exact zach (ih ·  ·  ·  ·  ·  ·) ts ts' _ vs k k' r r' e1 e2
    · obtain ⟨a, vs, e, q, r⟩ := h1
      obtain ⟨a', vs', e', _, q', r'⟩ := h2
      subst e
      cases e'
      rcases q' with q' | ⟨_, q'⟩ <;> (rw [q] at q'; cases q')
    · obtain ⟨a, vs, e, _, q, r⟩ := h1
      obtain ⟨a', vs', e', q', r'⟩ := h2
      subst e
      cases e'
      rcases q with q | ⟨_, q⟩ <;> (rw [q] at q'; cases q')
    · rename_i ts ts'
      obtain ⟨a, vs, e, _, q, r⟩ := h1
      obtain ⟨a', vs', e', _, q', r'⟩ := h2
      subst e
      cases e'
      have ev : vs = vs' := by
        rcases q with q | ⟨o, q⟩ <;> rcases q' with q' | ⟨o', q'⟩ <;> (rw [q] at q'; cases q'; try rfl)
      subst ev
      cases u <;> simp only [eqD] at e1 e2 <;> first | (cases e1; done) | (cases e1; cases e2; rfl) | exact zach (ih ·  ·  ·  ·  ·  ·) ts ts' _ vs k k' r r' e1 e2
theorem zaex {x : T} : ∀ (ts : List T) (k : Bool), memT x ts = some k → (∀ t ∈ ts, ∃ j, eqD 8 t x = some j) ∧ (k = true ↔ ∃ t ∈ ts, eqD 8 t x = some true)
  | [], k, h => by cases h; exact ⟨fun t z => by simp at z, by simp⟩
  | t :: ts, k, h => by
    unfold memT at h
    split at h
    · rename_i k1 k2 z1 z2
      cases h
      obtain ⟨h1, h2⟩ := zaex ts k2 z2
      refine ⟨fun u hu => ?_, ?_⟩
      · rcases List.mem_cons.mp hu with rfl | hu
        · exact ⟨k1, z1⟩
        · exact h1 u hu
      · constructor
        · intro q
          rcases (Bool.or_eq_true _ _).mp q with q | q
          · subst q; exact ⟨t, List.mem_cons_self .., z1⟩
          · obtain ⟨u, hu, e⟩ := h2.mp q
            exact ⟨u, List.mem_cons_of_mem _ hu, e⟩
        · rintro ⟨u, hu, e⟩
          rcases List.mem_cons.mp hu with rfl | hu
          · have : some k1 = some true := z1.symm.trans e
            cases this
            rfl
          · rw [h2.mpr ⟨u, hu, e⟩, Bool.or_true]
    · cases h
theorem zafc {vs : List V} {its : List Value} (r : Vals vs its) {u : Value} (h : u ∈ its) : ∃ v ∈ vs, RelV v u := by
  obtain ⟨j, hj, e⟩ := List.mem_iff_getElem.mp h
  obtain ⟨v, h1, h2⟩ := zac7 r (List.getElem?_eq_some_iff.mpr ⟨hj, e⟩)
  exact ⟨v, List.mem_of_getElem? h1, h2⟩
theorem zaf2 {w : Wo} {H : Hp} {ts : List T} {vs : List V} (r : Reps G w H ts vs) {v : V} (h : v ∈ vs) : ∃ t ∈ ts, Rep G w H t v := by
  obtain ⟨j, hj, e⟩ := List.mem_iff_getElem.mp h
  obtain ⟨t, h1, h2⟩ := r.get' (List.getElem?_eq_some_iff.mpr ⟨hj, e⟩)
  exact ⟨t, List.mem_of_getElem? h1, h2⟩
theorem mem_reps {w : Wo} {H : Hp} {ts : List T} {vs : List V} (r : Reps G w H ts vs) {t : T} (h : t ∈ ts) : ∃ v ∈ vs, Rep G w H t v := by
  obtain ⟨j, hj, e⟩ := List.mem_iff_getElem.mp h
  obtain ⟨t, h1, h2⟩ := r.get (List.getElem?_eq_some_iff.mpr ⟨hj, e⟩)
  exact ⟨t, List.mem_of_getElem? h1, h2⟩
theorem mem_vals {vs : List V} {its : List Value} (r : Vals vs its) {v : V} (h : v ∈ vs) : ∃ u ∈ its, RelV v u := by
  obtain ⟨j, hj, e⟩ := List.mem_iff_getElem.mp h
  obtain ⟨u, h1, h2⟩ := r.get (List.getElem?_eq_some_iff.mpr ⟨hj, e⟩)
  exact ⟨u, List.mem_of_getElem? h1, h2⟩
open Classical in
theorem zad1 {pins : List (Addr × Obj)} {σ : St} {H : Hp} {s : Shared} {w : Wo} {A : Around} (I : Inv X pins σ H s) (hu : A.units + 8 < cLine) {tx : T} {vx : V} {x : Value} {ts : List T} {vs : List V} {its : List Value} {k : Bool}
    (Rx : Rep G w H tx vx) (rx : RelV vx x) (r : Reps G w H ts vs) (q : Vals vs its) (h : memT tx ts = some k) : ∃ e : Value → Bool, (∀ y, y ∈ its.toArray → EqAt A s y x (e y)) ∧ its.toArray.any e = k := by
  obtain ⟨h1, h2⟩ := zaex ts k h
  refine ⟨fun u => decide (∃ v t, RelV v u ∧ Rep G w H t v ∧ eqD 8 t tx = some true), fun y hy => ?_, ?_⟩
  · have hy' : y ∈ its := by simpa using hy
    obtain ⟨v, hv, rv⟩ := zafc q hy'
    obtain ⟨t, ht, rt⟩ := zaf2 r hv
    obtain ⟨j, hj⟩ := h1 t ht
    have z := eqAt_T I 8 A hu t tx v vx y x j rt Rx rv rx hj
    have ej : decide (∃ v t, RelV v y ∧ Rep G w H t v ∧ eqD 8 t tx = some true) = j := by
      cases j with
      | true => exact decide_eq_true ⟨v, t, rv, rt, hj⟩
      | false =>
        refine decide_eq_false ?_
        rintro ⟨v', t', rv', rt', e'⟩
        cases rv.inj rv'
        exact Bool.noConfusion (zad2 8 t t' tx v false true rt rt' hj e')
    dsimp only
    rw [ej]
    exact z
  · rw [Bool.eq_iff_iff, h2, List.any_toArray, List.any_eq_true]
    constructor
    · rintro ⟨u, hu', e⟩
      obtain ⟨v, t, rv, rt, e⟩ := of_decide_eq_true e
      obtain ⟨v', hv', rv'⟩ := zafc q hu'
      cases rv.inj rv'
      obtain ⟨t', ht', rt'⟩ := zaf2 r hv'
      obtain ⟨j, hj⟩ := h1 t' ht'
      have := zad2 8 t t' tx v true j rt rt' e hj
      subst this
      exact ⟨t', ht', hj⟩
    · rintro ⟨t, ht, e⟩
      obtain ⟨v, hv, rt⟩ := mem_reps r ht
      obtain ⟨u, hu', rv⟩ := mem_vals q hv
      exact ⟨u, hu', decide_eq_true ⟨v, t, rv, rt, e⟩⟩
theorem cmp_ok (hu : X.A.units + 9 < cLine) (c : Cm) : OpR X (compareOp (cmOf c)) (r2 G (cmpV c)) := by
  cases c with
  | lt => exact zad9 (fun x y r h => int2 h) op_lt
  | le => exact zad9 (fun x y r h => int2 h) op_le
  | gt => exact zad9 (fun x y r h => int2 h) op_gt
  | ge => exact zad9 (fun x y r h => int2 h) op_ge
  | eq =>
    intro pins s σ H x y v u Q I rx ry h
    obtain ⟨w, st, x', y', r, S, Rx, Ry, e, q⟩ := h
    unfold cmpV cmpR at e
    cases he : eqR x' y' with
    | none => simp [he] at e
    | some k =>
      simp only [he, Option.map_some, Option.some.injEq] at e
      subst e
      exact (rc_R I (by omega) Rx Ry rx ry he).1 _ _ _ _ (zabd I S q)
  | ne =>
    intro pins s σ H x y v u Q I rx ry h
    obtain ⟨w, st, x', y', r, S, Rx, Ry, e, q⟩ := h
    unfold cmpV cmpR at e
    cases he : eqR x' y' with
    | none => simp [he] at e
    | some k =>
      simp only [he, Option.map_some, Option.some.injEq] at e
      subst e
      exact (rc_R I (by omega) Rx Ry rx ry he).2 _ _ _ _ (zabd I S q)
  | isN =>
    intro pins s σ H x y v u Q I rx ry h
    obtain ⟨w, st, x', y', r, S, Rx, Ry, e, q⟩ := h
    unfold cmpV cmpR at e
    dsimp only at e
    split at e
    · have hy : y = .non := Ry
      refine op_isN pins s σ H x y v u Q I rx ry ⟨hy, ?_⟩
      rw [zacn Rx]
      cases e
      exact q w H _ (Le.refl _ _) S rfl
    · cases e
  | notN =>
    intro pins s σ H x y v u Q I rx ry h
    obtain ⟨w, st, x', y', r, S, Rx, Ry, e, q⟩ := h
    unfold cmpV cmpR at e
    dsimp only at e
    split at e
    · have hy : y = .non := Ry
      refine op_notN pins s σ H x y v u Q I rx ry ⟨hy, ?_⟩
      rw [zacn Rx]
      cases e
      exact q w H _ (Le.refl _ _) S rfl
    · cases e
  | mem =>
    intro pins s σ H x y v u Q I rx ry h
    obtain ⟨w, st, x', y', r, S, Rx, Ry, e, q⟩ := h
    unfold cmpV cmpR at e
    dsimp only at e
    cases hx : x'.val? with
    | none => simp [hx] at e
    | some tx =>
      cases hy : y'.sq2 with
      | none => simp [hx, hy] at e
      | some ts =>
        cases hm : memT tx ts with
        | none => simp [hx, hy, hm] at e
        | some k =>
          simp [hx, hy, hm] at e
          subst e
          have Rx' : Rep G w H tx x := by
            cases x' with
            | val t => cases hx; exact Rx
            | bor t => cases hx
          obtain ⟨p, vs, rfl, hp, rp⟩ := RepR.sq2 Ry hy
          cases ry
          rcases hp with hp | hp
          · obtain ⟨its, r1, hi⟩ := zaa0 I hp
            obtain ⟨e, h1, h2⟩ := zad1 (A := X.A.in1) I (by show X.A.units + 1 + 8 < cLine; omega) Rx' rx rp r1 hm
            exact in_listAt e hi h1 (by rw [h2]; exact zabd I S q)
          · obtain ⟨its, r1, hi⟩ := zaa3 I hp
            obtain ⟨e, h1, h2⟩ := zad1 (A := X.A.in1) I (by show X.A.units + 1 + 8 < cLine; omega) Rx' rx rp r1 hm
            exact in_tupleAt e hi h1 (by rw [h2]; exact zabd I S q)
  | nmem =>
    intro pins s σ H x y v u Q I rx ry h
    obtain ⟨w, st, x', y', r, S, Rx, Ry, e, q⟩ := h
    unfold cmpV cmpR at e
    dsimp only at e
    cases hx : x'.val? with
    | none => simp [hx] at e
    | some tx =>
      cases hy : y'.sq2 with
      | none => simp [hx, hy] at e
      | some ts =>
        cases hm : memT tx ts with
        | none => simp [hx, hy, hm] at e
        | some k =>
          simp [hx, hy, hm] at e
          subst e
          have Rx' : Rep G w H tx x := by
            cases x' with
            | val t => cases hx; exact Rx
            | bor t => cases hx
          obtain ⟨p, vs, rfl, hp, rp⟩ := RepR.sq2 Ry hy
          cases ry
          rcases hp with hp | hp
          · obtain ⟨its, r1, hi⟩ := zaa0 I hp
            obtain ⟨e, h1, h2⟩ := zad1 (A := X.A.in1) I (by show X.A.units + 1 + 8 < cLine; omega) Rx' rx rp r1 hm
            exact notIn_listAt e hi h1 (by rw [h2]; exact zabd I S q)
          · obtain ⟨its, r1, hi⟩ := zaa3 I hp
            obtain ⟨e, h1, h2⟩ := zad1 (A := X.A.in1) I (by show X.A.units + 1 + 8 < cLine; omega) Rx' rx rp r1 hm
            exact notIn_tupleAt e hi h1 (by rw [h2]; exact zabd I S q)
theorem sV_cmp (hu : X.A.units + 9 < cLine) (c : Cm) (ha : PE X a (tV G X C a')) (hb : PE X b (tV G X C b')) (hm : behindInMarks (cmOf c) b = false) : PE X (.Compare a [cmOf c] [b] pos) (tV G X C (.cmp c a' b')) :=
  s2c (cmp_ok hu c) ha hb hm fun _ _ => rfl
end
end IP
end
section
set_option Elab.async false
set_option linter.all false
set_option maxRecDepth 100000
namespace IP
open PySem PySem.Spec L2 PySem.SeqAt
section
variable {G : Gx} {X : Cx} {C : Cf} {a b c : Expr} {a' b' c' e' : E} {pos : Pos} {rest : List Expr}
theorem tru_V {w : Wo} {H : Hp} {x : R} {v : V} {k : Bool} (r : RepD G w H x v) (h : tru x = some k) : TruV X.K v H k := by
  match x, h with
  | .val .non, h => cases r; cases h; exact rfl
  | .val (.bl b), h => cases r; cases h; exact rfl
  | .val (.int i), h => cases r; cases h; exact rfl
  | .val (.lst ts), h =>
    cases h
    obtain ⟨a, vs, e, _, q, r⟩ := r
    subst e
    refine .inl ⟨vs, .inl q, ?_⟩
    cases ts with
    | nil => cases r; rfl
    | cons t ts => obtain ⟨_, _, e, _⟩ := r; subst e; rfl
  | .val (.tup ts), h =>
    cases h
    obtain ⟨a, vs, e, q, r⟩ := r
    subst e
    refine .inr (.inl ⟨vs, .inl (.inl q), ?_⟩)
    cases ts with
    | nil => cases r; rfl
    | cons t ts => obtain ⟨_, _, e, _⟩ := r; subst e; rfl
  | .bor ts, h =>
    cases h
    obtain ⟨a, vs, e, q, r⟩ := r
    subst e
    refine .inl ⟨vs, .inl (.inl q), ?_⟩
    cases ts with
    | nil => cases r; rfl
    | cons t ts => obtain ⟨_, _, e, _⟩ := r; subst e; rfl
def truK (x : R) : Option R := (tru x).map fun k => .val (.bl k)
theorem sT_plain {e : Expr} (hE : PE X e (tV G X C e')) (he : ∀ whole, isTrue e X.env whole = (do let v ← whole; standAt e.pos; holding [v] (truthy v)))
    (hev : ∀ σ s, ev C e' .t σ s = (ev C e' .v σ s).bind fun x s => .of (truK x) s) : PT X e (tT G X C e') := by
  refine PT.imp (pt_truth hE he) ?_
  rintro σV H Q ⟨w₀, H₀, w, σ, s, g, h⟩
  rw [hev] at h
  refine ⟨w₀, H₀, w, σ, s, g, (Want.bind h).imp ?_⟩
  rintro v H1 ⟨w1, r, s1, L1, S1, R1, h1⟩
  obtain ⟨r', e, q⟩ := Want.of h1
  unfold truK at e
  cases ht : tru r with
  | none => rw [ht] at e; cases e
  | some k =>
    rw [ht] at e
    cases e
    obtain ⟨k', e, q'⟩ := q w1 H1 (.bl k) (Le.refl _ _) S1 rfl
    cases e
    exact ⟨k, tru_V R1.d ht, q'⟩
theorem cmp_t (c : Cm) (σ : Fr) (s : Sto) : ev C (.cmp c a' b') .t σ s = ev C (.cmp c a' b') .v σ s := by
  show Res.bind (Res.bind (ev C a' .v σ s) _) _ = Res.bind (ev C a' .v σ s) _
  cases ev C a' .v σ s with
  | stuck => rfl
  | exc c s => rfl
  | ok x s1 =>
    show Res.bind (Res.bind (ev C b' .v σ s1) _) _ = Res.bind (ev C b' .v σ s1) _
    cases ev C b' .v σ s1 with
    | stuck => rfl
    | exc c s => rfl
    | ok y s2 =>
      show Res.bind (Res.of ((cmpR c x y).map _) s2) _ = Res.of ((cmpR c x y).map _) s2
      cases cmpR c x y <;> rfl
theorem sT_cmp (hu : X.A.units + 9 < cLine) (c : Cm) (ha : PE X a (tV G X C a')) (hb : PE X b (tV G X C b')) (hm : behindInMarks (cmOf c) b = false) : PT X (.Compare a [cmOf c] [b] pos) (tT G X C (.cmp c a' b')) := by
  refine PT.imp (pt_cmpR (cmp_ok (G := G) hu c) ha hb hm) ?_
  rintro σV H Q ⟨w₀, H₀, w, σ, s, g, h⟩
  rw [cmp_t] at h
  exact t2_of (f := cmpV c) ⟨w₀, H₀, w, σ, s, g, h⟩
def r1 (G : Gx) (f : R → Option R) : V → Hp → VK → Prop := fun x H Q => ∃ w s rx r, StoOk G w H s ∧ RepD G w H rx x ∧ f rx = some r ∧ ∀ w' H' v, Le w w' H H' → StoOk G w' H' s → RepR G w' H' r v → Q v H'
theorem t1_of {f : R → Option R} {σV : St} {H : Hp} {Q : VK} (h : ∃ w₀ H₀ w σ s, Good G w₀ H₀ w H σ s σV ∧ Want G X σV w H ((ev C a' .v σ s).bind fun x s1 => .of (f x) s1) Q) :
    tV G X C a' σV H fun x H1 => r1 G f x H1 Q := by
  obtain ⟨w₀, H₀, w, σ, s, g, h⟩ := h
  refine ⟨w₀, H₀, w, σ, s, g, (Want.bind h).imp ?_⟩
  rintro x H1 ⟨w1, r1, s1, L1, S1, R1, h1⟩
  obtain ⟨r, e, q⟩ := Want.of h1
  exact ⟨w1, s1, r1, r, S1, R1.d, e, q⟩
theorem t1_dr {f : R → Option R} {σV : St} {H : Hp} {Q : VK} (h : ∃ w₀ H₀ w σ s, Good G w₀ H₀ w H σ s σV ∧ Want G X σV w H ((ev C a' .v σ s).bind fun x s1 => .of (f (x.dr s1)) s1) Q) :
    tV G X C a' σV H fun x H1 => r1 G f x H1 Q := by
  obtain ⟨w₀, H₀, w, σ, s, g, h⟩ := h
  refine ⟨w₀, H₀, w, σ, s, g, (Want.bind h).imp ?_⟩
  rintro x H1 ⟨w1, r1, s1, L1, S1, R1, h1⟩
  obtain ⟨r, e, q⟩ := Want.of h1
  exact ⟨w1, s1, _, r, S1, R1.dr S1, e, q⟩
theorem sV_neg (ha : PE X a (tV G X C a')) : PE X (.UnaryOp .USub a pos) (tV G X C (.neg a')) := by
  refine PE.imp (pe_un un_neg ha) ?_
  rintro σV H Q h
  have h := t1_of (f := fun x => x.int?.map fun i => R.val (.int (-i))) h
  refine (show tV G X C a' σV H _ from ?_)
  obtain ⟨w₀, H₀, w, σ, s, g, h⟩ := h
  refine ⟨w₀, H₀, w, σ, s, g, h.imp ?_⟩
  rintro x H1 ⟨w1, s1, rx, r, S1, R1, e, q⟩
  match rx, e with
  | .val (.int i), e => cases e; cases R1; exact ⟨i, rfl, q w1 H1 _ (Le.refl _ _) S1 rfl⟩
theorem sV_not (ha : PE X a (tV G X C a')) : PE X (.UnaryOp .Not a pos) (tV G X C (.not a')) := by
  intro pins s σ H Q I h
  have h := t1_of (f := fun x => (tru x).map fun k => R.val (.bl (!k))) h
  refine PyProof.Rows.UnaryOp_ (thn (ha pins s σ H _ I h) fun v s1 ⟨x, H1, I1, r1, q1⟩ => ?_)
  obtain ⟨w1, st, rx, r, S1, R1, e, q⟩ := q1
  dsimp only at e
  cases ht : tru rx with
  | none => rw [ht] at e; cases e
  | some k =>
    rw [ht] at e
    cases e
    exact PyProof.Rows.not_of (thn (tru_ok pins s1 σ H1 x v (fun c H2 => Q (.bl (!c)) H2) I1 r1 ⟨k, tru_V R1 ht, q w1 H1 _ (Le.refl _ _) S1 rfl⟩) fun c s2 ⟨H2, I2, z⟩ => ⟨.bl (!c), H2, I2, rfl, z⟩)
theorem onB_t {w : Wo} {H : Hp} {σV : St} {x : R} {v : V} {m n : Res R} {Q : VK} (r : RepR G w H x v) (h : Want G X σV w H (onB x m n) Q) : ∃ k, v = .bl k ∧ x = .val (.bl k) ∧ Want G X σV w H (if k = true then m else n) Q := by
  match x, h with
  | .val (.bl true), h => exact ⟨true, r, rfl, h⟩
  | .val (.bl false), h => exact ⟨false, r, rfl, h⟩
  | .val .non, h => exact h.elim
  | .val (.int _), h => exact h.elim
  | .val (.str _), h => exact h.elim
  | .val (.tup _), h => exact h.elim
  | .val (.lst _), h => exact h.elim
  | .val (.loc _), h => exact h.elim
  | .val (.exc _), h => exact h.elim
  | .bor _, h => exact h.elim
theorem sT_not (ha : PT X a (tT G X C a')) : PT X (.UnaryOp .Not a pos) (tT G X C (.not a')) := by
  refine PT.imp (pt_not ha) ?_
  rintro σV H Q ⟨w₀, H₀, w, σ, s, g, h⟩
  refine ⟨w₀, H₀, w, σ, s, g, (Want.bind h).imp ?_⟩
  rintro v H1 ⟨w1, r, s1, L1, S1, R1, h1⟩
  obtain ⟨k, rfl, rfl, h1⟩ := onB_t R1 h1
  refine ⟨k, rfl, ?_⟩
  cases k with
  | true => obtain ⟨_, e, q⟩ := h1 w1 H1 (.bl false) (Le.refl _ _) S1 rfl; cases e; exact q
  | false => obtain ⟨_, e, q⟩ := h1 w1 H1 (.bl true) (Le.refl _ _) S1 rfl; cases e; exact q
theorem tT_and {σV : St} {H : Hp} {Q : Bool → Hp → Prop} (h : tT G X C (.and a' b') σV H Q) : tAnd (tT G X C a') (tT G X C b') σV H Q := by
  obtain ⟨w₀, H₀, w, σ, s, g, h⟩ := h
  refine ⟨w₀, H₀, w, σ, s, g, (Want.bind h).imp ?_⟩
  rintro v H1 ⟨w1, r, s1, L1, S1, R1, h1⟩
  obtain ⟨k, rfl, rfl, h1⟩ := onB_t R1 h1
  refine ⟨k, rfl, ?_⟩
  cases k with
  | true => exact iteT ⟨w₀, H₀, w1, σ, s1, g.step L1 S1, h1⟩
  | false => obtain ⟨_, e, q⟩ := h1 w1 H1 (.bl false) (Le.refl _ _) S1 rfl; cases e; exact iteF q
theorem tT_or {σV : St} {H : Hp} {Q : Bool → Hp → Prop} (h : tT G X C (.or a' b') σV H Q) : tOr (tT G X C a') (tT G X C b') σV H Q := by
  obtain ⟨w₀, H₀, w, σ, s, g, h⟩ := h
  refine ⟨w₀, H₀, w, σ, s, g, (Want.bind h).imp ?_⟩
  rintro v H1 ⟨w1, r, s1, L1, S1, R1, h1⟩
  obtain ⟨k, rfl, rfl, h1⟩ := onB_t R1 h1
  refine ⟨k, rfl, ?_⟩
  cases k with
  | true => obtain ⟨_, e, q⟩ := h1 w1 H1 (.bl true) (Le.refl _ _) S1 rfl; cases e; exact iteT q
  | false => exact iteF ⟨w₀, H₀, w1, σ, s1, g.step L1 S1, h1⟩
theorem PW.imp {e : Expr} {t t' : TT} (h : PW X e t) (q : ∀ σ H Q, t' σ H Q → t σ H Q) : PW X e t' := fun wh pins s σ H Q I z => h wh pins s σ H Q I (q _ _ _ z)
def PTb (X : Cx) (op : BoolOp) (es : List Expr) (pos : Pos) (t : TT) : Prop := PW X (.BoolOp op es pos) t
theorem zaeg (h : PT X a (tT G X C a')) : PTb X .And [a] pos (tT G X C a') := pw_and1 h
theorem zaay (h : PT X a (tT G X C a')) : PTb X .Or [a] pos (tT G X C a') := pw_or1 h
theorem ptb_and (ha : PT X a (tT G X C a')) (hb : PTb X .And (b :: rest) pos (tT G X C b')) : PTb X .And (a :: b :: rest) pos (tT G X C (.and a' b')) := PW.imp (pw_and ha hb) fun _ _ _ h => tT_and h
theorem ptb_or (ha : PT X a (tT G X C a')) (hb : PTb X .Or (b :: rest) pos (tT G X C b')) : PTb X .Or (a :: b :: rest) pos (tT G X C (.or a' b')) := PW.imp (pw_or ha hb) fun _ _ _ h => tT_or h
theorem sV_and (ha : PE X a (tV G X C a')) (hb : PE X (.BoolOp .And (b :: rest) pos) (tV G X C b')) : PE X (.BoolOp .And (a :: b :: rest) pos) (tV G X C (.and a' b')) := by
  refine PE.imp (pe_and ha hb) ?_
  rintro σV H Q ⟨w₀, H₀, w, σ, s, g, h⟩
  refine ⟨w₀, H₀, w, σ, s, g, (Want.bind h).imp ?_⟩
  rintro v H1 ⟨w1, r, s1, L1, S1, R1, h1⟩
  obtain ⟨k, rfl, rfl, h1⟩ := onB_t R1 h1
  refine ⟨k, rfl, ?_⟩
  cases k with
  | true => exact iteT ⟨w₀, H₀, w1, σ, s1, g.step L1 S1, h1⟩
  | false => exact iteF (h1 w1 H1 (.bl false) (Le.refl _ _) S1 rfl)
theorem sV_ife (hc : PT X c (tT G X C c')) (ha : PE X a (tV G X C a')) (hb : PE X b (tV G X C b')) : PE X (.IfExp c a b pos) (tV G X C (.ife c' a' b')) := by
  refine PE.imp (pe_ifExp hc ha hb) ?_
  rintro σV H Q ⟨w₀, H₀, w, σ, s, g, h⟩
  refine ⟨w₀, H₀, w, σ, s, g, (Want.bind h).imp ?_⟩
  rintro v H1 ⟨w1, r, s1, L1, S1, R1, h1⟩
  obtain ⟨k, rfl, rfl, h1⟩ := onB_t R1 h1
  refine ⟨k, rfl, ?_⟩
  cases k with
  | true => exact iteT ⟨w₀, H₀, w1, σ, s1, g.step L1 S1, h1⟩
  | false => exact iteF ⟨w₀, H₀, w1, σ, s1, g.step L1 S1, h1⟩
def WantA (G : Gx) (X : Cx) (σV : St) (w : Wo) (H : Hp) (res : Res (List T)) (Q : List V → Hp → Prop) : Prop := match res with
  | .stuck => False
  | .ok ts s' => ∀ w' H' vs, Le w w' H H' → StoOk G w' H' s' → Reps G w' H' ts vs → Q vs H'
  | .exc c s' => ∀ w' H' pins u sh, Le w w' H H' → StoOk G w' H' s' → Thrown G X pins σV H' c u sh → X.xe u sh
def WantR (G : Gx) (X : Cx) (σV : St) (w : Wo) (H : Hp) (res : Res (List R)) (Q : List V → Hp → Prop) : Prop := match res with
  | .stuck => False
  | .ok ts s' => ∀ w' H' vs, Le w w' H H' → StoOk G w' H' s' → RepRs G w' H' ts vs → Q vs H'
  | .exc c s' => ∀ w' H' pins u sh, Le w w' H H' → StoOk G w' H' s' → Thrown G X pins σV H' c u sh → X.xe u sh
def tA (G : Gx) (X : Cx) (C : Cf) (es : List E) : TA := fun σV H Q => ∃ w₀ H₀ w σ s, Good G w₀ H₀ w H σ s σV ∧ WantA G X σV w H (evs C es σ s) Q
def tR (G : Gx) (X : Cx) (C : Cf) (es : List E) : TA := fun σV H Q => ∃ w₀ H₀ w σ s, Good G w₀ H₀ w H σ s σV ∧ WantR G X σV w H (evr C es σ s) Q
theorem sA_nil : PA X [] (tA G X C []) := PA.imp pa_nil fun σV H Q ⟨w₀, H₀, w, σ, s, g, h⟩ => h w H [] (Le.refl _ _) g.sto rfl
theorem sR_nil : PA X [] (tR G X C []) := PA.imp pa_nil fun σV H Q ⟨w₀, H₀, w, σ, s, g, h⟩ => h w H [] (Le.refl _ _) g.sto rfl
variable {es : List Expr} {es' : List E}
theorem sA_cons (ha : PE X a (tV G X C a')) (hr : PA X es (tA G X C es')) (hs : starEach (a :: es) X.env = (false, eval a X.env) :: starEach es X.env) : PA X (a :: es) (tA G X C (a' :: es')) := by
  refine PA.imp (zaaw ha hr hs) ?_
  rintro σV H Q ⟨w₀, H₀, w, σ, s, g, h⟩
  have h : WantA G X σV w H ((ev C a' .v σ s).bind fun x s1 => onV x fun t => (evs C es' σ s1).bind fun ts s2 => .ok (t :: ts) s2) Q := h
  refine ⟨w₀, H₀, w, σ, s, g, ?_⟩
  cases he : ev C a' .v σ s with
  | stuck => rw [he] at h; exact h
  | exc c s1 => rw [he] at h; exact h
  | ok x s1 =>
    rw [he] at h
    intro w1 H1 v L1 S1 R1
    match x, h with
    | .bor _, h => exact h.elim
    | .val t, h =>
      have h : WantA G X σV w H ((evs C es' σ s1).bind fun ts s2 => .ok (t :: ts) s2) Q := h
      refine ⟨w₀, H₀, w1, σ, s1, g.step L1 S1, ?_⟩
      cases hf : evs C es' σ s1 with
      | stuck => rw [hf] at h; exact h
      | exc c s2 => rw [hf] at h; exact fun w2 H2 pins u sh L2 => h w2 H2 pins u sh (L1.trans L2)
      | ok ts s2 =>
        rw [hf] at h
        intro w2 H2 vs L2 S2 R2
        exact h w2 H2 (v :: vs) (L1.trans L2) S2 ⟨v, vs, rfl, Rep.mono L2 S1 t v R1, R2⟩
theorem sR_cons (ha : PE X a (tV G X C a')) (hr : PA X es (tR G X C es')) (hs : starEach (a :: es) X.env = (false, eval a X.env) :: starEach es X.env) : PA X (a :: es) (tR G X C (a' :: es')) := by
  refine PA.imp (zaaw ha hr hs) ?_
  rintro σV H Q ⟨w₀, H₀, w, σ, s, g, h⟩
  have h : WantR G X σV w H ((ev C a' .v σ s).bind fun x s1 => (evr C es' σ s1).bind fun ts s2 => .ok (x :: ts) s2) Q := h
  refine ⟨w₀, H₀, w, σ, s, g, ?_⟩
  cases he : ev C a' .v σ s with
  | stuck => rw [he] at h; exact h
  | exc c s1 => rw [he] at h; exact h
  | ok x s1 =>
    rw [he] at h
    intro w1 H1 v L1 S1 R1
    have h : WantR G X σV w H ((evr C es' σ s1).bind fun ts s2 => .ok (x :: ts) s2) Q := h
    refine ⟨w₀, H₀, w1, σ, s1, g.step L1 S1, ?_⟩
    cases hf : evr C es' σ s1 with
    | stuck => rw [hf] at h; exact h
    | exc c s2 => rw [hf] at h; exact fun w2 H2 pins u sh L2 => h w2 H2 pins u sh (L1.trans L2)
    | ok ts s2 =>
      rw [hf] at h
      intro w2 H2 vs L2 S2 R2
      exact h w2 H2 (v :: vs) (L1.trans L2) S2 ⟨v, vs, rfl, RepR.mono L2 S1 R1, R2⟩
theorem zad5 (C : Cf) : ∀ (es : List E) (σ : Fr) (s : Sto) (ts : List T) (s' : Sto), evs C es σ s = .ok ts s' → ts.length = es.length
  | [], σ, s, ts, s', h => by cases h; rfl
  | e :: es, σ, s, ts, s', h => by
    unfold evs at h
    cases he : ev C e .v σ s with
    | stuck => rw [he] at h; cases h
    | exc c s1 => rw [he] at h; cases h
    | ok x s1 =>
      rw [he] at h
      match x, h with
      | .bor _, h => cases h
      | .val t, h =>
        have h : ((evs C es σ s1).bind fun ts s2 => Res.ok (t :: ts) s2) = .ok ts s' := h
        cases hf : evs C es σ s1 with
        | stuck => rw [hf] at h; cases h
        | exc c s2 => rw [hf] at h; cases h
        | ok us s2 =>
          rw [hf] at h
          cases h
          simp [zad5 C es σ s1 us _ hf]
theorem sV_tup {k : Nat} (h : PA X es (tA G X C es')) (hz : es'.length ≤ sizeLine) : PE X (.Tuple es k pos) (tV G X C (.tup es')) := by
  refine PE.imp (pe_tup h) ?_
  rintro σV H Q ⟨w₀, H₀, w, σ, s, g, h⟩
  have h : Want G X σV w H ((evs C es' σ s).bind fun ts s1 => .ok (.val (.tup ts)) s1) Q := h
  refine ⟨w₀, H₀, w, σ, s, g, ?_⟩
  cases hf : evs C es' σ s with
  | stuck => rw [hf] at h; exact h
  | exc c s2 => rw [hf] at h; exact h
  | ok ts s2 =>
    rw [hf] at h
    intro w2 H2 vs L2 S2 R2
    refine ⟨by rw [← R2.length, zad5 C _ _ _ _ _ hf]; exact hz, ?_⟩
    exact zafv S2 R2 fun w' H' v L S R => h w' H' v (L2.trans L) S R
theorem sV_lst (h : PA X es (tA G X C es')) (hz : es'.length ≤ sizeLine) : PE X (.List es pos) (tV G X C (.lst es')) := by
  refine PE.imp (pe_lst h) ?_
  rintro σV H Q ⟨w₀, H₀, w, σ, s, g, h⟩
  have h : Want G X σV w H ((evs C es' σ s).bind fun ts s1 => .ok (.val (.lst ts)) s1) Q := h
  refine ⟨w₀, H₀, w, σ, s, g, ?_⟩
  cases hf : evs C es' σ s with
  | stuck => rw [hf] at h; exact h
  | exc c s2 => rw [hf] at h; exact h
  | ok ts s2 =>
    rw [hf] at h
    intro w2 H2 vs L2 S2 R2
    refine ⟨by rw [← R2.length, zad5 C _ _ _ _ _ hf]; exact hz, ?_⟩
    exact zab0 S2 R2 fun w' H' v L S R => h w' H' v (L2.trans L) S R
end
end IP
end
section
set_option Elab.async false
set_option linter.all false
set_option maxRecDepth 100000
namespace IP
open PySem PySem.Spec L2 PySem.SeqAt
section
variable {G : Gx} {X : Cx} {C : Cf} {a b c : Expr} {a' b' c' e' : E} {pos p : Pos} {rest : List Expr}
theorem Reps.atI {w : Wo} {H : Hp} {ts : List T} {vs : List V} {i : Int} {t : T} (r : Reps G w H ts vs) (h : L2.atI ts i = some t) : ∃ v, L2.atI vs i = some v ∧ Rep G w H t v := by
  unfold L2.atI at h ⊢
  rw [← r.length]
  cases e : ixN ts.length i with
  | none => rw [e] at h; cases h
  | some j =>
    rw [e] at h
    exact r.get h
theorem sV_sub (ha : PE X a (tV G X C a')) (hb : PE X b (tV G X C b')) (hs : zaf0 b) : PE X (.Subscript a b pos) (tV G X C (.sub a' b')) := by
  refine PE.imp (pe_ix ix_seq ha hb hs) ?_
  rintro σV H Q ⟨w₀, H₀, w, σ, s, g, h⟩
  refine ⟨w₀, H₀, w, σ, s, g, (Want.bind h).imp ?_⟩
  rintro x H1 ⟨w1, r1, s1, L1, S1, R1, h1⟩
  refine ⟨w₀, H₀, w1, σ, s1, g.step L1 S1, (Want.bind h1).imp ?_⟩
  rintro y H2 ⟨w2, r2, s2, M2, S2, R2, h2⟩
  have R1' := R1.mono M2 S1
  match r2, h2 with
  | .val (.int i), h2 =>
    obtain ⟨r, e, q⟩ := Want.of h2
    cases R2
    unfold subR at e
    cases hx : (r1.dr s2).sq2 with
    | none => rw [hx] at e; cases e
    | some ts =>
      rw [hx] at e
      dsimp only at e
      cases ht : L2.atI ts i with
      | none => rw [ht] at e; cases e
      | some t =>
        rw [ht] at e
        cases e
        obtain ⟨pa, vs, rfl, hp, rp⟩ := RepD.sq2 (R1'.dr S2) hx
        obtain ⟨v, hv, rv⟩ := rp.atI ht
        rcases hp with hp | hp
        · exact .inl ⟨pa, vs, i, v, rfl, rfl, .inl hp, hv, q w2 H2 v (Le.refl _ _) S2 rv⟩
        · exact .inr (.inl ⟨pa, vs, i, v, rfl, rfl, SqT.of hp, hv, q w2 H2 v (Le.refl _ _) S2 rv⟩)
  | .val .non, h2 => exact h2.elim
  | .val (.bl _), h2 => exact h2.elim
  | .val (.str _), h2 => exact h2.elim
  | .val (.tup _), h2 => exact h2.elim
  | .val (.lst _), h2 => exact h2.elim
  | .val (.loc _), h2 => exact h2.elim
  | .val (.exc _), h2 => exact h2.elim
  | .bor _, h2 => exact h2.elim
def rSl (G : Gx) : V → Option Int → Option Int → Hp → VK → Prop := fun x lo hi H Q => ∃ w s rx r, StoOk G w H s ∧ RepD G w H rx x ∧ cutR rx lo hi = some r ∧ ∀ w' H' v, Le w w' H H' → StoOk G w' H' s → RepR G w' H' r v → Q v H'
theorem SlR.imp {r r' : V → Option Int → Option Int → Hp → VK → Prop} (h : SlR X r) (q : ∀ x lo hi H Q, r' x lo hi H Q → r x lo hi H Q) : SlR X r' := fun pins s σ H x v vl vu lo hi sl Q I rx hs pl pu z => h pins s σ H x v vl vu lo hi sl Q I rx hs pl pu (q _ _ _ _ _ z)
theorem sl_ok : SlR X (rSl G) := by
  refine SlR.imp (SlR.or sl_tup sl_list) ?_
  rintro x lo hi H Q ⟨w, s, rx, r, S, R1, e, q⟩
  unfold cutR at e
  split at e
  · rename_i ts
    split at e
    · cases e
    · rename_i hc
      cases e
      obtain ⟨pa, vs, rfl, hp, rp⟩ := R1
      refine .inl ⟨pa, vs, rfl, SqT.of hp, by rw [← rp.length]; exact hc, zafv S (rp.cut lo hi) q⟩
  · rename_i ts
    cases e
    obtain ⟨pa, vs, rfl, _, hp, rp⟩ := R1
    exact .inr ⟨pa, vs, rfl, .inl hp, zab0 S (rp.cut lo hi) q⟩
  · rename_i ts
    cases e
    obtain ⟨pa, vs, rfl, hp, rp⟩ := R1
    exact .inr ⟨pa, vs, rfl, SqL.of hp, zab0 S (rp.cut lo hi) q⟩
  · cases e
theorem onI_t {w : Wo} {H : Hp} {σV : St} {x : R} {v : V} {f : Int → Res R} {Q : VK} (r : RepR G w H x v) (h : Want G X σV w H (onI x f) Q) : ∃ i, v = .int i ∧ x = .val (.int i) ∧ Want G X σV w H (f i) Q := by
  match x, h with
  | .val (.int i), h => exact ⟨i, r, rfl, h⟩
  | .val .non, h => exact h.elim
  | .val (.bl _), h => exact h.elim
  | .val (.str _), h => exact h.elim
  | .val (.tup _), h => exact h.elim
  | .val (.lst _), h => exact h.elim
  | .val (.loc _), h => exact h.elim
  | .val (.exc _), h => exact h.elim
  | .bor _, h => exact h.elim
theorem sV_cutL {p2 : Pos} (ha : PE X a (tV G X C a')) (hb : PE X b (tV G X C b')) : PE X (.Subscript a (.Slice (some b) none none p2) pos) (tV G X C (.cutL a' b')) := by
  refine PE.imp (zafu (sl_ok (G := G)) ha (zaer hb) zadg) ?_
  rintro σV H Q ⟨w₀, H₀, w, σ, s, g, h⟩
  refine ⟨w₀, H₀, w, σ, s, g, (Want.bind h).imp ?_⟩
  rintro x H1 ⟨w1, r1, s1, L1, S1, R1, h1⟩
  refine ⟨w₀, H₀, w1, σ, s1, g.step L1 S1, (Want.bind h1).imp ?_⟩
  rintro y H2 ⟨w2, r2, s2, L2, S2, R2, h2⟩
  obtain ⟨i, rfl, rfl, h2⟩ := onI_t R2 h2
  obtain ⟨r, e, q⟩ := Want.of h2
  exact ⟨i, rfl, w2, s2, _, r, S2, (R1.mono L2 S1).dr S2, e, q⟩
theorem sV_cutU {p2 : Pos} (ha : PE X a (tV G X C a')) (hb : PE X b (tV G X C b')) : PE X (.Subscript a (.Slice none (some b) none p2) pos) (tV G X C (.cutU a' b')) := by
  refine PE.imp (zafu (sl_ok (G := G)) ha zadg (zaer hb)) ?_
  rintro σV H Q ⟨w₀, H₀, w, σ, s, g, h⟩
  refine ⟨w₀, H₀, w, σ, s, g, (Want.bind h).imp ?_⟩
  rintro x H1 ⟨w1, r1, s1, L1, S1, R1, h1⟩
  refine ⟨w₀, H₀, w1, σ, s1, g.step L1 S1, (Want.bind h1).imp ?_⟩
  rintro y H2 ⟨w2, r2, s2, L2, S2, R2, h2⟩
  obtain ⟨i, rfl, rfl, h2⟩ := onI_t R2 h2
  obtain ⟨r, e, q⟩ := Want.of h2
  exact ⟨i, rfl, w2, s2, _, r, S2, (R1.mono L2 S1).dr S2, e, q⟩
def rB1 (G : Gx) (f : R → Option R) : List V → Hp → VK → Prop := fun xs H Q => ∃ v, xs = [v] ∧ r1 G f v H Q
theorem CallR.imp {f : Value} {r r' : List V → Hp → VK → Prop} (h : CallR X f r) (q : ∀ xs H Q, r' xs H Q → r xs H Q) : CallR X f r' := fun pins s σ H xs us Q I rx z => h pins s σ H xs us Q I rx (q _ _ _ z)
theorem sB1 {f : R → Option R} {id : String} {x : Str} (hc : CallR X (.builtin id) (rB1 G f)) (hg : Gl X x) (hm : X.mg x = none) (hv : bootBuiltins x = some (.builtin id)) (hn : x ≠ "__name__") (hdb : (x == ("__debug__" : Str)) = false)
    (ha : PE X a (tV G X C a')) (hs : starEach [a] X.env = [(false, eval a X.env)]) (hev : ∀ σ s, ev C e' .v σ s = (ev C a' .v σ s).bind fun x s1 => .of (f (x.dr s1)) s1) : PE X (.Call (.Name x p) [a] [] pos) (tV G X C e') := by
  refine PE.imp (zac3 hc hg hm hv (zaaw ha pa_nil hs) hn hdb hs rfl) ?_
  rintro σV H Q ⟨w₀, H₀, w, σ, s, g, h⟩
  rw [hev] at h
  obtain ⟨w₀, H₀, w, σ, s, g, h⟩ := t1_dr ⟨w₀, H₀, w, σ, s, g, h⟩
  exact ⟨w₀, H₀, w, σ, s, g, h.imp fun v H1 q => ⟨v, rfl, q⟩⟩
theorem sTy1 {f : R → Option R} {T : String} {x : Str} (hc : CallR X (.type T) (rB1 G f)) (hg : Gl X x) (hm : X.mg x = none) (hv : bootBuiltins x = some (.type T)) (hn : x ≠ "__name__") (hdb : (x == ("__debug__" : Str)) = false)
    (ha : PE X a (tV G X C a')) (hs : starEach [a] X.env = [(false, eval a X.env)]) (hev : ∀ σ s, ev C e' .v σ s = (ev C a' .v σ s).bind fun x s1 => .of (f (x.dr s1)) s1) : PE X (.Call (.Name x p) [a] [] pos) (tV G X C e') := by
  refine PE.imp (pe_callTy hc hg hm hv (zaaw ha pa_nil hs) hn hdb hs rfl) ?_
  rintro σV H Q ⟨w₀, H₀, w, σ, s, g, h⟩
  rw [hev] at h
  obtain ⟨w₀, H₀, w, σ, s, g, h⟩ := t1_dr ⟨w₀, H₀, w, σ, s, g, h⟩
  exact ⟨w₀, H₀, w, σ, s, g, h.imp fun v H1 q => ⟨v, rfl, q⟩⟩
theorem map_some {α β : Type} {o : Option α} {f : α → β} {r : β} (h : o.map f = some r) : ∃ a, o = some a ∧ r = f a := by
  cases o with
  | none => cases h
  | some a => cases h; exact ⟨a, rfl, rfl⟩
theorem c_len : CallR X (.builtin "len") (rB1 G (b1R .len)) := by
  refine CallR.imp zac1 ?_
  rintro xs H Q ⟨v, rfl, w, s, rx, r, S, R1, e, q⟩
  obtain ⟨ts, ht, rfl⟩ := map_some e
  obtain ⟨pa, vs, rfl, hp, rp⟩ := RepD.sq2 R1 ht
  refine ⟨pa, vs, rfl, hp.imp (fun h => .inl h) (fun h => SqT.of h), ?_⟩
  rw [← rp.length]
  exact q w H _ (Le.refl _ _) S rfl
theorem c_abs : CallR X (.builtin "abs") (rB1 G (b1R .abs)) := by
  refine CallR.imp call_abs ?_
  rintro xs H Q ⟨v, rfl, w, s, rx, r, S, R1, e, q⟩
  obtain ⟨i, hi, rfl⟩ := map_some e
  cases R1.int hi
  exact ⟨i, rfl, q w H _ (Le.refl _ _) S rfl⟩
theorem c_list : CallR X (.type "list") (rB1 G (b1R .list)) := by
  refine CallR.imp zadd ?_
  rintro xs H Q ⟨v, rfl, w, s, rx, r, S, R1, e, q⟩
  obtain ⟨ts, ht, rfl⟩ := map_some e
  obtain ⟨pa, vs, rfl, hp, rp⟩ := RepD.sq2 R1 ht
  exact ⟨pa, vs, rfl, hp.imp (fun h => .inl h) (fun h => SqT.of h), zab0 S rp q⟩
def rB2 (G : Gx) (f : R → R → Option R) : List V → Hp → VK → Prop := fun xs H Q => ∃ v u, xs = [v, u] ∧ r2 G f v u H Q
theorem sB2 {f : R → R → Option R} {id : String} {x : Str} (hc : CallR X (.builtin id) (rB2 G f)) (hg : Gl X x) (hm : X.mg x = none) (hv : bootBuiltins x = some (.builtin id)) (hn : x ≠ "__name__") (hdb : (x == ("__debug__" : Str)) = false)
    (ha : PE X a (tV G X C a')) (hb : PE X b (tV G X C b')) (hs : starEach [a, b] X.env = [(false, eval a X.env), (false, eval b X.env)]) (hs2 : starEach [b] X.env = [(false, eval b X.env)])
    (hev : ∀ σ s, ev C e' .v σ s = (ev C a' .v σ s).bind fun x s1 => (ev C b' .v σ s1).bind fun y s2 => .of (f x y) s2) : PE X (.Call (.Name x p) [a, b] [] pos) (tV G X C e') := by
  refine PE.imp (zac3 hc hg hm hv (zaaw ha (zaaw hb pa_nil hs2) (by rw [hs, hs2])) hn hdb (by rw [hs, hs2]) (by rw [hs2]; rfl)) ?_
  rintro σV H Q ⟨w₀, H₀, w, σ, s, g, h⟩
  rw [hev] at h
  obtain ⟨w₀, H₀, w, σ, s, g, h⟩ := t2_of (f := f) ⟨w₀, H₀, w, σ, s, g, h⟩
  refine ⟨w₀, H₀, w, σ, s, g, h.imp ?_⟩
  rintro v H1 ⟨w₀, H₀, w, σ, s, g, h⟩
  exact ⟨w₀, H₀, w, σ, s, g, h.imp fun u H2 q => ⟨v, u, rfl, q⟩⟩
def mx2R (x y : R) : Option R := do let i ← x.int?; let j ← y.int?; some (.val (.int (if j > i then j else i)))
theorem ii2 {x y r : R} {g : Int → Int → R} (h : (do let i ← x.int?; let j ← y.int?; some (g i j)) = some r) : ∃ i j, x.int? = some i ∧ y.int? = some j ∧ r = g i j := by
  cases hx : x.int? with
  | none => rw [hx] at h; cases h
  | some i =>
    cases hy : y.int? with
    | none => rw [hx, hy] at h; cases h
    | some j => rw [hx, hy] at h; cases h; exact ⟨i, j, rfl, rfl, rfl⟩
theorem c_max2 (hc : X.calm = true) : CallR X (.builtin "max") (rB2 G mx2R) := by
  refine CallR.imp (call_max2 hc) ?_
  rintro xs H Q ⟨v, u, rfl, w, s, rx, ry, r, S, R1, R2, e, q⟩
  obtain ⟨i, j, hi, hj, rfl⟩ := ii2 e
  cases R1.int hi
  cases R2.int hj
  exact ⟨i, j, rfl, q w H _ (Le.refl _ _) S rfl⟩
def tyOf : Ty → Option String
  | .int => some "int" | .bool => some "bool" | .tuple => some "tuple" | .list => some "list" | .str => some "str" | .cls _ => none
theorem isi_ty {w : Wo} {H : Hp} {st : Sto} {x : R} {v : V} {c : Ty} {k : Bool} {n : String} (S : StoOk G w H st) (r : RepD G w H x v) (hn : tyOf c = some n) (h : isiR x c = some k) : ∃ t, TyOf X.K H v t ∧ PySem.W.kitOne X.K t (.type n) = some k := by
  have lst : ∀ {a : Addr} {vs : List V}, Rd H a (.lst vs) → TyOf X.K H (.ref a) (.type "list") := fun {a vs} q => by
    rcases q with q | ⟨o, q⟩
    · exact .lst q
    · exact .frz q
  unfold isiR at h
  split at h <;> first
    | (cases h; done)
    | (cases h; cases hn; cases r; exact ⟨_, .int _, by with_unfolding_all rfl⟩)
    | (cases h; cases hn; cases r; exact ⟨_, .bl _, by with_unfolding_all rfl⟩)
    | (cases h; cases hn; cases r; exact ⟨_, .non, by with_unfolding_all rfl⟩)
    | (cases h; cases hn; obtain ⟨a, vs, rfl, q, _⟩ := r; exact ⟨_, .tup q, by with_unfolding_all rfl⟩)
    | (cases h; cases hn; obtain ⟨a, vs, rfl, _, q, _⟩ := r; exact ⟨_, lst q, by with_unfolding_all rfl⟩)
    | (cases h; cases hn; obtain ⟨a, vs, rfl, q, _⟩ := r; exact ⟨_, .lst q, by with_unfolding_all rfl⟩)
theorem isiX_ty {sub : Nat → Nat → Bool} {x : R} {c : Ty} {n : String} (hn : tyOf c = some n) : isiX sub x c = isiR x c := by
  cases c <;> first | (cases hn; done) | (unfold isiX; split <;> first | rfl | (rename_i z; cases z))
theorem sV_isi {c : Ty} {n : String} {y : Str} {py : Pos} (hn : tyOf c = some n) (hg : Gl X "isinstance") (hm : X.mg "isinstance" = none) (hgy : Gl X y) (hmy : X.mg y = none) (hv : bootBuiltins y = some (.type n)) (hy : y ≠ "__name__") (hdy : (y == ("__debug__" : Str)) = false)
    (ha : PE X a (tV G X C a')) (hs : starEach [a, .Name y py] X.env = [(false, eval a X.env), (false, eval (.Name y py) X.env)]) : PE X (.Call (.Name "isinstance" p) [a, .Name y py] [] pos) (tV G X C (.isi a' c)) := by
  have hc : CallR X (.builtin "isinstance") (fun xs H Q => ∃ v, xs = [v, .ty n] ∧ r1 G (fun x => (isiX C.sub x c).map fun k => .val (.bl k)) v H Q) := by
    rintro pins s σ H xs us Q I rv ⟨v, rfl, w, st, rx, r, S, R1, e, q⟩
    obtain ⟨u, u', rfl, r1, r2⟩ := rv.two
    cases r2
    obtain ⟨k, hk, rfl⟩ := map_some e
    rw [isiX_ty hn] at hk
    obtain ⟨t, ht, hk'⟩ := isi_ty (X := X) S R1 hn hk
    exact isinst_ok I r1 ht hk' fun tk => ⟨.bl k, H, I.tok tk, rfl, q w H _ (Le.refl _ _) S rfl⟩
  refine PE.imp (zac3 hc hg hm (show bootBuiltins "isinstance" = some (.builtin "isinstance") by decide +kernel) (zaaw ha (zaaw (pe_bltn (v := .ty n) hgy hmy hv rfl hy hdy) pa_nil rfl) (by rw [hs]; rfl)) (by decide) (by decide) (by rw [hs]; rfl) rfl) ?_
  rintro σV H Q ⟨w₀, H₀, w, σ, s, g, h⟩
  obtain ⟨w₀, H₀, w, σ, s, g, h⟩ := t1_dr (f := fun x => (isiX C.sub x c).map fun k => .val (.bl k)) ⟨w₀, H₀, w, σ, s, g, h⟩
  exact ⟨w₀, H₀, w, σ, s, g, h.imp fun v H1 q => ⟨v, rfl, q⟩⟩
end
end IP
end
section
set_option Elab.async false
set_option linter.all false
set_option maxRecDepth 100000
namespace IP
open PySem PySem.Spec L2 PySem.SeqAt PyProof.Rows.LSm
section
variable {G : Gx} {X : Cx}
theorem zacp {w : Wo} {H : Hp} : ∀ {ts : List T} {is : List Int} {vs : List V} {its : List Value}, asInts ts = some is → Reps G w H ts vs → Vals vs its → PyProof.Rows.IntsAre its is
  | [], is, vs, its, h, r, q => by
    cases h
    cases r
    rw [Vals.zero q]
    exact .nil
  | .int i :: ts, is, vs, its, h, ⟨v, r, e, h1, h2⟩, q => by
    unfold asInts at h
    obtain ⟨js, hj, rfl⟩ := map_some h
    subst e
    cases h1
    cases q with
    | cons q1 q2 =>
      obtain ⟨t, rfl⟩ := q1
      exact .cons i t (zacp hj h2 q2)
  | .non :: ts, is, vs, its, h, r, q => by simp [asInts] at h
  | .bl _ :: ts, is, vs, its, h, r, q => by simp [asInts] at h
  | .str _ :: ts, is, vs, its, h, r, q => by simp [asInts] at h
  | .tup _ :: ts, is, vs, its, h, r, q => by simp [asInts] at h
  | .lst _ :: ts, is, vs, its, h, r, q => by simp [asInts] at h
  | .loc _ :: ts, is, vs, its, h, r, q => by simp [asInts] at h
  | .exc _ :: ts, is, vs, its, h, r, q => by simp [asInts] at h
theorem bind2 {α β γ : Type} {o : Option α} {p : α → Option β} {f : α → β → Option γ} {r : γ} (h : (do let a ← o; let b ← p a; f a b) = some r) : ∃ a b, o = some a ∧ p a = some b ∧ f a b = some r := by
  cases ho : o with
  | none => rw [ho] at h; cases h
  | some a =>
    rw [ho] at h
    cases hp : p a with
    | none => simp [hp] at h
    | some b => simp [hp] at h; exact ⟨a, b, rfl, hp, h⟩
theorem zacg (x : Int) : ∀ l : List Int, (insI x l).Perm (x :: l)
  | [] => .refl _
  | y :: r => by
    unfold insI
    split
    · exact .refl _
    · exact ((zacg x r).cons y).trans (.swap x y r)
theorem insI_pw (x : Int) : ∀ l : List Int, l.Pairwise (· ≤ ·) → (insI x l).Pairwise (· ≤ ·)
  | [], _ => by simp [insI]
  | y :: r, h => by
    unfold insI
    obtain ⟨h1, h2⟩ := List.pairwise_cons.mp h
    split
    · rename_i hlt
      refine List.pairwise_cons.mpr ⟨fun z hz => ?_, h⟩
      rcases List.mem_cons.mp hz with e | e
      · omega
      · have := h1 z e; omega
    · rename_i hlt
      refine List.pairwise_cons.mpr ⟨fun z hz => ?_, insI_pw x r h2⟩
      rcases List.mem_cons.mp ((zacg x r).mem_iff.mp hz) with e | e
      · omega
      · exact h1 z e
theorem zae2 (is : List Int) : (sortI is).Perm is ∧ (sortI is).Pairwise (· ≤ ·) := by
  have go : ∀ (l acc : List Int), acc.Pairwise (· ≤ ·) → (l.foldl (fun acc x => insI x acc) acc).Perm (l ++ acc) ∧ (l.foldl (fun acc x => insI x acc) acc).Pairwise (· ≤ ·) := by
    intro l
    induction l with
    | nil => intro acc h; exact ⟨.refl _, h⟩
    | cons x l ih =>
      intro acc h
      obtain ⟨h1, h2⟩ := ih (insI x acc) (insI_pw x acc h)
      refine ⟨h1.trans ?_, h2⟩
      exact ((zacg x acc).append_left l).trans List.perm_middle
  have := go is [] List.Pairwise.nil
  rw [List.append_nil] at this
  exact this
theorem zabw : ∀ {its : List Value} {ns : List Int}, PyProof.Rows.IntsAre its ns → Vals (ns.map V.int) its
  | _, _, .nil => .nil
  | _, _, .cons n t r => .cons ⟨t, rfl⟩ (zabw r)
theorem zaba (w : Wo) (H : Hp) : ∀ ns : List Int, Reps G w H (ns.map T.int) (ns.map V.int)
  | [] => rfl
  | n :: r => ⟨_, _, rfl, rfl, zaba w H r⟩
theorem c_sorted : CallR X (.builtin "sorted") (rB1 G (b1R .sorted)) := by
  rintro pins s σ H xs us Q I rv ⟨v, rfl, w, st, rx, r, S, R1, e, q⟩
  obtain ⟨ts, is, ht, hb, he⟩ := bind2 (f := fun (_ : List T) (is : List Int) => if is.length < 64 then some (R.val (.lst ((sortI is).map .int))) else none) e
  split at he
  · rename_i h64
    cases he
    obtain ⟨pa, vs, rfl, hp, rp⟩ := RepD.seq (s := st) R1 ht
    obtain ⟨u, rfl, ru⟩ := rv.one
    cases ru
    obtain ⟨its, q1, hl⟩ := zaa0 I hp
    have hI := zacp hb rp q1
    have hlen := hI.length
    refine PyProof.Rows.sorted_ints hl hI (by omega) fun out ns' a1 a2 a3 => ?_
    obtain ⟨s1, s2⟩ := zae2 is
    have en : ns' = sortI is := PySem.W.ksm_same (a2.trans s1.symm) a3 s2
    subst en
    obtain ⟨ee, he⟩ := PyProof.Rows.sortedAll_at s.heap its out
    have hf : H (s.heap.objs.size + 1) = none := I.hok.fresh (Nat.le_succ _)
    have hlen2 : (sortI is).length ≤ sizeLine := by
      rw [s1.length_eq]
      have : (64 : Nat) ≤ sizeLine := by decide
      omega
    refine ⟨.ref (s.heap.objs.size + 1), upd H (s.heap.objs.size + 1) (.lst ((sortI is).map V.int)), I.laid (t' := s.toks) (fun b u e => PyProof.Rows.sortedAll_old e) (Nat.le_succ _) ?_, rfl, zab0 S (zaba w H _) q _ hf⟩
    refine ⟨by rw [List.length_map]; exact hlen2, out.toList, ee, zabw a1, ?_⟩
    rw [he]
  · cases he
end
end IP
end
section
set_option Elab.async false
set_option linter.all false
set_option maxRecDepth 100000
namespace IP
open PySem PySem.Spec L2
def CXE (G : Gx) (P : Program) (w : World) (base : Heap) : CXT := fun outer H s E e s' =>
  ∃ (a : Addr) (cls t : Value) (H' : Hp) (h B : Heap), e = .ref a ∧ s'.os = s.os ∧ PyProof.Rows.AllBare s'.gens ∧ Un (frs outer) [] H H' s.heap h ∧ HOk P w H' h ∧ Flt outer h B a s'.heap ∧ base.StaysIn B ∧ Heap.FlyingW B outer a cls t s'.heap ∧ E cls none H'
section
variable {G : Gx} {X : Cx} {C : Cf} {k : Nat} {f fa : Addr} {fd : FuncData} {ps : List Str} {sp : Sp} {dvs : List V} {ds : List Value} {E : XK}
theorem Inv.after' {pins : List (Addr × Obj)} {σ : St} {H H' : Hp} {s s' : Shared} (I : Inv X pins σ H s) (os : s'.os = s.os) (bare : PyProof.Rows.AllBare s'.gens) (un : Un (frs X.stack) [] H H' s.heap s'.heap) (hok : HOk X.prog X.w H' s'.heap) : Inv X pins σ H' s' := by
  obtain ⟨hh, g, d, t, os'⟩ := s'
  obtain rfl : os' = s.os := os
  exact I.call (h' := hh) (g' := g) (d' := d) (t' := t) (ch := []) un hok bare (fun b z => absurd z (by simp))
theorem run_call {CX : CXT} {pins : List (Addr × Obj)} {σ : St} {H : Hp} {s : Shared} {Q : VK} {us : List Value} {vs : List V} (F : FnOk X.prog X.w X.K X.mg X.base CX k f fd ps sp) (hr : Room k X.A) (hb : Binds X.K fd ps ds) (hd : Vals dvs ds)
    (I : Inv X pins σ H s) (r : Vals vs us) (h : sp (vs ++ dvs) H Q E) (hx : ∀ e s', CX X.stack H s E e s' → X.xe e s') : wpAny (model X.prog X.w) X.A (call (.ref f) us) (EP X pins σ Q) X.xe s := by
  have r2 : Vals (vs ++ dvs) (us ++ ds) := r.append hd
  have hl : (us ++ ds).length = ps.length := by rw [← r2.length]; exact F.len _ _ _ _ h
  refine wpAny_call (codeAny_mono (F.run X.A X.stack s H ⟨us, []⟩ (us ++ ds) (vs ++ dvs) Q E hr I.env0 (hb s us I.kIn hl) r2 h) fun r s' hq => ?_)
  cases r with
  | error e => exact hx e s' hq
  | ok fl =>
    cases fl with
    | ret u => exact I.after hq
    | next => exact False.elim hq
    | brk => exact False.elim hq
    | cont => exact False.elim hq
def EX (G : Gx) (X : Cx) (σV : St) : XK := fun cls _ H' => ∀ pins u sh h B a t, u = .ref a → Inv X pins σV H' { sh with heap := h } → Flt X.stack h B a sh.heap → X.base.StaysIn B → Heap.FlyingW B X.stack a cls t sh.heap → X.xe u sh
theorem passes_of {pins : List (Addr × Obj)} {σ : St} {H : Hp} {s : Shared} (I : Inv X pins σ H s) (e : Value) (s' : Shared) (h : CXE G X.prog X.w X.base X.stack H s (EX G X σ) e s') : X.xe e s' := by
  obtain ⟨a, cls, t, H', hh, B, rfl, os, bare, un, hok, fl, sb, fly, q⟩ := h
  exact q pins (.ref a) s' hh B a t rfl (Inv.after' (s' := { s' with heap := hh }) I os bare un hok) fl sb fly
theorem zabl {w : Wo} {H : Hp} : ∀ {rs qs : List R} {vs us : List V}, RepRs G w H rs vs → RepRs G w H qs us → RepRs G w H (rs ++ qs) (vs ++ us)
  | [], qs, _, us, h, q => by rw [h]; exact q
  | t :: ts, qs, _, us, ⟨v, r, e, h, k⟩, q => by subst e; exact ⟨v, r ++ us, rfl, h, zabl k q⟩
def cstV : T → Option V
  | .non => some .non | .bl b => some (.bl b) | .int i => some (.int i) | .str x => some (.str x) | _ => none
theorem zadp {w : Wo} {H : Hp} : ∀ {ts : List T} {vs : List V}, ts.mapM cstV = some vs → RepRs G w H (ts.map R.val) vs
  | [], vs, h => by cases h; exact rfl
  | t :: ts, vs, h => by
    rw [List.mapM_cons] at h
    cases e : cstV t with
    | none => simp [e] at h
    | some v =>
      cases e2 : ts.mapM cstV with
      | none => simp [e, e2] at h
      | some us =>
        simp [e, e2] at h
        subst h
        refine ⟨v, us, rfl, ?_, zadp e2⟩
        cases t <;> cases e <;> exact rfl
variable {es : List Expr} {es' : List IP.E} {e₀ : Expr} {fi : Nat} {x : Str} {p pos : Pos} {dts : List T}
theorem zafo {w : Wo} {H : Hp} {σV : St} {m : Res (List R)} {k : List R → Sto → Res R} {Q : VK} (h : Want G X σV w H (m.bind k) Q) : WantR G X σV w H m fun vs H1 => ∃ w1 rs s1, Le w w1 H H1 ∧ StoOk G w1 H1 s1 ∧ RepRs G w1 H1 rs vs ∧ Want G X σV w H (k rs s1) Q := by
  cases m with
  | stuck => exact h
  | ok rs s => exact fun w' H' vs a b c => ⟨w', rs, s, a, b, c, h⟩
  | exc c s => exact h
end
end IP
end
section
set_option Elab.async false
set_option linter.all false
set_option maxRecDepth 100000
namespace IP
open PySem PySem.Spec L2
def clo (cells : List (Str × Addr)) : List (Str × NameKind) → List (Str × Addr) → List (Str × Addr)
  | [], acc => acc
  | (n, k) :: r, acc => clo cells r (if k == .free then (match cells.lookup n with | some c => (n, c) :: acc | none => acc) else acc)
theorem zafn (scope : Scope) (env : Env) (h : ∀ x ∈ scope.names, x.2 = .free → ∃ c, env.cells.lookup x.1 = some c) : closureFor scope env = pure (clo env.cells scope.names []) := by
  unfold closureFor
  generalize ([] : List (Str × Addr)) = acc
  obtain ⟨k, names, a, b, c⟩ := scope
  simp only at h ⊢
  induction names generalizing acc with
  | nil => rfl
  | cons x r ih =>
    obtain ⟨n, k⟩ := x
    have ih := fun acc => ih acc (fun y hy => h y (List.mem_cons_of_mem _ hy))
    simp only [List.forIn_cons, clo]
    by_cases hk : (k == NameKind.free) = true
    · have hk' : k = .free := by simpa using hk
      obtain ⟨c, hc⟩ := h (n, k) (List.mem_cons_self ..) hk'
      have hc : List.lookup n env.cells = some c := hc
      simp only [hk, if_true, cellOf, hc, pure_bind]
      exact ih _
    · simp only [Bool.not_eq_true] at hk
      simp only [hk, Bool.false_eq_true, if_false, pure_bind]
      exact ih _
theorem zaez (cells : List (Str × Addr)) : ∀ (names : List (Str × NameKind)) (acc : List (Str × Addr)), (∀ x c, acc.lookup x = some c → cells.lookup x = some c) → ∀ x c, (clo cells names acc).lookup x = some c → cells.lookup x = some c
  | [], acc, h, x, c, e => h x c e
  | (n, k) :: r, acc, h, x, c, e => by
    refine zaez cells r _ (fun y d q => ?_) x c e
    split at q
    · split at q
      · rename_i d' hd
        rw [List.lookup_cons] at q
        split at q
        · rename_i hyn
          have : y = n := by simpa using hyn
          subst this
          cases q
          exact hd
        · exact h y d q
      · exact h y d q
    · exact h y d q
theorem zaek (cells : List (Str × Addr)) : ∀ (names : List (Str × NameKind)) (acc : List (Str × Addr)) (x : Str), (∃ c, acc.lookup x = some c) → ∃ c, (clo cells names acc).lookup x = some c
  | [], acc, x, h => h
  | (n, k) :: r, acc, x, h => by
    refine zaek cells r _ x ?_
    split
    · split
      · rename_i d' hd
        rw [List.lookup_cons]
        split
        · exact ⟨_, rfl⟩
        · exact h
      · exact h
    · exact h
theorem zafg (cells : List (Str × Addr)) : ∀ (names : List (Str × NameKind)) (acc : List (Str × Addr)) (x : Str), (x, NameKind.free) ∈ names → (∃ c, cells.lookup x = some c) → ∃ c, (clo cells names acc).lookup x = some c
  | [], acc, x, h, _ => by simp at h
  | (n, k) :: r, acc, x, h, hc => by
    rcases List.mem_cons.mp h with e | e
    · cases e
      obtain ⟨c, hc⟩ := hc
      refine zaek cells r _ _ ?_
      simp [hc]
    · exact zafg cells r _ x e hc
theorem zact {α : Type} : ∀ {l : List (Str × α)} {x : Str} {a : α}, l.lookup x = some a → (x, a) ∈ l
  | [], x, a, h => by simp at h
  | (y, b) :: r, x, a, h => by
    rw [List.lookup_cons] at h
    split at h
    · rename_i e
      have : x = y := by simpa using e
      subst this
      cases h
      exact List.mem_cons_self ..
    · exact List.mem_cons_of_mem _ (zact h)
theorem zabh (scope : Scope) (env : Env) (x : Str) (k : NameKind) (h : (relabel scope env).names.lookup x = some k) : ∃ k', (x, k') ∈ scope.names ∧ ((k = .cell ∨ k = .free) → k' = .cell ∨ k' = .free) ∧ (k = .local → k' = .local) := by
  have h := zact h
  unfold relabel at h
  obtain ⟨⟨n, k'⟩, hm, e⟩ := List.mem_map.mp h
  dsimp only at e
  split at e
  · rename_i hc
    cases e
    have : k' = .free := by
      have := (Bool.and_eq_true _ _).mp hc
      have := (Bool.and_eq_true _ _).mp this.1
      simpa using this.1
    exact ⟨k', hm, fun _ => .inr this, fun z => by cases z⟩
  · cases e
    exact ⟨_, hm, fun z => z, fun z => z⟩
section
variable {X : Cx}
def cxC (X : Cx) (N' : List Str) (scope : Scope) (C : Addr) (fp : List Addr) (s2 : Shared) (H2 : Hp) : Cx :=
  { X with N := N', s₀ := s2, H₀ := H2, env := compEnvC scope (clo X.env.cells scope.names []) C X.env, outer := X.stack, ex := fp, fn := fun _ => false, pn := [], xe := fun _ _ => False }
structure CompN (X : Cx) (scope : Scope) (N' : List Str) (js : List Nat) : Prop where
  kind : scope.kind = .function
  nocell : ∀ x ∈ scope.names, x.2 ≠ .cell
  free : ∀ x ∈ scope.names, x.2 = .free → X.env.kindOf x.1 = some .cell ∨ X.env.kindOf x.1 = some .free
  len : N'.length = X.N.length
  nd : N'.Nodup
  same : ∀ (i : Nat) (x : Str), N'[i]? = some x → i ∉ js → Vis (relabel scope X.env) x → X.N[i]? = some x ∧ (x, NameKind.free) ∈ scope.names ∧ ((relabel scope X.env).names.lookup x = some .cell ∨ (relabel scope X.env).names.lookup x = some .free)
  locs : ∀ x ∈ scope.names, x.2 = .local → scope.names.lookup x.1 = some .local
def clr (σ : St) (js : List Nat) : St := js.foldl (fun σ j => σ.set j none) σ
theorem clr_len (js : List Nat) : ∀ σ : St, (clr σ js).length = σ.length := by
  induction js with
  | nil => intro σ; rfl
  | cons j js ih => intro σ; show (clr (σ.set j none) js).length = _; rw [ih]; simp
theorem clr_get (js : List Nat) : ∀ (σ : St) (i : Nat) (v : V), (clr σ js)[i]? = some (some v) → σ[i]? = some (some v) ∧ i ∉ js := by
  induction js with
  | nil => intro σ i v h; exact ⟨h, by simp⟩
  | cons j js ih =>
    intro σ i v h
    obtain ⟨h1, h2⟩ := ih (σ.set j none) i v h
    by_cases e : j = i
    · subst e
      rw [List.getElem?_set_self'] at h1
      cases hq : σ[j]? with
      | none => rw [hq] at h1; cases h1
      | some q => rw [hq] at h1; cases h1
    · rw [List.getElem?_set_ne e] at h1
      exact ⟨h1, by simp [h2]; exact fun z => e z.symm⟩
theorem cxC_inv {pins : List (Addr × Obj)} {σ : St} {H : Hp} {s : Shared} {scope : Scope} {N' : List Str} {js : List Nat} {fp : List Addr} {h4 : Heap} {tk : Nat} (hN : CompN X scope N' js) (I : Inv X pins σ H s) (hfp : ∀ b ∈ fp, FpOk X pins H b) (hfo : ∀ b ∈ fp, ∃ o, s.heap.get? b = some o)
    (hns : h4.Ns s.heap.objs.size (fun _ => none)) (hk : ∀ b o, s.heap.get? b = some o → h4.get? b = some o) :
    Inv (cxC X N' scope s.heap.objs.size fp s H) [] (clr σ js) H { s with heap := h4, toks := tk } := by
  have hlt : ∀ {b : Addr} {o : Obj}, s.heap.get? b = some o → b ≠ s.heap.objs.size := fun e => Nat.ne_of_lt (Heap.lt_size e)
  have hsubc := zaez X.env.cells scope.names [] (fun x c z => by simp at z)
  have clt : ∀ x c, (clo X.env.cells scope.names []).lookup x = some c → c ≠ s.heap.objs.size := fun x c e => by
    obtain ⟨v, hv⟩ := I.cell x c (hsubc x c e)
    obtain ⟨o, ho, _⟩ := hv
    exact hlt ho
  have hkin : ∀ x : Str, (relabel scope X.env).names.lookup x = some .cell ∨ (relabel scope X.env).names.lookup x = some .free → (x, NameKind.free) ∈ scope.names := fun x hx => by
    have : ∃ k', (x, k') ∈ scope.names ∧ (k' = .cell ∨ k' = .free) := by
      rcases hx with hx | hx
      · obtain ⟨k', h1, h2, _⟩ := zabh _ _ _ _ hx; exact ⟨k', h1, h2 (.inl rfl)⟩
      · obtain ⟨k', h1, h2, _⟩ := zabh _ _ _ _ hx; exact ⟨k', h1, h2 (.inr rfl)⟩
    obtain ⟨k', h1, h2⟩ := this
    rcases h2 with rfl | rfl
    · exact absurd rfl (hN.nocell _ h1)
    · exact h1
  have hcell : ∀ x : Str, (x, NameKind.free) ∈ scope.names → ∃ c, X.env.cells.lookup x = some c := fun x hx => I.ok.has x (hN.free (x, .free) hx rfl)
  have hstk : ∀ b ∈ frs X.stack, b ∈ X.env.locals :: X.fs := I.stkSub
  refine ⟨⟨I.ok.mod, hN.kind, I.ok.glob, I.ok.blt, Nat.le_refl _, fun x y c h1 h2 => I.ok.inj x y c (hsubc _ _ h1) (hsubc _ _ h2), fun x hx => ?_, fun x c h _ => (Bool.noConfusion (show false = true from h)), I.ok.hd, I.ok.frames, .inl rfl, fun b hb => ?_, I.bs, Nat.le_trans I.ok.bsz I.sz, fun b o e hb => ?_, fun b hb hf => ?_, I.stack, I.stkFree⟩,
    rfl, I.bare, Un.kept hk, ⟨_, hns, fun i x v h1 h2 h3 => ?_⟩, fun x c h => ?_, I.hok.fresh (Nat.le_refl _), fun x c h => I.freeC x c (hsubc _ _ h), fun p hp => absurd (show p ∈ ([] : List (Addr × Obj)) from hp) (by simp), I.hok.kept hk, ?_⟩
  · exact zafg X.env.cells scope.names [] x (hkin x hx) (hcell x (hkin x hx))
  · obtain ⟨f0, f1, f2, f3, f4, f5⟩ := hfp b hb
    refine ⟨fun z => ?_, fun x c e z => f4 x c (hsubc _ _ e) z⟩
    obtain ⟨o, ho⟩ := hfo b hb
    exact hlt ho z
  · have := I.bs b o e
    obtain ⟨f0, f1, f2, f3, f4, f5⟩ := hfp b hb
    rcases f3 with f3 | f3
    · exact I.ok.noex b o e f3
    · exact absurd (Nat.lt_of_lt_of_le (Heap.lt_size (I.ok.bs b o e).1) f3) (Nat.lt_irrefl _)
  · obtain ⟨f0, f1, f2, f3, f4, f5⟩ := hfp b hb
    rcases List.mem_cons.mp (hstk b hf) with z | z
    · exact f1 z
    · exact f2 z
  · obtain ⟨h2', hj⟩ := clr_get js σ i v h2
    obtain ⟨q1, q2, q3⟩ := hN.same i x h1 hj h3
    obtain ⟨m, hm, hl⟩ := I.loc
    have hkx := hN.free (x, .free) q2 rfl
    obtain ⟨u, ru, lk⟩ := hl i x v q1 h2' (.inr hkx)
    refine ⟨u, ru, .inr ⟨q3, ?_⟩⟩
    · rcases lk with ⟨k1, _⟩ | ⟨_, c, hc, ic⟩
      · rcases hkx with z | z <;> (rw [z] at k1; cases k1)
      · obtain ⟨c', hc'⟩ := zafg X.env.cells scope.names [] x q2 ⟨c, hc⟩
        have := hsubc _ _ hc'
        rw [hc] at this
        cases this
        exact ⟨c, hc', ic.keeps hk⟩
  · obtain ⟨v, hv⟩ := I.cell x c (hsubc x c h)
    exact ⟨v, hv.keeps hk⟩
  · rw [clr_len, I.len]
    exact hN.len.symm
end
end IP
end
section
set_option Elab.async false
set_option linter.all false
set_option maxRecDepth 100000
namespace IP
open PySem PySem.Spec L2
section
variable {G : Gx} {w : Wo} {H H₀ : Hp}
mutual
theorem Rep.upd {a : Addr} {xs ys : List V} (ha : H a = some (.lst xs)) (hz : ¬ w.Z a) : ∀ (t : T) (v : V), Rep G w H t v → Rep G w (L2.upd H a (.lst ys)) t v
  | .non, v, h => h
  | .bl b, v, h => h
  | .int i, v, h => h
  | .str x, v, h => h
  | .tup ts, v, ⟨p, vs, e, h, r⟩ => ⟨p, vs, e, by rw [upd_ne (ne_of h ha (by intro z; cases z))]; exact h, Reps.upd ha hz ts vs r⟩
  | .lst ts, v, ⟨p, vs, e, z, h, r⟩ => by
    have ne : p ≠ a := fun q => hz (q ▸ z)
    refine ⟨p, vs, e, z, ?_, Reps.upd ha hz ts vs r⟩
    rcases h with h | ⟨o, h⟩
    · exact .inl (by rw [upd_ne ne]; exact h)
    · exact .inr ⟨o, by rw [upd_ne ne]; exact h⟩
  | .loc l, v, h => h
  | .exc c, v, ⟨p, e, h⟩ => ⟨p, e, by rw [upd_ne (ne_of h ha (by intro z; cases z))]; exact h⟩
theorem Reps.upd {a : Addr} {xs ys : List V} (ha : H a = some (.lst xs)) (hz : ¬ w.Z a) : ∀ (ts : List T) (vs : List V), Reps G w H ts vs → Reps G w (L2.upd H a (.lst ys)) ts vs
  | [], vs, h => h
  | t :: ts, vs, ⟨v, r, e, h, q⟩ => ⟨v, r, e, Rep.upd ha hz t v h, Reps.upd ha hz ts r q⟩
end
mutual
theorem Rep.zmono {w' : Wo} (hn : w'.n = w.n) (hio : w'.io = w.io) (hz : ∀ a, w.Z a → w'.Z a) : ∀ (t : T) (v : V), Rep G w H t v → Rep G w' H t v
  | .non, v, h => h
  | .bl b, v, h => h
  | .int i, v, h => h
  | .str x, v, h => h
  | .tup ts, v, ⟨p, vs, e, h, r⟩ => ⟨p, vs, e, h, Reps.zmono hn hio hz ts vs r⟩
  | .lst ts, v, ⟨p, vs, e, z, h, r⟩ => ⟨p, vs, e, hz _ z, h, Reps.zmono hn hio hz ts vs r⟩
  | .loc l, v, ⟨h, e⟩ => ⟨by rw [hn]; exact h, by rw [hio]; exact e⟩
  | .exc c, v, h => h
theorem Reps.zmono {w' : Wo} (hn : w'.n = w.n) (hio : w'.io = w.io) (hz : ∀ a, w.Z a → w'.Z a) : ∀ (ts : List T) (vs : List V), Reps G w H ts vs → Reps G w' H ts vs
  | [], vs, h => h
  | t :: ts, vs, ⟨v, r, e, h, q⟩ => ⟨v, r, e, Rep.zmono hn hio hz t v h, Reps.zmono hn hio hz ts r q⟩
end
theorem StoOk.upd {s : Sto} {a : Addr} {xs ys : List V} (S : StoOk G w H s) (ha : H a = some (.lst xs)) (hz : ¬ w.Z a) (hl : IP.notLoc w a) : StoOk G w (L2.upd H a (.lst ys)) s where
  len := S.len
  inj := S.inj
  nz := S.nz
  cell := fun l c e => by
    have h : l < w.n := by rw [← S.len]; exact (List.getElem?_eq_some_iff.mp e).1
    have q := S.cell l c e
    have ne : w.io l ≠ a := fun z => hl l h z.symm
    cases c with
    | lst ts => obtain ⟨vs, q1, q2⟩ := q; exact ⟨vs, by rw [upd_ne ne]; exact q1, Reps.upd ha hz ts vs q2⟩
    | ins c fs => obtain ⟨dx, kvs, q1, q2, q3⟩ := q; exact ⟨dx, kvs, by rw [upd_ne ne]; exact q1, q2, fun i x t h1 h2 => let ⟨v, z1, z2⟩ := q3 i x t h1 h2; ⟨v, z1, Rep.upd ha hz t v z2⟩⟩
  zt := fun p z => by
    obtain ⟨vs, r⟩ := S.zt p z
    have ne : p ≠ a := fun q => hz (q ▸ z)
    rcases r with r | ⟨o, r⟩
    · exact ⟨vs, .inl (by rw [upd_ne ne]; exact r)⟩
    · exact ⟨vs, .inr ⟨o, by rw [upd_ne ne]; exact r⟩⟩
theorem StoOk.addZ {s : Sto} {a : Addr} {xs : List V} (S : StoOk G w H s) (ha : H a = some (.lst xs)) (hl : IP.notLoc w a) : StoOk G (w.addZ a) H s where
  len := S.len
  inj := S.inj
  nz := fun l h z => z.elim (S.nz l h) fun q => hl l h q.symm
  cell := fun l c e => by
    have q := S.cell l c e
    cases c with
    | lst ts => obtain ⟨vs, q1, q2⟩ := q; exact ⟨vs, q1, Reps.zmono (w := w) (w' := w.addZ a) rfl rfl (fun _ z => .inl z) ts vs q2⟩
    | ins c fs => obtain ⟨dx, kvs, q1, q2, q3⟩ := q; exact ⟨dx, kvs, q1, q2, fun i x t h1 h2 => let ⟨v, z1, z2⟩ := q3 i x t h1 h2; ⟨v, z1, Rep.zmono (w := w) (w' := w.addZ a) rfl rfl (fun _ z => .inl z) t v z2⟩⟩
  zt := fun p z => z.elim (S.zt p) fun q => ⟨xs, .inl (by rw [q]; exact ha)⟩
theorem Le.updNew {w' : Wo} {H' : Hp} {a : Addr} {o : HO} (L : Le w w' H H') (ha : H a = none) (hs : H' a ≠ none) : Le w w' H (L2.upd H' a o) where
  n := L.n
  io := L.io
  Z := L.Z
  keep := fun p q e nl => by rw [upd_ne (zabk e ha)]; exact L.keep p q e nl
  newL := L.newL
  newZ := L.newZ
  some_ := fun p z => by
    by_cases e : p = a
    · subst e; exact absurd ha z
    · rw [upd_ne e]; exact L.some_ p z
theorem Le.addZ {w' : Wo} {H' : Hp} {a : Addr} (L : Le w w' H H') (ha : H a = none) : Le w (w'.addZ a) H H' where
  n := L.n
  io := L.io
  Z := fun p z => .inl (L.Z p z)
  keep := L.keep
  newL := L.newL
  newZ := fun p z => z.elim (L.newZ p) fun q => .inr (q ▸ ha)
  some_ := L.some_
theorem want_o {X : Cx} {σV : St} {res : Res R} {Q : VK} (hv : ∀ r s, res = .ok r s → ∃ ts, r = .val (.lst ts)) (h : Want G X σV w H res Q) : WantO G X σV w H res Q := by
  cases res with
  | stuck => exact h
  | exc c s => exact h
  | ok r s =>
    obtain ⟨ts, rfl⟩ := hv r s rfl
    intro w' H' a vs L S ha r hn nz nl
    exact h (w'.addZ a) H' (.ref a) (L.addZ hn) (S.addZ ha nl) ⟨a, vs, rfl, .inr rfl, .inl ha, Reps.zmono (w := w') (w' := w'.addZ a) rfl rfl (fun _ z => .inl z) ts vs r⟩
theorem FrOk.put {σ : Fr} {σV : St} {i : Nat} {t : T} {v : V} (F : FrOk G w H H₀ σ σV) (r : Rep G w H t v) : FrOk G w H H₀ (put σ i t) (σV.set i (some v)) where
  len := by unfold IP.put; simp [F.len]
  val := fun j u e => by
    unfold IP.put at e
    by_cases hj : i = j
    · subst hj
      have hlt : i < σ.length := by
        have := (List.getElem?_eq_some_iff.mp e).1
        simpa using this
      rw [List.getElem?_set_self hlt] at e
      cases e
      exact ⟨v, by rw [List.getElem?_set_self (by rw [← F.len]; exact hlt)], r⟩
    · rw [List.getElem?_set_ne hj] at e
      obtain ⟨x, h1, h2⟩ := F.val j u e
      exact ⟨x, by rw [List.getElem?_set_ne hj]; exact h1, h2⟩
  own := fun j b ts e eb => by
    unfold IP.put at e
    by_cases hj : i = j
    · subst hj
      have hlt : i < σ.length := by
        have := (List.getElem?_eq_some_iff.mp e).1
        simpa using this
      rw [List.getElem?_set_self hlt] at e
      cases e
      cases eb
    · rw [List.getElem?_set_ne hj] at e
      obtain ⟨a, vs, h1, h2⟩ := F.own j b ts e eb
      exact ⟨a, vs, by rw [List.getElem?_set_ne hj]; exact h1, h2⟩
  apart := fun j k b c ts us a hjk e1 eb e2 ec e3 e4 => by
    unfold IP.put at e1 e2
    have nj : i ≠ j := fun q => by
      subst q
      have hlt : i < σ.length := by
        have := (List.getElem?_eq_some_iff.mp e1).1
        simpa using this
      rw [List.getElem?_set_self hlt] at e1
      cases e1
      cases eb
    have nk : i ≠ k := fun q => by
      subst q
      have hlt : i < σ.length := by
        have := (List.getElem?_eq_some_iff.mp e2).1
        simpa using this
      rw [List.getElem?_set_self hlt] at e2
      cases e2
      cases ec
    rw [List.getElem?_set_ne nj] at e1 e3
    rw [List.getElem?_set_ne nk] at e2 e4
    exact F.apart j k b c ts us a hjk e1 eb e2 ec e3 e4
  bor := fun j ts e => by
    unfold IP.put at e
    by_cases hj : i = j
    · subst hj
      have hlt : i < σ.length := by
        have := (List.getElem?_eq_some_iff.mp e).1
        simpa using this
      rw [List.getElem?_set_self hlt] at e
      cases e
    · rw [List.getElem?_set_ne hj] at e
      obtain ⟨a, vs, h1, h2⟩ := F.bor j ts e
      exact ⟨a, vs, by rw [List.getElem?_set_ne hj]; exact h1, h2⟩
def setsV (σV : St) : List Nat → List V → St
  | [], _ => σV
  | _, [] => σV
  | i :: is, v :: vs => setsV (σV.set i (some v)) is vs
theorem zadi : ∀ (is : List Nat) (vs : List V) (σV : St), (setsV σV is vs).length = σV.length
  | [], _, σV => rfl
  | i :: is, [], σV => rfl
  | i :: is, v :: vs, σV => by show (setsV (σV.set i (some v)) is vs).length = _; rw [zadi is vs]; simp
theorem FrOk.puts : ∀ {is : List Nat} {ts : List T} {vs : List V} {σ σ' : Fr} {σV : St}, FrOk G w H H₀ σ σV → Reps G w H ts vs → IP.puts σ is ts = some σ' → FrOk G w H H₀ σ' (setsV σV is vs)
  | [], [], vs, σ, σ', σV, F, r, h => by cases h; exact F
  | [], _ :: _, vs, σ, σ', σV, F, r, h => by cases h
  | _ :: _, [], vs, σ, σ', σV, F, r, h => by cases h
  | i :: is, t :: ts, _, σ, σ', σV, F, ⟨v, r, e, h1, h2⟩, h => by
    subst e
    have z := FrOk.puts (is := is) (ts := ts) (vs := r) (σ' := σ') (F.put (i := i) h1) h2 h
    exact z
theorem set_comm' {σV : St} {i j : Nat} {x y : Option V} (h : i ≠ j) : (σV.set i x).set j y = (σV.set j y).set i x := List.set_comm x y h
theorem zae5 {σV : St} {j : Nat} {x : Option V} : ∀ {js : List Nat}, j ∉ js → clr (σV.set j x) js = (clr σV js).set j x
  | [], _ => rfl
  | k :: js, h => by
    show clr ((σV.set j x).set k none) js = (clr (σV.set k none) js).set j x
    rw [set_comm' (fun q => h (by simp [q]))]
    exact zae5 (σV := σV.set k none) fun q => h (List.mem_cons_of_mem _ q)
theorem zads : ∀ {js : List Nat} {vs : List V} {σV : St}, js.Nodup → js.length = vs.length → setsV (clr σV js) js vs = setsV σV js vs
  | [], [], σV, _, _ => rfl
  | j :: js, v :: vs, σV, hn, hl => by
    obtain ⟨h1, h2⟩ := List.nodup_cons.mp hn
    show setsV ((clr (σV.set j none) js).set j (some v)) js vs = setsV (σV.set j (some v)) js vs
    rw [zae5 h1, List.set_set, ← zae5 h1]
    exact zads h2 (by simpa using hl)
  | j :: js, [], σV, hn, hl => by simp at hl
  | [], _ :: _, σV, hn, hl => by simp at hl
end
end IP
end
section
set_option Elab.async false
set_option linter.all false
set_option maxRecDepth 100000
namespace IP
open PySem PySem.Spec L2
section
variable {prog : Program} {w : World} {A : Around} {E : Value → Shared → Prop} {s : Shared}
theorem zafh {it l : Addr} {items : Array Value} (hne : l ≠ it) : ∀ (n i : Nat) (s : Shared) (Q : List Value → Shared → Prop), s.heap.IsListIter it l i → s.heap.IsList l items → i + n ≤ items.size →
    (∀ h', h'.IsListIter it l (i + n) → Heap.SameBut it s.heap h' → Q ((items.toList.drop i).take n) { s with heap := h' }) → wpAny (model prog w) A (draw (.ref it) n) Q E s
  | 0, i, s, Q, hit, _, _, hQ => by
    show wpAny _ _ (pure []) Q E s
    exact wpAny_pure (by simpa using hQ s.heap hit (Heap.SameBut.refl ..))
  | n + 1, i, s, Q, hit, ht, hle, hQ => by
    have hlt : i < items.size := by omega
    show wpAny _ _ (pyNext (.ref it) >>= _) Q E s
    refine wpAny_bind (wpAny_pyNext_list_item hit ht (x := items[i]) (by simp [hlt]) fun h₁ hit₁ hs₁ => ?_)
    refine wpAny_bind (wpAny_holding (zafh hne n (i + 1) _ _ hit₁ (ht.extBut hs₁.extBut hne) (by omega) fun h₂ hit₂ hs₂ => wpAny_pure ?_))
    have hd : items.toList.drop i = items[i] :: items.toList.drop (i + 1) := by simp [List.drop_eq_getElem_cons, hlt]
    have := hQ h₂ (by rw [show i + (n + 1) = i + 1 + n by omega]; exact hit₂) (hs₁.trans hs₂)
    rw [hd, List.take_succ_cons] at this
    exact this
theorem zabz {l : Addr} {items : Array Value} {Q : List Value → Shared → Prop} (hh : A.handled = none) (ht : s.heap.IsList l items)
    (hQ : ∀ h', Heap.ExtBut s.heap.objs.size s.heap h' → Q items.toList { s with heap := h' }) : wpAny (model prog w) A (unpackItems (.ref l) items.size none) Q E s := by
  have hlt : l ≠ s.heap.objs.size := by obtain ⟨o, ho, _⟩ := ht; exact Nat.ne_of_lt (Heap.lt_size ho)
  unfold unpackItems
  refine wpAny_bind ?_
  · unfold notIterableAtAll
    refine wpAny_bind (wpAny_specialOf ht.typeIs slot_list_iter.lookup ?_)
    refine wpAny_pure ?_
    simp only [Bool.false_eq_true, if_false]
    refine wpAny_bind (wpAny_holding (wpAny_pyIter_list ht ?_))
    have ht0 : (s.heap.push { cls := .type "list_iterator", data := .fields #[.ref l, .int 0 0] }).IsList l items := ht.extBut (b := s.heap.objs.size) (fun b o _ e => Heap.get?_push_of_some _ e) hlt
    refine wpAny_bind (wpAny_holding (zafh hlt items.size 0 _ _ ⟨_, Heap.get?_push_size _ rfl, rfl, rfl⟩ ht0 (by omega) fun h₁ hit₁ hs₁ => ?_))
    have hall : List.take items.size (List.drop 0 items.toList) = items.toList := by
      rw [List.drop_zero]; exact List.take_of_length_le (by simp)
    rw [hall]
    rw [if_neg (by simp)]
    have ht₁ : h₁.IsList l items := ht0.extBut hs₁.extBut hlt
    refine wpAny_bind (wpAny_holding (wpAny_pyNext_list_end hh hit₁ ht₁ (by simp) fun h₂ he₂ => ?_))
    simp only [Option.isSome_none, Bool.false_eq_true, if_false]
    refine wpAny_pure (hQ h₂ fun b o hb e => he₂ b o hb (hs₁.extBut b o hb (Heap.get?_push_of_some _ e)))
theorem zabp {env : Env} {elts : List Expr} {x1} {pos : Pos} {l : Addr} {items : Array Value} {Q : Unit → Shared → Prop} (hh : A.handled = none) (ht : s.heap.IsList l items)
    (hn : (assignEach elts env).length = items.size) (hstar : (assignEach elts env).findIdx? (·.1) = none)
    (h : ∀ h', Heap.ExtBut s.heap.objs.size s.heap h' → wpAny (model prog w) A (assignInOrder ((assignEach elts env).map (·.2)) items.toList) Q E { s with heap := h' }) :
    wpAny (model prog w) A (assign (.Tuple elts x1 pos) env (.ref l)) Q E s := by
  rw [PyProof.Rows.assign_Tuple]
  refine wpAny_bind (wpAny_standAt ?_)
  unfold unpack
  rw [hn, hstar]
  exact wpAny_bind (wpAny_holding (zabz hh ht h))
end
section
variable {X : Cx}
theorem pg_lst {es : List Expr} {k : Nat} {t : TGs} {n : Nat} {pos : Pos} (hc : X.calm = true) (h : PGs X es t) (hn : (assignEach es X.env).length = n) (hst : (assignEach es X.env).findIdx? (·.1) = none) :
    PG X (.Tuple es k pos) (fun v σ H Q => ∃ a xs, v = .ref a ∧ Rd H a (.lst xs) ∧ xs.length = n ∧ t xs σ H Q) := by
  intro pins s σ H v u Q I r hw
  obtain ⟨a, xs, e1, hq, hl, hw⟩ := hw
  subst e1
  cases r
  obtain ⟨its, rv, p⟩ := zaa0 I hq
  refine zabp (I.ok.hd hc) p (by simp [hn, ← hl, rv.length]) hst fun h' hx => ?_
  have I1 : Inv X pins σ H { s with heap := h' } := I.kept (t' := s.toks) fun b o e => hx b o (Nat.ne_of_lt (Heap.lt_size e)) e
  exact h pins _ σ H xs _ Q I1 (by simpa using rv) hw
end
end IP
end
section
set_option Elab.async false
set_option linter.all false
set_option maxRecDepth 100000
namespace IP
open PySem PySem.Spec L2
inductive Src where
  | l (a : Addr) (vs : List V) | t (a : Addr) (vs : List V) | r (lo : Int) (n : Nat)
def itOf (K : PySem.W.Frag) : Src → It
  | .l a _ => Itl K a
  | .t a _ => Itt K a
  | .r lo n => Itr lo n
def SrcOk (G : Gx) (w : Wo) (H : Hp) (z : Bool) : Src → List T → Prop
  | .l a vs, ts => Rd H a (.lst vs) ∧ Reps G w H ts vs ∧ notLoc w a ∧ (z = true → w.Z a)
  | .t a vs, ts => H a = some (.tup vs) ∧ Reps G w H ts vs
  | .r lo n, ts => ts = (List.range n).map (fun (k : Nat) => T.int (lo + k)) ∧ n ≤ sizeLine
section
variable {G : Gx} {X : Cx} {C : Cf} {w w' : Wo} {H H' : Hp}
theorem Rd.some {a : Addr} {u : HO} (r : Rd H a u) : H a ≠ none := by
  rcases r with r | ⟨o, r⟩ <;> (rw [r]; intro z; cases z)
theorem SrcOk.mono {z : Bool} {s : Sto} (L : Le w w' H H') (S : StoOk G w H s) : ∀ {src : Src} {ts : List T}, SrcOk G w H z src ts → SrcOk G w' H' z src ts
  | .l a vs, ts, ⟨h1, h2, h3, h4⟩ => ⟨Rd.keep L h3 h1, Reps.mono L S ts vs h2, notLoc.mono L (Rd.some h1) h3, fun q => L.Z a (h4 q)⟩
  | .t a vs, ts, ⟨h1, h2⟩ => ⟨L.keep _ _ h1 (S.notLoc h1 (fun _ z => by cases z) fun _ _ _ z => by cases z), Reps.mono L S ts vs h2⟩
  | .r lo n, ts, h => h
def SrcNow (G : Gx) (w : Wo) (H : Hp) : Src → List T → Prop
  | .l a _, ts => ∃ vs, Rd H a (.lst vs) ∧ Reps G w H ts vs
  | .t a vs, ts => H a = some (.tup vs) ∧ Reps G w H ts vs
  | .r lo n, ts => ts = (List.range n).map (fun (k : Nat) => T.int (lo + k)) ∧ n ≤ sizeLine
theorem SrcOk.now {z : Bool} : ∀ {src : Src} {ts : List T}, SrcOk G w H z src ts → SrcNow G w H src ts
  | .l _ vs, _, h => ⟨vs, h.1, h.2.1⟩
  | .t _ _, _, h => h
  | .r _ _, _, h => h
theorem SrcNow.go : ∀ {src : Src} {ts : List T} {K : PySem.W.Frag} {i : Nat} {t : T}, SrcNow G w H src ts → ts[i]? = some t → (itOf K src).go i H ∧ ∀ x H', (itOf K src).yld i H x H' → H' = H ∧ Rep G w H t x
  | .l a _, ts, K, i, t, ⟨vs, h1, h2⟩, e => by
    obtain ⟨v, e1, r⟩ := h2.get e
    refine ⟨⟨vs, v, .inl h1, e1⟩, fun x H' ⟨q1, q2⟩ => ⟨q1, ?_⟩⟩
    have := q2 vs (.inl h1)
    rw [e1] at this
    cases this
    exact r
  | .t a vs, ts, K, i, t, ⟨h1, h2⟩, e => by
    obtain ⟨v, e1, r⟩ := h2.get e
    refine ⟨⟨vs, v, SqT.of h1, e1⟩, fun x H' ⟨q1, q2⟩ => ⟨q1, ?_⟩⟩
    have := q2 vs (SqT.of h1)
    rw [e1] at this
    cases this
    exact r
  | .r lo n, ts, K, i, t, ⟨h1, _⟩, e => by
    subst h1
    rw [List.getElem?_map] at e
    obtain ⟨k, hk, rfl⟩ := map_some e
    obtain ⟨hi, hk⟩ := List.getElem?_eq_some_iff.mp hk
    simp at hi hk
    subst hk
    refine ⟨hi, fun x H' ⟨q1, q2⟩ => ⟨q1, ?_⟩⟩
    rw [q2]
    exact rfl
theorem SrcNow.stop : ∀ {src : Src} {ts : List T} {K : PySem.W.Frag}, SrcNow G w H src ts → (itOf K src).stop ts.length H
  | .l a _, ts, K, ⟨vs, h1, h2⟩ => ⟨vs, .inl h1, by rw [h2.length]; exact Nat.le_refl _⟩
  | .t a vs, ts, K, ⟨h1, h2⟩ => ⟨vs, SqT.of h1, by rw [h2.length]; exact Nat.le_refl _⟩
  | .r lo n, ts, K, ⟨h1, _⟩ => by subst h1; show n ≤ _; simp
theorem SrcNow.small {pins : List (Addr × Obj)} {σ : St} {s : Shared} (I : Inv X pins σ H s) : ∀ {src : Src} {ts : List T}, SrcNow G w H src ts → ts.length ≤ sizeLine
  | .l a _, ts, ⟨vs, h1, h2⟩ => by rw [h2.length]; exact (Rd.lst I h1).1
  | .t a vs, ts, ⟨h1, h2⟩ => by
    rw [h2.length]
    exact (I.hok a _ h1).1
  | .r lo n, ts, ⟨h1, h2⟩ => by subst h1; simpa using h2
theorem SrcOk.go {z : Bool} {src : Src} {ts : List T} {K : PySem.W.Frag} {i : Nat} {t : T} (h : SrcOk G w H z src ts) (e : ts[i]? = some t) : (itOf K src).go i H ∧ ∀ x H', (itOf K src).yld i H x H' → H' = H ∧ Rep G w H t x := h.now.go e
theorem SrcOk.stop {z : Bool} {src : Src} {ts : List T} {K : PySem.W.Frag} (h : SrcOk G w H z src ts) : (itOf K src).stop ts.length H := h.now.stop
theorem SrcOk.small {z : Bool} {pins : List (Addr × Obj)} {σ : St} {s : Shared} (I : Inv X pins σ H s) {src : Src} {ts : List T} (h : SrcOk G w H z src ts) : ts.length ≤ sizeLine := h.now.small I
def WantI (G : Gx) (X : Cx) (σV : St) (w : Wo) (H : Hp) (z : Bool) (res : Res R) (Q : It → Hp → Prop) : Prop := match res with
  | .ok (.val (.lst ts)) s' => ∀ w' H' src, Le w w' H H' → StoOk G w' H' s' → SrcOk G w' H' z src ts → Q (itOf X.K src) H'
  | .exc c s' => ∀ w' H' pins u sh, Le w w' H H' → StoOk G w' H' s' → Thrown G X pins σV H' c u sh → X.xe u sh
  | _ => False
def tI (G : Gx) (X : Cx) (C : Cf) (e : E) (m : Md) (z : Bool) : TI := fun σV H R => ∃ w₀ H₀ w σ s, Good G w₀ H₀ w H σ s σV ∧ WantI G X σV w H z (ev C e m σ s) R
theorem PI.imp {tg e : Expr} {t t' : TI} (h : PI X tg e t) (q : ∀ σ H R, t' σ H R → t σ H R) : PI X tg e t' := fun pins s σ H R I z => h pins s σ H R I (q _ _ _ z)
theorem pi_seq {tg l : Expr} {tl : TE} (hl : PE X l tl) : PI X tg l (fun σ H R => tl σ H fun x H1 => ∃ a, x = .ref a ∧ ((∃ xs, Rd H1 a (.lst xs) ∧ R (Itl X.K a) H1) ∨ ∃ xs, H1 a = some (.tup xs) ∧ R (Itt X.K a) H1)) := by
  intro pins s σ H R I h
  refine thn (hl pins s σ H _ I h) fun v s1 ⟨x, H1, I1, r1, q1⟩ => ?_
  obtain ⟨a, e, q⟩ := q1
  subst e
  cases r1
  have hf : ∀ b ∈ [s1.heap.objs.size], FpOk X pins H1 b := fun b hb => by
    have e : b = s1.heap.objs.size := by simpa using hb
    subst e
    exact I1.fpOk (Nat.le_refl _) (I1.hok.fresh (Nat.le_refl _))
  rcases q with ⟨xs, hq, q⟩ | ⟨xs, hq, q⟩
  · obtain ⟨its, rv, p⟩ := zaa0 I1 hq
    refine wpAny_pyIter_list p ?_
    exact ⟨s1.heap.objs.size, [s1.heap.objs.size], _, _, H1, rfl, I1.kept (t' := s1.toks) fun b o e => Heap.get?_push_of_some _ e, turn_list a _, ⟨_, Heap.get?_push_size _ rfl, rfl, rfl⟩, hf, q⟩
  · obtain ⟨its, rv, p⟩ := zaa3 I1 hq
    refine wpAny_pyIter_tuple p ?_
    exact ⟨s1.heap.objs.size, [s1.heap.objs.size], _, _, H1, rfl, I1.kept (t' := s1.toks) fun b o e => Heap.get?_push_of_some _ e, zael a _, ⟨_, Heap.get?_push_size _ rfl, rfl, rfl⟩, hf, q⟩
theorem sI_plain {tg e : Expr} {e' : E} {m : Md} {z : Bool} (hE : PE X e (tV G X C e')) (hm : m = .i ∧ z = false ∨ m = .j ∧ z = true)
    (hev : ∀ σ s, ev C e' m σ s = fin m (ev C e' .v σ s)) : PI X tg e (tI G X C e' m z) := by
  refine PI.imp (pi_seq hE) ?_
  rintro σV H R ⟨w₀, H₀, w, σ, s, g, h⟩
  rw [hev] at h
  refine ⟨w₀, H₀, w, σ, s, g, ?_⟩
  cases he : ev C e' .v σ s with
  | stuck => rw [he] at h; rcases hm with ⟨rfl, rfl⟩ | ⟨rfl, rfl⟩ <;> exact h
  | exc c s1 => rw [he] at h; rcases hm with ⟨rfl, rfl⟩ | ⟨rfl, rfl⟩ <;> exact h
  | ok x s1 =>
    rw [he] at h
    intro w1 H1 v L1 S1 R1
    match x, R1 with
    | .val (.lst ts), ⟨a, vs, e, hz, hr, rp⟩ =>
      subst e
      refine ⟨a, rfl, .inl ⟨vs, hr, ?_⟩⟩
      rcases hm with ⟨rfl, rfl⟩ | ⟨rfl, rfl⟩ <;> exact h w1 H1 (.l a vs) L1 S1 ⟨hr, rp, S1.zLoc hz, fun _ => hz⟩
    | .val (.tup ts), ⟨a, vs, e, hr, rp⟩ =>
      subst e
      refine ⟨a, rfl, .inr ⟨vs, hr, ?_⟩⟩
      rcases hm with ⟨rfl, rfl⟩ | ⟨rfl, rfl⟩ <;> exact h w1 H1 (.t a vs) L1 S1 ⟨hr, rp⟩
    | .bor ts, ⟨a, vs, e, hr, rp, nl⟩ =>
      subst e
      rcases hm with ⟨rfl, rfl⟩ | ⟨rfl, rfl⟩
      · exact ⟨a, rfl, .inl ⟨vs, .inl hr, h w1 H1 (.l a vs) L1 S1 ⟨.inl hr, rp, nl, fun z => by cases z⟩⟩⟩
      · exact h.elim
    | .val .non, _ => rcases hm with ⟨rfl, rfl⟩ | ⟨rfl, rfl⟩ <;> exact h.elim
    | .val (.bl _), _ => rcases hm with ⟨rfl, rfl⟩ | ⟨rfl, rfl⟩ <;> exact h.elim
    | .val (.int _), _ => rcases hm with ⟨rfl, rfl⟩ | ⟨rfl, rfl⟩ <;> exact h.elim
    | .val (.str _), _ => rcases hm with ⟨rfl, rfl⟩ | ⟨rfl, rfl⟩ <;> exact h.elim
    | .val (.loc _), _ => rcases hm with ⟨rfl, rfl⟩ | ⟨rfl, rfl⟩ <;> exact h.elim
    | .val (.exc _), _ => rcases hm with ⟨rfl, rfl⟩ | ⟨rfl, rfl⟩ <;> exact h.elim
theorem bnd_of {i : Int} (h : bnd i = true) : -(2 ^ 62) ≤ i ∧ i < 2 ^ 62 := by
  unfold bnd at h
  rw [Bool.and_eq_true, decide_eq_true_iff, decide_eq_true_iff] at h
  exact h
theorem lim_le : lim ≤ sizeLine := by decide
theorem sI_rng1 {tg a : Expr} {a' : E} {p pos : Pos} {m : Md} {z : Bool} (hm : m = .i ∨ m = .j) (hg : Gl X "range") (hmg : X.mg "range" = none) (ha : PE X a (tV G X C a')) (hs : starEach [a] X.env = [(false, eval a X.env)]) : PI X tg (.Call (.Name "range" p) [a] [] pos) (tI G X C (.rng1 a') m z) := by
  refine PI.imp (pi_range1 hg hmg (zaaw ha pa_nil hs) hs) ?_
  rintro σV H R ⟨w₀, H₀, w, σ, s, g, h⟩
  have h : WantI G X σV w H z ((ev C a' .v σ s).bind fun x s1 => onI x fun j => if bnd j && decide (j ≤ lim) then .ok (.val (.lst (rangeT 0 j))) s1 else .stuck) R := by rcases hm with rfl | rfl <;> exact h
  refine ⟨w₀, H₀, w, σ, s, g, ?_⟩
  cases he : ev C a' .v σ s with
  | stuck => rw [he] at h; exact h
  | exc c s1 => rw [he] at h; exact h
  | ok x s1 =>
    rw [he] at h
    intro w1 H1 v L1 S1 R1
    match x, R1, h with
    | .val (.int j), R1, h =>
      cases R1
      have h : WantI G X σV w H z (if bnd j && decide (j ≤ lim) then .ok (.val (.lst (rangeT 0 j))) s1 else .stuck) R := h
      split at h
      · rename_i hb
        rw [Bool.and_eq_true, decide_eq_true_iff] at hb
        refine ⟨j, rfl, (bnd_of hb.1).1, (bnd_of hb.1).2, ?_⟩
        refine h w1 H1 (.r 0 j.toNat) L1 S1 ⟨?_, ?_⟩
        · unfold rangeT; simp
        · have := lim_le; omega
      · exact h.elim
    | .val .non, _, h => exact h.elim
    | .val (.bl _), _, h => exact h.elim
    | .val (.str _), _, h => exact h.elim
    | .val (.tup _), _, h => exact h.elim
    | .val (.lst _), _, h => exact h.elim
    | .val (.loc _), _, h => exact h.elim
    | .val (.exc _), _, h => exact h.elim
    | .bor _, _, h => exact h.elim
theorem sI_rng2 {tg a b : Expr} {a' b' : E} {p pos : Pos} {m : Md} {z : Bool} (hm : m = .i ∨ m = .j) (hg : Gl X "range") (hmg : X.mg "range" = none) (ha : PE X a (tV G X C a')) (hb : PE X b (tV G X C b')) (hs : starEach [a, b] X.env = [(false, eval a X.env), (false, eval b X.env)]) (hs2 : starEach [b] X.env = [(false, eval b X.env)]) : PI X tg (.Call (.Name "range" p) [a, b] [] pos) (tI G X C (.rng2 a' b') m z) := by
  refine PI.imp (pi_range2 hg hmg (zaaw ha (zaaw hb pa_nil hs2) (by rw [hs, hs2])) hs hs2) ?_
  rintro σV H R ⟨w₀, H₀, w, σ, s, g, h⟩
  have h : WantI G X σV w H z ((ev C a' .v σ s).bind fun x s1 => onI x fun i => (ev C b' .v σ s1).bind fun y s2 => onI y fun j => if bnd i && bnd j && decide (j - i ≤ lim) then .ok (.val (.lst (rangeT i j))) s2 else .stuck) R := by rcases hm with rfl | rfl <;> exact h
  refine ⟨w₀, H₀, w, σ, s, g, ?_⟩
  cases he : ev C a' .v σ s with
  | stuck => rw [he] at h; exact h
  | exc c s1 => rw [he] at h; exact h
  | ok x s1 =>
    rw [he] at h
    intro w1 H1 v L1 S1 R1
    match x, R1, h with
    | .val (.int i), R1, h =>
      cases R1
      refine ⟨w₀, H₀, w1, σ, s1, g.step L1 S1, ?_⟩
      have h : WantI G X σV w H z ((ev C b' .v σ s1).bind fun y s2 => onI y fun j => if bnd i && bnd j && decide (j - i ≤ lim) then .ok (.val (.lst (rangeT i j))) s2 else .stuck) R := h
      cases hf : ev C b' .v σ s1 with
      | stuck => rw [hf] at h; exact h
      | exc c s2 => rw [hf] at h; exact fun w2 H2 pins u sh L2 => h w2 H2 pins u sh (L1.trans L2)
      | ok y s2 =>
        rw [hf] at h
        intro w2 H2 v2 M2 S2 R2
        match y, R2, h with
        | .val (.int j), R2, h =>
          cases R2
          have h : WantI G X σV w H z (if bnd i && bnd j && decide (j - i ≤ lim) then .ok (.val (.lst (rangeT i j))) s2 else .stuck) R := h
          split at h
          · rename_i hb
            rw [Bool.and_eq_true, Bool.and_eq_true, decide_eq_true_iff] at hb
            refine ⟨i, j, rfl, ⟨(bnd_of hb.1.1).1, (bnd_of hb.1.1).2, (bnd_of hb.1.2).1, (bnd_of hb.1.2).2⟩, ?_⟩
            refine h w2 H2 (.r i (j - i).toNat) (L1.trans M2) S2 ⟨rfl, ?_⟩
            have := lim_le
            omega
          · exact h.elim
        | .val .non, _, h => exact h.elim
        | .val (.bl _), _, h => exact h.elim
        | .val (.str _), _, h => exact h.elim
        | .val (.tup _), _, h => exact h.elim
        | .val (.lst _), _, h => exact h.elim
        | .val (.loc _), _, h => exact h.elim
        | .val (.exc _), _, h => exact h.elim
        | .bor _, _, h => exact h.elim
    | .val .non, _, h => exact h.elim
    | .val (.bl _), _, h => exact h.elim
    | .val (.str _), _, h => exact h.elim
    | .val (.tup _), _, h => exact h.elim
    | .val (.lst _), _, h => exact h.elim
    | .val (.loc _), _, h => exact h.elim
    | .val (.exc _), _, h => exact h.elim
    | .bor _, _, h => exact h.elim
def slots : Tg → List Nat
  | .one i => [i]
  | .many is => is
def gTg (G : Gx) (g : Tg) : TG := fun v σV H Q => ∃ w s t σ σ', StoOk G w H s ∧ Rep G w H t v ∧ bindTg σ g t = some σ' ∧ ∀ vs, (∀ H₀ σV', FrOk G w H H₀ σ σV' → FrOk G w H H₀ σ' (setsV σV' (slots g) vs)) → vs.length = (slots g).length → Q (setsV σV (slots g) vs) H
theorem PG.imp {tg : Expr} {t t' : TG} (h : PG X tg t) (q : ∀ v σ H Q, t' v σ H Q → t v σ H Q) : PG X tg t' := fun pins s σ H v u Q I r z => h pins s σ H v u Q I r (q _ _ _ _ z)
theorem sG_one {i : Nat} {x : Str} {pos : Pos} (hN : X.N.Nodup) (hi : X.N[i]? = some x) (hx : Loc X.env.scope x) (hf : X.fn x = true ∨ X.env.scope.names.lookup x = some .local) : PG X (.Name x pos) (gTg G (.one i)) := by
  refine PG.imp (pg_name hN hi hx hf) ?_
  rintro v σV H Q ⟨w, s, t, σ, σ', S, r, e, q⟩
  cases e
  exact q [v] (fun H₀ σV' F => F.put r) rfl
def gMany (js : List Nat) : TGs := fun vs σ H Q => vs.length = js.length ∧ Q (setsV σ js vs) H
theorem PGs.imp {ts : List Expr} {t t' : TGs} (h : PGs X ts t) (q : ∀ v σ H Q, t' v σ H Q → t v σ H Q) : PGs X ts t' := fun pins s σ H v u Q I r z => h pins s σ H v u Q I r (q _ _ _ _ z)
theorem sG_nil : PGs X [] (gMany []) := PGs.imp pgs_nil fun vs σ H Q ⟨h, q⟩ => by
  have : vs = [] := List.length_eq_zero_iff.mp h
  subst this
  exact ⟨rfl, q⟩
theorem sG_cons {i : Nat} {js : List Nat} {x : Str} {pos : Pos} {es : List Expr} (hN : X.N.Nodup) (hi : X.N[i]? = some x) (hx : Loc X.env.scope x) (hf : X.fn x = true ∨ X.env.scope.names.lookup x = some .local) (h2 : PGs X es (gMany js)) : PGs X (.Name x pos :: es) (gMany (i :: js)) := by
  refine PGs.imp (pgs_cons (pg_name hN hi hx hf) h2 rfl) ?_
  rintro vs σ H Q ⟨h, q⟩
  match vs, h, q with
  | v :: r, h, q => exact ⟨v, r, rfl, by simpa using h, q⟩
theorem zac0 : ∀ {is : List Nat} {ts : List T} {σ σ' : Fr}, puts σ is ts = some σ' → is.length = ts.length
  | [], [], _, _, _ => rfl
  | [], _ :: _, _, _, h => by cases h
  | _ :: _, [], _, _, h => by cases h
  | i :: is, t :: ts, σ, σ', h => by simp [zac0 (is := is) (ts := ts) (σ := put σ i t) h]
theorem sG_many {js : List Nat} {es : List Expr} {k : Nat} {pos : Pos} (hc : X.calm = true) (h : PGs X es (gMany js)) (hn : (assignEach es X.env).length = js.length) (hst : (assignEach es X.env).findIdx? (·.1) = none) : PG X (.Tuple es k pos) (gTg G (.many js)) := by
  rintro pins s0 σV H v u Q I ru ⟨w, s, t, σ, σ', S, r, e, q⟩
  match t, r, e with
  | .tup ts, ⟨a, vs, e1, hp, rp⟩, e =>
    have e : puts σ js ts = some σ' := e
    have hl := zac0 e
    refine pg_tup hc h hn hst pins s0 σV H v u Q I ru ⟨a, vs, e1, SqT.of hp, by rw [← rp.length, hl], by rw [← rp.length, hl], ?_⟩
    exact q vs (fun H₀ σV' F => FrOk.puts F rp e) (by rw [← rp.length]; exact hl.symm)
  | .lst ts, ⟨a, vs, e1, _, hp, rp⟩, e =>
    have e : puts σ js ts = some σ' := e
    have hl := zac0 e
    refine pg_lst hc h hn hst pins s0 σV H v u Q I ru ⟨a, vs, e1, hp, by rw [← rp.length, hl], by rw [← rp.length, hl], ?_⟩
    exact q vs (fun H₀ σV' F => FrOk.puts F rp e) (by rw [← rp.length]; exact hl.symm)
  | .non, _, e => cases e
  | .bl _, _, e => cases e
  | .int _, _, e => cases e
  | .str _, _, e => cases e
  | .loc _, _, e => cases e
  | .exc _, _, e => cases e
end
end IP
end
section
set_option Elab.async false
set_option linter.all false
set_option maxRecDepth 100000
namespace IP
open PySem PySem.Spec L2
section
variable {G : Gx} {X : Cx} {C : Cf}
def RepO (G : Gx) (w : Wo) (H : Hp) : Option T → Option V → Prop
  | some t, some v => Rep G w H t v
  | none, none => True
  | _, _ => False
def Turned (G : Gx) (X : Cx) (ifs : List Expr) (elt : Expr) (f : Fr → Sto → Res (Option T)) : Prop :=
  ∀ (pins : List (Addr × Obj)) (s : Shared) (σV : St) (H : Hp) (w₀ : Wo) (H₀ : Hp) (w : Wo) (σ : Fr) (st st1 : Sto) (o : Option T) (Q : Option V → Hp → Prop) (E : Value → Shared → Prop), Inv X pins σV H s → Good G w₀ H₀ w H σ st σV → f σ st = .ok o st1 →
    (∀ w1 H1 vo, Le w w1 H H1 → StoOk G w1 H1 st1 → RepO G w1 H1 o vo → Q vo H1) →
    wpAny (model X.prog X.w) X.A (forIn ifs true fun c r => if r = true then do let ok ← isTrue c X.env (eval c X.env); pure (ForInStep.yield ok) else pure (ForInStep.yield r))
      (fun ok s3 => if ok = true then wpAny (model X.prog X.w) X.A (eval elt X.env) (fun u s4 => ∃ v H4, Inv X pins σV H4 s4 ∧ RelV v u ∧ Q (some v) H4) E s3 else ∃ H3, Inv X pins σV H3 s3 ∧ Q none H3) E s
theorem zaeb {f : T → Sto → Res (Option T)} {t : T} {ts q : List T} {s s' : Sto} (h : mapRes f (t :: ts) s = .ok q s') : ∃ o s1 r, f t s = .ok o s1 ∧ mapRes f ts s1 = .ok r s' ∧ q = consO o r := by
  unfold mapRes at h
  cases hf : f t s with
  | stuck => rw [hf] at h; cases h
  | exc c s1 => rw [hf] at h; cases h
  | ok o s1 =>
    rw [hf] at h
    have h : ((mapRes f ts s1).bind fun q s2 => Res.ok (consO o q) s2) = .ok q s' := h
    cases hm : mapRes f ts s1 with
    | stuck => rw [hm] at h; cases h
    | exc c s2 => rw [hm] at h; cases h
    | ok r s2 =>
      rw [hm] at h
      cases h
      exact ⟨o, s1, r, rfl, hm, rfl⟩
theorem zabt {f : T → Sto → Res (Option T)} (hf : ∀ t s c s', f t s ≠ .exc c s') : ∀ (ts : List T) (s : Sto) (c : Nat) (s' : Sto), mapRes f ts s ≠ .exc c s'
  | [], s, c, s', h => by cases h
  | t :: ts, s, c, s', h => by
    unfold mapRes at h
    cases hq : f t s with
    | stuck => rw [hq] at h; cases h
    | exc d s1 => exact hf _ _ _ _ hq
    | ok o s1 =>
      rw [hq] at h
      have h : ((mapRes f ts s1).bind fun q s2 => Res.ok (consO o q) s2) = .exc c s' := h
      cases hm : mapRes f ts s1 with
      | stuck => rw [hm] at h; cases h
      | exc d s2 => exact zabt hf ts s1 d s2 hm
      | ok r s2 => rw [hm] at h; cases h
theorem onO_noexc {α β : Type} {o : Option α} {f : α → Res β} {c : Nat} {s : Sto} (h : onO o f = .exc c s) : ∃ a, o = some a ∧ f a = .exc c s := by
  cases o with
  | none => cases h
  | some a => exact ⟨a, rfl, h⟩
theorem onO_ok {α β : Type} {o : Option α} {f : α → Res β} {b : β} {s : Sto} (h : onO o f = .ok b s) : ∃ a, o = some a ∧ f a = .ok b s := by
  cases o with
  | none => cases h
  | some a => exact ⟨a, rfl, h⟩
variable {elt iter tg : Expr} {ifs : List Expr} {scope : Scope} {pos : Pos} {it' ce : E} {g : Tg} {N' : List Str} {f : Fr → Sto → Res (Option T)}
theorem appended {pins : List (Addr × Obj)} {σ : St} {H : Hp} {s : Shared} {D : Addr} {xs : List V} {v : V} {u : Value} {Y : Cx} {E : Value → Shared → Prop} {Q : Shared → Prop} (I : Inv Y pins σ H s) (r : RelV v u) (hD : H D = some (.lst xs)) (hl : xs.length < sizeLine)
    (q : ∀ s', Inv Y pins σ (upd H D (.lst (xs ++ [v]))) s' → Q s') : wpAny (model Y.prog Y.w) Y.A (call (.builtin "list.append") [.ref D, u]) (fun _ s' => Q s') E s := by
  have z := zadw (X := Y.wish E) pins s σ H (.ref D) [v] (.ref D) [u] (fun _ H' => H' = upd H D (.lst (xs ++ [v]))) (I.wish E) rfl (.cons r .nil) ⟨D, xs, v, rfl, rfl, hD, hl, rfl⟩
  refine thn z fun u' s' ⟨_, H', I', _, e⟩ => ?_
  subst e
  exact q s' I'.unwish
theorem zadh : ∀ {js : List Nat} {vs : List V} {σV : St} {i : Nat}, i ∉ js → (setsV σV js vs)[i]? = σV[i]?
  | [], vs, σV, i, _ => by cases vs <;> rfl
  | j :: js, [], σV, i, _ => rfl
  | j :: js, v :: vs, σV, i, h => by
    show (setsV (σV.set j (some v)) js vs)[i]? = _
    rw [zadh fun q => h (List.mem_cons_of_mem _ q), List.getElem?_set_ne fun q => h (by simp [q])]
def SrcGives (G : Gx) (X : Cx) (g : Tg) (f : Fr → Sto → Res (Option T)) (σ : Fr) (w : Wo) (H : Hp) (Q : VK) (J : It) (H2 : Hp) : Prop :=
  ∃ (w2 : Wo) (src : Src) (ts : List T) (st2 st' : Sto) (q : List T) (K : Sto → Prop) (kp : Res (Option T) → Res (Option T)), Le w w2 H H2 ∧ StoOk G w2 H2 st2 ∧ J = itOf X.K src ∧ (∀ w' H' s', Le w2 w' H2 H' → StoOk G w' H' s' → K s' → SrcNow G w' H' src ts) ∧ K st2 ∧ (∀ r o s', kp r = .ok o s' → r = .ok o s' ∧ K s') ∧
    mapRes (fun t s => onO (bindTg σ g t) fun σ' => kp (f σ' s)) ts st2 = .ok q st' ∧ ∀ w' H' a vs, Le w w' H H' → StoOk G w' H' st' → H' a = some (.lst vs) → Reps G w' H' q vs → H a = none → ¬ w'.Z a → notLoc w' a → Q (.ref a) H'
theorem zafj (hc : X.calm = true) (hN : CompN X scope N' (slots g)) (hnd : (slots g).Nodup) {tx : TI} (hI : PI X tg iter tx)
    (hG : ∀ A fp s2 H2, PG (cxC X N' scope A fp s2 H2) tg (gTg G g)) (hE : ∀ A fp s2 H2, Turned G (cxC X N' scope A fp s2 H2) ifs elt f) (hs : ∀ x, foldedSetIterable iter X.env x = pure x)
    {pins : List (Addr × Obj)} {s : Shared} {σV : St} {H : Hp} {w₀ w : Wo} {H₀ : Hp} {σ : Fr} {st : Sto} {Q : VK} (I : Inv X pins σV H s) (gd : Good G w₀ H₀ w H σ st σV)
    (hsrc : tx σV H (SrcGives G X g f σ w H Q))
    {use : Option (Value → Sem Unit)} {Q' : Value → Shared → Prop}
    (hfin : ∀ (s' : Shared) (Hc : Hp) (A D : Addr), Inv X pins σV Hc s' → FpOk X pins Hc A → (∃ m, s'.heap.Ns A m) → Q (.ref D) Hc → compPost (model X.prog X.w) X.A X.xe use Q' (.ref D) A (.ok .next) s') :
    wpAny (model X.prog X.w) X.A (comprehension (.ListComp elt [⟨tg, iter, ifs, 0⟩] scope pos) scope X.env (firstIterPos [⟨tg, iter, ifs, 0⟩] pos) (newList []) false (eval iter X.env) use) Q' X.xe s := by
  have hfree : ∀ x ∈ scope.names, x.2 = .free → ∃ c, X.env.cells.lookup x.1 = some c := fun x hx hf => I.ok.has x.1 (hN.free x hx hf)
  refine wpAny_comprehension_free (use := use) rfl hs (zafn scope X.env hfree) hN.kind hN.locs (thn (hI pins s σV H _ I hsrc) fun xv s1 h1 => thn h1 fun itv s2 h2 => ?_)
  obtain ⟨it, fp, tn, J, H2, rfl, I2, T, st2, f2, w2, src, ts, stc, st', q, KK, kp, L2, S2, rfl, now, hK, hkp, hm, hq⟩ := h2
  have ho2 : ∀ b ∈ fp, ∃ o, s2.heap.get? b = some o := fun b hb => let ⟨o, e, _⟩ := T.obj _ _ st2 b hb; ⟨o, e⟩
  refine wpAny_newObj_type (wpAny_newFunctionEnv hN.nocell (by intro y hy; simp at hy) (fun h₁ hns₁ hsb₁ => ?_) hN.kind)
  have hns₁ : h₁.Ns (s2.heap.push { cls := .type "list", data := .seq ([] : List Value).toArray }).objs.size (fun _ => none) := hns₁
  have hfD : H2 s2.heap.objs.size = none := I2.hok.fresh (Nat.le_refl _)
  generalize hD : s2.heap.objs.size = D at hfD
  have I3 : Inv X pins σV (upd H2 D (.lst [])) { s2 with heap := s2.heap.push { cls := .type "list", data := .seq ([] : List Value).toArray } } := by
    rw [← hD]
    exact I2.lnew (its := []) (t' := s2.toks) .nil (Nat.zero_le _)
  generalize hs3 : ({ s2 with heap := s2.heap.push { cls := .type "list", data := .seq ([] : List Value).toArray } } : Shared) = s3 at I3
  have k3 : ∀ b o, s2.heap.get? b = some o → s3.heap.get? b = some o := fun b o e => by rw [← hs3]; exact Heap.get?_push_of_some _ e
  have fpD : ∀ b ∈ fp, b ≠ D := fun b hb => by
    obtain ⟨o, e⟩ := ho2 b hb
    rw [← hD]
    exact Nat.ne_of_lt (Heap.lt_size e)
  have f3 : ∀ b ∈ fp, FpOk X pins (upd H2 D (.lst [])) b := fun b hb => ⟨by rw [upd_ne (fpD b hb)]; exact (f2 b hb).1, (f2 b hb).2⟩
  have ho3 : ∀ b ∈ fp, ∃ o, s3.heap.get? b = some o := fun b hb => let ⟨o, e⟩ := ho2 b hb; ⟨o, k3 b o e⟩
  have e3 : (s2.heap.push { cls := .type "list", data := .seq ([] : List Value).toArray }) = s3.heap := by rw [← hs3]
  rw [e3] at hns₁ hsb₁
  have k4 : ∀ b o, s3.heap.get? b = some o → h₁.get? b = some o := fun b o e => hsb₁.extBut b o (Nat.ne_of_lt (Heap.lt_size e)) (Heap.get?_push_of_some _ e)
  have I4 : Inv (cxC X N' scope s3.heap.objs.size fp s3 (upd H2 D (.lst []))) [] (clr σV (slots g)) (upd H2 D (.lst [])) { s3 with heap := h₁, toks := s3.toks + ([] : List (Str × Value)).length } := cxC_inv hN I3 f3 ho3 hns₁ k4
  have tn4 : tn 0 h₁ := T.keep _ _ _ st2 fun b hb o e => k4 b o (k3 b o e)
  generalize hA : s3.heap.objs.size = A at I4 hns₁ hsb₁
  have hAD : D ≠ A := by
    rw [← hA, ← hs3]
    show D ≠ (s2.heap.push _).objs.size
    rw [Heap.size_push, hD]
    exact Nat.ne_of_lt (Nat.lt_succ_self _)
  generalize hY : cxC X N' scope A fp s3 (upd H2 D (.lst [])) = Y at I4
  have eP : Y.prog = X.prog := by rw [← hY]; rfl
  have eW : Y.w = X.w := by rw [← hY]; rfl
  have eK : Y.K = X.K := by rw [← hY]; rfl
  have eA : Y.A = X.A := by rw [← hY]; rfl
  have eC : Y.calm = true := by rw [← hY]; exact hc
  have eL : Y.env.locals = A := by rw [← hY]; rfl
  have eN : Y.env = compEnvC scope (clo X.env.cells scope.names []) A X.env := by rw [← hY]; rfl
  have stat : ∀ {H' : Hp}, (∀ b ∈ fp, H' b = none) → ∀ b ∈ fp, FpOk Y [] H' b := fun {H'} hn b hb => by
    obtain ⟨f0, f1, fx, fy, fz, fw⟩ := f2 b hb
    subst hY
    refine ⟨hn b hb, ?_, ?_, .inl hb, fun x c e => fz x c (zaez X.env.cells scope.names [] (fun x c z => by simp at z) x c e), fun p hp => absurd (show p ∈ ([] : List (Addr × Obj)) from hp) (by simp)⟩
    · show b ≠ A
      obtain ⟨o, e⟩ := ho3 b hb
      rw [← hA]
      exact Nat.ne_of_lt (Heap.lt_size e)
    · intro hm
      rcases List.mem_cons.mp (I2.stkSub b hm) with z | z
      · exact f1 z
      · exact fx z
  have hGY : PG Y tg (gTg G g) := by rw [← hY]; exact hG A fp s3 _
  have hEY : Turned G Y ifs elt f := by rw [← hY]; exact hE A fp s3 _
  have last : ∀ (s' : Shared) (Hc : Hp) (wc : Wo) (accV : List V), Inv Y [] (clr σV (slots g)) Hc s' → Le w2 wc H2 Hc → StoOk G wc Hc st' → Hc D = some (.lst accV) → Reps G wc Hc q accV → ¬ wc.Z D → notLoc wc D →
      compPost (model X.prog X.w) X.A X.xe use Q' (.ref D) A (.ok .next) s' := by
    intro s' Hc wc accV Ic Lc Sc hDc rc nzc nl
    obtain ⟨m, hm', _⟩ := Ic.loc
    rw [eL] at hm'
    have un : Un (frs X.stack) fp (upd H2 D (.lst [])) Hc s3.heap s'.heap := by
      have := Ic.base
      subst hY
      exact this
    have hcA : Hc A = none := by have := Ic.free; rw [eL] at this; exact this
    have hok : HOk X.prog X.w Hc s'.heap := by rw [← eP, ← eW]; exact Ic.hok
    have I5 : Inv X pins σV Hc s' := by
      have os : s'.os = s3.os := by have := Ic.os; subst hY; exact this
      exact I3.call' (s' := s') (ch := fp) os un hok Ic.bare fun b hb => ⟨(f2 b hb).2.2.2.1, (f2 b hb).2.1, (f2 b hb).2.2.2.2.1, (f2 b hb).2.2.2.2.2⟩
    have fA : FpOk X pins Hc A := by rw [← hA]; exact I3.fpOk (Nat.le_refl _) (by rw [hA]; exact hcA)
    have hHD : H D = none := by
      cases e : H D with
      | none => rfl
      | some o => exact absurd hfD (L2.some_ D (by rw [e]; intro z; cases z))
    exact hfin s' Hc A D I5 fA ⟨m, hm'⟩ (hq wc Hc D accV (L2.trans Lc) Sc hDc rc hHD nzc nl)
  have loop : ∀ s4 : Shared, s4 = { s3 with heap := h₁, toks := s3.toks + ([] : List (Str × Value)).length } →
      codeAny (model X.prog X.w) X.A (.compLoop (.ListComp elt [⟨tg, iter, ifs, 0⟩] scope pos) 0 (.ref it) (.ref D) Y.env) (compPost (model X.prog X.w) X.A X.xe use Q' (.ref D) A) s4 := by
    rintro s4 rfl
    refine codeAny_loop rfl (fun n s' => ∃ (i : Nat) (Hc : Hp) (wc : Wo) (stc' : Sto) (accT : List IP.T) (accV : List V) (rest : List IP.T), n = ts.length - i ∧ i ≤ ts.length ∧ Inv Y [] (clr σV (slots g)) Hc s' ∧ tn i s'.heap ∧ (∀ b ∈ fp, Hc b = none) ∧
        Le w2 wc H2 Hc ∧ StoOk G wc Hc stc' ∧ Hc D = some (.lst accV) ∧ Reps G wc Hc accT accV ∧ ¬ wc.Z D ∧ notLoc wc D ∧ accT.length ≤ i ∧
        KK stc' ∧ mapRes (fun t s => onO (bindTg σ g t) fun σ' => kp (f σ' s)) (ts.drop i) stc' = .ok rest st' ∧ q = accT ++ rest) ?_ ts.length
      ⟨0, upd H2 D (.lst []), w2, stc, [], [], q, rfl, Nat.zero_le _, I4, tn4, fun b hb => by rw [upd_ne (fpD b hb)]; exact (f2 b hb).1, Le.new hfD _, S2.new hfD _, zaaq, rfl, (S2.fresh hfD).1, (S2.fresh hfD).2, Nat.le_refl _, hK, hm, rfl⟩
    rintro n s' ⟨i, Hc, wc, stc', accT, accV, rest, hn, hi, Ic, tc, fc, Lc, Sc, hDc, rc, nz, nl, hal, hKc, hmr, hqr⟩
    have SOc : SrcNow G wc Hc src ts := now wc Hc stc' Lc Sc hKc
    show wpAny _ X.A ((compTurn (.ListComp elt [⟨tg, iter, ifs, 0⟩] scope pos) 0 (.ref it) (.ref D) Y.env).onRaise (fun x => do noteFrame x Y.env; theTreesLotGoes x)) _ _ s'
    refine wpAny_noted ?_
    rw [compTurn_list]
    refine wpAny_bind (wpAny_standAt (wpAny_bind ?_))
    by_cases hlt : i < ts.length
    · have et : ts[i]? = some ts[i] := List.getElem?_eq_getElem hlt
      have ed : ts.drop i = ts[i] :: ts.drop (i + 1) := List.drop_eq_getElem_cons hlt
      rw [ed] at hmr
      obtain ⟨o, st1, r1, hf1, hm1, er⟩ := zaeb hmr
      obtain ⟨σ', hb, hf2⟩ := onO_ok hf1
      obtain ⟨hf2, hK1⟩ := hkp _ _ _ hf2
      obtain ⟨go, yld⟩ := SOc.go (K := X.K) et
      have z := T.item Y eP eW eK eC i [] s' (clr σV (slots g)) Hc (notedBy (model X.prog X.w) X.A Y.env fun e s' => compPost (model X.prog X.w) X.A X.xe use Q' (.ref D) A (.error e) s') Ic (stat fc) tc go
      rw [eA] at z
      refine thn z fun r s5 ⟨u, hr, h5⟩ => ?_
      subst hr
      refine wpAny_bind (thn h5 fun _ s6 ⟨x, H6, I6, r6, y6, t6, f6⟩ => ?_)
      have rx := (yld x H6 y6).2
      obtain rfl : Hc = H6 := (yld x H6 y6).1.symm
      have I6' := I6.pinned (stat f6) (T.obj _ _ t6)
      have hgd : Good G w₀ H₀ wc Hc σ stc' σV := (gd.step L2 S2).step Lc Sc
      have zg := hGY _ s6 (clr σV (slots g)) Hc x u (fun σ7 H7 => H7 = Hc ∧ ∃ vs, σ7 = setsV σV (slots g) vs ∧ FrOk G wc Hc H₀ σ' (setsV σV (slots g) vs)) I6' r6
        ⟨wc, stc', ts[i], σ, σ', Sc, rx, hb, fun vs hfr hl => ⟨rfl, vs, zads hnd hl.symm, hfr H₀ σV hgd.fr⟩⟩
      rw [eP, eW, eA] at zg
      have zg' := wpAny_noRaise (E := notedBy (model X.prog X.w) X.A Y.env fun e s' => compPost (model X.prog X.w) X.A X.xe use Q' (.ref D) A (.error e) s') (by
        have e0 : Y.xe = fun _ _ => False := by rw [← hY]; rfl
        rw [e0] at zg
        exact zg)
      refine wpAny_bind (thn zg' fun _ s7 ⟨σ7, H7, I7, eH7, vs, e7, F7⟩ => ?_)
      obtain rfl : Hc = H7 := eH7.symm
      subst e7
      have zt := hEY _ s7 _ Hc w₀ H₀ wc σ' stc' st1 o (fun vo H8 => ∃ w8, Le wc w8 Hc H8 ∧ StoOk G w8 H8 st1 ∧ RepO G w8 H8 o vo) (notedBy (model X.prog X.w) X.A Y.env fun e s' => compPost (model X.prog X.w) X.A X.xe use Q' (.ref D) A (.error e) s')
        I7 ⟨Sc, F7, hgd.ent⟩ hf2 fun w8 H8 vo L8 S8 R8 => ⟨w8, L8, S8, R8⟩
      rw [eP, eW, eA] at zt
      have next : ∀ (s8 : Shared) (H8 : Hp) (w8 : Wo) (accT' : List IP.T) (accV' : List V), Inv Y ([] ++ pinsAt fp s6.heap) (setsV σV (slots g) vs) H8 s8 → Le w2 w8 H2 H8 → StoOk G w8 H8 st1 → H8 D = some (.lst accV') → Reps G w8 H8 accT' accV' → ¬ w8.Z D → notLoc w8 D → accT'.length ≤ i + 1 → q = accT' ++ r1 →
          ∃ m, m < n ∧ ∃ (i : Nat) (Hc : Hp) (wc : Wo) (stc' : Sto) (accT : List IP.T) (accV : List V) (rest : List IP.T), m = ts.length - i ∧ i ≤ ts.length ∧ Inv Y [] (clr σV (slots g)) Hc s8 ∧ tn i s8.heap ∧ (∀ b ∈ fp, Hc b = none) ∧
            Le w2 wc H2 Hc ∧ StoOk G wc Hc stc' ∧ Hc D = some (.lst accV) ∧ Reps G wc Hc accT accV ∧ ¬ wc.Z D ∧ notLoc wc D ∧ accT.length ≤ i ∧
            KK stc' ∧ mapRes (fun t s => onO (bindTg σ g t) fun σ' => kp (f σ' s)) (ts.drop i) stc' = .ok rest st' ∧ q = accT ++ rest := by
        intro s8 H8 w8 accT' accV' I8 L8 S8 hD8 r8 nz8 nl8 hl8 hq8
        have hpin : ∀ b ∈ fp, ∀ o, s6.heap.get? b = some o → s8.heap.get? b = some o ∧ H8 b = none := fun b hb o e => by
          have := I8.pin (b, o) (List.mem_append_right _ (List.mem_append_right _ (zabi hb e)))
          exact ⟨this.1, this.2.1⟩
        refine ⟨ts.length - (i + 1), by omega, i + 1, H8, w8, st1, accT', accV', r1, rfl, hlt, ?_, T.keep _ _ _ t6 fun b hb o e => (hpin b hb o e).1, fun b hb => ?_, L8, S8, hD8, r8, nz8, nl8, hl8, hK1, hm1, hq8⟩
        · refine Inv.unpinned (pins := []) (pl := pinsAt fp s6.heap) (I8.weak ?_ fun j v e => ?_)
          · rw [clr_len, zadi]
          · obtain ⟨e1, e2⟩ := clr_get _ _ _ _ e
            rw [zadh e2]
            exact e1
        · obtain ⟨o, e, _⟩ := T.obj _ _ t6 b hb
          exact (hpin b hb o e).2
      refine wpAny_bind (thn zt fun ok s8 h8 => ?_)
      have nzD : ∀ {w8 : Wo} {H8 : Hp}, Le wc w8 Hc H8 → ¬ w8.Z D := fun L8 z => by
        rcases L8.newZ D z with z | z
        · exact nz z
        · rw [hDc] at z; cases z
      have nlD : ∀ {w8 : Wo} {H8 : Hp}, Le wc w8 Hc H8 → notLoc w8 D := fun L8 => notLoc.mono L8 (by rw [hDc]; intro z; cases z) nl
      cases ok with
      | false =>
        simp only [Bool.false_eq_true, if_false] at h8 ⊢
        obtain ⟨H8, I8, w8, L8, S8, R8⟩ := h8
        have eo : o = none := by cases o with | none => rfl | some t => exact R8.elim
        subst eo
        subst er
        exact wpAny_pure ⟨rfl, next s8 H8 w8 accT accV I8 (Lc.trans L8) S8 (L8.keep D _ hDc nl) (Reps.mono L8 Sc _ _ rc) (nzD L8) (nlD L8) (by omega) hqr⟩
      | true =>
        simp only [if_true] at h8 ⊢
        refine wpAny_bind (wpAny_bind (thn h8 fun u9 s9 ⟨v9, H9, I9, r9, w9, L9, S9, R9⟩ => ?_))
        have eo : ∃ t9, o = some t9 := by cases o with | none => exact R9.elim | some t => exact ⟨t, rfl⟩
        obtain ⟨t9, rfl⟩ := eo
        have R9 : Rep G w9 H9 t9 v9 := R9
        subst er
        have hD9 := L9.keep D _ hDc nl
        have hlen : accV.length < sizeLine := by
          rw [← rc.length]
          have := SOc.small Ic
          omega
        have za := appended (E := notedBy (model X.prog X.w) X.A Y.env fun e s' => compPost (model X.prog X.w) X.A X.xe use Q' (.ref D) A (.error e) s') I9 r9 hD9 hlen fun s10 I10 =>
          next s10 _ w9 (accT ++ [t9]) (accV ++ [v9]) I10 ((Lc.trans L9).updNew hfD (by rw [hD9]; intro z; cases z)) (S9.upd hD9 (nzD L9) (nlD L9)) zaaq
            (Reps.upd hD9 (nzD L9) _ _ ((Reps.mono L9 Sc _ _ rc).append ⟨v9, [], rfl, R9, rfl⟩)) (nzD L9) (nlD L9) (by rw [List.length_append, List.length_singleton]; omega) (by rw [List.append_assoc]; exact hqr)
        rw [eP, eW, eA] at za
        exact wpAny_bind (thn za fun _ s10 h10 => wpAny_pure (wpAny_pure ⟨rfl, h10⟩))
    · have ei : i = ts.length := by omega
      subst ei
      rw [List.drop_length] at hmr
      cases hmr
      rw [List.append_nil] at hqr
      subst hqr
      have z := T.done Y eP eW eK eC ts.length [] s' (clr σV (slots g)) Hc (notedBy (model X.prog X.w) X.A Y.env fun e s' => compPost (model X.prog X.w) X.A X.xe use Q' (.ref D) A (.error e) s') Ic (stat fc) tc SOc.stop
      rw [eA] at z
      refine thn z fun r s5 ⟨hr, I5⟩ => ?_
      subst hr
      exact wpAny_pure (last s5 Hc wc accV I5 Lc Sc hDc rc nz nl)
  show codeAny (model X.prog X.w) X.A (.compStart (.ListComp elt [⟨tg, iter, ifs, 0⟩] scope pos) 0 (.ref it) (.ref D) (compEnvC scope (clo X.env.cells scope.names []) A X.env)) (compPost (model X.prog X.w) X.A X.xe use Q' (.ref D) A) _
  rw [← eN]
  exact codeAny_compStart_list (loop _ rfl) (T.self _ 0 _ _ _ tn4 (loop _ rfl))
theorem zadm (hc : X.calm = true) (hN : CompN X scope N' (slots g)) (hnd : (slots g).Nodup) (hI : PI X tg iter (tI G X C it' .i false))
    (hG : ∀ A fp s2 H2, PG (cxC X N' scope A fp s2 H2) tg (gTg G g)) (hE : ∀ A fp s2 H2, Turned G (cxC X N' scope A fp s2 H2) ifs elt f) (hs : ∀ x, foldedSetIterable iter X.env x = pure x)
    (hne : ∀ σ s c s', f σ s ≠ .exc c s')
    {pins : List (Addr × Obj)} {s : Shared} {σV : St} {H : Hp} {w₀ w : Wo} {H₀ : Hp} {σ : Fr} {st : Sto} {Q : VK} (I : Inv X pins σV H s) (gd : Good G w₀ H₀ w H σ st σV)
    (h : WantO G X σV w H ((ev C it' .i σ st).bind fun x s1 => onL x fun ts => (mapRes (fun t s => onO (bindTg σ g t) fun σ' => f σ' s) ts s1).bind fun q s2 => .ok (.val (.lst q)) s2) Q)
    {use : Option (Value → Sem Unit)} {Q' : Value → Shared → Prop}
    (hfin : ∀ (s' : Shared) (Hc : Hp) (A D : Addr), Inv X pins σV Hc s' → FpOk X pins Hc A → (∃ m, s'.heap.Ns A m) → Q (.ref D) Hc → compPost (model X.prog X.w) X.A X.xe use Q' (.ref D) A (.ok .next) s') :
    wpAny (model X.prog X.w) X.A (comprehension (.ListComp elt [⟨tg, iter, ifs, 0⟩] scope pos) scope X.env (firstIterPos [⟨tg, iter, ifs, 0⟩] pos) (newList []) false (eval iter X.env) use) Q' X.xe s := by
  refine zafj hc hN hnd hI hG hE hs I gd ?_ hfin
  refine ⟨w₀, H₀, w, σ, st, gd, ?_⟩
  cases he : ev C it' .i σ st with
  | stuck => rw [he] at h; exact h
  | exc c s1 => rw [he] at h; exact h
  | ok x s1 =>
    rw [he] at h
    match x, h with
    | .val (.lst ts), h =>
      intro w2 H2 src L S SO
      have h : WantO G X σV w H ((mapRes (fun t s => onO (bindTg σ g t) fun σ' => f σ' s) ts s1).bind fun q s2 => .ok (.val (.lst q)) s2) Q := h
      cases hm : mapRes (fun t s => onO (bindTg σ g t) fun σ' => f σ' s) ts s1 with
      | stuck => rw [hm] at h; exact h.elim
      | exc c s2 =>
        refine absurd hm (zabt (fun t s c s' z => ?_) ts s1 c s2)
        obtain ⟨σ', _, z⟩ := onO_noexc z
        exact hne _ _ _ _ z
      | ok q st' =>
        rw [hm] at h
        exact ⟨w2, src, ts, s1, st', q, fun _ => True, id, L, S, rfl, fun w' H' s' L' _ _ => (SO.mono L' S).now, trivial, fun r o s' e => ⟨e, trivial⟩, hm, h⟩
    | .val .non, h => exact h.elim
    | .val (.bl _), h => exact h.elim
    | .val (.int _), h => exact h.elim
    | .val (.str _), h => exact h.elim
    | .val (.tup _), h => exact h.elim
    | .val (.loc _), h => exact h.elim
    | .val (.exc _), h => exact h.elim
    | .bor _, h => exact h.elim
theorem gone {pins : List (Addr × Obj)} {s : Shared} {σV : St} {H : Hp} {A : Addr} {h' : Heap} (I : Inv X pins σV H s) (fA : FpOk X pins H A) (sb : Heap.SameBut A s.heap h') : Inv X pins σV H { s with heap := h' } :=
  I.turned (t' := s.toks) (fun b o ne e => (sb.2 b ne).trans e) fA.1 fA.2.1 fA.2.2.2.1 fA.2.2.2.2.1 fA.2.2.2.2.2
theorem zabr (hc : X.calm = true) (hN : CompN X scope N' (slots g)) (hnd : (slots g).Nodup) (hI : PI X tg iter (tI G X C it' .i false))
    (hG : ∀ A fp s2 H2, PG (cxC X N' scope A fp s2 H2) tg (gTg G g)) (hE : ∀ A fp s2 H2, Turned G (cxC X N' scope A fp s2 H2) ifs elt f) (hs : ∀ x, foldedSetIterable iter X.env x = pure x) (hne : ∀ σ s c s', f σ s ≠ .exc c s')
    (hev : ∀ σ s, ev C ce .v σ s = (ev C it' .i σ s).bind fun x s1 => onL x fun ts => (mapRes (fun t s => onO (bindTg σ g t) fun σ' => f σ' s) ts s1).bind fun q s2 => .ok (.val (.lst q)) s2) :
    PE X (.ListComp elt [⟨tg, iter, ifs, 0⟩] scope pos) (tO G X C ce) := by
  rintro pins s σV H Q I ⟨w₀, H₀, w, σ, st, gd, h⟩
  rw [hev] at h
  rw [eval_ListComp]
  refine zadm hc hN hnd hI hG hE hs hne I gd h (use := none) fun s' Hc A D I' fA ⟨m, hm⟩ q => ?_
  exact ⟨m, hm, fun h' sb => ⟨.ref D, Hc, gone I' fA sb, rfl, q⟩⟩
theorem zace {y : Str} {py spos : Pos} {i : Nat} (hc : X.calm = true) (hN : CompN X scope N' (slots g)) (hnd : (slots g).Nodup) (hI : PI X tg iter (tI G X C it' .i false))
    (hG : ∀ A fp s2 H2, PG (cxC X N' scope A fp s2 H2) tg (gTg G g)) (hE : ∀ A fp s2 H2, Turned G (cxC X N' scope A fp s2 H2) ifs elt f) (hs : ∀ x, foldedSetIterable iter X.env x = pure x) (hne : ∀ σ s c s', f σ s ≠ .exc c s')
    (hev : ∀ σ s, ev C ce .v σ s = (ev C it' .i σ s).bind fun x s1 => onL x fun ts => (mapRes (fun t s => onO (bindTg σ g t) fun σ' => f σ' s) ts s1).bind fun q s2 => .ok (.val (.lst q)) s2)
    (hsw : swapsWith (.ListComp elt [⟨tg, iter, ifs, 0⟩] scope pos) (some (.Name y py)) spos.line X.env = pure true) (hXN : X.N.Nodup) (hi : X.N[i]? = some y) (hy : X.env.scope.names.lookup y = some .local) :
    PS X (.Assign [.Name y py] (.ListComp elt [⟨tg, iter, ifs, 0⟩] scope pos) spos) (fun D σV H => tO G X C ce σV H fun v H1 => D.nx (σV.set i (some v)) H1) := by
  rintro pins s σV H DD I ⟨w₀, H₀, w, σ, st, gd, h⟩
  rw [hev] at h
  rw [exec_Assign_Name_used _ _ _ _ hsw]
  refine wpAny_bind (wpAny_standAt (wpAny_bind ?_))
  show wpAny _ X.A (do let _ ← comprehension (.ListComp elt [⟨tg, iter, ifs, 0⟩] scope pos) scope X.env _ (newList []) false (eval iter X.env) (some (assign (.Name y py) X.env))) _ _ s
  refine wpAny_bind (thn (zadm (pos := pos) hc hN hnd hI hG hE hs hne I gd h (use := some (assign (.Name y py) X.env)) (Q' := fun _ s' => SP X pins DD .next s') fun s' Hc A D I' fA ⟨m, hm⟩ q => ?_) fun _ s' hq => wpAny_pure (wpAny_pure hq))
  refine wpAny_assign_Name (zadl (v := .ref D) I' hXN hi (.inl hy) rfl (fun s'' I'' ⟨a, sb, ha⟩ => ?_) (.inr hy))
  have neA : A ≠ a := fun z => by
    subst z
    rcases ha with ha | ha
    · exact fA.2.1 ha
    · exact fA.2.2.2.2.1 y _ ha rfl
  refine ⟨m, ?_, fun h' sb' => ?_⟩
  · obtain ⟨o, es, ep, e, r⟩ := hm
    exact ⟨o, es, ep, (sb.2 A neA).trans e, r⟩
  · exact ⟨_, Hc, gone I'' fA sb', q⟩
theorem zaa6 {Y : Cx} {elt : Expr} {e' : E} (hE : PE Y elt (tV G Y C e')) (hx : Y.xe = fun _ _ => False) : Turned G Y [] elt (fun σ st => one (ev C e' .v σ st)) := by
  intro pins s σV H w₀ H₀ w σ st st1 o Q E I gd hf hq
  refine wpAny_tests_nil ?_
  rw [if_pos rfl]
  dsimp only at hf
  cases he : ev C e' .v σ st with
  | stuck => rw [he] at hf; cases hf
  | exc c s1 => rw [he] at hf; cases hf
  | ok r s1 =>
    rw [he] at hf
    match r, hf, he with
    | .val t, hf, he =>
      cases hf
      have z := hE pins s σV H (fun v H' => Q (some v) H') I ⟨w₀, H₀, w, σ, st, gd, by rw [he]; exact fun w' H' v L S R => hq w' H' (some v) L S R⟩
      rw [hx] at z
      exact wpAny_noRaise z
    | .bor ts, hf, he => cases hf
theorem zaar (m : Res R) (c : Nat) (s : Sto) : one m ≠ .exc c s := by
  intro h
  cases m with
  | stuck => cases h
  | exc d s1 => cases h
  | ok r s1 => cases r <;> cases h
end
end IP
end
section
set_option Elab.async false
set_option linter.all false
set_option maxRecDepth 100000
namespace IP
open PySem PySem.Spec L2
def Own (σ : Fr) (σV : St) (a : Addr) : Prop := ∃ (i : Nat) (ts : List T), σ[i]? = some (some (.own ts)) ∧ σV[i]? = some (some (.ref a))
structure LeS (w w' : Wo) (H H' : Hp) (σ σ' : Fr) (σV σV' : St) : Prop where
  n : w.n ≤ w'.n
  io : ∀ l, l < w.n → w'.io l = w.io l
  Z : ∀ a, w.Z a → w'.Z a
  keep : ∀ a o, H a = some o → notLoc w a → ¬ Own σ σV a → H' a = some o
  newL : ∀ l, w.n ≤ l → l < w'.n → H (w'.io l) = none
  some_ : ∀ a, H a ≠ none → H' a ≠ none
  own : ∀ a, Own σ' σV' a → Own σ σV a ∨ H a = none
  lk : ∀ (i : Nat) (ts : List T), σ'[i]? = some (some (.lck ts)) → (∃ us, σ[i]? = some (some (.lck us))) ∧ σV'[i]? = σV[i]?
section
variable {G : Gx} {X : Cx} {C : Cf} {w w' w₀ : Wo} {H H' H₀ : Hp} {σ σ' : Fr} {σV σV' : St}
theorem LeS.refl : LeS w w H H σ σ σV σV := ⟨Nat.le_refl _, fun _ _ => rfl, fun _ z => z, fun _ _ e _ _ => e, fun l a b => absurd (Nat.lt_of_lt_of_le b a) (Nat.lt_irrefl _), fun _ z => z, fun _ z => .inl z, fun i ts e => ⟨⟨ts, e⟩, rfl⟩⟩
theorem LeS.notLoc (L : LeS w w' H H' σ σ' σV σV') {a : Addr} (h : H a ≠ none) (nl : IP.notLoc w a) : IP.notLoc w' a := fun l hl q => by
  by_cases k : l < w.n
  · exact nl l k (q.trans (L.io l k))
  · have := L.newL l (Nat.le_of_not_lt k) hl
    rw [← q] at this
    exact h this
theorem LeS.trans {w2 : Wo} {H2 : Hp} {σ2 : Fr} {σV2 : St} (a : LeS w w' H H' σ σ' σV σV') (b : LeS w' w2 H' H2 σ' σ2 σV' σV2) : LeS w w2 H H2 σ σ2 σV σV2 where
  n := Nat.le_trans a.n b.n
  io := fun l h => (b.io l (Nat.lt_of_lt_of_le h a.n)).trans (a.io l h)
  Z := fun x z => b.Z x (a.Z x z)
  keep := fun x o e nl no => by
    have hn : H x ≠ none := by rw [e]; intro z; cases z
    refine b.keep x o (a.keep x o e nl no) (a.notLoc hn nl) fun z => ?_
    rcases a.own x z with z | z
    · exact no z
    · exact hn z
  newL := fun l h1 h2 => by
    by_cases h : l < w'.n
    · rw [b.io l h]
      exact a.newL l h1 h
    · have q := b.newL l (Nat.le_of_not_lt h) h2
      cases e : H (w2.io l) with
      | none => rfl
      | some o => exact absurd q (a.some_ _ (by rw [e]; intro z; cases z))
  some_ := fun x z => b.some_ x (a.some_ x z)
  own := fun x z => by
    rcases b.own x z with z | z
    · exact a.own x z
    · refine .inr ?_
      cases e : H x with
      | none => rfl
      | some o => exact absurd z (a.some_ x (by rw [e]; intro q; cases q))
  lk := fun i ts e => by
    obtain ⟨⟨us, h1⟩, h2⟩ := b.lk i ts e
    obtain ⟨h3, h4⟩ := a.lk i us h1
    exact ⟨h3, h2.trans h4⟩
theorem LeS.of (L : Le w w' H H') : LeS w w' H H' σ σ σV σV := ⟨L.n, L.io, L.Z, fun a o e nl _ => L.keep a o e nl, L.newL, L.some_, fun _ z => .inl z, fun i ts e => ⟨⟨ts, e⟩, rfl⟩⟩
structure Kp (w w' : Wo) (H H' : Hp) : Prop where
  n : w.n ≤ w'.n
  io : ∀ l, l < w.n → w'.io l = w.io l
  Z : ∀ a, w.Z a → w'.Z a
  z : ∀ a u, w.Z a → Rd H a u → Rd H' a u
  t : ∀ a vs, H a = some (.tup vs) → H' a = some (.tup vs)
  x : ∀ a φ, H a = some (.ext φ) → H' a = some (.ext φ)
mutual
theorem Rep.kp (L : Kp w w' H H') : ∀ (t : T) (v : V), Rep G w H t v → Rep G w' H' t v
  | .non, v, h => h
  | .bl b, v, h => h
  | .int i, v, h => h
  | .str x, v, h => h
  | .tup ts, v, ⟨a, vs, e, h, r⟩ => ⟨a, vs, e, L.t _ _ h, Reps.kp L ts vs r⟩
  | .lst ts, v, ⟨a, vs, e, z, h, r⟩ => ⟨a, vs, e, L.Z _ z, L.z _ _ z h, Reps.kp L ts vs r⟩
  | .loc l, v, ⟨h, e⟩ => ⟨Nat.lt_of_lt_of_le h L.n, by rw [L.io l h]; exact e⟩
  | .exc c, v, ⟨a, e, h⟩ => ⟨a, e, L.x _ _ h⟩
theorem Reps.kp (L : Kp w w' H H') : ∀ (ts : List T) (vs : List V), Reps G w H ts vs → Reps G w' H' ts vs
  | [], vs, h => h
  | t :: ts, vs, ⟨v, r, e, h, q⟩ => ⟨v, r, e, Rep.kp L t v h, Reps.kp L ts r q⟩
end
theorem FrOk.notOwnZ (F : FrOk G w H H₀ σ σV) {a : Addr} (z : w.Z a) : ¬ Own σ σV a := fun ⟨i, ts, e1, e2⟩ => by
  obtain ⟨b, vs, h1, _, _, _, h5, _⟩ := F.own i _ ts e1 rfl
  rw [e2] at h1
  cases h1
  exact h5 z
theorem FrOk.notOwnT (F : FrOk G w H H₀ σ σV) {a : Addr} {o : HO} (e : H a = some o) (h : ∀ vs, o ≠ .lst vs) : ¬ Own σ σV a := fun ⟨i, ts, e1, e2⟩ => by
  obtain ⟨b, vs, h1, h2, _⟩ := F.own i _ ts e1 rfl
  rw [e2] at h1
  cases h1
  rw [e] at h2
  exact h vs (Option.some.inj h2)
theorem LeS.kp {s : Sto} (L : LeS w w' H H' σ σ' σV σV') (S : StoOk G w H s) (F : FrOk G w H H₀ σ σV) : Kp w w' H H' where
  n := L.n
  io := L.io
  Z := L.Z
  z := fun a u z r => by
    have no := F.notOwnZ z
    rcases r with r | ⟨o, r⟩
    · exact .inl (L.keep _ _ r (S.zLoc z) no)
    · exact .inr ⟨o, L.keep _ _ r (S.zLoc z) no⟩
  t := fun a vs e => L.keep _ _ e (S.notLoc e (fun _ z => by cases z) fun _ _ _ z => by cases z) (F.notOwnT e fun _ z => by cases z)
  x := fun a φ e => L.keep _ _ e (S.notLoc e (fun _ z => by cases z) fun _ _ _ z => by cases z) (F.notOwnT e fun _ z => by cases z)
def WantS (G : Gx) (X : Cx) (w₀ : Wo) (H₀ : Hp) (w : Wo) (H : Hp) (σ : Fr) (σV : St) (res : SR) (D : Ends) : Prop := match res with
  | .stuck => False
  | .next σ' s' => ∀ w' H' σV', Good G w₀ H₀ w' H' σ' s' σV' → LeS w w' H H' σ σ' σV σV' → D.nx σV' H'
  | .ret r s' => ∀ w' H' v, StoOk G w' H' s' → RepR G w' H' r v → Le w₀ w' H₀ H' → D.rt v H'
  | .retO ts s' => ∀ w' H' a vs, StoOk G w' H' s' → H' a = some (.lst vs) → Reps G w' H' ts vs → H₀ a = none → ¬ w'.Z a → notLoc w' a → Le w₀ w' H₀ H' → D.rt (.ref a) H'
  | .exc c σ' s' => ∀ w' H' σV' pins u sh, Good G w₀ H₀ w' H' σ' s' σV' → LeS w w' H H' σ σ' σV σV' → Thrown G X pins σV' H' c u sh → X.xe u sh
def tS (G : Gx) (X : Cx) (C : Cf) (a : S) : TS := fun D σV H => ∃ w₀ H₀ w σ s, Good G w₀ H₀ w H σ s σV ∧ WantS G X w₀ H₀ w H σ σV (ex C a σ s) D
def tSs (G : Gx) (X : Cx) (C : Cf) (a : List S) : TS := fun D σV H => ∃ w₀ H₀ w σ s, Good G w₀ H₀ w H σ s σV ∧ WantS G X w₀ H₀ w H σ σV (exs C a σ s) D
theorem PS.imp {st : Stmt} {t t' : TS} (h : PS X st t) (q : ∀ D σ H, t' D σ H → t D σ H) : PS X st t' := fun pins s σ H D I z => h pins s σ H D I (q _ _ _ z)
theorem PSs.imp {st : List Stmt} {t t' : TS} (h : PSs X st t) (q : ∀ D σ H, t' D σ H → t D σ H) : PSs X st t' := fun pins s σ H D I z => h pins s σ H D I (q _ _ _ z)
theorem WantS.mono {res : SR} {D : Ends} (L : LeS w w' H H' σ σ' σV σV') (h : WantS G X w₀ H₀ w H σ σV res D) : WantS G X w₀ H₀ w' H' σ' σV' res D := by
  cases res with
  | stuck => exact h
  | next σ2 s2 => exact fun w2 H2 σV2 g M => h w2 H2 σV2 g (L.trans M)
  | ret r s2 => exact h
  | retO ts s2 => exact h
  | exc c σ2 s2 => exact fun w2 H2 σV2 pins u sh g M => h w2 H2 σV2 pins u sh g (L.trans M)
theorem WantS.bind {m : SR} {k : Fr → Sto → SR} {D : Ends} {u : TS} (h : WantS G X w₀ H₀ w H σ σV (m.bind k) D)
    (hu : ∀ w1 H1 σ1 s1 σV1, Good G w₀ H₀ w1 H1 σ1 s1 σV1 → WantS G X w₀ H₀ w1 H1 σ1 σV1 (k σ1 s1) D → u D σV1 H1) : WantS G X w₀ H₀ w H σ σV m { D with nx := u D } := by
  cases m with
  | stuck => exact h
  | next σ2 s2 => exact fun w2 H2 σV2 g L => hu w2 H2 σ2 s2 σV2 g (WantS.mono L h)
  | ret r s2 => exact h
  | retO ts s2 => exact h
  | exc c σ2 s2 => exact h
theorem zaad : PSs X [] (tSs G X C []) := PSs.imp pss_nil fun D σV H ⟨w₀, H₀, w, σ, s, g, h⟩ => h w H σV g LeS.refl
theorem zaaa {st : Stmt} {rest : List Stmt} {a : S} {as : List S} (h1 : PS X st (tS G X C a)) (h2 : PSs X rest (tSs G X C as)) : PSs X (st :: rest) (tSs G X C (a :: as)) := by
  refine PSs.imp (pss_cons h1 h2) ?_
  rintro D σV H ⟨w₀, H₀, w, σ, s, g, h⟩
  refine ⟨w₀, H₀, w, σ, s, g, WantS.bind h fun w1 H1 σ1 s1 σV1 g1 h1 => ?_⟩
  exact ⟨w₀, H₀, w1, σ1, s1, g1, h1⟩
theorem st_of {m : Res R} {k : R → Sto → SR} {D : Ends} {s : Sto} (g : Good G w₀ H₀ w H σ s σV) (h : WantS G X w₀ H₀ w H σ σV (m.st σ k) D) :
    Want G X σV w H m fun v H1 => ∃ w1 r s1, Le w w1 H H1 ∧ StoOk G w1 H1 s1 ∧ RepR G w1 H1 r v ∧ Good G w₀ H₀ w1 H1 σ s1 σV ∧ WantS G X w₀ H₀ w1 H1 σ σV (k r s1) D := by
  cases m with
  | stuck => exact h
  | ok r s1 => exact fun w1 H1 v L S R => ⟨w1, r, s1, L, S, R, g.step L S, WantS.mono (LeS.of L) h⟩
  | exc c s1 => exact fun w1 H1 pins u sh L S T => h w1 H1 σV pins u sh (g.step L S) (LeS.of L) T
theorem onS_w {α : Type} {o : Option α} {f : α → SR} {D : Ends} (h : WantS G X w₀ H₀ w H σ σV (onS o f) D) : ∃ a, o = some a ∧ WantS G X w₀ H₀ w H σ σV (f a) D := by
  cases o with
  | none => exact h.elim
  | some a => exact ⟨a, rfl, h⟩
theorem val_of {r : R} {t : T} (h : r.val? = some t) : r = .val t := by
  cases r with
  | val u => cases h; rfl
  | bor u => cases h
theorem own_set {i : Nat} {b : Option B} {x : Option V} (hb : ∀ ts, b ≠ some (.own ts)) {a : Addr} (h : Own (σ.set i b) (σV.set i x) a) : Own σ σV a := by
  obtain ⟨j, ts, e1, e2⟩ := h
  by_cases hj : i = j
  · subst hj
    have hlt : i < σ.length := by
      have := (List.getElem?_eq_some_iff.mp e1).1
      simpa using this
    rw [List.getElem?_set_self hlt] at e1
    exact absurd (Option.some.inj e1) (hb ts)
  · rw [List.getElem?_set_ne hj] at e1 e2
    exact ⟨j, ts, e1, e2⟩
theorem lk_set {i : Nat} {b : Option B} {x : Option V} (hb : ∀ ts, b ≠ some (.lck ts)) (j : Nat) (ts : List T) (e : (σ.set i b)[j]? = some (some (.lck ts))) : (∃ us, σ[j]? = some (some (.lck us))) ∧ (σV.set i x)[j]? = σV[j]? := by
  by_cases hj : i = j
  · subst hj
    have hlt : i < σ.length := by
      have := (List.getElem?_eq_some_iff.mp e).1
      simpa using this
    rw [List.getElem?_set_self hlt] at e
    exact absurd (Option.some.inj e) (hb ts)
  · rw [List.getElem?_set_ne hj] at e ⊢
    exact ⟨⟨ts, e⟩, rfl⟩
theorem LeS.set {i : Nat} {b : Option B} {x : Option V} (hb : ∀ ts, b ≠ some (.own ts)) (hb' : ∀ ts, b ≠ some (.lck ts)) : LeS w w H H σ (σ.set i b) σV (σV.set i x) :=
  ⟨Nat.le_refl _, fun _ _ => rfl, fun _ z => z, fun _ _ e _ _ => e, fun l a b => absurd (Nat.lt_of_lt_of_le b a) (Nat.lt_irrefl _), fun _ z => z, fun a z => .inl (own_set hb z), lk_set hb'⟩
theorem LeS.put {i : Nat} {t : T} {v : V} : LeS w w H H σ (IP.put σ i t) σV (σV.set i (some v)) := LeS.set (by intro ts z; cases z) (by intro ts z; cases z)
theorem Good.put {s : Sto} {i : Nat} {t : T} {v : V} (g : Good G w₀ H₀ w H σ s σV) (r : Rep G w H t v) : Good G w₀ H₀ w H (IP.put σ i t) s (σV.set i (some v)) := ⟨g.sto, g.fr.put r, g.ent⟩
variable {e : Expr} {e' : E} {x : Str} {pos pos' : Pos} {i : Nat}
theorem sS_asg (hN : X.N.Nodup) (hi : X.N[i]? = some x) (hx : Loc X.env.scope x) (he : PE X e (tV G X C e')) (hs : swapsWith e (some (.Name x pos')) pos.line X.env = pure false) (hf : X.fn x = true ∨ X.env.scope.names.lookup x = some .local) :
    PS X (.Assign [.Name x pos'] e pos) (tS G X C (.asg i e')) := by
  refine PS.imp (ps_set hN hi hx he hs hf) ?_
  rintro D σV H ⟨w₀, H₀, w, σ, s, g, h⟩
  refine ⟨w₀, H₀, w, σ, s, g, (st_of g h).imp ?_⟩
  rintro v H1 ⟨w1, r, s1, L1, S1, R1, g1, h1⟩
  obtain ⟨t, ht, h1⟩ := onS_w h1
  cases val_of ht
  exact h1 w1 H1 _ (g1.put R1) LeS.put
theorem sS_ret (he : PE X e (tV G X C e')) : PS X (.Return (some e) pos) (tS G X C (.ret e')) := by
  refine PS.imp (ps_ret he) ?_
  rintro D σV H ⟨w₀, H₀, w, σ, s, g, h⟩
  refine ⟨w₀, H₀, w, σ, s, g, (st_of g h).imp ?_⟩
  rintro v H1 ⟨w1, r, s1, L1, S1, R1, g1, h1⟩
  exact h1 w1 H1 v S1 R1 g1.ent
theorem onBS_t {x : R} {v : V} {m n : SR} {D : Ends} (r : RepR G w H x v) (h : WantS G X w₀ H₀ w H σ σV (onBS x m n) D) : ∃ k, v = .bl k ∧ WantS G X w₀ H₀ w H σ σV (if k = true then m else n) D := by
  match x, h with
  | .val (.bl true), h => exact ⟨true, r, h⟩
  | .val (.bl false), h => exact ⟨false, r, h⟩
  | .val .non, h => exact h.elim
  | .val (.int _), h => exact h.elim
  | .val (.str _), h => exact h.elim
  | .val (.tup _), h => exact h.elim
  | .val (.lst _), h => exact h.elim
  | .val (.loc _), h => exact h.elim
  | .val (.exc _), h => exact h.elim
  | .bor _, h => exact h.elim
theorem sS_ifs {c : Expr} {c' : E} {a b : List Stmt} {a' b' : List S} (hc : PT X c (tT G X C c')) (ha : PSs X a (tSs G X C a')) (hb : PSs X b (tSs G X C b')) : PS X (.If c a b pos) (tS G X C (.ifs c' a' b')) := by
  refine PS.imp (ps_if hc ha hb) ?_
  rintro D σV H ⟨w₀, H₀, w, σ, s, g, h⟩
  refine ⟨w₀, H₀, w, σ, s, g, (st_of g h).imp ?_⟩
  rintro v H1 ⟨w1, r, s1, L1, S1, R1, g1, h1⟩
  obtain ⟨k, rfl, h1⟩ := onBS_t R1 h1
  refine ⟨k, rfl, ?_⟩
  cases k with
  | true => exact iteT ⟨w₀, H₀, w1, σ, s1, g1, h1⟩
  | false => exact iteF ⟨w₀, H₀, w1, σ, s1, g1, h1⟩
end
end IP
end
section
set_option Elab.async false
set_option linter.all false
set_option maxRecDepth 100000
namespace IP
open PySem PySem.Spec L2
section
variable {G : Gx} {X : Cx} {C : Cf} {w w' w₀ : Wo} {H H' H₀ : Hp} {σ σ' : Fr} {σV σV' : St}
theorem zaal {α : Type} {l : List (Option α)} {i j : Nat} {b : Option α} {c : α} (h : (l.set i b)[j]? = some (some c)) : (i = j ∧ b = some c ∧ i < l.length) ∨ (i ≠ j ∧ l[j]? = some (some c)) := by
  by_cases hj : i = j
  · subst hj
    have hlt : i < l.length := by
      have := (List.getElem?_eq_some_iff.mp h).1
      simpa using this
    rw [List.getElem?_set_self hlt] at h
    exact .inl ⟨rfl, Option.some.inj h, hlt⟩
  · rw [List.getElem?_set_ne hj] at h
    exact .inr ⟨hj, h⟩
theorem FrOk.mkO {i : Nat} {ts : List T} {a : Addr} {vs : List V} (F : FrOk G w H H₀ σ σV) (ha : H a = some (.lst vs)) (r : Reps G w H ts vs) (h0 : H₀ a = none) (hz : ¬ w.Z a) (hl : notLoc w a)
    (hap : ∀ (j : Nat) (b : B) (us : List T), σ[j]? = some (some b) → ownL b = some us → σV[j]? ≠ some (some (.ref a))) : FrOk G w H H₀ (setOwn σ i ts) (σV.set i (some (.ref a))) where
  len := by unfold setOwn; simp [F.len]
  val := fun j t e => by
    rcases zaal e with ⟨_, z, _⟩ | ⟨ne, z⟩
    · cases z
    · obtain ⟨v, h1, h2⟩ := F.val j t z
      exact ⟨v, by rw [List.getElem?_set_ne ne]; exact h1, h2⟩
  own := fun j b us e eb => by
    rcases zaal e with ⟨rfl, z, hlt⟩ | ⟨ne, z⟩
    · cases z
      cases eb
      exact ⟨a, vs, by rw [List.getElem?_set_self (by rw [← F.len]; exact hlt)], ha, r, h0, hz, hl⟩
    · obtain ⟨p, us', h1, h2⟩ := F.own j b us z eb
      exact ⟨p, us', by rw [List.getElem?_set_ne ne]; exact h1, h2⟩
  apart := fun j k b c us us' p hjk e1 eb e2 ec e3 e4 => by
    rcases zaal e1 with ⟨rfl, z, hlt⟩ | ⟨ne, z⟩
    · rcases zaal e2 with ⟨rfl, _, _⟩ | ⟨ne', z'⟩
      · exact hjk rfl
      · rw [List.getElem?_set_self (by rw [← F.len]; exact hlt)] at e3
        cases e3
        rw [List.getElem?_set_ne ne'] at e4
        exact hap k c us' z' ec e4
    · rcases zaal e2 with ⟨rfl, z', hlt⟩ | ⟨ne', z'⟩
      · rw [List.getElem?_set_self (by rw [← F.len]; exact hlt)] at e4
        cases e4
        rw [List.getElem?_set_ne ne] at e3
        exact hap j b us z eb e3
      · rw [List.getElem?_set_ne ne] at e3
        rw [List.getElem?_set_ne ne'] at e4
        exact F.apart j k b c us us' p hjk z eb z' ec e3 e4
  bor := fun j us e => by
    rcases zaal e with ⟨_, z, _⟩ | ⟨ne, z⟩
    · cases z
    · obtain ⟨p, us', h1, h2⟩ := F.bor j us z
      exact ⟨p, us', by rw [List.getElem?_set_ne ne]; exact h1, h2⟩
theorem FrOk.chg {i : Nat} {ts us : List T} {a : Addr} {xs ys : List V} (F : FrOk G w H H₀ σ σV) (hi : σ[i]? = some (some (.own ts))) (hv : σV[i]? = some (some (.ref a))) (ha : H a = some (.lst xs)) (r : Reps G w H us ys) :
    FrOk G w (upd H a (.lst ys)) H₀ (setOwn σ i us) σV := by
  obtain ⟨a', xs', h1, h2, h3, h4, h5, h6⟩ := F.own i _ ts hi rfl
  rw [hv] at h1
  cases h1
  have hlt : i < σ.length := (List.getElem?_eq_some_iff.mp hi).1
  exact {
    len := by unfold setOwn; simp [F.len]
    val := fun j t e => by
      rcases zaal e with ⟨_, z, _⟩ | ⟨ne, z⟩
      · cases z
      · obtain ⟨v, q1, q2⟩ := F.val j t z
        exact ⟨v, q1, Rep.upd ha h5 t v q2⟩
    own := fun j b vs e eb => by
      rcases zaal e with ⟨rfl, z, hlt⟩ | ⟨ne, z⟩
      · cases z
        cases eb
        exact ⟨a, ys, hv, zaaq, Reps.upd ha h5 us ys r, h4, h5, h6⟩
      · obtain ⟨p, us', q1, q2, q3, q4⟩ := F.own j b vs z eb
        have np : p ≠ a := fun y => by
          subst y
          exact F.apart i j _ b ts vs p ne hi rfl z eb hv q1
        exact ⟨p, us', q1, by rw [upd_ne np]; exact q2, Reps.upd ha h5 _ _ q3, q4⟩
    apart := fun j k b c us1 us2 p hjk e1 eb e2 ec e3 e4 => by
      have old : ∀ {j : Nat} {b : B} {us1 : List T}, (setOwn σ i us)[j]? = some (some b) → ownL b = some us1 → ∃ b' us', σ[j]? = some (some b') ∧ ownL b' = some us' := fun {j b us1} e eb => by
        rcases zaal e with ⟨rfl, z, _⟩ | ⟨ne, z⟩
        · exact ⟨_, ts, hi, rfl⟩
        · exact ⟨b, us1, z, eb⟩
      obtain ⟨b', u1, z1, y1⟩ := old e1 eb
      obtain ⟨c', u2, z2, y2⟩ := old e2 ec
      exact F.apart j k b' c' u1 u2 p hjk z1 y1 z2 y2 e3 e4
    bor := fun j vs e => by
      rcases zaal e with ⟨_, z, _⟩ | ⟨ne, z⟩
      · cases z
      · obtain ⟨p, us', q1, q2, q3, q4, q5⟩ := F.bor j vs z
        have np : p ≠ a := fun y => by subst y; exact q4 h4
        exact ⟨p, us', q1, by rw [upd_ne np]; exact q2, Reps.upd ha h5 _ _ q3, q4, q5⟩ }
theorem ownAt_get {i : Nat} {ts : List T} (h : ownAt σ i = some ts) : σ[i]? = some (some (.own ts)) := by
  unfold ownAt at h
  split at h
  · rename_i us e
    cases h
    exact e
  · cases h
theorem Good.chg {s : Sto} {i : Nat} {ts us : List T} {a : Addr} {xs ys : List V} (g : Good G w₀ H₀ w H σ s σV) (hi : σ[i]? = some (some (.own ts))) (hv : σV[i]? = some (some (.ref a))) (ha : H a = some (.lst xs)) (r : Reps G w H us ys) :
    Good G w₀ H₀ w (upd H a (.lst ys)) (setOwn σ i us) s σV ∧ LeS w w H (upd H a (.lst ys)) σ (setOwn σ i us) σV σV := by
  obtain ⟨a', xs', h1, h2, h3, h4, h5, h6⟩ := g.fr.own i _ ts hi rfl
  rw [hv] at h1
  cases h1
  have hlt : i < σ.length := (List.getElem?_eq_some_iff.mp hi).1
  refine ⟨⟨g.sto.upd ha h5 h6, g.fr.chg hi hv ha r, g.ent.updNew h4 (by rw [ha]; intro z; cases z)⟩, Nat.le_refl _, fun _ _ => rfl, fun _ z => z, fun p o e nl no => ?_, fun l a b => absurd (Nat.lt_of_lt_of_le b a) (Nat.lt_irrefl _), fun p z => ?_, fun p z => .inl ?_, fun j vs e => ?_⟩
  · have np : p ≠ a := fun y => by subst y; exact no ⟨i, ts, hi, hv⟩
    rw [upd_ne np]
    exact e
  · by_cases e : p = a
    · subst e; rw [zaaq]; intro z; cases z
    · rw [upd_ne e]; exact z
  · obtain ⟨j, vs, e1, e2⟩ := z
    rcases zaal e1 with ⟨rfl, _, _⟩ | ⟨ne, z⟩
    · exact ⟨i, ts, hi, e2⟩
    · exact ⟨j, vs, z, e2⟩
  · rcases zaal e with ⟨rfl, z, _⟩ | ⟨ne, z⟩
    · cases z
    · exact ⟨⟨vs, z⟩, rfl⟩
variable {e j : Expr} {e' j' : E} {x : Str} {pos pos' p1 p2 : Pos} {i : Nat}
theorem tO_mk {D : Ends} {s : Sto} (g : Good G w₀ H₀ w H σ s σV) (h : WantS G X w₀ H₀ w H σ σV (ex C (.mk i e') σ s) D) : WantO G X σV w H (ev C e' .v σ s) fun v H1 => D.nx (σV.set i (some v)) H1 := by
  unfold ex at h
  split at h
  · cases hv : ev C e' .v σ s with
    | stuck => rw [hv] at h; exact h
    | exc c s1 => rw [hv] at h; exact fun w1 H1 pins u sh L S T => h w1 H1 σV pins u sh (g.step L S) (LeS.of L) T
    | ok r s1 =>
      rw [hv] at h
      obtain ⟨ts, ht, h⟩ := onS_w (show WantS G X w₀ H₀ w H σ σV (onS r.lst? fun ts => .next (setOwn σ i ts) s1) D from h)
      have er : r = .val (.lst ts) := by
        match r, ht with
        | .val (.lst us), ht => cases ht; rfl
      subst er
      intro w1 H1 a vs L S ha r hn nz nl
      have h0 : H₀ a = none := by
        cases q : H₀ a with
        | none => rfl
        | some o => exact absurd hn (g.ent.some_ a (by rw [q]; intro z; cases z))
      have g1 := g.step L S
      have hap : ∀ (j : Nat) (b : B) (us : List T), σ[j]? = some (some b) → ownL b = some us → σV[j]? ≠ some (some (.ref a)) := fun j b us e eb q => by
        obtain ⟨a', xs', h1, h2, _⟩ := g.fr.own j b us e eb
        rw [q] at h1
        cases h1
        rw [hn] at h2
        cases h2
      refine h w1 H1 _ ⟨g1.sto, g1.fr.mkO ha r h0 nz nl hap, g1.ent⟩ ⟨L.n, L.io, L.Z, fun p o e nl _ => L.keep p o e nl, L.newL, L.some_, fun p z => ?_, fun k us e => ?_⟩
      · obtain ⟨k, us, e1, e2⟩ := z
        rcases zaal e1 with ⟨rfl, _, hlt⟩ | ⟨ne, z⟩
        · rw [List.getElem?_set_self (by rw [← g.fr.len]; exact hlt)] at e2
          cases e2
          exact .inr hn
        · rw [List.getElem?_set_ne ne] at e2
          exact .inl ⟨k, us, z, e2⟩
      · rcases zaal e with ⟨_, z, _⟩ | ⟨ne, z⟩
        · cases z
        · exact ⟨⟨us, z⟩, by rw [List.getElem?_set_ne ne]⟩
  · exact h.elim
theorem sS_mk (hN : X.N.Nodup) (hi : X.N[i]? = some x) (hx : Loc X.env.scope x) (he : PE X e (tO G X C e')) (hs : swapsWith e (some (.Name x pos')) pos.line X.env = pure false) (hf : X.fn x = true ∨ X.env.scope.names.lookup x = some .local) :
    PS X (.Assign [.Name x pos'] e pos) (tS G X C (.mk i e')) := by
  refine PS.imp (ps_set hN hi hx he hs hf) ?_
  rintro D σV H ⟨w₀, H₀, w, σ, s, g, h⟩
  exact ⟨w₀, H₀, w, σ, s, g, tO_mk g h⟩
theorem zaa4 (hfr : ∀ σ s r s1, ev C e' .v σ s = .ok r s1 → ∃ ts, r = .val (.lst ts)) (he : PS X (.Assign [.Name x pos'] e pos) (fun D σV H => tO G X C e' σV H fun v H1 => D.nx (σV.set i (some v)) H1)) : PS X (.Assign [.Name x pos'] e pos) (tS G X C (.asg i e')) := by
  refine PS.imp he ?_
  rintro D σV H ⟨w₀, H₀, w, σ, s, g, h⟩
  refine ⟨w₀, H₀, w, σ, s, g, want_o (hfr σ s) ((st_of g h).imp ?_)⟩
  rintro v H1 ⟨w1, r, s1, L1, S1, R1, g1, h1⟩
  obtain ⟨t, ht, h1⟩ := onS_w h1
  cases val_of ht
  exact h1 w1 H1 _ (g1.put R1) LeS.put
theorem sS_app {cpos : Pos} (hN : X.N[i]? = some x) (hv : Vis X.env.scope x) (hd : (x == ("__debug__" : Str)) = false) (hcd : (x == ("__classdict__" : Str)) = false) (he : PE X e (tV G X C e')) (hst : starEach [e] X.env = [(false, eval e X.env)])
    (hline : (p2.endLine == cpos.line) = true) (hbase : attributeBase (.Name x p1) "append" X.env (eval (.Name x p1) X.env) = eval (.Name x p1) X.env)
    (hfew : ((backTo cpos (starEach [e] X.env)).all (fun x => !x.1) && (backToKw cpos (keywordEach [] X.env)).all (fun x => x.1.isSome) && decide ([e].length + ([] : List Keyword).length + (if ([] : List Keyword).isEmpty then 0 else 1) < 30)) = true)
    (hs : swapsWith (.Call (.Attribute (.Name x p1) "append" p2) [e] [] cpos) none pos.line X.env = pure false) :
    PS X (.Expr (.Call (.Attribute (.Name x p1) "append" p2) [e] [] cpos) pos) (tS G X C (.app i e')) := by
  refine PS.imp (ps_expr (pe_bm PySem.F.plainAttrs_list PySem.F.slot_list_append PySem.F.type_list_append zadw (pe_var hN hv hd hcd) (zaaw he pa_nil hst) hbase hfew hline hst rfl) hs) ?_
  rintro D σV H ⟨w₀, H₀, w, σ, s, g, h⟩
  obtain ⟨ts, ho, h⟩ := onS_w (show WantS G X w₀ H₀ w H σ σV (onS (ownAt σ i) fun ts => (ev C e' .v σ s).st σ fun x s1 => onS x.val? fun t => if ts.length < lim then .next (setOwn σ i (ts ++ [t])) s1 else .stuck) D from h)
  have hi := ownAt_get ho
  obtain ⟨a, vs, h1, h2, h3, h4, h5, h6⟩ := g.fr.own i _ ts hi rfl
  refine ⟨.ref a, h1, .inl ⟨rfl, vs, SqL.of h2⟩, w₀, H₀, w, σ, s, g, (st_of g h).imp ?_⟩
  rintro v H1 ⟨w1, r, s1, L1, S1, R1, g1, q1⟩
  obtain ⟨t, ht, q1⟩ := onS_w q1
  cases val_of ht
  split at q1
  · rename_i hlim
    have ha1 := L1.keep a _ h2 h6
    have r1 := Reps.mono L1 g.sto ts vs h3
    refine ⟨a, vs, v, rfl, rfl, ha1, by rw [← h3.length]; have := lim_le; omega, ?_⟩
    obtain ⟨g2, l2⟩ := g1.chg hi h1 ha1 (r1.append (show Reps G w1 H1 [t] [v] from ⟨v, [], rfl, R1, rfl⟩))
    exact q1 w1 _ σV g2 l2
  · exact q1.elim
theorem Good.frz {s : Sto} (g : Good G w₀ H₀ w H σ s σV) (i : Nat) : ∃ w', Good G w₀ H₀ w' H (frz σ i) s σV ∧ LeS w w' H H σ (frz σ i) σV σV := by
  unfold IP.frz
  split
  · rename_i ts hi
    obtain ⟨a, vs, h1, h2, h3, h4, h5, h6⟩ := g.fr.own i _ ts hi rfl
    have zm := fun (t : T) (v : V) (h : Rep G w H t v) => Rep.zmono (w := w) (w' := w.addZ a) rfl rfl (fun _ z => .inl z) t v h
    have zms := fun (t : List T) (v : List V) (h : Reps G w H t v) => Reps.zmono (w := w) (w' := w.addZ a) rfl rfl (fun _ z => .inl z) t v h
    refine ⟨w.addZ a, ⟨g.sto.addZ h2 h6, ⟨by simp [g.fr.len], fun j t e => ?_, fun j b us e eb => ?_, fun j k b c us us' p hjk e1 eb e2 ec => ?_, fun j us e => ?_⟩, g.ent.addZ h4⟩, Nat.le_refl _, fun _ _ => rfl, fun _ z => .inl z, fun _ _ e _ _ => e, fun l a b => absurd (Nat.lt_of_lt_of_le b a) (Nat.lt_irrefl _), fun _ z => z, fun p z => .inl ?_, fun j us e => ?_⟩
    · rcases zaal e with ⟨rfl, z, _⟩ | ⟨ne, z⟩
      · cases z
        exact ⟨.ref a, h1, a, vs, rfl, .inr rfl, .inl h2, zms _ _ h3⟩
      · obtain ⟨v, q1, q2⟩ := g.fr.val j t z
        exact ⟨v, q1, zm t v q2⟩
    · rcases zaal e with ⟨_, z, _⟩ | ⟨ne, z⟩
      · cases z; cases eb
      · obtain ⟨p, us', q1, q2, q3, q4, q5, q6⟩ := g.fr.own j b us z eb
        refine ⟨p, us', q1, q2, zms _ _ q3, q4, fun y => y.elim q5 fun y => ?_, q6⟩
        subst y
        exact g.fr.apart i j _ b ts us p ne hi rfl z eb h1 q1
    · rcases zaal e1 with ⟨_, z, _⟩ | ⟨ne, z⟩
      · cases z; cases eb
      · rcases zaal e2 with ⟨_, z', _⟩ | ⟨ne', z'⟩
        · cases z'; cases ec
        · exact g.fr.apart j k b c us us' p hjk z eb z' ec
    · rcases zaal e with ⟨_, z, _⟩ | ⟨ne, z⟩
      · cases z
      · obtain ⟨p, us', q1, q2, q3, q4⟩ := g.fr.bor j us z
        exact ⟨p, us', q1, q2, zms _ _ q3, q4⟩
    · obtain ⟨j, us, e1, e2⟩ := z
      rcases zaal e1 with ⟨_, z, _⟩ | ⟨ne, z⟩
      · cases z
      · exact ⟨j, us, z, e2⟩
    · rcases zaal e with ⟨_, z, _⟩ | ⟨ne, z⟩
      · cases z
      · exact ⟨⟨us, z⟩, rfl⟩
  · exact ⟨w, g, LeS.refl⟩
theorem zafm {rest : List Stmt} {as : List S} (h : PSs X rest (tSs G X C as)) : PSs X rest (tSs G X C (.frz i :: as)) := by
  refine PSs.imp h ?_
  rintro D σV H ⟨w₀, H₀, w, σ, s, g, h⟩
  obtain ⟨w', g', l'⟩ := g.frz i
  exact ⟨w₀, H₀, w', IP.frz σ i, s, g', WantS.mono l' h⟩
end
end IP
end
section
set_option Elab.async false
set_option linter.all false
set_option maxRecDepth 100000
namespace IP
open PySem PySem.Spec L2
theorem whileN_up {c : Fr → Sto → Res Bool} {b : Fr → Sto → SR} : ∀ (n : Nat) (σ : Fr) (s : Sto), whileN c b n σ s ≠ .stuck → whileN c b (n + 1) σ s = whileN c b n σ s := by
  intro n
  induction n with
  | zero => intro σ s h; exact absurd rfl h
  | succ n ih =>
    intro σ s h
    have h' := h
    unfold whileN at h
    show whileN c b (n + 1 + 1) σ s = _
    conv => lhs; unfold whileN
    conv => rhs; unfold whileN
    cases hc : c σ s with
    | stuck => rfl
    | exc d s1 => rfl
    | ok k s1 =>
      cases k with
      | false => rfl
      | true =>
        rw [hc] at h
        have h : ((b σ s1).bind fun σ2 s2 => whileN c b n σ2 s2) ≠ .stuck := h
        show ((b σ s1).bind fun σ2 s2 => whileN c b (n + 1) σ2 s2) = ((b σ s1).bind fun σ2 s2 => whileN c b n σ2 s2)
        cases hb : b σ s1 with
        | stuck => rfl
        | ret r s2 => rfl
        | retO ts s2 => rfl
        | exc d σ2 s2 => rfl
        | next σ2 s2 =>
          rw [hb] at h
          exact ih σ2 s2 h
theorem zab3 {c : Fr → Sto → Res Bool} {b : Fr → Sto → SR} {n : Nat} {σ : Fr} {s : Sto} (h : whileN c b n σ s ≠ .stuck) : ∀ k, whileN c b (n + k) σ s = whileN c b n σ s
  | 0 => rfl
  | k + 1 => by
    have ih := zab3 h k
    rw [← Nat.add_assoc, whileN_up (n + k) σ s (by rw [ih]; exact h), ih]
theorem zadt {c : Fr → Sto → Res Bool} {b : Fr → Sto → SR} {n : Nat} {σ : Fr} {s : Sto} (h : whileN c b n σ s ≠ .stuck) : whileL c b σ s = whileN c b n σ s := by
  have hx : ∃ n, whileN c b n σ s ≠ .stuck := ⟨n, h⟩
  unfold whileL
  rw [dif_pos hx]
  have hm := Classical.choose_spec hx
  generalize Classical.choose hx = m at hm
  rcases Nat.le_total n m with q | q
  · obtain ⟨k, rfl⟩ := Nat.exists_eq_add_of_le q
    exact zab3 h k
  · obtain ⟨k, rfl⟩ := Nat.exists_eq_add_of_le q
    exact (zab3 hm k).symm
theorem zaes {c : Fr → Sto → Res Bool} {b : Fr → Sto → SR} {σ : Fr} {s : Sto} (h : whileL c b σ s ≠ .stuck) : ∃ n, whileL c b σ s = whileN c b n σ s := by
  unfold whileL at h ⊢
  split at h
  · rename_i hx
    rw [dif_pos hx]
    exact ⟨_, rfl⟩
  · exact absurd rfl h
theorem zady (c : Fr → Sto → Res Bool) (b : Fr → Sto → SR) (σ : Fr) (s : Sto) : whileL c b σ s = match c σ s with
    | .stuck => .stuck
    | .exc d s1 => .exc d σ s1
    | .ok false s1 => .next σ s1
    | .ok true s1 => (b σ s1).bind fun σ2 s2 => whileL c b σ2 s2 := by
  by_cases h : ∃ n, whileN c b n σ s ≠ .stuck
  · obtain ⟨n, hn⟩ := h
    cases n with
    | zero => exact absurd rfl hn
    | succ n =>
      rw [zadt hn]
      unfold whileN at hn ⊢
      cases hc : c σ s with
      | stuck => rfl
      | exc d s1 => rfl
      | ok k s1 =>
        cases k with
        | false => rfl
        | true =>
          rw [hc] at hn
          have hn : ((b σ s1).bind fun σ2 s2 => whileN c b n σ2 s2) ≠ .stuck := hn
          show ((b σ s1).bind fun σ2 s2 => whileN c b n σ2 s2) = ((b σ s1).bind fun σ2 s2 => whileL c b σ2 s2)
          cases hb : b σ s1 with
          | stuck => rfl
          | ret r s2 => rfl
          | retO ts s2 => rfl
          | exc d σ2 s2 => rfl
          | next σ2 s2 =>
            rw [hb] at hn
            exact (zadt hn).symm
  · have e : whileL c b σ s = .stuck := by unfold whileL; rw [dif_neg h]
    rw [e]
    have h : ∀ n, whileN c b n σ s = .stuck := fun n => Classical.byContradiction fun q => h ⟨n, q⟩
    have h1 := h 1
    unfold whileN at h1
    cases hc : c σ s with
    | stuck => rfl
    | exc d s1 => rw [hc] at h1; cases h1
    | ok k s1 =>
      cases k with
      | false => rw [hc] at h1; cases h1
      | true =>
        show SR.stuck = ((b σ s1).bind fun σ2 s2 => whileL c b σ2 s2)
        cases hb : b σ s1 with
        | stuck => rfl
        | ret r s2 => rw [hc] at h1; simp [hb, whileN] at h1
        | retO ts s2 => rw [hc] at h1; simp [hb, whileN] at h1
        | exc d σ2 s2 => rw [hc] at h1; simp [hb, whileN] at h1
        | next σ2 s2 =>
          show SR.stuck = whileL c b σ2 s2
          unfold whileL
          rw [dif_neg]
          rintro ⟨n, hn⟩
          have := h (n + 1)
          unfold whileN at this
          rw [hc] at this
          simp only [hb, SR.bind_next] at this
          exact hn this
section
variable {G : Gx} {X : Cx} {C : Cf} {w w' w₀ : Wo} {H H' H₀ : Hp} {σ σ' : Fr} {σV σV' : St} {pos : Pos}
def asB (x : R) : Option Bool := match x with | .val (.bl k) => some k | _ => none
theorem sS_whl {c : Expr} {c' : E} {b : List Stmt} {b' : List S} (hwl : C.wl = whileL) (hp : PassesOwn (model X.prog X.w) X.A X.env X.xe) (hc : PT X c (tT G X C c')) (hb : PSs X b (tSs G X C b')) : PS X (.While c b [] pos) (tS G X C (.whl c' b')) := by
  refine PS.imp (ps_while hp hc hb) ?_
  rintro D σV H ⟨w₀, H₀, w, σ, s, g, h⟩
  have h : WantS G X w₀ H₀ w H σ σV (C.wl (fun σ s => (ev C c' .t σ s).bind fun x s1 => .of (match x with | .val (.bl k) => some k | _ => none) s1) (fun σ s => exs C b' σ s) σ s) D := h
  rw [hwl] at h
  generalize hcf : (fun σ s => (ev C c' .t σ s).bind fun x s1 => Res.of (match x with | .val (.bl k) => some k | _ => none) s1) = cf at h
  generalize hbf : (fun σ s => exs C b' σ s) = bf at h
  refine ⟨fun m σV1 H1 => ∃ w1 σ1 s1, Good G w₀ H₀ w1 H1 σ1 s1 σV1 ∧ whileN cf bf m σ1 s1 ≠ .stuck ∧ WantS G X w₀ H₀ w1 H1 σ1 σV1 (whileN cf bf m σ1 s1) D, ?_, ?_⟩
  · have hn : whileL cf bf σ s ≠ .stuck := fun z => by rw [z] at h; exact h
    obtain ⟨n, hn'⟩ := zaes hn
    rw [hn'] at hn h
    exact ⟨n, w, σ, s, g, hn, h⟩
  · rintro m σV1 H1 ⟨w1, σ1, s1, g1, hn1, h1⟩
    cases m with
    | zero => exact absurd rfl hn1
    | succ n =>
      unfold whileN at hn1 h1
      refine ⟨w₀, H₀, w1, σ1, s1, g1, ?_⟩
      have ec : cf σ1 s1 = (ev C c' .t σ1 s1).bind fun x s1 => Res.of (match x with | .val (.bl k) => some k | _ => none) s1 := by rw [← hcf]
      rw [ec] at hn1 h1
      cases he : ev C c' .t σ1 s1 with
      | stuck => rw [he] at hn1; exact absurd rfl hn1
      | exc d s2 => rw [he] at h1; exact fun w2 H2 pins u sh L S T => h1 w2 H2 σV1 pins u sh (g1.step L S) (LeS.of L) T
      | ok x s2 =>
        rw [he] at hn1 h1
        intro w2 H2 v L2 S2 R2
        match x, R2, hn1, h1 with
        | .val (.bl true), R2, hn1, h1 =>
          cases R2
          refine ⟨true, rfl, iteT ?_⟩
          have hn1 : ((bf σ1 s2).bind fun σ2 s2 => whileN cf bf n σ2 s2) ≠ .stuck := hn1
          have h1 : WantS G X w₀ H₀ w1 H1 σ1 σV1 ((bf σ1 s2).bind fun σ2 s2 => whileN cf bf n σ2 s2) D := h1
          refine ⟨fun σV3 H3 => ∃ w3 σ3 s3, Good G w₀ H₀ w3 H3 σ3 s3 σV3 ∧ whileN cf bf n σ3 s3 ≠ .stuck ∧ WantS G X w₀ H₀ w3 H3 σ3 σV3 (whileN cf bf n σ3 s3) D, fun σV3 H3 q => ⟨n, Nat.lt_succ_self _, q⟩, ?_⟩
          refine ⟨w₀, H₀, w2, σ1, s2, g1.step L2 S2, ?_⟩
          have eb : bf σ1 s2 = exs C b' σ1 s2 := by rw [← hbf]
          rw [eb] at hn1 h1
          cases hx : exs C b' σ1 s2 with
          | stuck => rw [hx] at h1; exact h1
          | ret r s3 => rw [hx] at h1; exact h1
          | retO ts s3 => rw [hx] at h1; exact h1
          | exc d σ3 s3 => rw [hx] at h1; exact fun w3 H3 σV3 pins u sh g3 L3 T => h1 w3 H3 σV3 pins u sh g3 ((LeS.of L2).trans L3) T
          | next σ3 s3 =>
            rw [hx] at h1 hn1
            intro w3 H3 σV3 g3 L3
            exact ⟨w3, σ3, s3, g3, hn1, WantS.mono ((LeS.of L2).trans L3) h1⟩
        | .val (.bl false), R2, hn1, h1 =>
          cases R2
          exact ⟨false, rfl, iteF (h1 w2 H2 σV1 (g1.step L2 S2) (LeS.of L2))⟩
        | .val .non, _, hn1, h1 => exact h1.elim
        | .val (.int _), _, hn1, h1 => exact h1.elim
        | .val (.str _), _, hn1, h1 => exact h1.elim
        | .val (.tup _), _, hn1, h1 => exact h1.elim
        | .val (.lst _), _, hn1, h1 => exact h1.elim
        | .val (.loc _), _, hn1, h1 => exact h1.elim
        | .val (.exc _), _, hn1, h1 => exact h1.elim
        | .bor _, _, hn1, h1 => exact h1.elim
def zacs (σ : Fr) (σV : St) : Src → Prop
  | .l a _ => ¬ Own σ σV a
  | _ => True
theorem SrcOk.monoS {z : Bool} {s : Sto} (L : LeS w w' H H' σ σ' σV σV') (S : StoOk G w H s) (F : FrOk G w H H₀ σ σV) : ∀ {src : Src} {ts : List T}, zacs σ σV src → SrcOk G w H z src ts → SrcOk G w' H' z src ts ∧ zacs σ' σV' src
  | .l a vs, ts, nf, ⟨h1, h2, h3, h4⟩ => by
    have hs := Rd.some h1
    refine ⟨⟨?_, Reps.kp (L.kp S F) ts vs h2, L.notLoc hs h3, fun q => L.Z a (h4 q)⟩, fun z => ?_⟩
    · rcases h1 with h1 | ⟨o, h1⟩
      · exact .inl (L.keep _ _ h1 h3 nf)
      · exact .inr ⟨o, L.keep _ _ h1 h3 nf⟩
    · rcases L.own a z with z | z
      · exact nf z
      · exact hs z
  | .t a vs, ts, _, ⟨h1, h2⟩ => ⟨⟨(L.kp S F).t _ _ h1, Reps.kp (L.kp S F) ts vs h2⟩, True.intro⟩
  | .r lo n, ts, _, h => ⟨h, True.intro⟩
theorem for_loop {tg : Expr} {g : Tg} {b : List Stmt} {b' : List S} {D : Ends} {src : Src} {ts : List T} {s : Sto} {K : PySem.W.Frag} {z : Bool} (gd : Good G w₀ H₀ w H σ s σV) (SO : SrcOk G w H z src ts) (SF : zacs σ σV src)
    (h : WantS G X w₀ H₀ w H σ σV (forL g (fun σ s => exs C b' σ s) ts σ s) D) :
    ∃ W : Nat → Nat → St → Hp → Prop, (∃ m, W 0 m σV H) ∧ ∀ i m σV H, W i m σV H →
      ((itOf K src).stop i H ∧ D.nx σV H) ∨ ((itOf K src).go i H ∧ ∃ N : St → Hp → Prop, (∀ σ' H', N σ' H' → ∃ m', m' < m ∧ W (i + 1) m' σ' H') ∧ ∀ x H', (itOf K src).yld i H x H' → gTg G g x σV H' fun σ2 H2 => tSs G X C b' { D with nx := N, ct := N, bk := D.nx } σ2 H2) := by
  refine ⟨fun i m σV1 H1 => ∃ w1 σ1 s1, m = ts.length - i ∧ i ≤ ts.length ∧ Good G w₀ H₀ w1 H1 σ1 s1 σV1 ∧ SrcOk G w1 H1 z src ts ∧ zacs σ1 σV1 src ∧ WantS G X w₀ H₀ w1 H1 σ1 σV1 (forL g (fun σ s => exs C b' σ s) (ts.drop i) σ1 s1) D,
    ⟨ts.length, w, σ, s, rfl, Nat.zero_le _, gd, SO, SF, h⟩, ?_⟩
  rintro i m σV1 H1 ⟨w1, σ1, s1, hm, hi, g1, SO1, SF1, h1⟩
  by_cases hlt : i < ts.length
  · refine .inr ?_
    have et : ts[i]? = some ts[i] := List.getElem?_eq_getElem hlt
    have ed : ts.drop i = ts[i] :: ts.drop (i + 1) := List.drop_eq_getElem_cons hlt
    rw [ed] at h1
    obtain ⟨σ2, hb, h1⟩ := onS_w (show WantS G X w₀ H₀ w1 H1 σ1 σV1 (onS (bindTg σ1 g ts[i]) fun σ' => (exs C b' σ' s1).bind fun σ2 s2 => forL g (fun σ s => exs C b' σ s) (ts.drop (i + 1)) σ2 s2) D from h1)
    obtain ⟨go, yld⟩ := SO1.go (K := K) et
    refine ⟨go, fun σV3 H3 => ∃ w3 σ3 s3, Good G w₀ H₀ w3 H3 σ3 s3 σV3 ∧ SrcOk G w3 H3 z src ts ∧ zacs σ3 σV3 src ∧ WantS G X w₀ H₀ w3 H3 σ3 σV3 (forL g (fun σ s => exs C b' σ s) (ts.drop (i + 1)) σ3 s3) D, fun σV3 H3 ⟨w3, σ3, s3, q1, q2, q3, q4⟩ => ⟨ts.length - (i + 1), by omega, w3, σ3, s3, rfl, hlt, q1, q2, q3, q4⟩, fun x H' hy => ?_⟩
    have rx := (yld x H' hy).2
    obtain rfl : H1 = H' := (yld x H' hy).1.symm
    refine ⟨w1, s1, ts[i], σ1, σ2, g1.sto, rx, hb, fun vs hfr hl => ?_⟩
    have g2 : Good G w₀ H₀ w1 H1 σ2 s1 (setsV σV1 (slots g) vs) := ⟨g1.sto, hfr H₀ σV1 g1.fr, g1.ent⟩
    have l2 : LeS w1 w1 H1 H1 σ1 σ2 σV1 (setsV σV1 (slots g) vs) := by
      cases g with
      | one k =>
        cases hb
        match vs, hl with
        | [v], _ => exact LeS.put
      | many ks =>
        have hb' : ∃ us, puts σ1 ks us = some σ2 := by
          match hts : ts[i], hb with
          | .tup us, hb => exact ⟨us, hb⟩
          | .lst us, hb => exact ⟨us, hb⟩
          | .non, hb => cases hb
          | .bl _, hb => cases hb
          | .int _, hb => cases hb
          | .str _, hb => cases hb
          | .loc _, hb => cases hb
          | .exc _, hb => cases hb
        obtain ⟨us, hb⟩ := hb'
        have go : ∀ (ks : List Nat) (us : List T) (vs : List V) (σ1 : Fr) (σV1 : St), puts σ1 ks us = some σ2 → vs.length = ks.length → LeS w1 w1 H1 H1 σ1 σ2 σV1 (setsV σV1 ks vs) := by
          intro ks
          induction ks with
          | nil =>
            intro us vs σ1 σV1 hp hl
            cases us with
            | nil => cases hp; cases vs <;> exact LeS.refl
            | cons u us => cases hp
          | cons k ks ih =>
            intro us vs σ1 σV1 hp hl
            cases us with
            | nil => cases hp
            | cons u us =>
              cases vs with
              | nil => simp at hl
              | cons v vs => exact LeS.trans (LeS.put (v := v)) (ih us vs (put σ1 k u) (σV1.set k (some v)) hp (by simpa using hl))
        exact go ks us vs σ1 σV1 hb hl
    obtain ⟨SO2, SF2⟩ := SO1.monoS l2 g1.sto g1.fr SF1
    refine ⟨w₀, H₀, w1, σ2, s1, g2, ?_⟩
    cases hx : exs C b' σ2 s1 with
    | stuck => rw [hx] at h1; exact h1
    | ret r s3 => rw [hx] at h1; exact h1
    | retO ts s3 => rw [hx] at h1; exact h1
    | exc d σ3 s3 => rw [hx] at h1; exact fun w3 H3 σV3 pins u sh g3 L3 T => h1 w3 H3 σV3 pins u sh g3 (l2.trans L3) T
    | next σ3 s3 =>
      rw [hx] at h1
      intro w3 H3 σV3 g3 L3
      obtain ⟨SO3, SF3⟩ := SO2.monoS L3 g2.sto g2.fr SF2
      exact ⟨w3, σ3, s3, g3, SO3, SF3, WantS.mono (l2.trans L3) h1⟩
  · have ei : i = ts.length := by omega
    subst ei
    rw [List.drop_length] at h1
    exact .inl ⟨SO1.stop, h1 w1 H1 σV1 g1 LeS.refl⟩
theorem zab4 {i j : Nat} {b : B} (h : (lock σ i)[j]? = some (some b)) : (σ[j]? = some (some b) ∧ (i = j → ∀ ts, b ≠ .own ts)) ∨ (i = j ∧ ∃ ts, b = .lck ts ∧ σ[i]? = some (some (.own ts))) := by
  unfold lock at h
  split at h
  · rename_i ts e
    rcases zaal h with ⟨rfl, z, _⟩ | ⟨ne, z⟩
    · exact .inr ⟨rfl, ts, by cases z; rfl, e⟩
    · exact .inl ⟨z, fun q => absurd q ne⟩
  · rename_i hn
    refine .inl ⟨h, fun q ts z => ?_⟩
    subst q z
    exact hn ts h
theorem zabx {i j : Nat} {b : B} (h : (unlock σ i)[j]? = some (some b)) : σ[j]? = some (some b) ∨ (i = j ∧ ∃ ts, b = .own ts ∧ σ[i]? = some (some (.lck ts))) := by
  unfold unlock at h
  split at h
  · rename_i ts e
    rcases zaal h with ⟨rfl, z, _⟩ | ⟨ne, z⟩
    · exact .inr ⟨rfl, ts, by cases z; rfl, e⟩
    · exact .inl z
  · exact .inl h
theorem lock_len (σ : Fr) (i : Nat) : (lock σ i).length = σ.length := by unfold lock; split <;> simp
theorem zaen (σ : Fr) (i : Nat) : (unlock σ i).length = σ.length := by unfold unlock; split <;> simp
theorem FrOk.relock (F : FrOk G w H H₀ σ σV) (hl : σ'.length = σ.length) (hr : ∀ (j : Nat) (b : B), σ'[j]? = some (some b) → σ[j]? = some (some b) ∨ ∃ b' ts, σ[j]? = some (some b') ∧ ownL b = some ts ∧ ownL b' = some ts) : FrOk G w H H₀ σ' σV where
  len := hl.trans F.len
  val := fun j t e => by
    rcases hr j _ e with z | ⟨b', ts, _, z, _⟩
    · exact F.val j t z
    · cases z
  own := fun j b ts e eb => by
    rcases hr j _ e with z | ⟨b', us, z1, z2, z3⟩
    · exact F.own j b ts z eb
    · rw [eb] at z2
      cases z2
      exact F.own j b' ts z1 z3
  apart := fun j k b c ts us a hjk e1 eb e2 ec e3 e4 => by
    have old : ∀ {j : Nat} {b : B} {ts : List T}, σ'[j]? = some (some b) → ownL b = some ts → ∃ b', σ[j]? = some (some b') ∧ ownL b' = some ts := fun {j b ts} e eb => by
      rcases hr j _ e with z | ⟨b', us, z1, z2, z3⟩
      · exact ⟨b, z, eb⟩
      · rw [eb] at z2
        cases z2
        exact ⟨b', z1, z3⟩
    obtain ⟨b', y1, y2⟩ := old e1 eb
    obtain ⟨c', y3, y4⟩ := old e2 ec
    exact F.apart j k b' c' ts us a hjk y1 y2 y3 y4 e3 e4
  bor := fun j ts e => by
    rcases hr j _ e with z | ⟨b', us, _, z, _⟩
    · exact F.bor j ts z
    · cases z
theorem Good.lock {s : Sto} (g : Good G w₀ H₀ w H σ s σV) (i : Nat) : Good G w₀ H₀ w H (lock σ i) s σV := ⟨g.sto, g.fr.relock (lock_len σ i) fun j b e => by
  rcases zab4 e with ⟨z, _⟩ | ⟨rfl, ts, rfl, z⟩
  · exact .inl z
  · exact .inr ⟨_, ts, z, rfl, rfl⟩, g.ent⟩
theorem Good.unlock {s : Sto} (g : Good G w₀ H₀ w H σ s σV) (i : Nat) : Good G w₀ H₀ w H (unlock σ i) s σV := ⟨g.sto, g.fr.relock (zaen σ i) fun j b e => by
  rcases zabx e with z | ⟨rfl, ts, rfl, z⟩
  · exact .inl z
  · exact .inr ⟨_, ts, z, rfl, rfl⟩, g.ent⟩
theorem LeS.unlock {i : Nat} (hi : isOwn σ i = true) (L : LeS w w' H H' (lock σ i) σ' σV σV') : LeS w w' H H' σ (unlock σ' i) σV σV' where
  n := L.n
  io := L.io
  Z := L.Z
  keep := fun a o e nl no => L.keep a o e nl fun ⟨j, ts, e1, e2⟩ => by
    rcases zab4 e1 with ⟨z, _⟩ | ⟨_, us, z, _⟩
    · exact no ⟨j, ts, z, e2⟩
    · cases z
  newL := L.newL
  some_ := L.some_
  own := fun a ⟨j, ts, e1, e2⟩ => by
    rcases zabx e1 with z | ⟨rfl, us, z1, z2⟩
    · rcases L.own a ⟨j, ts, z, e2⟩ with ⟨k, us, y1, y2⟩ | y
      · rcases zab4 y1 with ⟨z, _⟩ | ⟨_, vs, z, _⟩
        · exact .inl ⟨k, us, z, y2⟩
        · cases z
      · exact .inr y
    · obtain ⟨⟨vs, y1⟩, y2⟩ := L.lk i us z2
      unfold isOwn at hi
      split at hi
      · rename_i xs ex
        rw [e2] at y2
        exact .inl ⟨i, xs, ex, y2.symm⟩
      · cases hi
  lk := fun j ts e => by
    rcases zabx e with z | ⟨_, us, z, _⟩
    · obtain ⟨⟨us, y1⟩, y2⟩ := L.lk j ts z
      rcases zab4 y1 with ⟨y, _⟩ | ⟨rfl, vs, _, y⟩
      · exact ⟨⟨us, y⟩, y2⟩
      · exfalso
        unfold IP.unlock at e
        split at e
        · rename_i q
          rcases zaal e with ⟨_, q2, _⟩ | ⟨ne, _⟩
          · cases q2
          · exact ne rfl
        · rename_i q
          exact q ts e
    · cases z
theorem WantS.unlock {i : Nat} {r : SR} {D : Ends} (hi : isOwn σ i = true) (h : WantS G X w₀ H₀ w H σ σV (r.unlock i) D) : WantS G X w₀ H₀ w H (lock σ i) σV r D := by
  cases r with
  | stuck => exact h
  | ret r s => exact h
  | retO ts s => exact h
  | next σ1 s1 => exact fun w' H' σV' g L => h w' H' σV' (g.unlock i) (L.unlock hi)
  | exc c σ1 s1 => exact fun w' H' σV' pins u sh g L T => h w' H' σV' pins u sh (g.unlock i) (L.unlock hi) T
theorem lst_of {x : R} {ts : List T} (h : x.lst? = some ts) : x = .val (.lst ts) := by
  match x, h with
  | .val (.lst us), h => cases h; rfl
theorem sS_for {tg iter : Expr} {it' : E} {g : Tg} {b : List Stmt} {b' : List S} (hp : PassesOwn (model X.prog X.w) X.A X.env X.xe) (hc : X.calm = true) (hI : PI X tg iter (tI G X C it' .j true)) (hg : PG X tg (gTg G g)) (hb : PSs X b (tSs G X C b'))
    (hs : ∀ x, foldedSetIterable iter X.env x = pure x) (hit : ∀ i, it' ≠ .var i) : PS X (.For tg iter b [] pos) (tS G X C (.for_ g it' b')) := by
  refine PS.imp (ps_for hp hc hI hg hb hs) ?_
  rintro D σV H ⟨w₀, H₀, w, σ, s, gd, h⟩
  have h : WantS G X w₀ H₀ w H σ σV ((ev C it' .j σ s).st σ fun x s1 => onS x.lst? fun ts => forL g (fun σ s => exs C b' σ s) ts σ s1) D := by
    cases it' <;> first | exact h | exact absurd rfl (hit _)
  refine ⟨w₀, H₀, w, σ, s, gd, ?_⟩
  cases he : ev C it' .j σ s with
  | stuck => rw [he] at h; exact h.elim
  | exc c s1 => rw [he] at h; exact fun w1 H1 pins u sh L S T => h w1 H1 σV pins u sh (gd.step L S) (LeS.of L) T
  | ok x s1 =>
    rw [he] at h
    obtain ⟨ts, ht, h⟩ := onS_w (show WantS G X w₀ H₀ w H σ σV (onS x.lst? fun ts => forL g (fun σ s => exs C b' σ s) ts σ s1) D from h)
    cases lst_of ht
    intro w1 H1 src L S SO
    have g1 := gd.step L S
    refine for_loop (X := X) (tg := tg) (b := b) (z := true) (K := X.K) g1 SO ?_ (WantS.mono (LeS.of L) h)
    cases src with
    | l a vs => exact g1.fr.notOwnZ (SO.2.2.2 rfl)
    | t a vs => exact True.intro
    | r lo n => exact True.intro
end
end IP
end
section
set_option Elab.async false
set_option linter.all false
set_option maxRecDepth 100000
namespace IP
open PySem PySem.Spec L2
open PyProof.Rows (subscriptTail)
section
variable {G : Gx} {X : Cx} {C : Cf} {w w' w₀ : Wo} {H H' H₀ : Hp} {σ σ' : Fr} {σV σV' : St} {a b e : Expr} {a' b' e' : E} {pos p p2 : Pos} {Q : VK} {i : Nat} {x : Str}
theorem WantO.mono {res : Res R} {w1 : Wo} {H1 : Hp} (L : Le w w1 H H1) (h : WantO G X σV w H res Q) : WantO G X σV w1 H1 res Q := by
  match res, h with
  | .stuck, h => exact h
  | .exc c s, h => exact fun w' H' pins u sh a b => h w' H' pins u sh (L.trans a) b
  | .ok (.val (.lst ts)) s, h =>
    intro w' H' a vs L' S ha r hn nz nl
    refine h w' H' a vs (L.trans L') S ha r ?_ nz nl
    cases q : H a with
    | none => rfl
    | some o => exact absurd hn (L.some_ a (by rw [q]; intro z; cases z))
  | .ok (.val .non) s, h => exact h
  | .ok (.val (.bl _)) s, h => exact h
  | .ok (.val (.int _)) s, h => exact h
  | .ok (.val (.str _)) s, h => exact h
  | .ok (.val (.tup _)) s, h => exact h
  | .ok (.val (.loc _)) s, h => exact h
  | .ok (.val (.exc _)) s, h => exact h
  | .ok (.bor _) s, h => exact h
theorem WantO.bind {m : Res R} {k : R → Sto → Res R} (h : WantO G X σV w H (m.bind k) Q) :
    Want G X σV w H m fun v H1 => ∃ w1 r s1, Le w w1 H H1 ∧ StoOk G w1 H1 s1 ∧ RepR G w1 H1 r v ∧ WantO G X σV w1 H1 (k r s1) Q := by
  cases m with
  | stuck => exact h
  | ok r s => exact fun w' H' v a b c => ⟨w', r, s, a, b, c, WantO.mono a h⟩
  | exc c s => exact h
theorem WantO.of {o : Option R} {s : Sto} (h : WantO G X σV w H (Res.of o s) Q) : ∃ ts, o = some (.val (.lst ts)) ∧ ∀ w' H' a vs, Le w w' H H' → StoOk G w' H' s → H' a = some (.lst vs) → Reps G w' H' ts vs → H a = none → ¬ w'.Z a → notLoc w' a → Q (.ref a) H' := by
  match o, h with
  | none, h => exact h.elim
  | some (.val (.lst ts)), h => exact ⟨ts, rfl, h⟩
  | some (.val .non), h => exact h.elim
  | some (.val (.bl _)), h => exact h.elim
  | some (.val (.int _)), h => exact h.elim
  | some (.val (.str _)), h => exact h.elim
  | some (.val (.tup _)), h => exact h.elim
  | some (.val (.loc _)), h => exact h.elim
  | some (.val (.exc _)), h => exact h.elim
  | some (.bor _), h => exact h.elim
theorem sV_of (hE : PE X e (tO G X C e')) (hfr : ∀ σ s r s1, ev C e' .v σ s = .ok r s1 → ∃ ts, r = .val (.lst ts)) : PE X e (tV G X C e') :=
  PE.imp hE fun σV H Q ⟨w₀, H₀, w, σ, s, g, h⟩ => ⟨w₀, H₀, w, σ, s, g, want_o (hfr σ s) h⟩
theorem sO_lst {es : List Expr} {es' : List E} (h : PA X es (tA G X C es')) (hz : es'.length ≤ sizeLine) : PE X (.List es pos) (tO G X C (.lst es')) := by
  refine PE.imp (pe_lst h) ?_
  rintro σV H Q ⟨w₀, H₀, w, σ, s, g, h⟩
  have h : WantO G X σV w H ((evs C es' σ s).bind fun ts s1 => .ok (.val (.lst ts)) s1) Q := h
  refine ⟨w₀, H₀, w, σ, s, g, ?_⟩
  cases hf : evs C es' σ s with
  | stuck => rw [hf] at h; exact h
  | exc c s2 => rw [hf] at h; exact h
  | ok ts s2 =>
    rw [hf] at h
    intro w2 H2 vs L2 S2 R2
    refine ⟨by rw [← R2.length, zad5 C _ _ _ _ _ hf]; exact hz, ?_⟩
    exact fin_own S2 R2 (WantO.mono L2 h)
theorem sO_rev {k1 : Nat} {pu pn ps : Pos} (ha : PE X a (tV G X C a')) : PE X (.Subscript a (.Slice none none (some (.UnaryOp .USub (.Constant (.int 1) k1 pn) pu)) ps) pos) (tO G X C (.rev a')) := by
  intro pins s σV H Q I h
  obtain ⟨w₀, H₀, w, σ, st, g, h⟩ := h
  have h : WantO G X σV w H ((ev C a' .v σ st).bind fun x s1 => .of (x.seq.map fun ts => .val (.lst ts.reverse)) s1) Q := h
  refine PyProof.Rows.Subscript_ (thn (ha pins s σV H _ I ⟨w₀, H₀, w, σ, st, g, WantO.bind h⟩) fun v s1 ⟨x, H1, I1, r1, q1⟩ => ?_)
  obtain ⟨w1, rr, st1, L1, S1, R1, h1⟩ := q1
  obtain ⟨ts, e, q⟩ := WantO.of h1
  obtain ⟨us, hs, er⟩ := map_some e
  cases er
  obtain ⟨pa, vs, rfl, hp, rp⟩ := RepR.seq (s := st1) R1 hs
  cases r1
  have hneg : PE X (.UnaryOp .USub (.Constant (.int 1) k1 pn) pu) (tV G X C (.neg (.cst (.int 1)))) := sV_neg sV_int
  refine wpAny_Slice (thn (zadg pins s1 σV H1 (fun o H2 => o = none ∧ H2 = H1) I1 ⟨rfl, rfl⟩) fun vl s2 ⟨l, H2, I2, pl, e2, e2'⟩ => thn (zadg pins s2 σV H2 (fun o H3 => o = none ∧ H3 = H1) I2 ⟨rfl, e2'⟩) fun vu s3 ⟨u, H3, I3, pu, e3, e3'⟩ => ?_)
  subst e2' e3' e2 e3
  refine thn (zaer hneg pins s3 σV H3 (fun o H4 => o = some (-1) ∧ ∃ w4, Le w1 w4 H3 H4 ∧ StoOk G w4 H4 st1) I3 ⟨w₀, H₀, w1, σ, st1, g.step L1 S1, fun w4 H4 v L4 S4 R4 => ⟨-1, R4, rfl, w4, L4, S4⟩⟩) fun vk s4 ⟨o, H4, I4, pk, e4, w4, L4, S4⟩ => ?_
  subst e4
  cases pl
  cases pu
  have nl : Rd H3 pa (.lst vs) := hp
  have R4 : RepR G w4 H4 rr (.ref pa) := R1.mono L4 S1
  obtain ⟨pa', vs', ee, hp', rp'⟩ := RepR.seq (s := st1) R4 hs
  cases ee
  have I5 : Inv X pins σV H4 { s4 with heap := s4.heap.push { cls := .type "slice", data := .fields #[.none, .none, vk] } } := I4.kept (t' := s4.toks) fun b ob q => Heap.get?_push_of_some _ q
  obtain ⟨z, its, n, q1, l1, g1⟩ := Rd.lst I5 hp'
  show wpAny (model X.prog X.w) X.A (subscriptTail a (.Slice none none (some (.UnaryOp .USub (.Constant (.int 1) k1 pn) pu)) ps) (.ref pa) (.ref s4.heap.objs.size)) (EP X pins σV Q) X.xe { s4 with heap := s4.heap.push { cls := .type "slice", data := .fields #[.none, .none, vk] } }
  have il : ({ s4 with heap := s4.heap.push { cls := .type "slice", data := .fields #[.none, .none, vk] } } : Shared).heap.IsList pa its.toArray := ⟨_, g1, rfl, _, rfl⟩
  refine PyProof.Rows.tail_any (ops := [.ref pa, .ref s4.heap.objs.size]) il.typeIs slot_list_getitem.lookup ?_ (by with_unfolding_all rfl)
  refine wpAny_getItem_list_slice il (Heap.IsSliceOf.new ..) .none .none pk (by simp) ?_ (by rw [List.size_toArray, ← l1]; exact z)
  rw [PySem.W.krv_pick]
  refine ⟨.ref _, _, I5.lnew (t' := s4.toks) (ys := vs'.reverse) (its := its.reverse) ?_ (by rw [List.length_reverse]; exact z), rfl, ?_⟩
  · exact q1.reverse
  · exact fin_own S4 rp'.reverse (fun w' H' a vs L S ha r hn => q w' H' a vs (L4.trans L) S ha r (by
      cases qq : H3 a with
      | none => rfl
      | some o => exact absurd hn (L4.some_ a (by rw [qq]; intro z; cases z)))) _ I5.fresh
end
end IP
end
section
set_option Elab.async false
set_option linter.all false
set_option maxRecDepth 100000
namespace IP
open PySem PySem.Spec L2
section
variable {G : Gx} {X : Cx} {C : Cf} {w w' w₀ : Wo} {H H' H₀ : Hp} {σ σ' : Fr} {σV σV' : St} {a b e : Expr} {a' b' e' : IP.E} {pos p p2 : Pos} {Q : VK} {i : Nat} {x : Str}
def spG (G : Gx) (cf : Nat → List R → Sto → Res R) (fr : Nat → Bool) (f : Nat) : Sp := fun vs H Q E => ∃ w s rs, StoOk G w H s ∧ RepRs G w H rs vs ∧ match cf f rs s with
  | .stuck => False
  | .ok r s' => (fr f = false → ∀ w' H' v, Le w w' H H' → StoOk G w' H' s' → RepR G w' H' r v → Q v H') ∧
      (fr f = true → ∃ ts, r = .val (.lst ts) ∧ ∀ w' H' a vs, Le w w' H H' → StoOk G w' H' s' → H' a = some (.lst vs) → Reps G w' H' ts vs → H a = none → ¬ w'.Z a → notLoc w' a → Q (.ref a) H')
  | .exc c s' => ∀ w' H', Le w w' H H' → StoOk G w' H' s' → E (.ref (G.cA c)) none H'
variable {k fi : Nat} {fa : Addr} {fd : FuncData} {ps : List Str} {e₀ : Expr} {es : List Expr} {es' : List IP.E} {rs : List R} {vs : List V}
end
section
variable {fs : List Fn} {sub : Nat → Nat → Bool} {k fi : Nat}
variable {G : Gx} {P : Program} {w : World} {K : PySem.W.Frag} {mg : Str → Option Value} {base : Heap}
theorem zabf {F : Fn} {rs : List R} {i : Nat} {b : B} (h : (enter F rs)[i]? = some (some b)) : ∃ r, rs[i]? = some r ∧ ofR r = b := by
  unfold enter at h
  by_cases hi : i < rs.length
  · rw [List.getElem?_append_left (by simpa using hi), List.getElem?_map] at h
    cases q : rs[i]? with
    | none => rw [q] at h; cases h
    | some r => rw [q] at h; cases h; exact ⟨r, rfl, rfl⟩
  · rw [List.getElem?_append_right (by simpa using hi), List.getElem?_replicate] at h
    split at h <;> cases h
theorem RepRs.get {wo : Wo} {H : Hp} : ∀ {rs : List R} {vs : List V} {i : Nat} {r : R}, RepRs G wo H rs vs → rs[i]? = some r → ∃ v, vs[i]? = some v ∧ RepR G wo H r v
  | [], _, i, t, h, e => by simp at e
  | t :: ts, _, 0, u, ⟨v, r, e, h, q⟩, z => by subst e; simp at z; subst z; exact ⟨v, rfl, h⟩
  | t :: ts, _, i + 1, u, ⟨v, r, e, h, q⟩, z => by
    subst e
    obtain ⟨x, h1, h2⟩ := RepRs.get q (i := i) (r := u) (by simpa using z)
    exact ⟨x, by simpa using h1, h2⟩
theorem zad6 {N : List Str} {vs : List V} {i : Nat} {v : V} (h : vs[i]? = some v) : (L2.start N vs)[i]? = some (some v) := by
  unfold L2.start
  have hi := (List.getElem?_eq_some_iff.mp h).1
  rw [List.getElem?_append_left (by simpa using hi), List.getElem?_map, h]
  rfl
theorem zafp {wo : Wo} {H : Hp} {s : Sto} {F : Fn} {rs : List R} {vs : List V} {N : List Str} (S : StoOk G wo H s) (R1 : RepRs G wo H rs vs) (hs : F.size = N.length) : Good G wo H wo H (enter F rs) s (L2.start N vs) := by
  refine ⟨S, ⟨?_, fun i t e => ?_, fun i b ts e eb => ?_, fun i j b c ts us a ne e eb => ?_, fun i ts e => ?_⟩, Le.refl _ _⟩
  · unfold enter L2.start
    rw [List.length_append, List.length_append, List.length_map, List.length_map, List.length_replicate, List.length_replicate, hs, R1.length]
  · obtain ⟨r, hr, q⟩ := zabf e
    obtain ⟨v, hv, rv⟩ := R1.get hr
    cases r with
    | val u => cases q; exact ⟨v, zad6 hv, rv⟩
    | bor u => cases q
  · obtain ⟨r, hr, q⟩ := zabf e
    cases r <;> subst q <;> cases eb
  · obtain ⟨r, hr, q⟩ := zabf e
    cases r <;> subst q <;> cases eb
  · obtain ⟨r, hr, q⟩ := zabf e
    obtain ⟨v, hv, rv⟩ := R1.get hr
    cases r with
    | val u => cases q
    | bor u =>
      cases q
      obtain ⟨a, xs, e1, e2, e3, e4⟩ := rv
      subst e1
      exact ⟨a, xs, zad6 hv, e2, e3, (by rw [e2]; intro z; cases z), e4⟩
end
end IP
end
section
set_option Elab.async false
set_option linter.all false
set_option maxRecDepth 100000
namespace IP
open PySem PySem.Spec L2
theorem zaax {h : Heap} {as : List Addr} {b : Addr} {o : Obj} : (PySem.W.hideAll h as).get? b = some o ↔ h.get? b = some o ∧ b ∉ as := by
  refine ⟨fun e => ⟨PySem.W.of_hideAll as e, fun z => ?_⟩, fun ⟨e, n⟩ => PySem.W.hideAll_get as e n⟩
  rw [PySem.W.hideAll_none as z] at e
  cases e
section
variable {G : Gx} {X : Cx} {pins : List (Addr × Obj)} {σV : St} {H : Hp} {c : Nat} {u : Value} {sh : Shared}
theorem zafs {s : Shared} (I : Inv X pins σV H s) : X.base.StaysIn (PySem.W.hideAll s.heap (frs X.stack)) := fun b o e =>
  zaax.mpr ⟨I.bk b o e, fun z => by have := (I.stack.mem z).1; rw [e] at this; cases this⟩
theorem zaei {s : Shared} (I : Inv X pins σV H s) {h' : Heap} {e : Addr} {args : List Value} (hm : Heap.MadeExcOf s.heap h' e (.ref (G.cA c)) args) : Thrown G X pins σV H c (.ref e) { s with heap := h' } :=
  ⟨e, s.heap, PySem.W.hideAll s.heap (frs X.stack), rfl, I, ⟨fun _ _ => zaax, fun b o q _ => hm.keeps b o q, fun b o q _ => ⟨o.slots, hm.keeps b o q⟩, hm.new⟩, zafs I, .inl ⟨args, hm⟩⟩
theorem fun_cov {base h B : Heap} {as : List Addr} (hc : ∀ b o, B.get? b = some o → b ∉ as) : ∀ {l : List Env}, h.FunFrames base l → (∀ b ∈ frs l, b ∈ as) → h.FunFrames B l
  | [], _, _ => trivial
  | env :: l, ⟨hk, ⟨L, o, hf, _, ho, hd⟩, hr⟩, hin => by
    have hL : L ∈ as := hin L (by unfold frs; rw [List.filterMap_cons, hf]; exact List.mem_cons_self)
    refine ⟨hk, ⟨L, o, hf, ?_, ho, hd⟩, fun_cov hc hr fun b hb => hin b ?_⟩
    · cases q : B.get? L with
      | none => rfl
      | some z => exact absurd hL (hc L z q)
    · unfold frs
      rw [List.filterMap_cons, hf]
      exact List.mem_cons_of_mem _ hb
theorem Flt.next {stack : List Env} {base h B h1 h2 : Heap} {e : Addr} (F : Flt stack h B e h1) (hf : h.FunFrames base stack) (st : B.StaysIn h2) (sm : h1.UpToSlots h2) : Flt stack h B e h2 where
  cov := F.cov
  keep := fun b o q n => st b o ((F.cov b o).mpr ⟨q, n⟩)
  slot := fun b o q n => by
    obtain ⟨sl, e1⟩ := F.slot b o q n
    obtain ⟨_, o', ho', hd⟩ := hf.mem n
    rw [q] at ho'
    cases ho'
    obtain ⟨sl', e2⟩ := sm b _ e1 hd
    exact ⟨sl', e2⟩
  new := F.new
theorem note_made {M : Model} {A : Around} {E : Value → Shared → Prop} {s : Shared} {B h : Heap} {env : Env} {outer : List Env} {L e : Addr} {cls : Value} {args : List Value} {Q : Unit → Shared → Prop}
    (hfr : A.frames = some (env :: outer)) (hf : env.frame = some L) (hkb : B.StaysIn h) (hl : h.FunFrames B (env :: outer)) (hx : Heap.MadeExcOf h s.heap e cls args)
    (hQ : ∀ h' t, Heap.HeldW B (env :: outer) e cls t L h' → s.heap.UpToSlots h' → Q () { s with heap := h' }) : wpAny M A (noteFrame (.ref e) env) Q E s := by
  obtain ⟨t, he, htn, ht⟩ := hx.there
  have hen : B.get? e = none := by
    cases hq : B.get? e with
    | none => rfl
    | some o' => have := hkb e o' hq; rw [hx.new] at this; cases this
  unfold noteFrame
  simp only [hf]
  refine wpAny_bind (wpAny_field (x := .none) he rfl rfl ?_)
  rw [if_neg (by decide)]
  refine wpAny_entryW (a0 := .ref t) hfr (hl.of_keeps fun b o hb _ => ⟨o, hx.keeps b o hb, rfl⟩) hf he (fun b o hb => hx.keeps b o (hkb b o hb)) hen rfl (by simp) rfl fun h' hN => ?_
  obtain ⟨k1, k2, k3, k4⟩ := hN
  exact hQ h' (.ref t) ⟨k1, hen, k2, k3⟩ k4
theorem zac9 {E E' : Value → Shared → Prop} {Q : Unit → Shared → Prop} (hst : X.stack = X.env :: X.outer ∧ X.env.frame = some X.env.locals) (T : Thrown G X pins σV H c u sh)
    (hQ : ∀ e h B h' t, u = .ref e → Inv X pins σV H { sh with heap := h } → Flt X.stack h B e h' → X.base.StaysIn B → Heap.FlyingW B X.stack e (.ref (G.cA c)) t h' → Q () { sh with heap := h' }) :
    wpAny (model X.prog X.w) X.A (noteFrame u X.env) (fun _ s2 => wpAny (model X.prog X.w) X.A (setFlight u none) Q E s2) E' sh := by
  obtain ⟨e, h, B, rfl, I, F, sb, T⟩ := T
  have hff : h.FunFrames X.base X.stack := I.stack
  have hfr : X.A.frames = some (X.env :: X.outer) := by rw [I.ok.frames, hst.1]
  have fB : h.FunFrames B X.stack := fun_cov (fun b o q => ((F.cov b o).mp q).2) hff fun _ z => z
  have land : ∀ (h1 : Heap) (t : Value), Heap.HeldW B X.stack e (.ref (G.cA c)) t X.env.locals h1 → sh.heap.UpToSlots h1 → wpAny (model X.prog X.w) X.A (setFlight (.ref e) none) Q E { sh with heap := h1 } := fun h1 t hh sm => by
    refine wpAny_landsW (s := { sh with heap := h1 }) hh fun h2 hfl sm2 => ?_
    exact hQ e h B h2 t rfl I (F.next hff hfl.1 (sm.trans sm2)) sb hfl
  rcases T with ⟨args, hm⟩ | ⟨t, hf⟩ | ⟨t, L, hL, hh⟩
  · rw [hst.1] at fB
    refine note_made hfr hst.2 (fun b o q => ((F.cov b o).mp q).1) fB hm fun h1 t hh sm => ?_
    rw [← hst.1] at hh
    exact land h1 t hh sm
  · rw [hst.1] at hf
    refine wpAny_looks_onW hfr hst.2 hf fun h1 hh sm => ?_
    rw [← hst.1] at hh
    exact land h1 t hh sm
  · have eL : L = X.env.locals := Option.some.inj (hL.symm.trans hst.2)
    subst eL
    exact wpAny_noteFrame_againW hst.2 hh.2.2.2 (land sh.heap t hh (.refl _))
theorem zafd {M : Model} {A : Around} {E : Value → Shared → Prop} {s : Shared} {env : Env} {u : Value} {Q : Unit → Shared → Prop} (h : wpAny M A (noteFrame u env) (fun _ s2 => wpAny M A (setFlight u none) Q E s2) E s) : wpAny M A (leaving env u) Q E s := by
  unfold leaving
  exact wpAny_bind h
end
end IP
end
section
set_option Elab.async false
set_option linter.all false
set_option maxRecDepth 100000
namespace IP
open PySem PySem.Spec L2
section
variable {G : Gx} {X : Cx} {C : Cf} {pins : List (Addr × Obj)} {σV : St} {H : Hp} {c : Nat} {u : Value} {sh : Shared}
theorem hok_hide {P : Program} {w : World} {h : Heap} {L : Addr} (k : HOk P w H h) (n : H L = none) : HOk P w H (PySem.W.hideAll h [L]) := fun a o q => by
  refine (k a o q).stay (fun b v hb r => zaax.mpr ⟨r, fun z => ?_⟩) (fun _ r => r) fun _ _ r => r
  have z : b = L := by simpa using z
  subst z
  rcases hb with rfl | hb
  · rw [n] at q; cases q
  · rw [n] at hb; cases hb
theorem zaev {P : Program} {w : World} {K : PySem.W.Frag} {mg : Str → Option Value} {base : Heap} {N : List Str} {qual : Str} {scope : Scope} {f : Addr} {cd : Value} {A : Around} {outer : List Env} {s : Shared} {H₁ : Hp} {E : XK}
    (T : Thrown G (cxOf (CXE G P w base) P w K mg base N qual scope f cd A outer s H₁ E) pins σV H c u sh) (hE : E (.ref (G.cA c)) none H) : (cxOf (CXE G P w base) P w K mg base N qual scope f cd A outer s H₁ E).xe u sh := by
  refine zafd (zac9 (X := cxOf (CXE G P w base) P w K mg base N qual scope f cd A outer s H₁ E) ⟨rfl, rfl⟩ T fun e h B h' t eu I F sb fly => ?_)
  have hL : H s.heap.objs.size = none := I.free
  have un := I.base
  obtain ⟨f1, f2, ⟨_, _, f3⟩, f4⟩ := fly
  have hne : ∀ b, b < s.heap.objs.size → b ∉ [s.heap.objs.size] := fun b hb z => by
    have : b = s.heap.objs.size := by simpa using z
    omega
  refine ⟨e, _, t, H, PySem.W.hideAll h [s.heap.objs.size], B, eu, I.os, I.bare, ⟨fun b o q n hb hx => ?_, fun b o q n hb hx => ?_, un.free, fun b o q hx => ?_, un.tups, un.frzs, un.tbls⟩, hok_hide I.hok hL, ⟨fun b o => ?_, fun b o q n => ?_, fun b o q n => ?_, ?_⟩, sb, ⟨f1, f2, f3, f4⟩, hE⟩
  · exact zaax.mpr ⟨un.keep b o q n hb hx, hne b (Heap.lt_size q)⟩
  · obtain ⟨sl, z⟩ := un.slot b o q n hb hx
    exact ⟨sl, zaax.mpr ⟨z, hne b (Heap.lt_size q)⟩⟩
  · obtain ⟨o', z⟩ := un.there b o q hx
    exact ⟨o', zaax.mpr ⟨z, hne b (Heap.lt_size q)⟩⟩
  · rw [F.cov b o, zaax]
    have efs : b ∈ frs (cxOf (CXE G P w base) P w K mg base N qual scope f cd A outer s H₁ E).stack ↔ b ∈ [s.heap.objs.size] ∨ b ∈ frs outer := by
      show b ∈ s.heap.objs.size :: frs outer ↔ _
      simp
    rw [efs]
    exact ⟨fun ⟨a, z⟩ => ⟨⟨a, fun y => z (.inl y)⟩, fun y => z (.inr y)⟩, fun ⟨⟨a, y⟩, z⟩ => ⟨a, fun y' => y'.elim y z⟩⟩
  · obtain ⟨a, y⟩ := zaax.mp q
    refine F.keep b o a fun z => ?_
    rcases List.mem_cons.mp (show b ∈ s.heap.objs.size :: frs outer from z) with r | r
    · exact y (by simp [r])
    · exact n r
  · obtain ⟨a, y⟩ := zaax.mp q
    exact F.slot b o a (List.mem_cons_of_mem _ n)
  · cases q : (PySem.W.hideAll h [s.heap.objs.size]).get? e with
    | none => rfl
    | some o => have := (zaax.mp q).1; rw [F.new] at this; cases this
theorem passes_leave {Q : Value → Unit → Shared → Prop} {E₁ : Value → Value → Shared → Prop} (hx : X.xe = fun e s => wpAny (model X.prog X.w) X.A (leaving X.env e) (Q e) (E₁ e) s) : PassesOwn (model X.prog X.w) X.A X.env X.xe := by
  intro e s' h
  rw [hx] at h
  have h2 := wpAny_leaving_again (A' := X.A) (A'' := X.A) (SameStack.refl X.A) (what := "frame.own-activation:exception-without-traceback") (E₂ := X.xe) (E₃ := cameBackBy (model X.prog X.w) X.A X.env X.xe) h
  refine wpAny_mono h2 (fun _ s1 q => ?_) fun _ _ z => z
  refine wpAny_mono q (fun _ s2 z => ?_) fun _ _ z => z
  show X.xe e s2
  rw [hx]
  exact z
end
end IP
end
section
set_option Elab.async false
set_option linter.all false
set_option maxRecDepth 100000
namespace IP
open PySem PySem.Spec L2
section
variable {G : Gx} {X : Cx} {C : Cf} {w w' w₀ : Wo} {H H' H₀ : Hp} {σ σ' : Fr} {σV σV' : St} {a b e : Expr} {a' b' e' : IP.E} {pos p p2 : Pos} {Q : VK} {i : Nat} {x : Str}
variable {k fi : Nat} {fa : Addr} {fd : FuncData} {ps : List Str} {e₀ : Expr} {es : List Expr} {es' : List IP.E} {rs : List R} {vs dvs : List V} {ds : List Value} {dts : List T}
theorem spG_vE {H1 : Hp} {w1 : Wo} {s1 : Sto} (hf : C.fr fi = false) (L1 : Le w w1 H H1) (S1 : StoOk G w1 H1 s1) (R1 : RepRs G w1 H1 rs vs) (h : Want G X σV w H (C.cf fi rs s1) Q) : spG G C.cf C.fr fi vs H1 Q (EX G X σV) := by
  refine ⟨w1, s1, rs, S1, R1, ?_⟩
  have h := Want.mono L1 h
  cases hc : C.cf fi rs s1 with
  | stuck => rw [hc] at h; exact h
  | ok r s' => rw [hc] at h; exact ⟨fun _ => h, fun z => by rw [hf] at z; cases z⟩
  | exc c s' =>
    rw [hc] at h
    intro w' H' L S pins u sh hh B a t e I fl sb fly
    exact h w' H' pins u sh L S ⟨a, hh, B, e, I, fl, sb, .inr (.inl ⟨t, fly⟩)⟩
theorem sV_callX (hf : C.fr fi = false) (F : FnOk X.prog X.w X.K X.mg X.base (CXE G X.prog X.w X.base) k fa fd ps (spG G C.cf C.fr fi)) (hr : Room k X.A) (hg : Gl X x) (hm : X.mg x = some (.ref fa)) (hk : PySem.W.keepIn X.K (.ref fa) = true) (hb : Binds X.K fd ps ds) (hd : Vals dvs ds)
    (hdt : dts.mapM cstV = some dvs) (ha : PA X (e₀ :: es) (tR G X C es')) (hdb : (x == ("__debug__" : Str)) = false) (he : starEach (e₀ :: es) X.env = (false, eval e₀ X.env) :: starEach es X.env) (hpl : (backTo pos (starEach es X.env)).any (·.1) = false) :
    PE X (.Call (.Name x p) (e₀ :: es) [] pos) (tV G X C (.call fi es' dts)) := by
  rintro pins s σV H Q I ⟨w₀, H₀, w, σ, st, g, h⟩
  have h : Want G X σV w H ((evr C es' σ st).bind fun rs s1 => C.cf fi (rs ++ dts.map .val) s1) Q := h
  refine wpAny_Call_Name_kw (ld_glob I hg hm ?_ hdb)
  refine PySem.W.callWith_K (h₀ := X.base) I.ok.mod.kin hk (thn (ha pos pins s σV H _ I ⟨w₀, H₀, w, σ, st, g, zafo h⟩) fun us s1 ⟨vs, H1, I1, r, q⟩ => ⟨I1.kIn, ?_⟩) he hpl
  obtain ⟨w1, rs, st1, L1, S1, R1, h1⟩ := q
  exact run_call F hr hb hd I1 r (spG_vE hf L1 S1 (zabl R1 (zadp hdt)) h1) (passes_of I1)
end
structure FunD (K : PySem.W.Frag) (x qual : Str) (st : Stmt) (f : Addr) (fd : FuncData) : Prop where
  ex : ∃ (oc : Value) (od : Option Addr) (dV kV doc pm : Value) (an : Option Addr) (cdv ct : Value) (osl : Array (Option Value)),
    fd = PySem.W.fnOf x qual (zaag st) (zaaf st) (zaab st) dV kV doc pm an cdv ct ∧ K.lookup f = some ⟨oc, od, .func fd, osl⟩ ∧ PySem.W.codeIn K cdv qual = true
  kp : PySem.W.keepIn K (.ref f) = true
theorem zaak {K : PySem.W.Frag} {x qual : Str} {st : Stmt} {f : Addr} {oc : Value} {od an : Option Addr} {osl : Array (Option Value)} {dV kV doc pm cdv ct : Value} (l : K.lookup f = some ⟨oc, od, .func (PySem.W.fnOf x qual (zaag st) (zaaf st) (zaab st) dV kV doc pm an cdv ct), osl⟩)
    (c : PySem.W.codeIn K cdv qual = true) (k : PySem.W.keepIn K (.ref f) = true) : FunD K x qual st f (PySem.W.fnOf x qual (zaag st) (zaaf st) (zaab st) dV kV doc pm an cdv ct) := ⟨⟨oc, od, dV, kV, doc, pm, an, cdv, ct, osl, rfl, l, c⟩, k⟩
section
variable {fs : List Fn} {sub : Nat → Nat → Bool} {k fi : Nat}
variable {G : Gx} {P : Program} {w : World} {K : PySem.W.Frag} {mg : Str → Option Value} {base : Heap}
theorem zaae {CX : CXT} {f : Addr} {fd : FuncData} {ps : List Str} {k : Nat} : FnOk P w K mg base CX k f fd ps (spG G (run true fs sub whileL 0) (frOf fs) fi) :=
  ⟨fun vs H Q E ⟨_, _, _, _, _, z⟩ => z.elim, fun A outer s H args us vs Q E hr e0 hb hv ⟨_, _, _, _, _, z⟩ => z.elim⟩
@[reducible] noncomputable def cfX (fs : List Fn) (sub : Nat → Nat → Bool) (k : Nat) : Cf := ⟨run true fs sub whileL k, sub, frOf fs, whileL⟩
theorem fn_okX {x qual : Str} {st : Stmt} {f : Addr} {fd : FuncData} {N ps : List Str} {F : Fn} (Fu : FunD K x qual st f fd) (S : FnScope N ps (zaab st)) (hF : fs[fi]? = some F) (hp : F.pars = ps.length) (hs : F.size = N.length)
    (hbody : ∀ (cdv : Value) (A : Around) (outer : List Env) (s : Shared) (H : Hp) (E : XK), Room (2 * k + 1) (A.deeper (PyProof.Rows.envOfC qual (zaab st) s.heap.objs.size f cdv)) →
      PSs (cxOf (CXE G P w base) P w K mg base N qual (zaab st) f cdv A outer s H E) (zaaf st) (tSs G (cxOf (CXE G P w base) P w K mg base N qual (zaab st) f cdv A outer s H E) (cfX fs sub k) F.body)) :
    FnOk P w K mg base (CXE G P w base) (2 * (k + 1)) f fd ps (spG G (run true fs sub whileL (k + 1)) (frOf fs) fi) := by
  have hrun : ∀ rs s, run true fs sub whileL (k + 1) fi rs s = if rs.length = F.pars then leave true F.fr (exs (cfX fs sub k) F.body (enter F rs) s) else .stuck := fun rs s => by
    conv => lhs; unfold run
    rw [hF]
  have hfr : frOf fs fi = F.fr := by unfold frOf; rw [hF]
  obtain ⟨oc, od, dV, kV, doc, pm, an, cdv, ct, osl, rfl, lk, hcd⟩ := Fu.ex
  refine fn_of (k := 2 * k + 1) lk hcd S (fun vs H Q E h => ?_) fun A outer s H vs Q E hr h => ⟨_, hbody cdv A outer s H E hr, ?_⟩
  · obtain ⟨wo, st, rs, S1, R1, h⟩ := h
    rw [hrun] at h
    by_cases hl : rs.length = F.pars
    · exact R1.length.symm.trans (hl.trans hp)
    · rw [if_neg hl] at h; exact h.elim
  · obtain ⟨wo, st, rs, S1, R1, h⟩ := h
    rw [hrun] at h
    by_cases hl : rs.length = F.pars
    · rw [if_pos hl] at h
      refine ⟨wo, H, wo, enter F rs, st, zafp S1 R1 hs, ?_⟩
      rw [hfr] at h
      cases hx : exs (cfX fs sub k) F.body (enter F rs) st with
      | stuck => rw [hx] at h; exact h.elim
      | next σ' s' =>
        rw [hx] at h
        cases hb : F.fr with
        | true => rw [hb] at h; exact h.elim
        | false => rw [hb] at h; exact fun w' H' σV' g L => h.1 rfl w' H' .non g.ent g.sto rfl
      | ret r s' =>
        rw [hx] at h
        cases hb : F.fr with
        | true => rw [hb] at h; exact h.elim
        | false => rw [hb] at h; exact fun w' H' v S R L => h.1 rfl w' H' v L S R
      | retO ts s' =>
        rw [hx] at h
        cases hb : F.fr with
        | false => rw [hb] at h; exact h.elim
        | true =>
          rw [hb] at h
          obtain ⟨us, e, q⟩ := h.2 rfl
          cases e
          exact fun w' H' a vs S ha r hn nz nl L => q w' H' a vs L S ha r hn nz nl
      | exc c σ' s' =>
        rw [hx] at h
        exact fun w' H' σV' pins u sh g L T => zaev T (h w' H' g.ent g.sto)
    · rw [if_neg hl] at h; exact h.elim
end
end IP
end
section
set_option Elab.async false
set_option linter.all false
set_option maxRecDepth 100000
namespace IP
open PySem PySem.Spec L2
theorem exc_obj {K : PySem.W.Frag} {h : Heap} {Ca : Addr} {bB : List Value} {nid : String} (hK : K.In h) (q : PySem.W.excIn K Ca bB nid = true) :
    ∃ bm N nm qn bs hdct sn sub ab col dd k0 k1 k2 k3 k5 mN, h.get? Ca = some (excClassObj nm qn Ca N bs bm hdct sn sub ab col dd k0 k1 k2 k3 k5 nid) ∧ h.Ns N mN ∧ mN "__init__" = none ∧ OwnTail h bB bm := by
  unfold PySem.W.excIn at q
  split at q
  · rename_i d1 cl sl ho
    split at q
    · rename_i Cb tl u0 u1 u2 u3 nn u5 em es
      simp only [Bool.and_eq_true, beq_iff_eq, Bool.not_eq_true'] at q
      obtain ⟨⟨⟨⟨⟨q1, q2⟩, q3⟩, q4⟩, q5⟩, q6⟩ := q
      subst q1 q2
      obtain ⟨nm0, bs0, mro0, ns0, qn0, hd0, sn0, sub0, ab0, col0, del0⟩ := cl
      dsimp only at em q3 q5 q6
      subst em q3
      have hg := hK _ _ ho
      have esl : sl = #[u0, u1, u2, u3, some (.builtin nn), u5] := by
        apply Array.toList_inj.mp
        rw [es]
      subst esl
      exact ⟨tl, ns0, nm0, qn0, bs0, hd0, sn0, sub0, ab0, col0, d1, u0, u1, u2, u3, u5, _, hg, .of_isNs (PySem.W.isNs_of_in hK q5), PySem.W.nsMap_none_of_in hK q5 q6, PySem.W.tail_of_in hK q4⟩
    · cases q
  · cases q
section
variable {G : Gx} {X : Cx} {C : Cf} {w w' w₀ : Wo} {H H' H₀ : Hp} {σ σ' : Fr} {σV σV' : St} {c : Nat} {x : Str} {np cpos pos mp : Pos} {m : Str} {j : Nat}
theorem sS_raise {bB : List Value} {B nid iid : String} (hc : X.calm = true) (hg : Gl X x) (hm : X.mg x = some (.ref (G.cA c))) (hq : PySem.W.excIn X.K (G.cA c) bB nid = true) (FB : ExcBaseFacts B nid iid bB) (hdb : (x == ("__debug__" : Str)) = false)
    (he : starEach [.Constant (.str m) j mp] X.env = [(false, eval (.Constant (.str m) j mp) X.env)]) : PS X (.Raise (some (.Call (.Name x np) [.Constant (.str m) j mp] [] cpos)) none pos) (tS G X C (.raise c)) := by
  rintro pins s σV H D I ⟨w₀, H₀, w, σ, st, g, h⟩
  have hx : ∀ u sh, Thrown G X pins σV H c u sh → X.xe u sh := fun u sh T => h w H σV pins u sh g LeS.refl T
  obtain ⟨tl, N, nm, qn, bs, hdct, sn, sub, ab, col, dd, k0, k1, k2, k3, k5, mN, hC, hN, hni, T⟩ := exc_obj (I.ok.mod.kin) hq
  refine wpAny_Raise_call_subT (C := G.cA c) (nm := nm) (q := qn) (N := N) (bs := bs) (bm := tl) (hdct := hdct) (sn := sn) (sub := sub) (ab := ab) (col := col) (dd := dd) (k0 := k0) (k1 := k1) (k2 := k2) (k3 := k3) (k5 := k5)
    FB (mN := mN) (T.hasType FB.hasBase) (I.ok.hd hc) (by rw [he]; rfl) hni (ld_glob I hg hm ⟨rfl, ?_⟩ hdb)
  have ha : PA X [.Constant (.str m) j mp] (tCons (tC (.str m)) tNil) := zaaw pe_str pa_nil (by rw [he]; rfl)
  have z := ha cpos pins s σV H (fun vs H1 => vs = [.str m] ∧ H1 = H) I ⟨rfl, rfl⟩
  rw [he] at z ⊢
  refine PySem.Calls.evalArgs_plain (wpAny_mono z (fun vs s₂ h₂ => ?_) fun _ _ y => y)
  obtain ⟨ws, H1, I1, rv, rfl, rfl⟩ := h₂
  have hl := rv.length
  refine ⟨rfl, ?_, I1.bk _ _ hC, hN.keeps I1.bk, T.keeps I1.bk, fun h' e hmd => hx _ _ (zaei I1 hmd)⟩
  show vs.length ≤ sizeLine
  rw [← hl]
  show 1 ≤ sizeLine
  decide
end
section
variable {M : Model} {A : Around} {E : Value → Shared → Prop} {s : Shared} {env : Env}
end
end IP
end
section
set_option Elab.async false
set_option linter.all false
set_option maxRecDepth 100000
namespace IP
open PySem PySem.Spec L2
section
variable {G : Gx} {X : Cx} {C : Cf} {w w' w₀ : Wo} {H H' H₀ : Hp} {σ σ' : Fr} {σV σV' : St} {s : Sto} {a : Addr} {l : Nat}
end
end IP
end
section
set_option Elab.async false
set_option linter.all false
set_option maxRecDepth 100000
namespace IP
open PySem PySem.Spec L2
section
variable {G : Gx} {X : Cx} {C : Cf} {w w' w₀ : Wo} {H H' H₀ : Hp} {σ σ' : Fr} {σV σV' : St} {a b e j o : Expr} {a' b' e' j' : IP.E} {pos pos' p p1 p2 apos : Pos} {Q : VK} {i c f : Nat} {x m : Str}
variable {k fi : Nat} {fa : Addr} {fd : FuncData} {ps : List Str} {e₀ : Expr} {es : List Expr} {es' : List IP.E} {rs : List R} {vs dvs : List V} {ds : List Value} {dts : List T}
end
end IP
end
section
set_option Elab.async false
set_option linter.all false
set_option maxRecDepth 100000
namespace IP
open PySem PySem.Spec L2
abbrev hnd (X : Cx) (e : Addr) : Cx := { X with A := X.A.mark (some (.ref e)), calm := false, xe := fun _ _ => False }
section
variable {G : Gx} {X : Cx} {C : Cf} {pins : List (Addr × Obj)} {σV : St} {H : Hp} {c : Nat} {u : Value} {sh s : Shared} {e : Addr}
end
end IP
end
section
set_option Elab.async false
set_option linter.all false
set_option maxRecDepth 100000
namespace IP
open PySem PySem.Spec L2
section
variable {G : Gx} {X : Cx} {C : Cf} {pins pins' : List (Addr × Obj)} {w w' w₀ : Wo} {H H' H₀ : Hp} {σ σ' : Fr} {σV σV' : St} {c : Nat} {u : Value} {sh s : Shared} {e : Addr} {E : Value → Shared → Prop}
end
end IP
end
section
set_option Elab.async false
set_option linter.all false
set_option maxRecDepth 100000
namespace IP
open PySem PySem.Spec L2
section
variable {G : Gx} {X : Cx} {C : Cf} {pins pins' : List (Addr × Obj)} {w w' w₀ : Wo} {H H' H₀ : Hp} {σ σ' : Fr} {σV σV' : St} {c i : Nat} {u : Value} {sh s : Shared} {e : Addr} {E : Value → Shared → Prop}
variable {body suite : List Stmt} {b' h' : List S} {y n : Str} {yp hpos pos : Pos} {b₀ : Stmt}
end
end IP
end
section
set_option Elab.async false
set_option linter.all false
set_option maxRecDepth 100000
namespace IP
open PySem PySem.W PySem.Spec PySem.Calls PyProof.Rows Builtin Builtin.ObjectAttr Builtin.Getset_descriptor
section
variable {KK : Frag} {x D : Addr}
end
end IP
namespace IP
open PySem PySem.W PySem.Spec PySem.Calls PyProof.Rows Builtin Builtin.ObjectAttr Builtin.Getset_descriptor
section
variable {KK : Frag} {x D : Addr} {prog : Program} {w : World} {A : Around} {E : Value → Shared → Prop}
end
end IP
namespace IP
open PySem PySem.Spec L2
structure ExcK (K : PySem.W.Frag) (D : Addr) : Prop where
  ga : PySem.W.findIn K (.ref D) "__getattribute__" = some (some (.builtin "BaseException.__getattribute__"))
  gn : PySem.W.findIn K (.ref D) "__getattr__" = some none
  dct : PySem.W.hasDictIn K D = true
  ca : PySem.W.findIn K (.ref D) "__class__" = some (some (.builtin "object.__class__"))
  sp : PySem.W.specialIn K (.builtin "object.__class__") "__get__" = some (some (.builtin "getset_descriptor.__get__"))
  tk : PySem.W.takesIn K (.builtin "object.__class__") = some true
  mo : PySem.W.mroIn K D (.type "object") = some true
  mb : PySem.W.mroIn K D (.type "BaseException") = some true
section
variable {G : Gx} {X : Cx} {C : Cf} {a : Expr} {a' : IP.E} {pos p py : Pos} {y : Str} {k : Nat}
end
end IP
end
section
set_option Elab.async false
set_option linter.all false
set_option maxRecDepth 100000
namespace IP
open PySem PySem.Spec L2
section
variable {G : Gx} {X : Cx} {C : Cf} {w w' w₀ : Wo} {H H' H₀ : Hp} {σ σ' : Fr} {σV σV' : St} {a b e : Expr} {a' b' e' : IP.E} {pos p p2 : Pos} {Q : VK}
theorem LeS.puts : ∀ {ks : List Nat} {us : List T} {vs : List V} {σ : Fr} {σV : St}, IP.puts σ ks us = some σ' → vs.length = ks.length → LeS w w H H σ σ' σV (setsV σV ks vs)
  | [], [], vs, σ, σV, hp, hl => by cases hp; cases vs <;> exact LeS.refl
  | [], _ :: _, vs, σ, σV, hp, hl => by cases hp
  | _ :: _, [], vs, σ, σV, hp, hl => by cases hp
  | k :: ks, u :: us, [], σ, σV, hp, hl => by simp at hl
  | k :: ks, u :: us, v :: vs, σ, σV, hp, hl => LeS.trans (LeS.put (v := v)) (LeS.puts (ks := ks) (us := us) (vs := vs) (σ := IP.put σ k u) (σV := σV.set k (some v)) hp (by simpa using hl))
theorem tup_of {x : R} {ts : List T} (h : x.tup? = some ts) : x = .val (.tup ts) ∨ x = .val (.lst ts) := by
  unfold R.tup? at h
  split at h
  · cases h; exact .inl rfl
  · cases h; exact .inr rfl
  · cases h
theorem sS_asgT {js : List Nat} {es : List Expr} {k : Nat} (hc : X.calm = true) (he : PE X e (tV G X C e')) (h : PGs X es (gMany js)) (hn : (assignEach es X.env).length = js.length) (hst : (assignEach es X.env).findIdx? (·.1) = none)
    (hs : swapsWithSole [.Tuple es k p] e pos.line X.env = pure false) (hw : swappedStores [.Tuple es k p] e X.env = pure none) (h1 : (assignEach [.Tuple es k p] X.env).map (·.2) = [assign (.Tuple es k p) X.env]) :
    PS X (.Assign [.Tuple es k p] e pos) (tS G X C (.asgT js e')) := by
  refine PS.imp (ps_asg he (sG_many (G := G) hc h hn hst) hs hw h1) ?_
  rintro D σV H ⟨w₀, H₀, w, σ, s, g, h⟩
  refine ⟨w₀, H₀, w, σ, s, g, (st_of g h).imp ?_⟩
  rintro v H1 ⟨w1, r, s1, L1, S1, R1, g1, q1⟩
  obtain ⟨ts, ht, qa⟩ := onS_w q1
  obtain ⟨σ2, hp, qb⟩ := onS_w qa
  rcases tup_of ht with rfl | rfl
  · exact ⟨w1, s1, .tup ts, σ, σ2, S1, R1, hp, fun vs hf hl => qb w1 H1 _ ⟨S1, hf H₀ σV g1.fr, g1.ent⟩ (LeS.puts hp hl)⟩
  · exact ⟨w1, s1, .lst ts, σ, σ2, S1, R1, hp, fun vs hf hl => qb w1 H1 _ ⟨S1, hf H₀ σV g1.fr, g1.ent⟩ (LeS.puts hp hl)⟩
end
end IP
end
section
set_option Elab.async false
set_option linter.all false
set_option maxRecDepth 100000
namespace IP
open PySem PySem.Spec L2
section
variable {G : Gx} {X : Cx} {C : Cf}
variable {elt iter tg : Expr} {ifs : List Expr} {scope : Scope} {pos : Pos} {it' ce : E} {g : Tg} {N' : List Str} {f : Fr → Sto → Res (Option T)}
end
end IP
end
section
set_option Elab.async false
set_option linter.all false
set_option maxRecDepth 100000
namespace IP
open PySem PySem.Spec L2
section
variable {G : Gx} {X : Cx} {C : Cf}
end
end IP
end
section
set_option Elab.async false
set_option linter.all false
set_option maxRecDepth 100000
namespace IP
open PySem PySem.Spec L2
def Ite (a : Addr) : It :=
  ⟨fun i H => ∃ vs v, Rd H a (.lst vs) ∧ vs[i]? = some v,
   fun i H x H' => ∃ T v, x = .ref T ∧ H T = none ∧ H' = upd H T (.tup [.int i, v]) ∧ ∀ vs, Rd H a (.lst vs) → vs[i]? = some v,
   fun i H => ∃ vs, Rd H a (.lst vs) ∧ vs.length ≤ i⟩
section
variable {G : Gx} {X : Cx} {C : Cf} {w w' w₀ : Wo} {H H' H₀ : Hp} {σ σ' : Fr} {σV σV' : St} {pos : Pos}
theorem zaea {pins : List (Addr × Obj)} {σ : St} {H : Hp} {s : Shared} {h' : Heap} {t' : Nat} {e it : Addr} (I : Inv X pins σ H s) (k : ∀ b o, b ≠ e → b ≠ it → s.heap.get? b = some o → h'.get? b = some o) (f1 : FpOk X pins H e) (f2 : FpOk X pins H it) :
    Inv X pins σ H { s with heap := h', toks := t' } := by
  have hf : ∀ b ∈ [e, it], FpOk X pins H b := fun b hb => by
    rcases List.mem_cons.mp hb with rfl | hb
    · exact f1
    · have : b = it := by simpa using hb
      subst this
      exact f2
  have k' : ∀ b o, b ∉ [e, it] → s.heap.get? b = some o → h'.get? b = some o := fun b o hb q => k b o (fun z => hb (by simp [z])) (fun z => hb (by simp [z])) q
  have nit : ∀ b u, H b = some u → b ∉ [e, it] := fun b u q z => by rw [(hf b z).1] at q; cases q
  refine I.step (g' := s.gens) (d' := s.drawn) (ch := [e, it]) (fun b hb => ?_) (fun b o _ _ hc e _ => k' b o hc e) (fun b o _ _ hc e _ => ⟨o.slots, k' b o hc e⟩) (fun _ _ _ _ n => n)
    (fun b o hc e => ⟨o, k' b o hc e⟩) (fun _ _ e => e) (fun _ _ _ e => e) (fun b ps e => ⟨#[], by rw [e]; simp⟩) (fun m hm => ?_) (fun b u e => ?_) I.bare
  · obtain ⟨_, g1, g2, g3, g4, g5⟩ := hf b hb
    exact ⟨g3, g1, g4, g5⟩
  · obtain ⟨o, es, ep, ho, r⟩ := hm
    exact ⟨o, es, ep, k' _ o (fun z => (hf _ z).2.1 rfl) ho, r⟩
  · refine (I.hok b u e).stay (fun c v hc q => k' c v ?_ q) (fun _ q => q) fun _ _ q => q
    rcases hc with z | z
    · rw [z]; exact nit b u e
    · exact nit c _ z
theorem turn_enum {P : Program} {w : World} {K : PySem.W.Frag} {es : List Expr} {k : Nat} {p : Pos} (a e it : Addr) (hei : e ≠ it) : Turn P w K (.Tuple es k p) (Ite a) [e, it] e (fun i h => (∃ old, IsEnum h e it i old) ∧ h.IsListIter it a i) where
  mem := by simp
  obj := fun i h ⟨⟨old, he⟩, hit⟩ b hb => by
    rcases List.mem_cons.mp hb with rfl | hb
    · exact ⟨_, he, fun v z => by cases z⟩
    · have : b = it := by simpa using hb
      subst this
      obtain ⟨o, e1, c, d⟩ := hit
      exact ⟨o, e1, fun v z => by rw [d] at z; cases z⟩
  keep := fun i h h' ⟨⟨old, he⟩, hit⟩ k => ⟨⟨old, k e (by simp) _ he⟩, hit.at fun o x => k it (by simp) o x⟩
  item := by
    intro X hP hw hK hc i pins s σ H E I hf ⟨⟨old, he⟩, hit⟩ ⟨vs, v, hr, hx⟩
    subst hP hw hK
    obtain ⟨its, rv, p⟩ := zaa0 I hr
    obtain ⟨u, hu, ru⟩ := rv.get hx
    have f1 := hf e (by simp)
    have f2 := hf it (by simp)
    have le : e < s.heap.objs.size := Heap.lt_size he
    have li : it < s.heap.objs.size := by obtain ⟨o, q, _⟩ := hit; exact Heap.lt_size q
    refine wpAny_pyNext_enum_item he hit p (x := u) (by simpa using hu) hei fun h1 ho hit1 hT hsz hk => ⟨_, rfl, ?_⟩
    refine wpAny_letOwnedTupleGo_enum ho fun h2 he2 hs2 => ?_
    have hn : H s.heap.objs.size = none := I.hok.fresh (Nat.le_refl _)
    have I1 : Inv X pins σ (upd H s.heap.objs.size (.tup [.int i, v])) { s with heap := s.heap.push { cls := .type "tuple", data := .seq #[.int i s.toks, u] }, toks := s.toks + 1 } := by
      refine I.laid (fun b o q => Heap.get?_push_of_some _ q) (Nat.le_refl _) ⟨show 2 ≤ sizeLine by decide, [.int i s.toks, u], .cons ⟨_, rfl⟩ (.cons ru .nil), ?_⟩
      exact ⟨_, Heap.get?_push_size _ rfl, rfl, _, rfl⟩
    have fp : ∀ b ∈ [e, it], FpOk X pins (upd H s.heap.objs.size (.tup [.int i, v])) b := fun b hb => by
      refine ⟨?_, (hf b hb).2⟩
      have : b ≠ s.heap.objs.size := by
        rcases List.mem_cons.mp hb with rfl | hb
        · exact Nat.ne_of_lt le
        · have : b = it := by simpa using hb
          subst this
          exact Nat.ne_of_lt li
      rw [upd_ne this]
      exact (hf b hb).1
    have I2 : Inv X pins σ (upd H s.heap.objs.size (.tup [.int i, v])) { s with heap := h2, toks := s.toks + 1 } := by
      refine zaea (s := { s with heap := s.heap.push { cls := .type "tuple", data := .seq #[.int i s.toks, u] }, toks := s.toks + 1 }) I1 (fun b o n1 n2 q => ?_) (fp e (by simp)) (fp it (by simp))
      rcases Heap.get?_push_cases q with ⟨rfl, rfl⟩ | q
      · exact (hs2.2 _ (Nat.ne_of_gt le)).trans hT
      · exact (hs2.2 b n1).trans (hk b o n1 n2 q)
    refine ⟨.ref s.heap.objs.size, _, I2, rfl, ⟨_, v, rfl, hn, rfl, fun ws hw => ?_⟩, ⟨⟨u, by simpa using he2⟩, hit1.at fun o q => (hs2.2 it hei.symm).trans q⟩, fun b hb => (fp b hb).1⟩
    have : ws = vs := by
      obtain ⟨its2, rv2, p2⟩ := zaa0 I hw
      obtain ⟨o1, e1, _, n1, d1⟩ := p
      obtain ⟨o2, e2, _, n2, d2⟩ := p2
      rw [e1] at e2
      cases e2
      rw [d1] at d2
      injection d2 with d3 _
      have : its = its2 := by simpa using congrArg Array.toList d3
      subst this
      exact rv2.inj rv
    rw [this]; exact hx
  done := by
    intro X hP hw hK hc i pins s σ H E I hf ⟨⟨old, he⟩, hit⟩ ⟨vs, hr, hx⟩
    subst hP hw hK
    obtain ⟨its, rv, p⟩ := zaa0 I hr
    have hl := rv.length
    obtain ⟨f0, f1, f2, f3, f4, f5⟩ := hf it (by simp)
    exact wpAny_pyNext_enum_end (I.ok.hd hc) he hit p (by simp; omega) fun h' eb => ⟨rfl, I.turned (t' := s.toks) (fun b o hb q => eb b o hb q) f0 f1 f3 f4 f5⟩
  self := fun _ _ _ _ _ ⟨⟨old, he⟩, _⟩ h => wpAny_pyIter_enum he h
theorem zacf : bootBuiltins "enumerate" = some (.type "enumerate") := by decide +kernel
theorem pi_enum {es : List Expr} {k : Nat} {p1 : Pos} {a : Expr} {ta : TA} {p pos : Pos} (hg : Gl X "enumerate") (hm : X.mg "enumerate" = none) (ha : PA X [a] ta) (hs : starEach [a] X.env = [(false, eval a X.env)]) :
    PI X (.Tuple es k p1) (.Call (.Name "enumerate" p) [a] [] pos) (fun σ H R => ta σ H fun vs H1 => ∃ b, vs = [.ref b] ∧ (∃ xs, Rd H1 b (.lst xs)) ∧ R (Ite b) H1) := by
  intro pins s σ H R I h
  refine PyProof.Rows.Call_ (ld_blt I hg hm zacf (PyProof.Rows.callWith_type1 (thn (ha pos pins s σ H _ I h) fun us s1 ⟨vs, H1, I1, r1, q1⟩ => ?_) hs rfl))
  obtain ⟨b, e, ⟨xs, hr⟩, q⟩ := q1
  subst e
  cases r1 with
  | cons r rr =>
    cases rr
    cases r
    obtain ⟨_, its, n, rv, _, e⟩ := Rd.lst I1 hr
    refine call_enumerate_1 e fun h' he hit hsz hk => wpAny_pyIter_enum he ?_
    have I2 : Inv X pins σ H1 { s1 with heap := h' } := I1.kept (t' := s1.toks) hk
    refine ⟨_, [s1.heap.objs.size + 1, s1.heap.objs.size], _, _, H1, rfl, I2, turn_enum b _ _ (Nat.succ_ne_self _), ⟨⟨_, he⟩, hit⟩, fun c hc => ?_, q⟩
    have : s1.heap.objs.size ≤ c := by
      rcases List.mem_cons.mp hc with rfl | hc
      · exact Nat.le_succ _
      · have : c = s1.heap.objs.size := by simpa using hc
        exact Nat.le_of_eq this.symm
    exact I1.fpOk this (I1.hok.fresh this)
end
end IP
end
section
set_option Elab.async false
set_option linter.all false
set_option maxRecDepth 100000
namespace IP
open PySem PySem.Spec L2
theorem zae0 : ∀ (ts : List T) (n i : Nat), (enT n ts)[i]? = ts[i]?.map fun t => T.tup [.int ((n + i : Nat) : Int), t]
  | [], n, i => by simp [enT]
  | t :: ts, n, 0 => by simp [enT]
  | t :: ts, n, i + 1 => by
    have := zae0 ts (n + 1) i
    simp only [enT, List.getElem?_cons_succ, this]
    congr 1
    funext u
    have : n + 1 + i = n + (i + 1) := by omega
    rw [this]
theorem zado : ∀ (ts : List T) (n : Nat), (enT n ts).length = ts.length
  | [], _ => rfl
  | t :: ts, n => by simp [enT, zado ts]
section
variable {G : Gx} {X : Cx} {C : Cf} {w w' w₀ : Wo} {H H' H₀ : Hp} {σ σ' : Fr} {σV σV' : St} {pos : Pos}
theorem enm_loop {js : List Nat} {b' : List S} {D : Ends} {a : Addr} {vs : List V} {ts : List T} {s : Sto} (gd : Good G w₀ H₀ w H σ s σV) (SO : SrcOk G w H true (.l a vs) ts)
    (h : WantS G X w₀ H₀ w H σ σV (forL (.many js) (fun σ s => exs C b' σ s) (enT 0 ts) σ s) D) :
    ∃ W : Nat → Nat → St → Hp → Prop, (∃ m, W 0 m σV H) ∧ ∀ i m σV H, W i m σV H →
      ((Ite a).stop i H ∧ D.nx σV H) ∨ ((Ite a).go i H ∧ ∃ N : St → Hp → Prop, (∀ σ' H', N σ' H' → ∃ m', m' < m ∧ W (i + 1) m' σ' H') ∧ ∀ x H', (Ite a).yld i H x H' → gTg G (.many js) x σV H' fun σ2 H2 => tSs G X C b' { D with nx := N, ct := N, bk := D.nx } σ2 H2) := by
  refine ⟨fun i m σV1 H1 => ∃ w1 σ1 s1, m = ts.length - i ∧ i ≤ ts.length ∧ Good G w₀ H₀ w1 H1 σ1 s1 σV1 ∧ SrcOk G w1 H1 true (.l a vs) ts ∧ WantS G X w₀ H₀ w1 H1 σ1 σV1 (forL (.many js) (fun σ s => exs C b' σ s) ((enT 0 ts).drop i) σ1 s1) D,
    ⟨ts.length, w, σ, s, rfl, Nat.zero_le _, gd, SO, h⟩, ?_⟩
  rintro i m σV1 H1 ⟨w1, σ1, s1, hm, hi, g1, SO1, h1⟩
  by_cases hlt : i < ts.length
  · refine .inr ?_
    have et : ts[i]? = some ts[i] := List.getElem?_eq_getElem hlt
    have hl2 : i < (enT 0 ts).length := by rw [zado]; exact hlt
    have ed : (enT 0 ts).drop i = T.tup [.int (i : Int), ts[i]] :: (enT 0 ts).drop (i + 1) := by
      rw [List.drop_eq_getElem_cons hl2]
      congr 1
      have := zae0 ts 0 i
      rw [et, List.getElem?_eq_getElem hl2] at this
      simpa using this
    rw [ed] at h1
    obtain ⟨σ2, hb, h1⟩ := onS_w (show WantS G X w₀ H₀ w1 H1 σ1 σV1 (onS (bindTg σ1 (.many js) (T.tup [.int (i : Int), ts[i]])) fun σ' => (exs C b' σ' s1).bind fun σ2 s2 => forL (.many js) (fun σ s => exs C b' σ s) ((enT 0 ts).drop (i + 1)) σ2 s2) D from h1)
    obtain ⟨r1, r2, r3, r4⟩ := id SO1
    obtain ⟨v, ev, rv⟩ := r2.get et
    refine ⟨⟨vs, v, r1, ev⟩, fun σV3 H3 => ∃ w3 σ3 s3, Good G w₀ H₀ w3 H3 σ3 s3 σV3 ∧ SrcOk G w3 H3 true (.l a vs) ts ∧ WantS G X w₀ H₀ w3 H3 σ3 σV3 (forL (.many js) (fun σ s => exs C b' σ s) ((enT 0 ts).drop (i + 1)) σ3 s3) D, fun σV3 H3 ⟨w3, σ3, s3, q1, q2, q3⟩ => ⟨ts.length - (i + 1), by omega, w3, σ3, s3, rfl, hlt, q1, q2, q3⟩, fun x H' hy => ?_⟩
    obtain ⟨T₁, v', ex, hn, rfl, hv⟩ := hy
    subst ex
    have : v' = v := by
      have := hv vs r1
      rw [ev] at this
      exact (Option.some.inj this).symm
    subst this
    have L1 : Le w1 w1 H1 (L2.upd H1 T₁ (.tup [.int i, v'])) := Le.new hn _
    have S1 := g1.sto.new hn (.tup [.int i, v'])
    have g1' := g1.step L1 S1
    have rT : Rep G w1 (L2.upd H1 T₁ (.tup [.int i, v'])) (T.tup [.int (i : Int), ts[i]]) (.ref T₁) := ⟨T₁, _, rfl, zaaq, ⟨_, _, rfl, rfl, _, _, rfl, Rep.mono L1 g1.sto _ _ rv, rfl⟩⟩
    refine ⟨w1, s1, _, σ1, σ2, S1, rT, hb, fun us hfr hl => ?_⟩
    have g2 : Good G w₀ H₀ w1 (L2.upd H1 T₁ (.tup [.int i, v'])) σ2 s1 (setsV σV1 js us) := ⟨S1, hfr H₀ σV1 g1'.fr, g1'.ent⟩
    have l2 : LeS w1 w1 H1 (L2.upd H1 T₁ (.tup [.int i, v'])) σ1 σ2 σV1 (setsV σV1 js us) := (LeS.of L1).trans (LeS.puts (show puts σ1 js [.int (i : Int), ts[i]] = some σ2 from hb) hl)
    obtain ⟨SO2, SF2⟩ := SrcOk.monoS (src := .l a vs) l2 g1.sto g1.fr (g1.fr.notOwnZ (r4 rfl)) SO1
    refine ⟨w₀, H₀, w1, σ2, s1, g2, ?_⟩
    cases hx : exs C b' σ2 s1 with
    | stuck => rw [hx] at h1; exact h1
    | ret r s3 => rw [hx] at h1; exact h1
    | retO ts s3 => rw [hx] at h1; exact h1
    | exc d σ3 s3 => rw [hx] at h1; exact fun w3 H3 σV3 pins u sh g3 L3 T => h1 w3 H3 σV3 pins u sh g3 (l2.trans L3) T
    | next σ3 s3 =>
      rw [hx] at h1
      intro w3 H3 σV3 g3 L3
      obtain ⟨SO3, SF3⟩ := SrcOk.monoS (src := .l a vs) L3 g2.sto g2.fr SF2 SO2
      exact ⟨w3, σ3, s3, g3, SO3, WantS.mono (l2.trans L3) h1⟩
  · have ei : i = ts.length := by omega
    subst ei
    have : (enT 0 ts).drop ts.length = [] := List.drop_of_length_le (Nat.le_of_eq (zado ts 0))
    rw [this] at h1
    obtain ⟨r1, r2, r3, r4⟩ := SO1
    exact .inl ⟨⟨vs, r1, by rw [r2.length]; exact Nat.le_refl _⟩, h1 w1 H1 σV1 g1 LeS.refl⟩
theorem sS_enm {es : List Expr} {k : Nat} {p p1 p2 : Pos} {a : Expr} {a' : E} {js : List Nat} {b : List Stmt} {b' : List S} (hp : PassesOwn (model X.prog X.w) X.A X.env X.xe) (hc : X.calm = true) (hgl : Gl X "enumerate") (hmg : X.mg "enumerate" = none) (ha : PE X a (tV G X C a'))
    (hst : starEach [a] X.env = [(false, eval a X.env)]) (hg : PG X (.Tuple es k p1) (gTg G (.many js))) (hb : PSs X b (tSs G X C b')) (hs : ∀ x, foldedSetIterable (.Call (.Name "enumerate" p) [a] [] p2) X.env x = pure x) :
    PS X (.For (.Tuple es k p1) (.Call (.Name "enumerate" p) [a] [] p2) b [] pos) (tS G X C (.for_ (.many js) (.enm a') b')) := by
  refine PS.imp (ps_for hp hc (pi_enum hgl hmg (zaaw ha pa_nil hst) hst) hg hb hs) ?_
  rintro D σV H ⟨w₀, H₀, w, σ, s, gd, h⟩
  have h : WantS G X w₀ H₀ w H σ σV (((ev C a' .v σ s).bind fun x s1 => onL x fun ts => .ok (.val (.lst (enT 0 ts))) s1).st σ fun x s1 => onS x.lst? fun ts => forL (.many js) (fun σ s => exs C b' σ s) ts σ s1) D := h
  refine ⟨w₀, H₀, w, σ, s, gd, ?_⟩
  cases he : ev C a' .v σ s with
  | stuck => rw [he] at h; exact h.elim
  | exc c s1 => rw [he] at h; exact fun w1 H1 pins u sh L S T => h w1 H1 σV pins u sh (gd.step L S) (LeS.of L) T
  | ok x s1 =>
    rw [he] at h
    intro w1 H1 v L S R1
    match x, R1, h with
    | .val (.lst ts), ⟨a, vs, e, z, r, q⟩, h =>
      subst e
      have h : WantS G X w₀ H₀ w H σ σV (forL (.many js) (fun σ s => exs C b' σ s) (enT 0 ts) σ s1) D := h
      exact ⟨a, rfl, ⟨vs, r⟩, enm_loop (gd.step L S) ⟨r, q, S.zLoc z, fun _ => z⟩ (WantS.mono (LeS.of L) h)⟩
    | .val .non, _, h => exact h.elim
    | .val (.bl _), _, h => exact h.elim
    | .val (.str _), _, h => exact h.elim
    | .val (.tup _), _, h => exact h.elim
    | .val (.int _), _, h => exact h.elim
    | .val (.loc _), _, h => exact h.elim
    | .val (.exc _), _, h => exact h.elim
    | .bor _, _, h => exact h.elim
end
end IP
end
section
set_option Elab.async false
set_option linter.all false
set_option maxRecDepth 100000
namespace IP
open PySem PySem.Spec L2
section
variable {G : Gx} {X : Cx} {C : Cf} {a b e : Expr} {a' b' e' : IP.E} {pos p p2 : Pos}
def relN (sc names : List (Str × NameKind)) : List (Str × NameKind) := names.map fun (n, k) => if (k == .free && sc.lookup n == some .cell) then (n, .cell) else (n, k)
def visB (names : List (Str × NameKind)) (x : Str) : Bool := names.lookup x == some .local || names.lookup x == some .cell || names.lookup x == some .free
def ckComp (sc names : List (Str × NameKind)) (N N' : List Str) (js : List Nat) : Bool :=
  names.all (fun x => x.2 != .cell) && names.all (fun x => x.2 != .free || sc.lookup x.1 == some .cell || sc.lookup x.1 == some .free) && decide (N'.length = N.length) && decide N'.Nodup &&
  names.all (fun x => x.2 != .local || names.lookup x.1 == some .local) &&
  (List.range N'.length).all fun i => js.contains i || match N'[i]? with
    | none => true
    | some x => !visB (relN sc names) x || (N[i]? == some x && names.contains (x, NameKind.free) && ((relN sc names).lookup x == some .cell || (relN sc names).lookup x == some .free))
theorem rel_eq {scope : Scope} {sc : List (Str × NameKind)} (hsc : X.env.scope.names = sc) (hk : X.env.scope.kind = .function) : (relabel scope X.env).names = relN sc scope.names := by
  subst hsc
  unfold relabel relN Env.kindOf
  rw [hk]
  simp
theorem zaaz {scope : Scope} {sc : List (Str × NameKind)} {N N' : List Str} {js : List Nat} (hsc : X.env.scope.names = sc) (hk : X.env.scope.kind = .function) (hN : X.N = N) (hks : scope.kind = .function) (h : ckComp sc scope.names N N' js = true) : CompN X scope N' js := by
  unfold ckComp at h
  simp only [Bool.and_eq_true, List.all_eq_true, Bool.or_eq_true, bne_iff_ne, ne_eq, beq_iff_eq, decide_eq_true_eq] at h
  obtain ⟨⟨⟨⟨⟨h1, h2⟩, h3⟩, h4⟩, h5⟩, h6⟩ := h
  refine ⟨hks, h1, fun x hx e => ?_, by rw [hN]; exact h3, h4, fun i x hi hj hv => ?_, fun x hx e => ?_⟩
  · rcases h2 x hx with (q | q) | q
    · exact absurd e q
    · exact .inl (by unfold Env.kindOf; rw [hsc]; exact q)
    · exact .inr (by unfold Env.kindOf; rw [hsc]; exact q)
  · have hil : i < N'.length := (List.getElem?_eq_some_iff.mp hi).1
    have q := h6 i (List.mem_range.mpr hil)
    rw [hi] at q
    unfold Vis at hv
    rw [rel_eq hsc hk] at hv ⊢
    rcases q with q | q
    · exact absurd (List.contains_iff_mem.mp q) hj
    · have hv' : visB (relN sc scope.names) x = true := by
        unfold visB
        rcases hv with z | z | z <;> rw [z] <;> rfl
      simp only [hv', Bool.not_true, Bool.false_eq_true, false_or, Bool.and_eq_true, Bool.or_eq_true, beq_iff_eq] at q
      obtain ⟨⟨q1, q2⟩, q3⟩ := q
      exact ⟨by rw [hN]; exact q1, List.contains_iff_mem.mp q2, q3⟩
  · rcases h5 x hx with q | q
    · exact absurd e q
    · exact q
theorem map_lst {f : T → Sto → Res (Option T)} {m : Res R} {r : R} {s1 : Sto} (h : (m.bind fun x s1 => onL x fun ts => (mapRes f ts s1).bind fun q s2 => .ok (.val (.lst q)) s2) = .ok r s1) : ∃ ts, r = .val (.lst ts) := by
  cases m with
  | stuck => cases h
  | exc c s => cases h
  | ok x s =>
    replace h : (onL x fun ts => (mapRes f ts s).bind fun q s2 => .ok (.val (.lst q)) s2) = .ok r s1 := h
    unfold onL at h
    split at h
    · rename_i ts
      replace h : ((mapRes f ts s).bind fun q s2 => .ok (.val (.lst q)) s2) = .ok r s1 := h
      cases hm : mapRes f ts s with
      | stuck => rw [hm] at h; cases h
      | exc c s => rw [hm] at h; cases h
      | ok q s2 => rw [hm] at h; cases h; exact ⟨q, rfl⟩
    · cases h
theorem zaa9 {elt it : IP.E} {g : Tg} {σ : Fr} {s : Sto} {r : R} {s1 : Sto} (h : ev C (.comp elt g it) .v σ s = .ok r s1) : ∃ ts, r = .val (.lst ts) := map_lst h
theorem rev_is {σ : Fr} {s : Sto} {r : R} {s1 : Sto} (h : ev C (.rev a') .v σ s = .ok r s1) : ∃ ts, r = .val (.lst ts) := by
  have h : (ev C a' .v σ s).bind (fun x s1 => .of (x.seq.map fun ts => .val (.lst ts.reverse)) s1) = .ok r s1 := h
  cases hq : ev C a' .v σ s with
  | stuck => rw [hq] at h; cases h
  | exc c s2 => rw [hq] at h; cases h
  | ok rs s2 =>
    rw [hq] at h
    have h : Res.of (rs.seq.map fun ts => .val (.lst ts.reverse)) s2 = .ok r s1 := h
    cases hs : rs.seq with
    | none => rw [hs] at h; cases h
    | some ts => rw [hs] at h; cases h; exact ⟨_, rfl⟩
theorem wv (i : Nat) {x : Str} (hN : X.N[i]? = some x := by rfl) (hv : Vis X.env.scope x := by first | exact Or.inl rfl | exact Or.inr (Or.inl rfl) | exact Or.inr (Or.inr rfl)) (hd : (x == ("__debug__" : Str)) = false := by decide) (hcd : (x == ("__classdict__" : Str)) = false := by decide) : PE X (.Name x pos) (tV G X C (.var i)) := sV_var hN hv hd hcd
theorem wtr {e : Expr} (hE : PE X e (tV G X C e')) (he : ∀ whole, isTrue e X.env whole = (do let v ← whole; standAt e.pos; holding [v] (truthy v)) := by intro _; rfl)
    (hev : ∀ σ s, ev C e' .t σ s = (ev C e' .v σ s).bind fun x s => .of (truK x) s := by intro _ _; rfl) : PT X e (tT G X C e') := sT_plain hE he hev
theorem wcv (hu : X.A.units + 9 < cLine) (c : Cm) (ha : PE X a (tV G X C a')) (hb : PE X b (tV G X C b')) (hm : behindInMarks (cmOf c) b = false := by rfl) : PE X (.Compare a [cmOf c] [b] pos) (tV G X C (.cmp c a' b')) := sV_cmp hu c ha hb hm
theorem wct (hu : X.A.units + 9 < cLine) (c : Cm) (ha : PE X a (tV G X C a')) (hb : PE X b (tV G X C b')) (hm : behindInMarks (cmOf c) b = false := by rfl) : PT X (.Compare a [cmOf c] [b] pos) (tT G X C (.cmp c a' b')) := sT_cmp hu c ha hb hm
theorem wone {op} (h : PE X a (tV G X C a')) : PE X (.BoolOp op [a] pos) (tV G X C a') := pe_one h
theorem wsub (ha : PE X a (tV G X C a')) (hb : PE X b (tV G X C b')) (hs : zaf0 b := by intro _ _; rfl) : PE X (.Subscript a b pos) (tV G X C (.sub a' b')) := sV_sub ha hb hs
theorem wac {es : List Expr} {es' : List IP.E} (ha : PE X a (tV G X C a')) (hr : PA X es (tA G X C es')) (hs : starEach (a :: es) X.env = (false, eval a X.env) :: starEach es X.env := by rfl) : PA X (a :: es) (tA G X C (a' :: es')) := sA_cons ha hr hs
theorem wrc {es : List Expr} {es' : List IP.E} (ha : PE X a (tV G X C a')) (hr : PA X es (tR G X C es')) (hs : starEach (a :: es) X.env = (false, eval a X.env) :: starEach es X.env := by rfl) : PA X (a :: es) (tR G X C (a' :: es')) := sR_cons ha hr hs
theorem wtup {es : List Expr} {es' : List IP.E} {k : Nat} (h : PA X es (tA G X C es')) (hz : es'.length ≤ 1000 := by decide) : PE X (.Tuple es k pos) (tV G X C (.tup es')) := sV_tup h (Nat.le_trans hz (by decide))
theorem wlst {es : List Expr} {es' : List IP.E} (h : PA X es (tA G X C es')) (hz : es'.length ≤ 1000 := by decide) : PE X (.List es pos) (tV G X C (.lst es')) := sV_lst h (Nat.le_trans hz (by decide))
theorem wlstO {es : List Expr} {es' : List IP.E} (h : PA X es (tA G X C es')) (hz : es'.length ≤ 1000 := by decide) : PE X (.List es pos) (tO G X C (.lst es')) := sO_lst h (Nat.le_trans hz (by decide))
theorem wlen (hm : X.mg "len" = none) (ha : PE X a (tV G X C a')) (hg : Gl X "len" := by rfl) (hs : starEach [a] X.env = [(false, eval a X.env)] := by rfl) : PE X (.Call (.Name "len" p) [a] [] pos) (tV G X C (.b1 .len a')) := sB1 c_len hg hm (by rfl) (by decide) (by decide) ha hs fun _ _ => rfl
theorem wabs (hm : X.mg "abs" = none) (ha : PE X a (tV G X C a')) (hg : Gl X "abs" := by rfl) (hs : starEach [a] X.env = [(false, eval a X.env)] := by rfl) : PE X (.Call (.Name "abs" p) [a] [] pos) (tV G X C (.b1 .abs a')) := sB1 c_abs hg hm (by rfl) (by decide) (by decide) ha hs fun _ _ => rfl
theorem wlist (hm : X.mg "list" = none) (ha : PE X a (tV G X C a')) (hg : Gl X "list" := by rfl) (hs : starEach [a] X.env = [(false, eval a X.env)] := by rfl) : PE X (.Call (.Name "list" p) [a] [] pos) (tV G X C (.b1 .list a')) := sTy1 c_list hg hm (by rfl) (by decide) (by decide) ha hs fun _ _ => rfl
theorem wsorted (hm : X.mg "sorted" = none) (ha : PE X a (tV G X C a')) (hg : Gl X "sorted" := by rfl) (hs : starEach [a] X.env = [(false, eval a X.env)] := by rfl) : PE X (.Call (.Name "sorted" p) [a] [] pos) (tV G X C (.b1 .sorted a')) := sB1 c_sorted hg hm (by rfl) (by decide) (by decide) ha hs fun _ _ => rfl
theorem wmax2 (hm : X.mg "max" = none) (ha : PE X a (tV G X C a')) (hb : PE X b (tV G X C b')) (hg : Gl X "max" := by rfl) (hs : starEach [a, b] X.env = [(false, eval a X.env), (false, eval b X.env)] := by rfl) (hs2 : starEach [b] X.env = [(false, eval b X.env)] := by rfl) (hc : X.calm = true := by rfl) : PE X (.Call (.Name "max" p) [a, b] [] pos) (tV G X C (.mx2 a' b')) := sB2 (c_max2 hc) hg hm (by rfl) (by decide) (by decide) ha hb hs hs2 fun _ _ => rfl
theorem wisi (c : Ty) {n : String} {y : Str} {py : Pos} (hm : X.mg "isinstance" = none) (hmy : X.mg y = none) (ha : PE X a (tV G X C a')) (hn : tyOf c = some n := by rfl) (hg : Gl X "isinstance" := by rfl) (hgy : Gl X y := by rfl) (hv : bootBuiltins y = some (.type n) := by rfl) (hy : y ≠ "__name__" := by decide) (hdy : (y == ("__debug__" : Str)) = false := by decide)
    (hs : starEach [a, .Name y py] X.env = [(false, eval a X.env), (false, eval (.Name y py) X.env)] := by rfl) : PE X (.Call (.Name "isinstance" p) [a, .Name y py] [] pos) (tV G X C (.isi a' c)) := sV_isi hn hg hm hgy hmy hv hy hdy ha hs
theorem wpl {tg e : Expr} (hE : PE X e (tV G X C e')) (hev : ∀ σ s, ev C e' .i σ s = fin .i (ev C e' .v σ s) := by intro _ _; rfl) : PI X tg e (tI G X C e' .i false) := sI_plain hE (.inl ⟨rfl, rfl⟩) hev
theorem wr1 {tg : Expr} {m : Md} {z : Bool} (hmg : X.mg "range" = none) (ha : PE X a (tV G X C a')) (hm : m = .i ∨ m = .j := by first | exact .inl rfl | exact .inr rfl) (hg : Gl X "range" := by rfl) (hs : starEach [a] X.env = [(false, eval a X.env)] := by rfl) : PI X tg (.Call (.Name "range" p) [a] [] pos) (tI G X C (.rng1 a') m z) := sI_rng1 hm hg hmg ha hs
theorem wr2 {tg : Expr} {m : Md} {z : Bool} (hmg : X.mg "range" = none) (ha : PE X a (tV G X C a')) (hb : PE X b (tV G X C b')) (hm : m = .i ∨ m = .j := by first | exact .inl rfl | exact .inr rfl) (hg : Gl X "range" := by rfl) (hs : starEach [a, b] X.env = [(false, eval a X.env), (false, eval b X.env)] := by rfl) (hs2 : starEach [b] X.env = [(false, eval b X.env)] := by rfl) : PI X tg (.Call (.Name "range" p) [a, b] [] pos) (tI G X C (.rng2 a' b') m z) := sI_rng2 hm hg hmg ha hb hs hs2
theorem wg1 {i : Nat} {x : Str} (hN : X.N.Nodup) (hi : X.N[i]? = some x := by rfl) (hx : Loc X.env.scope x := by first | exact Or.inl rfl | exact Or.inr rfl) (hf : X.fn x = true ∨ X.env.scope.names.lookup x = some .local := by first | exact Or.inl rfl | exact Or.inr rfl) : PG X (.Name x pos) (gTg G (.one i)) := sG_one hN hi hx hf
theorem wgc {i : Nat} {js : List Nat} {x : Str} {es : List Expr} (hN : X.N.Nodup) (h2 : PGs X es (gMany js)) (hi : X.N[i]? = some x := by rfl) (hx : Loc X.env.scope x := by first | exact Or.inl rfl | exact Or.inr rfl) (hf : X.fn x = true ∨ X.env.scope.names.lookup x = some .local := by first | exact Or.inl rfl | exact Or.inr rfl) : PGs X (.Name x pos :: es) (gMany (i :: js)) := sG_cons hN hi hx hf h2
theorem wgm {js : List Nat} {es : List Expr} {k : Nat} (h : PGs X es (gMany js)) (hc : X.calm = true := by rfl) (hn : (assignEach es X.env).length = js.length := by rfl) (hst : (assignEach es X.env).findIdx? (·.1) = none := by rfl) : PG X (.Tuple es k pos) (gTg G (.many js)) := sG_many hc h hn hst
variable {i : Nat} {x : Str} {pos' : Pos}
theorem qasg (hN : X.N.Nodup) (he : PE X e (tV G X C e')) (hi : X.N[i]? = some x := by rfl) (hx : Loc X.env.scope x := by first | exact Or.inl rfl | exact Or.inr rfl) (hs : swapsWith e (some (.Name x pos')) pos.line X.env = pure false := by rfl) (hf : X.fn x = true ∨ X.env.scope.names.lookup x = some .local := by exact Or.inl rfl) : PS X (.Assign [.Name x pos'] e pos) (tS G X C (.asg i e')) := sS_asg hN hi hx he hs hf
theorem qmk (hN : X.N.Nodup) (he : PE X e (tO G X C e')) (hi : X.N[i]? = some x := by rfl) (hx : Loc X.env.scope x := by first | exact Or.inl rfl | exact Or.inr rfl) (hs : swapsWith e (some (.Name x pos')) pos.line X.env = pure false := by rfl) (hf : X.fn x = true ∨ X.env.scope.names.lookup x = some .local := by exact Or.inl rfl) : PS X (.Assign [.Name x pos'] e pos) (tS G X C (.mk i e')) := sS_mk hN hi hx he hs hf
theorem qapp {p1 cpos : Pos} (he : PE X e (tV G X C e')) (hN : X.N[i]? = some x := by rfl) (hv : Vis X.env.scope x := by first | exact Or.inl rfl | exact Or.inr (Or.inl rfl)) (hd : (x == ("__debug__" : Str)) = false := by decide) (hcd : (x == ("__classdict__" : Str)) = false := by decide) (hst : starEach [e] X.env = [(false, eval e X.env)] := by rfl)
    (hline : (p2.endLine == cpos.line) = true := by rfl) (hbase : attributeBase (.Name x p1) "append" X.env (eval (.Name x p1) X.env) = eval (.Name x p1) X.env := by rfl)
    (hfew : ((backTo cpos (starEach [e] X.env)).all (fun x => !x.1) && (backToKw cpos (keywordEach [] X.env)).all (fun x => x.1.isSome) && decide ([e].length + ([] : List Keyword).length + (if ([] : List Keyword).isEmpty then 0 else 1) < 30)) = true := by rfl)
    (hs : swapsWith (.Call (.Attribute (.Name x p1) "append" p2) [e] [] cpos) none pos.line X.env = pure false := by rfl) :
    PS X (.Expr (.Call (.Attribute (.Name x p1) "append" p2) [e] [] cpos) pos) (tS G X C (.app i e')) := sS_app hN hv hd hcd he hst hline hbase hfew hs
end
section
variable {G : Gx} {X : Cx} {fs : List Fn} {sub : Nat → Nat → Bool} {k fi : Nat} {fa : Addr} {fd : FuncData} {ps : List Str} {e₀ : Expr} {es : List Expr} {es' : List IP.E} {x : Str} {p pos : Pos}
end
end IP
end
section
set_option Elab.async false
set_option linter.all false
set_option maxRecDepth 100000
namespace IP
open PySem PySem.Spec L2
def nth {α : Type} : List α → α → Nat → α
  | [], z, _ => z
  | a :: _, _, 0 => a
  | _ :: r, z, n + 1 => nth r z n
theorem fn_top {G : Gx} {P : Program} {w : World} {K : PySem.W.Frag} {mg : Str → Option Value} {base : Heap} {k : Nat} {f : Addr} {fd : FuncData} {ps : List Str} {sp : Sp} (F : FnOk P w K mg base (CXE G P w base) k f fd ps sp) : FnOk P w K mg base CX0 k f fd ps (fun vs H Q _ => sp vs H Q fun _ _ _ => False) := by
  refine ⟨fun vs H Q E h => F.len vs H Q _ h, fun A outer s H args us vs Q E hr e0 hb hv h => codeAny_mono (F.run A outer s H args us vs Q (fun _ _ _ => False) hr e0 hb hv h) fun r s' q => ?_⟩
  cases r with
  | ok fl =>
    cases fl with
    | ret u => exact q
    | next => exact q
    | brk => exact q
    | cont => exact q
  | error e =>
    obtain ⟨a, cls, t, H', h, B, _, _, _, _, _, _, _, _, z⟩ := q
    exact z
section
variable {G : Gx} {X : Cx} {fs : List Fn} {sub : Nat → Nat → Bool} {k fi : Nat} {fa : Addr} {fd : FuncData} {ps : List Str} {a b e j o e₀ : Expr} {es : List Expr} {a' b' e' j' : IP.E} {es' : List IP.E} {x m y n : Str} {p p1 p2 pos pos' apos cpos : Pos} {ds : List Value} {dvs : List V} {dts : List T} {c f i : Nat}
theorem xcall (F : FnOk X.prog X.w X.K X.mg X.base (CXE G X.prog X.w X.base) (2 * k) fa fd ps (spG G (cfX fs sub k).cf (cfX fs sub k).fr fi)) (hr : Room (2 * k + 1) X.A) (hm : X.mg x = some (.ref fa)) (hk : PySem.W.keepIn X.K (.ref fa) = true) (hb : Binds X.K fd ps ds) (hd : Vals dvs ds) (hdt : dts.mapM cstV = some dvs) (ha : PA X (e₀ :: es) (tR G X (cfX fs sub k) es'))
    (hf : frOf fs fi = false := by rfl) (hg : Gl X x := by rfl) (hdb : (x == ("__debug__" : Str)) = false := by decide) (he : starEach (e₀ :: es) X.env = (false, eval e₀ X.env) :: starEach es X.env := by rfl) (hpl : (backTo pos (starEach es X.env)).any (·.1) = false := by rfl) :
    PE X (.Call (.Name x p) (e₀ :: es) [] pos) (tV G X (cfX fs sub k) (.call fi es' dts)) := sV_callX hf F (hr.mono (Nat.le_succ _)) hg hm hk hb hd hdt ha hdb he hpl
end
section
variable {G : Gx} {X : Cx} {C : Cf} {a b e j o e₀ : Expr} {es : List Expr} {a' b' e' j' : IP.E} {es' : List IP.E} {x m y n : Str} {p p1 p2 pos pos' apos cpos np mp yp hpos : Pos} {c f i : Nat}
theorem yraise {ms : Str} {jj : Nat} (hm : X.mg x = some (.ref (G.cA c))) (hq : PySem.W.excIn X.K (G.cA c) [.type "ValueError", .type "Exception", .type "BaseException", .type "object"] "ValueError.__new__" = true) (hc : X.calm = true := by rfl) (hg : Gl X x := by rfl) (hdb : (x == ("__debug__" : Str)) = false := by decide)
    (he : starEach [.Constant (.str ms) jj mp] X.env = [(false, eval (.Constant (.str ms) jj mp) X.env)] := by rfl) : PS X (.Raise (some (.Call (.Name x np) [.Constant (.str ms) jj mp] [] cpos)) none pos) (tS G X C (.raise c)) := sS_raise hc hg hm hq PySem.F.excBase_ValueError hdb he
theorem yasgT {js : List Nat} {kk : Nat} (he : PE X e (tV G X C e')) (h : PGs X es (gMany js)) (hc : X.calm = true := by rfl) (hn : (assignEach es X.env).length = js.length := by rfl) (hst : (assignEach es X.env).findIdx? (·.1) = none := by rfl)
    (hs : swapsWithSole [.Tuple es kk p] e pos.line X.env = pure false := by rfl) (hw : swappedStores [.Tuple es kk p] e X.env = pure none := by rfl) (h1 : (assignEach [.Tuple es kk p] X.env).map (·.2) = [assign (.Tuple es kk p) X.env] := by rfl) : PS X (.Assign [.Tuple es kk p] e pos) (tS G X C (.asgT js e')) := sS_asgT hc he h hn hst hs hw h1
theorem ywhl {cc : Expr} {c' : IP.E} {bb : List Stmt} {b' : List S} (hp : PassesOwn (model X.prog X.w) X.A X.env X.xe) (hc : PT X cc (tT G X C c')) (hb : PSs X bb (tSs G X C b')) (hwl : C.wl = whileL := by rfl) : PS X (.While cc bb [] pos) (tS G X C (.whl c' b')) := sS_whl hwl hp hc hb
theorem yfor {tg iter : Expr} {it' : IP.E} {g : Tg} {bb : List Stmt} {b' : List S} (hp : PassesOwn (model X.prog X.w) X.A X.env X.xe) (hI : PI X tg iter (tI G X C it' .j true)) (hg : PG X tg (gTg G g)) (hb : PSs X bb (tSs G X C b')) (hc : X.calm = true := by rfl)
    (hs : ∀ x, foldedSetIterable iter X.env x = pure x := by intro _; rfl) (hit : ∀ i, it' ≠ .var i := by intro _ h; cases h) : PS X (.For tg iter bb [] pos) (tS G X C (.for_ g it' b')) := sS_for hp hc hI hg hb hs hit
theorem yenm {es : List Expr} {kk : Nat} {p1 : Pos} {js : List Nat} {bb : List Stmt} {b' : List S} (hp : PassesOwn (model X.prog X.w) X.A X.env X.xe) (hmg : X.mg "enumerate" = none) (ha : PE X a (tV G X C a')) (hg : PG X (.Tuple es kk p1) (gTg G (.many js))) (hb : PSs X bb (tSs G X C b')) (hc : X.calm = true := by rfl) (hgl : Gl X "enumerate" := by rfl)
    (hst : starEach [a] X.env = [(false, eval a X.env)] := by rfl) (hs : ∀ x, foldedSetIterable (.Call (.Name "enumerate" p) [a] [] p2) X.env x = pure x := by intro _; rfl) : PS X (.For (.Tuple es kk p1) (.Call (.Name "enumerate" p) [a] [] p2) bb [] pos) (tS G X C (.for_ (.many js) (.enm a') b')) := sS_enm hp hc hgl hmg ha hst hg hb hs
end
end IP
end
section
set_option Elab.async false
set_option linter.all false
set_option maxRecDepth 100000
set_option maxHeartbeats 0
namespace IP
open PySem PySem.Spec L2
namespace Pg
def top (i : Nat) : Stmt := PySem.Challenge.pw_gradecut_k11_hem_lines.main.body.getD i (.Pass ⟨0, 0, 0, 0⟩)
abbrev sz17 : Stmt := top 1
def nmz17 : List Str := ["corners", "i", "j"]
theorem ndz17 : (nmz17).Nodup := by decide +kernel
abbrev bz17_L0 : List S := [(.ifs (.call 1 [(.var 0), (.var 1), (.var 2)] []) [(.ret (.tup [(.var 1), (.var 2)]))] [])]
abbrev bz17_L1 : List S := [(.for_ (.one 2) (.rng2 (.var 1) (.b1 .len (.var 0))) bz17_L0)]
def bz17 : List S := [(.for_ (.one 1) (.rng1 (.b1 .len (.var 0))) bz17_L1),
  (.ret (.cst .non))]
abbrev Fz17 : Fn := ⟨1, 3, false, bz17⟩
theorem scz17 : FnScope nmz17 ["corners"] (zaab sz17) := ⟨rfl, rfl, rfl, ndz17, rfl, by decide +kernel, by decide +kernel⟩
abbrev sz29 : Stmt := top 2
def nmz29 : List Str := ["corners", "i", "j", "one", "two"]
theorem ndz29 : (nmz29).Nodup := by decide +kernel
def bz29 : List S := [(.asg 3 (.call 2 [(.var 0), (.var 1)] [])),
  (.asg 4 (.call 2 [(.var 0), (.var 2)] [])),
  (.ifs (.cmp .eq (.var 1) (.var 2)) [(.ret (.cmp .eq (.sub (.var 3) (.cst (.int 0))) (.sub (.var 3) (.cst (.int 1)))))] []),
  (.ifs (.cmp .eq (.var 2) (.bin .add (.var 1) (.cst (.int 1)))) [(.ret (.call 3 [(.sub (.var 3) (.cst (.int 1))), (.sub (.var 3) (.cst (.int 0))), (.sub (.var 4) (.cst (.int 1)))] []))] []),
  (.ifs (.and (.cmp .eq (.bin .add (.var 2) (.cst (.int 1))) (.b1 .len (.var 0))) (.cmp .eq (.var 1) (.cst (.int 0)))) [(.ret (.call 3 [(.sub (.var 3) (.cst (.int 0))), (.sub (.var 3) (.cst (.int 1))), (.sub (.var 4) (.cst (.int 0)))] []))] []),
  (.ret (.call 4 [(.var 3), (.var 4)] []))]
abbrev Fz29 : Fn := ⟨3, 5, false, bz29⟩
theorem scz29 : FnScope nmz29 ["corners", "i", "j"] (zaab sz29) := ⟨rfl, rfl, rfl, ndz29, rfl, by decide +kernel, by decide +kernel⟩
abbrev sz28 : Stmt := top 3
def nmz28 : List Str := ["corners", "k"]
theorem ndz28 : (nmz28).Nodup := by decide +kernel
def bz28 : List S := [(.ret (.tup [(.sub (.var 0) (.var 1)), (.sub (.var 0) (.bin .mod (.bin .add (.var 1) (.cst (.int 1))) (.b1 .len (.var 0))))]))]
abbrev Fz28 : Fn := ⟨2, 2, false, bz28⟩
theorem scz28 : FnScope nmz28 ["corners", "k"] (zaab sz28) := ⟨rfl, rfl, rfl, ndz28, rfl, by decide +kernel, by decide +kernel⟩
abbrev sz26 : Stmt := top 4
def nmz26 : List Str := ["corner", "one", "two"]
theorem ndz26 : (nmz26).Nodup := by decide +kernel
def bz26 : List S := [(.ret (.and (.cmp .eq (.call 7 [(.var 0), (.var 1), (.var 2)] []) (.cst (.int 0))) (.cmp .gt (.call 8 [(.var 0), (.var 1), (.var 2)] []) (.cst (.int 0)))))]
abbrev Fz26 : Fn := ⟨3, 3, false, bz26⟩
theorem scz26 : FnScope nmz26 ["corner", "one", "two"] (zaab sz26) := ⟨rfl, rfl, rfl, ndz26, rfl, by decide +kernel, by decide +kernel⟩
abbrev sz19 : Stmt := top 5
def nmz19 : List Str := ["one", "two"]
theorem ndz19 : (nmz19).Nodup := by decide +kernel
def bz19 : List S := [(.ifs (.or (.not (.call 5 [(.var 0), (.var 1), (.cst (.int 0))] [])) (.not (.call 5 [(.var 0), (.var 1), (.cst (.int 1))] []))) [(.ret (.cst (.bl false)))] []),
  (.ret (.and (.call 6 [(.var 0), (.var 1)] []) (.call 6 [(.var 1), (.var 0)] [])))]
abbrev Fz19 : Fn := ⟨2, 2, false, bz19⟩
theorem scz19 : FnScope nmz19 ["one", "two"] (zaab sz19) := ⟨rfl, rfl, rfl, ndz19, rfl, by decide +kernel, by decide +kernel⟩
abbrev sz30 : Stmt := top 6
def nmz30 : List Str := ["one", "two", "axis", "one_span", "two_span"]
theorem ndz30 : (nmz30).Nodup := by decide +kernel
def bz30 : List S := [(.asg 3 (.b1 .sorted (.lst [(.sub (.sub (.var 0) (.cst (.int 0))) (.var 2)), (.sub (.sub (.var 0) (.cst (.int 1))) (.var 2))]))),
  (.asg 4 (.b1 .sorted (.lst [(.sub (.sub (.var 1) (.cst (.int 0))) (.var 2)), (.sub (.sub (.var 1) (.cst (.int 1))) (.var 2))]))),
  (.ret (.and (.cmp .le (.sub (.var 3) (.cst (.int 0))) (.sub (.var 4) (.cst (.int 1)))) (.cmp .le (.sub (.var 4) (.cst (.int 0))) (.sub (.var 3) (.cst (.int 1))))))]
abbrev Fz30 : Fn := ⟨3, 5, false, bz30⟩
theorem scz30 : FnScope nmz30 ["one", "two", "axis"] (zaab sz30) := ⟨rfl, rfl, rfl, ndz30, rfl, by decide +kernel, by decide +kernel⟩
abbrev sz25 : Stmt := top 7
def nmz25 : List Str := ["side", "line"]
theorem ndz25 : (nmz25).Nodup := by decide +kernel
def bz25 : List S := [(.ret (.cmp .le (.bin .mul (.call 7 [(.sub (.var 1) (.cst (.int 0))), (.sub (.var 1) (.cst (.int 1))), (.sub (.var 0) (.cst (.int 0)))] []) (.call 7 [(.sub (.var 1) (.cst (.int 0))), (.sub (.var 1) (.cst (.int 1))), (.sub (.var 0) (.cst (.int 1)))] [])) (.cst (.int 0))))]
abbrev Fz25 : Fn := ⟨2, 2, false, bz25⟩
theorem scz25 : FnScope nmz25 ["side", "line"] (zaab sz25) := ⟨rfl, rfl, rfl, ndz25, rfl, by decide +kernel, by decide +kernel⟩
abbrev sz34 : Stmt := top 8
def nmz34 : List Str := ["start", "one", "two"]
theorem ndz34 : (nmz34).Nodup := by decide +kernel
def bz34 : List S := [(.ret (.bin .sub (.bin .mul (.bin .sub (.sub (.var 1) (.cst (.int 0))) (.sub (.var 0) (.cst (.int 0)))) (.bin .sub (.sub (.var 2) (.cst (.int 1))) (.sub (.var 0) (.cst (.int 1))))) (.bin .mul (.bin .sub (.sub (.var 1) (.cst (.int 1))) (.sub (.var 0) (.cst (.int 1)))) (.bin .sub (.sub (.var 2) (.cst (.int 0))) (.sub (.var 0) (.cst (.int 0)))))))]
abbrev Fz34 : Fn := ⟨3, 3, false, bz34⟩
theorem scz34 : FnScope nmz34 ["start", "one", "two"] (zaab sz34) := ⟨rfl, rfl, rfl, ndz34, rfl, by decide +kernel, by decide +kernel⟩
abbrev sz15 : Stmt := top 9
def nmz15 : List Str := ["start", "one", "two"]
theorem ndz15 : (nmz15).Nodup := by decide +kernel
def bz15 : List S := [(.ret (.bin .add (.bin .mul (.bin .sub (.sub (.var 1) (.cst (.int 0))) (.sub (.var 0) (.cst (.int 0)))) (.bin .sub (.sub (.var 2) (.cst (.int 0))) (.sub (.var 0) (.cst (.int 0))))) (.bin .mul (.bin .sub (.sub (.var 1) (.cst (.int 1))) (.sub (.var 0) (.cst (.int 1)))) (.bin .sub (.sub (.var 2) (.cst (.int 1))) (.sub (.var 0) (.cst (.int 1)))))))]
abbrev Fz15 : Fn := ⟨3, 3, false, bz15⟩
theorem scz15 : FnScope nmz15 ["start", "one", "two"] (zaab sz15) := ⟨rfl, rfl, rfl, ndz15, rfl, by decide +kernel, by decide +kernel⟩
abbrev sz31 : Stmt := top 14
def nmz31 : List Str := ["one", "two"]
theorem ndz31 : (nmz31).Nodup := by decide +kernel
def bz31 : List S := [(.ret (.bin .add (.bin .pow (.bin .sub (.sub (.var 1) (.cst (.int 0))) (.sub (.var 0) (.cst (.int 0)))) (.cst (.int 2))) (.bin .pow (.bin .sub (.sub (.var 1) (.cst (.int 1))) (.sub (.var 0) (.cst (.int 1)))) (.cst (.int 2)))))]
abbrev Fz31 : Fn := ⟨2, 2, false, bz31⟩
theorem scz31 : FnScope nmz31 ["one", "two"] (zaab sz31) := ⟨rfl, rfl, rfl, ndz31, rfl, by decide +kernel, by decide +kernel⟩
abbrev sz36 : Stmt := top 15
abbrev iz36 : Nat := 10
def nmz36 : List Str := ["number", "root", "nearer"]
theorem ndz36 : (nmz36).Nodup := by decide +kernel
abbrev bz36_L0 : List S := [(.asg 1 (.var 2)),
  (.asg 2 (.bin .fdiv (.bin .add (.var 1) (.bin .fdiv (.var 0) (.var 1))) (.cst (.int 2))))]
def bz36 : List S := [(.asg 1 (.var 0)),
  (.asg 2 (.bin .fdiv (.bin .add (.var 0) (.cst (.int 1))) (.cst (.int 2)))),
  (.whl (.cmp .lt (.var 2) (.var 1)) bz36_L0),
  (.ret (.var 1))]
abbrev Fz36 : Fn := ⟨1, 3, false, bz36⟩
theorem scz36 : FnScope nmz36 ["number"] (zaab sz36) := ⟨rfl, rfl, rfl, ndz36, rfl, by decide +kernel, by decide +kernel⟩
abbrev sz21 : Stmt := top 17
abbrev iz21 : Nat := 11
def nmz21 : List Str := ["part", "whole", "divisor"]
theorem ndz21 : (nmz21).Nodup := by decide +kernel
def bz21 : List S := [(.asg 2 (.call 12 [(.b1 .abs (.var 0)), (.var 1)] [])),
  (.ret (.tup [(.bin .fdiv (.var 0) (.var 2)), (.bin .fdiv (.var 1) (.var 2))]))]
abbrev Fz21 : Fn := ⟨2, 3, false, bz21⟩
theorem scz21 : FnScope nmz21 ["part", "whole"] (zaab sz21) := ⟨rfl, rfl, rfl, ndz21, rfl, by decide +kernel, by decide +kernel⟩
abbrev sz18 : Stmt := top 18
abbrev iz18 : Nat := 12
def nmz18 : List Str := ["one", "two", "rest"]
theorem ndz18 : (nmz18).Nodup := by decide +kernel
abbrev zadk : List S := [(.asg 2 (.bin .mod (.var 0) (.var 1))),
  (.asg 0 (.var 1)),
  (.asg 1 (.var 2))]
def bz18 : List S := [(.whl (.cmp .ne (.var 1) (.cst (.int 0))) zadk),
  (.ret (.var 0))]
abbrev Fz18 : Fn := ⟨2, 3, false, bz18⟩
theorem scz18 : FnScope nmz18 ["one", "two"] (zaab sz18) := ⟨rfl, rfl, rfl, ndz18, rfl, by decide +kernel, by decide +kernel⟩
abbrev sz23 : Stmt := top 20
def nmz23 : List Str := ["corners", "breadth", "leftward", "outward", "?4", "?5"]
theorem ndz23 : (nmz23).Nodup := by decide +kernel
def zac5 : List Str := ["corners", "breadth", "leftward", "outward", "k", "!5"]
theorem zaf3 : (zac5).Nodup := by decide +kernel
def zafw : List Str := ["corners", "breadth", "leftward", "outward", "!4", "k"]
theorem ndz23_c1 : (zafw).Nodup := by decide +kernel
abbrev zad4 : E := (.call 15 [(.var 0), (.var 4), (.var 2)] [])
abbrev zafz : E := (.call 16 [(.sub (.var 0) (.var 5)), (.sub (.var 3) (.bin .sub (.var 5) (.cst (.int 1)))), (.sub (.var 3) (.var 5)), (.var 1)] [])
def bz23 : List S := [(.ifs (.cmp .notN (.call 0 [(.var 0)] []) (.cst .non)) [(.raise 1)] []),
  (.asg 2 (.call 14 [(.var 0)] [])),
  (.asg 3 (.comp zad4 (.one 4) (.rng1 (.b1 .len (.var 0))))),
  (.ret (.comp zafz (.one 5) (.rng1 (.b1 .len (.var 0)))))]
abbrev Fz23 : Fn := ⟨2, 6, false, bz23⟩
theorem scz23 : FnScope nmz23 ["corners", "breadth"] (zaab sz23) := ⟨rfl, rfl, rfl, ndz23, rfl, by decide +kernel, by decide +kernel⟩
abbrev sz27 : Stmt := top 21
def nmz27 : List Str := ["corners", "doubled", "k", "corner", "before"]
theorem ndz27 : (nmz27).Nodup := by decide +kernel
abbrev bz27_L0 : List S := [(.asg 4 (.sub (.var 0) (.bin .sub (.var 2) (.cst (.int 1))))),
  (.asg 1 (.bin .sub (.bin .add (.var 1) (.bin .mul (.sub (.var 4) (.cst (.int 0))) (.sub (.var 3) (.cst (.int 1))))) (.bin .mul (.sub (.var 4) (.cst (.int 1))) (.sub (.var 3) (.cst (.int 0))))))]
def bz27 : List S := [(.asg 1 (.cst (.int 0))),
  (.for_ (.many [2, 3]) (.enm (.var 0)) bz27_L0),
  (.ret (.cmp .gt (.var 1) (.cst (.int 0))))]
abbrev Fz27 : Fn := ⟨1, 5, false, bz27⟩
theorem scz27 : FnScope nmz27 ["corners"] (zaab sz27) := ⟨rfl, rfl, rfl, ndz27, rfl, by decide +kernel, by decide +kernel⟩
abbrev sz24 : Stmt := top 22
def nmz24 : List Str := ["corners", "k", "leftward", "ends", "across", "up", "divisor", "p", "q"]
theorem ndz24 : (nmz24).Nodup := by decide +kernel
def bz24 : List S := [(.asg 3 (.call 2 [(.var 0), (.var 1)] [])),
  (.asg 4 (.bin .sub (.sub (.sub (.var 3) (.cst (.int 1))) (.cst (.int 0))) (.sub (.sub (.var 3) (.cst (.int 0))) (.cst (.int 0))))),
  (.asg 5 (.bin .sub (.sub (.sub (.var 3) (.cst (.int 1))) (.cst (.int 1))) (.sub (.sub (.var 3) (.cst (.int 0))) (.cst (.int 1))))),
  (.asg 6 (.call 12 [(.b1 .abs (.var 4)), (.b1 .abs (.var 5))] [])),
  (.asg 7 (.bin .fdiv (.var 4) (.var 6))),
  (.asg 8 (.bin .fdiv (.var 5) (.var 6))),
  (.ret (.ife (.var 2) (.tup [(.var 8), (.neg (.var 7))]) (.tup [(.neg (.var 8)), (.var 7)])))]
abbrev Fz24 : Fn := ⟨3, 9, false, bz24⟩
theorem scz24 : FnScope nmz24 ["corners", "k", "leftward"] (zaab sz24) := ⟨rfl, rfl, rfl, ndz24, rfl, by decide +kernel, by decide +kernel⟩
abbrev sz20 : Stmt := top 23
def nmz20 : List Str := ["corner", "before", "after", "breadth", "cut"]
theorem ndz20 : (nmz20).Nodup := by decide +kernel
def bz20 : List S := [(.asg 4 (.bin .sub (.bin .mul (.sub (.var 1) (.cst (.int 0))) (.sub (.var 2) (.cst (.int 1)))) (.bin .mul (.sub (.var 1) (.cst (.int 1))) (.sub (.var 2) (.cst (.int 0)))))),
  (.ifs (.cmp .eq (.var 4) (.cst (.int 0))) [(.ret (.call 17 [(.var 0), (.var 2), (.var 3)] []))] []),
  (.ret (.call 18 [(.var 0), (.var 1), (.var 2), (.var 4), (.var 3)] []))]
abbrev Fz20 : Fn := ⟨4, 5, false, bz20⟩
theorem scz20 : FnScope nmz20 ["corner", "before", "after", "breadth"] (zaab sz20) := ⟨rfl, rfl, rfl, ndz20, rfl, by decide +kernel, by decide +kernel⟩
abbrev sz16 : Stmt := top 24
def nmz16 : List Str := ["corner", "vector", "breadth", "root", "across", "up"]
theorem ndz16 : (nmz16).Nodup := by decide +kernel
def bz16 : List S := [(.asg 3 (.call 20 [(.var 1)] [])),
  (.asg 4 (.bin .mul (.bin .mul (.cst (.int 1000)) (.var 2)) (.sub (.var 1) (.cst (.int 0))))),
  (.asg 5 (.bin .mul (.bin .mul (.cst (.int 1000)) (.var 2)) (.sub (.var 1) (.cst (.int 1))))),
  (.ret (.tup [(.call 21 [(.sub (.var 0) (.cst (.int 0))), (.var 4), (.var 3)] []), (.call 21 [(.sub (.var 0) (.cst (.int 1))), (.var 5), (.var 3)] [])]))]
abbrev Fz16 : Fn := ⟨3, 6, false, bz16⟩
theorem scz16 : FnScope nmz16 ["corner", "vector", "breadth"] (zaab sz16) := ⟨rfl, rfl, rfl, ndz16, rfl, by decide +kernel, by decide +kernel⟩
abbrev sz35 : Stmt := top 25
def nmz35 : List Str := ["corner", "before", "after", "cut", "breadth", "before_root", "after_root", "before_product", "after_product", "across", "up", "whole"]
theorem ndz35 : (nmz35).Nodup := by decide +kernel
def bz35 : List S := [(.asg 5 (.call 20 [(.var 1)] [])),
  (.asg 6 (.call 20 [(.var 2)] [])),
  (.asg 7 (.bin .mul (.bin .mul (.bin .mul (.cst (.int 1000)) (.var 4)) (.call 19 [(.var 1)] [])) (.var 6))),
  (.asg 8 (.bin .mul (.bin .mul (.bin .mul (.cst (.int 1000)) (.var 4)) (.call 19 [(.var 2)] [])) (.var 5))),
  (.asg 9 (.bin .sub (.bin .mul (.var 7) (.sub (.var 2) (.cst (.int 1)))) (.bin .mul (.var 8) (.sub (.var 1) (.cst (.int 1)))))),
  (.asg 10 (.bin .sub (.bin .mul (.var 8) (.sub (.var 1) (.cst (.int 0)))) (.bin .mul (.var 7) (.sub (.var 2) (.cst (.int 0)))))),
  (.asg 11 (.bin .mul (.bin .mul (.var 3) (.var 5)) (.var 6))),
  (.ret (.tup [(.call 21 [(.sub (.var 0) (.cst (.int 0))), (.var 9), (.var 11)] []), (.call 21 [(.sub (.var 0) (.cst (.int 1))), (.var 10), (.var 11)] [])]))]
abbrev Fz35 : Fn := ⟨5, 12, false, bz35⟩
theorem scz35 : FnScope nmz35 ["corner", "before", "after", "cut", "breadth"] (zaab sz35) := ⟨rfl, rfl, rfl, ndz35, rfl, by decide +kernel, by decide +kernel⟩
abbrev sz32 : Stmt := top 26
def nmz32 : List Str := ["vector"]
theorem ndz32 : (nmz32).Nodup := by decide +kernel
def bz32 : List S := [(.ret (.call 9 [(.tup [(.cst (.int 0)), (.cst (.int 0))]), (.var 0)] []))]
abbrev Fz32 : Fn := ⟨1, 1, false, bz32⟩
theorem scz32 : FnScope nmz32 ["vector"] (zaab sz32) := ⟨rfl, rfl, rfl, ndz32, rfl, by decide +kernel, by decide +kernel⟩
abbrev sz33 : Stmt := top 27
def nmz33 : List Str := ["vector"]
theorem ndz33 : (nmz33).Nodup := by decide +kernel
def bz33 : List S := [(.ret (.call 10 [(.bin .mul (.cst (.int 1000000)) (.call 19 [(.var 0)] []))] []))]
abbrev Fz33 : Fn := ⟨1, 1, false, bz33⟩
theorem scz33 : FnScope nmz33 ["vector"] (zaab sz33) := ⟨rfl, rfl, rfl, ndz33, rfl, by decide +kernel, by decide +kernel⟩
abbrev sz22 : Stmt := top 28
def nmz22 : List Str := ["number", "part", "whole"]
theorem ndz22 : (nmz22).Nodup := by decide +kernel
def bz22 : List S := [(.ifs (.cmp .lt (.var 2) (.cst (.int 0))) [(.ret (.call 21 [(.var 0), (.neg (.var 1)), (.neg (.var 2))] []))] []),
  (.ret (.call 11 [(.bin .add (.bin .mul (.var 0) (.var 2)) (.var 1)), (.var 2)] []))]
abbrev Fz22 : Fn := ⟨3, 3, false, bz22⟩
theorem scz22 : FnScope nmz22 ["number", "part", "whole"] (zaab sz22) := ⟨rfl, rfl, rfl, ndz22, rfl, by decide +kernel, by decide +kernel⟩
abbrev sz14 : Stmt := top 30
abbrev iz14 : Nat := 22
def nmz14 : List Str := ["_law_found"]
theorem ndz14 : (nmz14).Nodup := by decide +kernel
def bz14 : List S := [(.ret (.and (.isi (.var 0) .int) (.not (.isi (.var 0) .bool))))]
abbrev Fz14 : Fn := ⟨1, 1, false, bz14⟩
theorem scz14 : FnScope nmz14 ["_law_found"] (zaab sz14) := ⟨rfl, rfl, rfl, ndz14, rfl, by decide +kernel, by decide +kernel⟩
abbrev sz2 : Stmt := top 31
abbrev iz2 : Nat := 23
def nmz2 : List Str := ["_law_script", "_law_k"]
theorem ndz2 : (nmz2).Nodup := by decide +kernel
def bz2 : List S := [(.ifs (.cmp .lt (.var 1) (.b1 .len (.var 0))) [(.ret (.sub (.var 0) (.var 1)))] []),
  (.ret (.cst (.int 0)))]
abbrev Fz2 : Fn := ⟨2, 2, false, bz2⟩
theorem scz2 : FnScope nmz2 ["_law_script", "_law_k"] (zaab sz2) := ⟨rfl, rfl, rfl, ndz2, rfl, by decide +kernel, by decide +kernel⟩
abbrev sz9 : Stmt := top 32
abbrev iz9 : Nat := 24
def nmz9 : List Str := ["_law_script", "_law_many", "_law_state", "_law_row", "_law_k"]
theorem ndz9 : (nmz9).Nodup := by decide +kernel
abbrev bz9_L0 : List S := [(.asg 2 (.bin .mod (.bin .add (.bin .add (.bin .mul (.var 2) (.cst (.int 48271))) (.call 23 [(.var 0), (.var 4)] [])) (.cst (.int 11))) (.cst (.int 2147483647)))),
  (.app 3 (.var 2))]
def bz9 : List S := [(.asg 2 (.cst (.int 7))),
  (.mk 3 (.lst [])),
  (.for_ (.one 4) (.rng1 (.var 1)) bz9_L0),
  (.frz 3),
  (.ret (.var 3))]
abbrev Fz9 : Fn := ⟨2, 5, false, bz9⟩
theorem scz9 : FnScope nmz9 ["_law_script", "_law_many"] (zaab sz9) := ⟨rfl, rfl, rfl, ndz9, rfl, by decide +kernel, by decide +kernel⟩
abbrev sz4 : Stmt := top 33
def nmz4 : List Str := ["_law_one", "_law_two", "_law_big", "_law_less", "_law_rest"]
theorem ndz4 : (nmz4).Nodup := by decide +kernel
abbrev bz4_L0 : List S := [(.asg 4 (.bin .mod (.var 2) (.var 3))),
  (.asg 2 (.var 3)),
  (.asg 3 (.var 4))]
def bz4 : List S := [(.asg 2 (.b1 .abs (.var 0))),
  (.asg 3 (.b1 .abs (.var 1))),
  (.whl (.cmp .gt (.var 3) (.cst (.int 0))) bz4_L0),
  (.ret (.var 2))]
abbrev Fz4 : Fn := ⟨2, 5, false, bz4⟩
theorem scz4 : FnScope nmz4 ["_law_one", "_law_two"] (zaab sz4) := ⟨rfl, rfl, rfl, ndz4, rfl, by decide +kernel, by decide +kernel⟩
abbrev sz11 : Stmt := top 34
def nmz11 : List Str := ["_law_row", "_law_at_here", "_law_many", "_law_far", "_law_k"]
theorem ndz11 : (nmz11).Nodup := by decide +kernel
abbrev bz11_L0 : List S := [(.app 3 (.bin .add (.bin .add (.sub (.var 3) (.neg (.cst (.int 1)))) (.cst (.int 1))) (.bin .mod (.sub (.var 0) (.bin .add (.var 1) (.var 4))) (.cst (.int 4)))))]
def bz11 : List S := [(.mk 3 (.lst [(.cst (.int 0))])),
  (.for_ (.one 4) (.rng1 (.bin .sub (.var 2) (.cst (.int 1)))) bz11_L0),
  (.frz 3),
  (.ret (.var 3))]
abbrev Fz11 : Fn := ⟨3, 5, false, bz11⟩
theorem scz11 : FnScope nmz11 ["_law_row", "_law_at_here", "_law_many"] (zaab sz11) := ⟨rfl, rfl, rfl, ndz11, rfl, by decide +kernel, by decide +kernel⟩
abbrev sz8 : Stmt := top 35
def nmz8 : List Str := ["_law_row", "_law_many", "_law_low", "_law_high", "_law_tall", "_law_bottom", "_law_top", "_law_line", "_law_k"]
theorem ndz8 : (nmz8).Nodup := by decide +kernel
abbrev bz8_L0 : List S := [(.app 7 (.tup [(.bin .mul (.sub (.var 5) (.var 8)) (.mx2 (.cst (.int 1)) (.sub (.var 6) (.neg (.cst (.int 1)))))), (.bin .sub (.neg (.cst (.int 1))) (.bin .mod (.sub (.var 0) (.bin .add (.cst (.int 26)) (.var 8))) (.var 4)))]))]
abbrev bz8_L1 : List S := [(.app 7 (.tup [(.bin .mul (.sub (.var 6) (.bin .sub (.bin .sub (.var 3) (.cst (.int 1))) (.var 8))) (.sub (.var 5) (.neg (.cst (.int 1))))), (.bin .add (.cst (.int 1)) (.bin .mod (.sub (.var 0) (.bin .add (.bin .add (.cst (.int 26)) (.var 2)) (.var 8))) (.var 4)))]))]
def bz8 : List S := [(.asg 2 (.cst (.int 2))),
  (.ifs (.cmp .gt (.var 1) (.cst (.int 3))) [(.asg 2 (.bin .add (.cst (.int 2)) (.bin .mod (.sub (.var 0) (.cst (.int 0))) (.bin .sub (.var 1) (.cst (.int 3))))))] []),
  (.asg 3 (.bin .sub (.var 1) (.var 2))),
  (.asg 4 (.sub (.lst [(.cst (.int 1)), (.cst (.int 3)), (.cst (.int 50)), (.cst (.int 900))]) (.bin .mod (.sub (.var 0) (.cst (.int 1))) (.cst (.int 4))))),
  (.asg 5 (.call 26 [(.var 0), (.cst (.int 2)), (.var 2)] [])),
  (.asg 6 (.call 26 [(.var 0), (.bin .add (.cst (.int 2)) (.var 2)), (.var 3)] [])),
  (.mk 7 (.lst [])),
  (.for_ (.one 8) (.rng1 (.var 2)) bz8_L0),
  (.for_ (.one 8) (.rng1 (.var 3)) bz8_L1),
  (.frz 7),
  (.ret (.var 7))]
abbrev Fz8 : Fn := ⟨2, 9, false, bz8⟩
theorem scz8 : FnScope nmz8 ["_law_row", "_law_many"] (zaab sz8) := ⟨rfl, rfl, rfl, ndz8, rfl, by decide +kernel, by decide +kernel⟩
abbrev sz12 : Stmt := top 36
def nmz12 : List Str := ["_law_line", "_law_cell", "_law_lean", "_law_told", "_law_by", "?5", "?6", "?7", "?8"]
theorem ndz12 : (nmz12).Nodup := by decide +kernel
def zada : List Str := ["_law_line", "_law_cell", "_law_lean", "_law_told", "_law_by", "_law_x", "_law_y", "!7", "!8"]
theorem zaci : (zada).Nodup := by decide +kernel
def zadb : List Str := ["_law_line", "_law_cell", "_law_lean", "_law_told", "_law_by", "!5", "!6", "_law_x", "_law_y"]
theorem zaca : (zadb).Nodup := by decide +kernel
abbrev zad0 : E := (.tup [(.bin .add (.var 5) (.bin .mul (.var 2) (.var 6))), (.var 6)])
abbrev zacm : E := (.tup [(.bin .sub (.cst (.int 0)) (.var 8)), (.var 7)])
def bz12 : List S := [(.asg 2 (.bin .sub (.bin .mod (.var 1) (.cst (.int 5))) (.cst (.int 2)))),
  (.asg 3 (.comp zad0 (.many [5, 6]) (.var 0))),
  (.ifs (.cmp .eq (.bin .mod (.bin .fdiv (.var 1) (.cst (.int 5))) (.cst (.int 2))) (.cst (.int 1))) [(.asg 3 (.comp zacm (.many [7, 8]) (.var 3)))] []),
  (.ifs (.cmp .eq (.bin .mod (.bin .fdiv (.var 1) (.cst (.int 10))) (.cst (.int 2))) (.cst (.int 1))) [(.asg 3 (.rev (.var 3)))] []),
  (.asg 4 (.bin .mod (.bin .fdiv (.var 1) (.cst (.int 20))) (.b1 .len (.var 3)))),
  (.ret (.bin .add (.cutL (.var 3) (.var 4)) (.cutU (.var 3) (.var 4))))]
abbrev Fz12 : Fn := ⟨2, 9, false, bz12⟩
theorem scz12 : FnScope nmz12 ["_law_line", "_law_cell"] (zaab sz12) := ⟨rfl, rfl, rfl, ndz12, rfl, by decide +kernel, by decide +kernel⟩
abbrev sz7 : Stmt := top 37
def nmz7 : List Str := ["_law_number", "_law_told", "_law_bit"]
theorem ndz7 : (nmz7).Nodup := by decide +kernel
abbrev bz7_L0 : List S := [(.asg 2 (.bin .mul (.var 2) (.cst (.int 2))))]
abbrev bz7_L1 : List S := [(.ifs (.cmp .le (.bin .mul (.bin .add (.var 1) (.var 2)) (.bin .add (.var 1) (.var 2))) (.var 0)) [(.asg 1 (.bin .add (.var 1) (.var 2)))] []),
  (.asg 2 (.bin .fdiv (.var 2) (.cst (.int 2))))]
def bz7 : List S := [(.asg 1 (.cst (.int 0))),
  (.asg 2 (.cst (.int 1))),
  (.whl (.cmp .le (.bin .mul (.var 2) (.var 2)) (.var 0)) bz7_L0),
  (.whl (.cmp .gt (.var 2) (.cst (.int 0))) bz7_L1),
  (.ret (.var 1))]
abbrev Fz7 : Fn := ⟨1, 3, false, bz7⟩
theorem scz7 : FnScope nmz7 ["_law_number"] (zaab sz7) := ⟨rfl, rfl, rfl, ndz7, rfl, by decide +kernel, by decide +kernel⟩
abbrev sz13 : Stmt := top 38
def nmz13 : List Str := ["_law_line", "_law_twice_here", "_law_k", "_law_one", "_law_two"]
theorem ndz13 : (nmz13).Nodup := by decide +kernel
abbrev bz13_L0 : List S := [(.asg 3 (.sub (.var 0) (.bin .sub (.var 2) (.cst (.int 1))))),
  (.asg 4 (.sub (.var 0) (.var 2))),
  (.asg 1 (.bin .sub (.bin .add (.var 1) (.bin .mul (.sub (.var 3) (.cst (.int 0))) (.sub (.var 4) (.cst (.int 1))))) (.bin .mul (.sub (.var 3) (.cst (.int 1))) (.sub (.var 4) (.cst (.int 0))))))]
def bz13 : List S := [(.asg 1 (.cst (.int 0))),
  (.for_ (.one 2) (.rng1 (.b1 .len (.var 0))) bz13_L0),
  (.ret (.var 1))]
abbrev Fz13 : Fn := ⟨1, 5, false, bz13⟩
theorem scz13 : FnScope nmz13 ["_law_line"] (zaab sz13) := ⟨rfl, rfl, rfl, ndz13, rfl, by decide +kernel, by decide +kernel⟩
abbrev sz3 : Stmt := top 39
def nmz3 : List Str := ["_law_found"]
theorem ndz3 : (nmz3).Nodup := by decide +kernel
def bz3 : List S := [(.ifs (.or (.not (.isi (.var 0) .tuple)) (.cmp .ne (.b1 .len (.var 0)) (.cst (.int 2)))) [(.ret (.cst (.bl false)))] []),
  (.ifs (.or (.not (.call 22 [(.sub (.var 0) (.cst (.int 0)))] [])) (.or (.not (.call 22 [(.sub (.var 0) (.cst (.int 1)))] [])) (.cmp .lt (.sub (.var 0) (.cst (.int 1))) (.cst (.int 1))))) [(.ret (.cst (.bl false)))] []),
  (.ret (.cmp .eq (.call 25 [(.sub (.var 0) (.cst (.int 0))), (.sub (.var 0) (.cst (.int 1)))] []) (.cst (.int 1))))]
abbrev Fz3 : Fn := ⟨1, 1, false, bz3⟩
theorem scz3 : FnScope nmz3 ["_law_found"] (zaab sz3) := ⟨rfl, rfl, rfl, ndz3, rfl, by decide +kernel, by decide +kernel⟩
abbrev sz6 : Stmt := top 40
def nmz6 : List Str := ["_law_line", "_law_k", "_law_side", "_law_point", "_law_breadth", "_law_one", "_law_two", "_law_by", "_law_p", "_law_q", "_law_n", "_law_a", "_law_b", "_law_c", "_law_d", "_law_across", "_law_up", "_law_out"]
theorem ndz6 : (nmz6).Nodup := by decide +kernel
def bz6 : List S := [(.asg 5 (.sub (.var 0) (.var 2))),
  (.asg 6 (.sub (.var 0) (.bin .mod (.bin .add (.var 2) (.cst (.int 1))) (.b1 .len (.var 0))))),
  (.asg 7 (.call 25 [(.bin .sub (.sub (.var 6) (.cst (.int 0))) (.sub (.var 5) (.cst (.int 0)))), (.bin .sub (.sub (.var 6) (.cst (.int 1))) (.sub (.var 5) (.cst (.int 1))))] [])),
  (.asg 8 (.bin .fdiv (.bin .sub (.sub (.var 6) (.cst (.int 0))) (.sub (.var 5) (.cst (.int 0)))) (.var 7))),
  (.asg 9 (.bin .fdiv (.bin .sub (.sub (.var 6) (.cst (.int 1))) (.sub (.var 5) (.cst (.int 1)))) (.var 7))),
  (.asg 10 (.bin .add (.bin .mul (.var 8) (.var 8)) (.bin .mul (.var 9) (.var 9)))),
  (.asgT [11, 12] (.sub (.var 3) (.cst (.int 0)))),
  (.asgT [13, 14] (.sub (.var 3) (.cst (.int 1)))),
  (.asg 15 (.bin .mul (.bin .sub (.var 11) (.bin .mul (.sub (.sub (.var 0) (.var 1)) (.cst (.int 0))) (.var 12))) (.var 14))),
  (.asg 16 (.bin .mul (.bin .sub (.var 13) (.bin .mul (.sub (.sub (.var 0) (.var 1)) (.cst (.int 1))) (.var 14))) (.var 12))),
  (.asg 17 (.bin .sub (.bin .mul (.var 9) (.var 15)) (.bin .mul (.var 8) (.var 16)))),
  (.ifs (.cmp .lt (.call 30 [(.var 0)] []) (.cst (.int 0))) [(.asg 17 (.bin .sub (.cst (.int 0)) (.var 17)))] []),
  (.ret (.cmp .eq (.bin .mul (.var 17) (.call 29 [(.bin .mul (.cst (.int 1000000)) (.var 10))] [])) (.bin .mul (.bin .mul (.bin .mul (.bin .mul (.cst (.int 1000)) (.var 4)) (.var 10)) (.var 12)) (.var 14))))]
abbrev Fz6 : Fn := ⟨5, 18, false, bz6⟩
theorem scz6 : FnScope nmz6 ["_law_line", "_law_k", "_law_side", "_law_point", "_law_breadth"] (zaab sz6) := ⟨rfl, rfl, rfl, ndz6, rfl, by decide +kernel, by decide +kernel⟩
abbrev sz10 : Stmt := top 41
def nmz10 : List Str := ["_law_line", "_law_k", "_law_point", "_law_one", "_law_at_here", "_law_two", "_law_bent", "_law_a", "_law_b", "_law_c", "_law_d", "_law_across", "_law_up"]
theorem ndz10 : (nmz10).Nodup := by decide +kernel
def bz10 : List S := [(.asg 3 (.sub (.var 0) (.bin .sub (.var 1) (.cst (.int 1))))),
  (.asg 4 (.sub (.var 0) (.var 1))),
  (.asg 5 (.sub (.var 0) (.bin .mod (.bin .add (.var 1) (.cst (.int 1))) (.b1 .len (.var 0))))),
  (.asg 6 (.bin .mul (.bin .sub (.sub (.var 4) (.cst (.int 0))) (.sub (.var 3) (.cst (.int 0)))) (.bin .sub (.sub (.var 5) (.cst (.int 1))) (.sub (.var 4) (.cst (.int 1)))))),
  (.asg 6 (.bin .sub (.var 6) (.bin .mul (.bin .sub (.sub (.var 4) (.cst (.int 1))) (.sub (.var 3) (.cst (.int 1)))) (.bin .sub (.sub (.var 5) (.cst (.int 0))) (.sub (.var 4) (.cst (.int 0))))))),
  (.ifs (.cmp .ne (.var 6) (.cst (.int 0))) [(.ret (.cst (.bl true)))] []),
  (.asgT [7, 8] (.sub (.var 2) (.cst (.int 0)))),
  (.asgT [9, 10] (.sub (.var 2) (.cst (.int 1)))),
  (.asg 11 (.bin .mul (.bin .mul (.bin .sub (.var 7) (.bin .mul (.sub (.var 4) (.cst (.int 0))) (.var 8))) (.var 10)) (.bin .sub (.sub (.var 5) (.cst (.int 0))) (.sub (.var 4) (.cst (.int 0)))))),
  (.asg 12 (.bin .mul (.bin .mul (.bin .sub (.var 9) (.bin .mul (.sub (.var 4) (.cst (.int 1))) (.var 10))) (.var 8)) (.bin .sub (.sub (.var 5) (.cst (.int 1))) (.sub (.var 4) (.cst (.int 1)))))),
  (.ret (.cmp .eq (.bin .add (.var 11) (.var 12)) (.cst (.int 0))))]
abbrev Fz10 : Fn := ⟨3, 13, false, bz10⟩
theorem scz10 : FnScope nmz10 ["_law_line", "_law_k", "_law_point"] (zaab sz10) := ⟨rfl, rfl, rfl, ndz10, rfl, by decide +kernel, by decide +kernel⟩
abbrev sz5 : Stmt := top 42
def nmz5 : List Str := ["_law_line", "_law_found", "_law_breadth", "_law_k", "_law_before"]
theorem ndz5 : (nmz5).Nodup := by decide +kernel
abbrev bz5_L0 : List S := [(.ifs (.or (.not (.isi (.sub (.var 1) (.var 3)) .tuple)) (.cmp .ne (.b1 .len (.sub (.var 1) (.var 3))) (.cst (.int 2)))) [(.ret (.cst (.bl false)))] []),
  (.ifs (.or (.not (.call 31 [(.sub (.sub (.var 1) (.var 3)) (.cst (.int 0)))] [])) (.not (.call 31 [(.sub (.sub (.var 1) (.var 3)) (.cst (.int 1)))] []))) [(.ret (.cst (.bl false)))] []),
  (.asg 4 (.bin .mod (.bin .sub (.var 3) (.cst (.int 1))) (.b1 .len (.var 0)))),
  (.ifs (.not (.call 32 [(.var 0), (.var 3), (.var 4), (.sub (.var 1) (.var 3)), (.var 2)] [])) [(.ret (.cst (.bl false)))] []),
  (.ifs (.not (.call 32 [(.var 0), (.var 3), (.var 3), (.sub (.var 1) (.var 3)), (.var 2)] [])) [(.ret (.cst (.bl false)))] []),
  (.ifs (.not (.call 33 [(.var 0), (.var 3), (.sub (.var 1) (.var 3))] [])) [(.ret (.cst (.bl false)))] [])]
def bz5 : List S := [(.ifs (.or (.not (.isi (.var 1) .list)) (.cmp .ne (.b1 .len (.var 1)) (.b1 .len (.var 0)))) [(.ret (.cst (.bl false)))] []),
  (.for_ (.one 3) (.rng1 (.b1 .len (.var 0))) bz5_L0),
  (.ret (.cst (.bl true)))]
abbrev Fz5 : Fn := ⟨3, 5, false, bz5⟩
theorem scz5 : FnScope nmz5 ["_law_line", "_law_found", "_law_breadth"] (zaab sz5) := ⟨rfl, rfl, rfl, ndz5, rfl, by decide +kernel, by decide +kernel⟩
abbrev s_law : Stmt := top 43
def nm_law : List Str := ["_law_script", "_law_row", "_law_many", "_law_line", "_law_x", "_law_y", "_law_breadth", "?7"]
theorem nd_law : (nm_law).Nodup := by decide +kernel
def zab7 : List Str := ["_law_script", "_law_row", "_law_many", "_law_line", "_law_x", "_law_y", "_law_breadth", "_law_spot"]
theorem zad3 : (zab7).Nodup := by decide +kernel
abbrev zab5 : E := (.tup [(.bin .add (.sub (.var 7) (.cst (.int 0))) (.var 4)), (.bin .add (.sub (.var 7) (.cst (.int 1))) (.var 5))])
def b_law : List S := [(.asg 1 (.call 24 [(.var 0), (.cst (.int 58))] [])),
  (.asg 2 (.bin .add (.cst (.int 3)) (.bin .mod (.sub (.var 1) (.cst (.int 57))) (.cst (.int 22))))),
  (.asg 3 (.call 28 [(.call 27 [(.var 1), (.var 2)] []), (.sub (.var 1) (.cst (.int 52)))] [])),
  (.asg 4 (.bin .sub (.bin .mod (.sub (.var 1) (.cst (.int 53))) (.cst (.int 18001))) (.cst (.int 9000)))),
  (.asg 5 (.bin .sub (.bin .mod (.sub (.var 1) (.cst (.int 54))) (.cst (.int 18001))) (.cst (.int 9000)))),
  (.asg 3 (.comp zab5 (.one 7) (.var 3))),
  (.asg 6 (.bin .mod (.sub (.var 1) (.cst (.int 55))) (.cst (.int 1001)))),
  (.ret (.call 34 [(.var 3), (.call 13 [(.b1 .list (.var 3)), (.var 6)] []), (.var 6)] []))]
abbrev F_law : Fn := ⟨1, 8, false, b_law⟩
theorem sc_law : FnScope nm_law ["_law_script"] (zaab s_law) := ⟨rfl, rfl, rfl, nd_law, rfl, by decide +kernel, by decide +kernel⟩
def fns : List Fn := [⟨1, 3, false, bz17⟩,
  ⟨3, 5, false, bz29⟩,
  ⟨2, 2, false, bz28⟩,
  ⟨3, 3, false, bz26⟩,
  ⟨2, 2, false, bz19⟩,
  ⟨3, 5, false, bz30⟩,
  ⟨2, 2, false, bz25⟩,
  ⟨3, 3, false, bz34⟩,
  ⟨3, 3, false, bz15⟩,
  ⟨2, 2, false, bz31⟩,
  ⟨1, 3, false, bz36⟩,
  ⟨2, 3, false, bz21⟩,
  ⟨2, 3, false, bz18⟩,
  ⟨2, 6, false, bz23⟩,
  ⟨1, 5, false, bz27⟩,
  ⟨3, 9, false, bz24⟩,
  ⟨4, 5, false, bz20⟩,
  ⟨3, 6, false, bz16⟩,
  ⟨5, 12, false, bz35⟩,
  ⟨1, 1, false, bz32⟩,
  ⟨1, 1, false, bz33⟩,
  ⟨3, 3, false, bz22⟩,
  ⟨1, 1, false, bz14⟩,
  ⟨2, 2, false, bz2⟩,
  ⟨2, 5, false, bz9⟩,
  ⟨2, 5, false, bz4⟩,
  ⟨3, 5, false, bz11⟩,
  ⟨2, 9, false, bz8⟩,
  ⟨2, 9, false, bz12⟩,
  ⟨1, 3, false, bz7⟩,
  ⟨1, 5, false, bz13⟩,
  ⟨1, 1, false, bz3⟩,
  ⟨5, 18, false, bz6⟩,
  ⟨3, 13, false, bz10⟩,
  ⟨3, 5, false, bz5⟩,
  ⟨1, 8, false, b_law⟩]
def sub0 (d c : Nat) : Bool := nth (nth [[true, false], [true, true]] [true, false] d) false c
set_option genInjectivity false in
set_option genSizeOf false in
structure Txt (K : PySem.W.Frag) (mg : Str → Option Value) where
  ez1 : Addr
  mez1 : mg "GradeError" = some (.ref ez1)
  ez0 : Addr
  mez0 : mg "Crossed" = some (.ref ez0)
  qz0 : PySem.W.excIn K ez0 [.type "ValueError", .type "Exception", .type "BaseException", .type "object"] "ValueError.__new__" = true
  fz17 : Addr
  dz17 : FuncData
  tz17 : FunD K "crossing" "crossing" sz17 fz17 dz17
  bdz17 : Binds K dz17 ["corners"] []
  mz17 : mg "crossing" = some (.ref fz17)
  kz17 : PySem.W.keepIn K (.ref fz17) = true
  fz29 : Addr
  dz29 : FuncData
  tz29 : FunD K "sides_cross" "sides_cross" sz29 fz29 dz29
  bdz29 : Binds K dz29 ["corners", "i", "j"] []
  mz29 : mg "sides_cross" = some (.ref fz29)
  kz29 : PySem.W.keepIn K (.ref fz29) = true
  fz28 : Addr
  dz28 : FuncData
  tz28 : FunD K "side_ends" "side_ends" sz28 fz28 dz28
  bdz28 : Binds K dz28 ["corners", "k"] []
  mz28 : mg "side_ends" = some (.ref fz28)
  kz28 : PySem.W.keepIn K (.ref fz28) = true
  fz26 : Addr
  dz26 : FuncData
  tz26 : FunD K "run_together" "run_together" sz26 fz26 dz26
  bdz26 : Binds K dz26 ["corner", "one", "two"] []
  mz26 : mg "run_together" = some (.ref fz26)
  kz26 : PySem.W.keepIn K (.ref fz26) = true
  fz19 : Addr
  dz19 : FuncData
  tz19 : FunD K "have_common_point" "have_common_point" sz19 fz19 dz19
  bdz19 : Binds K dz19 ["one", "two"] []
  mz19 : mg "have_common_point" = some (.ref fz19)
  kz19 : PySem.W.keepIn K (.ref fz19) = true
  fz30 : Addr
  dz30 : FuncData
  tz30 : FunD K "spans_meet" "spans_meet" sz30 fz30 dz30
  bdz30 : Binds K dz30 ["one", "two", "axis"] []
  mz30 : mg "spans_meet" = some (.ref fz30)
  kz30 : PySem.W.keepIn K (.ref fz30) = true
  fz25 : Addr
  dz25 : FuncData
  tz25 : FunD K "reaches_across" "reaches_across" sz25 fz25 dz25
  bdz25 : Binds K dz25 ["side", "line"] []
  mz25 : mg "reaches_across" = some (.ref fz25)
  kz25 : PySem.W.keepIn K (.ref fz25) = true
  fz34 : Addr
  dz34 : FuncData
  tz34 : FunD K "turn" "turn" sz34 fz34 dz34
  bdz34 : Binds K dz34 ["start", "one", "two"] []
  mz34 : mg "turn" = some (.ref fz34)
  kz34 : PySem.W.keepIn K (.ref fz34) = true
  fz15 : Addr
  dz15 : FuncData
  tz15 : FunD K "along" "along" sz15 fz15 dz15
  bdz15 : Binds K dz15 ["start", "one", "two"] []
  mz15 : mg "along" = some (.ref fz15)
  kz15 : PySem.W.keepIn K (.ref fz15) = true
  fz31 : Addr
  dz31 : FuncData
  tz31 : FunD K "square" "square" sz31 fz31 dz31
  bdz31 : Binds K dz31 ["one", "two"] []
  mz31 : mg "square" = some (.ref fz31)
  kz31 : PySem.W.keepIn K (.ref fz31) = true
  fz36 : Addr
  dz36 : FuncData
  tz36 : FunD K "whole_root" "whole_root" sz36 fz36 dz36
  bdz36 : Binds K dz36 ["number"] []
  mz36 : mg "whole_root" = some (.ref fz36)
  kz36 : PySem.W.keepIn K (.ref fz36) = true
  fz21 : Addr
  dz21 : FuncData
  tz21 : FunD K "lowest_terms" "lowest_terms" sz21 fz21 dz21
  bdz21 : Binds K dz21 ["part", "whole"] []
  mz21 : mg "lowest_terms" = some (.ref fz21)
  kz21 : PySem.W.keepIn K (.ref fz21) = true
  fz18 : Addr
  dz18 : FuncData
  tz18 : FunD K "greatest_divisor" "greatest_divisor" sz18 fz18 dz18
  bdz18 : Binds K dz18 ["one", "two"] []
  mz18 : mg "greatest_divisor" = some (.ref fz18)
  kz18 : PySem.W.keepIn K (.ref fz18) = true
  fz23 : Addr
  dz23 : FuncData
  tz23 : FunD K "outline" "outline" sz23 fz23 dz23
  bdz23 : Binds K dz23 ["corners", "breadth"] []
  mz23 : mg "outline" = some (.ref fz23)
  kz23 : PySem.W.keepIn K (.ref fz23) = true
  fz27 : Addr
  dz27 : FuncData
  tz27 : FunD K "runs_leftward" "runs_leftward" sz27 fz27 dz27
  bdz27 : Binds K dz27 ["corners"] []
  mz27 : mg "runs_leftward" = some (.ref fz27)
  kz27 : PySem.W.keepIn K (.ref fz27) = true
  fz24 : Addr
  dz24 : FuncData
  tz24 : FunD K "outward_vector" "outward_vector" sz24 fz24 dz24
  bdz24 : Binds K dz24 ["corners", "k", "leftward"] []
  mz24 : mg "outward_vector" = some (.ref fz24)
  kz24 : PySem.W.keepIn K (.ref fz24) = true
  fz20 : Addr
  dz20 : FuncData
  tz20 : FunD K "hem_corner" "hem_corner" sz20 fz20 dz20
  bdz20 : Binds K dz20 ["corner", "before", "after", "breadth"] []
  mz20 : mg "hem_corner" = some (.ref fz20)
  kz20 : PySem.W.keepIn K (.ref fz20) = true
  fz16 : Addr
  dz16 : FuncData
  tz16 : FunD K "beside" "beside" sz16 fz16 dz16
  bdz16 : Binds K dz16 ["corner", "vector", "breadth"] []
  mz16 : mg "beside" = some (.ref fz16)
  kz16 : PySem.W.keepIn K (.ref fz16) = true
  fz35 : Addr
  dz35 : FuncData
  tz35 : FunD K "where_they_cut" "where_they_cut" sz35 fz35 dz35
  bdz35 : Binds K dz35 ["corner", "before", "after", "cut", "breadth"] []
  mz35 : mg "where_they_cut" = some (.ref fz35)
  kz35 : PySem.W.keepIn K (.ref fz35) = true
  fz32 : Addr
  dz32 : FuncData
  tz32 : FunD K "square_of" "square_of" sz32 fz32 dz32
  bdz32 : Binds K dz32 ["vector"] []
  mz32 : mg "square_of" = some (.ref fz32)
  kz32 : PySem.W.keepIn K (.ref fz32) = true
  fz33 : Addr
  dz33 : FuncData
  tz33 : FunD K "thousandfold_length" "thousandfold_length" sz33 fz33 dz33
  bdz33 : Binds K dz33 ["vector"] []
  mz33 : mg "thousandfold_length" = some (.ref fz33)
  kz33 : PySem.W.keepIn K (.ref fz33) = true
  fz22 : Addr
  dz22 : FuncData
  tz22 : FunD K "moved_number" "moved_number" sz22 fz22 dz22
  bdz22 : Binds K dz22 ["number", "part", "whole"] []
  mz22 : mg "moved_number" = some (.ref fz22)
  kz22 : PySem.W.keepIn K (.ref fz22) = true
  fz14 : Addr
  dz14 : FuncData
  tz14 : FunD K "_law_whole" "_law_whole" sz14 fz14 dz14
  bdz14 : Binds K dz14 ["_law_found"] []
  mz14 : mg "_law_whole" = some (.ref fz14)
  kz14 : PySem.W.keepIn K (.ref fz14) = true
  fz2 : Addr
  dz2 : FuncData
  tz2 : FunD K "_law_at" "_law_at" sz2 fz2 dz2
  bdz2 : Binds K dz2 ["_law_script", "_law_k"] []
  mz2 : mg "_law_at" = some (.ref fz2)
  kz2 : PySem.W.keepIn K (.ref fz2) = true
  fz9 : Addr
  dz9 : FuncData
  tz9 : FunD K "_law_stir" "_law_stir" sz9 fz9 dz9
  bdz9 : Binds K dz9 ["_law_script", "_law_many"] []
  mz9 : mg "_law_stir" = some (.ref fz9)
  kz9 : PySem.W.keepIn K (.ref fz9) = true
  fz4 : Addr
  dz4 : FuncData
  tz4 : FunD K "_law_gcd" "_law_gcd" sz4 fz4 dz4
  bdz4 : Binds K dz4 ["_law_one", "_law_two"] []
  mz4 : mg "_law_gcd" = some (.ref fz4)
  kz4 : PySem.W.keepIn K (.ref fz4) = true
  fz11 : Addr
  dz11 : FuncData
  tz11 : FunD K "_law_strides" "_law_strides" sz11 fz11 dz11
  bdz11 : Binds K dz11 ["_law_row", "_law_at_here", "_law_many"] []
  mz11 : mg "_law_strides" = some (.ref fz11)
  kz11 : PySem.W.keepIn K (.ref fz11) = true
  fz8 : Addr
  dz8 : FuncData
  tz8 : FunD K "_law_simple" "_law_simple" sz8 fz8 dz8
  bdz8 : Binds K dz8 ["_law_row", "_law_many"] []
  mz8 : mg "_law_simple" = some (.ref fz8)
  kz8 : PySem.W.keepIn K (.ref fz8) = true
  fz12 : Addr
  dz12 : FuncData
  tz12 : FunD K "_law_swung" "_law_swung" sz12 fz12 dz12
  bdz12 : Binds K dz12 ["_law_line", "_law_cell"] []
  mz12 : mg "_law_swung" = some (.ref fz12)
  kz12 : PySem.W.keepIn K (.ref fz12) = true
  fz7 : Addr
  dz7 : FuncData
  tz7 : FunD K "_law_root" "_law_root" sz7 fz7 dz7
  bdz7 : Binds K dz7 ["_law_number"] []
  mz7 : mg "_law_root" = some (.ref fz7)
  kz7 : PySem.W.keepIn K (.ref fz7) = true
  fz13 : Addr
  dz13 : FuncData
  tz13 : FunD K "_law_twice" "_law_twice" sz13 fz13 dz13
  bdz13 : Binds K dz13 ["_law_line"] []
  mz13 : mg "_law_twice" = some (.ref fz13)
  kz13 : PySem.W.keepIn K (.ref fz13) = true
  fz3 : Addr
  dz3 : FuncData
  tz3 : FunD K "_law_fraction" "_law_fraction" sz3 fz3 dz3
  bdz3 : Binds K dz3 ["_law_found"] []
  mz3 : mg "_law_fraction" = some (.ref fz3)
  kz3 : PySem.W.keepIn K (.ref fz3) = true
  fz6 : Addr
  dz6 : FuncData
  tz6 : FunD K "_law_on_hem" "_law_on_hem" sz6 fz6 dz6
  bdz6 : Binds K dz6 ["_law_line", "_law_k", "_law_side", "_law_point", "_law_breadth"] []
  mz6 : mg "_law_on_hem" = some (.ref fz6)
  kz6 : PySem.W.keepIn K (.ref fz6) = true
  fz10 : Addr
  dz10 : FuncData
  tz10 : FunD K "_law_straight" "_law_straight" sz10 fz10 dz10
  bdz10 : Binds K dz10 ["_law_line", "_law_k", "_law_point"] []
  mz10 : mg "_law_straight" = some (.ref fz10)
  kz10 : PySem.W.keepIn K (.ref fz10) = true
  fz5 : Addr
  dz5 : FuncData
  tz5 : FunD K "_law_hems" "_law_hems" sz5 fz5 dz5
  bdz5 : Binds K dz5 ["_law_line", "_law_found", "_law_breadth"] []
  mz5 : mg "_law_hems" = some (.ref fz5)
  kz5 : PySem.W.keepIn K (.ref fz5) = true
  f_law : Addr
  d_law : FuncData
  t_law : FunD K "law" "law" s_law f_law d_law
  bd_law : Binds K d_law ["_law_script"] []
  m_law : mg "law" = some (.ref f_law)
  k_law : PySem.W.keepIn K (.ref f_law) = true
  b_abs : mg "abs" = none
  b_bool : mg "bool" = none
  b_enumerate : mg "enumerate" = none
  b_int : mg "int" = none
  b_isinstance : mg "isinstance" = none
  b_len : mg "len" = none
  b_list : mg "list" = none
  b_max : mg "max" = none
  b_range : mg "range" = none
  b_sorted : mg "sorted" = none
  b_tuple : mg "tuple" = none
section
variable {K : PySem.W.Frag} {mg : Str → Option Value}
def Gof (T : Txt K mg) : Gx := ⟨K, nth [T.ez1, T.ez0] (T.ez1), nth [] (0), nth [] []⟩
theorem emz0 (T : Txt K mg) : mg "Crossed" = some (.ref ((Gof T).cA 1)) := T.mez0
theorem eqz0 (T : Txt K mg) : PySem.W.excIn K ((Gof T).cA 1) [.type "ValueError", .type "Exception", .type "BaseException", .type "object"] "ValueError.__new__" = true := T.qz0
end
section
variable {P : Program} {w : World} {K : PySem.W.Frag} {mg : Str → Option Value} {base : Heap} {k : Nat}
set_option genInjectivity false in
set_option genSizeOf false in
structure Ok (P : Program) (w : World) {K : PySem.W.Frag} {mg : Str → Option Value} (base : Heap) (T : Txt K mg) (k : Nat) : Prop where
  oz17 : FnOk P w K mg base (CXE (Gof T) P w base) (2 * k) T.fz17 T.dz17 ["corners"] (spG (Gof T) (cfX fns sub0 k).cf (cfX fns sub0 k).fr 0)
  oz29 : FnOk P w K mg base (CXE (Gof T) P w base) (2 * k) T.fz29 T.dz29 ["corners", "i", "j"] (spG (Gof T) (cfX fns sub0 k).cf (cfX fns sub0 k).fr 1)
  oz28 : FnOk P w K mg base (CXE (Gof T) P w base) (2 * k) T.fz28 T.dz28 ["corners", "k"] (spG (Gof T) (cfX fns sub0 k).cf (cfX fns sub0 k).fr 2)
  oz26 : FnOk P w K mg base (CXE (Gof T) P w base) (2 * k) T.fz26 T.dz26 ["corner", "one", "two"] (spG (Gof T) (cfX fns sub0 k).cf (cfX fns sub0 k).fr 3)
  oz19 : FnOk P w K mg base (CXE (Gof T) P w base) (2 * k) T.fz19 T.dz19 ["one", "two"] (spG (Gof T) (cfX fns sub0 k).cf (cfX fns sub0 k).fr 4)
  oz30 : FnOk P w K mg base (CXE (Gof T) P w base) (2 * k) T.fz30 T.dz30 ["one", "two", "axis"] (spG (Gof T) (cfX fns sub0 k).cf (cfX fns sub0 k).fr 5)
  oz25 : FnOk P w K mg base (CXE (Gof T) P w base) (2 * k) T.fz25 T.dz25 ["side", "line"] (spG (Gof T) (cfX fns sub0 k).cf (cfX fns sub0 k).fr 6)
  oz34 : FnOk P w K mg base (CXE (Gof T) P w base) (2 * k) T.fz34 T.dz34 ["start", "one", "two"] (spG (Gof T) (cfX fns sub0 k).cf (cfX fns sub0 k).fr 7)
  oz15 : FnOk P w K mg base (CXE (Gof T) P w base) (2 * k) T.fz15 T.dz15 ["start", "one", "two"] (spG (Gof T) (cfX fns sub0 k).cf (cfX fns sub0 k).fr 8)
  oz31 : FnOk P w K mg base (CXE (Gof T) P w base) (2 * k) T.fz31 T.dz31 ["one", "two"] (spG (Gof T) (cfX fns sub0 k).cf (cfX fns sub0 k).fr 9)
  oz36 : FnOk P w K mg base (CXE (Gof T) P w base) (2 * k) T.fz36 T.dz36 ["number"] (spG (Gof T) (cfX fns sub0 k).cf (cfX fns sub0 k).fr 10)
  oz21 : FnOk P w K mg base (CXE (Gof T) P w base) (2 * k) T.fz21 T.dz21 ["part", "whole"] (spG (Gof T) (cfX fns sub0 k).cf (cfX fns sub0 k).fr 11)
  oz18 : FnOk P w K mg base (CXE (Gof T) P w base) (2 * k) T.fz18 T.dz18 ["one", "two"] (spG (Gof T) (cfX fns sub0 k).cf (cfX fns sub0 k).fr 12)
  oz23 : FnOk P w K mg base (CXE (Gof T) P w base) (2 * k) T.fz23 T.dz23 ["corners", "breadth"] (spG (Gof T) (cfX fns sub0 k).cf (cfX fns sub0 k).fr 13)
  oz27 : FnOk P w K mg base (CXE (Gof T) P w base) (2 * k) T.fz27 T.dz27 ["corners"] (spG (Gof T) (cfX fns sub0 k).cf (cfX fns sub0 k).fr 14)
  oz24 : FnOk P w K mg base (CXE (Gof T) P w base) (2 * k) T.fz24 T.dz24 ["corners", "k", "leftward"] (spG (Gof T) (cfX fns sub0 k).cf (cfX fns sub0 k).fr 15)
  oz20 : FnOk P w K mg base (CXE (Gof T) P w base) (2 * k) T.fz20 T.dz20 ["corner", "before", "after", "breadth"] (spG (Gof T) (cfX fns sub0 k).cf (cfX fns sub0 k).fr 16)
  oz16 : FnOk P w K mg base (CXE (Gof T) P w base) (2 * k) T.fz16 T.dz16 ["corner", "vector", "breadth"] (spG (Gof T) (cfX fns sub0 k).cf (cfX fns sub0 k).fr 17)
  oz35 : FnOk P w K mg base (CXE (Gof T) P w base) (2 * k) T.fz35 T.dz35 ["corner", "before", "after", "cut", "breadth"] (spG (Gof T) (cfX fns sub0 k).cf (cfX fns sub0 k).fr 18)
  oz32 : FnOk P w K mg base (CXE (Gof T) P w base) (2 * k) T.fz32 T.dz32 ["vector"] (spG (Gof T) (cfX fns sub0 k).cf (cfX fns sub0 k).fr 19)
  oz33 : FnOk P w K mg base (CXE (Gof T) P w base) (2 * k) T.fz33 T.dz33 ["vector"] (spG (Gof T) (cfX fns sub0 k).cf (cfX fns sub0 k).fr 20)
  oz22 : FnOk P w K mg base (CXE (Gof T) P w base) (2 * k) T.fz22 T.dz22 ["number", "part", "whole"] (spG (Gof T) (cfX fns sub0 k).cf (cfX fns sub0 k).fr 21)
  oz14 : FnOk P w K mg base (CXE (Gof T) P w base) (2 * k) T.fz14 T.dz14 ["_law_found"] (spG (Gof T) (cfX fns sub0 k).cf (cfX fns sub0 k).fr 22)
  oz2 : FnOk P w K mg base (CXE (Gof T) P w base) (2 * k) T.fz2 T.dz2 ["_law_script", "_law_k"] (spG (Gof T) (cfX fns sub0 k).cf (cfX fns sub0 k).fr 23)
  oz9 : FnOk P w K mg base (CXE (Gof T) P w base) (2 * k) T.fz9 T.dz9 ["_law_script", "_law_many"] (spG (Gof T) (cfX fns sub0 k).cf (cfX fns sub0 k).fr 24)
  oz4 : FnOk P w K mg base (CXE (Gof T) P w base) (2 * k) T.fz4 T.dz4 ["_law_one", "_law_two"] (spG (Gof T) (cfX fns sub0 k).cf (cfX fns sub0 k).fr 25)
  oz11 : FnOk P w K mg base (CXE (Gof T) P w base) (2 * k) T.fz11 T.dz11 ["_law_row", "_law_at_here", "_law_many"] (spG (Gof T) (cfX fns sub0 k).cf (cfX fns sub0 k).fr 26)
  oz8 : FnOk P w K mg base (CXE (Gof T) P w base) (2 * k) T.fz8 T.dz8 ["_law_row", "_law_many"] (spG (Gof T) (cfX fns sub0 k).cf (cfX fns sub0 k).fr 27)
  oz12 : FnOk P w K mg base (CXE (Gof T) P w base) (2 * k) T.fz12 T.dz12 ["_law_line", "_law_cell"] (spG (Gof T) (cfX fns sub0 k).cf (cfX fns sub0 k).fr 28)
  oz7 : FnOk P w K mg base (CXE (Gof T) P w base) (2 * k) T.fz7 T.dz7 ["_law_number"] (spG (Gof T) (cfX fns sub0 k).cf (cfX fns sub0 k).fr 29)
  oz13 : FnOk P w K mg base (CXE (Gof T) P w base) (2 * k) T.fz13 T.dz13 ["_law_line"] (spG (Gof T) (cfX fns sub0 k).cf (cfX fns sub0 k).fr 30)
  oz3 : FnOk P w K mg base (CXE (Gof T) P w base) (2 * k) T.fz3 T.dz3 ["_law_found"] (spG (Gof T) (cfX fns sub0 k).cf (cfX fns sub0 k).fr 31)
  oz6 : FnOk P w K mg base (CXE (Gof T) P w base) (2 * k) T.fz6 T.dz6 ["_law_line", "_law_k", "_law_side", "_law_point", "_law_breadth"] (spG (Gof T) (cfX fns sub0 k).cf (cfX fns sub0 k).fr 32)
  oz10 : FnOk P w K mg base (CXE (Gof T) P w base) (2 * k) T.fz10 T.dz10 ["_law_line", "_law_k", "_law_point"] (spG (Gof T) (cfX fns sub0 k).cf (cfX fns sub0 k).fr 33)
  oz5 : FnOk P w K mg base (CXE (Gof T) P w base) (2 * k) T.fz5 T.dz5 ["_law_line", "_law_found", "_law_breadth"] (spG (Gof T) (cfX fns sub0 k).cf (cfX fns sub0 k).fr 34)
  o_law : FnOk P w K mg base (CXE (Gof T) P w base) (2 * k) T.f_law T.d_law ["_law_script"] (spG (Gof T) (cfX fns sub0 k).cf (cfX fns sub0 k).fr 35)
theorem ihz17 {T : Txt K mg} (ih : Ok P w base T k) : FnOk P w K mg base (CXE (Gof T) P w base) (2 * k) T.fz17 T.dz17 ["corners"] (spG (Gof T) (cfX fns sub0 k).cf (cfX fns sub0 k).fr 0) := ih.oz17
theorem ihz29 {T : Txt K mg} (ih : Ok P w base T k) : FnOk P w K mg base (CXE (Gof T) P w base) (2 * k) T.fz29 T.dz29 ["corners", "i", "j"] (spG (Gof T) (cfX fns sub0 k).cf (cfX fns sub0 k).fr 1) := ih.oz29
theorem ihz28 {T : Txt K mg} (ih : Ok P w base T k) : FnOk P w K mg base (CXE (Gof T) P w base) (2 * k) T.fz28 T.dz28 ["corners", "k"] (spG (Gof T) (cfX fns sub0 k).cf (cfX fns sub0 k).fr 2) := ih.oz28
theorem ihz26 {T : Txt K mg} (ih : Ok P w base T k) : FnOk P w K mg base (CXE (Gof T) P w base) (2 * k) T.fz26 T.dz26 ["corner", "one", "two"] (spG (Gof T) (cfX fns sub0 k).cf (cfX fns sub0 k).fr 3) := ih.oz26
theorem ihz19 {T : Txt K mg} (ih : Ok P w base T k) : FnOk P w K mg base (CXE (Gof T) P w base) (2 * k) T.fz19 T.dz19 ["one", "two"] (spG (Gof T) (cfX fns sub0 k).cf (cfX fns sub0 k).fr 4) := ih.oz19
theorem ihz30 {T : Txt K mg} (ih : Ok P w base T k) : FnOk P w K mg base (CXE (Gof T) P w base) (2 * k) T.fz30 T.dz30 ["one", "two", "axis"] (spG (Gof T) (cfX fns sub0 k).cf (cfX fns sub0 k).fr 5) := ih.oz30
theorem ihz25 {T : Txt K mg} (ih : Ok P w base T k) : FnOk P w K mg base (CXE (Gof T) P w base) (2 * k) T.fz25 T.dz25 ["side", "line"] (spG (Gof T) (cfX fns sub0 k).cf (cfX fns sub0 k).fr 6) := ih.oz25
theorem ihz34 {T : Txt K mg} (ih : Ok P w base T k) : FnOk P w K mg base (CXE (Gof T) P w base) (2 * k) T.fz34 T.dz34 ["start", "one", "two"] (spG (Gof T) (cfX fns sub0 k).cf (cfX fns sub0 k).fr 7) := ih.oz34
theorem ihz15 {T : Txt K mg} (ih : Ok P w base T k) : FnOk P w K mg base (CXE (Gof T) P w base) (2 * k) T.fz15 T.dz15 ["start", "one", "two"] (spG (Gof T) (cfX fns sub0 k).cf (cfX fns sub0 k).fr 8) := ih.oz15
theorem ihz31 {T : Txt K mg} (ih : Ok P w base T k) : FnOk P w K mg base (CXE (Gof T) P w base) (2 * k) T.fz31 T.dz31 ["one", "two"] (spG (Gof T) (cfX fns sub0 k).cf (cfX fns sub0 k).fr 9) := ih.oz31
theorem ihz36 {T : Txt K mg} (ih : Ok P w base T k) : FnOk P w K mg base (CXE (Gof T) P w base) (2 * k) T.fz36 T.dz36 ["number"] (spG (Gof T) (cfX fns sub0 k).cf (cfX fns sub0 k).fr 10) := ih.oz36
theorem ihz21 {T : Txt K mg} (ih : Ok P w base T k) : FnOk P w K mg base (CXE (Gof T) P w base) (2 * k) T.fz21 T.dz21 ["part", "whole"] (spG (Gof T) (cfX fns sub0 k).cf (cfX fns sub0 k).fr 11) := ih.oz21
theorem ihz18 {T : Txt K mg} (ih : Ok P w base T k) : FnOk P w K mg base (CXE (Gof T) P w base) (2 * k) T.fz18 T.dz18 ["one", "two"] (spG (Gof T) (cfX fns sub0 k).cf (cfX fns sub0 k).fr 12) := ih.oz18
theorem ihz23 {T : Txt K mg} (ih : Ok P w base T k) : FnOk P w K mg base (CXE (Gof T) P w base) (2 * k) T.fz23 T.dz23 ["corners", "breadth"] (spG (Gof T) (cfX fns sub0 k).cf (cfX fns sub0 k).fr 13) := ih.oz23
theorem ihz27 {T : Txt K mg} (ih : Ok P w base T k) : FnOk P w K mg base (CXE (Gof T) P w base) (2 * k) T.fz27 T.dz27 ["corners"] (spG (Gof T) (cfX fns sub0 k).cf (cfX fns sub0 k).fr 14) := ih.oz27
theorem ihz24 {T : Txt K mg} (ih : Ok P w base T k) : FnOk P w K mg base (CXE (Gof T) P w base) (2 * k) T.fz24 T.dz24 ["corners", "k", "leftward"] (spG (Gof T) (cfX fns sub0 k).cf (cfX fns sub0 k).fr 15) := ih.oz24
theorem ihz20 {T : Txt K mg} (ih : Ok P w base T k) : FnOk P w K mg base (CXE (Gof T) P w base) (2 * k) T.fz20 T.dz20 ["corner", "before", "after", "breadth"] (spG (Gof T) (cfX fns sub0 k).cf (cfX fns sub0 k).fr 16) := ih.oz20
theorem ihz16 {T : Txt K mg} (ih : Ok P w base T k) : FnOk P w K mg base (CXE (Gof T) P w base) (2 * k) T.fz16 T.dz16 ["corner", "vector", "breadth"] (spG (Gof T) (cfX fns sub0 k).cf (cfX fns sub0 k).fr 17) := ih.oz16
theorem ihz35 {T : Txt K mg} (ih : Ok P w base T k) : FnOk P w K mg base (CXE (Gof T) P w base) (2 * k) T.fz35 T.dz35 ["corner", "before", "after", "cut", "breadth"] (spG (Gof T) (cfX fns sub0 k).cf (cfX fns sub0 k).fr 18) := ih.oz35
theorem ihz32 {T : Txt K mg} (ih : Ok P w base T k) : FnOk P w K mg base (CXE (Gof T) P w base) (2 * k) T.fz32 T.dz32 ["vector"] (spG (Gof T) (cfX fns sub0 k).cf (cfX fns sub0 k).fr 19) := ih.oz32
theorem ihz33 {T : Txt K mg} (ih : Ok P w base T k) : FnOk P w K mg base (CXE (Gof T) P w base) (2 * k) T.fz33 T.dz33 ["vector"] (spG (Gof T) (cfX fns sub0 k).cf (cfX fns sub0 k).fr 20) := ih.oz33
theorem ihz22 {T : Txt K mg} (ih : Ok P w base T k) : FnOk P w K mg base (CXE (Gof T) P w base) (2 * k) T.fz22 T.dz22 ["number", "part", "whole"] (spG (Gof T) (cfX fns sub0 k).cf (cfX fns sub0 k).fr 21) := ih.oz22
theorem ihz14 {T : Txt K mg} (ih : Ok P w base T k) : FnOk P w K mg base (CXE (Gof T) P w base) (2 * k) T.fz14 T.dz14 ["_law_found"] (spG (Gof T) (cfX fns sub0 k).cf (cfX fns sub0 k).fr 22) := ih.oz14
theorem ihz2 {T : Txt K mg} (ih : Ok P w base T k) : FnOk P w K mg base (CXE (Gof T) P w base) (2 * k) T.fz2 T.dz2 ["_law_script", "_law_k"] (spG (Gof T) (cfX fns sub0 k).cf (cfX fns sub0 k).fr 23) := ih.oz2
theorem ihz9 {T : Txt K mg} (ih : Ok P w base T k) : FnOk P w K mg base (CXE (Gof T) P w base) (2 * k) T.fz9 T.dz9 ["_law_script", "_law_many"] (spG (Gof T) (cfX fns sub0 k).cf (cfX fns sub0 k).fr 24) := ih.oz9
theorem ihz4 {T : Txt K mg} (ih : Ok P w base T k) : FnOk P w K mg base (CXE (Gof T) P w base) (2 * k) T.fz4 T.dz4 ["_law_one", "_law_two"] (spG (Gof T) (cfX fns sub0 k).cf (cfX fns sub0 k).fr 25) := ih.oz4
theorem ihz11 {T : Txt K mg} (ih : Ok P w base T k) : FnOk P w K mg base (CXE (Gof T) P w base) (2 * k) T.fz11 T.dz11 ["_law_row", "_law_at_here", "_law_many"] (spG (Gof T) (cfX fns sub0 k).cf (cfX fns sub0 k).fr 26) := ih.oz11
theorem ihz8 {T : Txt K mg} (ih : Ok P w base T k) : FnOk P w K mg base (CXE (Gof T) P w base) (2 * k) T.fz8 T.dz8 ["_law_row", "_law_many"] (spG (Gof T) (cfX fns sub0 k).cf (cfX fns sub0 k).fr 27) := ih.oz8
theorem ihz12 {T : Txt K mg} (ih : Ok P w base T k) : FnOk P w K mg base (CXE (Gof T) P w base) (2 * k) T.fz12 T.dz12 ["_law_line", "_law_cell"] (spG (Gof T) (cfX fns sub0 k).cf (cfX fns sub0 k).fr 28) := ih.oz12
theorem ihz7 {T : Txt K mg} (ih : Ok P w base T k) : FnOk P w K mg base (CXE (Gof T) P w base) (2 * k) T.fz7 T.dz7 ["_law_number"] (spG (Gof T) (cfX fns sub0 k).cf (cfX fns sub0 k).fr 29) := ih.oz7
theorem ihz13 {T : Txt K mg} (ih : Ok P w base T k) : FnOk P w K mg base (CXE (Gof T) P w base) (2 * k) T.fz13 T.dz13 ["_law_line"] (spG (Gof T) (cfX fns sub0 k).cf (cfX fns sub0 k).fr 30) := ih.oz13
theorem ihz3 {T : Txt K mg} (ih : Ok P w base T k) : FnOk P w K mg base (CXE (Gof T) P w base) (2 * k) T.fz3 T.dz3 ["_law_found"] (spG (Gof T) (cfX fns sub0 k).cf (cfX fns sub0 k).fr 31) := ih.oz3
theorem ihz6 {T : Txt K mg} (ih : Ok P w base T k) : FnOk P w K mg base (CXE (Gof T) P w base) (2 * k) T.fz6 T.dz6 ["_law_line", "_law_k", "_law_side", "_law_point", "_law_breadth"] (spG (Gof T) (cfX fns sub0 k).cf (cfX fns sub0 k).fr 32) := ih.oz6
theorem ihz10 {T : Txt K mg} (ih : Ok P w base T k) : FnOk P w K mg base (CXE (Gof T) P w base) (2 * k) T.fz10 T.dz10 ["_law_line", "_law_k", "_law_point"] (spG (Gof T) (cfX fns sub0 k).cf (cfX fns sub0 k).fr 33) := ih.oz10
theorem ihz5 {T : Txt K mg} (ih : Ok P w base T k) : FnOk P w K mg base (CXE (Gof T) P w base) (2 * k) T.fz5 T.dz5 ["_law_line", "_law_found", "_law_breadth"] (spG (Gof T) (cfX fns sub0 k).cf (cfX fns sub0 k).fr 34) := ih.oz5
theorem okz17 (T : Txt K mg) (ih : Ok P w base T k) : FnOk P w K mg base (CXE (Gof T) P w base) (2 * (k + 1)) T.fz17 T.dz17 ["corners"] (spG (Gof T) (run true fns sub0 whileL (k + 1)) (frOf fns) 0) := by
  refine fn_okX T.tz17 scz17 rfl rfl rfl fun cdv A outer s H E hr => ?_
  have hu := Nat.lt_of_le_of_lt (Nat.add_le_add_left (by decide : 9 ≤ 64) _) hr.units
  have hp := IP.passes_leave (X := cxOf (CXE (Gof T) P w base) P w K mg base nmz17 "crossing" (zaab sz17) T.fz17 cdv A outer s H E) rfl
  exact (zaaa (yfor hp (wr1 (T.b_range) (wlen (T.b_len) (wv 0))) (wg1 ndz17) (zaaa (yfor hp (wr2 (T.b_range) (wv 1) (wlen (T.b_len) (wv 0))) (wg1 ndz17) (zaaa (sS_ifs (wtr (xcall (ihz29 ih) hr T.mz29 T.kz29 T.bdz29 .nil rfl (wrc (wv 0) (wrc (wv 1) (wrc (wv 2) sR_nil))))) (zaaa (sS_ret (wtup (wac (wv 1) (wac (wv 2) sA_nil))))
  zaad) zaad)
  zaad))
  zaad))
  (zaaa (sS_ret sV_non)
  zaad))
theorem okz29 (T : Txt K mg) (ih : Ok P w base T k) : FnOk P w K mg base (CXE (Gof T) P w base) (2 * (k + 1)) T.fz29 T.dz29 ["corners", "i", "j"] (spG (Gof T) (run true fns sub0 whileL (k + 1)) (frOf fns) 1) := by
  refine fn_okX T.tz29 scz29 rfl rfl rfl fun cdv A outer s H E hr => ?_
  have hu := Nat.lt_of_le_of_lt (Nat.add_le_add_left (by decide : 9 ≤ 64) _) hr.units
  have hp := IP.passes_leave (X := cxOf (CXE (Gof T) P w base) P w K mg base nmz29 "sides_cross" (zaab sz29) T.fz29 cdv A outer s H E) rfl
  exact (zaaa (qasg ndz29 (xcall (ihz28 ih) hr T.mz28 T.kz28 T.bdz28 .nil rfl (wrc (wv 0) (wrc (wv 1) sR_nil))))
  (zaaa (qasg ndz29 (xcall (ihz28 ih) hr T.mz28 T.kz28 T.bdz28 .nil rfl (wrc (wv 0) (wrc (wv 2) sR_nil))))
  (zaaa (sS_ifs (wct hu .eq (wv 1) (wv 2)) (zaaa (sS_ret (wcv hu .eq (wsub (wv 3) sV_int) (wsub (wv 3) sV_int)))
  zaad) zaad)
  (zaaa (sS_ifs (wct hu .eq (wv 2) (sV_bin .add (wv 1) sV_int)) (zaaa (sS_ret (xcall (ihz26 ih) hr T.mz26 T.kz26 T.bdz26 .nil rfl (wrc (wsub (wv 3) sV_int) (wrc (wsub (wv 3) sV_int) (wrc (wsub (wv 4) sV_int) sR_nil)))))
  zaad) zaad)
  (zaaa (sS_ifs (PW.pt (ptb_and (wct hu .eq (sV_bin .add (wv 2) sV_int) (wlen (T.b_len) (wv 0))) (zaeg (wct hu .eq (wv 1) sV_int)))) (zaaa (sS_ret (xcall (ihz26 ih) hr T.mz26 T.kz26 T.bdz26 .nil rfl (wrc (wsub (wv 3) sV_int) (wrc (wsub (wv 3) sV_int) (wrc (wsub (wv 4) sV_int) sR_nil)))))
  zaad) zaad)
  (zaaa (sS_ret (xcall (ihz19 ih) hr T.mz19 T.kz19 T.bdz19 .nil rfl (wrc (wv 3) (wrc (wv 4) sR_nil))))
  zaad))))))
theorem okz28 (T : Txt K mg) (ih : Ok P w base T k) : FnOk P w K mg base (CXE (Gof T) P w base) (2 * (k + 1)) T.fz28 T.dz28 ["corners", "k"] (spG (Gof T) (run true fns sub0 whileL (k + 1)) (frOf fns) 2) := by
  refine fn_okX T.tz28 scz28 rfl rfl rfl fun cdv A outer s H E hr => ?_
  have hu := Nat.lt_of_le_of_lt (Nat.add_le_add_left (by decide : 9 ≤ 64) _) hr.units
  have hp := IP.passes_leave (X := cxOf (CXE (Gof T) P w base) P w K mg base nmz28 "side_ends" (zaab sz28) T.fz28 cdv A outer s H E) rfl
  exact (zaaa (sS_ret (wtup (wac (wsub (wv 0) (wv 1)) (wac (wsub (wv 0) (sV_bin .mod (sV_bin .add (wv 1) sV_int) (wlen (T.b_len) (wv 0)))) sA_nil))))
  zaad)
theorem okz26 (T : Txt K mg) (ih : Ok P w base T k) : FnOk P w K mg base (CXE (Gof T) P w base) (2 * (k + 1)) T.fz26 T.dz26 ["corner", "one", "two"] (spG (Gof T) (run true fns sub0 whileL (k + 1)) (frOf fns) 3) := by
  refine fn_okX T.tz26 scz26 rfl rfl rfl fun cdv A outer s H E hr => ?_
  have hu := Nat.lt_of_le_of_lt (Nat.add_le_add_left (by decide : 9 ≤ 64) _) hr.units
  have hp := IP.passes_leave (X := cxOf (CXE (Gof T) P w base) P w K mg base nmz26 "run_together" (zaab sz26) T.fz26 cdv A outer s H E) rfl
  exact (zaaa (sS_ret (sV_and (wcv hu .eq (xcall (ihz34 ih) hr T.mz34 T.kz34 T.bdz34 .nil rfl (wrc (wv 0) (wrc (wv 1) (wrc (wv 2) sR_nil)))) sV_int) (wone (wcv hu .gt (xcall (ihz15 ih) hr T.mz15 T.kz15 T.bdz15 .nil rfl (wrc (wv 0) (wrc (wv 1) (wrc (wv 2) sR_nil)))) sV_int))))
  zaad)
theorem okz19 (T : Txt K mg) (ih : Ok P w base T k) : FnOk P w K mg base (CXE (Gof T) P w base) (2 * (k + 1)) T.fz19 T.dz19 ["one", "two"] (spG (Gof T) (run true fns sub0 whileL (k + 1)) (frOf fns) 4) := by
  refine fn_okX T.tz19 scz19 rfl rfl rfl fun cdv A outer s H E hr => ?_
  have hu := Nat.lt_of_le_of_lt (Nat.add_le_add_left (by decide : 9 ≤ 64) _) hr.units
  have hp := IP.passes_leave (X := cxOf (CXE (Gof T) P w base) P w K mg base nmz19 "have_common_point" (zaab sz19) T.fz19 cdv A outer s H E) rfl
  exact (zaaa (sS_ifs (PW.pt (ptb_or (sT_not (wtr (xcall (ihz30 ih) hr T.mz30 T.kz30 T.bdz30 .nil rfl (wrc (wv 0) (wrc (wv 1) (wrc sV_int sR_nil)))))) (zaay (sT_not (wtr (xcall (ihz30 ih) hr T.mz30 T.kz30 T.bdz30 .nil rfl (wrc (wv 0) (wrc (wv 1) (wrc sV_int sR_nil))))))))) (zaaa (sS_ret sV_bl)
  zaad) zaad)
  (zaaa (sS_ret (sV_and (xcall (ihz25 ih) hr T.mz25 T.kz25 T.bdz25 .nil rfl (wrc (wv 0) (wrc (wv 1) sR_nil))) (wone (xcall (ihz25 ih) hr T.mz25 T.kz25 T.bdz25 .nil rfl (wrc (wv 1) (wrc (wv 0) sR_nil))))))
  zaad))
theorem okz30 (T : Txt K mg) (ih : Ok P w base T k) : FnOk P w K mg base (CXE (Gof T) P w base) (2 * (k + 1)) T.fz30 T.dz30 ["one", "two", "axis"] (spG (Gof T) (run true fns sub0 whileL (k + 1)) (frOf fns) 5) := by
  refine fn_okX T.tz30 scz30 rfl rfl rfl fun cdv A outer s H E hr => ?_
  have hu := Nat.lt_of_le_of_lt (Nat.add_le_add_left (by decide : 9 ≤ 64) _) hr.units
  have hp := IP.passes_leave (X := cxOf (CXE (Gof T) P w base) P w K mg base nmz30 "spans_meet" (zaab sz30) T.fz30 cdv A outer s H E) rfl
  exact (zaaa (qasg ndz30 (wsorted (T.b_sorted) (wlst (wac (wsub (wsub (wv 0) sV_int) (wv 2)) (wac (wsub (wsub (wv 0) sV_int) (wv 2)) sA_nil)))))
  (zaaa (qasg ndz30 (wsorted (T.b_sorted) (wlst (wac (wsub (wsub (wv 1) sV_int) (wv 2)) (wac (wsub (wsub (wv 1) sV_int) (wv 2)) sA_nil)))))
  (zaaa (sS_ret (sV_and (wcv hu .le (wsub (wv 3) sV_int) (wsub (wv 4) sV_int)) (wone (wcv hu .le (wsub (wv 4) sV_int) (wsub (wv 3) sV_int)))))
  zaad)))
theorem okz25 (T : Txt K mg) (ih : Ok P w base T k) : FnOk P w K mg base (CXE (Gof T) P w base) (2 * (k + 1)) T.fz25 T.dz25 ["side", "line"] (spG (Gof T) (run true fns sub0 whileL (k + 1)) (frOf fns) 6) := by
  refine fn_okX T.tz25 scz25 rfl rfl rfl fun cdv A outer s H E hr => ?_
  have hu := Nat.lt_of_le_of_lt (Nat.add_le_add_left (by decide : 9 ≤ 64) _) hr.units
  have hp := IP.passes_leave (X := cxOf (CXE (Gof T) P w base) P w K mg base nmz25 "reaches_across" (zaab sz25) T.fz25 cdv A outer s H E) rfl
  exact (zaaa (sS_ret (wcv hu .le (sV_bin .mul (xcall (ihz34 ih) hr T.mz34 T.kz34 T.bdz34 .nil rfl (wrc (wsub (wv 1) sV_int) (wrc (wsub (wv 1) sV_int) (wrc (wsub (wv 0) sV_int) sR_nil)))) (xcall (ihz34 ih) hr T.mz34 T.kz34 T.bdz34 .nil rfl (wrc (wsub (wv 1) sV_int) (wrc (wsub (wv 1) sV_int) (wrc (wsub (wv 0) sV_int) sR_nil))))) sV_int))
  zaad)
theorem okz34 (T : Txt K mg) (ih : Ok P w base T k) : FnOk P w K mg base (CXE (Gof T) P w base) (2 * (k + 1)) T.fz34 T.dz34 ["start", "one", "two"] (spG (Gof T) (run true fns sub0 whileL (k + 1)) (frOf fns) 7) := by
  refine fn_okX T.tz34 scz34 rfl rfl rfl fun cdv A outer s H E hr => ?_
  have hu := Nat.lt_of_le_of_lt (Nat.add_le_add_left (by decide : 9 ≤ 64) _) hr.units
  have hp := IP.passes_leave (X := cxOf (CXE (Gof T) P w base) P w K mg base nmz34 "turn" (zaab sz34) T.fz34 cdv A outer s H E) rfl
  exact (zaaa (sS_ret (sV_bin .sub (sV_bin .mul (sV_bin .sub (wsub (wv 1) sV_int) (wsub (wv 0) sV_int)) (sV_bin .sub (wsub (wv 2) sV_int) (wsub (wv 0) sV_int))) (sV_bin .mul (sV_bin .sub (wsub (wv 1) sV_int) (wsub (wv 0) sV_int)) (sV_bin .sub (wsub (wv 2) sV_int) (wsub (wv 0) sV_int)))))
  zaad)
theorem okz15 (T : Txt K mg) (ih : Ok P w base T k) : FnOk P w K mg base (CXE (Gof T) P w base) (2 * (k + 1)) T.fz15 T.dz15 ["start", "one", "two"] (spG (Gof T) (run true fns sub0 whileL (k + 1)) (frOf fns) 8) := by
  refine fn_okX T.tz15 scz15 rfl rfl rfl fun cdv A outer s H E hr => ?_
  have hu := Nat.lt_of_le_of_lt (Nat.add_le_add_left (by decide : 9 ≤ 64) _) hr.units
  have hp := IP.passes_leave (X := cxOf (CXE (Gof T) P w base) P w K mg base nmz15 "along" (zaab sz15) T.fz15 cdv A outer s H E) rfl
  exact (zaaa (sS_ret (sV_bin .add (sV_bin .mul (sV_bin .sub (wsub (wv 1) sV_int) (wsub (wv 0) sV_int)) (sV_bin .sub (wsub (wv 2) sV_int) (wsub (wv 0) sV_int))) (sV_bin .mul (sV_bin .sub (wsub (wv 1) sV_int) (wsub (wv 0) sV_int)) (sV_bin .sub (wsub (wv 2) sV_int) (wsub (wv 0) sV_int)))))
  zaad)
theorem okz31 (T : Txt K mg) (ih : Ok P w base T k) : FnOk P w K mg base (CXE (Gof T) P w base) (2 * (k + 1)) T.fz31 T.dz31 ["one", "two"] (spG (Gof T) (run true fns sub0 whileL (k + 1)) (frOf fns) 9) := by
  refine fn_okX T.tz31 scz31 rfl rfl rfl fun cdv A outer s H E hr => ?_
  have hu := Nat.lt_of_le_of_lt (Nat.add_le_add_left (by decide : 9 ≤ 64) _) hr.units
  have hp := IP.passes_leave (X := cxOf (CXE (Gof T) P w base) P w K mg base nmz31 "square" (zaab sz31) T.fz31 cdv A outer s H E) rfl
  exact (zaaa (sS_ret (sV_bin .add (sV_bin .pow (sV_bin .sub (wsub (wv 1) sV_int) (wsub (wv 0) sV_int)) sV_int) (sV_bin .pow (sV_bin .sub (wsub (wv 1) sV_int) (wsub (wv 0) sV_int)) sV_int)))
  zaad)
theorem okz36 (T : Txt K mg) (ih : Ok P w base T k) : FnOk P w K mg base (CXE (Gof T) P w base) (2 * (k + 1)) T.fz36 T.dz36 ["number"] (spG (Gof T) (run true fns sub0 whileL (k + 1)) (frOf fns) 10) := by
  refine fn_okX T.tz36 scz36 rfl rfl rfl fun cdv A outer s H E hr => ?_
  have hu := Nat.lt_of_le_of_lt (Nat.add_le_add_left (by decide : 9 ≤ 64) _) hr.units
  have hp := IP.passes_leave (X := cxOf (CXE (Gof T) P w base) P w K mg base nmz36 "whole_root" (zaab sz36) T.fz36 cdv A outer s H E) rfl
  exact (zaaa (qasg ndz36 (wv 0))
  (zaaa (qasg ndz36 (sV_bin .fdiv (sV_bin .add (wv 0) sV_int) sV_int))
  (zaaa (ywhl hp (wct hu .lt (wv 2) (wv 1)) (zaaa (qasg ndz36 (wv 2))
  (zaaa (qasg ndz36 (sV_bin .fdiv (sV_bin .add (wv 1) (sV_bin .fdiv (wv 0) (wv 1))) sV_int))
  zaad)))
  (zaaa (sS_ret (wv 1))
  zaad))))
theorem okz21 (T : Txt K mg) (ih : Ok P w base T k) : FnOk P w K mg base (CXE (Gof T) P w base) (2 * (k + 1)) T.fz21 T.dz21 ["part", "whole"] (spG (Gof T) (run true fns sub0 whileL (k + 1)) (frOf fns) 11) := by
  refine fn_okX T.tz21 scz21 rfl rfl rfl fun cdv A outer s H E hr => ?_
  have hu := Nat.lt_of_le_of_lt (Nat.add_le_add_left (by decide : 9 ≤ 64) _) hr.units
  have hp := IP.passes_leave (X := cxOf (CXE (Gof T) P w base) P w K mg base nmz21 "lowest_terms" (zaab sz21) T.fz21 cdv A outer s H E) rfl
  exact (zaaa (qasg ndz21 (xcall (ihz18 ih) hr T.mz18 T.kz18 T.bdz18 .nil rfl (wrc (wabs (T.b_abs) (wv 0)) (wrc (wv 1) sR_nil))))
  (zaaa (sS_ret (wtup (wac (sV_bin .fdiv (wv 0) (wv 2)) (wac (sV_bin .fdiv (wv 1) (wv 2)) sA_nil))))
  zaad))
theorem okz18 (T : Txt K mg) (ih : Ok P w base T k) : FnOk P w K mg base (CXE (Gof T) P w base) (2 * (k + 1)) T.fz18 T.dz18 ["one", "two"] (spG (Gof T) (run true fns sub0 whileL (k + 1)) (frOf fns) 12) := by
  refine fn_okX T.tz18 scz18 rfl rfl rfl fun cdv A outer s H E hr => ?_
  have hu := Nat.lt_of_le_of_lt (Nat.add_le_add_left (by decide : 9 ≤ 64) _) hr.units
  have hp := IP.passes_leave (X := cxOf (CXE (Gof T) P w base) P w K mg base nmz18 "greatest_divisor" (zaab sz18) T.fz18 cdv A outer s H E) rfl
  exact (zaaa (ywhl hp (wct hu .ne (wv 1) sV_int) (zaaa (qasg ndz18 (sV_bin .mod (wv 0) (wv 1)))
  (zaaa (qasg ndz18 (wv 1))
  (zaaa (qasg ndz18 (wv 2))
  zaad))))
  (zaaa (sS_ret (wv 0))
  zaad))
theorem okz23 (T : Txt K mg) (ih : Ok P w base T k) : FnOk P w K mg base (CXE (Gof T) P w base) (2 * (k + 1)) T.fz23 T.dz23 ["corners", "breadth"] (spG (Gof T) (run true fns sub0 whileL (k + 1)) (frOf fns) 13) := by
  refine fn_okX T.tz23 scz23 rfl rfl rfl fun cdv A outer s H E hr => ?_
  have hu := Nat.lt_of_le_of_lt (Nat.add_le_add_left (by decide : 9 ≤ 64) _) hr.units
  have hp := IP.passes_leave (X := cxOf (CXE (Gof T) P w base) P w K mg base nmz23 "outline" (zaab sz23) T.fz23 cdv A outer s H E) rfl
  exact (zaaa (sS_ifs (wct hu .notN (xcall (ihz17 ih) hr T.mz17 T.kz17 T.bdz17 .nil rfl (wrc (wv 0) sR_nil)) sV_non) (zaaa (yraise (emz0 T) (eqz0 T))
  zaad) zaad)
  (zaaa (qasg ndz23 (xcall (ihz27 ih) hr T.mz27 T.kz27 T.bdz27 .nil rfl (wrc (wv 0) sR_nil)))
  (zaaa (by first | exact zaa4 (fun _ _ _ _ h => zaa9 h) (zace (f := fun σ st => one (ev (cfX fns sub0 k) zad4 .v σ st)) rfl (zaaz (sc := (zaab sz23).names) (N := nmz23) (N' := zac5) rfl rfl rfl rfl (by decide +kernel)) (by decide) (wr1 (T.b_range) (wlen (T.b_len) (wv 0))) (fun _ _ _ _ => (wg1 zaf3)) (fun _ _ _ _ => zaa6 (xcall (ihz24 ih) hr T.mz24 T.kz24 T.bdz24 .nil rfl (wrc (wv 0) (wrc (wv 4) (wrc (wv 2) sR_nil)))) rfl) (fun _ => rfl) (fun _ _ _ _ => zaar _ _ _) (fun _ _ => rfl) rfl ndz23 rfl rfl) | exact qasg ndz23 (sV_of (zabr (f := fun σ st => one (ev (cfX fns sub0 k) zad4 .v σ st)) rfl (zaaz (sc := (zaab sz23).names) (N := nmz23) (N' := zac5) rfl rfl rfl rfl (by decide +kernel)) (by decide) (wr1 (T.b_range) (wlen (T.b_len) (wv 0))) (fun _ _ _ _ => (wg1 zaf3)) (fun _ _ _ _ => zaa6 (xcall (ihz24 ih) hr T.mz24 T.kz24 T.bdz24 .nil rfl (wrc (wv 0) (wrc (wv 4) (wrc (wv 2) sR_nil)))) rfl) (fun _ => rfl) (fun _ _ _ _ => zaar _ _ _) (fun _ _ => rfl)) fun _ _ _ _ h => zaa9 h))
  (zaaa (sS_ret (sV_of (zabr (f := fun σ st => one (ev (cfX fns sub0 k) zafz .v σ st)) rfl (zaaz (sc := (zaab sz23).names) (N := nmz23) (N' := zafw) rfl rfl rfl rfl (by decide +kernel)) (by decide) (wr1 (T.b_range) (wlen (T.b_len) (wv 0))) (fun _ _ _ _ => (wg1 ndz23_c1)) (fun _ _ _ _ => zaa6 (xcall (ihz20 ih) hr T.mz20 T.kz20 T.bdz20 .nil rfl (wrc (wsub (wv 0) (wv 5)) (wrc (wsub (wv 3) (sV_bin .sub (wv 5) sV_int)) (wrc (wsub (wv 3) (wv 5)) (wrc (wv 1) sR_nil))))) rfl) (fun _ => rfl) (fun _ _ _ _ => zaar _ _ _) (fun _ _ => rfl)) fun _ _ _ _ h => zaa9 h))
  zaad))))
theorem okz27 (T : Txt K mg) (ih : Ok P w base T k) : FnOk P w K mg base (CXE (Gof T) P w base) (2 * (k + 1)) T.fz27 T.dz27 ["corners"] (spG (Gof T) (run true fns sub0 whileL (k + 1)) (frOf fns) 14) := by
  refine fn_okX T.tz27 scz27 rfl rfl rfl fun cdv A outer s H E hr => ?_
  have hu := Nat.lt_of_le_of_lt (Nat.add_le_add_left (by decide : 9 ≤ 64) _) hr.units
  have hp := IP.passes_leave (X := cxOf (CXE (Gof T) P w base) P w K mg base nmz27 "runs_leftward" (zaab sz27) T.fz27 cdv A outer s H E) rfl
  exact (zaaa (qasg ndz27 sV_int)
  (zaaa (yenm hp (T.b_enumerate) (wv 0) (wgm (wgc ndz27 (wgc ndz27 sG_nil))) (zaaa (qasg ndz27 (wsub (wv 0) (sV_bin .sub (wv 2) sV_int)))
  (zaaa (qasg ndz27 (sV_bin .sub (sV_bin .add (wv 1) (sV_bin .mul (wsub (wv 4) sV_int) (wsub (wv 3) sV_int))) (sV_bin .mul (wsub (wv 4) sV_int) (wsub (wv 3) sV_int))))
  zaad)))
  (zaaa (sS_ret (wcv hu .gt (wv 1) sV_int))
  zaad)))
theorem okz24 (T : Txt K mg) (ih : Ok P w base T k) : FnOk P w K mg base (CXE (Gof T) P w base) (2 * (k + 1)) T.fz24 T.dz24 ["corners", "k", "leftward"] (spG (Gof T) (run true fns sub0 whileL (k + 1)) (frOf fns) 15) := by
  refine fn_okX T.tz24 scz24 rfl rfl rfl fun cdv A outer s H E hr => ?_
  have hu := Nat.lt_of_le_of_lt (Nat.add_le_add_left (by decide : 9 ≤ 64) _) hr.units
  have hp := IP.passes_leave (X := cxOf (CXE (Gof T) P w base) P w K mg base nmz24 "outward_vector" (zaab sz24) T.fz24 cdv A outer s H E) rfl
  exact (zaaa (qasg ndz24 (xcall (ihz28 ih) hr T.mz28 T.kz28 T.bdz28 .nil rfl (wrc (wv 0) (wrc (wv 1) sR_nil))))
  (zaaa (qasg ndz24 (sV_bin .sub (wsub (wsub (wv 3) sV_int) sV_int) (wsub (wsub (wv 3) sV_int) sV_int)))
  (zaaa (qasg ndz24 (sV_bin .sub (wsub (wsub (wv 3) sV_int) sV_int) (wsub (wsub (wv 3) sV_int) sV_int)))
  (zaaa (qasg ndz24 (xcall (ihz18 ih) hr T.mz18 T.kz18 T.bdz18 .nil rfl (wrc (wabs (T.b_abs) (wv 4)) (wrc (wabs (T.b_abs) (wv 5)) sR_nil))))
  (zaaa (qasg ndz24 (sV_bin .fdiv (wv 4) (wv 6)))
  (zaaa (qasg ndz24 (sV_bin .fdiv (wv 5) (wv 6)))
  (zaaa (sS_ret (sV_ife (wtr (wv 2)) (wtup (wac (wv 8) (wac (sV_neg (wv 7)) sA_nil))) (wtup (wac (sV_neg (wv 8)) (wac (wv 7) sA_nil)))))
  zaad)))))))
theorem okz20 (T : Txt K mg) (ih : Ok P w base T k) : FnOk P w K mg base (CXE (Gof T) P w base) (2 * (k + 1)) T.fz20 T.dz20 ["corner", "before", "after", "breadth"] (spG (Gof T) (run true fns sub0 whileL (k + 1)) (frOf fns) 16) := by
  refine fn_okX T.tz20 scz20 rfl rfl rfl fun cdv A outer s H E hr => ?_
  have hu := Nat.lt_of_le_of_lt (Nat.add_le_add_left (by decide : 9 ≤ 64) _) hr.units
  have hp := IP.passes_leave (X := cxOf (CXE (Gof T) P w base) P w K mg base nmz20 "hem_corner" (zaab sz20) T.fz20 cdv A outer s H E) rfl
  exact (zaaa (qasg ndz20 (sV_bin .sub (sV_bin .mul (wsub (wv 1) sV_int) (wsub (wv 2) sV_int)) (sV_bin .mul (wsub (wv 1) sV_int) (wsub (wv 2) sV_int))))
  (zaaa (sS_ifs (wct hu .eq (wv 4) sV_int) (zaaa (sS_ret (xcall (ihz16 ih) hr T.mz16 T.kz16 T.bdz16 .nil rfl (wrc (wv 0) (wrc (wv 2) (wrc (wv 3) sR_nil)))))
  zaad) zaad)
  (zaaa (sS_ret (xcall (ihz35 ih) hr T.mz35 T.kz35 T.bdz35 .nil rfl (wrc (wv 0) (wrc (wv 1) (wrc (wv 2) (wrc (wv 4) (wrc (wv 3) sR_nil)))))))
  zaad)))
theorem okz16 (T : Txt K mg) (ih : Ok P w base T k) : FnOk P w K mg base (CXE (Gof T) P w base) (2 * (k + 1)) T.fz16 T.dz16 ["corner", "vector", "breadth"] (spG (Gof T) (run true fns sub0 whileL (k + 1)) (frOf fns) 17) := by
  refine fn_okX T.tz16 scz16 rfl rfl rfl fun cdv A outer s H E hr => ?_
  have hu := Nat.lt_of_le_of_lt (Nat.add_le_add_left (by decide : 9 ≤ 64) _) hr.units
  have hp := IP.passes_leave (X := cxOf (CXE (Gof T) P w base) P w K mg base nmz16 "beside" (zaab sz16) T.fz16 cdv A outer s H E) rfl
  exact (zaaa (qasg ndz16 (xcall (ihz33 ih) hr T.mz33 T.kz33 T.bdz33 .nil rfl (wrc (wv 1) sR_nil)))
  (zaaa (qasg ndz16 (sV_bin .mul (sV_bin .mul sV_int (wv 2)) (wsub (wv 1) sV_int)))
  (zaaa (qasg ndz16 (sV_bin .mul (sV_bin .mul sV_int (wv 2)) (wsub (wv 1) sV_int)))
  (zaaa (sS_ret (wtup (wac (xcall (ihz22 ih) hr T.mz22 T.kz22 T.bdz22 .nil rfl (wrc (wsub (wv 0) sV_int) (wrc (wv 4) (wrc (wv 3) sR_nil)))) (wac (xcall (ihz22 ih) hr T.mz22 T.kz22 T.bdz22 .nil rfl (wrc (wsub (wv 0) sV_int) (wrc (wv 5) (wrc (wv 3) sR_nil)))) sA_nil))))
  zaad))))
theorem okz35 (T : Txt K mg) (ih : Ok P w base T k) : FnOk P w K mg base (CXE (Gof T) P w base) (2 * (k + 1)) T.fz35 T.dz35 ["corner", "before", "after", "cut", "breadth"] (spG (Gof T) (run true fns sub0 whileL (k + 1)) (frOf fns) 18) := by
  refine fn_okX T.tz35 scz35 rfl rfl rfl fun cdv A outer s H E hr => ?_
  have hu := Nat.lt_of_le_of_lt (Nat.add_le_add_left (by decide : 9 ≤ 64) _) hr.units
  have hp := IP.passes_leave (X := cxOf (CXE (Gof T) P w base) P w K mg base nmz35 "where_they_cut" (zaab sz35) T.fz35 cdv A outer s H E) rfl
  exact (zaaa (qasg ndz35 (xcall (ihz33 ih) hr T.mz33 T.kz33 T.bdz33 .nil rfl (wrc (wv 1) sR_nil)))
  (zaaa (qasg ndz35 (xcall (ihz33 ih) hr T.mz33 T.kz33 T.bdz33 .nil rfl (wrc (wv 2) sR_nil)))
  (zaaa (qasg ndz35 (sV_bin .mul (sV_bin .mul (sV_bin .mul sV_int (wv 4)) (xcall (ihz32 ih) hr T.mz32 T.kz32 T.bdz32 .nil rfl (wrc (wv 1) sR_nil))) (wv 6)))
  (zaaa (qasg ndz35 (sV_bin .mul (sV_bin .mul (sV_bin .mul sV_int (wv 4)) (xcall (ihz32 ih) hr T.mz32 T.kz32 T.bdz32 .nil rfl (wrc (wv 2) sR_nil))) (wv 5)))
  (zaaa (qasg ndz35 (sV_bin .sub (sV_bin .mul (wv 7) (wsub (wv 2) sV_int)) (sV_bin .mul (wv 8) (wsub (wv 1) sV_int))))
  (zaaa (qasg ndz35 (sV_bin .sub (sV_bin .mul (wv 8) (wsub (wv 1) sV_int)) (sV_bin .mul (wv 7) (wsub (wv 2) sV_int))))
  (zaaa (qasg ndz35 (sV_bin .mul (sV_bin .mul (wv 3) (wv 5)) (wv 6)))
  (zaaa (sS_ret (wtup (wac (xcall (ihz22 ih) hr T.mz22 T.kz22 T.bdz22 .nil rfl (wrc (wsub (wv 0) sV_int) (wrc (wv 9) (wrc (wv 11) sR_nil)))) (wac (xcall (ihz22 ih) hr T.mz22 T.kz22 T.bdz22 .nil rfl (wrc (wsub (wv 0) sV_int) (wrc (wv 10) (wrc (wv 11) sR_nil)))) sA_nil))))
  zaad))))))))
theorem okz32 (T : Txt K mg) (ih : Ok P w base T k) : FnOk P w K mg base (CXE (Gof T) P w base) (2 * (k + 1)) T.fz32 T.dz32 ["vector"] (spG (Gof T) (run true fns sub0 whileL (k + 1)) (frOf fns) 19) := by
  refine fn_okX T.tz32 scz32 rfl rfl rfl fun cdv A outer s H E hr => ?_
  have hu := Nat.lt_of_le_of_lt (Nat.add_le_add_left (by decide : 9 ≤ 64) _) hr.units
  have hp := IP.passes_leave (X := cxOf (CXE (Gof T) P w base) P w K mg base nmz32 "square_of" (zaab sz32) T.fz32 cdv A outer s H E) rfl
  exact (zaaa (sS_ret (xcall (ihz31 ih) hr T.mz31 T.kz31 T.bdz31 .nil rfl (wrc (wtup (wac sV_int (wac sV_int sA_nil))) (wrc (wv 0) sR_nil))))
  zaad)
theorem okz33 (T : Txt K mg) (ih : Ok P w base T k) : FnOk P w K mg base (CXE (Gof T) P w base) (2 * (k + 1)) T.fz33 T.dz33 ["vector"] (spG (Gof T) (run true fns sub0 whileL (k + 1)) (frOf fns) 20) := by
  refine fn_okX T.tz33 scz33 rfl rfl rfl fun cdv A outer s H E hr => ?_
  have hu := Nat.lt_of_le_of_lt (Nat.add_le_add_left (by decide : 9 ≤ 64) _) hr.units
  have hp := IP.passes_leave (X := cxOf (CXE (Gof T) P w base) P w K mg base nmz33 "thousandfold_length" (zaab sz33) T.fz33 cdv A outer s H E) rfl
  exact (zaaa (sS_ret (xcall (ihz36 ih) hr T.mz36 T.kz36 T.bdz36 .nil rfl (wrc (sV_bin .mul sV_int (xcall (ihz32 ih) hr T.mz32 T.kz32 T.bdz32 .nil rfl (wrc (wv 0) sR_nil))) sR_nil)))
  zaad)
theorem okz22 (T : Txt K mg) (ih : Ok P w base T k) : FnOk P w K mg base (CXE (Gof T) P w base) (2 * (k + 1)) T.fz22 T.dz22 ["number", "part", "whole"] (spG (Gof T) (run true fns sub0 whileL (k + 1)) (frOf fns) 21) := by
  refine fn_okX T.tz22 scz22 rfl rfl rfl fun cdv A outer s H E hr => ?_
  have hu := Nat.lt_of_le_of_lt (Nat.add_le_add_left (by decide : 9 ≤ 64) _) hr.units
  have hp := IP.passes_leave (X := cxOf (CXE (Gof T) P w base) P w K mg base nmz22 "moved_number" (zaab sz22) T.fz22 cdv A outer s H E) rfl
  exact (zaaa (sS_ifs (wct hu .lt (wv 2) sV_int) (zaaa (sS_ret (xcall (ihz22 ih) hr T.mz22 T.kz22 T.bdz22 .nil rfl (wrc (wv 0) (wrc (sV_neg (wv 1)) (wrc (sV_neg (wv 2)) sR_nil)))))
  zaad) zaad)
  (zaaa (sS_ret (xcall (ihz21 ih) hr T.mz21 T.kz21 T.bdz21 .nil rfl (wrc (sV_bin .add (sV_bin .mul (wv 0) (wv 2)) (wv 1)) (wrc (wv 2) sR_nil))))
  zaad))
theorem okz14 (T : Txt K mg) (ih : Ok P w base T k) : FnOk P w K mg base (CXE (Gof T) P w base) (2 * (k + 1)) T.fz14 T.dz14 ["_law_found"] (spG (Gof T) (run true fns sub0 whileL (k + 1)) (frOf fns) 22) := by
  refine fn_okX T.tz14 scz14 rfl rfl rfl fun cdv A outer s H E hr => ?_
  have hu := Nat.lt_of_le_of_lt (Nat.add_le_add_left (by decide : 9 ≤ 64) _) hr.units
  have hp := IP.passes_leave (X := cxOf (CXE (Gof T) P w base) P w K mg base nmz14 "_law_whole" (zaab sz14) T.fz14 cdv A outer s H E) rfl
  exact (zaaa (sS_ret (sV_and (wisi .int (T.b_isinstance) (T.b_int) (wv 0)) (wone (sV_not (wisi .bool (T.b_isinstance) (T.b_bool) (wv 0))))))
  zaad)
theorem okz2 (T : Txt K mg) (ih : Ok P w base T k) : FnOk P w K mg base (CXE (Gof T) P w base) (2 * (k + 1)) T.fz2 T.dz2 ["_law_script", "_law_k"] (spG (Gof T) (run true fns sub0 whileL (k + 1)) (frOf fns) 23) := by
  refine fn_okX T.tz2 scz2 rfl rfl rfl fun cdv A outer s H E hr => ?_
  have hu := Nat.lt_of_le_of_lt (Nat.add_le_add_left (by decide : 9 ≤ 64) _) hr.units
  have hp := IP.passes_leave (X := cxOf (CXE (Gof T) P w base) P w K mg base nmz2 "_law_at" (zaab sz2) T.fz2 cdv A outer s H E) rfl
  exact (zaaa (sS_ifs (wct hu .lt (wv 1) (wlen (T.b_len) (wv 0))) (zaaa (sS_ret (wsub (wv 0) (wv 1)))
  zaad) zaad)
  (zaaa (sS_ret sV_int)
  zaad))
theorem okz9 (T : Txt K mg) (ih : Ok P w base T k) : FnOk P w K mg base (CXE (Gof T) P w base) (2 * (k + 1)) T.fz9 T.dz9 ["_law_script", "_law_many"] (spG (Gof T) (run true fns sub0 whileL (k + 1)) (frOf fns) 24) := by
  refine fn_okX T.tz9 scz9 rfl rfl rfl fun cdv A outer s H E hr => ?_
  have hu := Nat.lt_of_le_of_lt (Nat.add_le_add_left (by decide : 9 ≤ 64) _) hr.units
  have hp := IP.passes_leave (X := cxOf (CXE (Gof T) P w base) P w K mg base nmz9 "_law_stir" (zaab sz9) T.fz9 cdv A outer s H E) rfl
  exact (zaaa (qasg ndz9 sV_int)
  (zaaa (qmk ndz9 (wlstO sA_nil))
  (zaaa (yfor hp (wr1 (T.b_range) (wv 1)) (wg1 ndz9) (zaaa (qasg ndz9 (sV_bin .mod (sV_bin .add (sV_bin .add (sV_bin .mul (wv 2) sV_int) (xcall (ihz2 ih) hr T.mz2 T.kz2 T.bdz2 .nil rfl (wrc (wv 0) (wrc (wv 4) sR_nil)))) sV_int) sV_int))
  (zaaa (qapp (i := 3) (wv 2))
  zaad)))
  (zafm (zaaa (sS_ret (wv 3))
  zaad)))))
theorem okz4 (T : Txt K mg) (ih : Ok P w base T k) : FnOk P w K mg base (CXE (Gof T) P w base) (2 * (k + 1)) T.fz4 T.dz4 ["_law_one", "_law_two"] (spG (Gof T) (run true fns sub0 whileL (k + 1)) (frOf fns) 25) := by
  refine fn_okX T.tz4 scz4 rfl rfl rfl fun cdv A outer s H E hr => ?_
  have hu := Nat.lt_of_le_of_lt (Nat.add_le_add_left (by decide : 9 ≤ 64) _) hr.units
  have hp := IP.passes_leave (X := cxOf (CXE (Gof T) P w base) P w K mg base nmz4 "_law_gcd" (zaab sz4) T.fz4 cdv A outer s H E) rfl
  exact (zaaa (qasg ndz4 (wabs (T.b_abs) (wv 0)))
  (zaaa (qasg ndz4 (wabs (T.b_abs) (wv 1)))
  (zaaa (ywhl hp (wct hu .gt (wv 3) sV_int) (zaaa (qasg ndz4 (sV_bin .mod (wv 2) (wv 3)))
  (zaaa (qasg ndz4 (wv 3))
  (zaaa (qasg ndz4 (wv 4))
  zaad))))
  (zaaa (sS_ret (wv 2))
  zaad))))
theorem okz11 (T : Txt K mg) (ih : Ok P w base T k) : FnOk P w K mg base (CXE (Gof T) P w base) (2 * (k + 1)) T.fz11 T.dz11 ["_law_row", "_law_at_here", "_law_many"] (spG (Gof T) (run true fns sub0 whileL (k + 1)) (frOf fns) 26) := by
  refine fn_okX T.tz11 scz11 rfl rfl rfl fun cdv A outer s H E hr => ?_
  have hu := Nat.lt_of_le_of_lt (Nat.add_le_add_left (by decide : 9 ≤ 64) _) hr.units
  have hp := IP.passes_leave (X := cxOf (CXE (Gof T) P w base) P w K mg base nmz11 "_law_strides" (zaab sz11) T.fz11 cdv A outer s H E) rfl
  exact (zaaa (qmk ndz11 (wlstO (wac sV_int sA_nil)))
  (zaaa (yfor hp (wr1 (T.b_range) (sV_bin .sub (wv 2) sV_int)) (wg1 ndz11) (zaaa (qapp (i := 3) (sV_bin .add (sV_bin .add (wsub (wv 3) (sV_neg sV_int)) sV_int) (sV_bin .mod (wsub (wv 0) (sV_bin .add (wv 1) (wv 4))) sV_int)))
  zaad))
  (zafm (zaaa (sS_ret (wv 3))
  zaad))))
theorem okz8 (T : Txt K mg) (ih : Ok P w base T k) : FnOk P w K mg base (CXE (Gof T) P w base) (2 * (k + 1)) T.fz8 T.dz8 ["_law_row", "_law_many"] (spG (Gof T) (run true fns sub0 whileL (k + 1)) (frOf fns) 27) := by
  refine fn_okX T.tz8 scz8 rfl rfl rfl fun cdv A outer s H E hr => ?_
  have hu := Nat.lt_of_le_of_lt (Nat.add_le_add_left (by decide : 9 ≤ 64) _) hr.units
  have hp := IP.passes_leave (X := cxOf (CXE (Gof T) P w base) P w K mg base nmz8 "_law_simple" (zaab sz8) T.fz8 cdv A outer s H E) rfl
  exact (zaaa (qasg ndz8 sV_int)
  (zaaa (sS_ifs (wct hu .gt (wv 1) sV_int) (zaaa (qasg ndz8 (sV_bin .add sV_int (sV_bin .mod (wsub (wv 0) sV_int) (sV_bin .sub (wv 1) sV_int))))
  zaad) zaad)
  (zaaa (qasg ndz8 (sV_bin .sub (wv 1) (wv 2)))
  (zaaa (qasg ndz8 (wsub (wlst (wac sV_int (wac sV_int (wac sV_int (wac sV_int sA_nil))))) (sV_bin .mod (wsub (wv 0) sV_int) sV_int)))
  (zaaa (qasg ndz8 (xcall (ihz11 ih) hr T.mz11 T.kz11 T.bdz11 .nil rfl (wrc (wv 0) (wrc sV_int (wrc (wv 2) sR_nil)))))
  (zaaa (qasg ndz8 (xcall (ihz11 ih) hr T.mz11 T.kz11 T.bdz11 .nil rfl (wrc (wv 0) (wrc (sV_bin .add sV_int (wv 2)) (wrc (wv 3) sR_nil)))))
  (zaaa (qmk ndz8 (wlstO sA_nil))
  (zaaa (yfor hp (wr1 (T.b_range) (wv 2)) (wg1 ndz8) (zaaa (qapp (i := 7) (wtup (wac (sV_bin .mul (wsub (wv 5) (wv 8)) (wmax2 (T.b_max) sV_int (wsub (wv 6) (sV_neg sV_int)))) (wac (sV_bin .sub (sV_neg sV_int) (sV_bin .mod (wsub (wv 0) (sV_bin .add sV_int (wv 8))) (wv 4))) sA_nil))))
  zaad))
  (zaaa (yfor hp (wr1 (T.b_range) (wv 3)) (wg1 ndz8) (zaaa (qapp (i := 7) (wtup (wac (sV_bin .mul (wsub (wv 6) (sV_bin .sub (sV_bin .sub (wv 3) sV_int) (wv 8))) (wsub (wv 5) (sV_neg sV_int))) (wac (sV_bin .add sV_int (sV_bin .mod (wsub (wv 0) (sV_bin .add (sV_bin .add sV_int (wv 2)) (wv 8))) (wv 4))) sA_nil))))
  zaad))
  (zafm (zaaa (sS_ret (wv 7))
  zaad)))))))))))
theorem okz12 (T : Txt K mg) (ih : Ok P w base T k) : FnOk P w K mg base (CXE (Gof T) P w base) (2 * (k + 1)) T.fz12 T.dz12 ["_law_line", "_law_cell"] (spG (Gof T) (run true fns sub0 whileL (k + 1)) (frOf fns) 28) := by
  refine fn_okX T.tz12 scz12 rfl rfl rfl fun cdv A outer s H E hr => ?_
  have hu := Nat.lt_of_le_of_lt (Nat.add_le_add_left (by decide : 9 ≤ 64) _) hr.units
  have hp := IP.passes_leave (X := cxOf (CXE (Gof T) P w base) P w K mg base nmz12 "_law_swung" (zaab sz12) T.fz12 cdv A outer s H E) rfl
  exact (zaaa (qasg ndz12 (sV_bin .sub (sV_bin .mod (wv 1) sV_int) sV_int))
  (zaaa (by first | exact zaa4 (fun _ _ _ _ h => zaa9 h) (zace (f := fun σ st => one (ev (cfX fns sub0 k) zad0 .v σ st)) rfl (zaaz (sc := (zaab sz12).names) (N := nmz12) (N' := zada) rfl rfl rfl rfl (by decide +kernel)) (by decide) (wpl (wv 0)) (fun _ _ _ _ => (wgm (wgc zaci (wgc zaci sG_nil)))) (fun _ _ _ _ => zaa6 (wtup (wac (sV_bin .add (wv 5) (sV_bin .mul (wv 2) (wv 6))) (wac (wv 6) sA_nil))) rfl) (fun _ => rfl) (fun _ _ _ _ => zaar _ _ _) (fun _ _ => rfl) rfl ndz12 rfl rfl) | exact qasg ndz12 (sV_of (zabr (f := fun σ st => one (ev (cfX fns sub0 k) zad0 .v σ st)) rfl (zaaz (sc := (zaab sz12).names) (N := nmz12) (N' := zada) rfl rfl rfl rfl (by decide +kernel)) (by decide) (wpl (wv 0)) (fun _ _ _ _ => (wgm (wgc zaci (wgc zaci sG_nil)))) (fun _ _ _ _ => zaa6 (wtup (wac (sV_bin .add (wv 5) (sV_bin .mul (wv 2) (wv 6))) (wac (wv 6) sA_nil))) rfl) (fun _ => rfl) (fun _ _ _ _ => zaar _ _ _) (fun _ _ => rfl)) fun _ _ _ _ h => zaa9 h))
  (zaaa (sS_ifs (wct hu .eq (sV_bin .mod (sV_bin .fdiv (wv 1) sV_int) sV_int) sV_int) (zaaa (by first | exact zaa4 (fun _ _ _ _ h => zaa9 h) (zace (f := fun σ st => one (ev (cfX fns sub0 k) zacm .v σ st)) rfl (zaaz (sc := (zaab sz12).names) (N := nmz12) (N' := zadb) rfl rfl rfl rfl (by decide +kernel)) (by decide) (wpl (wv 3)) (fun _ _ _ _ => (wgm (wgc zaca (wgc zaca sG_nil)))) (fun _ _ _ _ => zaa6 (wtup (wac (sV_bin .sub sV_int (wv 8)) (wac (wv 7) sA_nil))) rfl) (fun _ => rfl) (fun _ _ _ _ => zaar _ _ _) (fun _ _ => rfl) rfl ndz12 rfl rfl) | exact qasg ndz12 (sV_of (zabr (f := fun σ st => one (ev (cfX fns sub0 k) zacm .v σ st)) rfl (zaaz (sc := (zaab sz12).names) (N := nmz12) (N' := zadb) rfl rfl rfl rfl (by decide +kernel)) (by decide) (wpl (wv 3)) (fun _ _ _ _ => (wgm (wgc zaca (wgc zaca sG_nil)))) (fun _ _ _ _ => zaa6 (wtup (wac (sV_bin .sub sV_int (wv 8)) (wac (wv 7) sA_nil))) rfl) (fun _ => rfl) (fun _ _ _ _ => zaar _ _ _) (fun _ _ => rfl)) fun _ _ _ _ h => zaa9 h))
  zaad) zaad)
  (zaaa (sS_ifs (wct hu .eq (sV_bin .mod (sV_bin .fdiv (wv 1) sV_int) sV_int) sV_int) (zaaa (qasg ndz12 (sV_of (sO_rev (wv 3)) fun _ _ _ _ h => rev_is h))
  zaad) zaad)
  (zaaa (qasg ndz12 (sV_bin .mod (sV_bin .fdiv (wv 1) sV_int) (wlen (T.b_len) (wv 3))))
  (zaaa (sS_ret (sV_bin .add (sV_cutL (wv 3) (wv 4)) (sV_cutU (wv 3) (wv 4))))
  zaad))))))
theorem okz7 (T : Txt K mg) (ih : Ok P w base T k) : FnOk P w K mg base (CXE (Gof T) P w base) (2 * (k + 1)) T.fz7 T.dz7 ["_law_number"] (spG (Gof T) (run true fns sub0 whileL (k + 1)) (frOf fns) 29) := by
  refine fn_okX T.tz7 scz7 rfl rfl rfl fun cdv A outer s H E hr => ?_
  have hu := Nat.lt_of_le_of_lt (Nat.add_le_add_left (by decide : 9 ≤ 64) _) hr.units
  have hp := IP.passes_leave (X := cxOf (CXE (Gof T) P w base) P w K mg base nmz7 "_law_root" (zaab sz7) T.fz7 cdv A outer s H E) rfl
  exact (zaaa (qasg ndz7 sV_int)
  (zaaa (qasg ndz7 sV_int)
  (zaaa (ywhl hp (wct hu .le (sV_bin .mul (wv 2) (wv 2)) (wv 0)) (zaaa (qasg ndz7 (sV_bin .mul (wv 2) sV_int))
  zaad))
  (zaaa (ywhl hp (wct hu .gt (wv 2) sV_int) (zaaa (sS_ifs (wct hu .le (sV_bin .mul (sV_bin .add (wv 1) (wv 2)) (sV_bin .add (wv 1) (wv 2))) (wv 0)) (zaaa (qasg ndz7 (sV_bin .add (wv 1) (wv 2)))
  zaad) zaad)
  (zaaa (qasg ndz7 (sV_bin .fdiv (wv 2) sV_int))
  zaad)))
  (zaaa (sS_ret (wv 1))
  zaad)))))
theorem okz13 (T : Txt K mg) (ih : Ok P w base T k) : FnOk P w K mg base (CXE (Gof T) P w base) (2 * (k + 1)) T.fz13 T.dz13 ["_law_line"] (spG (Gof T) (run true fns sub0 whileL (k + 1)) (frOf fns) 30) := by
  refine fn_okX T.tz13 scz13 rfl rfl rfl fun cdv A outer s H E hr => ?_
  have hu := Nat.lt_of_le_of_lt (Nat.add_le_add_left (by decide : 9 ≤ 64) _) hr.units
  have hp := IP.passes_leave (X := cxOf (CXE (Gof T) P w base) P w K mg base nmz13 "_law_twice" (zaab sz13) T.fz13 cdv A outer s H E) rfl
  exact (zaaa (qasg ndz13 sV_int)
  (zaaa (yfor hp (wr1 (T.b_range) (wlen (T.b_len) (wv 0))) (wg1 ndz13) (zaaa (qasg ndz13 (wsub (wv 0) (sV_bin .sub (wv 2) sV_int)))
  (zaaa (qasg ndz13 (wsub (wv 0) (wv 2)))
  (zaaa (qasg ndz13 (sV_bin .sub (sV_bin .add (wv 1) (sV_bin .mul (wsub (wv 3) sV_int) (wsub (wv 4) sV_int))) (sV_bin .mul (wsub (wv 3) sV_int) (wsub (wv 4) sV_int))))
  zaad))))
  (zaaa (sS_ret (wv 1))
  zaad)))
theorem okz3 (T : Txt K mg) (ih : Ok P w base T k) : FnOk P w K mg base (CXE (Gof T) P w base) (2 * (k + 1)) T.fz3 T.dz3 ["_law_found"] (spG (Gof T) (run true fns sub0 whileL (k + 1)) (frOf fns) 31) := by
  refine fn_okX T.tz3 scz3 rfl rfl rfl fun cdv A outer s H E hr => ?_
  have hu := Nat.lt_of_le_of_lt (Nat.add_le_add_left (by decide : 9 ≤ 64) _) hr.units
  have hp := IP.passes_leave (X := cxOf (CXE (Gof T) P w base) P w K mg base nmz3 "_law_fraction" (zaab sz3) T.fz3 cdv A outer s H E) rfl
  exact (zaaa (sS_ifs (PW.pt (ptb_or (sT_not (wtr (wisi .tuple (T.b_isinstance) (T.b_tuple) (wv 0)))) (zaay (wct hu .ne (wlen (T.b_len) (wv 0)) sV_int)))) (zaaa (sS_ret sV_bl)
  zaad) zaad)
  (zaaa (sS_ifs (PW.pt (ptb_or (sT_not (wtr (xcall (ihz14 ih) hr T.mz14 T.kz14 T.bdz14 .nil rfl (wrc (wsub (wv 0) sV_int) sR_nil)))) (ptb_or (sT_not (wtr (xcall (ihz14 ih) hr T.mz14 T.kz14 T.bdz14 .nil rfl (wrc (wsub (wv 0) sV_int) sR_nil)))) (zaay (wct hu .lt (wsub (wv 0) sV_int) sV_int))))) (zaaa (sS_ret sV_bl)
  zaad) zaad)
  (zaaa (sS_ret (wcv hu .eq (xcall (ihz4 ih) hr T.mz4 T.kz4 T.bdz4 .nil rfl (wrc (wsub (wv 0) sV_int) (wrc (wsub (wv 0) sV_int) sR_nil))) sV_int))
  zaad)))
theorem okz6 (T : Txt K mg) (ih : Ok P w base T k) : FnOk P w K mg base (CXE (Gof T) P w base) (2 * (k + 1)) T.fz6 T.dz6 ["_law_line", "_law_k", "_law_side", "_law_point", "_law_breadth"] (spG (Gof T) (run true fns sub0 whileL (k + 1)) (frOf fns) 32) := by
  refine fn_okX T.tz6 scz6 rfl rfl rfl fun cdv A outer s H E hr => ?_
  have hu := Nat.lt_of_le_of_lt (Nat.add_le_add_left (by decide : 9 ≤ 64) _) hr.units
  have hp := IP.passes_leave (X := cxOf (CXE (Gof T) P w base) P w K mg base nmz6 "_law_on_hem" (zaab sz6) T.fz6 cdv A outer s H E) rfl
  exact (zaaa (qasg ndz6 (wsub (wv 0) (wv 2)))
  (zaaa (qasg ndz6 (wsub (wv 0) (sV_bin .mod (sV_bin .add (wv 2) sV_int) (wlen (T.b_len) (wv 0)))))
  (zaaa (qasg ndz6 (xcall (ihz4 ih) hr T.mz4 T.kz4 T.bdz4 .nil rfl (wrc (sV_bin .sub (wsub (wv 6) sV_int) (wsub (wv 5) sV_int)) (wrc (sV_bin .sub (wsub (wv 6) sV_int) (wsub (wv 5) sV_int)) sR_nil))))
  (zaaa (qasg ndz6 (sV_bin .fdiv (sV_bin .sub (wsub (wv 6) sV_int) (wsub (wv 5) sV_int)) (wv 7)))
  (zaaa (qasg ndz6 (sV_bin .fdiv (sV_bin .sub (wsub (wv 6) sV_int) (wsub (wv 5) sV_int)) (wv 7)))
  (zaaa (qasg ndz6 (sV_bin .add (sV_bin .mul (wv 8) (wv 8)) (sV_bin .mul (wv 9) (wv 9))))
  (zaaa (yasgT (wsub (wv 3) sV_int) (wgc ndz6 (wgc ndz6 sG_nil)))
  (zaaa (yasgT (wsub (wv 3) sV_int) (wgc ndz6 (wgc ndz6 sG_nil)))
  (zaaa (qasg ndz6 (sV_bin .mul (sV_bin .sub (wv 11) (sV_bin .mul (wsub (wsub (wv 0) (wv 1)) sV_int) (wv 12))) (wv 14)))
  (zaaa (qasg ndz6 (sV_bin .mul (sV_bin .sub (wv 13) (sV_bin .mul (wsub (wsub (wv 0) (wv 1)) sV_int) (wv 14))) (wv 12)))
  (zaaa (qasg ndz6 (sV_bin .sub (sV_bin .mul (wv 9) (wv 15)) (sV_bin .mul (wv 8) (wv 16))))
  (zaaa (sS_ifs (wct hu .lt (xcall (ihz13 ih) hr T.mz13 T.kz13 T.bdz13 .nil rfl (wrc (wv 0) sR_nil)) sV_int) (zaaa (qasg ndz6 (sV_bin .sub sV_int (wv 17)))
  zaad) zaad)
  (zaaa (sS_ret (wcv hu .eq (sV_bin .mul (wv 17) (xcall (ihz7 ih) hr T.mz7 T.kz7 T.bdz7 .nil rfl (wrc (sV_bin .mul sV_int (wv 10)) sR_nil))) (sV_bin .mul (sV_bin .mul (sV_bin .mul (sV_bin .mul sV_int (wv 4)) (wv 10)) (wv 12)) (wv 14))))
  zaad)))))))))))))
theorem okz10 (T : Txt K mg) (ih : Ok P w base T k) : FnOk P w K mg base (CXE (Gof T) P w base) (2 * (k + 1)) T.fz10 T.dz10 ["_law_line", "_law_k", "_law_point"] (spG (Gof T) (run true fns sub0 whileL (k + 1)) (frOf fns) 33) := by
  refine fn_okX T.tz10 scz10 rfl rfl rfl fun cdv A outer s H E hr => ?_
  have hu := Nat.lt_of_le_of_lt (Nat.add_le_add_left (by decide : 9 ≤ 64) _) hr.units
  have hp := IP.passes_leave (X := cxOf (CXE (Gof T) P w base) P w K mg base nmz10 "_law_straight" (zaab sz10) T.fz10 cdv A outer s H E) rfl
  exact (zaaa (qasg ndz10 (wsub (wv 0) (sV_bin .sub (wv 1) sV_int)))
  (zaaa (qasg ndz10 (wsub (wv 0) (wv 1)))
  (zaaa (qasg ndz10 (wsub (wv 0) (sV_bin .mod (sV_bin .add (wv 1) sV_int) (wlen (T.b_len) (wv 0)))))
  (zaaa (qasg ndz10 (sV_bin .mul (sV_bin .sub (wsub (wv 4) sV_int) (wsub (wv 3) sV_int)) (sV_bin .sub (wsub (wv 5) sV_int) (wsub (wv 4) sV_int))))
  (zaaa (qasg ndz10 (sV_bin .sub (wv 6) (sV_bin .mul (sV_bin .sub (wsub (wv 4) sV_int) (wsub (wv 3) sV_int)) (sV_bin .sub (wsub (wv 5) sV_int) (wsub (wv 4) sV_int)))))
  (zaaa (sS_ifs (wct hu .ne (wv 6) sV_int) (zaaa (sS_ret sV_bl)
  zaad) zaad)
  (zaaa (yasgT (wsub (wv 2) sV_int) (wgc ndz10 (wgc ndz10 sG_nil)))
  (zaaa (yasgT (wsub (wv 2) sV_int) (wgc ndz10 (wgc ndz10 sG_nil)))
  (zaaa (qasg ndz10 (sV_bin .mul (sV_bin .mul (sV_bin .sub (wv 7) (sV_bin .mul (wsub (wv 4) sV_int) (wv 8))) (wv 10)) (sV_bin .sub (wsub (wv 5) sV_int) (wsub (wv 4) sV_int))))
  (zaaa (qasg ndz10 (sV_bin .mul (sV_bin .mul (sV_bin .sub (wv 9) (sV_bin .mul (wsub (wv 4) sV_int) (wv 10))) (wv 8)) (sV_bin .sub (wsub (wv 5) sV_int) (wsub (wv 4) sV_int))))
  (zaaa (sS_ret (wcv hu .eq (sV_bin .add (wv 11) (wv 12)) sV_int))
  zaad)))))))))))
theorem okz5 (T : Txt K mg) (ih : Ok P w base T k) : FnOk P w K mg base (CXE (Gof T) P w base) (2 * (k + 1)) T.fz5 T.dz5 ["_law_line", "_law_found", "_law_breadth"] (spG (Gof T) (run true fns sub0 whileL (k + 1)) (frOf fns) 34) := by
  refine fn_okX T.tz5 scz5 rfl rfl rfl fun cdv A outer s H E hr => ?_
  have hu := Nat.lt_of_le_of_lt (Nat.add_le_add_left (by decide : 9 ≤ 64) _) hr.units
  have hp := IP.passes_leave (X := cxOf (CXE (Gof T) P w base) P w K mg base nmz5 "_law_hems" (zaab sz5) T.fz5 cdv A outer s H E) rfl
  exact (zaaa (sS_ifs (PW.pt (ptb_or (sT_not (wtr (wisi .list (T.b_isinstance) (T.b_list) (wv 1)))) (zaay (wct hu .ne (wlen (T.b_len) (wv 1)) (wlen (T.b_len) (wv 0)))))) (zaaa (sS_ret sV_bl)
  zaad) zaad)
  (zaaa (yfor hp (wr1 (T.b_range) (wlen (T.b_len) (wv 0))) (wg1 ndz5) (zaaa (sS_ifs (PW.pt (ptb_or (sT_not (wtr (wisi .tuple (T.b_isinstance) (T.b_tuple) (wsub (wv 1) (wv 3))))) (zaay (wct hu .ne (wlen (T.b_len) (wsub (wv 1) (wv 3))) sV_int)))) (zaaa (sS_ret sV_bl)
  zaad) zaad)
  (zaaa (sS_ifs (PW.pt (ptb_or (sT_not (wtr (xcall (ihz3 ih) hr T.mz3 T.kz3 T.bdz3 .nil rfl (wrc (wsub (wsub (wv 1) (wv 3)) sV_int) sR_nil)))) (zaay (sT_not (wtr (xcall (ihz3 ih) hr T.mz3 T.kz3 T.bdz3 .nil rfl (wrc (wsub (wsub (wv 1) (wv 3)) sV_int) sR_nil))))))) (zaaa (sS_ret sV_bl)
  zaad) zaad)
  (zaaa (qasg ndz5 (sV_bin .mod (sV_bin .sub (wv 3) sV_int) (wlen (T.b_len) (wv 0))))
  (zaaa (sS_ifs (sT_not (wtr (xcall (ihz6 ih) hr T.mz6 T.kz6 T.bdz6 .nil rfl (wrc (wv 0) (wrc (wv 3) (wrc (wv 4) (wrc (wsub (wv 1) (wv 3)) (wrc (wv 2) sR_nil)))))))) (zaaa (sS_ret sV_bl)
  zaad) zaad)
  (zaaa (sS_ifs (sT_not (wtr (xcall (ihz6 ih) hr T.mz6 T.kz6 T.bdz6 .nil rfl (wrc (wv 0) (wrc (wv 3) (wrc (wv 3) (wrc (wsub (wv 1) (wv 3)) (wrc (wv 2) sR_nil)))))))) (zaaa (sS_ret sV_bl)
  zaad) zaad)
  (zaaa (sS_ifs (sT_not (wtr (xcall (ihz10 ih) hr T.mz10 T.kz10 T.bdz10 .nil rfl (wrc (wv 0) (wrc (wv 3) (wrc (wsub (wv 1) (wv 3)) sR_nil)))))) (zaaa (sS_ret sV_bl)
  zaad) zaad)
  zaad)))))))
  (zaaa (sS_ret sV_bl)
  zaad)))
theorem ok_law (T : Txt K mg) (ih : Ok P w base T k) : FnOk P w K mg base (CXE (Gof T) P w base) (2 * (k + 1)) T.f_law T.d_law ["_law_script"] (spG (Gof T) (run true fns sub0 whileL (k + 1)) (frOf fns) 35) := by
  refine fn_okX T.t_law sc_law rfl rfl rfl fun cdv A outer s H E hr => ?_
  have hu := Nat.lt_of_le_of_lt (Nat.add_le_add_left (by decide : 9 ≤ 64) _) hr.units
  have hp := IP.passes_leave (X := cxOf (CXE (Gof T) P w base) P w K mg base nm_law "law" (zaab s_law) T.f_law cdv A outer s H E) rfl
  exact (zaaa (qasg nd_law (xcall (ihz9 ih) hr T.mz9 T.kz9 T.bdz9 .nil rfl (wrc (wv 0) (wrc sV_int sR_nil))))
  (zaaa (qasg nd_law (sV_bin .add sV_int (sV_bin .mod (wsub (wv 1) sV_int) sV_int)))
  (zaaa (qasg nd_law (xcall (ihz12 ih) hr T.mz12 T.kz12 T.bdz12 .nil rfl (wrc (xcall (ihz8 ih) hr T.mz8 T.kz8 T.bdz8 .nil rfl (wrc (wv 1) (wrc (wv 2) sR_nil))) (wrc (wsub (wv 1) sV_int) sR_nil))))
  (zaaa (qasg nd_law (sV_bin .sub (sV_bin .mod (wsub (wv 1) sV_int) sV_int) sV_int))
  (zaaa (qasg nd_law (sV_bin .sub (sV_bin .mod (wsub (wv 1) sV_int) sV_int) sV_int))
  (zaaa (by first | exact zaa4 (fun _ _ _ _ h => zaa9 h) (zace (f := fun σ st => one (ev (cfX fns sub0 k) zab5 .v σ st)) rfl (zaaz (sc := (zaab s_law).names) (N := nm_law) (N' := zab7) rfl rfl rfl rfl (by decide +kernel)) (by decide) (wpl (wv 3)) (fun _ _ _ _ => (wg1 zad3)) (fun _ _ _ _ => zaa6 (wtup (wac (sV_bin .add (wsub (wv 7) sV_int) (wv 4)) (wac (sV_bin .add (wsub (wv 7) sV_int) (wv 5)) sA_nil))) rfl) (fun _ => rfl) (fun _ _ _ _ => zaar _ _ _) (fun _ _ => rfl) rfl nd_law rfl rfl) | exact qasg nd_law (sV_of (zabr (f := fun σ st => one (ev (cfX fns sub0 k) zab5 .v σ st)) rfl (zaaz (sc := (zaab s_law).names) (N := nm_law) (N' := zab7) rfl rfl rfl rfl (by decide +kernel)) (by decide) (wpl (wv 3)) (fun _ _ _ _ => (wg1 zad3)) (fun _ _ _ _ => zaa6 (wtup (wac (sV_bin .add (wsub (wv 7) sV_int) (wv 4)) (wac (sV_bin .add (wsub (wv 7) sV_int) (wv 5)) sA_nil))) rfl) (fun _ => rfl) (fun _ _ _ _ => zaar _ _ _) (fun _ _ => rfl)) fun _ _ _ _ h => zaa9 h))
  (zaaa (qasg nd_law (sV_bin .mod (wsub (wv 1) sV_int) sV_int))
  (zaaa (sS_ret (xcall (ihz5 ih) hr T.mz5 T.kz5 T.bdz5 .nil rfl (wrc (wv 3) (wrc (xcall (ihz23 ih) hr T.mz23 T.kz23 T.bdz23 .nil rfl (wrc (wlist (T.b_list) (wv 3)) (wrc (wv 6) sR_nil))) (wrc (wv 6) sR_nil)))))
  zaad))))))))
theorem all (T : Txt K mg) : ∀ k, Ok P w base T k
  | 0 => ⟨zaae (sub := sub0), zaae (sub := sub0), zaae (sub := sub0), zaae (sub := sub0), zaae (sub := sub0), zaae (sub := sub0), zaae (sub := sub0), zaae (sub := sub0), zaae (sub := sub0), zaae (sub := sub0), zaae (sub := sub0), zaae (sub := sub0), zaae (sub := sub0), zaae (sub := sub0), zaae (sub := sub0), zaae (sub := sub0), zaae (sub := sub0), zaae (sub := sub0), zaae (sub := sub0), zaae (sub := sub0), zaae (sub := sub0), zaae (sub := sub0), zaae (sub := sub0), zaae (sub := sub0), zaae (sub := sub0), zaae (sub := sub0), zaae (sub := sub0), zaae (sub := sub0), zaae (sub := sub0), zaae (sub := sub0), zaae (sub := sub0), zaae (sub := sub0), zaae (sub := sub0), zaae (sub := sub0), zaae (sub := sub0), zaae (sub := sub0)⟩
  | k + 1 => ⟨okz17 T (all T k), okz29 T (all T k), okz28 T (all T k), okz26 T (all T k), okz19 T (all T k), okz30 T (all T k), okz25 T (all T k), okz34 T (all T k), okz15 T (all T k), okz31 T (all T k), okz36 T (all T k), okz21 T (all T k), okz18 T (all T k), okz23 T (all T k), okz27 T (all T k), okz24 T (all T k), okz20 T (all T k), okz16 T (all T k), okz35 T (all T k), okz32 T (all T k), okz33 T (all T k), okz22 T (all T k), okz14 T (all T k), okz2 T (all T k), okz9 T (all T k), okz4 T (all T k), okz11 T (all T k), okz8 T (all T k), okz12 T (all T k), okz7 T (all T k), okz13 T (all T k), okz3 T (all T k), okz6 T (all T k), okz10 T (all T k), okz5 T (all T k), ok_law T (all T k)⟩
end
end Pg
end IP
end
section
set_option Elab.async false
set_option linter.all false
set_option maxRecDepth 100000
set_option maxHeartbeats 0
namespace IP
open PySem PySem.Spec L2
namespace Pg
def Math : Prop := ∀ ns : List Int, ns.length ≤ 63 → ∃ s, run true fns sub0 whileL 16 35 [.val (.lst (ns.map .int))] [] = .ok (.val (.bl true)) s
abbrev spTop (G : Gx) : Sp := fun vs H Q _ => spG G (run true fns sub0 whileL 16) (frOf fns) 35 vs H Q fun _ _ _ => False
theorem all_mk {l : PySem.W.OpenLaw} {w : World} {K : PySem.W.Frag} {h : Heap} {mg : Str → Option Value} {fa : Addr} {ez1 : Addr} {ez0 : Addr} {fz17 : Addr} {odz17 anz17 : Option Addr} {slz17 : Array (Option Value)} {ocz17 kVz17 dcz17 pmz17 cdz17 ctz17 : Value} {fz29 : Addr} {odz29 anz29 : Option Addr} {slz29 : Array (Option Value)} {ocz29 kVz29 dcz29 pmz29 cdz29 ctz29 : Value} {fz28 : Addr} {odz28 anz28 : Option Addr} {slz28 : Array (Option Value)} {ocz28 kVz28 dcz28 pmz28 cdz28 ctz28 : Value} {fz26 : Addr} {odz26 anz26 : Option Addr} {slz26 : Array (Option Value)} {ocz26 kVz26 dcz26 pmz26 cdz26 ctz26 : Value} {fz19 : Addr} {odz19 anz19 : Option Addr} {slz19 : Array (Option Value)} {ocz19 kVz19 dcz19 pmz19 cdz19 ctz19 : Value} {fz30 : Addr} {odz30 anz30 : Option Addr} {slz30 : Array (Option Value)} {ocz30 kVz30 dcz30 pmz30 cdz30 ctz30 : Value} {fz25 : Addr} {odz25 anz25 : Option Addr} {slz25 : Array (Option Value)} {ocz25 kVz25 dcz25 pmz25 cdz25 ctz25 : Value} {fz34 : Addr} {odz34 anz34 : Option Addr} {slz34 : Array (Option Value)} {ocz34 kVz34 dcz34 pmz34 cdz34 ctz34 : Value} {fz15 : Addr} {odz15 anz15 : Option Addr} {slz15 : Array (Option Value)} {ocz15 kVz15 dcz15 pmz15 cdz15 ctz15 : Value} {fz31 : Addr} {odz31 anz31 : Option Addr} {slz31 : Array (Option Value)} {ocz31 kVz31 dcz31 pmz31 cdz31 ctz31 : Value} {fz36 : Addr} {odz36 anz36 : Option Addr} {slz36 : Array (Option Value)} {ocz36 kVz36 dcz36 pmz36 cdz36 ctz36 : Value} {fz21 : Addr} {odz21 anz21 : Option Addr} {slz21 : Array (Option Value)} {ocz21 kVz21 dcz21 pmz21 cdz21 ctz21 : Value} {fz18 : Addr} {odz18 anz18 : Option Addr} {slz18 : Array (Option Value)} {ocz18 kVz18 dcz18 pmz18 cdz18 ctz18 : Value} {fz23 : Addr} {odz23 anz23 : Option Addr} {slz23 : Array (Option Value)} {ocz23 kVz23 dcz23 pmz23 cdz23 ctz23 : Value} {fz27 : Addr} {odz27 anz27 : Option Addr} {slz27 : Array (Option Value)} {ocz27 kVz27 dcz27 pmz27 cdz27 ctz27 : Value} {fz24 : Addr} {odz24 anz24 : Option Addr} {slz24 : Array (Option Value)} {ocz24 kVz24 dcz24 pmz24 cdz24 ctz24 : Value} {fz20 : Addr} {odz20 anz20 : Option Addr} {slz20 : Array (Option Value)} {ocz20 kVz20 dcz20 pmz20 cdz20 ctz20 : Value} {fz16 : Addr} {odz16 anz16 : Option Addr} {slz16 : Array (Option Value)} {ocz16 kVz16 dcz16 pmz16 cdz16 ctz16 : Value} {fz35 : Addr} {odz35 anz35 : Option Addr} {slz35 : Array (Option Value)} {ocz35 kVz35 dcz35 pmz35 cdz35 ctz35 : Value} {fz32 : Addr} {odz32 anz32 : Option Addr} {slz32 : Array (Option Value)} {ocz32 kVz32 dcz32 pmz32 cdz32 ctz32 : Value} {fz33 : Addr} {odz33 anz33 : Option Addr} {slz33 : Array (Option Value)} {ocz33 kVz33 dcz33 pmz33 cdz33 ctz33 : Value} {fz22 : Addr} {odz22 anz22 : Option Addr} {slz22 : Array (Option Value)} {ocz22 kVz22 dcz22 pmz22 cdz22 ctz22 : Value} {fz14 : Addr} {odz14 anz14 : Option Addr} {slz14 : Array (Option Value)} {ocz14 kVz14 dcz14 pmz14 cdz14 ctz14 : Value} {fz2 : Addr} {odz2 anz2 : Option Addr} {slz2 : Array (Option Value)} {ocz2 kVz2 dcz2 pmz2 cdz2 ctz2 : Value} {fz9 : Addr} {odz9 anz9 : Option Addr} {slz9 : Array (Option Value)} {ocz9 kVz9 dcz9 pmz9 cdz9 ctz9 : Value} {fz4 : Addr} {odz4 anz4 : Option Addr} {slz4 : Array (Option Value)} {ocz4 kVz4 dcz4 pmz4 cdz4 ctz4 : Value} {fz11 : Addr} {odz11 anz11 : Option Addr} {slz11 : Array (Option Value)} {ocz11 kVz11 dcz11 pmz11 cdz11 ctz11 : Value} {fz8 : Addr} {odz8 anz8 : Option Addr} {slz8 : Array (Option Value)} {ocz8 kVz8 dcz8 pmz8 cdz8 ctz8 : Value} {fz12 : Addr} {odz12 anz12 : Option Addr} {slz12 : Array (Option Value)} {ocz12 kVz12 dcz12 pmz12 cdz12 ctz12 : Value} {fz7 : Addr} {odz7 anz7 : Option Addr} {slz7 : Array (Option Value)} {ocz7 kVz7 dcz7 pmz7 cdz7 ctz7 : Value} {fz13 : Addr} {odz13 anz13 : Option Addr} {slz13 : Array (Option Value)} {ocz13 kVz13 dcz13 pmz13 cdz13 ctz13 : Value} {fz3 : Addr} {odz3 anz3 : Option Addr} {slz3 : Array (Option Value)} {ocz3 kVz3 dcz3 pmz3 cdz3 ctz3 : Value} {fz6 : Addr} {odz6 anz6 : Option Addr} {slz6 : Array (Option Value)} {ocz6 kVz6 dcz6 pmz6 cdz6 ctz6 : Value} {fz10 : Addr} {odz10 anz10 : Option Addr} {slz10 : Array (Option Value)} {ocz10 kVz10 dcz10 pmz10 cdz10 ctz10 : Value} {fz5 : Addr} {odz5 anz5 : Option Addr} {slz5 : Array (Option Value)} {ocz5 kVz5 dcz5 pmz5 cdz5 ctz5 : Value} {f_law : Addr} {od_law an_law : Option Addr} {sl_law : Array (Option Value)} {oc_law kV_law dc_law pm_law cd_law ct_law : Value} (X : K.In h) (Gn : h.Ns mainGlobals mg) (hfa : mg "law" = some (.ref fa))
    (aez1 : PySem.W.nsIn K mainGlobals "GradeError" = some (some (.ref ez1)))
    (aez0 : PySem.W.nsIn K mainGlobals "Crossed" = some (some (.ref ez0)))
    (qez0 : PySem.W.excIn K ez0 [.type "ValueError", .type "Exception", .type "BaseException", .type "object"] "ValueError.__new__" = true)
    (az17 : PySem.W.nsIn K mainGlobals "crossing" = some (some (.ref fz17)))
    (lz17 : K.lookup fz17 = some ⟨ocz17, odz17, .func (PySem.W.fnOf "crossing" "crossing" (zaag sz17) (zaaf sz17) (zaab sz17) .none kVz17 dcz17 pmz17 anz17 cdz17 ctz17), slz17⟩)
    (cz17 : PySem.W.codeIn K cdz17 "crossing" = true)
    (kz17 : PySem.W.keepIn K (.ref fz17) = true)
    (az29 : PySem.W.nsIn K mainGlobals "sides_cross" = some (some (.ref fz29)))
    (lz29 : K.lookup fz29 = some ⟨ocz29, odz29, .func (PySem.W.fnOf "sides_cross" "sides_cross" (zaag sz29) (zaaf sz29) (zaab sz29) .none kVz29 dcz29 pmz29 anz29 cdz29 ctz29), slz29⟩)
    (cz29 : PySem.W.codeIn K cdz29 "sides_cross" = true)
    (kz29 : PySem.W.keepIn K (.ref fz29) = true)
    (az28 : PySem.W.nsIn K mainGlobals "side_ends" = some (some (.ref fz28)))
    (lz28 : K.lookup fz28 = some ⟨ocz28, odz28, .func (PySem.W.fnOf "side_ends" "side_ends" (zaag sz28) (zaaf sz28) (zaab sz28) .none kVz28 dcz28 pmz28 anz28 cdz28 ctz28), slz28⟩)
    (cz28 : PySem.W.codeIn K cdz28 "side_ends" = true)
    (kz28 : PySem.W.keepIn K (.ref fz28) = true)
    (az26 : PySem.W.nsIn K mainGlobals "run_together" = some (some (.ref fz26)))
    (lz26 : K.lookup fz26 = some ⟨ocz26, odz26, .func (PySem.W.fnOf "run_together" "run_together" (zaag sz26) (zaaf sz26) (zaab sz26) .none kVz26 dcz26 pmz26 anz26 cdz26 ctz26), slz26⟩)
    (cz26 : PySem.W.codeIn K cdz26 "run_together" = true)
    (kz26 : PySem.W.keepIn K (.ref fz26) = true)
    (az19 : PySem.W.nsIn K mainGlobals "have_common_point" = some (some (.ref fz19)))
    (lz19 : K.lookup fz19 = some ⟨ocz19, odz19, .func (PySem.W.fnOf "have_common_point" "have_common_point" (zaag sz19) (zaaf sz19) (zaab sz19) .none kVz19 dcz19 pmz19 anz19 cdz19 ctz19), slz19⟩)
    (cz19 : PySem.W.codeIn K cdz19 "have_common_point" = true)
    (kz19 : PySem.W.keepIn K (.ref fz19) = true)
    (az30 : PySem.W.nsIn K mainGlobals "spans_meet" = some (some (.ref fz30)))
    (lz30 : K.lookup fz30 = some ⟨ocz30, odz30, .func (PySem.W.fnOf "spans_meet" "spans_meet" (zaag sz30) (zaaf sz30) (zaab sz30) .none kVz30 dcz30 pmz30 anz30 cdz30 ctz30), slz30⟩)
    (cz30 : PySem.W.codeIn K cdz30 "spans_meet" = true)
    (kz30 : PySem.W.keepIn K (.ref fz30) = true)
    (az25 : PySem.W.nsIn K mainGlobals "reaches_across" = some (some (.ref fz25)))
    (lz25 : K.lookup fz25 = some ⟨ocz25, odz25, .func (PySem.W.fnOf "reaches_across" "reaches_across" (zaag sz25) (zaaf sz25) (zaab sz25) .none kVz25 dcz25 pmz25 anz25 cdz25 ctz25), slz25⟩)
    (cz25 : PySem.W.codeIn K cdz25 "reaches_across" = true)
    (kz25 : PySem.W.keepIn K (.ref fz25) = true)
    (az34 : PySem.W.nsIn K mainGlobals "turn" = some (some (.ref fz34)))
    (lz34 : K.lookup fz34 = some ⟨ocz34, odz34, .func (PySem.W.fnOf "turn" "turn" (zaag sz34) (zaaf sz34) (zaab sz34) .none kVz34 dcz34 pmz34 anz34 cdz34 ctz34), slz34⟩)
    (cz34 : PySem.W.codeIn K cdz34 "turn" = true)
    (kz34 : PySem.W.keepIn K (.ref fz34) = true)
    (az15 : PySem.W.nsIn K mainGlobals "along" = some (some (.ref fz15)))
    (lz15 : K.lookup fz15 = some ⟨ocz15, odz15, .func (PySem.W.fnOf "along" "along" (zaag sz15) (zaaf sz15) (zaab sz15) .none kVz15 dcz15 pmz15 anz15 cdz15 ctz15), slz15⟩)
    (cz15 : PySem.W.codeIn K cdz15 "along" = true)
    (kz15 : PySem.W.keepIn K (.ref fz15) = true)
    (az31 : PySem.W.nsIn K mainGlobals "square" = some (some (.ref fz31)))
    (lz31 : K.lookup fz31 = some ⟨ocz31, odz31, .func (PySem.W.fnOf "square" "square" (zaag sz31) (zaaf sz31) (zaab sz31) .none kVz31 dcz31 pmz31 anz31 cdz31 ctz31), slz31⟩)
    (cz31 : PySem.W.codeIn K cdz31 "square" = true)
    (kz31 : PySem.W.keepIn K (.ref fz31) = true)
    (az36 : PySem.W.nsIn K mainGlobals "whole_root" = some (some (.ref fz36)))
    (lz36 : K.lookup fz36 = some ⟨ocz36, odz36, .func (PySem.W.fnOf "whole_root" "whole_root" (zaag sz36) (zaaf sz36) (zaab sz36) .none kVz36 dcz36 pmz36 anz36 cdz36 ctz36), slz36⟩)
    (cz36 : PySem.W.codeIn K cdz36 "whole_root" = true)
    (kz36 : PySem.W.keepIn K (.ref fz36) = true)
    (az21 : PySem.W.nsIn K mainGlobals "lowest_terms" = some (some (.ref fz21)))
    (lz21 : K.lookup fz21 = some ⟨ocz21, odz21, .func (PySem.W.fnOf "lowest_terms" "lowest_terms" (zaag sz21) (zaaf sz21) (zaab sz21) .none kVz21 dcz21 pmz21 anz21 cdz21 ctz21), slz21⟩)
    (cz21 : PySem.W.codeIn K cdz21 "lowest_terms" = true)
    (kz21 : PySem.W.keepIn K (.ref fz21) = true)
    (az18 : PySem.W.nsIn K mainGlobals "greatest_divisor" = some (some (.ref fz18)))
    (lz18 : K.lookup fz18 = some ⟨ocz18, odz18, .func (PySem.W.fnOf "greatest_divisor" "greatest_divisor" (zaag sz18) (zaaf sz18) (zaab sz18) .none kVz18 dcz18 pmz18 anz18 cdz18 ctz18), slz18⟩)
    (cz18 : PySem.W.codeIn K cdz18 "greatest_divisor" = true)
    (kz18 : PySem.W.keepIn K (.ref fz18) = true)
    (az23 : PySem.W.nsIn K mainGlobals "outline" = some (some (.ref fz23)))
    (lz23 : K.lookup fz23 = some ⟨ocz23, odz23, .func (PySem.W.fnOf "outline" "outline" (zaag sz23) (zaaf sz23) (zaab sz23) .none kVz23 dcz23 pmz23 anz23 cdz23 ctz23), slz23⟩)
    (cz23 : PySem.W.codeIn K cdz23 "outline" = true)
    (kz23 : PySem.W.keepIn K (.ref fz23) = true)
    (az27 : PySem.W.nsIn K mainGlobals "runs_leftward" = some (some (.ref fz27)))
    (lz27 : K.lookup fz27 = some ⟨ocz27, odz27, .func (PySem.W.fnOf "runs_leftward" "runs_leftward" (zaag sz27) (zaaf sz27) (zaab sz27) .none kVz27 dcz27 pmz27 anz27 cdz27 ctz27), slz27⟩)
    (cz27 : PySem.W.codeIn K cdz27 "runs_leftward" = true)
    (kz27 : PySem.W.keepIn K (.ref fz27) = true)
    (az24 : PySem.W.nsIn K mainGlobals "outward_vector" = some (some (.ref fz24)))
    (lz24 : K.lookup fz24 = some ⟨ocz24, odz24, .func (PySem.W.fnOf "outward_vector" "outward_vector" (zaag sz24) (zaaf sz24) (zaab sz24) .none kVz24 dcz24 pmz24 anz24 cdz24 ctz24), slz24⟩)
    (cz24 : PySem.W.codeIn K cdz24 "outward_vector" = true)
    (kz24 : PySem.W.keepIn K (.ref fz24) = true)
    (az20 : PySem.W.nsIn K mainGlobals "hem_corner" = some (some (.ref fz20)))
    (lz20 : K.lookup fz20 = some ⟨ocz20, odz20, .func (PySem.W.fnOf "hem_corner" "hem_corner" (zaag sz20) (zaaf sz20) (zaab sz20) .none kVz20 dcz20 pmz20 anz20 cdz20 ctz20), slz20⟩)
    (cz20 : PySem.W.codeIn K cdz20 "hem_corner" = true)
    (kz20 : PySem.W.keepIn K (.ref fz20) = true)
    (az16 : PySem.W.nsIn K mainGlobals "beside" = some (some (.ref fz16)))
    (lz16 : K.lookup fz16 = some ⟨ocz16, odz16, .func (PySem.W.fnOf "beside" "beside" (zaag sz16) (zaaf sz16) (zaab sz16) .none kVz16 dcz16 pmz16 anz16 cdz16 ctz16), slz16⟩)
    (cz16 : PySem.W.codeIn K cdz16 "beside" = true)
    (kz16 : PySem.W.keepIn K (.ref fz16) = true)
    (az35 : PySem.W.nsIn K mainGlobals "where_they_cut" = some (some (.ref fz35)))
    (lz35 : K.lookup fz35 = some ⟨ocz35, odz35, .func (PySem.W.fnOf "where_they_cut" "where_they_cut" (zaag sz35) (zaaf sz35) (zaab sz35) .none kVz35 dcz35 pmz35 anz35 cdz35 ctz35), slz35⟩)
    (cz35 : PySem.W.codeIn K cdz35 "where_they_cut" = true)
    (kz35 : PySem.W.keepIn K (.ref fz35) = true)
    (az32 : PySem.W.nsIn K mainGlobals "square_of" = some (some (.ref fz32)))
    (lz32 : K.lookup fz32 = some ⟨ocz32, odz32, .func (PySem.W.fnOf "square_of" "square_of" (zaag sz32) (zaaf sz32) (zaab sz32) .none kVz32 dcz32 pmz32 anz32 cdz32 ctz32), slz32⟩)
    (cz32 : PySem.W.codeIn K cdz32 "square_of" = true)
    (kz32 : PySem.W.keepIn K (.ref fz32) = true)
    (az33 : PySem.W.nsIn K mainGlobals "thousandfold_length" = some (some (.ref fz33)))
    (lz33 : K.lookup fz33 = some ⟨ocz33, odz33, .func (PySem.W.fnOf "thousandfold_length" "thousandfold_length" (zaag sz33) (zaaf sz33) (zaab sz33) .none kVz33 dcz33 pmz33 anz33 cdz33 ctz33), slz33⟩)
    (cz33 : PySem.W.codeIn K cdz33 "thousandfold_length" = true)
    (kz33 : PySem.W.keepIn K (.ref fz33) = true)
    (az22 : PySem.W.nsIn K mainGlobals "moved_number" = some (some (.ref fz22)))
    (lz22 : K.lookup fz22 = some ⟨ocz22, odz22, .func (PySem.W.fnOf "moved_number" "moved_number" (zaag sz22) (zaaf sz22) (zaab sz22) .none kVz22 dcz22 pmz22 anz22 cdz22 ctz22), slz22⟩)
    (cz22 : PySem.W.codeIn K cdz22 "moved_number" = true)
    (kz22 : PySem.W.keepIn K (.ref fz22) = true)
    (az14 : PySem.W.nsIn K mainGlobals "_law_whole" = some (some (.ref fz14)))
    (lz14 : K.lookup fz14 = some ⟨ocz14, odz14, .func (PySem.W.fnOf "_law_whole" "_law_whole" (zaag sz14) (zaaf sz14) (zaab sz14) .none kVz14 dcz14 pmz14 anz14 cdz14 ctz14), slz14⟩)
    (cz14 : PySem.W.codeIn K cdz14 "_law_whole" = true)
    (kz14 : PySem.W.keepIn K (.ref fz14) = true)
    (az2 : PySem.W.nsIn K mainGlobals "_law_at" = some (some (.ref fz2)))
    (lz2 : K.lookup fz2 = some ⟨ocz2, odz2, .func (PySem.W.fnOf "_law_at" "_law_at" (zaag sz2) (zaaf sz2) (zaab sz2) .none kVz2 dcz2 pmz2 anz2 cdz2 ctz2), slz2⟩)
    (cz2 : PySem.W.codeIn K cdz2 "_law_at" = true)
    (kz2 : PySem.W.keepIn K (.ref fz2) = true)
    (az9 : PySem.W.nsIn K mainGlobals "_law_stir" = some (some (.ref fz9)))
    (lz9 : K.lookup fz9 = some ⟨ocz9, odz9, .func (PySem.W.fnOf "_law_stir" "_law_stir" (zaag sz9) (zaaf sz9) (zaab sz9) .none kVz9 dcz9 pmz9 anz9 cdz9 ctz9), slz9⟩)
    (cz9 : PySem.W.codeIn K cdz9 "_law_stir" = true)
    (kz9 : PySem.W.keepIn K (.ref fz9) = true)
    (az4 : PySem.W.nsIn K mainGlobals "_law_gcd" = some (some (.ref fz4)))
    (lz4 : K.lookup fz4 = some ⟨ocz4, odz4, .func (PySem.W.fnOf "_law_gcd" "_law_gcd" (zaag sz4) (zaaf sz4) (zaab sz4) .none kVz4 dcz4 pmz4 anz4 cdz4 ctz4), slz4⟩)
    (cz4 : PySem.W.codeIn K cdz4 "_law_gcd" = true)
    (kz4 : PySem.W.keepIn K (.ref fz4) = true)
    (az11 : PySem.W.nsIn K mainGlobals "_law_strides" = some (some (.ref fz11)))
    (lz11 : K.lookup fz11 = some ⟨ocz11, odz11, .func (PySem.W.fnOf "_law_strides" "_law_strides" (zaag sz11) (zaaf sz11) (zaab sz11) .none kVz11 dcz11 pmz11 anz11 cdz11 ctz11), slz11⟩)
    (cz11 : PySem.W.codeIn K cdz11 "_law_strides" = true)
    (kz11 : PySem.W.keepIn K (.ref fz11) = true)
    (az8 : PySem.W.nsIn K mainGlobals "_law_simple" = some (some (.ref fz8)))
    (lz8 : K.lookup fz8 = some ⟨ocz8, odz8, .func (PySem.W.fnOf "_law_simple" "_law_simple" (zaag sz8) (zaaf sz8) (zaab sz8) .none kVz8 dcz8 pmz8 anz8 cdz8 ctz8), slz8⟩)
    (cz8 : PySem.W.codeIn K cdz8 "_law_simple" = true)
    (kz8 : PySem.W.keepIn K (.ref fz8) = true)
    (az12 : PySem.W.nsIn K mainGlobals "_law_swung" = some (some (.ref fz12)))
    (lz12 : K.lookup fz12 = some ⟨ocz12, odz12, .func (PySem.W.fnOf "_law_swung" "_law_swung" (zaag sz12) (zaaf sz12) (zaab sz12) .none kVz12 dcz12 pmz12 anz12 cdz12 ctz12), slz12⟩)
    (cz12 : PySem.W.codeIn K cdz12 "_law_swung" = true)
    (kz12 : PySem.W.keepIn K (.ref fz12) = true)
    (az7 : PySem.W.nsIn K mainGlobals "_law_root" = some (some (.ref fz7)))
    (lz7 : K.lookup fz7 = some ⟨ocz7, odz7, .func (PySem.W.fnOf "_law_root" "_law_root" (zaag sz7) (zaaf sz7) (zaab sz7) .none kVz7 dcz7 pmz7 anz7 cdz7 ctz7), slz7⟩)
    (cz7 : PySem.W.codeIn K cdz7 "_law_root" = true)
    (kz7 : PySem.W.keepIn K (.ref fz7) = true)
    (az13 : PySem.W.nsIn K mainGlobals "_law_twice" = some (some (.ref fz13)))
    (lz13 : K.lookup fz13 = some ⟨ocz13, odz13, .func (PySem.W.fnOf "_law_twice" "_law_twice" (zaag sz13) (zaaf sz13) (zaab sz13) .none kVz13 dcz13 pmz13 anz13 cdz13 ctz13), slz13⟩)
    (cz13 : PySem.W.codeIn K cdz13 "_law_twice" = true)
    (kz13 : PySem.W.keepIn K (.ref fz13) = true)
    (az3 : PySem.W.nsIn K mainGlobals "_law_fraction" = some (some (.ref fz3)))
    (lz3 : K.lookup fz3 = some ⟨ocz3, odz3, .func (PySem.W.fnOf "_law_fraction" "_law_fraction" (zaag sz3) (zaaf sz3) (zaab sz3) .none kVz3 dcz3 pmz3 anz3 cdz3 ctz3), slz3⟩)
    (cz3 : PySem.W.codeIn K cdz3 "_law_fraction" = true)
    (kz3 : PySem.W.keepIn K (.ref fz3) = true)
    (az6 : PySem.W.nsIn K mainGlobals "_law_on_hem" = some (some (.ref fz6)))
    (lz6 : K.lookup fz6 = some ⟨ocz6, odz6, .func (PySem.W.fnOf "_law_on_hem" "_law_on_hem" (zaag sz6) (zaaf sz6) (zaab sz6) .none kVz6 dcz6 pmz6 anz6 cdz6 ctz6), slz6⟩)
    (cz6 : PySem.W.codeIn K cdz6 "_law_on_hem" = true)
    (kz6 : PySem.W.keepIn K (.ref fz6) = true)
    (az10 : PySem.W.nsIn K mainGlobals "_law_straight" = some (some (.ref fz10)))
    (lz10 : K.lookup fz10 = some ⟨ocz10, odz10, .func (PySem.W.fnOf "_law_straight" "_law_straight" (zaag sz10) (zaaf sz10) (zaab sz10) .none kVz10 dcz10 pmz10 anz10 cdz10 ctz10), slz10⟩)
    (cz10 : PySem.W.codeIn K cdz10 "_law_straight" = true)
    (kz10 : PySem.W.keepIn K (.ref fz10) = true)
    (az5 : PySem.W.nsIn K mainGlobals "_law_hems" = some (some (.ref fz5)))
    (lz5 : K.lookup fz5 = some ⟨ocz5, odz5, .func (PySem.W.fnOf "_law_hems" "_law_hems" (zaag sz5) (zaaf sz5) (zaab sz5) .none kVz5 dcz5 pmz5 anz5 cdz5 ctz5), slz5⟩)
    (cz5 : PySem.W.codeIn K cdz5 "_law_hems" = true)
    (kz5 : PySem.W.keepIn K (.ref fz5) = true)
    (a_law : PySem.W.nsIn K mainGlobals "law" = some (some (.ref f_law)))
    (l_law : K.lookup f_law = some ⟨oc_law, od_law, .func (PySem.W.fnOf "law" "law" (zaag s_law) (zaaf s_law) (zaab s_law) .none kV_law dc_law pm_law an_law cd_law ct_law), sl_law⟩)
    (c_law : PySem.W.codeIn K cd_law "law" = true)
    (k_law : PySem.W.keepIn K (.ref f_law) = true)
    (z_abs : PySem.W.nsIn K mainGlobals "abs" = some none)
    (z_bool : PySem.W.nsIn K mainGlobals "bool" = some none)
    (z_enumerate : PySem.W.nsIn K mainGlobals "enumerate" = some none)
    (z_int : PySem.W.nsIn K mainGlobals "int" = some none)
    (z_isinstance : PySem.W.nsIn K mainGlobals "isinstance" = some none)
    (z_len : PySem.W.nsIn K mainGlobals "len" = some none)
    (z_list : PySem.W.nsIn K mainGlobals "list" = some none)
    (z_max : PySem.W.nsIn K mainGlobals "max" = some none)
    (z_range : PySem.W.nsIn K mainGlobals "range" = some none)
    (z_sorted : PySem.W.nsIn K mainGlobals "sorted" = some none)
    (z_tuple : PySem.W.nsIn K mainGlobals "tuple" = some none) :
    ∃ (fd : FuncData) (G : Gx), (∀ (s : Shared) (v : Value), BindsTo s fd ⟨[v], []⟩ [("_law_script", v)]) ∧ ∀ base : Heap, K.In base → base.Ns mainGlobals mg → FnOk l.prog w K mg base CX0 32 fa fd ["_law_script"] (spTop G) := by
  have e := hfa.symm.trans (PySem.W.mg_of X Gn a_law)
  cases e
  have Fz17 := zaak (st := sz17) lz17 cz17 kz17
  have Bz17 : Binds K (PySem.W.fnOf "crossing" "crossing" (zaag sz17) (zaaf sz17) (zaab sz17) .none kVz17 dcz17 pmz17 anz17 cdz17 ctz17) ["corners"] [] := .all fun us hl => match us, hl with | [_], _ => rfl
  have Fz29 := zaak (st := sz29) lz29 cz29 kz29
  have Bz29 : Binds K (PySem.W.fnOf "sides_cross" "sides_cross" (zaag sz29) (zaaf sz29) (zaab sz29) .none kVz29 dcz29 pmz29 anz29 cdz29 ctz29) ["corners", "i", "j"] [] := .all fun us hl => match us, hl with | [_, _, _], _ => rfl
  have Fz28 := zaak (st := sz28) lz28 cz28 kz28
  have Bz28 : Binds K (PySem.W.fnOf "side_ends" "side_ends" (zaag sz28) (zaaf sz28) (zaab sz28) .none kVz28 dcz28 pmz28 anz28 cdz28 ctz28) ["corners", "k"] [] := .all fun us hl => match us, hl with | [_, _], _ => rfl
  have Fz26 := zaak (st := sz26) lz26 cz26 kz26
  have Bz26 : Binds K (PySem.W.fnOf "run_together" "run_together" (zaag sz26) (zaaf sz26) (zaab sz26) .none kVz26 dcz26 pmz26 anz26 cdz26 ctz26) ["corner", "one", "two"] [] := .all fun us hl => match us, hl with | [_, _, _], _ => rfl
  have Fz19 := zaak (st := sz19) lz19 cz19 kz19
  have Bz19 : Binds K (PySem.W.fnOf "have_common_point" "have_common_point" (zaag sz19) (zaaf sz19) (zaab sz19) .none kVz19 dcz19 pmz19 anz19 cdz19 ctz19) ["one", "two"] [] := .all fun us hl => match us, hl with | [_, _], _ => rfl
  have Fz30 := zaak (st := sz30) lz30 cz30 kz30
  have Bz30 : Binds K (PySem.W.fnOf "spans_meet" "spans_meet" (zaag sz30) (zaaf sz30) (zaab sz30) .none kVz30 dcz30 pmz30 anz30 cdz30 ctz30) ["one", "two", "axis"] [] := .all fun us hl => match us, hl with | [_, _, _], _ => rfl
  have Fz25 := zaak (st := sz25) lz25 cz25 kz25
  have Bz25 : Binds K (PySem.W.fnOf "reaches_across" "reaches_across" (zaag sz25) (zaaf sz25) (zaab sz25) .none kVz25 dcz25 pmz25 anz25 cdz25 ctz25) ["side", "line"] [] := .all fun us hl => match us, hl with | [_, _], _ => rfl
  have Fz34 := zaak (st := sz34) lz34 cz34 kz34
  have Bz34 : Binds K (PySem.W.fnOf "turn" "turn" (zaag sz34) (zaaf sz34) (zaab sz34) .none kVz34 dcz34 pmz34 anz34 cdz34 ctz34) ["start", "one", "two"] [] := .all fun us hl => match us, hl with | [_, _, _], _ => rfl
  have Fz15 := zaak (st := sz15) lz15 cz15 kz15
  have Bz15 : Binds K (PySem.W.fnOf "along" "along" (zaag sz15) (zaaf sz15) (zaab sz15) .none kVz15 dcz15 pmz15 anz15 cdz15 ctz15) ["start", "one", "two"] [] := .all fun us hl => match us, hl with | [_, _, _], _ => rfl
  have Fz31 := zaak (st := sz31) lz31 cz31 kz31
  have Bz31 : Binds K (PySem.W.fnOf "square" "square" (zaag sz31) (zaaf sz31) (zaab sz31) .none kVz31 dcz31 pmz31 anz31 cdz31 ctz31) ["one", "two"] [] := .all fun us hl => match us, hl with | [_, _], _ => rfl
  have Fz36 := zaak (st := sz36) lz36 cz36 kz36
  have Bz36 : Binds K (PySem.W.fnOf "whole_root" "whole_root" (zaag sz36) (zaaf sz36) (zaab sz36) .none kVz36 dcz36 pmz36 anz36 cdz36 ctz36) ["number"] [] := .all fun us hl => match us, hl with | [_], _ => rfl
  have Fz21 := zaak (st := sz21) lz21 cz21 kz21
  have Bz21 : Binds K (PySem.W.fnOf "lowest_terms" "lowest_terms" (zaag sz21) (zaaf sz21) (zaab sz21) .none kVz21 dcz21 pmz21 anz21 cdz21 ctz21) ["part", "whole"] [] := .all fun us hl => match us, hl with | [_, _], _ => rfl
  have Fz18 := zaak (st := sz18) lz18 cz18 kz18
  have Bz18 : Binds K (PySem.W.fnOf "greatest_divisor" "greatest_divisor" (zaag sz18) (zaaf sz18) (zaab sz18) .none kVz18 dcz18 pmz18 anz18 cdz18 ctz18) ["one", "two"] [] := .all fun us hl => match us, hl with | [_, _], _ => rfl
  have Fz23 := zaak (st := sz23) lz23 cz23 kz23
  have Bz23 : Binds K (PySem.W.fnOf "outline" "outline" (zaag sz23) (zaaf sz23) (zaab sz23) .none kVz23 dcz23 pmz23 anz23 cdz23 ctz23) ["corners", "breadth"] [] := .all fun us hl => match us, hl with | [_, _], _ => rfl
  have Fz27 := zaak (st := sz27) lz27 cz27 kz27
  have Bz27 : Binds K (PySem.W.fnOf "runs_leftward" "runs_leftward" (zaag sz27) (zaaf sz27) (zaab sz27) .none kVz27 dcz27 pmz27 anz27 cdz27 ctz27) ["corners"] [] := .all fun us hl => match us, hl with | [_], _ => rfl
  have Fz24 := zaak (st := sz24) lz24 cz24 kz24
  have Bz24 : Binds K (PySem.W.fnOf "outward_vector" "outward_vector" (zaag sz24) (zaaf sz24) (zaab sz24) .none kVz24 dcz24 pmz24 anz24 cdz24 ctz24) ["corners", "k", "leftward"] [] := .all fun us hl => match us, hl with | [_, _, _], _ => rfl
  have Fz20 := zaak (st := sz20) lz20 cz20 kz20
  have Bz20 : Binds K (PySem.W.fnOf "hem_corner" "hem_corner" (zaag sz20) (zaaf sz20) (zaab sz20) .none kVz20 dcz20 pmz20 anz20 cdz20 ctz20) ["corner", "before", "after", "breadth"] [] := .all fun us hl => match us, hl with | [_, _, _, _], _ => rfl
  have Fz16 := zaak (st := sz16) lz16 cz16 kz16
  have Bz16 : Binds K (PySem.W.fnOf "beside" "beside" (zaag sz16) (zaaf sz16) (zaab sz16) .none kVz16 dcz16 pmz16 anz16 cdz16 ctz16) ["corner", "vector", "breadth"] [] := .all fun us hl => match us, hl with | [_, _, _], _ => rfl
  have Fz35 := zaak (st := sz35) lz35 cz35 kz35
  have Bz35 : Binds K (PySem.W.fnOf "where_they_cut" "where_they_cut" (zaag sz35) (zaaf sz35) (zaab sz35) .none kVz35 dcz35 pmz35 anz35 cdz35 ctz35) ["corner", "before", "after", "cut", "breadth"] [] := .all fun us hl => match us, hl with | [_, _, _, _, _], _ => rfl
  have Fz32 := zaak (st := sz32) lz32 cz32 kz32
  have Bz32 : Binds K (PySem.W.fnOf "square_of" "square_of" (zaag sz32) (zaaf sz32) (zaab sz32) .none kVz32 dcz32 pmz32 anz32 cdz32 ctz32) ["vector"] [] := .all fun us hl => match us, hl with | [_], _ => rfl
  have Fz33 := zaak (st := sz33) lz33 cz33 kz33
  have Bz33 : Binds K (PySem.W.fnOf "thousandfold_length" "thousandfold_length" (zaag sz33) (zaaf sz33) (zaab sz33) .none kVz33 dcz33 pmz33 anz33 cdz33 ctz33) ["vector"] [] := .all fun us hl => match us, hl with | [_], _ => rfl
  have Fz22 := zaak (st := sz22) lz22 cz22 kz22
  have Bz22 : Binds K (PySem.W.fnOf "moved_number" "moved_number" (zaag sz22) (zaaf sz22) (zaab sz22) .none kVz22 dcz22 pmz22 anz22 cdz22 ctz22) ["number", "part", "whole"] [] := .all fun us hl => match us, hl with | [_, _, _], _ => rfl
  have Fz14 := zaak (st := sz14) lz14 cz14 kz14
  have Bz14 : Binds K (PySem.W.fnOf "_law_whole" "_law_whole" (zaag sz14) (zaaf sz14) (zaab sz14) .none kVz14 dcz14 pmz14 anz14 cdz14 ctz14) ["_law_found"] [] := .all fun us hl => match us, hl with | [_], _ => rfl
  have Fz2 := zaak (st := sz2) lz2 cz2 kz2
  have Bz2 : Binds K (PySem.W.fnOf "_law_at" "_law_at" (zaag sz2) (zaaf sz2) (zaab sz2) .none kVz2 dcz2 pmz2 anz2 cdz2 ctz2) ["_law_script", "_law_k"] [] := .all fun us hl => match us, hl with | [_, _], _ => rfl
  have Fz9 := zaak (st := sz9) lz9 cz9 kz9
  have Bz9 : Binds K (PySem.W.fnOf "_law_stir" "_law_stir" (zaag sz9) (zaaf sz9) (zaab sz9) .none kVz9 dcz9 pmz9 anz9 cdz9 ctz9) ["_law_script", "_law_many"] [] := .all fun us hl => match us, hl with | [_, _], _ => rfl
  have Fz4 := zaak (st := sz4) lz4 cz4 kz4
  have Bz4 : Binds K (PySem.W.fnOf "_law_gcd" "_law_gcd" (zaag sz4) (zaaf sz4) (zaab sz4) .none kVz4 dcz4 pmz4 anz4 cdz4 ctz4) ["_law_one", "_law_two"] [] := .all fun us hl => match us, hl with | [_, _], _ => rfl
  have Fz11 := zaak (st := sz11) lz11 cz11 kz11
  have Bz11 : Binds K (PySem.W.fnOf "_law_strides" "_law_strides" (zaag sz11) (zaaf sz11) (zaab sz11) .none kVz11 dcz11 pmz11 anz11 cdz11 ctz11) ["_law_row", "_law_at_here", "_law_many"] [] := .all fun us hl => match us, hl with | [_, _, _], _ => rfl
  have Fz8 := zaak (st := sz8) lz8 cz8 kz8
  have Bz8 : Binds K (PySem.W.fnOf "_law_simple" "_law_simple" (zaag sz8) (zaaf sz8) (zaab sz8) .none kVz8 dcz8 pmz8 anz8 cdz8 ctz8) ["_law_row", "_law_many"] [] := .all fun us hl => match us, hl with | [_, _], _ => rfl
  have Fz12 := zaak (st := sz12) lz12 cz12 kz12
  have Bz12 : Binds K (PySem.W.fnOf "_law_swung" "_law_swung" (zaag sz12) (zaaf sz12) (zaab sz12) .none kVz12 dcz12 pmz12 anz12 cdz12 ctz12) ["_law_line", "_law_cell"] [] := .all fun us hl => match us, hl with | [_, _], _ => rfl
  have Fz7 := zaak (st := sz7) lz7 cz7 kz7
  have Bz7 : Binds K (PySem.W.fnOf "_law_root" "_law_root" (zaag sz7) (zaaf sz7) (zaab sz7) .none kVz7 dcz7 pmz7 anz7 cdz7 ctz7) ["_law_number"] [] := .all fun us hl => match us, hl with | [_], _ => rfl
  have Fz13 := zaak (st := sz13) lz13 cz13 kz13
  have Bz13 : Binds K (PySem.W.fnOf "_law_twice" "_law_twice" (zaag sz13) (zaaf sz13) (zaab sz13) .none kVz13 dcz13 pmz13 anz13 cdz13 ctz13) ["_law_line"] [] := .all fun us hl => match us, hl with | [_], _ => rfl
  have Fz3 := zaak (st := sz3) lz3 cz3 kz3
  have Bz3 : Binds K (PySem.W.fnOf "_law_fraction" "_law_fraction" (zaag sz3) (zaaf sz3) (zaab sz3) .none kVz3 dcz3 pmz3 anz3 cdz3 ctz3) ["_law_found"] [] := .all fun us hl => match us, hl with | [_], _ => rfl
  have Fz6 := zaak (st := sz6) lz6 cz6 kz6
  have Bz6 : Binds K (PySem.W.fnOf "_law_on_hem" "_law_on_hem" (zaag sz6) (zaaf sz6) (zaab sz6) .none kVz6 dcz6 pmz6 anz6 cdz6 ctz6) ["_law_line", "_law_k", "_law_side", "_law_point", "_law_breadth"] [] := .all fun us hl => match us, hl with | [_, _, _, _, _], _ => rfl
  have Fz10 := zaak (st := sz10) lz10 cz10 kz10
  have Bz10 : Binds K (PySem.W.fnOf "_law_straight" "_law_straight" (zaag sz10) (zaaf sz10) (zaab sz10) .none kVz10 dcz10 pmz10 anz10 cdz10 ctz10) ["_law_line", "_law_k", "_law_point"] [] := .all fun us hl => match us, hl with | [_, _, _], _ => rfl
  have Fz5 := zaak (st := sz5) lz5 cz5 kz5
  have Bz5 : Binds K (PySem.W.fnOf "_law_hems" "_law_hems" (zaag sz5) (zaaf sz5) (zaab sz5) .none kVz5 dcz5 pmz5 anz5 cdz5 ctz5) ["_law_line", "_law_found", "_law_breadth"] [] := .all fun us hl => match us, hl with | [_, _, _], _ => rfl
  have F_law := zaak (st := s_law) l_law c_law k_law
  have B_law : Binds K (PySem.W.fnOf "law" "law" (zaag s_law) (zaaf s_law) (zaab s_law) .none kV_law dc_law pm_law an_law cd_law ct_law) ["_law_script"] [] := .all fun us hl => match us, hl with | [_], _ => rfl
  let T : Txt K mg := ⟨ez1, PySem.W.mg_of X Gn aez1, ez0, PySem.W.mg_of X Gn aez0, qez0, fz17, _, Fz17, Bz17, PySem.W.mg_of X Gn az17, kz17, fz29, _, Fz29, Bz29, PySem.W.mg_of X Gn az29, kz29, fz28, _, Fz28, Bz28, PySem.W.mg_of X Gn az28, kz28, fz26, _, Fz26, Bz26, PySem.W.mg_of X Gn az26, kz26, fz19, _, Fz19, Bz19, PySem.W.mg_of X Gn az19, kz19, fz30, _, Fz30, Bz30, PySem.W.mg_of X Gn az30, kz30, fz25, _, Fz25, Bz25, PySem.W.mg_of X Gn az25, kz25, fz34, _, Fz34, Bz34, PySem.W.mg_of X Gn az34, kz34, fz15, _, Fz15, Bz15, PySem.W.mg_of X Gn az15, kz15, fz31, _, Fz31, Bz31, PySem.W.mg_of X Gn az31, kz31, fz36, _, Fz36, Bz36, PySem.W.mg_of X Gn az36, kz36, fz21, _, Fz21, Bz21, PySem.W.mg_of X Gn az21, kz21, fz18, _, Fz18, Bz18, PySem.W.mg_of X Gn az18, kz18, fz23, _, Fz23, Bz23, PySem.W.mg_of X Gn az23, kz23, fz27, _, Fz27, Bz27, PySem.W.mg_of X Gn az27, kz27, fz24, _, Fz24, Bz24, PySem.W.mg_of X Gn az24, kz24, fz20, _, Fz20, Bz20, PySem.W.mg_of X Gn az20, kz20, fz16, _, Fz16, Bz16, PySem.W.mg_of X Gn az16, kz16, fz35, _, Fz35, Bz35, PySem.W.mg_of X Gn az35, kz35, fz32, _, Fz32, Bz32, PySem.W.mg_of X Gn az32, kz32, fz33, _, Fz33, Bz33, PySem.W.mg_of X Gn az33, kz33, fz22, _, Fz22, Bz22, PySem.W.mg_of X Gn az22, kz22, fz14, _, Fz14, Bz14, PySem.W.mg_of X Gn az14, kz14, fz2, _, Fz2, Bz2, PySem.W.mg_of X Gn az2, kz2, fz9, _, Fz9, Bz9, PySem.W.mg_of X Gn az9, kz9, fz4, _, Fz4, Bz4, PySem.W.mg_of X Gn az4, kz4, fz11, _, Fz11, Bz11, PySem.W.mg_of X Gn az11, kz11, fz8, _, Fz8, Bz8, PySem.W.mg_of X Gn az8, kz8, fz12, _, Fz12, Bz12, PySem.W.mg_of X Gn az12, kz12, fz7, _, Fz7, Bz7, PySem.W.mg_of X Gn az7, kz7, fz13, _, Fz13, Bz13, PySem.W.mg_of X Gn az13, kz13, fz3, _, Fz3, Bz3, PySem.W.mg_of X Gn az3, kz3, fz6, _, Fz6, Bz6, PySem.W.mg_of X Gn az6, kz6, fz10, _, Fz10, Bz10, PySem.W.mg_of X Gn az10, kz10, fz5, _, Fz5, Bz5, PySem.W.mg_of X Gn az5, kz5, fa, _, F_law, B_law, PySem.W.mg_of X Gn a_law, k_law, PySem.W.mg_none_of X Gn z_abs, PySem.W.mg_none_of X Gn z_bool, PySem.W.mg_none_of X Gn z_enumerate, PySem.W.mg_none_of X Gn z_int, PySem.W.mg_none_of X Gn z_isinstance, PySem.W.mg_none_of X Gn z_len, PySem.W.mg_none_of X Gn z_list, PySem.W.mg_none_of X Gn z_max, PySem.W.mg_none_of X Gn z_range, PySem.W.mg_none_of X Gn z_sorted, PySem.W.mg_none_of X Gn z_tuple⟩
  exact ⟨PySem.W.fnOf "law" "law" (zaag s_law) (zaaf s_law) (zaab s_law) .none kV_law dc_law pm_law an_law cd_law ct_law, Gof T, fun s v => .of_eq rfl, fun base _ _ => fn_top (all (base := base) (P := l.prog) (w := w) T 16).o_law⟩
theorem zae9 : ∀ {K : List (Addr × Obj)} {a : Addr} {o : Obj}, K.lookup a = some o → (a, o) ∈ K
  | [], a, o, h => by cases h
  | (b, u) :: r, a, o, h => by
    rw [List.lookup_cons] at h
    split at h
    · rename_i hb
      cases h
      rw [beq_iff_eq.mp hb]
      exact List.mem_cons_self
    · exact List.mem_cons_of_mem _ (zae9 h)
def noLst (K : PySem.W.Frag) : Bool := K.all fun p => match p.2.cls with | .type n => n != "list" | _ => true
theorem noLst_no {K : PySem.W.Frag} (h : noLst K = true) {a : Addr} {o : Obj} (e : K.lookup a = some o) (hc : o.cls = .type "list") : False := by
  have hm := zae9 e
  have q := List.all_eq_true.mp h _ hm
  rw [show (a, o).2.cls = .type "list" from hc] at q
  simp at q
theorem zaba {G : Gx} {w : Wo} {H : Hp} : ∀ ns : List Int, Reps G w H (ns.map T.int) (ns.map V.int)
  | [] => rfl
  | n :: r => ⟨.int n, _, rfl, rfl, zaba r⟩
theorem walk (M : Math) {l : PySem.W.OpenLaw} {q : Program} {loose : List Str} {XP : (Str → Option Value) → Heap → Prop} {YP : World → Heap → Prop} {d : DefRec} {K : Params → PySem.W.Frag} (hn : l.most = some 63) (hdf : d.params.defaults = [])
    (hY : ∀ (w : World) (h : Heap), YP w h → (K w.params).In h) (hK : ∀ w : World, noLst (K w.params) = true)
    (F : ∀ (w : World) (mg : Str → Option Value) (fa : Addr) (h : Heap), (K w.params).In h → h.Ns mainGlobals mg → mg d.name = some (.ref fa) →
      ∃ (fd : FuncData) (G : Gx), (∀ (s : Shared) (u : Value), BindsTo s fd ⟨[u], []⟩ [("_law_script", u)]) ∧ ∀ base : Heap, (K w.params).In base → base.Ns mainGlobals mg → FnOk l.prog w (K w.params) mg base CX0 32 fa fd ["_law_script"] (spTop G)) :
    PySem.W.WalkO q loose XP YP l.row.toRowW d [] (fun f vs => PySem.call f vs) := by
  refine L2.walk_of (n := 63) (k := 32) (x := "_law_script") (CX := fun _ => CX0) (sp := fun w => fun vs H Q E => ∃ (a : Addr) (ns : List Int), vs = [.ref a] ∧ ns.length ≤ 63 ∧ Rd H a (.lst (ns.map V.int)) ∧ ∀ H', Q (.bl true) H') hn (by decide) hdf ⟨rfl, by decide, by decide⟩ hY (fun w mg fa h a b c => ?_) (fun w H a ns hl hO hS => ?_) fun _ _ _ _ _ z => z
  · obtain ⟨fd, G, hb, hF⟩ := F w mg fa h a b c
    refine ⟨fd, hb, fun base kb nb => ?_⟩
    have hf := hF base kb nb
    refine ⟨fun vs H Q E ⟨a, ns, e, _⟩ => by subst e; rfl, fun A outer s H args us vs Q E hr e0 hb hv ⟨a, ns, e, hl, hR, hq⟩ => hf.run A outer s H args us vs Q E hr e0 hb hv ?_⟩
    subst e
    obtain ⟨st, e⟩ := M ns hl
    refine ⟨⟨0, fun _ => 0, fun b => b = a⟩, [], [.val (.lst (ns.map .int))], ⟨rfl, fun l m h => absurd h (Nat.not_lt_zero _), fun l h => absurd h (Nat.not_lt_zero _), fun l c h => by simp at h, fun b hb => ⟨ns.map V.int, by have hb : b = a := hb; subst hb; exact hR⟩⟩, ⟨.ref a, [], rfl, ⟨a, _, rfl, rfl, hR, zaba ns⟩, rfl⟩, ?_⟩
    rw [e]
    exact ⟨fun _ w' H' v _ _ r => by cases r; exact hq _, fun z => by cases z⟩
  · have hR : Rd H a (.lst (ns.map V.int)) := hS.elim id fun ⟨o, _, _, e, hc, _⟩ => (noLst_no (hK w) e hc).elim
    exact ⟨a, ns, rfl, hl, hR, fun _ => rfl⟩
end Pg
end IP
end
section
set_option Elab.async false
set_option linter.all false
set_option maxRecDepth 100000
namespace IP
open L2
theorem zaah {i j : Int} (h : i.natAbs < 2 ^ 64) : mulB i j = true := by
  unfold mulB
  simp [h]
theorem mulB_r {i j : Int} (h : j.natAbs < 2 ^ 64) : mulB i j = true := by
  unfold mulB
  simp [h]
section
variable {x f : Bool} {σ : Fr} {s : Sto} {i j : Int} {ts us : List T} {t a b c d : T} {r : R}
@[simp] theorem leave_ret : leave x false (.ret r s) = .ok r s := rfl
@[simp] theorem leave_retO : leave x true (.retO ts s) = .ok (.val (.lst ts)) s := rfl
@[simp] theorem leave_next : leave x false (.next σ s) = .ok (.val .non) s := rfl
@[simp] theorem onB_bl (b : Bool) (m n : Res R) : onB (.val (.bl b)) m n = if b = true then m else n := by cases b <;> rfl
@[simp] theorem onBS_bl (b : Bool) (m n : SR) : onBS (.val (.bl b)) m n = if b = true then m else n := by cases b <;> rfl
@[simp] theorem onI_int (g : Int → Res R) : onI (.val (.int i)) g = g i := rfl
@[simp] theorem onV_val (g : T → Res (List T)) : onV (.val t) g = g t := rfl
@[simp] theorem onL_lst (g : List T → Res R) : onL (.val (.lst ts)) g = g ts := rfl
@[simp] theorem onO_some {α β : Type} (v : α) (g : α → Res β) : onO (some v) g = g v := rfl
@[simp] theorem int_int : (R.val (.int i)).int? = some i := rfl
@[simp] theorem val_val : (R.val t).val? = some t := rfl
@[simp] theorem val_bor : (R.bor ts).val? = none := rfl
@[simp] theorem lst_lst : (R.val (.lst ts)).lst? = some ts := rfl
@[simp] theorem seq_lst : (R.val (.lst ts)).seq = some ts := rfl
@[simp] theorem seq_bor : (R.bor ts).seq = some ts := rfl
@[simp] theorem sq2_lst : (R.val (.lst ts)).sq2 = some ts := rfl
@[simp] theorem sq2_tup : (R.val (.tup ts)).sq2 = some ts := rfl
@[simp] theorem sq2_bor : (R.bor ts).sq2 = some ts := rfl
@[simp] theorem sq3_lst : (R.val (.lst ts)).sq3 = some ts := rfl
@[simp] theorem sq3_tup : (R.val (.tup ts)).sq3 = some ts := rfl
@[simp] theorem tru_bl (b : Bool) : tru (.val (.bl b)) = some b := rfl
@[simp] theorem tru_int : tru (.val (.int i)) = some (i != 0) := rfl
@[simp] theorem one_ok : one (.ok (.val t) s) = .ok (some t) s := rfl
@[simp] theorem st_ite {p : Prop} [Decidable p] (m n : Res R) (k : R → Sto → SR) : (if p then m else n).st σ k = if p then m.st σ k else n.st σ k := by split <;> rfl
@[simp] theorem bind_ite {α β : Type} {p : Prop} [Decidable p] (m n : Res α) (k : α → Sto → Res β) : (if p then m else n).bind k = if p then m.bind k else n.bind k := by split <;> rfl
@[simp] theorem leave_ite {p : Prop} [Decidable p] (m n : SR) : leave x f (if p then m else n) = if p then leave x f m else leave x f n := by split <;> rfl
@[simp] theorem sbind_ite {p : Prop} [Decidable p] (m n : SR) (k : Fr → Sto → SR) : (if p then m else n).bind k = if p then m.bind k else n.bind k := by split <;> rfl
@[simp] theorem unlock_ite {p : Prop} [Decidable p] (m n : SR) (i : Nat) : (if p then m else n).unlock i = if p then m.unlock i else n.unlock i := by split <;> rfl
@[simp] theorem unlock_ret (v : R) (i : Nat) : (SR.ret v s).unlock i = .ret v s := rfl
@[simp] theorem unlock_next (i : Nat) : (SR.next σ s).unlock i = .next (IP.unlock σ i) s := rfl
@[simp] theorem op_add : opR .add (.val (.int i)) (.val (.int j)) = some (.val (.int (i + j))) := rfl
@[simp] theorem op_sub : opR .sub (.val (.int i)) (.val (.int j)) = some (.val (.int (i - j))) := rfl
theorem op_mul (h : mulB i j = true) : opR .mul (.val (.int i)) (.val (.int j)) = some (.val (.int (i * j))) := by simp [opR, opI, h]
theorem op_mod (h : 0 < j) : opR .mod (.val (.int i)) (.val (.int j)) = some (.val (.int (Int.fmod i j))) := by simp [opR, opI, show j ≠ 0 by omega]
theorem big_64 : (2 : Nat) ^ 64 < big := by unfold big; decide +kernel
theorem zabe (h : 0 < j) (hb : j < 2 ^ 64) : opR .fdiv (.val (.int i)) (.val (.int j)) = some (.val (.int (Int.fdiv i j))) := by
  have : j.natAbs < big := Nat.lt_trans (by omega) big_64
  simp [opR, opI, show j ≠ 0 by omega, this]
@[simp] theorem cm_lt : cmpR .lt (.val (.int i)) (.val (.int j)) = some (decide (i < j)) := rfl
@[simp] theorem cm_le : cmpR .le (.val (.int i)) (.val (.int j)) = some (decide (i ≤ j)) := rfl
@[simp] theorem cm_gt : cmpR .gt (.val (.int i)) (.val (.int j)) = some (decide (j < i)) := rfl
@[simp] theorem cm_ge : cmpR .ge (.val (.int i)) (.val (.int j)) = some (decide (j ≤ i)) := rfl
@[simp] theorem cm_eq : cmpR .eq (.val a) (.val b) = eqD 8 a b := rfl
@[simp] theorem cm_ne : cmpR .ne (.val a) (.val b) = (eqD 8 a b).map (!·) := rfl
@[simp] theorem cm_isN : cmpR .isN r (.val .non) = some r.isNon := rfl
@[simp] theorem cm_notN : cmpR .notN r (.val .non) = some (!r.isNon) := rfl
@[simp] theorem eq_int : eqD 8 (.int i) (.int j) = some (i == j) := by simp [eqD]
@[simp] theorem sub_2a : subR (.val (.tup [a, b])) 0 = some a := rfl
@[simp] theorem sub_2b : subR (.val (.tup [a, b])) 1 = some b := rfl
theorem sub_at {n : Nat} (h : ts[n]? = some t) : subR (.val (.lst ts)) (n : Int) = some t := by
  have hl := (List.getElem?_eq_some_iff.mp h).1
  have h2 := (List.getElem?_eq_some_iff.mp h).2
  simp [subR, L2.atI, L2.ixN, hl, h2]
@[simp] theorem b1_len_lst : b1R .len (.val (.lst ts)) = some (.val (.int ts.length)) := rfl
@[simp] theorem b1_len_tup : b1R .len (.val (.tup ts)) = some (.val (.int ts.length)) := rfl
@[simp] theorem b1_len_bor : b1R .len (.bor ts) = some (.val (.int ts.length)) := rfl
@[simp] theorem b1_abs : b1R .abs (.val (.int i)) = some (.val (.int (if i < 0 then -i else i))) := rfl
@[simp] theorem b1_list : b1R .list (.val (.lst ts)) = some (.val (.lst ts)) := rfl
@[simp] theorem b1_sorted2 : b1R .sorted (.val (.lst [.int i, .int j])) = some (.val (.lst [.int (min i j), .int (max i j)])) := by
  by_cases h : j < i
  · simp [b1R, asInts, sortI, insI, h, show min i j = j by omega, show max i j = i by omega]
  · simp [b1R, asInts, sortI, insI, h, show min i j = i by omega, show max i j = j by omega]
@[simp] theorem b1_max2 : b1R .max (.val (.lst [.int i, .int j])) = some (.val (.int (max i j))) := by
  have h : b1R .max (.val (.lst [.int i, .int j])) = some (.val (.int (if j > i then j else i))) := rfl
  rw [h, show (if j > i then j else i) = max i j by split <;> omega]
@[simp] theorem b1_min2 : b1R .min (.val (.lst [.int i, .int j])) = some (.val (.int (min i j))) := by
  have h : b1R .min (.val (.lst [.int i, .int j])) = some (.val (.int (if j < i then j else i))) := rfl
  rw [h, show (if j < i then j else i) = min i j by split <;> omega]
@[simp] theorem sub_l2a : subR (.val (.lst [a, b])) 0 = some a := rfl
@[simp] theorem sub_l2b : subR (.val (.lst [a, b])) 1 = some b := rfl
end
theorem ex_for {C : Cf} {g : Tg} {it : E} {b : List S} {σ : Fr} {s s1 : Sto} {ts : List T} (h : ev C it .j σ s = .ok (.val (.lst ts)) s1) (hit : ∀ i, it ≠ .var i) : ex C (.for_ g it b) σ s = forL g (fun σ s => exs C b σ s) ts σ s1 := by
  have e : ex C (.for_ g it b) σ s = (ev C it .j σ s).st σ fun x s1 => onS x.lst? fun ts => forL g (fun σ s => exs C b σ s) ts σ s1 := by
    cases it <;> first | rfl | exact absurd rfl (hit _)
  rw [e, h]
  rfl
theorem lim_ge : 1000 ≤ lim := by decide
theorem lim_ge' : (1000 : Int) ≤ (lim : Int) := Int.ofNat_le.mpr lim_ge
theorem rng_a {j : Int} (h : j ≤ 1000) : decide (j ≤ (lim : Int)) = true := decide_eq_true (Int.le_trans h lim_ge')
theorem rng_b {n : Nat} (h : n ≤ 1000) : bnd (n : Int) = true := by
  unfold bnd
  simp
  omega
theorem ev_rng1' {C : Cf} {a : E} {σ : Fr} {s s1 : Sto} {j : Int} (h : ev C a .v σ s = .ok (.val (.int j)) s1) : ev C (.rng1 a) .j σ s = if bnd j && decide (j ≤ lim) then .ok (.val (.lst (rangeT 0 j))) s1 else .stuck := by
  unfold ev
  rw [h]
  rfl
theorem ev_rng2' {C : Cf} {a b : E} {σ : Fr} {s s1 s2 : Sto} {i j : Int} (h : ev C a .v σ s = .ok (.val (.int i)) s1) (h' : ev C b .v σ s1 = .ok (.val (.int j)) s2) : ev C (.rng2 a b) .j σ s = if bnd i && bnd j && decide (j - i ≤ lim) then .ok (.val (.lst (rangeT i j))) s2 else .stuck := by
  unfold ev
  rw [h]
  show (ev C b .v σ s1).bind _ = _
  rw [h']
  rfl
theorem ite_t {α : Type} {b : Bool} {x y : α} (h : b = true) : (if b then x else y) = x := by rw [h]; rfl
theorem and_t {a b : Bool} (h : a = true) (h' : b = true) : (a && b) = true := by rw [h, h']; rfl
theorem zabu {C : Cf} {a : E} {σ : Fr} {s s1 : Sto} {n : Nat} (h : ev C a .v σ s = .ok (.val (.int (n : Int))) s1) (hn : n ≤ 1000) : ev C (.rng1 a) .j σ s = .ok (.val (.lst (rangeT 0 n))) s1 :=
  (ev_rng1' h).trans (ite_t (and_t (rng_b hn) (rng_a (Int.ofNat_le.mpr hn))))
theorem ev_rng2 {C : Cf} {a b : E} {σ : Fr} {s s1 s2 : Sto} {m n : Nat} (h : ev C a .v σ s = .ok (.val (.int (m : Int))) s1) (h' : ev C b .v σ s1 = .ok (.val (.int (n : Int))) s2) (hm : m ≤ 1000) (hn : n ≤ 1000) : ev C (.rng2 a b) .j σ s = .ok (.val (.lst (rangeT m n))) s2 :=
  (ev_rng2' h h').trans (ite_t (and_t (and_t (rng_b hm) (rng_b hn)) (rng_a (by omega))))
theorem evi_rng1' {C : Cf} {a : E} {σ : Fr} {s s1 : Sto} {j : Int} (h : ev C a .v σ s = .ok (.val (.int j)) s1) : ev C (.rng1 a) .i σ s = if bnd j && decide (j ≤ lim) then .ok (.val (.lst (rangeT 0 j))) s1 else .stuck := by
  unfold ev
  rw [h]
  rfl
theorem evi_rng1 {C : Cf} {a : E} {σ : Fr} {s s1 : Sto} {n : Nat} (h : ev C a .v σ s = .ok (.val (.int (n : Int))) s1) (hn : n ≤ 1000) : ev C (.rng1 a) .i σ s = .ok (.val (.lst (rangeT 0 n))) s1 :=
  (evi_rng1' h).trans (ite_t (and_t (rng_b hn) (rng_a (Int.ofNat_le.mpr hn))))
theorem ex_ret {C : Cf} {e : E} {σ : Fr} {s s1 : Sto} {r : R} (h : ev C e .v σ s = .ok r s1) : ex C (.ret e) σ s = .ret r s1 := by unfold ex; rw [h]; rfl
theorem ex_asg {C : Cf} {e : E} {i : Nat} {σ : Fr} {s s1 : Sto} {t : T} (h : ev C e .v σ s = .ok (.val t) s1) : ex C (.asg i e) σ s = .next (put σ i t) s1 := by unfold ex; rw [h]; rfl
theorem ev_comp {C : Cf} {e it : E} {g : Tg} {σ : Fr} {s s1 s2 : Sto} {ts q : List T} (h : ev C it .i σ s = .ok (.val (.lst ts)) s1) (h2 : mapRes (fun t s => onO (bindTg σ g t) fun σ' => one (ev C e .v σ' s)) ts s1 = .ok q s2) : ev C (.comp e g it) .v σ s = .ok (.val (.lst q)) s2 := by
  unfold ev
  rw [h]
  show (mapRes (fun t s => onO (bindTg σ g t) fun σ' => one (ev C e .v σ' s)) ts s1).bind _ = _
  rw [h2]
  rfl
theorem zae4 {C : Cf} {a : S} {r : List S} {σ : Fr} {s : Sto} : exs C (a :: r) σ s = (ex C a σ s).bind fun σ1 s1 => exs C r σ1 s1 := by simp only [exs]
theorem zaac {C : Cf} {a : S} {r : List S} {σ σ1 : Fr} {s s1 : Sto} (h : ex C a σ s = .next σ1 s1) : exs C (a :: r) σ s = exs C r σ1 s1 := by rw [zae4, h]; rfl
theorem zacw {C : Cf} {a : S} {r : List S} {σ : Fr} {s s1 : Sto} {v : R} (h : ex C a σ s = .ret v s1) : exs C (a :: r) σ s = .ret v s1 := by rw [zae4, h]; rfl
@[simp] theorem rngM_j (m : Res R) : rngM .j m = m := rfl
@[simp] theorem rngM_i (m : Res R) : rngM .i m = m := rfl
section
variable {g : Tg} {body : Fr → Sto → SR} {s : Sto}
theorem zaa1 (I : Nat → Fr → Prop) : ∀ (ts : List T) (n : Nat) (σ : Fr), I n σ → (∀ (m : Nat) (t : T) (σ : Fr), ts[m]? = some t → I (n + m) σ → ∃ σ1 σ2, bindTg σ g t = some σ1 ∧ body σ1 s = .next σ2 s ∧ I (n + m + 1) σ2) →
    ∃ σ', forL g body ts σ s = .next σ' s ∧ I (n + ts.length) σ'
  | [], n, σ, h, _ => ⟨σ, rfl, h⟩
  | t :: ts, n, σ, h, st => by
    obtain ⟨σ1, σ2, e1, e2, e3⟩ := st 0 t σ rfl h
    obtain ⟨σ', e4, e5⟩ := zaa1 I ts (n + 1) σ2 e3 fun m u σ em hm => by
      obtain ⟨a, b, c1, c2, c3⟩ := st (m + 1) u σ (by simpa using em) (by rw [show n + (m + 1) = n + 1 + m by omega]; exact hm)
      exact ⟨a, b, c1, c2, by rw [show n + 1 + m + 1 = n + (m + 1) + 1 by omega]; exact c3⟩
    refine ⟨σ', ?_, by rw [List.length_cons, show n + (ts.length + 1) = n + 1 + ts.length by omega]; exact e5⟩
    show onS (bindTg σ g t) _ = _
    rw [e1]
    show (body σ1 s).bind _ = _
    rw [e2]
    exact e4
def firstN {α : Type} (q : Nat → Option α) : Nat → Nat → Option α
  | _, 0 => none
  | n, m + 1 => match q n with
    | some v => some v
    | none => firstN q (n + 1) m
theorem zabs (I : Nat → Fr → Prop) (q : Nat → Option R) : ∀ (ts : List T) (n : Nat) (σ : Fr), I n σ →
    (∀ (m : Nat) (t : T) (σ : Fr), ts[m]? = some t → I (n + m) σ → ∃ σ1, bindTg σ g t = some σ1 ∧ match q (n + m) with
      | some r => body σ1 s = .ret r s
      | none => ∃ σ2, body σ1 s = .next σ2 s ∧ I (n + m + 1) σ2) →
    match firstN q n ts.length with
    | some r => forL g body ts σ s = .ret r s
    | none => ∃ σ', forL g body ts σ s = .next σ' s ∧ I (n + ts.length) σ'
  | [], n, σ, h, _ => ⟨σ, rfl, h⟩
  | t :: ts, n, σ, h, st => by
    obtain ⟨σ1, e1, e2⟩ := st 0 t σ rfl h
    rw [List.length_cons]
    unfold firstN
    cases hq : q n with
    | some r =>
      rw [show n + 0 = n from rfl, hq] at e2
      show onS (bindTg σ g t) _ = _
      rw [e1]
      show (body σ1 s).bind _ = _
      rw [show body σ1 s = _ from e2]
      rfl
    | none =>
      rw [show n + 0 = n from rfl, hq] at e2
      obtain ⟨σ2, e2, e3⟩ := e2
      have ih := zabs I q ts (n + 1) σ2 e3 fun m u σ em hm => by
        obtain ⟨a, c1, c2⟩ := st (m + 1) u σ (by simpa using em) (by rw [show n + (m + 1) = n + 1 + m by omega]; exact hm)
        refine ⟨a, c1, ?_⟩
        rw [show n + (m + 1) = n + 1 + m by omega] at c2
        exact c2
      have e0 : forL g body (t :: ts) σ s = forL g body ts σ2 s := by
        show onS (bindTg σ g t) _ = _
        rw [e1]
        show (body σ1 s).bind _ = _
        rw [e2]
        rfl
      rw [e0]
      show (match firstN q (n + 1) ts.length with | some r => _ | none => _)
      cases hf : firstN q (n + 1) ts.length with
      | some r => rw [hf] at ih; exact ih
      | none =>
        rw [hf] at ih
        obtain ⟨σ', e4, e5⟩ := ih
        exact ⟨σ', e4, by rw [show n + (ts.length + 1) = n + 1 + ts.length by omega]; exact e5⟩
theorem zaao {i j : Int} {n : Nat} {t : T} (h : (rangeT i j)[n]? = some t) : t = .int (i + n) ∧ n < (j - i).toNat := by
  unfold rangeT at h
  rw [List.getElem?_map] at h
  cases e : (List.range (j - i).toNat)[n]? with
  | none => rw [e] at h; cases h
  | some m =>
    rw [e] at h
    have hn := (List.getElem?_eq_some_iff.mp e).1
    have := (List.getElem?_eq_some_iff.mp e).2
    simp at this hn
    subst this
    simp at h
    exact ⟨h.symm, by omega⟩
theorem zaas (i j : Int) : (rangeT i j).length = (j - i).toNat := by unfold rangeT; simp
end
end IP
end
section
set_option Elab.async false
set_option linter.all false
set_option maxRecDepth 100000
namespace IP
@[simp] theorem z_exs_1 : type_of% @exs.eq_1 := @exs.eq_1
@[simp] theorem z_exs_2 : type_of% @exs.eq_2 := @exs.eq_2
@[simp] theorem z_ex_1 : type_of% @ex.eq_1 := @ex.eq_1
@[simp] theorem z_ex_2 : type_of% @ex.eq_2 := @ex.eq_2
@[simp] theorem z_ex_3 : type_of% @ex.eq_3 := @ex.eq_3
@[simp] theorem z_ex_4 : type_of% @ex.eq_4 := @ex.eq_4
@[simp] theorem z_ex_8 : type_of% @ex.eq_8 := @ex.eq_8
@[simp] theorem z_ex_9 : type_of% @ex.eq_9 := @ex.eq_9
@[simp] theorem z_ex_13 : type_of% @ex.eq_13 := @ex.eq_13
@[simp] theorem z_ex_17 : type_of% @ex.eq_17 := @ex.eq_17
@[simp] theorem z_ev_1 : type_of% @ev.eq_1 := @ev.eq_1
@[simp] theorem z_ev_2 : type_of% @ev.eq_2 := @ev.eq_2
@[simp] theorem z_ev_4 : type_of% @ev.eq_4 := @ev.eq_4
@[simp] theorem z_ev_5 : type_of% @ev.eq_5 := @ev.eq_5
@[simp] theorem z_ev_6 : type_of% @ev.eq_6 := @ev.eq_6
@[simp] theorem z_ev_7 : type_of% @ev.eq_7 := @ev.eq_7
@[simp] theorem z_ev_8 : type_of% @ev.eq_8 := @ev.eq_8
@[simp] theorem z_ev_9 : type_of% @ev.eq_9 := @ev.eq_9
@[simp] theorem z_ev_10 : type_of% @ev.eq_10 := @ev.eq_10
@[simp] theorem z_ev_11 : type_of% @ev.eq_11 := @ev.eq_11
@[simp] theorem z_ev_13 : type_of% @ev.eq_13 := @ev.eq_13
@[simp] theorem z_ev_14 : type_of% @ev.eq_14 := @ev.eq_14
@[simp] theorem z_ev_15 : type_of% @ev.eq_15 := @ev.eq_15
@[simp] theorem z_ev_16 : type_of% @ev.eq_16 := @ev.eq_16
@[simp] theorem z_ev_17 : type_of% @ev.eq_17 := @ev.eq_17
@[simp] theorem z_ev_18 : type_of% @ev.eq_18 := @ev.eq_18
@[simp] theorem z_ev_20 : type_of% @ev.eq_20 := @ev.eq_20
@[simp] theorem z_ev_21 : type_of% @ev.eq_21 := @ev.eq_21
@[simp] theorem z_ev_23 : type_of% @ev.eq_23 := @ev.eq_23
@[simp] theorem z_ev_28 : type_of% @ev.eq_28 := @ev.eq_28
@[simp] theorem z_ev_29 : type_of% @ev.eq_29 := @ev.eq_29
@[simp] theorem z_ev_34 : type_of% @ev.eq_34 := @ev.eq_34
@[simp] theorem z_evs_1 : type_of% @evs.eq_1 := @evs.eq_1
@[simp] theorem z_evs_2 : type_of% @evs.eq_2 := @evs.eq_2
@[simp] theorem z_evr_1 : type_of% @evr.eq_1 := @evr.eq_1
@[simp] theorem z_evr_2 : type_of% @evr.eq_2 := @evr.eq_2
@[simp] theorem z_enter_1 : type_of% @enter.eq_1 := @enter.eq_1
@[simp] theorem z_ofR_1 : type_of% @ofR.eq_1 := @ofR.eq_1
@[simp] theorem z_ofR_2 : type_of% @ofR.eq_2 := @ofR.eq_2
@[simp] theorem z_look_1 : type_of% @look.eq_1 := @look.eq_1
@[simp] theorem z_put_1 : type_of% @put.eq_1 := @put.eq_1
section
variable {x f : Bool} {σ : Fr} {s : Sto} {i j : Int} {ts us : List T} {t a b c : T} {r : R} {l d k : Nat} {sub : Nat → Nat → Bool} {fs : List (Option T)}
@[simp] theorem dr_non : (R.val .non).dr s = .val .non := rfl
@[simp] theorem dr_bl (b : Bool) : (R.val (.bl b)).dr s = .val (.bl b) := rfl
@[simp] theorem dr_int : (R.val (.int i)).dr s = .val (.int i) := rfl
@[simp] theorem dr_tup : (R.val (.tup ts)).dr s = .val (.tup ts) := rfl
@[simp] theorem dr_lst : (R.val (.lst ts)).dr s = .val (.lst ts) := rfl
@[simp] theorem dr_exc : (R.val (.exc d)).dr s = .val (.exc d) := rfl
@[simp] theorem dr_bor : (R.bor ts).dr s = .bor ts := rfl
@[simp] theorem isx_exc : isiX sub (.val (.exc d)) (.cls k) = some (sub d k) := rfl
@[simp] theorem isx_int_int : isiX sub (.val (.int i)) .int = some true := rfl
@[simp] theorem isx_int_bool : isiX sub (.val (.int i)) .bool = some false := rfl
@[simp] theorem isx_tup_tup : isiX sub (.val (.tup ts)) .tuple = some true := rfl
@[simp] theorem isx_lst_lst : isiX sub (.val (.lst ts)) .list = some true := rfl
@[simp] theorem isx_bor_lst : isiX sub (.bor ts) .list = some true := rfl
@[simp] theorem leave_excX : leave true f (.exc d σ s) = .exc d s := rfl
@[simp] theorem nox_next : (SR.next σ s).nox = .next σ s := rfl
@[simp] theorem nox_ret : (SR.ret r s).nox = .ret r s := rfl
@[simp] theorem onN_non (m : Res R) : onN (.val .non) m = m := rfl
@[simp] theorem tup_tup : (R.val (.tup ts)).tup? = some ts := rfl
@[simp] theorem b1_int_bl (b : Bool) : b1R .int (.val (.bl b)) = some (.val (.int (if b then 1 else 0))) := rfl
@[simp] theorem b1_int_int : b1R .int (.val (.int i)) = some (.val (.int i)) := rfl
@[simp] theorem b1_list_bor : b1R .list (.bor ts) = some (.val (.lst ts)) := rfl
@[simp] theorem b1_tuple_bor : b1R .tuple (.bor ts) = some (.val (.tup ts)) := rfl
@[simp] theorem b1_tuple_lst : b1R .tuple (.val (.lst ts)) = some (.val (.tup ts)) := rfl
theorem zab9 {C : Cf} {e it : E} {i : Nat} {α : Type} (xs : List α) (g : α → T) (f : α → T) (ha : ev C it .i σ s = .ok (.val (.lst (xs.map g))) s)
    (h : ∀ x ∈ xs, ev C e .v (put σ i (g x)) s = .ok (.val (f x)) s) : ev C (.comp e (.one i) it) .v σ s = .ok (.val (.lst (xs.map f))) s := by
  refine ev_comp ha ?_
  clear ha
  induction xs with
  | nil => rfl
  | cons x xs ih =>
    have h0 := h x (by simp)
    have h1 := ih fun y hy => h y (by simp [hy])
    rw [List.map_cons, List.map_cons]
    unfold mapRes
    rw [show onO (bindTg σ (.one i) (g x)) (fun σ' => one (ev C e .v σ' s)) = .ok (some (f x)) s by show one (ev C e .v (put σ i (g x)) s) = _; rw [h0]; rfl]
    simp only [Res.bind_ok]
    rw [h1]
    rfl
end
@[simp] theorem eq_bl (a b : Bool) : eqD 8 (.bl a) (.bl b) = some (a == b) := by simp [eqD]
theorem menu4 {a b c d : Int} {z : Int} (h0 : 0 ≤ z) (h1 : z < 4) : ∃ v, (v = a ∨ v = b ∨ v = c ∨ v = d) ∧ subR (.val (.lst [.int a, .int b, .int c, .int d])) z = some (.int v) := by
  have : z = 0 ∨ z = 1 ∨ z = 2 ∨ z = 3 := by omega
  rcases this with rfl | rfl | rfl | rfl
  · exact ⟨a, by simp, rfl⟩
  · exact ⟨b, by simp, rfl⟩
  · exact ⟨c, by simp, rfl⟩
  · exact ⟨d, by simp, rfl⟩
theorem zaaj {fs : List Fn} {sub : Nat → Nat → Bool} {k f : Nat} {F : Fn} {rs : List R} {s : Sto} (hF : fs[f]? = some F) (hl : rs.length = F.pars) : run true fs sub whileL (k + 1) f rs s = leave true F.fr (exs (cfX fs sub k) F.body (enter F rs) s) := by
  conv => lhs; unfold run
  rw [hF]
  exact if_pos hl
end IP
end
section
namespace SegM
def turn (sx sy ox oy tx ty : Int) : Int := (ox - sx) * (ty - sy) - (oy - sy) * (tx - sx)
def Below (fa fb fc fd : Int) : Prop := fa < fc ∧ fa < fd ∧ fb < fc ∧ fb < fd
theorem weigh {p q r s fa fb fc fd : Int} (hp : 0 ≤ p) (hq : 0 ≤ q) (hr : 0 ≤ r) (hs : 0 ≤ s) (hk : 0 < p + q) (hrs : r + s = p + q)
    (e : p * fb + q * fa = r * fd + s * fc) : ¬ Below fa fb fc fd := by
  rintro ⟨h1, h2, h3, h4⟩
  have M : ∃ M, fa ≤ M ∧ fb ≤ M ∧ M + 1 ≤ fc ∧ M + 1 ≤ fd := ⟨max fa fb, by omega, by omega, by omega, by omega⟩
  obtain ⟨M, a1, a2, a3, a4⟩ := M
  have b1 := Int.mul_le_mul_of_nonneg_left a2 hp
  have b2 := Int.mul_le_mul_of_nonneg_left a1 hq
  have b3 := Int.mul_le_mul_of_nonneg_left a4 hr
  have b4 := Int.mul_le_mul_of_nonneg_left a3 hs
  have e1 : p * M + q * M = (p + q) * M := by grind
  have e2 : r * (M + 1) + s * (M + 1) = (r + s) * M + (r + s) := by grind
  rw [hrs] at e2
  omega
section
variable (ax ay bx by' cx cy dx dy : Int)
theorem four (u v : Int) :
    turn cx cy dx dy ax ay * (bx * u + by' * v) - turn cx cy dx dy bx by' * (ax * u + ay * v) +
      turn ax ay bx by' cx cy * (dx * u + dy * v) - turn ax ay bx by' dx dy * (cx * u + cy * v) = 0 := by
  unfold turn
  grind
theorem sums : turn cx cy dx dy ax ay - turn cx cy dx dy bx by' + turn ax ay bx by' cx cy - turn ax ay bx by' dx dy = 0 := by
  unfold turn
  grind
end
theorem signs {a b : Int} (h : a * b ≤ 0) : (0 ≤ a ∧ b ≤ 0) ∨ (a ≤ 0 ∧ 0 ≤ b) := by
  by_cases ha : 0 < a
  · left
    refine ⟨by omega, ?_⟩
    apply Classical.byContradiction
    intro hb
    have := Int.mul_pos ha (show 0 < b by omega)
    omega
  · by_cases ha0 : a = 0
    · by_cases hb : 0 ≤ b
      · right; omega
      · left; omega
    · right
      refine ⟨by omega, ?_⟩
      apply Classical.byContradiction
      intro hb
      have := Int.mul_pos (show 0 < -a by omega) (show 0 < -b by omega)
      have e : -a * -b = a * b := by grind
      omega
theorem across {ax ay bx by' cx cy dx dy u v : Int}
    (h1 : turn cx cy dx dy ax ay * turn cx cy dx dy bx by' ≤ 0) (h2 : turn ax ay bx by' cx cy * turn ax ay bx by' dx dy ≤ 0)
    (hk : turn cx cy dx dy ax ay ≠ turn cx cy dx dy bx by') :
    ¬ Below (ax * u + ay * v) (bx * u + by' * v) (cx * u + cy * v) (dx * u + dy * v) := by
  have e := four ax ay bx by' cx cy dx dy u v
  have k := sums ax ay bx by' cx cy dx dy
  generalize turn cx cy dx dy ax ay = A at *
  generalize turn cx cy dx dy bx by' = B at *
  generalize turn ax ay bx by' cx cy = C at *
  generalize turn ax ay bx by' dx dy = D at *
  generalize ax * u + ay * v = fa at *
  generalize bx * u + by' * v = fb at *
  generalize cx * u + cy * v = fc at *
  generalize dx * u + dy * v = fd at *
  rcases signs h1 with ⟨a1, a2⟩ | ⟨a1, a2⟩
  · have hC : C ≤ 0 ∧ 0 ≤ D := by
      rcases signs h2 with ⟨c1, c2⟩ | ⟨c1, c2⟩ <;> omega
    refine weigh (p := A) (q := -B) (r := -C) (s := D) a1 (by omega) (by omega) hC.2 (by omega) (by omega) ?_
    grind
  · have hC : 0 ≤ C ∧ D ≤ 0 := by
      rcases signs h2 with ⟨c1, c2⟩ | ⟨c1, c2⟩ <;> omega
    refine weigh (p := -A) (q := B) (r := C) (s := -D) (by omega) a2 hC.1 (by omega) (by omega) (by omega) ?_
    grind
theorem between {px py qx qy rx ry u v : Int} (hc : turn px py qx qy rx ry = 0) (h1 : px ≤ rx) (h2 : rx ≤ qx) (hne : px < qx) :
    ∃ s t : Int, 0 ≤ s ∧ 0 ≤ t ∧ 0 < s + t ∧ (s + t) * (rx * u + ry * v) = s * (px * u + py * v) + t * (qx * u + qy * v) := by
  refine ⟨qx - rx, rx - px, by omega, by omega, by omega, ?_⟩
  unfold turn at hc
  grind
theorem mid_le {s t fr fp fq : Int} (hs : 0 ≤ s) (ht : 0 ≤ t) (hk : 0 < s + t) (e : (s + t) * fr = s * fp + t * fq) :
    (fp ≤ fr ∨ fq ≤ fr) ∧ (fr ≤ fp ∨ fr ≤ fq) := by
  constructor
  · apply Classical.byContradiction
    intro h
    have b1 := Int.mul_le_mul_of_nonneg_left (show fr + 1 ≤ fp by omega) hs
    have b2 := Int.mul_le_mul_of_nonneg_left (show fr + 1 ≤ fq by omega) ht
    have e1 : s * (fr + 1) + t * (fr + 1) = (s + t) * fr + (s + t) := by grind
    omega
  · apply Classical.byContradiction
    intro h
    have b1 := Int.mul_le_mul_of_nonneg_left (show fp ≤ fr - 1 by omega) hs
    have b2 := Int.mul_le_mul_of_nonneg_left (show fq ≤ fr - 1 by omega) ht
    have e1 : s * (fr - 1) + t * (fr - 1) = (s + t) * fr - (s + t) := by grind
    omega
def W (p q r : Int) : Prop := (p ≤ r ∨ q ≤ r) ∧ (r ≤ p ∨ r ≤ q)
theorem W_l (p q : Int) : W p q p := by unfold W; omega
theorem W_r (p q : Int) : W p q q := by unfold W; omega
theorem W_not {fa fb fc fd r : Int} (h1 : W fa fb r) (h2 : W fc fd r) : ¬ Below fa fb fc fd := by
  unfold W at h1 h2
  unfold Below
  omega
theorem turn_swap (sx sy ox oy tx ty : Int) : turn ox oy sx sy tx ty = -turn sx sy ox oy tx ty := by
  unfold turn
  grind
theorem seg_x {cx cy dx dy px py : Int} (hc : turn cx cy dx dy px py = 0) (h1 : min cx dx ≤ px) (h2 : px ≤ max cx dx) (hne : cx ≠ dx) (u v : Int) :
    W (cx * u + cy * v) (dx * u + dy * v) (px * u + py * v) := by
  by_cases hlt : cx < dx
  · obtain ⟨s, t, hs, ht, hk, e⟩ := between (u := u) (v := v) hc (show cx ≤ px by omega) (by omega) hlt
    exact mid_le hs ht hk e
  · have hc' : turn dx dy cx cy px py = 0 := by rw [turn_swap, hc]; rfl
    obtain ⟨s, t, hs, ht, hk, e⟩ := between (u := u) (v := v) hc' (show dx ≤ px by omega) (by omega) (by omega)
    have := mid_le hs ht hk e
    unfold W
    omega
theorem mono_y {x cy dy py u v : Int} (h1 : min cy dy ≤ py) (h2 : py ≤ max cy dy) : W (x * u + cy * v) (x * u + dy * v) (x * u + py * v) := by
  by_cases hlt : cy < dy
  · exact mid_le (s := dy - py) (t := py - cy) (by omega) (by omega) (by omega) (by grind)
  · by_cases he : cy = dy
    · have : py = cy := by omega
      subst this
      exact W_l _ _
    · have := mid_le (s := cy - py) (t := py - dy) (fr := x * u + py * v) (fp := x * u + dy * v) (fq := x * u + cy * v) (by omega) (by omega) (by omega) (by grind)
      unfold W
      omega
theorem on_line {ax ay bx by' cx cy dx dy : Int} (hA : turn cx cy dx dy ax ay = 0) (hB : turn cx cy dx dy bx by' = 0) (hC : turn ax ay bx by' cx cy = 0) (hD : turn ax ay bx by' dx dy = 0)
    (x1 : min ax bx ≤ max cx dx) (x2 : min cx dx ≤ max ax bx) (y1 : min ay by' ≤ max cy dy) (y2 : min cy dy ≤ max ay by') (u v : Int) :
    ¬ Below (ax * u + ay * v) (bx * u + by' * v) (cx * u + cy * v) (dx * u + dy * v) := by
  by_cases e1 : ax = bx
  · by_cases e2 : cx = dx
    · have e3 : ax = cx := by omega
      subst e1; subst e2; subst e3
      have : (min cy dy ≤ ay ∧ ay ≤ max cy dy) ∨ (min cy dy ≤ by' ∧ by' ≤ max cy dy) ∨ (min ay by' ≤ cy ∧ cy ≤ max ay by') ∨ (min ay by' ≤ dy ∧ dy ≤ max ay by') := by omega
      rcases this with h | h | h | h
      · exact W_not (W_l _ _) (mono_y h.1 h.2)
      · exact W_not (W_r _ _) (mono_y h.1 h.2)
      · exact W_not (mono_y h.1 h.2) (W_l _ _)
      · exact W_not (mono_y h.1 h.2) (W_r _ _)
    · subst e1
      exact W_not (W_l _ _) (seg_x hA (by omega) (by omega) e2 u v)
  · by_cases e2 : cx = dx
    · subst e2
      exact W_not (seg_x hC (by omega) (by omega) e1 u v) (W_l _ _)
    · have : (min cx dx ≤ ax ∧ ax ≤ max cx dx) ∨ (min cx dx ≤ bx ∧ bx ≤ max cx dx) ∨ (min ax bx ≤ cx ∧ cx ≤ max ax bx) ∨ (min ax bx ≤ dx ∧ dx ≤ max ax bx) := by omega
      rcases this with h | h | h | h
      · exact W_not (W_l _ _) (seg_x hA h.1 h.2 e2 u v)
      · exact W_not (W_r _ _) (seg_x hB h.1 h.2 e2 u v)
      · exact W_not (seg_x hC h.1 h.2 e1 u v) (W_l _ _)
      · exact W_not (seg_x hD h.1 h.2 e1 u v) (W_r _ _)
def Common (ax ay bx by' cx cy dx dy : Int) : Prop :=
  (min ax bx ≤ max cx dx ∧ min cx dx ≤ max ax bx) ∧ (min ay by' ≤ max cy dy ∧ min cy dy ≤ max ay by') ∧
    turn cx cy dx dy ax ay * turn cx cy dx dy bx by' ≤ 0 ∧ turn ax ay bx by' cx cy * turn ax ay bx by' dx dy ≤ 0
theorem sq_zero {a : Int} (h : a * a ≤ 0) : a = 0 := by
  rcases signs h with ⟨h1, h2⟩ | ⟨h1, h2⟩ <;> omega
theorem zabq {ax ay bx by' cx cy dx dy : Int} (h : Common ax ay bx by' cx cy dx dy) (u v : Int) :
    ¬ Below (ax * u + ay * v) (bx * u + by' * v) (cx * u + cy * v) (dx * u + dy * v) := by
  obtain ⟨⟨x1, x2⟩, ⟨y1, y2⟩, h1, h2⟩ := h
  by_cases hk : turn cx cy dx dy ax ay = turn cx cy dx dy bx by'
  · have k := sums ax ay bx by' cx cy dx dy
    have k2 : turn ax ay bx by' cx cy = turn ax ay bx by' dx dy := by omega
    rw [← hk] at h1
    rw [← k2] at h2
    have a0 := sq_zero h1
    have c0 := sq_zero h2
    exact on_line a0 (by omega) c0 (by omega) x1 x2 y1 y2 u v
  · exact across h1 h2 hk
theorem zaeh {ax ay bx by' cx cy dx dy : Int} (h : Common ax ay bx by' cx cy dx dy) : Common cx cy dx dy ax ay bx by' := by
  obtain ⟨⟨x1, x2⟩, ⟨y1, y2⟩, h1, h2⟩ := h
  exact ⟨⟨x2, x1⟩, ⟨y2, y1⟩, h2, h1⟩
def PartBy (ax ay bx by' cx cy dx dy u v : Int) : Prop :=
  Below (ax * u + ay * v) (bx * u + by' * v) (cx * u + cy * v) (dx * u + dy * v) ∨ Below (cx * u + cy * v) (dx * u + dy * v) (ax * u + ay * v) (bx * u + by' * v)
theorem zaeq {ax ay bx by' cx cy dx dy : Int} (h : Common ax ay bx by' cx cy dx dy) (u v : Int) : ¬ PartBy ax ay bx by' cx cy dx dy u v := by
  rintro (q | q)
  · exact zabq h u v q
  · exact zabq (zaeh h) u v q
end SegM
end
section
namespace WayM
theorem abs_eq {a b : Int} (h : a.natAbs = b.natAbs) : a = b ∨ a = -b := by omega
theorem sq_pos_of {a b : Int} (h : ¬ (a = 0 ∧ b = 0)) : 0 < a * a + b * b := by
  have h1 : 0 ≤ a * a := by
    rcases Int.le_total 0 a with q | q
    · exact Int.mul_nonneg q q
    · have := Int.mul_nonneg (show 0 ≤ -a by omega) (show 0 ≤ -a by omega)
      have e : -a * -a = a * a := by grind
      omega
  have h2 : 0 ≤ b * b := by
    rcases Int.le_total 0 b with q | q
    · exact Int.mul_nonneg q q
    · have := Int.mul_nonneg (show 0 ≤ -b by omega) (show 0 ≤ -b by omega)
      have e : -b * -b = b * b := by grind
      omega
  by_cases ha : a = 0
  · have hb : b ≠ 0 := fun q => h ⟨ha, q⟩
    have : b * b ≠ 0 := fun q => by rcases Int.mul_eq_zero.mp q with q | q <;> omega
    omega
  · have : a * a ≠ 0 := fun q => by rcases Int.mul_eq_zero.mp q with q | q <;> omega
    omega
theorem prim {i j k l : Int} (h1 : Nat.Coprime i.natAbs j.natAbs) (h2 : Nat.Coprime k.natAbs l.natAbs) (ht : i * l = j * k) (ha : 0 < i * k + j * l) : i = k ∧ j = l := by
  have e : i.natAbs * l.natAbs = j.natAbs * k.natAbs := by
    rw [← Int.natAbs_mul, ← Int.natAbs_mul, ht]
  have d1 : i.natAbs ∣ k.natAbs := h1.dvd_of_dvd_mul_left (e ▸ Nat.dvd_mul_right _ _)
  have d2 : k.natAbs ∣ i.natAbs := h2.dvd_of_dvd_mul_right (e ▸ Nat.dvd_mul_left _ _)
  have d3 : j.natAbs ∣ l.natAbs := h1.symm.dvd_of_dvd_mul_left (e ▸ Nat.dvd_mul_right _ _)
  have d4 : l.natAbs ∣ j.natAbs := h2.symm.dvd_of_dvd_mul_right (e ▸ Nat.dvd_mul_left _ _)
  have e1 := abs_eq (Nat.dvd_antisymm d1 d2)
  have e2 := abs_eq (Nat.dvd_antisymm d3 d4)
  rcases e1 with rfl | rfl
  · rcases e2 with rfl | rfl
    · exact ⟨rfl, rfl⟩
    · have z : i * l = 0 := by grind
      rcases Int.mul_eq_zero.mp z with z | z
      · subst z
        by_cases hl : l = 0
        · subst hl; omega
        · have := sq_pos_of (a := l) (b := 0) (by omega)
          grind
      · subst z; exact ⟨rfl, by omega⟩
  · rcases e2 with rfl | rfl
    · have z : k * j = 0 := by grind
      rcases Int.mul_eq_zero.mp z with z | z
      · subst z; exact ⟨by omega, rfl⟩
      · subst z
        by_cases hk : k = 0
        · subst hk; omega
        · have := sq_pos_of (a := k) (b := 0) (by omega)
          grind
    · by_cases hk : k = 0 ∧ l = 0
      · obtain ⟨rfl, rfl⟩ := hk
        omega
      · have := sq_pos_of hk
        grind
theorem low {p q g : Int} (hg : g = (Nat.gcd p.natAbs q.natAbs : Nat)) (h0 : 0 < g) :
    ∃ i j, p = g * i ∧ q = g * j ∧ Nat.Coprime i.natAbs j.natAbs := by
  have dp : g ∣ p := by
    rw [hg]; exact Int.natAbs_dvd_natAbs.mp (by simpa using Nat.gcd_dvd_left _ _)
  have dq : g ∣ q := by
    rw [hg]; exact Int.natAbs_dvd_natAbs.mp (by simpa using Nat.gcd_dvd_right _ _)
  obtain ⟨i, hi⟩ := dp
  obtain ⟨j, hj⟩ := dq
  refine ⟨i, j, hi, hj, ?_⟩
  have e1 : p.natAbs = g.natAbs * i.natAbs := by rw [hi, Int.natAbs_mul]
  have e2 : q.natAbs = g.natAbs * j.natAbs := by rw [hj, Int.natAbs_mul]
  have e3 : g.natAbs = Nat.gcd p.natAbs q.natAbs := by omega
  rw [e1, e2, Nat.gcd_mul_left] at e3
  unfold Nat.Coprime
  have : 0 < g.natAbs := by omega
  exact Nat.eq_of_mul_eq_mul_left this (by omega)
end WayM
end
section
set_option linter.all false
set_option maxRecDepth 100000
namespace IP
namespace Pg
open L2
def pt (p : Int × Int) : T := .tup [.int p.1, .int p.2]
abbrev PT (p : Int × Int) : R := .val (pt p)
@[simp] theorem dr_pt (p : Int × Int) (s : Sto) : (R.val (pt p)).dr s = .val (pt p) := rfl
@[simp] theorem eqT_pt (p q : Int × Int) : eqD 8 (pt p) (pt q) = some (p == q) := by
  obtain ⟨a, b⟩ := p; obtain ⟨c, d⟩ := q
  simp [pt, eqD, eqL]
  rfl
@[simp] theorem subR_pt0 (p : Int × Int) : subR (.val (pt p)) 0 = some (.int p.1) := rfl
@[simp] theorem subR_pt1 (p : Int × Int) : subR (.val (pt p)) 1 = some (.int p.2) := rfl
def sml (p : Int × Int) : Prop := p.1.natAbs ≤ 2 ^ 20 ∧ p.2.natAbs ≤ 2 ^ 20
def turnZ (p q r : Int × Int) : Int := (q.1 - p.1) * (r.2 - p.2) - (q.2 - p.2) * (r.1 - p.1)
def alongZ (p q r : Int × Int) : Int := (q.1 - p.1) * (r.1 - p.1) + (q.2 - p.2) * (r.2 - p.2)
theorem zabg {a b : Int} (ha : a.natAbs ≤ 2 ^ 20) (hb : b.natAbs ≤ 2 ^ 20) : (a - b).natAbs ≤ 2 ^ 21 := by omega
theorem mul_sub {a b j : Int} (ha : a.natAbs ≤ 2 ^ 20) (hb : b.natAbs ≤ 2 ^ 20) : opR .mul (.val (.int (a - b))) (.val (.int j)) = some (.val (.int ((a - b) * j))) := op_mul (zaah (by omega))
variable {k : Nat} {s : Sto} {p q r u : Int × Int}
theorem r_turn (hp : sml p) (hq : sml q) : run true fns sub0 whileL (k + 1) 7 [PT p, PT q, PT r] s = .ok (.val (.int (turnZ p q r))) s := by
  rw [zaaj (F := ⟨3, 3, false, bz34⟩) rfl rfl]
  simp [bz34, mul_sub hq.1 hp.1, mul_sub hq.2 hp.2, turnZ]
theorem r_along (hp : sml p) (hq : sml q) : run true fns sub0 whileL (k + 1) 8 [PT p, PT q, PT r] s = .ok (.val (.int (alongZ p q r))) s := by
  rw [zaaj (F := ⟨3, 3, false, bz15⟩) rfl rfl]
  simp [bz15, mul_sub hq.1 hp.1, mul_sub hq.2 hp.2, alongZ]
theorem zaai {a b : Int} {m n : Nat} (ha : a.natAbs ≤ m) (hb : b.natAbs ≤ n) : (a * b).natAbs ≤ m * n := by
  rw [Int.natAbs_mul]
  exact Nat.mul_le_mul ha hb
theorem zaf5 (hp : sml p) (hq : sml q) (hr : sml r) : (turnZ p q r).natAbs < 2 ^ 64 := by
  have h1 := zaai (zabg hq.1 hp.1) (zabg hr.2 hp.2)
  have h2 := zaai (zabg hq.2 hp.2) (zabg hr.1 hp.1)
  unfold turnZ
  omega
def zaau (p q r : Int × Int) : Bool := decide (turnZ p q r = 0) && decide (0 < alongZ p q r)
theorem zacv (hp : sml p) (hq : sml q) : run true fns sub0 whileL (k + 2) 3 [PT p, PT q, PT r] s = .ok (.val (.bl (zaau p q r))) s := by
  rw [zaaj (F := ⟨3, 3, false, bz26⟩) rfl rfl]
  have h1 := r_turn (k := k) (s := s) (r := r) hp hq
  have h2 := r_along (k := k) (s := s) (r := r) hp hq
  simp [bz26, h1, h2, zaau]
  split <;> simp [*]
theorem zadj (hr : sml r) (hu : sml u) (hp : sml p) : run true fns sub0 whileL (k + 2) 6 [.val (.tup [pt p, pt q]), .val (.tup [pt r, pt u])] s = .ok (.val (.bl (decide (turnZ r u p * turnZ r u q ≤ 0)))) s := by
  rw [zaaj (F := ⟨2, 2, false, bz25⟩) rfl rfl]
  have h1 := r_turn (k := k) (s := s) (r := p) hr hu
  have h2 := r_turn (k := k) (s := s) (r := q) hr hu
  have h3 := op_mul (i := turnZ r u p) (j := turnZ r u q) (zaah (zaf5 hr hu hp))
  simp [bz25, h1, h2, h3]
def ax (b : Bool) (p : Int × Int) : Int := if b then p.2 else p.1
def spansB (b : Bool) (p q r u : Int × Int) : Bool := decide (min (ax b p) (ax b q) ≤ max (ax b r) (ax b u)) && decide (min (ax b r) (ax b u) ≤ max (ax b p) (ax b q))
theorem r_spans0 : run true fns sub0 whileL (k + 1) 5 [.val (.tup [pt p, pt q]), .val (.tup [pt r, pt u]), .val (.int 0)] s = .ok (.val (.bl (spansB false p q r u))) s := by
  rw [zaaj (F := ⟨3, 5, false, bz30⟩) rfl rfl]
  simp [bz30, spansB, ax]
  split <;> simp [*]
theorem r_spans1 : run true fns sub0 whileL (k + 1) 5 [.val (.tup [pt p, pt q]), .val (.tup [pt r, pt u]), .val (.int 1)] s = .ok (.val (.bl (spansB true p q r u))) s := by
  rw [zaaj (F := ⟨3, 5, false, bz30⟩) rfl rfl]
  simp [bz30, spansB, ax]
  split <;> simp [*]
def zab2 (p q r u : Int × Int) : Bool := spansB false p q r u && spansB true p q r u && decide (turnZ r u p * turnZ r u q ≤ 0) && decide (turnZ p q r * turnZ p q u ≤ 0)
theorem r_common (hp : sml p) (hq : sml q) (hr : sml r) (hu : sml u) : run true fns sub0 whileL (k + 3) 4 [.val (.tup [pt p, pt q]), .val (.tup [pt r, pt u])] s = .ok (.val (.bl (zab2 p q r u))) s := by
  rw [zaaj (F := ⟨2, 2, false, bz19⟩) rfl rfl]
  have h1 := r_spans0 (k := k + 1) (s := s) (p := p) (q := q) (r := r) (u := u)
  have h2 := r_spans1 (k := k + 1) (s := s) (p := p) (q := q) (r := r) (u := u)
  have h3 := zadj (k := k) (s := s) (p := p) (q := q) hr hu hp
  have h4 := zadj (k := k) (s := s) (p := r) (q := u) (r := p) (u := q) hp hq hr
  simp [bz19, h1, h2, h3, h4, zab2]
  cases spansB false p q r u <;> cases spansB true p q r u <;> simp
  split <;> simp [*]
variable {l : List (Int × Int)}
abbrev LN (l : List (Int × Int)) : R := .val (.lst (l.map pt))
def cor (l : List (Int × Int)) (i : Nat) : Int × Int := l.getD (i % l.length) (0, 0)
theorem zaa8 (h : 0 < l.length) (i : Nat) : (l.map pt)[i % l.length]? = some (pt (cor l i)) := by
  have := Nat.mod_lt i h
  simp [cor, List.getElem?_map, this]
theorem zacc (i n : Nat) : Int.fmod (i : Int) (n : Int) = ((i % n : Nat) : Int) := by
  rw [Int.fmod_eq_emod_of_nonneg _ (Int.natCast_nonneg n)]
  simp
theorem zacz (i : Nat) (n : Nat) (h : 0 < n) : opR .mod (.val (.int ((i : Int) + 1))) (.val (.int (n : Int))) = some (.val (.int (((i + 1) % n : Nat) : Int))) := by
  have h3 := op_mod (i := (i : Int) + 1) (j := (n : Int)) (by omega)
  rw [h3, show ((i : Int) + 1) = ((i + 1 : Nat) : Int) by omega, zacc]
theorem r_ends {i : Nat} (hi : i < l.length) : run true fns sub0 whileL (k + 1) 2 [LN l, .val (.int i)] s = .ok (.val (.tup [pt (cor l i), pt (cor l (i + 1))])) s := by
  rw [zaaj (F := ⟨2, 2, false, bz28⟩) rfl rfl]
  have h0 : 0 < l.length := by omega
  have h1 := sub_at (zaa8 h0 i)
  have h2 := sub_at (zaa8 h0 (i + 1))
  rw [Nat.mod_eq_of_lt hi] at h1
  have h3 := zacz i l.length h0
  generalize (i + 1) % l.length = m at h2 h3
  simp [bz28, h1, h2, h3]
theorem zaat (hl : ∀ p ∈ l, sml p) (i : Nat) : sml (cor l i) := by
  unfold cor
  rw [List.getD_eq_getElem?_getD]
  cases e : l[i % l.length]? with
  | none => exact ⟨by decide, by decide⟩
  | some p => exact hl p (List.mem_of_getElem? e)
def sidesB (l : List (Int × Int)) (i j : Nat) : Bool :=
  if i = j then cor l i == cor l (i + 1)
  else if j = i + 1 then zaau (cor l (i + 1)) (cor l i) (cor l (j + 1))
  else if j + 1 = l.length ∧ i = 0 then zaau (cor l i) (cor l (i + 1)) (cor l j)
  else zab2 (cor l i) (cor l (i + 1)) (cor l j) (cor l (j + 1))
theorem r_sides {i j : Nat} (hl : ∀ p ∈ l, sml p) (hij : i ≤ j) (hj : j < l.length) : run true fns sub0 whileL (k + 4) 1 [LN l, .val (.int i), .val (.int j)] s = .ok (.val (.bl (sidesB l i j))) s := by
  rw [zaaj (F := ⟨3, 5, false, bz29⟩) rfl rfl]
  have h1 := r_ends (k := k + 2) (s := s) (l := l) (i := i) (by omega)
  have h2 := r_ends (k := k + 2) (s := s) (l := l) (i := j) hj
  have h3 := zacv (k := k + 1) (s := s) (p := cor l (i + 1)) (q := cor l i) (r := cor l (j + 1)) (zaat hl _) (zaat hl _)
  have h4 := zacv (k := k + 1) (s := s) (p := cor l i) (q := cor l (i + 1)) (r := cor l j) (zaat hl _) (zaat hl _)
  have h5 := r_common (k := k) (s := s) (p := cor l i) (q := cor l (i + 1)) (r := cor l j) (u := cor l (j + 1)) (zaat hl _) (zaat hl _) (zaat hl _) (zaat hl _)
  simp [bz29, h1, h2, h3, h4, h5]
  unfold sidesB
  by_cases c1 : i = j
  · simp [c1]
  · by_cases c2 : j = i + 1
    · rw [if_neg (by omega), if_pos (by omega), if_neg c1, if_pos c2]
    · rw [if_neg (by omega), if_neg (by omega), if_neg c1, if_neg c2]
      by_cases c3 : j + 1 = l.length
      · rw [if_pos (by omega)]
        by_cases c4 : i = 0
        · rw [if_pos c4, if_pos ⟨c3, c4⟩]
        · rw [if_neg c4, if_neg (fun z => c4 z.2)]
      · rw [if_neg (by omega), if_neg (fun z => c3 z.1)]
def pairBody (f : Nat) : List S := [.for_ (.one 1) (.rng1 (.b1 .len (.var 0))) [.for_ (.one 2) (.rng2 (.var 1) (.b1 .len (.var 0))) [.ifs (.call f [.var 0, .var 1, .var 2] []) [.ret (.tup [.var 1, .var 2])] []]], .ret (.cst .non)]
def qj (p : Nat → Nat → Bool) (i j : Nat) : Option R := if p i j then some (.val (.tup [.int i, .int j])) else none
def qi (p : Nat → Nat → Bool) (n i : Nat) : Option R := firstN (qj p i) i (n - i)
def fp (p : Nat → Nat → Bool) (n : Nat) : R := (firstN (qi p n) 0 n).getD (.val .non)
theorem zaec {C : Cf} {f : Nat} {p : Nat → Nat → Bool} {i : Nat} (hp : ∀ j, i ≤ j → j < l.length → C.cf f [LN l, .val (.int i), .val (.int j)] s = .ok (.val (.bl (p i j))) s) (hi : i < l.length) (c : Option B) :
    match qi p l.length i with
    | some r => forL (.one 2) (fun σ s => exs C [.ifs (.call f [.var 0, .var 1, .var 2] []) [.ret (.tup [.var 1, .var 2])] []] σ s) (rangeT i l.length) [some (.val (.lst (l.map pt))), some (.val (.int i)), c] s = .ret r s
    | none => ∃ c', forL (.one 2) (fun σ s => exs C [.ifs (.call f [.var 0, .var 1, .var 2] []) [.ret (.tup [.var 1, .var 2])] []] σ s) (rangeT i l.length) [some (.val (.lst (l.map pt))), some (.val (.int i)), c] s = .next [some (.val (.lst (l.map pt))), some (.val (.int i)), c'] s := by
  have h := zabs (g := .one 2) (body := fun σ s => exs C [.ifs (.call f [.var 0, .var 1, .var 2] []) [.ret (.tup [.var 1, .var 2])] []] σ s) (s := s) (fun _ σ => ∃ c, σ = [some (.val (.lst (l.map pt))), some (.val (.int i)), c]) (qj p i) (rangeT i l.length) i [some (.val (.lst (l.map pt))), some (.val (.int i)), c] ⟨c, rfl⟩ ?_
  · rw [zaas, show ((l.length : Int) - (i : Int)).toNat = l.length - i by omega] at h
    unfold qi
    cases hq : firstN (qj p i) i (l.length - i) with
    | some r => rw [hq] at h; exact h
    | none =>
      rw [hq] at h
      obtain ⟨σ', e, c', rfl⟩ := h
      exact ⟨c', e⟩
  · rintro m t σ hm ⟨c, rfl⟩
    obtain ⟨rfl, hlt⟩ := zaao hm
    have hq := hp (i + m) (by omega) (by omega)
    rw [show ((i + m : Nat) : Int) = (i : Int) + (m : Int) by omega] at hq
    refine ⟨[some (.val (.lst (l.map pt))), some (.val (.int i)), some (.val (.int (i + m)))], by simp [bindTg, put], ?_⟩
    unfold qj
    cases hb : p i (i + m) with
    | true => rw [hb] at hq; simp [hq]
    | false => rw [hb] at hq; simp [hq]
theorem pairs_run {C : Cf} {f : Nat} {p : Nat → Nat → Bool} (hl : l.length ≤ 1000) (hp : ∀ i j, i ≤ j → j < l.length → C.cf f [LN l, .val (.int i), .val (.int j)] s = .ok (.val (.bl (p i j))) s) :
    exs C (pairBody f) [some (.val (.lst (l.map pt))), none, none] s = .ret (fp p l.length) s := by
  have h := zabs (g := .one 1) (body := fun σ s => exs C [.for_ (.one 2) (.rng2 (.var 1) (.b1 .len (.var 0))) [.ifs (.call f [.var 0, .var 1, .var 2] []) [.ret (.tup [.var 1, .var 2])] []]] σ s) (s := s) (fun _ σ => ∃ b c, σ = [some (.val (.lst (l.map pt))), b, c]) (qi p l.length) (rangeT 0 l.length) 0 [some (.val (.lst (l.map pt))), none, none] ⟨none, none, rfl⟩ ?_
  · rw [zaas, show ((l.length : Int) - 0).toNat = l.length by omega] at h
    unfold fp
    have e1 : ex C (.for_ (.one 1) (.rng1 (.b1 .len (.var 0))) [.for_ (.one 2) (.rng2 (.var 1) (.b1 .len (.var 0))) [.ifs (.call f [.var 0, .var 1, .var 2] []) [.ret (.tup [.var 1, .var 2])] []]]) [some (.val (.lst (l.map pt))), none, none] s = _ := ex_for (ts := rangeT 0 l.length) (s1 := s) (zabu (by simp) hl) (by intro i h; cases h)
    cases hq : firstN (qi p l.length) 0 l.length with
    | some r =>
      rw [hq] at h
      exact zacw (e1.trans h)
    | none =>
      rw [hq] at h
      obtain ⟨σ', e, b, c, rfl⟩ := h
      refine (zaac (e1.trans e)).trans ?_
      simp
  · rintro m t σ hm ⟨b, c, rfl⟩
    obtain ⟨rfl, hlt⟩ := zaao hm
    have hlt : m < l.length := by omega
    have hin := zaec (C := C) (f := f) (p := p) (i := m) (fun j h1 h2 => hp m j h1 h2) hlt c
    refine ⟨[some (.val (.lst (l.map pt))), some (.val (.int m)), c], by simp [bindTg, put], ?_⟩
    rw [show 0 + m = m by omega]
    have e1 : ex C (.for_ (.one 2) (.rng2 (.var 1) (.b1 .len (.var 0))) [.ifs (.call f [.var 0, .var 1, .var 2] []) [.ret (.tup [.var 1, .var 2])] []]) [some (.val (.lst (l.map pt))), some (.val (.int m)), c] s = _ := ex_for (ts := rangeT m l.length) (s1 := s) (ev_rng2 (s1 := s) (by simp) (by simp) (by omega) hl) (by intro i h; cases h)
    cases hq : qi p l.length m with
    | some r =>
      rw [hq] at hin
      exact zacw (e1.trans hin)
    | none =>
      rw [hq] at hin
      obtain ⟨c', e⟩ := hin
      exact ⟨_, (zaac (e1.trans e)).trans (by simp only [exs]), some (.val (.int m)), c', rfl⟩
theorem zaem (hl : ∀ p ∈ l, sml p) (hn : l.length ≤ 1000) : run true fns sub0 whileL (k + 5) 0 [LN l] s = .ok (fp (sidesB l) l.length) s := by
  rw [zaaj (F := ⟨1, 3, false, bz17⟩) rfl rfl]
  have h := pairs_run (C := cfX fns sub0 (k + 4)) (f := 1) (s := s) (l := l) (p := sidesB l) hn (fun i j h1 h2 => r_sides (k := k) hl h1 h2)
  exact congrArg (leave true false) h
end Pg
end IP
end
section
set_option linter.all false
set_option maxRecDepth 100000
set_option maxHeartbeats 0
namespace IP
namespace Pg
open L2 SegM
def fu (u v : Int) (p : Int × Int) : Int := p.1 * u + p.2 * v
def Cor1 (p q r : Int × Int) : Prop := ∃ u v, (fu u v p ≤ fu u v q ∧ fu u v q < fu u v r) ∨ (fu u v r ≤ fu u v q ∧ fu u v q < fu u v p)
def Sep2 (p q r t : Int × Int) : Prop := ∃ u v, Below (fu u v p) (fu u v q) (fu u v r) (fu u v t)
theorem Cor1.symm {p q r : Int × Int} (h : Cor1 p q r) : Cor1 r q p := by
  obtain ⟨u, v, h⟩ := h
  exact ⟨u, v, h.symm⟩
theorem fu_neg (u v : Int) (p : Int × Int) : fu (-u) (-v) p = -fu u v p := by unfold fu; grind
theorem Sep2.swap {p q r t : Int × Int} (h : Sep2 p q r t) : Sep2 r t p q := by
  obtain ⟨u, v, h⟩ := h
  refine ⟨-u, -v, ?_⟩
  simp only [fu_neg]
  unfold Below at h ⊢
  omega
theorem Sep2.flip {p q r t : Int × Int} (h : Sep2 p q r t) : Sep2 q p t r := by
  obtain ⟨u, v, h⟩ := h
  refine ⟨u, v, ?_⟩
  unfold Below at h ⊢
  omega
theorem no_com {p q r t : Int × Int} (h : Sep2 p q r t) : zab2 p q r t = false := by
  obtain ⟨u, v, h⟩ := h
  cases hb : zab2 p q r t with
  | false => rfl
  | true =>
    exfalso
    simp only [zab2, spansB, ax, Bool.and_eq_true, decide_eq_true_eq, Bool.false_eq_true, if_false, if_true] at hb
    obtain ⟨⟨⟨⟨a1, a2⟩, a3, a4⟩, a5⟩, a6⟩ := hb
    have hc : Common p.1 p.2 q.1 q.2 r.1 r.2 t.1 t.2 := ⟨⟨a1, a2⟩, ⟨a3, a4⟩, a5, a6⟩
    exact zaeq hc u v (.inl h)
theorem no_tog {p q r : Int × Int} (h : Cor1 p q r) : zaau q p r = false := by
  obtain ⟨u, v, h⟩ := h
  cases hb : zaau q p r with
  | false => rfl
  | true =>
    exfalso
    simp only [zaau, Bool.and_eq_true, decide_eq_true_eq] at hb
    obtain ⟨h1, h2⟩ := hb
    unfold turnZ at h1
    unfold alongZ at h2
    unfold fu at h
    generalize ea : p.1 - q.1 = a at *
    generalize eb : p.2 - q.2 = b at *
    generalize ec : r.1 - q.1 = c at *
    generalize ed : r.2 - q.2 = d at *
    have hp : p.1 * u + p.2 * v = q.1 * u + q.2 * v + (a * u + b * v) := by grind
    have hr : r.1 * u + r.2 * v = q.1 * u + q.2 * v + (c * u + d * v) := by grind
    rw [hp, hr] at h
    have e1 : (a * c + b * d) * (a * u + b * v) = (a * a + b * b) * (c * u + d * v) := by grind
    have na : 0 < a * a + b * b := by
      apply WayM.sq_pos_of
      rintro ⟨rfl, rfl⟩
      omega
    rcases h with ⟨x, y⟩ | ⟨x, y⟩
    · have z1 := Int.mul_pos na (show 0 < c * u + d * v by omega)
      have z2 := Int.mul_nonneg (show 0 ≤ a * c + b * d by omega) (show 0 ≤ -(a * u + b * v) by omega)
      have z3 : (a * c + b * d) * -(a * u + b * v) = -((a * c + b * d) * (a * u + b * v)) := by grind
      omega
    · have z1 := Int.mul_pos h2 (show 0 < a * u + b * v by omega)
      have z2 := Int.mul_nonneg (show 0 ≤ a * a + b * b by omega) (show 0 ≤ -(c * u + d * v) by omega)
      have z3 : (a * a + b * b) * -(c * u + d * v) = -((a * a + b * b) * (c * u + d * v)) := by grind
      omega
def sm (f : Nat → Int) : Nat → Int
  | 0 => 0
  | m + 1 => sm f m + f m
theorem zaa5 {f g : Nat → Int} : ∀ m, (∀ i, i < m → f i = g i) → sm f m = sm g m
  | 0, _ => rfl
  | m + 1, h => by
    unfold sm
    rw [zaa5 m fun i hi => h i (by omega), h m (by omega)]
theorem zadv (f : Nat → Int) : ∀ m, sm f (m + 1) = f 0 + sm (fun i => f (i + 1)) m
  | 0 => by simp [sm]
  | m + 1 => by
    have := zadv f m
    have e1 : sm f (m + 1 + 1) = sm f (m + 1) + f (m + 1) := rfl
    have e2 : sm (fun i => f (i + 1)) (m + 1) = sm (fun i => f (i + 1)) m + f (m + 1) := rfl
    omega
theorem sm_rev (f : Nat → Int) : ∀ m, sm (fun i => f (m - 1 - i)) m = sm f m
  | 0 => rfl
  | m + 1 => by
    rw [zadv]
    have e := sm_rev f m
    have e2 : sm (fun i => f (m + 1 - 1 - (i + 1))) m = sm (fun i => f (m - 1 - i)) m := zaa5 m fun i hi => by
      show f (m + 1 - 1 - (i + 1)) = f (m - 1 - i)
      rw [show m + 1 - 1 - (i + 1) = m - 1 - i by omega]
    rw [e2, e]
    show f (m + 1 - 1 - 0) + sm f m = sm f m + f m
    rw [show m + 1 - 1 - 0 = m by omega]
    omega
theorem sm_neg (f : Nat → Int) : ∀ m, sm (fun i => -f i) m = -sm f m
  | 0 => rfl
  | m + 1 => by
    have := sm_neg f m
    show sm (fun i => -f i) m + -f m = -(sm f m + f m)
    omega
theorem sm_shift1 {f : Nat → Int} {n : Nat} (hp : ∀ i, f (i + n) = f i) : sm (fun i => f (i + 1)) n = sm f n := by
  have h := zadv f n
  have h2 : sm f (n + 1) = sm f n + f n := rfl
  have h3 := hp 0
  rw [Nat.zero_add] at h3
  omega
theorem zade {f : Nat → Int} {n : Nat} (hp : ∀ i, f (i + n) = f i) : ∀ m, sm (fun i => f (i + m)) n = sm f n
  | 0 => rfl
  | m + 1 => by
    have h := sm_shift1 (f := fun i => f (i + m)) (n := n) (fun i => by
      show f (i + n + m) = f (i + m)
      rw [show i + n + m = i + m + n by omega, hp])
    rw [← zade hp m, ← h]
    exact zaa5 n fun i _ => by
      show f (i + (m + 1)) = f (i + 1 + m)
      rw [show i + (m + 1) = i + 1 + m by omega]
def crs (p q : Int × Int) : Int := p.1 * q.2 - p.2 * q.1
theorem crs_neg (p q : Int × Int) : crs q p = -crs p q := by unfold crs; grind
def area (Q : Nat → Int × Int) (n : Nat) : Int := sm (fun i => crs (Q i) (Q (i + 1))) n
structure NC (n : Nat) (Q : Nat → Int × Int) : Prop where
  n3 : 3 ≤ n
  per : ∀ i, Q (i + n) = Q i
  c0 : ∀ i, Q i ≠ Q (i + 1)
  c1 : ∀ i, Cor1 (Q i) (Q (i + 1)) (Q (i + 2))
  c2 : ∀ i j, i + 1 < j → j + 1 < i + n → Sep2 (Q i) (Q (i + 1)) (Q j) (Q (j + 1))
  ar : area Q n ≠ 0
section
variable {n : Nat} {Q : Nat → Int × Int} (N : NC n Q)
include N
theorem NC.perm (d i : Nat) : Q (i + d * n) = Q i := by
  induction d with
  | zero => simp
  | succ d ih => rw [show i + (d + 1) * n = i + d * n + n by rw [Nat.add_mul]; omega, N.per, ih]
theorem NC.rot (m : Nat) : NC n (fun i => Q (i + m)) := by
  refine ⟨N.n3, fun i => ?_, fun i => ?_, fun i => ?_, fun i j h1 h2 => ?_, ?_⟩
  · show Q (i + n + m) = Q (i + m)
    rw [show i + n + m = i + m + n by omega, N.per]
  · have := N.c0 (i + m)
    show Q (i + m) ≠ Q (i + 1 + m)
    rw [show i + 1 + m = i + m + 1 by omega]; exact this
  · have := N.c1 (i + m)
    show Cor1 (Q (i + m)) (Q (i + 1 + m)) (Q (i + 2 + m))
    rw [show i + 1 + m = i + m + 1 by omega, show i + 2 + m = i + m + 2 by omega]; exact this
  · have := N.c2 (i + m) (j + m) (by omega) (by omega)
    show Sep2 (Q (i + m)) (Q (i + 1 + m)) (Q (j + m)) (Q (j + 1 + m))
    rw [show i + 1 + m = i + m + 1 by omega, show j + 1 + m = j + m + 1 by omega]; exact this
  · have h := zade (f := fun i => crs (Q i) (Q (i + 1))) (n := n) (fun i => by
      show crs (Q (i + n)) (Q (i + n + 1)) = crs (Q i) (Q (i + 1))
      rw [N.per, show i + n + 1 = i + 1 + n by omega, N.per]) m
    have e : area (fun i => Q (i + m)) n = area Q n := by
      unfold area
      rw [← h]
      exact zaa5 n fun i _ => by
        show crs (Q (i + m)) (Q (i + 1 + m)) = crs (Q (i + m)) (Q (i + m + 1))
        rw [show i + 1 + m = i + m + 1 by omega]
    rw [e]; exact N.ar
theorem NC.rev_at {i a t : Nat} (h : a + i + 1 = t * n) : Q (n - 1 - i % n) = Q a := by
  have n3 := N.n3
  have hi := Nat.mod_lt i (show 0 < n by omega)
  have e := Nat.mod_add_div i n
  have e2 : a + i % n + 1 + n * (i / n) = t * n := by omega
  have ha : a = n - 1 - i % n + (t - 1 - i / n) * n := by
    have h1 : i / n + 1 ≤ t := by
      apply Nat.lt_of_not_le
      intro h
      have := Nat.mul_le_mul_right n h
      rw [Nat.mul_comm (i / n) n] at this
      omega
    have h2 : t * n = (t - 1 - i / n) * n + n + n * (i / n) := by
      have : t = (t - 1 - i / n) + 1 + i / n := by omega
      conv => lhs; rw [this]
      rw [Nat.add_mul, Nat.add_mul, Nat.one_mul, Nat.mul_comm (i / n) n]
    omega
  rw [ha, N.perm]
theorem NC.rev : NC n (fun i => Q (n - 1 - i % n)) := by
  have n3 := N.n3
  have mm : ∀ t, t * (n - 1) + t = t * n := fun t => by
    have : n = n - 1 + 1 := by omega
    conv => rhs; rw [this]
    rw [Nat.mul_add, Nat.mul_one]
  refine ⟨n3, fun i => ?_, fun i => ?_, fun i => ?_, fun i j h1 h2 => ?_, ?_⟩
  · show Q (n - 1 - (i + n) % n) = Q (n - 1 - i % n)
    rw [Nat.add_mod_right]
  · have m := mm (i + 2)
    show Q (n - 1 - i % n) ≠ Q (n - 1 - (i + 1) % n)
    rw [N.rev_at (i := i + 1) (a := (i + 2) * (n - 1)) (t := i + 2) (by omega), N.rev_at (i := i) (a := (i + 2) * (n - 1) + 1) (t := i + 2) (by omega)]
    exact fun h => N.c0 _ h.symm
  · have m := mm (i + 3)
    show Cor1 (Q (n - 1 - i % n)) (Q (n - 1 - (i + 1) % n)) (Q (n - 1 - (i + 2) % n))
    rw [N.rev_at (i := i + 2) (a := (i + 3) * (n - 1)) (t := i + 3) (by omega), N.rev_at (i := i + 1) (a := (i + 3) * (n - 1) + 1) (t := i + 3) (by omega), N.rev_at (i := i) (a := (i + 3) * (n - 1) + 2) (t := i + 3) (by omega)]
    exact (N.c1 _).symm
  · have m := mm (j + 2)
    show Sep2 (Q (n - 1 - i % n)) (Q (n - 1 - (i + 1) % n)) (Q (n - 1 - j % n)) (Q (n - 1 - (j + 1) % n))
    rw [N.rev_at (i := j + 1) (a := (j + 2) * (n - 1)) (t := j + 2) (by omega), N.rev_at (i := j) (a := (j + 2) * (n - 1) + 1) (t := j + 2) (by omega), N.rev_at (i := i + 1) (a := (j + 2) * (n - 1) + (j - i)) (t := j + 2) (by omega), N.rev_at (i := i) (a := (j + 2) * (n - 1) + (j - i) + 1) (t := j + 2) (by omega)]
    exact (N.c2 _ _ (by omega) (by omega)).swap.flip
  · have hp : ∀ i, crs (Q (i + n)) (Q (i + n + 1)) = crs (Q i) (Q (i + 1)) := fun i => by
      rw [N.per, show i + n + 1 = i + 1 + n by omega, N.per]
    have h1 := sm_rev (fun i => crs (Q (i + (n - 1))) (Q (i + (n - 1) + 1))) n
    have h2 := zade (f := fun i => crs (Q i) (Q (i + 1))) (n := n) hp (n - 1)
    have e : area (fun i => Q (n - 1 - i % n)) n = -area Q n := by
      unfold area
      rw [← h2]
      show _ = -sm (fun i => crs (Q (i + (n - 1))) (Q (i + (n - 1) + 1))) n
      rw [← h1, ← sm_neg]
      refine zaa5 n fun i hi => ?_
      show crs (Q (n - 1 - i % n)) (Q (n - 1 - (i + 1) % n)) = -crs (Q (n - 1 - i + (n - 1))) (Q (n - 1 - i + (n - 1) + 1))
      rw [← crs_neg, N.rev_at (i := i) (a := n - 1 - i + (n - 1) + 1) (t := 2) (by omega), N.rev_at (i := i + 1) (a := n - 1 - i + (n - 1)) (t := 2) (by omega)]
    rw [e]
    have := N.ar
    omega
end
end Pg
end IP
end
section
set_option linter.all false
set_option maxRecDepth 100000
set_option maxHeartbeats 0
namespace IP
namespace Pg
open L2 SegM
variable {k : Nat} {s : Sto} {l : List (Int × Int)}
structure Keeps (g : Int × Int → Int × Int) : Prop where
  f : ∀ u v : Int, ∃ u' v' c : Int, ∀ p, fu u' v' (g p) = fu u v p + c
theorem Keeps.cor {g : Int × Int → Int × Int} (K : Keeps g) {p q r : Int × Int} (h : Cor1 p q r) : Cor1 (g p) (g q) (g r) := by
  obtain ⟨u, v, h⟩ := h
  obtain ⟨u', v', c, e⟩ := K.f u v
  refine ⟨u', v', ?_⟩
  rw [e, e, e]
  omega
theorem Keeps.sep {g : Int × Int → Int × Int} (K : Keeps g) {p q r t : Int × Int} (h : Sep2 p q r t) : Sep2 (g p) (g q) (g r) (g t) := by
  obtain ⟨u, v, h⟩ := h
  obtain ⟨u', v', c, e⟩ := K.f u v
  refine ⟨u', v', ?_⟩
  rw [e, e, e, e]
  unfold Below at h ⊢
  omega
theorem Keeps.inj {g : Int × Int → Int × Int} (K : Keeps g) {p q : Int × Int} (h : g p = g q) : p = q := by
  obtain ⟨u', v', c, e⟩ := K.f 1 0
  obtain ⟨u2, v2, c2, e2⟩ := K.f 0 1
  have a := e p
  have b := e q
  have a2 := e2 p
  have b2 := e2 q
  rw [h] at a a2
  simp only [fu, Int.mul_one, Int.mul_zero, Int.add_zero, Int.zero_add] at a b a2 b2
  exact Prod.ext (by omega) (by omega)
theorem NC.map {n : Nat} {Q : Nat → Int × Int} (N : NC n Q) {g : Int × Int → Int × Int} (K : Keeps g) (ha : area (fun i => g (Q i)) n = area Q n) : NC n (fun i => g (Q i)) := by
  refine ⟨N.n3, fun i => ?_, fun i h => N.c0 i (K.inj h), fun i => K.cor (N.c1 i), fun i j h1 h2 => K.sep (N.c2 i j h1 h2), by rw [ha]; exact N.ar⟩
  show g (Q (i + n)) = g (Q i)
  rw [N.per]
def lean (L : Int) (p : Int × Int) : Int × Int := (p.1 + L * p.2, p.2)
def quart (p : Int × Int) : Int × Int := (0 - p.2, p.1)
def shf (x y : Int) (p : Int × Int) : Int × Int := (p.1 + x, p.2 + y)
theorem zaep (L : Int) : Keeps (lean L) := ⟨fun u v => ⟨u, v - L * u, 0, fun p => by unfold fu lean; dsimp only; grind⟩⟩
theorem zaef : Keeps quart := ⟨fun u v => ⟨-v, u, 0, fun p => by unfold fu quart; dsimp only; grind⟩⟩
theorem keeps_shf (x y : Int) : Keeps (shf x y) := ⟨fun u v => ⟨u, v, x * u + y * v, fun p => by unfold fu shf; dsimp only; grind⟩⟩
section
variable {n : Nat} {Q : Nat → Int × Int} (N : NC n Q)
include N
theorem NC.lean (L : Int) : NC n (fun i => lean L (Q i)) := N.map (zaep L) (zaa5 n fun i _ => by
  show crs (Pg.lean L (Q i)) (Pg.lean L (Q (i + 1))) = _
  unfold crs Pg.lean; dsimp only; grind)
theorem NC.quart : NC n (fun i => quart (Q i)) := N.map zaef (zaa5 n fun i _ => by
  show crs (Pg.quart (Q i)) (Pg.quart (Q (i + 1))) = _
  unfold crs Pg.quart; dsimp only; grind)
theorem zae8 (x y : Int) : ∀ m, area (fun i => shf x y (Q i)) m = area Q m + (x * ((Q m).2 - (Q 0).2) - y * ((Q m).1 - (Q 0).1))
  | 0 => by simp [area, sm]
  | m + 1 => by
    have ih := zae8 x y m
    have e1 : area (fun i => shf x y (Q i)) (m + 1) = area (fun i => shf x y (Q i)) m + crs (shf x y (Q m)) (shf x y (Q (m + 1))) := rfl
    have e2 : area Q (m + 1) = area Q m + crs (Q m) (Q (m + 1)) := rfl
    rw [e1, e2, ih]
    unfold crs shf; dsimp only; grind
theorem NC.shf (x y : Int) : NC n (fun i => shf x y (Q i)) := N.map (keeps_shf x y) (by
  rw [zae8 N x y n]
  have e := N.per 0
  rw [Nat.zero_add] at e
  rw [e]
  simp)
end
theorem NC.free {n : Nat} (N : NC n (cor l)) (hn : l.length = n) {i j : Nat} (hij : i ≤ j) (hj : j < n) : sidesB l i j = false := by
  have n3 := N.n3
  unfold sidesB
  by_cases c1 : i = j
  · rw [if_pos c1]
    have := N.c0 i
    simp [this]
  · rw [if_neg c1]
    by_cases c2 : j = i + 1
    · rw [if_pos c2]
      subst c2
      exact no_tog (N.c1 i)
    · rw [if_neg c2]
      by_cases c3 : j + 1 = l.length ∧ i = 0
      · rw [if_pos c3]
        obtain ⟨c3, rfl⟩ := c3
        have h := N.c1 j
        have e0 : cor l (j + 1) = cor l 0 := by have := N.per 0; rw [show 0 + n = j + 1 by omega] at this; exact this
        have e1 : cor l (j + 2) = cor l (0 + 1) := by have := N.per 1; rw [show 1 + n = j + 2 by omega] at this; exact this
        rw [e0, e1] at h
        exact no_tog h.symm
      · rw [if_neg c3]
        exact no_com (N.c2 i j (by omega) (by omega))
theorem zab8 {m : Nat} (h : m < l.length) : subR (LN l) ((m : Int) - 1) = some (pt (cor l (m + l.length - 1))) := by
  have hg := zaa8 (l := l) (by omega) (m + l.length - 1)
  cases m with
  | zero =>
    have e : (0 + l.length - 1) % l.length = l.length - 1 := by rw [Nat.zero_add]; exact Nat.mod_eq_of_lt (by omega)
    rw [e] at hg
    show L2.atI (l.map pt) ((0 : Int) - 1) = _
    unfold L2.atI L2.ixN
    simp only [List.length_map]
    rw [if_neg (by omega), if_pos (by omega)]
    rw [show ((0 : Int) - 1 + (l.length : Int)).toNat = l.length - 1 by omega]
    exact hg
  | succ m =>
    have e : (m + 1 + l.length - 1) % l.length = m := by
      rw [show m + 1 + l.length - 1 = m + l.length by omega, Nat.add_mod_right]
      exact Nat.mod_eq_of_lt (by omega)
    rw [e] at hg
    rw [show (((m + 1 : Nat) : Int) - 1) = (m : Int) by omega]
    exact sub_at hg
def dsum (l : List (Int × Int)) : Nat → Int
  | 0 => 0
  | m + 1 => dsum l m + (cor l (m + l.length - 1)).1 * (cor l m).2 - (cor l (m + l.length - 1)).2 * (cor l m).1
theorem NC.dsum {n : Nat} (N : NC n (cor l)) (hn : l.length = n) : dsum l l.length ≠ 0 := by
  have n3 := N.n3
  have h := (N.rot (n - 1)).ar
  have e : ∀ m, Pg.dsum l m = area (fun i => cor l (i + (n - 1))) m := fun m => by
    induction m with
    | zero => rfl
    | succ m ih =>
      have e1 : area (fun i => cor l (i + (n - 1))) (m + 1) = area (fun i => cor l (i + (n - 1))) m + crs (cor l (m + (n - 1))) (cor l (m + 1 + (n - 1))) := rfl
      rw [e1, ← ih, show m + 1 + (n - 1) = m + n by omega, N.per]
      show Pg.dsum l m + (cor l (m + l.length - 1)).1 * (cor l m).2 - (cor l (m + l.length - 1)).2 * (cor l m).1 = _
      rw [show m + l.length - 1 = m + (n - 1) by omega]
      unfold crs
      omega
  rw [hn, e]; exact h
theorem enT_at : ∀ (ts : List T) (n i : Nat), (enT n ts)[i]? = ts[i]?.map fun t => T.tup [.int ((n + i : Nat) : Int), t] := zae0
theorem zaf7 (hl : ∀ p ∈ l, sml p) (h0 : 0 < l.length) : run true fns sub0 whileL (k + 1) 14 [LN l] s = .ok (.val (.bl (decide (0 < dsum l l.length)))) s := by
  rw [zaaj (F := Fz27) rfl rfl]
  obtain ⟨σ', e, c2, c3, c4, rfl⟩ := zaa1 (g := .many [2, 3]) (body := fun σ s => exs (cfX fns sub0 k) bz27_L0 σ s) (s := s) (fun m σ => ∃ c2 c3 c4, σ = [some (.val (.lst (l.map pt))), some (.val (.int (dsum l m))), c2, c3, c4]) (enT 0 (l.map pt)) 0 [some (.val (.lst (l.map pt))), some (.val (.int 0)), none, none, none] ⟨_, _, _, rfl⟩ (by
      rintro m t σ hm ⟨c2, c3, c4, rfl⟩
      rw [enT_at, Nat.zero_add] at hm
      have hlt : m < l.length := by
        cases e : (l.map pt)[m]? with
        | none => rw [e] at hm; cases hm
        | some u => have := (List.getElem?_eq_some_iff.mp e).1; simpa using this
      have hg := zaa8 (l := l) h0 m
      rw [Nat.mod_eq_of_lt hlt] at hg
      rw [hg] at hm
      cases hm
      have hp := zab8 hlt
      have sp := zaat hl (m + l.length - 1)
      have m1 := op_mul (i := (cor l (m + l.length - 1)).1) (j := (cor l m).2) (zaah (by have := sp.1; omega))
      have m2 := op_mul (i := (cor l (m + l.length - 1)).2) (j := (cor l m).1) (zaah (by have := sp.2; omega))
      refine ⟨[some (.val (.lst (l.map pt))), some (.val (.int (dsum l m))), some (.val (.int m)), some (.val (pt (cor l m))), c4], [some (.val (.lst (l.map pt))), some (.val (.int (dsum l (m + 1)))), some (.val (.int m)), some (.val (pt (cor l m))), some (.val (pt (cor l (m + l.length - 1))))], ?_, ?_, _, _, _, by rw [Nat.zero_add]⟩
      · simp [bindTg, puts]
      · simp [hp, m1, m2, dsum])
  rw [zado, List.length_map, Nat.zero_add] at e
  have hx : exs (cfX fns sub0 k) bz27 (enter Fz27 [LN l]) s = .ret (.val (.bl (decide (0 < dsum l l.length)))) s := by
    refine (zaac (σ1 := [some (.val (.lst (l.map pt))), some (.val (.int 0)), none, none, none]) (s1 := s) (by simp)).trans ?_
    refine (zaac ((ex_for (ts := enT 0 (l.map pt)) (s1 := s) (by simp) (by intro _ h; cases h)).trans e)).trans ?_
    simp
  rw [hx]
  rfl
end Pg
end IP
end
section
set_option linter.all false
namespace M3
def rootN : Nat → Nat
  | 0 => 0
  | n + 1 => if (rootN n + 1) * (rootN n + 1) ≤ n + 1 then rootN n + 1 else rootN n
theorem zabv : ∀ n, rootN n * rootN n ≤ n ∧ n < (rootN n + 1) * (rootN n + 1)
  | 0 => by decide
  | n + 1 => by
    have ih := zabv n
    unfold rootN
    split
    · rename_i h
      refine ⟨h, ?_⟩
      have : (rootN n + 1 + 1) * (rootN n + 1 + 1) = (rootN n + 1) * (rootN n + 1) + 2 * rootN n + 3 := by grind
      omega
    · omega
def wroot (n : Int) : Int := (rootN n.toNat : Nat)
theorem zaan (n : Int) : 0 ≤ wroot n := Int.natCast_nonneg _
theorem zack (n : Int) (h : 0 ≤ n) : wroot n * wroot n ≤ n := by
  have := (zabv n.toNat).1
  show ((rootN n.toNat : Nat) : Int) * ((rootN n.toNat : Nat) : Int) ≤ n
  have e : ((rootN n.toNat : Nat) : Int) * ((rootN n.toNat : Nat) : Int) = ((rootN n.toNat * rootN n.toNat : Nat) : Int) := by simp
  rw [e]; omega
theorem zacb (n : Int) (h : 0 ≤ n) : n < (wroot n + 1) * (wroot n + 1) := by
  have := (zabv n.toNat).2
  show n < ((rootN n.toNat : Nat) + 1 : Int) * ((rootN n.toNat : Nat) + 1 : Int)
  have e : ((rootN n.toNat : Nat) + 1 : Int) * ((rootN n.toNat : Nat) + 1 : Int) = (((rootN n.toNat + 1) * (rootN n.toNat + 1) : Nat) : Int) := by simp
  rw [e]; omega
theorem sq_lt {a b : Int} (ha : 0 ≤ a) (h : a * a < b * b) (hb : 0 ≤ b) : a < b := by
  apply Int.lt_of_not_ge
  intro hc
  have := Int.mul_le_mul hc hc hb ha
  omega
theorem zabb {n r : Int} (h0 : 0 ≤ r) (h1 : r * r ≤ n) (h2 : n < (r + 1) * (r + 1)) (hn : 0 ≤ n) : wroot n = r := by
  have a := zack n hn
  have b := zacb n hn
  have c := zaan n
  have x : wroot n < r + 1 := sq_lt c (by omega) (by omega)
  have y : r < wroot n + 1 := sq_lt h0 (by omega) (by omega)
  omega
theorem newton {n r q : Int} (hn : 0 ≤ n) (hr : 0 < r) (hq : q = n / r) : wroot n ≤ (r + q) / 2 := by
  have a := zack n hn
  have c := zaan n
  generalize hs : wroot n = s at *
  have h1 : n < r * (q + 1) := by
    have := Int.lt_ediv_add_one_mul_self n hr
    rw [hq]; rw [Int.mul_comm]; exact this
  have h2 : 0 ≤ (s - r) * (s - r) := by
    rcases Int.le_total s r with h | h
    · have : 0 ≤ (r - s) * (r - s) := Int.mul_nonneg (by omega) (by omega)
      grind
    · exact Int.mul_nonneg (by omega) (by omega)
  have h3 : r * (2 * s) < r * (q + 1 + r) := by grind
  have h4 : 2 * s < q + 1 + r := Int.lt_of_mul_lt_mul_left h3 (by omega)
  omega
structure Inv (n r m : Int) : Prop where
  r0 : 0 ≤ r
  rn : r ≤ n
  sr : wroot n ≤ r
  sm : wroot n ≤ m
  e : r ≤ m → r = wroot n
theorem zafa {n : Int} (h : 0 < n) : 1 ≤ wroot n := by
  have b := zacb n (by omega)
  have c := zaan n
  rcases (by omega : wroot n = 0 ∨ 1 ≤ wroot n) with z | z
  · rw [z] at b; omega
  · exact z
theorem zacd {n : Int} (h : 0 ≤ n) : Inv n n (Int.fdiv (n + 1) 2) := by
  rw [Int.fdiv_eq_ediv_of_nonneg _ (by decide)]
  have a := zack n h
  have b := zacb n h
  have c := zaan n
  have d : 0 ≤ (wroot n - 1) * (wroot n - 1) := by
    rcases (by omega : wroot n = 0 ∨ 1 ≤ wroot n) with z | z
    · rw [z]; decide
    · exact Int.mul_nonneg (by omega) (by omega)
  have d2 : (wroot n - 1) * (wroot n - 1) = wroot n * wroot n - 2 * wroot n + 1 := by grind
  refine ⟨h, Int.le_refl _, ?_, by omega, ?_⟩
  · rcases (by omega : wroot n = 0 ∨ 1 ≤ wroot n) with z | z
    · omega
    · have := Int.mul_le_mul_of_nonneg_left z c
      omega
  · intro hc
    have : n = 0 ∨ n = 1 := by omega
    rcases this with z | z
    · exact (zabb (by omega) (by subst z; decide) (by subst z; decide) h).symm
    · exact (zabb (by omega) (by subst z; decide) (by subst z; decide) h).symm
theorem inv_pos {n r m : Int} (h : Inv n r m) (hlt : m < r) : 0 < m := by
  have := h.sm
  have := zafa (n := n) (by have := h.rn; have := h.sm; have := zaan n; omega)
  omega
theorem inv_turn {n r m : Int} (h : Inv n r m) (hlt : m < r) : Inv n m (Int.fdiv (m + Int.fdiv n m) 2) := by
  have mp := inv_pos h hlt
  have n0 : 0 ≤ n := by have := h.rn; have := h.r0; omega
  rw [Int.fdiv_eq_ediv_of_nonneg _ (by decide), Int.fdiv_eq_ediv_of_nonneg n (by omega : 0 ≤ m)]
  have nw := newton n0 mp rfl
  refine ⟨by omega, by have := h.rn; omega, h.sm, nw, ?_⟩
  intro hc
  have h2 : m ≤ n / m := by omega
  have h3 : m * m ≤ n := by
    have e1 : n / m * m ≤ n := Int.ediv_mul_le n (by omega)
    have e2 : m * m ≤ n / m * m := Int.mul_le_mul_of_nonneg_right h2 (by omega)
    omega
  have b := zacb n n0
  have : m < wroot n + 1 := sq_lt (by omega) (by omega) (by have := zaan n; omega)
  have := h.sm
  omega
theorem inv_out {n r m : Int} (h : Inv n r m) (hlt : ¬ m < r) : r = wroot n := h.e (by omega)
theorem nn {a : Int} : 0 ≤ a * a := by
  rcases Int.le_total 0 a with h | h
  · exact Int.mul_nonneg h h
  · have : 0 ≤ (-a) * (-a) := Int.mul_nonneg (by omega) (by omega)
    grind
end M3
end
section
set_option linter.all false
set_option maxRecDepth 100000
namespace IP
theorem wl_mono {c : Fr → Sto → Res Bool} {b : Fr → Sto → SR} : ∀ (n : Nat) (σ : Fr) (s : Sto), whileN c b n σ s ≠ .stuck → whileN c b (n + 1) σ s = whileN c b n σ s
  | 0, σ, s, h => absurd rfl h
  | n + 1, σ, s, h => by
    rw [whileN]
    conv => rhs; rw [whileN]
    rw [whileN] at h
    cases hc : c σ s with
    | stuck => rfl
    | exc d s1 => rfl
    | ok v s1 =>
      cases v with
      | false => rfl
      | true =>
        rw [hc] at h
        simp only at h ⊢
        cases hb : b σ s1 with
        | next σ2 s2 =>
          rw [hb] at h
          simp only [SR.bind_next] at h ⊢
          exact wl_mono n σ2 s2 h
        | _ => rfl
theorem wl_le {c : Fr → Sto → Res Bool} {b : Fr → Sto → SR} {σ : Fr} {s : Sto} {n m : Nat} (h : whileN c b n σ s ≠ .stuck) (hm : n ≤ m) : whileN c b m σ s = whileN c b n σ s := by
  induction hm with
  | refl => rfl
  | step _ ih => rw [wl_mono _ _ _ (by rw [ih]; exact h), ih]
theorem wl_of {c : Fr → Sto → Res Bool} {b : Fr → Sto → SR} {σ : Fr} {s : Sto} {n : Nat} {r : SR} (h : whileN c b n σ s = r) (hr : r ≠ .stuck) : whileL c b σ s = r := by
  have hex : ∃ n, whileN c b n σ s ≠ .stuck := ⟨n, by rw [h]; exact hr⟩
  unfold whileL
  rw [dif_pos hex]
  have h2 := Classical.choose_spec hex
  generalize Classical.choose hex = m at h2
  rcases Nat.le_total n m with z | z
  · rw [wl_le (by rw [h]; exact hr) z, h]
  · rw [← wl_le h2 z, h]
theorem zabj {c : Fr → Sto → Res Bool} {b : Fr → Sto → SR} {s : Sto} (I : Fr → Prop) (μ : Fr → Nat) (hc : ∀ σ, I σ → (c σ s = .ok false s) ∨ (c σ s = .ok true s ∧ ∃ σ2, b σ s = .next σ2 s ∧ I σ2 ∧ μ σ2 < μ σ)) (σ : Fr) (h : I σ) : ∃ σ', whileL c b σ s = .next σ' s ∧ I σ' ∧ c σ' s = .ok false s := by
  have key : ∀ (m : Nat) (σ : Fr), μ σ ≤ m → I σ → ∃ n σ', whileN c b n σ s = .next σ' s ∧ I σ' ∧ c σ' s = .ok false s := by
    intro m
    induction m with
    | zero =>
      intro σ hm hI
      rcases hc σ hI with e | ⟨_, σ2, _, _, e⟩
      · exact ⟨1, σ, by rw [whileN, e], hI, e⟩
      · omega
    | succ m ih =>
      intro σ hm hI
      rcases hc σ hI with e | ⟨e, σ2, e2, h2, e3⟩
      · exact ⟨1, σ, by rw [whileN, e], hI, e⟩
      · obtain ⟨n, σ', q1, q2, q3⟩ := ih σ2 (by omega) h2
        exact ⟨n + 1, σ', by rw [whileN, e]; simp only [e2, SR.bind_next, q1], q2, q3⟩
  obtain ⟨n, σ', q1, q2, q3⟩ := key _ σ (Nat.le_refl _) h
  exact ⟨σ', wl_of q1 (by intro h; cases h), q2, q3⟩
namespace Pg
open L2 M3
variable {k : Nat} {s : Sto}
theorem zac4 {n : Int} (h0 : 0 ≤ n) (hn : n < 2 ^ 60) : run true fns sub0 whileL (k + 1) iz36 [.val (.int n)] s = .ok (.val (.int (wroot n))) s := by
  rw [zaaj (F := Fz36) rfl rfl]
  obtain ⟨σ', e, ⟨r, m, rfl, hI⟩, hout⟩ := zabj (s := s) (c := fun σ s => (ev (cfX fns sub0 k) (.cmp .lt (.var 2) (.var 1)) .t σ s).bind fun x s1 => .of (match x with | .val (.bl k) => some k | _ => none) s1) (b := fun σ s => exs (cfX fns sub0 k) bz36_L0 σ s)
    (fun σ => ∃ r m : Int, σ = [some (.val (.int n)), some (.val (.int r)), some (.val (.int m))] ∧ Inv n r m) (fun σ => match σ with | [_, some (.val (.int r)), _] => r.toNat | _ => 0) (by
      rintro σ ⟨r, m, rfl, hI⟩
      by_cases hlt : m < r
      · refine .inr ⟨by simp [hlt], ?_⟩
        have hp := inv_pos hI hlt
        have hr := hI.rn
        have hd := zabe (i := n) (j := m) hp (by omega)
        exact ⟨[some (.val (.int n)), some (.val (.int m)), some (.val (.int (Int.fdiv (m + Int.fdiv n m) 2)))], by simp [hd, zabe], ⟨m, _, rfl, inv_turn hI hlt⟩, by simp; omega⟩
      · exact .inl (by simp [hlt])) [some (.val (.int n)), some (.val (.int n)), some (.val (.int (Int.fdiv (n + 1) 2)))] ⟨n, _, rfl, zacd h0⟩
  have hle : ¬ m < r := by
    intro hlt
    simp [hlt] at hout
  have hx : exs (cfX fns sub0 k) bz36 (enter Fz36 [.val (.int n)]) s = .ret (.val (.int (wroot n))) s := by
    refine (zaac (σ1 := [some (.val (.int n)), some (.val (.int n)), none]) (s1 := s) (by simp)).trans ?_
    refine (zaac (σ1 := [some (.val (.int n)), some (.val (.int n)), some (.val (.int (Int.fdiv (n + 1) 2)))]) (s1 := s) (by simp [zabe])).trans ?_
    refine (zaac (σ1 := [some (.val (.int n)), some (.val (.int r)), some (.val (.int m))]) (s1 := s) ?_).trans ?_
    · rw [ex]
      exact e
    rw [← inv_out hI hle]
    simp
  rw [hx]
  rfl
end Pg
end IP
end
section
set_option linter.all false
set_option maxRecDepth 100000
set_option maxHeartbeats 0
namespace IP
namespace Pg
open L2 M3
variable {k : Nat} {s : Sto} {l : List (Int × Int)}
@[simp] theorem asB_bl (b : Bool) : asB (.val (.bl b)) = some b := rfl
theorem ex_whl {C : Cf} {c : E} {b : List S} {σ : Fr} {s : Sto} (hw : C.wl = whileL) : ex C (.whl c b) σ s = whileL (fun σ s => (ev C c .t σ s).bind fun x s1 => .of (asB x) s1) (fun σ s => exs C b σ s) σ s := by
  conv => lhs; unfold ex
  rw [hw]
  rfl
theorem gd_loop (C : Cf) : ∀ (n m : Nat) (c : Option B), ∃ c', whileL (fun σ s => (ev C (.cmp .ne (.var 1) (.cst (.int 0))) .t σ s).bind fun x s1 => .of (asB x) s1) (fun σ s => exs C zadk σ s)
      [some (.val (.int m)), some (.val (.int n)), c] s = .next [some (.val (.int (Nat.gcd m n))), some (.val (.int 0)), c'] s := by
  intro n
  induction n using Nat.strongRecOn with
  | _ n ih =>
    intro m c
    rw [zady]
    by_cases h : n = 0
    · subst h
      exact ⟨c, by simp⟩
    · have hn : 0 < n := by omega
      have hd := op_mod (i := (m : Int)) (j := (n : Int)) (by omega)
      rw [zacc] at hd
      obtain ⟨c', e⟩ := ih (m % n) (Nat.mod_lt _ hn) n (some (.val (.int ((m % n : Nat) : Int))))
      refine ⟨c', ?_⟩
      rw [show Nat.gcd m n = Nat.gcd n (m % n) by rw [Nat.gcd_comm m n, Nat.gcd_rec n m, Nat.gcd_comm]]
      have h0 : ((n : Int) == 0) = false := by simp; omega
      have hc : (ev C (.cmp .ne (.var 1) (.cst (.int 0))) .t [some (.val (.int m)), some (.val (.int n)), c] s).bind (fun x s1 => Res.of (asB x) s1) = .ok true s := by simp [h0]
      have hb : exs C zadk [some (.val (.int m)), some (.val (.int n)), c] s = .next [some (.val (.int n)), some (.val (.int ((m % n : Nat) : Int))), some (.val (.int ((m % n : Nat) : Int)))] s := by
        generalize ((m % n : Nat) : Int) = z at hd ⊢
        simp [hd]
      rw [hc]
      show (exs C zadk [some (.val (.int m)), some (.val (.int n)), c] s).bind _ = _
      rw [hb]
      exact e
theorem r_gd (m n : Nat) : run true fns sub0 whileL (k + 1) iz18 [.val (.int m), .val (.int n)] s = .ok (.val (.int (Nat.gcd m n))) s := by
  rw [zaaj (F := Fz18) rfl rfl]
  obtain ⟨c', e⟩ := gd_loop (s := s) (cfX fns sub0 k) n m none
  have hx : exs (cfX fns sub0 k) bz18 (enter Fz18 [.val (.int m), .val (.int n)]) s = .ret (.val (.int (Nat.gcd m n))) s := by
    refine (zaac ((ex_whl rfl).trans e)).trans ?_
    simp
  rw [hx]
  rfl
theorem ab (a : Int) : (if a < 0 then -a else a) = (a.natAbs : Int) := by split <;> omega
theorem zacj {α : Type} {q : Nat → Option α} : ∀ (m n : Nat), (∀ i, n ≤ i → i < n + m → q i = none) → firstN q n m = none
  | 0, _, _ => rfl
  | m + 1, n, h => by
    unfold firstN
    rw [h n (Nat.le_refl _) (by omega)]
    exact zacj m (n + 1) fun i h1 h2 => h i (by omega) (by omega)
theorem fp_no {p : Nat → Nat → Bool} {n : Nat} (h : ∀ i j, i ≤ j → j < n → p i j = false) : fp p n = .val .non := by
  unfold fp
  rw [zacj n 0 fun i _ hi => ?_]
  · rfl
  unfold qi
  refine zacj _ _ fun j h1 h2 => ?_
  unfold qj
  rw [h i j h1 (by omega)]
  rfl
theorem zaf1 (n : Nat) : rangeT 0 (n : Int) = (List.range n).map fun k : Nat => T.int k := by
  unfold rangeT
  simp
theorem cor_range {f : Nat → Int × Int} {n : Nat} (h : 0 < n) (i : Nat) : cor ((List.range n).map f) i = f (i % n) := by
  have := Nat.mod_lt i h
  unfold cor
  simp [this]
theorem cf_of {m n f : Nat} {rs : List R} {s : Sto} {r : Res R} (h : run true fns sub0 whileL n f rs s = r) (e : n = m) : (cfX fns sub0 m).cf f rs s = r := by
  subst e
  exact h
abbrev LN' (l : List (Int × Int)) : B := .val (.lst (l.map pt))
theorem zaed {C : Cf} {n : Nat} (h0 : 0 < n) (hn : l.length = n) (h1000 : n ≤ 1000) {b : Int} {lw : Bool} {v : Nat → Int × Int} {d : Nat → T} (e1 : C.cf 0 [LN l] s = .ok (.val .non) s) (e2 : C.cf 14 [LN l] s = .ok (.val (.bl lw)) s)
    (e3 : ∀ i : Nat, i < n → C.cf 15 [LN l, .val (.int i), .val (.bl lw)] s = .ok (PT (v i)) s) (e4 : ∀ i : Nat, i < n → C.cf 16 [PT (cor l i), PT (v ((i + n - 1) % n)), PT (v i), .val (.int b)] s = .ok (.val (d i)) s) :
    exs C bz23 [some (.val (.lst (l.map pt))), some (.val (.int b)), none, none, none, none] s = .ret (.val (.lst ((List.range n).map d))) s := by
  have hlen : ∀ σ : Fr, σ[0]? = some (some (.val (.lst (l.map pt)))) → ev C (.rng1 (.b1 .len (.var 0))) .i σ s = .ok (.val (.lst ((List.range n).map fun k : Nat => T.int k))) s := fun σ h0 => by
    rw [← zaf1]
    exact evi_rng1 (n := n) (by simp [look, h0, hn]) h1000
  have c0 : ev C (.comp zad4 (.one 4) (.rng1 (.b1 .len (.var 0)))) .v [some (.val (.lst (l.map pt))), some (.val (.int b)), some (.val (.bl lw)), none, none, none] s = .ok (.val (.lst ((List.range n).map fun i => pt (v i)))) s := by
    refine zab9 (i := 4) (List.range n) (fun k : Nat => T.int k) (fun i => pt (v i)) (hlen _ rfl) (fun i hi => ?_)
    have e := e3 i (List.mem_range.mp hi)
    simp [e]
  have c1 : ev C (.comp zafz (.one 5) (.rng1 (.b1 .len (.var 0)))) .v [some (.val (.lst (l.map pt))), some (.val (.int b)), some (.val (.bl lw)), some (LN' ((List.range n).map v)), none, none] s = .ok (.val (.lst ((List.range n).map d))) s := by
    refine zab9 (i := 5) (List.range n) (fun k : Nat => T.int k) d (hlen _ rfl) (fun i hi => ?_)
    have hi := List.mem_range.mp hi
    have g1 := sub_at (zaa8 (l := l) (by omega) i)
    rw [hn, Nat.mod_eq_of_lt hi] at g1
    have g2 := zab8 (l := (List.range n).map v) (m := i) (by simp; exact hi)
    have g3 := sub_at (zaa8 (l := (List.range n).map v) (by simp; omega) i)
    simp only [List.length_map, List.length_range] at g2 g3
    rw [cor_range h0] at g2 g3
    rw [Nat.mod_eq_of_lt hi] at g3
    have e := e4 i hi
    generalize (List.range n).map v = L at g2 g3 ⊢
    simp [g1, g2, g3, e, LN']
  refine (zaac (σ1 := [some (.val (.lst (l.map pt))), some (.val (.int b)), none, none, none, none]) (s1 := s) (by simp [e1, R.isNon])).trans ?_
  refine (zaac (σ1 := [some (.val (.lst (l.map pt))), some (.val (.int b)), some (.val (.bl lw)), none, none, none]) (s1 := s) (by simp [e2])).trans ?_
  refine (zaac (σ1 := [some (.val (.lst (l.map pt))), some (.val (.int b)), some (.val (.bl lw)), some (LN' ((List.range n).map v)), none, none]) (s1 := s) ((ex_asg c0).trans (by simp [LN', Function.comp_def]))).trans ?_
  exact zacw (ex_ret c1)
theorem zae7 : (2 : Nat) ^ 400 < big := by unfold big; decide +kernel
theorem zabc {i j : Int} (h : 0 < j) (hb : j.natAbs < 2 ^ 400) : opR .fdiv (.val (.int i)) (.val (.int j)) = some (.val (.int (Int.fdiv i j))) := by
  have : j.natAbs < big := Nat.lt_trans hb zae7
  simp [opR, opI, show j ≠ 0 by omega, this]
def gdZ (a b : Int) : Int := (Nat.gcd a.natAbs b.natAbs : Nat)
def loP (A W : Int) : Int × Int := (Int.fdiv A (gdZ A W), Int.fdiv W (gdZ A W))
theorem gdZ_pos {A W : Int} (h : W ≠ 0) : 0 < gdZ A W := by
  unfold gdZ
  have : Nat.gcd A.natAbs W.natAbs ≠ 0 := fun z => by
    have := Nat.gcd_eq_zero_iff.mp z
    omega
  omega
theorem gdZ_le {A W : Int} (h : 0 < W) : gdZ A W ≤ W := by
  unfold gdZ
  have := Nat.gcd_le_right A.natAbs (show 0 < W.natAbs by omega)
  omega
structure Lo (A W : Int) (q : Int × Int) : Prop where
  pos : 0 < q.2
  cop : Nat.gcd q.1.natAbs q.2.natAbs = 1
  e : q.1 * W = A * q.2
theorem lo_ok {A W : Int} (h : 0 < W) : Lo A W (loP A W) ∧ (loP A W).2 ≤ W := by
  have g0 := gdZ_pos (A := A) (W := W) (by omega)
  obtain ⟨i, j, e1, e2, c⟩ := WayM.low (p := A) (q := W) (g := gdZ A W) rfl g0
  unfold loP
  generalize gdZ A W = g at *
  subst e1; subst e2
  have hj : 0 < j := Int.pos_of_mul_pos_left (show 0 < j * g by rw [Int.mul_comm]; exact h) g0
  rw [Int.mul_fdiv_cancel_left i (by omega), Int.mul_fdiv_cancel_left j (by omega)]
  refine ⟨⟨hj, c, ?_⟩, ?_⟩
  · show i * (g * j) = g * i * j
    grind
  · show j ≤ g * j
    have := Int.mul_le_mul_of_nonneg_right (show 1 ≤ g by omega) (show 0 ≤ j by omega)
    omega
theorem r_lowest {A W : Int} (h : 0 < W) (hw : W.natAbs < 2 ^ 400) : run true fns sub0 whileL (k + 2) iz21 [.val (.int A), .val (.int W)] s = .ok (PT (loP A W)) s := by
  rw [zaaj (F := Fz21) rfl rfl]
  have e := r_gd (k := k) (s := s) A.natAbs W.natAbs
  rw [show ((W.natAbs : Nat) : Int) = W by omega] at e
  have g0 := gdZ_pos (A := A) (W := W) (by omega)
  have g1 := gdZ_le (A := A) h
  have q1 := zabc (i := A) (j := gdZ A W) g0 (by omega)
  have q2 := zabc (i := W) (j := gdZ A W) g0 (by omega)
  have e' : run true fns sub0 whileL (k + 1) iz18 [.val (.int (A.natAbs : Int)), .val (.int W)] s = .ok (.val (.int (gdZ A W))) s := e
  unfold loP
  generalize gdZ A W = g at *
  simp [bz21, ab, e', q1, q2, pt]
def mvP (c part W : Int) : Int × Int := if W < 0 then loP (c * (-W) + (-part)) (-W) else loP (c * W + part) W
theorem zadz {c part W : Int} (hc : c.natAbs < 2 ^ 64) (h : W ≠ 0) (hw : W.natAbs < 2 ^ 400) : run true fns sub0 whileL (k + 4) 21 [.val (.int c), .val (.int part), .val (.int W)] s = .ok (PT (mvP c part W)) s := by
  have pos : ∀ (k : Nat) (part W : Int), 0 < W → W.natAbs < 2 ^ 400 → run true fns sub0 whileL (k + 3) 21 [.val (.int c), .val (.int part), .val (.int W)] s = .ok (PT (loP (c * W + part) W)) s := fun k part W h hw => by
    rw [zaaj (F := Fz22) rfl rfl]
    have e := r_lowest (k := k) (s := s) (A := c * W + part) (W := W) h hw
    have q := op_mul (i := c) (j := W) (zaah hc)
    generalize loP (c * W + part) W = P at *
    generalize c * W = Z at *
    simp [bz22, show ¬ W < 0 by omega, q, e]
  unfold mvP
  by_cases h0 : W < 0
  · rw [if_pos h0, zaaj (F := Fz22) rfl rfl]
    have e := pos k (-part) (-W) (by omega) (by omega)
    generalize loP (c * -W + -part) (-W) = P at *
    simp [bz22, h0, e]
  · rw [if_neg h0]
    exact pos (k + 1) part W (by omega) hw
def vs (v : Int × Int) : Prop := (v.1.natAbs ≤ 2 ^ 17 ∧ v.2.natAbs ≤ 2 ^ 17) ∧ ¬ (v.1 = 0 ∧ v.2 = 0)
def nN (v : Int × Int) : Int := v.1 * v.1 + v.2 * v.2
def rN (v : Int × Int) : Int := wroot (1000000 * nN v)
theorem sq_nat {a : Int} (h : a.natAbs ≤ 2 ^ 17) : (a * a).natAbs ≤ 2 ^ 34 := zaai (m := 2 ^ 17) (n := 2 ^ 17) h h
theorem nN_bd {v : Int × Int} (h : vs v) : 0 < nN v ∧ nN v ≤ 2 ^ 35 := by
  refine ⟨WayM.sq_pos_of h.2, ?_⟩
  have h1 := sq_nat h.1.1
  have h2 := sq_nat h.1.2
  unfold nN
  omega
theorem rN_bd {v : Int × Int} (h : vs v) : 0 < rN v ∧ rN v < 2 ^ 28 := by
  have b := nN_bd h
  unfold rN
  generalize nN v = n at *
  have h1 := zafa (n := 1000000 * n) (by omega)
  refine ⟨by omega, ?_⟩
  have h2 := zack (1000000 * n) (by omega)
  exact sq_lt (by omega) (show wroot (1000000 * n) * wroot (1000000 * n) < 2 ^ 28 * 2 ^ 28 by omega) (by decide)
theorem r_sqof {v : Int × Int} (h : vs v) : run true fns sub0 whileL (k + 2) 19 [PT v] s = .ok (.val (.int (nN v))) s := by
  rw [zaaj (F := Fz32) rfl rfl]
  have hb : ∀ x : Int, x.natAbs ≤ 2 ^ 17 → opR .pow (.val (.int x)) (.val (.int 2)) = some (.val (.int (x * x))) := fun x hx => by
    have hb : x.natAbs < big := Nat.lt_trans (show x.natAbs < 2 ^ 64 by omega) big_64
    have e : x ^ 2 = x * x := by rw [Int.pow_succ, Int.pow_succ, Int.pow_zero, Int.one_mul]
    simp [opR, opI, hb, e]
  have e : run true fns sub0 whileL (k + 1) 9 [.val (.tup [.int 0, .int 0]), PT v] s = .ok (.val (.int (nN v))) s := by
    rw [zaaj (F := Fz31) rfl rfl]
    have h1 := hb v.1 h.1.1
    have h2 := hb v.2 h.1.2
    simp [bz31, h1, h2, nN]
  simp [bz32, e]
theorem r_thou {v : Int × Int} (h : vs v) : run true fns sub0 whileL (k + 3) 20 [PT v] s = .ok (.val (.int (rN v))) s := by
  rw [zaaj (F := Fz33) rfl rfl]
  have b := nN_bd h
  have e1 := r_sqof (k := k) (s := s) h
  have e2 := zac4 (k := k + 1) (s := s) (n := 1000000 * nN v) (by omega) (by omega)
  have m := op_mul (i := 1000000) (j := nN v) (zaah (by decide))
  unfold rN
  generalize nN v = n at *
  generalize 1000000 * n = z at *
  simp [bz33, e1, m, e2]
def besT (c v : Int × Int) (b : Int) : T := .tup [pt (mvP c.1 (1000 * b * v.1) (rN v)), pt (mvP c.2 (1000 * b * v.2) (rN v))]
theorem r_beside {c v : Int × Int} {b : Int} (hc : sml c) (h : vs v) (hb : 0 ≤ b ∧ b ≤ 1000) : run true fns sub0 whileL (k + 5) 17 [PT c, PT v, .val (.int b)] s = .ok (.val (besT c v b)) s := by
  rw [zaaj (F := Fz16) rfl rfl]
  have e1 := r_thou (k := k + 1) (s := s) h
  have u := h.1
  have r := rN_bd h
  have q1 := op_mul (i := 1000) (j := b) (zaah (by decide))
  have q2 := op_mul (i := 1000 * b) (j := v.1) (zaah (by omega))
  have q3 := op_mul (i := 1000 * b) (j := v.2) (zaah (by omega))
  have e2 := zadz (k := k) (s := s) (c := c.1) (part := 1000 * b * v.1) (W := rN v) (by have := hc.1; omega) (by omega) (by omega)
  have e3 := zadz (k := k) (s := s) (c := c.2) (part := 1000 * b * v.2) (W := rN v) (by have := hc.2; omega) (by omega) (by omega)
  unfold besT
  generalize mvP c.1 (1000 * b * v.1) (rN v) = P at *
  generalize mvP c.2 (1000 * b * v.2) (rN v) = P2 at *
  generalize 1000 * b * v.1 = z1 at *
  generalize 1000 * b * v.2 = z2 at *
  generalize 1000 * b = z at *
  generalize rN v = w at *
  simp [bz16, e1, q1, q2, q3, e2, e3]
def cutZ (p v : Int × Int) : Int := p.1 * v.2 - p.2 * v.1
def mb (p v : Int × Int) (b : Int) : Int := 1000 * b * nN p * rN v
def wherT (c p v : Int × Int) (z b : Int) : T := .tup [pt (mvP c.1 (mb p v b * v.2 - mb v p b * p.2) (z * rN p * rN v)), pt (mvP c.2 (mb v p b * p.1 - mb p v b * v.1) (z * rN p * rN v))]
theorem cut_bd {p v : Int × Int} (hp : vs p) (h : vs v) : (cutZ p v).natAbs ≤ 2 ^ 35 := by
  have h1 := zaai hp.1.1 h.1.2
  have h2 := zaai hp.1.2 h.1.1
  unfold cutZ
  omega
theorem W_bd {p v : Int × Int} (hp : vs p) (h : vs v) (hz : cutZ p v ≠ 0) : cutZ p v * rN p * rN v ≠ 0 ∧ (cutZ p v * rN p * rN v).natAbs < 2 ^ 400 := by
  have r := rN_bd h
  have r' := rN_bd hp
  have z := cut_bd hp h
  refine ⟨Int.mul_ne_zero (Int.mul_ne_zero hz (by omega)) (by omega), ?_⟩
  have h1 := zaai (a := cutZ p v) (b := rN p) (m := 2 ^ 35) (n := 2 ^ 28) z (by omega)
  have h2 := zaai (a := cutZ p v * rN p) (b := rN v) (m := 2 ^ 35 * 2 ^ 28) (n := 2 ^ 28) h1 (by omega)
  omega
theorem r_cut {c p v : Int × Int} {b : Int} (hc : sml c) (hp : vs p) (h : vs v) (hb : 0 ≤ b ∧ b ≤ 1000) (hz : cutZ p v ≠ 0) : run true fns sub0 whileL (k + 5) 18 [PT c, PT p, PT v, .val (.int (cutZ p v)), .val (.int b)] s = .ok (.val (wherT c p v (cutZ p v) b)) s := by
  rw [zaaj (F := Fz35) rfl rfl]
  have e1 := r_thou (k := k + 1) (s := s) h
  have e1' := r_thou (k := k + 1) (s := s) hp
  have e4 := r_sqof (k := k + 2) (s := s) h
  have e4' := r_sqof (k := k + 2) (s := s) hp
  have r := rN_bd h
  have r' := rN_bd hp
  have hW := W_bd hp h hz
  have u := h.1
  have u' := hp.1
  have q1 := op_mul (i := 1000) (j := b) (zaah (by decide))
  have q2 := op_mul (i := 1000 * b) (j := nN p) (zaah (by omega))
  have q2' := op_mul (i := 1000 * b) (j := nN v) (zaah (by omega))
  have q3 := op_mul (i := 1000 * b * nN p) (j := rN v) (mulB_r (by omega))
  have q3' := op_mul (i := 1000 * b * nN v) (j := rN p) (mulB_r (by omega))
  have y1 := op_mul (i := mb p v b) (j := v.2) (mulB_r (by omega))
  have y2 := op_mul (i := mb v p b) (j := p.2) (mulB_r (by omega))
  have y3 := op_mul (i := mb v p b) (j := p.1) (mulB_r (by omega))
  have y4 := op_mul (i := mb p v b) (j := v.1) (mulB_r (by omega))
  have q5 := op_mul (i := cutZ p v) (j := rN p) (mulB_r (by omega))
  have q6 := op_mul (i := cutZ p v * rN p) (j := rN v) (mulB_r (by omega))
  have e2 := zadz (k := k) (s := s) (c := c.1) (part := mb p v b * v.2 - mb v p b * p.2) (W := cutZ p v * rN p * rN v) (by have := hc.1; omega) hW.1 hW.2
  have e3 := zadz (k := k) (s := s) (c := c.2) (part := mb v p b * p.1 - mb p v b * v.1) (W := cutZ p v * rN p * rN v) (by have := hc.2; omega) hW.1 hW.2
  have hx : exs (cfX fns sub0 (k + 4)) bz35 (enter Fz35 [PT c, PT p, PT v, .val (.int (cutZ p v)), .val (.int b)]) s = .ret (.val (wherT c p v (cutZ p v) b)) s := by
    unfold wherT
    clear hW hz u u' r r'
    have m1 : 1000 * b * nN p * rN v = mb p v b := rfl
    have m2 : 1000 * b * nN v * rN p = mb v p b := rfl
    rw [m1] at q3
    rw [m2] at q3'
    clear m1 m2
    generalize mvP c.1 (mb p v b * v.2 - mb v p b * p.2) (cutZ p v * rN p * rN v) = P1 at *
    generalize mvP c.2 (mb v p b * p.1 - mb p v b * v.1) (cutZ p v * rN p * rN v) = P2 at *
    generalize cutZ p v * rN p * rN v = W at *
    generalize cutZ p v * rN p = W1 at *
    generalize cutZ p v = Z at *
    generalize mb p v b * v.2 = t1 at *
    generalize mb v p b * p.2 = t2 at *
    generalize mb v p b * p.1 = t3 at *
    generalize mb p v b * v.1 = t4 at *
    generalize mb p v b = M1 at *
    generalize mb v p b = M2 at *
    generalize 1000 * b * nN p = N1 at *
    generalize 1000 * b * nN v = N2 at *
    generalize 1000 * b = K at *
    generalize nN p = n1 at *
    generalize nN v = n2 at *
    generalize rN p = r1 at *
    generalize rN v = r2 at *
    simp [bz35, e1, e1', e4, e4', q1, q2, q2', q3, q3', y1, y2, y3, y4, q5, q6, e2, e3]
  rw [hx]
  rfl
def hemT (c p v : Int × Int) (b : Int) : T := if cutZ p v = 0 then besT c v b else wherT c p v (cutZ p v) b
theorem r_hem {c p v : Int × Int} {b : Int} (hc : sml c) (hp : vs p) (h : vs v) (hb : 0 ≤ b ∧ b ≤ 1000) : run true fns sub0 whileL (k + 6) 16 [PT c, PT p, PT v, .val (.int b)] s = .ok (.val (hemT c p v b)) s := by
  rw [zaaj (F := Fz20) rfl rfl]
  have u' := hp.1
  have q1 := op_mul (i := p.1) (j := v.2) (zaah (by omega))
  have q2 := op_mul (i := p.2) (j := v.1) (zaah (by omega))
  have ec : p.1 * v.2 - p.2 * v.1 = cutZ p v := rfl
  unfold hemT
  by_cases h0 : cutZ p v = 0
  · rw [if_pos h0]
    have e := r_beside (k := k) (s := s) (c := c) hc h hb
    rw [h0] at ec
    generalize p.1 * v.2 = z1 at *
    generalize p.2 * v.1 = z2 at *
    simp [bz20, q1, q2, ec, e]
  · rw [if_neg h0]
    have e := r_cut (k := k) (s := s) (c := c) (b := b) hc hp h hb h0
    generalize p.1 * v.2 = z1 at *
    generalize p.2 * v.1 = z2 at *
    generalize cutZ p v = Z at *
    simp [bz20, q1, q2, ec, e, h0]
end Pg
end IP
end
section
set_option linter.all false
set_option maxRecDepth 100000
set_option maxHeartbeats 0
namespace IP
namespace Pg
open L2 M3
variable {k : Nat} {s : Sto} {l : List (Int × Int)}
def sm3 (p : Int × Int) : Prop := p.1.natAbs ≤ 2 ^ 16 ∧ p.2.natAbs ≤ 2 ^ 16
structure Fine (l : List (Int × Int)) : Prop where
  n1000 : l.length ≤ 1000
  nc : NC l.length (cor l)
  sl : ∀ p ∈ l, sm3 p
theorem Fine.sml (F : Fine l) : ∀ p ∈ l, sml p := fun p hp => by
  have := F.sl p hp
  exact ⟨by have := this.1; omega, by have := this.2; omega⟩
theorem Fine.s3 (F : Fine l) (i : Nat) : sm3 (cor l i) := by
  unfold cor
  rw [List.getD_eq_getElem?_getD]
  cases e : l[i % l.length]? with
  | none => exact ⟨by decide, by decide⟩
  | some p => exact F.sl p (List.mem_of_getElem? e)
def dv (l : List (Int × Int)) (i : Nat) : Int × Int := ((cor l (i + 1)).1 - (cor l i).1, (cor l (i + 1)).2 - (cor l i).2)
def gv (l : List (Int × Int)) (i : Nat) : Int := gdZ (dv l i).1 (dv l i).2
def pq (l : List (Int × Int)) (i : Nat) : Int × Int := (Int.fdiv (dv l i).1 (gv l i), Int.fdiv (dv l i).2 (gv l i))
def ovL (lw : Bool) (v : Int × Int) : Int × Int := if lw then (v.2, -v.1) else (-v.2, v.1)
def lwB (l : List (Int × Int)) : Bool := decide (0 < dsum l l.length)
def ov (l : List (Int × Int)) (i : Nat) : Int × Int := ovL (lwB l) (pq l i)
theorem zacy {g i : Int} (h : 0 < g) : i.natAbs ≤ (g * i).natAbs := by
  rw [Int.natAbs_mul]
  have : 1 * i.natAbs ≤ g.natAbs * i.natAbs := Nat.mul_le_mul_right _ (by omega)
  omega
section
variable (F : Fine l)
include F
theorem Fine.dv0 (i : Nat) : ¬ ((dv l i).1 = 0 ∧ (dv l i).2 = 0) := by
  rintro ⟨h1, h2⟩
  apply F.nc.c0 i
  unfold dv at h1 h2
  exact Prod.ext (by omega) (by omega)
theorem Fine.gv0 (i : Nat) : 0 < gv l i := by
  have h := F.dv0 i
  unfold gv gdZ
  have : Nat.gcd (dv l i).1.natAbs (dv l i).2.natAbs ≠ 0 := fun z => by
    have := Nat.gcd_eq_zero_iff.mp z
    omega
  omega
theorem Fine.pqs (i : Nat) : (dv l i).1 = gv l i * (pq l i).1 ∧ (dv l i).2 = gv l i * (pq l i).2 ∧ Nat.Coprime (pq l i).1.natAbs (pq l i).2.natAbs := by
  have g0 := F.gv0 i
  obtain ⟨a, b, e1, e2, c⟩ := WayM.low (p := (dv l i).1) (q := (dv l i).2) (g := gv l i) rfl g0
  unfold pq
  rw [e1, e2, Int.mul_fdiv_cancel_left a (by omega), Int.mul_fdiv_cancel_left b (by omega)]
  exact ⟨rfl, rfl, c⟩
theorem Fine.dvs (i : Nat) : (dv l i).1.natAbs ≤ 2 ^ 17 ∧ (dv l i).2.natAbs ≤ 2 ^ 17 := by
  have h1 := F.s3 i
  have h2 := F.s3 (i + 1)
  unfold sm3 at h1 h2
  unfold dv
  dsimp only
  omega
theorem Fine.gvs (i : Nat) : (gv l i).natAbs < 2 ^ 400 := by
  have h := F.dvs i
  have h0 := F.dv0 i
  unfold gv gdZ
  by_cases h1 : (dv l i).1 = 0
  · have := Nat.gcd_le_right (dv l i).1.natAbs (show 0 < (dv l i).2.natAbs by omega)
    omega
  · have := Nat.gcd_le_left (dv l i).2.natAbs (show 0 < (dv l i).1.natAbs by omega)
    omega
theorem Fine.vpq (i : Nat) : vs (pq l i) := by
  obtain ⟨e1, e2, c⟩ := F.pqs i
  have g0 := F.gv0 i
  have h := F.dvs i
  have h0 := F.dv0 i
  have a1 := zacy (i := (pq l i).1) g0
  have a2 := zacy (i := (pq l i).2) g0
  rw [← e1] at a1
  rw [← e2] at a2
  refine ⟨⟨by omega, by omega⟩, ?_⟩
  rintro ⟨z1, z2⟩
  rw [z1, Int.mul_zero] at e1
  rw [z2, Int.mul_zero] at e2
  exact h0 ⟨e1, e2⟩
theorem vs_ovL {lw : Bool} {v : Int × Int} (h : vs v) : vs (ovL lw v) := by
  obtain ⟨⟨h1, h2⟩, h3⟩ := h
  unfold ovL vs
  cases lw
  · simp only [Bool.false_eq_true, if_false]
    omega
  · simp only [if_true]
    omega
theorem Fine.vov (i : Nat) : vs (ov l i) := vs_ovL F (F.vpq i)
theorem Fine.outward {i : Nat} (hi : i < l.length) {lw : Bool} : run true fns sub0 whileL (k + 2) 15 [LN l, .val (.int i), .val (.bl lw)] s = .ok (PT (ovL lw (pq l i))) s := by
  rw [zaaj (F := Fz24) rfl rfl]
  have e1 := r_ends (k := k) (s := s) hi
  have e2 := r_gd (k := k) (s := s) (dv l i).1.natAbs (dv l i).2.natAbs
  have e2' : run true fns sub0 whileL (k + 1) iz18 [.val (.int ((dv l i).1.natAbs : Int)), .val (.int ((dv l i).2.natAbs : Int))] s = .ok (.val (.int (gv l i))) s := e2
  have q1 := zabc (i := (dv l i).1) (j := gv l i) (F.gv0 i) (F.gvs i)
  have q2 := zabc (i := (dv l i).2) (j := gv l i) (F.gv0 i) (F.gvs i)
  have h1 : (cor l (i + 1)).1 - (cor l i).1 = (dv l i).1 := rfl
  have h2 : (cor l (i + 1)).2 - (cor l i).2 = (dv l i).2 := rfl
  unfold pq
  generalize cor l i = a at *
  generalize cor l (i + 1) = b at *
  generalize gv l i = g at *
  generalize (dv l i).1 = A at *
  generalize (dv l i).2 = Z at *
  clear F e2
  unfold ovL
  cases lw
  · simp [bz24, e1, h1, h2, ab, e2', q1, q2, pt]
  · simp [bz24, e1, h1, h2, ab, e2', q1, q2, pt]
theorem cutZ_ov {lw : Bool} {a b : Int × Int} : cutZ (ovL lw a) (ovL lw b) = cutZ a b := by
  unfold cutZ ovL
  cases lw
  · simp only [Bool.false_eq_true, if_false]; grind
  · simp only [if_true]; grind
theorem Fine.same (i : Nat) (h : cutZ (ov l i) (ov l (i + 1)) = 0) : pq l i = pq l (i + 1) := by
  unfold ov at h
  rw [cutZ_ov F] at h
  obtain ⟨a1, a2, a3⟩ := F.pqs i
  obtain ⟨b1, b2, b3⟩ := F.pqs (i + 1)
  have g1 := F.gv0 i
  have g2 := F.gv0 (i + 1)
  have t := no_tog (F.nc.c1 i)
  have hv := (F.vpq i).2
  have hw := (F.vpq (i + 1)).2
  unfold cutZ at h
  have tz : turnZ (cor l (i + 1)) (cor l i) (cor l (i + 2)) = 0 := by
    unfold dv at a1 a2 b1 b2
    dsimp only at a1 a2 b1 b2
    rw [show i + 1 + 1 = i + 2 by omega] at b1 b2
    unfold turnZ
    generalize pq l i = p at *
    generalize pq l (i + 1) = q at *
    grind
  have az : alongZ (cor l (i + 1)) (cor l i) (cor l (i + 2)) = -(gv l i * gv l (i + 1) * ((pq l i).1 * (pq l (i + 1)).1 + (pq l i).2 * (pq l (i + 1)).2)) := by
    unfold dv at a1 a2 b1 b2
    dsimp only at a1 a2 b1 b2
    rw [show i + 1 + 1 = i + 2 by omega] at b1 b2
    unfold alongZ
    generalize pq l i = p at *
    generalize pq l (i + 1) = q at *
    grind
  unfold zaau at t
  rw [tz, az] at t
  simp only [decide_true, Bool.true_and, decide_eq_false_iff_not] at t
  have gg := Int.mul_pos g1 g2
  generalize pq l i = p at *
  generalize pq l (i + 1) = q at *
  generalize gv l i * gv l (i + 1) = G at *
  have hd : 0 ≤ p.1 * q.1 + p.2 * q.2 := by
    apply Classical.byContradiction
    intro hn
    have := Int.mul_pos gg (show 0 < -(p.1 * q.1 + p.2 * q.2) by omega)
    rw [Int.mul_neg] at this
    omega
  have hne : p.1 * q.1 + p.2 * q.2 ≠ 0 := by
    intro hz
    have s1 := WayM.sq_pos_of hv
    have s2 := WayM.sq_pos_of hw
    have := Int.mul_pos s1 s2
    have e : (p.1 * p.1 + p.2 * p.2) * (q.1 * q.1 + q.2 * q.2) = (p.1 * q.1 + p.2 * q.2) * (p.1 * q.1 + p.2 * q.2) + (p.1 * q.2 - p.2 * q.1) * (p.1 * q.2 - p.2 * q.1) := by grind
    rw [hz, h] at e
    omega
  have := WayM.prim a3 b3 (by omega) (show 0 < p.1 * q.1 + p.2 * q.2 by omega)
  exact Prod.ext this.1 this.2
end
structure Mv (c part W : Int) (q : Int × Int) : Prop where
  pos : 0 < q.2
  cop : Nat.gcd q.1.natAbs q.2.natAbs = 1
  e : (q.1 - c * q.2) * W = part * q.2
  le : q.2 ≤ (W.natAbs : Int)
theorem zadr {c part W : Int} (h : W ≠ 0) : Mv c part W (mvP c part W) := by
  unfold mvP
  by_cases h0 : W < 0
  · rw [if_pos h0]
    obtain ⟨⟨a, b, e⟩, d⟩ := lo_ok (A := c * (-W) + (-part)) (W := -W) (by omega)
    refine ⟨a, b, ?_, by omega⟩
    generalize loP (c * (-W) + (-part)) (-W) = q at *
    grind
  · rw [if_neg h0]
    obtain ⟨⟨a, b, e⟩, d⟩ := lo_ok (A := c * W + part) (W := W) (by omega)
    refine ⟨a, b, ?_, by omega⟩
    generalize loP (c * W + part) W = q at *
    grind
theorem Mv.small {c part W : Int} {q : Int × Int} (M : Mv c part W q) (hW : W ≠ 0) (hc : c.natAbs ≤ 2 ^ 20) (hp : part.natAbs ≤ 2 ^ 110) (hw : W.natAbs ≤ 2 ^ 92) : q.1.natAbs ≤ 2 ^ 210 ∧ q.2.natAbs ≤ 2 ^ 92 := by
  have q2 : q.2.natAbs ≤ 2 ^ 92 := by
    have := M.le
    have := M.pos
    omega
  refine ⟨?_, q2⟩
  have h1 := zaai hp q2
  rw [← M.e, Int.natAbs_mul] at h1
  have h2 : (q.1 - c * q.2).natAbs * 1 ≤ (q.1 - c * q.2).natAbs * W.natAbs := Nat.mul_le_mul_left _ (by omega)
  have h3 := zaai hc q2
  generalize c * q.2 = z at *
  omega
structure CoOk (c p v : Int × Int) (b : Int) (X Y : Int × Int) : Prop where
  p1 : 0 < X.2
  p2 : 0 < Y.2
  c1 : Nat.gcd X.1.natAbs X.2.natAbs = 1
  c2 : Nat.gcd Y.1.natAbs Y.2.natAbs = 1
  s1 : X.1.natAbs ≤ 2 ^ 210 ∧ X.2.natAbs ≤ 2 ^ 92
  s2 : Y.1.natAbs ≤ 2 ^ 210 ∧ Y.2.natAbs ≤ 2 ^ 92
  o1 : (p.1 * ((X.1 - c.1 * X.2) * Y.2) + p.2 * ((Y.1 - c.2 * Y.2) * X.2)) * rN p = 1000 * b * nN p * X.2 * Y.2
  o2 : (v.1 * ((X.1 - c.1 * X.2) * Y.2) + v.2 * ((Y.1 - c.2 * Y.2) * X.2)) * rN v = 1000 * b * nN v * X.2 * Y.2
  st : cutZ p v = 0 → (X.1 - c.1 * X.2) * Y.2 * v.2 - (Y.1 - c.2 * Y.2) * X.2 * v.1 = 0
abbrev fT2 (X Y : Int × Int) : T := .tup [pt X, pt Y]
theorem zafi {a b w : Int} (h : w ≠ 0) (e : a * w = b * w) : a = b := Int.eq_of_mul_eq_mul_right h e
theorem bes_spec {c v : Int × Int} {b : Int} (hc : sml c) (h : vs v) (hb : 0 ≤ b ∧ b ≤ 1000) : ∃ X Y, besT c v b = fT2 X Y ∧ CoOk c v v b X Y := by
  have r := rN_bd h
  have u := h.1
  have b1 := zaai (a := 1000 * b) (b := v.1) (m := 1000000) (n := 2 ^ 17) (by omega) u.1
  have b2 := zaai (a := 1000 * b) (b := v.2) (m := 1000000) (n := 2 ^ 17) (by omega) u.2
  have m1 := zadr (c := c.1) (part := 1000 * b * v.1) (W := rN v) (by omega)
  have m2 := zadr (c := c.2) (part := 1000 * b * v.2) (W := rN v) (by omega)
  refine ⟨_, _, rfl, ?_⟩
  generalize mvP c.1 (1000 * b * v.1) (rN v) = X at *
  generalize mvP c.2 (1000 * b * v.2) (rN v) = Y at *
  have s1 := m1.small (by omega) hc.1 (by omega) (by omega)
  have s2 := m2.small (by omega) hc.2 (by omega) (by omega)
  have e1 := m1.e
  have e2 := m2.e
  have o : (v.1 * ((X.1 - c.1 * X.2) * Y.2) + v.2 * ((Y.1 - c.2 * Y.2) * X.2)) * rN v = 1000 * b * nN v * X.2 * Y.2 := by
    unfold nN
    generalize X.1 - c.1 * X.2 = A at *
    generalize Y.1 - c.2 * Y.2 = U at *
    generalize rN v = w at *
    grind
  refine ⟨m1.pos, m2.pos, m1.cop, m2.cop, s1, s2, o, o, fun _ => ?_⟩
  apply zafi (w := rN v) (by omega)
  rw [Int.zero_mul]
  generalize X.1 - c.1 * X.2 = A at *
  generalize Y.1 - c.2 * Y.2 = U at *
  generalize rN v = w at *
  grind
theorem mb_bd {p v : Int × Int} {b : Int} (hp : vs p) (h : vs v) (hb : 0 ≤ b ∧ b ≤ 1000) {x : Int} (hx : x.natAbs ≤ 2 ^ 17) : (mb p v b * x).natAbs ≤ 2 ^ 101 := by
  have r := rN_bd h
  have n := nN_bd hp
  unfold mb
  have h1 := zaai (a := 1000 * b) (b := nN p) (m := 2 ^ 20) (n := 2 ^ 35) (by omega) (by omega)
  have h2 := zaai (a := 1000 * b * nN p) (b := rN v) (m := 2 ^ 20 * 2 ^ 35) (n := 2 ^ 28) h1 (by omega)
  have h3 := zaai (a := 1000 * b * nN p * rN v) (b := x) (m := 2 ^ 20 * 2 ^ 35 * 2 ^ 28) (n := 2 ^ 17) h2 hx
  generalize 1000 * b * nN p * rN v * x = z at *
  omega
theorem W_92 {p v : Int × Int} (hp : vs p) (h : vs v) : (cutZ p v * rN p * rN v).natAbs ≤ 2 ^ 92 := by
  have r := rN_bd h
  have r' := rN_bd hp
  have z := cut_bd hp h
  have h1 := zaai (a := cutZ p v) (b := rN p) (m := 2 ^ 35) (n := 2 ^ 28) z (by omega)
  have h2 := zaai (a := cutZ p v * rN p) (b := rN v) (m := 2 ^ 35 * 2 ^ 28) (n := 2 ^ 28) h1 (by omega)
  generalize cutZ p v * rN p * rN v = z at *
  omega
theorem whe_spec {c p v : Int × Int} {b : Int} (hc : sml c) (hp : vs p) (h : vs v) (hb : 0 ≤ b ∧ b ≤ 1000) (hz : cutZ p v ≠ 0) : ∃ X Y, wherT c p v (cutZ p v) b = fT2 X Y ∧ CoOk c p v b X Y := by
  have r := rN_bd h
  have r' := rN_bd hp
  have hW := (W_bd hp h hz).1
  have w92 := W_92 hp h
  have u := h.1
  have u' := hp.1
  have t1 := mb_bd hp h hb u.2
  have t2 := mb_bd h hp hb u'.2
  have t3 := mb_bd h hp hb u'.1
  have t4 := mb_bd hp h hb u.1
  have m1 := zadr (c := c.1) (part := mb p v b * v.2 - mb v p b * p.2) (W := cutZ p v * rN p * rN v) hW
  have m2 := zadr (c := c.2) (part := mb v p b * p.1 - mb p v b * v.1) (W := cutZ p v * rN p * rN v) hW
  refine ⟨_, _, rfl, ?_⟩
  generalize mvP c.1 (mb p v b * v.2 - mb v p b * p.2) (cutZ p v * rN p * rN v) = X at *
  generalize mvP c.2 (mb v p b * p.1 - mb p v b * v.1) (cutZ p v * rN p * rN v) = Y at *
  have s1 := m1.small hW hc.1 (by clear m1 m2 w92 hW; omega) w92
  have s2 := m2.small hW hc.2 (by clear m1 m2 w92 hW; omega) w92
  have e1 := m1.e
  have e2 := m2.e
  refine ⟨m1.pos, m2.pos, m1.cop, m2.cop, s1, s2, ?_, ?_, fun q => absurd q hz⟩
  · apply zafi (w := cutZ p v * rN v) (Int.mul_ne_zero hz (by omega))
    clear m1 m2 s1 s2 t1 t2 t3 t4 w92 hW
    have ez : mb p v b = 1000 * b * nN p * rN v := rfl
    rw [ez] at e1 e2
    have a1 : p.1 * ((X.1 - c.1 * X.2) * Y.2) * (cutZ p v * rN p * rN v) = p.1 * Y.2 * ((1000 * b * nN p * rN v * v.2 - mb v p b * p.2) * X.2) := by rw [← e1]; grind
    have a2 : p.2 * ((Y.1 - c.2 * Y.2) * X.2) * (cutZ p v * rN p * rN v) = p.2 * X.2 * ((mb v p b * p.1 - 1000 * b * nN p * rN v * v.1) * Y.2) := by rw [← e2]; grind
    have a3 : (p.1 * ((X.1 - c.1 * X.2) * Y.2) + p.2 * ((Y.1 - c.2 * Y.2) * X.2)) * rN p * (cutZ p v * rN v) = p.1 * ((X.1 - c.1 * X.2) * Y.2) * (cutZ p v * rN p * rN v) + p.2 * ((Y.1 - c.2 * Y.2) * X.2) * (cutZ p v * rN p * rN v) := by grind
    rw [a3, a1, a2]
    unfold cutZ
    generalize nN p = n at *
    generalize rN v = w at *
    generalize mb v p b = m at *
    clear a1 a2 a3 e1 e2
    grind
  · apply zafi (w := cutZ p v * rN p) (Int.mul_ne_zero hz (by omega))
    clear m1 m2 s1 s2 t1 t2 t3 t4 w92 hW
    have ez : mb v p b = 1000 * b * nN v * rN p := rfl
    rw [ez] at e1 e2
    have a1 : v.1 * ((X.1 - c.1 * X.2) * Y.2) * (cutZ p v * rN p * rN v) = v.1 * Y.2 * ((mb p v b * v.2 - 1000 * b * nN v * rN p * p.2) * X.2) := by rw [← e1]; grind
    have a2 : v.2 * ((Y.1 - c.2 * Y.2) * X.2) * (cutZ p v * rN p * rN v) = v.2 * X.2 * ((1000 * b * nN v * rN p * p.1 - mb p v b * v.1) * Y.2) := by rw [← e2]; grind
    have a3 : (v.1 * ((X.1 - c.1 * X.2) * Y.2) + v.2 * ((Y.1 - c.2 * Y.2) * X.2)) * rN v * (cutZ p v * rN p) = v.1 * ((X.1 - c.1 * X.2) * Y.2) * (cutZ p v * rN p * rN v) + v.2 * ((Y.1 - c.2 * Y.2) * X.2) * (cutZ p v * rN p * rN v) := by grind
    rw [a3, a1, a2]
    unfold cutZ
    generalize nN v = n at *
    generalize rN p = w at *
    generalize mb p v b = m at *
    clear a1 a2 a3 e1 e2
    grind
theorem hem_spec {c p v : Int × Int} {b : Int} (hc : sml c) (hp : vs p) (h : vs v) (hb : 0 ≤ b ∧ b ≤ 1000) (hs : cutZ p v = 0 → p = v) : ∃ X Y, hemT c p v b = fT2 X Y ∧ CoOk c p v b X Y := by
  unfold hemT
  by_cases h0 : cutZ p v = 0
  · rw [if_pos h0]
    have e := hs h0
    subst e
    exact bes_spec hc h hb
  · rw [if_neg h0]
    exact whe_spec hc hp h hb h0
end Pg
end IP
end
section
set_option linter.all false
set_option maxRecDepth 100000
namespace IP
namespace Pg
open L2
variable {k : Nat} {s : Sto}
abbrev iL (xs : List Int) : List T := xs.map .int
abbrev tI (xs : List Int) : T := .tup (iL xs)
theorem r_whole (i : Int) : run true fns sub0 whileL (k + 1) iz14 [.val (.int i)] s = .ok (.val (.bl true)) s := by
  rw [zaaj (F := Fz14) rfl rfl]
  simp [bz14]
theorem r_at (ns : List Int) (m : Nat) : ∃ v, run true fns sub0 whileL (k + 1) iz2 [.val (.lst (iL ns)), .val (.int m)] s = .ok (.val (.int v)) s := by
  rw [zaaj (F := Fz2) rfl rfl]
  by_cases h : m < ns.length
  · have hg : (ns.map T.int)[m]? = some (.int ns[m]) := by simp [h]
    have h1 := sub_at hg
    exact ⟨ns[m], by simp [bz2, h, h1]⟩
  · exact ⟨0, by simp [bz2, h]⟩
def zaav (v : Int) : Prop := 0 ≤ v ∧ v ≤ 2147483646
theorem zaap (i : Int) {j : Int} (h : 0 < j) : 0 ≤ Int.fmod i j ∧ Int.fmod i j < j := by
  rw [Int.fmod_eq_emod_of_nonneg _ (by omega)]
  exact ⟨Int.emod_nonneg _ (by omega), Int.emod_lt_of_pos _ h⟩
theorem zaee (i : Int) : zaav (Int.fmod i 2147483647) := by
  have := zaap i (j := 2147483647) (by decide)
  unfold zaav
  omega
theorem r_stir (ns : List Int) (n : Nat) (hn : n ≤ 1000) : ∃ row : List Int, row.length = n ∧ (∀ v ∈ row, zaav v) ∧ run true fns sub0 whileL (k + 2) iz9 [.val (.lst (iL ns)), .val (.int n)] s = .ok (.val (.lst (iL row))) s := by
  obtain ⟨σ', e, st, row, c, rfl, h1, h2, h3⟩ := zaa1 (g := .one 4) (body := fun σ s => exs (cfX fns sub0 (k + 1)) bz9_L0 σ s) (s := s)
    (fun m σ => ∃ (st : Int) (row : List Int) (c : Option B), σ = [some (.val (.lst (iL ns))), some (.val (.int n)), some (.val (.int st)), some (.own (iL row)), c] ∧ zaav st ∧ row.length = m ∧ ∀ v ∈ row, zaav v) (rangeT 0 n) 0 [some (.val (.lst (iL ns))), some (.val (.int n)), some (.val (.int 7)), some (.own []), none] ⟨7, [], none, rfl, ⟨by decide, by decide⟩, rfl, by simp⟩ (by
      rintro m t σ hm ⟨st, row, c, rfl, h1, h2, h3⟩
      obtain ⟨rfl, hlt⟩ := zaao hm
      obtain ⟨v, hv⟩ := r_at (k := k) (s := s) ns m
      have hmul := op_mul (i := st) (j := 48271) (zaah (by have := h1.1; have := h1.2; omega))
      have hmod := op_mod (i := st * 48271 + v + 11) (j := 2147483647) (by decide)
      have hz := zaee (st * 48271 + v + 11)
      have hlim : row.length < lim := Nat.lt_of_lt_of_le (show row.length < 1000 by omega) lim_ge
      refine ⟨[some (.val (.lst (iL ns))), some (.val (.int n)), some (.val (.int st)), some (.own (iL row)), some (.val (.int m))], [some (.val (.lst (iL ns))), some (.val (.int n)), some (.val (.int (Int.fmod (st * 48271 + v + 11) 2147483647))), some (.own (iL (row ++ [Int.fmod (st * 48271 + v + 11) 2147483647]))), some (.val (.int m))], by simp [bindTg], by simp [hv, hmul, hmod, ownAt, setOwn, hlim], Int.fmod (st * 48271 + v + 11) 2147483647, row ++ [Int.fmod (st * 48271 + v + 11) 2147483647], some (.val (.int m)), rfl, hz, by simp [h2], ?_⟩
      intro x hx
      rcases List.mem_append.mp hx with z | z
      · exact h3 x z
      · rw [List.mem_singleton.mp z]; exact hz)
  refine ⟨row, ?_, h3, ?_⟩
  · rw [h2, zaas]; omega
  · rw [zaaj (F := Fz9) rfl rfl]
    have hx : exs (cfX fns sub0 (k + 1)) bz9 (enter Fz9 [.val (.lst (iL ns)), .val (.int n)]) s = .ret (.val (.lst (iL row))) s := by
      refine (zaac (σ1 := [some (.val (.lst (iL ns))), some (.val (.int n)), some (.val (.int 7)), none, none]) (s1 := s) (by simp)).trans ?_
      refine (zaac (σ1 := [some (.val (.lst (iL ns))), some (.val (.int n)), some (.val (.int 7)), some (.own []), none]) (s1 := s) (by simp [freshE, setOwn])).trans ?_
      refine (zaac ((ex_for (ts := rangeT 0 n) (s1 := s) (zabu (n := n) (by simp) hn) (by intro _ h; cases h)).trans e)).trans ?_
      simp [frz]
    rw [hx]
    rfl
theorem row_at {row : List Int} (hr : ∀ v ∈ row, zaav v) {m : Nat} (h : m < row.length) : ∃ v, zaav v ∧ subR (.val (.lst (iL row))) (m : Int) = some (.int v) ∧ row[m]? = some v := by
  refine ⟨row[m], hr _ (List.getElem_mem h), sub_at (by simp [h]), by simp [h]⟩
end Pg
end IP
end
section
set_option linter.all false
set_option maxRecDepth 100000
set_option maxHeartbeats 0
namespace IP
namespace Pg
open L2 M3
variable {k : Nat} {s : Sto} {l : List (Int × Int)}
theorem cor_mod (i : Nat) : cor l (i % l.length) = cor l i := by unfold cor; rw [Nat.mod_mod]
theorem cor_mod1 (i : Nat) : cor l (i % l.length + 1) = cor l (i + 1) := by unfold cor; rw [Nat.mod_add_mod]
theorem ov_mod (i : Nat) : ov l (i % l.length) = ov l i := by
  unfold ov pq gv dv
  rw [cor_mod, cor_mod1]
theorem ov_per (i : Nat) : ov l (i + l.length) = ov l i := by rw [← ov_mod, Nat.add_mod_right, ov_mod]
section
variable (F : Fine l)
include F
theorem Fine.corner {b : Int} (hb : 0 ≤ b ∧ b ≤ 1000) (i : Nat) : ∃ X Y, hemT (cor l i) (ov l (i + l.length - 1)) (ov l i) b = fT2 X Y ∧ CoOk (cor l i) (ov l (i + l.length - 1)) (ov l i) b X Y := by
  have n3 := F.nc.n3
  refine hem_spec (zaat F.sml i) (F.vov _) (F.vov _) hb fun h => ?_
  have e : ov l (i + l.length - 1 + 1) = ov l i := by rw [show i + l.length - 1 + 1 = i + l.length by omega, ov_per]
  rw [← e] at h ⊢
  unfold ov
  rw [F.same _ h]
theorem Fine.outline {b : Int} (hb : 0 ≤ b ∧ b ≤ 1000) : run true fns sub0 whileL (k + 7) 13 [LN l, .val (.int b)] s = .ok (.val (.lst ((List.range l.length).map fun i => hemT (cor l i) (ov l (i + l.length - 1)) (ov l i) b))) s := by
  have n3 := F.nc.n3
  rw [zaaj (F := Fz23) rfl rfl]
  have e1 := zaem (k := k + 1) (s := s) F.sml F.n1000
  rw [fp_no fun i j h1 h2 => F.nc.free rfl h1 h2] at e1
  have e2 := zaf7 (k := k + 5) (s := s) F.sml (by omega)
  have key := zaed (C := cfX fns sub0 (k + 6)) (s := s) (l := l) (n := l.length) (by omega) rfl F.n1000 (b := b) (lw := lwB l) (v := ov l) (d := fun i => hemT (cor l i) (ov l (i + l.length - 1)) (ov l i) b) (cf_of e1 rfl) (cf_of e2 rfl) (fun i hi => cf_of (F.outward (k := k + 4) (s := s) hi) rfl) (fun i hi => by
    rw [ov_mod]
    exact cf_of (r_hem (k := k) (s := s) (zaat F.sml i) (F.vov _) (F.vov _) hb) rfl)
  have hx : exs (cfX fns sub0 (k + 6)) bz23 (enter Fz23 [LN l, .val (.int b)]) s = _ := key
  rw [hx]
  rfl
end
theorem lg_loop (C : Cf) {A0 A1 : Option B} : ∀ (n m : Nat) (c : Option B), ∃ c', whileL (fun σ s => (ev C (.cmp .gt (.var 3) (.cst (.int 0))) .t σ s).bind fun x s1 => .of (asB x) s1) (fun σ s => exs C bz4_L0 σ s)
      [A0, A1, some (.val (.int m)), some (.val (.int n)), c] s = .next [A0, A1, some (.val (.int (Nat.gcd m n))), some (.val (.int 0)), c'] s := by
  intro n
  induction n using Nat.strongRecOn with
  | _ n ih =>
    intro m c
    rw [zady]
    by_cases h : n = 0
    · subst h
      exact ⟨c, by simp⟩
    · have hn : 0 < n := by omega
      have hd := op_mod (i := (m : Int)) (j := (n : Int)) (by omega)
      rw [zacc] at hd
      obtain ⟨c', e⟩ := ih (m % n) (Nat.mod_lt _ hn) n (some (.val (.int ((m % n : Nat) : Int))))
      refine ⟨c', ?_⟩
      rw [show Nat.gcd m n = Nat.gcd n (m % n) by rw [Nat.gcd_comm m n, Nat.gcd_rec n m, Nat.gcd_comm]]
      have hc : (ev C (.cmp .gt (.var 3) (.cst (.int 0))) .t [A0, A1, some (.val (.int m)), some (.val (.int n)), c] s).bind (fun x s1 => Res.of (asB x) s1) = .ok true s := by simp [hn]
      have hb : exs C bz4_L0 [A0, A1, some (.val (.int m)), some (.val (.int n)), c] s = .next [A0, A1, some (.val (.int n)), some (.val (.int ((m % n : Nat) : Int))), some (.val (.int ((m % n : Nat) : Int)))] s := by
        generalize ((m % n : Nat) : Int) = z at hd ⊢
        simp [hd]
      rw [hc]
      show (exs C bz4_L0 [A0, A1, some (.val (.int m)), some (.val (.int n)), c] s).bind _ = _
      rw [hb]
      exact e
theorem r_lgcd (a b : Int) : run true fns sub0 whileL (k + 1) 25 [.val (.int a), .val (.int b)] s = .ok (.val (.int (gdZ a b))) s := by
  rw [zaaj (F := Fz4) rfl rfl]
  obtain ⟨c', e⟩ := lg_loop (s := s) (cfX fns sub0 k) (A0 := some (.val (.int a))) (A1 := some (.val (.int b))) b.natAbs a.natAbs none
  have hx : exs (cfX fns sub0 k) bz4 (enter Fz4 [.val (.int a), .val (.int b)]) s = .ret (.val (.int (gdZ a b))) s := by
    refine (zaac (σ1 := [some (.val (.int a)), some (.val (.int b)), some (.val (.int (a.natAbs : Int))), none, none]) (s1 := s) (by simp [ab])).trans ?_
    refine (zaac (σ1 := [some (.val (.int a)), some (.val (.int b)), some (.val (.int (a.natAbs : Int))), some (.val (.int (b.natAbs : Int))), none]) (s1 := s) (by simp [ab])).trans ?_
    refine (zaac ((ex_whl rfl).trans e)).trans ?_
    simp [gdZ]
  rw [hx]
  rfl
theorem root_any {C : Cf} (hw : C.wl = whileL) {N : Int} (h0 : 0 ≤ N) (hN : N < 2 ^ 60) : exs C bz7 [some (.val (.int N)), none, none] s = .ret (.val (.int (wroot N))) s := by
  obtain ⟨σ', e, ⟨m, rfl, hI⟩, hout⟩ := zabj (s := s) (c := fun σ s => (ev C (.cmp .le (.bin .mul (.var 2) (.var 2)) (.var 0)) .t σ s).bind fun x s1 => .of (asB x) s1) (b := fun σ s => exs C bz7_L0 σ s)
    (fun σ => ∃ m : Nat, σ = [some (.val (.int N)), some (.val (.int 0)), some (.val (.int ((2 ^ m : Nat) : Int)))] ∧ ((2 ^ m : Nat) : Int) ≤ 2 * N + 1) (fun σ => match σ with | [_, _, some (.val (.int b))] => (2 * N + 2 - b).toNat | _ => 0) (by
      rintro σ ⟨m, rfl, hI⟩
      have hp : 0 < (2 ^ m : Nat) := Nat.two_pow_pos m
      have e2 : ((2 ^ (m + 1) : Nat) : Int) = ((2 ^ m : Nat) : Int) * 2 := by rw [Nat.pow_succ]; omega
      generalize hb : ((2 ^ m : Nat) : Int) = b at *
      have hb1 : 1 ≤ b := by omega
      have q1 := op_mul (i := b) (j := b) (zaah (by omega))
      have q2 := op_mul (i := b) (j := 2) (zaah (by omega))
      by_cases hlt : b * b ≤ N
      · have hbn : b ≤ N := by
          have := Int.mul_le_mul_of_nonneg_left hb1 (show 0 ≤ b by omega)
          omega
        refine .inr ⟨by generalize b * b = z at *; simp [q1, hlt], [some (.val (.int N)), some (.val (.int 0)), some (.val (.int (b * 2)))], by generalize b * 2 = z at *; simp [q2], ⟨m + 1, by rw [e2], by omega⟩, ?_⟩
        show (2 * N + 2 - b * 2).toNat < (2 * N + 2 - b).toNat
        omega
      · exact .inl (by generalize b * b = z at *; simp [q1, hlt])) [some (.val (.int N)), some (.val (.int 0)), some (.val (.int 1))] ⟨0, rfl, by simp; omega⟩
  have hb1 : 0 < (2 ^ m : Nat) := Nat.two_pow_pos m
  have hlt : N < ((2 ^ m : Nat) : Int) * ((2 ^ m : Nat) : Int) := by
    have q1 := op_mul (i := ((2 ^ m : Nat) : Int)) (j := ((2 ^ m : Nat) : Int)) (zaah (by omega))
    generalize ((2 ^ m : Nat) : Int) = b at *
    apply Classical.byContradiction
    intro hn
    generalize b * b = z at *
    simp [q1, show z ≤ N by omega] at hout
  obtain ⟨σ2, e', ⟨t, b, rfl, hJ⟩, hout2⟩ := zabj (s := s) (c := fun σ s => (ev C (.cmp .gt (.var 2) (.cst (.int 0))) .t σ s).bind fun x s1 => .of (asB x) s1) (b := fun σ s => exs C bz7_L1 σ s)
    (fun σ => ∃ t b : Int, σ = [some (.val (.int N)), some (.val (.int t)), some (.val (.int b))] ∧ (0 ≤ t ∧ t ≤ N ∧ t * t ≤ N) ∧ ((∃ m : Nat, b = ((2 ^ m : Nat) : Int) ∧ b ≤ 2 * N + 1 ∧ N < (t + 2 * b) * (t + 2 * b)) ∨ (b = 0 ∧ N < (t + 1) * (t + 1)))) (fun σ => match σ with | [_, _, some (.val (.int b))] => b.toNat | _ => 0) (by
      rintro σ ⟨t, b, rfl, ⟨t0, t1, t2⟩, hJ⟩
      rcases hJ with ⟨m, hm, hb2, hN2⟩ | ⟨rfl, hN2⟩
      · have hp : 0 < (2 ^ m : Nat) := Nat.two_pow_pos m
        have hb1 : 1 ≤ b := by omega
        have q1 := op_mul (i := t + b) (j := t + b) (zaah (by omega))
        have q2 := zabe (i := b) (j := 2) (by decide) (by decide)
        have hf : (m = 0 ∧ b = 1 ∧ Int.fdiv b 2 = 0) ∨ (∃ m', Int.fdiv b 2 = ((2 ^ m' : Nat) : Int) ∧ b = 2 * Int.fdiv b 2) := by
          cases m with
          | zero => left; refine ⟨rfl, by simpa using hm, ?_⟩; rw [show b = 1 by simpa using hm]; decide
          | succ m' =>
            right
            have e2 : ((2 ^ (m' + 1) : Nat) : Int) = 2 * ((2 ^ m' : Nat) : Int) := by rw [Nat.pow_succ]; omega
            have e3 : Int.fdiv b 2 = ((2 ^ m' : Nat) : Int) := by
              rw [hm, e2]; exact Int.mul_fdiv_cancel_left _ (by decide)
            exact ⟨m', e3, by rw [e3, hm, e2]⟩
        have hlt2 : Int.fdiv b 2 < b := by rcases hf with ⟨_, h1, h2⟩ | ⟨m', h1, h2⟩ <;> omega
        generalize hfb : Int.fdiv b 2 = f at *
        have hfn : 0 ≤ f := by rcases hf with ⟨_, h1, h2⟩ | ⟨m', h1, h2⟩ <;> omega
        right
        refine ⟨by simp; omega, ?_⟩
        by_cases hc : (t + b) * (t + b) ≤ N
        · refine ⟨[some (.val (.int N)), some (.val (.int (t + b))), some (.val (.int f))], by generalize (t + b) * (t + b) = z at *; simp [q1, q2, hc], ⟨t + b, f, rfl, ⟨by omega, ?_, hc⟩, ?_⟩, by show f.toNat < b.toNat; omega⟩
          · have := Int.mul_le_mul_of_nonneg_left (show 1 ≤ t + b by omega) (show 0 ≤ t + b by omega)
            omega
          · rcases hf with ⟨_, h1, h2⟩ | ⟨m', h1, h2⟩
            · right
              refine ⟨h2, ?_⟩
              rw [show t + b + 1 = t + 2 * b by omega]; exact hN2
            · left
              refine ⟨m', h1, by omega, ?_⟩
              rw [show t + b + 2 * f = t + 2 * b by omega]; exact hN2
        · refine ⟨[some (.val (.int N)), some (.val (.int t)), some (.val (.int f))], by generalize (t + b) * (t + b) = z at *; simp [q1, q2, hc], ⟨t, f, rfl, ⟨t0, t1, t2⟩, ?_⟩, by show f.toNat < b.toNat; omega⟩
          rcases hf with ⟨_, h1, h2⟩ | ⟨m', h1, h2⟩
          · right
            refine ⟨h2, ?_⟩
            rw [h1] at hc; omega
          · left
            refine ⟨m', h1, by omega, ?_⟩
            rw [show t + 2 * f = t + b by omega]; omega
      · exact .inl (by simp)) [some (.val (.int N)), some (.val (.int 0)), some (.val (.int ((2 ^ m : Nat) : Int)))] ⟨0, _, rfl, ⟨by omega, h0, by omega⟩, .inl ⟨m, rfl, hI, by
        have hp' : 0 < ((2 ^ m : Nat) : Int) := Int.natCast_pos.mpr hb1
        generalize ((2 ^ m : Nat) : Int) = b at *
        have e1 : (0 + 2 * b) * (0 + 2 * b) = 4 * (b * b) := by grind
        have := Int.mul_nonneg (show 0 ≤ b by omega) (show 0 ≤ b by omega)
        omega⟩⟩
  have hr : t = wroot N := by
    obtain ⟨⟨t0, t1, t2⟩, hJ⟩ := hJ
    have hb0 : ¬ 0 < b := by
      intro hp
      simp [hp] at hout2
    rcases hJ with ⟨m, hm, _⟩ | ⟨_, hN2⟩
    · have hp : 0 < (2 ^ m : Nat) := Nat.two_pow_pos m
      omega
    · exact (zabb t0 t2 hN2 h0).symm
  refine (zaac (σ1 := [some (.val (.int N)), some (.val (.int 0)), none]) (s1 := s) (by simp)).trans ?_
  refine (zaac (σ1 := [some (.val (.int N)), some (.val (.int 0)), some (.val (.int 1))]) (s1 := s) (by simp)).trans ?_
  refine (zaac ((ex_whl hw).trans e)).trans ?_
  refine (zaac ((ex_whl hw).trans e')).trans ?_
  rw [hr]
  simp
theorem r_lroot {N : Int} (h0 : 0 ≤ N) (hN : N < 2 ^ 60) : run true fns sub0 whileL (k + 1) 29 [.val (.int N)] s = .ok (.val (.int (wroot N))) s :=
  (zaaj (F := Fz7) rfl rfl).trans (congrArg (leave true false) (root_any (C := cfX fns sub0 k) rfl h0 hN))
theorem r_twice (hl : ∀ p ∈ l, sml p) (h0 : 0 < l.length) (hn : l.length ≤ 1000) : run true fns sub0 whileL (k + 1) 30 [LN l] s = .ok (.val (.int (dsum l l.length))) s := by
  rw [zaaj (F := Fz13) rfl rfl]
  obtain ⟨σ', e, c2, c3, c4, rfl⟩ := zaa1 (g := .one 2) (body := fun σ s => exs (cfX fns sub0 k) bz13_L0 σ s) (s := s) (fun m σ => ∃ c2 c3 c4, σ = [some (.val (.lst (l.map pt))), some (.val (.int (dsum l m))), c2, c3, c4]) (rangeT 0 l.length) 0 [some (.val (.lst (l.map pt))), some (.val (.int 0)), none, none, none] ⟨_, _, _, rfl⟩ (by
      rintro m t σ hm ⟨c2, c3, c4, rfl⟩
      obtain ⟨rfl, hlt⟩ := zaao hm
      have hlt : m < l.length := by omega
      have hg := sub_at (zaa8 (l := l) h0 m)
      rw [Nat.mod_eq_of_lt hlt] at hg
      have hp := zab8 hlt
      have sp := zaat hl (m + l.length - 1)
      have m1 := op_mul (i := (cor l (m + l.length - 1)).1) (j := (cor l m).2) (zaah (by have := sp.1; omega))
      have m2 := op_mul (i := (cor l (m + l.length - 1)).2) (j := (cor l m).1) (zaah (by have := sp.2; omega))
      refine ⟨[some (.val (.lst (l.map pt))), some (.val (.int (dsum l m))), some (.val (.int m)), c3, c4], [some (.val (.lst (l.map pt))), some (.val (.int (dsum l (m + 1)))), some (.val (.int m)), some (.val (pt (cor l (m + l.length - 1)))), some (.val (pt (cor l m)))], ?_, ?_, _, _, _, by rw [Nat.zero_add]⟩
      · simp [bindTg]
      · simp [hp, hg, m1, m2, dsum])
  rw [zaas, show ((l.length : Int) - 0).toNat = l.length by omega, Nat.zero_add] at e
  have hx : exs (cfX fns sub0 k) bz13 (enter Fz13 [LN l]) s = .ret (.val (.int (dsum l l.length))) s := by
    refine (zaac (σ1 := [some (.val (.lst (l.map pt))), some (.val (.int 0)), none, none, none]) (s1 := s) (by simp)).trans ?_
    refine (zaac ((ex_for (ts := rangeT 0 l.length) (s1 := s) (zabu (n := l.length) (by simp) hn) (by intro _ h; cases h)).trans e)).trans ?_
    simp
  rw [hx]
  rfl
theorem zae1 {q : Int × Int} (h : 0 < q.2) (hc : Nat.gcd q.1.natAbs q.2.natAbs = 1) : run true fns sub0 whileL (k + 2) 31 [PT q] s = .ok (.val (.bl true)) s := by
  rw [zaaj (F := Fz3) rfl rfl]
  have w1 := r_whole (k := k) (s := s) q.1
  have w2 := r_whole (k := k) (s := s) q.2
  have g := r_lgcd (k := k) (s := s) q.1 q.2
  have e : gdZ q.1 q.2 = 1 := by unfold gdZ; omega
  rw [e] at g
  have t1 : isiX sub0 (.val (pt q)) .tuple = some true := rfl
  have t2 : b1R .len (.val (pt q)) = some (.val (.int 2)) := rfl
  have t1' : isiX (cfX fns sub0 (k + 1)).sub (.val (pt q)) .tuple = some true := rfl
  simp [bz3, t1, t1', t2, w1, w2, g, show ¬ q.2 < 1 by omega]
end Pg
end IP
end
section
set_option linter.all false
set_option maxRecDepth 100000
set_option maxHeartbeats 0
namespace IP
namespace Pg
open L2 M3
variable {k : Nat} {s : Sto} {l : List (Int × Int)}
theorem zabn {i j : Int} (hi : i.natAbs < 2 ^ 400) (hj : j.natAbs < 2 ^ 400) : mulB i j = true := by
  have h1 := Nat.lt_trans hi zae7
  have h2 := Nat.lt_trans hj zae7
  unfold mulB
  simp [h1, h2]
theorem zafl {i : Nat} (hi : i < l.length) : subR (LN l) (i : Int) = some (pt (cor l i)) := by
  have h := sub_at (zaa8 (l := l) (by omega) i)
  rw [Nat.mod_eq_of_lt hi] at h
  exact h
theorem zafx {i : Nat} (hi : i < l.length) : subR (LN l) (((i + 1) % l.length : Nat) : Int) = some (pt (cor l (i + 1))) := sub_at (zaa8 (l := l) (by omega) (i + 1))
theorem nN_ovL (lw : Bool) (v : Int × Int) : nN (ovL lw v) = nN v := by
  unfold nN ovL
  cases lw
  · simp only [Bool.false_eq_true, if_false]; grind
  · simp only [if_true]; grind
def smX (X : Int × Int) : Prop := X.1.natAbs ≤ 2 ^ 210 ∧ X.2.natAbs ≤ 2 ^ 92
abbrev iV (i : Int) : Option B := some (.val (.int i))
abbrev g32 (l : List (Int × Int)) (i j : Nat) (X Y : Int × Int) (b : Int) (v5 v6 v7 v8 v9 v10 v11 v12 v13 v14 v15 v16 v17 : Option B) : Fr := [some (.val (.lst (l.map pt))), iV i, iV j, some (.val (fT2 X Y)), iV b, v5, v6, v7, v8, v9, v10, v11, v12, v13, v14, v15, v16, v17]
@[simp] theorem tup_pt (p : Int × Int) : (R.val (pt p)).tup? = some [.int p.1, .int p.2] := rfl
def onH (c v X Y : Int × Int) (b : Int) : Prop := (v.1 * ((X.1 - c.1 * X.2) * Y.2) + v.2 * ((Y.1 - c.2 * Y.2) * X.2)) * rN v = 1000 * b * nN v * X.2 * Y.2
theorem zadu {c : Int} {X Y : Int × Int} (hc : c.natAbs ≤ 2 ^ 20) (hX : smX X) (hY : smX Y) : (X.1 - c * X.2).natAbs < 2 ^ 400 := by
  have h1 := zaai hc hX.2
  have h2 := hX.1
  generalize c * X.2 = z at *
  omega
theorem zaf8 {C : Cf} (F : Fine l) {i j : Nat} (hi : i < l.length) (hj : j < l.length) {X Y : Int × Int} {b : Int} (hb : 0 ≤ b ∧ b ≤ 1000) (hX : smX X) (hY : smX Y)
    (h25 : ∀ a b : Int, C.cf 25 [.val (.int a), .val (.int b)] s = .ok (.val (.int (gdZ a b))) s) (h29 : ∀ N : Int, 0 ≤ N → N < 2 ^ 60 → C.cf 29 [.val (.int N)] s = .ok (.val (.int (wroot N))) s)
    (h30 : C.cf 30 [LN l] s = .ok (.val (.int (dsum l l.length))) s) (heq : onH (cor l i) (ov l j) X Y b) :
    exs C bz6 (g32 l i j X Y b none none none none none none none none none none none none none) s = .ret (.val (.bl true)) s := by
  have c1 := zafl hj
  have c2 := zafx hj
  have c3 := zafl hi
  have md := zacz j l.length (by omega)
  have e25 := h25 (dv l j).1 (dv l j).2
  have eg : gdZ (dv l j).1 (dv l j).2 = gv l j := rfl
  rw [eg] at e25
  have q1 := zabc (i := (dv l j).1) (j := gv l j) (F.gv0 j) (F.gvs j)
  have q2 := zabc (i := (dv l j).2) (j := gv l j) (F.gv0 j) (F.gvs j)
  have ep : Int.fdiv (dv l j).1 (gv l j) = (pq l j).1 := rfl
  have eq' : Int.fdiv (dv l j).2 (gv l j) = (pq l j).2 := rfl
  rw [ep] at q1
  rw [eq'] at q2
  have hv := F.vpq j
  have nb := nN_bd hv
  have e29 := h29 (1000000 * nN (pq l j)) (by omega) (by omega)
  have hr : wroot (1000000 * nN (pq l j)) = rN (pq l j) := rfl
  rw [hr] at e29
  have rb := rN_bd hv
  have m1 := op_mul (i := (pq l j).1) (j := (pq l j).1) (zaah (by have := hv.1; omega))
  have m2 := op_mul (i := (pq l j).2) (j := (pq l j).2) (zaah (by have := hv.1; omega))
  have en : (pq l j).1 * (pq l j).1 + (pq l j).2 * (pq l j).2 = nN (pq l j) := rfl
  have sc := zaat F.sml i
  have x1 := zadu sc.1 hX hY
  have x2 := zadu sc.2 hY hX
  have m3 := op_mul (i := (cor l i).1) (j := X.2) (zaah (by have := sc.1; omega))
  have m4 := op_mul (i := (cor l i).2) (j := Y.2) (zaah (by have := sc.2; omega))
  have m5 := op_mul (i := X.1 - (cor l i).1 * X.2) (j := Y.2) (zabn x1 (by have := hY.2; omega))
  have m6 := op_mul (i := Y.1 - (cor l i).2 * Y.2) (j := X.2) (zabn x2 (by have := hX.2; omega))
  have m7 := op_mul (i := (pq l j).2) (j := (X.1 - (cor l i).1 * X.2) * Y.2) (zaah (by have := hv.1; omega))
  have m8 := op_mul (i := (pq l j).1) (j := (Y.1 - (cor l i).2 * Y.2) * X.2) (zaah (by have := hv.1; omega))
  have m9 : ∀ z : Int, opR .mul (.val (.int z)) (.val (.int (rN (pq l j)))) = some (.val (.int (z * rN (pq l j)))) := fun z => op_mul (mulB_r (by omega))
  have m10 := op_mul (i := 1000000) (j := nN (pq l j)) (zaah (by decide))
  have m11 := op_mul (i := 1000) (j := b) (zaah (by decide))
  have m12 := op_mul (i := 1000 * b) (j := nN (pq l j)) (zaah (by omega))
  have b12 := zaai (a := 1000 * b) (b := nN (pq l j)) (m := 2 ^ 20) (n := 2 ^ 35) (by omega) (by omega)
  have m13 := op_mul (i := 1000 * b * nN (pq l j)) (j := X.2) (zaah (by omega))
  have b13 := zaai (a := 1000 * b * nN (pq l j)) (b := X.2) (m := 2 ^ 20 * 2 ^ 35) (n := 2 ^ 92) b12 hX.2
  have m14 := op_mul (i := 1000 * b * nN (pq l j) * X.2) (j := Y.2) (zabn (by omega) (by have := hY.2; omega))
  have hd := F.nc.dsum rfl
  have hout : (if dsum l l.length < 0 then 0 - ((pq l j).2 * ((X.1 - (cor l i).1 * X.2) * Y.2) - (pq l j).1 * ((Y.1 - (cor l i).2 * Y.2) * X.2)) else (pq l j).2 * ((X.1 - (cor l i).1 * X.2) * Y.2) - (pq l j).1 * ((Y.1 - (cor l i).2 * Y.2) * X.2)) * rN (pq l j) = 1000 * b * nN (pq l j) * X.2 * Y.2 := by
    unfold onH at heq
    have r1 : rN (ov l j) = rN (pq l j) := by unfold rN ov; rw [nN_ovL]
    have r2 : nN (ov l j) = nN (pq l j) := by unfold ov; rw [nN_ovL]
    rw [r1, r2] at heq
    rw [← heq]
    congr 1
    unfold ov ovL lwB
    by_cases hn : dsum l l.length < 0
    · rw [if_pos hn, decide_eq_false (by omega)]
      simp only [Bool.false_eq_true, if_false]
      generalize (X.1 - (cor l i).1 * X.2) * Y.2 = A
      generalize (Y.1 - (cor l i).2 * Y.2) * X.2 = U
      grind
    · rw [if_neg hn, decide_eq_true (by omega)]
      simp only [if_true]
      generalize (X.1 - (cor l i).1 * X.2) * Y.2 = A
      generalize (Y.1 - (cor l i).2 * Y.2) * X.2 = U
      grind
  have d1 : (cor l (j + 1)).1 - (cor l j).1 = (dv l j).1 := rfl
  have d2 : (cor l (j + 1)).2 - (cor l j).2 = (dv l j).2 := rfl
  clear heq F nb rb b12 b13 x1 x2 sc h25 h29 hX hY hv hi hj eg ep eq' hr
  generalize ((j + 1) % l.length : Nat) = jn at *
  generalize cor l j = cj at *
  generalize cor l (j + 1) = cj1 at *
  generalize cor l i = ci at *
  generalize dv l j = D at *
  generalize gv l j = g at *
  generalize pq l j = P at *
  generalize nN P = n at *
  generalize rN P = r at *
  generalize 1000000 * n = n6 at *
  generalize 1000 * b * n * X.2 * Y.2 = z14 at *
  generalize 1000 * b * n * X.2 = z13 at *
  generalize 1000 * b * n = z12 at *
  generalize 1000 * b = z11 at *
  generalize P.2 * ((X.1 - ci.1 * X.2) * Y.2) = z7 at *
  generalize P.1 * ((Y.1 - ci.2 * Y.2) * X.2) = z8 at *
  generalize (X.1 - ci.1 * X.2) * Y.2 = z5 at *
  generalize (Y.1 - ci.2 * Y.2) * X.2 = z6 at *
  generalize ci.1 * X.2 = z3 at *
  generalize ci.2 * Y.2 = z4 at *
  generalize P.1 * P.1 = z1 at *
  generalize P.2 * P.2 = z2 at *
  refine (zaac (σ1 := g32 l i j X Y b (some (.val (pt cj))) none none none none none none none none none none none none) (s1 := s) (by simp [c1])).trans ?_
  refine (zaac (σ1 := g32 l i j X Y b (some (.val (pt cj))) (some (.val (pt cj1))) none none none none none none none none none none none) (s1 := s) (by simp [md, c2])).trans ?_
  refine (zaac (σ1 := g32 l i j X Y b (some (.val (pt cj))) (some (.val (pt cj1))) (iV g) none none none none none none none none none none) (s1 := s) (by simp [d1, d2, e25])).trans ?_
  refine (zaac (σ1 := g32 l i j X Y b (some (.val (pt cj))) (some (.val (pt cj1))) (iV g) (iV P.1) none none none none none none none none none) (s1 := s) (by simp [d1, q1])).trans ?_
  refine (zaac (σ1 := g32 l i j X Y b (some (.val (pt cj))) (some (.val (pt cj1))) (iV g) (iV P.1) (iV P.2) none none none none none none none none) (s1 := s) (by simp [d2, q2])).trans ?_
  refine (zaac (σ1 := g32 l i j X Y b (some (.val (pt cj))) (some (.val (pt cj1))) (iV g) (iV P.1) (iV P.2) (iV n) none none none none none none none) (s1 := s) (by simp [m1, m2, en])).trans ?_
  refine (zaac (σ1 := g32 l i j X Y b (some (.val (pt cj))) (some (.val (pt cj1))) (iV g) (iV P.1) (iV P.2) (iV n) (iV X.1) (iV X.2) none none none none none) (s1 := s) (by simp [puts])).trans ?_
  refine (zaac (σ1 := g32 l i j X Y b (some (.val (pt cj))) (some (.val (pt cj1))) (iV g) (iV P.1) (iV P.2) (iV n) (iV X.1) (iV X.2) (iV Y.1) (iV Y.2) none none none) (s1 := s) (by simp [puts])).trans ?_
  refine (zaac (σ1 := g32 l i j X Y b (some (.val (pt cj))) (some (.val (pt cj1))) (iV g) (iV P.1) (iV P.2) (iV n) (iV X.1) (iV X.2) (iV Y.1) (iV Y.2) (iV z5) none none) (s1 := s) (by simp [c3, m3, m5])).trans ?_
  refine (zaac (σ1 := g32 l i j X Y b (some (.val (pt cj))) (some (.val (pt cj1))) (iV g) (iV P.1) (iV P.2) (iV n) (iV X.1) (iV X.2) (iV Y.1) (iV Y.2) (iV z5) (iV z6) none) (s1 := s) (by simp [c3, m4, m6])).trans ?_
  refine (zaac (σ1 := g32 l i j X Y b (some (.val (pt cj))) (some (.val (pt cj1))) (iV g) (iV P.1) (iV P.2) (iV n) (iV X.1) (iV X.2) (iV Y.1) (iV Y.2) (iV z5) (iV z6) (iV (z7 - z8))) (s1 := s) (by simp [m7, m8])).trans ?_
  refine (zaac (σ1 := g32 l i j X Y b (some (.val (pt cj))) (some (.val (pt cj1))) (iV g) (iV P.1) (iV P.2) (iV n) (iV X.1) (iV X.2) (iV Y.1) (iV Y.2) (iV z5) (iV z6) (iV (if dsum l l.length < 0 then 0 - (z7 - z8) else z7 - z8))) (s1 := s) (by
    by_cases hn : dsum l l.length < 0
    · simp [h30, hn]
    · simp [h30, hn])).trans ?_
  generalize (if dsum l l.length < 0 then 0 - (z7 - z8) else z7 - z8) = out at *
  have m9' := m9 out
  rw [hout] at m9'
  simp [m10, e29, m9', m11, m12, m13, m14]
abbrev g33 (l : List (Int × Int)) (i : Nat) (X Y : Int × Int) (v3 v4 v5 v6 v7 v8 v9 v10 v11 v12 : Option B) : Fr := [some (.val (.lst (l.map pt))), iV i, some (.val (fT2 X Y)), v3, v4, v5, v6, v7, v8, v9, v10, v11, v12]
def stH (c v X Y : Int × Int) : Prop := (X.1 - c.1 * X.2) * Y.2 * v.2 - (Y.1 - c.2 * Y.2) * X.2 * v.1 = 0
theorem Fine.bent (F : Fine l) (i : Nat) (h : (dv l i).1 * (dv l (i + 1)).2 - (dv l i).2 * (dv l (i + 1)).1 = 0) : cutZ (ov l i) (ov l (i + 1)) = 0 := by
  obtain ⟨a1, a2, a3⟩ := F.pqs i
  obtain ⟨b1, b2, b3⟩ := F.pqs (i + 1)
  have g1 := F.gv0 i
  have g2 := F.gv0 (i + 1)
  unfold ov
  rw [cutZ_ov F]
  rw [a1, a2, b1, b2] at h
  unfold cutZ
  have e : gv l i * gv l (i + 1) * ((pq l i).1 * (pq l (i + 1)).2 - (pq l i).2 * (pq l (i + 1)).1) = 0 := by
    generalize pq l i = p at *
    generalize pq l (i + 1) = q at *
    grind
  have gg := Int.mul_pos g1 g2
  rcases Int.mul_eq_zero.mp e with z | z
  · omega
  · exact z
theorem zadc {C : Cf} (F : Fine l) {i : Nat} (hi : i < l.length) {X Y : Int × Int} (hX : smX X) (hY : smX Y) (hst : cutZ (ov l (i + l.length - 1)) (ov l i) = 0 → stH (cor l i) (ov l i) X Y) :
    exs C bz10 (g33 l i X Y none none none none none none none none none none) s = .ret (.val (.bl true)) s := by
  have n3 := F.nc.n3
  have c1 := zab8 hi
  have c2 := zafl hi
  have c3 := zafx hi
  have md := zacz i l.length (by omega)
  have e0 : cor l (i + l.length - 1 + 1) = cor l i := by rw [show i + l.length - 1 + 1 = i + l.length by omega]; exact F.nc.per i
  have eo : ov l (i + l.length - 1 + 1) = ov l i := by rw [show i + l.length - 1 + 1 = i + l.length by omega, ov_per]
  have d1 : (cor l i).1 - (cor l (i + l.length - 1)).1 = (dv l (i + l.length - 1)).1 := by unfold dv; rw [e0]
  have d2 : (cor l i).2 - (cor l (i + l.length - 1)).2 = (dv l (i + l.length - 1)).2 := by unfold dv; rw [e0]
  have d3 : (cor l (i + 1)).1 - (cor l i).1 = (dv l i).1 := rfl
  have d4 : (cor l (i + 1)).2 - (cor l i).2 = (dv l i).2 := rfl
  have s1 := F.dvs (i + l.length - 1)
  have s2 := F.dvs i
  have m1 := op_mul (i := (dv l (i + l.length - 1)).1) (j := (dv l i).2) (zaah (by omega))
  have m2 := op_mul (i := (dv l (i + l.length - 1)).2) (j := (dv l i).1) (zaah (by omega))
  have sc := zaat F.sml i
  have x1 := zadu sc.1 hX hY
  have x2 := zadu sc.2 hY hX
  have m3 := op_mul (i := (cor l i).1) (j := X.2) (zaah (by have := sc.1; omega))
  have m4 := op_mul (i := (cor l i).2) (j := Y.2) (zaah (by have := sc.2; omega))
  have m5 := op_mul (i := X.1 - (cor l i).1 * X.2) (j := Y.2) (zabn x1 (by have := hY.2; omega))
  have m6 := op_mul (i := Y.1 - (cor l i).2 * Y.2) (j := X.2) (zabn x2 (by have := hX.2; omega))
  have m7 := op_mul (i := (X.1 - (cor l i).1 * X.2) * Y.2) (j := (dv l i).1) (mulB_r (by omega))
  have m8 := op_mul (i := (Y.1 - (cor l i).2 * Y.2) * X.2) (j := (dv l i).2) (mulB_r (by omega))
  have hsum : (dv l (i + l.length - 1)).1 * (dv l i).2 - (dv l (i + l.length - 1)).2 * (dv l i).1 = 0 → (X.1 - (cor l i).1 * X.2) * Y.2 * (dv l i).1 + (Y.1 - (cor l i).2 * Y.2) * X.2 * (dv l i).2 = 0 := fun h => by
    have hb := F.bent (i + l.length - 1) (by
      have : dv l (i + l.length - 1 + 1) = dv l i := by
        unfold dv
        rw [e0, show i + l.length - 1 + 1 + 1 = i + 1 + l.length by omega, F.nc.per]
      rw [this]; exact h)
    rw [eo] at hb
    have hs := hst hb
    unfold stH ov ovL at hs
    obtain ⟨a1, a2, _⟩ := F.pqs i
    rw [a1, a2]
    generalize (X.1 - (cor l i).1 * X.2) * Y.2 = A at *
    generalize (Y.1 - (cor l i).2 * Y.2) * X.2 = U at *
    generalize pq l i = P at *
    generalize gv l i = g at *
    cases hl : lwB l
    · rw [hl] at hs
      simp only [Bool.false_eq_true, if_false] at hs
      clear hst m1 m2 m5 m6 m7 m8
      grind
    · rw [hl] at hs
      simp only [if_true] at hs
      clear hst m1 m2 m5 m6 m7 m8
      grind
  clear hst F s1 s2 x1 x2 sc hX hY hi e0 eo n3
  generalize ((i + 1) % l.length : Nat) = jn at *
  generalize cor l (i + l.length - 1) = cp at *
  generalize cor l (i + 1) = cn at *
  generalize cor l i = ci at *
  generalize dv l (i + l.length - 1) = Dp at *
  generalize dv l i = D at *
  generalize (X.1 - ci.1 * X.2) * Y.2 * D.1 = z7 at *
  generalize (Y.1 - ci.2 * Y.2) * X.2 * D.2 = z8 at *
  generalize (X.1 - ci.1 * X.2) * Y.2 = z5 at *
  generalize (Y.1 - ci.2 * Y.2) * X.2 = z6 at *
  generalize ci.1 * X.2 = z3 at *
  generalize ci.2 * Y.2 = z4 at *
  generalize Dp.1 * D.2 = z1 at *
  generalize Dp.2 * D.1 = z2 at *
  refine (zaac (σ1 := g33 l i X Y (some (.val (pt cp))) none none none none none none none none none) (s1 := s) (by simp [c1])).trans ?_
  refine (zaac (σ1 := g33 l i X Y (some (.val (pt cp))) (some (.val (pt ci))) none none none none none none none none) (s1 := s) (by simp [c2])).trans ?_
  refine (zaac (σ1 := g33 l i X Y (some (.val (pt cp))) (some (.val (pt ci))) (some (.val (pt cn))) none none none none none none none) (s1 := s) (by simp [md, c3])).trans ?_
  refine (zaac (σ1 := g33 l i X Y (some (.val (pt cp))) (some (.val (pt ci))) (some (.val (pt cn))) (iV z1) none none none none none none) (s1 := s) (by simp [d1, d4, m1])).trans ?_
  refine (zaac (σ1 := g33 l i X Y (some (.val (pt cp))) (some (.val (pt ci))) (some (.val (pt cn))) (iV (z1 - z2)) none none none none none none) (s1 := s) (by simp [d2, d3, m2])).trans ?_
  by_cases hz : z1 - z2 = 0
  · have hs := hsum hz
    refine (zaac (σ1 := g33 l i X Y (some (.val (pt cp))) (some (.val (pt ci))) (some (.val (pt cn))) (iV (z1 - z2)) none none none none none none) (s1 := s) (by simp [hz])).trans ?_
    refine (zaac (σ1 := g33 l i X Y (some (.val (pt cp))) (some (.val (pt ci))) (some (.val (pt cn))) (iV (z1 - z2)) (iV X.1) (iV X.2) none none none none) (s1 := s) (by simp [puts])).trans ?_
    refine (zaac (σ1 := g33 l i X Y (some (.val (pt cp))) (some (.val (pt ci))) (some (.val (pt cn))) (iV (z1 - z2)) (iV X.1) (iV X.2) (iV Y.1) (iV Y.2) none none) (s1 := s) (by simp [puts])).trans ?_
    refine (zaac (σ1 := g33 l i X Y (some (.val (pt cp))) (some (.val (pt ci))) (some (.val (pt cn))) (iV (z1 - z2)) (iV X.1) (iV X.2) (iV Y.1) (iV Y.2) (iV z7) none) (s1 := s) (by simp [m3, m5, d3, m7])).trans ?_
    refine (zaac (σ1 := g33 l i X Y (some (.val (pt cp))) (some (.val (pt ci))) (some (.val (pt cn))) (iV (z1 - z2)) (iV X.1) (iV X.2) (iV Y.1) (iV Y.2) (iV z7) (iV z8)) (s1 := s) (by simp [m4, m6, d4, m8])).trans ?_
    simp [hs]
  · refine zacw ?_
    simp [hz]
end Pg
end IP
end
section
set_option linter.all false
set_option maxRecDepth 100000
set_option maxHeartbeats 0
namespace IP
namespace Pg
open L2 M3
variable {k : Nat} {s : Sto} {l : List (Int × Int)}
theorem mod_prev {i n : Nat} (hi : i < n) : opR .mod (.val (.int ((i : Int) - 1))) (.val (.int (n : Int))) = some (.val (.int (((i + n - 1) % n : Nat) : Int))) := by
  rw [op_mod (by omega)]
  have e : Int.fmod ((i : Int) - 1) (n : Int) = (((i + n - 1) % n : Nat) : Int) := by
    rw [← zacc, show (((i + n - 1 : Nat)) : Int) = ((i : Int) - 1) + (n : Int) by omega, Int.fmod_eq_emod_of_nonneg _ (by omega), Int.fmod_eq_emod_of_nonneg _ (by omega), Int.add_emod_right]
  rw [e]
structure HasL (C : Cf) (l : List (Int × Int)) (b : Int) (s : Sto) : Prop where
  h31 : ∀ q : Int × Int, 0 < q.2 → Nat.gcd q.1.natAbs q.2.natAbs = 1 → C.cf 31 [PT q] s = .ok (.val (.bl true)) s
  h32 : ∀ (i j : Nat) (X Y : Int × Int), i < l.length → j < l.length → smX X → smX Y → onH (cor l i) (ov l j) X Y b → C.cf 32 [LN l, .val (.int i), .val (.int j), .val (fT2 X Y), .val (.int b)] s = .ok (.val (.bl true)) s
  h33 : ∀ (i : Nat) (X Y : Int × Int), i < l.length → smX X → smX Y → (cutZ (ov l (i + l.length - 1)) (ov l i) = 0 → stH (cor l i) (ov l i) X Y) → C.cf 33 [LN l, .val (.int i), .val (fT2 X Y)] s = .ok (.val (.bl true)) s
theorem hasL (k : Nat) (F : Fine l) {b : Int} (hb : 0 ≤ b ∧ b ≤ 1000) : HasL (cfX fns sub0 (k + 3)) l b s where
  h31 := fun q h1 h2 => cf_of (zae1 (k := k + 1) h1 h2) rfl
  h32 := fun i j X Y hi hj hX hY ho => by
    have n3 := F.nc.n3
    have e := zaf8 (C := cfX fns sub0 (k + 2)) (s := s) F hi hj hb hX hY (fun a b => cf_of (r_lgcd (k := k + 1) a b) rfl) (fun N h0 h1 => cf_of (r_lroot (k := k + 1) h0 h1) rfl) (cf_of (r_twice (k := k + 1) F.sml (by omega) F.n1000) rfl) ho
    exact cf_of ((zaaj (F := Fz6) rfl rfl).trans (congrArg (leave true false) e)) rfl
  h33 := fun i X Y hi hX hY hs => by
    have e := zadc (C := cfX fns sub0 (k + 2)) (s := s) F hi hX hY hs
    exact cf_of ((zaaj (F := Fz10) rfl rfl).trans (congrArg (leave true false) e)) rfl
abbrev g34 (l : List (Int × Int)) (D : List T) (b : Int) (v3 v4 : Option B) : Fr := [some (.val (.lst (l.map pt))), some (.val (.lst D)), iV b, v3, v4]
@[simp] theorem isx_pt (sub : Nat → Nat → Bool) (p : Int × Int) : isiX sub (.val (pt p)) .tuple = some true := rfl
theorem hems_any {C : Cf} {b : Int} (hC : HasL C l b s) (hn : l.length ≤ 1000) {d : Nat → T} (hd : ∀ i, i < l.length → ∃ X Y, d i = fT2 X Y ∧ CoOk (cor l i) (ov l (i + l.length - 1)) (ov l i) b X Y) :
    exs C bz5 (g34 l ((List.range l.length).map d) b none none) s = .ret (.val (.bl true)) s := by
  have hlen : ((List.range l.length).map d).length = l.length := by simp
  obtain ⟨σ', e, c3, c4, rfl⟩ := zaa1 (g := .one 3) (body := fun σ s => exs C bz5_L0 σ s) (s := s) (fun _ σ => ∃ c3 c4, σ = g34 l ((List.range l.length).map d) b c3 c4) (rangeT 0 l.length) 0 _ ⟨none, none, rfl⟩ (by
    rintro i t σ hi' ⟨c3, c4, rfl⟩
    obtain ⟨rfl, hlt⟩ := zaao hi'
    have hi : i < l.length := by omega
    rw [Int.zero_add]
    obtain ⟨X, Y, ed, K⟩ := hd i hi
    have g1 : subR (.val (.lst ((List.range l.length).map d))) (i : Int) = some (fT2 X Y) := by rw [← ed]; exact sub_at (by simp [hi])
    have f1 := hC.h31 X K.p1 K.c1
    have f2 := hC.h31 Y K.p2 K.c2
    have mp := mod_prev hi
    have o1 := hC.h32 i ((i + l.length - 1) % l.length) X Y hi (Nat.mod_lt _ (by omega)) K.s1 K.s2 (by rw [ov_mod]; exact K.o1)
    have o2 := hC.h32 i i X Y hi hi K.s1 K.s2 K.o2
    have o3 := hC.h33 i X Y hi K.s1 K.s2 K.st
    clear K hd ed
    refine ⟨g34 l ((List.range l.length).map d) b (iV i) c4, g34 l ((List.range l.length).map d) b (iV i) (iV (((i + l.length - 1) % l.length : Nat) : Int)), rfl, ?_, _, _, rfl⟩
    clear hlen
    generalize (List.range l.length).map d = D at *
    generalize ((i + l.length - 1) % l.length : Nat) = ip at *
    refine (zaac (σ1 := g34 l D b (iV i) c4) (s1 := s) (by simp [g1])).trans ?_
    refine (zaac (σ1 := g34 l D b (iV i) c4) (s1 := s) (by simp [g1, f1, f2])).trans ?_
    refine (zaac (σ1 := g34 l D b (iV i) (iV ip)) (s1 := s) (by simp [mp])).trans ?_
    refine (zaac (σ1 := g34 l D b (iV i) (iV ip)) (s1 := s) (by simp [g1, o1])).trans ?_
    refine (zaac (σ1 := g34 l D b (iV i) (iV ip)) (s1 := s) (by simp [g1, o2])).trans ?_
    refine (zaac (σ1 := g34 l D b (iV i) (iV ip)) (s1 := s) (by simp [g1, o3])).trans ?_
    simp)
  generalize (List.range l.length).map d = D at *
  refine (zaac (σ1 := g34 l D b none none) (s1 := s) (by simp [hlen])).trans ?_
  refine (zaac ((ex_for (ts := rangeT 0 l.length) (s1 := s) (zabu (n := l.length) (by simp) hn) (by intro _ h; cases h)).trans e)).trans ?_
  simp
theorem r_hems (F : Fine l) {b : Int} (hb : 0 ≤ b ∧ b ≤ 1000) : run true fns sub0 whileL (k + 4) 34 [LN l, .val (.lst ((List.range l.length).map fun i => hemT (cor l i) (ov l (i + l.length - 1)) (ov l i) b)), .val (.int b)] s = .ok (.val (.bl true)) s :=
  (zaaj (F := Fz5) rfl rfl).trans (congrArg (leave true false) (hems_any (hasL k F hb) F.n1000 fun i _ => F.corner hb i))
end Pg
end IP
end
section
set_option linter.all false
set_option maxRecDepth 100000
set_option maxHeartbeats 0
namespace IP
namespace Pg
open SegM
structure Ch (n low : Nat) (X Y : Nat → Int) : Prop where
  lo : 2 ≤ low ∧ low < n
  x0 : X 0 = 0
  xl : X (n - 1) = 0
  up : ∀ i, i + 1 < low → X i < X (i + 1)
  dn : ∀ i, low ≤ i → i + 1 < n → X (i + 1) < X i
  yl : ∀ i, i < low → Y i < 0
  yu : ∀ i, low ≤ i → i < n → 0 < Y i
  tp : (n = 3 ∧ low = 2) ∨ (low + 2 ≤ n ∧ X (low - 1) = X low)
def cy (n : Nat) (X Y : Nat → Int) (i : Nat) : Int × Int := (X (i % n), Y (i % n))
theorem fu_x (p : Int × Int) : fu 1 0 p = p.1 := by simp [fu]
theorem fu_mx (p : Int × Int) : fu (-1) 0 p = -p.1 := by simp [fu]
theorem fu_y (p : Int × Int) : fu 0 1 p = p.2 := by simp [fu]
section
variable {n low : Nat} {X Y : Nat → Int} (H : Ch n low X Y)
include H
theorem Ch.mono {i j : Nat} (h : i < j) (hj : j < low) : X i < X j := by
  induction j with
  | zero => omega
  | succ j ih =>
    have := H.up j hj
    by_cases e : i = j
    · subst e; exact this
    · have := ih (by omega) (by omega); omega
theorem Ch.anti {i j : Nat} (h : i < j) (hi : low ≤ i) (hj : j < n) : X j < X i := by
  induction j with
  | zero => omega
  | succ j ih =>
    have := H.dn j (by omega) hj
    by_cases e : i = j
    · subst e; exact this
    · have := ih (by omega) (by omega); omega
theorem Ch.pos {i : Nat} (h0 : 0 < i) (h : i < low) : 0 < X i := by
  have := H.mono h0 h
  rw [H.x0] at this
  exact this
theorem Ch.pos2 {i : Nat} (h0 : low ≤ i) (h : i + 1 < n) : 0 < X i := by
  have := H.anti (i := i) (j := n - 1) (by omega) h0 (by omega)
  rw [H.xl] at this
  exact this
theorem Ch.at {i : Nat} (h : i < n) : cy n X Y i = (X i, Y i) := by unfold cy; rw [Nat.mod_eq_of_lt h]
theorem Ch.atn : cy n X Y n = (X 0, Y 0) := by unfold cy; rw [Nat.mod_self]
theorem Ch.ne {a : Nat} (ha : a < n) : cy n X Y a ≠ cy n X Y (a + 1) := by
  have lo := H.lo
  intro e
  by_cases h : a + 1 < n
  · rw [H.at ha, H.at h] at e
    have e1 : X a = X (a + 1) := congrArg Prod.fst e
    have e2 : Y a = Y (a + 1) := congrArg Prod.snd e
    by_cases c1 : a + 1 < low
    · have := H.up a c1; omega
    · by_cases c2 : a + 1 = low
      · have := H.yl a (by omega); have := H.yu (a + 1) (by omega) h; omega
      · have := H.dn a (by omega) h; omega
  · have ea : a + 1 = n := by omega
    rw [H.at ha, ea, H.atn] at e
    have e2 : Y a = Y 0 := congrArg Prod.snd e
    have := H.yl 0 (by omega); have := H.yu a (by omega) ha; omega
theorem Ch.sep {a b : Nat} (hab : a + 1 < b) (hb : b < n) (hn : ¬ (a = 0 ∧ b + 1 = n)) : Sep2 (cy n X Y a) (cy n X Y (a + 1)) (cy n X Y b) (cy n X Y (b + 1)) := by
  have lo := H.lo
  have tp := H.tp
  rw [H.at (show a < n by omega), H.at (show a + 1 < n by omega), H.at hb]
  by_cases hl : b + 1 = n
  ·
    have xb : X b = 0 := by have := H.xl; rw [show n - 1 = b by omega] at this; exact this
    have x0 := H.x0
    rw [hl, H.atn]
    refine ⟨-1, 0, ?_⟩
    simp only [fu_mx]
    unfold Below
    have p1 : 0 < X a := by
      by_cases c : a < low
      · exact H.pos (by omega) c
      · exact H.pos2 (by omega) (by omega)
    have p2 : 0 < X (a + 1) := by
      by_cases c : a + 1 < low
      · exact H.pos (by omega) c
      · exact H.pos2 (by omega) (by omega)
    omega
  · rw [H.at (show b + 1 < n by omega)]
    by_cases c1 : a + 1 < low
    · have u1 := H.up a c1
      by_cases c2 : b + 1 < low
      · refine ⟨1, 0, ?_⟩
        simp only [fu_x]
        have := H.mono hab (by omega)
        have := H.up b c2
        unfold Below
        omega
      · by_cases c3 : b + 1 = low
        · refine ⟨1, 0, ?_⟩
          simp only [fu_x]
          have := H.mono hab (by omega)
          have e : X b = X (b + 1) := by
            rcases tp with t | t
            · omega
            · have := t.2; rw [show low - 1 = b by omega, ← c3] at this; exact this
          unfold Below
          omega
        · refine ⟨0, 1, ?_⟩
          simp only [fu_y]
          have := H.yl a (by omega)
          have := H.yl (a + 1) (by omega)
          have := H.yu b (by omega) hb
          have := H.yu (b + 1) (by omega) (by omega)
          unfold Below
          omega
    · refine ⟨-1, 0, ?_⟩
      simp only [fu_mx]
      have d1 := H.anti (i := a + 1) (j := b) hab (by omega) hb
      have d2 := H.dn b (by omega) (by omega)
      have d3 : X (a + 1) ≤ X a := by
        by_cases c2 : a + 1 = low
        · rcases tp with t | t
          · omega
          · have := t.2; rw [show low - 1 = a by omega, ← c2] at this; omega
        · have := H.dn a (by omega) (by omega); omega
      unfold Below
      omega
theorem Ch.corn {a : Nat} (ha : a < n) : Cor1 (cy n X Y a) (cy n X Y (a + 1)) (cy n X Y (a + 2)) := by
  have lo := H.lo
  have tp := H.tp
  have x0 := H.x0
  have xl := H.xl
  by_cases h1 : a + 1 = n
  ·
    have e2 : cy n X Y (a + 2) = (X 1, Y 1) := by
      unfold cy
      rw [show a + 2 = 1 + n by omega, Nat.add_mod_right, Nat.mod_eq_of_lt (by omega)]
    rw [H.at ha, h1, H.atn, e2]
    refine ⟨1, 0, .inl ?_⟩
    simp only [fu_x]
    have := H.pos (i := 1) (by omega) (by omega)
    rw [show n - 1 = a by omega] at xl
    omega
  · by_cases h2 : a + 2 = n
    ·
      rw [H.at ha, H.at (show a + 1 < n by omega), h2, H.atn]
      refine ⟨1, 0, .inr ?_⟩
      simp only [fu_x]
      rw [show n - 1 = a + 1 by omega] at xl
      have : 0 < X a := by
        by_cases c : a < low
        · exact H.pos (by omega) c
        · exact H.pos2 (by omega) (by omega)
      omega
    · rw [H.at ha, H.at (show a + 1 < n by omega), H.at (show a + 2 < n by omega)]
      by_cases c1 : a + 2 < low
      · refine ⟨1, 0, .inl ?_⟩
        simp only [fu_x]
        have := H.up a (by omega)
        have := H.up (a + 1) (by omega)
        rw [show a + 1 + 1 = a + 2 by omega] at this
        omega
      · by_cases c2 : a + 2 = low
        · rcases tp with t | t
          ·
            refine ⟨Y a - Y (a + 1), X (a + 1) - X a, .inl ?_⟩
            unfold fu
            dsimp only
            have p1 := H.pos (i := a + 1) (by omega) (by omega)
            have ea : X a = 0 := by rw [show a = 0 by omega]; exact x0
            have ec : X (a + 2) = 0 := by rw [show a + 2 = n - 1 by omega]; exact xl
            have y1 := H.yl a (by omega)
            have y2 := H.yu (a + 2) (by omega) (by omega)
            rw [ea, ec]
            have e1 : X (a + 1) * (Y a - Y (a + 1)) + Y (a + 1) * (X (a + 1) - 0) = X (a + 1) * Y a := by grind
            rw [e1]
            have e2 : 0 * (Y a - Y (a + 1)) + Y a * (X (a + 1) - 0) = X (a + 1) * Y a := by grind
            have e3 : 0 * (Y a - Y (a + 1)) + Y (a + 2) * (X (a + 1) - 0) = X (a + 1) * Y (a + 2) := by grind
            rw [e2, e3]
            exact ⟨Int.le_refl _, Int.mul_lt_mul_of_pos_left (by omega) p1⟩
          · refine ⟨-1, 0, .inr ?_⟩
            simp only [fu_mx]
            have := t.2
            rw [show low - 1 = a + 1 by omega, ← c2] at this
            have := H.up a (by omega)
            omega
        · refine ⟨-1, 0, .inl ?_⟩
          simp only [fu_mx]
          have d1 := H.dn (a + 1) (by omega) (by omega)
          rw [show a + 1 + 1 = a + 2 by omega] at d1
          by_cases c3 : a + 1 = low
          · rcases tp with t | t
            · omega
            · have := t.2
              rw [show low - 1 = a by omega, ← c3] at this
              omega
          · have := H.dn a (by omega) (by omega)
            omega
theorem Ch.area3 (h3 : n = 3) (h2 : low = 2) : 0 < area (cy n X Y) n := by
  have e0 := H.at (i := 0) (by omega)
  have e1 := H.at (i := 1) (by omega)
  have e2 := H.at (i := 2) (by omega)
  have e3 := H.atn
  have x0 := H.x0
  have xl := H.xl
  have p1 := H.pos (i := 1) (by omega) (by omega)
  have y0 := H.yl 0 (by omega)
  have y2 := H.yu 2 (by omega) (by omega)
  subst h3
  have xl : X 2 = 0 := xl
  have ea : area (cy 3 X Y) 3 = 0 + crs (cy 3 X Y 0) (cy 3 X Y 1) + crs (cy 3 X Y 1) (cy 3 X Y 2) + crs (cy 3 X Y 2) (cy 3 X Y 3) := rfl
  rw [ea, e0, e1, e2, e3]
  unfold crs
  dsimp only
  rw [x0, xl]
  have := Int.mul_pos p1 (show 0 < Y 2 - Y 0 by omega)
  rw [Int.mul_sub] at this
  have c : Y 0 * X 1 = X 1 * Y 0 := Int.mul_comm _ _
  simp only [Int.zero_mul, Int.mul_zero]
  omega
theorem zafk (Q : Nat → Int × Int) : ∀ m, area Q m = sm (fun i => ((Q i).1 - (Q (i + 1)).1) * ((Q i).2 + (Q (i + 1)).2)) m + ((Q m).1 * (Q m).2 - (Q 0).1 * (Q 0).2)
  | 0 => by simp [area, sm]
  | m + 1 => by
    have ih := zafk Q m
    have e1 : area Q (m + 1) = area Q m + crs (Q m) (Q (m + 1)) := rfl
    have e2 : sm (fun i => ((Q i).1 - (Q (i + 1)).1) * ((Q i).2 + (Q (i + 1)).2)) (m + 1) = sm (fun i => ((Q i).1 - (Q (i + 1)).1) * ((Q i).2 + (Q (i + 1)).2)) m + ((Q m).1 - (Q (m + 1)).1) * ((Q m).2 + (Q (m + 1)).2) := rfl
    rw [e1, e2, ih]
    unfold crs
    generalize sm (fun i => ((Q i).1 - (Q (i + 1)).1) * ((Q i).2 + (Q (i + 1)).2)) m = z
    grind
theorem sm_nn {f : Nat → Int} : ∀ m, (∀ i, i < m → 0 ≤ f i) → 0 ≤ sm f m
  | 0, _ => Int.le_refl _
  | m + 1, h => by
    have := sm_nn m fun i hi => h i (by omega)
    have := h m (by omega)
    show 0 ≤ sm f m + f m
    omega
theorem mul_nn2 {a b : Int} (ha : a ≤ 0) (hb : b ≤ 0) : 0 ≤ a * b := by
  have := Int.mul_nonneg (show 0 ≤ -a by omega) (show 0 ≤ -b by omega)
  rw [Int.neg_mul_neg] at this
  exact this
theorem Ch.area4 (t : low + 2 ≤ n ∧ X (low - 1) = X low) : 0 < area (cy n X Y) n := by
  have lo := H.lo
  rw [zafk H]
  have e0 := H.at (i := 0) (by omega)
  have e1 := H.at (i := 1) (by omega)
  rw [H.atn, e0, Int.sub_self, Int.add_zero]
  obtain ⟨m, hm⟩ : ∃ m, n = m + 1 := ⟨n - 1, by omega⟩
  generalize hf : (fun i => ((cy n X Y i).1 - (cy n X Y (i + 1)).1) * ((cy n X Y i).2 + (cy n X Y (i + 1)).2)) = f
  have nn : ∀ i, i < n → 0 ≤ f i := fun i hi => by
    rw [← hf]
    dsimp only
    by_cases h : i + 1 = n
    · rw [H.at hi, h, H.atn]
      have x0 := H.x0
      have xl := H.xl
      rw [show n - 1 = i by omega] at xl
      dsimp only
      rw [x0, xl]
      simp
    · rw [H.at hi, H.at (show i + 1 < n by omega)]
      dsimp only
      by_cases c1 : i + 1 < low
      · have := H.up i c1
        have := H.yl i (by omega)
        have := H.yl (i + 1) c1
        exact mul_nn2 H (by omega) (by omega)
      · by_cases c2 : i + 1 = low
        · have := t.2
          rw [show low - 1 = i by omega, ← c2] at this
          rw [this]
          simp
        · have := H.dn i (by omega) (by omega)
          have := H.yu i (by omega) hi
          have := H.yu (i + 1) (by omega) (by omega)
          exact Int.mul_nonneg (by omega) (by omega)
  have f0 : 0 < f 0 := by
    rw [← hf]
    show 0 < ((cy n X Y 0).1 - (cy n X Y 1).1) * ((cy n X Y 0).2 + (cy n X Y 1).2)
    rw [e0, e1]
    dsimp only
    have := H.up 0 (by omega)
    have := H.yl 0 (by omega)
    have := H.yl 1 (by omega)
    have z := Int.mul_pos (show 0 < -(X 0 - X 1) by rw [show 0 + 1 = 1 from rfl] at *; omega) (show 0 < -(Y 0 + Y 1) by omega)
    rw [Int.neg_mul_neg] at z
    exact z
  clear hf
  rw [hm, zadv]
  have := sm_nn H (f := fun i => f (i + 1)) m fun i hi => nn (i + 1) (by omega)
  omega
theorem Ch.nc : NC n (cy n X Y) := by
  have lo := H.lo
  have pd : ∀ i d, cy n X Y (i + d) = cy n X Y (i % n + d) := fun i d => by unfold cy; rw [Nat.mod_add_mod]
  have p0 : ∀ i, cy n X Y i = cy n X Y (i % n) := fun i => by unfold cy; rw [Nat.mod_mod]
  have pn : ∀ i, cy n X Y (i + n) = cy n X Y i := fun i => by unfold cy; rw [Nat.add_mod_right]
  have lt : ∀ i, i % n < n := fun i => Nat.mod_lt _ (by omega)
  refine ⟨by have := H.tp; omega, pn, fun i => ?_, fun i => ?_, fun i j h1 h2 => ?_, ?_⟩
  · rw [p0 i, pd i 1]; exact H.ne (lt i)
  · rw [p0 i, pd i 1, pd i 2]; exact H.corn (lt i)
  · have e1 : cy n X Y j = cy n X Y (i % n + (j - i)) := by rw [← pd i (j - i), show i + (j - i) = j by omega]
    have e2 : cy n X Y (j + 1) = cy n X Y (i % n + (j - i) + 1) := by rw [show i % n + (j - i) + 1 = i % n + (j - i + 1) by omega, ← pd i (j - i + 1), show i + (j - i + 1) = j + 1 by omega]
    rw [p0 i, pd i 1, e1, e2]
    have ha := lt i
    generalize i % n = a at *
    obtain ⟨d, hd⟩ : ∃ d, j - i = d := ⟨_, rfl⟩
    rw [hd]
    by_cases c : a + d < n
    · exact H.sep (by omega) c (by omega)
    · have q1 : cy n X Y (a + d) = cy n X Y (a + d - n) := by rw [← pn (a + d - n), show a + d - n + n = a + d by omega]
      have q2 : cy n X Y (a + d + 1) = cy n X Y (a + d - n + 1) := by rw [← pn (a + d - n + 1), show a + d - n + 1 + n = a + d + 1 by omega]
      rw [q1, q2]
      exact (H.sep (a := a + d - n) (b := a) (by omega) ha (by omega)).swap
  · have : 0 < area (cy n X Y) n := by
      rcases H.tp with t | t
      · exact H.area3 t.1 t.2
      · exact H.area4 t
    omega
end
end Pg
end IP
end
section
set_option linter.all false
set_option maxRecDepth 100000
set_option maxHeartbeats 0
namespace IP
namespace Pg
open L2
variable {k : Nat} {s : Sto} {l : List (Int × Int)} {row : List Int}
theorem sub_lastB {ts : List T} {m : Nat} {t : T} (hl : ts.length = m + 1) (h : ts[m]? = some t) : subR (.bor ts) (-1) = some t := by
  simp [subR, L2.atI, L2.ixN, hl]
  rw [if_pos (by omega)]
  have : ((-1 : Int) + ((m : Int) + 1)).toNat = m := by omega
  simp [this, h]
theorem zad8 {ts : List T} {m : Nat} {t : T} (hl : ts.length = m + 1) (h : ts[m]? = some t) : subR (.val (.lst ts)) (-1) = some t := by
  simp [subR, L2.atI, L2.ixN, hl]
  rw [if_pos (by omega)]
  have : ((-1 : Int) + ((m : Int) + 1)).toNat = m := by omega
  simp [this, h]
structure Far (far : List Int) (n : Nat) : Prop where
  len : far.length = n
  z : far[0]? = some 0
  up : ∀ i, i + 1 < n → far.getD i 0 < far.getD (i + 1) 0
  bd : ∀ v ∈ far, 0 ≤ v ∧ v ≤ 100
theorem zac8 {xs : List Int} {v : Int} {i : Nat} (h : i < xs.length) : (xs ++ [v]).getD i 0 = xs.getD i 0 := by
  rw [List.getD_eq_getElem?_getD, List.getD_eq_getElem?_getD, List.getElem?_append_left h]
theorem getD_end {xs : List Int} {v : Int} {n : Nat} (h : xs.length = n) : (xs ++ [v]).getD n 0 = v := by
  rw [List.getD_eq_getElem?_getD, List.getElem?_append_right (by omega)]
  simp [h]
theorem zabm {xs : List Int} {i : Nat} (h : i < xs.length) : xs.getD i 0 = xs[i] := by
  rw [List.getD_eq_getElem?_getD, List.getElem?_eq_getElem h]
  rfl
theorem r_strides (hr : ∀ v ∈ row, zaav v) (hl : row.length = 58) {a n : Nat} (h1 : 1 ≤ n) (hn : n ≤ 24) (ha : a + n ≤ 40) : ∃ far : List Int, Far far n ∧ run true fns sub0 whileL (k + 1) 26 [.val (.lst (iL row)), .val (.int a), .val (.int n)] s = .ok (.val (.lst (iL far))) s := by
  obtain ⟨σ', e, far, c, rfl, h2, hz, hu, h3⟩ := zaa1 (g := .one 4) (body := fun σ s => exs (cfX fns sub0 k) bz11_L0 σ s) (s := s)
    (fun m σ => ∃ (far : List Int) (c : Option B), σ = [some (.val (.lst (iL row))), iV a, iV n, some (.own (iL far)), c] ∧ far.length = m + 1 ∧ far[0]? = some 0 ∧ (∀ i, i + 1 < m + 1 → far.getD i 0 < far.getD (i + 1) 0) ∧ ∀ v ∈ far, 0 ≤ v ∧ v ≤ 4 * m) (rangeT 0 ((n - 1 : Nat) : Int)) 0 [some (.val (.lst (iL row))), iV a, iV n, some (.own [.int 0]), none] ⟨[0], none, rfl, rfl, rfl, fun i h => by omega, by simp⟩ (by
      rintro m t σ hm ⟨far, c, rfl, h2, hz, hu, h3⟩
      obtain ⟨rfl, hlt⟩ := zaao hm
      obtain ⟨x, _, f1, _⟩ := row_at hr (m := a + m) (by omega)
      rw [show ((a + m : Nat) : Int) = (a : Int) + (m : Int) by omega] at f1
      have hf : m < far.length := by omega
      have g1 := sub_lastB (ts := iL far) (m := m) (t := .int far[m]) (by simp [h2]) (by simp [hf])
      have g2 := h3 _ (List.getElem_mem hf)
      have g3 := op_mod (i := x) (j := 4) (by decide)
      have g4 := zaap x (j := 4) (by decide)
      have hlim : far.length < lim := Nat.lt_of_lt_of_le (show far.length < 1000 by omega) lim_ge
      refine ⟨[some (.val (.lst (iL row))), iV a, iV n, some (.own (iL far)), iV m], [some (.val (.lst (iL row))), iV a, iV n, some (.own (iL (far ++ [far[m] + 1 + Int.fmod x 4]))), iV m], by simp [bindTg], by simp [f1, g1, g3, ownAt, setOwn, hlim], far ++ [far[m] + 1 + Int.fmod x 4], iV m, rfl, by simp [h2], ?_, ?_, ?_⟩
      · rw [List.getElem?_append_left (by omega)]; exact hz
      · intro i hi
        by_cases q : i = m
        · subst q
          rw [zac8 hf, getD_end (by omega), zabm hf]
          omega
        · rw [zac8 (by omega), zac8 (by omega)]
          exact hu i (by omega)
      · intro v hv
        rcases List.mem_append.mp hv with z | z
        · have := h3 v z; omega
        · rw [List.mem_singleton.mp z]; omega)
  rw [zaas] at h2 hu h3
  refine ⟨far, ⟨by omega, hz, fun i hi => hu i (by omega), fun v hv => ?_⟩, ?_⟩
  · have := h3 v hv
    omega
  · rw [zaaj (F := Fz11) rfl rfl]
    have en : (n : Int) - 1 = ((n - 1 : Nat) : Int) := by omega
    have hx : exs (cfX fns sub0 k) bz11 (enter Fz11 [.val (.lst (iL row)), .val (.int a), .val (.int n)]) s = .ret (.val (.lst (iL far))) s := by
      refine (zaac (σ1 := [some (.val (.lst (iL row))), iV a, iV n, some (.own [.int 0]), none]) (s1 := s) (by simp [freshE, setOwn])).trans ?_
      refine (zaac ((ex_for (ts := rangeT 0 ((n - 1 : Nat) : Int)) (s1 := s) (zabu (n := n - 1) (by simp [en]) (by omega)) (by intro _ h; cases h)).trans e)).trans ?_
      simp [frz]
    rw [hx]
    rfl
def smn (B : Nat) (p : Int × Int) : Prop := p.1.natAbs ≤ B ∧ p.2.natAbs ≤ B
theorem ex_ifs {C : Cf} {c : E} {a b : List S} {σ : Fr} {d : Bool} (h : ev C c .t σ s = .ok (.val (.bl d)) s) : ex C (.ifs c a b) σ s = if d = true then exs C a σ s else exs C b σ s := by
  unfold ex
  rw [h]
  simp
theorem ints_at {xs : List Int} {m : Nat} (h : m < xs.length) : subR (.val (.lst (iL xs))) (m : Int) = some (.int (xs.getD m 0)) := by rw [zabm h]; exact sub_at (by simp [h])
theorem prod_le {a b : Int} (ha : 0 ≤ a ∧ a ≤ 100) (hb : 0 ≤ b ∧ b ≤ 100) : (a * b).natAbs ≤ 10000 := zaai (m := 100) (n := 100) (by omega) (by omega)
abbrev g27 (row : List Int) (n low high : Nat) (tall : Int) (bot tp : List Int) (v7 v8 : Option B) : Fr := [some (.val (.lst (iL row))), iV n, iV low, iV high, iV tall, some (.val (.lst (iL bot))), some (.val (.lst (iL tp))), v7, v8]
def LoH (l : List (Int × Int)) (bot : List Int) (tz : Int) (m : Nat) : Prop := ∀ i, i < m → ∃ y, l[i]? = some (bot.getD i 0 * tz, y) ∧ y < 0
def UpH (l : List (Int × Int)) (low high : Nat) (tp : List Int) (bz : Int) (m : Nat) : Prop := ∀ i, i < m → ∃ y, l[low + i]? = some (tp.getD (high - 1 - i) 0 * bz, y) ∧ 0 < y
theorem LoH.app {l : List (Int × Int)} {bot : List Int} {tz : Int} {m : Nat} (h : LoH l bot tz m) (p : Int × Int) : LoH (l ++ [p]) bot tz m := fun i hi => by
  obtain ⟨y, e, hy⟩ := h i hi
  exact ⟨y, by rw [List.getElem?_append_left (List.getElem?_eq_some_iff.mp e).1]; exact e, hy⟩
theorem UpH.app {l : List (Int × Int)} {low high : Nat} {tp : List Int} {bz : Int} {m : Nat} (h : UpH l low high tp bz m) (p : Int × Int) : UpH (l ++ [p]) low high tp bz m := fun i hi => by
  obtain ⟨y, e, hy⟩ := h i hi
  exact ⟨y, by rw [List.getElem?_append_left (List.getElem?_eq_some_iff.mp e).1]; exact e, hy⟩
theorem zafb {C : Cf} (hr : ∀ v ∈ row, zaav v) (hl : row.length = 58) {n low high : Nat} (hlow : low ≤ 24) {tall tz : Int} {bot tp : List Int} (hb : Far bot low) (ht : 0 < tall ∧ tall ≤ 900) (hz : 0 ≤ tz ∧ tz ≤ 100) (tlast : subR (.val (.lst (iL tp))) (-1) = some (.int tz)) :
    ∃ (l : List (Int × Int)) (c : Option B), l.length = low ∧ LoH l bot (if 1 < tz then tz else 1) low ∧ (∀ p ∈ l, smn 10000 p) ∧ forL (.one 8) (fun σ s => exs C bz8_L0 σ s) (rangeT 0 low) (g27 row n low high tall bot tp (some (.own [])) none) s = .next (g27 row n low high tall bot tp (some (.own (l.map pt))) c) s := by
  obtain ⟨σ', e, l1, c, rfl, x1, x2, x3⟩ := zaa1 (g := .one 8) (body := fun σ s => exs C bz8_L0 σ s) (s := s)
    (fun m σ => ∃ (l : List (Int × Int)) (c : Option B), σ = g27 row n low high tall bot tp (some (.own (l.map pt))) c ∧ l.length = m ∧ LoH l bot (if 1 < tz then tz else 1) m ∧ ∀ p ∈ l, smn 10000 p) (rangeT 0 low) 0 (g27 row n low high tall bot tp (some (.own [])) none) ⟨[], none, rfl, rfl, fun i h => by omega, by simp⟩ (by
      rintro m t σ hm ⟨l, c, rfl, h2, h4, h3⟩
      obtain ⟨rfl, hlt⟩ := zaao hm
      obtain ⟨x, _, f1, _⟩ := row_at hr (m := 26 + m) (by omega)
      rw [show ((26 + m : Nat) : Int) = 26 + (m : Int) by omega] at f1
      have hbl : m < bot.length := by have := hb.len; omega
      have f2 := ints_at hbl
      have hbv := hb.bd _ (List.getElem_mem hbl)
      rw [← zabm hbl] at hbv
      have g1 := op_mod (i := x) ht.1
      have g2 := zaap x ht.1
      have g3 := op_mul (i := bot.getD m 0) (j := if 1 < tz then tz else 1) (zaah (by omega))
      have g4 := prod_le (a := bot.getD m 0) (b := if 1 < tz then tz else 1) hbv (by split <;> omega)
      have hlim : l.length < lim := Nat.lt_of_lt_of_le (show l.length < 1000 by omega) lim_ge
      refine ⟨g27 row n low high tall bot tp (some (.own (l.map pt))) (iV m), g27 row n low high tall bot tp (some (.own ((l ++ [(bot.getD m 0 * (if 1 < tz then tz else 1), -1 - Int.fmod x tall)]).map pt))) (iV m), by simp [bindTg], ?_, l ++ [(bot.getD m 0 * (if 1 < tz then tz else 1), -1 - Int.fmod x tall)], iV m, rfl, by simp [h2], ?_, ?_⟩
      · generalize bot.getD m 0 * (if 1 < tz then tz else 1) = zz at *
        generalize bot.getD m 0 = tw at *
        simp [f1, f2, g1, g3, tlast, ownAt, setOwn, hlim, pt]
      · intro i hi
        by_cases q : i = m
        · subst q
          exact ⟨_, by rw [List.getElem?_append_right (by omega), show i - l.length = 0 by omega]; rfl, by omega⟩
        · exact (h4.app _) i (by omega)
      · intro v hv
        rcases List.mem_append.mp hv with z | z
        · exact h3 v z
        · rw [List.mem_singleton.mp z]; exact ⟨g4, by show (-1 - Int.fmod x tall).natAbs ≤ 10000; omega⟩)
  rw [zaas, show 0 + ((low : Int) - 0).toNat = low by omega] at x1 x2
  exact ⟨l1, c, x1, x2, x3, e⟩
theorem zae3 {C : Cf} (hr : ∀ v ∈ row, zaav v) (hl : row.length = 58) {n low high : Nat} (hlow : low + high ≤ 24) {tall bz tz : Int} {bot tp : List Int} (hb : Far tp high) (ht : 0 < tall ∧ tall ≤ 900) (hz : 0 ≤ bz ∧ bz ≤ 100) (blast : subR (.val (.lst (iL bot))) (-1) = some (.int bz)) {l0 : List (Int × Int)} (l0l : l0.length = low) (l0h : LoH l0 bot tz low) (l0b : ∀ p ∈ l0, smn 10000 p) (c0 : Option B) :
    ∃ (l : List (Int × Int)) (c : Option B), l.length = low + high ∧ LoH l bot tz low ∧ UpH l low high tp bz high ∧ (∀ p ∈ l, smn 10000 p) ∧ forL (.one 8) (fun σ s => exs C bz8_L1 σ s) (rangeT 0 high) (g27 row n low high tall bot tp (some (.own (l0.map pt))) c0) s = .next (g27 row n low high tall bot tp (some (.own (l.map pt))) c) s := by
  obtain ⟨σ', e, l1, c, rfl, x1, x2, x3, x4⟩ := zaa1 (g := .one 8) (body := fun σ s => exs C bz8_L1 σ s) (s := s)
    (fun m σ => ∃ (l : List (Int × Int)) (c : Option B), σ = g27 row n low high tall bot tp (some (.own (l.map pt))) c ∧ l.length = low + m ∧ LoH l bot tz low ∧ UpH l low high tp bz m ∧ ∀ p ∈ l, smn 10000 p) (rangeT 0 high) 0 (g27 row n low high tall bot tp (some (.own (l0.map pt))) c0) ⟨l0, c0, rfl, by omega, l0h, fun i h => by omega, l0b⟩ (by
      rintro m t σ hm ⟨l, c, rfl, h2, h4, h5, h3⟩
      obtain ⟨rfl, hlt⟩ := zaao hm
      obtain ⟨x, _, f1, _⟩ := row_at hr (m := 26 + low + m) (by omega)
      rw [show ((26 + low + m : Nat) : Int) = 26 + (low : Int) + (m : Int) by omega] at f1
      have hbl : high - 1 - m < tp.length := by have := hb.len; omega
      have f2 := ints_at hbl
      rw [show ((high - 1 - m : Nat) : Int) = (high : Int) - 1 - (m : Int) by omega] at f2
      have hbv := hb.bd _ (List.getElem_mem hbl)
      rw [← zabm hbl] at hbv
      have g1 := op_mod (i := x) ht.1
      have g2 := zaap x ht.1
      have g3 := op_mul (i := tp.getD (high - 1 - m) 0) (j := bz) (zaah (by omega))
      have g4 := prod_le (a := tp.getD (high - 1 - m) 0) (b := bz) hbv hz
      have hlim : l.length < lim := Nat.lt_of_lt_of_le (show l.length < 1000 by omega) lim_ge
      refine ⟨g27 row n low high tall bot tp (some (.own (l.map pt))) (iV m), g27 row n low high tall bot tp (some (.own ((l ++ [(tp.getD (high - 1 - m) 0 * bz, 1 + Int.fmod x tall)]).map pt))) (iV m), by simp [bindTg], ?_, l ++ [(tp.getD (high - 1 - m) 0 * bz, 1 + Int.fmod x tall)], iV m, rfl, by simp [h2]; omega, h4.app _, ?_, ?_⟩
      · generalize tp.getD (high - 1 - m) 0 * bz = zz at *
        generalize tp.getD (high - 1 - m) 0 = tw at *
        simp [f1, f2, g1, g3, blast, ownAt, setOwn, hlim, pt]
      · intro i hi
        by_cases q : i = m
        · subst q
          exact ⟨_, by rw [List.getElem?_append_right (by omega), show low + i - l.length = 0 by omega]; rfl, by omega⟩
        · exact (h5.app _) i (by omega)
      · intro v hv
        rcases List.mem_append.mp hv with z | z
        · exact h3 v z
        · rw [List.mem_singleton.mp z]; exact ⟨g4, by show (1 + Int.fmod x tall).natAbs ≤ 10000; omega⟩)
  rw [zaas, show 0 + ((high : Int) - 0).toNat = high by omega] at x1 x3
  exact ⟨l1, c, x1, x2, x3, x4, e⟩
end Pg
end IP
end
section
set_option linter.all false
set_option maxRecDepth 100000
set_option maxHeartbeats 0
namespace IP
namespace Pg
open L2
variable {k : Nat} {s : Sto} {l : List (Int × Int)} {row : List Int}
theorem Far.z0 {far : List Int} {n : Nat} (F : Far far n) : far.getD 0 0 = 0 := by
  rw [List.getD_eq_getElem?_getD, F.z]; rfl
theorem Far.pos {far : List Int} {n : Nat} (F : Far far n) {i : Nat} (h0 : 0 < i) (hi : i < n) : 0 < far.getD i 0 := by
  induction i with
  | zero => omega
  | succ i ih =>
    have := F.up i hi
    by_cases e : i = 0
    · subst e; rw [F.z0] at this; exact this
    · have := ih (by omega) (by omega); omega
theorem Far.bdD {far : List Int} {n : Nat} (F : Far far n) {i : Nat} (hi : i < n) : 0 ≤ far.getD i 0 ∧ far.getD i 0 ≤ 100 := by
  have hl : i < far.length := by rw [F.len]; exact hi
  rw [zabm hl]
  exact F.bd _ (List.getElem_mem hl)
theorem nc_of {low high : Nat} {bot tp : List Int} (hb : Far bot low) (ht : Far tp high) (h2 : 2 ≤ low) (hh : (low = 2 ∧ high = 1) ∨ 2 ≤ high) (hl : l.length = low + high)
    (L : LoH l bot (if 1 < tp.getD (high - 1) 0 then tp.getD (high - 1) 0 else 1) low) (U : UpH l low high tp (bot.getD (low - 1) 0) high) : NC l.length (cor l) := by
  have tz : 0 < (if 1 < tp.getD (high - 1) 0 then tp.getD (high - 1) 0 else 1) := by split <;> omega
  have bz := hb.pos (i := low - 1) (by omega) (by omega)
  have lX : ∀ i, i < low → (l.getD i (0, 0)).1 = bot.getD i 0 * (if 1 < tp.getD (high - 1) 0 then tp.getD (high - 1) 0 else 1) ∧ (l.getD i (0, 0)).2 < 0 := fun i hi => by
    obtain ⟨y, e, hy⟩ := L i hi
    rw [List.getD_eq_getElem?_getD, e]
    exact ⟨rfl, hy⟩
  have uX : ∀ i, i < high → (l.getD (low + i) (0, 0)).1 = tp.getD (high - 1 - i) 0 * bot.getD (low - 1) 0 ∧ 0 < (l.getD (low + i) (0, 0)).2 := fun i hi => by
    obtain ⟨y, e, hy⟩ := U i hi
    rw [List.getD_eq_getElem?_getD, e]
    exact ⟨rfl, hy⟩
  have H : Ch (low + high) low (fun i => (l.getD i (0, 0)).1) (fun i => (l.getD i (0, 0)).2) := by
    refine ⟨by omega, ?_, ?_, fun i hi => ?_, fun i hi hi2 => ?_, fun i hi => (lX i hi).2, fun i hi hi2 => ?_, ?_⟩
    · show (l.getD 0 (0, 0)).1 = 0
      rw [(lX 0 (by omega)).1, hb.z0, Int.zero_mul]
    · show (l.getD (low + high - 1) (0, 0)).1 = 0
      rw [show low + high - 1 = low + (high - 1) by omega, (uX (high - 1) (by omega)).1, show high - 1 - (high - 1) = 0 by omega, ht.z0, Int.zero_mul]
    · show (l.getD i (0, 0)).1 < (l.getD (i + 1) (0, 0)).1
      rw [(lX i (by omega)).1, (lX (i + 1) hi).1]
      exact Int.mul_lt_mul_of_pos_right (hb.up i hi) tz
    · show (l.getD (i + 1) (0, 0)).1 < (l.getD i (0, 0)).1
      obtain ⟨j, rfl⟩ : ∃ j, i = low + j := ⟨i - low, by omega⟩
      rw [show low + j + 1 = low + (j + 1) by omega, (uX j (by omega)).1, (uX (j + 1) (by omega)).1]
      have := ht.up (high - 1 - (j + 1)) (by omega)
      rw [show high - 1 - (j + 1) + 1 = high - 1 - j by omega] at this
      exact Int.mul_lt_mul_of_pos_right this bz
    · obtain ⟨j, rfl⟩ : ∃ j, i = low + j := ⟨i - low, by omega⟩
      exact (uX j (by omega)).2
    · rcases hh with ⟨q1, q2⟩ | q
      · left; omega
      · right
        refine ⟨by omega, ?_⟩
        show (l.getD (low - 1) (0, 0)).1 = (l.getD low (0, 0)).1
        have e := (uX 0 (by omega)).1
        rw [Nat.add_zero] at e
        rw [(lX (low - 1) (by omega)).1, e, show high - 1 - 0 = high - 1 by omega]
        have := ht.pos (i := high - 1) (by omega) (by omega)
        rw [Int.mul_comm]
        congr 1
        split <;> omega
  have N := H.nc
  rw [← hl] at N
  have e : cy l.length (fun i => (l.getD i (0, 0)).1) (fun i => (l.getD i (0, 0)).2) = cor l := funext fun i => rfl
  rw [e] at N
  exact N
structure Has27 (C : Cf) (row : List Int) (s : Sto) : Prop where
  h26 : ∀ a n : Nat, 1 ≤ n → n ≤ 24 → a + n ≤ 40 → ∃ far : List Int, Far far n ∧ C.cf 26 [.val (.lst (iL row)), .val (.int a), .val (.int n)] s = .ok (.val (.lst (iL far))) s
abbrev gg27 (row : List Int) (n : Nat) (v2 v3 v4 v5 v6 : Option B) : Fr := [some (.val (.lst (iL row))), iV n, v2, v3, v4, v5, v6, none, none]
theorem zaf4 {C : Cf} (hC : Has27 C row s) (hr : ∀ v ∈ row, zaav v) (hl : row.length = 58) {n : Nat} (h3 : 3 ≤ n) (hn : n ≤ 24) : ∃ l : List (Int × Int), l.length = n ∧ NC l.length (cor l) ∧ (∀ p ∈ l, smn 10000 p) ∧ exs C bz8 (gg27 row n none none none none none) s = .ret (LN l) s := by
  obtain ⟨v0, _, r0, _⟩ := row_at hr (m := 0) (by omega)
  obtain ⟨v1, _, r1, _⟩ := row_at hr (m := 1) (by omega)
  have r0' : subR (.val (.lst (iL row))) 0 = some (.int v0) := r0
  have r1' : subR (.val (.lst (iL row))) 1 = some (.int v1) := r1
  have hm := op_mod (i := v1) (j := 4) (by decide)
  have hz := zaap v1 (j := 4) (by decide)
  generalize Int.fmod v1 4 = z at hm hz
  obtain ⟨tall, ht, e2⟩ := menu4 (a := 1) (b := 3) (c := 50) (d := 900) hz.1 hz.2
  have ht0 : 0 < tall ∧ tall ≤ 900 := by omega
  obtain ⟨low, lo1, lo2, lo3⟩ : ∃ low : Nat, 2 ≤ low ∧ ((n = 3 ∧ low = 2) ∨ low + 2 ≤ n) ∧ ex C (.ifs (.cmp .gt (.var 1) (.cst (.int 3))) [(.asg 2 (.bin .add (.cst (.int 2)) (.bin .mod (.sub (.var 0) (.cst (.int 0))) (.bin .sub (.var 1) (.cst (.int 3))))))] []) (gg27 row n (iV 2) none none none none) s = .next (gg27 row n (iV low) none none none none) s := by
    by_cases h : 3 < n
    · have g1 := op_mod (i := v0) (j := (n : Int) - 3) (by omega)
      have g2 := zaap v0 (j := (n : Int) - 3) (by omega)
      generalize Int.fmod v0 ((n : Int) - 3) = y at g1 g2
      refine ⟨2 + y.toNat, by omega, by omega, ?_⟩
      rw [ex_ifs (d := true) (by simp; omega)]
      rw [show ((2 + y.toNat : Nat) : Int) = 2 + y by omega]
      simp [r0', g1]
    · refine ⟨2, by omega, by omega, ?_⟩
      rw [ex_ifs (d := false) (by simp; omega)]
      simp
  obtain ⟨high, hi⟩ : ∃ high : Nat, n = low + high := ⟨n - low, by omega⟩
  obtain ⟨bot, fb, b3⟩ := hC.h26 2 low (by omega) (by omega) (by omega)
  obtain ⟨tp, ft, t3⟩ := hC.h26 (2 + low) high (by omega) (by omega) (by omega)
  rw [show ((2 + low : Nat) : Int) = 2 + (low : Int) by omega] at t3
  have tl := ft.len
  have bl := fb.len
  have tlast := zad8 (ts := iL tp) (m := high - 1) (t := .int (tp.getD (high - 1) 0)) (by simp; omega) (by rw [zabm (show high - 1 < tp.length by omega)]; simp [show high - 1 < tp.length by omega])
  have blast := zad8 (ts := iL bot) (m := low - 1) (t := .int (bot.getD (low - 1) 0)) (by simp; omega) (by rw [zabm (show low - 1 < bot.length by omega)]; simp [show low - 1 < bot.length by omega])
  obtain ⟨l1, c1, x1, x2, x3, x4⟩ := zafb (C := C) (s := s) (n := n) (high := high) hr hl (by omega) fb ht0 (ft.bdD (i := high - 1) (by omega)) tlast
  obtain ⟨l2, c2, y1, y2, y3, y4, y5⟩ := zae3 (C := C) (s := s) (n := n) hr hl (by omega) ft ht0 (fb.bdD (i := low - 1) (by omega)) blast x1 x2 x3 c1
  refine ⟨l2, by omega, nc_of fb ft lo1 (by omega) y1 y2 y3, y4, ?_⟩
  have ehi : (n : Int) - (low : Int) = (high : Int) := by omega
  have b3' : C.cf 26 [.val (.lst (iL row)), .val (.int 2), .val (.int low)] s = .ok (.val (.lst (iL bot))) s := b3
  refine (zaac (σ1 := gg27 row n (iV 2) none none none none) (s1 := s) (by simp)).trans ?_
  refine (zaac lo3).trans ?_
  refine (zaac (σ1 := gg27 row n (iV low) (iV high) none none none) (s1 := s) (by simp [ehi])).trans ?_
  refine (zaac (σ1 := gg27 row n (iV low) (iV high) (iV tall) none none) (s1 := s) (by simp [r1', hm, e2])).trans ?_
  refine (zaac (σ1 := gg27 row n (iV low) (iV high) (iV tall) (some (.val (.lst (iL bot)))) none) (s1 := s) (by simp [b3'])).trans ?_
  refine (zaac (σ1 := gg27 row n (iV low) (iV high) (iV tall) (some (.val (.lst (iL bot)))) (some (.val (.lst (iL tp))))) (s1 := s) (by simp [t3])).trans ?_
  refine (zaac (σ1 := g27 row n low high tall bot tp (some (.own [])) none) (s1 := s) (by simp [freshE, setOwn])).trans ?_
  refine (zaac ((ex_for (ts := rangeT 0 low) (s1 := s) (zabu (n := low) (by simp) (by omega)) (by intro _ h; cases h)).trans x4)).trans ?_
  refine (zaac ((ex_for (ts := rangeT 0 high) (s1 := s) (zabu (n := high) (by simp) (by omega)) (by intro _ h; cases h)).trans y5)).trans ?_
  simp [frz]
theorem r_simple (hr : ∀ v ∈ row, zaav v) (hl : row.length = 58) {n : Nat} (h3 : 3 ≤ n) (hn : n ≤ 24) : ∃ l : List (Int × Int), l.length = n ∧ NC l.length (cor l) ∧ (∀ p ∈ l, smn 10000 p) ∧ run true fns sub0 whileL (k + 2) 27 [.val (.lst (iL row)), .val (.int n)] s = .ok (LN l) s := by
  obtain ⟨l, h1, h2, h4, e⟩ := zaf4 (C := cfX fns sub0 (k + 1)) (s := s) ⟨fun a n q1 q2 q3 => by
    obtain ⟨far, f, e⟩ := r_strides (k := k) (s := s) hr hl q1 q2 q3
    exact ⟨far, f, cf_of e rfl⟩⟩ hr hl h3 hn
  exact ⟨l, h1, h2, h4, (zaaj (F := Fz8) rfl rfl).trans (congrArg (leave true false) e)⟩
theorem zaff {C : Cf} {e : E} {i j : Nat} {x : Nat} {σ : Fr} {g : Int × Int → Int × Int} (hx : ev C (.var x) .v σ s = .ok (LN l) s)
    (h : ∀ p ∈ l, ev C e .v (put (put σ i (.int p.1)) j (.int p.2)) s = .ok (PT (g p)) s) : ev C (.comp e (.many [i, j]) (.var x)) .v σ s = .ok (LN (l.map g)) s := by
  refine ev_comp (ts := l.map pt) (s1 := s) ?_ ?_
  · have : ev C (.var x) .i σ s = fin .i (ev C (.var x) .v σ s) := rfl
    rw [this, hx]
    rfl
  · clear hx
    induction l with
    | nil => rfl
    | cons p l ih =>
      have h0 := h p (by simp)
      have h1 := ih fun y hy => h y (by simp [hy])
      simp only [List.map_cons]
      unfold mapRes
      rw [show onO (bindTg σ (.many [i, j]) (pt p)) (fun σ' => one (ev C e .v σ' s)) = .ok (some (pt (g p))) s by show one (ev C e .v (put (put σ i (.int p.1)) j (.int p.2)) s) = _; rw [h0]; rfl]
      simp only [Res.bind_ok]
      rw [h1]
      rfl
theorem cut_low {ts : List T} {m : Nat} (h : m ≤ ts.length) : cutR (.val (.lst ts)) (some (m : Int)) none = some (.val (.lst (ts.drop m))) := by
  have e : HT.sIx ts.length 0 (some (m : Int)) = m := by rw [HT.sIx_nat]; omega
  have e2 : HT.sIx ts.length ts.length none = ts.length := rfl
  simp [cutR, cutT, e, e2, ← List.length_drop, List.take_length]
theorem cut_up {ts : List T} {m : Nat} (h : m ≤ ts.length) : cutR (.val (.lst ts)) none (some (m : Int)) = some (.val (.lst (ts.take m))) := by
  have e : HT.sIx ts.length ts.length (some (m : Int)) = m := by rw [HT.sIx_nat]; omega
  have e2 : HT.sIx ts.length 0 none = 0 := rfl
  simp [cutR, cutT, e, e2]
theorem add_lists {a b : List T} (h : a.length + b.length ≤ 1000) : opR .add (.val (.lst a)) (.val (.lst b)) = some (.val (.lst (a ++ b))) := by
  have : a.length + b.length ≤ lim := Nat.le_trans h lim_ge
  simp [opR, this]
theorem ev_add {C : Cf} {a b : E} {σ : Fr} {s s1 s2 : Sto} {x y r : R} (h1 : ev C a .v σ s = .ok x s1) (h2 : ev C b .v σ s1 = .ok y s2) (h3 : opR .add x y = some r) : ev C (.bin .add a b) .v σ s = .ok r s2 := by
  rw [ev.eq_4, h1]
  simp only [Res.bind_ok, h2, h3, fin_v, Res.of_some]
theorem cor_rot {l : List (Int × Int)} {m : Nat} (hm : m < l.length) (i : Nat) : cor (l.drop m ++ l.take m) i = cor l (i + m) := by
  have hl : (l.drop m ++ l.take m).length = l.length := by simp; omega
  unfold cor
  rw [hl, List.getD_eq_getElem?_getD, List.getD_eq_getElem?_getD]
  have hi := Nat.mod_lt i (show 0 < l.length by omega)
  have e : (i + m) % l.length = if i % l.length + m < l.length then i % l.length + m else i % l.length + m - l.length := by
    rw [Nat.add_mod, Nat.mod_eq_of_lt hm]
    split
    · exact Nat.mod_eq_of_lt (by assumption)
    · rw [Nat.mod_eq_sub_mod (by omega)]; exact Nat.mod_eq_of_lt (by omega)
  rw [e]
  generalize i % l.length = a at *
  by_cases k : a + m < l.length
  · rw [if_pos k, List.getElem?_append_left (by simp; omega), List.getElem?_drop, Nat.add_comm]
  · rw [if_neg k, List.getElem?_append_right (by simp; omega), List.length_drop, List.getElem?_take_of_lt (by omega), show a - (l.length - m) = a + m - l.length by omega]
theorem cor_rev {l : List (Int × Int)} (h0 : 0 < l.length) (i : Nat) : cor l.reverse i = cor l (l.length - 1 - i % l.length) := by
  unfold cor
  have hi := Nat.mod_lt i h0
  rw [List.length_reverse, List.getD_eq_getElem?_getD, List.getD_eq_getElem?_getD, List.getElem?_reverse hi, Nat.mod_eq_of_lt (show l.length - 1 - i % l.length < l.length by omega)]
theorem zaeu {l : List (Int × Int)} (h0 : 0 < l.length) (f : Int × Int → Int × Int) (i : Nat) : cor (l.map f) i = f (cor l i) := by
  unfold cor
  have hi := Nat.mod_lt i h0
  rw [List.length_map, List.getD_eq_getElem?_getD, List.getD_eq_getElem?_getD]
  simp [hi]
abbrev NCL (l : List (Int × Int)) : Prop := NC l.length (cor l)
theorem ncl_eq {l' : List (Int × Int)} {n : Nat} {Q : Nat → Int × Int} (N : NC n Q) (hn : l'.length = n) (e : ∀ i, cor l' i = Q i) : NCL l' := by
  have : cor l' = Q := funext e
  unfold NCL
  rw [hn, this]
  exact N
theorem NCL.lean (N : NCL l) (L : Int) : NCL (l.map (lean L)) := ncl_eq (NC.lean N L) (by simp) (zaeu (by have := N.n3; omega) _)
theorem NCL.quart (N : NCL l) : NCL (l.map quart) := ncl_eq (NC.quart N) (by simp) (zaeu (by have := N.n3; omega) _)
theorem NCL.shf (N : NCL l) (x y : Int) : NCL (l.map (shf x y)) := ncl_eq (NC.shf N x y) (by simp) (zaeu (by have := N.n3; omega) _)
theorem NCL.rev (N : NCL l) : NCL l.reverse := ncl_eq (NC.rev N) (by simp) (cor_rev (by have := N.n3; omega))
theorem NCL.rot (N : NCL l) {m : Nat} (hm : m < l.length) : NCL (l.drop m ++ l.take m) := ncl_eq (NC.rot N m) (by simp; omega) (cor_rot hm)
abbrev g28 (l : List (Int × Int)) (c : Int) (v2 v3 v4 : Option B) : Fr := [some (.val (.lst (l.map pt))), iV c, v2, v3, v4, none, none, none, none]
abbrev lV (l : List (Int × Int)) : Option B := some (.val (.lst (l.map pt)))
theorem swung_any {C : Cf} (N : NCL l) (hB : ∀ p ∈ l, smn 10000 p) (hn : l.length ≤ 500) (c : Int) : ∃ l' : List (Int × Int), l'.length = l.length ∧ NCL l' ∧ (∀ q ∈ l', smn 30000 q) ∧ exs C bz12 (g28 l c none none none) s = .ret (LN l') s := by
  have n3 := N.n3
  have m5 := op_mod (i := c) (j := 5) (by decide)
  have b5 := zaap c (j := 5) (by decide)
  generalize Int.fmod c 5 = z5 at m5 b5
  have d5 := zabe (i := c) (j := 5) (by decide) (by decide)
  have d10 := zabe (i := c) (j := 10) (by decide) (by decide)
  have d20 := zabe (i := c) (j := 20) (by decide) (by decide)
  generalize Int.fdiv c 5 = f5 at d5
  generalize Int.fdiv c 10 = f10 at d10
  generalize Int.fdiv c 20 = f20 at d20
  have n5 := op_mod (i := f5) (j := 2) (by decide)
  have n10 := op_mod (i := f10) (j := 2) (by decide)
  generalize Int.fmod f5 2 = g5 at n5
  generalize Int.fmod f10 2 = g10 at n10
  have n20 := op_mod (i := f20) (j := (l.length : Int)) (by omega)
  have b20 := zaap f20 (j := (l.length : Int)) (by omega)
  generalize Int.fmod f20 (l.length : Int) = by' at n20 b20
  have a3 : ev C (.comp zad0 (.many [5, 6]) (.var 0)) .v (g28 l c (iV (z5 - 2)) none none) s = .ok (LN (l.map (lean (z5 - 2)))) s := by
    refine zaff (g := lean (z5 - 2)) (by simp) fun p hp => ?_
    have mm := op_mul (i := z5 - 2) (j := p.2) (zaah (by omega))
    have e : pt (lean (z5 - 2) p) = .tup [.int (p.1 + (z5 - 2) * p.2), .int p.2] := rfl
    show _ = Res.ok (R.val (pt (lean (z5 - 2) p))) s
    rw [e]
    generalize (z5 - 2) * p.2 = zz at *
    simp [mm]
  have a2 : ∀ q ∈ l.map (lean (z5 - 2)), smn 30000 q := fun q hq => by
    obtain ⟨p, hp, rfl⟩ := List.mem_map.mp hq
    have h := hB p hp
    have hb : ((z5 - 2) * p.2).natAbs ≤ 2 * 10000 := zaai (by omega) h.2
    have := h.1
    have := h.2
    exact ⟨by show (p.1 + (z5 - 2) * p.2).natAbs ≤ 30000; omega, by show p.2.natAbs ≤ 30000; omega⟩
  have N1 := N.lean (z5 - 2)
  have l1l : (l.map (lean (z5 - 2))).length = l.length := by simp
  generalize l.map (lean (z5 - 2)) = l1 at *
  obtain ⟨l2, c1, N2, c2, c3⟩ : ∃ l2 : List (Int × Int), l2.length = l.length ∧ NCL l2 ∧ (∀ q ∈ l2, smn 30000 q) ∧ ex C (.ifs (.cmp .eq (.bin .mod (.bin .fdiv (.var 1) (.cst (.int 5))) (.cst (.int 2))) (.cst (.int 1))) [(.asg 3 (.comp zacm (.many [7, 8]) (.var 3)))] []) (g28 l c (iV (z5 - 2)) (lV l1) none) s = .next (g28 l c (iV (z5 - 2)) (lV l2) none) s := by
    by_cases hg : g5 = 1
    · have e3 : ev C (.comp zacm (.many [7, 8]) (.var 3)) .v (g28 l c (iV (z5 - 2)) (lV l1) none) s = .ok (LN (l1.map quart)) s := by
        refine zaff (g := quart) (by simp) fun p hp => ?_
        have e : pt (quart p) = .tup [.int (0 - p.2), .int p.1] := rfl
        show _ = Res.ok (R.val (pt (quart p))) s
        rw [e]
        simp
      refine ⟨l1.map quart, by simp [l1l], N1.quart, fun q hq => ?_, ?_⟩
      · obtain ⟨p, hp, rfl⟩ := List.mem_map.mp hq
        have h := a2 p hp
        have := h.1
        have := h.2
        exact ⟨by show (0 - p.2).natAbs ≤ 30000; omega, h.1⟩
      · rw [ex_ifs (d := true) (by simp [d5, n5, hg])]
        exact (zaac (ex_asg e3)).trans (by simp)
    · refine ⟨l1, l1l, N1, a2, ?_⟩
      rw [ex_ifs (d := false) (by simp [d5, n5, hg])]
      simp
  obtain ⟨l3, f1, N3, f2, f3⟩ : ∃ l3 : List (Int × Int), l3.length = l.length ∧ NCL l3 ∧ (∀ q ∈ l3, smn 30000 q) ∧ ex C (.ifs (.cmp .eq (.bin .mod (.bin .fdiv (.var 1) (.cst (.int 10))) (.cst (.int 2))) (.cst (.int 1))) [(.asg 3 (.rev (.var 3)))] []) (g28 l c (iV (z5 - 2)) (lV l2) none) s = .next (g28 l c (iV (z5 - 2)) (lV l3) none) s := by
    by_cases hg : g10 = 1
    · refine ⟨l2.reverse, by simp [c1], N2.rev, fun q hq => c2 q (List.mem_reverse.mp hq), ?_⟩
      rw [ex_ifs (d := true) (by simp [d10, n10, hg])]
      simp
    · refine ⟨l2, c1, N2, c2, ?_⟩
      rw [ex_ifs (d := false) (by simp [d10, n10, hg])]
      simp
  obtain ⟨m, rfl⟩ : ∃ m : Nat, by' = (m : Int) := ⟨by'.toNat, by omega⟩
  have e8 : ev C (.bin .add (.cutL (.var 3) (.var 4)) (.cutU (.var 3) (.var 4))) .v (g28 l c (iV (z5 - 2)) (lV l3) (iV m)) s = .ok (.val (.lst ((l3.drop m ++ l3.take m).map pt))) s := by
    have u1 := cut_low (ts := l3.map pt) (m := m) (by simp; omega)
    have u2 := cut_up (ts := l3.map pt) (m := m) (by simp; omega)
    refine ev_add (x := .val (.lst ((l3.map pt).drop m))) (y := .val (.lst ((l3.map pt).take m))) (s1 := s) (by simp [u1]) (by simp [u2]) ?_
    rw [add_lists (by simp; omega), List.map_append, List.map_drop, List.map_take]
  refine ⟨l3.drop m ++ l3.take m, by simp; omega, N3.rot (by omega), fun q hq => ?_, ?_⟩
  · rcases List.mem_append.mp hq with z | z
    · exact f2 q (List.mem_of_mem_drop z)
    · exact f2 q (List.mem_of_mem_take z)
  · refine (zaac (σ1 := g28 l c (iV (z5 - 2)) none none) (s1 := s) (by simp [m5])).trans ?_
    refine (zaac (ex_asg a3)).trans ?_
    refine (zaac c3).trans ?_
    refine (zaac f3).trans ?_
    refine (zaac (σ1 := g28 l c (iV (z5 - 2)) (lV l3) (iV m)) (s1 := s) (by simp [d20, f1, n20])).trans ?_
    exact zacw (ex_ret e8)
theorem r_swung (N : NCL l) (hB : ∀ p ∈ l, smn 10000 p) (hn : l.length ≤ 500) (c : Int) : ∃ l' : List (Int × Int), l'.length = l.length ∧ NCL l' ∧ (∀ q ∈ l', smn 30000 q) ∧ run true fns sub0 whileL (k + 1) 28 [LN l, .val (.int c)] s = .ok (LN l') s := by
  obtain ⟨l', h1, h2, h3, e⟩ := swung_any (C := cfX fns sub0 k) (s := s) N hB hn c
  exact ⟨l', h1, h2, h3, (zaaj (F := Fz12) rfl rfl).trans (congrArg (leave true false) e)⟩
end Pg
end IP
end
section
set_option linter.all false
set_option maxRecDepth 100000
set_option maxHeartbeats 0
namespace IP
namespace Pg
open L2
structure Has (C : Cf) (ns : List Int) : Prop where
  stir : ∃ row : List Int, row.length = 58 ∧ (∀ v ∈ row, zaav v) ∧ C.cf 24 [.val (.lst (iL ns)), .val (.int 58)] [] = .ok (.val (.lst (iL row))) []
  simple : ∀ (row : List Int) (n : Nat), (∀ v ∈ row, zaav v) → row.length = 58 → 3 ≤ n → n ≤ 24 → ∃ l : List (Int × Int), l.length = n ∧ NCL l ∧ (∀ p ∈ l, smn 10000 p) ∧ C.cf 27 [.val (.lst (iL row)), .val (.int n)] [] = .ok (LN l) []
  swung : ∀ (l : List (Int × Int)) (c : Int), NCL l → (∀ p ∈ l, smn 10000 p) → l.length ≤ 500 → ∃ l' : List (Int × Int), l'.length = l.length ∧ NCL l' ∧ (∀ q ∈ l', smn 30000 q) ∧ C.cf 28 [LN l, .val (.int c)] [] = .ok (LN l') []
  out : ∀ (l : List (Int × Int)) (b : Int), Fine l → (0 ≤ b ∧ b ≤ 1000) → ∃ D, C.cf 13 [LN l, .val (.int b)] [] = .ok (.val (.lst D)) [] ∧ C.cf 34 [LN l, .val (.lst D), .val (.int b)] [] = .ok (.val (.bl true)) []
theorem has (k : Nat) (ns : List Int) : Has (cfX fns sub0 (k + 7)) ns where
  stir := by
    obtain ⟨row, h1, h2, h3⟩ := r_stir (k := k + 5) (s := []) ns 58 (by decide)
    exact ⟨row, h1, h2, cf_of h3 rfl⟩
  simple := fun row n hr hl h3 hn => by
    obtain ⟨l, h1, h2, h4, e⟩ := r_simple (k := k + 5) (s := []) hr hl h3 hn
    exact ⟨l, h1, h2, h4, cf_of e rfl⟩
  swung := fun l c N hB hn => by
    obtain ⟨l', h1, h2, h3, e⟩ := r_swung (k := k + 6) (s := []) N hB hn c
    exact ⟨l', h1, h2, h3, cf_of e rfl⟩
  out := fun l b F hb => ⟨_, cf_of (F.outline (k := k) (s := []) hb) rfl, cf_of (r_hems (k := k + 3) (s := []) F hb) rfl⟩
abbrev g35 (ns : List Int) (v1 v2 v3 v4 v5 v6 : Option B) : Fr := [some (.val (.lst (iL ns))), v1, v2, v3, v4, v5, v6, none]
theorem law_any {C : Cf} {ns : List Int} (hC : Has C ns) : exs C b_law (enter F_law [.val (.lst (iL ns))]) [] = .ret (.val (.bl true)) [] := by
  obtain ⟨row, rl, hr, e1⟩ := hC.stir
  obtain ⟨v57, _, r57, _⟩ := row_at hr (m := 57) (by omega)
  obtain ⟨v52, _, r52, _⟩ := row_at hr (m := 52) (by omega)
  obtain ⟨v53, _, r53, _⟩ := row_at hr (m := 53) (by omega)
  obtain ⟨v54, _, r54, _⟩ := row_at hr (m := 54) (by omega)
  obtain ⟨v55, _, r55, _⟩ := row_at hr (m := 55) (by omega)
  have m57 := op_mod (i := v57) (j := 22) (by decide)
  have b57 := zaap v57 (j := 22) (by decide)
  obtain ⟨n, hn⟩ : ∃ n : Nat, 3 + Int.fmod v57 22 = (n : Int) := ⟨(3 + Int.fmod v57 22).toNat, by omega⟩
  obtain ⟨l0, l0l, N0, B0, e2⟩ := hC.simple row n hr rl (by omega) (by omega)
  obtain ⟨l, ll, N, Bl, e3⟩ := hC.swung l0 v52 N0 B0 (by omega)
  have m53 := op_mod (i := v53) (j := 18001) (by decide)
  have b53 := zaap v53 (j := 18001) (by decide)
  have m54 := op_mod (i := v54) (j := 18001) (by decide)
  have b54 := zaap v54 (j := 18001) (by decide)
  have m55 := op_mod (i := v55) (j := 1001) (by decide)
  have b55 := zaap v55 (j := 1001) (by decide)
  generalize Int.fmod v57 22 = w57 at *
  generalize Int.fmod v53 18001 = w53 at *
  generalize Int.fmod v54 18001 = w54 at *
  generalize Int.fmod v55 1001 = b at *
  generalize hx : w53 - 9000 = x at *
  generalize hy : w54 - 9000 = y at *
  simp only [Int.cast_ofNat_Int] at r57 r52 r53 r54 r55
  refine (zaac (σ1 := g35 ns (some (.val (.lst (iL row)))) none none none none none) (s1 := []) (by simp [e1])).trans ?_
  refine (zaac (σ1 := g35 ns (some (.val (.lst (iL row)))) (iV n) none none none none) (s1 := []) (by simp [r57, m57, hn])).trans ?_
  refine (zaac (σ1 := g35 ns (some (.val (.lst (iL row)))) (iV n) (lV l) none none none) (s1 := []) (by simp [r52, e2, e3])).trans ?_
  refine (zaac (σ1 := g35 ns (some (.val (.lst (iL row)))) (iV n) (lV l) (iV x) none none) (s1 := []) (by simp [r53, m53, hx])).trans ?_
  refine (zaac (σ1 := g35 ns (some (.val (.lst (iL row)))) (iV n) (lV l) (iV x) (iV y) none) (s1 := []) (by simp [r54, m54, hy])).trans ?_
  have e4 : ev C (.comp zab5 (.one 7) (.var 3)) .v (g35 ns (some (.val (.lst (iL row)))) (iV n) (lV l) (iV x) (iV y) none) [] = .ok (.val (.lst ((l.map (shf x y)).map pt))) [] := by
    rw [List.map_map]
    refine zab9 (i := 7) l pt (fun p => pt (shf x y p)) (by simp) (fun p hp => ?_)
    simp [shf]
    rfl
  have F : Fine (l.map (shf x y)) := ⟨by simp; omega, N.shf x y, fun q hq => by
    obtain ⟨p, hp, rfl⟩ := List.mem_map.mp hq
    have h := Bl p hp
    have := h.1
    have := h.2
    exact ⟨by show (p.1 + x).natAbs ≤ 2 ^ 16; omega, by show (p.2 + y).natAbs ≤ 2 ^ 16; omega⟩⟩
  obtain ⟨D, e5, e6⟩ := hC.out _ b F (by omega)
  refine (zaac (σ1 := g35 ns (some (.val (.lst (iL row)))) (iV n) (lV (l.map (shf x y))) (iV x) (iV y) none) (s1 := []) (ex_asg e4)).trans ?_
  generalize l.map (shf x y) = K at *
  refine (zaac (σ1 := g35 ns (some (.val (.lst (iL row)))) (iV n) (lV K) (iV x) (iV y) (iV b)) (s1 := []) (by simp [r55, m55])).trans ?_
  simp [e5, e6]
theorem law11 (k : Nat) (ns : List Int) : ∃ s, run true fns sub0 whileL (k + 8) 35 [.val (.lst (ns.map .int))] [] = .ok (.val (.bl true)) s :=
  ⟨[], (zaaj (F := F_law) rfl rfl).trans (congrArg (leave true false) (law_any (has k ns)))⟩
theorem math : Math := fun ns _ => law11 8 ns
end Pg
end IP
end
section
namespace PySem.W.Fast
def tw15230089355029510273:=()
def tw4593730835711984905:=()
def tw18177464196727201435:=()
def tw5662073814178821618:=()
def tw3319368510211000020:=()
def tw3861108324873957186:=()
def tw17643384256763936658:=()
def tw15893604729702895795:=()
def tw10963181294315370018:=()
def tw16075445751484991765:=()
def tw17276450100196404848:=()
def tw8235865818492880931:=()
def tw11784708571507749437:=()
def tw599619570395065781:=()
def tw15516901415198520567:=()
def tw2700458776270415272:=()
def tw10077959592145355973:=()
def tw15682282713658329887:=()
def tw17044512823751472621:=()
def tw6704747844495636982:=()
def tw5453020763181826291:=()
def tw10156887006716990337:=()
def tw7698684243615010698:=()
def tw2229997475409124150:=()
def tw13658221531293505076:=()
def tw5693723458568652542:=()
def tw6295564638433620483:=()
def tw3305103330767366255:=()
def tw7683127373099009571:=()
def tw271881357029706290:=()
def tw18410830725512173243:=()
def tw10014314344161605071:=()
def tw12659680719270169273:=()
def tw8511606800466848386:=()
def tw12578001808180071593:=()
def tw8172266392427640983:=()
def tw14635840537230483819:=()
def tw11538582287430844319:=()
def tw11749594507543685561:=()
def tw8529966600574159405:=()
def tw7474130877413406348:=()
def tw6635307910631089446:=()
def tw6177821473731656835:=()
def tw5334905306301240780:=()
def tw9093625388943664558:=()
def tw17630493038894523059:=()
def tw1390399871124926377:=()
def tw4568875095997170028:=()
def tw8192861935997355343:=()
def tw783999179427382105:=()
def tw11258252561421317029:=()
def tw13666364988243477702:=()
def tw16335203957953082107:=()
def tw6440629673306422587:=()
def tw14265983108826003150:=()
def tw1964971764175343094:=()
def tw6240023735095439280:=()
def tw7588867953252779837:=()
def tw6029806769645475607:=()
def tw664548973142210416:=()
def tw660016889115935277:=()
def tw13165383875335949311:=()
def tw9907396824045133402:=()
def tw17265338837316846876:=()
def tw17694236720077385950:=()
def tw1573434440724204235:=()
def tw9945741016736430914:=()
def tw5524359853922572910:=()
def tw13798703466835596608:=()
def tw7711293944838166334:=()
def tw18333773277863741179:=()
def tw1878138053534111870:=()
def tw4216050041710861163:=()
def tw17196274277524557960:=()
def tw7764041980580238835:=()
def tw3180081685000256385:=()
def tw8132297454631826872:=()
def tw535705374717256742:=()
def tw384731455901317733:=()
def tw14312472915055882638:=()
def tw698317091920355000:=()
def tw6741936617268106511:=()
def tw7002656971620129006:=()
def tw5263643414328859616:=()
def tw507060068426079840:=()
def tw5905498525546058398:=()
def tw3528470118059989671:=()
def tw5738883983747554784:=()
def tw9315484592942506667:=()
def tw12141724352657523092:=()
def tw8057629232300619598:=()
def tw12823889643565114451:=()
def tw18092622934080094757:=()
def tw13574875957715522340:=()
def tw14892077634681721552:=()
def tw12143568873211769167:=()
def tw11486564697739797847:=()
def tw1646086075105732069:=()
def tw819347368359459520:=()
def tw6581315099109170411:=()
def tw14658235686096847492:=()
def tw14384595464603553494:=()
def tw5724513882074408176:=()
def tw6281811625380899855:=()
def tw3614544845771816909:=()
def tw3657434851944638637:=()
def tw17494882190717525503:=()
def tw7190143342874046591:=()
def tw11858248047963690796:=()
def tw7919825855278263330:=()
def tw16037560154446222600:=()
def tw3685730859627545869:=()
def tw3709350922194339830:=()
def tw10542046013787846575:=()
def tw11957549786030485937:=()
def tw6517912652027556299:=()
def tw1730934881992922954:=()
def tw16326631159383295352:=()
def tw2765311993515116615:=()
def tw8618581547118994181:=()
def tw5482426037208016342:=()
def tw2135598112548053734:=()
def tw1693740672298103758:=()
def tw743487640560907767:=()
def tw11801144860314360290:=()
def tw13316354007151524536:=()
def tw2228851201035988143:=()
def tw15395990036290083444:=()
def tw5426930689296756813:=()
def tw11743986099347386568:=()
def tw8783713362187152003:=()
def tw5326311369370563740:=()
def tw16358526185421653383:=()
def tw10466973102555567839:=()
def tw15453213952218936756:=()
def tw6731609825312137579:=()
def tw16123373309829395623:=()
def tw16301582275940990505:=()
def tw1846043575898556386:=()
def tw11624537019661914703:=()
def tw15539026087422417517:=()
def tw9348710367021207863:=()
def tw4776340072707574856:=()
def tw2573444680168632266:=()
def tw6992360016110254294:=()
def tw16848783856351621622:=()
def tw10788431502855921878:=()
def tw18321321890996280647:=()
def tw8360847579958615259:=()
def tw1869786535366212406:=()
def tw6163148529135628339:=()
def tw2981742670332264330:=()
def tw7178067338829557142:=()
def tw48472129451464022:=()
def tw16418885162565813726:=()
def tw13477598539742137833:=()
def tw13667971135548724536:=()
def tw630185020507382234:=()
def tw3536213697516044333:=()
def tw1578173844938060418:=()
def tw632641839262874395:=()
def tw6583806903831470263:=()
def tw2331667983461719858:=()
def tw776243713812319227:=()
def tw1464738801622176745:=()
def tw8780250825845714588:=()
def tw14792918104194336239:=()
def tw9585681820095944824:=()
def tw14777665996328474285:=()
def tw2969980482426403451:=()
def tw4394209896200663510:=()
def tw17944992691442295429:=()
def tw4670411077806651063:=()
def tw9507755097050210781:=()
def tw15741396558860853500:=()
def tw8842210651351257672:=()
def tw2661882313078155765:=()
def tw18122202895424754345:=()
def tw17557670123251852801:=()
def tw2765499262806789620:=()
def tw9631897417344315449:=()
def tw13835425108751824689:=()
def tw17444416308155165214:=()
def tw4505018813185905448:=()
def tw6344030626964358261:=()
def tw4984081851499435519:=()
def tw10342957437772175306:=()
def tw15528848161518454513:=()
def tw14712197115080462654:=()
def tw17905105012361656694:=()
def tw16821256639501690849:=()
def tw5572847203986150689:=()
def tw4821510195188738615:=()
def tw17868404968033257891:=()
def tw14345362350091473458:=()
def tw17750580572556136425:=()
def tw11776395377952182413:=()
def tw16156646671051972140:=()
def tw5615720660439234184:=()
def tw13867919274205805136:=()
def tw5482428186768992235:=()
def tw15309024947660736420:=()
def tw2110921869413728546:=()
def tw2737161664112334103:=()
def tw6546624450212309161:=()
def tw2098915472397058876:=()
def tw10159863722042708881:=()
def tw1748357188409833767:=()
def tw16364954992595820745:=()
def tw8815890625103448475:=()
def tw17827387735090936391:=()
def tw4768692552869293806:=()
def tw8614579023956025469:=()
def tw12418041982086085000:=()
def tw13263809643994595332:=()
def tw7146583255428797185:=()
def tw9963446193410409876:=()
def tw4384849390252409956:=()
def tw8743529790849170159:=()
def tw5245046835931822687:=()
def tw5895909014338142550:=()
def tw17651626325783438492:=()
def tw14153524409964529694:=()
def tw13563523479300817156:=()
def tw14411748494910566424:=()
def tw1574372484765188209:=()
def tw16126577026823277539:=()
def tw16716436366694567935:=()
def tw14921018671993384855:=()
def tw14020309983237389352:=()
def tw16144333572914828022:=()
def tw6882553787830653701:=()
def tw13818919578460608380:=()
def tw4592303256388612523:=()
def tw2926553718878515530:=()
def tw11255772153832209864:=()
def tw4677151685018235574:=()
def tw4448078266083888300:=()
def tw7869411418433842004:=()
def tw482577239386515661:=()
def tw2241874423524170848:=()
def tw17748312281331992892:=()
def tw10723003728755464318:=()
def tw9771355048479615417:=()
def tw11875525311359638603:=()
def tw6333760822763700516:=()
def tw7985467887719534362:=()
def tw18041462680813303768:=()
def tw16233931008274244319:=()
def tw461468867361980876:=()
def tw2841454308614443859:=()
def tw17592934720274818728:=()
def tw16447067821075492296:=()
def tw117785795899910179:=()
def tw1077845438657008220:=()
def tw13694820285335362645:=()
def tw4710863222328917431:=()
def tw13180976408066847688:=()
def tw13659917269538922504:=()
end PySem.W.Fast
set_option Elab.async false
set_option maxRecDepth 100000
set_option maxHeartbeats 0
open PySem PySem.W PyProof.Rows
theorem PySem.Challenge.cw_gradecut_k11_hem_lines_holds : PySem.Challenge.rw_gradecut_k11_hem_lines.Holds := by
  w_on; o_law; k_head; (case hw => w_witness2)
  k_fill
  refine IP.Pg.walk IP.Pg.math (l := PySem.Challenge.rw_gradecut_k11_hem_lines) rfl rfl (fun w h Y => PySem.W.kIn_of Y) ?noL ?goF
  case noL => intro w; first | rfl | with_unfolding_all rfl | decide +kernel
  case goF =>
    intro w mg fa h KX G hmg
    refine' IP.Pg.all_mk KX G hmg ?aez1 ?aez0 ?qez0 ?az17 ?lz17 ?cz17 ?kz17 ?az29 ?lz29 ?cz29 ?kz29 ?az28 ?lz28 ?cz28 ?kz28 ?az26 ?lz26 ?cz26 ?kz26 ?az19 ?lz19 ?cz19 ?kz19 ?az30 ?lz30 ?cz30 ?kz30 ?az25 ?lz25 ?cz25 ?kz25 ?az34 ?lz34 ?cz34 ?kz34 ?az15 ?lz15 ?cz15 ?kz15 ?az31 ?lz31 ?cz31 ?kz31 ?az36 ?lz36 ?cz36 ?kz36 ?az21 ?lz21 ?cz21 ?kz21 ?az18 ?lz18 ?cz18 ?kz18 ?az23 ?lz23 ?cz23 ?kz23 ?az27 ?lz27 ?cz27 ?kz27 ?az24 ?lz24 ?cz24 ?kz24 ?az20 ?lz20 ?cz20 ?kz20 ?az16 ?lz16 ?cz16 ?kz16 ?az35 ?lz35 ?cz35 ?kz35 ?az32 ?lz32 ?cz32 ?kz32 ?az33 ?lz33 ?cz33 ?kz33 ?az22 ?lz22 ?cz22 ?kz22 ?az14 ?lz14 ?cz14 ?kz14 ?az2 ?lz2 ?cz2 ?kz2 ?az9 ?lz9 ?cz9 ?kz9 ?az4 ?lz4 ?cz4 ?kz4 ?az11 ?lz11 ?cz11 ?kz11 ?az8 ?lz8 ?cz8 ?kz8 ?az12 ?lz12 ?cz12 ?kz12 ?az7 ?lz7 ?cz7 ?kz7 ?az13 ?lz13 ?cz13 ?kz13 ?az3 ?lz3 ?cz3 ?kz3 ?az6 ?lz6 ?cz6 ?kz6 ?az10 ?lz10 ?cz10 ?kz10 ?az5 ?lz5 ?cz5 ?kz5 ?a_law ?l_law ?c_law ?k_law ?z_abs ?z_bool ?z_enumerate ?z_int ?z_isinstance ?z_len ?z_list ?z_max ?z_range ?z_sorted ?z_tuple
    (case aez1 => k_is)
    (case aez0 => k_is)
    (case qez0 => k_exc)
    (case az17 => k_is)
    (case lz17 => k_is)
    (case cz17 => k_is)
    (case kz17 => k_is)
    (case az29 => k_is)
    (case lz29 => k_is)
    (case cz29 => k_is)
    (case kz29 => k_is)
    (case az28 => k_is)
    (case lz28 => k_is)
    (case cz28 => k_is)
    (case kz28 => k_is)
    (case az26 => k_is)
    (case lz26 => k_is)
    (case cz26 => k_is)
    (case kz26 => k_is)
    (case az19 => k_is)
    (case lz19 => k_is)
    (case cz19 => k_is)
    (case kz19 => k_is)
    (case az30 => k_is)
    (case lz30 => k_is)
    (case cz30 => k_is)
    (case kz30 => k_is)
    (case az25 => k_is)
    (case lz25 => k_is)
    (case cz25 => k_is)
    (case kz25 => k_is)
    (case az34 => k_is)
    (case lz34 => k_is)
    (case cz34 => k_is)
    (case kz34 => k_is)
    (case az15 => k_is)
    (case lz15 => k_is)
    (case cz15 => k_is)
    (case kz15 => k_is)
    (case az31 => k_is)
    (case lz31 => k_is)
    (case cz31 => k_is)
    (case kz31 => k_is)
    (case az36 => k_is)
    (case lz36 => k_is)
    (case cz36 => k_is)
    (case kz36 => k_is)
    (case az21 => k_is)
    (case lz21 => k_is)
    (case cz21 => k_is)
    (case kz21 => k_is)
    (case az18 => k_is)
    (case lz18 => k_is)
    (case cz18 => k_is)
    (case kz18 => k_is)
    (case az23 => k_is)
    (case lz23 => k_is)
    (case cz23 => k_is)
    (case kz23 => k_is)
    (case az27 => k_is)
    (case lz27 => k_is)
    (case cz27 => k_is)
    (case kz27 => k_is)
    (case az24 => k_is)
    (case lz24 => k_is)
    (case cz24 => k_is)
    (case kz24 => k_is)
    (case az20 => k_is)
    (case lz20 => k_is)
    (case cz20 => k_is)
    (case kz20 => k_is)
    (case az16 => k_is)
    (case lz16 => k_is)
    (case cz16 => k_is)
    (case kz16 => k_is)
    (case az35 => k_is)
    (case lz35 => k_is)
    (case cz35 => k_is)
    (case kz35 => k_is)
    (case az32 => k_is)
    (case lz32 => k_is)
    (case cz32 => k_is)
    (case kz32 => k_is)
    (case az33 => k_is)
    (case lz33 => k_is)
    (case cz33 => k_is)
    (case kz33 => k_is)
    (case az22 => k_is)
    (case lz22 => k_is)
    (case cz22 => k_is)
    (case kz22 => k_is)
    (case az14 => k_is)
    (case lz14 => k_is)
    (case cz14 => k_is)
    (case kz14 => k_is)
    (case az2 => k_is)
    (case lz2 => k_is)
    (case cz2 => k_is)
    (case kz2 => k_is)
    (case az9 => k_is)
    (case lz9 => k_is)
    (case cz9 => k_is)
    (case kz9 => k_is)
    (case az4 => k_is)
    (case lz4 => k_is)
    (case cz4 => k_is)
    (case kz4 => k_is)
    (case az11 => k_is)
    (case lz11 => k_is)
    (case cz11 => k_is)
    (case kz11 => k_is)
    (case az8 => k_is)
    (case lz8 => k_is)
    (case cz8 => k_is)
    (case kz8 => k_is)
    (case az12 => k_is)
    (case lz12 => k_is)
    (case cz12 => k_is)
    (case kz12 => k_is)
    (case az7 => k_is)
    (case lz7 => k_is)
    (case cz7 => k_is)
    (case kz7 => k_is)
    (case az13 => k_is)
    (case lz13 => k_is)
    (case cz13 => k_is)
    (case kz13 => k_is)
    (case az3 => k_is)
    (case lz3 => k_is)
    (case cz3 => k_is)
    (case kz3 => k_is)
    (case az6 => k_is)
    (case lz6 => k_is)
    (case cz6 => k_is)
    (case kz6 => k_is)
    (case az10 => k_is)
    (case lz10 => k_is)
    (case cz10 => k_is)
    (case kz10 => k_is)
    (case az5 => k_is)
    (case lz5 => k_is)
    (case cz5 => k_is)
    (case kz5 => k_is)
    (case a_law => k_is)
    (case l_law => k_is)
    (case c_law => k_is)
    (case k_law => k_is)
    (case z_abs => k_is)
    (case z_bool => k_is)
    (case z_enumerate => k_is)
    (case z_int => k_is)
    (case z_isinstance => k_is)
    (case z_len => k_is)
    (case z_list => k_is)
    (case z_max => k_is)
    (case z_range => k_is)
    (case z_sorted => k_is)
    (case z_tuple => k_is)
end
