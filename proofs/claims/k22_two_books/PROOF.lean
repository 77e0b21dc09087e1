import PyProof.Rows.All
import Wide.All
import OpenK.AllK
import Wide.FinOn
import Lean
import PyProof.EqAt
import PyProof.EqKinds
import PyProof.TupleCall
import PyProof.NeKinds
import KE.KTryMore
import PyProof.EnumStmt
import PySem.Challenge.RW_gradecut_k22_two_books
section
set_option Elab.async false
set_option linter.all false
set_option maxRecDepth 100000
namespace L2
open PySem PySem.Spec PyProof.Rows
abbrev Key:=Sum Int Str
def keyIs:Key→Value→Bool
 | .inl k,v=>Value.isInt k v
 | .inr x,v=>Value.isStrOf x v
def keyH (w:World):Key→Int
 | .inl k=>hashInt k
 | .inr x=>hashStr w x
theorem zaas:∀{k:Key} {v:Value},keyIs k v=true→(∃i t,k=Sum.inl i∧v=Value.int i t)∨(∃x t,k=Sum.inr x∧v=Value.str x t)
 | .inl i,v,h=>by
  obtain⟨t,e⟩:=Value.isInt_shape (k:=i) (v:=v) h
  exact .inl ⟨i,t,rfl,e⟩
 | .inr x,v,h=>by
  obtain⟨t,e⟩:=Value.isStrOf_shape (x:=x) (v:=v) h
  exact .inr ⟨x,t,rfl,e⟩
theorem key_ll (a b:Int):decide ((Sum.inl a:Key)=Sum.inl b)=(a==b):=by
 by_cases e:a=b
 ·subst e;simp
 ·have h:¬(Sum.inl a:Key)=Sum.inl b:=fun q=>e (Sum.inl.inj q)
  rw[decide_eq_false h]
  exact(beq_eq_false_iff_ne.mpr e).symm
theorem key_rr (a b:Str):decide ((Sum.inr a:Key)=Sum.inr b)=decide (a=b):=by
 by_cases e:a=b
 ·subst e;simp
 ·have h:¬(Sum.inr a:Key)=Sum.inr b:=fun q=>e (Sum.inr.inj q)
  rw[decide_eq_false h,decide_eq_false e]
theorem key_lr (a:Int) (b:Str):decide ((Sum.inl a:Key)=Sum.inr b)=false:=decide_eq_false (fun q=>nomatch q)
theorem key_rl (a:Str) (b:Int):decide ((Sum.inr a:Key)=Sum.inl b)=false:=decide_eq_false (fun q=>nomatch q)
def zaes (prog:Program) (w:World):PySem.KeyKind prog w Key where
 is:=keyIs
 hash:=keyH w
 inj:=fun v a b ha hb=>by
  rcases zaas ha with⟨i,t,rfl,rfl⟩ | ⟨x,t,rfl,rfl⟩
  ·rcases zaas hb with⟨j,u,rfl,e⟩ | ⟨y,u,rfl,e⟩
   ·injection e with e1 _;rw[e1]
   ·exact nomatch e
  ·rcases zaas hb with⟨j,u,rfl,e⟩ | ⟨y,u,rfl,e⟩
   ·exact nomatch e
   ·injection e with e1 _;rw[e1]
 byValue:=fun k v h=>by
  rcases zaas h with⟨i,t,rfl,rfl⟩ | ⟨x,t,rfl,rfl⟩<;>rfl
 pyHash:=fun hv h=>by
  rcases zaas hv with⟨i,t,rfl,rfl⟩ | ⟨x,t,rfl,rfl⟩
  ·exact wpAny_pyHash_int h
  ·exact wpAny_pyHash_str h
 eqBool:=fun hu hv h=>by
  rcases zaas hu with⟨i,t,rfl,rfl⟩ | ⟨x,t,rfl,rfl⟩
  ·rcases zaas hv with⟨j,u,rfl,rfl⟩ | ⟨y,u,rfl,rfl⟩
   ·rw[key_ll] at h;exact wpAny_eqBool_int h
   ·rw[key_lr] at h;exact SeqAt.EqAt.int_str i t y u _ _ _ _ h
  ·rcases zaas hv with⟨j,u,rfl,rfl⟩ | ⟨y,u,rfl,rfl⟩
   ·rw[key_rl] at h;exact SeqAt.EqAt.str_int x t j u _ _ _ _ h
   ·rw[key_rr] at h;exact wpAny_eqBool_str h
 «strs»:=fun k x t v h=>by
  rcases zaas h with⟨i,u,rfl,e⟩ | ⟨y,u,rfl,e⟩
  ·exact nomatch e
  ·injection e with e1 _
   subst e1
   cases v<;>rfl
end L2
namespace L2
open PySem PySem.Spec PyProof.Rows
inductive V where
 | non | bl (b:Bool) | int (i:Int) | str (x:Str) | byt (b:Array UInt8) | flt (b:UInt64) | ref (a:Addr) | ty (n:String)
 deriving DecidableEq
def RelV:V→Value→Prop
 | .non,u=>u=Value.none
 | .bl b,u=>u=Value.bool b
 | .int i,u=>∃t,u=Value.int i t
 | .str x,u=>∃t,u=Value.str x t
 | .byt b,u=>∃t,u=Value.bytes b t
 | .flt b,u=>∃t,u=Value.float b t
 | .ref a,u=>u=Value.ref a
 | .ty n,u=>u=Value.type n
abbrev Vals:List V→List Value→Prop:=Paired RelV
theorem Vals.length {xs:List V} {us:List Value} (r:Vals xs us):xs.length=us.length:=Paired.length r
theorem Vals.get:∀{xs:List V} {us:List Value} {i:Nat} {x:V},Vals xs us→xs[i]?=some x→∃u,us[i]?=some u∧RelV x u
 | _,_,_,_,.nil,e=>by simp at e
 | _,_,0,_,.cons r _,e=>by simp at e;subst e;exact⟨_,rfl,r⟩
 | _,_,i+1,x,.cons _ t,e=>by
  obtain⟨u,h1,h2⟩:=Vals.get (i:=i) (x:=x) t (by simpa using e)
  exact⟨u,by simpa using h1,h2⟩
theorem Vals.set {x:V} {u:Value} (r:RelV x u):∀{xs:List V} {us:List Value} (i:Nat),Vals xs us→Vals (xs.set i x) (us.set i u)
 | _,_,_,.nil=>.nil
 | _,_,0,.cons _ t=>.cons r t
 | _,_,i+1,.cons q t=>.cons q (Vals.set r i t)
theorem Vals.append:∀{xs ys:List V} {us ws:List Value},Vals xs us→Vals ys ws→Vals (xs++ys) (us++ws)
 | _,_,_,_,.nil,s=>s
 | _,_,_,_,.cons r t,s=>.cons r (Vals.append t s)
theorem Vals.take:∀{xs:List V} {us:List Value} (n:Nat),Vals xs us→Vals (xs.take n) (us.take n)
 | _,_,0,_=>.nil
 | _,_,_+1,.nil=>.nil
 | _,_,n+1,.cons r t=>.cons r (Vals.take n t)
theorem Vals.drop:∀{xs:List V} {us:List Value} (n:Nat),Vals xs us→Vals (xs.drop n) (us.drop n)
 | _,_,0,r=>r
 | _,_,_+1,.nil=>.nil
 | _,_,n+1,.cons _ t=>Vals.drop n t
theorem Vals.none_of:∀{xs:List V} {us:List Value} {i:Nat},Vals xs us→xs[i]?=none→us[i]?=none:=fun {xs us i} r e=>by
 have h1:=r.length
 have h2:xs.length≤i:=List.getElem?_eq_none_iff.mp e
 exact List.getElem?_eq_none_iff.mpr (by omega)
def RelO:Option V→Option Value→Prop
 | some v,some u=>RelV v u
 | none,none=>True
 | _,_=>False
def KV {κ:Type}:List (κ×V)→List (κ×Value)→Prop:=Paired fun(p:κ×V) (q:κ×Value)=>p.1=q.1∧RelV p.2 q.2
def kV:Key→V
 | .inl i=>.int i
 | .inr x=>.str x
inductive HO where
 | lst (xs:List V)
 | tup (xs:List V)
 | dK (kvs:List (Key×V)) | dT (kvs:List (List Key×V))
 | set (S:Int→Bool) (n:Nat)
 | ins (C dx:Addr) (fs:List (Str×V))
 | own (x:Addr)
 | xd (fs:List (Str×V))
 | met (f x:Addr)
 | rng (lo hi:Int)
 | frz (o:Obj) (u:HO)
 | tbl (ps:Array Value)
 | ext (φ:Heap→Prop)
abbrev Hp:=Addr→Option HO
def upd (H:Hp) (a:Addr) (o:HO):Hp:=fun b=>if b=a then some o else H b
theorem zaaq {H:Hp} {a:Addr} {o:HO}:upd H a o a=some o:=by unfold upd;rw[if_pos rfl]
theorem upd_ne {H:Hp} {a b:Addr} {o:HO} (h:b≠a):upd H a o b=H b:=by unfold upd;rw[if_neg h]
theorem ne_of {H:Hp} {a b:Addr} {o u:HO} (h:H a=some o) (h':H b=some u) (d:o≠u):a≠b:=by
 intro e;subst e;rw[h] at h';exact d (Option.some.inj h')
theorem zaba {H:Hp} {a b:Addr} {o:HO} (h:H a=some o) (h':H b=none):a≠b:=by
 intro e;subst e;rw[h] at h';cases h'
section
variable (P:Program) (w:World)
def ObjOk (H:Hp) (h:Heap) (a:Addr):HO→Prop
 | .lst xs=>xs.length≤sizeLine∧∃(its:List Value) (n:Nat),Vals xs its∧h.get? a=some { cls:=.type "list",data:=.seq its.toArray n }
 | .tup xs=>xs.length≤sizeLine∧∃its:List Value,Vals xs its∧IsTup h a its.toArray
 | .dK kvs=>kvs.length≤sizeLine∧(a==sysModules)=false∧∃vs,KV kvs vs∧h.DictOf (zaes P w) a vs
 | .dT kvs=>kvs.length≤sizeLine∧(a==sysModules)=false∧∃xs:List (List Key×Addr×Value),
   Paired (fun(p:List Key×V) (q:List Key×Addr×Value)=>p.1=q.1∧H q.2.1=some (.tup (p.1.map kV))∧RelV p.2 q.2.2) kvs xs∧
   ∃o es ep,h.get? a=some o∧o.ExactDict∧o.data=.dict es ep∧es.toList=xs.map (entryOfKey (tupleKind (zaes P w)))∧(xs.map (·.1)).Nodup
 | .set S n=>h.SetOf (intKind P w) a S n
 | .ins C dx fs=>H dx=some (.own a)∧fs.length≤1000∧dx≠a∧h.get? a=some (PySem.W.instObj C dx)∧
   ∃mA,h.Ns1 dx mA∧(∀f,RelO (fs.lookup f) (mA f))∧PySem.Within mA (fs.map (·.1))
 | .own _=>∃o,h.get? a=some o
 | .xd fs=>∃mA,h.Ns1 a mA∧∀f,RelO (fs.lookup f) (mA f)
 | .rng lo hi=>∃t u v,h.get? a=some { cls:=.type "range",data:=.fields #[.int lo t,.int hi u,.int 1 v] }
 | .frz o u=>h.get? a=some o∧ObjOk H h a u
 | .tbl ps=>h.get? a=some { cls:=.none,data:=.fields ps }
 | .met f x=>h.get? a=some (PySem.W.methodObj (.ref f) (.ref x))
 | .ext φ=>φ h∧(∃o,h.get? a=some o)∧∀h1 h2:Heap,φ h1→(∀o,h1.get? a=some o→h2.get? a=some o)→φ h2
def HOk (H:Hp) (h:Heap):Prop:=∀a o,H a=some o→ObjOk P w H h a o
end
section
variable {P:Program} {w:World} {H H':Hp} {h h':Heap} {a:Addr} {o:HO}
theorem ObjOk.lt (x:ObjOk P w H h a o):a < h.objs.size:=by
 cases o with
 | lst xs=>obtain⟨_,_,_,_,e⟩:=x;exact Heap.lt_size e
 | tup xs=>obtain⟨_,_,_,p⟩:=x;exact p.lt
 | dK kvs=>obtain⟨_,_,_,_,o,_,_,e,_⟩:=x;exact Heap.lt_size e
 | dT kvs=>obtain⟨_,_,_,_,o,_,_,e,_⟩:=x;exact Heap.lt_size e
 | set S n=>obtain⟨o,_,_,_,e,_⟩:=x;exact Heap.lt_size e
 | ins C dx fs=>obtain⟨_,_,_,e,_⟩:=x;exact Heap.lt_size e
 | own y=>obtain⟨_,e⟩:=x;exact Heap.lt_size e
 | xd fs=>obtain⟨_,⟨_,_,_,e,_⟩,_⟩:=x;exact Heap.lt_size e
 | rng lo hi=>obtain⟨_,_,_,e⟩:=x;exact Heap.lt_size e
 | frz ob u=>obtain⟨e,_⟩:=x;exact Heap.lt_size e
 | tbl ps=>exact Heap.lt_size (show h.get? a=some _ from x)
 | met f y=>exact Heap.lt_size (show h.get? a=some _ from x)
 | ext φ=>obtain⟨_,⟨_,e⟩,_⟩:=x;exact Heap.lt_size e
theorem Paired.mapP {α β:Type} {F G:α→β→Prop}:∀{l₁:List α} {l₂:List β},Paired F l₁ l₂→(∀a b,F a b→G a b)→Paired G l₁ l₂
 | _,_,.nil,_=>.nil
 | _,_,.cons r t,f=>.cons (f _ _ r) (Paired.mapP t f)
theorem ObjOk.stay (x:ObjOk P w H h a o) (k:∀b u,(b=a∨H b=some (.own a))→h.get? b=some u→h'.get? b=some u)
  (ho:∀b,H b=some (.own a)→H' b=some (.own a)) (ht:∀b xs,H b=some (.tup xs)→H' b=some (.tup xs)):ObjOk P w H' h' a o:=by
 induction o with
 | lst xs=>obtain⟨z,its,n,r,e⟩:=x;exact⟨z,its,n,r,k _ _ (.inl rfl) e⟩
 | tup xs=>obtain⟨z,its,r,ob,e,c⟩:=x;exact⟨z,its,r,ob,k _ _ (.inl rfl) e,c⟩
 | dK kvs=>obtain⟨z,y,vs,r,ob,es,ep,e,c⟩:=x;exact⟨z,y,vs,r,ob,es,ep,k _ _ (.inl rfl) e,c⟩
 | dT kvs=>
  obtain⟨z,y,xs,r,ob,es,ep,e,c⟩:=x
  exact⟨z,y,xs,Paired.mapP r fun p q z=>⟨z.1,ht _ _ z.2.1,z.2.2⟩,ob,es,ep,k _ _ (.inl rfl) e,c⟩
 | set S n=>obtain⟨ob,es,ep,t,e,c⟩:=x;exact⟨ob,es,ep,t,k _ _ (.inl rfl) e,c⟩
 | ins C dx fs=>
  obtain⟨d,z,ne,e,mA,⟨od,es,ep,e2,c⟩,r⟩:=x
  exact⟨ho _ d,z,ne,k _ _ (.inl rfl) e,mA,⟨od,es,ep,k _ _ (.inr d) e2,c⟩,r⟩
 | own y=>obtain⟨ob,e⟩:=x;exact⟨ob,k _ _ (.inl rfl) e⟩
 | xd fs=>obtain⟨mA,⟨od,es,ep,e,c⟩,r⟩:=x;exact⟨mA,⟨od,es,ep,k _ _ (.inl rfl) e,c⟩,r⟩
 | rng lo hi=>obtain⟨t,u,v,e⟩:=x;exact⟨t,u,v,k _ _ (.inl rfl) e⟩
 | frz ob u ih=>obtain⟨e,q⟩:=x;exact⟨k _ _ (.inl rfl) e,ih q⟩
 | tbl ps=>
  have e:h.get? a=some { cls:=.none,data:=.fields ps }:=x
  show h'.get? a=some { cls:=.none,data:=.fields ps }
  exact k a _ (.inl rfl) e
 | met f y=>
  have e:h.get? a=some (PySem.W.methodObj (.ref f) (.ref y)):=x
  show h'.get? a=some (PySem.W.methodObj (.ref f) (.ref y))
  exact k a _ (.inl rfl) e
 | ext φ=>obtain⟨p,⟨o,e⟩,st⟩:=x;exact⟨st _ _ p fun o q=>k _ _ (.inl rfl) q,⟨o,k _ _ (.inl rfl) e⟩,st⟩
theorem HOk.lt (x:HOk P w H h) (e:H a=some o):a < h.objs.size:=(x a o e).lt
theorem HOk.fresh (x:HOk P w H h) (e:h.objs.size≤a):H a=none:=by
 cases q:H a with
 | none=>rfl
 | some u=>exact absurd (Nat.lt_of_lt_of_le (x.lt q) e) (Nat.lt_irrefl _)
theorem HOk.kept (x:HOk P w H h) (k:∀b u,h.get? b=some u→h'.get? b=some u):HOk P w H h':=fun a o e=>
 (x a o e).stay (fun b u _ q=>k b u q) (fun _ q=>q) fun _ _ q=>q
theorem HOk.laid (x:HOk P w H h) (k:∀b u,h.get? b=some u→h'.get? b=some u) (hp:h.objs.size≤a) (new:ObjOk P w (upd H a o) h' a o):HOk P w (upd H a o) h':=fun b u e=>by
 have hn:=x.fresh hp
 by_cases hb:b=a
 ·subst hb;rw[zaaq] at e;cases e;exact new
 ·rw[upd_ne hb] at e
  exact(x b u e).stay (fun c v _ q=>k c v q) (fun c q=>by rw[upd_ne (zaba q hn)];exact q) fun c xs q=>by rw[upd_ne (zaba q hn)];exact q
end
def Rd (H:Hp) (a:Addr) (u:HO):Prop:=H a=some u∨∃o,H a=some (.frz o u)
theorem Rd.of {H:Hp} {a:Addr} {u:HO} (h:H a=some u):Rd H a u:=.inl h
theorem Rd.ok {P:Program} {w:World} {H:Hp} {h:Heap} {a:Addr} {u:HO} (r:Rd H a u) (x:HOk P w H h):ObjOk P w H h a u:=by
 rcases r with r | ⟨o,r⟩
 ·exact x a u r
 ·obtain⟨_,q⟩:=x a _ r
  exact q
def Mut:Option HO→Prop
 | some (.lst _)=>True
 | some (.dK _)=>True
 | some (.dT _)=>True
 | some (.set _ _)=>True
 | some (.ins _ _ _)=>True
 | some (.ext _)=>True
 | _=>False
section
variable {P:Program} {w:World} {H:Hp} {h h':Heap} {x e:Addr} {o':HO}
theorem HOk.write (ok:HOk P w H h) (mu:Mut (H x)) (he:e=x∨H e=some (.own x)) (k:∀b u,b≠e→h.get? b=some u→h'.get? b=some u) (heo:∃u,h'.get? e=some u)
  (new:ObjOk P w (upd H x o') h' x o'):HOk P w (upd H x o') h':=fun b u q=>by
 have nown:∀c y,H c=some (.own y)→c≠x:=fun c y r z=>by subst z;rw[r] at mu;exact mu
 have ntup:∀c xs,H c=some (.tup xs)→c≠x:=fun c xs r z=>by subst z;rw[r] at mu;exact mu
 by_cases hb:b=x
 ·subst hb;rw[zaaq] at q;cases q;exact new
 ·rw[upd_ne hb] at q
  by_cases hbe:b=e
  ·have q':H b=some (.own x):=by
    rcases he with z | z
    ·exact absurd (hbe.trans z) hb
    ·rw[hbe];exact z
   rw[q] at q';cases q'
   obtain⟨v,hv⟩:=heo
   exact⟨v,by rw[hbe];exact hv⟩
  ·refine(ok b u q).stay (fun c v hc r=>k c v ?_ r) (fun c r=>by rw[upd_ne (nown c b r)];exact r) fun c xs r=>by rw[upd_ne (ntup c xs r)];exact r
   rcases hc with rfl | hc
   ·exact hbe
   ·rintro rfl
    rcases he with z | z
    ·exact nown c b hc z
    ·rw[hc] at z;cases z;exact hb rfl
end
structure Un (fs ex:List Addr) (H H':Hp) (h h':Heap):Prop where
 keep:∀b o,h.get? b=some o→H b=none→b∉fs→b∉ex→h'.get? b=some o
 slot:∀b o,h.get? b=some o→H b=none→b∈fs→b∉ex→∃sl,h'.get? b=some { o with slots:=sl }
 free:∀b o,h.get? b=some o→H b=none→b∉ex→H' b=none
 there:∀b o,h.get? b=some o→b∉ex→∃o',h'.get? b=some o'
 tups:∀b xs,H b=some (.tup xs)→H' b=some (.tup xs)
 frzs:∀b o u,H b=some (.frz o u)→H' b=some (.frz o u)
 tbls:∀b ps,H b=some (.tbl ps)→∃more,H' b=some (.tbl (ps++more))
section
variable {fs fs' ex ex':List Addr} {H H1 H2:Hp} {h h1 h2 h':Heap} {a x e:Addr} {o:HO}
theorem Un.any (u:Un fs ex H H1 h h1) {b:Addr} {ob:Obj} (q:h.get? b=some ob) (n:H b=none) (hx:b∉ex):∃sl,h1.get? b=some { ob with slots:=sl }:=by
 by_cases hb:b∈fs
 ·exact u.slot b ob q n hb hx
 ·exact⟨ob.slots,u.keep b ob q n hb hx⟩
theorem Un.trans (a:Un fs ex H H1 h h1) (b:Un fs ex H1 H2 h1 h2):Un fs ex H H2 h h2 where
 keep:=fun c ob q n hc hx=>b.keep c ob (a.keep c ob q n hc hx) (a.free c ob q n hx) hc hx
 slot:=fun c ob q n hc hx=>by
  obtain⟨sl,e1⟩:=a.slot c ob q n hc hx
  obtain⟨sl',e2⟩:=b.slot c _ e1 (a.free c ob q n hx) hc hx
  exact⟨sl',e2⟩
 free:=fun c ob q n hx=>by
  obtain⟨o',e1⟩:=a.there c ob q hx
  exact b.free c o' e1 (a.free c ob q n hx) hx
 there:=fun c ob q hx=>by
  obtain⟨o',e1⟩:=a.there c ob q hx
  exact b.there c o' e1 hx
 tups:=fun c xs q=>b.tups c xs (a.tups c xs q)
 frzs:=fun c ob xs q=>b.frzs c ob xs (a.frzs c ob xs q)
 tbls:=fun c ps q=>by
  obtain⟨m1,e1⟩:=a.tbls c ps q
  obtain⟨m2,e2⟩:=b.tbls c _ e1
  exact⟨m1++m2,by rw[e2,Array.append_assoc]⟩
theorem Un.kept (k:∀b u,h.get? b=some u→h'.get? b=some u):Un fs ex H H h h':=
 ⟨fun b ob q _ _ _=>k b ob q,fun b ob q _ _ _=>⟨ob.slots,k b ob q⟩,fun _ _ _ n _=>n,fun b ob q _=>⟨ob,k b ob q⟩,fun _ _ q=>q,fun _ _ _ q=>q,fun _ ps q=>⟨#[],by rw[q];simp⟩⟩
theorem Un.refl:Un fs ex H H h h:=Un.kept fun _ _ q=>q
theorem Un.laid (k:∀b u,h.get? b=some u→h'.get? b=some u) (hp:h.objs.size≤a) (hn:H a=none):Un fs ex H (upd H a o) h h' where
 keep:=fun b u q _ _ _=>k b u q
 slot:=fun b u q _ _ _=>⟨u.slots,k b u q⟩
 free:=fun b u q n _=>by rw[upd_ne (Nat.ne_of_lt (Nat.lt_of_lt_of_le (Heap.lt_size q) hp))];exact n
 there:=fun b u q _=>⟨u,k b u q⟩
 tups:=fun b xs q=>by rw[upd_ne (zaba q hn)];exact q
 frzs:=fun b u xs q=>by rw[upd_ne (zaba q hn)];exact q
 tbls:=fun b ps q=>⟨#[],by rw[upd_ne (zaba q hn),q];simp⟩
theorem Un.write (mu:Mut (H x)) (he:e=x∨H e=some (.own x)) (k:∀b u,b≠e→h.get? b=some u→h'.get? b=some u) (heo:∃u,h'.get? e=some u):Un fs ex H (upd H x o) h h':=by
 have hx:∀b,H b=none→b≠x:=fun b n z=>by subst z;rw[n] at mu;exact mu
 have hb:∀b,H b=none→b≠e:=fun b n z=>by
  subst z
  rcases he with r | r
  ·exact hx b n r
  ·rw[n] at r;cases r
 have hm:∀b u,H b=some u→¬Mut (some u)→b≠x:=fun b u q nm z=>by subst z;rw[q] at mu;exact nm mu
 refine⟨fun b u q n _ _=>k b u (hb b n) q,fun b u q n _ _=>⟨u.slots,k b u (hb b n) q⟩,fun b u q n _=>by rw[upd_ne (hx b n)];exact n,fun b u q _=>?_,
  fun b xs q=>by rw[upd_ne (hm b _ q fun z=>z)];exact q,fun b u xs q=>by rw[upd_ne (hm b _ q fun z=>z)];exact q,fun b ps q=>⟨#[],by rw[upd_ne (hm b _ q fun z=>z),q];simp⟩⟩
 by_cases hbe:b=e
 ·subst hbe;exact heo
 ·exact⟨u,k b u hbe q⟩
theorem Un.mono (u:Un fs ex H H1 h h1) (hs:∀b∈fs,b∈fs') (hx:∀b∈ex,b∈ex'):Un fs' ex' H H1 h h1:=
 ⟨fun b ob q n hb he=>u.keep b ob q n (fun z=>hb (hs b z)) fun z=>he (hx b z),fun _ _ q n _ he=>u.any q n fun z=>he (hx _ z),fun b ob q n he=>u.free b ob q n fun z=>he (hx b z),fun b ob q he=>u.there b ob q fun z=>he (hx b z),u.tups,u.frzs,u.tbls⟩
end
def trk (h:Heap) (H:Hp):List Addr:=(List.range h.objs.size).filter fun a=>(H a).isSome
def hidT (h:Heap) (H:Hp):Heap:=PySem.W.hideAll h (trk h H)
theorem hidT_size (h:Heap) (H:Hp):(hidT h H).objs.size=h.objs.size:=PySem.W.hideAll_size _ _
theorem hidT_get {h:Heap} {H:Hp} {b:Addr} {o:Obj} (e:h.get? b=some o) (n:H b=none):(hidT h H).get? b=some o:=
 PySem.W.hideAll_get _ e fun hm=>by
  have q:(H b).isSome=true:=(List.mem_filter.mp hm).2
  rw[n] at q;simp at q
theorem of_hidT {h:Heap} {H:Hp} {b:Addr} {o:Obj} (e:(hidT h H).get? b=some o):h.get? b=some o∧H b=none:=by
 have e':h.get? b=some o:=PySem.W.of_hideAll (trk h H) e
 refine⟨e',?_⟩
 cases q:H b with
 | none=>rfl
 | some x=>
  have hm:b∈trk h H:=List.mem_filter.mpr ⟨List.mem_range.mpr (Heap.lt_size e'),by simp[q]⟩
  have z:(hidT h H).get? b=none:=PySem.W.hideAll_none (trk h H) hm
  rw[z] at e;cases e
def allNews (g h:Heap) (L:Addr):List (Addr×Obj):=(List.range h.objs.size).filterMap fun a=>if a=L∨(g.get? a).isSome=true then none else(h.get? a).map fun o=>(a,o)
def rest (g h:Heap) (L d:Addr):List (Addr×Obj):=(allNews g h L).filter fun p=>decide (p.1≠d)
end L2
namespace L2
open PySem PySem.Spec PyProof.Rows
structure Mod (K:PySem.W.Frag) (mg:Str→Option Value) (base:Heap):Prop where
 kin:K.In base
 glob:base.Ns mainGlobals mg
 blt:∃mb,base.Ns builtinsNs mb∧∀x:Str,x≠"__name__"→mb x=bootBuiltins x
 nolimit:base.NoLimit
structure Cx where
 prog:Program
 w:World
 K:PySem.W.Frag
 mg:Str→Option Value
 base:Heap
 A:Around
 N:List Str
 s₀:Shared
 H₀:Hp
 env:Env
 outer:List Env
 stack:List Env
 ex:List Addr
 fn:Str→Bool
 calm:Bool
 pn:List (Addr×Obj)
 xe:Value→Shared→Prop
def frs (l:List Env):List Addr:=l.filterMap (·.frame)
abbrev Cx.fs (X:Cx):List Addr:=frs X.outer
def Vis (sc:Scope) (x:Str):Prop:=sc.names.lookup x=some .local∨sc.names.lookup x=some .cell∨sc.names.lookup x=some .free
def Loc (sc:Scope) (x:Str):Prop:=sc.names.lookup x=some .local∨sc.names.lookup x=some .cell
def Look (env:Env) (h:Heap) (m:Str→Option Value) (x:Str) (u:Value):Prop:=
 (env.kindOf x=some .local∧m x=some u)∨((env.kindOf x=some .cell∨env.kindOf x=some .free)∧∃c,env.cells.lookup x=some c∧h.IsCell c (some u))
structure Cx.Ok (X:Cx):Prop where
 mod:Mod X.K X.mg X.base
 kind:X.env.scope.kind=.function
 glob:X.env.globals=mainGlobals
 blt:X.env.builtins=builtinsNs
 above:X.s₀.heap.objs.size≤X.env.locals
 inj:∀x y c,X.env.cells.lookup x=some c→X.env.cells.lookup y=some c→x=y
 has:∀x,(X.env.kindOf x=some .cell∨X.env.kindOf x=some .free)→∃c,X.env.cells.lookup x=some c
 cab:∀x c,X.fn x=true→X.env.cells.lookup x=some c→X.s₀.heap.objs.size≤c
 hd:X.calm=true→X.A.handled=none
 frames:X.A.frames=some X.stack
 stk:X.stack=X.outer∨(X.stack=X.env::X.outer∧X.env.frame=some X.env.locals)
 exf:∀b∈X.ex,b≠X.env.locals∧∀x c,X.env.cells.lookup x=some c→c≠b
 bs:∀b o,X.base.get? b=some o→X.s₀.heap.get? b=some o∧X.H₀ b=none
 bsz:X.base.objs.size≤X.s₀.heap.objs.size
 noex:∀b o,X.base.get? b=some o→b∉X.ex
 exfs:∀b∈X.ex,b∉X.fs
 funs:X.s₀.heap.FunFrames X.base X.outer
 frf:∀b∈X.fs,X.H₀ b=none
structure Inv (X:Cx) (pins:List (Addr×Obj)) (σ:List (Option V)) (H:Hp) (s:Shared):Prop where
 ok:X.Ok
 os:s.os=X.s₀.os
 bare:AllBare s.gens
 base:Un X.fs X.ex X.H₀ H X.s₀.heap s.heap
 loc:∃m,s.heap.Ns X.env.locals m∧∀(i:Nat) (x:Str) (v:V),X.N[i]?=some x→σ[i]?=some (some v)→Vis X.env.scope x→∃u,RelV v u∧Look X.env s.heap m x u
 cell:∀x c,X.env.cells.lookup x=some c→∃v,s.heap.IsCell c v
 free:H X.env.locals=none
 freeC:∀x c,X.env.cells.lookup x=some c→H c=none
 pin:∀p∈X.pn++pins,s.heap.get? p.1=some p.2∧H p.1=none∧p.1≠X.env.locals∧p.1∉X.fs∧∀v,p.2.data≠.cell v
 hok:HOk X.prog X.w H s.heap
 len:σ.length=X.N.length
section
variable {X:Cx} {pins:List (Addr×Obj)} {σ:List (Option V)} {H H':Hp} {s:Shared} {h':Heap}
theorem Cx.Ok.nofr (ok:X.Ok) {b:Addr} {o:Obj} (e:X.base.get? b=some o):b∉X.fs:=fun hb=>by
 have:=(ok.funs.mem hb).1
 rw[e] at this;cases this
theorem Inv.bs (I:Inv X pins σ H s):∀b o,X.base.get? b=some o→s.heap.get? b=some o∧H b=none:=fun b o e=>
 ⟨I.base.keep b o (I.ok.bs b o e).1 (I.ok.bs b o e).2 (I.ok.nofr e) (I.ok.noex b o e),I.base.free b o (I.ok.bs b o e).1 (I.ok.bs b o e).2 (I.ok.noex b o e)⟩
theorem Inv.bk (I:Inv X pins σ H s):∀b o,X.base.get? b=some o→s.heap.get? b=some o:=fun b o e=>(I.bs b o e).1
theorem Inv.mod (I:Inv X pins σ H s):Mod X.K X.mg X.base:=I.ok.mod
theorem Inv.kIn (I:Inv X pins σ H s):X.K.In s.heap:=I.ok.mod.kin.keeps I.bk
theorem Inv.nolimit (I:Inv X pins σ H s):s.heap.NoLimit:=I.ok.mod.nolimit.keeps I.bk
theorem Inv.fr (I:Inv X pins σ H s):∃m,Fr X.base X.env.locals s.heap m:=
 let ⟨m,hn,_⟩:=I.loc
 ⟨m,hn,I.bk,Nat.le_trans I.ok.bsz I.ok.above⟩
theorem Inv.lt (I:Inv X pins σ H s):X.env.locals < s.heap.objs.size:=let ⟨_,hn,_⟩:=I.loc;hn.lt
theorem Inv.sz (I:Inv X pins σ H s):X.s₀.heap.objs.size≤s.heap.objs.size:=Nat.le_trans I.ok.above (Nat.le_of_lt I.lt)
theorem Inv.nofs (I:Inv X pins σ H s) {a:Addr} (h:s.heap.objs.size≤a):a∉X.fs:=fun hb=>by
 obtain⟨_,o,ho,_⟩:=I.ok.funs.mem hb
 exact absurd (Nat.lt_of_lt_of_le (Heap.lt_size ho) (Nat.le_trans I.sz h)) (Nat.lt_irrefl _)
theorem Inv.cne (I:Inv X pins σ H s):∀x c,X.env.cells.lookup x=some c→c≠X.env.locals:=fun x c e z=>by
 obtain⟨v,o,ho,hd⟩:=I.cell x c e
 obtain⟨m,⟨o',es,ep,ho',hd',_⟩,_⟩:=I.loc
 rw[z,ho'] at ho;cases ho;rw[hd'] at hd;cases hd
theorem Inv.funs (I:Inv X pins σ H s):s.heap.FunFrames X.base X.outer:=by
 have all:∀(l:List Env),(∀b∈frs l,b∈X.fs)→X.s₀.heap.FunFrames X.base l→s.heap.FunFrames X.base l:=by
  intro l
  induction l with
  | nil=>intro _ _;trivial
  | cons env r ih=>
   intro hs hl
   obtain⟨hk,⟨L,o,hf,hn,ho,hd⟩,hr⟩:=hl
   have hL:L∈X.fs:=hs L (by unfold frs;rw[List.filterMap_cons,hf];exact List.mem_cons_self)
   obtain⟨sl,e⟩:=I.base.slot L o ho (I.ok.frf L hL) hL fun z=>I.ok.exfs L z hL
   exact⟨hk,⟨L,_,hf,hn,e,hd⟩,ih (fun b hb=>hs b (by unfold frs;rw[List.filterMap_cons,hf];exact List.mem_cons_of_mem _ hb)) hr⟩
 exact all X.outer (fun _ hb=>hb) I.ok.funs
theorem Inv.stack (I:Inv X pins σ H s):s.heap.FunFrames X.base X.stack:=by
 rcases I.ok.stk with e | ⟨e,hf⟩
 ·rw[e];exact I.funs
 ·rw[e]
  obtain⟨m,hn,_⟩:=I.loc
  refine .cons (by rw[I.ok.kind];decide) hf hn ?_ I.funs
  exact Heap.get?_none_of_le (Nat.le_trans I.ok.bsz I.ok.above)
theorem Inv.stkSub (I:Inv X pins σ H s):∀b∈frs X.stack,b∈X.env.locals::X.fs:=fun b hb=>by
 rcases I.ok.stk with e | ⟨e,hf⟩
 ·rw[e] at hb;exact List.mem_cons_of_mem _ hb
 ·rw[e] at hb
  unfold frs at hb
  rw[List.filterMap_cons,hf] at hb
  exact hb
theorem Inv.stkFree (I:Inv X pins σ H s):∀b∈frs X.stack,H b=none:=fun b hb=>by
 rcases List.mem_cons.mp (I.stkSub b hb) with e | hb
 ·rw[e];exact I.free
 ·obtain⟨_,o,ho,_⟩:=I.ok.funs.mem hb
  exact I.base.free b o ho (I.ok.frf b hb) fun z=>I.ok.exfs b z hb
theorem Inv.step {g':Array GenState} {t':Nat} {d':Drawn} {ch:List Addr} (I:Inv X pins σ H s)
  (hch:∀b∈ch,(b∈X.ex∨X.s₀.heap.objs.size≤b)∧b≠X.env.locals∧(∀x c,X.env.cells.lookup x=some c→c≠b)∧∀p∈X.pn++pins,p.1≠b)
  (keep:∀b o,b≠X.env.locals→b∉X.fs→b∉ch→s.heap.get? b=some o→H b=none→h'.get? b=some o)
  (slot:∀b o,b≠X.env.locals→b∈X.fs→b∉ch→s.heap.get? b=some o→H b=none→∃sl,h'.get? b=some { o with slots:=sl }) (free:∀b o,b∉ch→s.heap.get? b=some o→H b=none→H' b=none)
  (there:∀b o,b∉ch→s.heap.get? b=some o→∃o',h'.get? b=some o')
  (tups:∀b xs,H b=some (.tup xs)→H' b=some (.tup xs)) (frzs:∀b o u,H b=some (.frz o u)→H' b=some (.frz o u)) (tbls:∀b ps,H b=some (.tbl ps)→∃more,H' b=some (.tbl (ps++more)))
  (ns:∀m,s.heap.Ns X.env.locals m→h'.Ns X.env.locals m) (hok:HOk X.prog X.w H' h') (hg:AllBare g'):
  Inv X pins σ H' { s with heap:=h',gens:=g',drawn:=d',toks:=t' }:=by
 have neL:∀b o,X.s₀.heap.get? b=some o→b≠X.env.locals:=fun b o e=>Nat.ne_of_lt (Nat.lt_of_lt_of_le (Heap.lt_size e) I.ok.above)
 have neC:∀b o,X.s₀.heap.get? b=some o→b∉X.ex→b∉ch:=fun b o e hx hb=>by
  rcases(hch b hb).1 with z | z
  ·exact hx z
  ·exact absurd (Nat.lt_of_lt_of_le (Heap.lt_size e) z) (Nat.lt_irrefl _)
 have cellK:∀x c,X.env.cells.lookup x=some c→∀v,s.heap.IsCell c v→h'.IsCell c v:=fun x c e v ⟨o,ho,hd⟩=>by
  have nch:c∉ch:=fun z=>(hch c z).2.2.1 x c e rfl
  by_cases hc:c∈X.fs
  ·obtain⟨sl,q⟩:=slot c o (I.cne x c e) hc nch ho (I.freeC x c e)
   exact⟨_,q,hd⟩
  ·exact⟨o,keep c o (I.cne x c e) hc nch ho (I.freeC x c e),hd⟩
 refine⟨I.ok,I.os,hg,⟨fun b o e n hb hx=>?_,fun b o e n hb hx=>?_,fun b o e n hx=>?_,fun b o e hx=>?_,fun b xs e=>tups b xs (I.base.tups b xs e),fun b o xs e=>frzs b o xs (I.base.frzs b o xs e),fun b ps e=>?_⟩,?_,fun x c e=>?_,?_,fun x c e=>?_,fun p hp=>?_,hok,I.len⟩
 ·exact keep b o (neL b o e) hb (neC b o e hx) (I.base.keep b o e n hb hx) (I.base.free b o e n hx)
 ·obtain⟨sl,e1⟩:=I.base.slot b o e n hb hx
  obtain⟨sl',e2⟩:=slot b _ (neL b o e) hb (neC b o e hx) e1 (I.base.free b o e n hx)
  exact⟨sl',e2⟩
 ·obtain⟨o',e1⟩:=I.base.there b o e hx
  exact free b o' (neC b o e hx) e1 (I.base.free b o e n hx)
 ·obtain⟨o',e1⟩:=I.base.there b o e hx
  exact there b o' (neC b o e hx) e1
 ·obtain⟨m1,e1⟩:=I.base.tbls b ps e
  obtain⟨m2,e2⟩:=tbls b _ e1
  exact⟨m1++m2,by rw[e2,Array.append_assoc]⟩
 ·obtain⟨m,hn,hl⟩:=I.loc
  refine⟨m,ns m hn,fun i x v e1 e2 e3=>?_⟩
  obtain⟨u,r,l⟩:=hl i x v e1 e2 e3
  refine⟨u,r,?_⟩
  rcases l with l | ⟨k,c,e,z⟩
  ·exact .inl l
  ·exact .inr ⟨k,c,e,cellK x c e _ z⟩
 ·obtain⟨v,z⟩:=I.cell x c e
  exact⟨v,cellK x c e v z⟩
 ·obtain⟨m,⟨o,_,_,ho,_⟩,_⟩:=I.loc
  exact free _ o (fun z=>(hch _ z).2.1 rfl) ho I.free
 ·obtain⟨v,o,ho,hd⟩:=I.cell x c e
  exact free c o (fun z=>(hch c z).2.2.1 x c e rfl) ho (I.freeC x c e)
 ·obtain⟨e,n,ne,nf,d⟩:=I.pin p hp
  have nch:p.1∉ch:=fun z=>(hch p.1 z).2.2.2 p hp rfl
  exact⟨keep p.1 p.2 ne nf nch e n,free p.1 p.2 nch e n,ne,nf,d⟩
theorem Inv.un {t':Nat} (I:Inv X pins σ H s) (u:Un X.fs [] H H' s.heap h') (hok:HOk X.prog X.w H' h'):Inv X pins σ H' { s with heap:=h',toks:=t' }:=by
 obtain⟨m,⟨o,es,ep,ho,r⟩,_⟩:=id I.loc
 obtain⟨sl,hL⟩:=u.any ho I.free (by simp)
 exact I.step (g':=s.gens) (d':=s.drawn) (ch:=[]) (fun _ z=>nomatch z) (fun b o _ hb _ e n=>u.keep b o e n hb (by simp)) (fun b o _ hb _ e n=>u.slot b o e n hb (by simp)) (fun b o _ e n=>u.free b o e n (by simp)) (fun b o _ e=>u.there b o e (by simp)) u.tups u.frzs u.tbls (fun m' hm=>by
  obtain⟨o',es',ep',ho',r'⟩:=hm
  rw[ho] at ho';cases ho'
  exact⟨_,es',ep',hL,r'⟩) hok I.bare
theorem Inv.call {g':Array GenState} {t':Nat} {d':Drawn} {ch:List Addr} (I:Inv X pins σ H s) (u:Un (frs X.stack) ch H H' s.heap h') (hok:HOk X.prog X.w H' h') (hg:AllBare g')
  (hch:∀b∈ch,(b∈X.ex∨X.s₀.heap.objs.size≤b)∧b≠X.env.locals∧(∀x c,X.env.cells.lookup x=some c→c≠b)∧∀p∈X.pn++pins,p.1≠b):
  Inv X pins σ H' { s with heap:=h',gens:=g',drawn:=d',toks:=t' }:=by
 obtain⟨m,⟨o,es,ep,ho,r⟩,_⟩:=id I.loc
 obtain⟨sl,hL⟩:=u.any ho I.free fun z=>(hch _ z).2.1 rfl
 exact I.step (ch:=ch) hch (fun b o hL hb hc e n=>u.keep b o e n (fun z=>(List.mem_cons.mp (I.stkSub b z)).elim hL hb) hc) (fun b o _ _ hc e n=>u.any e n hc) (fun b o hc e n=>u.free b o e n hc) (fun b o hc e=>u.there b o e hc) u.tups u.frzs u.tbls (fun m' hm=>by
  obtain⟨o',es',ep',ho',r'⟩:=hm
  rw[ho] at ho';cases ho'
  exact⟨_,es',ep',hL,r'⟩) hok hg
theorem Inv.turned {t':Nat} {it:Addr} (I:Inv X pins σ H s) (k:∀b o,b≠it→s.heap.get? b=some o→h'.get? b=some o) (hn:H it=none) (hL:it≠X.env.locals)
  (h1:it∈X.ex∨X.s₀.heap.objs.size≤it) (h2:∀x c,X.env.cells.lookup x=some c→c≠it) (h3:∀p∈X.pn++pins,p.1≠it):Inv X pins σ H { s with heap:=h',toks:=t' }:=by
 have nit:∀b u,H b=some u→b≠it:=fun b u e z=>by rw[z,hn] at e;cases e
 refine I.step (g':=s.gens) (d':=s.drawn) (ch:=[it]) (fun b hb=>?_) (fun b o _ _ hc e _=>k b o (fun z=>hc (by simp[z])) e) (fun b o _ _ hc e _=>⟨o.slots,k b o (fun z=>hc (by simp[z])) e⟩) (fun _ _ _ _ n=>n)
  (fun b o hc e=>⟨o,k b o (fun z=>hc (by simp[z])) e⟩) (fun _ _ e=>e) (fun _ _ _ e=>e) (fun b ps e=>⟨#[],by rw[e];simp⟩) (fun m hm=>?_) (fun b u e=>?_) I.bare
 ·have e:b=it:=by simpa using hb
  subst e
  exact⟨h1,hL,h2,h3⟩
 ·obtain⟨o,es,ep,ho,r⟩:=hm
  exact⟨o,es,ep,k _ o (Ne.symm hL) ho,r⟩
 ·refine(I.hok b u e).stay (fun c v hc q=>k c v ?_ q) (fun _ q=>q) fun _ _ q=>q
  rcases hc with z | z
  ·rw[z];exact nit b u e
  ·exact nit c _ z
theorem Inv.tok (I:Inv X pins σ H s) (t:Nat):Inv X pins σ H { s with toks:=t }:=I.un (h':=s.heap) (t':=t) Un.refl I.hok
theorem Inv.kept {t':Nat} (I:Inv X pins σ H s) (k:∀b u,s.heap.get? b=some u→h'.get? b=some u):Inv X pins σ H { s with heap:=h',toks:=t' }:=I.un (Un.kept k) (I.hok.kept k)
theorem Inv.laid {a:Addr} {o:HO} {t':Nat} (I:Inv X pins σ H s) (k:∀b u,s.heap.get? b=some u→h'.get? b=some u) (hp:s.heap.objs.size≤a) (new:ObjOk X.prog X.w (upd H a o) h' a o):
  Inv X pins σ (upd H a o) { s with heap:=h',toks:=t' }:=I.un (Un.laid k hp (I.hok.fresh hp)) (I.hok.laid k hp new)
theorem Inv.write {x e:Addr} {o:HO} {t':Nat} (I:Inv X pins σ H s) (mu:Mut (H x)) (he:e=x∨H e=some (.own x)) (k:∀b u,b≠e→s.heap.get? b=some u→h'.get? b=some u) (heo:∃u,h'.get? e=some u)
  (new:ObjOk X.prog X.w (upd H x o) h' x o):Inv X pins σ (upd H x o) { s with heap:=h',toks:=t' }:=I.un (Un.write mu he k heo) (I.hok.write mu he k heo new)
theorem Inv.weak {σ':List (Option V)} (I:Inv X pins σ H s) (hl:σ'.length=σ.length) (w:∀(i:Nat) v,σ'[i]?=some (some v)→σ[i]?=some (some v)):Inv X pins σ' H s:=
 ⟨I.ok,I.os,I.bare,I.base,let ⟨m,hn,hl'⟩:=I.loc;⟨m,hn,fun i x v e1 e2 e3=>hl' i x v e1 (w i v e2) e3⟩,I.cell,I.free,I.freeC,I.pin,I.hok,hl.trans I.len⟩
theorem Inv.pins_of {pins':List (Addr×Obj)} (I:Inv X pins σ H s) (h:∀p∈pins',s.heap.get? p.1=some p.2∧H p.1=none∧p.1≠X.env.locals∧p.1∉X.fs∧∀v,p.2.data≠.cell v):Inv X pins' σ H s:=
 ⟨I.ok,I.os,I.bare,I.base,I.loc,I.cell,I.free,I.freeC,fun p hp=>(List.mem_append.mp hp).elim (fun z=>I.pin p (List.mem_append_left _ z)) (h p),I.hok,I.len⟩
theorem zacy {N:List Str} (hN:N.Nodup) {i j:Nat} {x:Str} (a:N[i]?=some x) (b:N[j]?=some x):i=j:=by
 obtain⟨h1,e1⟩:=List.getElem?_eq_some_iff.mp a
 obtain⟨h2,e2⟩:=List.getElem?_eq_some_iff.mp b
 exact(List.getElem_inj hN).mp (e1.trans e2.symm)
theorem store_ok2 {M:Model} {A:Around} {E:Value→Shared→Prop} {i:Nat} {x:Str} {v:V} {u:Value} {Q:Unit→Shared→Prop} (I:Inv X pins σ H s) (hN:X.N.Nodup) (hi:X.N[i]?=some x) (hx:Loc X.env.scope x) (r:RelV v u)
  (h:∀s',Inv X pins (σ.set i (some v)) H s'→(∃a,Heap.SameBut a s.heap s'.heap∧(a=X.env.locals∨X.env.cells.lookup x=some a))→Q () s') (hf:X.fn x=true∨X.env.scope.names.lookup x=some .local:=by first | exact .inl rfl | exact .inr rfl | assumption):wpAny M A (storeName X.env x u) Q E s:=by
 obtain⟨m,hn,hl⟩:=id I.loc
 have hcls:(X.env.scope.kind==.class||(X.env.scope.kind==.module&&X.env.locals != X.env.globals))=false:=by rw[I.ok.kind];rfl
 have hiσ:i < σ.length:=by rw[I.len];exact(List.getElem?_eq_some_iff.mp hi).1
 have cne:=I.cne
 have tracked:∀{a:Addr} {h':Heap},(∃o,s.heap.get? a=some o∧H a=none)→Heap.SameBut a s.heap h'→HOk X.prog X.w H h':=fun {a h'} ha hs b ob e=>by
  obtain⟨_,_,hfree⟩:=ha
  refine(I.hok b ob e).stay (fun c w' hc q=>(hs.2 c ?_).trans q) (fun _ q=>q) fun _ _ q=>q
  rintro rfl
  rcases hc with rfl | hc
  ·rw[hfree] at e;cases e
  ·rw[hfree] at hc;cases hc
 rcases hx with hk | hk
 ·refine wpAny_storeName_local hk hn (fun h' hn' hs=>?_) hcls
  obtain⟨oL,_,_,hoL,_⟩:=id hn
  refine h _ ⟨I.ok,I.os,I.bare,⟨fun b o e n hb hx=>?_,fun b o e n hb hx=>?_,I.base.free,fun b o e hx=>?_,I.base.tups,I.base.frzs,I.base.tbls⟩,⟨_,hn',fun j y v' e1 e2 e3=>?_⟩,fun y c e=>?_,I.free,I.freeC,fun p hp=>?_,tracked ⟨oL,hoL,I.free⟩ hs,by simpa using I.len⟩ ⟨_,hs,.inl rfl⟩
  ·exact(hs.2 b (Nat.ne_of_lt (Nat.lt_of_lt_of_le (Heap.lt_size e) I.ok.above))).trans (I.base.keep b o e n hb hx)
  ·obtain⟨sl,e1⟩:=I.base.slot b o e n hb hx
   exact⟨sl,(hs.2 b (Nat.ne_of_lt (Nat.lt_of_lt_of_le (Heap.lt_size e) I.ok.above))).trans e1⟩
  ·obtain⟨o',e1⟩:=I.base.there b o e hx
   exact⟨o',(hs.2 b (Nat.ne_of_lt (Nat.lt_of_lt_of_le (Heap.lt_size e) I.ok.above))).trans e1⟩
  ·by_cases hj:j=i
   ·subst hj
    rw[hi] at e1;cases e1
    rw[List.getElem?_set_self hiσ] at e2
    cases e2
    exact⟨u,r,.inl ⟨hk,by simp⟩⟩
   ·rw[List.getElem?_set_ne (Ne.symm hj)] at e2
    obtain⟨u',r',q⟩:=hl j y v' e1 e2 e3
    refine⟨u',r',?_⟩
    rcases q with⟨k,e⟩ | ⟨k,c,e,z⟩
    ·refine .inl ⟨k,?_⟩
     have:y≠x:=fun e=>hj (zacy hN e1 (e▸hi))
     simp[this,e]
    ·exact .inr ⟨k,c,e,z.sameBut hs (cne y c e)⟩
  ·obtain⟨w',z⟩:=I.cell y c e
   exact⟨w',z.sameBut hs (cne y c e)⟩
  ·obtain⟨e,n,ne,nf,d⟩:=I.pin p hp
   exact⟨(hs.2 p.1 ne).trans e,n,ne,nf,d⟩
 ·have hfn:X.fn x=true:=by
   rcases hf with z | z
   ·exact z
   ·rw[z] at hk;cases hk
  obtain⟨c,hc⟩:=I.ok.has x (.inl hk)
  obtain⟨w',z⟩:=I.cell x c hc
  refine wpAny_storeName_cell I.ok.kind hk hc z (fun h' hc' hs=>?_)
  obtain⟨oc,hoc,hocd⟩:=id z
  refine h { s with heap:=h' } ⟨I.ok,I.os,I.bare,⟨fun b o e n hb hx=>?_,fun b o e n hb hx=>?_,I.base.free,fun b o e hx=>?_,I.base.tups,I.base.frzs,I.base.tbls⟩,⟨m,hn.sameBut hs (Ne.symm (cne x c hc)),fun j y v' e1 e2 e3=>?_⟩,fun y c' e=>?_,I.free,I.freeC,fun p hp=>?_,tracked ⟨oc,hoc,I.freeC x c hc⟩ hs,by simpa using I.len⟩ ⟨c,hs,.inr hc⟩
  ·exact(hs.2 b (Nat.ne_of_lt (Nat.lt_of_lt_of_le (Heap.lt_size e) (I.ok.cab x c hfn hc)))).trans (I.base.keep b o e n hb hx)
  ·obtain⟨sl,e1⟩:=I.base.slot b o e n hb hx
   exact⟨sl,(hs.2 b (Nat.ne_of_lt (Nat.lt_of_lt_of_le (Heap.lt_size e) (I.ok.cab x c hfn hc)))).trans e1⟩
  ·obtain⟨o',e1⟩:=I.base.there b o e hx
   exact⟨o',(hs.2 b (Nat.ne_of_lt (Nat.lt_of_lt_of_le (Heap.lt_size e) (I.ok.cab x c hfn hc)))).trans e1⟩
  ·by_cases hj:j=i
   ·subst hj
    rw[hi] at e1;cases e1
    rw[List.getElem?_set_self hiσ] at e2
    cases e2
    exact⟨u,r,.inr ⟨.inl hk,c,hc,hc'⟩⟩
   ·rw[List.getElem?_set_ne (Ne.symm hj)] at e2
    obtain⟨u',r',q⟩:=hl j y v' e1 e2 e3
    refine⟨u',r',?_⟩
    rcases q with q | ⟨k,c',e,z'⟩
    ·exact .inl q
    ·refine .inr ⟨k,c',e,z'.sameBut hs ?_⟩
     rintro rfl
     exact hj (zacy hN e1 (I.ok.inj _ _ _ e hc▸hi))
  ·by_cases hcc:c'=c
   ·subst hcc;exact⟨_,hc'⟩
   ·obtain⟨w2,z2⟩:=I.cell y c' e
    exact⟨w2,z2.sameBut hs hcc⟩
  ·obtain⟨e,n,ne,nf,d⟩:=I.pin p hp
   refine⟨(hs.2 p.1 ?_).trans e,n,ne,nf,d⟩
   intro q
   rw[q,hoc] at e
   have q':oc=p.2:=Option.some.inj e
   exact d w' (by rw[← q'];exact hocd)
theorem zacs {M:Model} {A:Around} {E:Value→Shared→Prop} {i:Nat} {x:Str} {v:V} {u:Value} {Q:Unit→Shared→Prop} (I:Inv X pins σ H s) (hN:X.N.Nodup) (hi:X.N[i]?=some x) (hx:Loc X.env.scope x) (r:RelV v u)
  (h:∀s',Inv X pins (σ.set i (some v)) H s'→Q () s') (hf:X.fn x=true∨X.env.scope.names.lookup x=some .local:=by first | exact .inl rfl | exact .inr rfl | assumption):wpAny M A (storeName X.env x u) Q E s:=
 store_ok2 I hN hi hx r (fun s' I' _=>h s' I') hf
theorem Inv.call' {s':Shared} {ch:List Addr} (I:Inv X pins σ H s) (ho:s'.os=s.os) (u:Un (frs X.stack) ch H H' s.heap s'.heap) (hok:HOk X.prog X.w H' s'.heap) (hg:AllBare s'.gens)
  (hch:∀b∈ch,(b∈X.ex∨X.s₀.heap.objs.size≤b)∧b≠X.env.locals∧(∀x c,X.env.cells.lookup x=some c→c≠b)∧∀p∈X.pn++pins,p.1≠b):Inv X pins σ H' s':=by
 obtain⟨h',g',d',t',o'⟩:=s'
 have e:o'=s.os:=ho
 subst e
 exact I.call (g':=g') (t':=t') (d':=d') u hok hg hch
end
abbrev XK:=Value→Option Addr→Hp→Prop
abbrev St:=List (Option V)
abbrev VK:=V→Hp→Prop
abbrev TE:=St→Hp→VK→Prop
abbrev TT:=St→Hp→(Bool→Hp→Prop)→Prop
abbrev TA:=St→Hp→(List V→Hp→Prop)→Prop
structure Ends where
 nx:St→Hp→Prop
 rt:VK
 bk:St→Hp→Prop:=fun _ _=>False
 ct:St→Hp→Prop:=fun _ _=>False
abbrev TS:=Ends→St→Hp→Prop
def EP (X:Cx) (pins:List (Addr×Obj)) (σ:St) (Q:VK) (u:Value) (s':Shared):Prop:=∃v H',Inv X pins σ H' s'∧RelV v u∧Q v H'
def TP (X:Cx) (pins:List (Addr×Obj)) (σ:St) (Q:Bool→Hp→Prop) (b:Bool) (s':Shared):Prop:=∃H',Inv X pins σ H' s'∧Q b H'
def AP (X:Cx) (pins:List (Addr×Obj)) (σ:St) (Q:List V→Hp→Prop) (us:List Value) (s':Shared):Prop:=∃vs H',Inv X pins σ H' s'∧Vals vs us∧Q vs H'
def SP (X:Cx) (pins:List (Addr×Obj)) (D:Ends) (f:Flow) (s':Shared):Prop:=
 match f with
 | .next=>∃σ' H',Inv X pins σ' H' s'∧D.nx σ' H'
 | .brk=>∃σ' H',Inv X pins σ' H' s'∧D.bk σ' H'
 | .cont=>∃σ' H',Inv X pins σ' H' s'∧D.ct σ' H'
 | .ret u=>∃v σ' H',Inv X pins σ' H' s'∧RelV v u∧D.rt v H'
def PE (X:Cx) (e:Expr) (t:TE):Prop:=
 ∀(pins:List (Addr×Obj)) (s:Shared) (σ:St) (H:Hp) (Q:VK),Inv X pins σ H s→t σ H Q→wpAny (model X.prog X.w) X.A (eval e X.env) (EP X pins σ Q) X.xe s
def PT (X:Cx) (e:Expr) (t:TT):Prop:=
 ∀(pins:List (Addr×Obj)) (s:Shared) (σ:St) (H:Hp) (Q:Bool→Hp→Prop),Inv X pins σ H s→t σ H Q→wpAny (model X.prog X.w) X.A (isTrue e X.env (eval e X.env)) (TP X pins σ Q) X.xe s
def PW (X:Cx) (e:Expr) (t:TT):Prop:=
 ∀(whole:Sem Value) (pins:List (Addr×Obj)) (s:Shared) (σ:St) (H:Hp) (Q:Bool→Hp→Prop),Inv X pins σ H s→t σ H Q→wpAny (model X.prog X.w) X.A (isTrue e X.env whole) (TP X pins σ Q) X.xe s
theorem PW.pt {X:Cx} {e:Expr} {t:TT} (h:PW X e t):PT X e t:=h _
def PA (X:Cx) (es:List Expr) (t:TA):Prop:=
 ∀(pos:Pos) (pins:List (Addr×Obj)) (s:Shared) (σ:St) (H:Hp) (Q:List V→Hp→Prop),Inv X pins σ H s→t σ H Q→wpAny (model X.prog X.w) X.A (spliced (backTo pos (starEach es X.env))) (AP X pins σ Q) X.xe s
def PS (X:Cx) (st:Stmt) (t:TS):Prop:=
 ∀(pins:List (Addr×Obj)) (s:Shared) (σ:St) (H:Hp) (D:Ends),Inv X pins σ H s→t D σ H→wpAny (model X.prog X.w) X.A (exec st X.env) (SP X pins D) X.xe s
def PSs (X:Cx) (st:List Stmt) (t:TS):Prop:=
 ∀(pins:List (Addr×Obj)) (s:Shared) (σ:St) (H:Hp) (D:Ends),Inv X pins σ H s→t D σ H→wpAny (model X.prog X.w) X.A (execs st X.env) (SP X pins D) X.xe s
theorem thn {α:Type} {t:Sem α} {Q Q':α→Shared→Prop} {M:Model} {A:Around} {E:Value→Shared→Prop} {s:Shared} (h:wpAny M A t Q E s) (hQ:∀a s,Q a s→Q' a s):wpAny M A t Q' E s:=wpAny_mono h hQ fun _ _ x=>x
end L2
namespace L2
open PySem PySem.Spec PyProof.Rows
section
variable {X:Cx}
theorem bin {a b:Expr} {ta tb:TE} (ha:PE X a ta) (hb:PE X b tb) {pins:List (Addr×Obj)} {s:Shared} {σ:St} {H:Hp} {R:V→V→Hp→Prop} (I:Inv X pins σ H s) (h:ta σ H fun x H1=>tb σ H1 fun y H2=>R x y H2)
  {α:Type} {Q:α→Shared→Prop} {f:Value→Value→Sem α}
  (hf:∀v u s2 x y H2,Inv X pins σ H2 s2→RelV x v→RelV y u→R x y H2→wpAny (model X.prog X.w) X.A (f v u) Q X.xe s2):
  wpAny (model X.prog X.w) X.A (eval a X.env) (fun v s₁=>wpAny (model X.prog X.w) X.A (eval b X.env) (fun u s₂=>wpAny (model X.prog X.w) X.A (f v u) Q X.xe s₂) X.xe s₁) X.xe s:=by
 refine thn (ha pins s σ H _ I h) fun v s1 ⟨x,H1,I1,r1,q1⟩=>?_
 refine thn (hb pins s1 σ H1 _ I1 q1) fun u s2 ⟨y,H2,I2,r2,q2⟩=>?_
 exact hf v u s2 x y H2 I2 r1 r2 q2
def tVar (i:Nat):TE:=fun σ H Q=>∃v,σ[i]?=some (some v)∧Q v H
def tC (v:V):TE:=fun _ H Q=>Q v H
theorem pe_var {i:Nat} {x:Str} {pos:Pos} (hN:X.N[i]?=some x) (hv:Vis X.env.scope x) (hd:(x==("__debug__":Str))=false:=by decide) (hcd:(x==("__classdict__":Str))=false:=by decide):PE X (.Name x pos) (tVar i):=by
 intro pins s σ H Q I h
 obtain⟨v,e,h⟩:=h
 obtain⟨m,hn,hl⟩:=I.loc
 obtain⟨u,r,l⟩:=hl i x v hN e hv
 have fin:EP X pins σ Q u s:=⟨v,H,I,r,h⟩
 rcases l with⟨hk,hm⟩ | ⟨hk,c,hc,hcell⟩
 ·exact wpAny_Name (wpAny_loadName_local I.ok.kind hk hn hm fin) hd
 ·rcases hk with hk | hk
  ·exact wpAny_Name (wpAny_loadName_cell I.ok.kind hk hc hcell fin) hd
  ·exact wpAny_Name (wpAny_loadName_free I.ok.kind hk hc hcell fin hcd) hd
theorem pe_int {i j pos}:PE X (.Constant (.int i) j pos) (tC (.int i)):=fun _ _ _ H _ I h=>wpAny_Constant_int ⟨.int i,H,I.tok _,⟨_,rfl⟩,h⟩
theorem pe_bl {b j pos}:PE X (.Constant (.bool b) j pos) (tC (.bl b)):=fun _ _ _ H _ I h=>Constant_bool ⟨.bl b,H,I,rfl,h⟩
theorem pe_non {j pos}:PE X (.Constant .none j pos) (tC .non):=fun _ _ _ H _ I h=>Constant_none ⟨.non,H,I,rfl,h⟩
theorem pe_str {x j pos}:PE X (.Constant (.str x) j pos) (tC (.str x)):=fun _ _ _ H _ I h=>Calls.Constant_str ⟨.str x,H,I.tok _,⟨_,rfl⟩,h⟩
def Gl (X:Cx) (x:Str):Prop:=X.env.kindOf x=some .globalImplicit
theorem zadk {E:Value→Shared→Prop} {pins:List (Addr×Obj)} {s:Shared} {σ:St} {H:Hp} {x:Str} {u:Value} {pos:Pos} {Q:Value→Shared→Prop} (I:Inv X pins σ H s) (hg:Gl X x) (hm:X.mg x=some u) (h:Q u s)
  (hd:(x==("__debug__":Str))=false:=by decide):wpAny (model X.prog X.w) X.A (eval (.Name x pos) X.env) Q E s:=
 Calls.Name_function_global I.ok.kind hg (Calls.loadGlobal_global (by rw[I.ok.glob];exact I.mod.glob.keeps I.bk) hm h) hd
theorem ld_blt {E:Value→Shared→Prop} {pins:List (Addr×Obj)} {s:Shared} {σ:St} {H:Hp} {x:Str} {u:Value} {pos:Pos} {Q:Value→Shared→Prop} (I:Inv X pins σ H s) (hg:Gl X x) (hm:X.mg x=none) (hv:bootBuiltins x=some u) (h:Q u s)
  (hn:x≠"__name__":=by decide) (hd:(x==("__debug__":Str))=false:=by decide):wpAny (model X.prog X.w) X.A (eval (.Name x pos) X.env) Q E s:=by
 obtain⟨mb,h1,h2⟩:=I.mod.blt
 exact Calls.Name_function_global I.ok.kind hg (Calls.loadGlobal_builtin (by rw[I.ok.glob];exact I.mod.glob.keeps I.bk) hm (by rw[I.ok.blt];exact h1.keeps I.bk) ((h2 x hn).trans hv) h) hd
theorem pe_glob {x:Str} {v:V} {u:Value} {pos:Pos} (hg:Gl X x) (hm:X.mg x=some u) (r:RelV v u) (hd:(x==("__debug__":Str))=false:=by decide):PE X (.Name x pos) (tC v):=
 fun _ _ _ H _ I h=>zadk I hg hm ⟨v,H,I,r,h⟩ hd
theorem pe_bltn {x:Str} {v:V} {u:Value} {pos:Pos} (hg:Gl X x) (hm:X.mg x=none) (hv:bootBuiltins x=some u) (r:RelV v u) (hn:x≠"__name__":=by decide) (hd:(x==("__debug__":Str))=false:=by decide):PE X (.Name x pos) (tC v):=
 fun _ _ _ H _ I h=>ld_blt I hg hm hv ⟨v,H,I,r,h⟩ hn hd
variable {a b:Expr} {ta tb:TE} {pos:Pos}
variable {tA tB':TT} {rest:List Expr}
def tAnd (t u:TT):TT:=fun σ H Q=>t σ H fun c H1=>if c=true then u σ H1 Q else Q false H1
def tOr (t u:TT):TT:=fun σ H Q=>t σ H fun c H1=>if c=true then Q true H1 else u σ H1 Q
def tNot (t:TT):TT:=fun σ H Q=>t σ H fun c H1=>Q (!c) H1
theorem pw_and1 (ha:PT X a tA):PW X (.BoolOp .And [a] pos) tA:=by
 intro wh pins s σ H Q I h
 refine isTrue_and (thn (ha pins s σ H Q I h) fun c s1 e=>?_)
 cases c with
 | true=>exact isTrue_and_nil e
 | false=>exact e
theorem pw_or1 (ha:PT X a tA):PW X (.BoolOp .Or [a] pos) tA:=by
 intro wh pins s σ H Q I h
 refine isTrue_or (thn (ha pins s σ H Q I h) fun c s1 e=>?_)
 cases c with
 | false=>exact isTrue_or_nil e
 | true=>exact e
theorem pw_and (ha:PT X a tA) (hb:PW X (.BoolOp .And (b::rest) pos) tB'):PW X (.BoolOp .And (a::b::rest) pos) (tAnd tA tB'):=by
 intro wh pins s σ H Q I h
 refine isTrue_and (thn (ha pins s σ H _ I h) fun c s1 ⟨H1,I1,q1⟩=>?_)
 cases c with
 | true=>exact hb wh pins s1 σ H1 Q I1 q1
 | false=>exact⟨H1,I1,q1⟩
theorem pw_or (ha:PT X a tA) (hb:PW X (.BoolOp .Or (b::rest) pos) tB'):PW X (.BoolOp .Or (a::b::rest) pos) (tOr tA tB'):=by
 intro wh pins s σ H Q I h
 refine isTrue_or (thn (ha pins s σ H _ I h) fun c s1 ⟨H1,I1,q1⟩=>?_)
 cases c with
 | true=>exact⟨H1,I1,q1⟩
 | false=>exact hb wh pins s1 σ H1 Q I1 q1
theorem pt_not (ha:PT X a tA):PT X (.UnaryOp .Not a pos) (tNot tA):=by
 intro pins s σ H Q I h
 exact isTrue_not (ha pins s σ H (fun c H1=>Q (!c) H1) I h)
def tAndV (ta tb:TE):TE:=fun σ H Q=>ta σ H fun x H1=>∃c,x=.bl c∧if c=true then tb σ H1 Q else Q (.bl false) H1
theorem pe_one {op} {t:TE} (h:PE X a t):PE X (.BoolOp op [a] pos) t:=fun pins s σ H Q I hw=>BoolOp_one (h pins s σ H Q I hw)
theorem pe_and (ha:PE X a ta) (hb:PE X (.BoolOp .And (b::rest) pos) tb):PE X (.BoolOp .And (a::b::rest) pos) (tAndV ta tb):=by
 intro pins s σ H Q I h
 refine BoolOp_and (thn (ha pins s σ H _ I h) fun v s1 ⟨x,H1,I1,r1,q1⟩=>?_)
 obtain⟨c,rfl,q1⟩:=q1
 cases r1
 refine wpAny_truthy_bool ?_
 cases c with
 | true=>exact hb pins s1 σ H1 Q I1 q1
 | false=>exact⟨.bl false,H1,I1,rfl,q1⟩
def tIf (t:TT) (ta tb:TE):TE:=fun σ H Q=>t σ H fun c H1=>if c=true then ta σ H1 Q else tb σ H1 Q
theorem pe_ifExp {c:Expr} (hc:PT X c tA) (ha:PE X a ta) (hb:PE X b tb):PE X (.IfExp c a b pos) (tIf tA ta tb):=by
 intro pins s σ H Q I h
 refine wpAny_IfExp (thn (hc pins s σ H _ I h) fun d s1 ⟨H1,I1,q1⟩=>?_)
 cases d with
 | true=>exact ha pins s1 σ H1 Q I1 q1
 | false=>exact hb pins s1 σ H1 Q I1 q1
end
end L2
namespace L2
open PySem PySem.Spec PyProof.Rows
def SqL (K:PySem.W.Frag) (H:Hp) (a:Addr) (xs:List V):Prop:=
 Rd H a (.lst xs)∨
  ∃(o:Obj) (its:Array Value) (n:Nat),K.lookup a=some o∧o.cls=.type "list"∧o.dict=none∧o.data=.seq its n∧its.size≤sizeLine∧Vals xs its.toList
def SqT (K:PySem.W.Frag) (H:Hp) (a:Addr) (xs:List V):Prop:=
 Rd H a (.tup xs)∨
  ∃(o:Obj) (its:Array Value) (n:Nat),K.lookup a=some o∧o.cls=.type "tuple"∧o.data=.seq its n∧its.size≤sizeLine∧Vals xs its.toList
def absV:Value→Option V
 | .none=>some .non
 | .bool b=>some (.bl b)
 | .int i _=>some (.int i)
 | .str x _=>some (.str x)
 | .bytes b _=>some (.byt b)
 | .float b _=>some (.flt b)
 | .ref a=>some (.ref a)
 | .type n=>some (.ty n)
 | _=>none
theorem RelV.abs {x:V} {u:Value} (r:RelV x u):absV u=some x:=by
 cases x with
 | non=>cases r;rfl
 | bl _=>cases r;rfl
 | int _=>obtain⟨t,rfl⟩:=r;rfl
 | str _=>obtain⟨t,rfl⟩:=r;rfl
 | byt _=>obtain⟨t,rfl⟩:=r;rfl
 | flt _=>obtain⟨t,rfl⟩:=r;rfl
 | ref _=>cases r;rfl
 | ty _=>cases r;rfl
theorem RelV.inj {x y:V} {u:Value} (r:RelV x u) (q:RelV y u):x=y:=Option.some.inj (r.abs.symm.trans q.abs)
theorem Vals.inj:∀{xs ys:List V} {us:List Value},Vals xs us→Vals ys us→xs=ys
 | _,_,_,.nil,.nil=>rfl
 | _,_,_,.cons r t,.cons r' t'=>by rw[r.inj r',Vals.inj t t']
section
variable {X:Cx} {pins:List (Addr×Obj)} {σ:St} {H:Hp} {s:Shared} {a:Addr} {xs ys:List V}
theorem SqL.of {K:PySem.W.Frag} (h:H a=some (.lst xs)):SqL K H a xs:=.inl (.inl h)
theorem SqT.of {K:PySem.W.Frag} (h:H a=some (.tup xs)):SqT K H a xs:=.inl (.inl h)
theorem Inv.list (I:Inv X pins σ H s) (h:SqL X.K H a xs):∃its:List Value,Vals xs its∧PlainL s.heap a its.toArray∧xs.length≤sizeLine:=by
 rcases h with h | ⟨o,its,n,hk,hc,hd,hs,hz,r⟩
 ·obtain⟨z,its,n,r,e⟩:=h.ok I.hok
  exact⟨its,r,⟨_,n,e,rfl,rfl,rfl⟩,z⟩
 ·refine⟨its.toList,r,⟨o,n,I.kIn a o hk,hc,hd,by simpa using hs⟩,?_⟩
  have e:=r.length
  simp only[Array.length_toList] at e
  omega
theorem Inv.tuple (I:Inv X pins σ H s) (h:SqT X.K H a xs):∃its:List Value,Vals xs its∧IsTup s.heap a its.toArray∧xs.length≤sizeLine:=by
 rcases h with h | ⟨o,its,n,hk,hc,hs,hz,r⟩
 ·obtain⟨z,its,r,p⟩:=h.ok I.hok
  exact⟨its,r,p,z⟩
 ·refine⟨its.toList,r,⟨o,I.kIn a o hk,hc,n,by simpa using hs⟩,?_⟩
  have e:=r.length
  simp only[Array.length_toList] at e
  omega
theorem Inv.list_inj (I:Inv X pins σ H s) (h:SqL X.K H a xs) (h':SqL X.K H a ys):xs=ys:=by
 obtain⟨its,r,⟨o,n,e,_,_,d⟩,_⟩:=I.list h
 obtain⟨its',r',⟨o',n',e',_,_,d'⟩,_⟩:=I.list h'
 rw[e] at e';cases e'
 rw[d] at d'
 injection d' with d1 _
 have:its=its':=by simpa using congrArg Array.toList d1
 subst this
 exact r.inj r'
theorem Inv.tuple_inj (I:Inv X pins σ H s) (h:SqT X.K H a xs) (h':SqT X.K H a ys):xs=ys:=by
 obtain⟨its,r,⟨o,e,_,n,d⟩,_⟩:=I.tuple h
 obtain⟨its',r',⟨o',e',_,n',d'⟩,_⟩:=I.tuple h'
 rw[e] at e';cases e'
 rw[d] at d'
 injection d' with d1 _
 have:its=its':=by simpa using congrArg Array.toList d1
 subst this
 exact r.inj r'
end
abbrev Cx.wish (X:Cx) (E:Value→Shared→Prop):Cx:={ X with xe:=E }
abbrev Cx.nox (X:Cx):Cx:=X.wish fun _ _=>False
theorem Cx.Ok.wish {X:Cx} (ok:X.Ok) (E:Value→Shared→Prop):(X.wish E).Ok:=
 ⟨ok.mod,ok.kind,ok.glob,ok.blt,ok.above,ok.inj,ok.has,ok.cab,ok.hd,ok.frames,ok.stk,ok.exf,ok.bs,ok.bsz,ok.noex,ok.exfs,ok.funs,ok.frf⟩
theorem Cx.Ok.unwish {X:Cx} {E:Value→Shared→Prop} (ok:(X.wish E).Ok):X.Ok:=
 ⟨ok.mod,ok.kind,ok.glob,ok.blt,ok.above,ok.inj,ok.has,ok.cab,ok.hd,ok.frames,ok.stk,ok.exf,ok.bs,ok.bsz,ok.noex,ok.exfs,ok.funs,ok.frf⟩
section
variable {X:Cx} {pins:List (Addr×Obj)} {σ:St} {H:Hp} {s:Shared} {E:Value→Shared→Prop}
theorem Inv.wish (I:Inv X pins σ H s) (E:Value→Shared→Prop):Inv (X.wish E) pins σ H s:=⟨I.ok.wish E,I.os,I.bare,I.base,I.loc,I.cell,I.free,I.freeC,I.pin,I.hok,I.len⟩
theorem Inv.unwish (I:Inv (X.wish E) pins σ H s):Inv X pins σ H s:=⟨I.ok.unwish,I.os,I.bare,I.base,I.loc,I.cell,I.free,I.freeC,I.pin,I.hok,I.len⟩
theorem SP.unwish {D:Ends} {f:Flow} {s':Shared} (h:SP (X.wish E) pins D f s'):SP X pins D f s':=by
 cases f with
 | next=>obtain⟨σ',H',I,q⟩:=h;exact⟨σ',H',I.unwish,q⟩
 | brk=>obtain⟨σ',H',I,q⟩:=h;exact⟨σ',H',I.unwish,q⟩
 | cont=>obtain⟨σ',H',I,q⟩:=h;exact⟨σ',H',I.unwish,q⟩
 | ret u=>obtain⟨v,σ',H',I,r,q⟩:=h;exact⟨v,σ',H',I.unwish,r,q⟩
theorem PE.nox {e:Expr} {t:TE} (h:PE X.nox e t):PE X e t:=fun pins s σ H Q I hw=>
 wpAny_mono (h pins s σ H Q (I.wish _) hw) (fun _ _ ⟨v,H',I',r,q⟩=>⟨v,H',I'.unwish,r,q⟩) fun _ _ z=>False.elim z
theorem PT.nox {e:Expr} {t:TT} (h:PT X.nox e t):PT X e t:=fun pins s σ H Q I hw=>
 wpAny_mono (h pins s σ H Q (I.wish _) hw) (fun _ _ ⟨H',I',q⟩=>⟨H',I'.unwish,q⟩) fun _ _ z=>False.elim z
theorem PSs.nox {st:List Stmt} {t:TS} (h:PSs X.nox st t):PSs X st t:=fun pins s σ H D I hw=>
 wpAny_mono (h pins s σ H D (I.wish _) hw) (fun _ _ q=>q.unwish) fun _ _ z=>False.elim z
end
section
variable {X:Cx} {st:Stmt} {rest:List Stmt} {t u:TS} {e:Expr} {te:TE} {pos:Pos}
def tNext:TS:=fun D σ H=>D.nx σ H
def tSeq (t u:TS):TS:=fun D σ H=>t { D with nx:=u D } σ H
theorem pss_nil:PSs X [] tNext:=fun _ _ σ H _ I h=>wpAny_execs_nil ⟨σ,H,I,h⟩
theorem pss_cons (h1:PS X st t) (h2:PSs X rest u):PSs X (st::rest) (tSeq t u):=by
 intro pins s σ H D I h
 refine wpAny_execs_cons (thn (h1 pins s σ H { D with nx:=u D } I h) fun f s1 q=>?_)
 cases f with
 | next=>
  obtain⟨σ',H',I',q⟩:=q
  exact h2 pins s1 σ' H' D I' q
 | ret v=>exact q
 | brk=>exact q
 | cont=>exact q
theorem Inv.quiet {pins:List (Addr×Obj)} {σ:St} {H:Hp} {s:Shared} (I:Inv X pins σ H s):interactive X.env=false:=by simp[interactive,I.ok.kind]
def tDrop (te:TE):TS:=fun D σ H=>te σ H fun _ H1=>D.nx σ H1
theorem zafc (he:PE X e te) (hs:swapsWith e none pos.line X.env=pure false:=by rfl):PS X (.Expr e pos) (tDrop te):=by
 intro pins s σ H D I h
 exact wpAny_Expr_any (thn (he pins s σ H _ I h) fun v s1 ⟨x,H1,I1,r1,q1⟩=>⟨σ,H1,I1,q1⟩) I.quiet hs
def tRet (te:TE):TS:=fun D σ H=>te σ H D.rt
theorem ps_ret (he:PE X e te):PS X (.Return (some e) pos) (tRet te):=by
 intro pins s σ H D I h
 exact wpAny_Return_some (thn (he pins s σ H _ I h) fun v s1 ⟨x,H1,I1,r1,q1⟩=>⟨x,σ,H1,I1,r1,q1⟩)
def tIfS (c:TT) (t u:TS):TS:=fun D σ H=>c σ H fun b H1=>if b=true then t D σ H1 else u D σ H1
theorem ps_if {c:Expr} {a b:List Stmt} {tc:TT} (hc:PT X c tc) (ha:PSs X a t) (hb:PSs X b u):PS X (.If c a b pos) (tIfS tc t u):=by
 intro pins s σ H D I h
 refine wpAny_If (thn (hc pins s σ H _ I h) fun d s1 ⟨H1,I1,q1⟩=>?_)
 cases d with
 | true=>exact ha pins s1 σ H1 D I1 q1
 | false=>exact hb pins s1 σ H1 D I1 q1
end
abbrev TG:=V→St→Hp→(St→Hp→Prop)→Prop
abbrev TGs:=List V→St→Hp→(St→Hp→Prop)→Prop
def PG (X:Cx) (target:Expr) (t:TG):Prop:=
 ∀(pins:List (Addr×Obj)) (s:Shared) (σ:St) (H:Hp) (v:V) (u:Value) (Q:St→Hp→Prop),Inv X pins σ H s→RelV v u→t v σ H Q→
  wpAny (model X.prog X.w) X.A (assign target X.env u) (fun _ s'=>∃σ' H',Inv X pins σ' H' s'∧Q σ' H') X.xe s
def PGs (X:Cx) (ts:List Expr) (t:TGs):Prop:=
 ∀(pins:List (Addr×Obj)) (s:Shared) (σ:St) (H:Hp) (vs:List V) (us:List Value) (Q:St→Hp→Prop),Inv X pins σ H s→Vals vs us→t vs σ H Q→
  wpAny (model X.prog X.w) X.A (assignInOrder ((assignEach ts X.env).map (·.2)) us) (fun _ s'=>∃σ' H',Inv X pins σ' H' s'∧Q σ' H') X.xe s
abbrev TSet:=V→V→V→Hp→(Hp→Prop)→Prop
def PSet (X:Cx) (t:TSet):Prop:=
 ∀(pins:List (Addr×Obj)) (s:Shared) (σ:St) (H:Hp) (o i v:V) (ov iv u:Value) (Q:Hp→Prop),Inv X pins σ H s→RelV o ov→RelV i iv→RelV v u→t o i v H Q→
  wpAny (model X.prog X.w) X.A (setItem ov iv u) (fun _ s'=>∃H',Inv X pins σ H' s'∧Q H') X.xe s
section
variable {X:Cx} {pos:Pos}
def gName (i:Nat):TG:=fun v σ H Q=>Q (σ.set i (some v)) H
theorem pg_name {i:Nat} {x:Str} (hN:X.N.Nodup) (hi:X.N[i]?=some x) (hx:Loc X.env.scope x) (hf:X.fn x=true∨X.env.scope.names.lookup x=some .local:=by first | exact .inl rfl | exact .inr rfl | assumption):PG X (.Name x pos) (gName i):=by
 intro pins s σ H v u Q I r h
 exact wpAny_assign_Name (zacs I hN hi hx r (fun s' I'=>⟨_,H,I',h⟩) hf)
def gSub (to ti:TE) (t:TSet):TG:=fun v σ H Q=>to σ H fun o H1=>ti σ H1 fun i H2=>t o i v H2 fun H3=>Q σ H3
theorem pg_sub {o i:Expr} {to ti:TE} {t:TSet} (ho:PE X o to) (hi:PE X i ti) (hs:PSet X t)
  (ha:∀v,assign (.Subscript o i pos) X.env v=(do
   let ov ← holding [v] (eval o X.env)
   let iv ← holding [v,ov] (eval i X.env)
   standAt pos
   holding [v,ov,iv] (setItem ov iv v)
   release [v,ov,iv] []):=by intro _;rfl):PG X (.Subscript o i pos) (gSub to ti t):=by
 intro pins s σ H v u Q I r h
 rw[ha]
 refine wpAny_bind (wpAny_holding (thn (ho pins s σ H _ I h) fun ov s1 ⟨x,H1,I1,r1,q1⟩=>?_))
 refine wpAny_bind (wpAny_holding (thn (hi pins s1 σ H1 _ I1 q1) fun iv s2 ⟨y,H2,I2,r2,q2⟩=>?_))
 refine wpAny_bind (wpAny_standAt (wpAny_bind (wpAny_holding (thn (hs pins s2 σ H2 x y v ov iv u _ I2 r1 r2 r q2) fun _ s3 ⟨H3,I3,q3⟩=>?_))))
 exact wpAny_release ⟨σ,H3,I3,q3⟩
def tAsg (te:TE) (g:TG):TS:=fun D σ H=>te σ H fun x H1=>g x σ H1 D.nx
theorem ps_asg {tg e:Expr} {te:TE} {g:TG} (he:PE X e te) (hg:PG X tg g) (hs:swapsWithSole [tg] e pos.line X.env=pure false:=by rfl) (hw:swappedStores [tg] e X.env=pure none:=by rfl)
  (h1:(assignEach [tg] X.env).map (·.2)=[assign tg X.env]:=by rfl):PS X (.Assign [tg] e pos) (tAsg te g):=by
 intro pins s σ H D I h
 refine wpAny_Assign_stores (thn (he pins s σ H _ I h) fun v s1 ⟨x,H1,I1,r1,q1⟩=>?_) hs hw
 rw[h1]
 exact thn (hg pins s1 σ H1 x v _ I1 r1 q1) fun _ s2 q=>q
theorem ps_set {i:Nat} {x:Str} {e:Expr} {te:TE} {pos':Pos} (hN:X.N.Nodup) (hi:X.N[i]?=some x) (hx:Loc X.env.scope x) (he:PE X e te) (hs:swapsWith e (some (.Name x pos')) pos.line X.env=pure false:=by rfl) (hf:X.fn x=true∨X.env.scope.names.lookup x=some .local:=by first | exact .inl rfl | exact .inr rfl | assumption):
  PS X (.Assign [.Name x pos'] e pos) (tAsg te (gName i)):=by
 intro pins s σ H D I h
 refine wpAny_Assign_Name (thn (he pins s σ H _ I h) fun v s1 ⟨y,H1,I1,r1,q1⟩=>?_) hs
 exact zacs I1 hN hi hx r1 (fun s2 I2=>⟨_,H1,I2,q1⟩) hf
end
section
variable {X:Cx} {pos:Pos}
end
structure It where
 go:Nat→Hp→Prop
 yld:Nat→Hp→V→Hp→Prop
 stop:Nat→Hp→Prop
def FpOk (X:Cx) (pins:List (Addr×Obj)) (H:Hp) (b:Addr):Prop:=
 H b=none∧b≠X.env.locals∧b∉X.fs∧(b∈X.ex∨X.s₀.heap.objs.size≤b)∧(∀x c,X.env.cells.lookup x=some c→c≠b)∧∀p∈X.pn++pins,p.1≠b
theorem Inv.fpOk {X:Cx} {pins:List (Addr×Obj)} {σ:St} {H H':Hp} {s:Shared} {b:Addr} (I:Inv X pins σ H s) (hb:s.heap.objs.size≤b) (hn:H' b=none):FpOk X pins H' b:=by
 refine⟨hn,Nat.ne_of_gt (Nat.lt_of_lt_of_le I.lt hb),I.nofs hb,.inr (Nat.le_trans I.sz hb),fun x c e z=>?_,fun p hp z=>?_⟩
 ·obtain⟨v,q⟩:=I.cell x c e
  exact absurd (Nat.lt_of_lt_of_le q.lt (by rw[z];exact hb)) (Nat.lt_irrefl _)
 ·exact absurd (Nat.lt_of_lt_of_le (Heap.lt_size (I.pin p hp).1) (by rw[z];exact hb)) (Nat.lt_irrefl _)
structure Turn (P:Program) (w:World) (K:PySem.W.Frag) (tg:Expr) (J:It) (fp:List Addr) (it:Addr) (tn:Nat→Heap→Prop):Prop where
 mem:it∈fp
 obj:∀i h,tn i h→∀b∈fp,∃o,h.get? b=some o∧∀v,o.data≠.cell v
 keep:∀i h h',tn i h→(∀b∈fp,∀o,h.get? b=some o→h'.get? b=some o)→tn i h'
 item:∀(X:Cx),X.prog=P→X.w=w→X.K=K→X.calm=true→∀(i:Nat) (pins:List (Addr×Obj)) (s:Shared) (σ:St) (H:Hp) (E:Value→Shared→Prop),Inv X pins σ H s→(∀b∈fp,FpOk X pins H b)→tn i s.heap→J.go i H→
  wpAny (model P w) X.A (pyNext (.ref it)) (fun r s1=>∃u,r=some u∧
   wpAny (model P w) X.A (letOwnedTupleGo tg (.ref it) u) (fun _ s2=>∃x H',Inv X pins σ H' s2∧RelV x u∧J.yld i H x H'∧tn (i+1) s2.heap∧∀b∈fp,H' b=none) E s1) E s
 done:∀(X:Cx),X.prog=P→X.w=w→X.K=K→X.calm=true→∀(i:Nat) (pins:List (Addr×Obj)) (s:Shared) (σ:St) (H:Hp) (E:Value→Shared→Prop),Inv X pins σ H s→(∀b∈fp,FpOk X pins H b)→tn i s.heap→J.stop i H→
  wpAny (model P w) X.A (pyNext (.ref it)) (fun r s1=>r=none∧Inv X pins σ H s1) E s
 self:∀(A:Around) (i:Nat) (s:Shared) (Q:Value→Shared→Prop) (E:Value→Shared→Prop),tn i s.heap→Q (.ref it) s→wpAny (model P w) A (pyIter (.ref it)) Q E s
abbrev TI:=St→Hp→(It→Hp→Prop)→Prop
def PIE (X:Cx) (pins:List (Addr×Obj)) (σ:St) (tg:Expr) (R:It→Hp→Prop) (itv:Value) (s2:Shared):Prop:=
 ∃(it:Addr) (fp:List Addr) (tn:Nat→Heap→Prop) (J:It) (H':Hp),itv=.ref it∧Inv X pins σ H' s2∧Turn X.prog X.w X.K tg J fp it tn∧tn 0 s2.heap∧(∀b∈fp,FpOk X pins H' b)∧R J H'
def PI (X:Cx) (tg iter:Expr) (wi:TI):Prop:=
 ∀(pins:List (Addr×Obj)) (s:Shared) (σ:St) (H:Hp) (R:It→Hp→Prop),Inv X pins σ H s→wi σ H R→
  wpAny (model X.prog X.w) X.A (eval iter X.env) (fun v s1=>wpAny (model X.prog X.w) X.A (pyIter v) (PIE X pins σ tg R) X.xe s1) X.xe s
theorem go_of {M:Model} {A:Around} {E:Value→Shared→Prop} {s:Shared} {tg:Expr} {it:Addr} {u:Value} {o:Obj} {n:String} {vs:Array Value} {Q:Unit→Shared→Prop} (ho:s.heap.get? it=some o) (hc:o.cls=.type n) (hd:o.data=.fields vs)
  (hn:["enumerate","zip","dict_itemiterator","dict_reverseitemiterator","odict_iterator","itertools.zip_longest","itertools.pairwise"].contains n=false) (hQ:Q () s):wpAny M A (letOwnedTupleGo tg (.ref it) u) Q E s:=by
 unfold letOwnedTupleGo
 cases tg<;>first
  | exact wpAny_pure hQ
  | (cases u<;>first
    | exact wpAny_pure hQ
    | (refine wpAny_bind (wpAny_load ho ?_)
       rw[hc,hd]
       show wpAny M A (if(["enumerate","zip","dict_itemiterator","dict_reverseitemiterator","odict_iterator","itertools.zip_longest","itertools.pairwise"].contains n&&vs[0]?==some (rawInt _))=true then _ else _) Q E s
       rw[if_neg (by intro h;rw[hn,Bool.false_and] at h;cases h)]
       exact wpAny_pure hQ))
def Itl (K:PySem.W.Frag) (a:Addr):It:=
 ⟨fun i H=>∃xs x,SqL K H a xs∧xs[i]?=some x,fun i H x H'=>H'=H∧∀xs,SqL K H a xs→xs[i]?=some x,fun i H=>∃xs,SqL K H a xs∧xs.length≤i⟩
def Itt (K:PySem.W.Frag) (a:Addr):It:=
 ⟨fun i H=>∃xs x,SqT K H a xs∧xs[i]?=some x,fun i H x H'=>H'=H∧∀xs,SqT K H a xs→xs[i]?=some x,fun i H=>∃xs,SqT K H a xs∧xs.length≤i⟩
def Itr (lo:Int) (n:Nat):It:=⟨fun i _=>i < n,fun i H x H'=>H'=H∧x=.int (lo+i),fun i _=>n≤i⟩
theorem turn_list {P:Program} {w:World} {K:PySem.W.Frag} {tg:Expr} (a it:Addr):Turn P w K tg (Itl K a) [it] it (fun i h=>h.IsListIter it a i) where
 mem:=by simp
 obj:=fun i h st b hb=>by
  have e:b=it:=by simpa using hb
  subst e
  obtain⟨o,e,c,d⟩:=st
  exact⟨o,e,fun v z=>by rw[d] at z;cases z⟩
 keep:=fun i h h' st k=>st.at fun o e=>k it (by simp) o e
 item:=by
  intro X hP hw hK hc i pins s σ H E I hf st hg
  subst hP hw hK
  obtain⟨xs,x,hq,hx⟩:=hg
  obtain⟨its,rv,p,hz⟩:=I.list hq
  obtain⟨u,hu,ru⟩:=rv.get hx
  obtain⟨f0,f1,f2,f3,f4,f5⟩:=hf it (by simp)
  refine wpAny_pyNext_list_item st p.isList (x:=u) (by simpa using hu) fun h' st' sb=>?_
  have I1:Inv X pins σ H { s with heap:=h' }:=I.turned (t':=s.toks) (fun b o hb e=>(sb.2 b hb).trans e) f0 f1 f3 f4 f5
  obtain⟨o,e,c,d⟩:=id st'
  exact⟨u,rfl,go_of (s:={ s with heap:=h' }) e c d (by decide) ⟨x,H,I1,ru,⟨rfl,fun ys hy=>by rw[I.list_inj hy hq];exact hx⟩,st',fun b hb=>(hf b hb).1⟩⟩
 done:=by
  intro X hP hw hK hc i pins s σ H E I hf st hg
  subst hP hw hK
  obtain⟨xs,hq,hx⟩:=hg
  obtain⟨its,rv,p,hz⟩:=I.list hq
  obtain⟨f0,f1,f2,f3,f4,f5⟩:=hf it (by simp)
  have hl:=rv.length
  exact wpAny_pyNext_list_end (I.ok.hd hc) st p.isList (by simp;omega) fun h' eb=>⟨rfl,I.turned (t':=s.toks) (fun b o hb e=>eb b o hb e) f0 f1 f3 f4 f5⟩
 self:=fun _ _ _ _ _ st h=>wpAny_pyIter_listiter st h
theorem zagb {P:Program} {w:World} {K:PySem.W.Frag} {tg:Expr} (a it:Addr):Turn P w K tg (Itt K a) [it] it (fun i h=>h.IsTupleIter it a i) where
 mem:=by simp
 obj:=fun i h st b hb=>by
  have e:b=it:=by simpa using hb
  subst e
  obtain⟨o,e,c,d⟩:=st
  exact⟨o,e,fun v z=>by rw[d] at z;cases z⟩
 keep:=fun i h h' st k=>st.at fun o e=>k it (by simp) o e
 item:=by
  intro X hP hw hK hc i pins s σ H E I hf st hg
  subst hP hw hK
  obtain⟨xs,x,hq,hx⟩:=hg
  obtain⟨its,rv,p,hz⟩:=I.tuple hq
  obtain⟨u,hu,ru⟩:=rv.get hx
  obtain⟨f0,f1,f2,f3,f4,f5⟩:=hf it (by simp)
  refine wpAny_pyNext_tuple_item st (show s.heap.IsTuple a its.toArray from p) (x:=u) (by simpa using hu) fun h' st' sb=>?_
  have I1:Inv X pins σ H { s with heap:=h' }:=I.turned (t':=s.toks) (fun b o hb e=>(sb.2 b hb).trans e) f0 f1 f3 f4 f5
  obtain⟨o,e,c,d⟩:=id st'
  exact⟨u,rfl,go_of (s:={ s with heap:=h' }) e c d (by decide) ⟨x,H,I1,ru,⟨rfl,fun ys hy=>by rw[I.tuple_inj hy hq];exact hx⟩,st',fun b hb=>(hf b hb).1⟩⟩
 done:=by
  intro X hP hw hK hc i pins s σ H E I hf st hg
  subst hP hw hK
  obtain⟨xs,hq,hx⟩:=hg
  obtain⟨its,rv,p,hz⟩:=I.tuple hq
  obtain⟨f0,f1,f2,f3,f4,f5⟩:=hf it (by simp)
  have hl:=rv.length
  exact wpAny_pyNext_tuple_end (I.ok.hd hc) st (show s.heap.IsTuple a its.toArray from p) (by simp;omega) fun h' eb=>⟨rfl,I.turned (t':=s.toks) (fun b o hb e=>eb b o hb e) f0 f1 f3 f4 f5⟩
 self:=fun _ _ _ _ _ st h=>wpAny_pyIter_tupleiter st h
theorem zafs {P:Program} {w:World} {K:PySem.W.Frag} {tg:Expr} (it:Addr) (lo:Int) (n:Nat):Turn P w K tg (Itr lo n) [it] it (fun i h=>IsRangeIter h it (lo+(i:Nat)*1) ((n:Int) - (i:Nat)) 1) where
 mem:=by simp
 obj:=fun i h st b hb=>by
  have e:b=it:=by simpa using hb
  subst e
  exact⟨_,st,fun v z=>by
   have z':Data.fields _=Data.cell v:=z
   cases z'⟩
 keep:=fun i h h' st k=>k it (by simp) _ st
 item:=by
  intro X hP hw hK hc i pins s σ H E I hf st hg
  subst hP hw hK
  obtain⟨f0,f1,f2,f3,f4,f5⟩:=hf it (by simp)
  have W:=Walks.range (prog:=X.prog) (w:=X.w) (I.ok.hd hc) it lo 1 n
  refine W.item i s _ _ hg st fun v h' tk hv st' kk=>?_
  obtain⟨t,rfl⟩:=hv
  have I1:Inv X pins σ H { s with heap:=h',toks:=tk }:=I.turned (fun b o hb e=>kk b o (by simpa using hb) e) f0 f1 f3 f4 f5
  refine⟨_,rfl,go_of (s:={ s with heap:=h',toks:=tk }) (n:="range_iterator") st' rfl rfl (by decide) ⟨.int (lo+i),H,I1,⟨t,?_⟩,⟨rfl,rfl⟩,st',fun b hb=>(hf b hb).1⟩⟩
  rw[Int.mul_one]
 done:=by
  intro X hP hw hK hc i pins s σ H E I hf st hg
  subst hP hw hK
  obtain⟨f0,f1,f2,f3,f4,f5⟩:=hf it (by simp)
  exact wpAny_pyNext_range_end (I.ok.hd hc) st (by have:n≤i:=hg;omega) fun h' eb=>⟨rfl,I.turned (t':=s.toks) (fun b o hb e=>eb b o hb e) f0 f1 f3 f4 f5⟩
 self:=fun _ _ _ _ _ st h=>wpAny_pyIter_rangeiter st h
end L2
namespace L2
open PySem PySem.Spec PyProof.Rows
section
variable {X:Cx} {tg:Expr}
theorem range_it {pins:List (Addr×Obj)} {σ:St} {H:Hp} {s:Shared} {R:It→Hp→Prop} {E:Value→Shared→Prop} {lo hi:Int} {t u v:Tok} {tk:Nat} (I:Inv X pins σ H s) (h1:-(2^62)≤lo) (h2:lo < 2^62) (h3:-(2^62)≤hi) (h4:hi < 2^62)
  (q:R (Itr lo (hi - lo).toNat) H):wpAny (model X.prog X.w) X.A (pyIter (.ref s.heap.objs.size)) (PIE X pins σ tg R) E { s with heap:=s.heap.push { cls:=.type "range",data:=.fields #[.int lo t,.int hi u,.int 1 v] },toks:=tk }:=by
 refine wpAny_pyIter_range (IsRange.new ..) (small_one h1 h2 h3 h4) ?_
 have I1:Inv X pins σ H { s with heap:=s.heap.push { cls:=.type "range",data:=.fields #[.int lo t,.int hi u,.int 1 v] },toks:=tk }:=I.kept fun b o e=>Heap.get?_push_of_some _ e
 refine⟨(s.heap.push { cls:=.type "range",data:=.fields #[.int lo t,.int hi u,.int 1 v] }).objs.size,[(s.heap.push { cls:=.type "range",data:=.fields #[.int lo t,.int hi u,.int 1 v] }).objs.size],_,_,H,rfl,
  I1.kept (t':=tk) fun b o e=>Heap.get?_push_of_some _ e,zafs _ lo (hi - lo).toNat,?_,fun b hb=>?_,q⟩
 ·have e1:lo+((0:Nat):Int)*1=lo:=by simp
  have e2:(((hi - lo).toNat:Nat):Int) - ((0:Nat):Int)=Builtin.Range.rangeSize lo hi 1:=by rw[rangeSize_one];split<;>omega
  show IsRangeIter _ _ (lo+((0:Nat):Int)*1) ((((hi - lo).toNat:Nat):Int) - ((0:Nat):Int)) 1
  rw[e1,e2]
  exact Heap.get?_push_size _ rfl
 ·have e:b=(s.heap.push { cls:=.type "range",data:=.fields #[.int lo t,.int hi u,.int 1 v] }).objs.size:=by simpa using hb
  subst e
  exact I1.fpOk (Nat.le_refl _) (I1.hok.fresh (Nat.le_refl _))
def iRng1 (ta:TA):TI:=fun σ H R=>ta σ H fun vs H1=>∃j:Int,vs=[.int j]∧-(2^62)≤j∧j < 2^62∧R (Itr 0 j.toNat) H1
theorem pi_range1 {a:Expr} {ta:TA} {p pos:Pos} (hg:Gl X "range") (hm:X.mg "range"=none) (ha:PA X [a] ta) (hs:starEach [a] X.env=[(false,eval a X.env)]:=by rfl):PI X tg (.Call (.Name "range" p) [a] [] pos) (iRng1 ta):=by
 intro pins s σ H R I h
 refine Call_ (ld_blt I hg hm boot_range (PyProof.Rows.callWith_type1 (thn (ha pos pins s σ H _ I h) fun us s1 ⟨vs,H1,I1,r1,q1⟩=>?_) hs rfl))
 obtain⟨j,e,q1,q2,q⟩:=q1
 subst e
 cases r1 with
 | cons r rr=>
  cases rr
  obtain⟨t,rfl⟩:=r
  exact call_range_1 (range_it I1 (by omega) (by omega) q1 q2 (by simpa using q))
def tFor (wi:TI) (g:TG) (tb:TS):TS:=fun D σ H=>wi σ H fun J H1=>∃W:Nat→Nat→St→Hp→Prop,(∃m,W 0 m σ H1)∧∀i m σ H,W i m σ H→
 (J.stop i H∧D.nx σ H)∨(J.go i H∧∃N:St→Hp→Prop,(∀σ' H',N σ' H'→∃m',m' < m∧W (i+1) m' σ' H')∧∀x H',J.yld i H x H'→g x σ H' fun σ2 H2=>tb { D with nx:=N,ct:=N,bk:=D.nx } σ2 H2)
def pinsAt (fp:List Addr) (h:Heap):List (Addr×Obj):=fp.filterMap fun b=>(h.get? b).map fun o=>(b,o)
theorem zack {fp:List Addr} {h:Heap} {b:Addr} {o:Obj} (hb:b∈fp) (e:h.get? b=some o):(b,o)∈pinsAt fp h:=List.mem_filterMap.mpr ⟨b,hb,by rw[e];rfl⟩
theorem of_pinsAt {fp:List Addr} {h:Heap} {p:Addr×Obj} (hp:p∈pinsAt fp h):p.1∈fp∧h.get? p.1=some p.2:=by
 obtain⟨b,hb,e⟩:=List.mem_filterMap.mp hp
 cases q:h.get? b with
 | none=>rw[q] at e;cases e
 | some o=>
  rw[q] at e
  have e':(b,o)=p:=Option.some.inj e
  subst e'
  exact⟨hb,q⟩
theorem Inv.pinned {pins:List (Addr×Obj)} {σ:St} {H:Hp} {s:Shared} {fp:List Addr} (I:Inv X pins σ H s) (hf:∀b∈fp,FpOk X pins H b) (ho:∀b∈fp,∃o,s.heap.get? b=some o∧∀v,o.data≠.cell v):Inv X (pins++pinsAt fp s.heap) σ H s:=
 I.pins_of fun p hp=>(List.mem_append.mp hp).elim (fun z=>I.pin p (List.mem_append_right _ z)) fun z=>by
  obtain⟨hb,e⟩:=of_pinsAt z
  obtain⟨f0,f1,f2,_⟩:=hf p.1 hb
  obtain⟨o,e',d⟩:=ho p.1 hb
  rw[e] at e';cases e'
  exact⟨e,f0,f1,f2,d⟩
theorem Inv.unpinned {pins pl:List (Addr×Obj)} {σ:St} {H:Hp} {s:Shared} (I:Inv X (pins++pl) σ H s):Inv X pins σ H s:=I.pins_of fun p hp=>I.pin p (List.mem_append_right _ (List.mem_append_left _ hp))
theorem ps_for {iter:Expr} {body:List Stmt} {wi:TI} {g:TG} {tb:TS} {pos:Pos} (hp:PassesOwn (model X.prog X.w) X.A X.env X.xe) (hc:X.calm=true) (hi:PI X tg iter wi) (hg:PG X tg g) (hb:PSs X body tb)
  (hs:∀x,foldedSetIterable iter X.env x=pure x:=by intro _;rfl):PS X (.For tg iter body [] pos) (tFor wi g tb):=by
 intro pins s σ H D I h
 refine wpAny_For (thn (hi pins s σ H _ I h) fun v s1 h1=>thn h1 fun itv s2 h2=>?_) hs
 obtain⟨it,fp,tn,J,H2,e,I2,T,st2,f2,W,⟨m0,w0⟩,turn⟩:=h2
 subst e
 have stat:∀{H':Hp},(∀b∈fp,H' b=none)→∀b∈fp,FpOk X pins H' b:=fun hn b hb=>⟨hn b hb,(f2 b hb).2⟩
 refine codeAny_forLoop_any (fun n s'=>∃i σ' H',Inv X pins σ' H' s'∧tn i s'.heap∧(∀b∈fp,H' b=none)∧W i n σ' H') ?_ m0 ⟨0,σ,H2,I2,st2,fun b hb=>(f2 b hb).1,w0⟩
 rintro n s3 ⟨i,σ3,H3,I3,st3,fr3,w3⟩
 rcases turn i n σ3 H3 w3 with⟨stop,qn⟩ | ⟨go,N,hN,step⟩
 ·refine wpAny_passesOwn hp (thn (T.done X rfl rfl rfl hc i pins s3 σ3 H3 X.xe I3 (stat fr3) st3 stop) fun r s4 ⟨hr,I4⟩=>?_)
  subst hr
  exact wpAny_execs_nil ⟨σ3,H3,I4,qn⟩
 ·refine wpAny_passesOwn hp (thn (T.item X rfl rfl rfl hc i pins s3 σ3 H3 X.xe I3 (stat fr3) st3 go) fun r s4 ⟨u,hr,h4⟩=>?_)
  subst hr
  refine wpAny_passesOwn hp (thn h4 fun _ s5 ⟨x,H5,I5,r5,y5,st5,fr5⟩=>?_)
  have I5':=I5.pinned (stat fr5) (T.obj _ _ st5)
  refine wpAny_passesOwn hp (thn (hg _ s5 σ3 H5 x u _ I5' r5 (step x H5 y5)) fun _ s6 ⟨σ6,H6,I6,q6⟩=>?_)
  refine wpAny_passesOwn hp (thn (hb _ s6 σ6 H6 _ I6 q6) fun f s7 q7=>?_)
  have again:∀{σ7:St} {H7:Hp},Inv X (pins++pinsAt fp s5.heap) σ7 H7 s7→N σ7 H7→∃m,m < n∧∃i σ' H',Inv X pins σ' H' s7∧tn i s7.heap∧(∀b∈fp,H' b=none)∧W i m σ' H':=fun {σ7 H7} I7 n7=>by
   obtain⟨m',hm,w7⟩:=hN σ7 H7 n7
   refine⟨m',hm,i+1,σ7,H7,I7.unpinned,T.keep _ _ _ st5 fun b hb o e=>(I7.pin (b,o) (List.mem_append_right _ (List.mem_append_right _ (zack hb e)))).1,fun b hb=>?_,w7⟩
   obtain⟨o,e,d⟩:=T.obj _ _ st5 b hb
   exact(I7.pin (b,o) (List.mem_append_right _ (List.mem_append_right _ (zack hb e)))).2.1
  cases f with
  | next=>obtain⟨σ7,H7,I7,n7⟩:=q7;exact again I7 n7
  | cont=>obtain⟨σ7,H7,I7,n7⟩:=q7;exact again I7 n7
  | brk=>obtain⟨σ7,H7,I7,q7⟩:=q7;exact⟨σ7,H7,I7.unpinned,q7⟩
  | ret v=>obtain⟨x7,σ7,H7,I7,r7,q7⟩:=q7;exact⟨x7,σ7,H7,I7.unpinned,r7,q7⟩
end
end L2
namespace L2
open PySem PySem.Spec PyProof.Rows
abbrev R2:=V→V→Hp→VK→Prop
def OpR (X:Cx) (f:Value→Value→Sem Value) (r:R2):Prop:=
 ∀(pins:List (Addr×Obj)) (s:Shared) (σ:St) (H:Hp) (x y:V) (v u:Value) (Q:VK),Inv X pins σ H s→RelV x v→RelV y u→r x y H Q→
  wpAny (model X.prog X.w) X.A (f v u) (EP X pins σ Q) X.xe s
def UnR (X:Cx) (f:Value→Sem Value) (r:V→Hp→VK→Prop):Prop:=
 ∀(pins:List (Addr×Obj)) (s:Shared) (σ:St) (H:Hp) (x:V) (v:Value) (Q:VK),Inv X pins σ H s→RelV x v→r x H Q→
  wpAny (model X.prog X.w) X.A (f v) (EP X pins σ Q) X.xe s
def CallR (X:Cx) (f:Value) (r:List V→Hp→VK→Prop):Prop:=
 ∀(pins:List (Addr×Obj)) (s:Shared) (σ:St) (H:Hp) (xs:List V) (us:List Value) (Q:VK),Inv X pins σ H s→Vals xs us→r xs H Q→
  wpAny (model X.prog X.w) X.A (call f us) (EP X pins σ Q) X.xe s
def TruR (X:Cx) (r:V→Hp→(Bool→Hp→Prop)→Prop):Prop:=
 ∀(pins:List (Addr×Obj)) (s:Shared) (σ:St) (H:Hp) (x:V) (v:Value) (Q:Bool→Hp→Prop),Inv X pins σ H s→RelV x v→r x H Q→
  wpAny (model X.prog X.w) X.A (truthy v) (TP X pins σ Q) X.xe s
def tOp (r:R2) (ta tb:TE):TE:=fun σ H Q=>ta σ H fun x H1=>tb σ H1 fun y H2=>r x y H2 Q
def tUn (r:V→Hp→VK→Prop) (ta:TE):TE:=fun σ H Q=>ta σ H fun x H1=>r x H1 Q
def rI (C:Int→Int→Prop) (g:Int→Int→V):R2:=fun x y H Q=>∃i j,x=.int i∧y=.int j∧C i j∧Q (g i j) H
def rI0 (g:Int→Int→V):R2:=fun x y H Q=>∃i j,x=.int i∧y=.int j∧Q (g i j) H
def rU (g:Int→V):V→Hp→VK→Prop:=fun x H Q=>∃i,x=.int i∧Q (g i) H
section
variable {X:Cx} {a b c:Expr} {ta tb tc:TE} {pos:Pos}
theorem binT (ha:PE X a ta) (hb:PE X b tb) {pins:List (Addr×Obj)} {s:Shared} {σ:St} {H:Hp} {R:V→V→Hp→Prop} (I:Inv X pins σ H s)
  (h:ta σ H fun x H1=>tb σ H1 fun y H2=>R x y H2) {Q:Value→Shared→Prop} {f:Value→Value→Sem Value}
  (hf:∀v u s2 x y H2,Inv X pins σ H2 s2→RelV x v→RelV y u→R x y H2→wpAny (model X.prog X.w) X.A (f v u) Q X.xe s2):
  wpAny (model X.prog X.w) X.A (eval a X.env) (fun v s₁=>wpAny (model X.prog X.w) X.A (eval b X.env) (fun u s₂=>wpAny (model X.prog X.w) X.A (f v u) Q X.xe s₂) X.xe s₁) X.xe s:=by
 refine thn (ha pins s σ H _ I h) fun v s1 ⟨x,H1,I1,r1,q1⟩=>?_
 refine thn (hb pins s1 σ H1 _ I1 q1) fun u s2 ⟨y,H2,I2,r2,q2⟩=>?_
 exact hf v u s2 x y H2 I2 r1 r2 q2
theorem pe_op {op:Operator} {r:R2} (ho:OpR X (binaryOp op) r) (ha:PE X a ta) (hb:PE X b tb):PE X (.BinOp a op b pos) (tOp r ta tb):=by
 intro pins s σ H Q I h
 exact wpAny_BinOp (binT ha hb I h fun v u s2 x y H2 I2 rx ry q=>ho pins s2 σ H2 x y v u Q I2 rx ry q)
theorem pe_un {op:UnaryOp} {r:V→Hp→VK→Prop} (ho:UnR X (unaryOp op) r) (ha:PE X a ta):PE X (.UnaryOp op a pos) (tUn r ta):=by
 intro pins s σ H Q I h
 exact UnaryOp_ (thn (ha pins s σ H _ I h) fun v s1 ⟨x,H1,I1,r1,q1⟩=>ho pins s1 σ H1 x v Q I1 r1 q1)
theorem opI {f:Value→Value→Sem Value} {C:Int→Int→Prop} {g:Int→Int→Int}
  (rule:∀(i j:Int) (t u:Tok) (s:Shared) (Q:Value→Shared→Prop) (E:Value→Shared→Prop),C i j→Q (.int (g i j) s.toks) { s with toks:=s.toks+1 }→wpAny (model X.prog X.w) X.A (f (.int i t) (.int j u)) Q E s):
  OpR X f (rI C fun i j=>.int (g i j)):=by
 intro pins s σ H x y v u Q I rx ry h
 obtain⟨i,j,rfl,rfl,hc,q⟩:=h
 obtain⟨t,rfl⟩:=rx
 obtain⟨t',rfl⟩:=ry
 exact rule i j t t' s _ _ hc ⟨.int (g i j),H,I.tok _,⟨_,rfl⟩,q⟩
theorem opI0 {f:Value→Value→Sem Value} {g:Int→Int→Int}
  (rule:∀(i j:Int) (t u:Tok) (s:Shared) (Q:Value→Shared→Prop) (E:Value→Shared→Prop),Q (.int (g i j) s.toks) { s with toks:=s.toks+1 }→wpAny (model X.prog X.w) X.A (f (.int i t) (.int j u)) Q E s):
  OpR X f (rI0 fun i j=>.int (g i j)):=by
 intro pins s σ H x y v u Q I rx ry h
 obtain⟨i,j,rfl,rfl,q⟩:=h
 obtain⟨t,rfl⟩:=rx
 obtain⟨t',rfl⟩:=ry
 exact rule i j t t' s _ _ ⟨.int (g i j),H,I.tok _,⟨_,rfl⟩,q⟩
theorem opB0 {f:Value→Value→Sem Value} {g:Int→Int→Bool}
  (rule:∀(i j:Int) (t u:Tok) (s:Shared) (Q:Value→Shared→Prop) (E:Value→Shared→Prop),Q (.bool (g i j)) s→wpAny (model X.prog X.w) X.A (f (.int i t) (.int j u)) Q E s):
  OpR X f (rI0 fun i j=>.bl (g i j)):=by
 intro pins s σ H x y v u Q I rx ry h
 obtain⟨i,j,rfl,rfl,q⟩:=h
 obtain⟨t,rfl⟩:=rx
 obtain⟨t',rfl⟩:=ry
 exact rule i j t t' s _ _ ⟨.bl (g i j),H,I,rfl,q⟩
def CDiv (i j:Int):Prop:=0 < j∧j < 1073741824
def CMul (i j:Int):Prop:=(-(2^64) < i∧i < 2^64)∨(-(2^64) < j∧j < 2^64)
theorem CMul.ok {i j:Int} (h:CMul i j):IntMulOk i j:=by
 rcases h with⟨h1,h2⟩ | ⟨h1,h2⟩
 ·exact .of_left (intBits_le_64 h1 h2)
 ·exact .of_right (intBits_le_64 h1 h2)
theorem op_add:OpR X (binaryOp .Add) (rI0 fun i j=>.int (i+j)):=opI0 fun _ _ _ _ _ _ _ q=>add_int q
theorem op_sub:OpR X (binaryOp .Sub) (rI0 fun i j=>.int (i - j)):=opI0 fun _ _ _ _ _ _ _ q=>sub_int q
theorem op_mul:OpR X (binaryOp .Mult) (rI CMul fun i j=>.int (i*j)):=opI fun _ _ _ _ _ _ _ hc q=>mul_int q hc.ok
theorem zaat:OpR X (binaryOp .FloorDiv) (rI CDiv fun i j=>.int (i / j)):=opI fun i j _ _ _ _ _ hc q=>by
 have h1:(0:Int) < j:=hc.1
 have h2:j < 1073741824:=hc.2
 exact floordiv_int (by omega) (by rw[Int.fdiv_eq_ediv_of_nonneg i (by omega)];exact q) (.inl (PyProof.noPylong_small (by omega)))
theorem op_mod:OpR X (binaryOp .Mod) (rI (fun _ j=>0 < j) fun i j=>.int (i % j)):=opI fun i j _ _ _ _ _ hc q=>by
 have h1:(0:Int) < j:=hc
 exact mod_int' (by omega) (by rw[Int.fmod_eq_emod_of_nonneg i (by omega)];exact q)
theorem unI {f:Value→Sem Value} {g:Int→Int}
  (rule:∀(i:Int) (t:Tok) (s:Shared) (Q:Value→Shared→Prop) (E:Value→Shared→Prop),Q (.int (g i) s.toks) { s with toks:=s.toks+1 }→wpAny (model X.prog X.w) X.A (f (.int i t)) Q E s):
  UnR X f (rU fun i=>.int (g i)):=by
 intro pins s σ H x v Q I rx h
 obtain⟨i,rfl,q⟩:=h
 obtain⟨t,rfl⟩:=rx
 exact rule i t s _ _ ⟨.int (g i),H,I.tok _,⟨_,rfl⟩,q⟩
theorem un_neg:UnR X (unaryOp .USub) (rU fun i=>.int (-i)):=unI fun _ _ _ _ _ q=>neg_int q
end
section
variable {X:Cx} {a b c:Expr} {ta tb tc:TE} {pos:Pos}
theorem fin_bl {pins:List (Addr×Obj)} {σ:St} {H:Hp} {s:Shared} {Q:VK} {k k':Bool} (I:Inv X pins σ H s) (q:Q (.bl k) H) (e:k=k'):EP X pins σ Q (.bool k') s:=by
 subst e
 exact⟨.bl k,H,I,rfl,q⟩
theorem op_lt:OpR X (compareOp .Lt) (rI0 fun i j=>.bl (decide (i < j))):=opB0 fun _ _ _ _ _ _ _ q=>lt_int q
theorem op_le:OpR X (compareOp .LtE) (rI0 fun i j=>.bl (decide (i≤j))):=opB0 fun _ _ _ _ _ _ _ q=>le_int q
theorem op_gt:OpR X (compareOp .Gt) (rI0 fun i j=>.bl (decide (j < i))):=opB0 fun _ _ _ _ _ _ _ q=>gt_int q
theorem op_ge:OpR X (compareOp .GtE) (rI0 fun i j=>.bl (decide (j≤i))):=opB0 fun _ _ _ _ _ _ _ q=>ge_int q
theorem op_isN:OpR X (compareOp .Is) (fun x y H Q=>y=.non∧Q (.bl (decide (x=.non))) H):=by
 intro pins s σ H x y v u Q I rx ry h
 obtain⟨rfl,q⟩:=h
 cases ry
 refine is_none_gen (fin_bl I q ?_)
 cases x<;>first
  | (cases rx;rfl)
  | (obtain⟨t,rfl⟩:=rx;rfl)
theorem op_notN:OpR X (compareOp .IsNot) (fun x y H Q=>y=.non∧Q (.bl (!decide (x=.non))) H):=by
 intro pins s σ H x y v u Q I rx ry h
 obtain⟨rfl,q⟩:=h
 cases ry
 refine isnot_none_gen (fin_bl I q ?_)
 cases x<;>first
  | (cases rx;rfl)
  | (obtain⟨t,rfl⟩:=rx;rfl)
def isObj:HO→Bool
 | .lst _=>true
 | .ins _ _ _=>true
 | _=>false
theorem zaek {pins:List (Addr×Obj)} {s:Shared} {σ:St} {H:Hp} {a:Addr} {o:HO} (I:Inv X pins σ H s) (h:H a=some o) (p:isObj o=true):∃ob,s.heap.get? a=some ob∧ob.cls≠.type "tuple":=by
 cases o with
 | lst xs=>
  obtain⟨_,its,n,_,e⟩:xs.length≤sizeLine∧∃(its:List Value) (n:Nat),Vals xs its∧s.heap.get? a=some { cls:=.type "list",data:=.seq its.toArray n }:=I.hok a _ h
  exact⟨_,e,(by show Value.type "list"≠.type "tuple";decide +kernel)⟩
 | ins C dx fs=>
  have x:=I.hok a _ h
  obtain⟨_,_,_,e,_⟩:=x
  exact⟨_,e,(by show Value.ref C≠.type "tuple";exact fun z=>by cases z)⟩
 | _=>exact absurd (show false=true from p) Bool.false_ne_true
theorem OpR.or {f:Value→Value→Sem Value} {r r':R2} (h:OpR X f r) (h':OpR X f r'):OpR X f (fun x y H Q=>r x y H Q∨r' x y H Q):=by
 intro pins s σ H x y v u Q I rx ry q
 rcases q with q | q
 ·exact h pins s σ H x y v u Q I rx ry q
 ·exact h' pins s σ H x y v u Q I rx ry q
theorem nomark (b:Expr) {op:CmpOp} (h:op≠.In:=by decide) (h2:op≠.NotIn:=by decide):behindInMarks op b=false:=by
 have e1:(op==CmpOp.In)=false:=by cases op<;>first | rfl | exact absurd rfl h
 have e2:(op==CmpOp.NotIn)=false:=by cases op<;>first | rfl | exact absurd rfl h2
 cases b<;>simp[behindInMarks,e1,e2]
theorem pe_cmpR {op:CmpOp} {r:R2} (ho:OpR X (compareOp op) r) (ha:PE X a ta) (hb:PE X b tb) (hm:behindInMarks op b=false):PE X (.Compare a [op] [b] pos) (tOp r ta tb):=by
 intro pins s σ H Q I h
 exact wpAny_Compare1 (binT ha hb I h fun v u s2 x y H2 I2 rx ry q=>ho pins s2 σ H2 x y v u Q I2 rx ry q) hm
def tTest (t:TE):TT:=fun σ H Q=>t σ H fun x H'=>∃k,x=.bl k∧Q k H'
theorem pt_cmpR {op:CmpOp} {r:R2} (ho:OpR X (compareOp op) r) (ha:PE X a ta) (hb:PE X b tb) (hm:behindInMarks op b=false):PT X (.Compare a [op] [b] pos) (tTest (tOp r ta tb)):=by
 intro pins s σ H Q I h
 refine wpAny_isTrue_Compare1 (thn (ha pins s σ H _ I h) fun v s1 ⟨x,H1,I1,r1,q1⟩=>thn (hb pins s1 σ H1 _ I1 q1) fun u s2 ⟨y,H2,I2,r2,q2⟩=>
  thn (ho pins s2 σ H2 x y v u _ I2 r1 r2 q2) fun c s3 ⟨z,H3,I3,r3,k,e,q3⟩=>?_) hm
 subst e
 cases r3
 exact wpAny_truthy_bool ⟨H3,I3,q3⟩
def TruV (K:PySem.W.Frag) (x:V) (H:Hp) (k:Bool):Prop:=
 match x with
 | .non=>k=false
 | .bl b=>k=b
 | .int i=>k=(i != 0)
 | .str y=>y.length≤sizeLine∧k=((y.length:Int) != 0)
 | .byt y=>y.size≤sizeLine∧k=((y.size:Int) != 0)
 | .ref p=>(∃xs,SqL K H p xs∧k=!xs.isEmpty)∨(∃xs,SqT K H p xs∧k=!xs.isEmpty)∨∃kvs,H p=some (.dK kvs)∧k=!kvs.isEmpty
 | _=>False
theorem zagl {κ:Type} {kvs:List (κ×V)} {vs:List (κ×Value)} (r:KV kvs vs):(!vs.isEmpty)=!kvs.isEmpty:=by
 cases r<;>rfl
theorem zac2 {xs:List V} {its:List Value} (r:Vals xs its):(!its.toArray.isEmpty)=!xs.isEmpty:=by
 cases r<;>simp
theorem line63:(sizeLine:Nat) < 2^63:=by rw[sizeLine_eq];decide
theorem tru_ok:TruR X (fun x H Q=>∃k,TruV X.K x H k∧Q k H):=by
 intro pins s σ H x v Q I rx h
 obtain⟨k,e,q⟩:=h
 have hl:=line63
 have hs:sizeLine=16777216:=sizeLine_eq
 cases x with
 | non=>
  cases rx
  have e':k=false:=e
  subst e'
  exact truthy_none ⟨H,I,q⟩
 | bl b=>
  cases rx
  have e':k=b:=e
  subst e'
  exact wpAny_truthy_bool ⟨H,I,q⟩
 | int i=>
  obtain⟨t,rfl⟩:=rx
  have e':k=(i != 0):=e
  subst e'
  exact PySem.P.truthy_int ⟨H,I,q⟩
 | str y=>
  obtain⟨t,rfl⟩:=rx
  obtain⟨hy,e'⟩:y.length≤sizeLine∧k=((y.length:Int) != 0):=e
  subst e'
  exact PySem.P.truthy_str (by omega) ⟨H,I.tok _,q⟩
 | byt y=>
  obtain⟨t,rfl⟩:=rx
  obtain⟨hy,e'⟩:y.size≤sizeLine∧k=((y.size:Int) != 0):=e
  subst e'
  exact PySem.W.truthy_bytes (by omega) ⟨H,I.tok _,q⟩
 | ref p=>
  cases rx
  have e':(∃xs,SqL X.K H p xs∧k=!xs.isEmpty)∨(∃xs,SqT X.K H p xs∧k=!xs.isEmpty)∨∃kvs,H p=some (.dK kvs)∧k=!kvs.isEmpty:=e
  rcases e' with⟨xs,hx,e'⟩ | ⟨xs,hx,e'⟩ | ⟨kvs,hx,e'⟩
  ·subst e'
   obtain⟨its,r,pl,hz⟩:=I.list hx
   have hlen:=r.length
   exact wpAny_truthy_list pl.isList (by simp only[List.size_toArray];omega) ⟨H,I.tok _,by rw[zac2 r];exact q⟩
  ·subst e'
   obtain⟨its,r,pl,hz⟩:=I.tuple hx
   have hlen:=r.length
   exact truthy_tuple pl (by simp only[List.size_toArray];omega) ⟨H,I.tok _,by rw[zac2 r];exact q⟩
  ·subst e'
   obtain⟨hz,hS,vs,r,m⟩:kvs.length≤sizeLine∧(p==sysModules)=false∧∃vs,KV kvs vs∧s.heap.DictOf (zaes X.prog X.w) p vs:=I.hok p _ hx
   have hlen:kvs.length=vs.length:=Paired.length r
   exact wpAny_truthy_dict hS m (by omega) ⟨H,I.tok _,by rw[zagl r];exact q⟩
 | _=>exact(show False from e).elim
theorem pt_truth (ha:PE X a ta) (he:∀whole,isTrue a X.env whole=(do let v ← whole;standAt a.pos;holding [v] (truthy v))):
  PT X a (fun σ H Q=>ta σ H fun x H'=>∃k,TruV X.K x H' k∧Q k H'):=by
 intro pins s σ H Q I h
 exact isTrue_plain (thn (ha pins s σ H _ I h) fun v s1 ⟨x,H1,I1,r1,q1⟩=>tru_ok pins s1 σ H1 x v Q I1 r1 q1) (he _)
theorem vals1 {x:V} {us:List Value} (r:Vals [x] us):∃u,us=[u]∧RelV x u:=by
 cases r with
 | cons r1 r2=>cases r2;exact⟨_,rfl,r1⟩
theorem call_abs:CallR X (.builtin "abs") (fun xs H Q=>∃i,xs=[.int i]∧Q (.int (if i < 0 then -i else i)) H):=by
 intro pins s σ H xs us Q I r h
 obtain⟨i,rfl,q⟩:=h
 obtain⟨u,rfl,t,rfl⟩:=vals1 r
 exact call_abs_int fun u tk=>⟨.int (if i < 0 then -i else i),H,I.tok _,⟨_,rfl⟩,q⟩
theorem call_int1:CallR X (.type "int") (fun xs H Q=>(∃i,xs=[.int i]∧Q (.int i) H)∨∃k,xs=[.bl k]∧Q (.int (if k then 1 else 0)) H):=by
 intro pins s σ H xs us Q I r h
 rcases h with⟨i,rfl,q⟩ | ⟨k,rfl,q⟩
 ·obtain⟨u,rfl,t,rfl⟩:=vals1 r
  exact call_int_int ⟨.int i,H,I,⟨_,rfl⟩,q⟩
 ·obtain⟨u,rfl,r1⟩:=vals1 r
  cases r1
  exact call_int_bool ⟨.int (if k then 1 else 0),H,I.tok _,⟨_,rfl⟩,q⟩
end
end L2
namespace L2
open PySem PySem.Spec PyProof.Rows
structure ObjM (h:Heap) (x dx C:Addr) (mA:Str→Option Value):Prop where
 obj:h.get? x=some (PySem.W.instObj C dx)
 ns:h.Ns1 dx mA
 ne:dx≠x
theorem lookIn_ns {h:Heap} {dx:Addr} {mA:Str→Option Value} (n:h.Ns1 dx mA):∃od,h.get? dx=some od∧∀name,PySem.W.lookIn name od=some (mA name):=by
 obtain⟨o,es,ep,ho,hd,hk,_,hm⟩:=n
 refine⟨o,ho,fun name=>?_⟩
 have e:=hm name
 unfold nsFind findBy at e
 rw[← Array.find?_toList] at e
 unfold PySem.W.lookIn
 rw[hd]
 dsimp only
 split
 ·rename_i y q
  rw[q] at e
  exact congrArg some e
 ·rename_i q
  rw[q] at e
  have a:es.toList.any (·.refKey)=false:=by
   rw[List.any_eq_false]
   intro y hy
   obtain⟨z,t,hkey⟩:=hk y (Array.mem_toList_iff.mp hy)
   simp[DictEntry.refKey,hkey]
  have a':¬es.toList.any (·.refKey)=true:=by rw[a];exact Bool.false_ne_true
  rw[if_neg a']
  exact congrArg some e
theorem ObjM.look {h:Heap} {x dx C:Addr} {mA:Str→Option Value} (I:ObjM h x dx C mA):∃od,PySem.W.InstAt h x (PySem.W.instObj C dx) C (some od)∧∀name,PySem.W.lookIn name od=some (mA name):=
 let ⟨od,ho,hl⟩:=lookIn_ns I.ns
 ⟨od,⟨I.obj,rfl,rfl,ho⟩,hl⟩
section
variable {prog:Program} {w:World} {A:Around} {E:Value→Shared→Prop} {s:Shared} {K:PySem.W.Frag} {x dx C f:Addr} {mA:Str→Option Value} {name:Str} {v:Value}
theorem get_map {expr:Bool} {Q:Value→Shared→Prop} (X:K.In s.heap) (I:ObjM s.heap x dx C mA) (hg:PySem.W.plainGet K C name=true) (hh:PySem.W.hasDictIn K C=true)
  (ha:PySem.W.findIn K (.ref C) name=some none) (hv:mA name=some v) (hv':PySem.W.handedIn v=true) (h:Q v { s with toks:=s.toks+1 }):
  wpAny (model prog w) A (getAttr (.ref x) name expr) Q E s:=by
 obtain⟨od,J,hl⟩:=I.look
 exact PySem.W.get_value X J (PySem.W.plainGet_of hg).1 (PySem.W.findObj_own hh ha rfl (by rw[hl,hv])) hv' h
theorem get_meth {pl:Sem Bool} {Q:Value×List Value→Shared→Prop} (X:K.In s.heap) (I:ObjM s.heap x dx C mA) (hg:PySem.W.plainGet K C name=true)
  (hf:PySem.W.findIn K (.ref C) name=some (some (.ref f))) (ht:PySem.W.isFn K (.ref f)=true) (hv:mA name=none) (h:Q (.ref f,[.ref x]) s):
  wpAny (model prog w) A (getMethod (.ref x) name pl) Q E s:=by
 obtain⟨od,J,hl⟩:=I.look
 exact PySem.W.method_fn X J (PySem.W.plainGet_of hg).1 (PySem.W.plainGet_of hg).2 hf (beq_iff_eq.mp ht) (by show(PySem.W.lookIn name od).map (·.isSome)=some false;rw[hl,hv];rfl) h
theorem set_map {ns:List Str} {Q:Unit→Shared→Prop} (X:K.In s.heap) (I:ObjM s.heap x dx C mA)
  (hs:PySem.W.findIn K (.ref C) "__setattr__"=some (some (.builtin "object.__setattr__"))) (hp:PySem.W.plainOver K C=true) (ht:PySem.W.takerIn K C name=some none) (hh:PySem.W.hasDictIn K C=true)
  (hw:PySem.Within mA ns) (hsz:ns.length≤sizeLine)
  (h:∀h',ObjM h' x dx C (fun y=>if y=name then some v else mA y)→Heap.SameBut dx s.heap h'→Q () { s with heap:=h',toks:=s.toks+2 }):
  wpAny (model prog w) A (setAttr (.ref x) name v) Q E s:=by
 obtain⟨od,J,hl⟩:=I.look
 refine PySem.W.set_plain X J hs (PySem.W.osa_open (s:={ s with toks:=s.toks+1 }) (r:=none) X J hp ht fun b=>?_)
 obtain⟨cd,hc,hd'⟩:=PySem.W.any_some hh
 have hx:s.heap.get? x=some ⟨.ref C,some dx,.plain,#[]⟩:=I.obj
 refine wpAny_bind (wpAny_pure (wpAny_bind (wpAny_bind (wpAny_loadPart hx (wpAny_bind (PySem.W.Looks.here (s:={ s with toks:=s.toks+1 }) (PySem.W.looks_clsIn X hc) ?_))))))
 rw[hd']
 refine wpAny_pure (a:=some dx) (wpAny_bind (wpAny_pure (wpAny_bind ?_)))
 refine wpAny_nsSet1 (s:={ s with toks:=s.toks+1 }) I.ns fun h' hn2 hs2=>?_
 obtain⟨oD,esD,epD,hoD,hdD,hcD⟩:=hn2.count (PySem.Within.cons name v hw)
 refine wpAny_bind (wpAny_lookBehind hoD (by rw[hdD];exact pastItsLine_dict (Nat.le_trans hcD (by rw[List.length_cons];omega))) ?_)
 exact wpAny_pure (h _ ⟨(hs2.2 _ (Ne.symm I.ne)).trans I.obj,hn2,I.ne⟩ hs2)
theorem make_map {R:Result→Shared→Prop} {vs:List Value} {kw:List (Str×Value)} (X:K.In s.heap) (hm:PySem.W.makesIn K C=true)
  (hi:PySem.W.findIn K (.ref C) "__init__"=some (some (.ref f))) (hf:PySem.W.typeIn K (.ref f)=some (.type "function"))
  (h:codeAny (model prog w) (A.under (.builtin "type.__call__" ⟨.ref C::vs,kw⟩)) (.call (.ref f) ⟨.ref (s.heap.objs.size+1)::vs,kw⟩) (PySem.W.InitBack (s.heap.objs.size+1) R)
   { s with heap:=(s.heap.push PySem.W.emptyDict).push (PySem.W.instObj C s.heap.objs.size) }):
  codeAny (model prog w) A (.call (.ref C) ⟨vs,kw⟩) R s:=by
 obtain⟨hh,g,d,t,os⟩:=s
 exact PySem.W.make_core (PySem.W.makes_of X hm) (PySem.W.looks_findIn X hi) (fun self=>PySem.W.bind_fn X self hf) (.inl rfl) h
end
def putF (f:Str) (v:V):List (Str×V)→List (Str×V)
 | []=>[(f,v)]
 | (g,x)::r=>if g=f then(g,v)::r else(g,x)::putF f v r
theorem zabs (f g:Str) (v:V):∀fs:List (Str×V),(putF f v fs).lookup g=if g=f then some v else fs.lookup g
 | []=>by
  show List.lookup g [(f,v)]=_
  by_cases h:g=f
  ·have hb:(g==f)=true:=beq_iff_eq.mpr h
   simp only[List.lookup,hb,if_pos h]
  ·have hb:(g==f)=false:=beq_eq_false_iff_ne.mpr h
   simp only[List.lookup,hb,if_neg h]
 | (k,x)::r=>by
  have ih:=zabs f g v r
  rw[show putF f v ((k,x)::r)=(if k=f then(k,v)::r else(k,x)::putF f v r) from rfl]
  by_cases hk:k=f
  ·rw[if_pos hk]
   by_cases h:g=k
   ·have hb:(g==k)=true:=beq_iff_eq.mpr h
    simp only[List.lookup,hb,if_pos (h.trans hk)]
   ·have hb:(g==k)=false:=beq_eq_false_iff_ne.mpr h
    simp only[List.lookup,hb,if_neg (fun e:g=f=>h (e.trans hk.symm))]
  ·rw[if_neg hk]
   by_cases h:g=k
   ·have hb:(g==k)=true:=beq_iff_eq.mpr h
    simp only[List.lookup,hb,if_neg (fun e:g=f=>hk (h.symm.trans e))]
   ·have hb:(g==k)=false:=beq_eq_false_iff_ne.mpr h
    simp only[List.lookup,hb]
    exact ih
theorem zacu (f:Str) (v:V):∀fs:List (Str×V),f∈(putF f v fs).map (·.1)∧∀g,g∈fs.map (·.1)→g∈(putF f v fs).map (·.1)
 | []=>⟨by simp[putF],fun g h=>by simp at h⟩
 | (k,x)::r=>by
  obtain⟨i1,i2⟩:=zacu f v r
  rw[show putF f v ((k,x)::r)=(if k=f then(k,v)::r else(k,x)::putF f v r) from rfl]
  by_cases hk:k=f
  ·rw[if_pos hk]
   subst hk
   exact⟨by simp,fun g h=>by simpa using h⟩
  ·rw[if_neg hk]
   refine⟨?_,fun g h=>?_⟩
   ·rw[List.map_cons]
    exact List.mem_cons_of_mem _ i1
   ·rw[List.map_cons] at h ⊢
    rcases List.mem_cons.mp h with e | e
    ·exact List.mem_cons.mpr (.inl e)
    ·exact List.mem_cons_of_mem _ (i2 g e)
theorem zacq (f:Str) (v:V):∀fs:List (Str×V),(putF f v fs).length≤fs.length+1
 | []=>by simp[putF]
 | (k,x)::r=>by
  have ih:=zacq f v r
  rw[show putF f v ((k,x)::r)=(if k=f then(k,v)::r else(k,x)::putF f v r) from rfl]
  by_cases hk:k=f
  ·rw[if_pos hk,List.length_cons,List.length_cons];omega
  ·rw[if_neg hk,List.length_cons,List.length_cons];omega
theorem RelO.some_of {v:V} {o:Option Value} (r:RelO (some v) o):∃u,o=some u∧RelV v u:=by
 cases o with
 | none=>exact(show False from r).elim
 | some u=>exact⟨u,rfl,r⟩
theorem RelO.none_of {o:Option Value} (r:RelO none o):o=none:=by
 cases o with
 | none=>rfl
 | some u=>exact(show False from r).elim
theorem handed_of {v:V} {u:Value} (r:RelV v u):PySem.W.handedIn u=true:=by
 cases v with
 | non=>cases(show u=Value.none from r);rfl
 | bl b=>cases(show u=Value.bool b from r);rfl
 | int i=>obtain⟨t,e⟩:=(show ∃t,u=Value.int i t from r);cases e;rfl
 | str x=>obtain⟨t,e⟩:=(show ∃t,u=Value.str x t from r);cases e;rfl
 | byt b=>obtain⟨t,e⟩:=(show ∃t,u=Value.bytes b t from r);cases e;rfl
 | flt b=>obtain⟨t,e⟩:=(show ∃t,u=Value.float b t from r);cases e;rfl
 | ref a=>cases(show u=Value.ref a from r);rfl
 | ty n=>cases(show u=Value.type n from r);rfl
section
variable {P:Program} {w:World} {H H':Hp} {h h':Heap} {a C dx:Addr} {fs fs':List (Str×V)}
theorem zad4 (hok:HOk P w H h) (e:H a=some (.ins C dx fs)):∃mA,ObjM h a dx C mA∧(∀f,RelO (fs.lookup f) (mA f))∧PySem.Within mA (fs.map (·.1))∧fs.length≤1000∧H dx=some (.own a):=by
 obtain⟨d,z,ne,ob,mA,n,r,q⟩:=(show ObjOk P w H h a (.ins C dx fs) from hok a _ e)
 exact⟨mA,⟨ob,n,ne⟩,r,q,z,d⟩
end
structure Cls (K:PySem.W.Frag) (C:Addr):Prop where
 pg:PySem.W.plainGet K C Str.empty=true
 hd:PySem.W.hasDictIn K C=true
 po:PySem.W.plainOver K C=true
 sa:PySem.W.findIn K (.ref C) "__setattr__"=some (some (.builtin "object.__setattr__"))
theorem Cls.get {K:PySem.W.Frag} {C:Addr} (c:Cls K C) (f:Str):PySem.W.plainGet K C f=true:=c.pg
def NoAttr (K:PySem.W.Frag) (C:Addr) (f:Str):Prop:=PySem.W.findIn K (.ref C) f=some none
theorem NoAttr.taker {K:PySem.W.Frag} {C:Addr} {f:Str} (n:NoAttr K C f):PySem.W.takerIn K C f=some none:=by
 unfold PySem.W.takerIn
 rw[show PySem.W.findIn K (.ref C) f=some none from n]
 rfl
structure Con (K:PySem.W.Frag) (C:Addr) (f:Str) (v:V) (u:Value):Prop where
 at_:PySem.W.findIn K (.ref C) f=some (some u)
 rel:RelV v u
 get:PySem.W.specialIn K u "__get__"=some none
 cp:PySem.W.copiedNames.contains f=false
structure Meth (K:PySem.W.Frag) (C:Addr) (m:Str) (f:Addr):Prop where
 at_:PySem.W.findIn K (.ref C) m=some (some (.ref f))
 fn:PySem.W.isFn K (.ref f)=true
 kp:PySem.W.keepIn K (.ref f)=true
section
variable {X:Cx} {pins:List (Addr×Obj)} {σ:St} {H:Hp} {s:Shared} {a C dx:Addr} {fs:List (Str×V)} {f:Str} {v:V} {A:Around} {E:Value→Shared→Prop}
theorem zagm {b:Bool} {Q:Value→Shared→Prop} (I:Inv X pins σ H s) (e:H a=some (.ins C dx fs)) (c:Cls X.K C) (n:NoAttr X.K C f) (l:fs.lookup f=some v)
  (h:∀u s',Inv X pins σ H s'→RelV v u→Q u s'):wpAny (model X.prog X.w) A (getAttr (.ref a) f b) Q E s:=by
 obtain⟨mA,O,r,_,_,_⟩:=zad4 I.hok e
 obtain⟨u,hu,ru⟩:=RelO.some_of (v:=v) (o:=mA f) (by rw[← l];exact r f)
 exact get_map I.kIn O (c.get f) c.hd n hu (handed_of ru) (h u _ (I.tok _) ru)
theorem zadd {m:Str} {g:Addr} {pl:Sem Bool} {Q:Value×List Value→Shared→Prop} (I:Inv X pins σ H s) (e:H a=some (.ins C dx fs)) (c:Cls X.K C) (k:Meth X.K C m g) (l:fs.lookup m=none)
  (h:Q (.ref g,[.ref a]) s):wpAny (model X.prog X.w) A (getMethod (.ref a) m pl) Q E s:=by
 obtain⟨mA,O,r,_,_,_⟩:=zad4 I.hok e
 have hn:mA m=none:=RelO.none_of (by rw[← l];exact r m)
 exact get_meth I.kIn O (c.get m) k.at_ k.fn hn h
theorem zafu {y:V} {u:Value} {Q:Unit→Shared→Prop} (I:Inv X pins σ H s) (e:H a=some (.ins C dx fs)) (c:Cls X.K C) (n:NoAttr X.K C f) (hl:fs.length < 1000) (ry:RelV y u)
  (h:∀s',Inv X pins σ (upd H a (.ins C dx (putF f y fs))) s'→Q () s'):wpAny (model X.prog X.w) A (setAttr (.ref a) f u) Q E s:=by
 obtain⟨mA,O,r,wi,_,ho⟩:=zad4 I.hok e
 have hz:(fs.map (·.1)).length≤sizeLine:=by rw[List.length_map,sizeLine_eq];omega
 refine set_map I.kIn O c.sa c.po n.taker c.hd wi hz fun h' O' sb=>h _ ?_
 have hd:∃o,h'.get? dx=some o:=let ⟨o,_,_,e',_⟩:=O'.ns;⟨o,e'⟩
 refine I.write (x:=a) (e:=dx) (by rw[e];exact True.intro) (.inr ho) (fun b q hb z=>(sb.2 b hb).trans z) hd ?_
 refine⟨by rw[upd_ne O.ne];exact ho,?_,O.ne,O'.obj,_,O'.ns,fun g=>?_,fun g hg=>?_⟩
 ·have:=zacq f y fs;omega
 ·show RelO ((putF f y fs).lookup g) (if g=f then some u else mA g)
  rw[zabs]
  by_cases q:g=f
  ·rw[if_pos q,if_pos q];exact ry
  ·rw[if_neg q,if_neg q];exact r g
 ·by_cases q:g=f
  ·rw[q];exact(zacu f y fs).1
  ·refine(zacu f y fs).2 g (wi g fun z=>hg ?_)
   show(if g=f then some u else mA g)=none
   rw[if_neg q];exact z
theorem Inv.made (I:Inv X pins σ H s):Inv X pins σ (upd (upd H s.heap.objs.size (.own (s.heap.objs.size+1))) (s.heap.objs.size+1) (.ins C s.heap.objs.size []))
  { s with heap:=(s.heap.push PySem.W.emptyDict).push (PySem.W.instObj C s.heap.objs.size) }:=by
 have e1:(s.heap.push PySem.W.emptyDict).get? s.heap.objs.size=some PySem.W.emptyDict:=Heap.get?_push_size s.heap rfl
 have e2:((s.heap.push PySem.W.emptyDict).push (PySem.W.instObj C s.heap.objs.size)).get? (s.heap.objs.size+1)=some (PySem.W.instObj C s.heap.objs.size):=by
  have:=Heap.get?_push_size (s.heap.push PySem.W.emptyDict) (o:=PySem.W.instObj C s.heap.objs.size) rfl
  rwa [Heap.size_push] at this
 have e3:(s.heap.push PySem.W.emptyDict).Ns s.heap.objs.size (fun _=>none):=⟨PySem.W.emptyDict,#[],_,e1,rfl,(fun e he=>absurd he (by simp)),fun _=>rfl⟩
 have I1:=I.laid (a:=s.heap.objs.size) (o:=.own (s.heap.objs.size+1)) (h':=s.heap.push PySem.W.emptyDict) (t':=s.toks) (fun b u q=>Heap.get?_push_of_some _ q) (Nat.le_refl _) ⟨_,e1⟩
 refine I1.laid (a:=s.heap.objs.size+1) (o:=.ins C s.heap.objs.size []) (t':=s.toks) (fun b u q=>Heap.get?_push_of_some _ q) (Nat.le_of_eq (Heap.size_push _ _)) ?_
 have ne:s.heap.objs.size≠s.heap.objs.size+1:=Nat.ne_of_lt (Nat.lt_succ_self _)
 refine⟨by rw[upd_ne ne,zaaq],Nat.zero_le _,ne,e2,fun _=>none,(Heap.Ns1.of_empty e3).at fun o q=>Heap.get?_push_of_some _ q,fun _=>True.intro,fun y hy=>absurd rfl hy⟩
theorem attr_of {prog:Program} {w:World} {env:Env} {e:Expr} {f:Str} {pos:Pos} {s:Shared} {Q:Value→Shared→Prop} (hb:attributeBase e f env (eval e env)=eval e env)
  (h:wpAny (model prog w) A (eval e env) (fun o s₁=>wpAny (model prog w) A (getAttr o f true) Q E s₁) E s):wpAny (model prog w) A (eval (.Attribute e f pos) env) Q E s:=
 Attribute_any_ h (by rw[arm_eval_Attribute,hb])
end
def tFld (K:PySem.W.Frag) (ta:TE) (f:Str):TE:=fun σ H Q=>ta σ H fun x H1=>∃a C dx fs v,x=.ref a∧H1 a=some (.ins C dx fs)∧Cls K C∧NoAttr K C f∧fs.lookup f=some v∧Q v H1
def sFld (K:PySem.W.Frag) (ta tv:TE) (f:Str):TS:=fun D σ H=>tv σ H fun y H1=>ta σ H1 fun x H2=>∃a C dx fs,x=.ref a∧H2 a=some (.ins C dx fs)∧Cls K C∧NoAttr K C f∧fs.length < 1000∧
 D.nx σ (upd H2 a (.ins C dx (putF f y fs)))
section
variable {X:Cx} {o e value:Expr} {f:Str} {pos pos' tpos:Pos} {ta tv:TE}
theorem pe_fld (he:PE X e ta) (hb:attributeBase e f X.env (eval e X.env)=eval e X.env):PE X (.Attribute e f pos) (tFld X.K ta f):=by
 intro pins s σ H Q I h
 refine attr_of hb (thn (he pins s σ H _ I h) fun u s1 ⟨x,H1,I1,rx,a,C,dx,fs,v,ex,ea,c,n,l,q⟩=>?_)
 subst ex
 obtain rfl:u=Value.ref a:=rx
 exact zagm I1 ea c n l fun u' s2 I2 ru=>⟨v,H1,I2,ru,q⟩
theorem ps_fld (ha:PE X o ta) (hv:PE X value tv) (hs:swapsWith value (some (.Attribute o f pos')) pos.line X.env=pure false):PS X (.Assign [.Attribute o f pos'] value pos) (sFld X.K ta tv f):=by
 intro pins s σ H D I h
 refine plainObj_wpAny_Assign_Attribute (thn (hv pins s σ H _ I h) fun u s1 ⟨y,H1,I1,ry,q⟩=>thn (ha pins s1 σ H1 _ I1 q) fun ov s2 ⟨x,H2,I2,rx,a,C,dx,fs,ex,ea,c,n,l,q2⟩=>?_) hs
 subst ex
 obtain rfl:ov=Value.ref a:=rx
 exact zafu I2 ea c n l ry fun s3 I3=>⟨σ,_,I3,q2⟩
end
section
variable {X:Cx} {pins:List (Addr×Obj)} {σ:St} {H:Hp} {s:Shared} {A:Around} {E:Value→Shared→Prop} {Q:Value→Shared→Prop} {c:Value} {b:Bool}
inductive TyOf (K:PySem.W.Frag) (H:Hp):V→Value→Prop where
 | non:TyOf K H .non (.type "NoneType")
 | bl (x:Bool):TyOf K H (.bl x) (.type "bool")
 | int (i:Int):TyOf K H (.int i) (.type "int")
 | str (x:Str):TyOf K H (.str x) (.type "str")
 | flt (x:UInt64):TyOf K H (.flt x) (.type "float")
 | lst {a:Addr} {xs:List V} (e:H a=some (.lst xs)):TyOf K H (.ref a) (.type "list")
 | frz {a:Addr} {o:Obj} {xs:List V} (e:H a=some (.frz o (.lst xs))):TyOf K H (.ref a) (.type "list")
 | tup {a:Addr} {xs:List V} (e:H a=some (.tup xs)):TyOf K H (.ref a) (.type "tuple")
 | dK {a:Addr} {kvs:List (Key×V)} (e:H a=some (.dK kvs)):TyOf K H (.ref a) (.type "dict")
 | dT {a:Addr} {kvs:List (List Key×V)} (e:H a=some (.dT kvs)):TyOf K H (.ref a) (.type "dict")
 | ins {a C dx:Addr} {fs:List (Str×V)} (e:H a=some (.ins C dx fs)) (cl:Cls K C) (ha:PySem.W.findIn K (.ref C) "__class__"=some (some (.builtin "object.__class__")))
   (hn:PySem.W.specialIn K (.builtin "object.__class__") "__get__"=some (some (.builtin "getset_descriptor.__get__"))) (htk:PySem.W.takesIn K (.builtin "object.__class__")=some true)
   (hm:PySem.W.mroIn K C (.type "object")=some true):TyOf K H (.ref a) (.ref C)
theorem isinst_ok {x:V} {u t:Value} (I:Inv X pins σ H s) (rx:RelV x u) (ty:TyOf X.K H x t) (e:PySem.W.kitOne X.K t c=some b) (h:∀tk,Q (.bool b) { s with toks:=tk }):
  wpAny (model X.prog X.w) A (call (.builtin "isinstance") [u,c]) Q E s:=by
 cases ty with
 | non=>cases(show u=Value.none from rx);exact PySem.W.kia_one PySem.W.kitx_none I.kIn True.intro e (fun z=>nomatch z) h
 | bl y=>cases(show u=Value.bool y from rx);exact PySem.W.kia_one PySem.W.kitx_bool I.kIn True.intro e (fun z=>nomatch z) h
 | int i=>obtain⟨t,q⟩:=(show ∃t,u=Value.int i t from rx);cases q;exact PySem.W.kia_one PySem.W.kitx_int I.kIn True.intro e (fun z=>nomatch z) h
 | str y=>obtain⟨t,q⟩:=(show ∃t,u=Value.str y t from rx);cases q;exact PySem.W.kia_one PySem.W.kitx_str I.kIn True.intro e (fun z=>nomatch z) h
 | flt y=>obtain⟨t,q⟩:=(show ∃t,u=Value.float y t from rx);cases q;exact PySem.W.kia_one PySem.W.kitx_float I.kIn True.intro e (fun z=>nomatch z) h
 | @lst a xs ea=>
  cases(show u=Value.ref a from rx)
  obtain⟨_,_,n,_,h1⟩:=(show ObjOk X.prog X.w H s.heap a (.lst xs) from I.hok a _ ea)
  exact PySem.W.kia_one PySem.W.kitx_list I.kIn ⟨_,h1,rfl⟩ e (fun z=>nomatch z) h
 | @frz a ob xs ea=>
  cases(show u=Value.ref a from rx)
  obtain⟨_,_,_,n,_,h1⟩:=(show ObjOk X.prog X.w H s.heap a (.frz ob (.lst xs)) from I.hok a _ ea)
  exact PySem.W.kia_one PySem.W.kitx_list I.kIn ⟨_,h1,rfl⟩ e (fun z=>nomatch z) h
 | @tup a xs ea=>
  cases(show u=Value.ref a from rx)
  obtain⟨_,_,_,p⟩:=(show ObjOk X.prog X.w H s.heap a (.tup xs) from I.hok a _ ea)
  obtain⟨o,h1,h2,_⟩:=p
  exact PySem.W.kia_one PySem.W.kitx_tuple I.kIn ⟨o,h1,h2⟩ e (fun z=>nomatch z) h
 | @dK a kvs ea=>
  cases(show u=Value.ref a from rx)
  obtain⟨_,_,vs,_,p⟩:=(show ObjOk X.prog X.w H s.heap a (.dK kvs) from I.hok a _ ea)
  obtain⟨o,es,ep,h1,h2,_⟩:=p
  exact PySem.W.kia_one PySem.W.kitx_dict I.kIn ⟨o,h1,h2.1⟩ e (fun z=>nomatch z) h
 | @dT a kvs ea=>
  cases(show u=Value.ref a from rx)
  obtain⟨_,_,xs,_,o,es,ep,h1,h2,_⟩:=(show ObjOk X.prog X.w H s.heap a (.dT kvs) from I.hok a _ ea)
  exact PySem.W.kia_one PySem.W.kitx_dict I.kIn ⟨o,h1,h2.1⟩ e (fun z=>nomatch z) h
 | @ins a C dx fs ea cl ha hn htk hm=>
  cases(show u=Value.ref a from rx)
  obtain⟨mA,O,_⟩:=zad4 I.hok ea
  obtain⟨od,J,_⟩:=O.look
  exact PySem.W.kia_one (PySem.W.kitx_own (cl.get _) cl.hd ha hn htk hm) I.kIn J e (fun z=>nomatch z) h
end
end L2
namespace L2
open PySem PySem.Spec PyProof.Rows
structure Room (k:Nat) (A:Around):Prop where
 hd:A.handled=none
 dp:A.depth+3*k+5 < recursionLimit
 un:A.units+16*k+200 < cLine
theorem Room.mono {j k:Nat} {A:Around} (r:Room k A) (h:j≤k):Room j A:=⟨r.hd,by have:=r.dp;omega,by have:=r.un;omega⟩
theorem Room.deeper {k:Nat} {A:Around} (r:Room (k+1) A) (env:Env):Room k (A.deeper env):=
 ⟨r.hd,by have:=r.dp;show A.depth+1+3*k+5 < _;omega,by have:=r.un;show A.units+3+16*k+200 < _;omega⟩
theorem Room.in1 {k:Nat} {A:Around} (r:Room (k+1) A):Room k A.in1:=
 ⟨r.hd,by have:=r.dp;show A.depth+3*k+5 < _;omega,by have:=r.un;show A.units+1+16*k+200 < _;omega⟩
theorem zafo {A:Around} {C:Addr} {us:List Value} {kw:List (Str×Value)}:(A.under (.builtin "type.__call__" ⟨.ref C::us,kw⟩)).depth=A.depth+1:=by
 first | rfl | simp[Around.under,Code.weight,Code.isCreation,Code.isGuard,Code.isCaller,Code.frames,Code.isFrame,guardIds]
theorem zafy {A:Around} {C:Addr} {us:List Value} {kw:List (Str×Value)}:(A.under (.builtin "type.__call__" ⟨.ref C::us,kw⟩)).units=A.units+1:=by
 first | rfl | simp[Around.under,Code.cUnits,Code.frames,Code.isFrame]
theorem Room.make {k:Nat} {A:Around} (r:Room (k+1) A) (C:Addr) (us:List Value) (kw:List (Str×Value)):Room k (A.under (.builtin "type.__call__" ⟨.ref C::us,kw⟩)):=
 ⟨r.hd,by have:=r.dp;rw[zafo];omega,by have:=r.un;rw[zafy];omega⟩
theorem Room.depth {k:Nat} {A:Around} (r:Room k A):A.depth < recursionLimit:=by have:=r.dp;omega
theorem Room.units {k:Nat} {A:Around} (r:Room k A):A.units+64 < cLine:=by have:=r.un;omega
def tNil:TA:=fun _ H Q=>Q [] H
def tCons (ta:TE) (tr:TA):TA:=fun σ H Q=>ta σ H fun x H1=>tr σ H1 fun xs H2=>Q (x::xs) H2
section
variable {X:Cx} {e:Expr} {es:List Expr} {te:TE} {t:TA} {pos:Pos}
theorem pa_nil:PA X [] tNil:=fun _ _ _ _ H Q I h=>Calls.spliced_nil ⟨[],H,I,.nil,h⟩
theorem zaa4 (ha:PE X e te) (hr:PA X es t) (hs:starEach (e::es) X.env=(false,eval e X.env)::starEach es X.env:=by rfl):PA X (e::es) (tCons te t):=by
 intro pos pins s σ H Q I h
 rw[hs]
 show wpAny _ _ (spliced ((false,eval e X.env)::backTo pos (starEach es X.env))) _ _ s
 refine Calls.spliced_cons (thn (ha pins s σ H _ I h) fun u s1 ⟨x,H1,I1,r1,q1⟩=>?_)
 exact thn (hr pos pins s1 σ H1 _ I1 q1) fun us s2 ⟨xs,H2,I2,r2,q2⟩=>⟨x::xs,H2,I2,.cons r1 r2,q2⟩
def tTup (t:TA):TE:=fun σ H Q=>t σ H fun xs H1=>xs.length≤sizeLine∧∀p,H1 p=none→Q (.ref p) (upd H1 p (.tup xs))
def tLst (t:TA):TE:=fun σ H Q=>t σ H fun xs H1=>xs.length≤sizeLine∧∀p,H1 p=none→Q (.ref p) (upd H1 p (.lst xs))
theorem pe_tup {x1} (h:PA X es t):PE X (.Tuple es x1 pos) (tTup t):=by
 intro pins s σ H Q I hq
 refine wpAny_Tuple_spliced (thn (h pos pins s σ H _ I hq) fun us s1 ⟨xs,H1,I1,r,z,q⟩=>⟨by rw[← r.length];exact z,?_⟩)
 have hf:H1 s1.heap.objs.size=none:=I1.hok.fresh (Nat.le_refl _)
 refine⟨.ref s1.heap.objs.size,upd H1 s1.heap.objs.size (.tup xs),I1.laid (t':=s1.toks) (fun b u e=>Heap.get?_push_of_some _ e) (Nat.le_refl _) ?_,rfl,q _ hf⟩
 exact⟨z,us,r,⟨_,Heap.get?_push_size _ rfl,rfl,_,rfl⟩⟩
theorem pe_lst (h:PA X es t):PE X (.List es pos) (tLst t):=by
 intro pins s σ H Q I hq
 refine wpAny_List_spliced (thn (h pos pins s σ H _ I hq) fun us s1 ⟨xs,H1,I1,r,z,q⟩=>⟨by rw[← r.length];exact z,?_⟩)
 have hf:H1 s1.heap.objs.size=none:=I1.hok.fresh (Nat.le_refl _)
 refine⟨.ref s1.heap.objs.size,upd H1 s1.heap.objs.size (.lst xs),I1.laid (t':=s1.toks) (fun b u e=>Heap.get?_push_of_some _ e) (Nat.le_refl _) ?_,rfl,q _ hf⟩
 exact⟨z,us,0,r,Heap.get?_push_size _ rfl⟩
end
abbrev Sp:=List V→Hp→VK→XK→Prop
abbrev CXT:=List Env→Hp→Shared→XK→Value→Shared→Prop
structure Env0 (P:Program) (w:World) (K:PySem.W.Frag) (mg:Str→Option Value) (base:Heap) (A:Around) (outer:List Env) (s:Shared) (H:Hp):Prop where
 frames:A.frames=some outer
 mod:Mod K mg base
 bs:∀b o,base.get? b=some o→s.heap.get? b=some o∧H b=none
 bsz:base.objs.size≤s.heap.objs.size
 funs:s.heap.FunFrames base outer
 frf:∀b∈frs outer,H b=none
 hok:HOk P w H s.heap
 bare:AllBare s.gens
def CE (outer:List Env) (P:Program) (w:World) (H:Hp) (s:Shared) (Q:VK) (u:Value) (s':Shared):Prop:=
 ∃v H',s'.os=s.os∧AllBare s'.gens∧Un (frs outer) [] H H' s.heap s'.heap∧HOk P w H' s'.heap∧RelV v u∧Q v H'
def CR (CX:CXT) (outer:List Env) (P:Program) (w:World) (H:Hp) (s:Shared) (Q:VK) (E:XK) (r:Result) (s':Shared):Prop:=
 match r with
 | .ok (.ret u)=>CE outer P w H s Q u s'
 | .ok _=>False
 | .error e=>CX outer H s E e s'
structure FnOk (P:Program) (w:World) (K:PySem.W.Frag) (mg:Str→Option Value) (base:Heap) (CX:CXT) (k:Nat) (f:Addr) (fd:FuncData) (ps:List Str) (sp:Sp):Prop where
 len:∀vs H Q E,sp vs H Q E→vs.length=ps.length
 run:∀(A:Around) (outer:List Env) (s:Shared) (H:Hp) (args:Args) (us:List Value) (vs:List V) (Q:VK) (E:XK),Room k A→Env0 P w K mg base A outer s H→BindsTo s fd args (ps.zip us)→Vals vs us→sp vs H Q E→
  codeAny (model P w) A (.call (.ref f) args) (CR CX outer P w H s Q E) s
theorem FnOk.mono {P:Program} {w:World} {K:PySem.W.Frag} {mg:Str→Option Value} {base:Heap} {CX:CXT} {j k:Nat} {f:Addr} {fd:FuncData} {ps:List Str} {sp:Sp} (F:FnOk P w K mg base CX j f fd ps sp) (h:j≤k):
  FnOk P w K mg base CX k f fd ps sp:=⟨F.len,fun A outer s H args us vs Q E hr=>F.run A outer s H args us vs Q E (hr.mono h)⟩
theorem FnOk.imp {P:Program} {w:World} {K:PySem.W.Frag} {mg:Str→Option Value} {base:Heap} {CX:CXT} {k:Nat} {f:Addr} {fd:FuncData} {ps:List Str} {sp sp':Sp} (F:FnOk P w K mg base CX k f fd ps sp)
  (h:∀vs H Q E,sp' vs H Q E→sp vs H Q E):FnOk P w K mg base CX k f fd ps sp':=
 ⟨fun vs H Q E q=>F.len vs H Q E (h _ _ _ _ q),fun A outer s H args us vs Q E hr he hb hv hs=>F.run A outer s H args us vs Q E hr he hb hv (h _ _ _ _ hs)⟩
theorem Env0.make {P:Program} {w:World} {K:PySem.W.Frag} {mg:Str→Option Value} {base:Heap} {A:Around} {outer:List Env} {s:Shared} {H:Hp} (e:Env0 P w K mg base A outer s H) (C:Addr) (us:List Value) (kw:List (Str×Value)):
  Env0 P w K mg base (A.under (.builtin "type.__call__" ⟨.ref C::us,kw⟩)) outer s H:=⟨by first | exact e.frames | (simpa [Around.under,Code.envs,Code.isFrame,pushEnvs] using e.frames),e.mod,e.bs,e.bsz,e.funs,e.frf,e.hok,e.bare⟩
theorem Env0.in1 {P:Program} {w:World} {K:PySem.W.Frag} {mg:Str→Option Value} {base:Heap} {A:Around} {outer:List Env} {s:Shared} {H:Hp} (e:Env0 P w K mg base A outer s H):
  Env0 P w K mg base A.in1 outer s H:=⟨e.frames,e.mod,e.bs,e.bsz,e.funs,e.frf,e.hok,e.bare⟩
section
variable {X:Cx} {pins:List (Addr×Obj)} {σ:St} {H:Hp} {s s':Shared}
theorem Inv.env0 (I:Inv X pins σ H s):Env0 X.prog X.w X.K X.mg X.base X.A X.stack s H:=
 ⟨I.ok.frames,I.ok.mod,I.bs,Nat.le_trans I.ok.bsz I.sz,I.stack,I.stkFree,I.hok,I.bare⟩
theorem Inv.after {Q:VK} {u:Value} (I:Inv X pins σ H s) (h:CE X.stack X.prog X.w H s Q u s'):EP X pins σ Q u s':=by
 obtain⟨v,H',os,bare,un,hok,r,q⟩:=h
 obtain⟨hh,g,d,t,os'⟩:=s'
 obtain rfl:os'=s.os:=os
 exact⟨v,H',I.call (h':=hh) (g':=g) (d':=d) (t':=t) (ch:=[]) un hok bare (fun b z=>absurd z (by simp)),r,q⟩
end
def Binds (K:PySem.W.Frag) (fd:FuncData) (ps:List Str) (ds:List Value):Prop:=
 ∀(s:Shared) (us:List Value),K.In s.heap→(us++ds).length=ps.length→BindsTo s fd ⟨us,[]⟩ (ps.zip (us++ds))
theorem Binds.all {K:PySem.W.Frag} {fd:FuncData} {ps:List Str} (h:∀us:List Value,us.length=ps.length→bindArgs fd ⟨us,[]⟩=pure (ps.zip us)):Binds K fd ps []:=fun s us _ hl=>by
 rw[List.append_nil] at hl ⊢
 exact .of_eq (h us hl)
section
variable {X:Cx} {CX:CXT} {k:Nat} {f C:Addr} {fd:FuncData} {ps:List Str} {sp:Sp} {dvs:List V} {ds:List Value} {E:XK} {x m:Str} {p pos apos:Pos} {e o:Expr} {es:List Expr} {ta:TE} {t:TA}
structure Mk (K:PySem.W.Frag) (C f:Addr):Prop where
 makes:PySem.W.makesIn K C=true
 init:PySem.W.findIn K (.ref C) "__init__"=some (some (.ref f))
 fn:PySem.W.isFn K (.ref f)=true
 kp:PySem.W.keepIn K (.ref C)=true
end
section
variable {X:Cx} {CX:CXT} {k:Nat} {f C:Addr} {fd:FuncData} {ps ks:List Str} {sp:Sp} {E:XK} {x m:Str} {p pos apos kpos:Pos} {e o:Expr} {es:List Expr} {kws:List Keyword} {te ta:TE} {t tk:TA} {nm:Option Str}
structure KBinds (K:PySem.W.Frag) (fd:FuncData) (ps ks:List Str) (g:List Value→List Value→List Value) (gV:List V→List V→List V):Prop where
 to:∀(s:Shared) (us ws:List Value),K.In s.heap→(g us ws).length=ps.length→BindsTo s fd ⟨us,ks.zip ws⟩ (ps.zip (g us ws))
 rel:∀{vs:List V} {us:List Value} {zs:List V} {ws:List Value},Vals vs us→Vals zs ws→Vals (gV vs zs) (g us ws)
variable {g:List Value→List Value→List Value} {gV:List V→List V→List V}
end
structure FnScope (N P:List Str) (sc:Scope):Prop where
 kind:sc.kind=.function
 co:sc.isCoroutine=false
 gen:sc.isGenerator=false
 nd:N.Nodup
 pre:N.take P.length=P
 par:∀x∈P,sc.names.lookup x=some .local∨sc.names.lookup x=some .cell
 nofree:∀y∈sc.names,y.2≠.free
theorem zad9 {kindOf:Str→Option NameKind} {x:Str}:∀{binds:List (Str×Value)} {m:Str→Option Value},(∀v,(x,v)∉binds)→bindL kindOf binds m x=m x
 | [],_,_=>rfl
 | (n,v)::r,m,h=>by
  unfold bindL
  rw[zad9 fun w hw=>h w (List.mem_cons_of_mem _ hw)]
  split
  ·have:x≠n:=by rintro rfl;exact h v List.mem_cons_self
   simp[this]
  ·rfl
theorem zaed {kindOf:Str→Option NameKind} {x:Str}:∀{binds:List (Str×Value)} {m:Str→Option Value},(∀v,(x,v)∉binds)→bindC kindOf binds m x=m x
 | [],_,_=>rfl
 | (n,v)::r,m,h=>by
  unfold bindC
  rw[zaed fun w hw=>h w (List.mem_cons_of_mem _ hw)]
  split
  ·rfl
  ·have:x≠n:=by rintro rfl;exact h v List.mem_cons_self
   simp[this]
theorem zad3 {kindOf:Str→Option NameKind} {x:Str} {v:Value}:∀{P:List Str} {vs:List Value} {i:Nat} {m:Str→Option Value},P.Nodup→P[i]?=some x→vs[i]?=some v→kindOf x=some .local→
  bindL kindOf (P.zip vs) m x=some v
 | [],_,_,_,_,h,_,_=>by simp at h
 | _::_,[],_,_,_,_,h,_=>by simp at h
 | p::P,w::vs,0,m,nd,h1,h2,hk=>by
  simp at h1 h2;subst h1;subst h2
  show bindL kindOf ((p,w)::P.zip vs) m p=_
  unfold bindL
  rw[zad9 fun v hv=>(List.nodup_cons.mp nd).1 (List.of_mem_zip hv).1,if_pos hk]
  simp
 | p::P,w::vs,i+1,m,nd,h1,h2,hk=>by
  show bindL kindOf ((p,w)::P.zip vs) m x=_
  unfold bindL
  exact zad3 (i:=i) (List.nodup_cons.mp nd).2 (by simpa using h1) (by simpa using h2) hk
theorem zaej {kindOf:Str→Option NameKind} {x:Str} {v:Value}:∀{P:List Str} {vs:List Value} {i:Nat} {m:Str→Option Value},P.Nodup→P[i]?=some x→vs[i]?=some v→kindOf x≠some .local→
  bindC kindOf (P.zip vs) m x=some v
 | [],_,_,_,_,h,_,_=>by simp at h
 | _::_,[],_,_,_,_,h,_=>by simp at h
 | p::P,w::vs,0,m,nd,h1,h2,hk=>by
  simp at h1 h2;subst h1;subst h2
  show bindC kindOf ((p,w)::P.zip vs) m p=_
  unfold bindC
  rw[zaed fun v hv=>(List.nodup_cons.mp nd).1 (List.of_mem_zip hv).1,if_neg hk]
  simp
 | p::P,w::vs,i+1,m,nd,h1,h2,hk=>by
  show bindC kindOf ((p,w)::P.zip vs) m x=_
  unfold bindC
  exact zaej (i:=i) (List.nodup_cons.mp nd).2 (by simpa using h1) (by simpa using h2) hk
def start (N:List Str) (vs:List V):St:=vs.map some++List.replicate (N.length - vs.length) none
def cxOf (CX:CXT) (P:Program) (w:World) (K:PySem.W.Frag) (mg:Str→Option Value) (base:Heap) (N:List Str) (qual:Str) (scope:Scope) (f:Addr) (cd:Value) (A:Around) (outer:List Env) (s:Shared) (H:Hp) (E:XK):Cx where
 prog:=P
 w:=w
 K:=K
 mg:=mg
 base:=base
 A:=A.deeper (envOfC qual scope s.heap.objs.size f cd)
 N:=N
 s₀:=s
 H₀:=H
 env:=envOfC qual scope s.heap.objs.size f cd
 outer:=outer
 stack:=envOfC qual scope s.heap.objs.size f cd::outer
 ex:=[]
 calm:=true
 fn:=fun _=>true
 pn:=[]
 xe:=fun e s'=>wpAny (model P w) (A.deeper (envOfC qual scope s.heap.objs.size f cd)) (leaving (envOfC qual scope s.heap.objs.size f cd) e) (fun _ s''=>CX outer H s E e s'') (fun e' s''=>CX outer H s E e' s'') s'
theorem zaf2 {sc:Scope} {n:Nat} {x:Str} (h:sc.names.lookup x=some .cell):∃c,(cellsFrom n sc.names []).lookup x=some c:=by
 have q:=PySem.W.cellsFrom_some sc.names n [] (.inl h)
 exact Option.isSome_iff_exists.mp q
theorem inv_start {CX:CXT} {P:Program} {w:World} {K:PySem.W.Frag} {mg:Str→Option Value} {base:Heap} {N ps:List Str} {qual:Str} {scope:Scope} {f:Addr} {cd:Value} {A:Around} {outer:List Env} {s s1:Shared} {H:Hp} {E:XK} {us:List Value} {vs:List V}
  (S:FnScope N ps scope) (hd:A.handled=none) (e0:Env0 P w K mg base A outer s H) (hl:vs.length=ps.length) (r:Vals vs us)
  (x:InCallC s s.heap.objs.size (bindL (envOfC qual scope s.heap.objs.size f cd).kindOf (ps.zip us) fun _=>none) (cellsFrom (s.heap.objs.size+1) scope.names []) (bindC (envOfC qual scope s.heap.objs.size f cd).kindOf (ps.zip us) fun _=>none) s1):
  Inv (cxOf CX P w K mg base N qual scope f cd A outer s H E) [] (start N vs) H s1:=by
 have hpl:ps.length≤N.length:=by have:=congrArg List.length S.pre;rw[List.length_take] at this;omega
 obtain⟨h1,tk,rfl,hk⟩:=x.done
 have noA:∀b:Addr,b∉(cxOf CX P w K mg base N qual scope f cd A outer s H E).ex:=fun b z=>absurd (show b∈([]:List Addr) from z) (by simp)
 refine⟨⟨e0.mod,S.kind,rfl,rfl,Nat.le_refl _,fun y z c h1 h2=>?_,fun y hy=>?_,fun y c _ h=>?_,fun _=>hd,Around.frames_deeper e0.frames,.inr ⟨rfl,rfl⟩,fun b z=>absurd z (noA b),e0.bs,e0.bsz,fun b _ _=>noA b,fun b z=>absurd z (noA b),e0.funs,e0.frf⟩,
  rfl,e0.bare,Un.kept hk,⟨_,x.toInCall.ns,fun i y v h1 h2 h3=>?_⟩,fun y c h=>⟨_,x.cell y c h⟩,e0.hok.fresh (Nat.le_refl _),fun y c h=>?_,fun p hp=>absurd (show p∈([]:List (Addr×Obj)) from hp) (by simp),e0.hok.kept hk,?_⟩
 ·exact name_of_addr x.apart (PySem.mem_of_lookup h1) (PySem.mem_of_lookup h2)
 ·have hy:scope.names.lookup y=some .cell∨scope.names.lookup y=some .free:=hy
  rcases hy with hy | hy
  ·exact zaf2 hy
  ·exact absurd rfl (S.nofree _ (PySem.mem_of_lookup hy))
 ·exact Nat.le_of_lt (x.above y c (PySem.mem_of_lookup h))
 ·have hi:i < vs.length:=by
   unfold start at h2
   by_cases hi:i < vs.length
   ·exact hi
   ·rw[List.getElem?_append_right (by simpa using hi)] at h2
    rw[List.getElem?_replicate] at h2
    split at h2<;>cases h2
  have ha:vs[i]?=some v:=by
   unfold start at h2
   rw[List.getElem?_append_left (by simpa using hi),List.getElem?_map] at h2
   cases e:vs[i]? with
   | none=>rw[e] at h2;cases h2
   | some a=>rw[e] at h2;cases h2;rfl
  obtain⟨u,hu,rv⟩:=r.get ha
  have hp:ps[i]?=some y:=by
   rw[← S.pre,List.getElem?_take_of_lt (by omega)];exact h1
  have ndP:ps.Nodup:=by rw[← S.pre];exact S.nd.sublist (List.take_sublist _ _)
  refine⟨u,rv,?_⟩
  rcases S.par y (List.mem_of_getElem? hp) with k | k
  ·exact .inl ⟨k,zad3 ndP hp hu k⟩
  ·obtain⟨c,e⟩:=zaf2 (n:=s.heap.objs.size+1) k
   refine .inr ⟨.inl k,c,e,?_⟩
   have q:=x.cell y c e
   rw[zaej ndP hp hu (by show scope.names.lookup y≠_;rw[k];decide)] at q
   exact q
 ·exact e0.hok.fresh (Nat.le_of_lt (x.above y c (PySem.mem_of_lookup h)))
 ·unfold start
  show _=N.length
  rw[List.length_append,List.length_map,List.length_replicate]
  omega
theorem fn_of {CX:CXT} {P:Program} {w:World} {K:PySem.W.Frag} {mg:Str→Option Value} {base:Heap} {k:Nat} {f:Addr} {name qual:Str} {params:Arguments} {body:List Stmt} {scope:Scope} {dV kV doc pm cdv ct oc:Value} {an od:Option Addr}
  {osl:Array (Option Value)} {N ps:List Str} {sp:Sp} (lk:K.lookup f=some ⟨oc,od,.func (PySem.W.fnOf name qual params body scope dV kV doc pm an cdv ct),osl⟩) (hcd:PySem.W.codeIn K cdv qual=true) (S:FnScope N ps scope)
  (len:∀vs H Q E,sp vs H Q E→vs.length=ps.length)
  (hbody:∀(A:Around) (outer:List Env) (s:Shared) (H:Hp) (vs:List V) (Q:VK) (E:XK),Room k (A.deeper (envOfC qual scope s.heap.objs.size f cdv))→sp vs H Q E→
   ∃t,PSs (cxOf CX P w K mg base N qual scope f cdv A outer s H E) body t∧t { nx:=fun _ H'=>Q .non H',rt:=Q } (start N vs) H):
  FnOk P w K mg base CX (k+1) f (PySem.W.fnOf name qual params body scope dV kV doc pm an cdv ct) ps sp:=by
 refine⟨len,fun A outer s H args us vs Q E hr e0 hb r hsp=>?_⟩
 have hl:=len _ _ _ _ hsp
 have KX:K.In s.heap:=e0.mod.kin.keeps fun b o e=>(e0.bs b o e).1
 have lim:s.heap.NoLimit:=e0.mod.nolimit.keeps fun b o e=>(e0.bs b o e).1
 have hkind:∀y∈ps.zip us,scope.names.lookup y.1=some .local∨(scope.names.lookup y.1=some .cell∧((cellsFrom (s.heap.objs.size+1) scope.names []).lookup y.1).isSome=true):=fun⟨n,v⟩ hy=>by
  rcases S.par n (List.of_mem_zip hy).1 with q | q
  ·exact .inl q
  ·exact .inr ⟨q,PySem.W.cellsFrom_some _ _ _ (.inl q)⟩
 refine codeAny_call_function hr.depth (KX _ _ lk) rfl S.co S.gen rfl (PySem.W.codeRec_of KX hcd) (hb _ _ _ _ ?_)
 refine wpAny_newFunctionEnv_cells S.kind hkind fun env he s1 x=>?_
 subst he
 refine⟨lim.keeps x.toInCall.keep,codeAny_func ?_⟩
 obtain⟨t,ht,hq⟩:=hbody A outer s H vs Q E (hr.deeper _) hsp
 have I:Inv (cxOf CX P w K mg base N qual scope f cdv A outer s H E) [] (start N vs) H s1:=inv_start S hr.hd e0 hl r x
 refine wpAny_mono (ht [] s1 (start N vs) H _ I hq) (fun fl s' hs=>?_) fun e s' hs=>hs
 have fin:∀{σ':St} {H':Hp} {v:V} {u:Value},Inv (cxOf CX P w K mg base N qual scope f cdv A outer s H E) [] σ' H' s'→RelV v u→Q v H'→CE outer P w H s Q u s':=
  fun {σ' H' v u} J rv q=>⟨v,H',J.os,J.bare,J.base,J.hok,rv,q⟩
 cases fl with
 | ret u=>
  obtain⟨v,σ',H',J,rv,q⟩:=hs
  exact fin J rv q
 | next=>
  obtain⟨σ',H',J,q⟩:=hs
  exact fin (v:=V.non) (u:=Value.none) J rfl q
 | brk=>
  obtain⟨_,_,_,q⟩:=hs
  exact False.elim q
 | cont=>
  obtain⟨_,_,_,q⟩:=hs
  exact False.elim q
end L2
namespace L2
open PySem PySem.Spec PyProof.Rows
section
variable {X:Cx} {x:Str} {p pos:Pos} {e:Expr} {es:List Expr} {t:TA} {id T:String} {r:List V→Hp→VK→Prop}
def tCB (r:List V→Hp→VK→Prop) (t:TA):TE:=fun σ H Q=>t σ H fun vs H1=>r vs H1 Q
theorem zads (hc:CallR X (.builtin id) r) (hg:Gl X x) (hm:X.mg x=none) (hv:bootBuiltins x=some (.builtin id)) (ha:PA X (e::es) t) (hn:x≠"__name__":=by decide) (hdb:(x==("__debug__":Str))=false:=by decide)
  (he:starEach (e::es) X.env=(false,eval e X.env)::starEach es X.env:=by rfl) (hpl:(backTo pos (starEach es X.env)).any (·.1)=false:=by rfl):PE X (.Call (.Name x p) (e::es) [] pos) (tCB r t):=by
 intro pins s σ H Q I h
 refine wpAny_Call_Name_kw (ld_blt I hg hm hv ?_ hn hdb)
 exact PyProof.Rows.callWith_builtin1 (thn (ha pos pins s σ H _ I h) fun us s1 ⟨vs,H1,I1,r1,q1⟩=>hc pins s1 σ H1 vs us Q I1 r1 q1) he hpl
theorem zad5 (hc:CallR X (.type T) r) (hg:Gl X x) (hm:X.mg x=none) (hv:bootBuiltins x=some (.type T)) (ha:PA X (e::es) t) (hn:x≠"__name__":=by decide) (hdb:(x==("__debug__":Str))=false:=by decide)
  (he:starEach (e::es) X.env=(false,eval e X.env)::starEach es X.env:=by rfl) (hpl:(backTo pos (starEach es X.env)).any (·.1)=false:=by rfl):PE X (.Call (.Name x p) (e::es) [] pos) (tCB r t):=by
 intro pins s σ H Q I h
 refine wpAny_Call_Name_kw (ld_blt I hg hm hv ?_ hn hdb)
 exact PyProof.Rows.callWith_type1 (thn (ha pos pins s σ H _ I h) fun us s1 ⟨vs,H1,I1,r1,q1⟩=>hc pins s1 σ H1 vs us Q I1 r1 q1) he hpl
end
end L2
namespace HT
open PySem PyProof.Rows
section
open PySem.SeqAt
open PySem.AutoSeq1 (wpAny_loadPart')
open PySem.MeetsSeq PySem.MeetsSeq2 PySem.MeetsSeq3
end
section
variable {prog:Program} {w:World} {A:Around} {E:Value→Shared→Prop} {s:Shared}
theorem cat_tup {t b:Addr} {vs ws:List Value} {Q:Value→Shared→Prop} (ht:IsTup s.heap t vs.toArray) (hb:IsTup s.heap b ws.toArray) (hv:vs≠[])
  (h1:ws=[]→Q (.ref t) s) (h2:ws≠[]→Q (.ref s.heap.objs.size) { s with heap:=s.heap.push { cls:=.type "tuple",data:=.seq (vs++ws).toArray } })
  (hsz:vs.length+ws.length≤sizeLine):wpAny (model prog w) A (binaryOp .Add (.ref t) (.ref b)) Q E s:=by
 obtain⟨⟨cls,dd,data,sl⟩,ho,hc,n,hd⟩:=id ht
 obtain⟨⟨cls2,dd2,data2,sl2⟩,ho2,hc2,n2,hd2⟩:=id hb
 simp only at hc hd hc2 hd2
 subst hc hd hc2 hd2
 have e:vs.toArray++ws.toArray=(vs++ws).toArray:=by simp
 by_cases hw:ws=[]
 ·exact concat_meets ⟨_,ho,rfl⟩ ⟨_,ho2,rfl⟩ noFill_tuple_add seq_tuple_add PySem.F.slot_tuple_add PySem.F.entry_tuple_add (PySem.F.args_tuple_add_2 _ _)
   (tuple_addW1 t b vs.toArray ws.toArray n n2 dd dd2 sl sl2 (by simpa using hv) (by simp[hw])) ⟨ho,ho2,h1 hw⟩
 ·refine concat_meets ⟨_,ho,rfl⟩ ⟨_,ho2,rfl⟩ noFill_tuple_add seq_tuple_add PySem.F.slot_tuple_add PySem.F.entry_tuple_add (PySem.F.args_tuple_add_2 _ _)
   (tuple_addW2 t b vs.toArray ws.toArray n n2 dd dd2 sl sl2 (by simpa using hv) (by simpa using hw) (by rw[List.size_toArray,List.size_toArray];exact hsz)) ⟨ho,ho2,?_⟩
  rw[e]
  exact h2 hw
def sIx (n d:Nat):Option Int→Nat
 | none=>d
 | some v=>if v < 0 then(v+(n:Int)).toNat else min v.toNat n
theorem sIx_le (n d:Nat) (hd:d≤n) (o:Option Int):sIx n d o≤n:=by
 cases o with
 | none=>exact hd
 | some v=>
  show(if v < 0 then(v+(n:Int)).toNat else min v.toNat n)≤n
  by_cases hv:v < 0
  ·rw[if_pos hv];omega
  ·rw[if_neg hv];exact Nat.min_le_right _ _
theorem clip_eq (v:Int) (n d:Nat):(if v < 0 then max (v+(n:Int)) 0 else min v (n:Int))=((sIx n d (some v):Nat):Int):=by
 show(if v < 0 then max (v+(n:Int)) 0 else min v (n:Int))=(((if v < 0 then(v+(n:Int)).toNat else min v.toNat n):Nat):Int)
 by_cases hv:v < 0
 ·simp only[if_pos hv];omega
 ·simp only[if_neg hv];omega
theorem zaev (lo hi:Option Int) (n:Nat):Builtin.Slice.sliceAdjust lo hi 1 (n:Int)=(((sIx n 0 lo:Nat):Int),((sIx n n hi:Nat):Int)):=by
 have h1:¬((1:Int) < 0):=by omega
 unfold Builtin.Slice.sliceAdjust
 simp only[h1,if_false]
 refine Prod.ext ?_ ?_
 ·cases lo with
  | none=>rfl
  | some v=>exact clip_eq v n 0
 ·cases hi with
  | none=>rfl
  | some v=>exact clip_eq v n n
theorem zaft (i j:Nat):Builtin.Slice.slicePlaces (i:Int) (j:Int) 1=j - i:=by
 unfold Builtin.Slice.slicePlaces
 have h1:(1:Int) > 0:=by omega
 simp only[h1,if_true,Int.ediv_one]
 split<;>omega
theorem zac9 {v:Value} {o:Option Int} {Q:Option Int→Shared→Prop} (p:IsPart v o) (h:Q o s):wpAny (model prog w) A (Builtin.Slice.slicePartIndex v) Q E s:=by
 cases p with
 | none=>exact slicePart_none h
 | int i t=>exact slicePart_int h
theorem zacm {sl:Addr} {vl vu:Value} {lo hi:Option Int} {n:Nat} {Q:Int×Int×Nat→Shared→Prop} (hs:s.heap.IsSliceOf sl vl vu .none) (pl:IsPart vl lo) (pu:IsPart vu hi)
  (h:Q (((sIx n 0 lo:Nat):Int),1,sIx n n hi - sIx n 0 lo) s):wpAny (model prog w) A (Builtin.Slice.sliceApplied (.ref sl) (pure (n:Int))) Q E s:=by
 obtain⟨os,hos,hcs,hds⟩:=id hs
 unfold Builtin.Slice.sliceApplied Builtin.Slice.sliceFields
 refine wpAny_bind (wpAny_bind (wpAny_field hos hds (x:=vl) rfl (wpAny_bind (wpAny_field hos hds (x:=vu) rfl (wpAny_bind (wpAny_field hos hds (x:=.none) rfl (wpAny_pure ?_)))))))
 refine wpAny_bind (slicePart_none ?_)
 show wpAny _ _ (if((1:Int)==0)=true then _ else _) _ _ s
 rw[if_neg (by decide)]
 refine wpAny_bind (zac9 pl (wpAny_bind (zac9 pu (wpAny_bind (wpAny_pure ?_)))))
 show wpAny _ _ (match Builtin.Slice.sliceAdjust lo hi 1 (n:Int) with | (lo,hi)=>pure (lo,(1:Int),Builtin.Slice.slicePlaces lo hi 1)) _ _ s
 rw[zaev lo hi n]
 show wpAny _ _ (pure (((sIx n 0 lo:Nat):Int),(1:Int),Builtin.Slice.slicePlaces ((sIx n 0 lo:Nat):Int) ((sIx n n hi:Nat):Int) 1)) _ _ s
 rw[zaft]
 exact wpAny_pure h
theorem pick_gen (xs:Array Value) (i k:Nat):((List.range k).filterMap fun(m:Nat)=>xs[((i:Int)+(m:Int)*1).toNat]?).toArray=((xs.toList.drop i).take k).toArray:=by
 have e:(fun(m:Nat)=>xs[((i:Int)+(m:Int)*1).toNat]?)=fun m=>xs[i+m]?:=by
  funext m
  have:((i:Int)+(m:Int)*1).toNat=i+m:=by omega
  rw[this]
 rw[e]
 have:=pick_run xs i k
 rw[List.filterMap_map] at this
 have e2:((fun x=>xs[x]?)∘fun x=>i+x)=fun m=>xs[i+m]?:=rfl
 rw[e2] at this
 rw[this]
theorem getItem_tuple_cut {t sl:Addr} {items:Array Value} {vl vu:Value} {lo hi:Option Int} {Q:Value→Shared→Prop} (ht:IsTup s.heap t items) (hs:s.heap.IsSliceOf sl vl vu .none) (pl:IsPart vl lo) (pu:IsPart vu hi)
  (hw:¬(sIx items.size 0 lo=0∧sIx items.size items.size hi=items.size))
  (h:Q (.ref s.heap.objs.size) { s with heap:=s.heap.push { cls:=.type "tuple",data:=.seq ((items.toList.drop (sIx items.size 0 lo)).take (sIx items.size items.size hi - sIx items.size 0 lo)).toArray } })
  (hsz:items.size≤sizeLine):wpAny (model prog w) A (getItem (.ref t) (.ref sl)) Q E s:=by
 have htake:sizeOk (.seq ((items.toList.drop (sIx items.size 0 lo)).take (sIx items.size items.size hi - sIx items.size 0 lo)).toArray):=by
  show((items.toList.drop (sIx items.size 0 lo)).take (sIx items.size items.size hi - sIx items.size 0 lo)).toArray.size≤sizeLine
  rw[List.size_toArray,List.length_take,List.length_drop,Array.length_toList]
  omega
 have hj:sIx items.size items.size hi≤items.size:=sIx_le _ _ (Nat.le_refl _) hi
 obtain⟨os,hos,hcs,hds⟩:=id hs
 have hTs:s.TypeIs (.ref sl) "slice":=⟨os,hos,hcs⟩
 unfold getItem
 try with_reducible refine wpAny_holding ?_
 first | refine wpAny_bind (wpAny_pure ?_) | skip
 refine wpAny_bind (wpAny_sequenceKey ht.typeIs (by decide) ?_)
 refine wpAny_bind (wpAny_callSpecial?_slot (name:=Str.ofString "__getitem__") ht.typeIs PyProof.Rows.slot_tuple_getitem
  (wpAny_call_entry PyProof.Rows.slot_tuple_getitem ht.typeIs entry_tuple_getitem ?_ (args_tuple_getitem _ _)))
 show wpAny _ _ (Builtin.Tuple.tupleItemsOf (.ref t) >>= _) _ _ s
 refine wpAny_bind (tupleItemsOf_ ht ?_)
 refine wpAny_bind (wpAny_typeOf hTs ?_)
 rw[if_pos (by decide)]
 refine wpAny_bind (zacm hs pl pu ?_)
 have hno:¬((((sIx items.size 0 lo:Nat):Int)==0&&(1:Int)==1&&(sIx items.size items.size hi - sIx items.size 0 lo)==items.size)=true):=by
  intro q
  rw[Bool.and_eq_true,Bool.and_eq_true] at q
  have q1:((sIx items.size 0 lo:Nat):Int)=0:=eq_of_beq q.1.1
  have q2:sIx items.size items.size hi - sIx items.size 0 lo=items.size:=eq_of_beq q.2
  exact hw ⟨by omega,by omega⟩
 show wpAny _ _ (if(((sIx items.size 0 lo:Nat):Int)==0&&(1:Int)==1&&(sIx items.size items.size hi - sIx items.size 0 lo)==items.size)=true then _ else _) _ _ s
 rw[if_neg hno,pick_gen]
 first
  | exact wpAny_bind (m:=Builtin.Tuple.tupleExact _) (wpAny_newObj_type (wpAny_pure ⟨_,rfl,wpAny_pure h⟩) htake)
  | exact wpAny_bind (m:=Builtin.Tuple.tupleExact _) (wpAny_newObj_type (wpAny_bind (wpAny_pure (wpAny_pure ⟨_,rfl,wpAny_pure h⟩))) htake)
  | exact wpAny_bind (wpAny_bind (m:=Builtin.Tuple.tupleExact _) (wpAny_newObj_type (wpAny_pure (wpAny_pure ⟨_,rfl,wpAny_pure h⟩)) htake))
  | exact wpAny_bind (wpAny_bind (m:=Builtin.Tuple.tupleExact _) (wpAny_newObj_type (wpAny_pure ⟨_,rfl,wpAny_pure h⟩) htake))
end
end HT
namespace L2
open PySem PySem.Spec PyProof.Rows
abbrev TO:=St→Hp→(Option Int→Hp→Prop)→Prop
def PO (X:Cx) (e:Option Expr) (t:TO):Prop:=
 ∀(pins:List (Addr×Obj)) (s:Shared) (σ:St) (H:Hp) (Q:Option Int→Hp→Prop),Inv X pins σ H s→t σ H Q→
  wpAny (model X.prog X.w) X.A (evalPart e X.env) (fun u s'=>∃o H',Inv X pins σ H' s'∧IsPart u o∧Q o H') X.xe s
def tNoPart:TO:=fun _ H Q=>Q none H
def tPart (t:TE):TO:=fun σ H Q=>t σ H fun x H1=>∃i,x=.int i∧Q (some i) H1
section
variable {X:Cx} {e:Expr} {te:TE} {lo hi:Option Expr} {tl th:TO} {pos p2:Pos}
theorem po_none:PO X none tNoPart:=by
 intro pins s σ H Q I h
 rw[evalPart_none]
 exact wpAny_pure ⟨none,H,I,.none,h⟩
theorem po_some (h:PE X e te):PO X (some e) (tPart te):=by
 intro pins s σ H Q I hw
 rw[evalPart_some]
 refine thn (h pins s σ H _ I hw) fun u s1 ⟨x,H1,I1,r1,q1⟩=>?_
 obtain⟨i,rfl,q⟩:=q1
 obtain⟨t,rfl⟩:=r1
 exact⟨some i,H1,I1,.int i t,q⟩
def SlR (X:Cx) (r:V→Option Int→Option Int→Hp→VK→Prop):Prop:=
 ∀(pins:List (Addr×Obj)) (s:Shared) (σ:St) (H:Hp) (x:V) (v vl vu:Value) (lo hi:Option Int) (sl:Addr) (Q:VK),Inv X pins σ H s→RelV x v→s.heap.IsSliceOf sl vl vu .none→IsPart vl lo→IsPart vu hi→r x lo hi H Q→
  ∃T id,typeLookup (.type T) "__getitem__"=pure (some (.builtin id))∧s.TypeIs v T∧wpAny (model X.prog X.w) X.A (getItem v (.ref sl)) (EP X pins σ Q) X.xe s
theorem SlR.or {r r':V→Option Int→Option Int→Hp→VK→Prop} (h:SlR X r) (h':SlR X r'):SlR X (fun x lo hi H Q=>r x lo hi H Q∨r' x lo hi H Q):=by
 intro pins s σ H x v vl vu lo hi sl Q I rx hs pl pu q
 rcases q with q | q
 ·exact h pins s σ H x v vl vu lo hi sl Q I rx hs pl pu q
 ·exact h' pins s σ H x v vl vu lo hi sl Q I rx hs pl pu q
def tSl (r:V→Option Int→Option Int→Hp→VK→Prop) (te:TE) (tl th:TO):TE:=fun σ H Q=>te σ H fun x H1=>tl σ H1 fun l H2=>th σ H2 fun u H3=>r x l u H3 Q
theorem zafb {r:V→Option Int→Option Int→Hp→VK→Prop} (hr:SlR X r) (he:PE X e te) (hl:PO X lo tl) (hu:PO X hi th):PE X (.Subscript e (.Slice lo hi none p2) pos) (tSl r te tl th):=by
 intro pins s σ H Q I h
 refine Subscript_ (thn (he pins s σ H _ I h) fun v s1 ⟨x,H1,I1,r1,q1⟩=>?_)
 refine wpAny_Slice (thn (hl pins s1 σ H1 _ I1 q1) fun vl s2 ⟨l,H2,I2,pl,q2⟩=>thn (hu pins s2 σ H2 _ I2 q2) fun vu s3 ⟨u,H3,I3,pu,q3⟩=>?_)
 rw[evalPart_none]
 refine wpAny_pure ?_
 have I4:Inv X pins σ H3 { s3 with heap:=s3.heap.push { cls:=.type "slice",data:=.fields #[vl,vu,.none] } }:=I3.kept (t':=s3.toks) fun b ob q=>Heap.get?_push_of_some _ q
 obtain⟨T,id,hT,ht,hg⟩:=hr pins { s3 with heap:=s3.heap.push { cls:=.type "slice",data:=.fields #[vl,vu,.none] } } σ H3 x v vl vu l u s3.heap.objs.size Q I4 r1 (Heap.IsSliceOf.new ..) pl pu q3
 show wpAny (model X.prog X.w) X.A (subscriptTail e (.Slice lo hi none p2) v (.ref s3.heap.objs.size)) (EP X pins σ Q) X.xe { s3 with heap:=s3.heap.push { cls:=.type "slice",data:=.fields #[vl,vu,.none] } }
 exact tail_any (ops:=[.ref s3.heap.objs.size,v]) ht hT hg (by with_unfolding_all rfl)
def cutV (xs:List V) (lo hi:Option Int):List V:=(xs.drop (HT.sIx xs.length 0 lo)).take (HT.sIx xs.length xs.length hi - HT.sIx xs.length 0 lo)
theorem zacr (xs:List V) (lo hi:Option Int):(cutV xs lo hi).length≤xs.length:=by
 unfold cutV
 rw[List.length_take,List.length_drop]
 omega
def rSlT (K:PySem.W.Frag):V→Option Int→Option Int→Hp→VK→Prop:=fun x lo hi H Q=>∃a xs,x=.ref a∧SqT K H a xs∧
 ¬(HT.sIx xs.length 0 lo=0∧HT.sIx xs.length xs.length hi=xs.length)∧∀p,H p=none→Q (.ref p) (upd H p (.tup (cutV xs lo hi)))
theorem sl_tup:SlR X (rSlT X.K):=by
 intro pins s σ H x v vl vu lo hi sl Q I rx hs pl pu h
 obtain⟨a,xs,rfl,hx,hw,q⟩:=h
 cases rx
 obtain⟨its,r,ht,hz⟩:=I.tuple hx
 have hlen:its.toArray.size=xs.length:=by rw[List.size_toArray];exact r.length.symm
 refine⟨"tuple",_,PyProof.Rows.slot_tuple_getitem.lookup,ht.typeIs,?_⟩
 refine HT.getItem_tuple_cut ht hs pl pu (by rw[hlen];exact hw) ?_ (by rw[hlen];exact hz)
 rw[hlen]
 refine⟨.ref s.heap.objs.size,_,I.laid (t':=s.toks) (o:=.tup (cutV xs lo hi)) (fun b ob q=>Heap.get?_push_of_some _ q) (Nat.le_refl _) ?_,rfl,q _ (I.hok.fresh (Nat.le_refl _))⟩
 exact⟨Nat.le_trans (zacr xs lo hi) hz,_,(r.drop (HT.sIx xs.length 0 lo)).take (HT.sIx xs.length xs.length hi - HT.sIx xs.length 0 lo),IsTup.new _ _⟩
def rCatT (K:PySem.W.Frag):R2:=fun x y H Q=>∃a b xs ys,x=.ref a∧y=.ref b∧SqT K H a xs∧SqT K H b ys∧xs≠[]∧xs.length+ys.length≤sizeLine∧
 (ys=[]→Q (.ref a) H)∧(ys≠[]→∀p,H p=none→Q (.ref p) (upd H p (.tup (xs++ys))))
theorem Vals.nil_iff {xs:List V} {us:List Value} (r:Vals xs us):us=[]↔xs=[]:=by
 cases r with
 | nil=>simp
 | cons _ _=>simp
theorem op_catT:OpR X (binaryOp .Add) (rCatT X.K):=by
 intro pins s σ H x y v u Q I rx ry h
 obtain⟨a,b,xs,ys,rfl,rfl,ha,hb,hx,hz,q1,q2⟩:=h
 cases rx
 cases ry
 obtain⟨its,r1,p1,_⟩:=I.tuple ha
 obtain⟨its2,r2,p2,_⟩:=I.tuple hb
 refine HT.cat_tup p1 p2 (fun z=>hx (r1.nil_iff.mp z)) (fun z=>⟨.ref a,H,I,rfl,q1 (r2.nil_iff.mp z)⟩) (fun z=>?_) (by rw[← r1.length,← r2.length];exact hz)
 refine⟨.ref s.heap.objs.size,_,I.laid (t':=s.toks) (o:=.tup (xs++ys)) (fun b ob q=>Heap.get?_push_of_some _ q) (Nat.le_refl _) ?_,rfl,q2 (fun w=>z (r2.nil_iff.mpr w)) _ (I.hok.fresh (Nat.le_refl _))⟩
 exact⟨by rw[List.length_append];exact hz,_,r1.append r2,IsTup.new _ _⟩
end
end L2
namespace L2
open PySem PySem.Spec PyProof.Rows
def ixN (n:Nat) (i:Int):Option Nat:=if 0≤i then(if i < n then some i.toNat else none) else if -(n:Int)≤i then some (i+n).toNat else none
def atI {α:Type} (xs:List α) (i:Int):Option α:=(ixN xs.length i).bind fun j=>xs[j]?
theorem ixN_seq {n:Nat} {i:Int} {j:Nat} (h:ixN n i=some j):seqIndex? i n=some j∧j < n∧-(n:Int)≤i∧i < n:=by
 unfold ixN at h
 by_cases h0:0≤i
 ·rw[if_pos h0] at h
  by_cases h1:i < n
  ·rw[if_pos h1] at h
   have e:i.toNat=j:=Option.some.inj h
   exact⟨by rw[seqIndex_of h0 h1,e],by omega,by omega,h1⟩
  ·rw[if_neg h1] at h;cases h
 ·rw[if_neg h0] at h
  by_cases h1:-(n:Int)≤i
  ·rw[if_pos h1] at h
   have e:(i+n).toNat=j:=Option.some.inj h
   exact⟨by rw[seqIndex_neg (by omega) h1,e],by omega,h1,by omega⟩
  ·rw[if_neg h1] at h;cases h
theorem zaet {α:Type} {xs:List α} {i:Int} {v:α} (h:atI xs i=some v):∃j,seqIndex? i xs.length=some j∧xs[j]?=some v∧j < xs.length∧-(xs.length:Int)≤i∧i < xs.length:=by
 unfold atI at h
 cases e:ixN xs.length i with
 | none=>rw[e] at h;cases h
 | some j=>
  rw[e] at h
  obtain⟨h1,h2,h3,h4⟩:=ixN_seq e
  exact⟨j,h1,h,h2,h3,h4⟩
def zafj (b:Expr):Prop:=∀o i,subscripted b false o i=operate [o,i] (getItem o i)
def IxR (X:Cx) (r:R2):Prop:=
 ∀(value slice:Expr) (pins:List (Addr×Obj)) (s:Shared) (σ:St) (H:Hp) (x y:V) (v u:Value) (Q:VK),Inv X pins σ H s→RelV x v→RelV y u→r x y H Q→
  subscripted slice false v u=operate [v,u] (getItem v u)→wpAny (model X.prog X.w) X.A (subscriptTail value slice v u) (EP X pins σ Q) X.xe s
def MtR (X:Cx) (id:String) (r:V→List V→Hp→VK→Prop):Prop:=
 ∀(pins:List (Addr×Obj)) (s:Shared) (σ:St) (H:Hp) (x:V) (xs:List V) (v:Value) (us:List Value) (Q:VK),Inv X pins σ H s→RelV x v→Vals xs us→r x xs H Q→
  wpAny (model X.prog X.w) X.A (call (.builtin id) (v::us)) (EP X pins σ Q) X.xe s
section
variable {X:Cx} {a b:Expr} {ta tb:TE} {pos:Pos}
theorem IxR.or {r r':R2} (h:IxR X r) (h':IxR X r'):IxR X (fun x y H Q=>r x y H Q∨r' x y H Q):=by
 intro value slice pins s σ H x y v u Q I rx ry q hs
 rcases q with q | q
 ·exact h value slice pins s σ H x y v u Q I rx ry q hs
 ·exact h' value slice pins s σ H x y v u Q I rx ry q hs
theorem MtR.or {id:String} {r r':V→List V→Hp→VK→Prop} (h:MtR X id r) (h':MtR X id r'):MtR X id (fun x xs H Q=>r x xs H Q∨r' x xs H Q):=by
 intro pins s σ H x xs v us Q I rx rs q
 rcases q with q | q
 ·exact h pins s σ H x xs v us Q I rx rs q
 ·exact h' pins s σ H x xs v us Q I rx rs q
theorem pe_ix {r:R2} (hr:IxR X r) (ha:PE X a ta) (hb:PE X b tb) (hs:zafj b):PE X (.Subscript a b pos) (tOp r ta tb):=by
 intro pins s σ H Q I h
 exact Subscript_ (binT ha hb I h fun v u s2 x y H2 I2 rx ry q=>hr a b pins s2 σ H2 x y v u Q I2 rx ry q (hs _ _))
def rIxL (K:PySem.W.Frag):R2:=fun x y H Q=>∃p xs i v,x=.ref p∧y=.int i∧SqL K H p xs∧atI xs i=some v∧Q v H
def rIxT (K:PySem.W.Frag):R2:=fun x y H Q=>∃p xs i v,x=.ref p∧y=.int i∧SqT K H p xs∧atI xs i=some v∧Q v H
def rIxS:R2:=fun x y H Q=>∃z i c,x=.str z∧y=.int i∧z.length≤sizeLine∧atI z.cps.toList i=some c∧Q (.str ⟨#[c]⟩) H
theorem ix_list:IxR X (rIxL X.K):=by
 intro value slice pins s σ H x y v u Q I rx ry h hs
 obtain⟨p,xs,i,z,rfl,rfl,hq,he,q⟩:=h
 cases rx
 obtain⟨t,rfl⟩:=ry
 obtain⟨its,r,pl,hz⟩:=I.list hq
 obtain⟨j,h1,h2,h3,h4,h5⟩:=zaet he
 obtain⟨w,ew,rw'⟩:=r.get h2
 have hl:=r.length
 have hn:=line63
 have fin:EP X pins σ Q w s:=⟨z,H,I,rw',q⟩
 by_cases h0:0≤i
 ·have hj:i.toNat=j:=by
   rw[seqIndex_of h0 h5] at h1
   exact Option.some.inj h1
  exact item_listR pl.isList h0 (by omega) (by rw[hj];simpa using ew) fin hs
 ·have hj:(i+(its.toArray.size:Int)).toNat=j:=by
   rw[seqIndex_neg (by omega) h4] at h1
   rw[List.size_toArray,← hl]
   exact Option.some.inj h1
  exact subscriptTail_builtinR (x:=w) pl.isList.typeIs slot_list_getitem.lookup
   (wpAny_getItem_list_neg (Q:=fun r s'=>r=w∧EP X pins σ Q r s') pl.isList (by omega) (by rw[List.size_toArray]<;>omega) (by omega) (by rw[hj];simpa using ew) ⟨rfl,fin⟩) hs
theorem ix_tup:IxR X (rIxT X.K):=by
 intro value slice pins s σ H x y v u Q I rx ry h hs
 obtain⟨p,xs,i,z,rfl,rfl,hq,he,q⟩:=h
 cases rx
 obtain⟨t,rfl⟩:=ry
 obtain⟨its,r,pl,hz⟩:=I.tuple hq
 obtain⟨j,h1,h2,h3,h4,h5⟩:=zaet he
 obtain⟨w,ew,rw'⟩:=r.get h2
 have hl:=r.length
 have hn:=line63
 have fin:EP X pins σ Q w s:=⟨z,H,I,rw',q⟩
 exact subscriptTail_builtinR (x:=w) pl.typeIs slot_tuple_getitem.lookup
  (getItem_tuple (j:=j) (Q:=fun r s'=>r=w∧EP X pins σ Q r s') pl (by omega) (by omega) (by rw[List.size_toArray,← hl];exact h1) (by simpa using ew) ⟨rfl,fin⟩) hs
theorem ix_str:IxR X rIxS:=by
 intro value slice pins s σ H x y v u Q I rx ry h hs
 obtain⟨z,i,c,rfl,rfl,hz,he,q⟩:=h
 obtain⟨t,rfl⟩:=rx
 obtain⟨t',rfl⟩:=ry
 obtain⟨j,h1,h2,h3,h4,h5⟩:=zaet he
 have hl:z.cps.toList.length=z.length:=by simp[Str.length]
 rw[hl] at h1 h4 h5
 have hn:=line63
 exact tail_any (typeIs_str s z t) slot_str_getitem.lookup (getItem_str (c:=c) (by
  have e1:decide (i < -(2^63:Int))=false:=decide_eq_false (by omega)
  have e2:decide (i≥2^63)=false:=decide_eq_false (by omega)
  rw[e1,e2,Bool.or_false]) (by rw[h1];simpa using h2) ⟨.str ⟨#[c]⟩,H,I.tok _,⟨_,rfl⟩,q⟩) hs
def rIx (K:PySem.W.Frag):R2:=fun x y H Q=>rIxL K x y H Q∨rIxT K x y H Q∨rIxS x y H Q
theorem ix_seq:IxR X (rIx X.K):=ix_list.or (ix_tup.or ix_str)
theorem zagg (its:List Value) (n j:Nat) (u:Value):Obj.mapSeq (·.setIfInBounds j u) { cls:=.type "list",data:=.seq its.toArray n }={ cls:=.type "list",data:=.seq (its.set j u).toArray n }:=by
 simp[Obj.mapSeq]
theorem Inv.lst {pins:List (Addr×Obj)} {σ:St} {H:Hp} {s:Shared} {p:Addr} {xs:List V} (I:Inv X pins σ H s) (h:H p=some (.lst xs)):
  ∃(its:List Value) (n:Nat),Vals xs its∧s.heap.get? p=some { cls:=.type "list",data:=.seq its.toArray n }∧xs.length≤sizeLine:=by
 obtain⟨z,its,n,r,e⟩:=I.hok p _ h
 exact⟨its,n,r,e,z⟩
theorem Inv.lstUpd {pins:List (Addr×Obj)} {σ:St} {H:Hp} {s:Shared} {p:Addr} {xs ys:List V} {its its':List Value} {n n':Nat} {f:Obj→Obj} (I:Inv X pins σ H s) (h:H p=some (.lst xs))
  (ho:s.heap.get? p=some { cls:=.type "list",data:=.seq its.toArray n }) (hf:f { cls:=.type "list",data:=.seq its.toArray n }={ cls:=.type "list",data:=.seq its'.toArray n' }) (r:Vals ys its') (hz:ys.length≤sizeLine) (t:Nat):
  Inv X pins σ (upd H p (.lst ys)) { s with heap:=s.heap.update p f,toks:=t }:=by
 have e:(s.heap.update p f).get? p=some { cls:=.type "list",data:=.seq its'.toArray n' }:=by
  rw[Heap.get?_update_self f ho (by rw[hf]<;>rfl),hf]
 refine I.write (x:=p) (e:=p) (by rw[h];trivial) (.inl rfl) (fun b u hb q=>(Heap.get?_update_other _ _ (Ne.symm hb)).trans q) ⟨_,e⟩ ?_
 exact⟨hz,its',n',r,e⟩
def rSetL:V→V→V→Hp→(Hp→Prop)→Prop:=fun o i v H Q=>∃p xs k j,o=.ref p∧i=.int k∧H p=some (.lst xs)∧ixN xs.length k=some j∧Q (upd H p (.lst (xs.set j v)))
theorem set_list:PSet X rSetL:=by
 intro pins s σ H o i v ov iv u Q I ro ri rv h
 obtain⟨p,xs,k,j,rfl,rfl,hp,hj,q⟩:=h
 cases ro
 obtain⟨t,rfl⟩:=ri
 obtain⟨its,n,r,ho,hz⟩:=I.lst hp
 obtain⟨h1,h2,h3,h4⟩:=ixN_seq hj
 have hl:=r.length
 have hn:=line63
 have I':Inv X pins σ (upd H p (.lst (xs.set j v))) { s with heap:=s.heap.update p (Obj.mapSeq (·.setIfInBounds j u)) }:=
  I.lstUpd hp ho (zagg its n j u) (r.set rv j) (by rw[List.length_set];exact hz) s.toks
 by_cases h0:0≤k
 ·have hk:k.toNat=j:=by
   rw[seqIndex_of h0 h4] at h1
   exact Option.some.inj h1
  exact PySem.W.ki_setAt ho h0 (by omega) (by rw[List.size_toArray,← hl];exact h4) (by rw[hk];exact⟨_,I',q⟩)
 ·have hk:(k+(its.toArray.size:Int)).toNat=j:=by
   rw[seqIndex_neg (by omega) h3] at h1
   rw[List.size_toArray,← hl]
   exact Option.some.inj h1
  exact PySem.W.ki_setBack ho (by omega) (by rw[List.size_toArray,← hl];exact h3) (by omega) (by rw[hk];exact⟨_,I',q⟩)
theorem zadq (lo hi:Option Int) (n:Nat):(sliceBounds lo hi none n).1=((HT.sIx n 0 lo:Nat):Int)∧(sliceBounds lo hi none n).2.1=((HT.sIx n n hi:Nat):Int)∧(sliceBounds lo hi none n).2.2=1:=by
 refine⟨?_,?_,rfl⟩
 ·cases lo with
  | none=>simp[sliceBounds,HT.sIx]
  | some i=>
   simp only[sliceBounds,HT.sIx,Option.getD_none,show(1:Int) > 0 by decide,if_true]
   by_cases h:i < 0
   ·simp only[h,if_true]<;>omega
   ·simp only[h,if_false]<;>omega
 ·cases hi with
  | none=>simp[sliceBounds,HT.sIx]
  | some i=>
   simp only[sliceBounds,HT.sIx,Option.getD_none,show(1:Int) > 0 by decide,if_true]
   by_cases h:i < 0
   ·simp only[h,if_true]<;>omega
   ·simp only[h,if_false]<;>omega
theorem zadh (its:List Value) (lo hi:Option Int):slicePick its.toArray lo hi none=((its.drop (HT.sIx its.length 0 lo)).take (HT.sIx its.length its.length hi - HT.sIx its.length 0 lo)).toArray:=by
 obtain⟨h1,h2,h3⟩:=zadq lo hi its.toArray.size
 unfold slicePick
 rw[h1,h2,h3]
 simp only[sliceRange_one,pick_run,List.size_toArray]<;>rfl
def rSlL (K:PySem.W.Frag):V→Option Int→Option Int→Hp→VK→Prop:=fun x lo hi H Q=>∃a xs,x=.ref a∧SqL K H a xs∧∀p,H p=none→Q (.ref p) (upd H p (.lst (cutV xs lo hi)))
theorem sl_list:SlR X (rSlL X.K):=by
 intro pins s σ H x v vl vu lo hi sl Q I rx hs pl pu h
 obtain⟨a,xs,rfl,hx,q⟩:=h
 cases rx
 obtain⟨its,r,ht,hz⟩:=I.list hx
 have hlen:=r.length
 refine⟨"list",_,slot_list_getitem.lookup,ht.isList.typeIs,?_⟩
 refine wpAny_getItem_list_slice ht.isList hs pl pu .none (by simp) ?_ (by rw[List.size_toArray]<;>omega)
 rw[zadh,← hlen]
 refine⟨.ref s.heap.objs.size,_,I.laid (t':=s.toks) (o:=.lst (cutV xs lo hi)) (fun b ob q=>Heap.get?_push_of_some _ q) (Nat.le_refl _) ?_,rfl,q _ (I.hok.fresh (Nat.le_refl _))⟩
 exact⟨Nat.le_trans (zacr xs lo hi) hz,_,0,(r.drop (HT.sIx xs.length 0 lo)).take (HT.sIx xs.length xs.length hi - HT.sIx xs.length 0 lo),Heap.get?_push_size _ rfl⟩
theorem zado:CallR X (.builtin "len") (fun xs H Q=>∃p ys,xs=[.ref p]∧(SqL X.K H p ys∨SqT X.K H p ys)∧Q (.int ys.length) H):=by
 intro pins s σ H xs us Q I r h
 obtain⟨p,ys,rfl,hq,q⟩:=h
 obtain⟨u,rfl,rx⟩:=vals1 r
 cases rx
 have hn:=line63
 rcases hq with hq | hq
 ·obtain⟨its,r',pl,hz⟩:=I.list hq
  have hlen:=r'.length
  exact Calls.call_len_list pl.isList (by simp only[List.size_toArray]<;>omega) ⟨.int ys.length,H,I.tok _,⟨s.toks+1,by rw[List.size_toArray,hlen]⟩,q⟩
 ·obtain⟨its,r',pl,hz⟩:=I.tuple hq
  have hlen:=r'.length
  exact len_tuple pl (by simp only[List.size_toArray]<;>omega) ⟨.int ys.length,H,I.tok _,⟨s.toks+1,by rw[List.size_toArray,hlen]⟩,q⟩
theorem CallR.or {f:Value} {r r':List V→Hp→VK→Prop} (h:CallR X f r) (h':CallR X f r'):CallR X f (fun xs H Q=>r xs H Q∨r' xs H Q):=by
 intro pins s σ H xs us Q I rs q
 rcases q with q | q
 ·exact h pins s σ H xs us Q I rs q
 ·exact h' pins s σ H xs us Q I rs q
theorem zach:CallR X (.type "list") (fun xs H Q=>∃p ys,xs=[.ref p]∧(SqL X.K H p ys∨SqT X.K H p ys)∧∀l,H l=none→Q (.ref l) (upd H l (.lst ys))):=by
 intro pins s σ H xs us Q I r h
 obtain⟨p,ys,rfl,hq,q⟩:=h
 obtain⟨u,rfl,rx⟩:=vals1 r
 cases rx
 have fin:∀(its:List Value),Vals ys its→ys.length≤sizeLine→∀(h':Heap) (c':Nat),(∀b o',s.heap.get? b=some o'→h'.get? b=some o')→
   h'.get? s.heap.objs.size=some { cls:=.type "list",dict:=none,data:=.seq its.toArray c',slots:=#[] }→EP X pins σ Q (.ref s.heap.objs.size) { s with heap:=h' }:=fun its r' hz h' c' kp e=>
  ⟨.ref s.heap.objs.size,_,I.laid (t':=s.toks) kp (Nat.le_refl _) (show ObjOk X.prog X.w _ h' _ (.lst ys) from⟨hz,its,c',r',e⟩),rfl,q _ (I.hok.fresh (Nat.le_refl _))⟩
 rcases hq with hq | hq
 ·obtain⟨its,r',pl,hz⟩:=I.list hq
  have hlen:=r'.length
  obtain⟨o,ho,hc,n,hd⟩:=pl.isList
  exact call_list_seq p (.inl rfl) ho hc hd (fun h' c' kp e=>fin its r' hz h' c' kp e) (by simp only[List.size_toArray]<;>omega)
 ·obtain⟨its,r',pl,hz⟩:=I.tuple hq
  have hlen:=r'.length
  obtain⟨o,ho,hc,n,hd⟩:=pl
  exact call_list_seq p (.inr rfl) ho hc hd (fun h' c' kp e=>fin its r' hz h' c' kp e) (by simp only[List.size_toArray]<;>omega)
theorem zadj:CallR X (.type "tuple") (fun xs H Q=>∃p ys,xs=[.ref p]∧((SqL X.K H p ys∧∀l,H l=none→Q (.ref l) (upd H l (.tup ys)))∨(SqT X.K H p ys∧Q (.ref p) H))):=by
 intro pins s σ H xs us Q I r h
 obtain⟨p,ys,rfl,h⟩:=h
 obtain⟨u,rfl,rx⟩:=vals1 r
 cases rx
 rcases h with⟨hq,q⟩ | ⟨hq,q⟩
 ·obtain⟨its,r',pl,hz⟩:=I.list hq
  have hlen:=r'.length
  refine call_tuple_list pl.isList (fun h' kp=>?_) (by simp only[List.size_toArray]<;>omega)
  have I1:Inv X pins σ H { s with heap:=h' }:=I.kept (t':=s.toks) kp
  have I2:Inv X pins σ (upd H h'.objs.size (.tup ys)) { s with heap:=h'.push { cls:=.type "tuple",data:=.seq its.toArray } }:=
   I1.laid (t':=s.toks) (fun b o e=>Heap.get?_push_of_some _ e) (Nat.le_refl _) (show ObjOk X.prog X.w _ _ _ (.tup ys) from⟨hz,its,r',IsTup.new _ _⟩)
  exact⟨.ref h'.objs.size,_,I2,rfl,q _ (I1.hok.fresh (Nat.le_refl _))⟩
 ·obtain⟨its,r',pl,hz⟩:=I.tuple hq
  exact call_tuple_same pl ⟨.ref p,H,I,rfl,q⟩
def tyV (K:PySem.W.Frag) (T:String) (x:V) (H:Hp):Prop:=match x with
 | .str _=>T="str"
 | .int _=>T="int"
 | .ref p=>(T="list"∧∃xs,SqL K H p xs)∨(T="tuple"∧∃o,K.lookup p=some o∧o.cls=.type "tuple"∧o.dict=none)∨
   (T="dict"∧((∃kvs,H p=some (.dK kvs))∨∃kvs,H p=some (.dT kvs)))∨(T="set"∧∃S n,H p=some (.set S n))
 | _=>False
theorem tyV_is {pins:List (Addr×Obj)} {σ:St} {H:Hp} {s:Shared} {T:String} {x:V} {v:Value} (I:Inv X pins σ H s) (r:RelV x v) (ty:tyV X.K T x H):
  s.TypeIs v T∧∀a,v=.ref a→∃ob,s.heap.get? a=some ob∧ob.dict=none:=by
 cases x with
 | str z=>
  obtain⟨t,rfl⟩:=r
  cases(show T="str" from ty)
  exact⟨typeIs_str s z t,fun _ e=>nomatch e⟩
 | int i=>
  obtain⟨t,rfl⟩:=r
  cases(show T="int" from ty)
  exact⟨typeIs_int s i t,fun _ e=>nomatch e⟩
 | ref p=>
  cases r
  rcases ty with⟨rfl,xs,hq⟩ | ⟨rfl,o,hk,hc,hd⟩ | ⟨rfl,hk⟩ | ⟨rfl,S,n,hk⟩
  ·obtain⟨its,_,pl,_⟩:=I.list hq
   refine⟨pl.isList.typeIs,fun a e=>?_⟩
   cases e
   obtain⟨o,n,e,c,hd,_⟩:=pl
   exact⟨o,e,hd⟩
  ·refine⟨⟨o,I.kIn p o hk,hc⟩,fun a e=>?_⟩
   cases e
   exact⟨o,I.kIn _ o hk,hd⟩
  ·have z:∃o,s.heap.get? p=some o∧o.ExactDict:=by
    rcases hk with⟨kvs,hk⟩ | ⟨kvs,hk⟩
    ·obtain⟨_,_,_,_,o,_,_,e,ex,_⟩:=I.hok p _ hk
     exact⟨o,e,ex⟩
    ·obtain⟨_,_,_,_,o,_,_,e,ex,_⟩:=I.hok p _ hk
     exact⟨o,e,ex⟩
   obtain⟨o,e,ex⟩:=z
   refine⟨⟨o,e,ex.1⟩,fun a e2=>?_⟩
   cases e2
   exact⟨o,e,ex.2.1⟩
  ·obtain⟨o,_,_,_,e,ex,_⟩:=I.hok p _ hk
   refine⟨⟨o,e,ex.1⟩,fun a e2=>?_⟩
   cases e2
   exact⟨o,e,ex.2.1⟩
 | _=>exact False.elim ty
def tBM (K:PySem.W.Frag) (T:String) (r:V→List V→Hp→VK→Prop) (to:TE) (t:TA):TE:=fun σ H Q=>to σ H fun x H1=>tyV K T x H1∧t σ H1 fun xs H2=>r x xs H2 Q
variable {o e:Expr} {es:List Expr} {to:TE} {t:TA} {name:Str} {apos cpos:Pos} {T id:String} {r:V→List V→Hp→VK→Prop}
theorem pe_bm (pa:PlainAttrs T) (slot:Slot T name id) (hty:typeOf (.builtin id)=pure (.type "method_descriptor")) (hm:MtR X id r) (ho:PE X o to) (ha:PA X (e::es) t)
  (hbase:attributeBase o name X.env (eval o X.env)=eval o X.env:=by rfl)
  (hfew:((backTo cpos (starEach (e::es) X.env)).all (fun x=>!x.1)&&(backToKw cpos (keywordEach [] X.env)).all (fun x=>x.1.isSome)
   && decide ((e::es).length+([]:List Keyword).length+(if([]:List Keyword).isEmpty then 0 else 1) < 30))=true:=by rfl)
  (hline:(apos.endLine==cpos.line)=true:=by rfl) (hs:starEach (e::es) X.env=(false,eval e X.env)::starEach es X.env:=by rfl) (hplain:(backTo cpos (starEach es X.env)).any (·.1)=false:=by rfl):
  PE X (.Call (.Attribute o name apos) (e::es) [] cpos) (tBM X.K T r to t):=by
 intro pins s σ H Q I h
 refine wpAny_Call_method_late hbase hfew hline rfl (thn (ho pins s σ H _ I h) fun v s1 ⟨x,H1,I1,r1,ty,q1⟩=>?_)
 obtain⟨h1,h2⟩:=tyV_is I1 r1 ty
 refine⟨T,id,pa,slot,hty,h1,h2,?_⟩
 have hA:=ha cpos pins s1 σ H1 _ I1 q1
 rw[hs] at hA ⊢
 refine Calls.callWith_builtin (by show(false||(backTo cpos (starEach es X.env)).any (·.1))=false;rw[hplain]<;>rfl) (Calls.evalArgs_plain ?_)
 exact thn hA fun us s2 ⟨vs,H2,I2,r2,q2⟩=>hm pins s2 σ H2 x vs v us Q I2 r1 r2 q2
end
end L2
namespace L2
open PySem PySem.Spec PyProof.Rows
def MtM (X:Cx) (id:String) (r:V→List V→Hp→VK→Prop):Prop:=
 ∀(pins:List (Addr×Obj)) (s:Shared) (σ:St) (H:Hp) (x:V) (xs:List V) (v:Value) (us:List Value) (Q:VK),Inv X pins σ H s→RelV x v→Vals xs us→r x xs H Q→
  wpAny (model X.prog X.w) X.A (call (.builtin id) (v::us)) (EP X pins σ Q) X.xe s
theorem Vals.one:∀{x:V} {us:List Value},Vals [x] us→∃u,us=[u]∧RelV x u
 | _,_,.cons r .nil=>⟨_,rfl,r⟩
theorem Vals.two:∀{x y:V} {us:List Value},Vals [x,y] us→∃u v,us=[u,v]∧RelV x u∧RelV y v
 | _,_,_,.cons r (.cons q .nil)=>⟨_,_,rfl,r,q⟩
theorem Vals.zero:∀{us:List Value},Vals [] us→us=[]
 | _,.nil=>rfl
theorem Vals.dropLast {xs:List V} {us:List Value} (h:Vals xs us):Vals xs.dropLast us.dropLast:=by
 induction h with
 | nil=>exact .nil
 | cons r t ih=>
  cases t with
  | nil=>exact .nil
  | cons q t'=>exact .cons r ih
theorem Vals.reverse {xs:List V} {us:List Value} (h:Vals xs us):Vals xs.reverse us.reverse:=by
 induction h with
 | nil=>exact .nil
 | cons r t ih=>rw[List.reverse_cons,List.reverse_cons];exact Vals.append ih (.cons r .nil)
section
variable {X:Cx} {pins:List (Addr×Obj)} {σ:St} {H:Hp} {s:Shared} {l b:Addr} {xs ys zs:List V}
theorem Inv.lset {its its':List Value} {n:Nat} {f:Array Value→Array Value} {t':Nat} (I:Inv X pins σ H s) (hH:H l=some (.lst xs))
  (e:s.heap.get? l=some { cls:=.type "list",data:=.seq its.toArray n }) (hf:f its.toArray=its'.toArray) (hv:Vals ys its') (hz:ys.length≤sizeLine):
  Inv X pins σ (upd H l (.lst ys)) { s with heap:=s.heap.update l (Obj.mapSeq f),toks:=t' }:=by
 have q:=PySem.IsL.update e f
 rw[hf] at q
 refine I.write (x:=l) (e:=l) (by rw[hH];exact trivial) (.inl rfl) (fun b' u hb hu=>(Heap.get?_update_other s.heap (Obj.mapSeq f) (Ne.symm hb)).trans hu) ⟨_,q⟩ ?_
 exact⟨hz,its',_,hv,q⟩
theorem Inv.lnew {its:List Value} {t':Nat} (I:Inv X pins σ H s) (hv:Vals ys its) (hz:ys.length≤sizeLine):
  Inv X pins σ (upd H s.heap.objs.size (.lst ys)) { s with heap:=s.heap.push { cls:=.type "list",data:=.seq its.toArray },toks:=t' }:=
 I.laid (fun _ _ q=>Heap.get?_push_of_some _ q) (Nat.le_refl _) ⟨hz,its,0,hv,Heap.get?_push_size _ rfl⟩
theorem Inv.fresh (I:Inv X pins σ H s):H s.heap.objs.size=none:=I.hok.fresh (Nat.le_refl _)
theorem Inv.lstM (I:Inv X pins σ H s) (hH:H l=some (.lst xs)):xs.length≤sizeLine∧∃(its:List Value) (n:Nat),Vals xs its∧xs.length=its.length∧s.heap.get? l=some { cls:=.type "list",data:=.seq its.toArray n }:=by
 obtain⟨z,its,n,r,e⟩:=I.hok l _ hH
 exact⟨z,its,n,r,r.length,e⟩
end
section
variable {X:Cx}
def rAppend:V→List V→Hp→VK→Prop:=fun x vs H Q=>∃l xs y,x=.ref l∧vs=[y]∧H l=some (.lst xs)∧xs.length < sizeLine∧Q .non (upd H l (.lst (xs++[y])))
theorem zacx:MtM X "list.append" rAppend:=by
 intro pins s σ H x vs v us Q I rx rv h
 obtain⟨l,xs,y,rfl,rfl,hH,hz,q⟩:=h
 cases rx
 obtain⟨u,rfl,ru⟩:=rv.one
 obtain⟨z,its,n,r,hl,e⟩:=I.lstM hH
 refine call_meets F.slot_list_append ⟨_,e,rfl⟩ F.entry_list_append (F.args_list_append_2 _ _) (PySem.list_append l its.toArray n u (by rw[List.size_toArray];omega)) ⟨e,?_⟩
 refine⟨.non,_,I.lset (its':=its++[u]) hH e (by simp) (r.append (.cons ru .nil)) ?_,rfl,q⟩
 rw[List.length_append,List.length_singleton]
 omega
end
section
variable {prog:Program} {w:World} {A:Around} {E:Value→Shared→Prop} {s:Shared}
end
section
variable {X:Cx}
end
end L2
namespace Att
open PySem PySem.W PySem.Calls PyProof.Rows
theorem zaco {P:Params} {h:Heap}:∀(ns:List Int) (vs:List Value),WellAll P h vs (ns.map WData.int)→IntsAre vs ns:=by
 intro ns
 induction ns with
 | nil=>
  intro vs w
  rw[List.map_nil] at w
  cases w
  exact .nil
 | cons n ns ih=>
  intro vs w
  rw[List.map_cons] at w
  cases w with
  | cons a b=>
   cases a
   exact .cons _ _ (ih _ b)
theorem script_of {l:OpenLaw} {n:Nat} (hn:l.most=some n) {P:Params} {h:Heap} {args:List WData} {vals:List Value}
  (hpre:l.row.toRowW.claim.pre args=true) (hwl:WellAll P h vals args):
  ∃a vs ns,vals=[Value.ref a]∧args=[WData.list (ns.map WData.int)]∧h.get? a=some { cls:=.type "list",data:=.seq vs.toArray }∧IntsAre vs ns∧ns.length≤n:=by
 have hsh:WShape.hasAll [] args [.list .int]=true:=(pre_splitW hpre).1
 have hc:l.pre.holds [] { args:=args }=true:=(pre_splitW hpre).2
 obtain⟨d,r,rfl,h1,h2⟩:=hasAllW_cons hsh
 obtain rfl:=hasAllW_nil h2
 obtain⟨xs,rfl,h3⟩:=hasW_list h1
 obtain⟨ns,rfl⟩:=items_int h3
 have hlen:ns.length≤n:=by
  unfold OpenLaw.pre at hc
  have h4:(WTm.not (.lt (.lit (.int (n:Int))) (.len (.arg 0)))).holds [] { args:=[.list (ns.map .int)] }=true:=by
   have h4:=(holds_andW hc).1
   rw[hn] at h4
   exact h4
  have h5:=condW_of h4 (w_not (w_lt w_lit (w_len_list (w_arg rfl))))
  rw[List.length_map] at h5
  refine Nat.le_of_not_lt fun q=>?_
  have q':(n:Int) < ((ns.length:Nat):Int):=by omega
  first
   | (rw[decide_eq_true q'] at h5;exact absurd h5 (by decide))
   | (simp at h5;omega)
 cases hwl with
 | cons w1 w2=>
  cases w2
  cases w1 with
  | list ho hall=>exact⟨_,_,ns,rfl,rfl,ho,zaco ns _ hall,hlen⟩
theorem post_true (l:OpenLaw) (args:List WData):l.row.toRowW.claim.post args (.bool true) args=true:=
 postW_of (r:=l.row.toRowW) (X:=(true==true))
  (show WShape.has [] (.bool true) .bool=true by first | rfl | decide | simp[WShape.has,WShape.arms,WShape.armsAll])
  (show(WTm.eq .res (.lit (.bool true))).value [] { args:=args,res:=some (.bool true),after:=args }=some (.bool (true==true)) from w_eq_bool (w_res rfl) w_lit) rfl
theorem attach_call {l:OpenLaw} {n:Nat} {q:Program} {loose:List Str} {XP:(Str→Option Value)→Heap→Prop} {YP:World→Heap→Prop} {d:DefRec}
  (hn:l.most=some n) (hdf:d.params.defaults=[])
  (call:∀(w:World) (s₀ s₁:Shared) (mg mb:Str→Option Value) (fa:Addr) (o:Obj) (pm cd doc:Value) (a:Addr) (vs:List Value) (ns:List Int),
   Ground q loose [] XP w s₀ mg mb s₁.heap→YP w s₁.heap→
   s₁.heap.get? fa=some o→o.data=.func (docDef d.name d.params d.body d.scope pm cd doc)→s₁.heap.CodeRec cd d.name→mg d.name=some (.ref fa)→
   s₁.heap.get? a=some { cls:=.type "list",data:=.seq vs.toArray }→IntsAre vs ns→ns.length≤n→s₁.gens=#[]→
   codeAny (model l.prog w) callerA (.call (.ref fa) ⟨[.ref a],[]⟩) (fun r s'=>r=.ok (.ret (.bool true))∧OldK s₁.heap s'.heap∧s'.os=s₁.os∧AllBare s'.gens) s₁):
  WalkO q loose XP YP l.row.toRowW d [] (fun f vs=>PySem.call f vs):=by
 intro w s₀ s₁ mg mb G Y fa o pm cd doc dV kV ho hd hcd hD hmg hg args vals as hpre hlay hrd hwl hlo
 obtain rfl:dV=.none:=Dflts.none hD hdf
 obtain rfl:kV=.none:=Dflts.noKw hD
 obtain⟨a,vs,ns,rfl,rfl,hobj,hints,hlen⟩:=script_of hn hpre hwl
 refine enter_call (codeAny_mono (call w s₀ s₁ mg mb fa o pm cd doc a vs ns G Y ho (fd_plain hd) hcd hmg hobj hints hlen hg) fun r s' hq=>?_)
 obtain⟨rfl,h2,h3,h4⟩:=hq
 exact⟨.inl ⟨.bool true,.bool true,[],rfl,fun _=>rfl,.bool true,post_true l _,fun _=>⟨List.Pairwise.nil,fun _ hm=>(nomatch hm)⟩⟩,h2,h3,h4⟩
section
variable {prog:Program} {w:World} {A:Around} {E:Value→Shared→Prop} {s:Shared} {K:Frag}
def ledger (h:Heap) (L d:Addr):List (Addr×Obj):=(List.range h.objs.size).filterMap fun a=>if a=L∨a=d then none else(h.get? a).map fun o=>(a,o)
end
end Att
namespace L2
open PySem PySem.Spec PyProof.Rows
theorem zaea:∀{vs:List Value} {ns:List Int},IntsAre vs ns→Vals (ns.map V.int) vs
 | _,_,.nil=>.nil
 | _,_,.cons n t h=>.cons ⟨t,rfl⟩ (zaea h)
def Only (H:Hp):Prop:=∀b,H b=none∨∃o xs,H b=some (.frz o (.lst xs))
theorem law_call {P:Program} {w:World} {K:PySem.W.Frag} {mg mb:Str→Option Value} {CX:CXT} {k:Nat} {fa a:Addr} {fd:FuncData} {x:Str} {sp:Sp} {s₁:Shared} {vs:List Value} {ns:List Int}
  (KX:K.In s₁.heap) (hns:s₁.heap.Ns mainGlobals mg) (hb:s₁.heap.Ns builtinsNs mb) (hbb:∀x:Str,x≠"__name__"→mb x=bootBuiltins x) (hlim:s₁.heap.NoLimit) (hg:s₁.gens=#[])
  (ha:s₁.heap.get? a=some { cls:=.type "list",data:=.seq vs.toArray }) (hi:IntsAre vs ns) (hl:ns.length≤sizeLine) (hr:Room k callerA)
  (F:∀base:Heap,K.In base→base.Ns mainGlobals mg→FnOk P w K mg base CX k fa fd [x] sp) (hbind:∀(s:Shared) (u:Value),BindsTo s fd ⟨[u],[]⟩ [(x,u)])
  (hsp:∀H:Hp,Only H→SqL K H a (ns.map V.int)→sp [.ref a] H (fun v _=>v=.bl true) fun _ _ _=>False)
  (hCX:∀H e s',CX [] H s₁ (fun _ _ _=>False) e s'→False):
  codeAny (model P w) callerA (.call (.ref fa) ⟨[.ref a],[]⟩) (fun r s'=>r=.ok (.ret (.bool true))∧OldK s₁.heap s'.heap∧s'.os=s₁.os∧AllBare s'.gens) s₁:=by
 have rv:=zaea hi
 have lenV:=hi.length
 have core:∀H:Hp,Only H→SqL K H a (ns.map V.int)→HOk P w H s₁.heap→(∀b,H b≠none→b=a)→(H a≠none→K.lookup a=none)→
   codeAny (model P w) callerA (.call (.ref fa) ⟨[.ref a],[]⟩) (fun r s'=>r=.ok (.ret (.bool true))∧OldK s₁.heap s'.heap∧s'.os=s₁.os∧AllBare s'.gens) s₁:=by
  intro H hO hS hok hA hK
  have base_of:∀{b:Addr} {o:Obj},s₁.heap.get? b=some o→H b=none→(hidT s₁.heap H).get? b=some o:=fun e n=>hidT_get e n
  have noA:∀{b:Addr} {o:Obj} {es:Array DictEntry} {ep:Nat},s₁.heap.get? b=some o→o.data=.dict es ep→H b=none:=fun {b o es ep} e d=>by
   cases q:H b with
   | none=>rfl
   | some u=>
    have e':b=a:=hA b (by rw[q];simp)
    subst e'
    rw[ha] at e;cases e
    have d':Data.seq vs.toArray _=Data.dict es ep:=d
    cases d'
  have nsK:∀{b:Addr} {m:Str→Option Value},s₁.heap.Ns b m→(hidT s₁.heap H).Ns b m:=fun {b m} ⟨o,es,ep,e,d,r⟩=>⟨o,es,ep,base_of e (noA e d),d,r⟩
  have hKb:K.In (hidT s₁.heap H):=fun b o e=>base_of (KX b o e) (by
   cases q:H b with
   | none=>rfl
   | some u=>
    have e':b=a:=hA b (by rw[q];simp)
    subst e'
    rw[hK (by rw[q];simp)] at e;cases e)
  have hM:Mod K mg (hidT s₁.heap H):=⟨hKb,nsK hns,⟨mb,nsK hb,hbb⟩,let ⟨mc,h1,h2⟩:=hlim;⟨mc,nsK h1,h2⟩⟩
  have e0:Env0 P w K mg (hidT s₁.heap H) callerA [] s₁ H:=⟨rfl,hM,fun b o e=>of_hidT e,Nat.le_of_eq (hidT_size _ _),trivial,fun b hb=>absurd (show b∈([]:List Addr) from hb) (by simp),hok,.of_eq hg⟩
  refine codeAny_mono ((F _ hKb (nsK hns)).run callerA [] s₁ H ⟨[.ref a],[]⟩ [.ref a] [.ref a] _ _ hr e0 (hbind s₁ (.ref a)) (.cons rfl .nil) (hsp H hO hS)) fun r s' h=>?_
  cases r with
  | error e=>exact(hCX H e s' h).elim
  | ok fl=>
   cases fl with
   | next=>exact False.elim h
   | brk=>exact False.elim h
   | cont=>exact False.elim h
   | ret u=>
    obtain⟨v,H',os,bare,un,hok',r',q⟩:=h
    have q':v=.bl true:=q
    subst q'
    obtain rfl:u=Value.bool true:=r'
    refine⟨rfl,OldK.of_keep fun b o e=>?_,os,bare⟩
    cases q:H b with
    | none=>exact un.keep b o e q (by intro z;exact absurd (show b∈([]:List Addr) from z) (by simp)) (by simp)
    | some u=>
     rcases hO b with z | ⟨ob,xs,z⟩
     ·rw[q] at z;cases z
     ·have z2:=un.frzs b ob _ z
      obtain⟨e1,_⟩:=hok b _ z
      obtain⟨e2,_⟩:=hok' b _ z2
      rw[e] at e1;cases e1
      exact e2
 cases hk:K.lookup a with
 | some o=>
  have e:=KX a o hk
  rw[ha] at e
  cases e
  refine core (fun _=>none) (fun _=>.inl rfl) (.inr ⟨_,vs.toArray,_,hk,rfl,rfl,rfl,by rw[List.size_toArray,lenV];exact hl,by simpa using rv⟩) (fun b u z=>by have z':(none:Option HO)=some u:=z;cases z') (fun b z=>absurd rfl z) fun z=>absurd rfl z
 | none=>
  refine core (fun b=>if b=a then some (.frz { cls:=.type "list",data:=.seq vs.toArray } (.lst (ns.map V.int))) else none) (fun b=>?_) (.inl (.inr ⟨{ cls:=.type "list",data:=.seq vs.toArray },if_pos rfl⟩)) (fun b u z=>?_) (fun b z=>?_) fun _=>hk
  ·by_cases hb:b=a
   ·exact .inr ⟨_,_,if_pos hb⟩
   ·exact .inl (if_neg hb)
  ·by_cases hb:b=a
   ·have z':=(if_pos hb).symm.trans z
    cases z'
    subst hb
    exact⟨ha,by rw[List.length_map];exact hl,vs,_,rv,ha⟩
   ·have z':=(if_neg hb).symm.trans z
    cases z'
  ·by_cases hb:b=a
   ·exact hb
   ·exact absurd (if_neg hb) z
end L2
namespace L2
open PySem PySem.Spec PyProof.Rows
abbrev KOf {K:PySem.W.Frag} {h:Heap} (_:K.In h):PySem.W.Frag:=K
theorem walk_of {l:PySem.W.OpenLaw} {n k:Nat} {q:Program} {loose:List Str} {XP:(Str→Option Value)→Heap→Prop} {YP:World→Heap→Prop} {d:DefRec} {K:Params→PySem.W.Frag} {CX:World→CXT} {sp:World→Sp} {x:Str}
  (hn:l.most=some n) (hn2:n≤sizeLine) (hdf:d.params.defaults=[]) (hr:Room k callerA)
  (hY:∀(w:World) (h:Heap),YP w h→(K w.params).In h)
  (F:∀(w:World) (mg:Str→Option Value) (fa:Addr) (h:Heap),(K w.params).In h→h.Ns mainGlobals mg→mg d.name=some (.ref fa)→
   ∃fd:FuncData,(∀(s:Shared) (u:Value),BindsTo s fd ⟨[u],[]⟩ [(x,u)])∧
    ∀base:Heap,(K w.params).In base→base.Ns mainGlobals mg→FnOk l.prog w (K w.params) mg base (CX w) k fa fd [x] (sp w))
  (hsp:∀(w:World) (H:Hp) (a:Addr) (ns:List Int),ns.length≤n→Only H→SqL (K w.params) H a (ns.map V.int)→sp w [.ref a] H (fun v _=>v=.bl true) fun _ _ _=>False)
  (hCX:∀(w:World) (H:Hp) (s:Shared) (e:Value) (s':Shared),CX w [] H s (fun _ _ _=>False) e s'→False):
  PySem.W.WalkO q loose XP YP l.row.toRowW d [] (fun f vs=>PySem.call f vs):=by
 refine Att.attach_call hn hdf fun w s₀ s₁ mg mb fa o pm cd doc a vs ns G Y ho hd hcd hmg hobj hints hlen hg=>?_
 have KX:=hY w _ Y
 obtain⟨fd,hb,hF⟩:=F w mg fa _ KX G.T.g hmg
 exact law_call KX G.T.g G.T.b G.T.builtins G.T.nolimit hg hobj hints (Nat.le_trans hlen hn2) hr hF hb (fun H hO hS=>hsp w H a ns hlen hO hS) fun H e s'=>hCX w H s₁ e s'
end L2
namespace L2
open PySem PySem.Spec PyProof.Rows
def inClass (s:Stmt) (j:Nat):Stmt:=match s with
 | .ClassDef _ _ _ body _ _ _ _ _ _ _=>body.getD j (.Pass ⟨0,0,0,0⟩)
 | _=>.Pass ⟨0,0,0,0⟩
def zaaf (s:Stmt):Arguments:=match s with
 | .FunctionDef _ a _ _ _ _ _ _ _ _=>a
 | _=>{ posonlyargs:=[],args:=[],vararg:=none,kwonlyargs:=[],kw_defaults:=[],kwarg:=none,defaults:=[] }
def zaae (s:Stmt):List Stmt:=match s with
 | .FunctionDef _ _ b _ _ _ _ _ _ _=>b
 | _=>[]
def zaab (s:Stmt):Scope:=match s with
 | .FunctionDef _ _ _ _ _ _ sc _ _ _=>sc
 | _=>{ kind:=.function,names:=[],isGenerator:=false,isCoroutine:=false }
abbrev CX0:CXT:=fun _ _ _ _ _ _=>False
structure Fun (K:PySem.W.Frag) (x qual:Str) (st:Stmt) (f:Addr) (fd:FuncData):Prop where
 ex:∃(oc:Value) (od:Option Addr) (kV doc pm:Value) (an:Option Addr) (cdv ct:Value) (osl:Array (Option Value)),
  fd=PySem.W.fnOf x qual (zaaf st) (zaae st) (zaab st) .none kV doc pm an cdv ct∧K.lookup f=some ⟨oc,od,.func fd,osl⟩∧PySem.W.codeIn K cdv qual=true
 kp:PySem.W.keepIn K (.ref f)=true
section
variable {P:Program} {w:World} {K:PySem.W.Frag} {mg:Str→Option Value} {base:Heap}
theorem Fun.ok {x qual:Str} {st:Stmt} {f:Addr} {fd:FuncData} {N ps:List Str} {k:Nat} {sp:Sp} (F:Fun K x qual st f fd) (S:FnScope N ps (zaab st)) (len:∀vs H Q E,sp vs H Q E→vs.length=ps.length)
  (hbody:∀(cdv:Value) (A:Around) (outer:List Env) (s:Shared) (H:Hp) (vs:List V) (Q:VK) (E:XK),Room k (A.deeper (envOfC qual (zaab st) s.heap.objs.size f cdv))→sp vs H Q E→
   ∃t,PSs (cxOf CX0 P w K mg base N qual (zaab st) f cdv A outer s H E).nox (zaae st) t∧t { nx:=fun _ H'=>Q .non H',rt:=Q } (start N vs) H):FnOk P w K mg base CX0 (k+1) f fd ps sp:=by
 obtain⟨oc,od,kV,doc,pm,an,cdv,ct,osl,rfl,lk,hcd⟩:=F.ex
 refine fn_of lk hcd S len fun A outer s H vs Q E hr hsp=>?_
 obtain⟨t,h,q⟩:=hbody cdv A outer s H vs Q E hr hsp
 exact⟨t,h.nox,q⟩
theorem Fun.binds {x qual:Str} {st:Stmt} {f:Addr} {fd:FuncData} {ps:List Str} (F:Fun K x qual st f fd)
  (h:∀(kV doc pm:Value) (an:Option Addr) (cdv ct:Value) (us:List Value),us.length=ps.length→bindArgs (PySem.W.fnOf x qual (zaaf st) (zaae st) (zaab st) .none kV doc pm an cdv ct) ⟨us,[]⟩=pure (ps.zip us)):Binds K fd ps []:=by
 obtain⟨oc,od,kV,doc,pm,an,cdv,ct,osl,rfl,lk,hcd⟩:=F.ex
 exact .all (h kV doc pm an cdv ct)
end
section
variable {X:Cx}
theorem pv (i:Nat) {x:Str} {pos:Pos} (hN:X.N[i]?=some x:=by rfl) (hv:Vis X.env.scope x:=by first | exact Or.inl rfl | exact Or.inr (Or.inl rfl) | exact Or.inr (Or.inr rfl)) (hd:(x==("__debug__":Str))=false:=by decide)
  (hcd:(x==("__classdict__":Str))=false:=by decide):PE X (.Name x pos) (tVar i):=pe_var hN hv hd hcd
end
theorem iteF {A B:Prop} (h:B):if false=true then A else B:=by
 rw[if_neg Bool.false_ne_true]
 exact h
theorem iteT {A B:Prop} (h:A):if true=true then A else B:=by
 rw[if_pos rfl]
 exact h
def Same (H H':Hp):Prop:=∀b o,H b=some o→H' b=some o
theorem Same.refl (H:Hp):Same H H:=fun _ _ h=>h
theorem Same.trans {H H1 H2:Hp} (a:Same H H1) (b:Same H1 H2):Same H H2:=fun c o h=>b c o (a c o h)
theorem Same.free {H H':Hp} (e:Same H H') {l:Addr} (h:H' l=Option.none):H l=Option.none:=by
 cases q:H l with
 | none=>rfl
 | some o=>
  rw[e l o q] at h
  cases h
theorem Same.seq {K:PySem.W.Frag} {H H':Hp} {a:Addr} {xs:List V} (e:Same H H') (h:SqL K H a xs):SqL K H' a xs:=by
 rcases h with(h | ⟨o,h⟩) | h
 ·exact .inl (.inl (e _ _ h))
 ·exact .inl (.inr ⟨o,e _ _ h⟩)
 ·exact .inr h
end L2
end
section
set_option Elab.async false
set_option linter.all false
set_option maxRecDepth 100000
namespace IP
open PySem (Str)
inductive T where
 | non | bl (b:Bool) | int (i:Int) | str (x:Str) | tup (xs:List T) | lst (xs:List T) | loc (l:Nat) | exc (c:Nat)
 deriving Inhabited
inductive R where
 | val (t:T) | bor (ts:List T)
inductive B where
 | val (t:T) | own (ts:List T) | bor (ts:List T) | lck (ts:List T)
 deriving Inhabited
abbrev Fr:=List (Option B)
inductive Cell where
 | lst (ts:List T) | ins (c:Nat) (fs:List (Option T)) | tbl (k:Nat) (p:PySem.Pos) (q:PySem.Str)
abbrev Sto:=List Cell
inductive Res (α:Type) where
 | stuck | ok (a:α) (s:Sto) | exc (c:Nat) (s:Sto)
def Res.bind {α β:Type} (m:Res α) (k:α→Sto→Res β):Res β:=match m with
 | .stuck=>.stuck
 | .ok a s=>k a s
 | .exc c s=>.exc c s
@[simp] theorem Res.bind_ok {α β:Type} (a:α) (s:Sto) (k:α→Sto→Res β):(Res.ok a s).bind k=k a s:=rfl
@[simp] theorem Res.bind_exc {α β:Type} (c:Nat) (s:Sto) (k:α→Sto→Res β):(Res.exc c s:Res α).bind k=.exc c s:=rfl
@[simp] theorem Res.bind_stuck {α β:Type} (k:α→Sto→Res β):(Res.stuck:Res α).bind k=.stuck:=rfl
def Res.of {α:Type} (o:Option α) (s:Sto):Res α:=match o with
 | none=>.stuck
 | some a=>.ok a s
@[simp] theorem Res.of_some {α:Type} (a:α) (s:Sto):Res.of (some a) s=.ok a s:=rfl
@[simp] theorem Res.of_none {α:Type} (s:Sto):Res.of (none:Option α) s=.stuck:=rfl
inductive Op where | add | sub | mul | fdiv | mod | pow
inductive Cm where | lt | le | gt | ge | eq | ne | isN | notN | mem | nmem
inductive Bi where | len | abs | int | list | tuple | any | all | min | max | sorted | str
inductive Ty where | int | bool | tuple | list | str | cls (c:Nat)
inductive Tg where | one (i:Nat) | many (is:List Nat)
inductive E where
 | var (i:Nat)
 | cst (t:T)
 | glb (x:Str) (i:Int)
 | bin (o:Op) (a b:E)
 | neg (a:E)
 | not (a:E)
 | cmp (c:Cm) (a b:E)
 | and (a b:E) | or (a b:E)
 | ife (c a b:E)
 | tup (es:List E) | lst (es:List E)
 | sub (a b:E)
 | cutL (a lo:E) | cutU (a hi:E) | cutLU (a lo hi:E) | rev (a:E)
 | b1 (f:Bi) (a:E)
 | mn2 (a b:E) | mx2 (a b:E)
 | mxd (a d:E) | mnd (a d:E)
 | mnk (a:E) (i j l k:Nat) (p:PySem.Pos) (q:Str) | sok (a:E) (i:Nat) (k:E)
 | isi (a:E) (c:Ty)
 | call (f:Nat) (es:List E) (ds:List T)
 | comp (elt:E) (tg:Tg) (it:E)
 | compIf (elt:E) (tg:Tg) (it c:E)
 | rng1 (a:E) | rng2 (a b:E) | enm (a:E) | zip (a b:E)
 | fld (a:E) (c f:Nat) | cell (a:E) | new (c f n:Nat) (es:List E) (ds:List T) | meth (a:E) (c f:Nat) (es:List E) (ds:List T)
 | compC (elt:E) (tg:Tg) (it:E)
 | cmpD (c:Cm) (a b:E)
 deriving Inhabited
inductive S where
 | asg (i:Nat) (e:E)
 | asgT (is:List Nat) (e:E)
 | mk (i:Nat) (e:E)
 | app (i:Nat) (e:E)
 | ext (i:Nat) (e:E)
 | put (i:Nat) (j e:E)
 | pop (k i:Nat)
 | frz (i:Nat)
 | ifs (c:E) (a b:List S)
 | whl (c:E) (b:List S)
 | for_ (tg:Tg) (it:E) (b:List S)
 | ret (e:E)
 | retO (e:E)
 | retV (i:Nat)
 | exp (e:E)
 | raise (c:Nat)
 | putL (a j e:E) | appL (a e:E) | setF (a:E) (c f:Nat) (e:E) | popL (a:E) | clrL (a:E) | forC (tg:Tg) (it:E) (b:List S)
 | try_ (b:List S) (c:Nat) (nm:Option Nat) (h:List S)
 | pass
 deriving Inhabited
def eqL (f:T→T→Option Bool):List T→List T→Option Bool
 | [],[]=>some true
 | [],_::_=>some false
 | _::_,[]=>some false
 | a::r,b::q=>match f a b,eqL f r q with
  | some k,some k'=>some (k&&k')
  | _,_=>none
def eqD:Nat→T→T→Option Bool
 | _,.non,.non=>some true
 | _,.bl a,.bl b=>some (a==b)
 | _,.int a,.int b=>some (a==b)
 | _,.str a,.str b=>some (a==b)
 | n+1,.tup a,.tup b=>eqL (eqD n) a b
 | n+1,.lst a,.lst b=>eqL (eqD n) a b
 | _,.non,.int _=>some false
 | _,.int _,.non=>some false
 | _+1,.non,.tup _=>some false
 | _+1,.tup _,.non=>some false
 | _,_,_=>none
abbrev eqT:T→T→Option Bool:=eqD 8
abbrev eqTs:List T→List T→Option Bool:=eqL (eqD 7)
def big:Nat:=10^300
def mulB (i j:Int):Bool:=decide (i.natAbs < 2^64)||decide (j.natAbs < 2^64)||(decide (i.natAbs < big)&&decide (j.natAbs < big))
def lim:Nat:=1000000
def R.seq:R→Option (List T)
 | .val (.lst ts)=>some ts
 | .bor ts=>some ts
 | _=>none
def R.sq2:R→Option (List T)
 | .val (.lst ts)=>some ts
 | .val (.tup ts)=>some ts
 | .bor ts=>some ts
 | _=>none
def R.dr (s:Sto):R→R
 | .val (.loc l)=>match s[l]? with
  | some (.lst ts)=>.bor ts
  | _=>.val (.loc l)
 | r=>r
def opI:Op→Int→Int→Option Int
 | .add,i,j=>some (i+j)
 | .sub,i,j=>some (i - j)
 | .mul,i,j=>if mulB i j then some (i*j) else none
 | .fdiv,i,j=>if j≠0∧j.natAbs < big then some (Int.fdiv i j) else none
 | .mod,i,j=>if j≠0 then some (Int.fmod i j) else none
 | .pow,i,j=>if 0≤j∧j≤100∧i.natAbs < big then some (i^j.toNat) else none
def opR (o:Op) (x y:R):Option R:=match o,x,y with
 | o,.val (.int i),.val (.int j)=>(opI o i j).map fun k=>.val (.int k)
 | .add,.val (.tup xs),.val (.tup ys)=>if xs≠[]∧ys≠[]∧xs.length+ys.length≤lim then some (.val (.tup (xs++ys))) else none
 | .add,x,y=>match x.seq,y.seq with
  | some xs,some ys=>if xs.length+ys.length≤lim then some (.val (.lst (xs++ys))) else none
  | _,_=>none
 | _,_,_=>none
def asInts:List T→Option (List Int)
 | []=>some []
 | .int i::r=>(asInts r).map (i::·)
 | _=>none
def zaa2:List T→Option (List Bool)
 | []=>some []
 | .bl b::r=>(zaa2 r).map (b::·)
 | _=>none
def R.int?:R→Option Int
 | .val (.int i)=>some i
 | _=>none
def R.isNon:R→Bool
 | .val .non=>true
 | _=>false
def R.tup?:R→Option (List T)
 | .val (.tup ts)=>some ts
 | .val (.lst ts)=>some ts
 | _=>none
def R.val?:R→Option T
 | .val t=>some t
 | _=>none
def tru:R→Option Bool
 | .val .non=>some false
 | .val (.bl b)=>some b
 | .val (.int i)=>some (i != 0)
 | .val (.lst ts)=>some (!ts.isEmpty)
 | .val (.tup ts)=>some (!ts.isEmpty)
 | .bor ts=>some (!ts.isEmpty)
 | _=>none
def eqR:R→R→Option Bool
 | .val a,.val b=>eqT a b
 | .val (.lst a),.bor b=>eqTs a b
 | .bor a,.val (.lst b)=>eqTs a b
 | .bor a,.bor b=>eqTs a b
 | _,_=>none
def memT (x:T):List T→Option Bool
 | []=>some false
 | y::r=>match eqT y x,memT x r with
  | some k,some k'=>some (k||k')
  | _,_=>none
def cmpR (c:Cm) (x y:R):Option Bool:=match c with
 | .lt=>do let i ← x.int?;let j ← y.int?;some (decide (i < j))
 | .le=>do let i ← x.int?;let j ← y.int?;some (decide (i≤j))
 | .gt=>do let i ← x.int?;let j ← y.int?;some (decide (j < i))
 | .ge=>do let i ← x.int?;let j ← y.int?;some (decide (j≤i))
 | .eq=>eqR x y
 | .ne=>(eqR x y).map (!·)
 | .isN=>match y with
  | .val .non=>some x.isNon
  | _=>none
 | .notN=>match y with
  | .val .non=>some (!x.isNon)
  | _=>none
 | .mem=>do let t ← x.val?;let ts ← y.sq2;memT t ts
 | .nmem=>do let t ← x.val?;let ts ← y.sq2;(memT t ts).map (!·)
def subR (x:R) (i:Int):Option T:=match x.sq2 with
 | some ts=>L2.atI ts i
 | none=>none
def cutT (ts:List T) (lo hi:Option Int):List T:=(ts.drop (HT.sIx ts.length 0 lo)).take (HT.sIx ts.length ts.length hi - HT.sIx ts.length 0 lo)
def cutR (x:R) (lo hi:Option Int):Option R:=match x with
 | .val (.tup ts)=>if HT.sIx ts.length 0 lo=0∧HT.sIx ts.length ts.length hi=ts.length then none else some (.val (.tup (cutT ts lo hi)))
 | .val (.lst ts)=>some (.val (.lst (cutT ts lo hi)))
 | .bor ts=>some (.val (.lst (cutT ts lo hi)))
 | _=>none
def keyT (i j:Nat):T→Option (Int×Int)
 | .tup ts=>match ts[i]?,ts[j]? with
  | some (.int x),some (.int y)=>some (x,y)
  | _,_=>none
 | _=>none
def keysT (i j:Nat):List T→Option (List (Int×Int))
 | []=>some []
 | t::r=>match keyT i j t,keysT i j r with
  | some x,some y=>some (x::y)
  | _,_=>none
def lt2 (a b:Int×Int):Bool:=decide (a.1 < b.1)||(decide (a.1=b.1)&&decide (a.2 < b.2))
def bestK:Int×Int→T→List ((Int×Int)×T)→T
 | _,t,[]=>t
 | k,t,(k',t')::r=>if lt2 k' k then bestK k' t' r else bestK k t r
def isTbl (s:Sto) (l k:Nat) (p:PySem.Pos) (q:Str):Bool:=match s[l]? with
 | some (.tbl k' p' q')=>decide (k'=k)&&decide (p'=p)&&decide (q'=q)
 | _=>false
def minK (i j:Nat) (ts:List T):Option T:=match keysT i j ts,ts with
 | some (k::ks),t::r=>some (bestK k t (ks.zip r))
 | _,_=>none
def minI:List Int→Option Int
 | []=>none
 | a::r=>some (r.foldl (fun m x=>if x < m then x else m) a)
def maxI:List Int→Option Int
 | []=>none
 | a::r=>some (r.foldl (fun m x=>if x > m then x else m) a)
def insI (x:Int):List Int→List Int
 | []=>[x]
 | y::r=>if x < y then x::y::r else y::insI x r
def sortI (xs:List Int):List Int:=xs.foldl (fun acc x=>insI x acc) []
def b1R (f:Bi) (x:R):Option R:=match f with
 | .len=>x.sq2.map fun ts=>.val (.int ts.length)
 | .abs=>x.int?.map fun i=>.val (.int (if i < 0 then -i else i))
 | .int=>match x with | .val (.int i)=>some (.val (.int i)) | .val (.bl b)=>some (.val (.int (if b then 1 else 0))) | _=>none
 | .list=>x.sq2.map fun ts=>.val (.lst ts)
 | .tuple=>x.sq2.map fun ts=>.val (.tup ts)
 | .any=>do let ts ← x.seq;let bs ← zaa2 ts;some (.val (.bl (bs.any id)))
 | .all=>do let ts ← x.seq;let bs ← zaa2 ts;some (.val (.bl (bs.all id)))
 | .min=>do let ts ← x.seq;let is ← asInts ts;(minI is).map fun i=>.val (.int i)
 | .max=>do let ts ← x.seq;let is ← asInts ts;(maxI is).map fun i=>.val (.int i)
 | .sorted=>do let ts ← x.seq;let is ← asInts ts;if is.length < 64 then some (.val (.lst ((sortI is).map .int))) else none
 | .str=>none
def isiR (x:R) (c:Ty):Option Bool:=match x,c with
 | .val (.int _),.int=>some true | .val (.bl _),.int=>some true | .val (.tup _),.int=>some false | .val (.lst _),.int=>some false | .val .non,.int=>some false | .bor _,.int=>some false
 | .val (.int _),.bool=>some false | .val (.bl _),.bool=>some true | .val (.tup _),.bool=>some false | .val (.lst _),.bool=>some false | .val .non,.bool=>some false
 | .val (.tup _),.tuple=>some true | .val (.int _),.tuple=>some false | .val (.bl _),.tuple=>some false | .val (.lst _),.tuple=>some false | .val .non,.tuple=>some false
 | .val (.lst _),.list=>some true | .bor _,.list=>some true | .val (.tup _),.list=>some false | .val (.int _),.list=>some false | .val .non,.list=>some false
 | _,_=>none
def isiX (sub:Nat→Nat→Bool) (x:R) (c:Ty):Option Bool:=match x,c with
 | .val (.exc d),.cls k=>some (sub d k)
 | x,c=>isiR x c
def enT:Nat→List T→List T
 | _,[]=>[]
 | n,t::ts=>.tup [.int n,t]::enT (n+1) ts
def ziT:List T→List T→List T
 | a::as,b::bs=>.tup [a,b]::ziT as bs
 | _,_=>[]
def fldR (s:Sto) (x:R) (c f:Nat):Option T:=match x with
 | .val (.loc l)=>match s[l]? with
  | some (.ins d fs)=>if d=c then(fs[f]?).join else none
  | _=>none
 | _=>none
def R.locL (s:Sto):R→Option (Nat×List T)
 | .val (.loc l)=>match s[l]? with
  | some (.lst ts)=>some (l,ts)
  | _=>none
 | _=>none
def R.locI (s:Sto) (c:Nat):R→Option (Nat×List (Option T))
 | .val (.loc l)=>match s[l]? with
  | some (.ins d fs)=>if d=c then some (l,fs) else none
  | _=>none
 | _=>none
def look (σ:Fr) (i:Nat):Option R:=match σ[i]? with
 | some (some (.val t))=>some (.val t)
 | some (some (.own ts))=>some (.bor ts)
 | some (some (.bor ts))=>some (.bor ts)
 | some (some (.lck ts))=>some (.bor ts)
 | _=>none
def put (σ:Fr) (i:Nat) (t:T):Fr:=σ.set i (some (.val t))
def puts (σ:Fr):List Nat→List T→Option Fr
 | [],[]=>some σ
 | i::is,t::ts=>puts (put σ i t) is ts
 | _,_=>none
def bindTg (σ:Fr) (g:Tg) (t:T):Option Fr:=match g with
 | .one i=>some (put σ i t)
 | .many is=>match t with
  | .tup ts=>puts σ is ts
  | .lst ts=>puts σ is ts
  | _=>none
inductive SR where
 | stuck | next (σ:Fr) (s:Sto) | ret (r:R) (s:Sto) | retO (ts:List T) (s:Sto) | exc (c:Nat) (σ:Fr) (s:Sto)
structure Cf where
 cf:Nat→List R→Sto→Res R
 sub:Nat→Nat→Bool
 fr:Nat→Bool
 wl:(Fr→Sto→Res Bool)→(Fr→Sto→SR)→Fr→Sto→SR
def consO:Option T→List T→List T
 | some x,q=>x::q
 | none,q=>q
@[simp] theorem consO_some (x:T) (q:List T):consO (some x) q=x::q:=rfl
@[simp] theorem zae9 (q:List T):consO none q=q:=rfl
def mapRes (f:T→Sto→Res (Option T)):List T→Sto→Res (List T)
 | [],s=>.ok [] s
 | t::ts,s=>(f t s).bind fun r s1=>(mapRes f ts s1).bind fun q s2=>.ok (consO r q) s2
def rangeT (i j:Int):List T:=(List.range (j - i).toNat).map fun(k:Nat)=>T.int (i+k)
def bnd (i:Int):Bool:=decide (-(2^62)≤i)&&decide (i < 2^62)
inductive Md where | v | t | i | j
def R.sq3:R→Option (List T)
 | .val (.lst ts)=>some ts
 | .val (.tup ts)=>some ts
 | _=>none
def fin (m:Md) (r:Res R):Res R:=match m with
 | .v=>r
 | .t=>r.bind fun x s=>.of ((tru x).map fun k=>.val (.bl k)) s
 | .i=>r.bind fun x s=>.of (x.sq2.map fun ts=>.val (.lst ts)) s
 | .j=>r.bind fun x s=>.of (x.sq3.map fun ts=>.val (.lst ts)) s
@[simp] theorem fin_v (r:Res R):fin .v r=r:=rfl
@[simp] theorem fin_t (r:Res R):fin .t r=r.bind fun x s=>.of ((tru x).map fun k=>.val (.bl k)) s:=rfl
@[simp] theorem fin_j (r:Res R):fin .j r=r.bind fun x s=>.of (x.sq3.map fun ts=>.val (.lst ts)) s:=rfl
@[simp] theorem fin_i (r:Res R):fin .i r=r.bind fun x s=>.of (x.sq2.map fun ts=>.val (.lst ts)) s:=rfl
def onB (x:R) (a b:Res R):Res R:=match x with
 | .val (.bl true)=>a
 | .val (.bl false)=>b
 | _=>.stuck
def onI (x:R) (f:Int→Res R):Res R:=match x with
 | .val (.int i)=>f i
 | _=>.stuck
def onL (x:R) (f:List T→Res R):Res R:=match x with
 | .val (.lst ts)=>f ts
 | _=>.stuck
def onV (x:R) (f:T→Res (List T)):Res (List T):=match x with
 | .val t=>f t
 | _=>.stuck
def one (m:Res R):Res (Option T):=match m with
 | .ok r s=>.of (r.val?.map some) s
 | .exc c s=>.exc c s
 | .stuck=>.stuck
def onO {α β:Type} (o:Option α) (f:α→Res β):Res β:=match o with
 | some a=>f a
 | none=>.stuck
def onN (x:R) (m:Res R):Res R:=match x with
 | .val .non=>m
 | _=>.stuck
open Classical in
noncomputable def keepC {α:Type} (l:Nat) (ts:List T) (m:Res α):Res α:=match m with
 | .ok a s=>if s[l]?=some (.lst ts) then .ok a s else .stuck
 | r=>r
def rngM (m:Md) (r:Res R):Res R:=match m with | .i=>r | .j=>r | _=>.stuck
mutual
noncomputable def ev (C:Cf):E→Md→Fr→Sto→Res R
 | .var i,m,σ,s=>fin m (.of (look σ i) s)
 | .cst t,m,_,s=>fin m (.ok (.val t) s)
 | .glb _ i,m,_,s=>fin m (.ok (.val (.int i)) s)
 | .bin o a b,m,σ,s=>fin m ((ev C a .v σ s).bind fun x s1=>(ev C b .v σ s1).bind fun y s2=>.of (opR o x y) s2)
 | .neg a,m,σ,s=>fin m ((ev C a .v σ s).bind fun x s1=>.of (x.int?.map fun i=>.val (.int (-i))) s1)
 | .not a,.t,σ,s=>(ev C a .t σ s).bind fun x s1=>onB x (.ok (.val (.bl false)) s1) (.ok (.val (.bl true)) s1)
 | .not a,m,σ,s=>fin m ((ev C a .v σ s).bind fun x s1=>.of ((tru x).map fun k=>.val (.bl (!k))) s1)
 | .cmp c a b,m,σ,s=>fin m ((ev C a .v σ s).bind fun x s1=>(ev C b .v σ s1).bind fun y s2=>.of ((cmpR c x y).map fun k=>.val (.bl k)) s2)
 | .and a b,.t,σ,s=>(ev C a .t σ s).bind fun x s1=>onB x (ev C b .t σ s1) (.ok (.val (.bl false)) s1)
 | .or a b,.t,σ,s=>(ev C a .t σ s).bind fun x s1=>onB x (.ok (.val (.bl true)) s1) (ev C b .t σ s1)
 | .and a b,m,σ,s=>fin m ((ev C a .v σ s).bind fun x s1=>onB x (ev C b .v σ s1) (.ok (.val (.bl false)) s1))
 | .or a b,m,σ,s=>fin m ((ev C a .v σ s).bind fun x s1=>onB x (.ok (.val (.bl true)) s1) (ev C b .v σ s1))
 | .ife c a b,m,σ,s=>fin m ((ev C c .t σ s).bind fun x s1=>onB x (ev C a .v σ s1) (ev C b .v σ s1))
 | .tup es,m,σ,s=>fin m ((evs C es σ s).bind fun ts s1=>.ok (.val (.tup ts)) s1)
 | .lst es,m,σ,s=>fin m ((evs C es σ s).bind fun ts s1=>.ok (.val (.lst ts)) s1)
 | .sub a b,m,σ,s=>fin m ((ev C a .v σ s).bind fun x s1=>(ev C b .v σ s1).bind fun y s2=>onI y fun i=>.of ((subR (x.dr s2) i).map .val) s2)
 | .cutL a l,m,σ,s=>fin m ((ev C a .v σ s).bind fun x s1=>(ev C l .v σ s1).bind fun y s2=>onI y fun i=>.of (cutR (x.dr s2) (some i) none) s2)
 | .cutU a h,m,σ,s=>fin m ((ev C a .v σ s).bind fun x s1=>(ev C h .v σ s1).bind fun y s2=>onI y fun i=>.of (cutR (x.dr s2) none (some i)) s2)
 | .cutLU a l h,m,σ,s=>fin m ((ev C a .v σ s).bind fun x s1=>(ev C l .v σ s1).bind fun y s2=>onI y fun i=>(ev C h .v σ s2).bind fun z s3=>onI z fun j=>.of (cutR (x.dr s3) (some i) (some j)) s3)
 | .rev a,m,σ,s=>fin m ((ev C a .v σ s).bind fun x s1=>.of (x.seq.map fun ts=>.val (.lst ts.reverse)) s1)
 | .b1 f a,m,σ,s=>fin m ((ev C a .v σ s).bind fun x s1=>.of (b1R f (x.dr s1)) s1)
 | .mn2 a b,m,σ,s=>fin m ((ev C a .v σ s).bind fun x s1=>(ev C b .v σ s1).bind fun y s2=>.of (do let i ← x.int?;let j ← y.int?;some (.val (.int (if j < i then j else i)))) s2)
 | .mx2 a b,m,σ,s=>fin m ((ev C a .v σ s).bind fun x s1=>(ev C b .v σ s1).bind fun y s2=>.of (do let i ← x.int?;let j ← y.int?;some (.val (.int (if j > i then j else i)))) s2)
 | .mxd a d,m,σ,s=>fin m ((ev C a .v σ s).bind fun x s1=>(ev C d .v σ s1).bind fun y s2=>.of (do let ts ← x.seq;let is ← asInts ts;let d ← y.int?;some (.val (.int ((maxI is).getD d)))) s2)
 | .mnd a d,m,σ,s=>fin m ((ev C a .v σ s).bind fun x s1=>(ev C d .v σ s1).bind fun y s2=>.of (do let ts ← x.seq;let is ← asInts ts;let d ← y.int?;some (.val (.int ((minI is).getD d)))) s2)
 | .mnk a i j l k p q,m,σ,s=>fin m ((ev C a .v σ s).bind fun x s1=>.of (if isTbl s1 l k p q then x.seq.bind fun ts=>(minK i j ts).map .val else none) s1)
 | .sok _ _ _,_,_,_=>.stuck
 | .isi a c,m,σ,s=>fin m ((ev C a .v σ s).bind fun x s1=>.of ((isiX C.sub (x.dr s1) c).map fun k=>.val (.bl k)) s1)
 | .call f es ds,m,σ,s=>fin m ((evr C es σ s).bind fun rs s1=>C.cf f (rs++ds.map .val) s1)
 | .comp e g it,m,σ,s=>fin m ((ev C it .i σ s).bind fun x s1=>onL x fun ts=>(mapRes (fun t s=>onO (bindTg σ g t) fun σ'=>one (ev C e .v σ' s)) ts s1).bind fun q s2=>.ok (.val (.lst q)) s2)
 | .compIf e g it c,m,σ,s=>fin m ((ev C it .i σ s).bind fun x s1=>onL x fun ts=>(mapRes (fun t s=>onO (bindTg σ g t) fun σ'=>
   match ev C c .t σ' s with
   | .ok (.val (.bl true)) s2=>one (ev C e .v σ' s2)
   | .ok (.val (.bl false)) s2=>.ok none s2
   | .exc c s2=>.exc c s2
   | _=>.stuck) ts s1).bind fun q s2=>.ok (.val (.lst q)) s2)
 | .rng1 a,m,σ,s=>rngM m ((ev C a .v σ s).bind fun x s1=>onI x fun j=>if bnd j&&decide (j≤lim) then .ok (.val (.lst (rangeT 0 j))) s1 else .stuck)
 | .rng2 a b,m,σ,s=>rngM m ((ev C a .v σ s).bind fun x s1=>onI x fun i=>(ev C b .v σ s1).bind fun y s2=>onI y fun j=>if bnd i&&bnd j&&decide (j - i≤lim) then .ok (.val (.lst (rangeT i j))) s2 else .stuck)
 | .enm a,m,σ,s=>rngM m ((ev C a .v σ s).bind fun x s1=>onL x fun ts=>.ok (.val (.lst (enT 0 ts))) s1)
 | .zip a b,m,σ,s=>rngM m ((ev C a .v σ s).bind fun x s1=>(ev C b .v σ s1).bind fun y s2=>.of (do let ts ← x.sq3;let us ← y.sq3;some (.val (.lst (ziT ts us)))) s2)
 | .fld a c f,m,σ,s=>fin m ((ev C a .v σ s).bind fun x s1=>.of ((fldR s1 x c f).map .val) s1)
 | .cell a,m,σ,s=>fin m ((ev C a .v σ s).bind fun x s1=>onL x fun ts=>.ok (.val (.loc s1.length)) (s1++[.lst ts]))
 | .new c f n es ds,m,σ,s=>fin m ((evr C es σ s).bind fun rs s1=>(C.cf f (.val (.loc s1.length)::rs++ds.map .val) (s1++[.ins c (List.replicate n none)])).bind fun r s2=>onN r (.ok (.val (.loc s1.length)) s2))
 | .meth a c f es ds,m,σ,s=>fin m ((ev C a .v σ s).bind fun x s1=>onO (x.locI s1 c) fun _=>(evr C es σ s1).bind fun rs s2=>C.cf f (x::rs++ds.map .val) s2)
 | .compC e g it,m,σ,s=>fin m ((ev C it .v σ s).bind fun x s1=>onO (x.locL s1) fun p=>(mapRes (fun t s=>onO (bindTg σ g t) fun σ'=>keepC p.1 p.2 (one (ev C e .v σ' s))) p.2 s1).bind fun q s2=>.ok (.val (.lst q)) s2)
 | .cmpD c a b,m,σ,s=>fin m ((ev C a .v σ s).bind fun x s1=>(ev C b .v σ s1).bind fun y s2=>.of ((cmpR c (x.dr s2) (y.dr s2)).map fun k=>.val (.bl k)) s2)
noncomputable def evs (C:Cf):List E→Fr→Sto→Res (List T)
 | [],_,s=>.ok [] s
 | e::es,σ,s=>(ev C e .v σ s).bind fun x s1=>onV x fun t=>(evs C es σ s1).bind fun ts s2=>.ok (t::ts) s2
noncomputable def evr (C:Cf):List E→Fr→Sto→Res (List R)
 | [],_,s=>.ok [] s
 | e::es,σ,s=>(ev C e .v σ s).bind fun x s1=>(evr C es σ s1).bind fun xs s2=>.ok (x::xs) s2
end
def frz (σ:Fr) (i:Nat):Fr:=match σ[i]? with
 | some (some (.own ts))=>σ.set i (some (.val (.lst ts)))
 | _=>σ
def setOwn (σ:Fr) (i:Nat) (ts:List T):Fr:=σ.set i (some (.own ts))
def ownAt (σ:Fr) (i:Nat):Option (List T):=match σ[i]? with
 | some (some (.own ts))=>some ts
 | _=>none
def R.sto (r:R):Option T:=r.val?
def Res.st (m:Res R) (σ:Fr) (k:R→Sto→SR):SR:=match m with
 | .stuck=>.stuck
 | .ok a s=>k a s
 | .exc c s=>.exc c σ s
@[simp] theorem Res.st_ok (a:R) (s:Sto) (σ:Fr) (k:R→Sto→SR):(Res.ok a s).st σ k=k a s:=rfl
@[simp] theorem Res.st_exc (c:Nat) (s:Sto) (σ:Fr) (k:R→Sto→SR):(Res.exc c s).st σ k=.exc c σ s:=rfl
def SR.bind (m:SR) (k:Fr→Sto→SR):SR:=match m with
 | .next σ s=>k σ s
 | r=>r
@[simp] theorem SR.bind_next (σ:Fr) (s:Sto) (k:Fr→Sto→SR):(SR.next σ s).bind k=k σ s:=rfl
@[simp] theorem SR.bind_ret (r:R) (s:Sto) (k:Fr→Sto→SR):(SR.ret r s).bind k=.ret r s:=rfl
@[simp] theorem SR.bind_retO (ts:List T) (s:Sto) (k:Fr→Sto→SR):(SR.retO ts s).bind k=.retO ts s:=rfl
@[simp] theorem SR.bind_exc (c:Nat) (σ:Fr) (s:Sto) (k:Fr→Sto→SR):(SR.exc c σ s).bind k=.exc c σ s:=rfl
@[simp] theorem SR.bind_stuck (k:Fr→Sto→SR):SR.stuck.bind k=.stuck:=rfl
def onS {α:Type} (o:Option α) (f:α→SR):SR:=match o with
 | some a=>f a
 | none=>.stuck
@[simp] theorem onS_some {α:Type} (a:α) (f:α→SR):onS (some a) f=f a:=rfl
@[simp] theorem onS_none {α:Type} (f:α→SR):onS none f=.stuck:=rfl
def onBS (x:R) (a b:SR):SR:=match x with
 | .val (.bl true)=>a
 | .val (.bl false)=>b
 | _=>.stuck
def R.lst?:R→Option (List T)
 | .val (.lst ts)=>some ts
 | _=>none
def forL (g:Tg) (body:Fr→Sto→SR):List T→Fr→Sto→SR
 | [],σ,s=>.next σ s
 | t::ts,σ,s=>onS (bindTg σ g t) fun σ'=>(body σ' s).bind fun σ2 s2=>forL g body ts σ2 s2
open Classical in
noncomputable def forC (g:Tg) (body:Fr→Sto→SR) (l:Nat) (all:List T):List T→Fr→Sto→SR
 | [],σ,s=>if s[l]?=some (.lst all) then .next σ s else .stuck
 | t::ts,σ,s=>if s[l]?=some (.lst all) then onS (bindTg σ g t) fun σ'=>(body σ' s).bind fun σ2 s2=>forC g body l all ts σ2 s2 else .stuck
def SR.nox (r:SR):SR:=match r with
 | .exc _ _ _=>.stuck
 | r=>r
def lock (σ:Fr) (i:Nat):Fr:=match σ[i]? with
 | some (some (.own ts))=>σ.set i (some (.lck ts))
 | _=>σ
def unlock (σ:Fr) (i:Nat):Fr:=match σ[i]? with
 | some (some (.lck ts))=>σ.set i (some (.own ts))
 | _=>σ
def SR.unlock (r:SR) (i:Nat):SR:=match r with
 | .next σ s=>.next (IP.unlock σ i) s
 | .exc c σ s=>.exc c (IP.unlock σ i) s
 | r=>r
def isOwn (σ:Fr) (i:Nat):Bool:=match σ[i]? with
 | some (some (.own _))=>true
 | _=>false
def freshE (C:Cf):E→Bool
 | .lst _=>true | .comp _ _ _=>true | .compIf _ _ _ _=>true | .b1 .list _=>true | .rev _=>true | .bin .add _ _=>true | .call f _ _=>C.fr f | _=>false
mutual
noncomputable def ex (C:Cf):S→Fr→Sto→SR
 | .asg i e,σ,s=>(ev C e .v σ s).st σ fun x s1=>onS x.val? fun t=>.next (put σ i t) s1
 | .asgT is e,σ,s=>(ev C e .v σ s).st σ fun x s1=>onS x.tup? fun ts=>onS (puts σ is ts) fun σ'=>.next σ' s1
 | .mk i e,σ,s=>if freshE C e then(ev C e .v σ s).st σ fun x s1=>onS x.lst? fun ts=>.next (setOwn σ i ts) s1 else .stuck
 | .app i e,σ,s=>onS (ownAt σ i) fun ts=>(ev C e .v σ s).st σ fun x s1=>onS x.val? fun t=>if ts.length < lim then .next (setOwn σ i (ts++[t])) s1 else .stuck
 | .ext i e,σ,s=>onS (ownAt σ i) fun ts=>(ev C e .v σ s).st σ fun x s1=>onS x.lst? fun us=>if ts.length+us.length≤lim then .next (setOwn σ i (ts++us)) s1 else .stuck
 | .put i j e,σ,s=>onS (ownAt σ i) fun ts=>(ev C e .v σ s).st σ fun x s1=>onS x.val? fun t=>(ev C j .v σ s1).st σ fun y s2=>onS y.int? fun k=>onS (L2.ixN ts.length k) fun n=>.next (setOwn σ i (ts.set n t)) s2
 | .pop k i,σ,s=>onS (ownAt σ i) fun ts=>onS ts.getLast? fun t=>.next (put (setOwn σ i ts.dropLast) k t) s
 | .frz i,σ,s=>.next (frz σ i) s
 | .ifs c a b,σ,s=>(ev C c .t σ s).st σ fun x s1=>onBS x (exs C a σ s1) (exs C b σ s1)
 | .whl c b,σ,s=>C.wl (fun σ s=>(ev C c .t σ s).bind fun x s1=>.of (match x with | .val (.bl k)=>some k | _=>none) s1) (fun σ s=>exs C b σ s) σ s
 | .for_ g it b,σ,s=>match it with
  | .var i=>(ev C (.var i) .i σ s).st σ fun x s1=>onS x.lst? fun ts=>if isOwn σ i then(forL g (fun σ s=>exs C b σ s) ts (lock σ i) s1).unlock i else forL g (fun σ s=>exs C b σ s) ts σ s1
  | it=>(ev C it .j σ s).st σ fun x s1=>onS x.lst? fun ts=>forL g (fun σ s=>exs C b σ s) ts σ s1
 | .ret e,σ,s=>(ev C e .v σ s).st σ fun x s1=>.ret x s1
 | .retO e,σ,s=>if freshE C e then(ev C e .v σ s).st σ fun x s1=>onS x.lst? fun ts=>.retO ts s1 else .stuck
 | .retV i,σ,s=>onS (ownAt σ i) fun ts=>.retO ts s
 | .exp e,σ,s=>(ev C e .v σ s).st σ fun _ s1=>.next σ s1
 | .raise c,σ,s=>.exc c σ s
 | .try_ b c nm h,σ,s=>match exs C b σ s with
  | .exc d σ1 s1=>if C.sub d c then(match nm with
    | none=>(exs C h σ1 s1).nox
    | some i=>(exs C h (put σ1 i (.exc d)) s1).nox.bind fun σ2 s2=>.next (σ2.set i none) s2) else .exc d σ1 s1
  | r=>r
 | .putL a j e,σ,s=>(ev C e .v σ s).st σ fun x s1=>onS x.val? fun t=>(ev C a .v σ s1).st σ fun y s2=>(ev C j .v σ s2).st σ fun z s3=>onS (y.locL s3) fun p=>onS z.int? fun k=>onS (L2.ixN p.2.length k) fun n=>.next σ (s3.set p.1 (.lst (p.2.set n t)))
 | .appL a e,σ,s=>(ev C a .v σ s).st σ fun y s1=>onS (y.locL s1) fun _=>(ev C e .v σ s1).st σ fun x s2=>onS x.val? fun t=>onS (y.locL s2) fun p=>if p.2.length < lim then .next σ (s2.set p.1 (.lst (p.2++[t]))) else .stuck
 | .setF a c f e,σ,s=>(ev C e .v σ s).st σ fun x s1=>onS x.val? fun t=>(ev C a .v σ s1).st σ fun y s2=>onS (y.locI s2 c) fun p=>if f < p.2.length then .next σ (s2.set p.1 (.ins c (p.2.set f (some t)))) else .stuck
 | .popL a,σ,s=>(ev C a .v σ s).st σ fun y s1=>onS (y.locL s1) fun p=>if p.2.isEmpty then .stuck else .next σ (s1.set p.1 (.lst p.2.dropLast))
 | .clrL a,σ,s=>(ev C a .v σ s).st σ fun y s1=>onS (y.locL s1) fun p=>.next σ (s1.set p.1 (.lst []))
 | .forC g it b,σ,s=>(ev C it .v σ s).st σ fun x s1=>onS (x.locL s1) fun p=>forC g (fun σ s=>exs C b σ s) p.1 p.2 p.2 σ s1
 | .pass,σ,s=>.next σ s
noncomputable def exs (C:Cf):List S→Fr→Sto→SR
 | [],σ,s=>.next σ s
 | a::r,σ,s=>(ex C a σ s).bind fun σ1 s1=>exs C r σ1 s1
end
structure Fn where
 pars:Nat
 size:Nat
 fr:Bool
 body:List S
def ofR:R→B
 | .val t=>.val t
 | .bor ts=>.bor ts
def enter (F:Fn) (rs:List R):Fr:=rs.map (fun r=>some (ofR r))++List.replicate (F.size - rs.length) none
def leave (x fr:Bool):SR→Res R
 | .ret r s=>if fr then .stuck else .ok r s
 | .retO ts s=>if fr then .ok (.val (.lst ts)) s else .stuck
 | .next _ s=>if fr then .stuck else .ok (.val .non) s
 | .exc c _ s=>if x then .exc c s else .stuck
 | .stuck=>.stuck
def whileN (c:Fr→Sto→Res Bool) (b:Fr→Sto→SR):Nat→Fr→Sto→SR
 | 0,_,_=>.stuck
 | n+1,σ,s=>match c σ s with
  | .stuck=>.stuck
  | .exc d s1=>.exc d σ s1
  | .ok false s1=>.next σ s1
  | .ok true s1=>(b σ s1).bind fun σ2 s2=>whileN c b n σ2 s2
open Classical in
noncomputable def whileL (c:Fr→Sto→Res Bool) (b:Fr→Sto→SR) (σ:Fr) (s:Sto):SR:=
 if h:∃n,whileN c b n σ s≠.stuck then whileN c b (choose h) σ s else .stuck
def frOf (fs:List Fn) (f:Nat):Bool:=match fs[f]? with
 | some F=>F.fr
 | none=>false
noncomputable def run (x:Bool) (fs:List Fn) (sub:Nat→Nat→Bool) (wl:(Fr→Sto→Res Bool)→(Fr→Sto→SR)→Fr→Sto→SR):Nat→Nat→List R→Sto→Res R
 | 0,_,_,_=>.stuck
 | k+1,f,rs,s=>match fs[f]? with
  | none=>.stuck
  | some F=>if rs.length=F.pars then leave x F.fr (exs ⟨run x fs sub wl k,sub,frOf fs,wl⟩ F.body (enter F rs) s) else .stuck
end IP
end
section
set_option Elab.async false
set_option linter.all false
set_option maxRecDepth 100000
namespace IP
open PySem L2
structure Gx where
 K:PySem.W.Frag
 cA:Nat→Addr
 iA:Nat→Addr
 nm:Nat→List Str
structure Wo where
 n:Nat
 io:Nat→Addr
 Z:Addr→Prop
def errAt (a:Addr) (C:Addr):Heap→Prop:=fun h=>∃o,h.get? a=some o∧o.cls=.ref C
def codeO (c:Addr) (q:Str):Heap→Prop:=fun h=>h.CodeRec (.ref c) q
section
variable (G:Gx)
mutual
def Rep (w:Wo) (H:Hp):T→V→Prop
 | .non,v=>v=.non
 | .bl b,v=>v=.bl b
 | .int i,v=>v=.int i
 | .str x,v=>v=.str x
 | .tup ts,v=>∃a vs,v=.ref a∧H a=some (.tup vs)∧Reps w H ts vs
 | .lst ts,v=>∃a vs,v=.ref a∧w.Z a∧Rd H a (.lst vs)∧Reps w H ts vs
 | .loc l,v=>l < w.n∧v=.ref (w.io l)
 | .exc c,v=>∃a,v=.ref a∧H a=some (.ext (errAt a (G.cA c)))
def Reps (w:Wo) (H:Hp):List T→List V→Prop
 | [],vs=>vs=[]
 | t::ts,vs=>∃v r,vs=v::r∧Rep w H t v∧Reps w H ts r
end
end
def notLoc (w:Wo) (a:Addr):Prop:=∀l,l < w.n→a≠w.io l
structure Le (w w':Wo) (H H':Hp):Prop where
 n:w.n≤w'.n
 io:∀l,l < w.n→w'.io l=w.io l
 Z:∀a,w.Z a→w'.Z a
 keep:∀a o,H a=some o→notLoc w a→H' a=some o
 newL:∀l,w.n≤l→l < w'.n→H (w'.io l)=none
 newZ:∀a,w'.Z a→w.Z a∨H a=none
 some_:∀a,H a≠none→H' a≠none
theorem Le.refl (w:Wo) (H:Hp):Le w w H H:=⟨Nat.le_refl _,fun _ _=>rfl,fun _ z=>z,fun _ _ e _=>e,fun l a b=>absurd (Nat.lt_of_lt_of_le b a) (Nat.lt_irrefl _),fun _ z=>.inl z,fun _ z=>z⟩
theorem Le.trans {w w1 w2:Wo} {H H1 H2:Hp} (a:Le w w1 H H1) (b:Le w1 w2 H1 H2):Le w w2 H H2 where
 n:=Nat.le_trans a.n b.n
 io:=fun l h=>(b.io l (Nat.lt_of_lt_of_le h a.n)).trans (a.io l h)
 Z:=fun x z=>b.Z x (a.Z x z)
 keep:=fun x o e nl=>b.keep x o (a.keep x o e nl) fun l hl q=>by
  by_cases h:l < w.n
  ·exact nl l h (q.trans (a.io l h))
  ·have:=a.newL l (Nat.le_of_not_lt h) hl
   rw[← q,e] at this
   cases this
 newL:=fun l h1 h2=>by
  by_cases h:l < w1.n
  ·rw[b.io l h]
   exact a.newL l h1 h
  ·have q:=b.newL l (Nat.le_of_not_lt h) h2
   cases e:H (w2.io l) with
   | none=>rfl
   | some o=>exact absurd q (a.some_ _ (by rw[e];intro z;cases z))
 newZ:=fun x z=>by
  rcases b.newZ x z with z | z
  ·exact a.newZ x z
  ·refine .inr ?_
   cases e:H x with
   | none=>rfl
   | some o=>exact absurd z (a.some_ x (by rw[e];intro q;cases q))
 some_:=fun x z=>b.some_ x (a.some_ x z)
section
variable {G:Gx}
def KvOk (nm:List Str) (kvs:List (Str×V)):Prop:=(kvs.map (·.1)).Nodup∧∀x∈kvs.map (·.1),x∈nm
def CellOk (G:Gx) (w:Wo) (H:Hp) (a:Addr):Cell→Prop
 | .lst ts=>∃vs,H a=some (.lst vs)∧Reps G w H ts vs
 | .ins c fs=>∃dx kvs,H a=some (.ins (G.iA c) dx kvs)∧KvOk (G.nm c) kvs∧∀(i:Nat) (x:Str) (t:T),(G.nm c)[i]?=some x→fs[i]?=some (some t)→∃v,kvs.lookup x=some v∧Rep G w H t v
 | .tbl k p q=>a=G.iA k∧∃ps:Array Value,H a=some (.tbl ps)∧TriplesOk ps.toList∧∀cv,codeAmong p ps.toList=some cv→∃c,cv=.ref c∧H c=some (.ext (codeO c q))
structure StoOk (G:Gx) (w:Wo) (H:Hp) (s:Sto):Prop where
 len:s.length=w.n
 inj:∀l m,l < w.n→m < w.n→w.io l=w.io m→l=m
 nz:∀l,l < w.n→¬w.Z (w.io l)
 cell:∀l c,s[l]?=some c→CellOk G w H (w.io l) c
 zt:∀a,w.Z a→∃vs,Rd H a (.lst vs)
theorem StoOk.loc {w:Wo} {H:Hp} {s:Sto} (S:StoOk G w H s) {l:Nat} (h:l < w.n):(∃vs,H (w.io l)=some (.lst vs))∨(∃c dx kvs,H (w.io l)=some (.ins c dx kvs))∨∃ps,H (w.io l)=some (.tbl ps):=by
 have hl:l < s.length:=by rw[S.len];exact h
 have q:=S.cell l s[l] (List.getElem?_eq_getElem hl)
 cases e:s[l] with
 | lst ts=>rw[e] at q;obtain⟨vs,q,_⟩:=q;exact .inl ⟨vs,q⟩
 | ins c fs=>rw[e] at q;obtain⟨dx,kvs,q,_⟩:=q;exact .inr (.inl ⟨_,dx,kvs,q⟩)
 | tbl k p q'=>rw[e] at q;obtain⟨_,ps,q,_⟩:=q;exact .inr (.inr ⟨ps,q⟩)
theorem StoOk.notLoc {w:Wo} {H:Hp} {s:Sto} (S:StoOk G w H s) {a:Addr} {o:HO} (e:H a=some o) (h1:∀vs,o≠.lst vs) (h2:∀c dx kvs,o≠.ins c dx kvs) (h3:∀ps,o≠.tbl ps:=by intro _ z;cases z):IP.notLoc w a:=fun l hl q=>by
 subst q
 rcases S.loc hl with⟨vs,z⟩ | ⟨c,dx,kvs,z⟩ | ⟨ps,z⟩
 ·rw[e] at z;exact h1 vs (Option.some.inj z)
 ·rw[e] at z;exact h2 c dx kvs (Option.some.inj z)
 ·rw[e] at z;exact h3 ps (Option.some.inj z)
theorem StoOk.zLoc {w:Wo} {H:Hp} {s:Sto} (S:StoOk G w H s) {a:Addr} (z:w.Z a):IP.notLoc w a:=fun l hl q=>S.nz l hl (q▸z)
theorem StoOk.fresh {w:Wo} {H:Hp} {s:Sto} (S:StoOk G w H s) {a:Addr} (h:H a=none):¬w.Z a∧IP.notLoc w a:=by
 refine⟨fun z=>?_,fun l hl q=>?_⟩
 ·obtain⟨vs,r | ⟨o,r⟩⟩:=S.zt a z
  ·rw[h] at r;cases r
  ·rw[h] at r;cases r
 ·subst q
  rcases S.loc hl with⟨vs,z⟩ | ⟨c,dx,kvs,z⟩ | ⟨ps,z⟩<;>(rw[h] at z;cases z)
theorem Rd.keep {w w':Wo} {H H':Hp} {a:Addr} {u:HO} (L:Le w w' H H') (nl:IP.notLoc w a) (r:Rd H a u):Rd H' a u:=by
 rcases r with r | ⟨o,r⟩
 ·exact .inl (L.keep _ _ r nl)
 ·exact .inr ⟨o,L.keep _ _ r nl⟩
mutual
theorem Rep.mono {w w':Wo} {H H':Hp} {s:Sto} (L:Le w w' H H') (S:StoOk G w H s):∀(t:T) (v:V),Rep G w H t v→Rep G w' H' t v
 | .non,v,h=>h
 | .bl b,v,h=>h
 | .int i,v,h=>h
 | .str x,v,h=>h
 | .tup ts,v,⟨a,vs,e,h,r⟩=>⟨a,vs,e,L.keep _ _ h (S.notLoc h (fun _ z=>by cases z) fun _ _ _ z=>by cases z),Reps.mono L S ts vs r⟩
 | .lst ts,v,⟨a,vs,e,z,h,r⟩=>⟨a,vs,e,L.Z _ z,Rd.keep L (S.zLoc z) h,Reps.mono L S ts vs r⟩
 | .loc l,v,⟨h,e⟩=>⟨Nat.lt_of_lt_of_le h L.n,by rw[L.io l h];exact e⟩
 | .exc c,v,⟨a,e,h⟩=>⟨a,e,L.keep _ _ h (S.notLoc h (fun _ z=>by cases z) fun _ _ _ z=>by cases z)⟩
theorem Reps.mono {w w':Wo} {H H':Hp} {s:Sto} (L:Le w w' H H') (S:StoOk G w H s):∀(ts:List T) (vs:List V),Reps G w H ts vs→Reps G w' H' ts vs
 | [],vs,h=>h
 | t::ts,vs,⟨v,r,e,h,q⟩=>⟨v,r,e,Rep.mono L S t v h,Reps.mono L S ts r q⟩
end
theorem Reps.length {w:Wo} {H:Hp}:∀{ts:List T} {vs:List V},Reps G w H ts vs→ts.length=vs.length
 | [],_,h=>by rw[h];rfl
 | t::ts,_,⟨v,r,e,_,q⟩=>by subst e;simp[Reps.length q]
theorem Reps.get {w:Wo} {H:Hp}:∀{ts:List T} {vs:List V} {i:Nat} {t:T},Reps G w H ts vs→ts[i]?=some t→∃v,vs[i]?=some v∧Rep G w H t v
 | [],_,i,t,h,e=>by simp at e
 | t::ts,_,0,u,⟨v,r,e,h,q⟩,z=>by subst e;simp at z;subst z;exact⟨v,rfl,h⟩
 | t::ts,_,i+1,u,⟨v,r,e,h,q⟩,z=>by
  subst e
  obtain⟨x,h1,h2⟩:=Reps.get q (i:=i) (t:=u) (by simpa using z)
  exact⟨x,by simpa using h1,h2⟩
theorem Reps.get' {w:Wo} {H:Hp} {ts:List T} {vs:List V} {i:Nat} {v:V} (h:Reps G w H ts vs) (e:vs[i]?=some v):∃t,ts[i]?=some t∧Rep G w H t v:=by
 have hi:i < ts.length:=by
  rw[h.length]
  exact(List.getElem?_eq_some_iff.mp e).1
 obtain⟨u,h1,h2⟩:=h.get (List.getElem?_eq_getElem hi)
 rw[e] at h1
 cases h1
 exact⟨_,List.getElem?_eq_getElem hi,h2⟩
theorem Reps.append {w:Wo} {H:Hp}:∀{ts us:List T} {vs ws:List V},Reps G w H ts vs→Reps G w H us ws→Reps G w H (ts++us) (vs++ws)
 | [],us,_,ws,h,q=>by rw[h];exact q
 | t::ts,us,_,ws,⟨v,r,e,h,k⟩,q=>by subst e;exact⟨v,r++ws,rfl,h,Reps.append k q⟩
theorem Reps.set {w:Wo} {H:Hp} {t:T} {v:V} (rv:Rep G w H t v):∀{ts:List T} {vs:List V} (i:Nat),Reps G w H ts vs→Reps G w H (ts.set i t) (vs.set i v)
 | [],_,i,h=>by rw[h];exact rfl
 | x::ts,_,0,⟨y,r,e,h,k⟩=>by subst e;exact⟨v,r,rfl,rv,k⟩
 | x::ts,_,i+1,⟨y,r,e,h,k⟩=>by subst e;exact⟨y,r.set i v,rfl,h,Reps.set rv i k⟩
theorem Reps.drop {w:Wo} {H:Hp}:∀{ts:List T} {vs:List V} (i:Nat),Reps G w H ts vs→Reps G w H (ts.drop i) (vs.drop i)
 | ts,vs,0,h=>h
 | [],_,i+1,h=>by rw[h];exact rfl
 | x::ts,_,i+1,⟨y,r,e,h,k⟩=>by subst e;exact Reps.drop i k
theorem Reps.take {w:Wo} {H:Hp}:∀{ts:List T} {vs:List V} (i:Nat),Reps G w H ts vs→Reps G w H (ts.take i) (vs.take i)
 | ts,vs,0,h=>by simp;exact rfl
 | [],_,i+1,h=>by rw[h];exact rfl
 | x::ts,_,i+1,⟨y,r,e,h,k⟩=>by subst e;exact⟨y,r.take i,rfl,h,Reps.take i k⟩
theorem Reps.reverse {w:Wo} {H:Hp}:∀{ts:List T} {vs:List V},Reps G w H ts vs→Reps G w H ts.reverse vs.reverse
 | [],_,h=>by rw[h];exact rfl
 | x::ts,_,⟨y,r,e,h,k⟩=>by
  subst e
  rw[List.reverse_cons,List.reverse_cons]
  exact Reps.append (Reps.reverse k) ⟨y,[],rfl,h,rfl⟩
theorem Reps.cut {w:Wo} {H:Hp} {ts:List T} {vs:List V} (h:Reps G w H ts vs) (lo hi:Option Int):Reps G w H (cutT ts lo hi) (cutV vs lo hi):=by
 unfold cutT cutV
 rw[← h.length]
 exact(h.drop _).take _
def RepR (G:Gx) (w:Wo) (H:Hp):R→V→Prop
 | .val t,v=>Rep G w H t v
 | .bor ts,v=>∃a vs,v=.ref a∧H a=some (.lst vs)∧Reps G w H ts vs∧notLoc w a
def RepD (G:Gx) (w:Wo) (H:Hp):R→V→Prop
 | .val t,v=>Rep G w H t v
 | .bor ts,v=>∃a vs,v=.ref a∧H a=some (.lst vs)∧Reps G w H ts vs
theorem RepR.d {w:Wo} {H:Hp}:∀{r:R} {v:V},RepR G w H r v→RepD G w H r v
 | .val t,v,h=>h
 | .bor ts,v,⟨a,vs,e,h,r,_⟩=>⟨a,vs,e,h,r⟩
theorem RepR.dr {w:Wo} {H:Hp} {s:Sto} (S:StoOk G w H s) {r:R} {v:V} (h:RepR G w H r v):RepD G w H (r.dr s) v:=by
 unfold R.dr
 split
 ·rename_i l
  obtain⟨hl,e⟩:=h
  split
  ·rename_i ts q
   obtain⟨vs,h1,h2⟩:=S.cell l _ q
   exact⟨w.io l,vs,e,h1,h2⟩
  ·exact⟨hl,e⟩
 ·exact h.d
theorem RepR.mono {w w':Wo} {H H':Hp} {s:Sto} (L:Le w w' H H') (S:StoOk G w H s):∀{r:R} {v:V},RepR G w H r v→RepR G w' H' r v
 | .val t,v,h=>Rep.mono L S t v h
 | .bor ts,v,⟨a,vs,e,h,r,nl⟩=>⟨a,vs,e,L.keep _ _ h nl,Reps.mono L S ts vs r,fun l hl q=>by
   by_cases k:l < w.n
   ·exact nl l k (q.trans (L.io l k))
   ·have:=L.newL l (Nat.le_of_not_lt k) hl
    rw[← q,h] at this
    cases this⟩
def RepRs (G:Gx) (w:Wo) (H:Hp):List R→List V→Prop
 | [],vs=>vs=[]
 | t::ts,vs=>∃v r,vs=v::r∧RepR G w H t v∧RepRs G w H ts r
theorem RepRs.mono {w w':Wo} {H H':Hp} {s:Sto} (L:Le w w' H H') (S:StoOk G w H s):∀{ts:List R} {vs:List V},RepRs G w H ts vs→RepRs G w' H' ts vs
 | [],vs,h=>h
 | t::ts,vs,⟨v,r,e,h,q⟩=>⟨v,r,e,RepR.mono L S h,RepRs.mono L S q⟩
theorem RepRs.length {w:Wo} {H:Hp}:∀{ts:List R} {vs:List V},RepRs G w H ts vs→ts.length=vs.length
 | [],_,h=>by rw[h];rfl
 | t::ts,_,⟨v,r,e,_,q⟩=>by subst e;simp[RepRs.length q]
def ownL:B→Option (List T)
 | .own ts=>some ts
 | .lck ts=>some ts
 | _=>none
structure FrOk (G:Gx) (w:Wo) (H H₀:Hp) (σ:Fr) (σV:St):Prop where
 len:σ.length=σV.length
 val:∀(i:Nat) (t:T),σ[i]?=some (some (.val t))→∃v,σV[i]?=some (some v)∧Rep G w H t v
 own:∀(i:Nat) (b:B) (ts:List T),σ[i]?=some (some b)→ownL b=some ts→∃a vs,σV[i]?=some (some (.ref a))∧H a=some (.lst vs)∧Reps G w H ts vs∧H₀ a=none∧¬w.Z a∧notLoc w a
 apart:∀(i j:Nat) (b c:B) (ts us:List T) (a:Addr),i≠j→σ[i]?=some (some b)→ownL b=some ts→σ[j]?=some (some c)→ownL c=some us→σV[i]?=some (some (.ref a))→σV[j]?=some (some (.ref a))→False
 bor:∀(i:Nat) (ts:List T),σ[i]?=some (some (.bor ts))→∃a vs,σV[i]?=some (some (.ref a))∧H a=some (.lst vs)∧Reps G w H ts vs∧H₀ a≠none∧notLoc w a
theorem notLoc.mono {w w':Wo} {H H':Hp} (L:Le w w' H H') {a:Addr} (h:H a≠none) (nl:notLoc w a):notLoc w' a:=fun l hl q=>by
 by_cases k:l < w.n
 ·exact nl l k (q.trans (L.io l k))
 ·have:=L.newL l (Nat.le_of_not_lt k) hl
  rw[← q] at this
  exact h this
theorem FrOk.mono {w w':Wo} {H H' H₀:Hp} {s:Sto} {σ:Fr} {σV:St} (L:Le w w' H H') (S:StoOk G w H s) (F:FrOk G w H H₀ σ σV):FrOk G w' H' H₀ σ σV where
 len:=F.len
 val:=fun i t e=>let ⟨v,h1,h2⟩:=F.val i t e;⟨v,h1,Rep.mono L S t v h2⟩
 own:=fun i b ts e eb=>by
  obtain⟨a,vs,h1,h2,h3,h4,h5,h6⟩:=F.own i b ts e eb
  have hn:H a≠none:=by rw[h2];intro z;cases z
  refine⟨a,vs,h1,L.keep _ _ h2 h6,Reps.mono L S ts vs h3,h4,fun z=>?_,notLoc.mono L hn h6⟩
  rcases L.newZ a z with z | z
  ·exact h5 z
  ·exact hn z
 apart:=F.apart
 bor:=fun i ts e=>by
  obtain⟨a,vs,h1,h2,h3,h4,h6⟩:=F.bor i ts e
  have hn:H a≠none:=by rw[h2];intro z;cases z
  exact⟨a,vs,h1,L.keep _ _ h2 h6,Reps.mono L S ts vs h3,h4,notLoc.mono L hn h6⟩
structure Good (G:Gx) (w₀:Wo) (H₀:Hp) (w:Wo) (H:Hp) (σ:Fr) (s:Sto) (σV:St):Prop where
 sto:StoOk G w H s
 fr:FrOk G w H H₀ σ σV
 ent:Le w₀ w H₀ H
theorem Good.step {w₀ w w':Wo} {H₀ H H':Hp} {σ:Fr} {s s':Sto} {σV:St} (g:Good G w₀ H₀ w H σ s σV) (L:Le w w' H H') (S:StoOk G w' H' s'):Good G w₀ H₀ w' H' σ s' σV:=⟨S,g.fr.mono L g.sto,g.ent.trans L⟩
end
end IP
end
section
set_option Elab.async false
set_option linter.all false
set_option maxRecDepth 100000
namespace IP
open PySem PySem.Spec L2
structure Flt (stack:List Env) (h B:Heap) (e:Addr) (sh:Heap):Prop where
 cov:∀b o,B.get? b=some o↔h.get? b=some o∧b∉frs stack
 keep:∀b o,h.get? b=some o→b∉frs stack→sh.get? b=some o
 slot:∀b o,h.get? b=some o→b∈frs stack→∃sl,sh.get? b=some { o with slots:=sl }
 new:h.get? e=none
def HeldV (base:Heap) (l:List Env) (e:Addr) (cls a0 fl:Value) (h:Heap):Prop:=base.StaysIn h∧base.get? e=none∧h.FunFrames base l∧h.TracedAtW base e cls a0 fl
def Thrown (G:Gx) (X:Cx) (pins:List (Addr×Obj)) (σV:St) (H:Hp) (c:Nat) (u:Value) (sh:Shared):Prop:=
 ∃(e:Addr) (h B:Heap),u=.ref e∧Inv X pins σV H { sh with heap:=h }∧Flt X.stack h B e sh.heap∧X.base.StaysIn B∧
  ((∃args,Heap.MadeExcOf h sh.heap e (.ref (G.cA c)) args)∨(∃t,Heap.FlyingW B X.stack e (.ref (G.cA c)) t sh.heap)∨
   ∃t fl,HeldV B X.stack e (.ref (G.cA c)) t fl sh.heap)
def Want (G:Gx) (X:Cx) (σV:St) (w:Wo) (H:Hp) (res:Res R) (Q:VK):Prop:=match res with
 | .stuck=>False
 | .ok r s'=>∀w' H' v,Le w w' H H'→StoOk G w' H' s'→RepR G w' H' r v→Q v H'
 | .exc c s'=>∀w' H' pins u sh,Le w w' H H'→StoOk G w' H' s'→Thrown G X pins σV H' c u sh→X.xe u sh
section
variable {G:Gx} {X:Cx} {σV:St} {w w₀:Wo} {H H₀:Hp} {Q Q':VK}
theorem Want.imp {res:Res R} (h:Want G X σV w H res Q) (q:∀v H',Q v H'→Q' v H'):Want G X σV w H res Q':=by
 cases res with
 | stuck=>exact h
 | ok r s=>exact fun w' H' v a b c=>q _ _ (h w' H' v a b c)
 | exc c s=>exact h
theorem Want.mono {res:Res R} {w1:Wo} {H1:Hp} (L:Le w w1 H H1) (h:Want G X σV w H res Q):Want G X σV w1 H1 res Q:=by
 cases res with
 | stuck=>exact h
 | ok r s=>exact fun w' H' v a b c=>h w' H' v (L.trans a) b c
 | exc c s=>exact fun w' H' pins u sh a b=>h w' H' pins u sh (L.trans a) b
theorem Want.bind {m:Res R} {k:R→Sto→Res R} (h:Want G X σV w H (m.bind k) Q):
  Want G X σV w H m fun v H1=>∃w1 r s1,Le w w1 H H1∧StoOk G w1 H1 s1∧RepR G w1 H1 r v∧Want G X σV w1 H1 (k r s1) Q:=by
 cases m with
 | stuck=>exact h
 | ok r s=>exact fun w' H' v a b c=>⟨w',r,s,a,b,c,Want.mono a h⟩
 | exc c s=>exact h
theorem Want.of {o:Option R} {s:Sto} (h:Want G X σV w H (Res.of o s) Q):∃r,o=some r∧∀w' H' v,Le w w' H H'→StoOk G w' H' s→RepR G w' H' r v→Q v H':=by
 cases o with
 | none=>exact h.elim
 | some r=>exact⟨r,rfl,h⟩
theorem PE.imp {e:Expr} {t t':TE} (h:PE X e t) (q:∀σ H Q,t' σ H Q→t σ H Q):PE X e t':=fun pins s σ H Q I z=>h pins s σ H Q I (q _ _ _ z)
theorem PT.imp {e:Expr} {t t':TT} (h:PT X e t) (q:∀σ H Q,t' σ H Q→t σ H Q):PT X e t':=fun pins s σ H Q I z=>h pins s σ H Q I (q _ _ _ z)
theorem PA.imp {e:List Expr} {t t':TA} (h:PA X e t) (q:∀σ H Q,t' σ H Q→t σ H Q):PA X e t':=fun pos pins s σ H Q I z=>h pos pins s σ H Q I (q _ _ _ z)
def tV (G:Gx) (X:Cx) (C:Cf) (e:E):TE:=fun σV H Q=>∃w₀ H₀ w σ s,Good G w₀ H₀ w H σ s σV∧Want G X σV w H (ev C e .v σ s) Q
def tT (G:Gx) (X:Cx) (C:Cf) (e:E):TT:=fun σV H Q=>∃w₀ H₀ w σ s,Good G w₀ H₀ w H σ s σV∧Want G X σV w H (ev C e .t σ s) fun v H'=>∃k,v=.bl k∧Q k H'
theorem zacc {a p:Addr} {o:HO} (e:H a=some o) (hp:H p=none):a≠p:=fun q=>by rw[q,hp] at e;cases e
theorem Le.new {p:Addr} (hp:H p=none) (o:HO):Le w w H (upd H p o) where
 n:=Nat.le_refl _
 io:=fun _ _=>rfl
 Z:=fun _ z=>z
 keep:=fun a u e _=>by rw[upd_ne (zacc e hp)];exact e
 newL:=fun l a b=>absurd (Nat.lt_of_lt_of_le b a) (Nat.lt_irrefl _)
 newZ:=fun _ z=>.inl z
 some_:=fun a z=>by
  cases e:H a with
  | none=>exact absurd e z
  | some u=>rw[upd_ne (zacc e hp),e];intro q;cases q
def Wo.addZ (w:Wo) (p:Addr):Wo:={ w with Z:=fun a=>w.Z a∨a=p }
theorem Le.newZ_ {p:Addr} (hp:H p=none) (o:HO):Le w (w.addZ p) H (upd H p o) where
 n:=Nat.le_refl _
 io:=fun _ _=>rfl
 Z:=fun _ z=>.inl z
 keep:=(Le.new (w:=w) hp o).keep
 newL:=(Le.new (w:=w) hp o).newL
 newZ:=fun a z=>z.elim .inl fun q=>.inr (q▸hp)
 some_:=(Le.new (w:=w) hp o).some_
theorem CellOk.mono {w':Wo} {H':Hp} {s:Sto} (L:Le w w' H H') (S:StoOk G w H s) {a:Addr} (e:H' a=H a):∀{c:Cell},CellOk G w H a c→CellOk G w' H' a c
 | .lst ts,⟨vs,h,r⟩=>⟨vs,e.trans h,Reps.mono L S ts vs r⟩
 | .ins c fs,⟨dx,kvs,h,z,k⟩=>⟨dx,kvs,e.trans h,z,fun i x t h1 h2=>let ⟨v,q1,q2⟩:=k i x t h1 h2;⟨v,q1,Rep.mono L S t v q2⟩⟩
 | .tbl k p q,⟨ha,ps,h,z,f⟩=>⟨ha,ps,e.trans h,z,fun cv hcv=>let ⟨c,e1,e2⟩:=f cv hcv;⟨c,e1,L.keep _ _ e2 (S.notLoc e2 (fun _ z=>by cases z) fun _ _ _ z=>by cases z)⟩⟩
theorem StoOk.grow {w':Wo} {H':Hp} {s:Sto} (S:StoOk G w H s) (L:Le w w' H H') (hn:w'.n=w.n) (hl:∀l,l < w.n→H' (w.io l)=H (w.io l)) (hz:∀a,w'.Z a→∃vs,Rd H' a (.lst vs)):StoOk G w' H' s where
 len:=S.len.trans hn.symm
 inj:=fun l m h1 h2 e=>by
  rw[hn] at h1 h2
  rw[L.io l h1,L.io m h2] at e
  exact S.inj l m h1 h2 e
 nz:=fun l h z=>by
  rw[hn] at h
  rw[L.io l h] at z
  rcases L.newZ _ z with q | q
  ·exact S.nz l h q
  ·rcases S.loc h with⟨vs,y⟩ | ⟨c,dx,kvs,y⟩ | ⟨ps,y⟩<;>(rw[q] at y;cases y)
 cell:=fun l c e=>by
  have h:l < w.n:=by rw[← S.len];exact(List.getElem?_eq_some_iff.mp e).1
  rw[L.io l h]
  exact CellOk.mono L S (hl l h) (S.cell l c e)
 zt:=hz
theorem Rd.upd {a p:Addr} {u o:HO} (hp:H p=none) (r:Rd H a u):Rd (upd H p o) a u:=by
 rcases r with r | ⟨q,r⟩
 ·exact .inl (by rw[upd_ne (zacc r hp)];exact r)
 ·exact .inr ⟨q,by rw[upd_ne (zacc r hp)];exact r⟩
theorem StoOk.new {s:Sto} {p:Addr} (S:StoOk G w H s) (hp:H p=none) (o:HO):StoOk G w (L2.upd H p o) s:=
 S.grow (Le.new hp o) rfl (fun l h=>upd_ne ((S.fresh hp).2 l h).symm) fun a z=>let ⟨vs,r⟩:=S.zt a z;⟨vs,Rd.upd hp r⟩
theorem StoOk.newZ {s:Sto} {p:Addr} (S:StoOk G w H s) (hp:H p=none) (vs:List V):StoOk G (w.addZ p) (L2.upd H p (.lst vs)) s:=
 S.grow (Le.newZ_ hp _) rfl (fun l h=>upd_ne ((S.fresh hp).2 l h).symm) fun a z=>z.elim (fun z=>let ⟨vs,r⟩:=S.zt a z;⟨vs,Rd.upd hp r⟩) fun q=>⟨vs,.inl (by rw[q];exact zaaq)⟩
theorem zad2 {s:Sto} {ts:List T} {vs:List V} (S:StoOk G w H s) (r:Reps G w H ts vs) (h:∀w' H' v,Le w w' H H'→StoOk G w' H' s→RepR G w' H' (.val (.tup ts)) v→Q v H') (p:Addr) (hp:H p=none):Q (.ref p) (L2.upd H p (.tup vs)):=
 h w _ _ (Le.new hp _) (S.new hp _) ⟨p,vs,rfl,zaaq,Reps.mono (Le.new hp _) S ts vs r⟩
theorem zadb {s:Sto} {ts:List T} {vs:List V} (S:StoOk G w H s) (r:Reps G w H ts vs) (h:∀w' H' v,Le w w' H H'→StoOk G w' H' s→RepR G w' H' (.val (.lst ts)) v→Q v H') (p:Addr) (hp:H p=none):Q (.ref p) (L2.upd H p (.lst vs)):=
 h _ _ _ (Le.newZ_ hp _) (S.newZ hp vs) ⟨p,vs,rfl,.inr rfl,.inl zaaq,Reps.mono (Le.newZ_ hp _) S ts vs r⟩
def WantO (G:Gx) (X:Cx) (σV:St) (w:Wo) (H:Hp) (res:Res R) (Q:VK):Prop:=match res with
 | .ok (.val (.lst ts)) s'=>∀w' H' a vs,Le w w' H H'→StoOk G w' H' s'→H' a=some (.lst vs)→Reps G w' H' ts vs→H a=none→¬w'.Z a→notLoc w' a→Q (.ref a) H'
 | .exc c s'=>∀w' H' pins u sh,Le w w' H H'→StoOk G w' H' s'→Thrown G X pins σV H' c u sh→X.xe u sh
 | _=>False
def tO (G:Gx) (X:Cx) (C:Cf) (e:E):TE:=fun σV H Q=>∃w₀ H₀ w σ s,Good G w₀ H₀ w H σ s σV∧WantO G X σV w H (ev C e .v σ s) Q
theorem fin_own {s:Sto} {ts:List T} {vs:List V} (S:StoOk G w H s) (r:Reps G w H ts vs) (h:∀w' H' a vs,Le w w' H H'→StoOk G w' H' s→H' a=some (.lst vs)→Reps G w' H' ts vs→H a=none→¬w'.Z a→notLoc w' a→Q (.ref a) H') (p:Addr) (hp:H p=none):Q (.ref p) (L2.upd H p (.lst vs)):=
 h w _ p vs (Le.new hp _) (S.new hp _) zaaq (Reps.mono (Le.new hp _) S ts vs r) hp (S.fresh hp).1 (S.fresh hp).2
theorem RepD.seq {s:Sto} {x:R} {v:V} {ts:List T} (r:RepD G w H x v) (e:x.seq=some ts):∃a vs,v=.ref a∧Rd H a (.lst vs)∧Reps G w H ts vs:=by
 match x,e with
 | .val (.lst us),e=>obtain⟨a,vs,e1,_,h,q⟩:=r;cases e;exact⟨a,vs,e1,h,q⟩
 | .bor us,e=>obtain⟨a,vs,e1,h,q⟩:=r;cases e;exact⟨a,vs,e1,.inl h,q⟩
theorem RepR.seq {s:Sto} {x:R} {v:V} {ts:List T} (r:RepR G w H x v) (e:x.seq=some ts):∃a vs,v=.ref a∧Rd H a (.lst vs)∧Reps G w H ts vs:=RepD.seq (s:=s) r.d e
theorem RepD.sq2 {x:R} {v:V} {ts:List T} (r:RepD G w H x v) (e:x.sq2=some ts):∃a vs,v=.ref a∧(Rd H a (.lst vs)∨H a=some (.tup vs))∧Reps G w H ts vs:=by
 match x,e with
 | .val (.lst us),e=>obtain⟨a,vs,e1,_,h,q⟩:=r;cases e;exact⟨a,vs,e1,.inl h,q⟩
 | .val (.tup us),e=>obtain⟨a,vs,e1,h,q⟩:=r;cases e;exact⟨a,vs,e1,.inr h,q⟩
 | .bor us,e=>obtain⟨a,vs,e1,h,q⟩:=r;cases e;exact⟨a,vs,e1,.inl (.inl h),q⟩
theorem RepR.sq2 {x:R} {v:V} {ts:List T} (r:RepR G w H x v) (e:x.sq2=some ts):∃a vs,v=.ref a∧(Rd H a (.lst vs)∨H a=some (.tup vs))∧Reps G w H ts vs:=RepD.sq2 r.d e
theorem RepR.int {x:R} {v:V} {i:Int} (r:RepR G w H x v) (e:x.int?=some i):v=.int i:=by
 match x,e with
 | .val (.int j),e=>cases e;exact r
theorem RepD.int {x:R} {v:V} {i:Int} (r:RepD G w H x v) (e:x.int?=some i):v=.int i:=by
 match x,e with
 | .val (.int j),e=>cases e;exact r
end
end IP
end
section
set_option Elab.async false
set_option linter.all false
set_option maxRecDepth 100000
namespace IP
open PySem PySem.Spec L2
section
variable {G:Gx} {X:Cx} {C:Cf} {a b c:Expr} {a' b' c':E} {pos:Pos}
theorem Rd.lst {pins:List (Addr×Obj)} {σ:St} {H:Hp} {s:Shared} {p:Addr} {xs:List V} (I:Inv X pins σ H s) (h:Rd H p (.lst xs)):
  xs.length≤sizeLine∧∃(its:List Value) (n:Nat),Vals xs its∧xs.length=its.length∧s.heap.get? p=some { cls:=.type "list",data:=.seq its.toArray n }:=by
 obtain⟨z,its,n,r,e⟩:=Rd.ok h I.hok
 exact⟨z,its,n,r,r.length,e⟩
theorem sV_var {i:Nat} {x:Str} (hN:X.N[i]?=some x) (hv:Vis X.env.scope x) (hd:(x==("__debug__":Str))=false) (hcd:(x==("__classdict__":Str))=false):PE X (.Name x pos) (tV G X C (.var i)):=by
 refine PE.imp (pe_var hN hv hd hcd) ?_
 rintro σV H Q ⟨w₀,H₀,w,σ,s,g,h⟩
 obtain⟨r,e,q⟩:=Want.of h
 unfold look at e
 split at e
 ·rename_i t ht
  cases e
  obtain⟨v,h1,h2⟩:=g.fr.val i t ht
  exact⟨v,h1,q w H v (Le.refl _ _) g.sto h2⟩
 ·rename_i ts ht
  cases e
  obtain⟨p,vs,h1,h2,h3,_,_,h6⟩:=g.fr.own i _ ts ht rfl
  exact⟨_,h1,q w H _ (Le.refl _ _) g.sto ⟨p,vs,rfl,h2,h3,h6⟩⟩
 ·rename_i ts ht
  cases e
  obtain⟨p,vs,h1,h2,h3,_,h6⟩:=g.fr.bor i ts ht
  exact⟨_,h1,q w H _ (Le.refl _ _) g.sto ⟨p,vs,rfl,h2,h3,h6⟩⟩
 ·rename_i ts ht
  cases e
  obtain⟨p,vs,h1,h2,h3,_,_,h6⟩:=g.fr.own i _ ts ht rfl
  exact⟨_,h1,q w H _ (Le.refl _ _) g.sto ⟨p,vs,rfl,h2,h3,h6⟩⟩
 ·cases e
theorem tC_of {t:T} {v:V} (r:∀w H,Rep G w H t v) {σV:St} {H:Hp} {Q:VK} (h:tV G X C (.cst t) σV H Q):tC v σV H Q:=by
 obtain⟨w₀,H₀,w,σ,s,g,h⟩:=h
 exact h w H v (Le.refl _ _) g.sto (r w H)
theorem sV_int {i j}:PE X (.Constant (.int i) j pos) (tV G X C (.cst (.int i))):=PE.imp pe_int fun _ _ _ h=>tC_of (t:=.int i) (v:=.int i) (fun _ _=>rfl) h
theorem sV_bl {b j}:PE X (.Constant (.bool b) j pos) (tV G X C (.cst (.bl b))):=PE.imp pe_bl fun _ _ _ h=>tC_of (t:=.bl b) (v:=.bl b) (fun _ _=>rfl) h
theorem sV_non {j}:PE X (.Constant .none j pos) (tV G X C (.cst .non)):=PE.imp pe_non fun _ _ _ h=>tC_of (t:=.non) (v:=.non) (fun _ _=>rfl) h
theorem sV_glb {x:Str} {i:Int} {t:Tok} (hg:Gl X x) (hm:X.mg x=some (.int i t)) (hd:(x==("__debug__":Str))=false):PE X (.Name x pos) (tV G X C (.glb x i)):=by
 refine PE.imp (pe_glob (v:=.int i) hg hm ⟨t,rfl⟩ hd) ?_
 rintro σV H Q ⟨w₀,H₀,w,σ,s,g,h⟩
 exact h w H _ (Le.refl _ _) g.sto rfl
def r2 (G:Gx) (f:R→R→Option R):R2:=fun x y H Q=>∃w s rx ry r,StoOk G w H s∧RepR G w H rx x∧RepR G w H ry y∧f rx ry=some r∧∀w' H' v,Le w w' H H'→StoOk G w' H' s→RepR G w' H' r v→Q v H'
theorem t2_of {f:R→R→Option R} {σV:St} {H:Hp} {Q:VK} (h:∃w₀ H₀ w σ s,Good G w₀ H₀ w H σ s σV∧Want G X σV w H ((ev C a' .v σ s).bind fun x s1=>(ev C b' .v σ s1).bind fun y s2=>.of (f x y) s2) Q):
  tOp (r2 G f) (tV G X C a') (tV G X C b') σV H Q:=by
 obtain⟨w₀,H₀,w,σ,s,g,h⟩:=h
 refine⟨w₀,H₀,w,σ,s,g,(Want.bind h).imp ?_⟩
 rintro x H1 ⟨w1,r1,s1,L1,S1,R1,h1⟩
 refine⟨w₀,H₀,w1,σ,s1,g.step L1 S1,(Want.bind h1).imp ?_⟩
 rintro y H2 ⟨w2,r2,s2,L2,S2,R2,h2⟩
 obtain⟨r,e,q⟩:=Want.of h2
 exact⟨w2,s2,r1,r2,r,S2,R1.mono L2 S1,R2,e,q⟩
theorem s2 {f:R→R→Option R} {op:Operator} (ho:OpR X (binaryOp op) (r2 G f)) (ha:PE X a (tV G X C a')) (hb:PE X b (tV G X C b')) {e:E} (he:∀σ s,ev C e .v σ s=(ev C a' .v σ s).bind fun x s1=>(ev C b' .v σ s1).bind fun y s2=>.of (f x y) s2):
  PE X (.BinOp a op b pos) (tV G X C e):=by
 refine PE.imp (pe_op ho ha hb) fun σV H Q h=>?_
 obtain⟨w₀,H₀,w,σ,s,g,h⟩:=h
 rw[he] at h
 exact t2_of ⟨w₀,H₀,w,σ,s,g,h⟩
theorem s2c {f:R→R→Option R} {op:CmpOp} (ho:OpR X (compareOp op) (r2 G f)) (ha:PE X a (tV G X C a')) (hb:PE X b (tV G X C b')) (hm:behindInMarks op b=false) {e:E} (he:∀σ s,ev C e .v σ s=(ev C a' .v σ s).bind fun x s1=>(ev C b' .v σ s1).bind fun y s2=>.of (f x y) s2):
  PE X (.Compare a [op] [b] pos) (tV G X C e):=by
 refine PE.imp (pe_cmpR ho ha hb hm) fun σV H Q h=>?_
 obtain⟨w₀,H₀,w,σ,s,g,h⟩:=h
 rw[he] at h
 exact t2_of ⟨w₀,H₀,w,σ,s,g,h⟩
theorem zadi {j:Int} (h:j.natAbs < big):j.natAbs.log2 < 1000:=by
 rcases Nat.eq_zero_or_pos j.natAbs with h0 | hp
 ·rw[h0];decide
 ·refine(Nat.log2_lt (Nat.ne_of_gt hp)).mpr (Nat.lt_trans h ?_)
  unfold big
  decide +kernel
theorem zae3 {k:Int} (h:k.natAbs < big):Builtin.Int.intBits k≤1000:=by
 unfold Builtin.Int.intBits
 split
 ·exact Nat.zero_le _
 ·have:=zadi h
  omega
theorem mulB_ok {i j:Int} (h:mulB i j=true):IntMulOk i j:=by
 unfold mulB at h
 rw[Bool.or_eq_true,Bool.or_eq_true,Bool.and_eq_true,decide_eq_true_iff,decide_eq_true_iff,decide_eq_true_iff,decide_eq_true_iff] at h
 rcases h with(h | h) | ⟨h1,h2⟩
 ·exact IntMulOk.of_left (intBits_le_64 (by omega) (by omega))
 ·exact IntMulOk.of_right (intBits_le_64 (by omega) (by omega))
 ·exact PyProof.Rows.mulOk_of_bits (zae3 h1) (zae3 h2) (by decide)
def opOf:Op→Operator
 | .add=>.Add | .sub=>.Sub | .mul=>.Mult | .fdiv=>.FloorDiv | .mod=>.Mod | .pow=>.Pow
theorem int_op (o:Op) (i j k:Int) (h:opI o i j=some k):∀(t u:Tok) (s:Shared) (Q:Value→Shared→Prop) (E:Value→Shared→Prop),Q (.int k s.toks) { s with toks:=s.toks+1 }→wpAny (model X.prog X.w) X.A (binaryOp (opOf o) (.int i t) (.int j u)) Q E s:=by
 intro t u s Q E q
 cases o with
 | add=>cases h;exact PyProof.Rows.add_int q
 | sub=>cases h;exact PyProof.Rows.sub_int q
 | mul=>
  simp only[opI] at h
  split at h
  ·rename_i hm;cases h;exact PyProof.Rows.mul_int q (mulB_ok hm)
  ·cases h
 | fdiv=>
  simp only[opI] at h
  split at h
  ·rename_i hm;cases h;exact PyProof.Rows.floordiv_int hm.1 q (Or.inl (PyProof.noPylong_of_log2 (Nat.lt_trans (zadi hm.2) (by decide))))
  ·cases h
 | mod=>
  simp only[opI] at h
  split at h
  ·rename_i hm;cases h;exact PyProof.Rows.mod_int hm q
  ·cases h
 | pow=>
  simp only[opI] at h
  split at h
  ·rename_i hm
   cases h
   refine PyProof.Rows.pow_int hm.1 ?_ q
   have h1:=zae3 hm.2.2
   have h2:((Builtin.Int.intBits i:Nat):Int)*j≤1000*100:=by
    refine Int.mul_le_mul (by omega) hm.2.1 hm.1 (by omega)
   omega
  ·cases h
theorem op_ok (o:Op):OpR X (binaryOp (opOf o)) (r2 G (opR o)):=by
 intro pins s σ H x y v u Q I rx ry h
 obtain⟨w,st,x',y',r,S,Rx,Ry,e,q⟩:=h
 have intc:∀i j k,x'=.val (.int i)→y'=.val (.int j)→opI o i j=some k→r=.val (.int k)→wpAny (model X.prog X.w) X.A (binaryOp (opOf o) v u) (EP X pins σ Q) X.xe s:=by
  rintro i j k rfl rfl ho rfl
  have hx:x=.int i:=Rx
  have hy:y=.int j:=Ry
  subst hx hy
  obtain⟨t,rfl⟩:=rx
  obtain⟨t2,rfl⟩:=ry
  exact int_op o i j k ho t t2 s _ _ ⟨.int k,H,I.tok _,⟨_,rfl⟩,q w H _ (Le.refl _ _) S rfl⟩
 have lstc:∀xs ys,x'.seq=some xs→y'.seq=some ys→o=.add→xs.length+ys.length≤lim→r=.val (.lst (xs++ys))→wpAny (model X.prog X.w) X.A (binaryOp (opOf o) v u) (EP X pins σ Q) X.xe s:=by
  rintro xs ys e1 e2 rfl hl rfl
  obtain⟨p,vs,rfl,hp,r1⟩:=RepR.seq (s:=st) Rx e1
  obtain⟨p2,vs2,rfl,hp2,r2⟩:=RepR.seq (s:=st) Ry e2
  cases rx
  cases ry
  obtain⟨z,its,n,q1,l1,g1⟩:=Rd.lst I hp
  obtain⟨z2,its2,n2,q2,l2,g2⟩:=Rd.lst I hp2
  have hz:its.length+its2.length≤sizeLine:=by
   rw[← l1,← l2,← r1.length,← r2.length]
   have:lim≤sizeLine:=by decide
   omega
  refine PySem.P.add_list g1 g2 ?_ (by rw[List.size_toArray,List.size_toArray];exact hz)
  have ea:its.toArray++its2.toArray=(its++its2).toArray:=by simp
  rw[ea]
  exact⟨.ref _,_,I.lnew (t':=s.toks) (q1.append q2) (by rw[List.length_append,l1,l2];exact hz),rfl,zadb S (r1.append r2) q _ I.fresh⟩
 unfold opR at e
 split at e
 ·rename_i i j
  cases ho:opI o i j with
  | none=>rw[ho] at e;cases e
  | some k=>rw[ho] at e;cases e;exact intc i j k rfl rfl ho rfl
 ·rename_i xs ys
  split at e
  ·rename_i hc
   cases e
   obtain⟨p,vs,rfl,hp,r1⟩:=Rx
   obtain⟨p2,vs2,rfl,hp2,r2⟩:=Ry
   have n1:vs≠[]:=by
    intro z;subst z
    exact hc.1 (List.length_eq_zero_iff.mp r1.length)
   have n2:vs2≠[]:=by
    intro z;subst z
    exact hc.2.1 (List.length_eq_zero_iff.mp r2.length)
   refine op_catT pins s σ H _ _ v u Q I rx ry ⟨p,p2,vs,vs2,rfl,rfl,SqT.of hp,SqT.of hp2,n1,?_,fun z=>absurd z n2,fun _=>zad2 S (r1.append r2) q⟩
   rw[← r1.length,← r2.length]
   have:lim≤sizeLine:=by decide
   omega
  ·cases e
 ·split at e
  ·rename_i xs ys e1 e2
   split at e
   ·rename_i hl
    cases e
    exact lstc xs ys e1 e2 rfl hl rfl
   ·cases e
  ·cases e
 ·cases e
theorem sV_bin (o:Op) (ha:PE X a (tV G X C a')) (hb:PE X b (tV G X C b')):PE X (.BinOp a (opOf o) b pos) (tV G X C (.bin o a' b')):=s2 (op_ok o) ha hb fun _ _=>rfl
end
end IP
end
section
set_option Elab.async false
set_option linter.all false
set_option maxRecDepth 100000
namespace IP
open PySem PySem.Spec L2 PySem.SeqAt
section
variable {G:Gx} {X:Cx} {pins:List (Addr×Obj)} {σ:St} {H:Hp} {s:Shared} {w:Wo} {st:Sto}
theorem zaa9 {a:Addr} {vs:List V} (I:Inv X pins σ H s) (h:H a=some (.tup vs)):∃its:List Value,Vals vs its∧s.heap.IsTuple a its.toArray:=by
 obtain⟨its,r,q,_⟩:=I.tuple (SqT.of (K:=X.K) h)
 exact⟨its,r,q⟩
theorem zabp {a:Addr} {vs:List V} (I:Inv X pins σ H s) (h:Rd H a (.lst vs)):∃its:List Value,Vals vs its∧s.heap.IsList a its.toArray:=by
 obtain⟨_,its,n,r,_,e⟩:=Rd.lst I h
 exact⟨its,r,_,e,rfl,n,rfl⟩
theorem zadv {f:T→T→Option Bool}:∀(ts us:List T) (vs:List V),(∀t u v k,Rep G w H t v→Rep G w H u v→f t u=some k→k=true)→Reps G w H ts vs→Reps G w H us vs→∀k,eqL f ts us=some k→k=true
 | [],[],_,_,_,_,k,h=>by cases h;rfl
 | [],_::_,_,_,h1,h2,k,h=>by
  obtain⟨v,r,e,_⟩:=h2
  rw[h1] at e
  cases e
 | _::_,[],_,_,h1,h2,k,h=>by
  obtain⟨v,r,e,_⟩:=h1
  rw[h2] at e
  cases e
 | t::ts,u::us,_,hf,⟨v,r,e,h1,h2⟩,⟨v',r',e',h1',h2'⟩,k,h=>by
  subst e
  cases e'
  unfold eqL at h
  split at h
  ·rename_i k1 k2 q1 q2
   cases h
   rw[hf t u v k1 h1 h1' q1,zadv ts us r hf h2 h2' k2 q2]
   rfl
  ·cases h
theorem zact:∀(n:Nat) (t u:T) (v:V) (k:Bool),Rep G w H t v→Rep G w H u v→eqD n t u=some k→k=true
 | n,.non,u,v,k,h1,h2,h=>by
  cases h1
  cases u<;>simp only[Rep] at h2<;>first | (cases h2;done) | (simp[eqD] at h;exact h) | (obtain⟨a,vs,e,_⟩:=h2;cases e) | (obtain⟨e,e2⟩:=h2;cases e2;done) | (obtain⟨e,e2,_⟩:=h2;cases e2)
 | n,.bl b,u,v,k,h1,h2,h=>by
  cases h1
  cases u<;>simp only[Rep] at h2<;>first | (cases h2;done) | (cases h2;simp[eqD] at h;exact h) | (obtain⟨a,vs,e,_⟩:=h2;cases e) | (obtain⟨e,e2⟩:=h2;cases e2;done) | (obtain⟨e,e2,_⟩:=h2;cases e2)
 | n,.int i,u,v,k,h1,h2,h=>by
  cases h1
  cases u<;>simp only[Rep] at h2<;>first | (cases h2;done) | (cases h2;simp[eqD] at h;exact h) | (obtain⟨a,vs,e,_⟩:=h2;cases e) | (obtain⟨e,e2⟩:=h2;cases e2;done) | (obtain⟨e,e2,_⟩:=h2;cases e2)
 | n,.str x,u,v,k,h1,h2,h=>by
  cases h1
  cases u<;>simp only[Rep] at h2<;>first | (cases h2;done) | (cases h2;simp[eqD] at h;exact h) | (obtain⟨a,vs,e,_⟩:=h2;cases e) | (obtain⟨e,e2⟩:=h2;cases e2;done) | (obtain⟨e,e2,_⟩:=h2;cases e2)
 | 0,.tup ts,u,v,k,h1,h2,h=>by cases u<;>simp[eqD] at h
 | n+1,.tup ts,u,v,k,h1,h2,h=>by
  obtain⟨a,vs,e,q,r⟩:=h1
  subst e
  cases u with
  | tup us=>
   obtain⟨a',vs',e',q',r'⟩:=h2
   cases e'
   rw[q] at q'
   cases q'
   simp only[eqD] at h
   exact zadv ts us vs (fun t u v k=>zact n t u v k) r r' k h
  | non=>cases h2
  | _=>simp[eqD] at h
 | 0,.lst ts,u,v,k,h1,h2,h=>by cases u<;>simp[eqD] at h
 | n+1,.lst ts,u,v,k,h1,h2,h=>by
  obtain⟨a,vs,e,z,q,r⟩:=h1
  subst e
  cases u with
  | lst us=>
   obtain⟨a',vs',e',z',q',r'⟩:=h2
   cases e'
   have ev:vs=vs':=by
    rcases q with q | ⟨o,q⟩<;>rcases q' with q' | ⟨o',q'⟩<;>(rw[q] at q';cases q';try rfl)
   subst ev
   simp only[eqD] at h
   exact zadv ts us vs (fun t u v k=>zact n t u v k) r r' k h
  | _=>simp[eqD] at h
 | n,.loc l,u,v,k,h1,h2,h=>by cases u<;>simp[eqD] at h
 | n,.exc c,u,v,k,h1,h2,h=>by cases u<;>simp[eqD] at h
theorem zadn {f:T→T→Option Bool}:∀(ts us:List T) (k:Bool),eqL f ts us=some k→∃e:Nat→Bool,(∀(j:Nat) t u,ts[j]?=some t→us[j]?=some u→f t u=some (e j))∧k=((List.range (min ts.length us.length)).all e&&ts.length==us.length)
 | [],[],k,h=>by cases h;exact⟨fun _=>true,fun j t u z=>by simp at z,rfl⟩
 | [],u::us,k,h=>by cases h;exact⟨fun _=>true,fun j t u z=>by simp at z,by simp⟩
 | t::ts,[],k,h=>by cases h;exact⟨fun _=>true,fun j t u _ z=>by simp at z,by simp⟩
 | t::ts,u::us,k,h=>by
  unfold eqL at h
  split at h
  ·rename_i k1 k2 q1 q2
   cases h
   obtain⟨e,h1,h2⟩:=zadn ts us k2 q2
   refine⟨fun j=>match j with | 0=>k1 | j+1=>e j,fun j t' u' z1 z2=>?_,?_⟩
   ·cases j with
    | zero=>simp at z1 z2;subst z1 z2;exact q1
    | succ j=>simp at z1 z2;exact h1 j t' u' z1 z2
   ·rw[h2]
    have em:min (t::ts).length (u::us).length=min ts.length us.length+1:=by simp[Nat.succ_min_succ]
    rw[em,List.range_succ_eq_map,List.all_cons,List.all_map]
    have el:((t::ts).length==(u::us).length)=(ts.length==us.length):=by simp
    rw[el,Bool.and_assoc]
    rfl
  ·cases h
theorem zadu {vs:List V} {its:List Value} (r:Vals vs its) {j:Nat} {u:Value} (e:its[j]?=some u):∃v,vs[j]?=some v∧RelV v u:=by
 have hj:j < vs.length:=by rw[r.length];exact(List.getElem?_eq_some_iff.mp e).1
 obtain⟨u',h1,h2⟩:=r.get (List.getElem?_eq_getElem hj)
 rw[e] at h1
 cases h1
 exact⟨_,List.getElem?_eq_getElem hj,h2⟩
variable {A:Around}
theorem zabk {n:Nat} {ts us:List T} {vs vs':List V} {its its':List Value} {e:Nat→Bool} (r:Reps G w H ts vs) (r':Reps G w H us vs') (q:Vals vs its) (q':Vals vs' its')
  (he:∀(j:Nat) t u,ts[j]?=some t→us[j]?=some u→eqD n t u=some (e j))
  (ih:∀(t u:T) (v v':V) (x y:Value) (k:Bool),Rep G w H t v→Rep G w H u v'→RelV v x→RelV v' y→eqD n t u=some k→EqAt A s x y k):
  ∀j (h1:j < its.toArray.size) (h2:j < its'.toArray.size),EqAt A s its.toArray[j] its'.toArray[j] (e j):=by
 intro j h1 h2
 have h1':j < its.length:=by simpa using h1
 have h2':j < its'.length:=by simpa using h2
 obtain⟨v,e1,rv⟩:=zadu q (List.getElem?_eq_getElem h1')
 obtain⟨v',e2,rv'⟩:=zadu q' (List.getElem?_eq_getElem h2')
 obtain⟨t,e3,rt⟩:=r.get' e1
 obtain⟨u,e4,ru⟩:=r'.get' e2
 have:=ih t u v v' its[j] its'[j] (e j) rt ru rv rv' (he j t u e3 e4)
 simpa using this
theorem eqAt_T (I:Inv X pins σ H s):∀(n:Nat) (A:Around),A.units+n < cLine→∀(t u:T) (v v':V) (x y:Value) (k:Bool),Rep G w H t v→Rep G w H u v'→RelV v x→RelV v' y→eqD n t u=some k→EqAt A s x y k:=by
 intro n
 induction n with
 | zero=>
  intro A hu t u v v' x y k h1 h2 r1 r2 h
  cases t<;>cases u<;>simp only[eqD] at h<;>first | (cases h;done) | skip
  ·cases h;cases h1;cases h2;cases r1;cases r2;exact EqAt.same _
  ·cases h;cases h1;cases h2;cases r1;obtain⟨_,rfl⟩:=r2;exact EqAt.none_int _ _
  ·cases h;cases h1;cases h2;cases r1;cases r2;exact EqAt.bool_bool _ _
  ·cases h;cases h1;cases h2;obtain⟨_,rfl⟩:=r1;cases r2;exact EqAt.int_none _ _
  ·cases h;cases h1;cases h2;obtain⟨_,rfl⟩:=r1;obtain⟨_,rfl⟩:=r2;exact EqAt.int_int _ _ _ _
  ·cases h;cases h1;cases h2;obtain⟨_,rfl⟩:=r1;obtain⟨_,rfl⟩:=r2;exact EqAt.str_str _ _ _ _
 | succ n ih=>
  intro A hu t u v v' x y k h1 h2 r1 r2 h
  have hu0:A.units < cLine:=by omega
  have hin:A.in1.units+n < cLine:=by show A.units+1+n < cLine;omega
  cases t<;>cases u<;>simp only[eqD] at h<;>first | (cases h;done) | skip
  ·cases h;cases h1;cases h2;cases r1;cases r2;exact EqAt.same _
  ·cases h;cases h1;cases h2;cases r1;obtain⟨_,rfl⟩:=r2;exact EqAt.none_int _ _
  ·cases h
   obtain⟨a,vs,e,q,_⟩:=h2
   subst e
   cases h1;cases r1;cases r2
   obtain⟨its,_,hi⟩:=zaa9 I q
   exact EqAt.none_tuple hi hu0
  ·cases h;cases h1;cases h2;cases r1;cases r2;exact EqAt.bool_bool _ _
  ·cases h;cases h1;cases h2;obtain⟨_,rfl⟩:=r1;cases r2;exact EqAt.int_none _ _
  ·cases h;cases h1;cases h2;obtain⟨_,rfl⟩:=r1;obtain⟨_,rfl⟩:=r2;exact EqAt.int_int _ _ _ _
  ·cases h;cases h1;cases h2;obtain⟨_,rfl⟩:=r1;obtain⟨_,rfl⟩:=r2;exact EqAt.str_str _ _ _ _
  ·cases h
   obtain⟨a,vs,e,q,_⟩:=h1
   subst e
   cases h2;cases r1;cases r2
   obtain⟨its,_,hi⟩:=zaa9 I q
   exact EqAt.tuple_none hi hu0
  ·rename_i ts us
   have hs:=zact (G:=G) (w:=w) (H:=H) (n+1) (.tup ts) (.tup us)
   have h1':=h1
   have h2':=h2
   obtain⟨a,vs,e,q,r⟩:=h1
   obtain⟨a',vs',e',q',r'⟩:=h2
   subst e e'
   cases r1;cases r2
   by_cases ea:a=a'
   ·subst ea
    have hk:k=true:=hs (.ref a) k h1' h2' (by simp only[eqD];exact h)
    subst hk
    exact EqAt.same _
   ·obtain⟨its,q1,hi⟩:=zaa9 I q
    obtain⟨its',q1',hi'⟩:=zaa9 I q'
    obtain⟨e,he,hk⟩:=zadn ts us k h
    have hz:=RcAt.tuples hi hi' hu0 (zabk r r' q1 q1' he (ih A.in1 hin))
    rw[List.size_toArray,List.size_toArray,← q1.length,← q1'.length,← r.length,← r'.length,← hk] at hz
    exact EqAt.of_refs ea hz
  ·rename_i ts us
   have hs:=zact (G:=G) (w:=w) (H:=H) (n+1) (.lst ts) (.lst us)
   have h1':=h1
   have h2':=h2
   obtain⟨a,vs,e,_,q,r⟩:=h1
   obtain⟨a',vs',e',_,q',r'⟩:=h2
   subst e e'
   cases r1;cases r2
   by_cases ea:a=a'
   ·subst ea
    have hk:k=true:=hs (.ref a) k h1' h2' (by simp only[eqD];exact h)
    subst hk
    exact EqAt.same _
   ·obtain⟨its,q1,hi⟩:=zabp I q
    obtain⟨its',q1',hi'⟩:=zabp I q'
    obtain⟨e,he,hk⟩:=zadn ts us k h
    have l1:its.toArray.size=ts.length:=by rw[List.size_toArray,← q1.length,← r.length]
    have l2:its'.toArray.size=us.length:=by rw[List.size_toArray,← q1'.length,← r'.length]
    by_cases el:ts.length=us.length
    ·have hz:=RcAt.lists hi hi' (by rw[l1,l2,el]) hu0 (zabk r r' q1 q1' he (ih A.in1 hin))
     rw[l1] at hz
     rw[el,Nat.min_self] at hk
     have:k=(List.range us.length).all e:=by rw[hk];simp
     rw[el,← this] at hz
     exact EqAt.of_refs ea hz
    ·have hz:=RcAt.lists_lengths hi hi' (by rw[l1,l2];simpa using el) hu0
     have:k=false:=by rw[hk];simp[el]
     rw[this]
     exact EqAt.of_refs ea hz
end
end IP
end
section
set_option Elab.async false
set_option linter.all false
set_option maxRecDepth 100000
namespace IP
open PySem PySem.Spec L2 PySem.SeqAt
section
variable {G:Gx} {X:Cx} {pins:List (Addr×Obj)} {σ:St} {H:Hp} {s:Shared} {w:Wo} {st:Sto} {A:Around}
theorem zabf (I:Inv X pins σ H s) (hu:A.units+8 < cLine) {a b:Addr} {vs vs':List V} {ts us:List T} {k:Bool} (q:Rd H a (.lst vs)) (q':Rd H b (.lst vs')) (r:Reps G w H ts vs) (r':Reps G w H us vs') (h:eqL (eqD 7) ts us=some k):
  RcAt A s (.ref a) (.ref b) k∧RcNeAt A s (.ref a) (.ref b) (!k):=by
 have hu0:A.units < cLine:=by omega
 have hin:A.in1.units+7 < cLine:=by show A.units+1+7 < cLine;omega
 obtain⟨its,q1,hi⟩:=zabp I q
 obtain⟨its',q1',hi'⟩:=zabp I q'
 obtain⟨e,he,hk⟩:=zadn ts us k h
 have l1:its.toArray.size=ts.length:=by rw[List.size_toArray,← q1.length,← r.length]
 have l2:its'.toArray.size=us.length:=by rw[List.size_toArray,← q1'.length,← r'.length]
 have hp:=zabk (s:=s) (A:=A.in1) r r' q1 q1' he (eqAt_T I 7 A.in1 hin)
 by_cases el:ts.length=us.length
 ·have hz:=RcAt.lists hi hi' (by rw[l1,l2,el]) hu0 hp
  have hy:=RcNeAt.lists hi hi' (by rw[l1,l2,el]) hu0 hp
  rw[el,Nat.min_self] at hk
  have:k=(List.range us.length).all e:=by rw[hk];simp
  rw[l1,el,← this] at hz hy
  exact⟨hz,hy⟩
 ·have hz:=RcAt.lists_lengths hi hi' (by rw[l1,l2];simpa using el) hu0
  have hy:=RcNeAt.lists_lengths hi hi' (by rw[l1,l2];simpa using el) hu0
  have:k=false:=by rw[hk];simp[el]
  rw[this]
  exact⟨hz,hy⟩
theorem rc_tups (I:Inv X pins σ H s) (hu:A.units+8 < cLine) {a b:Addr} {vs vs':List V} {ts us:List T} {k:Bool} (q:H a=some (.tup vs)) (q':H b=some (.tup vs')) (r:Reps G w H ts vs) (r':Reps G w H us vs') (h:eqL (eqD 7) ts us=some k):
  RcAt A s (.ref a) (.ref b) k∧RcNeAt A s (.ref a) (.ref b) (!k):=by
 have hu0:A.units < cLine:=by omega
 have hin:A.in1.units+7 < cLine:=by show A.units+1+7 < cLine;omega
 obtain⟨its,q1,hi⟩:=zaa9 I q
 obtain⟨its',q1',hi'⟩:=zaa9 I q'
 obtain⟨e,he,hk⟩:=zadn ts us k h
 have hp:=zabk (s:=s) (A:=A.in1) r r' q1 q1' he (eqAt_T I 7 A.in1 hin)
 have hz:=RcAt.tuples hi hi' hu0 hp
 have hy:=RcNeAt.tuples hi hi' hu0 hp
 rw[List.size_toArray,List.size_toArray,← q1.length,← q1'.length,← r.length,← r'.length,← hk] at hz hy
 exact⟨hz,hy⟩
theorem rc_T (I:Inv X pins σ H s) (hu:A.units+8 < cLine) {t u:T} {v v':V} {x y:Value} {k:Bool} (h1:Rep G w H t v) (h2:Rep G w H u v') (r1:RelV v x) (r2:RelV v' y) (h:eqD 8 t u=some k):
  RcAt A s x y k∧RcNeAt A s x y (!k):=by
 have hu0:A.units < cLine:=by omega
 cases t<;>cases u<;>simp only[eqD] at h<;>first | (cases h;done) | skip
 ·cases h;cases h1;cases h2;cases r1;cases r2;exact⟨RcAt.none_none,RcNeAt.none_none⟩
 ·cases h;cases h1;cases h2;cases r1;obtain⟨_,rfl⟩:=r2;exact⟨RcAt.none_int _ _,RcNeAt.none_int _ _⟩
 ·cases h
  obtain⟨a,vs,e,q,_⟩:=h2
  subst e
  cases h1;cases r1;cases r2
  obtain⟨its,_,hi⟩:=zaa9 I q
  exact⟨RcAt.none_tuple hi hu0,RcNeAt.none_tuple hi hu0⟩
 ·cases h;cases h1;cases h2;cases r1;cases r2;exact⟨RcAt.bool_bool _ _,RcNeAt.bool_bool _ _⟩
 ·cases h;cases h1;cases h2;obtain⟨_,rfl⟩:=r1;cases r2;exact⟨RcAt.int_none _ _,RcNeAt.int_none _ _⟩
 ·cases h;cases h1;cases h2;obtain⟨_,rfl⟩:=r1;obtain⟨_,rfl⟩:=r2;exact⟨RcAt.int_int _ _ _ _,RcNeAt.int_int _ _ _ _⟩
 ·cases h;cases h1;cases h2;obtain⟨_,rfl⟩:=r1;obtain⟨_,rfl⟩:=r2;exact⟨RcAt.str_str _ _ _ _,RcNeAt.str_str _ _ _ _⟩
 ·cases h
  obtain⟨a,vs,e,q,_⟩:=h1
  subst e
  cases h2;cases r1;cases r2
  obtain⟨its,_,hi⟩:=zaa9 I q
  exact⟨RcAt.tuple_none hi hu0,RcNeAt.tuple_none hi hu0⟩
 ·obtain⟨a,vs,e,q,r⟩:=h1
  obtain⟨a',vs',e',q',r'⟩:=h2
  subst e e'
  cases r1;cases r2
  exact rc_tups I hu q q' r r' h
 ·obtain⟨a,vs,e,_,q,r⟩:=h1
  obtain⟨a',vs',e',_,q',r'⟩:=h2
  subst e e'
  cases r1;cases r2
  exact zabf I hu q q' r r' h
theorem rc_R (I:Inv X pins σ H s) (hu:A.units+8 < cLine) {t u:R} {v v':V} {x y:Value} {k:Bool} (h1:RepR G w H t v) (h2:RepR G w H u v') (r1:RelV v x) (r2:RelV v' y) (h:eqR t u=some k):
  RcAt A s x y k∧RcNeAt A s x y (!k):=by
 unfold eqR at h
 split at h
 ·exact rc_T I hu h1 h2 r1 r2 h
 ·obtain⟨a,vs,e,_,q,r⟩:=h1
  obtain⟨a',vs',e',q',r',_⟩:=h2
  subst e e'
  cases r1;cases r2
  exact zabf I hu q (.inl q') r r' h
 ·obtain⟨a,vs,e,q,r,_⟩:=h1
  obtain⟨a',vs',e',_,q',r'⟩:=h2
  subst e e'
  cases r1;cases r2
  exact zabf I hu (.inl q) q' r r' h
 ·obtain⟨a,vs,e,q,r,_⟩:=h1
  obtain⟨a',vs',e',q',r',_⟩:=h2
  subst e e'
  cases r1;cases r2
  exact zabf I hu (.inl q) (.inl q') r r' h
 ·cases h
end
section
variable {G:Gx} {X:Cx} {C:Cf} {a b c:Expr} {a' b' c':E} {pos:Pos}
def cmOf:Cm→CmpOp
 | .lt=>.Lt | .le=>.LtE | .gt=>.Gt | .ge=>.GtE | .eq=>.Eq | .ne=>.NotEq | .isN=>.Is | .notN=>.IsNot | .mem=>.In | .nmem=>.NotIn
def cmpV (c:Cm) (x y:R):Option R:=(cmpR c x y).map fun k=>.val (.bl k)
theorem zabb {pins:List (Addr×Obj)} {σ:St} {H:Hp} {s:Shared} {w:Wo} {st:Sto} {Q:VK} {k:Bool} (I:Inv X pins σ H s) (S:StoOk G w H st) (q:∀w' H' v,Le w w' H H'→StoOk G w' H' st→RepR G w' H' (.val (.bl k)) v→Q v H'):EP X pins σ Q (.bool k) s:=
 ⟨.bl k,H,I,rfl,q w H _ (Le.refl _ _) S rfl⟩
theorem zaee {op:CmpOp} {f:Int→Int→Bool} {c:Cm} (hc:∀x y r,cmpV c x y=some r→∃i j,x=.val (.int i)∧y=.val (.int j)∧r=.val (.bl (f i j)))
  (ho:OpR X (compareOp op) (rI0 fun i j=>.bl (f i j))):OpR X (compareOp op) (r2 G (cmpV c)):=by
 intro pins s σ H x y v u Q I rx ry h
 obtain⟨w,st,x',y',r,S,Rx,Ry,e,q⟩:=h
 obtain⟨i,j,rfl,rfl,rfl⟩:=hc x' y' r e
 have hx:x=.int i:=Rx
 have hy:y=.int j:=Ry
 exact ho pins s σ H x y v u Q I rx ry ⟨i,j,hx,hy,q w H _ (Le.refl _ _) S rfl⟩
theorem int2 {x y:R} {g:Int→Int→Bool} {r:R} (h:(do let i ← x.int?;let j ← y.int?;some (g i j)).map (fun k=>R.val (.bl k))=some r):∃i j,x=.val (.int i)∧y=.val (.int j)∧r=.val (.bl (g i j)):=by
 match x,y with
 | .val (.int i),.val (.int j)=>cases h;exact⟨i,j,rfl,rfl,rfl⟩
 | .val (.int i),.val .non=>cases h
 | .val (.int i),.val (.bl _)=>cases h
 | .val (.int i),.val (.str _)=>cases h
 | .val (.int i),.val (.tup _)=>cases h
 | .val (.int i),.val (.lst _)=>cases h
 | .val (.int i),.val (.loc _)=>cases h
 | .val (.int i),.val (.exc _)=>cases h
 | .val (.int i),.bor _=>cases h
 | .val .non,_=>cases h
 | .val (.bl _),_=>cases h
 | .val (.str _),_=>cases h
 | .val (.tup _),_=>cases h
 | .val (.lst _),_=>cases h
 | .val (.loc _),_=>cases h
 | .val (.exc _),_=>cases h
 | .bor _,_=>cases h
theorem zade {w:Wo} {H:Hp} {x:R} {v:V} (r:RepR G w H x v):decide (v=.non)=x.isNon:=by
 match x,r with
 | .val .non,r=>cases r;rfl
 | .val (.bl _),r=>cases r;rfl
 | .val (.int _),r=>cases r;rfl
 | .val (.str _),r=>cases r;rfl
 | .val (.tup _),r=>obtain⟨_,_,e,_⟩:=r;subst e;rfl
 | .val (.lst _),r=>obtain⟨_,_,e,_⟩:=r;subst e;rfl
 | .val (.loc _),r=>obtain⟨_,e⟩:=r;subst e;rfl
 | .val (.exc _),r=>obtain⟨_,e,_⟩:=r;subst e;rfl
 | .bor _,r=>obtain⟨_,_,e,_⟩:=r;subst e;rfl
theorem zacw {w:Wo} {H:Hp} {f:T→T→Option Bool} (hf:∀t t' u v k k',Rep G w H t v→Rep G w H t' v→f t u=some k→f t' u=some k'→k=k'):
  ∀(ts ts' us:List T) (vs:List V) (k k':Bool),Reps G w H ts vs→Reps G w H ts' vs→eqL f ts us=some k→eqL f ts' us=some k'→k=k'
 | [],[],us,vs,k,k',_,_,h,h'=>by rw[h] at h';cases h';rfl
 | [],_::_,us,vs,k,k',r,r',h,h'=>by obtain⟨v,q,e,_⟩:=r';rw[r] at e;cases e
 | _::_,[],us,vs,k,k',r,r',h,h'=>by obtain⟨v,q,e,_⟩:=r;rw[r'] at e;cases e
 | t::ts,t'::ts',[],vs,k,k',r,r',h,h'=>by cases h;cases h';rfl
 | t::ts,t'::ts',u::us,vs,k,k',⟨v,q,e,h1,h2⟩,⟨v',q',e',h1',h2'⟩,h,h'=>by
  subst e
  cases e'
  unfold eqL at h h'
  split at h
  ·rename_i k1 k2 z1 z2
   split at h'
   ·rename_i k3 k4 z3 z4
    cases h
    cases h'
    rw[hf t t' u v k1 k3 h1 h1' z1 z3,zacw hf ts ts' us q k2 k4 h2 h2' z2 z4]
   ·cases h'
  ·cases h
theorem zaeb {w:Wo} {H:Hp}:∀(n:Nat) (t t' u:T) (v:V) (k k':Bool),Rep G w H t v→Rep G w H t' v→eqD n t u=some k→eqD n t' u=some k'→k=k':=by
 intro n
 induction n with
 | zero=>
  intro t t' u v k k' h1 h2 e1 e2
  cases t<;>cases t'<;>first
   | (cases h1;cases h2;rw[e1] at e2;cases e2;rfl)
   | (cases u<;>simp[eqD] at e1;done)
   | (cases u<;>simp[eqD] at e2;done)
   | (cases h1;cases h2;done)
 | succ n ih=>
  intro t t' u v k k' h1 h2 e1 e2
  cases t<;>cases t'<;>first
   | (cases h1;cases h2;rw[e1] at e2;cases e2;rfl)
   | (cases h1;cases h2;done)
   | (cases u<;>simp[eqD] at e1;done)
   | (cases u<;>simp[eqD] at e2;done)
   | (cases h1;obtain⟨_,_,z,_⟩:=h2;cases z;done)
   | (cases h2;obtain⟨_,_,z,_⟩:=h1;cases z;done)
   | skip
  ·rename_i ts ts'
   obtain⟨a,vs,e,q,r⟩:=h1
   obtain⟨a',vs',e',q',r'⟩:=h2
   subst e
   cases e'
   rw[q] at q'
   cases q'
   cases u<;>simp only[eqD] at e1 e2<;>first | (cases e1;done) | (cases e1;cases e2;rfl) | exact zacw (ih ·  ·  ·  ·  ·  ·) ts ts' _ vs k k' r r' e1 e2
  ·obtain⟨a,vs,e,q,r⟩:=h1
   obtain⟨a',vs',e',_,q',r'⟩:=h2
   subst e
   cases e'
   rcases q' with q' | ⟨_,q'⟩<;>(rw[q] at q';cases q')
  ·obtain⟨a,vs,e,_,q,r⟩:=h1
   obtain⟨a',vs',e',q',r'⟩:=h2
   subst e
   cases e'
   rcases q with q | ⟨_,q⟩<;>(rw[q] at q';cases q')
  ·rename_i ts ts'
   obtain⟨a,vs,e,_,q,r⟩:=h1
   obtain⟨a',vs',e',_,q',r'⟩:=h2
   subst e
   cases e'
   have ev:vs=vs':=by
    rcases q with q | ⟨o,q⟩<;>rcases q' with q' | ⟨o',q'⟩<;>(rw[q] at q';cases q';try rfl)
   subst ev
   cases u<;>simp only[eqD] at e1 e2<;>first | (cases e1;done) | (cases e1;cases e2;rfl) | exact zacw (ih ·  ·  ·  ·  ·  ·) ts ts' _ vs k k' r r' e1 e2
theorem zaez {x:T}:∀(ts:List T) (k:Bool),memT x ts=some k→(∀t∈ts,∃j,eqD 8 t x=some j)∧(k=true↔∃t∈ts,eqD 8 t x=some true)
 | [],k,h=>by cases h;exact⟨fun t z=>by simp at z,by simp⟩
 | t::ts,k,h=>by
  unfold memT at h
  split at h
  ·rename_i k1 k2 z1 z2
   cases h
   obtain⟨h1,h2⟩:=zaez ts k2 z2
   refine⟨fun u hu=>?_,?_⟩
   ·rcases List.mem_cons.mp hu with rfl | hu
    ·exact⟨k1,z1⟩
    ·exact h1 u hu
   ·constructor
    ·intro q
     rcases(Bool.or_eq_true _ _).mp q with q | q
     ·subst q;exact⟨t,List.mem_cons_self ..,z1⟩
     ·obtain⟨u,hu,e⟩:=h2.mp q
      exact⟨u,List.mem_cons_of_mem _ hu,e⟩
    ·rintro⟨u,hu,e⟩
     rcases List.mem_cons.mp hu with rfl | hu
     ·have:some k1=some true:=z1.symm.trans e
      cases this
      rfl
     ·rw[h2.mpr ⟨u,hu,e⟩,Bool.or_true]
  ·cases h
theorem zaer {vs:List V} {its:List Value} (r:Vals vs its) {u:Value} (h:u∈its):∃v∈vs,RelV v u:=by
 obtain⟨j,hj,e⟩:=List.mem_iff_getElem.mp h
 obtain⟨v,h1,h2⟩:=zadu r (List.getElem?_eq_some_iff.mpr ⟨hj,e⟩)
 exact⟨v,List.mem_of_getElem? h1,h2⟩
theorem zaf1 {w:Wo} {H:Hp} {ts:List T} {vs:List V} (r:Reps G w H ts vs) {v:V} (h:v∈vs):∃t∈ts,Rep G w H t v:=by
 obtain⟨j,hj,e⟩:=List.mem_iff_getElem.mp h
 obtain⟨t,h1,h2⟩:=r.get' (List.getElem?_eq_some_iff.mpr ⟨hj,e⟩)
 exact⟨t,List.mem_of_getElem? h1,h2⟩
theorem mem_reps {w:Wo} {H:Hp} {ts:List T} {vs:List V} (r:Reps G w H ts vs) {t:T} (h:t∈ts):∃v∈vs,Rep G w H t v:=by
 obtain⟨j,hj,e⟩:=List.mem_iff_getElem.mp h
 obtain⟨t,h1,h2⟩:=r.get (List.getElem?_eq_some_iff.mpr ⟨hj,e⟩)
 exact⟨t,List.mem_of_getElem? h1,h2⟩
theorem mem_vals {vs:List V} {its:List Value} (r:Vals vs its) {v:V} (h:v∈vs):∃u∈its,RelV v u:=by
 obtain⟨j,hj,e⟩:=List.mem_iff_getElem.mp h
 obtain⟨u,h1,h2⟩:=r.get (List.getElem?_eq_some_iff.mpr ⟨hj,e⟩)
 exact⟨u,List.mem_of_getElem? h1,h2⟩
open Classical in
theorem zadw {pins:List (Addr×Obj)} {σ:St} {H:Hp} {s:Shared} {w:Wo} {A:Around} (I:Inv X pins σ H s) (hu:A.units+8 < cLine) {tx:T} {vx:V} {x:Value} {ts:List T} {vs:List V} {its:List Value} {k:Bool}
  (Rx:Rep G w H tx vx) (rx:RelV vx x) (r:Reps G w H ts vs) (q:Vals vs its) (h:memT tx ts=some k):∃e:Value→Bool,(∀y,y∈its.toArray→EqAt A s y x (e y))∧its.toArray.any e=k:=by
 obtain⟨h1,h2⟩:=zaez ts k h
 refine⟨fun u=>decide (∃v t,RelV v u∧Rep G w H t v∧eqD 8 t tx=some true),fun y hy=>?_,?_⟩
 ·have hy':y∈its:=by simpa using hy
  obtain⟨v,hv,rv⟩:=zaer q hy'
  obtain⟨t,ht,rt⟩:=zaf1 r hv
  obtain⟨j,hj⟩:=h1 t ht
  have z:=eqAt_T I 8 A hu t tx v vx y x j rt Rx rv rx hj
  have ej:decide (∃v t,RelV v y∧Rep G w H t v∧eqD 8 t tx=some true)=j:=by
   cases j with
   | true=>exact decide_eq_true ⟨v,t,rv,rt,hj⟩
   | false=>
    refine decide_eq_false ?_
    rintro⟨v',t',rv',rt',e'⟩
    cases rv.inj rv'
    exact Bool.noConfusion (zaeb 8 t t' tx v false true rt rt' hj e')
  dsimp only
  rw[ej]
  exact z
 ·rw[Bool.eq_iff_iff,h2,List.any_toArray,List.any_eq_true]
  constructor
  ·rintro⟨u,hu',e⟩
   obtain⟨v,t,rv,rt,e⟩:=of_decide_eq_true e
   obtain⟨v',hv',rv'⟩:=zaer q hu'
   cases rv.inj rv'
   obtain⟨t',ht',rt'⟩:=zaf1 r hv'
   obtain⟨j,hj⟩:=h1 t' ht'
   have:=zaeb 8 t t' tx v true j rt rt' e hj
   subst this
   exact⟨t',ht',hj⟩
  ·rintro⟨t,ht,e⟩
   obtain⟨v,hv,rt⟩:=mem_reps r ht
   obtain⟨u,hu',rv⟩:=mem_vals q hv
   exact⟨u,hu',decide_eq_true ⟨v,t,rv,rt,e⟩⟩
theorem cmp_ok (hu:X.A.units+9 < cLine) (c:Cm):OpR X (compareOp (cmOf c)) (r2 G (cmpV c)):=by
 cases c with
 | lt=>exact zaee (fun x y r h=>int2 h) op_lt
 | le=>exact zaee (fun x y r h=>int2 h) op_le
 | gt=>exact zaee (fun x y r h=>int2 h) op_gt
 | ge=>exact zaee (fun x y r h=>int2 h) op_ge
 | eq=>
  intro pins s σ H x y v u Q I rx ry h
  obtain⟨w,st,x',y',r,S,Rx,Ry,e,q⟩:=h
  unfold cmpV cmpR at e
  cases he:eqR x' y' with
  | none=>simp[he] at e
  | some k=>
   simp only[he,Option.map_some,Option.some.injEq] at e
   subst e
   exact(rc_R I (by omega) Rx Ry rx ry he).1 _ _ _ _ (zabb I S q)
 | ne=>
  intro pins s σ H x y v u Q I rx ry h
  obtain⟨w,st,x',y',r,S,Rx,Ry,e,q⟩:=h
  unfold cmpV cmpR at e
  cases he:eqR x' y' with
  | none=>simp[he] at e
  | some k=>
   simp only[he,Option.map_some,Option.some.injEq] at e
   subst e
   exact(rc_R I (by omega) Rx Ry rx ry he).2 _ _ _ _ (zabb I S q)
 | isN=>
  intro pins s σ H x y v u Q I rx ry h
  obtain⟨w,st,x',y',r,S,Rx,Ry,e,q⟩:=h
  unfold cmpV cmpR at e
  dsimp only at e
  split at e
  ·have hy:y=.non:=Ry
   refine op_isN pins s σ H x y v u Q I rx ry ⟨hy,?_⟩
   rw[zade Rx]
   cases e
   exact q w H _ (Le.refl _ _) S rfl
  ·cases e
 | notN=>
  intro pins s σ H x y v u Q I rx ry h
  obtain⟨w,st,x',y',r,S,Rx,Ry,e,q⟩:=h
  unfold cmpV cmpR at e
  dsimp only at e
  split at e
  ·have hy:y=.non:=Ry
   refine op_notN pins s σ H x y v u Q I rx ry ⟨hy,?_⟩
   rw[zade Rx]
   cases e
   exact q w H _ (Le.refl _ _) S rfl
  ·cases e
 | mem=>
  intro pins s σ H x y v u Q I rx ry h
  obtain⟨w,st,x',y',r,S,Rx,Ry,e,q⟩:=h
  unfold cmpV cmpR at e
  dsimp only at e
  cases hx:x'.val? with
  | none=>simp[hx] at e
  | some tx=>
   cases hy:y'.sq2 with
   | none=>simp[hx,hy] at e
   | some ts=>
    cases hm:memT tx ts with
    | none=>simp[hx,hy,hm] at e
    | some k=>
     simp[hx,hy,hm] at e
     subst e
     have Rx':Rep G w H tx x:=by
      cases x' with
      | val t=>cases hx;exact Rx
      | bor t=>cases hx
     obtain⟨p,vs,rfl,hp,rp⟩:=RepR.sq2 Ry hy
     cases ry
     rcases hp with hp | hp
     ·obtain⟨its,r1,hi⟩:=zabp I hp
      obtain⟨e,h1,h2⟩:=zadw (A:=X.A.in1) I (by show X.A.units+1+8 < cLine;omega) Rx' rx rp r1 hm
      exact in_listAt e hi h1 (by rw[h2];exact zabb I S q)
     ·obtain⟨its,r1,hi⟩:=zaa9 I hp
      obtain⟨e,h1,h2⟩:=zadw (A:=X.A.in1) I (by show X.A.units+1+8 < cLine;omega) Rx' rx rp r1 hm
      exact in_tupleAt e hi h1 (by rw[h2];exact zabb I S q)
 | nmem=>
  intro pins s σ H x y v u Q I rx ry h
  obtain⟨w,st,x',y',r,S,Rx,Ry,e,q⟩:=h
  unfold cmpV cmpR at e
  dsimp only at e
  cases hx:x'.val? with
  | none=>simp[hx] at e
  | some tx=>
   cases hy:y'.sq2 with
   | none=>simp[hx,hy] at e
   | some ts=>
    cases hm:memT tx ts with
    | none=>simp[hx,hy,hm] at e
    | some k=>
     simp[hx,hy,hm] at e
     subst e
     have Rx':Rep G w H tx x:=by
      cases x' with
      | val t=>cases hx;exact Rx
      | bor t=>cases hx
     obtain⟨p,vs,rfl,hp,rp⟩:=RepR.sq2 Ry hy
     cases ry
     rcases hp with hp | hp
     ·obtain⟨its,r1,hi⟩:=zabp I hp
      obtain⟨e,h1,h2⟩:=zadw (A:=X.A.in1) I (by show X.A.units+1+8 < cLine;omega) Rx' rx rp r1 hm
      exact notIn_listAt e hi h1 (by rw[h2];exact zabb I S q)
     ·obtain⟨its,r1,hi⟩:=zaa9 I hp
      obtain⟨e,h1,h2⟩:=zadw (A:=X.A.in1) I (by show X.A.units+1+8 < cLine;omega) Rx' rx rp r1 hm
      exact notIn_tupleAt e hi h1 (by rw[h2];exact zabb I S q)
theorem sV_cmp (hu:X.A.units+9 < cLine) (c:Cm) (ha:PE X a (tV G X C a')) (hb:PE X b (tV G X C b')) (hm:behindInMarks (cmOf c) b=false):PE X (.Compare a [cmOf c] [b] pos) (tV G X C (.cmp c a' b')):=
 s2c (cmp_ok hu c) ha hb hm fun _ _=>rfl
end
end IP
end
section
set_option Elab.async false
set_option linter.all false
set_option maxRecDepth 100000
namespace IP
open PySem PySem.Spec L2 PySem.SeqAt
section
variable {G:Gx} {X:Cx} {C:Cf} {a b c:Expr} {a' b' c' e':E} {pos:Pos} {rest:List Expr}
theorem tru_V {w:Wo} {H:Hp} {x:R} {v:V} {k:Bool} (r:RepD G w H x v) (h:tru x=some k):TruV X.K v H k:=by
 match x,h with
 | .val .non,h=>cases r;cases h;exact rfl
 | .val (.bl b),h=>cases r;cases h;exact rfl
 | .val (.int i),h=>cases r;cases h;exact rfl
 | .val (.lst ts),h=>
  cases h
  obtain⟨a,vs,e,_,q,r⟩:=r
  subst e
  refine .inl ⟨vs,.inl q,?_⟩
  cases ts with
  | nil=>cases r;rfl
  | cons t ts=>obtain⟨_,_,e,_⟩:=r;subst e;rfl
 | .val (.tup ts),h=>
  cases h
  obtain⟨a,vs,e,q,r⟩:=r
  subst e
  refine .inr (.inl ⟨vs,.inl (.inl q),?_⟩)
  cases ts with
  | nil=>cases r;rfl
  | cons t ts=>obtain⟨_,_,e,_⟩:=r;subst e;rfl
 | .bor ts,h=>
  cases h
  obtain⟨a,vs,e,q,r⟩:=r
  subst e
  refine .inl ⟨vs,.inl (.inl q),?_⟩
  cases ts with
  | nil=>cases r;rfl
  | cons t ts=>obtain⟨_,_,e,_⟩:=r;subst e;rfl
def truK (x:R):Option R:=(tru x).map fun k=>.val (.bl k)
theorem sT_plain {e:Expr} (hE:PE X e (tV G X C e')) (he:∀whole,isTrue e X.env whole=(do let v ← whole;standAt e.pos;holding [v] (truthy v)))
  (hev:∀σ s,ev C e' .t σ s=(ev C e' .v σ s).bind fun x s=>.of (truK x) s):PT X e (tT G X C e'):=by
 refine PT.imp (pt_truth hE he) ?_
 rintro σV H Q ⟨w₀,H₀,w,σ,s,g,h⟩
 rw[hev] at h
 refine⟨w₀,H₀,w,σ,s,g,(Want.bind h).imp ?_⟩
 rintro v H1 ⟨w1,r,s1,L1,S1,R1,h1⟩
 obtain⟨r',e,q⟩:=Want.of h1
 unfold truK at e
 cases ht:tru r with
 | none=>rw[ht] at e;cases e
 | some k=>
  rw[ht] at e
  cases e
  obtain⟨k',e,q'⟩:=q w1 H1 (.bl k) (Le.refl _ _) S1 rfl
  cases e
  exact⟨k,tru_V R1.d ht,q'⟩
theorem cmp_t (c:Cm) (σ:Fr) (s:Sto):ev C (.cmp c a' b') .t σ s=ev C (.cmp c a' b') .v σ s:=by
 show Res.bind (Res.bind (ev C a' .v σ s) _) _=Res.bind (ev C a' .v σ s) _
 cases ev C a' .v σ s with
 | stuck=>rfl
 | exc c s=>rfl
 | ok x s1=>
  show Res.bind (Res.bind (ev C b' .v σ s1) _) _=Res.bind (ev C b' .v σ s1) _
  cases ev C b' .v σ s1 with
  | stuck=>rfl
  | exc c s=>rfl
  | ok y s2=>
   show Res.bind (Res.of ((cmpR c x y).map _) s2) _=Res.of ((cmpR c x y).map _) s2
   cases cmpR c x y<;>rfl
theorem sT_cmp (hu:X.A.units+9 < cLine) (c:Cm) (ha:PE X a (tV G X C a')) (hb:PE X b (tV G X C b')) (hm:behindInMarks (cmOf c) b=false):PT X (.Compare a [cmOf c] [b] pos) (tT G X C (.cmp c a' b')):=by
 refine PT.imp (pt_cmpR (cmp_ok (G:=G) hu c) ha hb hm) ?_
 rintro σV H Q ⟨w₀,H₀,w,σ,s,g,h⟩
 rw[cmp_t] at h
 exact t2_of (f:=cmpV c) ⟨w₀,H₀,w,σ,s,g,h⟩
def r1 (G:Gx) (f:R→Option R):V→Hp→VK→Prop:=fun x H Q=>∃w s rx r,StoOk G w H s∧RepD G w H rx x∧f rx=some r∧∀w' H' v,Le w w' H H'→StoOk G w' H' s→RepR G w' H' r v→Q v H'
theorem t1_of {f:R→Option R} {σV:St} {H:Hp} {Q:VK} (h:∃w₀ H₀ w σ s,Good G w₀ H₀ w H σ s σV∧Want G X σV w H ((ev C a' .v σ s).bind fun x s1=>.of (f x) s1) Q):
  tV G X C a' σV H fun x H1=>r1 G f x H1 Q:=by
 obtain⟨w₀,H₀,w,σ,s,g,h⟩:=h
 refine⟨w₀,H₀,w,σ,s,g,(Want.bind h).imp ?_⟩
 rintro x H1 ⟨w1,r1,s1,L1,S1,R1,h1⟩
 obtain⟨r,e,q⟩:=Want.of h1
 exact⟨w1,s1,r1,r,S1,R1.d,e,q⟩
theorem t1_dr {f:R→Option R} {σV:St} {H:Hp} {Q:VK} (h:∃w₀ H₀ w σ s,Good G w₀ H₀ w H σ s σV∧Want G X σV w H ((ev C a' .v σ s).bind fun x s1=>.of (f (x.dr s1)) s1) Q):
  tV G X C a' σV H fun x H1=>r1 G f x H1 Q:=by
 obtain⟨w₀,H₀,w,σ,s,g,h⟩:=h
 refine⟨w₀,H₀,w,σ,s,g,(Want.bind h).imp ?_⟩
 rintro x H1 ⟨w1,r1,s1,L1,S1,R1,h1⟩
 obtain⟨r,e,q⟩:=Want.of h1
 exact⟨w1,s1,_,r,S1,R1.dr S1,e,q⟩
theorem sV_neg (ha:PE X a (tV G X C a')):PE X (.UnaryOp .USub a pos) (tV G X C (.neg a')):=by
 refine PE.imp (pe_un un_neg ha) ?_
 rintro σV H Q h
 have h:=t1_of (f:=fun x=>x.int?.map fun i=>R.val (.int (-i))) h
 refine(show tV G X C a' σV H _ from ?_)
 obtain⟨w₀,H₀,w,σ,s,g,h⟩:=h
 refine⟨w₀,H₀,w,σ,s,g,h.imp ?_⟩
 rintro x H1 ⟨w1,s1,rx,r,S1,R1,e,q⟩
 match rx,e with
 | .val (.int i),e=>cases e;cases R1;exact⟨i,rfl,q w1 H1 _ (Le.refl _ _) S1 rfl⟩
theorem sV_not (ha:PE X a (tV G X C a')):PE X (.UnaryOp .Not a pos) (tV G X C (.not a')):=by
 intro pins s σ H Q I h
 have h:=t1_of (f:=fun x=>(tru x).map fun k=>R.val (.bl (!k))) h
 refine PyProof.Rows.UnaryOp_ (thn (ha pins s σ H _ I h) fun v s1 ⟨x,H1,I1,r1,q1⟩=>?_)
 obtain⟨w1,st,rx,r,S1,R1,e,q⟩:=q1
 dsimp only at e
 cases ht:tru rx with
 | none=>rw[ht] at e;cases e
 | some k=>
  rw[ht] at e
  cases e
  exact PyProof.Rows.not_of (thn (tru_ok pins s1 σ H1 x v (fun c H2=>Q (.bl (!c)) H2) I1 r1 ⟨k,tru_V R1 ht,q w1 H1 _ (Le.refl _ _) S1 rfl⟩) fun c s2 ⟨H2,I2,z⟩=>⟨.bl (!c),H2,I2,rfl,z⟩)
theorem onB_t {w:Wo} {H:Hp} {σV:St} {x:R} {v:V} {m n:Res R} {Q:VK} (r:RepR G w H x v) (h:Want G X σV w H (onB x m n) Q):∃k,v=.bl k∧x=.val (.bl k)∧Want G X σV w H (if k=true then m else n) Q:=by
 match x,h with
 | .val (.bl true),h=>exact⟨true,r,rfl,h⟩
 | .val (.bl false),h=>exact⟨false,r,rfl,h⟩
 | .val .non,h=>exact h.elim
 | .val (.int _),h=>exact h.elim
 | .val (.str _),h=>exact h.elim
 | .val (.tup _),h=>exact h.elim
 | .val (.lst _),h=>exact h.elim
 | .val (.loc _),h=>exact h.elim
 | .val (.exc _),h=>exact h.elim
 | .bor _,h=>exact h.elim
theorem sT_not (ha:PT X a (tT G X C a')):PT X (.UnaryOp .Not a pos) (tT G X C (.not a')):=by
 refine PT.imp (pt_not ha) ?_
 rintro σV H Q ⟨w₀,H₀,w,σ,s,g,h⟩
 refine⟨w₀,H₀,w,σ,s,g,(Want.bind h).imp ?_⟩
 rintro v H1 ⟨w1,r,s1,L1,S1,R1,h1⟩
 obtain⟨k,rfl,rfl,h1⟩:=onB_t R1 h1
 refine⟨k,rfl,?_⟩
 cases k with
 | true=>obtain⟨_,e,q⟩:=h1 w1 H1 (.bl false) (Le.refl _ _) S1 rfl;cases e;exact q
 | false=>obtain⟨_,e,q⟩:=h1 w1 H1 (.bl true) (Le.refl _ _) S1 rfl;cases e;exact q
theorem tT_and {σV:St} {H:Hp} {Q:Bool→Hp→Prop} (h:tT G X C (.and a' b') σV H Q):tAnd (tT G X C a') (tT G X C b') σV H Q:=by
 obtain⟨w₀,H₀,w,σ,s,g,h⟩:=h
 refine⟨w₀,H₀,w,σ,s,g,(Want.bind h).imp ?_⟩
 rintro v H1 ⟨w1,r,s1,L1,S1,R1,h1⟩
 obtain⟨k,rfl,rfl,h1⟩:=onB_t R1 h1
 refine⟨k,rfl,?_⟩
 cases k with
 | true=>exact iteT ⟨w₀,H₀,w1,σ,s1,g.step L1 S1,h1⟩
 | false=>obtain⟨_,e,q⟩:=h1 w1 H1 (.bl false) (Le.refl _ _) S1 rfl;cases e;exact iteF q
theorem tT_or {σV:St} {H:Hp} {Q:Bool→Hp→Prop} (h:tT G X C (.or a' b') σV H Q):tOr (tT G X C a') (tT G X C b') σV H Q:=by
 obtain⟨w₀,H₀,w,σ,s,g,h⟩:=h
 refine⟨w₀,H₀,w,σ,s,g,(Want.bind h).imp ?_⟩
 rintro v H1 ⟨w1,r,s1,L1,S1,R1,h1⟩
 obtain⟨k,rfl,rfl,h1⟩:=onB_t R1 h1
 refine⟨k,rfl,?_⟩
 cases k with
 | true=>obtain⟨_,e,q⟩:=h1 w1 H1 (.bl true) (Le.refl _ _) S1 rfl;cases e;exact iteT q
 | false=>exact iteF ⟨w₀,H₀,w1,σ,s1,g.step L1 S1,h1⟩
theorem PW.imp {e:Expr} {t t':TT} (h:PW X e t) (q:∀σ H Q,t' σ H Q→t σ H Q):PW X e t':=fun wh pins s σ H Q I z=>h wh pins s σ H Q I (q _ _ _ z)
def PTb (X:Cx) (op:BoolOp) (es:List Expr) (pos:Pos) (t:TT):Prop:=PW X (.BoolOp op es pos) t
theorem zabu (h:PT X a (tT G X C a')):PTb X .And [a] pos (tT G X C a'):=pw_and1 h
theorem zaap (h:PT X a (tT G X C a')):PTb X .Or [a] pos (tT G X C a'):=pw_or1 h
theorem zae8 (ha:PT X a (tT G X C a')) (hb:PTb X .And (b::rest) pos (tT G X C b')):PTb X .And (a::b::rest) pos (tT G X C (.and a' b')):=PW.imp (pw_and ha hb) fun _ _ _ h=>tT_and h
theorem ptb_or (ha:PT X a (tT G X C a')) (hb:PTb X .Or (b::rest) pos (tT G X C b')):PTb X .Or (a::b::rest) pos (tT G X C (.or a' b')):=PW.imp (pw_or ha hb) fun _ _ _ h=>tT_or h
theorem sV_and (ha:PE X a (tV G X C a')) (hb:PE X (.BoolOp .And (b::rest) pos) (tV G X C b')):PE X (.BoolOp .And (a::b::rest) pos) (tV G X C (.and a' b')):=by
 refine PE.imp (pe_and ha hb) ?_
 rintro σV H Q ⟨w₀,H₀,w,σ,s,g,h⟩
 refine⟨w₀,H₀,w,σ,s,g,(Want.bind h).imp ?_⟩
 rintro v H1 ⟨w1,r,s1,L1,S1,R1,h1⟩
 obtain⟨k,rfl,rfl,h1⟩:=onB_t R1 h1
 refine⟨k,rfl,?_⟩
 cases k with
 | true=>exact iteT ⟨w₀,H₀,w1,σ,s1,g.step L1 S1,h1⟩
 | false=>exact iteF (h1 w1 H1 (.bl false) (Le.refl _ _) S1 rfl)
theorem sV_ife (hc:PT X c (tT G X C c')) (ha:PE X a (tV G X C a')) (hb:PE X b (tV G X C b')):PE X (.IfExp c a b pos) (tV G X C (.ife c' a' b')):=by
 refine PE.imp (pe_ifExp hc ha hb) ?_
 rintro σV H Q ⟨w₀,H₀,w,σ,s,g,h⟩
 refine⟨w₀,H₀,w,σ,s,g,(Want.bind h).imp ?_⟩
 rintro v H1 ⟨w1,r,s1,L1,S1,R1,h1⟩
 obtain⟨k,rfl,rfl,h1⟩:=onB_t R1 h1
 refine⟨k,rfl,?_⟩
 cases k with
 | true=>exact iteT ⟨w₀,H₀,w1,σ,s1,g.step L1 S1,h1⟩
 | false=>exact iteF ⟨w₀,H₀,w1,σ,s1,g.step L1 S1,h1⟩
def WantA (G:Gx) (X:Cx) (σV:St) (w:Wo) (H:Hp) (res:Res (List T)) (Q:List V→Hp→Prop):Prop:=match res with
 | .stuck=>False
 | .ok ts s'=>∀w' H' vs,Le w w' H H'→StoOk G w' H' s'→Reps G w' H' ts vs→Q vs H'
 | .exc c s'=>∀w' H' pins u sh,Le w w' H H'→StoOk G w' H' s'→Thrown G X pins σV H' c u sh→X.xe u sh
def WantR (G:Gx) (X:Cx) (σV:St) (w:Wo) (H:Hp) (res:Res (List R)) (Q:List V→Hp→Prop):Prop:=match res with
 | .stuck=>False
 | .ok ts s'=>∀w' H' vs,Le w w' H H'→StoOk G w' H' s'→RepRs G w' H' ts vs→Q vs H'
 | .exc c s'=>∀w' H' pins u sh,Le w w' H H'→StoOk G w' H' s'→Thrown G X pins σV H' c u sh→X.xe u sh
def tA (G:Gx) (X:Cx) (C:Cf) (es:List E):TA:=fun σV H Q=>∃w₀ H₀ w σ s,Good G w₀ H₀ w H σ s σV∧WantA G X σV w H (evs C es σ s) Q
def tR (G:Gx) (X:Cx) (C:Cf) (es:List E):TA:=fun σV H Q=>∃w₀ H₀ w σ s,Good G w₀ H₀ w H σ s σV∧WantR G X σV w H (evr C es σ s) Q
theorem sA_nil:PA X [] (tA G X C []):=PA.imp pa_nil fun σV H Q ⟨w₀,H₀,w,σ,s,g,h⟩=>h w H [] (Le.refl _ _) g.sto rfl
theorem sR_nil:PA X [] (tR G X C []):=PA.imp pa_nil fun σV H Q ⟨w₀,H₀,w,σ,s,g,h⟩=>h w H [] (Le.refl _ _) g.sto rfl
variable {es:List Expr} {es':List E}
theorem sA_cons (ha:PE X a (tV G X C a')) (hr:PA X es (tA G X C es')) (hs:starEach (a::es) X.env=(false,eval a X.env)::starEach es X.env):PA X (a::es) (tA G X C (a'::es')):=by
 refine PA.imp (zaa4 ha hr hs) ?_
 rintro σV H Q ⟨w₀,H₀,w,σ,s,g,h⟩
 have h:WantA G X σV w H ((ev C a' .v σ s).bind fun x s1=>onV x fun t=>(evs C es' σ s1).bind fun ts s2=>.ok (t::ts) s2) Q:=h
 refine⟨w₀,H₀,w,σ,s,g,?_⟩
 cases he:ev C a' .v σ s with
 | stuck=>rw[he] at h;exact h
 | exc c s1=>rw[he] at h;exact h
 | ok x s1=>
  rw[he] at h
  intro w1 H1 v L1 S1 R1
  match x,h with
  | .bor _,h=>exact h.elim
  | .val t,h=>
   have h:WantA G X σV w H ((evs C es' σ s1).bind fun ts s2=>.ok (t::ts) s2) Q:=h
   refine⟨w₀,H₀,w1,σ,s1,g.step L1 S1,?_⟩
   cases hf:evs C es' σ s1 with
   | stuck=>rw[hf] at h;exact h
   | exc c s2=>rw[hf] at h;exact fun w2 H2 pins u sh L2=>h w2 H2 pins u sh (L1.trans L2)
   | ok ts s2=>
    rw[hf] at h
    intro w2 H2 vs L2 S2 R2
    exact h w2 H2 (v::vs) (L1.trans L2) S2 ⟨v,vs,rfl,Rep.mono L2 S1 t v R1,R2⟩
theorem sR_cons (ha:PE X a (tV G X C a')) (hr:PA X es (tR G X C es')) (hs:starEach (a::es) X.env=(false,eval a X.env)::starEach es X.env):PA X (a::es) (tR G X C (a'::es')):=by
 refine PA.imp (zaa4 ha hr hs) ?_
 rintro σV H Q ⟨w₀,H₀,w,σ,s,g,h⟩
 have h:WantR G X σV w H ((ev C a' .v σ s).bind fun x s1=>(evr C es' σ s1).bind fun ts s2=>.ok (x::ts) s2) Q:=h
 refine⟨w₀,H₀,w,σ,s,g,?_⟩
 cases he:ev C a' .v σ s with
 | stuck=>rw[he] at h;exact h
 | exc c s1=>rw[he] at h;exact h
 | ok x s1=>
  rw[he] at h
  intro w1 H1 v L1 S1 R1
  have h:WantR G X σV w H ((evr C es' σ s1).bind fun ts s2=>.ok (x::ts) s2) Q:=h
  refine⟨w₀,H₀,w1,σ,s1,g.step L1 S1,?_⟩
  cases hf:evr C es' σ s1 with
  | stuck=>rw[hf] at h;exact h
  | exc c s2=>rw[hf] at h;exact fun w2 H2 pins u sh L2=>h w2 H2 pins u sh (L1.trans L2)
  | ok ts s2=>
   rw[hf] at h
   intro w2 H2 vs L2 S2 R2
   exact h w2 H2 (v::vs) (L1.trans L2) S2 ⟨v,vs,rfl,RepR.mono L2 S1 R1,R2⟩
theorem zad0 (C:Cf):∀(es:List E) (σ:Fr) (s:Sto) (ts:List T) (s':Sto),evs C es σ s=.ok ts s'→ts.length=es.length
 | [],σ,s,ts,s',h=>by cases h;rfl
 | e::es,σ,s,ts,s',h=>by
  unfold evs at h
  cases he:ev C e .v σ s with
  | stuck=>rw[he] at h;cases h
  | exc c s1=>rw[he] at h;cases h
  | ok x s1=>
   rw[he] at h
   match x,h with
   | .bor _,h=>cases h
   | .val t,h=>
    have h:((evs C es σ s1).bind fun ts s2=>Res.ok (t::ts) s2)=.ok ts s':=h
    cases hf:evs C es σ s1 with
    | stuck=>rw[hf] at h;cases h
    | exc c s2=>rw[hf] at h;cases h
    | ok us s2=>
     rw[hf] at h
     cases h
     simp[zad0 C es σ s1 us _ hf]
theorem sV_tup {k:Nat} (h:PA X es (tA G X C es')) (hz:es'.length≤sizeLine):PE X (.Tuple es k pos) (tV G X C (.tup es')):=by
 refine PE.imp (pe_tup h) ?_
 rintro σV H Q ⟨w₀,H₀,w,σ,s,g,h⟩
 have h:Want G X σV w H ((evs C es' σ s).bind fun ts s1=>.ok (.val (.tup ts)) s1) Q:=h
 refine⟨w₀,H₀,w,σ,s,g,?_⟩
 cases hf:evs C es' σ s with
 | stuck=>rw[hf] at h;exact h
 | exc c s2=>rw[hf] at h;exact h
 | ok ts s2=>
  rw[hf] at h
  intro w2 H2 vs L2 S2 R2
  refine⟨by rw[← R2.length,zad0 C _ _ _ _ _ hf];exact hz,?_⟩
  exact zad2 S2 R2 fun w' H' v L S R=>h w' H' v (L2.trans L) S R
theorem sV_lst (h:PA X es (tA G X C es')) (hz:es'.length≤sizeLine):PE X (.List es pos) (tV G X C (.lst es')):=by
 refine PE.imp (pe_lst h) ?_
 rintro σV H Q ⟨w₀,H₀,w,σ,s,g,h⟩
 have h:Want G X σV w H ((evs C es' σ s).bind fun ts s1=>.ok (.val (.lst ts)) s1) Q:=h
 refine⟨w₀,H₀,w,σ,s,g,?_⟩
 cases hf:evs C es' σ s with
 | stuck=>rw[hf] at h;exact h
 | exc c s2=>rw[hf] at h;exact h
 | ok ts s2=>
  rw[hf] at h
  intro w2 H2 vs L2 S2 R2
  refine⟨by rw[← R2.length,zad0 C _ _ _ _ _ hf];exact hz,?_⟩
  exact zadb S2 R2 fun w' H' v L S R=>h w' H' v (L2.trans L) S R
end
end IP
end
section
set_option Elab.async false
set_option linter.all false
set_option maxRecDepth 100000
namespace IP
open PySem PySem.Spec L2 PySem.SeqAt
section
variable {G:Gx} {X:Cx} {w:Wo} {H:Hp} {σ:St} {pins:List (Addr×Obj)} {s:Shared} {A:Around}
theorem rc_D (I:Inv X pins σ H s) (hu:A.units+8 < cLine) {t u:R} {v v':V} {x y:Value} {k:Bool} (h1:RepD G w H t v) (h2:RepD G w H u v') (r1:RelV v x) (r2:RelV v' y) (h:eqR t u=some k):
  RcAt A s x y k∧RcNeAt A s x y (!k):=by
 unfold eqR at h
 split at h
 ·exact rc_T I hu h1 h2 r1 r2 h
 ·obtain⟨a,vs,e,_,q,r⟩:=h1
  obtain⟨a',vs',e',q',r'⟩:=h2
  subst e e'
  cases r1;cases r2
  exact zabf I hu q (.inl q') r r' h
 ·obtain⟨a,vs,e,q,r⟩:=h1
  obtain⟨a',vs',e',_,q',r'⟩:=h2
  subst e e'
  cases r1;cases r2
  exact zabf I hu (.inl q) q' r r' h
 ·obtain⟨a,vs,e,q,r⟩:=h1
  obtain⟨a',vs',e',q',r'⟩:=h2
  subst e e'
  cases r1;cases r2
  exact zabf I hu (.inl q) (.inl q') r r' h
 ·cases h
end
section
variable {G:Gx} {X:Cx} {C:Cf} {a b:Expr} {a' b':E} {pos:Pos}
def r2D (G:Gx) (f:R→R→Option R):R2:=fun x y H Q=>∃w s rx ry r,StoOk G w H s∧RepD G w H rx x∧RepD G w H ry y∧f rx ry=some r∧∀w' H' v,Le w w' H H'→StoOk G w' H' s→RepR G w' H' r v→Q v H'
theorem t2_dr {f:R→R→Option R} {σV:St} {H:Hp} {Q:VK} (h:∃w₀ H₀ w σ s,Good G w₀ H₀ w H σ s σV∧Want G X σV w H ((ev C a' .v σ s).bind fun x s1=>(ev C b' .v σ s1).bind fun y s2=>.of (f (x.dr s2) (y.dr s2)) s2) Q):
  tOp (r2D G f) (tV G X C a') (tV G X C b') σV H Q:=by
 obtain⟨w₀,H₀,w,σ,s,g,h⟩:=h
 refine⟨w₀,H₀,w,σ,s,g,(Want.bind h).imp ?_⟩
 rintro x H1 ⟨w1,r1,s1,L1,S1,R1,h1⟩
 refine⟨w₀,H₀,w1,σ,s1,g.step L1 S1,(Want.bind h1).imp ?_⟩
 rintro y H2 ⟨w2,r2,s2,L2,S2,R2,h2⟩
 obtain⟨r,e,q⟩:=Want.of h2
 exact⟨w2,s2,_,_,r,S2,(R1.mono L2 S1).dr S2,R2.dr S2,e,q⟩
theorem cmpD_ok (hu:X.A.units+9 < cLine) {c:Cm} (hc:c=.eq∨c=.ne):OpR X (compareOp (cmOf c)) (r2D G (cmpV c)):=by
 intro pins s σ H x y v u Q I rx ry h
 obtain⟨w,st,x',y',r,S,Rx,Ry,e,q⟩:=h
 cases he:eqR x' y' with
 | none=>rcases hc with rfl | rfl<;>(unfold cmpV cmpR at e;simp[he] at e)
 | some k=>
  have z:=rc_D (A:=X.A) I (by omega) Rx Ry rx ry he
  rcases hc with rfl | rfl
  ·unfold cmpV cmpR at e
   simp only[he,Option.map_some,Option.some.injEq] at e
   subst e
   exact z.1 _ _ _ _ (zabb I S q)
  ·unfold cmpV cmpR at e
   simp only[he,Option.map_some,Option.some.injEq] at e
   subst e
   exact z.2 _ _ _ _ (zabb I S q)
theorem cmpD_t (c:Cm) (σ:Fr) (s:Sto):ev C (.cmpD c a' b') .t σ s=ev C (.cmpD c a' b') .v σ s:=by
 show Res.bind (Res.bind (ev C a' .v σ s) _) _=Res.bind (ev C a' .v σ s) _
 cases ev C a' .v σ s with
 | stuck=>rfl
 | exc c s=>rfl
 | ok x s1=>
  show Res.bind (Res.bind (ev C b' .v σ s1) _) _=Res.bind (ev C b' .v σ s1) _
  cases ev C b' .v σ s1 with
  | stuck=>rfl
  | exc c s=>rfl
  | ok y s2=>
   show Res.bind (Res.of ((cmpR c (x.dr s2) (y.dr s2)).map _) s2) _=Res.of ((cmpR c (x.dr s2) (y.dr s2)).map _) s2
   cases cmpR c (x.dr s2) (y.dr s2)<;>rfl
theorem sT_cmpD (hu:X.A.units+9 < cLine) (c:Cm) (hc:c=.eq∨c=.ne) (ha:PE X a (tV G X C a')) (hb:PE X b (tV G X C b')) (hm:behindInMarks (cmOf c) b=false:=by rfl):PT X (.Compare a [cmOf c] [b] pos) (tT G X C (.cmpD c a' b')):=by
 refine PT.imp (pt_cmpR (cmpD_ok (G:=G) hu hc) ha hb hm) ?_
 rintro σV H Q ⟨w₀,H₀,w,σ,s,g,h⟩
 rw[cmpD_t] at h
 exact t2_dr (f:=cmpV c) ⟨w₀,H₀,w,σ,s,g,h⟩
end
end IP
end
section
set_option Elab.async false
set_option linter.all false
set_option maxRecDepth 100000
namespace IP
open PySem PySem.Spec L2 PySem.SeqAt
section
variable {G:Gx} {X:Cx} {C:Cf} {a b c:Expr} {a' b' c' e':E} {pos p:Pos} {rest:List Expr}
theorem Reps.atI {w:Wo} {H:Hp} {ts:List T} {vs:List V} {i:Int} {t:T} (r:Reps G w H ts vs) (h:L2.atI ts i=some t):∃v,L2.atI vs i=some v∧Rep G w H t v:=by
 unfold L2.atI at h ⊢
 rw[← r.length]
 cases e:ixN ts.length i with
 | none=>rw[e] at h;cases h
 | some j=>
  rw[e] at h
  exact r.get h
theorem sV_sub (ha:PE X a (tV G X C a')) (hb:PE X b (tV G X C b')) (hs:zafj b):PE X (.Subscript a b pos) (tV G X C (.sub a' b')):=by
 refine PE.imp (pe_ix ix_seq ha hb hs) ?_
 rintro σV H Q ⟨w₀,H₀,w,σ,s,g,h⟩
 refine⟨w₀,H₀,w,σ,s,g,(Want.bind h).imp ?_⟩
 rintro x H1 ⟨w1,r1,s1,L1,S1,R1,h1⟩
 refine⟨w₀,H₀,w1,σ,s1,g.step L1 S1,(Want.bind h1).imp ?_⟩
 rintro y H2 ⟨w2,r2,s2,M2,S2,R2,h2⟩
 have R1':=R1.mono M2 S1
 match r2,h2 with
 | .val (.int i),h2=>
  obtain⟨r,e,q⟩:=Want.of h2
  cases R2
  unfold subR at e
  cases hx:(r1.dr s2).sq2 with
  | none=>rw[hx] at e;cases e
  | some ts=>
   rw[hx] at e
   dsimp only at e
   cases ht:L2.atI ts i with
   | none=>rw[ht] at e;cases e
   | some t=>
    rw[ht] at e
    cases e
    obtain⟨pa,vs,rfl,hp,rp⟩:=RepD.sq2 (R1'.dr S2) hx
    obtain⟨v,hv,rv⟩:=rp.atI ht
    rcases hp with hp | hp
    ·exact .inl ⟨pa,vs,i,v,rfl,rfl,.inl hp,hv,q w2 H2 v (Le.refl _ _) S2 rv⟩
    ·exact .inr (.inl ⟨pa,vs,i,v,rfl,rfl,SqT.of hp,hv,q w2 H2 v (Le.refl _ _) S2 rv⟩)
 | .val .non,h2=>exact h2.elim
 | .val (.bl _),h2=>exact h2.elim
 | .val (.str _),h2=>exact h2.elim
 | .val (.tup _),h2=>exact h2.elim
 | .val (.lst _),h2=>exact h2.elim
 | .val (.loc _),h2=>exact h2.elim
 | .val (.exc _),h2=>exact h2.elim
 | .bor _,h2=>exact h2.elim
def rSl (G:Gx):V→Option Int→Option Int→Hp→VK→Prop:=fun x lo hi H Q=>∃w s rx r,StoOk G w H s∧RepD G w H rx x∧cutR rx lo hi=some r∧∀w' H' v,Le w w' H H'→StoOk G w' H' s→RepR G w' H' r v→Q v H'
theorem SlR.imp {r r':V→Option Int→Option Int→Hp→VK→Prop} (h:SlR X r) (q:∀x lo hi H Q,r' x lo hi H Q→r x lo hi H Q):SlR X r':=fun pins s σ H x v vl vu lo hi sl Q I rx hs pl pu z=>h pins s σ H x v vl vu lo hi sl Q I rx hs pl pu (q _ _ _ _ _ z)
theorem sl_ok:SlR X (rSl G):=by
 refine SlR.imp (SlR.or sl_tup sl_list) ?_
 rintro x lo hi H Q ⟨w,s,rx,r,S,R1,e,q⟩
 unfold cutR at e
 split at e
 ·rename_i ts
  split at e
  ·cases e
  ·rename_i hc
   cases e
   obtain⟨pa,vs,rfl,hp,rp⟩:=R1
   refine .inl ⟨pa,vs,rfl,SqT.of hp,by rw[← rp.length];exact hc,zad2 S (rp.cut lo hi) q⟩
 ·rename_i ts
  cases e
  obtain⟨pa,vs,rfl,_,hp,rp⟩:=R1
  exact .inr ⟨pa,vs,rfl,.inl hp,zadb S (rp.cut lo hi) q⟩
 ·rename_i ts
  cases e
  obtain⟨pa,vs,rfl,hp,rp⟩:=R1
  exact .inr ⟨pa,vs,rfl,SqL.of hp,zadb S (rp.cut lo hi) q⟩
 ·cases e
theorem onI_t {w:Wo} {H:Hp} {σV:St} {x:R} {v:V} {f:Int→Res R} {Q:VK} (r:RepR G w H x v) (h:Want G X σV w H (onI x f) Q):∃i,v=.int i∧x=.val (.int i)∧Want G X σV w H (f i) Q:=by
 match x,h with
 | .val (.int i),h=>exact⟨i,r,rfl,h⟩
 | .val .non,h=>exact h.elim
 | .val (.bl _),h=>exact h.elim
 | .val (.str _),h=>exact h.elim
 | .val (.tup _),h=>exact h.elim
 | .val (.lst _),h=>exact h.elim
 | .val (.loc _),h=>exact h.elim
 | .val (.exc _),h=>exact h.elim
 | .bor _,h=>exact h.elim
theorem sV_cutL {p2:Pos} (ha:PE X a (tV G X C a')) (hb:PE X b (tV G X C b')):PE X (.Subscript a (.Slice (some b) none none p2) pos) (tV G X C (.cutL a' b')):=by
 refine PE.imp (zafb (sl_ok (G:=G)) ha (po_some hb) po_none) ?_
 rintro σV H Q ⟨w₀,H₀,w,σ,s,g,h⟩
 refine⟨w₀,H₀,w,σ,s,g,(Want.bind h).imp ?_⟩
 rintro x H1 ⟨w1,r1,s1,L1,S1,R1,h1⟩
 refine⟨w₀,H₀,w1,σ,s1,g.step L1 S1,(Want.bind h1).imp ?_⟩
 rintro y H2 ⟨w2,r2,s2,L2,S2,R2,h2⟩
 obtain⟨i,rfl,rfl,h2⟩:=onI_t R2 h2
 obtain⟨r,e,q⟩:=Want.of h2
 exact⟨i,rfl,w2,s2,_,r,S2,(R1.mono L2 S1).dr S2,e,q⟩
theorem zafr {p2:Pos} (ha:PE X a (tV G X C a')) (hb:PE X b (tV G X C b')):PE X (.Subscript a (.Slice none (some b) none p2) pos) (tV G X C (.cutU a' b')):=by
 refine PE.imp (zafb (sl_ok (G:=G)) ha po_none (po_some hb)) ?_
 rintro σV H Q ⟨w₀,H₀,w,σ,s,g,h⟩
 refine⟨w₀,H₀,w,σ,s,g,(Want.bind h).imp ?_⟩
 rintro x H1 ⟨w1,r1,s1,L1,S1,R1,h1⟩
 refine⟨w₀,H₀,w1,σ,s1,g.step L1 S1,(Want.bind h1).imp ?_⟩
 rintro y H2 ⟨w2,r2,s2,L2,S2,R2,h2⟩
 obtain⟨i,rfl,rfl,h2⟩:=onI_t R2 h2
 obtain⟨r,e,q⟩:=Want.of h2
 exact⟨i,rfl,w2,s2,_,r,S2,(R1.mono L2 S1).dr S2,e,q⟩
def rB1 (G:Gx) (f:R→Option R):List V→Hp→VK→Prop:=fun xs H Q=>∃v,xs=[v]∧r1 G f v H Q
theorem CallR.imp {f:Value} {r r':List V→Hp→VK→Prop} (h:CallR X f r) (q:∀xs H Q,r' xs H Q→r xs H Q):CallR X f r':=fun pins s σ H xs us Q I rx z=>h pins s σ H xs us Q I rx (q _ _ _ z)
theorem sB1 {f:R→Option R} {id:String} {x:Str} (hc:CallR X (.builtin id) (rB1 G f)) (hg:Gl X x) (hm:X.mg x=none) (hv:bootBuiltins x=some (.builtin id)) (hn:x≠"__name__") (hdb:(x==("__debug__":Str))=false)
  (ha:PE X a (tV G X C a')) (hs:starEach [a] X.env=[(false,eval a X.env)]) (hev:∀σ s,ev C e' .v σ s=(ev C a' .v σ s).bind fun x s1=>.of (f (x.dr s1)) s1):PE X (.Call (.Name x p) [a] [] pos) (tV G X C e'):=by
 refine PE.imp (zads hc hg hm hv (zaa4 ha pa_nil hs) hn hdb hs rfl) ?_
 rintro σV H Q ⟨w₀,H₀,w,σ,s,g,h⟩
 rw[hev] at h
 obtain⟨w₀,H₀,w,σ,s,g,h⟩:=t1_dr ⟨w₀,H₀,w,σ,s,g,h⟩
 exact⟨w₀,H₀,w,σ,s,g,h.imp fun v H1 q=>⟨v,rfl,q⟩⟩
theorem sTy1 {f:R→Option R} {T:String} {x:Str} (hc:CallR X (.type T) (rB1 G f)) (hg:Gl X x) (hm:X.mg x=none) (hv:bootBuiltins x=some (.type T)) (hn:x≠"__name__") (hdb:(x==("__debug__":Str))=false)
  (ha:PE X a (tV G X C a')) (hs:starEach [a] X.env=[(false,eval a X.env)]) (hev:∀σ s,ev C e' .v σ s=(ev C a' .v σ s).bind fun x s1=>.of (f (x.dr s1)) s1):PE X (.Call (.Name x p) [a] [] pos) (tV G X C e'):=by
 refine PE.imp (zad5 hc hg hm hv (zaa4 ha pa_nil hs) hn hdb hs rfl) ?_
 rintro σV H Q ⟨w₀,H₀,w,σ,s,g,h⟩
 rw[hev] at h
 obtain⟨w₀,H₀,w,σ,s,g,h⟩:=t1_dr ⟨w₀,H₀,w,σ,s,g,h⟩
 exact⟨w₀,H₀,w,σ,s,g,h.imp fun v H1 q=>⟨v,rfl,q⟩⟩
theorem map_some {α β:Type} {o:Option α} {f:α→β} {r:β} (h:o.map f=some r):∃a,o=some a∧r=f a:=by
 cases o with
 | none=>cases h
 | some a=>cases h;exact⟨a,rfl,rfl⟩
theorem c_len:CallR X (.builtin "len") (rB1 G (b1R .len)):=by
 refine CallR.imp zado ?_
 rintro xs H Q ⟨v,rfl,w,s,rx,r,S,R1,e,q⟩
 obtain⟨ts,ht,rfl⟩:=map_some e
 obtain⟨pa,vs,rfl,hp,rp⟩:=RepD.sq2 R1 ht
 refine⟨pa,vs,rfl,hp.imp (fun h=>.inl h) (fun h=>SqT.of h),?_⟩
 rw[← rp.length]
 exact q w H _ (Le.refl _ _) S rfl
theorem c_abs:CallR X (.builtin "abs") (rB1 G (b1R .abs)):=by
 refine CallR.imp call_abs ?_
 rintro xs H Q ⟨v,rfl,w,s,rx,r,S,R1,e,q⟩
 obtain⟨i,hi,rfl⟩:=map_some e
 cases R1.int hi
 exact⟨i,rfl,q w H _ (Le.refl _ _) S rfl⟩
theorem c_int:CallR X (.type "int") (rB1 G (b1R .int)):=by
 refine CallR.imp call_int1 ?_
 rintro xs H Q ⟨v,rfl,w,s,rx,r,S,R1,e,q⟩
 unfold b1R at e
 dsimp only at e
 split at e
 ·cases e;cases R1;exact .inl ⟨_,rfl,q w H _ (Le.refl _ _) S rfl⟩
 ·cases e;cases R1;exact .inr ⟨_,rfl,q w H _ (Le.refl _ _) S rfl⟩
 ·cases e
theorem c_list:CallR X (.type "list") (rB1 G (b1R .list)):=by
 refine CallR.imp zach ?_
 rintro xs H Q ⟨v,rfl,w,s,rx,r,S,R1,e,q⟩
 obtain⟨ts,ht,rfl⟩:=map_some e
 obtain⟨pa,vs,rfl,hp,rp⟩:=RepD.sq2 R1 ht
 exact⟨pa,vs,rfl,hp.imp (fun h=>.inl h) (fun h=>SqT.of h),zadb S rp q⟩
theorem c_tuple:CallR X (.type "tuple") (rB1 G (b1R .tuple)):=by
 refine CallR.imp zadj ?_
 rintro xs H Q ⟨v,rfl,w,s,rx,r,S,R1,e,q⟩
 obtain⟨ts,ht,rfl⟩:=map_some e
 obtain⟨pa,vs,rfl,hp,rp⟩:=RepD.sq2 R1 ht
 refine⟨pa,vs,rfl,?_⟩
 rcases hp with hp | hp
 ·exact .inl ⟨.inl hp,zad2 S rp q⟩
 ·exact .inr ⟨SqT.of hp,q w H _ (Le.refl _ _) S ⟨pa,vs,rfl,hp,rp⟩⟩
def tyOf:Ty→Option String
 | .int=>some "int" | .bool=>some "bool" | .tuple=>some "tuple" | .list=>some "list" | .str=>some "str" | .cls _=>none
theorem isi_ty {w:Wo} {H:Hp} {st:Sto} {x:R} {v:V} {c:Ty} {k:Bool} {n:String} (S:StoOk G w H st) (r:RepD G w H x v) (hn:tyOf c=some n) (h:isiR x c=some k):∃t,TyOf X.K H v t∧PySem.W.kitOne X.K t (.type n)=some k:=by
 have lst:∀{a:Addr} {vs:List V},Rd H a (.lst vs)→TyOf X.K H (.ref a) (.type "list"):=fun {a vs} q=>by
  rcases q with q | ⟨o,q⟩
  ·exact .lst q
  ·exact .frz q
 unfold isiR at h
 split at h<;>first
  | (cases h;done)
  | (cases h;cases hn;cases r;exact⟨_,.int _,by with_unfolding_all rfl⟩)
  | (cases h;cases hn;cases r;exact⟨_,.bl _,by with_unfolding_all rfl⟩)
  | (cases h;cases hn;cases r;exact⟨_,.non,by with_unfolding_all rfl⟩)
  | (cases h;cases hn;obtain⟨a,vs,rfl,q,_⟩:=r;exact⟨_,.tup q,by with_unfolding_all rfl⟩)
  | (cases h;cases hn;obtain⟨a,vs,rfl,_,q,_⟩:=r;exact⟨_,lst q,by with_unfolding_all rfl⟩)
  | (cases h;cases hn;obtain⟨a,vs,rfl,q,_⟩:=r;exact⟨_,.lst q,by with_unfolding_all rfl⟩)
theorem isiX_ty {sub:Nat→Nat→Bool} {x:R} {c:Ty} {n:String} (hn:tyOf c=some n):isiX sub x c=isiR x c:=by
 cases c<;>first | (cases hn;done) | (unfold isiX;split<;>first | rfl | (rename_i z;cases z))
theorem sV_isi {c:Ty} {n:String} {y:Str} {py:Pos} (hn:tyOf c=some n) (hg:Gl X "isinstance") (hm:X.mg "isinstance"=none) (hgy:Gl X y) (hmy:X.mg y=none) (hv:bootBuiltins y=some (.type n)) (hy:y≠"__name__") (hdy:(y==("__debug__":Str))=false)
  (ha:PE X a (tV G X C a')) (hs:starEach [a,.Name y py] X.env=[(false,eval a X.env),(false,eval (.Name y py) X.env)]):PE X (.Call (.Name "isinstance" p) [a,.Name y py] [] pos) (tV G X C (.isi a' c)):=by
 have hc:CallR X (.builtin "isinstance") (fun xs H Q=>∃v,xs=[v,.ty n]∧r1 G (fun x=>(isiX C.sub x c).map fun k=>.val (.bl k)) v H Q):=by
  rintro pins s σ H xs us Q I rv ⟨v,rfl,w,st,rx,r,S,R1,e,q⟩
  obtain⟨u,u',rfl,r1,r2⟩:=rv.two
  cases r2
  obtain⟨k,hk,rfl⟩:=map_some e
  rw[isiX_ty hn] at hk
  obtain⟨t,ht,hk'⟩:=isi_ty (X:=X) S R1 hn hk
  exact isinst_ok I r1 ht hk' fun tk=>⟨.bl k,H,I.tok tk,rfl,q w H _ (Le.refl _ _) S rfl⟩
 refine PE.imp (zads hc hg hm (show bootBuiltins "isinstance"=some (.builtin "isinstance") by decide +kernel) (zaa4 ha (zaa4 (pe_bltn (v:=.ty n) hgy hmy hv rfl hy hdy) pa_nil rfl) (by rw[hs];rfl)) (by decide) (by decide) (by rw[hs];rfl) rfl) ?_
 rintro σV H Q ⟨w₀,H₀,w,σ,s,g,h⟩
 obtain⟨w₀,H₀,w,σ,s,g,h⟩:=t1_dr (f:=fun x=>(isiX C.sub x c).map fun k=>.val (.bl k)) ⟨w₀,H₀,w,σ,s,g,h⟩
 exact⟨w₀,H₀,w,σ,s,g,h.imp fun v H1 q=>⟨v,rfl,q⟩⟩
end
end IP
end
section
set_option Elab.async false
set_option linter.all false
set_option maxRecDepth 100000
namespace IP
open PySem PySem.Spec L2 PySem.SeqAt PyProof.Rows.LSm
section
variable {G:Gx} {X:Cx}
theorem zabr {w:Wo} {H:Hp}:∀{ts:List T} {is:List Bool} {vs:List V} {its:List Value},zaa2 ts=some is→Reps G w H ts vs→Vals vs its→BoolsAre its is
 | [],is,vs,its,h,r,q=>by
  cases h
  cases r
  rw[Vals.zero q]
  exact .nil
 | .bl i::ts,is,vs,its,h,⟨v,r,e,h1,h2⟩,q=>by
  unfold zaa2 at h
  obtain⟨js,hj,rfl⟩:=map_some h
  subst e
  cases h1
  cases q with
  | cons q1 q2=>
   cases q1
   exact .cons i (zabr hj h2 q2)
 | .non::ts,is,vs,its,h,r,q=>by simp[zaa2] at h
 | .int _::ts,is,vs,its,h,r,q=>by simp[zaa2] at h
 | .str _::ts,is,vs,its,h,r,q=>by simp[zaa2] at h
 | .tup _::ts,is,vs,its,h,r,q=>by simp[zaa2] at h
 | .lst _::ts,is,vs,its,h,r,q=>by simp[zaa2] at h
 | .loc _::ts,is,vs,its,h,r,q=>by simp[zaa2] at h
 | .exc _::ts,is,vs,its,h,r,q=>by simp[zaa2] at h
theorem bind2 {α β γ:Type} {o:Option α} {p:α→Option β} {f:α→β→Option γ} {r:γ} (h:(do let a ← o;let b ← p a;f a b)=some r):∃a b,o=some a∧p a=some b∧f a b=some r:=by
 cases ho:o with
 | none=>rw[ho] at h;cases h
 | some a=>
  rw[ho] at h
  cases hp:p a with
  | none=>simp[hp] at h
  | some b=>simp[hp] at h;exact⟨a,b,rfl,hp,h⟩
theorem c_any (hc:X.calm=true):CallR X (.builtin "any") (rB1 G (b1R .any)):=by
 rintro pins s σ H xs us Q I rv ⟨v,rfl,w,st,rx,r,S,R1,e,q⟩
 obtain⟨ts,bs,ht,hb,he⟩:=bind2 (f:=fun(_:List T) (bs:List Bool)=>some (R.val (.bl (bs.any id)))) e
 cases he
 obtain⟨pa,vs,rfl,hp,rp⟩:=RepD.seq (s:=st) R1 ht
 obtain⟨u,rfl,ru⟩:=rv.one
 cases ru
 obtain⟨its,q1,hl⟩:=zabp I hp
 have hB:=zabr hb rp q1
 have hlt:pa < s.heap.objs.size:=by obtain⟨_,e,_⟩:=hl;exact Heap.lt_size e
 refine call_any_walk (wpAny_pyIter_list hl ?_)
 refine⟨s.heap.objs.size,[s.heap.objs.size,pa],[s.heap.objs.size],its.toArray.size,_,_,fun i=>(bs[i]?).getD false,rfl,Walks.list (A:=X.A.in1) (I.ok.hd hc) _ pa (Nat.ne_of_lt hlt) its.toArray,
  ⟨⟨_,Heap.get?_push_size _ rfl,rfl,rfl⟩,hl.push _⟩,fun i v s' Q' E' hP hQ=>?_,fun h' tk hk=>?_⟩
 ·obtain⟨b,e,rfl⟩:=hB.get i v (by simpa using hP)
  simp only[e,Option.getD_some] at hQ
  exact wpAny_truthy_bool hQ
 ·have e:((List.range its.toArray.size).any fun i=>(bs[i]?).getD false)=bs.any id:=by
   rw[List.size_toArray,hB.length];exact range_any bs
  rw[e]
  exact⟨.bl _,H,I.kept (kept_iter hk),rfl,q w H _ (Le.refl _ _) S rfl⟩
theorem c_all (hc:X.calm=true):CallR X (.builtin "all") (rB1 G (b1R .all)):=by
 rintro pins s σ H xs us Q I rv ⟨v,rfl,w,st,rx,r,S,R1,e,q⟩
 obtain⟨ts,bs,ht,hb,he⟩:=bind2 (f:=fun(_:List T) (bs:List Bool)=>some (R.val (.bl (bs.all id)))) e
 cases he
 obtain⟨pa,vs,rfl,hp,rp⟩:=RepD.seq (s:=st) R1 ht
 obtain⟨u,rfl,ru⟩:=rv.one
 cases ru
 obtain⟨its,q1,hl⟩:=zabp I hp
 have hB:=zabr hb rp q1
 have hlt:pa < s.heap.objs.size:=by obtain⟨_,e,_⟩:=hl;exact Heap.lt_size e
 refine call_all_walk (wpAny_pyIter_list hl ?_)
 refine⟨s.heap.objs.size,[s.heap.objs.size,pa],[s.heap.objs.size],its.toArray.size,_,_,fun i=>(bs[i]?).getD true,rfl,Walks.list (A:=X.A.in1) (I.ok.hd hc) _ pa (Nat.ne_of_lt hlt) its.toArray,
  ⟨⟨_,Heap.get?_push_size _ rfl,rfl,rfl⟩,hl.push _⟩,fun i v s' Q' E' hP hQ=>?_,fun h' tk hk=>?_⟩
 ·obtain⟨b,e,rfl⟩:=hB.get i v (by simpa using hP)
  simp only[e,Option.getD_some] at hQ
  exact wpAny_truthy_bool hQ
 ·have e:((List.range its.toArray.size).all fun i=>(bs[i]?).getD true)=bs.all id:=by
   rw[List.size_toArray,hB.length];exact range_all bs
  rw[e]
  exact⟨.bl _,H,I.kept (kept_iter hk),rfl,q w H _ (Le.refl _ _) S rfl⟩
theorem zab1 (w:Wo) (H:Hp):∀ns:List Int,Reps G w H (ns.map T.int) (ns.map V.int)
 | []=>rfl
 | n::r=>⟨_,_,rfl,rfl,zab1 w H r⟩
end
end IP
end
section
set_option Elab.async false
set_option linter.all false
set_option maxRecDepth 100000
namespace IP
open PySem PySem.Spec L2
def CXE (G:Gx) (P:Program) (w:World) (base:Heap):CXT:=fun outer H s E e s'=>
 ∃(a:Addr) (cls t:Value) (H':Hp) (h B:Heap),e=.ref a∧s'.os=s.os∧PyProof.Rows.AllBare s'.gens∧Un (frs outer) [] H H' s.heap h∧HOk P w H' h∧Flt outer h B a s'.heap∧base.StaysIn B∧Heap.FlyingW B outer a cls t s'.heap∧E cls none H'
section
variable {G:Gx} {X:Cx} {C:Cf} {k:Nat} {f fa:Addr} {fd:FuncData} {ps:List Str} {sp:Sp} {dvs:List V} {ds:List Value} {E:XK}
theorem Inv.after' {pins:List (Addr×Obj)} {σ:St} {H H':Hp} {s s':Shared} (I:Inv X pins σ H s) (os:s'.os=s.os) (bare:PyProof.Rows.AllBare s'.gens) (un:Un (frs X.stack) [] H H' s.heap s'.heap) (hok:HOk X.prog X.w H' s'.heap):Inv X pins σ H' s':=by
 obtain⟨hh,g,d,t,os'⟩:=s'
 obtain rfl:os'=s.os:=os
 exact I.call (h':=hh) (g':=g) (d':=d) (t':=t) (ch:=[]) un hok bare (fun b z=>absurd z (by simp))
theorem zadp {CX:CXT} {pins:List (Addr×Obj)} {σ:St} {H:Hp} {s:Shared} {Q:VK} {us:List Value} {vs:List V} (F:FnOk X.prog X.w X.K X.mg X.base CX k f fd ps sp) (hr:Room k X.A) (hb:Binds X.K fd ps ds) (hd:Vals dvs ds)
  (I:Inv X pins σ H s) (r:Vals vs us) (h:sp (vs++dvs) H Q E) (hx:∀e s',CX X.stack H s E e s'→X.xe e s'):wpAny (model X.prog X.w) X.A (call (.ref f) us) (EP X pins σ Q) X.xe s:=by
 have r2:Vals (vs++dvs) (us++ds):=r.append hd
 have hl:(us++ds).length=ps.length:=by rw[← r2.length];exact F.len _ _ _ _ h
 refine wpAny_call (codeAny_mono (F.run X.A X.stack s H ⟨us,[]⟩ (us++ds) (vs++dvs) Q E hr I.env0 (hb s us I.kIn hl) r2 h) fun r s' hq=>?_)
 cases r with
 | error e=>exact hx e s' hq
 | ok fl=>
  cases fl with
  | ret u=>exact I.after hq
  | next=>exact False.elim hq
  | brk=>exact False.elim hq
  | cont=>exact False.elim hq
def EX (G:Gx) (X:Cx) (σV:St):XK:=fun cls _ H'=>∀pins u sh h B a t,u=.ref a→Inv X pins σV H' { sh with heap:=h }→Flt X.stack h B a sh.heap→X.base.StaysIn B→Heap.FlyingW B X.stack a cls t sh.heap→X.xe u sh
theorem zab4 {pins:List (Addr×Obj)} {σ:St} {H:Hp} {s:Shared} (I:Inv X pins σ H s) (e:Value) (s':Shared) (h:CXE G X.prog X.w X.base X.stack H s (EX G X σ) e s'):X.xe e s':=by
 obtain⟨a,cls,t,H',hh,B,rfl,os,bare,un,hok,fl,sb,fly,q⟩:=h
 exact q pins (.ref a) s' hh B a t rfl (Inv.after' (s':={ s' with heap:=hh }) I os bare un hok) fl sb fly
theorem zaa1 {w:Wo} {H:Hp}:∀{rs qs:List R} {vs us:List V},RepRs G w H rs vs→RepRs G w H qs us→RepRs G w H (rs++qs) (vs++us)
 | [],qs,_,us,h,q=>by rw[h];exact q
 | t::ts,qs,_,us,⟨v,r,e,h,k⟩,q=>by subst e;exact⟨v,r++us,rfl,h,zaa1 k q⟩
def cstV:T→Option V
 | .non=>some .non | .bl b=>some (.bl b) | .int i=>some (.int i) | .str x=>some (.str x) | _=>none
theorem zabn {w:Wo} {H:Hp}:∀{ts:List T} {vs:List V},ts.mapM cstV=some vs→RepRs G w H (ts.map R.val) vs
 | [],vs,h=>by cases h;exact rfl
 | t::ts,vs,h=>by
  rw[List.mapM_cons] at h
  cases e:cstV t with
  | none=>simp[e] at h
  | some v=>
   cases e2:ts.mapM cstV with
   | none=>simp[e,e2] at h
   | some us=>
    simp[e,e2] at h
    subst h
    refine⟨v,us,rfl,?_,zabn e2⟩
    cases t<;>cases e<;>exact rfl
variable {es:List Expr} {es':List IP.E} {e₀:Expr} {fi:Nat} {x:Str} {p pos:Pos} {dts:List T}
theorem zac0 {w:Wo} {H:Hp} {σV:St} {m:Res (List R)} {k:List R→Sto→Res R} {Q:VK} (h:Want G X σV w H (m.bind k) Q):WantR G X σV w H m fun vs H1=>∃w1 rs s1,Le w w1 H H1∧StoOk G w1 H1 s1∧RepRs G w1 H1 rs vs∧Want G X σV w H (k rs s1) Q:=by
 cases m with
 | stuck=>exact h
 | ok rs s=>exact fun w' H' vs a b c=>⟨w',rs,s,a,b,c,h⟩
 | exc c s=>exact h
end
end IP
end
section
set_option Elab.async false
set_option linter.all false
set_option maxRecDepth 100000
namespace IP
open PySem PySem.Spec L2
def clo (cells:List (Str×Addr)):List (Str×NameKind)→List (Str×Addr)→List (Str×Addr)
 | [],acc=>acc
 | (n,k)::r,acc=>clo cells r (if k==.free then(match cells.lookup n with | some c=>(n,c)::acc | none=>acc) else acc)
theorem zafh (scope:Scope) (env:Env) (h:∀x∈scope.names,x.2=.free→∃c,env.cells.lookup x.1=some c):closureFor scope env=pure (clo env.cells scope.names []):=by
 unfold closureFor
 generalize ([]:List (Str×Addr))=acc
 obtain⟨k,names,a,b,c⟩:=scope
 simp only at h ⊢
 induction names generalizing acc with
 | nil=>rfl
 | cons x r ih=>
  obtain⟨n,k⟩:=x
  have ih:=fun acc=>ih acc (fun y hy=>h y (List.mem_cons_of_mem _ hy))
  simp only[List.forIn_cons,clo]
  by_cases hk:(k==NameKind.free)=true
  ·have hk':k=.free:=by simpa using hk
   obtain⟨c,hc⟩:=h (n,k) (List.mem_cons_self ..) hk'
   have hc:List.lookup n env.cells=some c:=hc
   simp only[hk,if_true,cellOf,hc,pure_bind]
   exact ih _
  ·simp only[Bool.not_eq_true] at hk
   simp only[hk,Bool.false_eq_true,if_false,pure_bind]
   exact ih _
theorem zafz (cells:List (Str×Addr)):∀(names:List (Str×NameKind)) (acc:List (Str×Addr)),(∀x c,acc.lookup x=some c→cells.lookup x=some c)→∀x c,(clo cells names acc).lookup x=some c→cells.lookup x=some c
 | [],acc,h,x,c,e=>h x c e
 | (n,k)::r,acc,h,x,c,e=>by
  refine zafz cells r _ (fun y d q=>?_) x c e
  split at q
  ·split at q
   ·rename_i d' hd
    rw[List.lookup_cons] at q
    split at q
    ·rename_i hyn
     have:y=n:=by simpa using hyn
     subst this
     cases q
     exact hd
    ·exact h y d q
   ·exact h y d q
  ·exact h y d q
theorem zage (cells:List (Str×Addr)):∀(names:List (Str×NameKind)) (acc:List (Str×Addr)) (x:Str),(∃c,acc.lookup x=some c)→∃c,(clo cells names acc).lookup x=some c
 | [],acc,x,h=>h
 | (n,k)::r,acc,x,h=>by
  refine zage cells r _ x ?_
  split
  ·split
   ·rename_i d' hd
    rw[List.lookup_cons]
    split
    ·exact⟨_,rfl⟩
    ·exact h
   ·exact h
  ·exact h
theorem zaf7 (cells:List (Str×Addr)):∀(names:List (Str×NameKind)) (acc:List (Str×Addr)) (x:Str),(x,NameKind.free)∈names→(∃c,cells.lookup x=some c)→∃c,(clo cells names acc).lookup x=some c
 | [],acc,x,h,_=>by simp at h
 | (n,k)::r,acc,x,h,hc=>by
  rcases List.mem_cons.mp h with e | e
  ·cases e
   obtain⟨c,hc⟩:=hc
   refine zage cells r _ _ ?_
   simp[hc]
  ·exact zaf7 cells r _ x e hc
theorem zacn {α:Type}:∀{l:List (Str×α)} {x:Str} {a:α},l.lookup x=some a→(x,a)∈l
 | [],x,a,h=>by simp at h
 | (y,b)::r,x,a,h=>by
  rw[List.lookup_cons] at h
  split at h
  ·rename_i e
   have:x=y:=by simpa using e
   subst this
   cases h
   exact List.mem_cons_self ..
  ·exact List.mem_cons_of_mem _ (zacn h)
theorem zace (scope:Scope) (env:Env) (x:Str) (k:NameKind) (h:(relabel scope env).names.lookup x=some k):∃k',(x,k')∈scope.names∧((k=.cell∨k=.free)→k'=.cell∨k'=.free)∧(k=.local→k'=.local):=by
 have h:=zacn h
 unfold relabel at h
 obtain⟨⟨n,k'⟩,hm,e⟩:=List.mem_map.mp h
 dsimp only at e
 split at e
 ·rename_i hc
  cases e
  have:k'=.free:=by
   have:=(Bool.and_eq_true _ _).mp hc
   have:=(Bool.and_eq_true _ _).mp this.1
   simpa using this.1
  exact⟨k',hm,fun _=>.inr this,fun z=>by cases z⟩
 ·cases e
  exact⟨_,hm,fun z=>z,fun z=>z⟩
section
variable {X:Cx}
def cxC (X:Cx) (N':List Str) (scope:Scope) (C:Addr) (fp:List Addr) (s2:Shared) (H2:Hp) (xe:Value→Shared→Prop):Cx:=
 { X with N:=N',s₀:=s2,H₀:=H2,env:=compEnvC scope (clo X.env.cells scope.names []) C X.env,outer:=X.stack,ex:=fp,fn:=fun _=>false,pn:=[],xe:=xe }
structure CompN (X:Cx) (scope:Scope) (N':List Str) (js:List Nat):Prop where
 kind:scope.kind=.function
 nocell:∀x∈scope.names,x.2≠.cell
 free:∀x∈scope.names,x.2=.free→X.env.kindOf x.1=some .cell∨X.env.kindOf x.1=some .free
 len:N'.length=X.N.length
 nd:N'.Nodup
 same:∀(i:Nat) (x:Str),N'[i]?=some x→i∉js→Vis (relabel scope X.env) x→X.N[i]?=some x∧(x,NameKind.free)∈scope.names∧((relabel scope X.env).names.lookup x=some .cell∨(relabel scope X.env).names.lookup x=some .free)
 locs:∀x∈scope.names,x.2=.local→scope.names.lookup x.1=some .local
def clr (σ:St) (js:List Nat):St:=js.foldl (fun σ j=>σ.set j none) σ
theorem clr_len (js:List Nat):∀σ:St,(clr σ js).length=σ.length:=by
 induction js with
 | nil=>intro σ;rfl
 | cons j js ih=>intro σ;show(clr (σ.set j none) js).length=_;rw[ih];simp
theorem clr_get (js:List Nat):∀(σ:St) (i:Nat) (v:V),(clr σ js)[i]?=some (some v)→σ[i]?=some (some v)∧i∉js:=by
 induction js with
 | nil=>intro σ i v h;exact⟨h,by simp⟩
 | cons j js ih=>
  intro σ i v h
  obtain⟨h1,h2⟩:=ih (σ.set j none) i v h
  by_cases e:j=i
  ·subst e
   rw[List.getElem?_set_self'] at h1
   cases hq:σ[j]? with
   | none=>rw[hq] at h1;cases h1
   | some q=>rw[hq] at h1;cases h1
  ·rw[List.getElem?_set_ne e] at h1
   exact⟨h1,by simp[h2];exact fun z=>e z.symm⟩
theorem cxC_inv {pins:List (Addr×Obj)} {σ:St} {H:Hp} {s:Shared} {scope:Scope} {N':List Str} {js:List Nat} {fp:List Addr} {h4:Heap} {tk:Nat} {xe:Value→Shared→Prop} (hN:CompN X scope N' js) (I:Inv X pins σ H s) (hfp:∀b∈fp,FpOk X pins H b) (hfo:∀b∈fp,∃o,s.heap.get? b=some o)
  (hns:h4.Ns s.heap.objs.size (fun _=>none)) (hk:∀b o,s.heap.get? b=some o→h4.get? b=some o):
  Inv (cxC X N' scope s.heap.objs.size fp s H xe) [] (clr σ js) H { s with heap:=h4,toks:=tk }:=by
 have hlt:∀{b:Addr} {o:Obj},s.heap.get? b=some o→b≠s.heap.objs.size:=fun e=>Nat.ne_of_lt (Heap.lt_size e)
 have hsubc:=zafz X.env.cells scope.names [] (fun x c z=>by simp at z)
 have clt:∀x c,(clo X.env.cells scope.names []).lookup x=some c→c≠s.heap.objs.size:=fun x c e=>by
  obtain⟨v,hv⟩:=I.cell x c (hsubc x c e)
  obtain⟨o,ho,_⟩:=hv
  exact hlt ho
 have hkin:∀x:Str,(relabel scope X.env).names.lookup x=some .cell∨(relabel scope X.env).names.lookup x=some .free→(x,NameKind.free)∈scope.names:=fun x hx=>by
  have:∃k',(x,k')∈scope.names∧(k'=.cell∨k'=.free):=by
   rcases hx with hx | hx
   ·obtain⟨k',h1,h2,_⟩:=zace _ _ _ _ hx;exact⟨k',h1,h2 (.inl rfl)⟩
   ·obtain⟨k',h1,h2,_⟩:=zace _ _ _ _ hx;exact⟨k',h1,h2 (.inr rfl)⟩
  obtain⟨k',h1,h2⟩:=this
  rcases h2 with rfl | rfl
  ·exact absurd rfl (hN.nocell _ h1)
  ·exact h1
 have hcell:∀x:Str,(x,NameKind.free)∈scope.names→∃c,X.env.cells.lookup x=some c:=fun x hx=>I.ok.has x (hN.free (x,.free) hx rfl)
 have hstk:∀b∈frs X.stack,b∈X.env.locals::X.fs:=I.stkSub
 refine⟨⟨I.ok.mod,hN.kind,I.ok.glob,I.ok.blt,Nat.le_refl _,fun x y c h1 h2=>I.ok.inj x y c (hsubc _ _ h1) (hsubc _ _ h2),fun x hx=>?_,fun x c h _=>(Bool.noConfusion (show false=true from h)),I.ok.hd,I.ok.frames,.inl rfl,fun b hb=>?_,I.bs,Nat.le_trans I.ok.bsz I.sz,fun b o e hb=>?_,fun b hb hf=>?_,I.stack,I.stkFree⟩,
  rfl,I.bare,Un.kept hk,⟨_,hns,fun i x v h1 h2 h3=>?_⟩,fun x c h=>?_,I.hok.fresh (Nat.le_refl _),fun x c h=>I.freeC x c (hsubc _ _ h),fun p hp=>absurd (show p∈([]:List (Addr×Obj)) from hp) (by simp),I.hok.kept hk,?_⟩
 ·exact zaf7 X.env.cells scope.names [] x (hkin x hx) (hcell x (hkin x hx))
 ·obtain⟨f0,f1,f2,f3,f4,f5⟩:=hfp b hb
  refine⟨fun z=>?_,fun x c e z=>f4 x c (hsubc _ _ e) z⟩
  obtain⟨o,ho⟩:=hfo b hb
  exact hlt ho z
 ·have:=I.bs b o e
  obtain⟨f0,f1,f2,f3,f4,f5⟩:=hfp b hb
  rcases f3 with f3 | f3
  ·exact I.ok.noex b o e f3
  ·exact absurd (Nat.lt_of_lt_of_le (Heap.lt_size (I.ok.bs b o e).1) f3) (Nat.lt_irrefl _)
 ·obtain⟨f0,f1,f2,f3,f4,f5⟩:=hfp b hb
  rcases List.mem_cons.mp (hstk b hf) with z | z
  ·exact f1 z
  ·exact f2 z
 ·obtain⟨h2',hj⟩:=clr_get js σ i v h2
  obtain⟨q1,q2,q3⟩:=hN.same i x h1 hj h3
  obtain⟨m,hm,hl⟩:=I.loc
  have hkx:=hN.free (x,.free) q2 rfl
  obtain⟨u,ru,lk⟩:=hl i x v q1 h2' (.inr hkx)
  refine⟨u,ru,.inr ⟨q3,?_⟩⟩
  ·rcases lk with⟨k1,_⟩ | ⟨_,c,hc,ic⟩
   ·rcases hkx with z | z<;>(rw[z] at k1;cases k1)
   ·obtain⟨c',hc'⟩:=zaf7 X.env.cells scope.names [] x q2 ⟨c,hc⟩
    have:=hsubc _ _ hc'
    rw[hc] at this
    cases this
    exact⟨c,hc',ic.keeps hk⟩
 ·obtain⟨v,hv⟩:=I.cell x c (hsubc x c h)
  exact⟨v,hv.keeps hk⟩
 ·rw[clr_len,I.len]
  exact hN.len.symm
end
end IP
end
section
set_option Elab.async false
set_option linter.all false
set_option maxRecDepth 100000
namespace IP
open PySem PySem.Spec L2
section
variable {G:Gx} {w:Wo} {H H₀:Hp}
mutual
theorem Rep.upd {a:Addr} {xs ys:List V} (ha:H a=some (.lst xs)) (hz:¬w.Z a):∀(t:T) (v:V),Rep G w H t v→Rep G w (L2.upd H a (.lst ys)) t v
 | .non,v,h=>h
 | .bl b,v,h=>h
 | .int i,v,h=>h
 | .str x,v,h=>h
 | .tup ts,v,⟨p,vs,e,h,r⟩=>⟨p,vs,e,by rw[upd_ne (ne_of h ha (by intro z;cases z))];exact h,Reps.upd ha hz ts vs r⟩
 | .lst ts,v,⟨p,vs,e,z,h,r⟩=>by
  have ne:p≠a:=fun q=>hz (q▸z)
  refine⟨p,vs,e,z,?_,Reps.upd ha hz ts vs r⟩
  rcases h with h | ⟨o,h⟩
  ·exact .inl (by rw[upd_ne ne];exact h)
  ·exact .inr ⟨o,by rw[upd_ne ne];exact h⟩
 | .loc l,v,h=>h
 | .exc c,v,⟨p,e,h⟩=>⟨p,e,by rw[upd_ne (ne_of h ha (by intro z;cases z))];exact h⟩
theorem Reps.upd {a:Addr} {xs ys:List V} (ha:H a=some (.lst xs)) (hz:¬w.Z a):∀(ts:List T) (vs:List V),Reps G w H ts vs→Reps G w (L2.upd H a (.lst ys)) ts vs
 | [],vs,h=>h
 | t::ts,vs,⟨v,r,e,h,q⟩=>⟨v,r,e,Rep.upd ha hz t v h,Reps.upd ha hz ts r q⟩
end
mutual
theorem Rep.zmono {w':Wo} (hn:w'.n=w.n) (hio:w'.io=w.io) (hz:∀a,w.Z a→w'.Z a):∀(t:T) (v:V),Rep G w H t v→Rep G w' H t v
 | .non,v,h=>h
 | .bl b,v,h=>h
 | .int i,v,h=>h
 | .str x,v,h=>h
 | .tup ts,v,⟨p,vs,e,h,r⟩=>⟨p,vs,e,h,Reps.zmono hn hio hz ts vs r⟩
 | .lst ts,v,⟨p,vs,e,z,h,r⟩=>⟨p,vs,e,hz _ z,h,Reps.zmono hn hio hz ts vs r⟩
 | .loc l,v,⟨h,e⟩=>⟨by rw[hn];exact h,by rw[hio];exact e⟩
 | .exc c,v,h=>h
theorem Reps.zmono {w':Wo} (hn:w'.n=w.n) (hio:w'.io=w.io) (hz:∀a,w.Z a→w'.Z a):∀(ts:List T) (vs:List V),Reps G w H ts vs→Reps G w' H ts vs
 | [],vs,h=>h
 | t::ts,vs,⟨v,r,e,h,q⟩=>⟨v,r,e,Rep.zmono hn hio hz t v h,Reps.zmono hn hio hz ts r q⟩
end
theorem StoOk.upd {s:Sto} {a:Addr} {xs ys:List V} (S:StoOk G w H s) (ha:H a=some (.lst xs)) (hz:¬w.Z a) (hl:IP.notLoc w a):StoOk G w (L2.upd H a (.lst ys)) s where
 len:=S.len
 inj:=S.inj
 nz:=S.nz
 cell:=fun l c e=>by
  have h:l < w.n:=by rw[← S.len];exact(List.getElem?_eq_some_iff.mp e).1
  have q:=S.cell l c e
  have ne:w.io l≠a:=fun z=>hl l h z.symm
  cases c with
  | lst ts=>obtain⟨vs,q1,q2⟩:=q;exact⟨vs,by rw[upd_ne ne];exact q1,Reps.upd ha hz ts vs q2⟩
  | ins c fs=>obtain⟨dx,kvs,q1,q2,q3⟩:=q;exact⟨dx,kvs,by rw[upd_ne ne];exact q1,q2,fun i x t h1 h2=>let ⟨v,z1,z2⟩:=q3 i x t h1 h2;⟨v,z1,Rep.upd ha hz t v z2⟩⟩
  | tbl k p q'=>obtain⟨q0,ps,q1,q2,q3⟩:=q;exact⟨q0,ps,by rw[upd_ne ne];exact q1,q2,fun cv hcv=>let ⟨c,e1,e2⟩:=q3 cv hcv;⟨c,e1,by rw[upd_ne (ne_of e2 ha (by intro z;cases z))];exact e2⟩⟩
 zt:=fun p z=>by
  obtain⟨vs,r⟩:=S.zt p z
  have ne:p≠a:=fun q=>hz (q▸z)
  rcases r with r | ⟨o,r⟩
  ·exact⟨vs,.inl (by rw[upd_ne ne];exact r)⟩
  ·exact⟨vs,.inr ⟨o,by rw[upd_ne ne];exact r⟩⟩
theorem StoOk.addZ {s:Sto} {a:Addr} {xs:List V} (S:StoOk G w H s) (ha:H a=some (.lst xs)) (hl:IP.notLoc w a):StoOk G (w.addZ a) H s where
 len:=S.len
 inj:=S.inj
 nz:=fun l h z=>z.elim (S.nz l h) fun q=>hl l h q.symm
 cell:=fun l c e=>by
  have q:=S.cell l c e
  cases c with
  | lst ts=>obtain⟨vs,q1,q2⟩:=q;exact⟨vs,q1,Reps.zmono (w:=w) (w':=w.addZ a) rfl rfl (fun _ z=>.inl z) ts vs q2⟩
  | ins c fs=>obtain⟨dx,kvs,q1,q2,q3⟩:=q;exact⟨dx,kvs,q1,q2,fun i x t h1 h2=>let ⟨v,z1,z2⟩:=q3 i x t h1 h2;⟨v,z1,Rep.zmono (w:=w) (w':=w.addZ a) rfl rfl (fun _ z=>.inl z) t v z2⟩⟩
  | tbl k p q'=>exact q
 zt:=fun p z=>z.elim (S.zt p) fun q=>⟨xs,.inl (by rw[q];exact ha)⟩
theorem Le.updNew {w':Wo} {H':Hp} {a:Addr} {o:HO} (L:Le w w' H H') (ha:H a=none) (hs:H' a≠none):Le w w' H (L2.upd H' a o) where
 n:=L.n
 io:=L.io
 Z:=L.Z
 keep:=fun p q e nl=>by rw[upd_ne (zacc e ha)];exact L.keep p q e nl
 newL:=L.newL
 newZ:=L.newZ
 some_:=fun p z=>by
  by_cases e:p=a
  ·subst e;exact absurd ha z
  ·rw[upd_ne e];exact L.some_ p z
theorem Le.addZ {w':Wo} {H':Hp} {a:Addr} (L:Le w w' H H') (ha:H a=none):Le w (w'.addZ a) H H' where
 n:=L.n
 io:=L.io
 Z:=fun p z=>.inl (L.Z p z)
 keep:=L.keep
 newL:=L.newL
 newZ:=fun p z=>z.elim (L.newZ p) fun q=>.inr (q▸ha)
 some_:=L.some_
theorem want_o {X:Cx} {σV:St} {res:Res R} {Q:VK} (hv:∀r s,res=.ok r s→∃ts,r=.val (.lst ts)) (h:Want G X σV w H res Q):WantO G X σV w H res Q:=by
 cases res with
 | stuck=>exact h
 | exc c s=>exact h
 | ok r s=>
  obtain⟨ts,rfl⟩:=hv r s rfl
  intro w' H' a vs L S ha r hn nz nl
  exact h (w'.addZ a) H' (.ref a) (L.addZ hn) (S.addZ ha nl) ⟨a,vs,rfl,.inr rfl,.inl ha,Reps.zmono (w:=w') (w':=w'.addZ a) rfl rfl (fun _ z=>.inl z) ts vs r⟩
theorem FrOk.put {σ:Fr} {σV:St} {i:Nat} {t:T} {v:V} (F:FrOk G w H H₀ σ σV) (r:Rep G w H t v):FrOk G w H H₀ (put σ i t) (σV.set i (some v)) where
 len:=by unfold IP.put;simp[F.len]
 val:=fun j u e=>by
  unfold IP.put at e
  by_cases hj:i=j
  ·subst hj
   have hlt:i < σ.length:=by
    have:=(List.getElem?_eq_some_iff.mp e).1
    simpa using this
   rw[List.getElem?_set_self hlt] at e
   cases e
   exact⟨v,by rw[List.getElem?_set_self (by rw[← F.len];exact hlt)],r⟩
  ·rw[List.getElem?_set_ne hj] at e
   obtain⟨x,h1,h2⟩:=F.val j u e
   exact⟨x,by rw[List.getElem?_set_ne hj];exact h1,h2⟩
 own:=fun j b ts e eb=>by
  unfold IP.put at e
  by_cases hj:i=j
  ·subst hj
   have hlt:i < σ.length:=by
    have:=(List.getElem?_eq_some_iff.mp e).1
    simpa using this
   rw[List.getElem?_set_self hlt] at e
   cases e
   cases eb
  ·rw[List.getElem?_set_ne hj] at e
   obtain⟨a,vs,h1,h2⟩:=F.own j b ts e eb
   exact⟨a,vs,by rw[List.getElem?_set_ne hj];exact h1,h2⟩
 apart:=fun j k b c ts us a hjk e1 eb e2 ec e3 e4=>by
  unfold IP.put at e1 e2
  have nj:i≠j:=fun q=>by
   subst q
   have hlt:i < σ.length:=by
    have:=(List.getElem?_eq_some_iff.mp e1).1
    simpa using this
   rw[List.getElem?_set_self hlt] at e1
   cases e1
   cases eb
  have nk:i≠k:=fun q=>by
   subst q
   have hlt:i < σ.length:=by
    have:=(List.getElem?_eq_some_iff.mp e2).1
    simpa using this
   rw[List.getElem?_set_self hlt] at e2
   cases e2
   cases ec
  rw[List.getElem?_set_ne nj] at e1 e3
  rw[List.getElem?_set_ne nk] at e2 e4
  exact F.apart j k b c ts us a hjk e1 eb e2 ec e3 e4
 bor:=fun j ts e=>by
  unfold IP.put at e
  by_cases hj:i=j
  ·subst hj
   have hlt:i < σ.length:=by
    have:=(List.getElem?_eq_some_iff.mp e).1
    simpa using this
   rw[List.getElem?_set_self hlt] at e
   cases e
  ·rw[List.getElem?_set_ne hj] at e
   obtain⟨a,vs,h1,h2⟩:=F.bor j ts e
   exact⟨a,vs,by rw[List.getElem?_set_ne hj];exact h1,h2⟩
def setsV (σV:St):List Nat→List V→St
 | [],_=>σV
 | _,[]=>σV
 | i::is,v::vs=>setsV (σV.set i (some v)) is vs
theorem zaeg:∀(is:List Nat) (vs:List V) (σV:St),(setsV σV is vs).length=σV.length
 | [],_,σV=>rfl
 | i::is,[],σV=>rfl
 | i::is,v::vs,σV=>by show(setsV (σV.set i (some v)) is vs).length=_;rw[zaeg is vs];simp
theorem FrOk.puts:∀{is:List Nat} {ts:List T} {vs:List V} {σ σ':Fr} {σV:St},FrOk G w H H₀ σ σV→Reps G w H ts vs→IP.puts σ is ts=some σ'→FrOk G w H H₀ σ' (setsV σV is vs)
 | [],[],vs,σ,σ',σV,F,r,h=>by cases h;exact F
 | [],_::_,vs,σ,σ',σV,F,r,h=>by cases h
 | _::_,[],vs,σ,σ',σV,F,r,h=>by cases h
 | i::is,t::ts,_,σ,σ',σV,F,⟨v,r,e,h1,h2⟩,h=>by
  subst e
  have z:=FrOk.puts (is:=is) (ts:=ts) (vs:=r) (σ':=σ') (F.put (i:=i) h1) h2 h
  exact z
theorem set_comm' {σV:St} {i j:Nat} {x y:Option V} (h:i≠j):(σV.set i x).set j y=(σV.set j y).set i x:=List.set_comm x y h
theorem zaew {σV:St} {j:Nat} {x:Option V}:∀{js:List Nat},j∉js→clr (σV.set j x) js=(clr σV js).set j x
 | [],_=>rfl
 | k::js,h=>by
  show clr ((σV.set j x).set k none) js=(clr (σV.set k none) js).set j x
  rw[set_comm' (fun q=>h (by simp[q]))]
  exact zaew (σV:=σV.set k none) fun q=>h (List.mem_cons_of_mem _ q)
theorem zaeh:∀{js:List Nat} {vs:List V} {σV:St},js.Nodup→js.length=vs.length→setsV (clr σV js) js vs=setsV σV js vs
 | [],[],σV,_,_=>rfl
 | j::js,v::vs,σV,hn,hl=>by
  obtain⟨h1,h2⟩:=List.nodup_cons.mp hn
  show setsV ((clr (σV.set j none) js).set j (some v)) js vs=setsV (σV.set j (some v)) js vs
  rw[zaew h1,List.set_set,← zaew h1]
  exact zaeh h2 (by simpa using hl)
 | j::js,[],σV,hn,hl=>by simp at hl
 | [],_::_,σV,hn,hl=>by simp at hl
end
end IP
end
section
set_option Elab.async false
set_option linter.all false
set_option maxRecDepth 100000
namespace IP
open PySem PySem.Spec L2
section
variable {prog:Program} {w:World} {A:Around} {E:Value→Shared→Prop} {s:Shared}
end
section
variable {X:Cx}
end
end IP
end
section
set_option Elab.async false
set_option linter.all false
set_option maxRecDepth 100000
namespace IP
open PySem PySem.Spec L2
inductive Src where
 | l (a:Addr) (vs:List V) | t (a:Addr) (vs:List V) | r (lo:Int) (n:Nat)
def itOf (K:PySem.W.Frag):Src→It
 | .l a _=>Itl K a
 | .t a _=>Itt K a
 | .r lo n=>Itr lo n
def SrcOk (G:Gx) (w:Wo) (H:Hp) (z:Bool):Src→List T→Prop
 | .l a vs,ts=>Rd H a (.lst vs)∧Reps G w H ts vs∧notLoc w a∧(z=true→w.Z a)
 | .t a vs,ts=>H a=some (.tup vs)∧Reps G w H ts vs
 | .r lo n,ts=>ts=(List.range n).map (fun(k:Nat)=>T.int (lo+k))∧n≤sizeLine
section
variable {G:Gx} {X:Cx} {C:Cf} {w w':Wo} {H H':Hp}
theorem Rd.some {a:Addr} {u:HO} (r:Rd H a u):H a≠none:=by
 rcases r with r | ⟨o,r⟩<;>(rw[r];intro z;cases z)
theorem SrcOk.mono {z:Bool} {s:Sto} (L:Le w w' H H') (S:StoOk G w H s):∀{src:Src} {ts:List T},SrcOk G w H z src ts→SrcOk G w' H' z src ts
 | .l a vs,ts,⟨h1,h2,h3,h4⟩=>⟨Rd.keep L h3 h1,Reps.mono L S ts vs h2,notLoc.mono L (Rd.some h1) h3,fun q=>L.Z a (h4 q)⟩
 | .t a vs,ts,⟨h1,h2⟩=>⟨L.keep _ _ h1 (S.notLoc h1 (fun _ z=>by cases z) fun _ _ _ z=>by cases z),Reps.mono L S ts vs h2⟩
 | .r lo n,ts,h=>h
def SrcNow (G:Gx) (w:Wo) (H:Hp):Src→List T→Prop
 | .l a _,ts=>∃vs,Rd H a (.lst vs)∧Reps G w H ts vs
 | .t a vs,ts=>H a=some (.tup vs)∧Reps G w H ts vs
 | .r lo n,ts=>ts=(List.range n).map (fun(k:Nat)=>T.int (lo+k))∧n≤sizeLine
theorem SrcOk.now {z:Bool}:∀{src:Src} {ts:List T},SrcOk G w H z src ts→SrcNow G w H src ts
 | .l _ vs,_,h=>⟨vs,h.1,h.2.1⟩
 | .t _ _,_,h=>h
 | .r _ _,_,h=>h
theorem SrcNow.go:∀{src:Src} {ts:List T} {K:PySem.W.Frag} {i:Nat} {t:T},SrcNow G w H src ts→ts[i]?=some t→(itOf K src).go i H∧∀x H',(itOf K src).yld i H x H'→H'=H∧Rep G w H t x
 | .l a _,ts,K,i,t,⟨vs,h1,h2⟩,e=>by
  obtain⟨v,e1,r⟩:=h2.get e
  refine⟨⟨vs,v,.inl h1,e1⟩,fun x H' ⟨q1,q2⟩=>⟨q1,?_⟩⟩
  have:=q2 vs (.inl h1)
  rw[e1] at this
  cases this
  exact r
 | .t a vs,ts,K,i,t,⟨h1,h2⟩,e=>by
  obtain⟨v,e1,r⟩:=h2.get e
  refine⟨⟨vs,v,SqT.of h1,e1⟩,fun x H' ⟨q1,q2⟩=>⟨q1,?_⟩⟩
  have:=q2 vs (SqT.of h1)
  rw[e1] at this
  cases this
  exact r
 | .r lo n,ts,K,i,t,⟨h1,_⟩,e=>by
  subst h1
  rw[List.getElem?_map] at e
  obtain⟨k,hk,rfl⟩:=map_some e
  obtain⟨hi,hk⟩:=List.getElem?_eq_some_iff.mp hk
  simp at hi hk
  subst hk
  refine⟨hi,fun x H' ⟨q1,q2⟩=>⟨q1,?_⟩⟩
  rw[q2]
  exact rfl
theorem SrcNow.stop:∀{src:Src} {ts:List T} {K:PySem.W.Frag},SrcNow G w H src ts→(itOf K src).stop ts.length H
 | .l a _,ts,K,⟨vs,h1,h2⟩=>⟨vs,.inl h1,by rw[h2.length];exact Nat.le_refl _⟩
 | .t a vs,ts,K,⟨h1,h2⟩=>⟨vs,SqT.of h1,by rw[h2.length];exact Nat.le_refl _⟩
 | .r lo n,ts,K,⟨h1,_⟩=>by subst h1;show n≤_;simp
theorem SrcNow.small {pins:List (Addr×Obj)} {σ:St} {s:Shared} (I:Inv X pins σ H s):∀{src:Src} {ts:List T},SrcNow G w H src ts→ts.length≤sizeLine
 | .l a _,ts,⟨vs,h1,h2⟩=>by rw[h2.length];exact(Rd.lst I h1).1
 | .t a vs,ts,⟨h1,h2⟩=>by
  rw[h2.length]
  exact(I.hok a _ h1).1
 | .r lo n,ts,⟨h1,h2⟩=>by subst h1;simpa using h2
theorem SrcOk.go {z:Bool} {src:Src} {ts:List T} {K:PySem.W.Frag} {i:Nat} {t:T} (h:SrcOk G w H z src ts) (e:ts[i]?=some t):(itOf K src).go i H∧∀x H',(itOf K src).yld i H x H'→H'=H∧Rep G w H t x:=h.now.go e
theorem SrcOk.stop {z:Bool} {src:Src} {ts:List T} {K:PySem.W.Frag} (h:SrcOk G w H z src ts):(itOf K src).stop ts.length H:=h.now.stop
theorem SrcOk.small {z:Bool} {pins:List (Addr×Obj)} {σ:St} {s:Shared} (I:Inv X pins σ H s) {src:Src} {ts:List T} (h:SrcOk G w H z src ts):ts.length≤sizeLine:=h.now.small I
def WantI (G:Gx) (X:Cx) (σV:St) (w:Wo) (H:Hp) (z:Bool) (res:Res R) (Q:It→Hp→Prop):Prop:=match res with
 | .ok (.val (.lst ts)) s'=>∀w' H' src,Le w w' H H'→StoOk G w' H' s'→SrcOk G w' H' z src ts→Q (itOf X.K src) H'
 | .exc c s'=>∀w' H' pins u sh,Le w w' H H'→StoOk G w' H' s'→Thrown G X pins σV H' c u sh→X.xe u sh
 | _=>False
def tI (G:Gx) (X:Cx) (C:Cf) (e:E) (m:Md) (z:Bool):TI:=fun σV H R=>∃w₀ H₀ w σ s,Good G w₀ H₀ w H σ s σV∧WantI G X σV w H z (ev C e m σ s) R
theorem PI.imp {tg e:Expr} {t t':TI} (h:PI X tg e t) (q:∀σ H R,t' σ H R→t σ H R):PI X tg e t':=fun pins s σ H R I z=>h pins s σ H R I (q _ _ _ z)
theorem pi_seq {tg l:Expr} {tl:TE} (hl:PE X l tl):PI X tg l (fun σ H R=>tl σ H fun x H1=>∃a,x=.ref a∧((∃xs,Rd H1 a (.lst xs)∧R (Itl X.K a) H1)∨∃xs,H1 a=some (.tup xs)∧R (Itt X.K a) H1)):=by
 intro pins s σ H R I h
 refine thn (hl pins s σ H _ I h) fun v s1 ⟨x,H1,I1,r1,q1⟩=>?_
 obtain⟨a,e,q⟩:=q1
 subst e
 cases r1
 have hf:∀b∈[s1.heap.objs.size],FpOk X pins H1 b:=fun b hb=>by
  have e:b=s1.heap.objs.size:=by simpa using hb
  subst e
  exact I1.fpOk (Nat.le_refl _) (I1.hok.fresh (Nat.le_refl _))
 rcases q with⟨xs,hq,q⟩ | ⟨xs,hq,q⟩
 ·obtain⟨its,rv,p⟩:=zabp I1 hq
  refine wpAny_pyIter_list p ?_
  exact⟨s1.heap.objs.size,[s1.heap.objs.size],_,_,H1,rfl,I1.kept (t':=s1.toks) fun b o e=>Heap.get?_push_of_some _ e,turn_list a _,⟨_,Heap.get?_push_size _ rfl,rfl,rfl⟩,hf,q⟩
 ·obtain⟨its,rv,p⟩:=zaa9 I1 hq
  refine wpAny_pyIter_tuple p ?_
  exact⟨s1.heap.objs.size,[s1.heap.objs.size],_,_,H1,rfl,I1.kept (t':=s1.toks) fun b o e=>Heap.get?_push_of_some _ e,zagb a _,⟨_,Heap.get?_push_size _ rfl,rfl,rfl⟩,hf,q⟩
theorem zae4 {tg e:Expr} {e':E} {m:Md} {z:Bool} (hE:PE X e (tV G X C e')) (hm:m=.i∧z=false∨m=.j∧z=true)
  (hev:∀σ s,ev C e' m σ s=fin m (ev C e' .v σ s)):PI X tg e (tI G X C e' m z):=by
 refine PI.imp (pi_seq hE) ?_
 rintro σV H R ⟨w₀,H₀,w,σ,s,g,h⟩
 rw[hev] at h
 refine⟨w₀,H₀,w,σ,s,g,?_⟩
 cases he:ev C e' .v σ s with
 | stuck=>rw[he] at h;rcases hm with⟨rfl,rfl⟩ | ⟨rfl,rfl⟩<;>exact h
 | exc c s1=>rw[he] at h;rcases hm with⟨rfl,rfl⟩ | ⟨rfl,rfl⟩<;>exact h
 | ok x s1=>
  rw[he] at h
  intro w1 H1 v L1 S1 R1
  match x,R1 with
  | .val (.lst ts),⟨a,vs,e,hz,hr,rp⟩=>
   subst e
   refine⟨a,rfl,.inl ⟨vs,hr,?_⟩⟩
   rcases hm with⟨rfl,rfl⟩ | ⟨rfl,rfl⟩<;>exact h w1 H1 (.l a vs) L1 S1 ⟨hr,rp,S1.zLoc hz,fun _=>hz⟩
  | .val (.tup ts),⟨a,vs,e,hr,rp⟩=>
   subst e
   refine⟨a,rfl,.inr ⟨vs,hr,?_⟩⟩
   rcases hm with⟨rfl,rfl⟩ | ⟨rfl,rfl⟩<;>exact h w1 H1 (.t a vs) L1 S1 ⟨hr,rp⟩
  | .bor ts,⟨a,vs,e,hr,rp,nl⟩=>
   subst e
   rcases hm with⟨rfl,rfl⟩ | ⟨rfl,rfl⟩
   ·exact⟨a,rfl,.inl ⟨vs,.inl hr,h w1 H1 (.l a vs) L1 S1 ⟨.inl hr,rp,nl,fun z=>by cases z⟩⟩⟩
   ·exact h.elim
  | .val .non,_=>rcases hm with⟨rfl,rfl⟩ | ⟨rfl,rfl⟩<;>exact h.elim
  | .val (.bl _),_=>rcases hm with⟨rfl,rfl⟩ | ⟨rfl,rfl⟩<;>exact h.elim
  | .val (.int _),_=>rcases hm with⟨rfl,rfl⟩ | ⟨rfl,rfl⟩<;>exact h.elim
  | .val (.str _),_=>rcases hm with⟨rfl,rfl⟩ | ⟨rfl,rfl⟩<;>exact h.elim
  | .val (.loc _),_=>rcases hm with⟨rfl,rfl⟩ | ⟨rfl,rfl⟩<;>exact h.elim
  | .val (.exc _),_=>rcases hm with⟨rfl,rfl⟩ | ⟨rfl,rfl⟩<;>exact h.elim
theorem bnd_of {i:Int} (h:bnd i=true):-(2^62)≤i∧i < 2^62:=by
 unfold bnd at h
 rw[Bool.and_eq_true,decide_eq_true_iff,decide_eq_true_iff] at h
 exact h
theorem lim_le:lim≤sizeLine:=by decide
theorem sI_rng1 {tg a:Expr} {a':E} {p pos:Pos} {m:Md} {z:Bool} (hm:m=.i∨m=.j) (hg:Gl X "range") (hmg:X.mg "range"=none) (ha:PE X a (tV G X C a')) (hs:starEach [a] X.env=[(false,eval a X.env)]):PI X tg (.Call (.Name "range" p) [a] [] pos) (tI G X C (.rng1 a') m z):=by
 refine PI.imp (pi_range1 hg hmg (zaa4 ha pa_nil hs) hs) ?_
 rintro σV H R ⟨w₀,H₀,w,σ,s,g,h⟩
 have h:WantI G X σV w H z ((ev C a' .v σ s).bind fun x s1=>onI x fun j=>if bnd j&&decide (j≤lim) then .ok (.val (.lst (rangeT 0 j))) s1 else .stuck) R:=by rcases hm with rfl | rfl<;>exact h
 refine⟨w₀,H₀,w,σ,s,g,?_⟩
 cases he:ev C a' .v σ s with
 | stuck=>rw[he] at h;exact h
 | exc c s1=>rw[he] at h;exact h
 | ok x s1=>
  rw[he] at h
  intro w1 H1 v L1 S1 R1
  match x,R1,h with
  | .val (.int j),R1,h=>
   cases R1
   have h:WantI G X σV w H z (if bnd j&&decide (j≤lim) then .ok (.val (.lst (rangeT 0 j))) s1 else .stuck) R:=h
   split at h
   ·rename_i hb
    rw[Bool.and_eq_true,decide_eq_true_iff] at hb
    refine⟨j,rfl,(bnd_of hb.1).1,(bnd_of hb.1).2,?_⟩
    refine h w1 H1 (.r 0 j.toNat) L1 S1 ⟨?_,?_⟩
    ·unfold rangeT;simp
    ·have:=lim_le;omega
   ·exact h.elim
  | .val .non,_,h=>exact h.elim
  | .val (.bl _),_,h=>exact h.elim
  | .val (.str _),_,h=>exact h.elim
  | .val (.tup _),_,h=>exact h.elim
  | .val (.lst _),_,h=>exact h.elim
  | .val (.loc _),_,h=>exact h.elim
  | .val (.exc _),_,h=>exact h.elim
  | .bor _,_,h=>exact h.elim
def slots:Tg→List Nat
 | .one i=>[i]
 | .many is=>is
def gTg (G:Gx) (g:Tg):TG:=fun v σV H Q=>∃w s t σ σ',StoOk G w H s∧Rep G w H t v∧bindTg σ g t=some σ'∧∀vs,(∀H₀ σV',FrOk G w H H₀ σ σV'→FrOk G w H H₀ σ' (setsV σV' (slots g) vs))→vs.length=(slots g).length→Q (setsV σV (slots g) vs) H
theorem PG.imp {tg:Expr} {t t':TG} (h:PG X tg t) (q:∀v σ H Q,t' v σ H Q→t v σ H Q):PG X tg t':=fun pins s σ H v u Q I r z=>h pins s σ H v u Q I r (q _ _ _ _ z)
theorem sG_one {i:Nat} {x:Str} {pos:Pos} (hN:X.N.Nodup) (hi:X.N[i]?=some x) (hx:Loc X.env.scope x) (hf:X.fn x=true∨X.env.scope.names.lookup x=some .local):PG X (.Name x pos) (gTg G (.one i)):=by
 refine PG.imp (pg_name hN hi hx hf) ?_
 rintro v σV H Q ⟨w,s,t,σ,σ',S,r,e,q⟩
 cases e
 exact q [v] (fun H₀ σV' F=>F.put r) rfl
theorem PGs.imp {ts:List Expr} {t t':TGs} (h:PGs X ts t) (q:∀v σ H Q,t' v σ H Q→t v σ H Q):PGs X ts t':=fun pins s σ H v u Q I r z=>h pins s σ H v u Q I r (q _ _ _ _ z)
end
end IP
end
section
set_option Elab.async false
set_option linter.all false
set_option maxRecDepth 100000
namespace IP
open PySem PySem.Spec L2
theorem zaan {h:Heap} {as:List Addr} {b:Addr} {o:Obj}:(PySem.W.hideAll h as).get? b=some o↔h.get? b=some o∧b∉as:=by
 refine⟨fun e=>⟨PySem.W.of_hideAll as e,fun z=>?_⟩,fun⟨e,n⟩=>PySem.W.hideAll_get as e n⟩
 rw[PySem.W.hideAll_none as z] at e
 cases e
section
variable {G:Gx} {X:Cx} {pins:List (Addr×Obj)} {σV:St} {H:Hp} {c:Nat} {u:Value} {sh:Shared}
theorem fun_cov {base h B:Heap} {as:List Addr} (hc:∀b o,B.get? b=some o→b∉as):∀{l:List Env},h.FunFrames base l→(∀b∈frs l,b∈as)→h.FunFrames B l
 | [],_,_=>trivial
 | env::l,⟨hk,⟨L,o,hf,_,ho,hd⟩,hr⟩,hin=>by
  have hL:L∈as:=hin L (by unfold frs;rw[List.filterMap_cons,hf];exact List.mem_cons_self)
  refine⟨hk,⟨L,o,hf,?_,ho,hd⟩,fun_cov hc hr fun b hb=>hin b ?_⟩
  ·cases q:B.get? L with
   | none=>rfl
   | some z=>exact absurd hL (hc L z q)
  ·unfold frs
   rw[List.filterMap_cons,hf]
   exact List.mem_cons_of_mem _ hb
theorem Flt.next {stack:List Env} {base h B h1 h2:Heap} {e:Addr} (F:Flt stack h B e h1) (hf:h.FunFrames base stack) (st:B.StaysIn h2) (sm:h1.UpToSlots h2):Flt stack h B e h2 where
 cov:=F.cov
 keep:=fun b o q n=>st b o ((F.cov b o).mpr ⟨q,n⟩)
 slot:=fun b o q n=>by
  obtain⟨sl,e1⟩:=F.slot b o q n
  obtain⟨_,o',ho',hd⟩:=hf.mem n
  rw[q] at ho'
  cases ho'
  obtain⟨sl',e2⟩:=sm b _ e1 hd
  exact⟨sl',e2⟩
 new:=F.new
theorem note_made {M:Model} {A:Around} {E:Value→Shared→Prop} {s:Shared} {B h:Heap} {env:Env} {outer:List Env} {L e:Addr} {cls:Value} {args:List Value} {Q:Unit→Shared→Prop}
  (hfr:A.frames=some (env::outer)) (hf:env.frame=some L) (hkb:B.StaysIn h) (hl:h.FunFrames B (env::outer)) (hx:Heap.MadeExcOf h s.heap e cls args)
  (hQ:∀h' t,Heap.HeldW B (env::outer) e cls t L h'→s.heap.UpToSlots h'→Q () { s with heap:=h' }):wpAny M A (noteFrame (.ref e) env) Q E s:=by
 obtain⟨t,he,htn,ht⟩:=hx.there
 have hen:B.get? e=none:=by
  cases hq:B.get? e with
  | none=>rfl
  | some o'=>have:=hkb e o' hq;rw[hx.new] at this;cases this
 unfold noteFrame
 simp only[hf]
 refine wpAny_bind (wpAny_field (x:=.none) he rfl rfl ?_)
 rw[if_neg (by decide)]
 refine wpAny_entryW (a0:=.ref t) hfr (hl.of_keeps fun b o hb _=>⟨o,hx.keeps b o hb,rfl⟩) hf he (fun b o hb=>hx.keeps b o (hkb b o hb)) hen rfl (by simp) rfl fun h' hN=>?_
 obtain⟨k1,k2,k3,k4⟩:=hN
 exact hQ h' (.ref t) ⟨k1,hen,k2,k3⟩ k4
def HasFr (X:Cx):Prop:=∃env0 outer0 L,X.stack=env0::outer0∧env0.frame=some L∧X.env.frame=some L
theorem zadt {e:Value} {env env':Env} (h:env.frame=env'.frame):noteFrame e env=noteFrame e env':=by
 unfold noteFrame frameOf
 rw[h]
theorem note_any {M:Model} {A:Around} {E:Value→Shared→Prop} {s:Shared} {base:Heap} {env:Env} {outer:List Env} {L e:Addr} {cls a0 fl:Value} {Q:Unit→Shared→Prop}
  (hfr:A.frames=some (env::outer)) (hf:env.frame=some L) (hh:HeldV base (env::outer) e cls a0 fl s.heap)
  (hQ:∀h',Heap.HeldW base (env::outer) e cls a0 L h'→s.heap.UpToSlots h'→Q () { s with heap:=h' }):wpAny M A (noteFrame (.ref e) env) Q E s:=by
 obtain⟨hkb,hen,hl,oe,vs,T,oT,ts,he,⟨hcls,h0⟩,hd,h1,hnT,hTe,hT,hdT,h3⟩:=hh
 by_cases hq:fl=rawInt L
 ·subst hq
  exact wpAny_noteFrame_againW hf ⟨oe,vs,T,oT,ts,he,⟨hcls,h0⟩,hd,h1,hnT,hTe,hT,hdT,h3⟩ (hQ s.heap ⟨hkb,hen,hl,oe,vs,T,oT,ts,he,⟨hcls,h0⟩,hd,h1,hnT,hTe,hT,hdT,h3⟩ (.refl _))
 ·have other:∀b,b≠T→(s.heap.update T (Obj.mapFields (·.setIfInBounds 3 Value.none))).get? b=s.heap.get? b:=fun b hb=>Heap.get?_update_other _ _ (Ne.symm hb)
  have nor:∀b o,s.heap.get? b=some o→(∀vs,o.data≠.fields vs)→b≠T:=fun b o hb hnf q=>by
   rw[q,hT] at hb;cases hb;exact hnf ts hdT
  subst hcls
  unfold noteFrame
  simp only[hf]
  refine wpAny_bind (wpAny_field he hd h1 ?_)
  rw[if_pos (show(Value.ref T != Value.none)=true from by simp)]
  refine wpAny_bind (wpAny_field hT hdT h3 ?_)
  rw[if_neg (show ¬((fl==rawInt L)=true) from fun z=>hq (by simpa using z))]
  refine wpAny_bind (wpAny_setField hT hdT (Array.getElem?_eq_some_iff.mp h3).1 ?_)
  refine wpAny_entryW hfr (hl.of_keeps fun b o hb hnf=>⟨o,(other b (nor b o hb hnf)).trans hb,rfl⟩) hf ((other e (Ne.symm hTe)).trans he)
   (fun b o hbo=>(other b fun q=>by rw[q,hnT] at hbo;cases hbo).trans (hkb b o hbo)) hen hd (Array.getElem?_eq_some_iff.mp h1).1 h0
   fun h' ⟨x1,x2,x3,x4⟩=>hQ h' ⟨x1,hen,x2,x3⟩ fun b o hb hnf=>x4 b o ((other b (nor b o hb hnf)).trans hb) hnf
theorem zab8 {E:Value→Shared→Prop} {Q:Unit→Shared→Prop} (hst:HasFr X) (T:Thrown G X pins σV H c u sh)
  (hQ:∀e h B h' t L,u=.ref e→Inv X pins σV H { sh with heap:=h }→Flt X.stack h B e h'→X.base.StaysIn B→Heap.HeldW B X.stack e (.ref (G.cA c)) t L h'→Q () { sh with heap:=h' }):
  wpAny (model X.prog X.w) X.A (noteFrame u X.env) Q E sh:=by
 obtain⟨env0,outer0,L,e1,e2,e3⟩:=hst
 rw[zadt (e3.trans e2.symm)]
 obtain⟨e,h,B,rfl,I,F,sb,T⟩:=T
 have hff:h.FunFrames X.base X.stack:=I.stack
 have hfr:X.A.frames=some (env0::outer0):=by rw[I.ok.frames,e1]
 have fB:h.FunFrames B X.stack:=fun_cov (fun b o q=>((F.cov b o).mp q).2) hff fun _ z=>z
 have land:∀(h1:Heap) (t:Value),Heap.HeldW B (env0::outer0) e (.ref (G.cA c)) t L h1→sh.heap.UpToSlots h1→Q () { sh with heap:=h1 }:=fun h1 t hh sm=>by
  rw[← e1] at hh
  exact hQ e h B h1 t L rfl I (F.next hff hh.1 sm) sb hh
 rw[e1] at T fB
 rcases T with⟨args,hm⟩ | ⟨t,hf⟩ | ⟨t,fl,hh⟩
 ·exact note_made hfr e2 (fun b o q=>((F.cov b o).mp q).1) fB hm fun h1 t hh sm=>land h1 t hh sm
 ·exact wpAny_looks_onW hfr e2 hf fun h1 hh sm=>land h1 t hh sm
 ·exact note_any hfr e2 hh fun h1 hh sm=>land h1 t hh sm
theorem zae1 {base h B h2:Heap} {as:List Addr} (hc:∀b o,B.get? b=some o→b∉as) (hm:∀b∈as,∀o,h.get? b=some o→(∀vs,o.data≠.fields vs)→h2.get? b=some o):
  ∀{l:List Env},h.FunFrames base l→(∀b∈frs l,b∈as)→h2.FunFrames B l
 | [],_,_=>trivial
 | env::l,⟨hk,⟨L,o,hf,_,ho,hd⟩,hr⟩,hin=>by
  have hL:L∈as:=hin L (by unfold frs;rw[List.filterMap_cons,hf];exact List.mem_cons_self)
  refine⟨hk,⟨L,o,hf,?_,hm L hL o ho hd,hd⟩,zae1 hc hm hr fun b hb=>hin b ?_⟩
  ·cases q:B.get? L with
   | none=>rfl
   | some z=>exact absurd hL (hc L z q)
  ·unfold frs
   rw[List.filterMap_cons,hf]
   exact List.mem_cons_of_mem _ hb
theorem zaeo {E:Value→Shared→Prop} {X:Cx} {pins:List (Addr×Obj)} {σV:St} {e A L:Addr} {h B h1 h':Heap} {t:Value} {what:String} {cenv:Env} (I:Inv X pins σV H { sh with heap:=h }) (fA:FpOk X pins H A) (hA:∀o,X.base.get? A≠some o) (F:Flt X.stack h B e h1) (sb:X.base.StaysIn B)
  (hh:Heap.HeldW B X.stack e (.ref (G.cA c)) t L h1) (nsA:∃o,h1.get? A=some o∧∀vs,o.data≠.fields vs) (hs:Heap.SameBut A h1 h') (hx:∀sh',Thrown G X pins σV H c (.ref e) sh'→E (.ref e) sh'):
  wpAny (model X.prog X.w) X.A (passOn what (.ref e) cenv:Sem Value) (fun _ _=>False) E { sh with heap:=h' }:=by
 obtain⟨hkb,hen,hl,oe,vs,T,oT,ts,he,⟨hcls,h0⟩,hd,h1',hnT,hTe,hT,hdT,h3⟩:=hh
 obtain⟨oA,hoA,hAd⟩:=nsA
 have eA:e≠A:=fun z=>by rw[z,hoA] at he;cases he;exact hAd _ hd
 have TA:T≠A:=fun z=>by rw[z,hoA] at hT;cases hT;exact hAd _ hdT
 have Afr:A∉frs X.stack:=fun z=>by
  rcases List.mem_cons.mp (I.stkSub A z) with z | z
  ·exact fA.2.1 z
  ·exact fA.2.2.1 z
 have he':h'.get? e=some oe:=(hs.2 e eA).trans he
 have hT':h'.get? T=some oT:=(hs.2 T TA).trans hT
 have hsz3:3 < ts.size:=(Array.getElem?_eq_some_iff.mp h3).1
 unfold passOn
 refine wpAny_bind (wpAny_field he' hd h1' ?_)
 rw[if_neg (show ¬((Value.ref T==Value.none)=true) from by simp)]
 refine wpAny_bind ?_
 unfold setFlight
 refine wpAny_bind (wpAny_field he' hd h1' ?_)
 rw[if_pos (show(Value.ref T != Value.none)=true from by simp)]
 generalize (cenv.frame.elim Value.none fun f=>rawInt f)=fl
 refine wpAny_setField hT' hdT hsz3 (wpAny_throw (hx _ ?_))
 have other:∀b,b≠T→(h'.update T (Obj.mapFields (·.setIfInBounds 3 fl))).get? b=h'.get? b:=fun b hb=>Heap.get?_update_other _ _ (Ne.symm hb)
 have bT:∀b o,B.get? b=some o→b≠T:=fun b o q z=>by rw[z,hnT] at q;cases q
 have fT:∀b∈frs X.stack,b≠T:=fun b hb z=>by
  obtain⟨_,o,ho,hnf⟩:=hl.mem hb
  rw[z,hT] at ho;cases ho;exact hnf _ hdT
 refine⟨e,PySem.W.hideAll h [A],PySem.W.hideAll B [A],rfl,?_,⟨fun b o=>?_,fun b o q n=>?_,fun b o q n=>?_,?_⟩,fun b o q=>zaan.mpr ⟨sb b o q,fun z=>?_⟩,.inr (.inr ⟨t,fl,fun b o q=>?_,?_,?_,?_⟩)⟩
 ·exact I.turned (t':=sh.toks) (fun b o ne q=>zaan.mpr ⟨q,by simpa using ne⟩) fA.1 fA.2.1 fA.2.2.2.1 fA.2.2.2.2.1 fA.2.2.2.2.2
 ·rw[zaan,zaan,F.cov b o]
  exact⟨fun⟨⟨a,y⟩,z⟩=>⟨⟨a,z⟩,y⟩,fun⟨⟨a,z⟩,y⟩=>⟨⟨a,y⟩,z⟩⟩
 ·obtain⟨a,y⟩:=zaan.mp q
  have y:b≠A:=by simpa using y
  exact(other b (bT b o ((F.cov b o).mpr ⟨a,n⟩))).trans ((hs.2 b y).trans (F.keep b o a n))
 ·obtain⟨a,y⟩:=zaan.mp q
  have y:b≠A:=by simpa using y
  obtain⟨sl,z⟩:=F.slot b o a n
  exact⟨sl,(other b (fT b n)).trans ((hs.2 b y).trans z)⟩
 ·cases q:(PySem.W.hideAll h [A]).get? e with
  | none=>rfl
  | some o=>have:=(zaan.mp q).1;rw[F.new] at this;cases this
 ·have z:b=A:=by simpa using z
  subst z
  exact hA o q
 ·obtain⟨a,y⟩:=zaan.mp q
  have y:b≠A:=by simpa using y
  exact(other b (bT b o a)).trans ((hs.2 b y).trans (hkb b o a))
 ·cases q:(PySem.W.hideAll B [A]).get? e with
  | none=>rfl
  | some o=>have:=(zaan.mp q).1;rw[hen] at this;cases this
 ·refine zae1 (as:=frs X.stack) (fun b o q=>((F.cov b o).mp (zaan.mp q).1).2) (fun b hb o q _=>(other b (fT b hb)).trans ((hs.2 b fun z=>Afr (z▸hb)).trans q)) hl fun _ z=>z
 ·refine⟨oe,vs,T,_,_,(other e (Ne.symm hTe)).trans he',⟨hcls,h0⟩,hd,h1',?_,hTe,Heap.get?_update_self _ hT' (Obj.isFreed_of_fields (Obj.data_mapFields hdT _)),Obj.data_mapFields hdT _,by simp[hsz3]⟩
  cases q:(PySem.W.hideAll B [A]).get? T with
  | none=>rfl
  | some o=>have:=(zaan.mp q).1;rw[hnT] at this;cases this
end
end IP
end
section
set_option Elab.async false
set_option linter.all false
set_option maxRecDepth 100000
namespace IP
open PySem PySem.Spec L2
section
variable {G:Gx} {X:Cx} {C:Cf}
def RepO (G:Gx) (w:Wo) (H:Hp):Option T→Option V→Prop
 | some t,some v=>Rep G w H t v
 | none,none=>True
 | _,_=>False
def WantT (G:Gx) (X:Cx) (σV:St) (w:Wo) (H:Hp) (r:Res (Option T)) (Q:Option V→Hp→Prop):Prop:=match r with
 | .stuck=>False
 | .ok o s'=>∀w1 H1 vo,Le w w1 H H1→StoOk G w1 H1 s'→RepO G w1 H1 o vo→Q vo H1
 | .exc c s'=>∀w' H' pins u sh,Le w w' H H'→StoOk G w' H' s'→Thrown G X pins σV H' c u sh→X.xe u sh
def Turned (G:Gx) (X:Cx) (ifs:List Expr) (elt:Expr) (f:Fr→Sto→Res (Option T)):Prop:=
 ∀(pins:List (Addr×Obj)) (s:Shared) (σV:St) (H:Hp) (w₀:Wo) (H₀:Hp) (w:Wo) (σ:Fr) (st:Sto) (Q:Option V→Hp→Prop),Inv X pins σV H s→Good G w₀ H₀ w H σ st σV→WantT G X σV w H (f σ st) Q→
  wpAny (model X.prog X.w) X.A (forIn ifs true fun c r=>if r=true then do let ok ← isTrue c X.env (eval c X.env);pure (ForInStep.yield ok) else pure (ForInStep.yield r))
   (fun ok s3=>if ok=true then wpAny (model X.prog X.w) X.A (eval elt X.env) (fun u s4=>∃v H4,Inv X pins σV H4 s4∧RelV v u∧Q (some v) H4) X.xe s3 else ∃H3,Inv X pins σV H3 s3∧Q none H3) X.xe s
def Gives (G:Gx) (X:Cx) (σV:St) (w:Wo) (H:Hp) (Q:VK) (acc:List T) (r:Res (List T)):Prop:=match r with
 | .ok rest st'=>∀w' H' a vs,Le w w' H H'→StoOk G w' H' st'→H' a=some (.lst vs)→Reps G w' H' (acc++rest) vs→H a=none→¬w'.Z a→notLoc w' a→Q (.ref a) H'
 | .exc c st'=>∀w' H' pins u sh,Le w w' H H'→StoOk G w' H' st'→Thrown G X pins σV H' c u sh→X.xe u sh
 | .stuck=>False
theorem zabm {σV:St} {w:Wo} {H:Hp} {Q:VK} {acc:List T} {f:T→Sto→Res (Option T)} {t:T} {ts:List T} {s:Sto} (h:Gives G X σV w H Q acc (mapRes f (t::ts) s)):
  (∃o s1,f t s=.ok o s1∧Gives G X σV w H Q (acc++consO o []) (mapRes f ts s1))∨∃c s1,f t s=.exc c s1∧∀w' H' pins u sh,Le w w' H H'→StoOk G w' H' s1→Thrown G X pins σV H' c u sh→X.xe u sh:=by
 unfold mapRes at h
 cases hf:f t s with
 | stuck=>rw[hf] at h;exact h.elim
 | exc c s1=>rw[hf] at h;exact .inr ⟨c,s1,rfl,h⟩
 | ok o s1=>
  rw[hf] at h
  refine .inl ⟨o,s1,rfl,?_⟩
  have h:Gives G X σV w H Q acc ((mapRes f ts s1).bind fun q s2=>Res.ok (consO o q) s2):=h
  cases hm:mapRes f ts s1 with
  | stuck=>rw[hm] at h;exact h
  | exc c s2=>rw[hm] at h;exact h
  | ok r s2=>
   rw[hm] at h
   intro w' H' a vs h1 h2 h3 h4
   refine h w' H' a vs h1 h2 h3 ?_
   cases o<;>simpa [consO] using h4
theorem zab6 {α β:Type} {o:Option α} {f:α→Res β} {c:Nat} {s:Sto} (h:onO o f=.exc c s):∃a,o=some a∧f a=.exc c s:=by
 cases o with
 | none=>cases h
 | some a=>exact⟨a,rfl,h⟩
theorem onO_ok {α β:Type} {o:Option α} {f:α→Res β} {b:β} {s:Sto} (h:onO o f=.ok b s):∃a,o=some a∧f a=.ok b s:=by
 cases o with
 | none=>cases h
 | some a=>exact⟨a,rfl,h⟩
variable {elt iter tg:Expr} {ifs:List Expr} {scope:Scope} {pos:Pos} {it' ce:E} {g:Tg} {N':List Str} {f:Fr→Sto→Res (Option T)}
theorem appended {pins:List (Addr×Obj)} {σ:St} {H:Hp} {s:Shared} {D:Addr} {xs:List V} {v:V} {u:Value} {Y:Cx} {E:Value→Shared→Prop} {Q:Shared→Prop} (I:Inv Y pins σ H s) (r:RelV v u) (hD:H D=some (.lst xs)) (hl:xs.length < sizeLine)
  (q:∀s',Inv Y pins σ (upd H D (.lst (xs++[v]))) s'→Q s'):wpAny (model Y.prog Y.w) Y.A (call (.builtin "list.append") [.ref D,u]) (fun _ s'=>Q s') E s:=by
 have z:=zacx (X:=Y.wish E) pins s σ H (.ref D) [v] (.ref D) [u] (fun _ H'=>H'=upd H D (.lst (xs++[v]))) (I.wish E) rfl (.cons r .nil) ⟨D,xs,v,rfl,rfl,hD,hl,rfl⟩
 refine thn z fun u' s' ⟨_,H',I',_,e⟩=>?_
 subst e
 exact q s' I'.unwish
theorem zad6:∀{js:List Nat} {vs:List V} {σV:St} {i:Nat},i∉js→(setsV σV js vs)[i]?=σV[i]?
 | [],vs,σV,i,_=>by cases vs<;>rfl
 | j::js,[],σV,i,_=>rfl
 | j::js,v::vs,σV,i,h=>by
  show(setsV (σV.set j (some v)) js vs)[i]?=_
  rw[zad6 fun q=>h (List.mem_cons_of_mem _ q),List.getElem?_set_ne fun q=>h (by simp[q])]
def SrcGives (G:Gx) (X:Cx) (g:Tg) (f:Fr→Sto→Res (Option T)) (σ:Fr) (σV:St) (w:Wo) (H:Hp) (Q:VK) (J:It) (H2:Hp):Prop:=
 ∃(w2:Wo) (src:Src) (ts:List T) (st2:Sto) (K:Sto→Prop) (kp:Res (Option T)→Res (Option T)),Le w w2 H H2∧StoOk G w2 H2 st2∧J=itOf X.K src∧(∀w' H' s',Le w2 w' H2 H'→StoOk G w' H' s'→K s'→SrcNow G w' H' src ts)∧K st2∧(∀r,(∀o s',kp r=.ok o s'→r=.ok o s'∧K s')∧∀c s',kp r=.exc c s'→r=.exc c s')∧
  Gives G X σV w H Q [] (mapRes (fun t s=>onO (bindTg σ g t) fun σ'=>kp (f σ' s)) ts st2)
theorem zadm (hfr:HasFr X) (hc:X.calm=true) (hN:CompN X scope N' (slots g)) (hnd:(slots g).Nodup) {tx:TI} (hI:PI X tg iter tx)
  (hG:∀A fp s2 H2 xe,PG (cxC X N' scope A fp s2 H2 xe) tg (gTg G g)) (hE:∀A fp s2 H2 xe,Turned G (cxC X N' scope A fp s2 H2 xe) ifs elt f) (hs:∀x,foldedSetIterable iter X.env x=pure x)
  {pins:List (Addr×Obj)} {s:Shared} {σV:St} {H:Hp} {w₀ w:Wo} {H₀:Hp} {σ:Fr} {st:Sto} {Q:VK} (I:Inv X pins σV H s) (gd:Good G w₀ H₀ w H σ st σV)
  (hsrc:tx σV H (SrcGives G X g f σ σV w H Q))
  {use:Option (Value→Sem Unit)} {Q':Value→Shared→Prop}
  (hfin:∀(s':Shared) (Hc:Hp) (A D:Addr),Inv X pins σV Hc s'→FpOk X pins Hc A→(∃m,s'.heap.Ns A m)→Q (.ref D) Hc→compPost (model X.prog X.w) X.A X.xe use Q' (.ref D) A (.ok .next) s'):
  wpAny (model X.prog X.w) X.A (comprehension (.ListComp elt [⟨tg,iter,ifs,0⟩] scope pos) scope X.env (firstIterPos [⟨tg,iter,ifs,0⟩] pos) (newList []) false (eval iter X.env) use) Q' X.xe s:=by
 have hfree:∀x∈scope.names,x.2=.free→∃c,X.env.cells.lookup x.1=some c:=fun x hx hf=>I.ok.has x.1 (hN.free x hx hf)
 refine wpAny_comprehension_free (use:=use) rfl hs (zafh scope X.env hfree) hN.kind hN.locs (thn (hI pins s σV H _ I hsrc) fun xv s1 h1=>thn h1 fun itv s2 h2=>?_)
 obtain⟨it,fp,tn,J,H2,rfl,I2,T,st2,f2,w2,src,ts,stc,KK,kp,L2,S2,rfl,now,hK,hkp,hm⟩:=h2
 have ho2:∀b∈fp,∃o,s2.heap.get? b=some o:=fun b hb=>let ⟨o,e,_⟩:=T.obj _ _ st2 b hb;⟨o,e⟩
 refine wpAny_newObj_type (wpAny_newFunctionEnv hN.nocell (by intro y hy;simp at hy) (fun h₁ hns₁ hsb₁=>?_) hN.kind)
 have hns₁:h₁.Ns (s2.heap.push { cls:=.type "list",data:=.seq ([]:List Value).toArray }).objs.size (fun _=>none):=hns₁
 have hfD:H2 s2.heap.objs.size=none:=I2.hok.fresh (Nat.le_refl _)
 generalize hD:s2.heap.objs.size=D at hfD
 have I3:Inv X pins σV (upd H2 D (.lst [])) { s2 with heap:=s2.heap.push { cls:=.type "list",data:=.seq ([]:List Value).toArray } }:=by
  rw[← hD]
  exact I2.lnew (its:=[]) (t':=s2.toks) .nil (Nat.zero_le _)
 generalize hs3:({ s2 with heap:=s2.heap.push { cls:=.type "list",data:=.seq ([]:List Value).toArray } }:Shared)=s3 at I3
 have k3:∀b o,s2.heap.get? b=some o→s3.heap.get? b=some o:=fun b o e=>by rw[← hs3];exact Heap.get?_push_of_some _ e
 have fpD:∀b∈fp,b≠D:=fun b hb=>by
  obtain⟨o,e⟩:=ho2 b hb
  rw[← hD]
  exact Nat.ne_of_lt (Heap.lt_size e)
 have f3:∀b∈fp,FpOk X pins (upd H2 D (.lst [])) b:=fun b hb=>⟨by rw[upd_ne (fpD b hb)];exact(f2 b hb).1,(f2 b hb).2⟩
 have ho3:∀b∈fp,∃o,s3.heap.get? b=some o:=fun b hb=>let ⟨o,e⟩:=ho2 b hb;⟨o,k3 b o e⟩
 have e3:(s2.heap.push { cls:=.type "list",data:=.seq ([]:List Value).toArray })=s3.heap:=by rw[← hs3]
 rw[e3] at hns₁ hsb₁
 have k4:∀b o,s3.heap.get? b=some o→h₁.get? b=some o:=fun b o e=>hsb₁.extBut b o (Nat.ne_of_lt (Heap.lt_size e)) (Heap.get?_push_of_some _ e)
 obtain⟨XE,hXE⟩:∃XE:Addr→Value→Shared→Prop,XE=fun A=>notedBy (model X.prog X.w) X.A (compEnvC scope (clo X.env.cells scope.names []) A X.env) fun e s'=>compPost (model X.prog X.w) X.A X.xe use Q' (.ref D) A (.error e) s':=⟨_,rfl⟩
 have I4:Inv (cxC X N' scope s3.heap.objs.size fp s3 (upd H2 D (.lst [])) (XE s3.heap.objs.size)) [] (clr σV (slots g)) (upd H2 D (.lst [])) { s3 with heap:=h₁,toks:=s3.toks+([]:List (Str×Value)).length }:=cxC_inv hN I3 f3 ho3 hns₁ k4
 have tn4:tn 0 h₁:=T.keep _ _ _ st2 fun b hb o e=>k4 b o (k3 b o e)
 generalize hA:s3.heap.objs.size=A at I4 hns₁ hsb₁
 have hAD:D≠A:=by
  rw[← hA,← hs3]
  show D≠(s2.heap.push _).objs.size
  rw[Heap.size_push,hD]
  exact Nat.ne_of_lt (Nat.lt_succ_self _)
 generalize hY:cxC X N' scope A fp s3 (upd H2 D (.lst [])) (XE A)=Y at I4
 have eP:Y.prog=X.prog:=by rw[← hY];rfl
 have eW:Y.w=X.w:=by rw[← hY];rfl
 have eK:Y.K=X.K:=by rw[← hY];rfl
 have eA:Y.A=X.A:=by rw[← hY];rfl
 have eC:Y.calm=true:=by rw[← hY];exact hc
 have eL:Y.env.locals=A:=by rw[← hY];rfl
 have eS:Y.stack=X.stack:=by rw[← hY];rfl
 have eB:Y.base=X.base:=by rw[← hY];rfl
 have eF:Y.env.frame=X.env.frame:=by rw[← hY];rfl
 have eN:Y.env=compEnvC scope (clo X.env.cells scope.names []) A X.env:=by rw[← hY];rfl
 have stat:∀{H':Hp},(∀b∈fp,H' b=none)→∀b∈fp,FpOk Y [] H' b:=fun {H'} hn b hb=>by
  obtain⟨f0,f1,fx,fy,fz,fw⟩:=f2 b hb
  subst hY
  refine⟨hn b hb,?_,?_,.inl hb,fun x c e=>fz x c (zafz X.env.cells scope.names [] (fun x c z=>by simp at z) x c e),fun p hp=>absurd (show p∈([]:List (Addr×Obj)) from hp) (by simp)⟩
  ·show b≠A
   obtain⟨o,e⟩:=ho3 b hb
   rw[← hA]
   exact Nat.ne_of_lt (Heap.lt_size e)
  ·intro hm
   rcases List.mem_cons.mp (I2.stkSub b hm) with z | z
   ·exact f1 z
   ·exact fx z
 have eX:Y.xe=notedBy (model X.prog X.w) X.A Y.env fun e s'=>compPost (model X.prog X.w) X.A X.xe use Q' (.ref D) A (.error e) s':=by rw[eN,← hY];show XE A=_;rw[hXE]
 have hGY:PG Y tg (gTg G g):=by rw[← hY];exact hG A fp s3 _ _
 have hEY:Turned G Y ifs elt f:=by rw[← hY];exact hE A fp s3 _ _
 have back:∀{pins':List (Addr×Obj)} {σ':St} {Hc:Hp} {s':Shared},Inv Y pins' σ' Hc s'→Inv X pins σV Hc s'∧FpOk X pins Hc A:=fun {pins' σ' Hc s'} Ic=>by
  have un:Un (frs X.stack) fp (upd H2 D (.lst [])) Hc s3.heap s'.heap:=by
   have:=Ic.base
   subst hY
   exact this
  have hcA:Hc A=none:=by have:=Ic.free;rw[eL] at this;exact this
  have hok:HOk X.prog X.w Hc s'.heap:=by rw[← eP,← eW];exact Ic.hok
  have os:s'.os=s3.os:=by have:=Ic.os;subst hY;exact this
  exact⟨I3.call' (s':=s') (ch:=fp) os un hok Ic.bare fun b hb=>⟨(f2 b hb).2.2.2.1,(f2 b hb).2.1,(f2 b hb).2.2.2.2.1,(f2 b hb).2.2.2.2.2⟩,
   by rw[← hA];exact I3.fpOk (Nat.le_refl _) (by rw[hA];exact hcA)⟩
 have hHD:H D=none:=by
  cases e:H D with
  | none=>rfl
  | some o=>exact absurd hfD (L2.some_ D (by rw[e];intro z;cases z))
 have leave:∀{pins':List (Addr×Obj)} {σ':St} {Hc:Hp} {c:Nat} {u:Value} {sh:Shared},Thrown G Y pins' σ' Hc c u sh→(∀sh',Thrown G X pins σV Hc c u sh'→X.xe u sh')→Y.xe u sh:=fun {pins' σ' Hc c u sh} Th hx=>by
  rw[eX]
  obtain⟨env0,outer0,L0,q1,q2,q3⟩:=hfr
  have z:=zab8 (X:=Y) (E:=fun e s'=>compPost (model X.prog X.w) X.A X.xe use Q' (.ref D) A (.error e) s') (Q:=fun _ s''=>compPost (model X.prog X.w) X.A X.xe use Q' (.ref D) A (.error u) s'') ⟨env0,outer0,L0,eS.trans q1,q2,eF.trans q3⟩ Th fun e h B h1 t L eu I F sb hh=>?_
  ·rw[eP,eW,eA] at z
   exact z
  ·subst eu
   rw[eS] at F hh
   rw[eB] at sb
   obtain⟨IX,fA⟩:=back I
   obtain⟨m,⟨o,es,ep,ho,hd,r⟩,_⟩:=I.loc
   rw[eL] at ho
   have Afr:A∉frs X.stack:=fun z=>by
    rcases List.mem_cons.mp (IX.stkSub A z) with z | z
    ·exact fA.2.1 z
    ·exact fA.2.2.1 z
   have hA1:=F.keep A o ho Afr
   have hAb:∀o,X.base.get? A≠some o:=fun o q=>by
    have:=Heap.lt_size (I3.bk A o q)
    rw[hA] at this
    exact absurd this (Nat.lt_irrefl _)
   have hns:h1.Ns A m:=⟨o,es,ep,hA1,hd,r⟩
   have fin:∀h',Heap.SameBut A h1 h'→∀cenv:Env,cenv.locals=A→wpAny (model X.prog X.w) X.A (passOn "comprehension.variables-let-go" (.ref e) cenv:Sem Value) (fun _ _=>False) X.xe { sh with heap:=h' }:=fun h' hs cenv _=>
    zaeo IX fA hAb F sb hh ⟨o,hA1,fun vs q=>by rw[hd] at q;cases q⟩ hs hx
   cases use<;>exact⟨m,hns,fin⟩
 have loop:∀s4:Shared,s4={ s3 with heap:=h₁,toks:=s3.toks+([]:List (Str×Value)).length }→
   codeAny (model X.prog X.w) X.A (.compLoop (.ListComp elt [⟨tg,iter,ifs,0⟩] scope pos) 0 (.ref it) (.ref D) Y.env) (compPost (model X.prog X.w) X.A X.xe use Q' (.ref D) A) s4:=by
  rintro s4 rfl
  refine codeAny_loop rfl (fun n s'=>∃(i:Nat) (Hc:Hp) (wc:Wo) (stc':Sto) (accT:List IP.T) (accV:List V),n=ts.length - i∧i≤ts.length∧Inv Y [] (clr σV (slots g)) Hc s'∧tn i s'.heap∧(∀b∈fp,Hc b=none)∧
    Le w2 wc H2 Hc∧StoOk G wc Hc stc'∧Hc D=some (.lst accV)∧Reps G wc Hc accT accV∧¬wc.Z D∧notLoc wc D∧accT.length≤i∧
    KK stc'∧Gives G X σV w H Q accT (mapRes (fun t s=>onO (bindTg σ g t) fun σ'=>kp (f σ' s)) (ts.drop i) stc')) ?_ ts.length
   ⟨0,upd H2 D (.lst []),w2,stc,[],[],rfl,Nat.zero_le _,I4,tn4,fun b hb=>by rw[upd_ne (fpD b hb)];exact(f2 b hb).1,Le.new hfD _,S2.new hfD _,zaaq,rfl,(S2.fresh hfD).1,(S2.fresh hfD).2,Nat.le_refl _,hK,hm⟩
  rintro n s' ⟨i,Hc,wc,stc',accT,accV,hn,hi,Ic,tc,fc,Lc,Sc,hDc,rc,nz,nl,hal,hKc,hmr⟩
  have SOc:SrcNow G wc Hc src ts:=now wc Hc stc' Lc Sc hKc
  show wpAny _ X.A ((compTurn (.ListComp elt [⟨tg,iter,ifs,0⟩] scope pos) 0 (.ref it) (.ref D) Y.env).onRaise (fun x=>do noteFrame x Y.env;theTreesLotGoes x)) _ _ s'
  refine wpAny_noted ?_
  rw[compTurn_list]
  refine wpAny_bind (wpAny_standAt (wpAny_bind ?_))
  by_cases hlt:i < ts.length
  ·have et:ts[i]?=some ts[i]:=List.getElem?_eq_getElem hlt
   have ed:ts.drop i=ts[i]::ts.drop (i+1):=List.drop_eq_getElem_cons hlt
   rw[ed] at hmr
   obtain⟨σ',hb⟩:∃σ',bindTg σ g ts[i]=some σ':=by
    rcases zabm hmr with⟨o,s1,q,_⟩ | ⟨c,s1,q,_⟩
    ·obtain⟨a,q,_⟩:=onO_ok q;exact⟨a,q⟩
    ·obtain⟨a,q,_⟩:=zab6 q;exact⟨a,q⟩
   obtain⟨go,yld⟩:=SOc.go (K:=X.K) et
   have z:=T.item Y eP eW eK eC i [] s' (clr σV (slots g)) Hc (notedBy (model X.prog X.w) X.A Y.env fun e s'=>compPost (model X.prog X.w) X.A X.xe use Q' (.ref D) A (.error e) s') Ic (stat fc) tc go
   rw[eA] at z
   refine thn z fun r s5 ⟨u,hr,h5⟩=>?_
   subst hr
   refine wpAny_bind (thn h5 fun _ s6 ⟨x,H6,I6,r6,y6,t6,f6⟩=>?_)
   have rx:=(yld x H6 y6).2
   obtain rfl:Hc=H6:=(yld x H6 y6).1.symm
   have I6':=I6.pinned (stat f6) (T.obj _ _ t6)
   have hgd:Good G w₀ H₀ wc Hc σ stc' σV:=(gd.step L2 S2).step Lc Sc
   have zg:=hGY _ s6 (clr σV (slots g)) Hc x u (fun σ7 H7=>H7=Hc∧∃vs,σ7=setsV σV (slots g) vs∧FrOk G wc Hc H₀ σ' (setsV σV (slots g) vs)) I6' r6
    ⟨wc,stc',ts[i],σ,σ',Sc,rx,hb,fun vs hfr hl=>⟨rfl,vs,zaeh hnd hl.symm,hfr H₀ σV hgd.fr⟩⟩
   rw[eP,eW,eA] at zg
   rw[eX] at zg
   refine wpAny_bind (thn zg fun _ s7 ⟨σ7,H7,I7,eH7,vs,e7,F7⟩=>?_)
   obtain rfl:Hc=H7:=eH7.symm
   subst e7
   have okc:∀o st1,f σ' stc'=.ok o st1→KK st1∧Gives G X σV w H Q (accT++consO o []) (mapRes (fun t s=>onO (bindTg σ g t) fun σ'=>kp (f σ' s)) (ts.drop (i+1)) st1):=fun o st1 e=>by
    rcases zabm hmr with⟨o2,s2,q,h⟩ | ⟨c,s2,q,_⟩
    ·obtain⟨a,q1,q2⟩:=onO_ok q
     rw[hb] at q1;cases q1
     obtain⟨q3,q4⟩:=(hkp _).1 _ _ q2
     rw[e] at q3;cases q3
     exact⟨q4,h⟩
    ·obtain⟨a,q1,q2⟩:=zab6 q
     rw[hb] at q1;cases q1
     have q3:=(hkp _).2 _ _ q2
     rw[e] at q3;cases q3
   have zt:=hEY _ s7 _ Hc w₀ H₀ wc σ' stc' (fun vo H8=>∃w8 o st1,f σ' stc'=.ok o st1∧Le wc w8 Hc H8∧StoOk G w8 H8 st1∧RepO G w8 H8 o vo) I7 ⟨Sc,F7,hgd.ent⟩ (by
    cases hf:f σ' stc' with
    | ok o st1=>exact fun w8 H8 vo L8 S8 R8=>⟨w8,o,st1,rfl,L8,S8,R8⟩
    | stuck=>
     rcases zabm hmr with⟨o2,s2,q,h⟩ | ⟨c,s2,q,_⟩
     ·obtain⟨a,q1,q2⟩:=onO_ok q
      rw[hb] at q1;cases q1
      have:=((hkp _).1 _ _ q2).1
      rw[hf] at this;cases this
     ·obtain⟨a,q1,q2⟩:=zab6 q
      rw[hb] at q1;cases q1
      have:=(hkp _).2 _ _ q2
      rw[hf] at this;cases this
    | exc c s1=>
     rcases zabm hmr with⟨o2,s2,q,h⟩ | ⟨c,s2,q,h⟩
     ·obtain⟨a,q1,q2⟩:=onO_ok q
      rw[hb] at q1;cases q1
      have:=((hkp _).1 _ _ q2).1
      rw[hf] at this;cases this
     ·obtain⟨a,q1,q2⟩:=zab6 q
      rw[hb] at q1;cases q1
      have:=(hkp _).2 _ _ q2
      rw[hf] at this;cases this
      exact fun w8 H8 pins8 u8 sh8 L8 S8 T8=>leave T8 fun sh'=>h w8 H8 pins u8 sh' (L2.trans (Lc.trans L8)) S8)
   rw[eP,eW,eA,eX] at zt
   have next:∀(st1:Sto) (s8:Shared) (H8:Hp) (w8:Wo) (accT':List IP.T) (accV':List V),KK st1→Inv Y ([]++pinsAt fp s6.heap) (setsV σV (slots g) vs) H8 s8→Le w2 w8 H2 H8→StoOk G w8 H8 st1→H8 D=some (.lst accV')→Reps G w8 H8 accT' accV'→¬w8.Z D→notLoc w8 D→accT'.length≤i+1→Gives G X σV w H Q accT' (mapRes (fun t s=>onO (bindTg σ g t) fun σ'=>kp (f σ' s)) (ts.drop (i+1)) st1)→
     ∃m,m < n∧∃(i:Nat) (Hc:Hp) (wc:Wo) (stc':Sto) (accT:List IP.T) (accV:List V),m=ts.length - i∧i≤ts.length∧Inv Y [] (clr σV (slots g)) Hc s8∧tn i s8.heap∧(∀b∈fp,Hc b=none)∧
      Le w2 wc H2 Hc∧StoOk G wc Hc stc'∧Hc D=some (.lst accV)∧Reps G wc Hc accT accV∧¬wc.Z D∧notLoc wc D∧accT.length≤i∧
      KK stc'∧Gives G X σV w H Q accT (mapRes (fun t s=>onO (bindTg σ g t) fun σ'=>kp (f σ' s)) (ts.drop i) stc'):=by
    intro st1 s8 H8 w8 accT' accV' hK1 I8 L8 S8 hD8 r8 nz8 nl8 hl8 hq8
    have hpin:∀b∈fp,∀o,s6.heap.get? b=some o→s8.heap.get? b=some o∧H8 b=none:=fun b hb o e=>by
     have:=I8.pin (b,o) (List.mem_append_right _ (List.mem_append_right _ (zack hb e)))
     exact⟨this.1,this.2.1⟩
    refine⟨ts.length - (i+1),by omega,i+1,H8,w8,st1,accT',accV',rfl,hlt,?_,T.keep _ _ _ t6 fun b hb o e=>(hpin b hb o e).1,fun b hb=>?_,L8,S8,hD8,r8,nz8,nl8,hl8,hK1,hq8⟩
    ·refine Inv.unpinned (pins:=[]) (pl:=pinsAt fp s6.heap) (I8.weak ?_ fun j v e=>?_)
     ·rw[clr_len,zaeg]
     ·obtain⟨e1,e2⟩:=clr_get _ _ _ _ e
      rw[zad6 e2]
      exact e1
    ·obtain⟨o,e,_⟩:=T.obj _ _ t6 b hb
     exact(hpin b hb o e).2
   refine wpAny_bind (thn zt fun ok s8 h8=>?_)
   have nzD:∀{w8:Wo} {H8:Hp},Le wc w8 Hc H8→¬w8.Z D:=fun L8 z=>by
    rcases L8.newZ D z with z | z
    ·exact nz z
    ·rw[hDc] at z;cases z
   have nlD:∀{w8:Wo} {H8:Hp},Le wc w8 Hc H8→notLoc w8 D:=fun L8=>notLoc.mono L8 (by rw[hDc];intro z;cases z) nl
   cases ok with
   | false=>
    simp only[Bool.false_eq_true,if_false] at h8 ⊢
    obtain⟨H8,I8,w8,o,st1,hfo,L8,S8,R8⟩:=h8
    obtain⟨hK1,hm1⟩:=okc o st1 hfo
    have eo:o=none:=by cases o with | none=>rfl | some t=>exact R8.elim
    subst eo
    rw[zae9,List.append_nil] at hm1
    exact wpAny_pure ⟨rfl,next st1 s8 H8 w8 accT accV hK1 I8 (Lc.trans L8) S8 (L8.keep D _ hDc nl) (Reps.mono L8 Sc _ _ rc) (nzD L8) (nlD L8) (by omega) hm1⟩
   | true=>
    simp only[if_true] at h8 ⊢
    refine wpAny_bind (wpAny_bind (thn h8 fun u9 s9 ⟨v9,H9,I9,r9,w9,o,st1,hfo,L9,S9,R9⟩=>?_))
    obtain⟨hK1,hm1⟩:=okc o st1 hfo
    have eo:∃t9,o=some t9:=by cases o with | none=>exact R9.elim | some t=>exact⟨t,rfl⟩
    obtain⟨t9,rfl⟩:=eo
    have R9:Rep G w9 H9 t9 v9:=R9
    have hD9:=L9.keep D _ hDc nl
    have hlen:accV.length < sizeLine:=by
     rw[← rc.length]
     have:=SOc.small Ic
     omega
    have za:=appended (E:=notedBy (model X.prog X.w) X.A Y.env fun e s'=>compPost (model X.prog X.w) X.A X.xe use Q' (.ref D) A (.error e) s') I9 r9 hD9 hlen fun s10 I10=>
     next st1 s10 _ w9 (accT++[t9]) (accV++[v9]) hK1 I10 ((Lc.trans L9).updNew hfD (by rw[hD9];intro z;cases z)) (S9.upd hD9 (nzD L9) (nlD L9)) zaaq
      (Reps.upd hD9 (nzD L9) _ _ ((Reps.mono L9 Sc _ _ rc).append ⟨v9,[],rfl,R9,rfl⟩)) (nzD L9) (nlD L9) (by rw[List.length_append,List.length_singleton];omega) hm1
    rw[eP,eW,eA] at za
    exact wpAny_bind (thn za fun _ s10 h10=>wpAny_pure (wpAny_pure ⟨rfl,h10⟩))
  ·have ei:i=ts.length:=by omega
   subst ei
   rw[List.drop_length] at hmr
   have hmr:∀w' H' a vs,Le w w' H H'→StoOk G w' H' stc'→H' a=some (.lst vs)→Reps G w' H' (accT++[]) vs→H a=none→¬w'.Z a→notLoc w' a→Q (.ref a) H':=hmr
   rw[List.append_nil] at hmr
   have z:=T.done Y eP eW eK eC ts.length [] s' (clr σV (slots g)) Hc (notedBy (model X.prog X.w) X.A Y.env fun e s'=>compPost (model X.prog X.w) X.A X.xe use Q' (.ref D) A (.error e) s') Ic (stat fc) tc SOc.stop
   rw[eA] at z
   refine thn z fun r s5 ⟨hr,I5⟩=>?_
   subst hr
   obtain⟨m5,hm5,_⟩:=I5.loc
   rw[eL] at hm5
   exact wpAny_pure (hfin s5 Hc A D (back I5).1 (back I5).2 ⟨m5,hm5⟩ (hmr wc Hc D accV (L2.trans Lc) Sc hDc rc hHD nz nl))
 show codeAny (model X.prog X.w) X.A (.compStart (.ListComp elt [⟨tg,iter,ifs,0⟩] scope pos) 0 (.ref it) (.ref D) (compEnvC scope (clo X.env.cells scope.names []) A X.env)) (compPost (model X.prog X.w) X.A X.xe use Q' (.ref D) A) _
 rw[← eN]
 exact codeAny_compStart_list (loop _ rfl) (T.self _ 0 _ _ _ tn4 (loop _ rfl))
theorem comp_core (hfr:HasFr X) (hc:X.calm=true) (hN:CompN X scope N' (slots g)) (hnd:(slots g).Nodup) (hI:PI X tg iter (tI G X C it' .i false))
  (hG:∀A fp s2 H2 xe,PG (cxC X N' scope A fp s2 H2 xe) tg (gTg G g)) (hE:∀A fp s2 H2 xe,Turned G (cxC X N' scope A fp s2 H2 xe) ifs elt f) (hs:∀x,foldedSetIterable iter X.env x=pure x)
  {pins:List (Addr×Obj)} {s:Shared} {σV:St} {H:Hp} {w₀ w:Wo} {H₀:Hp} {σ:Fr} {st:Sto} {Q:VK} (I:Inv X pins σV H s) (gd:Good G w₀ H₀ w H σ st σV)
  (h:WantO G X σV w H ((ev C it' .i σ st).bind fun x s1=>onL x fun ts=>(mapRes (fun t s=>onO (bindTg σ g t) fun σ'=>f σ' s) ts s1).bind fun q s2=>.ok (.val (.lst q)) s2) Q)
  {use:Option (Value→Sem Unit)} {Q':Value→Shared→Prop}
  (hfin:∀(s':Shared) (Hc:Hp) (A D:Addr),Inv X pins σV Hc s'→FpOk X pins Hc A→(∃m,s'.heap.Ns A m)→Q (.ref D) Hc→compPost (model X.prog X.w) X.A X.xe use Q' (.ref D) A (.ok .next) s'):
  wpAny (model X.prog X.w) X.A (comprehension (.ListComp elt [⟨tg,iter,ifs,0⟩] scope pos) scope X.env (firstIterPos [⟨tg,iter,ifs,0⟩] pos) (newList []) false (eval iter X.env) use) Q' X.xe s:=by
 refine zadm hfr hc hN hnd hI hG hE hs I gd ?_ hfin
 refine⟨w₀,H₀,w,σ,st,gd,?_⟩
 cases he:ev C it' .i σ st with
 | stuck=>rw[he] at h;exact h
 | exc c s1=>rw[he] at h;exact h
 | ok x s1=>
  rw[he] at h
  match x,h with
  | .val (.lst ts),h=>
   intro w2 H2 src L S SO
   have h:WantO G X σV w H ((mapRes (fun t s=>onO (bindTg σ g t) fun σ'=>f σ' s) ts s1).bind fun q s2=>.ok (.val (.lst q)) s2) Q:=h
   refine⟨w2,src,ts,s1,fun _=>True,id,L,S,rfl,fun w' H' s' L' _ _=>(SO.mono L' S).now,trivial,fun r=>⟨fun o s' e=>⟨e,trivial⟩,fun c s' e=>e⟩,?_⟩
   cases hm:mapRes (fun t s=>onO (bindTg σ g t) fun σ'=>f σ' s) ts s1 with
   | stuck=>rw[hm] at h;exact h.elim
   | exc c s2=>rw[hm] at h;show Gives G X σV w H Q [] (mapRes (fun t s=>onO (bindTg σ g t) fun σ'=>f σ' s) ts s1);rw[hm];exact h
   | ok q st'=>rw[hm] at h;show Gives G X σV w H Q [] (mapRes (fun t s=>onO (bindTg σ g t) fun σ'=>f σ' s) ts s1);rw[hm];exact h
  | .val .non,h=>exact h.elim
  | .val (.bl _),h=>exact h.elim
  | .val (.int _),h=>exact h.elim
  | .val (.str _),h=>exact h.elim
  | .val (.tup _),h=>exact h.elim
  | .val (.loc _),h=>exact h.elim
  | .val (.exc _),h=>exact h.elim
  | .bor _,h=>exact h.elim
theorem gone {pins:List (Addr×Obj)} {s:Shared} {σV:St} {H:Hp} {A:Addr} {h':Heap} (I:Inv X pins σV H s) (fA:FpOk X pins H A) (sb:Heap.SameBut A s.heap h'):Inv X pins σV H { s with heap:=h' }:=
 I.turned (t':=s.toks) (fun b o ne e=>(sb.2 b ne).trans e) fA.1 fA.2.1 fA.2.2.2.1 fA.2.2.2.2.1 fA.2.2.2.2.2
theorem zabh (hc:X.calm=true) (hN:CompN X scope N' (slots g)) (hnd:(slots g).Nodup) (hI:PI X tg iter (tI G X C it' .i false))
  (hG:∀A fp s2 H2 xe,PG (cxC X N' scope A fp s2 H2 xe) tg (gTg G g)) (hE:∀A fp s2 H2 xe,Turned G (cxC X N' scope A fp s2 H2 xe) ifs elt f) (hs:∀x,foldedSetIterable iter X.env x=pure x)
  (hev:∀σ s,ev C ce .v σ s=(ev C it' .i σ s).bind fun x s1=>onL x fun ts=>(mapRes (fun t s=>onO (bindTg σ g t) fun σ'=>f σ' s) ts s1).bind fun q s2=>.ok (.val (.lst q)) s2) (hfr:HasFr X:=by exact⟨_,_,_,rfl,rfl,rfl⟩):
  PE X (.ListComp elt [⟨tg,iter,ifs,0⟩] scope pos) (tO G X C ce):=by
 rintro pins s σV H Q I ⟨w₀,H₀,w,σ,st,gd,h⟩
 rw[hev] at h
 rw[eval_ListComp]
 refine comp_core hfr hc hN hnd hI hG hE hs I gd h (use:=none) fun s' Hc A D I' fA ⟨m,hm⟩ q=>?_
 exact⟨m,hm,fun h' sb=>⟨.ref D,Hc,gone I' fA sb,rfl,q⟩⟩
theorem zaby {Y:Cx} {elt:Expr} {e':E} (hE:PE Y elt (tV G Y C e')):Turned G Y [] elt (fun σ st=>one (ev C e' .v σ st)):=by
 intro pins s σV H w₀ H₀ w σ st Q I gd hf
 refine wpAny_tests_nil ?_
 rw[if_pos rfl]
 dsimp only at hf
 refine hE pins s σV H (fun v H'=>Q (some v) H') I ⟨w₀,H₀,w,σ,st,gd,?_⟩
 cases he:ev C e' .v σ st with
 | stuck=>rw[he] at hf;exact hf
 | exc c s1=>rw[he] at hf;exact hf
 | ok r s1=>
  rw[he] at hf
  match r,hf with
  | .val t,hf=>exact fun w' H' v L S R=>hf w' H' (some v) L S R
  | .bor ts,hf=>exact hf.elim
end
end IP
end
section
set_option Elab.async false
set_option linter.all false
set_option maxRecDepth 100000
namespace IP
open PySem PySem.Spec L2
def Own (σ:Fr) (σV:St) (a:Addr):Prop:=∃(i:Nat) (ts:List T),σ[i]?=some (some (.own ts))∧σV[i]?=some (some (.ref a))
structure LeS (w w':Wo) (H H':Hp) (σ σ':Fr) (σV σV':St):Prop where
 n:w.n≤w'.n
 io:∀l,l < w.n→w'.io l=w.io l
 Z:∀a,w.Z a→w'.Z a
 keep:∀a o,H a=some o→notLoc w a→¬Own σ σV a→H' a=some o
 newL:∀l,w.n≤l→l < w'.n→H (w'.io l)=none
 some_:∀a,H a≠none→H' a≠none
 own:∀a,Own σ' σV' a→Own σ σV a∨H a=none
 lk:∀(i:Nat) (ts:List T),σ'[i]?=some (some (.lck ts))→(∃us,σ[i]?=some (some (.lck us)))∧σV'[i]?=σV[i]?
section
variable {G:Gx} {X:Cx} {C:Cf} {w w' w₀:Wo} {H H' H₀:Hp} {σ σ':Fr} {σV σV':St}
theorem LeS.refl:LeS w w H H σ σ σV σV:=⟨Nat.le_refl _,fun _ _=>rfl,fun _ z=>z,fun _ _ e _ _=>e,fun l a b=>absurd (Nat.lt_of_lt_of_le b a) (Nat.lt_irrefl _),fun _ z=>z,fun _ z=>.inl z,fun i ts e=>⟨⟨ts,e⟩,rfl⟩⟩
theorem LeS.notLoc (L:LeS w w' H H' σ σ' σV σV') {a:Addr} (h:H a≠none) (nl:IP.notLoc w a):IP.notLoc w' a:=fun l hl q=>by
 by_cases k:l < w.n
 ·exact nl l k (q.trans (L.io l k))
 ·have:=L.newL l (Nat.le_of_not_lt k) hl
  rw[← q] at this
  exact h this
theorem LeS.trans {w2:Wo} {H2:Hp} {σ2:Fr} {σV2:St} (a:LeS w w' H H' σ σ' σV σV') (b:LeS w' w2 H' H2 σ' σ2 σV' σV2):LeS w w2 H H2 σ σ2 σV σV2 where
 n:=Nat.le_trans a.n b.n
 io:=fun l h=>(b.io l (Nat.lt_of_lt_of_le h a.n)).trans (a.io l h)
 Z:=fun x z=>b.Z x (a.Z x z)
 keep:=fun x o e nl no=>by
  have hn:H x≠none:=by rw[e];intro z;cases z
  refine b.keep x o (a.keep x o e nl no) (a.notLoc hn nl) fun z=>?_
  rcases a.own x z with z | z
  ·exact no z
  ·exact hn z
 newL:=fun l h1 h2=>by
  by_cases h:l < w'.n
  ·rw[b.io l h]
   exact a.newL l h1 h
  ·have q:=b.newL l (Nat.le_of_not_lt h) h2
   cases e:H (w2.io l) with
   | none=>rfl
   | some o=>exact absurd q (a.some_ _ (by rw[e];intro z;cases z))
 some_:=fun x z=>b.some_ x (a.some_ x z)
 own:=fun x z=>by
  rcases b.own x z with z | z
  ·exact a.own x z
  ·refine .inr ?_
   cases e:H x with
   | none=>rfl
   | some o=>exact absurd z (a.some_ x (by rw[e];intro q;cases q))
 lk:=fun i ts e=>by
  obtain⟨⟨us,h1⟩,h2⟩:=b.lk i ts e
  obtain⟨h3,h4⟩:=a.lk i us h1
  exact⟨h3,h2.trans h4⟩
theorem LeS.of (L:Le w w' H H'):LeS w w' H H' σ σ σV σV:=⟨L.n,L.io,L.Z,fun a o e nl _=>L.keep a o e nl,L.newL,L.some_,fun _ z=>.inl z,fun i ts e=>⟨⟨ts,e⟩,rfl⟩⟩
structure Kp (w w':Wo) (H H':Hp):Prop where
 n:w.n≤w'.n
 io:∀l,l < w.n→w'.io l=w.io l
 Z:∀a,w.Z a→w'.Z a
 z:∀a u,w.Z a→Rd H a u→Rd H' a u
 t:∀a vs,H a=some (.tup vs)→H' a=some (.tup vs)
 x:∀a φ,H a=some (.ext φ)→H' a=some (.ext φ)
mutual
theorem Rep.kp (L:Kp w w' H H'):∀(t:T) (v:V),Rep G w H t v→Rep G w' H' t v
 | .non,v,h=>h
 | .bl b,v,h=>h
 | .int i,v,h=>h
 | .str x,v,h=>h
 | .tup ts,v,⟨a,vs,e,h,r⟩=>⟨a,vs,e,L.t _ _ h,Reps.kp L ts vs r⟩
 | .lst ts,v,⟨a,vs,e,z,h,r⟩=>⟨a,vs,e,L.Z _ z,L.z _ _ z h,Reps.kp L ts vs r⟩
 | .loc l,v,⟨h,e⟩=>⟨Nat.lt_of_lt_of_le h L.n,by rw[L.io l h];exact e⟩
 | .exc c,v,⟨a,e,h⟩=>⟨a,e,L.x _ _ h⟩
theorem Reps.kp (L:Kp w w' H H'):∀(ts:List T) (vs:List V),Reps G w H ts vs→Reps G w' H' ts vs
 | [],vs,h=>h
 | t::ts,vs,⟨v,r,e,h,q⟩=>⟨v,r,e,Rep.kp L t v h,Reps.kp L ts r q⟩
end
theorem FrOk.notOwnZ (F:FrOk G w H H₀ σ σV) {a:Addr} (z:w.Z a):¬Own σ σV a:=fun⟨i,ts,e1,e2⟩=>by
 obtain⟨b,vs,h1,_,_,_,h5,_⟩:=F.own i _ ts e1 rfl
 rw[e2] at h1
 cases h1
 exact h5 z
theorem FrOk.notOwnT (F:FrOk G w H H₀ σ σV) {a:Addr} {o:HO} (e:H a=some o) (h:∀vs,o≠.lst vs):¬Own σ σV a:=fun⟨i,ts,e1,e2⟩=>by
 obtain⟨b,vs,h1,h2,_⟩:=F.own i _ ts e1 rfl
 rw[e2] at h1
 cases h1
 rw[e] at h2
 exact h vs (Option.some.inj h2)
theorem LeS.kp {s:Sto} (L:LeS w w' H H' σ σ' σV σV') (S:StoOk G w H s) (F:FrOk G w H H₀ σ σV):Kp w w' H H' where
 n:=L.n
 io:=L.io
 Z:=L.Z
 z:=fun a u z r=>by
  have no:=F.notOwnZ z
  rcases r with r | ⟨o,r⟩
  ·exact .inl (L.keep _ _ r (S.zLoc z) no)
  ·exact .inr ⟨o,L.keep _ _ r (S.zLoc z) no⟩
 t:=fun a vs e=>L.keep _ _ e (S.notLoc e (fun _ z=>by cases z) fun _ _ _ z=>by cases z) (F.notOwnT e fun _ z=>by cases z)
 x:=fun a φ e=>L.keep _ _ e (S.notLoc e (fun _ z=>by cases z) fun _ _ _ z=>by cases z) (F.notOwnT e fun _ z=>by cases z)
def WantS (G:Gx) (X:Cx) (w₀:Wo) (H₀:Hp) (w:Wo) (H:Hp) (σ:Fr) (σV:St) (res:SR) (D:Ends):Prop:=match res with
 | .stuck=>False
 | .next σ' s'=>∀w' H' σV',Good G w₀ H₀ w' H' σ' s' σV'→LeS w w' H H' σ σ' σV σV'→D.nx σV' H'
 | .ret r s'=>∀w' H' v,StoOk G w' H' s'→RepR G w' H' r v→Le w₀ w' H₀ H'→D.rt v H'
 | .retO ts s'=>∀w' H' a vs,StoOk G w' H' s'→H' a=some (.lst vs)→Reps G w' H' ts vs→H₀ a=none→¬w'.Z a→notLoc w' a→Le w₀ w' H₀ H'→D.rt (.ref a) H'
 | .exc c σ' s'=>∀w' H' σV' pins u sh,Good G w₀ H₀ w' H' σ' s' σV'→LeS w w' H H' σ σ' σV σV'→Thrown G X pins σV' H' c u sh→X.xe u sh
def tS (G:Gx) (X:Cx) (C:Cf) (a:S):TS:=fun D σV H=>∃w₀ H₀ w σ s,Good G w₀ H₀ w H σ s σV∧WantS G X w₀ H₀ w H σ σV (ex C a σ s) D
def tSs (G:Gx) (X:Cx) (C:Cf) (a:List S):TS:=fun D σV H=>∃w₀ H₀ w σ s,Good G w₀ H₀ w H σ s σV∧WantS G X w₀ H₀ w H σ σV (exs C a σ s) D
theorem PS.imp {st:Stmt} {t t':TS} (h:PS X st t) (q:∀D σ H,t' D σ H→t D σ H):PS X st t':=fun pins s σ H D I z=>h pins s σ H D I (q _ _ _ z)
theorem PSs.imp {st:List Stmt} {t t':TS} (h:PSs X st t) (q:∀D σ H,t' D σ H→t D σ H):PSs X st t':=fun pins s σ H D I z=>h pins s σ H D I (q _ _ _ z)
theorem WantS.mono {res:SR} {D:Ends} (L:LeS w w' H H' σ σ' σV σV') (h:WantS G X w₀ H₀ w H σ σV res D):WantS G X w₀ H₀ w' H' σ' σV' res D:=by
 cases res with
 | stuck=>exact h
 | next σ2 s2=>exact fun w2 H2 σV2 g M=>h w2 H2 σV2 g (L.trans M)
 | ret r s2=>exact h
 | retO ts s2=>exact h
 | exc c σ2 s2=>exact fun w2 H2 σV2 pins u sh g M=>h w2 H2 σV2 pins u sh g (L.trans M)
theorem WantS.bind {m:SR} {k:Fr→Sto→SR} {D:Ends} {u:TS} (h:WantS G X w₀ H₀ w H σ σV (m.bind k) D)
  (hu:∀w1 H1 σ1 s1 σV1,Good G w₀ H₀ w1 H1 σ1 s1 σV1→WantS G X w₀ H₀ w1 H1 σ1 σV1 (k σ1 s1) D→u D σV1 H1):WantS G X w₀ H₀ w H σ σV m { D with nx:=u D }:=by
 cases m with
 | stuck=>exact h
 | next σ2 s2=>exact fun w2 H2 σV2 g L=>hu w2 H2 σ2 s2 σV2 g (WantS.mono L h)
 | ret r s2=>exact h
 | retO ts s2=>exact h
 | exc c σ2 s2=>exact h
theorem zaac:PSs X [] (tSs G X C []):=PSs.imp pss_nil fun D σV H ⟨w₀,H₀,w,σ,s,g,h⟩=>h w H σV g LeS.refl
theorem zaaa {st:Stmt} {rest:List Stmt} {a:S} {as:List S} (h1:PS X st (tS G X C a)) (h2:PSs X rest (tSs G X C as)):PSs X (st::rest) (tSs G X C (a::as)):=by
 refine PSs.imp (pss_cons h1 h2) ?_
 rintro D σV H ⟨w₀,H₀,w,σ,s,g,h⟩
 refine⟨w₀,H₀,w,σ,s,g,WantS.bind h fun w1 H1 σ1 s1 σV1 g1 h1=>?_⟩
 exact⟨w₀,H₀,w1,σ1,s1,g1,h1⟩
theorem st_of {m:Res R} {k:R→Sto→SR} {D:Ends} {s:Sto} (g:Good G w₀ H₀ w H σ s σV) (h:WantS G X w₀ H₀ w H σ σV (m.st σ k) D):
  Want G X σV w H m fun v H1=>∃w1 r s1,Le w w1 H H1∧StoOk G w1 H1 s1∧RepR G w1 H1 r v∧Good G w₀ H₀ w1 H1 σ s1 σV∧WantS G X w₀ H₀ w1 H1 σ σV (k r s1) D:=by
 cases m with
 | stuck=>exact h
 | ok r s1=>exact fun w1 H1 v L S R=>⟨w1,r,s1,L,S,R,g.step L S,WantS.mono (LeS.of L) h⟩
 | exc c s1=>exact fun w1 H1 pins u sh L S T=>h w1 H1 σV pins u sh (g.step L S) (LeS.of L) T
theorem onS_w {α:Type} {o:Option α} {f:α→SR} {D:Ends} (h:WantS G X w₀ H₀ w H σ σV (onS o f) D):∃a,o=some a∧WantS G X w₀ H₀ w H σ σV (f a) D:=by
 cases o with
 | none=>exact h.elim
 | some a=>exact⟨a,rfl,h⟩
theorem val_of {r:R} {t:T} (h:r.val?=some t):r=.val t:=by
 cases r with
 | val u=>cases h;rfl
 | bor u=>cases h
theorem own_set {i:Nat} {b:Option B} {x:Option V} (hb:∀ts,b≠some (.own ts)) {a:Addr} (h:Own (σ.set i b) (σV.set i x) a):Own σ σV a:=by
 obtain⟨j,ts,e1,e2⟩:=h
 by_cases hj:i=j
 ·subst hj
  have hlt:i < σ.length:=by
   have:=(List.getElem?_eq_some_iff.mp e1).1
   simpa using this
  rw[List.getElem?_set_self hlt] at e1
  exact absurd (Option.some.inj e1) (hb ts)
 ·rw[List.getElem?_set_ne hj] at e1 e2
  exact⟨j,ts,e1,e2⟩
theorem lk_set {i:Nat} {b:Option B} {x:Option V} (hb:∀ts,b≠some (.lck ts)) (j:Nat) (ts:List T) (e:(σ.set i b)[j]?=some (some (.lck ts))):(∃us,σ[j]?=some (some (.lck us)))∧(σV.set i x)[j]?=σV[j]?:=by
 by_cases hj:i=j
 ·subst hj
  have hlt:i < σ.length:=by
   have:=(List.getElem?_eq_some_iff.mp e).1
   simpa using this
  rw[List.getElem?_set_self hlt] at e
  exact absurd (Option.some.inj e) (hb ts)
 ·rw[List.getElem?_set_ne hj] at e ⊢
  exact⟨⟨ts,e⟩,rfl⟩
theorem LeS.set {i:Nat} {b:Option B} {x:Option V} (hb:∀ts,b≠some (.own ts)) (hb':∀ts,b≠some (.lck ts)):LeS w w H H σ (σ.set i b) σV (σV.set i x):=
 ⟨Nat.le_refl _,fun _ _=>rfl,fun _ z=>z,fun _ _ e _ _=>e,fun l a b=>absurd (Nat.lt_of_lt_of_le b a) (Nat.lt_irrefl _),fun _ z=>z,fun a z=>.inl (own_set hb z),lk_set hb'⟩
theorem LeS.put {i:Nat} {t:T} {v:V}:LeS w w H H σ (IP.put σ i t) σV (σV.set i (some v)):=LeS.set (by intro ts z;cases z) (by intro ts z;cases z)
theorem Good.put {s:Sto} {i:Nat} {t:T} {v:V} (g:Good G w₀ H₀ w H σ s σV) (r:Rep G w H t v):Good G w₀ H₀ w H (IP.put σ i t) s (σV.set i (some v)):=⟨g.sto,g.fr.put r,g.ent⟩
variable {e:Expr} {e':E} {x:Str} {pos pos':Pos} {i:Nat}
theorem sS_asg (hN:X.N.Nodup) (hi:X.N[i]?=some x) (hx:Loc X.env.scope x) (he:PE X e (tV G X C e')) (hs:swapsWith e (some (.Name x pos')) pos.line X.env=pure false) (hf:X.fn x=true∨X.env.scope.names.lookup x=some .local):
  PS X (.Assign [.Name x pos'] e pos) (tS G X C (.asg i e')):=by
 refine PS.imp (ps_set hN hi hx he hs hf) ?_
 rintro D σV H ⟨w₀,H₀,w,σ,s,g,h⟩
 refine⟨w₀,H₀,w,σ,s,g,(st_of g h).imp ?_⟩
 rintro v H1 ⟨w1,r,s1,L1,S1,R1,g1,h1⟩
 obtain⟨t,ht,h1⟩:=onS_w h1
 cases val_of ht
 exact h1 w1 H1 _ (g1.put R1) LeS.put
theorem sS_ret (he:PE X e (tV G X C e')):PS X (.Return (some e) pos) (tS G X C (.ret e')):=by
 refine PS.imp (ps_ret he) ?_
 rintro D σV H ⟨w₀,H₀,w,σ,s,g,h⟩
 refine⟨w₀,H₀,w,σ,s,g,(st_of g h).imp ?_⟩
 rintro v H1 ⟨w1,r,s1,L1,S1,R1,g1,h1⟩
 exact h1 w1 H1 v S1 R1 g1.ent
theorem sS_exp (he:PE X e (tV G X C e')) (hs:swapsWith e none pos.line X.env=pure false):PS X (.Expr e pos) (tS G X C (.exp e')):=by
 refine PS.imp (zafc he hs) ?_
 rintro D σV H ⟨w₀,H₀,w,σ,s,g,h⟩
 refine⟨w₀,H₀,w,σ,s,g,(st_of g h).imp ?_⟩
 rintro v H1 ⟨w1,r,s1,L1,S1,R1,g1,h1⟩
 exact h1 w1 H1 σV g1 LeS.refl
theorem onBS_t {x:R} {v:V} {m n:SR} {D:Ends} (r:RepR G w H x v) (h:WantS G X w₀ H₀ w H σ σV (onBS x m n) D):∃k,v=.bl k∧WantS G X w₀ H₀ w H σ σV (if k=true then m else n) D:=by
 match x,h with
 | .val (.bl true),h=>exact⟨true,r,h⟩
 | .val (.bl false),h=>exact⟨false,r,h⟩
 | .val .non,h=>exact h.elim
 | .val (.int _),h=>exact h.elim
 | .val (.str _),h=>exact h.elim
 | .val (.tup _),h=>exact h.elim
 | .val (.lst _),h=>exact h.elim
 | .val (.loc _),h=>exact h.elim
 | .val (.exc _),h=>exact h.elim
 | .bor _,h=>exact h.elim
theorem sS_ifs {c:Expr} {c':E} {a b:List Stmt} {a' b':List S} (hc:PT X c (tT G X C c')) (ha:PSs X a (tSs G X C a')) (hb:PSs X b (tSs G X C b')):PS X (.If c a b pos) (tS G X C (.ifs c' a' b')):=by
 refine PS.imp (ps_if hc ha hb) ?_
 rintro D σV H ⟨w₀,H₀,w,σ,s,g,h⟩
 refine⟨w₀,H₀,w,σ,s,g,(st_of g h).imp ?_⟩
 rintro v H1 ⟨w1,r,s1,L1,S1,R1,g1,h1⟩
 obtain⟨k,rfl,h1⟩:=onBS_t R1 h1
 refine⟨k,rfl,?_⟩
 cases k with
 | true=>exact iteT ⟨w₀,H₀,w1,σ,s1,g1,h1⟩
 | false=>exact iteF ⟨w₀,H₀,w1,σ,s1,g1,h1⟩
end
end IP
end
section
set_option Elab.async false
set_option linter.all false
set_option maxRecDepth 100000
namespace IP
open PySem PySem.Spec L2
section
variable {G:Gx} {X:Cx} {C:Cf} {w w' w₀:Wo} {H H' H₀:Hp} {σ σ':Fr} {σV σV':St}
theorem zaal {α:Type} {l:List (Option α)} {i j:Nat} {b:Option α} {c:α} (h:(l.set i b)[j]?=some (some c)):(i=j∧b=some c∧i < l.length)∨(i≠j∧l[j]?=some (some c)):=by
 by_cases hj:i=j
 ·subst hj
  have hlt:i < l.length:=by
   have:=(List.getElem?_eq_some_iff.mp h).1
   simpa using this
  rw[List.getElem?_set_self hlt] at h
  exact .inl ⟨rfl,Option.some.inj h,hlt⟩
 ·rw[List.getElem?_set_ne hj] at h
  exact .inr ⟨hj,h⟩
theorem FrOk.mkO {i:Nat} {ts:List T} {a:Addr} {vs:List V} (F:FrOk G w H H₀ σ σV) (ha:H a=some (.lst vs)) (r:Reps G w H ts vs) (h0:H₀ a=none) (hz:¬w.Z a) (hl:notLoc w a)
  (hap:∀(j:Nat) (b:B) (us:List T),σ[j]?=some (some b)→ownL b=some us→σV[j]?≠some (some (.ref a))):FrOk G w H H₀ (setOwn σ i ts) (σV.set i (some (.ref a))) where
 len:=by unfold setOwn;simp[F.len]
 val:=fun j t e=>by
  rcases zaal e with⟨_,z,_⟩ | ⟨ne,z⟩
  ·cases z
  ·obtain⟨v,h1,h2⟩:=F.val j t z
   exact⟨v,by rw[List.getElem?_set_ne ne];exact h1,h2⟩
 own:=fun j b us e eb=>by
  rcases zaal e with⟨rfl,z,hlt⟩ | ⟨ne,z⟩
  ·cases z
   cases eb
   exact⟨a,vs,by rw[List.getElem?_set_self (by rw[← F.len];exact hlt)],ha,r,h0,hz,hl⟩
  ·obtain⟨p,us',h1,h2⟩:=F.own j b us z eb
   exact⟨p,us',by rw[List.getElem?_set_ne ne];exact h1,h2⟩
 apart:=fun j k b c us us' p hjk e1 eb e2 ec e3 e4=>by
  rcases zaal e1 with⟨rfl,z,hlt⟩ | ⟨ne,z⟩
  ·rcases zaal e2 with⟨rfl,_,_⟩ | ⟨ne',z'⟩
   ·exact hjk rfl
   ·rw[List.getElem?_set_self (by rw[← F.len];exact hlt)] at e3
    cases e3
    rw[List.getElem?_set_ne ne'] at e4
    exact hap k c us' z' ec e4
  ·rcases zaal e2 with⟨rfl,z',hlt⟩ | ⟨ne',z'⟩
   ·rw[List.getElem?_set_self (by rw[← F.len];exact hlt)] at e4
    cases e4
    rw[List.getElem?_set_ne ne] at e3
    exact hap j b us z eb e3
   ·rw[List.getElem?_set_ne ne] at e3
    rw[List.getElem?_set_ne ne'] at e4
    exact F.apart j k b c us us' p hjk z eb z' ec e3 e4
 bor:=fun j us e=>by
  rcases zaal e with⟨_,z,_⟩ | ⟨ne,z⟩
  ·cases z
  ·obtain⟨p,us',h1,h2⟩:=F.bor j us z
   exact⟨p,us',by rw[List.getElem?_set_ne ne];exact h1,h2⟩
theorem FrOk.chg {i:Nat} {ts us:List T} {a:Addr} {xs ys:List V} (F:FrOk G w H H₀ σ σV) (hi:σ[i]?=some (some (.own ts))) (hv:σV[i]?=some (some (.ref a))) (ha:H a=some (.lst xs)) (r:Reps G w H us ys):
  FrOk G w (upd H a (.lst ys)) H₀ (setOwn σ i us) σV:=by
 obtain⟨a',xs',h1,h2,h3,h4,h5,h6⟩:=F.own i _ ts hi rfl
 rw[hv] at h1
 cases h1
 have hlt:i < σ.length:=(List.getElem?_eq_some_iff.mp hi).1
 exact {
  len:=by unfold setOwn;simp[F.len]
  val:=fun j t e=>by
   rcases zaal e with⟨_,z,_⟩ | ⟨ne,z⟩
   ·cases z
   ·obtain⟨v,q1,q2⟩:=F.val j t z
    exact⟨v,q1,Rep.upd ha h5 t v q2⟩
  own:=fun j b vs e eb=>by
   rcases zaal e with⟨rfl,z,hlt⟩ | ⟨ne,z⟩
   ·cases z
    cases eb
    exact⟨a,ys,hv,zaaq,Reps.upd ha h5 us ys r,h4,h5,h6⟩
   ·obtain⟨p,us',q1,q2,q3,q4⟩:=F.own j b vs z eb
    have np:p≠a:=fun y=>by
     subst y
     exact F.apart i j _ b ts vs p ne hi rfl z eb hv q1
    exact⟨p,us',q1,by rw[upd_ne np];exact q2,Reps.upd ha h5 _ _ q3,q4⟩
  apart:=fun j k b c us1 us2 p hjk e1 eb e2 ec e3 e4=>by
   have old:∀{j:Nat} {b:B} {us1:List T},(setOwn σ i us)[j]?=some (some b)→ownL b=some us1→∃b' us',σ[j]?=some (some b')∧ownL b'=some us':=fun {j b us1} e eb=>by
    rcases zaal e with⟨rfl,z,_⟩ | ⟨ne,z⟩
    ·exact⟨_,ts,hi,rfl⟩
    ·exact⟨b,us1,z,eb⟩
   obtain⟨b',u1,z1,y1⟩:=old e1 eb
   obtain⟨c',u2,z2,y2⟩:=old e2 ec
   exact F.apart j k b' c' u1 u2 p hjk z1 y1 z2 y2 e3 e4
  bor:=fun j vs e=>by
   rcases zaal e with⟨_,z,_⟩ | ⟨ne,z⟩
   ·cases z
   ·obtain⟨p,us',q1,q2,q3,q4,q5⟩:=F.bor j vs z
    have np:p≠a:=fun y=>by subst y;exact q4 h4
    exact⟨p,us',q1,by rw[upd_ne np];exact q2,Reps.upd ha h5 _ _ q3,q4,q5⟩ }
theorem ownAt_get {i:Nat} {ts:List T} (h:ownAt σ i=some ts):σ[i]?=some (some (.own ts)):=by
 unfold ownAt at h
 split at h
 ·rename_i us e
  cases h
  exact e
 ·cases h
theorem Good.chg {s:Sto} {i:Nat} {ts us:List T} {a:Addr} {xs ys:List V} (g:Good G w₀ H₀ w H σ s σV) (hi:σ[i]?=some (some (.own ts))) (hv:σV[i]?=some (some (.ref a))) (ha:H a=some (.lst xs)) (r:Reps G w H us ys):
  Good G w₀ H₀ w (upd H a (.lst ys)) (setOwn σ i us) s σV∧LeS w w H (upd H a (.lst ys)) σ (setOwn σ i us) σV σV:=by
 obtain⟨a',xs',h1,h2,h3,h4,h5,h6⟩:=g.fr.own i _ ts hi rfl
 rw[hv] at h1
 cases h1
 have hlt:i < σ.length:=(List.getElem?_eq_some_iff.mp hi).1
 refine⟨⟨g.sto.upd ha h5 h6,g.fr.chg hi hv ha r,g.ent.updNew h4 (by rw[ha];intro z;cases z)⟩,Nat.le_refl _,fun _ _=>rfl,fun _ z=>z,fun p o e nl no=>?_,fun l a b=>absurd (Nat.lt_of_lt_of_le b a) (Nat.lt_irrefl _),fun p z=>?_,fun p z=>.inl ?_,fun j vs e=>?_⟩
 ·have np:p≠a:=fun y=>by subst y;exact no ⟨i,ts,hi,hv⟩
  rw[upd_ne np]
  exact e
 ·by_cases e:p=a
  ·subst e;rw[zaaq];intro z;cases z
  ·rw[upd_ne e];exact z
 ·obtain⟨j,vs,e1,e2⟩:=z
  rcases zaal e1 with⟨rfl,_,_⟩ | ⟨ne,z⟩
  ·exact⟨i,ts,hi,e2⟩
  ·exact⟨j,vs,z,e2⟩
 ·rcases zaal e with⟨rfl,z,_⟩ | ⟨ne,z⟩
  ·cases z
  ·exact⟨⟨vs,z⟩,rfl⟩
variable {e j:Expr} {e' j':E} {x:Str} {pos pos' p1 p2:Pos} {i:Nat}
theorem tO_mk {D:Ends} {s:Sto} (g:Good G w₀ H₀ w H σ s σV) (h:WantS G X w₀ H₀ w H σ σV (ex C (.mk i e') σ s) D):WantO G X σV w H (ev C e' .v σ s) fun v H1=>D.nx (σV.set i (some v)) H1:=by
 unfold ex at h
 split at h
 ·cases hv:ev C e' .v σ s with
  | stuck=>rw[hv] at h;exact h
  | exc c s1=>rw[hv] at h;exact fun w1 H1 pins u sh L S T=>h w1 H1 σV pins u sh (g.step L S) (LeS.of L) T
  | ok r s1=>
   rw[hv] at h
   obtain⟨ts,ht,h⟩:=onS_w (show WantS G X w₀ H₀ w H σ σV (onS r.lst? fun ts=>.next (setOwn σ i ts) s1) D from h)
   have er:r=.val (.lst ts):=by
    match r,ht with
    | .val (.lst us),ht=>cases ht;rfl
   subst er
   intro w1 H1 a vs L S ha r hn nz nl
   have h0:H₀ a=none:=by
    cases q:H₀ a with
    | none=>rfl
    | some o=>exact absurd hn (g.ent.some_ a (by rw[q];intro z;cases z))
   have g1:=g.step L S
   have hap:∀(j:Nat) (b:B) (us:List T),σ[j]?=some (some b)→ownL b=some us→σV[j]?≠some (some (.ref a)):=fun j b us e eb q=>by
    obtain⟨a',xs',h1,h2,_⟩:=g.fr.own j b us e eb
    rw[q] at h1
    cases h1
    rw[hn] at h2
    cases h2
   refine h w1 H1 _ ⟨g1.sto,g1.fr.mkO ha r h0 nz nl hap,g1.ent⟩ ⟨L.n,L.io,L.Z,fun p o e nl _=>L.keep p o e nl,L.newL,L.some_,fun p z=>?_,fun k us e=>?_⟩
   ·obtain⟨k,us,e1,e2⟩:=z
    rcases zaal e1 with⟨rfl,_,hlt⟩ | ⟨ne,z⟩
    ·rw[List.getElem?_set_self (by rw[← g.fr.len];exact hlt)] at e2
     cases e2
     exact .inr hn
    ·rw[List.getElem?_set_ne ne] at e2
     exact .inl ⟨k,us,z,e2⟩
   ·rcases zaal e with⟨_,z,_⟩ | ⟨ne,z⟩
    ·cases z
    ·exact⟨⟨us,z⟩,by rw[List.getElem?_set_ne ne]⟩
 ·exact h.elim
theorem sS_mk (hN:X.N.Nodup) (hi:X.N[i]?=some x) (hx:Loc X.env.scope x) (he:PE X e (tO G X C e')) (hs:swapsWith e (some (.Name x pos')) pos.line X.env=pure false) (hf:X.fn x=true∨X.env.scope.names.lookup x=some .local):
  PS X (.Assign [.Name x pos'] e pos) (tS G X C (.mk i e')):=by
 refine PS.imp (ps_set hN hi hx he hs hf) ?_
 rintro D σV H ⟨w₀,H₀,w,σ,s,g,h⟩
 exact⟨w₀,H₀,w,σ,s,g,tO_mk g h⟩
theorem sS_app {cpos:Pos} (hN:X.N[i]?=some x) (hv:Vis X.env.scope x) (hd:(x==("__debug__":Str))=false) (hcd:(x==("__classdict__":Str))=false) (he:PE X e (tV G X C e')) (hst:starEach [e] X.env=[(false,eval e X.env)])
  (hline:(p2.endLine==cpos.line)=true) (hbase:attributeBase (.Name x p1) "append" X.env (eval (.Name x p1) X.env)=eval (.Name x p1) X.env)
  (hfew:((backTo cpos (starEach [e] X.env)).all (fun x=>!x.1)&&(backToKw cpos (keywordEach [] X.env)).all (fun x=>x.1.isSome)&&decide ([e].length+([]:List Keyword).length+(if([]:List Keyword).isEmpty then 0 else 1) < 30))=true)
  (hs:swapsWith (.Call (.Attribute (.Name x p1) "append" p2) [e] [] cpos) none pos.line X.env=pure false):
  PS X (.Expr (.Call (.Attribute (.Name x p1) "append" p2) [e] [] cpos) pos) (tS G X C (.app i e')):=by
 refine PS.imp (zafc (pe_bm PySem.F.plainAttrs_list PySem.F.slot_list_append PySem.F.type_list_append zacx (pe_var hN hv hd hcd) (zaa4 he pa_nil hst) hbase hfew hline hst rfl) hs) ?_
 rintro D σV H ⟨w₀,H₀,w,σ,s,g,h⟩
 obtain⟨ts,ho,h⟩:=onS_w (show WantS G X w₀ H₀ w H σ σV (onS (ownAt σ i) fun ts=>(ev C e' .v σ s).st σ fun x s1=>onS x.val? fun t=>if ts.length < lim then .next (setOwn σ i (ts++[t])) s1 else .stuck) D from h)
 have hi:=ownAt_get ho
 obtain⟨a,vs,h1,h2,h3,h4,h5,h6⟩:=g.fr.own i _ ts hi rfl
 refine⟨.ref a,h1,.inl ⟨rfl,vs,SqL.of h2⟩,w₀,H₀,w,σ,s,g,(st_of g h).imp ?_⟩
 rintro v H1 ⟨w1,r,s1,L1,S1,R1,g1,q1⟩
 obtain⟨t,ht,q1⟩:=onS_w q1
 cases val_of ht
 split at q1
 ·rename_i hlim
  have ha1:=L1.keep a _ h2 h6
  have r1:=Reps.mono L1 g.sto ts vs h3
  refine⟨a,vs,v,rfl,rfl,ha1,by rw[← h3.length];have:=lim_le;omega,?_⟩
  obtain⟨g2,l2⟩:=g1.chg hi h1 ha1 (r1.append (show Reps G w1 H1 [t] [v] from⟨v,[],rfl,R1,rfl⟩))
  exact q1 w1 _ σV g2 l2
 ·exact q1.elim
theorem Good.frz {s:Sto} (g:Good G w₀ H₀ w H σ s σV) (i:Nat):∃w',Good G w₀ H₀ w' H (frz σ i) s σV∧LeS w w' H H σ (frz σ i) σV σV:=by
 unfold IP.frz
 split
 ·rename_i ts hi
  obtain⟨a,vs,h1,h2,h3,h4,h5,h6⟩:=g.fr.own i _ ts hi rfl
  have zm:=fun(t:T) (v:V) (h:Rep G w H t v)=>Rep.zmono (w:=w) (w':=w.addZ a) rfl rfl (fun _ z=>.inl z) t v h
  have zms:=fun(t:List T) (v:List V) (h:Reps G w H t v)=>Reps.zmono (w:=w) (w':=w.addZ a) rfl rfl (fun _ z=>.inl z) t v h
  refine⟨w.addZ a,⟨g.sto.addZ h2 h6,⟨by simp[g.fr.len],fun j t e=>?_,fun j b us e eb=>?_,fun j k b c us us' p hjk e1 eb e2 ec=>?_,fun j us e=>?_⟩,g.ent.addZ h4⟩,Nat.le_refl _,fun _ _=>rfl,fun _ z=>.inl z,fun _ _ e _ _=>e,fun l a b=>absurd (Nat.lt_of_lt_of_le b a) (Nat.lt_irrefl _),fun _ z=>z,fun p z=>.inl ?_,fun j us e=>?_⟩
  ·rcases zaal e with⟨rfl,z,_⟩ | ⟨ne,z⟩
   ·cases z
    exact⟨.ref a,h1,a,vs,rfl,.inr rfl,.inl h2,zms _ _ h3⟩
   ·obtain⟨v,q1,q2⟩:=g.fr.val j t z
    exact⟨v,q1,zm t v q2⟩
  ·rcases zaal e with⟨_,z,_⟩ | ⟨ne,z⟩
   ·cases z;cases eb
   ·obtain⟨p,us',q1,q2,q3,q4,q5,q6⟩:=g.fr.own j b us z eb
    refine⟨p,us',q1,q2,zms _ _ q3,q4,fun y=>y.elim q5 fun y=>?_,q6⟩
    subst y
    exact g.fr.apart i j _ b ts us p ne hi rfl z eb h1 q1
  ·rcases zaal e1 with⟨_,z,_⟩ | ⟨ne,z⟩
   ·cases z;cases eb
   ·rcases zaal e2 with⟨_,z',_⟩ | ⟨ne',z'⟩
    ·cases z';cases ec
    ·exact g.fr.apart j k b c us us' p hjk z eb z' ec
  ·rcases zaal e with⟨_,z,_⟩ | ⟨ne,z⟩
   ·cases z
   ·obtain⟨p,us',q1,q2,q3,q4⟩:=g.fr.bor j us z
    exact⟨p,us',q1,q2,zms _ _ q3,q4⟩
  ·obtain⟨j,us,e1,e2⟩:=z
   rcases zaal e1 with⟨_,z,_⟩ | ⟨ne,z⟩
   ·cases z
   ·exact⟨j,us,z,e2⟩
  ·rcases zaal e with⟨_,z,_⟩ | ⟨ne,z⟩
   ·cases z
   ·exact⟨⟨us,z⟩,rfl⟩
 ·exact⟨w,g,LeS.refl⟩
theorem sSs_frz {rest:List Stmt} {as:List S} (h:PSs X rest (tSs G X C as)):PSs X rest (tSs G X C (.frz i::as)):=by
 refine PSs.imp h ?_
 rintro D σV H ⟨w₀,H₀,w,σ,s,g,h⟩
 obtain⟨w',g',l'⟩:=g.frz i
 exact⟨w₀,H₀,w',IP.frz σ i,s,g',WantS.mono l' h⟩
end
end IP
end
section
set_option Elab.async false
set_option linter.all false
set_option maxRecDepth 100000
namespace IP
open PySem PySem.Spec L2
section
variable {G:Gx} {X:Cx} {C:Cf} {w w' w₀:Wo} {H H' H₀:Hp} {σ σ':Fr} {σV σV':St} {pos:Pos}
def zac6 (σ:Fr) (σV:St):Src→Prop
 | .l a _=>¬Own σ σV a
 | _=>True
theorem SrcOk.monoS {z:Bool} {s:Sto} (L:LeS w w' H H' σ σ' σV σV') (S:StoOk G w H s) (F:FrOk G w H H₀ σ σV):∀{src:Src} {ts:List T},zac6 σ σV src→SrcOk G w H z src ts→SrcOk G w' H' z src ts∧zac6 σ' σV' src
 | .l a vs,ts,nf,⟨h1,h2,h3,h4⟩=>by
  have hs:=Rd.some h1
  refine⟨⟨?_,Reps.kp (L.kp S F) ts vs h2,L.notLoc hs h3,fun q=>L.Z a (h4 q)⟩,fun z=>?_⟩
  ·rcases h1 with h1 | ⟨o,h1⟩
   ·exact .inl (L.keep _ _ h1 h3 nf)
   ·exact .inr ⟨o,L.keep _ _ h1 h3 nf⟩
  ·rcases L.own a z with z | z
   ·exact nf z
   ·exact hs z
 | .t a vs,ts,_,⟨h1,h2⟩=>⟨⟨(L.kp S F).t _ _ h1,Reps.kp (L.kp S F) ts vs h2⟩,True.intro⟩
 | .r lo n,ts,_,h=>⟨h,True.intro⟩
theorem zabt {tg:Expr} {g:Tg} {b:List Stmt} {b':List S} {D:Ends} {src:Src} {ts:List T} {s:Sto} {K:PySem.W.Frag} {z:Bool} (gd:Good G w₀ H₀ w H σ s σV) (SO:SrcOk G w H z src ts) (SF:zac6 σ σV src)
  (h:WantS G X w₀ H₀ w H σ σV (forL g (fun σ s=>exs C b' σ s) ts σ s) D):
  ∃W:Nat→Nat→St→Hp→Prop,(∃m,W 0 m σV H)∧∀i m σV H,W i m σV H→
   ((itOf K src).stop i H∧D.nx σV H)∨((itOf K src).go i H∧∃N:St→Hp→Prop,(∀σ' H',N σ' H'→∃m',m' < m∧W (i+1) m' σ' H')∧∀x H',(itOf K src).yld i H x H'→gTg G g x σV H' fun σ2 H2=>tSs G X C b' { D with nx:=N,ct:=N,bk:=D.nx } σ2 H2):=by
 refine⟨fun i m σV1 H1=>∃w1 σ1 s1,m=ts.length - i∧i≤ts.length∧Good G w₀ H₀ w1 H1 σ1 s1 σV1∧SrcOk G w1 H1 z src ts∧zac6 σ1 σV1 src∧WantS G X w₀ H₀ w1 H1 σ1 σV1 (forL g (fun σ s=>exs C b' σ s) (ts.drop i) σ1 s1) D,
  ⟨ts.length,w,σ,s,rfl,Nat.zero_le _,gd,SO,SF,h⟩,?_⟩
 rintro i m σV1 H1 ⟨w1,σ1,s1,hm,hi,g1,SO1,SF1,h1⟩
 by_cases hlt:i < ts.length
 ·refine .inr ?_
  have et:ts[i]?=some ts[i]:=List.getElem?_eq_getElem hlt
  have ed:ts.drop i=ts[i]::ts.drop (i+1):=List.drop_eq_getElem_cons hlt
  rw[ed] at h1
  obtain⟨σ2,hb,h1⟩:=onS_w (show WantS G X w₀ H₀ w1 H1 σ1 σV1 (onS (bindTg σ1 g ts[i]) fun σ'=>(exs C b' σ' s1).bind fun σ2 s2=>forL g (fun σ s=>exs C b' σ s) (ts.drop (i+1)) σ2 s2) D from h1)
  obtain⟨go,yld⟩:=SO1.go (K:=K) et
  refine⟨go,fun σV3 H3=>∃w3 σ3 s3,Good G w₀ H₀ w3 H3 σ3 s3 σV3∧SrcOk G w3 H3 z src ts∧zac6 σ3 σV3 src∧WantS G X w₀ H₀ w3 H3 σ3 σV3 (forL g (fun σ s=>exs C b' σ s) (ts.drop (i+1)) σ3 s3) D,fun σV3 H3 ⟨w3,σ3,s3,q1,q2,q3,q4⟩=>⟨ts.length - (i+1),by omega,w3,σ3,s3,rfl,hlt,q1,q2,q3,q4⟩,fun x H' hy=>?_⟩
  have rx:=(yld x H' hy).2
  obtain rfl:H1=H':=(yld x H' hy).1.symm
  refine⟨w1,s1,ts[i],σ1,σ2,g1.sto,rx,hb,fun vs hfr hl=>?_⟩
  have g2:Good G w₀ H₀ w1 H1 σ2 s1 (setsV σV1 (slots g) vs):=⟨g1.sto,hfr H₀ σV1 g1.fr,g1.ent⟩
  have l2:LeS w1 w1 H1 H1 σ1 σ2 σV1 (setsV σV1 (slots g) vs):=by
   cases g with
   | one k=>
    cases hb
    match vs,hl with
    | [v],_=>exact LeS.put
   | many ks=>
    have hb':∃us,puts σ1 ks us=some σ2:=by
     match hts:ts[i],hb with
     | .tup us,hb=>exact⟨us,hb⟩
     | .lst us,hb=>exact⟨us,hb⟩
     | .non,hb=>cases hb
     | .bl _,hb=>cases hb
     | .int _,hb=>cases hb
     | .str _,hb=>cases hb
     | .loc _,hb=>cases hb
     | .exc _,hb=>cases hb
    obtain⟨us,hb⟩:=hb'
    have go:∀(ks:List Nat) (us:List T) (vs:List V) (σ1:Fr) (σV1:St),puts σ1 ks us=some σ2→vs.length=ks.length→LeS w1 w1 H1 H1 σ1 σ2 σV1 (setsV σV1 ks vs):=by
     intro ks
     induction ks with
     | nil=>
      intro us vs σ1 σV1 hp hl
      cases us with
      | nil=>cases hp;cases vs<;>exact LeS.refl
      | cons u us=>cases hp
     | cons k ks ih=>
      intro us vs σ1 σV1 hp hl
      cases us with
      | nil=>cases hp
      | cons u us=>
       cases vs with
       | nil=>simp at hl
       | cons v vs=>exact LeS.trans (LeS.put (v:=v)) (ih us vs (put σ1 k u) (σV1.set k (some v)) hp (by simpa using hl))
    exact go ks us vs σ1 σV1 hb hl
  obtain⟨SO2,SF2⟩:=SO1.monoS l2 g1.sto g1.fr SF1
  refine⟨w₀,H₀,w1,σ2,s1,g2,?_⟩
  cases hx:exs C b' σ2 s1 with
  | stuck=>rw[hx] at h1;exact h1
  | ret r s3=>rw[hx] at h1;exact h1
  | retO ts s3=>rw[hx] at h1;exact h1
  | exc d σ3 s3=>rw[hx] at h1;exact fun w3 H3 σV3 pins u sh g3 L3 T=>h1 w3 H3 σV3 pins u sh g3 (l2.trans L3) T
  | next σ3 s3=>
   rw[hx] at h1
   intro w3 H3 σV3 g3 L3
   obtain⟨SO3,SF3⟩:=SO2.monoS L3 g2.sto g2.fr SF2
   exact⟨w3,σ3,s3,g3,SO3,SF3,WantS.mono (l2.trans L3) h1⟩
 ·have ei:i=ts.length:=by omega
  subst ei
  rw[List.drop_length] at h1
  exact .inl ⟨SO1.stop,h1 w1 H1 σV1 g1 LeS.refl⟩
theorem zab9 {i j:Nat} {b:B} (h:(lock σ i)[j]?=some (some b)):(σ[j]?=some (some b)∧(i=j→∀ts,b≠.own ts))∨(i=j∧∃ts,b=.lck ts∧σ[i]?=some (some (.own ts))):=by
 unfold lock at h
 split at h
 ·rename_i ts e
  rcases zaal h with⟨rfl,z,_⟩ | ⟨ne,z⟩
  ·exact .inr ⟨rfl,ts,by cases z;rfl,e⟩
  ·exact .inl ⟨z,fun q=>absurd q ne⟩
 ·rename_i hn
  refine .inl ⟨h,fun q ts z=>?_⟩
  subst q z
  exact hn ts h
theorem zacg {i j:Nat} {b:B} (h:(unlock σ i)[j]?=some (some b)):σ[j]?=some (some b)∨(i=j∧∃ts,b=.own ts∧σ[i]?=some (some (.lck ts))):=by
 unfold unlock at h
 split at h
 ·rename_i ts e
  rcases zaal h with⟨rfl,z,_⟩ | ⟨ne,z⟩
  ·exact .inr ⟨rfl,ts,by cases z;rfl,e⟩
  ·exact .inl z
 ·exact .inl h
theorem lock_len (σ:Fr) (i:Nat):(lock σ i).length=σ.length:=by unfold lock;split<;>simp
theorem zagf (σ:Fr) (i:Nat):(unlock σ i).length=σ.length:=by unfold unlock;split<;>simp
theorem FrOk.relock (F:FrOk G w H H₀ σ σV) (hl:σ'.length=σ.length) (hr:∀(j:Nat) (b:B),σ'[j]?=some (some b)→σ[j]?=some (some b)∨∃b' ts,σ[j]?=some (some b')∧ownL b=some ts∧ownL b'=some ts):FrOk G w H H₀ σ' σV where
 len:=hl.trans F.len
 val:=fun j t e=>by
  rcases hr j _ e with z | ⟨b',ts,_,z,_⟩
  ·exact F.val j t z
  ·cases z
 own:=fun j b ts e eb=>by
  rcases hr j _ e with z | ⟨b',us,z1,z2,z3⟩
  ·exact F.own j b ts z eb
  ·rw[eb] at z2
   cases z2
   exact F.own j b' ts z1 z3
 apart:=fun j k b c ts us a hjk e1 eb e2 ec e3 e4=>by
  have old:∀{j:Nat} {b:B} {ts:List T},σ'[j]?=some (some b)→ownL b=some ts→∃b',σ[j]?=some (some b')∧ownL b'=some ts:=fun {j b ts} e eb=>by
   rcases hr j _ e with z | ⟨b',us,z1,z2,z3⟩
   ·exact⟨b,z,eb⟩
   ·rw[eb] at z2
    cases z2
    exact⟨b',z1,z3⟩
  obtain⟨b',y1,y2⟩:=old e1 eb
  obtain⟨c',y3,y4⟩:=old e2 ec
  exact F.apart j k b' c' ts us a hjk y1 y2 y3 y4 e3 e4
 bor:=fun j ts e=>by
  rcases hr j _ e with z | ⟨b',us,_,z,_⟩
  ·exact F.bor j ts z
  ·cases z
theorem Good.lock {s:Sto} (g:Good G w₀ H₀ w H σ s σV) (i:Nat):Good G w₀ H₀ w H (lock σ i) s σV:=⟨g.sto,g.fr.relock (lock_len σ i) fun j b e=>by
 rcases zab9 e with⟨z,_⟩ | ⟨rfl,ts,rfl,z⟩
 ·exact .inl z
 ·exact .inr ⟨_,ts,z,rfl,rfl⟩,g.ent⟩
theorem Good.unlock {s:Sto} (g:Good G w₀ H₀ w H σ s σV) (i:Nat):Good G w₀ H₀ w H (unlock σ i) s σV:=⟨g.sto,g.fr.relock (zagf σ i) fun j b e=>by
 rcases zacg e with z | ⟨rfl,ts,rfl,z⟩
 ·exact .inl z
 ·exact .inr ⟨_,ts,z,rfl,rfl⟩,g.ent⟩
theorem LeS.unlock {i:Nat} (hi:isOwn σ i=true) (L:LeS w w' H H' (lock σ i) σ' σV σV'):LeS w w' H H' σ (unlock σ' i) σV σV' where
 n:=L.n
 io:=L.io
 Z:=L.Z
 keep:=fun a o e nl no=>L.keep a o e nl fun⟨j,ts,e1,e2⟩=>by
  rcases zab9 e1 with⟨z,_⟩ | ⟨_,us,z,_⟩
  ·exact no ⟨j,ts,z,e2⟩
  ·cases z
 newL:=L.newL
 some_:=L.some_
 own:=fun a ⟨j,ts,e1,e2⟩=>by
  rcases zacg e1 with z | ⟨rfl,us,z1,z2⟩
  ·rcases L.own a ⟨j,ts,z,e2⟩ with⟨k,us,y1,y2⟩ | y
   ·rcases zab9 y1 with⟨z,_⟩ | ⟨_,vs,z,_⟩
    ·exact .inl ⟨k,us,z,y2⟩
    ·cases z
   ·exact .inr y
  ·obtain⟨⟨vs,y1⟩,y2⟩:=L.lk i us z2
   unfold isOwn at hi
   split at hi
   ·rename_i xs ex
    rw[e2] at y2
    exact .inl ⟨i,xs,ex,y2.symm⟩
   ·cases hi
 lk:=fun j ts e=>by
  rcases zacg e with z | ⟨_,us,z,_⟩
  ·obtain⟨⟨us,y1⟩,y2⟩:=L.lk j ts z
   rcases zab9 y1 with⟨y,_⟩ | ⟨rfl,vs,_,y⟩
   ·exact⟨⟨us,y⟩,y2⟩
   ·exfalso
    unfold IP.unlock at e
    split at e
    ·rename_i q
     rcases zaal e with⟨_,q2,_⟩ | ⟨ne,_⟩
     ·cases q2
     ·exact ne rfl
    ·rename_i q
     exact q ts e
  ·cases z
theorem WantS.unlock {i:Nat} {r:SR} {D:Ends} (hi:isOwn σ i=true) (h:WantS G X w₀ H₀ w H σ σV (r.unlock i) D):WantS G X w₀ H₀ w H (lock σ i) σV r D:=by
 cases r with
 | stuck=>exact h
 | ret r s=>exact h
 | retO ts s=>exact h
 | next σ1 s1=>exact fun w' H' σV' g L=>h w' H' σV' (g.unlock i) (L.unlock hi)
 | exc c σ1 s1=>exact fun w' H' σV' pins u sh g L T=>h w' H' σV' pins u sh (g.unlock i) (L.unlock hi) T
theorem lst_of {x:R} {ts:List T} (h:x.lst?=some ts):x=.val (.lst ts):=by
 match x,h with
 | .val (.lst us),h=>cases h;rfl
theorem sS_for {tg iter:Expr} {it':E} {g:Tg} {b:List Stmt} {b':List S} (hp:PassesOwn (model X.prog X.w) X.A X.env X.xe) (hc:X.calm=true) (hI:PI X tg iter (tI G X C it' .j true)) (hg:PG X tg (gTg G g)) (hb:PSs X b (tSs G X C b'))
  (hs:∀x,foldedSetIterable iter X.env x=pure x) (hit:∀i,it'≠.var i):PS X (.For tg iter b [] pos) (tS G X C (.for_ g it' b')):=by
 refine PS.imp (ps_for hp hc hI hg hb hs) ?_
 rintro D σV H ⟨w₀,H₀,w,σ,s,gd,h⟩
 have h:WantS G X w₀ H₀ w H σ σV ((ev C it' .j σ s).st σ fun x s1=>onS x.lst? fun ts=>forL g (fun σ s=>exs C b' σ s) ts σ s1) D:=by
  cases it'<;>first | exact h | exact absurd rfl (hit _)
 refine⟨w₀,H₀,w,σ,s,gd,?_⟩
 cases he:ev C it' .j σ s with
 | stuck=>rw[he] at h;exact h.elim
 | exc c s1=>rw[he] at h;exact fun w1 H1 pins u sh L S T=>h w1 H1 σV pins u sh (gd.step L S) (LeS.of L) T
 | ok x s1=>
  rw[he] at h
  obtain⟨ts,ht,h⟩:=onS_w (show WantS G X w₀ H₀ w H σ σV (onS x.lst? fun ts=>forL g (fun σ s=>exs C b' σ s) ts σ s1) D from h)
  cases lst_of ht
  intro w1 H1 src L S SO
  have g1:=gd.step L S
  refine zabt (X:=X) (tg:=tg) (b:=b) (z:=true) (K:=X.K) g1 SO ?_ (WantS.mono (LeS.of L) h)
  cases src with
  | l a vs=>exact g1.fr.notOwnZ (SO.2.2.2 rfl)
  | t a vs=>exact True.intro
  | r lo n=>exact True.intro
theorem sS_forV {tg:Expr} {x:Str} {xp:Pos} {i:Nat} {g:Tg} {b:List Stmt} {b':List S} (hp:PassesOwn (model X.prog X.w) X.A X.env X.xe) (hc:X.calm=true) (hN:X.N[i]?=some x) (hv:Vis X.env.scope x) (hd:(x==("__debug__":Str))=false) (hcd:(x==("__classdict__":Str))=false)
  (hg:PG X tg (gTg G g)) (hb:PSs X b (tSs G X C b')) (hs:∀y,foldedSetIterable (.Name x xp) X.env y=pure y):PS X (.For tg (.Name x xp) b [] pos) (tS G X C (.for_ g (.var i) b')):=by
 refine PS.imp (ps_for hp hc (pi_seq (pe_var hN hv hd hcd)) hg hb hs) ?_
 rintro D σV H ⟨w₀,H₀,w,σ,s,gd,h⟩
 have h:WantS G X w₀ H₀ w H σ σV ((ev C (.var i) .i σ s).st σ fun x s1=>onS x.lst? fun ts=>if isOwn σ i then(forL g (fun σ s=>exs C b' σ s) ts (lock σ i) s1).unlock i else forL g (fun σ s=>exs C b' σ s) ts σ s1) D:=h
 have hev:ev C (.var i) .i σ s=(Res.of (look σ i) s).bind fun x s=>.of (x.sq2.map fun ts=>.val (.lst ts)) s:=rfl
 rw[hev] at h
 cases hl:look σ i with
 | none=>rw[hl] at h;exact h.elim
 | some r=>
  rw[hl] at h
  have h:WantS G X w₀ H₀ w H σ σV ((Res.of (r.sq2.map fun ts=>.val (.lst ts)) s).st σ fun x s1=>onS x.lst? fun ts=>if isOwn σ i then(forL g (fun σ s=>exs C b' σ s) ts (lock σ i) s1).unlock i else forL g (fun σ s=>exs C b' σ s) ts σ s1) D:=h
  cases hq:r.sq2 with
  | none=>rw[hq] at h;exact h.elim
  | some ts=>
   rw[hq] at h
   have h:WantS G X w₀ H₀ w H σ σV (if isOwn σ i then(forL g (fun σ s=>exs C b' σ s) ts (lock σ i) s).unlock i else forL g (fun σ s=>exs C b' σ s) ts σ s) D:=h
   unfold look at hl
   split at hl
   ·rename_i t et
    cases hl
    obtain⟨v,e1,e2⟩:=gd.fr.val i t et
    have no:isOwn σ i=false:=by unfold isOwn;rw[et]
    rw[no] at h
    match t,hq,e2 with
    | .lst us,hq,⟨a,vs,ev,hz,hr,rp⟩=>
     cases hq
     subst ev
     exact⟨_,e1,a,rfl,.inl ⟨vs,hr,zabt (X:=X) (tg:=tg) (b:=b) (z:=false) (src:=.l a vs) (K:=X.K) gd ⟨hr,rp,gd.sto.zLoc hz,fun z=>by cases z⟩ (gd.fr.notOwnZ hz) h⟩⟩
    | .tup us,hq,⟨a,vs,ev,hr,rp⟩=>
     cases hq
     subst ev
     exact⟨_,e1,a,rfl,.inr ⟨vs,hr,zabt (X:=X) (tg:=tg) (b:=b) (z:=false) (src:=.t a vs) (K:=X.K) gd ⟨hr,rp⟩ True.intro h⟩⟩
   ·rename_i us et
    cases hl
    cases hq
    obtain⟨a,vs,e1,e2,e3,e4,e5,e6⟩:=gd.fr.own i _ ts et rfl
    have ho:isOwn σ i=true:=by unfold isOwn;rw[et]
    rw[ho] at h
    have h:WantS G X w₀ H₀ w H σ σV ((forL g (fun σ s=>exs C b' σ s) ts (lock σ i) s).unlock i) D:=h
    refine⟨_,e1,a,rfl,.inl ⟨vs,.inl e2,zabt (X:=X) (tg:=tg) (b:=b) (z:=false) (src:=.l a vs) (K:=X.K) (gd.lock i) ⟨.inl e2,e3,e6,fun z=>by cases z⟩ (fun⟨j,qs,y1,y2⟩=>?_) (WantS.unlock ho h)⟩⟩
    rcases zab9 y1 with⟨z,z'⟩ | ⟨_,xs,z,_⟩
    ·by_cases hij:i=j
     ·exact z' hij qs rfl
     ·exact gd.fr.apart i j _ _ ts qs a hij et rfl z rfl e1 y2
    ·cases z
   ·rename_i us et
    cases hl
    cases hq
    obtain⟨a,vs,e1,e2,e3,e4,e6⟩:=gd.fr.bor i ts et
    have no:isOwn σ i=false:=by unfold isOwn;rw[et]
    rw[no] at h
    refine⟨_,e1,a,rfl,.inl ⟨vs,.inl e2,zabt (X:=X) (tg:=tg) (b:=b) (z:=false) (src:=.l a vs) (K:=X.K) gd ⟨.inl e2,e3,e6,fun z=>by cases z⟩ (fun⟨j,qs,y1,y2⟩=>?_) h⟩⟩
    obtain⟨a',xs,q1,_,_,q4,_⟩:=gd.fr.own j _ qs y1 rfl
    rw[y2] at q1
    cases q1
    exact e4 q4
   ·rename_i us et
    cases hl
    cases hq
    obtain⟨a,vs,e1,e2,e3,e4,e5,e6⟩:=gd.fr.own i _ ts et rfl
    have no:isOwn σ i=false:=by unfold isOwn;rw[et]
    rw[no] at h
    refine⟨_,e1,a,rfl,.inl ⟨vs,.inl e2,zabt (X:=X) (tg:=tg) (b:=b) (z:=false) (src:=.l a vs) (K:=X.K) gd ⟨.inl e2,e3,e6,fun z=>by cases z⟩ (fun⟨j,qs,y1,y2⟩=>?_) h⟩⟩
    by_cases hij:i=j
    ·subst hij;rw[et] at y1;cases y1
    ·exact gd.fr.apart i j _ _ ts qs a hij et rfl y1 rfl e1 y2
   ·cases hl
end
end IP
end
section
set_option Elab.async false
set_option linter.all false
set_option maxRecDepth 100000
namespace IP
open PySem PySem.Spec L2
open PyProof.Rows (subscriptTail)
section
variable {G:Gx} {X:Cx} {C:Cf} {w w' w₀:Wo} {H H' H₀:Hp} {σ σ':Fr} {σV σV':St} {a b e:Expr} {a' b' e':E} {pos p p2:Pos} {Q:VK} {i:Nat} {x:Str}
theorem WantO.mono {res:Res R} {w1:Wo} {H1:Hp} (L:Le w w1 H H1) (h:WantO G X σV w H res Q):WantO G X σV w1 H1 res Q:=by
 match res,h with
 | .stuck,h=>exact h
 | .exc c s,h=>exact fun w' H' pins u sh a b=>h w' H' pins u sh (L.trans a) b
 | .ok (.val (.lst ts)) s,h=>
  intro w' H' a vs L' S ha r hn nz nl
  refine h w' H' a vs (L.trans L') S ha r ?_ nz nl
  cases q:H a with
  | none=>rfl
  | some o=>exact absurd hn (L.some_ a (by rw[q];intro z;cases z))
 | .ok (.val .non) s,h=>exact h
 | .ok (.val (.bl _)) s,h=>exact h
 | .ok (.val (.int _)) s,h=>exact h
 | .ok (.val (.str _)) s,h=>exact h
 | .ok (.val (.tup _)) s,h=>exact h
 | .ok (.val (.loc _)) s,h=>exact h
 | .ok (.val (.exc _)) s,h=>exact h
 | .ok (.bor _) s,h=>exact h
theorem WantO.bind {m:Res R} {k:R→Sto→Res R} (h:WantO G X σV w H (m.bind k) Q):
  Want G X σV w H m fun v H1=>∃w1 r s1,Le w w1 H H1∧StoOk G w1 H1 s1∧RepR G w1 H1 r v∧WantO G X σV w1 H1 (k r s1) Q:=by
 cases m with
 | stuck=>exact h
 | ok r s=>exact fun w' H' v a b c=>⟨w',r,s,a,b,c,WantO.mono a h⟩
 | exc c s=>exact h
theorem WantO.of {o:Option R} {s:Sto} (h:WantO G X σV w H (Res.of o s) Q):∃ts,o=some (.val (.lst ts))∧∀w' H' a vs,Le w w' H H'→StoOk G w' H' s→H' a=some (.lst vs)→Reps G w' H' ts vs→H a=none→¬w'.Z a→notLoc w' a→Q (.ref a) H':=by
 match o,h with
 | none,h=>exact h.elim
 | some (.val (.lst ts)),h=>exact⟨ts,rfl,h⟩
 | some (.val .non),h=>exact h.elim
 | some (.val (.bl _)),h=>exact h.elim
 | some (.val (.int _)),h=>exact h.elim
 | some (.val (.str _)),h=>exact h.elim
 | some (.val (.tup _)),h=>exact h.elim
 | some (.val (.loc _)),h=>exact h.elim
 | some (.val (.exc _)),h=>exact h.elim
 | some (.bor _),h=>exact h.elim
theorem sV_of (hE:PE X e (tO G X C e')) (hfr:∀σ s r s1,ev C e' .v σ s=.ok r s1→∃ts,r=.val (.lst ts)):PE X e (tV G X C e'):=
 PE.imp hE fun σV H Q ⟨w₀,H₀,w,σ,s,g,h⟩=>⟨w₀,H₀,w,σ,s,g,want_o (hfr σ s) h⟩
theorem sO_lst {es:List Expr} {es':List E} (h:PA X es (tA G X C es')) (hz:es'.length≤sizeLine):PE X (.List es pos) (tO G X C (.lst es')):=by
 refine PE.imp (pe_lst h) ?_
 rintro σV H Q ⟨w₀,H₀,w,σ,s,g,h⟩
 have h:WantO G X σV w H ((evs C es' σ s).bind fun ts s1=>.ok (.val (.lst ts)) s1) Q:=h
 refine⟨w₀,H₀,w,σ,s,g,?_⟩
 cases hf:evs C es' σ s with
 | stuck=>rw[hf] at h;exact h
 | exc c s2=>rw[hf] at h;exact h
 | ok ts s2=>
  rw[hf] at h
  intro w2 H2 vs L2 S2 R2
  refine⟨by rw[← R2.length,zad0 C _ _ _ _ _ hf];exact hz,?_⟩
  exact fin_own S2 R2 (WantO.mono L2 h)
def r1O (G:Gx) (f:R→Option R):V→Hp→VK→Prop:=fun x H Q=>∃w s rx ts,StoOk G w H s∧RepD G w H rx x∧f rx=some (.val (.lst ts))∧∀w' H' a vs,Le w w' H H'→StoOk G w' H' s→H' a=some (.lst vs)→Reps G w' H' ts vs→H a=none→¬w'.Z a→notLoc w' a→Q (.ref a) H'
theorem t1O_of {f:R→Option R} (h:∃w₀ H₀ w σ s,Good G w₀ H₀ w H σ s σV∧WantO G X σV w H ((ev C a' .v σ s).bind fun x s1=>.of (f (x.dr s1)) s1) Q):tV G X C a' σV H fun v H1=>r1O G f v H1 Q:=by
 obtain⟨w₀,H₀,w,σ,s,g,h⟩:=h
 refine⟨w₀,H₀,w,σ,s,g,(WantO.bind h).imp ?_⟩
 rintro v H1 ⟨w1,r1,s1,L1,S1,R1,h1⟩
 obtain⟨ts,e,q⟩:=WantO.of h1
 exact⟨w1,s1,_,ts,S1,R1.dr S1,e,q⟩
theorem c_listO:CallR X (.type "list") (fun xs H Q=>∃v,xs=[v]∧r1O G (b1R .list) v H Q):=by
 refine CallR.imp zach ?_
 rintro xs H Q ⟨v,rfl,w,s,rx,ts,S,R1,e,q⟩
 obtain⟨us,ht,er⟩:=map_some e
 cases er
 obtain⟨pa,vs,rfl,hp,rp⟩:=RepD.sq2 R1 ht
 exact⟨pa,vs,rfl,hp.imp (fun h=>.inl h) (fun h=>SqT.of h),fin_own S rp q⟩
theorem sO_list (hg:Gl X "list") (hm:X.mg "list"=none) (ha:PE X a (tV G X C a')) (hs:starEach [a] X.env=[(false,eval a X.env)]):PE X (.Call (.Name "list" p) [a] [] pos) (tO G X C (.b1 .list a')):=by
 refine PE.imp (zad5 (c_listO (G:=G)) hg hm (by rfl) (zaa4 ha pa_nil hs) (by decide) (by decide) hs rfl) ?_
 rintro σV H Q ⟨w₀,H₀,w,σ,s,g,h⟩
 have h:WantO G X σV w H ((ev C a' .v σ s).bind fun x s1=>.of (b1R .list (x.dr s1)) s1) Q:=h
 obtain⟨w₀,H₀,w,σ,s,g,h⟩:=t1O_of ⟨w₀,H₀,w,σ,s,g,h⟩
 exact⟨w₀,H₀,w,σ,s,g,h.imp fun v H1 q=>⟨v,rfl,q⟩⟩
end
end IP
end
section
set_option Elab.async false
set_option linter.all false
set_option maxRecDepth 100000
namespace IP
open PySem PySem.Spec L2
section
variable {G:Gx} {X:Cx} {C:Cf} {w w' w₀:Wo} {H H' H₀:Hp} {σ σ':Fr} {σV σV':St} {a b e:Expr} {a' b' e':IP.E} {pos p p2:Pos} {Q:VK} {i:Nat} {x:Str}
def spG (G:Gx) (cf:Nat→List R→Sto→Res R) (fr:Nat→Bool) (f:Nat):Sp:=fun vs H Q E=>∃w s rs,StoOk G w H s∧RepRs G w H rs vs∧match cf f rs s with
 | .stuck=>False
 | .ok r s'=>(fr f=false→∀w' H' v,Le w w' H H'→StoOk G w' H' s'→RepR G w' H' r v→Q v H')∧
   (fr f=true→∃ts,r=.val (.lst ts)∧∀w' H' a vs,Le w w' H H'→StoOk G w' H' s'→H' a=some (.lst vs)→Reps G w' H' ts vs→H a=none→¬w'.Z a→notLoc w' a→Q (.ref a) H')
 | .exc c s'=>∀w' H',Le w w' H H'→StoOk G w' H' s'→E (.ref (G.cA c)) none H'
variable {k fi:Nat} {fa:Addr} {fd:FuncData} {ps:List Str} {e₀:Expr} {es:List Expr} {es':List IP.E} {rs:List R} {vs:List V}
end
section
variable {fs:List Fn} {sub:Nat→Nat→Bool} {k fi:Nat}
variable {G:Gx} {P:Program} {w:World} {K:PySem.W.Frag} {mg:Str→Option Value} {base:Heap}
theorem zab3 {F:Fn} {rs:List R} {i:Nat} {b:B} (h:(enter F rs)[i]?=some (some b)):∃r,rs[i]?=some r∧ofR r=b:=by
 unfold enter at h
 by_cases hi:i < rs.length
 ·rw[List.getElem?_append_left (by simpa using hi),List.getElem?_map] at h
  cases q:rs[i]? with
  | none=>rw[q] at h;cases h
  | some r=>rw[q] at h;cases h;exact⟨r,rfl,rfl⟩
 ·rw[List.getElem?_append_right (by simpa using hi),List.getElem?_replicate] at h
  split at h<;>cases h
theorem RepRs.get {wo:Wo} {H:Hp}:∀{rs:List R} {vs:List V} {i:Nat} {r:R},RepRs G wo H rs vs→rs[i]?=some r→∃v,vs[i]?=some v∧RepR G wo H r v
 | [],_,i,t,h,e=>by simp at e
 | t::ts,_,0,u,⟨v,r,e,h,q⟩,z=>by subst e;simp at z;subst z;exact⟨v,rfl,h⟩
 | t::ts,_,i+1,u,⟨v,r,e,h,q⟩,z=>by
  subst e
  obtain⟨x,h1,h2⟩:=RepRs.get q (i:=i) (r:=u) (by simpa using z)
  exact⟨x,by simpa using h1,h2⟩
theorem zadx {N:List Str} {vs:List V} {i:Nat} {v:V} (h:vs[i]?=some v):(L2.start N vs)[i]?=some (some v):=by
 unfold L2.start
 have hi:=(List.getElem?_eq_some_iff.mp h).1
 rw[List.getElem?_append_left (by simpa using hi),List.getElem?_map,h]
 rfl
theorem zafn {wo:Wo} {H:Hp} {s:Sto} {F:Fn} {rs:List R} {vs:List V} {N:List Str} (S:StoOk G wo H s) (R1:RepRs G wo H rs vs) (hs:F.size=N.length):Good G wo H wo H (enter F rs) s (L2.start N vs):=by
 refine⟨S,⟨?_,fun i t e=>?_,fun i b ts e eb=>?_,fun i j b c ts us a ne e eb=>?_,fun i ts e=>?_⟩,Le.refl _ _⟩
 ·unfold enter L2.start
  rw[List.length_append,List.length_append,List.length_map,List.length_map,List.length_replicate,List.length_replicate,hs,R1.length]
 ·obtain⟨r,hr,q⟩:=zab3 e
  obtain⟨v,hv,rv⟩:=R1.get hr
  cases r with
  | val u=>cases q;exact⟨v,zadx hv,rv⟩
  | bor u=>cases q
 ·obtain⟨r,hr,q⟩:=zab3 e
  cases r<;>subst q<;>cases eb
 ·obtain⟨r,hr,q⟩:=zab3 e
  cases r<;>subst q<;>cases eb
 ·obtain⟨r,hr,q⟩:=zab3 e
  obtain⟨v,hv,rv⟩:=R1.get hr
  cases r with
  | val u=>cases q
  | bor u=>
   cases q
   obtain⟨a,xs,e1,e2,e3,e4⟩:=rv
   subst e1
   exact⟨a,xs,zadx hv,e2,e3,(by rw[e2];intro z;cases z),e4⟩
end
end IP
end
section
set_option Elab.async false
set_option linter.all false
set_option maxRecDepth 100000
namespace IP
open PySem PySem.Spec L2
section
variable {G:Gx} {X:Cx} {pins:List (Addr×Obj)} {σV:St} {H:Hp} {c:Nat} {u:Value} {sh:Shared}
theorem zaf0 {s:Shared} (I:Inv X pins σV H s):X.base.StaysIn (PySem.W.hideAll s.heap (frs X.stack)):=fun b o e=>
 zaan.mpr ⟨I.bk b o e,fun z=>by have:=(I.stack.mem z).1;rw[e] at this;cases this⟩
theorem zaep {s:Shared} (I:Inv X pins σV H s) {h':Heap} {e:Addr} {args:List Value} (hm:Heap.MadeExcOf s.heap h' e (.ref (G.cA c)) args):Thrown G X pins σV H c (.ref e) { s with heap:=h' }:=
 ⟨e,s.heap,PySem.W.hideAll s.heap (frs X.stack),rfl,I,⟨fun _ _=>zaan,fun b o q _=>hm.keeps b o q,fun b o q _=>⟨o.slots,hm.keeps b o q⟩,hm.new⟩,zaf0 I,.inl ⟨args,hm⟩⟩
theorem zacb {E E':Value→Shared→Prop} {Q:Unit→Shared→Prop} (hst:HasFr X) (T:Thrown G X pins σV H c u sh)
  (hQ:∀e h B h' t,u=.ref e→Inv X pins σV H { sh with heap:=h }→Flt X.stack h B e h'→X.base.StaysIn B→Heap.FlyingW B X.stack e (.ref (G.cA c)) t h'→Q () { sh with heap:=h' }):
  wpAny (model X.prog X.w) X.A (noteFrame u X.env) (fun _ s2=>wpAny (model X.prog X.w) X.A (setFlight u none) Q E s2) E' sh:=by
 refine zab8 hst T fun e h B h1 t L eu I F sb hh=>?_
 subst eu
 refine wpAny_landsW (s:={ sh with heap:=h1 }) hh fun h2 hfl sm2=>?_
 exact hQ e h B h2 t rfl I (F.next I.stack hfl.1 sm2) sb hfl
theorem zacz {M:Model} {A:Around} {E:Value→Shared→Prop} {s:Shared} {env:Env} {u:Value} {Q:Unit→Shared→Prop} (h:wpAny M A (noteFrame u env) (fun _ s2=>wpAny M A (setFlight u none) Q E s2) E s):wpAny M A (leaving env u) Q E s:=by
 unfold leaving
 exact wpAny_bind h
theorem zadc {h B h':Heap} {e:Addr} (I:Inv X pins σV H { sh with heap:=h }) (F:Flt X.stack h B e h'):Inv X pins σV H { sh with heap:=h' }:=by
 have nfr:∀b,H b≠none→b∉frs X.stack:=fun b n z=>n (I.stkFree b z)
 have upsl:∀b o,h.get? b=some o→∃sl,h'.get? b=some { o with slots:=sl }:=fun b o q=>by
  by_cases z:b∈frs X.stack
  ·exact F.slot b o q z
  ·exact⟨o.slots,F.keep b o q z⟩
 have ncell:∀{b:Addr} {v:Option Value},h.IsCell b v→h'.IsCell b v:=fun {b v} ⟨o,q,d⟩=>by
  obtain⟨sl,e⟩:=upsl b o q
  exact⟨_,e,d⟩
 have old:∀b o,X.s₀.heap.get? b=some o→b∉X.fs→b∉frs X.stack:=fun b o q n z=>by
  rcases List.mem_cons.mp (I.stkSub b z) with r | r
  ·rw[r] at q
   exact absurd (Heap.lt_size q) (Nat.not_lt.mpr I.ok.above)
  ·exact n r
 refine⟨I.ok,I.os,I.bare,⟨fun b o q n hb hx=>?_,fun b o q n hb hx=>?_,I.base.free,fun b o q hx=>?_,I.base.tups,I.base.frzs,I.base.tbls⟩,?_,fun x c q=>?_,I.free,I.freeC,fun p hp=>?_,fun a o q=>?_,I.len⟩
 ·exact F.keep b o (I.base.keep b o q n hb hx) (old b o q hb)
 ·obtain⟨sl,e1⟩:=I.base.slot b o q n hb hx
  obtain⟨sl',e2⟩:=upsl b _ e1
  exact⟨sl',e2⟩
 ·obtain⟨o',e1⟩:=I.base.there b o q hx
  obtain⟨sl',e2⟩:=upsl b _ e1
  exact⟨_,e2⟩
 ·obtain⟨m,⟨o,es,ep,ho,hd,r⟩,hl⟩:=I.loc
  obtain⟨sl,e1⟩:=upsl _ o ho
  refine⟨m,⟨_,es,ep,e1,hd,r⟩,fun i x v h1 h2 h3=>?_⟩
  obtain⟨w,rv,lk⟩:=hl i x v h1 h2 h3
  refine⟨w,rv,?_⟩
  rcases lk with lk | ⟨lk,cc,lc,ic⟩
  ·exact .inl lk
  ·exact .inr ⟨lk,cc,lc,ncell ic⟩
 ·obtain⟨v,ic⟩:=I.cell x c q
  exact⟨v,ncell ic⟩
 ·obtain⟨p1,p2,p3,p4,p5⟩:=I.pin p hp
  refine⟨F.keep p.1 p.2 p1 fun z=>?_,p2,p3,p4,p5⟩
  rcases List.mem_cons.mp (I.stkSub _ z) with r | r
  ·exact p3 r
  ·exact p4 r
 ·refine(I.hok a o q).stay (fun b v hb r=>F.keep b v r (nfr b ?_)) (fun _ r=>r) fun _ _ r=>r
  rcases hb with rfl | hb
  ·rw[q];intro z;cases z
  ·rw[hb];intro z;cases z
end
end IP
end
section
set_option Elab.async false
set_option linter.all false
set_option maxRecDepth 100000
namespace IP
open PySem PySem.Spec L2
section
variable {G:Gx} {X:Cx} {C:Cf} {pins:List (Addr×Obj)} {σV:St} {H:Hp} {c:Nat} {u:Value} {sh:Shared}
theorem hok_hide {P:Program} {w:World} {h:Heap} {L:Addr} (k:HOk P w H h) (n:H L=none):HOk P w H (PySem.W.hideAll h [L]):=fun a o q=>by
 refine(k a o q).stay (fun b v hb r=>zaan.mpr ⟨r,fun z=>?_⟩) (fun _ r=>r) fun _ _ r=>r
 have z:b=L:=by simpa using z
 subst z
 rcases hb with rfl | hb
 ·rw[n] at q;cases q
 ·rw[n] at hb;cases hb
theorem zafx {P:Program} {w:World} {K:PySem.W.Frag} {mg:Str→Option Value} {base:Heap} {N:List Str} {qual:Str} {scope:Scope} {f:Addr} {cd:Value} {A:Around} {outer:List Env} {s:Shared} {H₁:Hp} {E:XK}
  (T:Thrown G (cxOf (CXE G P w base) P w K mg base N qual scope f cd A outer s H₁ E) pins σV H c u sh) (hE:E (.ref (G.cA c)) none H):(cxOf (CXE G P w base) P w K mg base N qual scope f cd A outer s H₁ E).xe u sh:=by
 refine zacz (zacb (X:=cxOf (CXE G P w base) P w K mg base N qual scope f cd A outer s H₁ E) ⟨_,_,_,rfl,rfl,rfl⟩ T fun e h B h' t eu I F sb fly=>?_)
 have hL:H s.heap.objs.size=none:=I.free
 have un:=I.base
 obtain⟨f1,f2,⟨_,_,f3⟩,f4⟩:=fly
 have hne:∀b,b < s.heap.objs.size→b∉[s.heap.objs.size]:=fun b hb z=>by
  have:b=s.heap.objs.size:=by simpa using z
  omega
 refine⟨e,_,t,H,PySem.W.hideAll h [s.heap.objs.size],B,eu,I.os,I.bare,⟨fun b o q n hb hx=>?_,fun b o q n hb hx=>?_,un.free,fun b o q hx=>?_,un.tups,un.frzs,un.tbls⟩,hok_hide I.hok hL,⟨fun b o=>?_,fun b o q n=>?_,fun b o q n=>?_,?_⟩,sb,⟨f1,f2,f3,f4⟩,hE⟩
 ·exact zaan.mpr ⟨un.keep b o q n hb hx,hne b (Heap.lt_size q)⟩
 ·obtain⟨sl,z⟩:=un.slot b o q n hb hx
  exact⟨sl,zaan.mpr ⟨z,hne b (Heap.lt_size q)⟩⟩
 ·obtain⟨o',z⟩:=un.there b o q hx
  exact⟨o',zaan.mpr ⟨z,hne b (Heap.lt_size q)⟩⟩
 ·rw[F.cov b o,zaan]
  have efs:b∈frs (cxOf (CXE G P w base) P w K mg base N qual scope f cd A outer s H₁ E).stack↔b∈[s.heap.objs.size]∨b∈frs outer:=by
   show b∈s.heap.objs.size::frs outer↔_
   simp
  rw[efs]
  exact⟨fun⟨a,z⟩=>⟨⟨a,fun y=>z (.inl y)⟩,fun y=>z (.inr y)⟩,fun⟨⟨a,y⟩,z⟩=>⟨a,fun y'=>y'.elim y z⟩⟩
 ·obtain⟨a,y⟩:=zaan.mp q
  refine F.keep b o a fun z=>?_
  rcases List.mem_cons.mp (show b∈s.heap.objs.size::frs outer from z) with r | r
  ·exact y (by simp[r])
  ·exact n r
 ·obtain⟨a,y⟩:=zaan.mp q
  exact F.slot b o a (List.mem_cons_of_mem _ n)
 ·cases q:(PySem.W.hideAll h [s.heap.objs.size]).get? e with
  | none=>rfl
  | some o=>have:=(zaan.mp q).1;rw[F.new] at this;cases this
theorem passes_leave {Q:Value→Unit→Shared→Prop} {E₁:Value→Value→Shared→Prop} (hx:X.xe=fun e s=>wpAny (model X.prog X.w) X.A (leaving X.env e) (Q e) (E₁ e) s):PassesOwn (model X.prog X.w) X.A X.env X.xe:=by
 intro e s' h
 rw[hx] at h
 have h2:=wpAny_leaving_again (A':=X.A) (A'':=X.A) (SameStack.refl X.A) (what:="frame.own-activation:exception-without-traceback") (E₂:=X.xe) (E₃:=cameBackBy (model X.prog X.w) X.A X.env X.xe) h
 refine wpAny_mono h2 (fun _ s1 q=>?_) fun _ _ z=>z
 refine wpAny_mono q (fun _ s2 z=>?_) fun _ _ z=>z
 show X.xe e s2
 rw[hx]
 exact z
end
end IP
end
section
set_option Elab.async false
set_option linter.all false
set_option maxRecDepth 100000
namespace IP
open PySem PySem.Spec L2
section
variable {G:Gx} {X:Cx} {C:Cf} {w w' w₀:Wo} {H H' H₀:Hp} {σ σ':Fr} {σV σV':St} {a b e:Expr} {a' b' e':IP.E} {pos p p2:Pos} {Q:VK} {i:Nat} {x:Str}
variable {k fi:Nat} {fa:Addr} {fd:FuncData} {ps:List Str} {e₀:Expr} {es:List Expr} {es':List IP.E} {rs:List R} {vs dvs:List V} {ds:List Value} {dts:List T}
theorem spG_vE {H1:Hp} {w1:Wo} {s1:Sto} (hf:C.fr fi=false) (L1:Le w w1 H H1) (S1:StoOk G w1 H1 s1) (R1:RepRs G w1 H1 rs vs) (h:Want G X σV w H (C.cf fi rs s1) Q):spG G C.cf C.fr fi vs H1 Q (EX G X σV):=by
 refine⟨w1,s1,rs,S1,R1,?_⟩
 have h:=Want.mono L1 h
 cases hc:C.cf fi rs s1 with
 | stuck=>rw[hc] at h;exact h
 | ok r s'=>rw[hc] at h;exact⟨fun _=>h,fun z=>by rw[hf] at z;cases z⟩
 | exc c s'=>
  rw[hc] at h
  intro w' H' L S pins u sh hh B a t e I fl sb fly
  exact h w' H' pins u sh L S ⟨a,hh,B,e,I,fl,sb,.inr (.inl ⟨t,fly⟩)⟩
theorem sV_callX (hf:C.fr fi=false) (F:FnOk X.prog X.w X.K X.mg X.base (CXE G X.prog X.w X.base) k fa fd ps (spG G C.cf C.fr fi)) (hr:Room k X.A) (hg:Gl X x) (hm:X.mg x=some (.ref fa)) (hk:PySem.W.keepIn X.K (.ref fa)=true) (hb:Binds X.K fd ps ds) (hd:Vals dvs ds)
  (hdt:dts.mapM cstV=some dvs) (ha:PA X (e₀::es) (tR G X C es')) (hdb:(x==("__debug__":Str))=false) (he:starEach (e₀::es) X.env=(false,eval e₀ X.env)::starEach es X.env) (hpl:(backTo pos (starEach es X.env)).any (·.1)=false):
  PE X (.Call (.Name x p) (e₀::es) [] pos) (tV G X C (.call fi es' dts)):=by
 rintro pins s σV H Q I ⟨w₀,H₀,w,σ,st,g,h⟩
 have h:Want G X σV w H ((evr C es' σ st).bind fun rs s1=>C.cf fi (rs++dts.map .val) s1) Q:=h
 refine wpAny_Call_Name_kw (zadk I hg hm ?_ hdb)
 refine PySem.W.callWith_K (h₀:=X.base) I.ok.mod.kin hk (thn (ha pos pins s σV H _ I ⟨w₀,H₀,w,σ,st,g,zac0 h⟩) fun us s1 ⟨vs,H1,I1,r,q⟩=>⟨I1.kIn,?_⟩) he hpl
 obtain⟨w1,rs,st1,L1,S1,R1,h1⟩:=q
 exact zadp F hr hb hd I1 r (spG_vE hf L1 S1 (zaa1 R1 (zabn hdt)) h1) (zab4 I1)
end
structure FunD (K:PySem.W.Frag) (x qual:Str) (st:Stmt) (f:Addr) (fd:FuncData):Prop where
 ex:∃(oc:Value) (od:Option Addr) (dV kV doc pm:Value) (an:Option Addr) (cdv ct:Value) (osl:Array (Option Value)),
  fd=PySem.W.fnOf x qual (zaaf st) (zaae st) (zaab st) dV kV doc pm an cdv ct∧K.lookup f=some ⟨oc,od,.func fd,osl⟩∧PySem.W.codeIn K cdv qual=true
 kp:PySem.W.keepIn K (.ref f)=true
theorem zaaj {K:PySem.W.Frag} {x qual:Str} {st:Stmt} {f:Addr} {oc:Value} {od an:Option Addr} {osl:Array (Option Value)} {dV kV doc pm cdv ct:Value} (l:K.lookup f=some ⟨oc,od,.func (PySem.W.fnOf x qual (zaaf st) (zaae st) (zaab st) dV kV doc pm an cdv ct),osl⟩)
  (c:PySem.W.codeIn K cdv qual=true) (k:PySem.W.keepIn K (.ref f)=true):FunD K x qual st f (PySem.W.fnOf x qual (zaaf st) (zaae st) (zaab st) dV kV doc pm an cdv ct):=⟨⟨oc,od,dV,kV,doc,pm,an,cdv,ct,osl,rfl,l,c⟩,k⟩
section
variable {fs:List Fn} {sub:Nat→Nat→Bool} {k fi:Nat}
variable {G:Gx} {P:Program} {w:World} {K:PySem.W.Frag} {mg:Str→Option Value} {base:Heap}
theorem zaad {CX:CXT} {f:Addr} {fd:FuncData} {ps:List Str} {k:Nat}:FnOk P w K mg base CX k f fd ps (spG G (run true fs sub whileL 0) (frOf fs) fi):=
 ⟨fun vs H Q E ⟨_,_,_,_,_,z⟩=>z.elim,fun A outer s H args us vs Q E hr e0 hb hv ⟨_,_,_,_,_,z⟩=>z.elim⟩
@[reducible] noncomputable def cfX (fs:List Fn) (sub:Nat→Nat→Bool) (k:Nat):Cf:=⟨run true fs sub whileL k,sub,frOf fs,whileL⟩
theorem fn_okL {x qual:Str} {st:Stmt} {f:Addr} {fd:FuncData} {N ps:List Str} {F:Fn} (Fu:FunD K x qual st f fd) (S:FnScope N ps (zaab st)) (hF:fs[fi]?=some F) (hp:F.pars=ps.length) (hs:F.size=N.length)
  (hbody:∀(cdv:Value) (A:Around) (outer:List Env) (s:Shared) (H:Hp) (E:XK),fd.code=cdv→Room (2*k+1) (A.deeper (PyProof.Rows.envOfC qual (zaab st) s.heap.objs.size f cdv))→
   PSs (cxOf (CXE G P w base) P w K mg base N qual (zaab st) f cdv A outer s H E) (zaae st) (tSs G (cxOf (CXE G P w base) P w K mg base N qual (zaab st) f cdv A outer s H E) (cfX fs sub k) F.body)):
  FnOk P w K mg base (CXE G P w base) (2*(k+1)) f fd ps (spG G (run true fs sub whileL (k+1)) (frOf fs) fi):=by
 have hrun:∀rs s,run true fs sub whileL (k+1) fi rs s=if rs.length=F.pars then leave true F.fr (exs (cfX fs sub k) F.body (enter F rs) s) else .stuck:=fun rs s=>by
  conv=>lhs;unfold run
  rw[hF]
 have hfr:frOf fs fi=F.fr:=by unfold frOf;rw[hF]
 obtain⟨oc,od,dV,kV,doc,pm,an,cdv,ct,osl,rfl,lk,hcd⟩:=Fu.ex
 refine fn_of (k:=2*k+1) lk hcd S (fun vs H Q E h=>?_) fun A outer s H vs Q E hr h=>⟨_,hbody cdv A outer s H E rfl hr,?_⟩
 ·obtain⟨wo,st,rs,S1,R1,h⟩:=h
  rw[hrun] at h
  by_cases hl:rs.length=F.pars
  ·exact R1.length.symm.trans (hl.trans hp)
  ·rw[if_neg hl] at h;exact h.elim
 ·obtain⟨wo,st,rs,S1,R1,h⟩:=h
  rw[hrun] at h
  by_cases hl:rs.length=F.pars
  ·rw[if_pos hl] at h
   refine⟨wo,H,wo,enter F rs,st,zafn S1 R1 hs,?_⟩
   rw[hfr] at h
   cases hx:exs (cfX fs sub k) F.body (enter F rs) st with
   | stuck=>rw[hx] at h;exact h.elim
   | next σ' s'=>
    rw[hx] at h
    cases hb:F.fr with
    | true=>rw[hb] at h;exact h.elim
    | false=>rw[hb] at h;exact fun w' H' σV' g L=>h.1 rfl w' H' .non g.ent g.sto rfl
   | ret r s'=>
    rw[hx] at h
    cases hb:F.fr with
    | true=>rw[hb] at h;exact h.elim
    | false=>rw[hb] at h;exact fun w' H' v S R L=>h.1 rfl w' H' v L S R
   | retO ts s'=>
    rw[hx] at h
    cases hb:F.fr with
    | false=>rw[hb] at h;exact h.elim
    | true=>
     rw[hb] at h
     obtain⟨us,e,q⟩:=h.2 rfl
     cases e
     exact fun w' H' a vs S ha r hn nz nl L=>q w' H' a vs L S ha r hn nz nl
   | exc c σ' s'=>
    rw[hx] at h
    exact fun w' H' σV' pins u sh g L T=>zafx T (h w' H' g.ent g.sto)
  ·rw[if_neg hl] at h;exact h.elim
theorem fn_okX {x qual:Str} {st:Stmt} {f:Addr} {fd:FuncData} {N ps:List Str} {F:Fn} (Fu:FunD K x qual st f fd) (S:FnScope N ps (zaab st)) (hF:fs[fi]?=some F) (hp:F.pars=ps.length) (hs:F.size=N.length)
  (hbody:∀(cdv:Value) (A:Around) (outer:List Env) (s:Shared) (H:Hp) (E:XK),Room (2*k+1) (A.deeper (PyProof.Rows.envOfC qual (zaab st) s.heap.objs.size f cdv))→
   PSs (cxOf (CXE G P w base) P w K mg base N qual (zaab st) f cdv A outer s H E) (zaae st) (tSs G (cxOf (CXE G P w base) P w K mg base N qual (zaab st) f cdv A outer s H E) (cfX fs sub k) F.body)):
  FnOk P w K mg base (CXE G P w base) (2*(k+1)) f fd ps (spG G (run true fs sub whileL (k+1)) (frOf fs) fi):=
 fn_okL Fu S hF hp hs fun cdv A outer s H E _ hr=>hbody cdv A outer s H E hr
end
end IP
end
section
set_option Elab.async false
set_option linter.all false
set_option maxRecDepth 100000
namespace IP
open PySem PySem.Spec L2
theorem exc_obj {K:PySem.W.Frag} {h:Heap} {Ca:Addr} {bB:List Value} {nid:String} (hK:K.In h) (q:PySem.W.excIn K Ca bB nid=true):
  ∃bm N nm qn bs hdct sn sub ab col dd k0 k1 k2 k3 k5 mN,h.get? Ca=some (excClassObj nm qn Ca N bs bm hdct sn sub ab col dd k0 k1 k2 k3 k5 nid)∧h.Ns N mN∧mN "__init__"=none∧OwnTail h bB bm:=by
 unfold PySem.W.excIn at q
 split at q
 ·rename_i d1 cl sl ho
  split at q
  ·rename_i Cb tl u0 u1 u2 u3 nn u5 em es
   simp only[Bool.and_eq_true,beq_iff_eq,Bool.not_eq_true'] at q
   obtain⟨⟨⟨⟨⟨q1,q2⟩,q3⟩,q4⟩,q5⟩,q6⟩:=q
   subst q1 q2
   obtain⟨nm0,bs0,mro0,ns0,qn0,hd0,sn0,sub0,ab0,col0,del0⟩:=cl
   dsimp only at em q3 q5 q6
   subst em q3
   have hg:=hK _ _ ho
   have esl:sl=#[u0,u1,u2,u3,some (.builtin nn),u5]:=by
    apply Array.toList_inj.mp
    rw[es]
   subst esl
   exact⟨tl,ns0,nm0,qn0,bs0,hd0,sn0,sub0,ab0,col0,d1,u0,u1,u2,u3,u5,_,hg,.of_isNs (PySem.W.isNs_of_in hK q5),PySem.W.nsMap_none_of_in hK q5 q6,PySem.W.tail_of_in hK q4⟩
  ·cases q
 ·cases q
section
variable {G:Gx} {X:Cx} {C:Cf} {w w' w₀:Wo} {H H' H₀:Hp} {σ σ':Fr} {σV σV':St} {c:Nat} {x:Str} {np cpos pos mp:Pos} {m:Str} {j:Nat}
theorem sS_raise {bB:List Value} {B nid iid:String} (hc:X.calm=true) (hg:Gl X x) (hm:X.mg x=some (.ref (G.cA c))) (hq:PySem.W.excIn X.K (G.cA c) bB nid=true) (FB:ExcBaseFacts B nid iid bB) (hdb:(x==("__debug__":Str))=false)
  (he:starEach [.Constant (.str m) j mp] X.env=[(false,eval (.Constant (.str m) j mp) X.env)]):PS X (.Raise (some (.Call (.Name x np) [.Constant (.str m) j mp] [] cpos)) none pos) (tS G X C (.raise c)):=by
 rintro pins s σV H D I ⟨w₀,H₀,w,σ,st,g,h⟩
 have hx:∀u sh,Thrown G X pins σV H c u sh→X.xe u sh:=fun u sh T=>h w H σV pins u sh g LeS.refl T
 obtain⟨tl,N,nm,qn,bs,hdct,sn,sub,ab,col,dd,k0,k1,k2,k3,k5,mN,hC,hN,hni,T⟩:=exc_obj (I.ok.mod.kin) hq
 refine wpAny_Raise_call_subT (C:=G.cA c) (nm:=nm) (q:=qn) (N:=N) (bs:=bs) (bm:=tl) (hdct:=hdct) (sn:=sn) (sub:=sub) (ab:=ab) (col:=col) (dd:=dd) (k0:=k0) (k1:=k1) (k2:=k2) (k3:=k3) (k5:=k5)
  FB (mN:=mN) (T.hasType FB.hasBase) (I.ok.hd hc) (by rw[he];rfl) hni (zadk I hg hm ⟨rfl,?_⟩ hdb)
 have ha:PA X [.Constant (.str m) j mp] (tCons (tC (.str m)) tNil):=zaa4 pe_str pa_nil (by rw[he];rfl)
 have z:=ha cpos pins s σV H (fun vs H1=>vs=[.str m]∧H1=H) I ⟨rfl,rfl⟩
 rw[he] at z ⊢
 refine PySem.Calls.evalArgs_plain (wpAny_mono z (fun vs s₂ h₂=>?_) fun _ _ y=>y)
 obtain⟨ws,H1,I1,rv,rfl,rfl⟩:=h₂
 have hl:=rv.length
 refine⟨rfl,?_,I1.bk _ _ hC,hN.keeps I1.bk,T.keeps I1.bk,fun h' e hmd=>hx _ _ (zaep I1 hmd)⟩
 show vs.length≤sizeLine
 rw[← hl]
 show 1≤sizeLine
 decide
end
section
variable {M:Model} {A:Around} {E:Value→Shared→Prop} {s:Shared} {env:Env}
theorem try_leave {body orelse:Sem Flow} {h₀:ExceptHandler} {hs:List ExceptHandler} {Q:Flow→Shared→Prop}
  (h:wpAny M A body (fun f s₁=>match f with | .next=>wpAny M A orelse Q E s₁ | f=>Q f s₁)
   (fun e s₁=>wpAny M A (leaving env e) (fun _ s₃=>wpAny M A (handleBy e env (h₀::hs)) Q E s₃) E s₁) s):
  wpAny M A (tryStmt false body (h₀::hs) orelse [] env) Q E s:=by
 have e0:tryStmt false body (h₀::hs) orelse [] env=(body.attempt >>= fun r=>match r with
   | .ok .next=>orelse
   | .ok f=>pure f
   | .error e=>leaving env e >>= fun _=>handleBy e env (h₀::hs)):=by
  unfold tryStmt
  simp only[List.isEmpty_nil,if_true,List.isEmpty_cons,Bool.false_and,Bool.false_eq_true,if_false,bind_pure]
  congr 1
  funext r
  cases r with
  | error e=>unfold leaving;simp only[bind_assoc,pure_bind]
  | ok f=>cases f<;>rfl
 rw[e0]
 refine wpAny_bind (wpAny_attempt (wpAny_mono h (fun f s₁ h₁=>?_) fun e s₁ h₁=>?_))
 ·cases f<;>first | exact h₁ | exact wpAny_pure h₁
 ·exact wpAny_bind h₁
end
end IP
end
section
set_option Elab.async false
set_option linter.all false
set_option maxRecDepth 100000
namespace IP
open PySem PySem.Spec L2
def Wo.addL (w:Wo) (a:Addr):Wo:={ n:=w.n+1,io:=fun k=>if k=w.n then a else w.io k,Z:=w.Z }
theorem zaa6 {w:Wo} {a:Addr} {l:Nat} (h:l < w.n):(w.addL a).io l=w.io l:=by
 show(if l=w.n then a else w.io l)=w.io l
 rw[if_neg (Nat.ne_of_lt h)]
theorem zabj {w:Wo} {a:Addr}:(w.addL a).io w.n=a:=by
 show(if w.n=w.n then a else w.io w.n)=a
 rw[if_pos rfl]
section
variable {G:Gx} {X:Cx} {C:Cf} {w w' w₀:Wo} {H H' H₀:Hp} {σ σ':Fr} {σV σV':St} {s:Sto} {a:Addr} {l:Nat}
theorem zafq:Kp w (w.addL a) H H:=⟨Nat.le_succ _,fun l h=>zaa6 h,fun _ z=>z,fun _ _ _ r=>r,fun _ _ e=>e,fun _ _ e=>e⟩
theorem CellOk.addL {b:Addr}:∀{c:Cell},CellOk G w H b c→CellOk G (w.addL a) H b c
 | .lst ts,⟨vs,h,r⟩=>⟨vs,h,Reps.kp zafq ts vs r⟩
 | .ins c fs,⟨dx,kvs,h,z,k⟩=>⟨dx,kvs,h,z,fun i x t h1 h2=>let ⟨v,q1,q2⟩:=k i x t h1 h2;⟨v,q1,Rep.kp zafq t v q2⟩⟩
 | .tbl k p q,h=>h
theorem StoOk.addL {c:Cell} (S:StoOk G w H s) (hc:CellOk G (w.addL a) H a c) (nz:¬w.Z a) (nl:IP.notLoc w a):StoOk G (w.addL a) H (s++[c]) where
 len:=by rw[List.length_append,S.len];rfl
 inj:=fun i j hi hj e=>by
  have hi:i < w.n+1:=hi
  have hj:j < w.n+1:=hj
  by_cases h1:i < w.n
  ·by_cases h2:j < w.n
   ·rw[zaa6 h1,zaa6 h2] at e
    exact S.inj i j h1 h2 e
   ·have:j=w.n:=by omega
    subst this
    rw[zaa6 h1,zabj] at e
    exact absurd e.symm (nl i h1)
  ·have:i=w.n:=by omega
   subst this
   by_cases h2:j < w.n
   ·rw[zaa6 h2,zabj] at e
    exact absurd e (nl j h2)
   ·omega
 nz:=fun i hi z=>by
  have hi:i < w.n+1:=hi
  by_cases h1:i < w.n
  ·rw[zaa6 h1] at z
   exact S.nz i h1 z
  ·have:i=w.n:=by omega
   subst this
   rw[zabj] at z
   exact nz z
 cell:=fun i d e=>by
  by_cases h1:i < w.n
  ·rw[List.getElem?_append_left (by rw[S.len];exact h1)] at e
   rw[zaa6 h1]
   exact CellOk.addL (S.cell i d e)
  ·have hl:=(List.getElem?_eq_some_iff.mp e).1
   rw[List.length_append,S.len] at hl
   have:i=w.n:=by simp at hl;omega
   subst this
   rw[List.getElem?_append_right (by rw[S.len];exact Nat.le_refl _),S.len,Nat.sub_self] at e
   cases e
   rw[zabj]
   exact hc
 zt:=S.zt
theorem Le.addL (L:Le w w' H H') (ha:H a=none):Le w (w'.addL a) H H' where
 n:=Nat.le_trans L.n (Nat.le_succ _)
 io:=fun i h=>(zaa6 (Nat.lt_of_lt_of_le h L.n)).trans (L.io i h)
 Z:=L.Z
 keep:=L.keep
 newL:=fun i h1 h2=>by
  have h2:i < w'.n+1:=h2
  by_cases h:i < w'.n
  ·rw[zaa6 h]
   exact L.newL i h1 h
  ·have:i=w'.n:=by omega
   subst this
   rw[zabj]
   exact ha
 newZ:=L.newZ
 some_:=L.some_
mutual
theorem Rep.updC {o o':HO} (ha:H a=some o) (hz:¬w.Z a) (ht:∀vs,o≠.tup vs) (hx:∀φ,o≠.ext φ):∀(t:T) (v:V),Rep G w H t v→Rep G w (L2.upd H a o') t v
 | .non,v,h=>h
 | .bl b,v,h=>h
 | .int i,v,h=>h
 | .str x,v,h=>h
 | .tup ts,v,⟨p,vs,e,h,r⟩=>⟨p,vs,e,by rw[upd_ne (fun q=>by rw[q,ha] at h;exact ht vs (Option.some.inj h))];exact h,Reps.updC ha hz ht hx ts vs r⟩
 | .lst ts,v,⟨p,vs,e,z,h,r⟩=>by
  have ne:p≠a:=fun q=>hz (q▸z)
  refine⟨p,vs,e,z,?_,Reps.updC ha hz ht hx ts vs r⟩
  rcases h with h | ⟨o,h⟩
  ·exact .inl (by rw[upd_ne ne];exact h)
  ·exact .inr ⟨o,by rw[upd_ne ne];exact h⟩
 | .loc l,v,h=>h
 | .exc c,v,⟨p,e,h⟩=>⟨p,e,by rw[upd_ne (fun q=>by rw[q,ha] at h;exact hx _ (Option.some.inj h))];exact h⟩
theorem Reps.updC {o o':HO} (ha:H a=some o) (hz:¬w.Z a) (ht:∀vs,o≠.tup vs) (hx:∀φ,o≠.ext φ):∀(ts:List T) (vs:List V),Reps G w H ts vs→Reps G w (L2.upd H a o') ts vs
 | [],vs,h=>h
 | t::ts,vs,⟨v,r,e,h,q⟩=>⟨v,r,e,Rep.updC ha hz ht hx t v h,Reps.updC ha hz ht hx ts r q⟩
end
theorem StoOk.setC {o o':HO} {c:Cell} (S:StoOk G w H s) (hl:l < w.n) (ha:H (w.io l)=some o) (ht:∀vs,o≠.tup vs) (hx:∀φ,o≠.ext φ) (hc:CellOk G w (L2.upd H (w.io l) o') (w.io l) c):StoOk G w (L2.upd H (w.io l) o') (s.set l c) where
 len:=by rw[List.length_set];exact S.len
 inj:=S.inj
 nz:=S.nz
 cell:=fun i d e=>by
  by_cases hi:l=i
  ·subst hi
   rw[List.getElem?_set_self (by rw[S.len];exact hl)] at e
   cases e
   exact hc
  ·rw[List.getElem?_set_ne hi] at e
   have hin:i < w.n:=by rw[← S.len];exact(List.getElem?_eq_some_iff.mp e).1
   have ne:w.io i≠w.io l:=fun q=>hi (S.inj i l hin hl q).symm
   have nz:=S.nz l hl
   have q:=S.cell i d e
   cases d with
   | lst ts=>obtain⟨vs,q1,q2⟩:=q;exact⟨vs,by rw[upd_ne ne];exact q1,Reps.updC ha nz ht hx ts vs q2⟩
   | ins c fs=>obtain⟨dx,kvs,q1,q2,q3⟩:=q;exact⟨dx,kvs,by rw[upd_ne ne];exact q1,q2,fun i x t h1 h2=>let ⟨v,z1,z2⟩:=q3 i x t h1 h2;⟨v,z1,Rep.updC ha nz ht hx t v z2⟩⟩
   | tbl k p q'=>obtain⟨q0,ps,q1,q2,q3⟩:=q;exact⟨q0,ps,by rw[upd_ne ne];exact q1,q2,fun cv hcv=>let ⟨c,e1,e2⟩:=q3 cv hcv;⟨c,e1,by rw[upd_ne (ne_of e2 ha (fun z=>hx _ z.symm))];exact e2⟩⟩
 zt:=fun p z=>by
  obtain⟨vs,r⟩:=S.zt p z
  have ne:p≠w.io l:=fun q=>S.nz l hl (q▸z)
  rcases r with r | ⟨o,r⟩
  ·exact⟨vs,.inl (by rw[upd_ne ne];exact r)⟩
  ·exact⟨vs,.inr ⟨o,by rw[upd_ne ne];exact r⟩⟩
theorem Le.setC {o':HO} (L:Le w w' H H') (hl:l < w'.n) (hs:H' (w'.io l)≠none):Le w w' H (L2.upd H' (w'.io l) o') where
 n:=L.n
 io:=L.io
 Z:=L.Z
 keep:=fun p q e nl=>by
  have ne:p≠w'.io l:=fun z=>by
   by_cases h:l < w.n
   ·exact nl l h (z.trans (L.io l h))
   ·have:=L.newL l (Nat.le_of_not_lt h) hl
    rw[← z,e] at this
    cases this
  rw[upd_ne ne]
  exact L.keep p q e nl
 newL:=L.newL
 newZ:=L.newZ
 some_:=fun p z=>by
  by_cases e:p=w'.io l
  ·rw[e,zaaq];intro q;cases q
  ·rw[upd_ne e];exact L.some_ p z
theorem Good.setC {o o':HO} {c:Cell} (g:Good G w₀ H₀ w H σ s σV) (hl:l < w.n) (ha:H (w.io l)=some o) (ht:∀vs,o≠.tup vs) (hx:∀φ,o≠.ext φ) (hc:CellOk G w (L2.upd H (w.io l) o') (w.io l) c):
  Good G w₀ H₀ w (L2.upd H (w.io l) o') σ (s.set l c) σV∧LeS w w H (L2.upd H (w.io l) o') σ σ σV σV:=by
 have nz:=g.sto.nz l hl
 have hn:H (w.io l)≠none:=by rw[ha];intro z;cases z
 refine⟨⟨g.sto.setC hl ha ht hx hc,⟨g.fr.len,fun i t e=>?_,fun i b ts e eb=>?_,g.fr.apart,fun i ts e=>?_⟩,g.ent.setC hl hn⟩,LeS.of ((Le.refl w H).setC hl hn)⟩
 ·obtain⟨v,h1,h2⟩:=g.fr.val i t e
  exact⟨v,h1,Rep.updC ha nz ht hx t v h2⟩
 ·obtain⟨p,vs,h1,h2,h3,h4,h5,h6⟩:=g.fr.own i b ts e eb
  exact⟨p,vs,h1,by rw[upd_ne (h6 l hl)];exact h2,Reps.updC ha nz ht hx ts vs h3,h4,h5,h6⟩
 ·obtain⟨p,vs,h1,h2,h3,h4,h6⟩:=g.fr.bor i ts e
  exact⟨p,vs,h1,by rw[upd_ne (h6 l hl)];exact h2,Reps.updC ha nz ht hx ts vs h3,h4,h6⟩
theorem zaef {r:R} {v:V} {p:Nat×List T} (S:StoOk G w H s) (R1:RepR G w H r v) (h:r.locL s=some p):r=.val (.loc p.1)∧v=.ref (w.io p.1)∧p.1 < w.n∧∃vs,H (w.io p.1)=some (.lst vs)∧Reps G w H p.2 vs:=by
 unfold R.locL at h
 split at h
 ·rename_i l
  split at h
  ·rename_i ts q
   cases h
   obtain⟨hl,e⟩:=R1
   obtain⟨vs,h1,h2⟩:=S.cell l _ q
   exact⟨rfl,e,hl,vs,h1,h2⟩
  ·cases h
 ·cases h
theorem zaf6 {r:R} {v:V} {c:Nat} {p:Nat×List (Option T)} (S:StoOk G w H s) (R1:RepR G w H r v) (h:r.locI s c=some p):r=.val (.loc p.1)∧v=.ref (w.io p.1)∧p.1 < w.n∧s[p.1]?=some (.ins c p.2)∧CellOk G w H (w.io p.1) (.ins c p.2):=by
 unfold R.locI at h
 split at h
 ·rename_i l
  split at h
  ·rename_i d fs q
   split at h
   ·rename_i hd
    subst hd
    cases h
    obtain⟨hl,e⟩:=R1
    exact⟨rfl,e,hl,q,S.cell l _ q⟩
   ·cases h
  ·cases h
 ·cases h
end
end IP
end
section
set_option Elab.async false
set_option linter.all false
set_option maxRecDepth 100000
namespace IP
open PySem PySem.Spec L2
section
variable {G:Gx} {X:Cx} {C:Cf} {w w' w₀:Wo} {H H' H₀:Hp} {σ σ':Fr} {σV σV':St} {a b e j o:Expr} {a' b' e' j':IP.E} {pos pos' p p1 p2 apos:Pos} {Q:VK} {i c f:Nat} {x m:Str}
variable {k fi:Nat} {fa:Addr} {fd:FuncData} {ps:List Str} {e₀:Expr} {es:List Expr} {es':List IP.E} {rs:List R} {vs dvs:List V} {ds:List Value} {dts:List T}
theorem sV_fld (hc:Cls X.K (G.iA c)) (hn:(G.nm c)[f]?=some x) (ha':NoAttr X.K (G.iA c) x) (ha:PE X a (tV G X C a')) (hb:attributeBase a x X.env (eval a X.env)=eval a X.env):PE X (.Attribute a x pos) (tV G X C (.fld a' c f)):=by
 refine PE.imp (pe_fld ha hb) ?_
 rintro σV H Q ⟨w₀,H₀,w,σ,s,g,h⟩
 have h:Want G X σV w H ((ev C a' .v σ s).bind fun x s1=>.of ((fldR s1 x c f).map .val) s1) Q:=h
 refine⟨w₀,H₀,w,σ,s,g,(Want.bind h).imp ?_⟩
 rintro v H1 ⟨w1,r,s1,L1,S1,R1,h1⟩
 obtain⟨r',e,q⟩:=Want.of h1
 obtain⟨t,ht,rfl⟩:=map_some e
 unfold fldR at ht
 split at ht
 ·rename_i l
  split at ht
  ·rename_i d fs hq
   split at ht
   ·rename_i hd
    subst hd
    obtain⟨hl,rfl⟩:=R1
    obtain⟨dx,kvs,z1,z2,z3⟩:=S1.cell l _ hq
    have hf:fs[f]?=some (some t):=by
     cases q2:fs[f]? with
     | none=>rw[q2] at ht;cases ht
     | some u=>rw[q2] at ht;exact congrArg some ht
    obtain⟨u,y1,y2⟩:=z3 f x t hn hf
    exact⟨w1.io l,_,dx,kvs,u,rfl,z1,hc,ha',y1,q w1 H1 u (Le.refl _ _) S1 y2⟩
   ·cases ht
  ·cases ht
 ·cases ht
theorem sV_cell (ha:PE X a (tO G X C a')):PE X a (tV G X C (.cell a')):=by
 refine PE.imp ha ?_
 rintro σV H Q ⟨w₀,H₀,w,σ,s,g,h⟩
 have h:Want G X σV w H ((ev C a' .v σ s).bind fun x s1=>onL x fun ts=>.ok (.val (.loc s1.length)) (s1++[.lst ts])) Q:=h
 refine⟨w₀,H₀,w,σ,s,g,?_⟩
 cases he:ev C a' .v σ s with
 | stuck=>rw[he] at h;exact h
 | exc c s1=>rw[he] at h;exact h
 | ok r s1=>
  rw[he] at h
  match r,h with
  | .val (.lst ts),h=>
   intro w1 H1 p vs L S ha r hn nz nl
   refine h (w1.addL p) H1 (.ref p) (L.addL hn) (S.addL ⟨vs,ha,Reps.kp zafq ts vs r⟩ nz nl) ⟨?_,?_⟩
   ·rw[S.len];exact Nat.lt_succ_self _
   ·rw[S.len,zabj]
  | .val .non,h=>exact h.elim
  | .val (.bl _),h=>exact h.elim
  | .val (.int _),h=>exact h.elim
  | .val (.str _),h=>exact h.elim
  | .val (.tup _),h=>exact h.elim
  | .val (.loc _),h=>exact h.elim
  | .val (.exc _),h=>exact h.elim
  | .bor _,h=>exact h.elim
theorem zad7 {kvs:List (Str×V)} {nm:List Str} (k:KvOk nm kvs) (hm:m∉nm):kvs.lookup m=none:=by
 cases q:kvs.lookup m with
 | none=>rfl
 | some v=>exact absurd (k.2 m (List.mem_map.mpr ⟨(m,v),zacn q,rfl⟩)) hm
theorem onO_w {α:Type} {o:Option α} {f:α→Res R} (h:Want G X σV w H (onO o f) Q):∃a,o=some a∧Want G X σV w H (f a) Q:=by
 cases o with
 | none=>exact h.elim
 | some a=>exact⟨a,rfl,h⟩
theorem zacv {r:R} {v:V} (h:RepR G w H r v) (h2:RepRs G w H rs vs):RepRs G w H (r::rs) (v::vs):=⟨v,vs,rfl,h,h2⟩
theorem sV_methX {pl:Sem Bool} (hf:C.fr fi=false) (hcl:Cls X.K (G.iA c)) (hmt:Meth X.K (G.iA c) m fa) (hnm:m∉G.nm c) (F:FnOk X.prog X.w X.K X.mg X.base (CXE G X.prog X.w X.base) k fa fd ps (spG G C.cf C.fr fi)) (hr:Room k X.A) (hb:Binds X.K fd ps ds) (hd:Vals dvs ds) (hdt:dts.mapM cstV=some dvs)
  (ho:PE X o (tV G X C a')) (ha:PA X (e₀::es) (tR G X C es')) (hst:starEach (e₀::es) X.env=(false,eval e₀ X.env)::starEach es X.env) (hpl:(backTo pos (starEach es X.env)).any (·.1)=false)
  (ht:eval (.Call (.Attribute o m apos) (e₀::es) [] pos) X.env=(do
   let ov ← eval o X.env
   standAt apos.atName
   let (f,first) ← holding [ov] (getMethod ov m pl)
   callWith pos f first (backTo pos (starEach (e₀::es) X.env)) (backToKw pos (keywordEach [] X.env)))):PE X (.Call (.Attribute o m apos) (e₀::es) [] pos) (tV G X C (.meth a' c fi es' dts)):=by
 rintro pins s σV H Q I ⟨w₀,H₀,w,σ,st,g,h⟩
 have h:Want G X σV w H ((ev C a' .v σ st).bind fun x s1=>onO (x.locI s1 c) fun _=>(evr C es' σ s1).bind fun rs s2=>C.cf fi (x::rs++dts.map .val) s2) Q:=h
 refine PySem.W.methodCall_KW (pl:=pl) (thn (ho pins s σV H _ I ⟨w₀,H₀,w,σ,st,g,Want.bind h⟩) fun u s1 ⟨xv,H1,I1,rx,q⟩=>?_) ht
 obtain⟨w1,r,st1,L1,S1,R1,h1⟩:=q
 obtain⟨pp,hp,h1⟩:=onO_w h1
 obtain⟨er,ev',hl,hs,dx,kvs,z1,z2,z3⟩:=zaf6 S1 R1 hp
 subst ev'
 cases rx
 refine zadd I1 z1 hcl hmt (zad7 z2 hnm) ?_
 refine PySem.W.callWith_K (first:=[.ref (w1.io pp.1)]) (h₀:=X.base) I.ok.mod.kin hmt.kp (thn (ha pos pins s1 σV H1 _ I1 ⟨w₀,H₀,w1,σ,st1,g.step L1 S1,zac0 h1⟩) fun us s2 ⟨vs,H2,I2,rv,q2⟩=>⟨I2.kIn,?_⟩) hst hpl
 obtain⟨w2,rs,st2,L2,S2,R2,h2⟩:=q2
 exact zadp (us:=.ref (w1.io pp.1)::us) (vs:=.ref (w1.io pp.1)::vs) F hr hb hd I2 (.cons rfl rv) (spG_vE hf L2 S2 (zacv (R1.mono L2 S1) (zaa1 R2 (zabn hdt))) h2) (zab4 I2)
theorem sV_methX0 {pl:Sem Bool} (hf:C.fr fi=false) (hcl:Cls X.K (G.iA c)) (hmt:Meth X.K (G.iA c) m fa) (hnm:m∉G.nm c) (F:FnOk X.prog X.w X.K X.mg X.base (CXE G X.prog X.w X.base) k fa fd ps (spG G C.cf C.fr fi)) (hr:Room k X.A) (hb:Binds X.K fd ps ds) (hd:Vals dvs ds) (hdt:dts.mapM cstV=some dvs)
  (ho:PE X o (tV G X C a'))
  (ht:eval (.Call (.Attribute o m apos) [] [] pos) X.env=(do
   let ov ← eval o X.env
   standAt apos.atName
   let (f,first) ← holding [ov] (getMethod ov m pl)
   callWith pos f first (backTo pos (starEach [] X.env)) (backToKw pos (keywordEach [] X.env)))):PE X (.Call (.Attribute o m apos) [] [] pos) (tV G X C (.meth a' c fi [] dts)):=by
 rintro pins s σV H Q I ⟨w₀,H₀,w,σ,st,g,h⟩
 have h:Want G X σV w H ((ev C a' .v σ st).bind fun x s1=>onO (x.locI s1 c) fun _=>C.cf fi (x::([]++dts.map .val)) s1) Q:=h
 refine PySem.W.methodCall_KW (pl:=pl) (thn (ho pins s σV H _ I ⟨w₀,H₀,w,σ,st,g,Want.bind h⟩) fun u s1 ⟨xv,H1,I1,rx,q⟩=>?_) ht
 obtain⟨w1,r,st1,L1,S1,R1,h1⟩:=q
 obtain⟨pp,hp,h1⟩:=onO_w h1
 obtain⟨er,ev',hl,hs,dx,kvs,z1,z2,z3⟩:=zaf6 S1 R1 hp
 subst ev'
 cases rx
 refine zadd I1 z1 hcl hmt (zad7 z2 hnm) ?_
 exact PySem.W.callWith_K0 (first:=[.ref (w1.io pp.1)]) I1.kIn hmt.kp (zadp (us:=[.ref (w1.io pp.1)]) (vs:=[.ref (w1.io pp.1)]) F hr hb hd I1 (.cons rfl .nil) (spG_vE hf (Le.refl _ _) S1 (zacv R1 (zaa1 (rs:=[]) (vs:=[]) rfl (zabn hdt))) h1) (zab4 I1))
theorem made_ok {Ca:Addr} {n:Nat} {s1:Sto} {xx dx:Addr} (S:StoOk G w H s1) (hx:H xx=none) (hdx:H dx=none) (hne:dx≠xx):
  Le w (w.addL xx) H (upd (upd H dx (.own xx)) xx (.ins (G.iA c) dx []))∧StoOk G (w.addL xx) (upd (upd H dx (.own xx)) xx (.ins (G.iA c) dx [])) (s1++[.ins c (List.replicate n none)]):=by
 have L1:Le w w H (upd H dx (.own xx)):=Le.new hdx _
 have hx1:upd H dx (.own xx) xx=none:=by rw[upd_ne hne.symm];exact hx
 have L2:Le w w H (upd (upd H dx (.own xx)) xx (.ins (G.iA c) dx [])):=L1.trans (Le.new hx1 _)
 have S1:=(S.new hdx (.own xx)).new hx1 (.ins (G.iA c) dx [])
 refine⟨L2.addL hx,S1.addL ⟨dx,[],zaaq,⟨List.nodup_nil,fun y hy=>by simp at hy⟩,fun i y t h1 h2=>?_⟩ (S.fresh hx).1 (S.fresh hx).2⟩
 rw[List.getElem?_replicate] at h2
 split at h2<;>cases h2
theorem run_makeX {CX:CXT} {sp:Sp} {E:XK} {Ca:Addr} {pins:List (Addr×Obj)} {σV:St} {H:Hp} {s:Shared} {us:List Value} (M:Mk X.K Ca fa) (F:FnOk X.prog X.w X.K X.mg X.base CX k fa fd ps sp) (hr:Room (k+1) X.A) (hb:Binds X.K fd ps ds) (hd:Vals dvs ds)
  (I:Inv X pins σV H s) (r:Vals vs us) (h:∀x dx,H x=none→H dx=none→dx≠x→sp (.ref x::(vs++dvs)) (upd (upd H dx (.own x)) x (.ins Ca dx [])) (fun v H2=>v=.non∧Q (.ref x) H2) E)
  (hx:∀H2 s2 e s',Inv X pins σV H2 s2→CX X.stack H2 s2 E e s'→X.xe e s'):wpAny (model X.prog X.w) X.A (call (.ref Ca) us) (EP X pins σV Q) X.xe s:=by
 have hq:=h (s.heap.objs.size+1) s.heap.objs.size (I.hok.fresh (Nat.le_succ _)) (I.hok.fresh (Nat.le_refl _)) (Nat.ne_of_lt (Nat.lt_succ_self _))
 have I2:=Inv.made (C:=Ca) I
 have r2:Vals (V.ref (s.heap.objs.size+1)::(vs++dvs)) (Value.ref (s.heap.objs.size+1)::(us++ds)):=.cons rfl (r.append hd)
 have hl:(Value.ref (s.heap.objs.size+1)::us++ds).length=ps.length:=by
  have e:=r2.length
  rw[F.len _ _ _ _ hq] at e
  exact e.symm
 refine wpAny_call (make_map (f:=fa) I.kIn M.makes M.init (beq_iff_eq.mp M.fn) (codeAny_mono (F.run _ X.stack _ _ ⟨Value.ref (s.heap.objs.size+1)::us,[]⟩ (Value.ref (s.heap.objs.size+1)::(us++ds)) _ _ E (hr.make Ca us [])
  (I2.env0.make Ca us []) (hb _ (Value.ref (s.heap.objs.size+1)::us) I2.kIn hl) r2 hq) fun r s' hq'=>?_))
 cases r with
 | error e=>exact hx _ _ e s' I2 hq'
 | ok fl=>
  cases fl with
  | ret u=>
   obtain⟨v,H',I3,rv,ev,q3⟩:=I2.after hq'
   subst ev
   exact⟨rv,⟨V.ref (s.heap.objs.size+1),H',I3,rfl,q3⟩⟩
  | next=>exact False.elim hq'
  | brk=>exact False.elim hq'
  | cont=>exact False.elim hq'
theorem new_sp {n:Nat} {st:Sto} {σV:St} (hf:C.fr fi=false) (hdt:dts.mapM cstV=some dvs) (S:StoOk G w H st) (R1:RepRs G w H rs vs) (h:Want G X σV w H ((C.cf fi (.val (.loc st.length)::(rs++dts.map .val)) (st++[.ins c (List.replicate n none)])).bind fun r s2=>onN r (.ok (.val (.loc st.length)) s2)) Q) (x dx:Addr) (hx:H x=none) (hdx:H dx=none) (hne:dx≠x):
  spG G C.cf C.fr fi (.ref x::(vs++dvs)) (upd (upd H dx (.own x)) x (.ins (G.iA c) dx [])) (fun v H2=>v=.non∧Q (.ref x) H2) (EX G X σV):=by
 obtain⟨LL,SS⟩:=made_ok (c:=c) (Ca:=G.iA c) (n:=n) S hx hdx hne
 have hloc:RepR G (w.addL x) (upd (upd H dx (.own x)) x (.ins (G.iA c) dx [])) (.val (.loc st.length)) (.ref x):=by
  refine⟨?_,?_⟩
  ·rw[S.len];exact Nat.lt_succ_self _
  ·rw[S.len,zabj]
 refine spG_vE hf (Le.refl _ _) SS (zacv hloc (zaa1 (R1.mono LL S) (zabn hdt))) ((Want.bind (Want.mono LL h)).imp ?_)
 rintro v H1 ⟨w1,r,s1,L1,S1,R1,h1⟩
 match r,h1 with
 | .val .non,h1=>exact⟨R1,h1 w1 H1 (.ref x) (Le.refl _ _) S1 (hloc.mono L1 SS)⟩
 | .val (.bl _),h1=>exact h1.elim
 | .val (.int _),h1=>exact h1.elim
 | .val (.str _),h1=>exact h1.elim
 | .val (.tup _),h1=>exact h1.elim
 | .val (.lst _),h1=>exact h1.elim
 | .val (.loc _),h1=>exact h1.elim
 | .val (.exc _),h1=>exact h1.elim
 | .bor _,h1=>exact h1.elim
theorem sV_newX0 {n:Nat} (hf:C.fr fi=false) (M:Mk X.K (G.iA c) fa) (F:FnOk X.prog X.w X.K X.mg X.base (CXE G X.prog X.w X.base) k fa fd ps (spG G C.cf C.fr fi)) (hr:Room (k+1) X.A) (hg:Gl X x) (hm:X.mg x=some (.ref (G.iA c))) (hb:Binds X.K fd ps ds) (hd:Vals dvs ds) (hdt:dts.mapM cstV=some dvs)
  (hdb:(x==("__debug__":Str))=false):PE X (.Call (.Name x p) [] [] pos) (tV G X C (.new c fi n [] dts)):=by
 rintro pins s σV H Q I ⟨w₀,H₀,w,σ,st,g,h⟩
 refine wpAny_Call_Name_kw (zadk I hg hm ?_ hdb)
 exact PySem.W.callWith_K0 I.kIn M.kp (run_makeX (us:=[]) (vs:=[]) M F hr hb hd I .nil (new_sp (rs:=[]) (vs:=[]) hf hdt g.sto rfl h) fun H2 s2 e s' I2 q=>zab4 I2 e s' q)
theorem sS_putL (he:PE X e (tV G X C e')) (ha:PE X a (tV G X C a')) (hj:PE X j (tV G X C j'))
  (hs:swapsWithSole [.Subscript a j p2] e pos.line X.env=pure false) (hw:swappedStores [.Subscript a j p2] e X.env=pure none) (h1:(assignEach [.Subscript a j p2] X.env).map (·.2)=[assign (.Subscript a j p2) X.env])
  (hag:∀v,assign (.Subscript a j p2) X.env v=(do
   let ov ← holding [v] (eval a X.env)
   let iv ← holding [v,ov] (eval j X.env)
   standAt p2
   holding [v,ov,iv] (setItem ov iv v)
   release [v,ov,iv] [])):PS X (.Assign [.Subscript a j p2] e pos) (tS G X C (.putL a' j' e')):=by
 refine PS.imp (ps_asg he (pg_sub ha hj set_list hag) hs hw h1) ?_
 rintro D σV H ⟨w₀,H₀,w,σ,s,g,h⟩
 refine⟨w₀,H₀,w,σ,s,g,(st_of g h).imp ?_⟩
 rintro v H1 ⟨w1,r,s1,L1,S1,R1,g1,q1⟩
 obtain⟨t,ht,q1⟩:=onS_w q1
 cases val_of ht
 refine⟨w₀,H₀,w1,σ,s1,g1,(st_of g1 q1).imp ?_⟩
 rintro o H2 ⟨w2,r2,s2,L2,S2,R2,g2,q2⟩
 refine⟨w₀,H₀,w2,σ,s2,g2,(st_of g2 q2).imp ?_⟩
 rintro y H3 ⟨w3,r3,s3,L3,S3,R3,g3,q3⟩
 obtain⟨pp,hp,q3⟩:=onS_w q3
 obtain⟨kk,hk,q3⟩:=onS_w q3
 obtain⟨n,hn,q3⟩:=onS_w q3
 obtain⟨er,ev',hl,xs,z1,z2⟩:=zaef S3 (R2.mono L3 S2) hp
 subst ev'
 cases R3.int hk
 have rt:Rep G w3 H3 t v:=Rep.mono L3 S2 t v (Rep.mono L2 S1 t v R1)
 refine⟨w3.io pp.1,xs,kk,n,rfl,rfl,z1,by rw[← z2.length];exact hn,?_⟩
 obtain⟨g4,l4⟩:=g3.setC (o':=.lst (xs.set n v)) (c:=.lst (pp.2.set n t)) hl z1 (by intro _ z;cases z) (by intro _ z;cases z) ⟨_,zaaq,Reps.updC z1 (S3.nz _ hl) (by intro _ z;cases z) (by intro _ z;cases z) _ _ (z2.set rt n)⟩
 exact q3 w3 _ σV g4 l4
theorem sS_appL {cpos:Pos} (ha:PE X a (tV G X C a')) (he:PE X e (tV G X C e')) (hst:starEach [e] X.env=[(false,eval e X.env)])
  (hline:(p2.endLine==cpos.line)=true) (hbase:attributeBase a "append" X.env (eval a X.env)=eval a X.env)
  (hfew:((backTo cpos (starEach [e] X.env)).all (fun x=>!x.1)&&(backToKw cpos (keywordEach [] X.env)).all (fun x=>x.1.isSome)&&decide ([e].length+([]:List Keyword).length+(if([]:List Keyword).isEmpty then 0 else 1) < 30))=true)
  (hs:swapsWith (.Call (.Attribute a "append" p2) [e] [] cpos) none pos.line X.env=pure false):
  PS X (.Expr (.Call (.Attribute a "append" p2) [e] [] cpos) pos) (tS G X C (.appL a' e')):=by
 refine PS.imp (zafc (pe_bm PySem.F.plainAttrs_list PySem.F.slot_list_append PySem.F.type_list_append zacx ha (zaa4 he pa_nil hst) hbase hfew hline hst rfl) hs) ?_
 rintro D σV H ⟨w₀,H₀,w,σ,s,g,h⟩
 refine⟨w₀,H₀,w,σ,s,g,(st_of g h).imp ?_⟩
 rintro o H1 ⟨w1,r,s1,L1,S1,R1,g1,q1⟩
 obtain⟨p0,hp0,q1⟩:=onS_w q1
 obtain⟨er,ev',hl,xs,z1,z2⟩:=zaef S1 R1 hp0
 subst er ev'
 refine⟨.inl ⟨rfl,xs,SqL.of z1⟩,w₀,H₀,w1,σ,s1,g1,(st_of g1 q1).imp ?_⟩
 rintro v H2 ⟨w2,r2,s2,L2,S2,R2,g2,q2⟩
 obtain⟨t,ht,qa⟩:=onS_w q2
 obtain⟨pp,hp,qb⟩:=onS_w qa
 cases val_of ht
 obtain⟨er2,ev2,hl2,ys,y1,y2⟩:=zaef S2 (R1.mono L2 S1) hp
 split at qb
 ·rename_i hlim
  have ea:w1.io p0.1=w2.io pp.1:=by injection ev2
  have e0:p0.1=pp.1:=by injection er2 with e;injection e
  rw[ea]
  refine⟨w2.io pp.1,ys,v,rfl,rfl,y1,by rw[← y2.length];have:=lim_le;omega,?_⟩
  obtain⟨g4,l4⟩:=g2.setC (o':=.lst (ys++[v])) (c:=.lst (pp.2++[t])) hl2 y1 (by intro _ z;cases z) (by intro _ z;cases z) ⟨_,zaaq,Reps.updC y1 (S2.nz _ hl2) (by intro _ z;cases z) (by intro _ z;cases z) _ _ (y2.append (show Reps G w2 H2 [t] [v] from⟨v,[],rfl,R2,rfl⟩))⟩
  exact qb w2 _ σV g4 l4
 ·exact qb.elim
theorem zadz {α:Type} [DecidableEq α]:∀(l m:List α),l.Nodup→(∀x∈l,x∈m)→l.length≤m.length
 | [],m,_,_=>Nat.zero_le _
 | x::l,m,hn,hs=>by
  obtain⟨h1,h2⟩:=List.nodup_cons.mp hn
  have hx:=hs x List.mem_cons_self
  have:=zadz l (m.erase x) h2 fun y hy=>(List.mem_erase_of_ne (a:=y) (b:=x) (fun e=>h1 (by rw[← e];exact hy))).mpr (hs y (List.mem_cons_of_mem _ hy))
  rw[List.length_erase_of_mem hx] at this
  have hp:0 < m.length:=List.length_pos_of_mem hx
  rw[List.length_cons]
  omega
theorem kv_putF {nm:List Str} {y:V}:∀{kvs:List (Str×V)},KvOk nm kvs→x∈nm→KvOk nm (putF x y kvs)
 | [],_,hx=>⟨by simp[putF],fun z hz=>by simp[putF] at hz;rw[hz];exact hx⟩
 | (g,v)::r,⟨h1,h2⟩,hx=>by
  rw[List.map_cons,List.nodup_cons] at h1
  obtain⟨i1,i2⟩:=kv_putF (y:=y) (kvs:=r) ⟨h1.2,fun z hz=>h2 z (List.mem_cons_of_mem _ hz)⟩ hx
  rw[show putF x y ((g,v)::r)=(if g=x then(g,y)::r else(g,v)::putF x y r) from rfl]
  split
  ·exact⟨List.nodup_cons.mpr h1,h2⟩
  ·rename_i hg
   refine⟨List.nodup_cons.mpr ⟨fun hz=>?_,i1⟩,fun z hz=>?_⟩
   ·have:g∈r.map (·.1):=by
     have key:∀(q:List (Str×V)),g∈(putF x y q).map (·.1)→g∈q.map (·.1):=by
      intro q
      induction q with
      | nil=>intro hq;simp[putF] at hq;exact absurd hq hg
      | cons u q ih=>
       obtain⟨u1,u2⟩:=u
       intro hq
       rw[show putF x y ((u1,u2)::q)=(if u1=x then(u1,y)::q else(u1,u2)::putF x y q) from rfl] at hq
       split at hq
       ·exact hq
       ·rw[List.map_cons,List.mem_cons] at hq ⊢
        exact hq.imp (fun z=>z) ih
     exact key r hz
    exact h1.1 this
   ·rw[List.map_cons,List.mem_cons] at hz
    rcases hz with rfl | hz
    ·exact h2 _ List.mem_cons_self
    ·exact i2 z hz
theorem sS_setF (hcl:Cls X.K (G.iA c)) (hn:(G.nm c)[f]?=some x) (hnd:(G.nm c).Nodup) (hlen:(G.nm c).length≤100) (hna:NoAttr X.K (G.iA c) x) (ha:PE X o (tV G X C a')) (he:PE X e (tV G X C e'))
  (hs:swapsWith e (some (.Attribute o x pos')) pos.line X.env=pure false):PS X (.Assign [.Attribute o x pos'] e pos) (tS G X C (.setF a' c f e')):=by
 refine PS.imp (ps_fld ha he hs) ?_
 rintro D σV H ⟨w₀,H₀,w,σ,s,g,h⟩
 refine⟨w₀,H₀,w,σ,s,g,(st_of g h).imp ?_⟩
 rintro v H1 ⟨w1,r,s1,L1,S1,R1,g1,q1⟩
 obtain⟨t,ht,q1⟩:=onS_w q1
 cases val_of ht
 refine⟨w₀,H₀,w1,σ,s1,g1,(st_of g1 q1).imp ?_⟩
 rintro y H2 ⟨w2,r2,s2,L2,S2,R2,g2,q2⟩
 obtain⟨pp,hp,q2⟩:=onS_w q2
 obtain⟨er,ev',hl,hs2,dx,kvs,z1,z2,z3⟩:=zaf6 S2 R2 hp
 subst ev'
 split at q2
 ·rename_i hfl
  have hx:x∈G.nm c:=List.mem_of_getElem? hn
  have rt:Rep G w2 H2 t v:=Rep.mono L2 S1 t v R1
  have nz:=S2.nz _ hl
  refine⟨w2.io pp.1,_,dx,kvs,rfl,z1,hcl,hna,?_,?_⟩
  ·have:=zadz _ _ z2.1 z2.2
   rw[List.length_map] at this
   omega
  ·have hcell:CellOk G w2 (upd H2 (w2.io pp.1) (.ins (G.iA c) dx (putF x v kvs))) (w2.io pp.1) (.ins c (pp.2.set f (some t))):=by
    refine⟨dx,putF x v kvs,zaaq,kv_putF z2 hx,fun i y u h1 h2=>?_⟩
    rw[zabs]
    by_cases hi:f=i
    ·subst hi
     rw[hn] at h1
     cases h1
     rw[List.getElem?_set_self hfl] at h2
     cases h2
     exact⟨v,if_pos rfl,Rep.updC z1 nz (by intro _ z;cases z) (by intro _ z;cases z) t v rt⟩
    ·rw[List.getElem?_set_ne hi] at h2
     obtain⟨u',y1,y2⟩:=z3 i y u h1 h2
     have ne:y≠x:=fun e=>hi (zacy hnd hn (e▸h1))
     exact⟨u',by rw[if_neg ne];exact y1,Rep.updC z1 nz (by intro _ z;cases z) (by intro _ z;cases z) u u' y2⟩
   obtain⟨g4,l4⟩:=g2.setC (o':=.ins (G.iA c) dx (putF x v kvs)) (c:=.ins c (pp.2.set f (some t))) hl z1 (by intro _ z;cases z) (by intro _ z;cases z) hcell
   exact q2 w2 _ σV g4 l4
 ·exact q2.elim
end
end IP
end
section
set_option Elab.async false
set_option linter.all false
set_option maxRecDepth 100000
namespace IP
open PySem PySem.Spec L2
abbrev hnd (X:Cx) (e:Addr):Cx:={ X with A:=X.A.mark (some (.ref e)),calm:=false,xe:=fun _ _=>False }
section
variable {G:Gx} {X:Cx} {C:Cf} {pins:List (Addr×Obj)} {σV:St} {H:Hp} {c:Nat} {u:Value} {sh s:Shared} {e:Addr}
theorem ok_hnd (ok:X.Ok):(hnd X e).Ok:=
 ⟨ok.mod,ok.kind,ok.glob,ok.blt,ok.above,ok.inj,ok.has,ok.cab,fun z=>(by cases z),ok.frames,ok.stk,ok.exf,ok.bs,ok.bsz,ok.noex,ok.exfs,ok.funs,ok.frf⟩
theorem inv_hnd (I:Inv X pins σV H s):Inv (hnd X e) pins σV H s:=⟨ok_hnd I.ok,I.os,I.bare,I.base,I.loc,I.cell,I.free,I.freeC,I.pin,I.hok,I.len⟩
theorem zab2 (ok:X.Ok) (I:Inv (hnd X e) pins σV H s):Inv X pins σV H s:=⟨ok,I.os,I.bare,I.base,I.loc,I.cell,I.free,I.freeC,I.pin,I.hok,I.len⟩
theorem zaek {P:Program} {w:World} {h:Heap} {a:Addr} {o:HO} (x:ObjOk P w H h a o):∃q,h.get? a=some q:=by
 cases o with
 | lst xs=>obtain⟨_,_,_,_,e⟩:=x;exact⟨_,e⟩
 | tup xs=>obtain⟨_,_,_,ob,e,_⟩:=x;exact⟨_,e⟩
 | dK kvs=>obtain⟨_,_,_,_,o,_,_,e,_⟩:=x;exact⟨_,e⟩
 | dT kvs=>obtain⟨_,_,_,_,o,_,_,e,_⟩:=x;exact⟨_,e⟩
 | set S n=>obtain⟨o,_,_,_,e,_⟩:=x;exact⟨_,e⟩
 | ins C dx fs=>obtain⟨_,_,_,e,_⟩:=x;exact⟨_,e⟩
 | own y=>obtain⟨_,e⟩:=x;exact⟨_,e⟩
 | xd fs=>obtain⟨_,⟨_,_,_,e,_⟩,_⟩:=x;exact⟨_,e⟩
 | rng lo hi=>obtain⟨_,_,_,e⟩:=x;exact⟨_,e⟩
 | frz ob v=>obtain⟨e,_⟩:=x;exact⟨_,e⟩
 | tbl ps=>exact⟨_,(show h.get? a=some _ from x)⟩
 | met f y=>exact⟨_,(show h.get? a=some _ from x)⟩
 | ext φ=>obtain⟨_,⟨_,e⟩,_⟩:=x;exact⟨_,e⟩
theorem zafe {h B h':Heap} {Ca:Addr} {oe:Obj} (hex:X.ex=[]) (I:Inv X pins σV H { sh with heap:=h }) (F:Flt X.stack h B e h') (ho:h'.get? e=some oe) (hc:oe.cls=.ref Ca):
  H e=none∧Inv X pins σV (upd H e (.ext (errAt e Ca))) { sh with heap:=h' }:=by
 have hn:H e=none:=by
  cases q:H e with
  | none=>rfl
  | some o=>obtain⟨z,hz⟩:=zaek (I.hok e o q);rw[F.new] at hz;cases hz
 have J:=zadc I F
 have new:∀b o,h.get? b=some o→b≠e:=fun b o q z=>by rw[z,F.new] at q;cases q
 have newc:∀{b:Addr} {v:Option Value},h.IsCell b v→b≠e:=fun {b v} ⟨o,q,_⟩=>new b o q
 refine⟨hn,J.ok,J.os,J.bare,⟨J.base.keep,J.base.slot,fun b o q n hx=>?_,J.base.there,fun b xs q=>?_,fun b o v q=>?_,fun b ps q=>?_⟩,J.loc,J.cell,?_,fun x cc q=>?_,fun p hp=>?_,fun a o q=>?_,J.len⟩
 ·obtain⟨o',z⟩:=I.base.there b o q hx
  rw[upd_ne (new b o' z)]
  exact J.base.free b o q n hx
 ·have z:=J.base.tups b xs q
  rw[upd_ne (fun y=>by rw[y,hn] at z;cases z)]
  exact z
 ·have z:=J.base.frzs b o v q
  rw[upd_ne (fun y=>by rw[y,hn] at z;cases z)]
  exact z
 ·obtain⟨m,z⟩:=J.base.tbls b ps q
  exact⟨m,by rw[upd_ne (fun y=>by rw[y,hn] at z;cases z)];exact z⟩
 ·obtain⟨m,⟨o,es,ep,q,_⟩,_⟩:=I.loc
  rw[upd_ne (new _ o q)]
  exact J.free
 ·obtain⟨v,ic⟩:=I.cell x cc q
  rw[upd_ne (newc ic)]
  exact J.freeC x cc q
 ·obtain⟨p1,p2,p3,p4,p5⟩:=J.pin p hp
  refine⟨p1,?_,p3,p4,p5⟩
  rw[upd_ne (new _ _ (I.pin p hp).1)]
  exact p2
 ·by_cases ha:a=e
  ·subst ha
   rw[zaaq] at q
   cases q
   exact⟨⟨oe,ho,hc⟩,⟨oe,ho⟩,fun h1 h2 ⟨o,q1,q2⟩ k=>⟨o,k o q1,q2⟩⟩
  ·rw[upd_ne ha] at q
   refine(J.hok a o q).stay (fun _ _ _ r=>r) (fun b r=>?_) fun b xs r=>?_
   ·rw[upd_ne (fun y=>by rw[y,hn] at r;cases r)];exact r
   ·rw[upd_ne (fun y=>by rw[y,hn] at r;cases r)];exact r
theorem unbind_ok {M:Model} {A:Around} {E:Value→Shared→Prop} {i:Nat} {x:Str} {v:V} {Q:Unit→Shared→Prop} (I:Inv X pins σV H s) (hN:X.N.Nodup) (hi:X.N[i]?=some x) (hx:X.env.scope.names.lookup x=some .local) (hv:σV[i]?=some (some v))
  (h:∀s',Inv X pins (σV.set i none) H s'→Q () s'):wpAny M A (unbindName X.env x) Q E s:=by
 obtain⟨m,hn,hl⟩:=id I.loc
 have hcls:(X.env.scope.kind==.class||(X.env.scope.kind==.module&&X.env.locals != X.env.globals))=false:=by rw[I.ok.kind];rfl
 obtain⟨w,rw',lk⟩:=hl i x v hi hv (.inl hx)
 have hm:m x=some w:=by
  rcases lk with⟨_,z⟩ | ⟨z,_⟩
  ·exact z
  ·have z:X.env.scope.names.lookup x=some .cell∨X.env.scope.names.lookup x=some .free:=z
   rw[hx] at z
   rcases z with z | z<;>cases z
 obtain⟨oL,_,_,hoL,_⟩:=id hn
 have hne:∀{b:Addr} {o:Obj},X.s₀.heap.get? b=some o→b≠X.env.locals:=fun q z=>by
  rw[z] at q
  exact absurd (Heap.lt_size q) (Nat.not_lt.mpr I.ok.above)
 refine wpAny_unbindName_local hx hn hm hcls fun h' u' hn' hs=>?_
 refine h _ ⟨I.ok,I.os,I.bare,⟨fun b o q n hb hx=>?_,fun b o q n hb hx=>?_,I.base.free,fun b o q hx=>?_,I.base.tups,I.base.frzs,I.base.tbls⟩,⟨_,hn',fun j y z e1 e2 e3=>?_⟩,fun y cc q=>?_,I.free,I.freeC,fun p hp=>?_,fun a o q=>?_,?_⟩
 ·exact(hs.2 b (hne q)).trans (I.base.keep b o q n hb hx)
 ·obtain⟨sl,z⟩:=I.base.slot b o q n hb hx
  exact⟨sl,(hs.2 b (hne q)).trans z⟩
 ·obtain⟨o',z⟩:=I.base.there b o q hx
  exact⟨o',(hs.2 b (hne q)).trans z⟩
 ·by_cases hj:i=j
  ·subst hj
   have hlt:i < σV.length:=(List.getElem?_eq_some_iff.mp hv).1
   rw[List.getElem?_set_self hlt] at e2
   cases e2
  ·rw[List.getElem?_set_ne hj] at e2
   obtain⟨w2,r2,q⟩:=hl j y z e1 e2 e3
   refine⟨w2,r2,?_⟩
   have ny:y≠x:=fun e=>hj (zacy hN hi (e▸e1))
   rcases q with⟨k,q⟩ | ⟨k,cc,q,ic⟩
   ·exact .inl ⟨k,(if_neg ny).trans q⟩
   ·exact .inr ⟨k,cc,q,ic.sameBut hs (I.cne y cc q)⟩
 ·obtain⟨w2,ic⟩:=I.cell y cc q
  exact⟨w2,ic.sameBut hs (I.cne y cc q)⟩
 ·obtain⟨p1,p2,p3,p4,p5⟩:=I.pin p hp
  exact⟨(hs.2 p.1 p3).trans p1,p2,p3,p4,p5⟩
 ·refine(I.hok a o q).stay (fun b r hb k=>(hs.2 b ?_).trans k) (fun _ r=>r) fun _ _ r=>r
  rintro rfl
  rcases hb with rfl | hb
  ·rw[I.free] at q;cases q
  ·rw[I.free] at hb;cases hb
 ·rw[List.length_set];exact I.len
end
end IP
end
section
set_option Elab.async false
set_option linter.all false
set_option maxRecDepth 100000
namespace IP
open PySem PySem.Spec L2
abbrev tryX (X:Cx) (E:Value→Shared→Prop) (pn:List (Addr×Obj)):Cx:={ X with xe:=E,pn:=pn }
section
variable {G:Gx} {X:Cx} {C:Cf} {pins pins':List (Addr×Obj)} {w w' w₀:Wo} {H H' H₀:Hp} {σ σ':Fr} {σV σV':St} {c:Nat} {u:Value} {sh s:Shared} {e:Addr} {E:Value→Shared→Prop}
theorem ok_try {pn:List (Addr×Obj)} (ok:X.Ok):(tryX X E pn).Ok:=
 ⟨ok.mod,ok.kind,ok.glob,ok.blt,ok.above,ok.inj,ok.has,ok.cab,ok.hd,ok.frames,ok.stk,ok.exf,ok.bs,ok.bsz,ok.noex,ok.exfs,ok.funs,ok.frf⟩
theorem ok_untry {pn:List (Addr×Obj)} (ok:(tryX X E pn).Ok):X.Ok:=
 ⟨ok.mod,ok.kind,ok.glob,ok.blt,ok.above,ok.inj,ok.has,ok.cab,ok.hd,ok.frames,ok.stk,ok.exf,ok.bs,ok.bsz,ok.noex,ok.exfs,ok.funs,ok.frf⟩
theorem inv_try (I:Inv X pins σV H s):Inv (tryX X E (X.pn++pins)) [] σV H s:=
 ⟨ok_try I.ok,I.os,I.bare,I.base,I.loc,I.cell,I.free,I.freeC,fun p hp=>I.pin p (by simpa using hp),I.hok,I.len⟩
theorem zabl (I:Inv (tryX X E (X.pn++pins)) pins' σV H s):Inv X pins σV H s:=
 ⟨ok_untry I.ok,I.os,I.bare,I.base,I.loc,I.cell,I.free,I.freeC,fun p hp=>I.pin p (List.mem_append_left _ hp),I.hok,I.len⟩
theorem sp_untry {D:Ends} {f:Flow} {s':Shared} (h:SP (tryX X E (X.pn++pins)) [] D f s'):SP X pins D f s':=by
 cases f with
 | next=>obtain⟨σ',H',I,q⟩:=h;exact⟨σ',H',zabl I,q⟩
 | brk=>obtain⟨σ',H',I,q⟩:=h;exact⟨σ',H',zabl I,q⟩
 | cont=>obtain⟨σ',H',I,q⟩:=h;exact⟨σ',H',zabl I,q⟩
 | ret u=>obtain⟨v,σ',H',I,r,q⟩:=h;exact⟨v,σ',H',zabl I,r,q⟩
theorem sp_unhnd {D:Ends} {f:Flow} {s':Shared} (ok:X.Ok) (h:SP (hnd X e) pins D f s'):SP X pins D f s':=by
 cases f with
 | next=>obtain⟨σ',H',I,q⟩:=h;exact⟨σ',H',zab2 ok I,q⟩
 | brk=>obtain⟨σ',H',I,q⟩:=h;exact⟨σ',H',zab2 ok I,q⟩
 | cont=>obtain⟨σ',H',I,q⟩:=h;exact⟨σ',H',zab2 ok I,q⟩
 | ret u=>obtain⟨v,σ',H',I,r,q⟩:=h;exact⟨v,σ',H',zab2 ok I,r,q⟩
theorem wantS_hnd {r:SR} {D:Ends} (h:WantS G X w₀ H₀ w H σ σV r.nox D):WantS G (hnd X e) w₀ H₀ w H σ σV r D:=by
 cases r with
 | stuck=>exact h
 | next σ1 s1=>exact h
 | ret r s1=>exact h
 | retO ts s1=>exact h
 | exc c σ1 s1=>exact h.elim
theorem FrOk.unset {i:Nat} (F:FrOk G w H H₀ σ σV):FrOk G w H H₀ (σ.set i none) (σV.set i none) where
 len:=by simp[F.len]
 val:=fun j t e=>by
  rcases zaal e with⟨_,z,_⟩ | ⟨ne,z⟩
  ·cases z
  ·obtain⟨v,h1,h2⟩:=F.val j t z
   exact⟨v,by rw[List.getElem?_set_ne ne];exact h1,h2⟩
 own:=fun j b ts e eb=>by
  rcases zaal e with⟨_,z,_⟩ | ⟨ne,z⟩
  ·cases z
  ·obtain⟨a,vs,h1,h2⟩:=F.own j b ts z eb
   exact⟨a,vs,by rw[List.getElem?_set_ne ne];exact h1,h2⟩
 apart:=fun j k b c ts us a hjk e1 eb e2 ec e3 e4=>by
  rcases zaal e1 with⟨_,z,_⟩ | ⟨ne,z⟩
  ·cases z
  ·rcases zaal e2 with⟨_,z',_⟩ | ⟨ne',z'⟩
   ·cases z'
   ·rw[List.getElem?_set_ne ne] at e3
    rw[List.getElem?_set_ne ne'] at e4
    exact F.apart j k b c ts us a hjk z eb z' ec e3 e4
 bor:=fun j ts e=>by
  rcases zaal e with⟨_,z,_⟩ | ⟨ne,z⟩
  ·cases z
  ·obtain⟨a,vs,h1,h2⟩:=F.bor j ts z
   exact⟨a,vs,by rw[List.getElem?_set_ne ne];exact h1,h2⟩
theorem try_to {body suite:List Stmt} {b':List S} {y:Str} {yp hpos pos:Pos} {nm:Option Str} {b₀:Stmt} (hst:X.stack=X.env::X.outer∧X.env.frame=some X.env.locals) (hg:Gl X y) (hm:X.mg y=some (.ref (G.cA c))) (hdb:(y==("__debug__":Str))=false)
  (hmt:∀d,PySem.W.exmOne X.K (.ref (G.cA d)) (.ref (G.cA c))=some (C.sub d c))
  (hbody:∀(E:Value→Shared→Prop) (pn:List (Addr×Obj)),PassesOwn (model X.prog X.w) X.A X.env E→PSs (tryX X E pn) body (tSs G (tryX X E pn) C b')) {st:Sto} {D:Ends} {k:Nat→Fr→Sto→SR}
  (I:Inv X pins σV H s) (g:Good G w₀ H₀ w H σ st σV)
  (h:WantS G X w₀ H₀ w H σ σV (match exs C b' σ st with | .exc d σ1 s1=>if C.sub d c then k d σ1 s1 else .exc d σ1 s1 | r=>r) D)
  (hk:∀(d:Nat) (σ1:Fr) (s1:Sto) (w1:Wo) (H1:Hp) (σV1:St) (e:Addr) (h B h1:Heap) (t:Value) (sh:Shared),Good G w₀ H₀ w1 H1 σ1 s1 σV1→WantS G X w₀ H₀ w1 H1 σ1 σV1 (k d σ1 s1) D→Inv X pins σV1 H1 { sh with heap:=h }→Flt X.stack h B e h1→X.base.StaysIn B→Heap.FlyingW B X.stack e (.ref (G.cA d)) t h1→
   codeAny (model X.prog X.w) (X.A.mark (some (.ref e))) (.handlers (.ref e) [.ExceptHandler none nm (b₀::suite) hpos] X.env) (fun r s₂=>match r with
     | .ok f=>(match nm with
      | none=>SP X pins D f s₂
      | some n=>wpAny (model X.prog X.w) X.A (do bindName X.env n .none;unbindBehindTheSuite X.env n hpos) (fun _ s₃=>SP X pins D f s₃) X.xe s₂)
     | .error x=>cameBackBy (model X.prog X.w) X.A X.env X.xe x s₂) { sh with heap:=h1 }):
  wpAny (model X.prog X.w) X.A (exec (.Try body [.ExceptHandler (some (.Name y yp)) nm (b₀::suite) hpos] [] [] pos) X.env) (SP X pins D) X.xe s:=by
 rw[arm_exec_Try]
 refine wpAny_bind (wpAny_standAt (try_leave ?_))
 generalize hE2:(fun(u:Value) (s₁:Shared)=>wpAny (model X.prog X.w) X.A (leaving X.env u) (fun _ s₃=>wpAny (model X.prog X.w) X.A (handleBy u X.env [.ExceptHandler (some (.Name y yp)) nm (b₀::suite) hpos]) (SP X pins D) X.xe s₃) X.xe s₁)=E2
 have hp:PassesOwn (model X.prog X.w) X.A X.env E2:=passes_leave (X:=tryX X E2 []) (Q:=fun u _ s₃=>wpAny (model X.prog X.w) X.A (handleBy u X.env [.ExceptHandler (some (.Name y yp)) nm (b₀::suite) hpos]) (SP X pins D) X.xe s₃) (E₁:=fun _=>X.xe) hE2.symm
 refine wpAny_mono (hbody E2 (X.pn++pins) hp [] s σV H D (inv_try I) ⟨w₀,H₀,w,σ,st,g,?_⟩) (fun f s₁ q=>?_) fun u s₁ q=>?_
 ·cases hx:exs C b' σ st with
  | stuck=>rw[hx] at h;exact h
  | next σ1 s1=>rw[hx] at h;exact h
  | ret r s1=>rw[hx] at h;exact h
  | retO ts s1=>rw[hx] at h;exact h
  | exc d σ1 s1=>
   rw[hx] at h
   intro w1 H1 σV1 pins' u sh g1 L1 T
   show E2 u sh
   rw[← hE2]
   refine zacz (zacb (X:=tryX X E2 (X.pn++pins)) ⟨_,_,_,hst.1,hst.2,hst.2⟩ T fun e hh B h1 t eu I1 F sb fly=>?_)
   subst eu
   have J:=zabl I1
   have JL:Inv X pins σV1 H1 { sh with heap:=h1 }:=zadc J F
   obtain⟨ob,hob,hoc⟩:=fly.there
   have LT:PySem.W.Looks (model X.prog X.w) h1 (typeOf (.ref e)) (.ref (G.cA d)):=hoc▸(PySem.W.Looks.ld hob).andThen .now
   refine wpAny_handleBy_cons (codeAny_handlers_test (A:=X.A.mark (some (.ref e))) (zadk (X:=hnd X e) (inv_hnd JL) hg hm ?_ hdb)) (by intro q;cases q)
   refine(PySem.W.exm_one (M:=model X.prog X.w) JL.kIn LT (hmt d)).at ?_
   cases hsb:C.sub d c with
   | true=>
    dsimp only at h
    rw[hsb] at h
    exact hk d σ1 s1 w1 H1 σV1 e hh B h1 t sh g1 (WantS.mono L1 h) J F sb fly
   | false=>
    dsimp only at h
    rw[hsb] at h
    have h:WantS G X w₀ H₀ w H σ σV (.exc d σ1 s1) D:=h
    show wpAny _ _ (handleBy (.ref e) X.env []) _ _ _
    refine wpAny_handleBy_nil ?_
    obtain⟨f1,f2,f3,oe,vs,Tb,oT,ts,he,hcl,hd,hv,hnT,hTe,hT,hdT,h3⟩:=id fly
    unfold passOn
    refine wpAny_bind (wpAny_field he hd hv ?_)
    rw[if_neg (show ¬((Value.ref Tb==Value.none)=true) from by simp)]
    have step:wpAny (model X.prog X.w) X.A (setFlight (.ref e) X.env.frame >>= fun _=>(throw (Value.ref e):Sem Flow)) (SP X pins D) X.xe { sh with heap:=h1 }:=by
     rw[hst.2]
     refine wpAny_bind (PySem.W.setFlight_onW (s:={ sh with heap:=h1 }) fly fun h2 hh2 sm=>?_)
     refine wpAny_throw ?_
     have F2:Flt X.stack hh B e h2:=F.next J.stack hh2.1 sm
     exact h w1 H1 σV1 pins (.ref e) { sh with heap:=h2 } g1 L1 ⟨e,hh,B,rfl,J,F2,sb,.inr (.inr ⟨t,_,hh2⟩)⟩
    first
     | exact wpAny_bind (wpAny_pure step)
     | exact step
 ·have q:=sp_untry q
  cases f with
  | next=>exact wpAny_execs_nil q
  | brk=>exact q
  | cont=>exact q
  | ret v=>exact q
 ·exact q
end
end IP
end
section
set_option Elab.async false
set_option linter.all false
set_option maxRecDepth 100000
namespace IP
open PySem PySem.Spec L2
section
variable {G:Gx} {X:Cx} {C:Cf} {pins pins':List (Addr×Obj)} {w w' w₀:Wo} {H H' H₀:Hp} {σ σ':Fr} {σV σV':St} {c i:Nat} {u:Value} {sh s:Shared} {e:Addr} {E:Value→Shared→Prop}
variable {body suite:List Stmt} {b' h':List S} {y n:Str} {yp hpos pos:Pos} {b₀:Stmt}
theorem sS_tryN (hst:X.stack=X.env::X.outer∧X.env.frame=some X.env.locals) (hex:X.ex=[]) (hN:X.N.Nodup) (hi:X.N[i]?=some n) (hl:X.env.scope.names.lookup n=some .local) (hg:Gl X y) (hm:X.mg y=some (.ref (G.cA c))) (hdb:(y==("__debug__":Str))=false)
  (hmt:∀d,PySem.W.exmOne X.K (.ref (G.cA d)) (.ref (G.cA c))=some (C.sub d c))
  (hbody:∀(E:Value→Shared→Prop) (pn:List (Addr×Obj)),PassesOwn (model X.prog X.w) X.A X.env E→PSs (tryX X E pn) body (tSs G (tryX X E pn) C b'))
  (hsuite:∀e,PSs (hnd X e) (b₀::suite) (tSs G (hnd X e) C h')):PS X (.Try body [.ExceptHandler (some (.Name y yp)) (some n) (b₀::suite) hpos] [] [] pos) (tS G X C (.try_ b' c (some i) h')):=by
 rintro pins s σV H D I ⟨w₀,H₀,w,σ,st,g,h⟩
 refine try_to (C:=C) (c:=c) (k:=fun d σ1 s1=>(exs C h' (put σ1 i (.exc d)) s1).nox.bind fun σ2 s2=>.next (σ2.set i none) s2) hst hg hm hdb hmt hbody I g h fun d σ1 s1 w1 H1 σV1 e hh B h1 t sh g1 q J F sb fly=>?_
 refine codeAny_handlers_suite_as (PyProof.Rows.lands_againW (s:={ sh with heap:=h1 }) fly fun h2 fly2 sm=>?_)
 obtain⟨ob,hob,hoc⟩:=fly2.there
 obtain⟨hne,J2⟩:=zafe hex J (F.next J.stack fly2.1 sm) hob hoc
 have L2:Le w1 w1 H1 (upd H1 e (.ext (errAt e (G.cA d)))):=Le.new hne _
 have S2:=g1.sto.new hne (.ext (errAt e (G.cA d)))
 have g2:Good G w₀ H₀ w1 (upd H1 e (.ext (errAt e (G.cA d)))) (put σ1 i (.exc d)) s1 (σV1.set i (some (.ref e))):=(g1.step L2 S2).put ⟨e,rfl,zaaq⟩
 have l2:LeS w1 w1 H1 (upd H1 e (.ext (errAt e (G.cA d)))) σ1 (put σ1 i (.exc d)) σV1 (σV1.set i (some (.ref e))):=(LeS.of L2).trans LeS.put
 have hiσ:i < σV1.length:=by rw[J.len];exact(List.getElem?_eq_some_iff.mp hi).1
 refine zacs (v:=.ref e) J2 hN hi (.inl hl) rfl (fun s3 J3=>?_) (.inr hl)
 refine wpAny_mono (hsuite e pins s3 (σV1.set i (some (.ref e))) _ { D with nx:=fun σ2 H2=>D.nx (σ2.set i none) H2,rt:=D.rt,bk:=fun _ _=>False,ct:=fun _ _=>False } (inv_hnd J3) ⟨w₀,H₀,w1,put σ1 i (.exc d),s1,g2,?_⟩) (fun f s₂ z=>?_) fun _ _ z=>z.elim
 ·refine wantS_hnd ?_
  have q:=WantS.mono l2 q
  generalize hr:(exs C h' (put σ1 i (.exc d)) s1).nox=r at q
  cases r with
  | stuck=>exact q
  | next σ2 s2=>exact fun w3 H3 σV3 g3 l3=>q w3 H3 (σV3.set i none) ⟨g3.sto,g3.fr.unset,g3.ent⟩ (l3.trans (LeS.set (by intro ts z;cases z) (by intro ts z;cases z)))
  | ret r s2=>exact q
  | retO ts s2=>exact q
  | exc cc σ2 s2=>exact q
 ·have z:=sp_unhnd J2.ok z
  have go:∀(σ2:St) (H2:Hp),Inv X pins σ2 H2 s₂→∀Q:Shared→Prop,(∀s4,Inv X pins (σ2.set i none) H2 s4→Q s4)→wpAny (model X.prog X.w) X.A (do bindName X.env n .none;unbindBehindTheSuite X.env n hpos) (fun _ s₃=>Q s₃) X.xe s₂:=fun σ2 H2 K Q hQ=>by
   have hi2:i < σ2.length:=by rw[K.len];exact(List.getElem?_eq_some_iff.mp hi).1
   refine wpAny_bind (PySem.wpAny_bindName (zacs (v:=.non) K hN hi (.inl hl) rfl (fun s4 K4=>?_) (.inr hl)))
   unfold unbindBehindTheSuite
   refine wpAny_onRaise (unbind_ok (v:=.non) K4 hN hi hl (List.getElem?_set_self hi2) fun s5 K5=>?_)
   rw[List.set_set] at K5
   exact hQ s5 K5
  cases f with
  | next=>
   obtain⟨σ2,H2,K,z⟩:=z
   exact go σ2 H2 K _ fun s4 K4=>⟨σ2.set i none,H2,K4,z⟩
  | brk=>obtain⟨σ2,H2,K,z⟩:=z;exact z.elim
  | cont=>obtain⟨σ2,H2,K,z⟩:=z;exact z.elim
  | ret v=>
   obtain⟨x,σ2,H2,K,r,z⟩:=z
   exact go σ2 H2 K _ fun s4 K4=>⟨x,σ2.set i none,H2,K4,r,z⟩
end
end IP
end
section
set_option Elab.async false
set_option linter.all false
set_option maxRecDepth 100000
namespace IP
open PySem PySem.W PySem.Spec PySem.Calls PyProof.Rows Builtin Builtin.ObjectAttr Builtin.Getset_descriptor
def Err (x D:Addr) (hp:Heap):Prop:=∃ob,hp.get? x=some ob∧ob.cls=.ref D
section
variable {KK:Frag} {x D:Addr}
theorem err_ty (M:Model) (hp:Heap) (p:Err x D hp):Looks M hp (typeOf (.ref x)) (.ref D):=by
 obtain⟨ob,k1,k2⟩:=p
 exact k2▸(Looks.ld k1).andThen .now
end
end IP
namespace IP
open PySem PySem.W PySem.Spec PySem.Calls PyProof.Rows Builtin Builtin.ObjectAttr Builtin.Getset_descriptor
section
variable {KK:Frag} {x D:Addr} {prog:Program} {w:World} {A:Around} {E:Value→Shared→Prop}
theorem err_class {Q:Option Value→Shared→Prop} {s:Shared}
  (hga:findIn KK (.ref D) "__getattribute__"=some (some (.builtin "BaseException.__getattribute__")))
  (hgn:findIn KK (.ref D) "__getattr__"=some none)
  (ha:findIn KK (.ref D) "__class__"=some (some (.builtin "object.__class__")))
  (hn:specialIn KK (.builtin "object.__class__") "__get__"=some (some (.builtin "getset_descriptor.__get__")))
  (htk:takesIn KK (.builtin "object.__class__")=some true)
  (hm:mroIn KK D (.type "object")=some true) (hb:mroIn KK D (.type "BaseException")=some true)
  (X:KK.In s.heap) (p:Err x D s.heap) (k:Q (some (.ref D)) { s with toks:=s.toks+1 }):
  wpAny (model prog w) A (getAttr? (.ref x) "__class__") Q E s:=by
 obtain⟨hp,gg,dd,tt,oo⟩:=s
 have T0:=err_ty (model prog w) hp p
 have T1:=looks_findIn (M:=model prog w) X hga
 have T2:=looks_findIn (M:=model prog w) X hgn
 have TF:Looks (model prog w) hp (find (.ref x) (.ref D) "__class__") (.bind (.builtin "getset_descriptor.__get__") (.builtin "object.__class__")):=by
  have a1:=looks_findIn (M:=model prog w) X ha
  have a2:=looks_specialIn (M:=model prog w) X hn
  have a3:=looks_takesIn (M:=model prog w) X htk
  refine a1.andThen ?_
  refine Looks.andThen (show Looks (model prog w) hp (getOf (some (.builtin "object.__class__"))) (some (.builtin "getset_descriptor.__get__")) from a2) ?_
  refine Looks.andThen (show Looks (model prog w) hp (dataDescriptor? (some (.builtin "object.__class__")) (some (.builtin "getset_descriptor.__get__"))) (some (.builtin "getset_descriptor.__get__",.builtin "object.__class__")) from a3.andThen .now) ?_
  exact Looks.tag .now
 have T3:=looks_mroIn (M:=model prog w) X hm
 have T4:=looks_mroIn (M:=model prog w) X hb
 have TI:Looks (model prog w) hp (isInstance (.ref x) (.type "BaseException")) true:=T0.andThen T4
 have f3:=F.excAttr_ValueError.ga.bind (.ref x)
 unfold getAttr? getAttrBy? getAttrBy
 refine wpAny_bind (wpAny_mkText ?_)
 refine wpAny_bind (wpAny_attempt ?_)
 refine wpAny_holding ?_
 refine wpAny_bind (T0.at ?_)
 refine wpAny_bind (T1.at ?_)
 have c0:(onTheHeap (Value.ref D)&&Value.builtin "BaseException.__getattribute__"==Value.builtin "object.__getattribute__")=false:=by
  have:(Value.builtin "BaseException.__getattribute__"==Value.builtin "object.__getattribute__")=false:=by decide +kernel
  rw[this];rfl
 dsimp only
 rw[c0]
 simp only[Bool.false_eq_true,if_false]
 unfold getAttrByItsOwn
 refine wpAny_bind (Looks.at (show Looks (model prog w) hp (hookBefore (.ref D)) none from T2) ?_)
 refine wpAny_bind (wpAny_attempt ?_)
 refine wpAny_holding ?_
 unfold callGetattribute boundAndCalled
 simp only[Bool.false_and,Bool.false_eq_true,if_false]
 rw[f3]
 refine wpAny_bind (wpAny_pure ?_)
 refine wpAny_call ?_
 refine codeAny_call_builtin F.excAttr_ValueError.ga.plain F.entry_bexc_ga ?_
 have hk:builtinKind "BaseException.__getattribute__"=some .slot:=by decide +kernel
 have hsplit:splitId "BaseException.__getattribute__"=some ("BaseException","__getattribute__"):=by decide +kernel
 have hargs:=F.args_bexc_ga (.ref x) (.str "__class__" tt)
 show wpAny _ _ (checkBuiltinCall "BaseException.__getattribute__" ⟨[.ref x,.str "__class__" tt],[]⟩) _ _ _
 simp only[checkBuiltinCall,hk,hsplit]
 refine wpAny_bind ?_
 refine TI.at ?_
 repeat (first | exact hargs | wp_step)
 obtain⟨ob,k1,k2⟩:=p
 refine wpAny_loadPart k1 ?_
 refine wpAny_pure ?_
 rw[k2]
 refine wpAny_bind (TF.at ?_)
 show wpAny _ _ (bindTo (.builtin "getset_descriptor.__get__") (.builtin "object.__class__") (.ref x) (.ref D)) _ _ _
 show wpAny _ _ (holding [Value.builtin "object.__class__"] (call (.builtin "getset_descriptor.__get__") [Value.builtin "object.__class__",.ref x,.ref D]) >>= ret) _ _ _
 refine wpAny_bind (wpAny_holding ?_)
 refine wpAny_call ?_
 refine codeAny_call_builtin KF.slot_gs.plain KF.entry_gs (KF.slot_gs.check _ _ _ _ _ _ _ _ KF.type_class (KF.args_gs _ _ _) ?_)
 unfold Builtin.«getset_descriptor.__get__» descrGet
 rw[dga_obj]
 refine wpAny_bind (wpAny_pure ?_)
 unfold descrGetter descrCheckInstance descrNameAndClass isInstance
 simp only[KF.owner_class]
 repeat lk
 refine⟨Code.quiet_builtin _ (by decide +kernel),?_⟩
 refine codeAny_builtin KF.entry_class ?_
 unfold Builtin.«object.__class__» shownTypeOf
 repeat lk
 exact k
theorem err_kit (hga:findIn KK (.ref D) "__getattribute__"=some (some (.builtin "BaseException.__getattribute__")))
  (hgn:findIn KK (.ref D) "__getattr__"=some none) (hdct:hasDictIn KK D=true)
  (ha:findIn KK (.ref D) "__class__"=some (some (.builtin "object.__class__")))
  (hn:specialIn KK (.builtin "object.__class__") "__get__"=some (some (.builtin "getset_descriptor.__get__")))
  (htk:takesIn KK (.builtin "object.__class__")=some true) (hm:mroIn KK D (.type "object")=some true)
  (hb:mroIn KK D (.type "BaseException")=some true):
  KitX KK (.ref x) (.ref D) (Err x D) where
 ty:=fun M hp _ p=>err_ty M hp p
 it:=fun _ _ X _=>by
  obtain⟨cdD,hcD,_⟩:=any_some hdct
  unfold clsIn at hcD
  split at hcD
  ·rename_i ho
   intro A' Q' E' s' kk q
   unfold isType loadHead
   refine wpAny_bind ?_
   exact wpAny_loadPart (kk _ _ (X _ _ ho)) (wpAny_pure q)
  ·cases hcD
 ne:=fun hp tp dd its n sl X htp=>by
  obtain⟨cdD,hcD,_⟩:=any_some hdct
  refine Bool.eq_false_iff.mpr fun q=>?_
  have e:D=tp:=Value.ref.inj (beq_iff_eq.mp q)
  subst e
  unfold clsIn at hcD
  split at hcD
  ·rename_i ho
   cases(X _ _ ho).symm.trans htp
  ·cases hcD
 ca:=fun X p k=>err_class hga hgn ha hn htk hm hb X p k
end
end IP
namespace IP
open PySem PySem.Spec L2
structure ExcK (K:PySem.W.Frag) (D:Addr):Prop where
 ga:PySem.W.findIn K (.ref D) "__getattribute__"=some (some (.builtin "BaseException.__getattribute__"))
 gn:PySem.W.findIn K (.ref D) "__getattr__"=some none
 dct:PySem.W.hasDictIn K D=true
 ca:PySem.W.findIn K (.ref D) "__class__"=some (some (.builtin "object.__class__"))
 sp:PySem.W.specialIn K (.builtin "object.__class__") "__get__"=some (some (.builtin "getset_descriptor.__get__"))
 tk:PySem.W.takesIn K (.builtin "object.__class__")=some true
 mo:PySem.W.mroIn K D (.type "object")=some true
 mb:PySem.W.mroIn K D (.type "BaseException")=some true
section
variable {G:Gx} {X:Cx} {C:Cf} {a:Expr} {a':IP.E} {pos p py:Pos} {y:Str} {k:Nat}
theorem isiX_cls {sub:Nat→Nat→Bool} {x:R} {b:Bool} (h:isiX sub x (.cls k)=some b):∃d,x=.val (.exc d)∧b=sub d k:=by
 unfold isiX at h
 split at h
 ·rename_i d kk hk
  cases hk
  cases h
  exact⟨d,rfl,rfl⟩
 ·unfold isiR at h
  split at h<;>first | (cases h;done) | (rename_i z;cases z;done) | (rename_i z _;cases z;done) | simp_all
theorem sV_isx (hkit:∀d,ExcK X.K (G.cA d)) (hone:∀d,PySem.W.kitOne X.K (.ref (G.cA d)) (.ref (G.cA k))=some (C.sub d k)) (hg:Gl X "isinstance") (hm:X.mg "isinstance"=none) (hgy:Gl X y) (hmy:X.mg y=some (.ref (G.cA k))) (hdy:(y==("__debug__":Str))=false)
  (ha:PE X a (tV G X C a')) (hs:starEach [a,.Name y py] X.env=[(false,eval a X.env),(false,eval (.Name y py) X.env)]):PE X (.Call (.Name "isinstance" p) [a,.Name y py] [] pos) (tV G X C (.isi a' (.cls k))):=by
 have hc:CallR X (.builtin "isinstance") (fun xs H Q=>∃v,xs=[v,.ref (G.cA k)]∧r1 G (fun x=>(isiX C.sub x (.cls k)).map fun b=>.val (.bl b)) v H Q):=by
  rintro pins s σ H xs us Q I rv ⟨v,rfl,w,st,rx,r,S,R1,e,q⟩
  obtain⟨u,u',rfl,r1,r2⟩:=rv.two
  cases r2
  obtain⟨b,hb,rfl⟩:=map_some e
  obtain⟨d,rfl,rfl⟩:=isiX_cls hb
  obtain⟨ad,rfl,hH⟩:=R1
  cases r1
  obtain⟨hφ,_⟩:=I.hok ad _ hH
  have z:=hkit d
  exact PySem.W.kia_one (err_kit z.ga z.gn z.dct z.ca z.sp z.tk z.mo z.mb) I.kIn hφ (hone d) (by intro z;cases z) fun tk=>⟨.bl _,H,I.tok tk,rfl,q w H _ (Le.refl _ _) S rfl⟩
 refine PE.imp (zads hc hg hm (show bootBuiltins "isinstance"=some (.builtin "isinstance") by decide +kernel) (zaa4 ha (zaa4 (pe_glob (v:=.ref (G.cA k)) hgy hmy rfl hdy) pa_nil rfl) (by rw[hs];rfl)) (by decide) (by decide) (by rw[hs];rfl) rfl) ?_
 rintro σV H Q ⟨w₀,H₀,w,σ,s,g,h⟩
 obtain⟨w₀,H₀,w,σ,s,g,h⟩:=t1_dr (f:=fun x=>(isiX C.sub x (.cls k)).map fun b=>.val (.bl b)) ⟨w₀,H₀,w,σ,s,g,h⟩
 exact⟨w₀,H₀,w,σ,s,g,h.imp fun v H1 q=>⟨v,rfl,q⟩⟩
end
end IP
end
section
set_option Elab.async false
set_option linter.all false
set_option maxRecDepth 100000
namespace IP
open PySem PySem.Spec L2
section
variable {G:Gx} {X:Cx} {C:Cf} {w w' w₀:Wo} {H H' H₀:Hp} {σ σ':Fr} {σV σV':St} {a b e:Expr} {a' b' e':IP.E} {pos p p2:Pos} {Q:VK}
theorem LeS.puts:∀{ks:List Nat} {us:List T} {vs:List V} {σ:Fr} {σV:St},IP.puts σ ks us=some σ'→vs.length=ks.length→LeS w w H H σ σ' σV (setsV σV ks vs)
 | [],[],vs,σ,σV,hp,hl=>by cases hp;cases vs<;>exact LeS.refl
 | [],_::_,vs,σ,σV,hp,hl=>by cases hp
 | _::_,[],vs,σ,σV,hp,hl=>by cases hp
 | k::ks,u::us,[],σ,σV,hp,hl=>by simp at hl
 | k::ks,u::us,v::vs,σ,σV,hp,hl=>LeS.trans (LeS.put (v:=v)) (LeS.puts (ks:=ks) (us:=us) (vs:=vs) (σ:=IP.put σ k u) (σV:=σV.set k (some v)) hp (by simpa using hl))
end
end IP
end
section
set_option Elab.async false
set_option linter.all false
set_option maxRecDepth 100000
namespace IP
open PySem PySem.Spec L2
section
variable {G:Gx} {X:Cx} {C:Cf}
variable {elt iter tg:Expr} {ifs:List Expr} {scope:Scope} {pos:Pos} {it' ce:E} {g:Tg} {N':List Str} {f:Fr→Sto→Res (Option T)}
theorem locL_get {r:R} {s:Sto} {p:Nat×List T} (h:r.locL s=some p):s[p.1]?=some (.lst p.2):=by
 unfold R.locL at h
 split at h
 ·split at h
  ·rename_i ts q
   cases h
   exact q
  ·cases h
 ·cases h
theorem keepC_ok {α:Type} {l:Nat} {ts:List T} {r:Res α} {o:α} {s':Sto} (h:keepC l ts r=.ok o s'):r=.ok o s'∧s'[l]?=some (.lst ts):=by
 unfold keepC at h
 split at h
 ·rename_i a s
  split at h
  ·rename_i q
   cases h
   exact⟨rfl,q⟩
  ·cases h
 ·rename_i hn
  subst h
  exact(hn o s' rfl).elim
theorem keepC_exc {α:Type} {l:Nat} {ts:List T} {r:Res α} {c:Nat} {s':Sto} (h:keepC l ts r=.exc c s'):r=.exc c s':=by
 unfold keepC at h
 split at h
 ·split at h<;>cases h
 ·exact h
theorem zae7 (hfr:HasFr X) (hc:X.calm=true) (hN:CompN X scope N' (slots g)) (hnd:(slots g).Nodup) (hI:PE X iter (tV G X C it'))
  (hG:∀A fp s2 H2 xe,PG (cxC X N' scope A fp s2 H2 xe) tg (gTg G g)) (hE:∀A fp s2 H2 xe,Turned G (cxC X N' scope A fp s2 H2 xe) ifs elt f) (hs:∀x,foldedSetIterable iter X.env x=pure x)
  {pins:List (Addr×Obj)} {s:Shared} {σV:St} {H:Hp} {w₀ w:Wo} {H₀:Hp} {σ:Fr} {st:Sto} {Q:VK} (I:Inv X pins σV H s) (gd:Good G w₀ H₀ w H σ st σV)
  (h:WantO G X σV w H ((ev C it' .v σ st).bind fun x s1=>onO (x.locL s1) fun p=>(mapRes (fun t s=>onO (bindTg σ g t) fun σ'=>keepC p.1 p.2 (f σ' s)) p.2 s1).bind fun q s2=>.ok (.val (.lst q)) s2) Q)
  {use:Option (Value→Sem Unit)} {Q':Value→Shared→Prop}
  (hfin:∀(s':Shared) (Hc:Hp) (A D:Addr),Inv X pins σV Hc s'→FpOk X pins Hc A→(∃m,s'.heap.Ns A m)→Q (.ref D) Hc→compPost (model X.prog X.w) X.A X.xe use Q' (.ref D) A (.ok .next) s'):
  wpAny (model X.prog X.w) X.A (comprehension (.ListComp elt [⟨tg,iter,ifs,0⟩] scope pos) scope X.env (firstIterPos [⟨tg,iter,ifs,0⟩] pos) (newList []) false (eval iter X.env) use) Q' X.xe s:=by
 refine zadm hfr hc hN hnd (pi_seq hI) hG hE hs I gd ?_ hfin
 refine⟨w₀,H₀,w,σ,st,gd,?_⟩
 cases he:ev C it' .v σ st with
 | stuck=>rw[he] at h;exact h
 | exc c s1=>rw[he] at h;exact h
 | ok x s1=>
  rw[he] at h
  intro w2 H2 v L S R1
  have h:WantO G X σV w H (onO (x.locL s1) fun p=>(mapRes (fun t s=>onO (bindTg σ g t) fun σ'=>keepC p.1 p.2 (f σ' s)) p.2 s1).bind fun q s2=>.ok (.val (.lst q)) s2) Q:=h
  cases hp:x.locL s1 with
  | none=>rw[hp] at h;exact h.elim
  | some p=>
   rw[hp] at h
   have h:WantO G X σV w H ((mapRes (fun t s=>onO (bindTg σ g t) fun σ'=>keepC p.1 p.2 (f σ' s)) p.2 s1).bind fun q s2=>.ok (.val (.lst q)) s2) Q:=h
   obtain⟨ex,ev',hl,vs,e1,e2⟩:=zaef S R1 hp
   subst ev'
   refine⟨w2.io p.1,rfl,.inl ⟨vs,.inl e1,?_⟩⟩
   refine⟨w2,.l (w2.io p.1) vs,p.2,s1,fun s=>s[p.1]?=some (.lst p.2),keepC p.1 p.2,L,S,rfl,fun w' H' s' L' S' k'=>?_,locL_get hp,fun r=>⟨fun o s' e=>keepC_ok e,fun c s' e=>keepC_exc e⟩,?_⟩
   ·obtain⟨vs',a1,a2⟩:=S'.cell p.1 _ k'
    rw[L'.io p.1 hl] at a1
    exact⟨vs',.inl a1,a2⟩
   cases hm:mapRes (fun t s=>onO (bindTg σ g t) fun σ'=>keepC p.1 p.2 (f σ' s)) p.2 s1 with
   | stuck=>rw[hm] at h;exact h.elim
   | exc c s2=>rw[hm] at h;exact h
   | ok q st'=>rw[hm] at h;exact h
theorem comp_ownC (hc:X.calm=true) (hN:CompN X scope N' (slots g)) (hnd:(slots g).Nodup) (hI:PE X iter (tV G X C it'))
  (hG:∀A fp s2 H2 xe,PG (cxC X N' scope A fp s2 H2 xe) tg (gTg G g)) (hE:∀A fp s2 H2 xe,Turned G (cxC X N' scope A fp s2 H2 xe) ifs elt f) (hs:∀x,foldedSetIterable iter X.env x=pure x)
  (hev:∀σ s,ev C ce .v σ s=(ev C it' .v σ s).bind fun x s1=>onO (x.locL s1) fun p=>(mapRes (fun t s=>onO (bindTg σ g t) fun σ'=>keepC p.1 p.2 (f σ' s)) p.2 s1).bind fun q s2=>.ok (.val (.lst q)) s2) (hfr:HasFr X:=by exact⟨_,_,_,rfl,rfl,rfl⟩):
  PE X (.ListComp elt [⟨tg,iter,ifs,0⟩] scope pos) (tO G X C ce):=by
 rintro pins s σV H Q I ⟨w₀,H₀,w,σ,st,gd,h⟩
 rw[hev] at h
 rw[eval_ListComp]
 refine zae7 hfr hc hN hnd hI hG hE hs I gd h (use:=none) fun s' Hc A D I' fA ⟨m,hm⟩ q=>?_
 exact⟨m,hm,fun h' sb=>⟨.ref D,Hc,gone I' fA sb,rfl,q⟩⟩
theorem compC_is {elt it:IP.E} {g:Tg} {σ:Fr} {s:Sto} {r:R} {s1:Sto} (h:ev C (.compC elt g it) .v σ s=.ok r s1):∃ts,r=.val (.lst ts):=by
 have h:((ev C it .v σ s).bind fun x s1=>onO (x.locL s1) fun p=>(mapRes (fun t s=>onO (bindTg σ g t) fun σ'=>keepC p.1 p.2 (one (ev C elt .v σ' s))) p.2 s1).bind fun q s2=>.ok (.val (.lst q)) s2)=.ok r s1:=h
 cases hi:ev C it .v σ s with
 | stuck=>rw[hi] at h;cases h
 | exc c s2=>rw[hi] at h;cases h
 | ok x s2=>
  rw[hi] at h
  obtain⟨p,_,h⟩:=onO_ok h
  cases hm:mapRes (fun t s=>onO (bindTg σ g t) fun σ'=>keepC p.1 p.2 (one (ev C elt .v σ' s))) p.2 s2 with
  | stuck=>rw[hm] at h;cases h
  | exc c s3=>rw[hm] at h;cases h
  | ok q s3=>rw[hm] at h;cases h;exact⟨q,rfl⟩
end
end IP
end
section
set_option Elab.async false
set_option linter.all false
set_option maxRecDepth 100000
namespace IP
open PySem PySem.Spec L2
section
variable {G:Gx} {X:Cx} {C:Cf}
end
end IP
end
section
set_option Elab.async false
set_option linter.all false
set_option maxRecDepth 100000
namespace IP
open PySem PySem.Spec L2
section
variable {G:Gx} {X:Cx} {C:Cf} {w w' w₀:Wo} {H H' H₀:Hp} {σ σ':Fr} {σV σV':St} {pos:Pos}
end
end IP
end
section
set_option Elab.async false
set_option linter.all false
set_option maxRecDepth 100000
namespace IP
open PySem PySem.Spec L2
section
variable {G:Gx} {X:Cx} {C:Cf} {w w' w₀:Wo} {H H' H₀:Hp} {σ σ':Fr} {σV σV':St} {pos:Pos}
end
end IP
end
section
set_option Elab.async false
set_option linter.all false
set_option maxRecDepth 100000
namespace IP
open PySem PySem.Spec L2
section
variable {G:Gx} {X:Cx} {C:Cf} {a b e:Expr} {a' b' e':IP.E} {pos p p2:Pos}
def relN (sc names:List (Str×NameKind)):List (Str×NameKind):=names.map fun(n,k)=>if(k==.free&&sc.lookup n==some .cell) then(n,.cell) else(n,k)
def visB (names:List (Str×NameKind)) (x:Str):Bool:=names.lookup x==some .local||names.lookup x==some .cell||names.lookup x==some .free
def ckComp (sc names:List (Str×NameKind)) (N N':List Str) (js:List Nat):Bool:=
 names.all (fun x=>x.2 != .cell)&&names.all (fun x=>x.2 != .free||sc.lookup x.1==some .cell||sc.lookup x.1==some .free)&&decide (N'.length=N.length)&&decide N'.Nodup &&
 names.all (fun x=>x.2 != .local||names.lookup x.1==some .local) &&
 (List.range N'.length).all fun i=>js.contains i||match N'[i]? with
  | none=>true
  | some x=>!visB (relN sc names) x||(N[i]?==some x&&names.contains (x,NameKind.free)&&((relN sc names).lookup x==some .cell||(relN sc names).lookup x==some .free))
theorem rel_eq {scope:Scope} {sc:List (Str×NameKind)} (hsc:X.env.scope.names=sc) (hk:X.env.scope.kind=.function):(relabel scope X.env).names=relN sc scope.names:=by
 subst hsc
 unfold relabel relN Env.kindOf
 rw[hk]
 simp
theorem zaa7 {scope:Scope} {sc:List (Str×NameKind)} {N N':List Str} {js:List Nat} (hsc:X.env.scope.names=sc) (hk:X.env.scope.kind=.function) (hN:X.N=N) (hks:scope.kind=.function) (h:ckComp sc scope.names N N' js=true):CompN X scope N' js:=by
 unfold ckComp at h
 simp only[Bool.and_eq_true,List.all_eq_true,Bool.or_eq_true,bne_iff_ne,ne_eq,beq_iff_eq,decide_eq_true_eq] at h
 obtain⟨⟨⟨⟨⟨h1,h2⟩,h3⟩,h4⟩,h5⟩,h6⟩:=h
 refine⟨hks,h1,fun x hx e=>?_,by rw[hN];exact h3,h4,fun i x hi hj hv=>?_,fun x hx e=>?_⟩
 ·rcases h2 x hx with(q | q) | q
  ·exact absurd e q
  ·exact .inl (by unfold Env.kindOf;rw[hsc];exact q)
  ·exact .inr (by unfold Env.kindOf;rw[hsc];exact q)
 ·have hil:i < N'.length:=(List.getElem?_eq_some_iff.mp hi).1
  have q:=h6 i (List.mem_range.mpr hil)
  rw[hi] at q
  unfold Vis at hv
  rw[rel_eq hsc hk] at hv ⊢
  rcases q with q | q
  ·exact absurd (List.contains_iff_mem.mp q) hj
  ·have hv':visB (relN sc scope.names) x=true:=by
    unfold visB
    rcases hv with z | z | z<;>rw[z]<;>rfl
   simp only[hv',Bool.not_true,Bool.false_eq_true,false_or,Bool.and_eq_true,Bool.or_eq_true,beq_iff_eq] at q
   obtain⟨⟨q1,q2⟩,q3⟩:=q
   exact⟨by rw[hN];exact q1,List.contains_iff_mem.mp q2,q3⟩
 ·rcases h5 x hx with q | q
  ·exact absurd e q
  ·exact q
theorem map_lst {f:T→Sto→Res (Option T)} {m:Res R} {r:R} {s1:Sto} (h:(m.bind fun x s1=>onL x fun ts=>(mapRes f ts s1).bind fun q s2=>.ok (.val (.lst q)) s2)=.ok r s1):∃ts,r=.val (.lst ts):=by
 cases m with
 | stuck=>cases h
 | exc c s=>cases h
 | ok x s=>
  replace h:(onL x fun ts=>(mapRes f ts s).bind fun q s2=>.ok (.val (.lst q)) s2)=.ok r s1:=h
  unfold onL at h
  split at h
  ·rename_i ts
   replace h:((mapRes f ts s).bind fun q s2=>.ok (.val (.lst q)) s2)=.ok r s1:=h
   cases hm:mapRes f ts s with
   | stuck=>rw[hm] at h;cases h
   | exc c s=>rw[hm] at h;cases h
   | ok q s2=>rw[hm] at h;cases h;exact⟨q,rfl⟩
  ·cases h
theorem zacd {elt it:IP.E} {g:Tg} {σ:Fr} {s:Sto} {r:R} {s1:Sto} (h:ev C (.comp elt g it) .v σ s=.ok r s1):∃ts,r=.val (.lst ts):=map_lst h
theorem wv (i:Nat) {x:Str} (hN:X.N[i]?=some x:=by rfl) (hv:Vis X.env.scope x:=by first | exact Or.inl rfl | exact Or.inr (Or.inl rfl) | exact Or.inr (Or.inr rfl)) (hd:(x==("__debug__":Str))=false:=by decide) (hcd:(x==("__classdict__":Str))=false:=by decide):PE X (.Name x pos) (tV G X C (.var i)):=sV_var hN hv hd hcd
theorem wtr {e:Expr} (hE:PE X e (tV G X C e')) (he:∀whole,isTrue e X.env whole=(do let v ← whole;standAt e.pos;holding [v] (truthy v)):=by intro _;rfl)
  (hev:∀σ s,ev C e' .t σ s=(ev C e' .v σ s).bind fun x s=>.of (truK x) s:=by intro _ _;rfl):PT X e (tT G X C e'):=sT_plain hE he hev
theorem wcv (hu:X.A.units+9 < cLine) (c:Cm) (ha:PE X a (tV G X C a')) (hb:PE X b (tV G X C b')) (hm:behindInMarks (cmOf c) b=false:=by rfl):PE X (.Compare a [cmOf c] [b] pos) (tV G X C (.cmp c a' b')):=sV_cmp hu c ha hb hm
theorem wct (hu:X.A.units+9 < cLine) (c:Cm) (ha:PE X a (tV G X C a')) (hb:PE X b (tV G X C b')) (hm:behindInMarks (cmOf c) b=false:=by rfl):PT X (.Compare a [cmOf c] [b] pos) (tT G X C (.cmp c a' b')):=sT_cmp hu c ha hb hm
theorem wone {op} (h:PE X a (tV G X C a')):PE X (.BoolOp op [a] pos) (tV G X C a'):=pe_one h
theorem wsub (ha:PE X a (tV G X C a')) (hb:PE X b (tV G X C b')) (hs:zafj b:=by intro _ _;rfl):PE X (.Subscript a b pos) (tV G X C (.sub a' b')):=sV_sub ha hb hs
theorem wac {es:List Expr} {es':List IP.E} (ha:PE X a (tV G X C a')) (hr:PA X es (tA G X C es')) (hs:starEach (a::es) X.env=(false,eval a X.env)::starEach es X.env:=by rfl):PA X (a::es) (tA G X C (a'::es')):=sA_cons ha hr hs
theorem wrc {es:List Expr} {es':List IP.E} (ha:PE X a (tV G X C a')) (hr:PA X es (tR G X C es')) (hs:starEach (a::es) X.env=(false,eval a X.env)::starEach es X.env:=by rfl):PA X (a::es) (tR G X C (a'::es')):=sR_cons ha hr hs
theorem wtup {es:List Expr} {es':List IP.E} {k:Nat} (h:PA X es (tA G X C es')) (hz:es'.length≤1000:=by decide):PE X (.Tuple es k pos) (tV G X C (.tup es')):=sV_tup h (Nat.le_trans hz (by decide))
theorem wlst {es:List Expr} {es':List IP.E} (h:PA X es (tA G X C es')) (hz:es'.length≤1000:=by decide):PE X (.List es pos) (tV G X C (.lst es')):=sV_lst h (Nat.le_trans hz (by decide))
theorem wlstO {es:List Expr} {es':List IP.E} (h:PA X es (tA G X C es')) (hz:es'.length≤1000:=by decide):PE X (.List es pos) (tO G X C (.lst es')):=sO_lst h (Nat.le_trans hz (by decide))
theorem wlen (hm:X.mg "len"=none) (ha:PE X a (tV G X C a')) (hg:Gl X "len":=by rfl) (hs:starEach [a] X.env=[(false,eval a X.env)]:=by rfl):PE X (.Call (.Name "len" p) [a] [] pos) (tV G X C (.b1 .len a')):=sB1 c_len hg hm (by rfl) (by decide) (by decide) ha hs fun _ _=>rfl
theorem wabs (hm:X.mg "abs"=none) (ha:PE X a (tV G X C a')) (hg:Gl X "abs":=by rfl) (hs:starEach [a] X.env=[(false,eval a X.env)]:=by rfl):PE X (.Call (.Name "abs" p) [a] [] pos) (tV G X C (.b1 .abs a')):=sB1 c_abs hg hm (by rfl) (by decide) (by decide) ha hs fun _ _=>rfl
theorem wint (hm:X.mg "int"=none) (ha:PE X a (tV G X C a')) (hg:Gl X "int":=by rfl) (hs:starEach [a] X.env=[(false,eval a X.env)]:=by rfl):PE X (.Call (.Name "int" p) [a] [] pos) (tV G X C (.b1 .int a')):=sTy1 c_int hg hm (by rfl) (by decide) (by decide) ha hs fun _ _=>rfl
theorem wlist (hm:X.mg "list"=none) (ha:PE X a (tV G X C a')) (hg:Gl X "list":=by rfl) (hs:starEach [a] X.env=[(false,eval a X.env)]:=by rfl):PE X (.Call (.Name "list" p) [a] [] pos) (tV G X C (.b1 .list a')):=sTy1 c_list hg hm (by rfl) (by decide) (by decide) ha hs fun _ _=>rfl
theorem wlistO (hm:X.mg "list"=none) (ha:PE X a (tV G X C a')) (hg:Gl X "list":=by rfl) (hs:starEach [a] X.env=[(false,eval a X.env)]:=by rfl):PE X (.Call (.Name "list" p) [a] [] pos) (tO G X C (.b1 .list a')):=sO_list hg hm ha hs
theorem wtuple (hm:X.mg "tuple"=none) (ha:PE X a (tV G X C a')) (hg:Gl X "tuple":=by rfl) (hs:starEach [a] X.env=[(false,eval a X.env)]:=by rfl):PE X (.Call (.Name "tuple" p) [a] [] pos) (tV G X C (.b1 .tuple a')):=sTy1 c_tuple hg hm (by rfl) (by decide) (by decide) ha hs fun _ _=>rfl
theorem wany (hm:X.mg "any"=none) (ha:PE X a (tV G X C a')) (hg:Gl X "any":=by rfl) (hs:starEach [a] X.env=[(false,eval a X.env)]:=by rfl) (hc:X.calm=true:=by rfl):PE X (.Call (.Name "any" p) [a] [] pos) (tV G X C (.b1 .any a')):=sB1 (c_any hc) hg hm (by rfl) (by decide) (by decide) ha hs fun _ _=>rfl
theorem wall (hm:X.mg "all"=none) (ha:PE X a (tV G X C a')) (hg:Gl X "all":=by rfl) (hs:starEach [a] X.env=[(false,eval a X.env)]:=by rfl) (hc:X.calm=true:=by rfl):PE X (.Call (.Name "all" p) [a] [] pos) (tV G X C (.b1 .all a')):=sB1 (c_all hc) hg hm (by rfl) (by decide) (by decide) ha hs fun _ _=>rfl
theorem wisi (c:Ty) {n:String} {y:Str} {py:Pos} (hm:X.mg "isinstance"=none) (hmy:X.mg y=none) (ha:PE X a (tV G X C a')) (hn:tyOf c=some n:=by rfl) (hg:Gl X "isinstance":=by rfl) (hgy:Gl X y:=by rfl) (hv:bootBuiltins y=some (.type n):=by rfl) (hy:y≠"__name__":=by decide) (hdy:(y==("__debug__":Str))=false:=by decide)
  (hs:starEach [a,.Name y py] X.env=[(false,eval a X.env),(false,eval (.Name y py) X.env)]:=by rfl):PE X (.Call (.Name "isinstance" p) [a,.Name y py] [] pos) (tV G X C (.isi a' c)):=sV_isi hn hg hm hgy hmy hv hy hdy ha hs
theorem wpl {tg e:Expr} (hE:PE X e (tV G X C e')) (hev:∀σ s,ev C e' .i σ s=fin .i (ev C e' .v σ s):=by intro _ _;rfl):PI X tg e (tI G X C e' .i false):=zae4 hE (.inl ⟨rfl,rfl⟩) hev
theorem wpj {tg e:Expr} (hE:PE X e (tV G X C e')) (hev:∀σ s,ev C e' .j σ s=fin .j (ev C e' .v σ s):=by intro _ _;rfl):PI X tg e (tI G X C e' .j true):=zae4 hE (.inr ⟨rfl,rfl⟩) hev
theorem wr1 {tg:Expr} {m:Md} {z:Bool} (hmg:X.mg "range"=none) (ha:PE X a (tV G X C a')) (hm:m=.i∨m=.j:=by first | exact .inl rfl | exact .inr rfl) (hg:Gl X "range":=by rfl) (hs:starEach [a] X.env=[(false,eval a X.env)]:=by rfl):PI X tg (.Call (.Name "range" p) [a] [] pos) (tI G X C (.rng1 a') m z):=sI_rng1 hm hg hmg ha hs
theorem wg1 {i:Nat} {x:Str} (hN:X.N.Nodup) (hi:X.N[i]?=some x:=by rfl) (hx:Loc X.env.scope x:=by first | exact Or.inl rfl | exact Or.inr rfl) (hf:X.fn x=true∨X.env.scope.names.lookup x=some .local:=by first | exact Or.inl rfl | exact Or.inr rfl):PG X (.Name x pos) (gTg G (.one i)):=sG_one hN hi hx hf
variable {i:Nat} {x:Str} {pos':Pos}
theorem qasg (hN:X.N.Nodup) (he:PE X e (tV G X C e')) (hi:X.N[i]?=some x:=by rfl) (hx:Loc X.env.scope x:=by first | exact Or.inl rfl | exact Or.inr rfl) (hs:swapsWith e (some (.Name x pos')) pos.line X.env=pure false:=by rfl) (hf:X.fn x=true∨X.env.scope.names.lookup x=some .local:=by exact Or.inl rfl):PS X (.Assign [.Name x pos'] e pos) (tS G X C (.asg i e')):=sS_asg hN hi hx he hs hf
theorem qmk (hN:X.N.Nodup) (he:PE X e (tO G X C e')) (hi:X.N[i]?=some x:=by rfl) (hx:Loc X.env.scope x:=by first | exact Or.inl rfl | exact Or.inr rfl) (hs:swapsWith e (some (.Name x pos')) pos.line X.env=pure false:=by rfl) (hf:X.fn x=true∨X.env.scope.names.lookup x=some .local:=by exact Or.inl rfl):PS X (.Assign [.Name x pos'] e pos) (tS G X C (.mk i e')):=sS_mk hN hi hx he hs hf
theorem qapp {p1 cpos:Pos} (he:PE X e (tV G X C e')) (hN:X.N[i]?=some x:=by rfl) (hv:Vis X.env.scope x:=by first | exact Or.inl rfl | exact Or.inr (Or.inl rfl)) (hd:(x==("__debug__":Str))=false:=by decide) (hcd:(x==("__classdict__":Str))=false:=by decide) (hst:starEach [e] X.env=[(false,eval e X.env)]:=by rfl)
  (hline:(p2.endLine==cpos.line)=true:=by rfl) (hbase:attributeBase (.Name x p1) "append" X.env (eval (.Name x p1) X.env)=eval (.Name x p1) X.env:=by rfl)
  (hfew:((backTo cpos (starEach [e] X.env)).all (fun x=>!x.1)&&(backToKw cpos (keywordEach [] X.env)).all (fun x=>x.1.isSome)&&decide ([e].length+([]:List Keyword).length+(if([]:List Keyword).isEmpty then 0 else 1) < 30))=true:=by rfl)
  (hs:swapsWith (.Call (.Attribute (.Name x p1) "append" p2) [e] [] cpos) none pos.line X.env=pure false:=by rfl):
  PS X (.Expr (.Call (.Attribute (.Name x p1) "append" p2) [e] [] cpos) pos) (tS G X C (.app i e')):=sS_app hN hv hd hcd he hst hline hbase hfew hs
theorem qexp (he:PE X e (tV G X C e')) (hs:swapsWith e none pos.line X.env=pure false:=by rfl):PS X (.Expr e pos) (tS G X C (.exp e')):=sS_exp he hs
end
section
variable {G:Gx} {X:Cx} {fs:List Fn} {sub:Nat→Nat→Bool} {k fi:Nat} {fa:Addr} {fd:FuncData} {ps:List Str} {e₀:Expr} {es:List Expr} {es':List IP.E} {x:Str} {p pos:Pos}
end
end IP
end
section
set_option Elab.async false
set_option linter.all false
set_option maxRecDepth 100000
namespace IP
open PySem PySem.Spec L2
def nth {α:Type}:List α→α→Nat→α
 | [],z,_=>z
 | a::_,_,0=>a
 | _::r,z,n+1=>nth r z n
theorem fn_top {G:Gx} {P:Program} {w:World} {K:PySem.W.Frag} {mg:Str→Option Value} {base:Heap} {k:Nat} {f:Addr} {fd:FuncData} {ps:List Str} {sp:Sp} (F:FnOk P w K mg base (CXE G P w base) k f fd ps sp):FnOk P w K mg base CX0 k f fd ps (fun vs H Q _=>sp vs H Q fun _ _ _=>False):=by
 refine⟨fun vs H Q E h=>F.len vs H Q _ h,fun A outer s H args us vs Q E hr e0 hb hv h=>codeAny_mono (F.run A outer s H args us vs Q (fun _ _ _=>False) hr e0 hb hv h) fun r s' q=>?_⟩
 cases r with
 | ok fl=>
  cases fl with
  | ret u=>exact q
  | next=>exact q
  | brk=>exact q
  | cont=>exact q
 | error e=>
  obtain⟨a,cls,t,H',h,B,_,_,_,_,_,_,_,_,z⟩:=q
  exact z
section
variable {G:Gx} {X:Cx} {fs:List Fn} {sub:Nat→Nat→Bool} {k fi:Nat} {fa:Addr} {fd:FuncData} {ps:List Str} {a b e j o e₀:Expr} {es:List Expr} {a' b' e' j':IP.E} {es':List IP.E} {x m y n:Str} {p p1 p2 pos pos' apos cpos:Pos} {ds:List Value} {dvs:List V} {dts:List T} {c f i:Nat}
theorem xcall (F:FnOk X.prog X.w X.K X.mg X.base (CXE G X.prog X.w X.base) (2*k) fa fd ps (spG G (cfX fs sub k).cf (cfX fs sub k).fr fi)) (hr:Room (2*k+1) X.A) (hm:X.mg x=some (.ref fa)) (hk:PySem.W.keepIn X.K (.ref fa)=true) (hb:Binds X.K fd ps ds) (hd:Vals dvs ds) (hdt:dts.mapM cstV=some dvs) (ha:PA X (e₀::es) (tR G X (cfX fs sub k) es'))
  (hf:frOf fs fi=false:=by rfl) (hg:Gl X x:=by rfl) (hdb:(x==("__debug__":Str))=false:=by decide) (he:starEach (e₀::es) X.env=(false,eval e₀ X.env)::starEach es X.env:=by rfl) (hpl:(backTo pos (starEach es X.env)).any (·.1)=false:=by rfl):
  PE X (.Call (.Name x p) (e₀::es) [] pos) (tV G X (cfX fs sub k) (.call fi es' dts)):=sV_callX hf F (hr.mono (Nat.le_succ _)) hg hm hk hb hd hdt ha hdb he hpl
theorem xmeth {pl:Sem Bool} (hcl:Cls X.K (G.iA c)) (hmt:Meth X.K (G.iA c) m fa) (F:FnOk X.prog X.w X.K X.mg X.base (CXE G X.prog X.w X.base) (2*k) fa fd ps (spG G (cfX fs sub k).cf (cfX fs sub k).fr fi)) (hr:Room (2*k+1) X.A) (hb:Binds X.K fd ps ds) (hd:Vals dvs ds) (hdt:dts.mapM cstV=some dvs)
  (ho:PE X o (tV G X (cfX fs sub k) a')) (ha:PA X (e₀::es) (tR G X (cfX fs sub k) es')) (hf:frOf fs fi=false:=by rfl) (hnm:m∉G.nm c:=by decide) (hst:starEach (e₀::es) X.env=(false,eval e₀ X.env)::starEach es X.env:=by rfl) (hpl:(backTo pos (starEach es X.env)).any (·.1)=false:=by rfl)
  (ht:eval (.Call (.Attribute o m apos) (e₀::es) [] pos) X.env=(do
   let ov ← eval o X.env
   standAt apos.atName
   let (f,first) ← holding [ov] (getMethod ov m pl)
   callWith pos f first (backTo pos (starEach (e₀::es) X.env)) (backToKw pos (keywordEach [] X.env))):=by rfl):PE X (.Call (.Attribute o m apos) (e₀::es) [] pos) (tV G X (cfX fs sub k) (.meth a' c fi es' dts)):=
 sV_methX hf hcl hmt hnm F (hr.mono (Nat.le_succ _)) hb hd hdt ho ha hst hpl ht
theorem xmeth0 {pl:Sem Bool} (hcl:Cls X.K (G.iA c)) (hmt:Meth X.K (G.iA c) m fa) (F:FnOk X.prog X.w X.K X.mg X.base (CXE G X.prog X.w X.base) (2*k) fa fd ps (spG G (cfX fs sub k).cf (cfX fs sub k).fr fi)) (hr:Room (2*k+1) X.A) (hb:Binds X.K fd ps ds) (hd:Vals dvs ds) (hdt:dts.mapM cstV=some dvs)
  (ho:PE X o (tV G X (cfX fs sub k) a')) (hf:frOf fs fi=false:=by rfl) (hnm:m∉G.nm c:=by decide)
  (ht:eval (.Call (.Attribute o m apos) [] [] pos) X.env=(do
   let ov ← eval o X.env
   standAt apos.atName
   let (f,first) ← holding [ov] (getMethod ov m pl)
   callWith pos f first (backTo pos (starEach [] X.env)) (backToKw pos (keywordEach [] X.env))):=by rfl):PE X (.Call (.Attribute o m apos) [] [] pos) (tV G X (cfX fs sub k) (.meth a' c fi [] dts)):=
 sV_methX0 hf hcl hmt hnm F (hr.mono (Nat.le_succ _)) hb hd hdt ho ht
theorem xnew0 {nf:Nat} (M:Mk X.K (G.iA c) fa) (F:FnOk X.prog X.w X.K X.mg X.base (CXE G X.prog X.w X.base) (2*k) fa fd ps (spG G (cfX fs sub k).cf (cfX fs sub k).fr fi)) (hr:Room (2*k+1) X.A) (hm:X.mg x=some (.ref (G.iA c))) (hb:Binds X.K fd ps ds) (hd:Vals dvs ds) (hdt:dts.mapM cstV=some dvs)
  (hf:frOf fs fi=false:=by rfl) (hg:Gl X x:=by rfl) (hdb:(x==("__debug__":Str))=false:=by decide):PE X (.Call (.Name x p) [] [] pos) (tV G X (cfX fs sub k) (.new c fi nf [] dts)):=sV_newX0 hf M F hr hg hm hb hd hdt hdb
end
section
variable {G:Gx} {X:Cx} {C:Cf} {a b e j o e₀:Expr} {es:List Expr} {a' b' e' j':IP.E} {es':List IP.E} {x m y n:Str} {p p1 p2 pos pos' apos cpos np mp yp hpos:Pos} {c f i:Nat}
theorem xfld (hc:Cls X.K (G.iA c)) (hna:NoAttr X.K (G.iA c) x) (ha:PE X a (tV G X C a')) (hn:(G.nm c)[f]?=some x:=by rfl) (hb:attributeBase a x X.env (eval a X.env)=eval a X.env:=by rfl):PE X (.Attribute a x pos) (tV G X C (.fld a' c f)):=sV_fld hc hn hna ha hb
theorem xcell (ha:PE X a (tO G X C a')):PE X a (tV G X C (.cell a')):=sV_cell ha
theorem xisx {k:Nat} (hkit:∀d,ExcK X.K (G.cA d)) (hone:∀d,PySem.W.kitOne X.K (.ref (G.cA d)) (.ref (G.cA k))=some (C.sub d k)) (hm:X.mg "isinstance"=none) (hmy:X.mg y=some (.ref (G.cA k))) (ha:PE X a (tV G X C a')) (hg:Gl X "isinstance":=by rfl) (hgy:Gl X y:=by rfl) (hdy:(y==("__debug__":Str))=false:=by decide)
  (hs:starEach [a,.Name y yp] X.env=[(false,eval a X.env),(false,eval (.Name y yp) X.env)]:=by rfl):PE X (.Call (.Name "isinstance" p) [a,.Name y yp] [] pos) (tV G X C (.isi a' (.cls k))):=sV_isx hkit hone hg hm hgy hmy hdy ha hs
theorem yputL (he:PE X e (tV G X C e')) (ha:PE X a (tV G X C a')) (hj:PE X j (tV G X C j')) (hs:swapsWithSole [.Subscript a j p2] e pos.line X.env=pure false:=by rfl) (hw:swappedStores [.Subscript a j p2] e X.env=pure none:=by rfl) (h1:(assignEach [.Subscript a j p2] X.env).map (·.2)=[assign (.Subscript a j p2) X.env]:=by rfl)
  (hag:∀v,assign (.Subscript a j p2) X.env v=(do
   let ov ← holding [v] (eval a X.env)
   let iv ← holding [v,ov] (eval j X.env)
   standAt p2
   holding [v,ov,iv] (setItem ov iv v)
   release [v,ov,iv] []):=by intro _;rfl):PS X (.Assign [.Subscript a j p2] e pos) (tS G X C (.putL a' j' e')):=sS_putL he ha hj hs hw h1 hag
theorem yappL (ha:PE X a (tV G X C a')) (he:PE X e (tV G X C e')) (hst:starEach [e] X.env=[(false,eval e X.env)]:=by rfl) (hline:(p2.endLine==cpos.line)=true:=by rfl) (hbase:attributeBase a "append" X.env (eval a X.env)=eval a X.env:=by rfl)
  (hfew:((backTo cpos (starEach [e] X.env)).all (fun x=>!x.1)&&(backToKw cpos (keywordEach [] X.env)).all (fun x=>x.1.isSome)&&decide ([e].length+([]:List Keyword).length+(if([]:List Keyword).isEmpty then 0 else 1) < 30))=true:=by rfl)
  (hs:swapsWith (.Call (.Attribute a "append" p2) [e] [] cpos) none pos.line X.env=pure false:=by rfl):PS X (.Expr (.Call (.Attribute a "append" p2) [e] [] cpos) pos) (tS G X C (.appL a' e')):=sS_appL ha he hst hline hbase hfew hs
theorem ysetF (hcl:Cls X.K (G.iA c)) (hna:NoAttr X.K (G.iA c) x) (ha:PE X o (tV G X C a')) (he:PE X e (tV G X C e')) (hn:(G.nm c)[f]?=some x:=by rfl) (hnd:(G.nm c).Nodup:=by decide) (hlen:(G.nm c).length≤100:=by decide) (hs:swapsWith e (some (.Attribute o x pos')) pos.line X.env=pure false:=by rfl):
  PS X (.Assign [.Attribute o x pos'] e pos) (tS G X C (.setF a' c f e')):=sS_setF hcl hn hnd hlen hna ha he hs
theorem yraise {ms:Str} {jj:Nat} (hm:X.mg x=some (.ref (G.cA c))) (hq:PySem.W.excIn X.K (G.cA c) [.type "ValueError",.type "Exception",.type "BaseException",.type "object"] "ValueError.__new__"=true) (hc:X.calm=true:=by rfl) (hg:Gl X x:=by rfl) (hdb:(x==("__debug__":Str))=false:=by decide)
  (he:starEach [.Constant (.str ms) jj mp] X.env=[(false,eval (.Constant (.str ms) jj mp) X.env)]:=by rfl):PS X (.Raise (some (.Call (.Name x np) [.Constant (.str ms) jj mp] [] cpos)) none pos) (tS G X C (.raise c)):=sS_raise hc hg hm hq PySem.F.excBase_ValueError hdb he
theorem ytryN {body suite:List Stmt} {b' h':List S} {b₀:Stmt} (hN:X.N.Nodup) (hm:X.mg y=some (.ref (G.cA c))) (hmt:∀d,PySem.W.exmOne X.K (.ref (G.cA d)) (.ref (G.cA c))=some (C.sub d c))
  (hbody:∀(E:Value→Shared→Prop) (pn:List (Addr×Obj)),PassesOwn (model X.prog X.w) X.A X.env E→PSs (tryX X E pn) body (tSs G (tryX X E pn) C b')) (hsuite:∀e,PSs (hnd X e) (b₀::suite) (tSs G (hnd X e) C h'))
  (hst:X.stack=X.env::X.outer∧X.env.frame=some X.env.locals:=by exact⟨rfl,rfl⟩) (hex:X.ex=[]:=by rfl) (hi:X.N[i]?=some n:=by rfl) (hl:X.env.scope.names.lookup n=some .local:=by rfl) (hg:Gl X y:=by rfl) (hdb:(y==("__debug__":Str))=false:=by decide):
  PS X (.Try body [.ExceptHandler (some (.Name y yp)) (some n) (b₀::suite) hpos] [] [] pos) (tS G X C (.try_ b' c (some i) h')):=sS_tryN hst hex hN hi hl hg hm hdb hmt hbody hsuite
theorem yfor {tg iter:Expr} {it':IP.E} {g:Tg} {bb:List Stmt} {b':List S} (hp:PassesOwn (model X.prog X.w) X.A X.env X.xe) (hI:PI X tg iter (tI G X C it' .j true)) (hg:PG X tg (gTg G g)) (hb:PSs X bb (tSs G X C b')) (hc:X.calm=true:=by rfl)
  (hs:∀x,foldedSetIterable iter X.env x=pure x:=by intro _;rfl) (hit:∀i,it'≠.var i:=by intro _ h;cases h):PS X (.For tg iter bb [] pos) (tS G X C (.for_ g it' b')):=sS_for hp hc hI hg hb hs hit
theorem yforV {tg:Expr} {xp:Pos} {g:Tg} {bb:List Stmt} {b':List S} (hp:PassesOwn (model X.prog X.w) X.A X.env X.xe) (hg:PG X tg (gTg G g)) (hb:PSs X bb (tSs G X C b')) (hc:X.calm=true:=by rfl) (hN:X.N[i]?=some x:=by rfl) (hv:Vis X.env.scope x:=by first | exact Or.inl rfl | exact Or.inr (Or.inl rfl)) (hd:(x==("__debug__":Str))=false:=by decide) (hcd:(x==("__classdict__":Str))=false:=by decide)
  (hs:∀y,foldedSetIterable (.Name x xp) X.env y=pure y:=by intro _;rfl):PS X (.For tg (.Name x xp) bb [] pos) (tS G X C (.for_ g (.var i) b')):=sS_forV hp hc hN hv hd hcd hg hb hs
theorem xglb {i:Int} {t:Tok} (hm:X.mg x=some (.int i t)) (hg:Gl X x:=by rfl) (hd:(x==("__debug__":Str))=false:=by decide):PE X (.Name x pos) (tV G X C (.glb x i)):=sV_glb hg hm hd
end
section
variable {G:Gx} {X:Cx} {C:Cf}
@[irreducible] def HSs (X:Cx) (st:List Stmt) (t:TS):Prop:=PSs X st t
@[irreducible] def HS (X:Cx) (st:Stmt) (t:TS):Prop:=PS X st t
@[irreducible] def HE (X:Cx) (e:Expr) (t:TE):Prop:=PE X e t
@[irreducible] def HA (X:Cx) (es:List Expr) (t:TA):Prop:=PA X es t
theorem hSs_eq {st:List Stmt} {t:TS}:HSs X st t=PSs X st t:=by unfold HSs;rfl
theorem hSs_mk {st:List Stmt} {t:TS} (h:PSs X st t):HSs X st t:=by unfold HSs;exact h
theorem hSs_cons {st:Stmt} {rest:List Stmt} {a:S} {as:List S} (h1:HS X st (tS G X C a)) (h2:HSs X rest (tSs G X C as)):HSs X (st::rest) (tSs G X C (a::as)):=by unfold HSs HS at *;exact zaaa h1 h2
theorem hasg {x:Str} {pos pos':Pos} {i:Nat} {e:Expr} {e':IP.E} (hN:X.N.Nodup) (he:HE X e (tV G X C e')) (hi:X.N[i]?=some x:=by rfl) (hx:Loc X.env.scope x:=by first | exact Or.inl rfl | exact Or.inr rfl) (hs:swapsWith e (some (.Name x pos')) pos.line X.env=pure false:=by rfl) (hf:X.fn x=true∨X.env.scope.names.lookup x=some .local:=by exact Or.inl rfl):HS X (.Assign [.Name x pos'] e pos) (tS G X C (.asg i e')):=by
 unfold HS
 unfold HE at he
 exact sS_asg hN hi hx he hs hf
theorem hlst {es:List Expr} {es':List IP.E} {pos:Pos} (h:HA X es (tA G X C es')) (hz:es'.length≤1000:=by decide):HE X (.List es pos) (tV G X C (.lst es')):=by
 unfold HE
 unfold HA at h
 exact sV_lst h (Nat.le_trans hz (by decide))
theorem hlstO {es:List Expr} {es':List IP.E} {pos:Pos} (h:HA X es (tA G X C es')) (hz:es'.length≤1000:=by decide):HE X (.List es pos) (tO G X C (.lst es')):=by
 unfold HE
 unfold HA at h
 exact sO_lst h (Nat.le_trans hz (by decide))
theorem hac {a:Expr} {a':IP.E} {es:List Expr} {es':List IP.E} (ha:HE X a (tV G X C a')) (hr:HA X es (tA G X C es')) (hs:starEach (a::es) X.env=(false,eval a X.env)::starEach es X.env:=by rfl):HA X (a::es) (tA G X C (a'::es')):=by
 unfold HA at *
 unfold HE at ha
 exact sA_cons ha hr hs
theorem hA_nil:HA X [] (tA G X C []):=by unfold HA;exact sA_nil
theorem hcell {a:Expr} {a':IP.E} (ha:HE X a (tO G X C a')):HE X a (tV G X C (.cell a')):=by
 unfold HE at *
 exact sV_cell ha
theorem hE_mk {a:Expr} {t:TE} (h:PE X a t):HE X a t:=by unfold HE;exact h
end
end IP
end
section
set_option Elab.async false
set_option linter.all false
set_option maxRecDepth 100000
set_option maxHeartbeats 0
namespace IP
open PySem PySem.Spec L2
namespace Pg
def top (i:Nat):Stmt:=PySem.Challenge.pw_gradecut_k22_two_books.main.body.getD i (.Pass ⟨0,0,0,0⟩)
abbrev sz41:Stmt:=top 11
abbrev iz41:Nat:=0
def nmz41:List Str:=["spot","size"]
theorem ndz41:(nmz41).Nodup:=by decide +kernel
def bz41:List S:=[(.exp (.call 1 [(.var 1)] [])),
 (.ifs (.cmp .lt (.var 1) (.cst (.int 0))) [(.ret (.call 2 [(.var 0),(.sub (.var 0) (.cst (.int 4))),(.sub (.var 0) (.cst (.int 5))),(.neg (.var 1))] []))] []),
 (.ret (.call 2 [(.var 0),(.sub (.var 0) (.cst (.int 2))),(.sub (.var 0) (.cst (.int 3))),(.var 1)] []))]
abbrev Fz41:Fn:=⟨2,2,false,bz41⟩
theorem scz41:FnScope nmz41 ["spot","size"] (zaab sz41):=⟨rfl,rfl,rfl,ndz41,rfl,by decide +kernel,by decide +kernel⟩
abbrev sz38:Stmt:=top 12
abbrev iz38:Nat:=1
def nmz38:List Str:=["size"]
theorem ndz38:(nmz38).Nodup:=by decide +kernel
def bz38:List S:=[(.ifs (.or (.cmp .lt (.var 0) (.glb "LEAST" (-6))) (.cmp .gt (.var 0) (.glb "MOST" (6)))) [(.raise 1)] [])]
abbrev Fz38:Fn:=⟨1,1,false,bz38⟩
theorem scz38:FnScope nmz38 ["size"] (zaab sz38):=⟨rfl,rfl,rfl,ndz38,rfl,by decide +kernel,by decide +kernel⟩
abbrev sz40:Stmt:=top 13
abbrev iz40:Nat:=2
def nmz40:List Str:=["spot","across","up","steps"]
theorem ndz40:(nmz40).Nodup:=by decide +kernel
def bz40:List S:=[(.ret (.tup [(.bin .add (.sub (.var 0) (.cst (.int 0))) (.bin .mul (.var 3) (.var 1))),(.bin .add (.sub (.var 0) (.cst (.int 1))) (.bin .mul (.var 3) (.var 2)))]))]
abbrev Fz40:Fn:=⟨4,4,false,bz40⟩
theorem scz40:FnScope nmz40 ["spot","across","up","steps"] (zaab sz40):=⟨rfl,rfl,rfl,ndz40,rfl,by decide +kernel,by decide +kernel⟩
abbrev sz4:Stmt:=L2.inClass (top 24) 0
abbrev iz4:Nat:=3
def nmz4:List Str:=["self"]
theorem ndz4:(nmz4).Nodup:=by decide +kernel
def bz4:List S:=[(.setF (.var 0) 0 0 (.cst (.int 0))),
 (.setF (.var 0) 0 1 (.cell (.lst []))),
 (.setF (.var 0) 0 2 (.cell (.lst []))),
 (.setF (.var 0) 0 3 (.cell (.lst [])))]
abbrev Fz4:Fn:=⟨1,1,false,bz4⟩
theorem scz4:FnScope nmz4 ["self"] (zaab sz4):=⟨rfl,rfl,rfl,ndz4,rfl,by decide +kernel,by decide +kernel⟩
abbrev sz5:Stmt:=L2.inClass (top 24) 1
abbrev iz5:Nat:=4
def nmz5:List Str:=["self","corners","marks","by_side","?4","?5"]
theorem ndz5:(nmz5).Nodup:=by decide +kernel
def nmz5_c0:List Str:=["self","corners","marks","by_side","corner","!5"]
theorem ndz5_c0:(nmz5_c0).Nodup:=by decide +kernel
def nmz5_c1:List Str:=["self","corners","marks","by_side","!4","spots"]
theorem ndz5_c1:(nmz5_c1).Nodup:=by decide +kernel
abbrev ez5_C0:E:=(.lst [])
abbrev ez5_C1:E:=(.b1 .list (.var 5))
def bz5:List S:=[(.ifs (.cmp .ge (.b1 .len (.fld (.var 0) 0 1)) (.glb "MOST_PIECES" (10))) [(.raise 6)] []),
 (.asg 3 (.ife (.cmp .isN (.var 2) (.cst .non)) (.comp ez5_C0 (.one 4) (.var 1)) (.comp ez5_C1 (.one 5) (.var 2)))),
 (.exp (.call 20 [(.var 1),(.var 3)] [])),
 (.appL (.fld (.var 0) 0 1) (.cell (.b1 .list (.var 1)))),
 (.appL (.fld (.var 0) 0 2) (.var 3)),
 (.ret (.bin .sub (.b1 .len (.fld (.var 0) 0 1)) (.cst (.int 1))))]
abbrev Fz5:Fn:=⟨3,6,false,bz5⟩
theorem scz5:FnScope nmz5 ["self","corners","marks"] (zaab sz5):=⟨rfl,rfl,rfl,ndz5,rfl,by decide +kernel,by decide +kernel⟩
abbrev sz6:Stmt:=L2.inClass (top 24) 2
abbrev iz6:Nat:=5
def nmz6:List Str:=["self","first","second","turned","ease","pairs","own_pairs"]
theorem ndz6:(nmz6).Nodup:=by decide +kernel
def bz6:List S:=[(.ifs (.cmp .ge (.b1 .len (.fld (.var 0) 0 3)) (.glb "MOST_SEAMS" (30))) [(.raise 6)] []),
 (.asg 6 (.ife (.cmp .isN (.var 5) (.cst .non)) (.tup []) (.b1 .tuple (.var 5)))),
 (.exp (.meth (.var 0) 0 6 [(.var 1),(.var 2),(.var 6)] [])),
 (.exp (.call 23 [(.var 1),(.var 2),(.var 4),(.var 6)] [])),
 (.appL (.fld (.var 0) 0 3) (.tup [(.var 1),(.var 2),(.var 3),(.var 4),(.var 6)])),
 (.ret (.bin .sub (.b1 .len (.fld (.var 0) 0 3)) (.cst (.int 1))))]
abbrev Fz6:Fn:=⟨6,7,false,bz6⟩
theorem scz6:FnScope nmz6 ["self","first","second","turned","ease","pairs"] (zaab sz6):=⟨rfl,rfl,rfl,ndz6,rfl,by decide +kernel,by decide +kernel⟩
abbrev sz8:Stmt:=L2.inClass (top 24) 3
abbrev iz8:Nat:=6
def nmz8:List Str:=["self","first","second","pairs","first_marks","second_marks","pair"]
theorem ndz8:(nmz8).Nodup:=by decide +kernel
abbrev bz8_L0:List S:=[(.exp (.call 19 [(.sub (.var 6) (.cst (.int 0))),(.var 4)] [])),
 (.exp (.call 19 [(.sub (.var 6) (.cst (.int 1))),(.var 5)] []))]
def bz8:List S:=[(.asg 4 (.meth (.var 0) 0 14 [(.sub (.var 1) (.cst (.int 0))),(.sub (.var 1) (.cst (.int 1)))] [])),
 (.asg 5 (.meth (.var 0) 0 14 [(.sub (.var 2) (.cst (.int 0))),(.sub (.var 2) (.cst (.int 1)))] [])),
 (.for_ (.one 6) (.var 3) bz8_L0)]
abbrev Fz8:Fn:=⟨4,7,false,bz8⟩
theorem scz8:FnScope nmz8 ["self","first","second","pairs"] (zaab sz8):=⟨rfl,rfl,rfl,ndz8,rfl,by decide +kernel,by decide +kernel⟩
abbrev sz17:Stmt:=L2.inClass (top 24) 4
abbrev iz17:Nat:=7
def nmz17:List Str:=["self","piece","corner","greater","lesser","spots","moves"]
theorem ndz17:(nmz17).Nodup:=by decide +kernel
def bz17:List S:=[(.exp (.call 19 [(.var 1),(.fld (.var 0) 0 1)] [])),
 (.asg 5 (.sub (.fld (.var 0) 0 1) (.var 1))),
 (.exp (.call 19 [(.var 2),(.var 5)] [])),
 (.asg 6 (.tup [(.sub (.var 3) (.cst (.int 0))),(.sub (.var 3) (.cst (.int 1))),(.sub (.var 4) (.cst (.int 0))),(.sub (.var 4) (.cst (.int 1)))])),
 (.ifs (.not (.call 22 [(.var 6),(.glb "LONGEST_MOVE" (200))] [])) [(.raise 3)] []),
 (.putL (.var 5) (.var 2) (.bin .add (.cutU (.sub (.var 5) (.var 2)) (.cst (.int 2))) (.var 6)))]
abbrev Fz17:Fn:=⟨5,7,false,bz17⟩
theorem scz17:FnScope nmz17 ["self","piece","corner","greater","lesser"] (zaab sz17):=⟨rfl,rfl,rfl,ndz17,rfl,by decide +kernel,by decide +kernel⟩
abbrev sz10:Stmt:=L2.inClass (top 24) 5
abbrev iz10:Nat:=8
def nmz10:List Str:=["self","steps"]
theorem ndz10:(nmz10).Nodup:=by decide +kernel
def bz10:List S:=[(.ret (.meth (.var 0) 0 10 [(.var 1),(.var 1)] []))]
abbrev Fz10:Fn:=⟨2,2,false,bz10⟩
theorem scz10:FnScope nmz10 ["self","steps"] (zaab sz10):=⟨rfl,rfl,rfl,ndz10,rfl,by decide +kernel,by decide +kernel⟩
abbrev sz19:Stmt:=L2.inClass (top 24) 6
abbrev iz19:Nat:=9
def nmz19:List Str:=["self","steps"]
theorem ndz19:(nmz19).Nodup:=by decide +kernel
def bz19:List S:=[(.ret (.meth (.var 0) 0 10 [(.var 1),(.neg (.var 1))] []))]
abbrev Fz19:Fn:=⟨2,2,false,bz19⟩
theorem scz19:FnScope nmz19 ["self","steps"] (zaab sz19):=⟨rfl,rfl,rfl,ndz19,rfl,by decide +kernel,by decide +kernel⟩
abbrev sz7:Stmt:=L2.inClass (top 24) 7
abbrev iz7:Nat:=10
def nmz7:List Str:=["self","steps","change"]
theorem ndz7:(nmz7).Nodup:=by decide +kernel
def bz7:List S:=[(.ifs (.cmp .lt (.var 1) (.cst (.int 0))) [(.raise 1)] []),
 (.exp (.call 1 [(.bin .add (.fld (.var 0) 0 0) (.var 2))] [])),
 (.setF (.var 0) 0 0 (.bin .add (.fld (.var 0) 0 0) (.var 2))),
 (.ret (.fld (.var 0) 0 0))]
abbrev Fz7:Fn:=⟨3,3,false,bz7⟩
theorem scz7:FnScope nmz7 ["self","steps","change"] (zaab sz7):=⟨rfl,rfl,rfl,ndz7,rfl,by decide +kernel,by decide +kernel⟩
abbrev sz13:Stmt:=L2.inClass (top 24) 8
abbrev iz13:Nat:=11
def nmz13:List Str:=["self"]
theorem ndz13:(nmz13).Nodup:=by decide +kernel
def bz13:List S:=[(.ret (.b1 .len (.fld (.var 0) 0 1)))]
abbrev Fz13:Fn:=⟨1,1,false,bz13⟩
theorem scz13:FnScope nmz13 ["self"] (zaab sz13):=⟨rfl,rfl,rfl,ndz13,rfl,by decide +kernel,by decide +kernel⟩
abbrev sz16:Stmt:=L2.inClass (top 24) 9
abbrev iz16:Nat:=12
def nmz16:List Str:=["self"]
theorem ndz16:(nmz16).Nodup:=by decide +kernel
def bz16:List S:=[(.ret (.b1 .len (.fld (.var 0) 0 3)))]
abbrev Fz16:Fn:=⟨1,1,false,bz16⟩
theorem scz16:FnScope nmz16 ["self"] (zaab sz16):=⟨rfl,rfl,rfl,ndz16,rfl,by decide +kernel,by decide +kernel⟩
abbrev sz18:Stmt:=L2.inClass (top 24) 10
abbrev iz18:Nat:=13
def nmz18:List Str:=["self","piece"]
theorem ndz18:(nmz18).Nodup:=by decide +kernel
def bz18:List S:=[(.exp (.call 19 [(.var 1),(.fld (.var 0) 0 1)] [])),
 (.ret (.b1 .list (.sub (.fld (.var 0) 0 1) (.var 1))))]
abbrev Fz18:Fn:=⟨2,2,false,bz18⟩
theorem scz18:FnScope nmz18 ["self","piece"] (zaab sz18):=⟨rfl,rfl,rfl,ndz18,rfl,by decide +kernel,by decide +kernel⟩
abbrev sz11:Stmt:=L2.inClass (top 24) 11
abbrev iz11:Nat:=14
def nmz11:List Str:=["self","piece","side"]
theorem ndz11:(nmz11).Nodup:=by decide +kernel
def bz11:List S:=[(.exp (.call 19 [(.var 1),(.fld (.var 0) 0 2)] [])),
 (.exp (.call 19 [(.var 2),(.sub (.fld (.var 0) 0 2) (.var 1))] [])),
 (.ret (.b1 .list (.sub (.sub (.fld (.var 0) 0 2) (.var 1)) (.var 2))))]
abbrev Fz11:Fn:=⟨3,3,false,bz11⟩
theorem scz11:FnScope nmz11 ["self","piece","side"] (zaab sz11):=⟨rfl,rfl,rfl,ndz11,rfl,by decide +kernel,by decide +kernel⟩
abbrev sz15:Stmt:=L2.inClass (top 24) 12
abbrev iz15:Nat:=15
def nmz15:List Str:=["self","number","kept"]
theorem ndz15:(nmz15).Nodup:=by decide +kernel
def bz15:List S:=[(.exp (.call 19 [(.var 1),(.fld (.var 0) 0 3)] [])),
 (.asg 2 (.sub (.fld (.var 0) 0 3) (.var 1))),
 (.ret (.bin .add (.cutU (.var 2) (.cst (.int 4))) (.tup [(.b1 .list (.sub (.var 2) (.cst (.int 4))))])))]
abbrev Fz15:Fn:=⟨2,3,false,bz15⟩
theorem scz15:FnScope nmz15 ["self","number"] (zaab sz15):=⟨rfl,rfl,rfl,ndz15,rfl,by decide +kernel,by decide +kernel⟩
abbrev sz9:Stmt:=L2.inClass (top 24) 13
abbrev iz9:Nat:=16
def nmz9:List Str:=["self","piece","size"]
theorem ndz9:(nmz9).Nodup:=by decide +kernel
def bz9:List S:=[(.ret (.meth (.var 0) 0 18 [(.meth (.var 0) 0 13 [(.var 1)] []),(.var 2)] []))]
abbrev Fz9:Fn:=⟨3,3,false,bz9⟩
theorem scz9:FnScope nmz9 ["self","piece","size"] (zaab sz9):=⟨rfl,rfl,rfl,ndz9,rfl,by decide +kernel,by decide +kernel⟩
abbrev sz12:Stmt:=L2.inClass (top 24) 14
abbrev iz12:Nat:=17
def nmz12:List Str:=["self","piece","side","size"]
theorem ndz12:(nmz12).Nodup:=by decide +kernel
def bz12:List S:=[(.ret (.meth (.var 0) 0 18 [(.meth (.var 0) 0 14 [(.var 1),(.var 2)] []),(.var 3)] []))]
abbrev Fz12:Fn:=⟨4,4,false,bz12⟩
theorem scz12:FnScope nmz12 ["self","piece","side","size"] (zaab sz12):=⟨rfl,rfl,rfl,ndz12,rfl,by decide +kernel,by decide +kernel⟩
abbrev sz14:Stmt:=L2.inClass (top 24) 15
abbrev iz14:Nat:=18
def nmz14:List Str:=["self","spots","size","meant","?4"]
theorem ndz14:(nmz14).Nodup:=by decide +kernel
def zagj:List Str:=["self","spots","size","meant","spot"]
theorem ndz14_c0:(zagj).Nodup:=by decide +kernel
abbrev zafp:E:=(.call 0 [(.var 4),(.var 3)] [])
def bz14:List S:=[(.asg 3 (.ife (.cmp .isN (.var 2) (.cst .non)) (.fld (.var 0) 0 0) (.var 2))),
 (.exp (.call 1 [(.var 3)] [])),
 (.ret (.comp zafp (.one 4) (.var 1)))]
abbrev Fz14:Fn:=⟨3,5,false,bz14⟩
theorem scz14:FnScope nmz14 ["self","spots","size"] (zaab sz14):=⟨rfl,rfl,rfl,ndz14,rfl,by decide +kernel,by decide +kernel⟩
abbrev sz39:Stmt:=top 25
abbrev iz39:Nat:=19
def nmz39:List Str:=["number","those"]
theorem ndz39:(nmz39).Nodup:=by decide +kernel
def bz39:List S:=[(.ifs (.or (.cmp .lt (.var 0) (.cst (.int 0))) (.cmp .ge (.var 0) (.b1 .len (.var 1)))) [(.raise 5)] [])]
abbrev Fz39:Fn:=⟨2,2,false,bz39⟩
theorem scz39:FnScope nmz39 ["number","those"] (zaab sz39):=⟨rfl,rfl,rfl,ndz39,rfl,by decide +kernel,by decide +kernel⟩
abbrev sz36:Stmt:=top 26
abbrev iz36:Nat:=20
def nmz36:List Str:=["corners","by_side","?2","?3"]
theorem ndz36:(nmz36).Nodup:=by decide +kernel
def zaf9:List Str:=["corners","by_side","spots","!3"]
theorem ndz36_c0:(zaf9).Nodup:=by decide +kernel
def zaf5:List Str:=["corners","by_side","!2","spots"]
theorem ndz36_c1:(zaf5).Nodup:=by decide +kernel
abbrev zaex:E:=(.cmp .gt (.b1 .len (.var 2)) (.glb "MOST_MARKS" (4)))
abbrev zagd:E:=(.call 21 [(.var 3)] [])
def bz36:List S:=[(.ifs (.or (.cmp .lt (.b1 .len (.var 0)) (.glb "LEAST_CORNERS" (3))) (.cmp .gt (.b1 .len (.var 0)) (.glb "MOST_CORNERS" (24)))) [(.raise 2)] []),
 (.ifs (.cmp .ne (.b1 .len (.var 1)) (.b1 .len (.var 0))) [(.raise 2)] []),
 (.ifs (.b1 .any (.comp zaex (.one 2) (.var 1))) [(.raise 2)] []),
 (.ifs (.not (.b1 .all (.comp zagd (.one 3) (.bin .add (.lst [(.var 0)]) (.var 1))))) [(.raise 2)] [])]
abbrev Fz36:Fn:=⟨2,4,false,bz36⟩
theorem scz36:FnScope nmz36 ["corners","by_side"] (zaab sz36):=⟨rfl,rfl,rfl,ndz36,rfl,by decide +kernel,by decide +kernel⟩
abbrev sz42:Stmt:=top 27
abbrev iz42:Nat:=21
def nmz42:List Str:=["spots","?1"]
theorem ndz42:(nmz42).Nodup:=by decide +kernel
def zafm:List Str:=["spots","spot"]
theorem ndz42_c0:(zafm).Nodup:=by decide +kernel
abbrev zaf8:E:=(.and (.call 22 [(.cutU (.var 1) (.cst (.int 2))),(.glb "FARTHEST" (20000))] []) (.call 22 [(.cutL (.var 1) (.cst (.int 2))),(.glb "LONGEST_MOVE" (200))] []))
def bz42:List S:=[(.ret (.b1 .all (.comp zaf8 (.one 1) (.var 0))))]
abbrev Fz42:Fn:=⟨1,2,false,bz42⟩
theorem scz42:FnScope nmz42 ["spots"] (zaab sz42):=⟨rfl,rfl,rfl,ndz42,rfl,by decide +kernel,by decide +kernel⟩
abbrev sz35:Stmt:=top 28
abbrev iz35:Nat:=22
def nmz35:List Str:=["numbers","bound","?2"]
theorem ndz35:(nmz35).Nodup:=by decide +kernel
def zae5:List Str:=["numbers","bound","number"]
theorem ndz35_c0:(zae5).Nodup:=by decide +kernel
abbrev zaey:E:=(.cmp .le (.b1 .abs (.var 2)) (.var 1))
def bz35:List S:=[(.ret (.b1 .all (.comp zaey (.one 2) (.var 0))))]
abbrev Fz35:Fn:=⟨2,3,false,bz35⟩
theorem scz35:FnScope nmz35 ["numbers","bound"] (zaab sz35):=⟨rfl,rfl,rfl,ndz35,rfl,by decide +kernel,by decide +kernel⟩
abbrev sz37:Stmt:=top 29
abbrev iz37:Nat:=23
def nmz37:List Str:=["first","second","ease","pairs"]
theorem ndz37:(nmz37).Nodup:=by decide +kernel
def bz37:List S:=[(.ifs (.cmp .eq (.var 0) (.var 1)) [(.raise 4)] []),
 (.ifs (.or (.cmp .lt (.var 2) (.cst (.int 0))) (.cmp .gt (.var 2) (.glb "MOST_EASE" (400)))) [(.raise 4)] []),
 (.ifs (.cmp .gt (.b1 .len (.var 3)) (.glb "MOST_PAIRS" (4))) [(.raise 4)] [])]
abbrev Fz37:Fn:=⟨4,4,false,bz37⟩
theorem scz37:FnScope nmz37 ["first","second","ease","pairs"] (zaab sz37):=⟨rfl,rfl,rfl,ndz37,rfl,by decide +kernel,by decide +kernel⟩
abbrev sz34:Stmt:=top 31
abbrev iz34:Nat:=24
def nmz34:List Str:=["_law_found"]
theorem ndz34:(nmz34).Nodup:=by decide +kernel
def bz34:List S:=[(.ret (.and (.isi (.var 0) .int) (.not (.isi (.var 0) .bool))))]
abbrev Fz34:Fn:=⟨1,1,false,bz34⟩
theorem scz34:FnScope nmz34 ["_law_found"] (zaab sz34):=⟨rfl,rfl,rfl,ndz34,rfl,by decide +kernel,by decide +kernel⟩
abbrev sz23:Stmt:=top 32
abbrev iz23:Nat:=25
def nmz23:List Str:=["_law_script","_law_k"]
theorem ndz23:(nmz23).Nodup:=by decide +kernel
def bz23:List S:=[(.ifs (.cmp .lt (.var 1) (.b1 .len (.var 0))) [(.ret (.sub (.var 0) (.var 1)))] []),
 (.ret (.cst (.int 0)))]
abbrev Fz23:Fn:=⟨2,2,false,bz23⟩
theorem scz23:FnScope nmz23 ["_law_script","_law_k"] (zaab sz23):=⟨rfl,rfl,rfl,ndz23,rfl,by decide +kernel,by decide +kernel⟩
abbrev sz33:Stmt:=top 33
abbrev iz33:Nat:=26
def nmz33:List Str:=["_law_script","_law_many","_law_state","_law_row","_law_k"]
theorem ndz33:(nmz33).Nodup:=by decide +kernel
abbrev bz33_L0:List S:=[(.asg 2 (.bin .mod (.bin .add (.bin .add (.bin .mul (.var 2) (.cst (.int 48271))) (.call 25 [(.var 0),(.var 4)] [])) (.cst (.int 11))) (.cst (.int 2147483647)))),
 (.app 3 (.var 2))]
def bz33:List S:=[(.asg 2 (.cst (.int 7))),
 (.mk 3 (.lst [])),
 (.for_ (.one 4) (.rng1 (.var 1)) bz33_L0),
 (.frz 3),
 (.ret (.var 3))]
abbrev Fz33:Fn:=⟨2,5,false,bz33⟩
theorem scz33:FnScope nmz33 ["_law_script","_law_many"] (zaab sz33):=⟨rfl,rfl,rfl,ndz33,rfl,by decide +kernel,by decide +kernel⟩
abbrev sz28:Stmt:=top 34
abbrev iz28:Nat:=27
def nmz28:List Str:=["_law_found","_law_due_here","_law_k"]
theorem ndz28:(nmz28).Nodup:=by decide +kernel
abbrev zae2:List S:=[(.ifs (.or (.not (.call 24 [(.sub (.var 0) (.var 2))] [])) (.cmp .ne (.sub (.var 0) (.var 2)) (.sub (.var 1) (.var 2)))) [(.ret (.cst (.bl false)))] [])]
def bz28:List S:=[(.ifs (.or (.not (.isi (.var 0) .tuple)) (.cmp .ne (.b1 .len (.var 0)) (.b1 .len (.var 1)))) [(.ret (.cst (.bl false)))] []),
 (.for_ (.one 2) (.rng1 (.b1 .len (.var 1))) zae2),
 (.ret (.cst (.bl true)))]
abbrev Fz28:Fn:=⟨2,3,false,bz28⟩
theorem scz28:FnScope nmz28 ["_law_found","_law_due_here"] (zaab sz28):=⟨rfl,rfl,rfl,ndz28,rfl,by decide +kernel,by decide +kernel⟩
abbrev sz30:Stmt:=top 35
abbrev iz30:Nat:=28
def nmz30:List Str:=["_law_found","_law_due_here","_law_k"]
theorem ndz30:(nmz30).Nodup:=by decide +kernel
abbrev zagn:List S:=[(.ifs (.not (.call 27 [(.sub (.var 0) (.var 2)),(.sub (.var 1) (.var 2))] [])) [(.ret (.cst (.bl false)))] [])]
def bz30:List S:=[(.ifs (.or (.not (.isi (.var 0) .list)) (.cmp .ne (.b1 .len (.var 0)) (.b1 .len (.var 1)))) [(.ret (.cst (.bl false)))] []),
 (.for_ (.one 2) (.rng1 (.b1 .len (.var 1))) zagn),
 (.ret (.cst (.bl true)))]
abbrev Fz30:Fn:=⟨2,3,false,bz30⟩
theorem scz30:FnScope nmz30 ["_law_found","_law_due_here"] (zaab sz30):=⟨rfl,rfl,rfl,ndz30,rfl,by decide +kernel,by decide +kernel⟩
abbrev sz31:Stmt:=top 36
abbrev iz31:Nat:=29
def nmz31:List Str:=["_law_seed","_law_many","_law_far","_law_step","_law_told","_law_state","_law_k","_law_spot","_law_most"]
theorem ndz31:(nmz31).Nodup:=by decide +kernel
abbrev zafa:List S:=[(.asg 5 (.bin .mod (.bin .add (.bin .mul (.var 5) (.cst (.int 48271))) (.cst (.int 11))) (.cst (.int 2147483647)))),
 (.app 7 (.bin .sub (.bin .mod (.var 5) (.bin .add (.bin .mul (.cst (.int 2)) (.var 8)) (.cst (.int 1)))) (.var 8)))]
abbrev bz31_L1:List S:=[(.mk 7 (.lst [])),
 (.for_ (.one 8) (.lst [(.var 2),(.var 2),(.var 3),(.var 3),(.var 3),(.var 3)]) zafa),
 (.app 4 (.b1 .tuple (.var 7)))]
def bz31:List S:=[(.mk 4 (.lst [])),
 (.asg 5 (.bin .mod (.var 0) (.cst (.int 2147483647)))),
 (.for_ (.one 6) (.rng1 (.var 1)) bz31_L1),
 (.frz 4),
 (.ret (.var 4))]
abbrev Fz31:Fn:=⟨4,9,false,bz31⟩
theorem scz31:FnScope nmz31 ["_law_seed","_law_many","_law_far","_law_step"] (zaab sz31):=⟨rfl,rfl,rfl,ndz31,rfl,by decide +kernel,by decide +kernel⟩
abbrev sz27:Stmt:=top 37
abbrev iz27:Nat:=30
def nmz27:List Str:=["_law_state"]
theorem ndz27:(nmz27).Nodup:=by decide +kernel
def bz27:List S:=[(.ret (.bin .mod (.bin .add (.bin .mul (.var 0) (.cst (.int 48271))) (.cst (.int 11))) (.cst (.int 2147483647))))]
abbrev Fz27:Fn:=⟨1,1,false,bz27⟩
theorem scz27:FnScope nmz27 ["_law_state"] (zaab sz27):=⟨rfl,rfl,rfl,ndz27,rfl,by decide +kernel,by decide +kernel⟩
abbrev sz29:Stmt:=top 38
abbrev iz29:Nat:=31
def nmz29:List Str:=["_law_spot","_law_size","_law_x","_law_y","_law_step"]
theorem ndz29:(nmz29).Nodup:=by decide +kernel
abbrev bz29_L0:List S:=[(.asg 2 (.bin .add (.var 2) (.sub (.var 0) (.cst (.int 2))))),
 (.asg 3 (.bin .add (.var 3) (.sub (.var 0) (.cst (.int 3)))))]
abbrev bz29_L1:List S:=[(.asg 2 (.bin .add (.var 2) (.sub (.var 0) (.cst (.int 4))))),
 (.asg 3 (.bin .add (.var 3) (.sub (.var 0) (.cst (.int 5)))))]
def bz29:List S:=[(.asg 2 (.sub (.var 0) (.cst (.int 0)))),
 (.asg 3 (.sub (.var 0) (.cst (.int 1)))),
 (.for_ (.one 4) (.rng1 (.var 1)) bz29_L0),
 (.for_ (.one 4) (.rng1 (.bin .sub (.cst (.int 0)) (.var 1))) bz29_L1),
 (.ret (.tup [(.var 2),(.var 3)]))]
abbrev Fz29:Fn:=⟨2,5,false,bz29⟩
theorem scz29:FnScope nmz29 ["_law_spot","_law_size"] (zaab sz29):=⟨rfl,rfl,rfl,ndz29,rfl,by decide +kernel,by decide +kernel⟩
abbrev sz25:Stmt:=top 39
abbrev iz25:Nat:=32
def nmz25:List Str:=["_law_book","_law_d","_law_spots_here","_law_pieces","_law_code","_law_kind","e"]
theorem ndz25:(nmz25).Nodup:=by decide +kernel
abbrev zafd:List S:=[(.ifs (.cmp .eq (.var 5) (.cst (.int 0))) [(.exp (.meth (.var 0) 0 4 [(.b1 .list (.var 2))] [.non]))] []),
 (.ifs (.cmp .eq (.var 5) (.cst (.int 1))) [(.exp (.meth (.var 0) 0 5 [(.tup [(.cst (.int 0)),(.cst (.int 0))]),(.tup [(.bin .sub (.var 3) (.cst (.int 1))),(.cst (.int 1))]),(.cst (.bl false)),(.bin .mod (.bin .fdiv (.var 1) (.cst (.int 5))) (.cst (.int 401)))] [.non]))] []),
 (.ifs (.cmp .eq (.var 5) (.cst (.int 2))) [(.exp (.meth (.var 0) 0 7 [(.bin .sub (.var 3) (.cst (.int 1))),(.bin .mod (.bin .fdiv (.var 1) (.cst (.int 5))) (.cst (.int 3))),(.tup [(.bin .sub (.bin .mod (.bin .fdiv (.var 1) (.cst (.int 15))) (.cst (.int 401))) (.cst (.int 200))),(.cst (.int 7))]),(.tup [(.neg (.cst (.int 7))),(.bin .sub (.bin .mod (.bin .fdiv (.var 1) (.cst (.int 6015))) (.cst (.int 401))) (.cst (.int 200)))])] []))] []),
 (.ifs (.cmp .eq (.var 5) (.cst (.int 3))) [(.exp (.meth (.var 0) 0 8 [(.bin .mod (.bin .fdiv (.var 1) (.cst (.int 5))) (.cst (.int 5)))] []))] []),
 (.ifs (.cmp .eq (.var 5) (.cst (.int 4))) [(.exp (.meth (.var 0) 0 9 [(.bin .mod (.bin .fdiv (.var 1) (.cst (.int 5))) (.cst (.int 5)))] []))] [])]
abbrev bz25_H0:List S:=[(.asg 4 (.bin .add (.b1 .int (.isi (.var 6) (.cls 1))) (.bin .mul (.cst (.int 2)) (.b1 .int (.isi (.var 6) (.cls 6))))))]
def bz25:List S:=[(.asg 4 (.cst (.int 0))),
 (.asg 5 (.bin .mod (.var 1) (.cst (.int 5)))),
 (.try_ zafd 0 (some 6) bz25_H0),
 (.ret (.var 4))]
abbrev Fz25:Fn:=⟨4,7,false,bz25⟩
theorem scz25:FnScope nmz25 ["_law_book","_law_d","_law_spots_here","_law_pieces"] (zaab sz25):=⟨rfl,rfl,rfl,ndz25,rfl,by decide +kernel,by decide +kernel⟩
abbrev sz26:Stmt:=top 40
abbrev iz26:Nat:=33
def nmz26:List Str:=["_law_kept","_law_d","_law_spots_here","_law_kind","_law_old","_law_new","_law_size"]
theorem ndz26:(nmz26).Nodup:=by decide +kernel
def bz26:List S:=[(.asg 3 (.bin .mod (.var 1) (.cst (.int 5)))),
 (.ifs (.or (.and (.cmp .eq (.var 3) (.cst (.int 0))) (.cmp .eq (.b1 .len (.sub (.var 0) (.cst (.int 0)))) (.cst (.int 10)))) (.and (.cmp .eq (.var 3) (.cst (.int 1))) (.cmp .eq (.b1 .len (.sub (.var 0) (.cst (.int 1)))) (.cst (.int 30))))) [(.ret (.cst (.int 2)))] []),
 (.ifs (.cmp .eq (.var 3) (.cst (.int 0))) [(.appL (.sub (.var 0) (.cst (.int 0))) (.cell (.b1 .list (.var 2))))] []),
 (.ifs (.cmp .eq (.var 3) (.cst (.int 1))) [(.appL (.sub (.var 0) (.cst (.int 1))) (.bin .mod (.bin .fdiv (.var 1) (.cst (.int 5))) (.cst (.int 401))))] []),
 (.ifs (.cmp .eq (.var 3) (.cst (.int 2))) [(.asg 4 (.sub (.sub (.sub (.var 0) (.cst (.int 0))) (.neg (.cst (.int 1)))) (.bin .mod (.bin .fdiv (.var 1) (.cst (.int 5))) (.cst (.int 3))))),
 (.asg 5 (.tup [(.sub (.var 4) (.cst (.int 0))),(.sub (.var 4) (.cst (.int 1))),(.bin .sub (.bin .mod (.bin .fdiv (.var 1) (.cst (.int 15))) (.cst (.int 401))) (.cst (.int 200))),(.cst (.int 7)),(.neg (.cst (.int 7))),(.bin .sub (.bin .mod (.bin .fdiv (.var 1) (.cst (.int 6015))) (.cst (.int 401))) (.cst (.int 200)))])),
 (.putL (.sub (.sub (.var 0) (.cst (.int 0))) (.neg (.cst (.int 1)))) (.bin .mod (.bin .fdiv (.var 1) (.cst (.int 5))) (.cst (.int 3))) (.var 5))] []),
 (.ifs (.cmp .gt (.var 3) (.cst (.int 2))) [(.asg 6 (.bin .add (.sub (.sub (.var 0) (.cst (.int 2))) (.cst (.int 0))) (.bin .mod (.bin .fdiv (.var 1) (.cst (.int 5))) (.cst (.int 5))))),
 (.ifs (.cmp .eq (.var 3) (.cst (.int 4))) [(.asg 6 (.bin .sub (.sub (.sub (.var 0) (.cst (.int 2))) (.cst (.int 0))) (.bin .mod (.bin .fdiv (.var 1) (.cst (.int 5))) (.cst (.int 5)))))] []),
 (.ifs (.or (.cmp .lt (.var 6) (.neg (.cst (.int 6)))) (.cmp .gt (.var 6) (.cst (.int 6)))) [(.ret (.cst (.int 1)))] []),
 (.putL (.sub (.var 0) (.cst (.int 2))) (.cst (.int 0)) (.var 6))] []),
 (.ret (.cst (.int 0)))]
abbrev Fz26:Fn:=⟨3,7,false,bz26⟩
theorem scz26:FnScope nmz26 ["_law_kept","_law_d","_law_spots_here"] (zaab sz26):=⟨rfl,rfl,rfl,ndz26,rfl,by decide +kernel,by decide +kernel⟩
abbrev sz24:Stmt:=top 41
abbrev iz24:Nat:=34
def nmz24:List Str:=["_law_book","_law_kept","_law_counts_here","_law_due_here"]
theorem ndz24:(nmz24).Nodup:=by decide +kernel
def bz24:List S:=[(.asg 2 (.lst [(.meth (.var 0) 0 11 [] []),(.meth (.var 0) 0 12 [] []),(.fld (.var 0) 0 0)])),
 (.asg 3 (.lst [(.b1 .len (.sub (.var 1) (.cst (.int 0)))),(.b1 .len (.sub (.var 1) (.cst (.int 1)))),(.sub (.sub (.var 1) (.cst (.int 2))) (.cst (.int 0)))])),
 (.ret (.call 27 [(.b1 .tuple (.var 2)),(.var 3)] []))]
abbrev Fz24:Fn:=⟨2,4,false,bz24⟩
theorem scz24:FnScope nmz24 ["_law_book","_law_kept"] (zaab sz24):=⟨rfl,rfl,rfl,ndz24,rfl,by decide +kernel,by decide +kernel⟩
abbrev sz32:Stmt:=top 42
abbrev iz32:Nat:=35
def nmz32:List Str:=["_law_book","_law_kept","_law_k","_law_found","?4"]
theorem ndz32:(nmz32).Nodup:=by decide +kernel
def zae0:List Str:=["_law_book","_law_kept","_law_k","_law_found","_law_spot"]
theorem ndz32_c0:(zae0).Nodup:=by decide +kernel
abbrev zaf4:E:=(.call 31 [(.var 4),(.sub (.sub (.var 1) (.cst (.int 2))) (.cst (.int 0)))] [])
abbrev bz32_L0:List S:=[(.ifs (.not (.call 28 [(.meth (.var 0) 0 13 [(.var 2)] []),(.sub (.sub (.var 1) (.cst (.int 0))) (.var 2))] [])) [(.ret (.cst (.bl false)))] []),
 (.ifs (.not (.call 28 [(.meth (.var 0) 0 16 [(.var 2)] [.non]),(.compC zaf4 (.one 4) (.sub (.sub (.var 1) (.cst (.int 0))) (.var 2)))] [])) [(.ret (.cst (.bl false)))] [])]
abbrev bz32_L1:List S:=[(.asg 3 (.meth (.var 0) 0 15 [(.var 2)] [])),
 (.ifs (.or (.not (.isi (.var 3) .tuple)) (.or (.cmp .ne (.b1 .len (.var 3)) (.cst (.int 5))) (.not (.call 24 [(.sub (.var 3) (.cst (.int 3)))] [])))) [(.ret (.cst (.bl false)))] []),
 (.ifs (.cmp .ne (.sub (.var 3) (.cst (.int 3))) (.sub (.sub (.var 1) (.cst (.int 1))) (.var 2))) [(.ret (.cst (.bl false)))] [])]
def bz32:List S:=[(.for_ (.one 2) (.rng1 (.b1 .len (.sub (.var 1) (.cst (.int 0))))) bz32_L0),
 (.for_ (.one 2) (.rng1 (.b1 .len (.sub (.var 1) (.cst (.int 1))))) bz32_L1),
 (.ret (.cst (.bl true)))]
abbrev Fz32:Fn:=⟨2,5,false,bz32⟩
theorem scz32:FnScope nmz32 ["_law_book","_law_kept"] (zaab sz32):=⟨rfl,rfl,rfl,ndz32,rfl,by decide +kernel,by decide +kernel⟩
abbrev s_law:Stmt:=top 43
abbrev i_law:Nat:=36
def nm_law:List Str:=["_law_script","_law_row","_law_books","_law_kept","_law_k","_law_which","_law_d","_law_spots_here","_law_pieces","_law_due_here"]
theorem nd_law:(nm_law).Nodup:=by decide +kernel
abbrev zabw:List S:=[(.asg 5 (.bin .mod (.sub (.var 1) (.var 4)) (.cst (.int 2)))),
 (.asg 6 (.call 30 [(.sub (.var 1) (.var 4))] [])),
 (.ifs (.or (.cmpD .eq (.sub (.sub (.var 3) (.var 5)) (.cst (.int 0))) (.lst [])) (.and (.cmp .eq (.bin .mod (.var 6) (.cst (.int 5))) (.cst (.int 1))) (.cmp .lt (.b1 .len (.sub (.sub (.var 3) (.var 5)) (.cst (.int 0)))) (.cst (.int 2))))) [(.asg 6 (.bin .mul (.bin .fdiv (.var 6) (.cst (.int 5))) (.cst (.int 5))))] []),
 (.asg 7 (.call 29 [(.var 6),(.bin .add (.cst (.int 3)) (.bin .mod (.bin .fdiv (.var 6) (.cst (.int 5))) (.cst (.int 3)))),(.cst (.int 20000)),(.cst (.int 200))] [])),
 (.asg 8 (.b1 .len (.sub (.sub (.var 3) (.var 5)) (.cst (.int 0))))),
 (.asg 9 (.call 33 [(.sub (.var 3) (.var 5)),(.var 6),(.var 7)] [])),
 (.ifs (.cmp .ne (.call 32 [(.sub (.var 2) (.var 5)),(.var 6),(.var 7),(.var 8)] []) (.var 9)) [(.ret (.cst (.bl false)))] []),
 (.ifs (.or (.not (.call 34 [(.sub (.var 2) (.cst (.int 0))),(.sub (.var 3) (.cst (.int 0)))] [])) (.not (.call 34 [(.sub (.var 2) (.cst (.int 1))),(.sub (.var 3) (.cst (.int 1)))] []))) [(.ret (.cst (.bl false)))] [])]
def b_law:List S:=[(.asg 1 (.call 26 [(.var 0),(.bin .add (.b1 .len (.var 0)) (.cst (.int 1)))] [])),
 (.asg 2 (.lst [(.new 0 3 4 [] []),(.new 0 3 4 [] [])])),
 (.asg 3 (.lst [(.lst [(.cell (.lst [])),(.cell (.lst [])),(.cell (.lst [(.cst (.int 0))]))]),(.lst [(.cell (.lst [])),(.cell (.lst [])),(.cell (.lst [(.cst (.int 0))]))])])),
 (.for_ (.one 4) (.rng1 (.b1 .len (.var 0))) zabw),
 (.ret (.and (.call 35 [(.sub (.var 2) (.cst (.int 0))),(.sub (.var 3) (.cst (.int 0)))] []) (.call 35 [(.sub (.var 2) (.cst (.int 1))),(.sub (.var 3) (.cst (.int 1)))] [])))]
abbrev F_law:Fn:=⟨1,10,false,b_law⟩
theorem sc_law:FnScope nm_law ["_law_script"] (zaab s_law):=⟨rfl,rfl,rfl,nd_law,rfl,by decide +kernel,by decide +kernel⟩
def fns:List Fn:=[⟨2,2,false,bz41⟩,
 ⟨1,1,false,bz38⟩,
 ⟨4,4,false,bz40⟩,
 ⟨1,1,false,bz4⟩,
 ⟨3,6,false,bz5⟩,
 ⟨6,7,false,bz6⟩,
 ⟨4,7,false,bz8⟩,
 ⟨5,7,false,bz17⟩,
 ⟨2,2,false,bz10⟩,
 ⟨2,2,false,bz19⟩,
 ⟨3,3,false,bz7⟩,
 ⟨1,1,false,bz13⟩,
 ⟨1,1,false,bz16⟩,
 ⟨2,2,false,bz18⟩,
 ⟨3,3,false,bz11⟩,
 ⟨2,3,false,bz15⟩,
 ⟨3,3,false,bz9⟩,
 ⟨4,4,false,bz12⟩,
 ⟨3,5,false,bz14⟩,
 ⟨2,2,false,bz39⟩,
 ⟨2,4,false,bz36⟩,
 ⟨1,2,false,bz42⟩,
 ⟨2,3,false,bz35⟩,
 ⟨4,4,false,bz37⟩,
 ⟨1,1,false,bz34⟩,
 ⟨2,2,false,bz23⟩,
 ⟨2,5,false,bz33⟩,
 ⟨2,3,false,bz28⟩,
 ⟨2,3,false,bz30⟩,
 ⟨4,9,false,bz31⟩,
 ⟨1,1,false,bz27⟩,
 ⟨2,5,false,bz29⟩,
 ⟨4,7,false,bz25⟩,
 ⟨3,7,false,bz26⟩,
 ⟨2,4,false,bz24⟩,
 ⟨2,5,false,bz32⟩,
 ⟨1,10,false,b_law⟩]
abbrev xz21:Nat:=0
abbrev xz3:Nat:=1
abbrev xz1:Nat:=2
abbrev xz0:Nat:=3
abbrev xz2:Nat:=4
abbrev xz22:Nat:=5
abbrev xz20:Nat:=6
def sub0 (d c:Nat):Bool:=nth (nth [[true,false,false,false,false,false,false],[true,true,false,false,false,false,false],[true,false,true,false,false,false,false],[true,false,false,true,false,false,false],[true,false,false,false,true,false,false],[true,false,false,false,false,true,false],[true,false,false,false,false,false,true]] [true,false,false,false,false,false,false] d) false c
set_option genInjectivity false in
set_option genSizeOf false in
structure Txt (K:PySem.W.Frag) (mg:Str→Option Value) where
 ez21:Addr
 mez21:mg "GradeError"=some (.ref ez21)
 ez3:Addr
 mez3:mg "BadSize"=some (.ref ez3)
 qz3:PySem.W.excIn K ez3 [.type "ValueError",.type "Exception",.type "BaseException",.type "object"] "ValueError.__new__"=true
 ez1:Addr
 mez1:mg "BadPiece"=some (.ref ez1)
 qz1:PySem.W.excIn K ez1 [.type "ValueError",.type "Exception",.type "BaseException",.type "object"] "ValueError.__new__"=true
 ez0:Addr
 mez0:mg "BadMove"=some (.ref ez0)
 qz0:PySem.W.excIn K ez0 [.type "ValueError",.type "Exception",.type "BaseException",.type "object"] "ValueError.__new__"=true
 ez2:Addr
 mez2:mg "BadSeam"=some (.ref ez2)
 qz2:PySem.W.excIn K ez2 [.type "ValueError",.type "Exception",.type "BaseException",.type "object"] "ValueError.__new__"=true
 ez22:Addr
 mez22:mg "NoSuch"=some (.ref ez22)
 qz22:PySem.W.excIn K ez22 [.type "ValueError",.type "Exception",.type "BaseException",.type "object"] "ValueError.__new__"=true
 ez20:Addr
 mez20:mg "Full"=some (.ref ez20)
 qz20:PySem.W.excIn K ez20 [.type "ValueError",.type "Exception",.type "BaseException",.type "object"] "ValueError.__new__"=true
 xz21:ExcK K ez21
 xz3:ExcK K ez3
 xz1:ExcK K ez1
 xz0:ExcK K ez0
 xz2:ExcK K ez2
 xz22:ExcK K ez22
 xz20:ExcK K ez20
 kiz21z3:PySem.W.kitOne K (.ref ez21) (.ref ez3)=some false
 kiz3z3:PySem.W.kitOne K (.ref ez3) (.ref ez3)=some true
 kiz1z3:PySem.W.kitOne K (.ref ez1) (.ref ez3)=some false
 kiz0z3:PySem.W.kitOne K (.ref ez0) (.ref ez3)=some false
 kiz2z3:PySem.W.kitOne K (.ref ez2) (.ref ez3)=some false
 kiz22z3:PySem.W.kitOne K (.ref ez22) (.ref ez3)=some false
 kiz20z3:PySem.W.kitOne K (.ref ez20) (.ref ez3)=some false
 kiz21z20:PySem.W.kitOne K (.ref ez21) (.ref ez20)=some false
 kiz3z20:PySem.W.kitOne K (.ref ez3) (.ref ez20)=some false
 kiz1z20:PySem.W.kitOne K (.ref ez1) (.ref ez20)=some false
 kiz0z20:PySem.W.kitOne K (.ref ez0) (.ref ez20)=some false
 kiz2z20:PySem.W.kitOne K (.ref ez2) (.ref ez20)=some false
 kiz22z20:PySem.W.kitOne K (.ref ez22) (.ref ez20)=some false
 kiz20z20:PySem.W.kitOne K (.ref ez20) (.ref ez20)=some true
 xoz21z21:PySem.W.exmOne K (.ref ez21) (.ref ez21)=some true
 xoz3z21:PySem.W.exmOne K (.ref ez3) (.ref ez21)=some true
 xoz1z21:PySem.W.exmOne K (.ref ez1) (.ref ez21)=some true
 xoz0z21:PySem.W.exmOne K (.ref ez0) (.ref ez21)=some true
 xoz2z21:PySem.W.exmOne K (.ref ez2) (.ref ez21)=some true
 xoz22z21:PySem.W.exmOne K (.ref ez22) (.ref ez21)=some true
 xoz20z21:PySem.W.exmOne K (.ref ez20) (.ref ez21)=some true
 C_Book:Addr
 mC_Book:mg "Book"=some (.ref C_Book)
 cls_Book:Cls K C_Book
 no_Book_size:NoAttr K C_Book "size"
 no_Book_pieces:NoAttr K C_Book "pieces"
 no_Book_side_marks:NoAttr K C_Book "side_marks"
 no_Book_seams:NoAttr K C_Book "seams"
 fz41:Addr
 dz41:FuncData
 tz41:FunD K "place" "place" sz41 fz41 dz41
 bdz41:Binds K dz41 ["spot","size"] []
 mz41:mg "place"=some (.ref fz41)
 kz41:PySem.W.keepIn K (.ref fz41)=true
 fz38:Addr
 dz38:FuncData
 tz38:FunD K "check_size" "check_size" sz38 fz38 dz38
 bdz38:Binds K dz38 ["size"] []
 mz38:mg "check_size"=some (.ref fz38)
 kz38:PySem.W.keepIn K (.ref fz38)=true
 fz40:Addr
 dz40:FuncData
 tz40:FunD K "moved" "moved" sz40 fz40 dz40
 bdz40:Binds K dz40 ["spot","across","up","steps"] []
 mz40:mg "moved"=some (.ref fz40)
 kz40:PySem.W.keepIn K (.ref fz40)=true
 fz4:Addr
 dz4:FuncData
 tz4:FunD K "__init__" "Book.__init__" sz4 fz4 dz4
 bdz4:Binds K dz4 ["self"] []
 mthz4:Meth K C_Book "__init__" fz4
 mkk_Book:Mk K C_Book fz4
 fz5:Addr
 dz5:FuncData
 tz5:FunD K "add_piece" "Book.add_piece" sz5 fz5 dz5
 bdz5:Binds K dz5 ["self","corners","marks"] []
 bdz5_2:Binds K dz5 ["self","corners","marks"] [.none]
 mthz5:Meth K C_Book "add_piece" fz5
 tkz6_1:Tok
 fz6:Addr
 dz6:FuncData
 tz6:FunD K "add_seam" "Book.add_seam" sz6 fz6 dz6
 bdz6:Binds K dz6 ["self","first","second","turned","ease","pairs"] []
 bdz6_5:Binds K dz6 ["self","first","second","turned","ease","pairs"] [.none]
 mthz6:Meth K C_Book "add_seam" fz6
 fz8:Addr
 dz8:FuncData
 tz8:FunD K "check_pairs" "Book.check_pairs" sz8 fz8 dz8
 bdz8:Binds K dz8 ["self","first","second","pairs"] []
 mthz8:Meth K C_Book "check_pairs" fz8
 fz17:Addr
 dz17:FuncData
 tz17:FunD K "set_moves" "Book.set_moves" sz17 fz17 dz17
 bdz17:Binds K dz17 ["self","piece","corner","greater","lesser"] []
 mthz17:Meth K C_Book "set_moves" fz17
 fz10:Addr
 dz10:FuncData
 tz10:FunD K "let_out" "Book.let_out" sz10 fz10 dz10
 bdz10:Binds K dz10 ["self","steps"] []
 mthz10:Meth K C_Book "let_out" fz10
 fz19:Addr
 dz19:FuncData
 tz19:FunD K "take_in" "Book.take_in" sz19 fz19 dz19
 bdz19:Binds K dz19 ["self","steps"] []
 mthz19:Meth K C_Book "take_in" fz19
 fz7:Addr
 dz7:FuncData
 tz7:FunD K "change_size" "Book.change_size" sz7 fz7 dz7
 bdz7:Binds K dz7 ["self","steps","change"] []
 mthz7:Meth K C_Book "change_size" fz7
 fz13:Addr
 dz13:FuncData
 tz13:FunD K "piece_count" "Book.piece_count" sz13 fz13 dz13
 bdz13:Binds K dz13 ["self"] []
 mthz13:Meth K C_Book "piece_count" fz13
 fz16:Addr
 dz16:FuncData
 tz16:FunD K "seam_count" "Book.seam_count" sz16 fz16 dz16
 bdz16:Binds K dz16 ["self"] []
 mthz16:Meth K C_Book "seam_count" fz16
 fz18:Addr
 dz18:FuncData
 tz18:FunD K "spots" "Book.spots" sz18 fz18 dz18
 bdz18:Binds K dz18 ["self","piece"] []
 mthz18:Meth K C_Book "spots" fz18
 fz11:Addr
 dz11:FuncData
 tz11:FunD K "mark_spots" "Book.mark_spots" sz11 fz11 dz11
 bdz11:Binds K dz11 ["self","piece","side"] []
 mthz11:Meth K C_Book "mark_spots" fz11
 fz15:Addr
 dz15:FuncData
 tz15:FunD K "seam" "Book.seam" sz15 fz15 dz15
 bdz15:Binds K dz15 ["self","number"] []
 mthz15:Meth K C_Book "seam" fz15
 fz9:Addr
 dz9:FuncData
 tz9:FunD K "corners" "Book.corners" sz9 fz9 dz9
 bdz9:Binds K dz9 ["self","piece","size"] []
 bdz9_2:Binds K dz9 ["self","piece","size"] [.none]
 mthz9:Meth K C_Book "corners" fz9
 fz12:Addr
 dz12:FuncData
 tz12:FunD K "marks" "Book.marks" sz12 fz12 dz12
 bdz12:Binds K dz12 ["self","piece","side","size"] []
 mthz12:Meth K C_Book "marks" fz12
 fz14:Addr
 dz14:FuncData
 tz14:FunD K "places" "Book.places" sz14 fz14 dz14
 bdz14:Binds K dz14 ["self","spots","size"] []
 mthz14:Meth K C_Book "places" fz14
 fz39:Addr
 dz39:FuncData
 tz39:FunD K "check_there" "check_there" sz39 fz39 dz39
 bdz39:Binds K dz39 ["number","those"] []
 mz39:mg "check_there"=some (.ref fz39)
 kz39:PySem.W.keepIn K (.ref fz39)=true
 fz36:Addr
 dz36:FuncData
 tz36:FunD K "check_piece" "check_piece" sz36 fz36 dz36
 bdz36:Binds K dz36 ["corners","by_side"] []
 mz36:mg "check_piece"=some (.ref fz36)
 kz36:PySem.W.keepIn K (.ref fz36)=true
 fz42:Addr
 dz42:FuncData
 tz42:FunD K "spots_fit" "spots_fit" sz42 fz42 dz42
 bdz42:Binds K dz42 ["spots"] []
 mz42:mg "spots_fit"=some (.ref fz42)
 kz42:PySem.W.keepIn K (.ref fz42)=true
 fz35:Addr
 dz35:FuncData
 tz35:FunD K "all_within" "all_within" sz35 fz35 dz35
 bdz35:Binds K dz35 ["numbers","bound"] []
 mz35:mg "all_within"=some (.ref fz35)
 kz35:PySem.W.keepIn K (.ref fz35)=true
 fz37:Addr
 dz37:FuncData
 tz37:FunD K "check_seam" "check_seam" sz37 fz37 dz37
 bdz37:Binds K dz37 ["first","second","ease","pairs"] []
 mz37:mg "check_seam"=some (.ref fz37)
 kz37:PySem.W.keepIn K (.ref fz37)=true
 fz34:Addr
 dz34:FuncData
 tz34:FunD K "_law_whole" "_law_whole" sz34 fz34 dz34
 bdz34:Binds K dz34 ["_law_found"] []
 mz34:mg "_law_whole"=some (.ref fz34)
 kz34:PySem.W.keepIn K (.ref fz34)=true
 fz23:Addr
 dz23:FuncData
 tz23:FunD K "_law_at" "_law_at" sz23 fz23 dz23
 bdz23:Binds K dz23 ["_law_script","_law_k"] []
 mz23:mg "_law_at"=some (.ref fz23)
 kz23:PySem.W.keepIn K (.ref fz23)=true
 fz33:Addr
 dz33:FuncData
 tz33:FunD K "_law_stir" "_law_stir" sz33 fz33 dz33
 bdz33:Binds K dz33 ["_law_script","_law_many"] []
 mz33:mg "_law_stir"=some (.ref fz33)
 kz33:PySem.W.keepIn K (.ref fz33)=true
 fz28:Addr
 dz28:FuncData
 tz28:FunD K "_law_numbers" "_law_numbers" sz28 fz28 dz28
 bdz28:Binds K dz28 ["_law_found","_law_due_here"] []
 mz28:mg "_law_numbers"=some (.ref fz28)
 kz28:PySem.W.keepIn K (.ref fz28)=true
 fz30:Addr
 dz30:FuncData
 tz30:FunD K "_law_rows" "_law_rows" sz30 fz30 dz30
 bdz30:Binds K dz30 ["_law_found","_law_due_here"] []
 mz30:mg "_law_rows"=some (.ref fz30)
 kz30:PySem.W.keepIn K (.ref fz30)=true
 fz31:Addr
 dz31:FuncData
 tz31:FunD K "_law_spots" "_law_spots" sz31 fz31 dz31
 bdz31:Binds K dz31 ["_law_seed","_law_many","_law_far","_law_step"] []
 mz31:mg "_law_spots"=some (.ref fz31)
 kz31:PySem.W.keepIn K (.ref fz31)=true
 fz27:Addr
 dz27:FuncData
 tz27:FunD K "_law_next" "_law_next" sz27 fz27 dz27
 bdz27:Binds K dz27 ["_law_state"] []
 mz27:mg "_law_next"=some (.ref fz27)
 kz27:PySem.W.keepIn K (.ref fz27)=true
 fz29:Addr
 dz29:FuncData
 tz29:FunD K "_law_place" "_law_place" sz29 fz29 dz29
 bdz29:Binds K dz29 ["_law_spot","_law_size"] []
 mz29:mg "_law_place"=some (.ref fz29)
 kz29:PySem.W.keepIn K (.ref fz29)=true
 fz25:Addr
 dz25:FuncData
 tz25:FunD K "_law_done" "_law_done" sz25 fz25 dz25
 bdz25:Binds K dz25 ["_law_book","_law_d","_law_spots_here","_law_pieces"] []
 mz25:mg "_law_done"=some (.ref fz25)
 kz25:PySem.W.keepIn K (.ref fz25)=true
 fz26:Addr
 dz26:FuncData
 tz26:FunD K "_law_due" "_law_due" sz26 fz26 dz26
 bdz26:Binds K dz26 ["_law_kept","_law_d","_law_spots_here"] []
 mz26:mg "_law_due"=some (.ref fz26)
 kz26:PySem.W.keepIn K (.ref fz26)=true
 fz24:Addr
 dz24:FuncData
 tz24:FunD K "_law_counts" "_law_counts" sz24 fz24 dz24
 bdz24:Binds K dz24 ["_law_book","_law_kept"] []
 mz24:mg "_law_counts"=some (.ref fz24)
 kz24:PySem.W.keepIn K (.ref fz24)=true
 fz32:Addr
 dz32:FuncData
 tz32:FunD K "_law_stands" "_law_stands" sz32 fz32 dz32
 bdz32:Binds K dz32 ["_law_book","_law_kept"] []
 mz32:mg "_law_stands"=some (.ref fz32)
 kz32:PySem.W.keepIn K (.ref fz32)=true
 f_law:Addr
 d_law:FuncData
 t_law:FunD K "law" "law" s_law f_law d_law
 bd_law:Binds K d_law ["_law_script"] []
 m_law:mg "law"=some (.ref f_law)
 k_law:PySem.W.keepIn K (.ref f_law)=true
 tk_LEAST:Tok
 g_LEAST:mg "LEAST"=some (.int (-6) tk_LEAST)
 tk_MOST:Tok
 g_MOST:mg "MOST"=some (.int (6) tk_MOST)
 tk_MOST_PIECES:Tok
 g_MOST_PIECES:mg "MOST_PIECES"=some (.int (10) tk_MOST_PIECES)
 tk_LEAST_CORNERS:Tok
 g_LEAST_CORNERS:mg "LEAST_CORNERS"=some (.int (3) tk_LEAST_CORNERS)
 tk_MOST_CORNERS:Tok
 g_MOST_CORNERS:mg "MOST_CORNERS"=some (.int (24) tk_MOST_CORNERS)
 tk_MOST_MARKS:Tok
 g_MOST_MARKS:mg "MOST_MARKS"=some (.int (4) tk_MOST_MARKS)
 tk_FARTHEST:Tok
 g_FARTHEST:mg "FARTHEST"=some (.int (20000) tk_FARTHEST)
 tk_LONGEST_MOVE:Tok
 g_LONGEST_MOVE:mg "LONGEST_MOVE"=some (.int (200) tk_LONGEST_MOVE)
 tk_MOST_SEAMS:Tok
 g_MOST_SEAMS:mg "MOST_SEAMS"=some (.int (30) tk_MOST_SEAMS)
 tk_MOST_EASE:Tok
 g_MOST_EASE:mg "MOST_EASE"=some (.int (400) tk_MOST_EASE)
 tk_MOST_PAIRS:Tok
 g_MOST_PAIRS:mg "MOST_PAIRS"=some (.int (4) tk_MOST_PAIRS)
 b_abs:mg "abs"=none
 b_all:mg "all"=none
 b_any:mg "any"=none
 b_bool:mg "bool"=none
 b_int:mg "int"=none
 b_isinstance:mg "isinstance"=none
 b_len:mg "len"=none
 b_list:mg "list"=none
 b_range:mg "range"=none
 b_tuple:mg "tuple"=none
section
variable {K:PySem.W.Frag} {mg:Str→Option Value}
def Gof (T:Txt K mg):Gx:=⟨K,nth [T.ez21,T.ez3,T.ez1,T.ez0,T.ez2,T.ez22,T.ez20] (T.ez21),nth [T.C_Book] (T.C_Book),nth [["size","pieces","side_marks","seams"]] []⟩
theorem emz21 (T:Txt K mg):mg "GradeError"=some (.ref ((Gof T).cA 0)):=T.mez21
theorem xmz21 (T:Txt K mg):∀d,PySem.W.exmOne K (.ref ((Gof T).cA d)) (.ref ((Gof T).cA 0))=some (sub0 d 0):=fun d=>match d with | 0=>T.xoz21z21 | 1=>T.xoz3z21 | 2=>T.xoz1z21 | 3=>T.xoz0z21 | 4=>T.xoz2z21 | 5=>T.xoz22z21 | 6=>T.xoz20z21 | _+7=>T.xoz21z21
theorem emz3 (T:Txt K mg):mg "BadSize"=some (.ref ((Gof T).cA 1)):=T.mez3
theorem eqz3 (T:Txt K mg):PySem.W.excIn K ((Gof T).cA 1) [.type "ValueError",.type "Exception",.type "BaseException",.type "object"] "ValueError.__new__"=true:=T.qz3
theorem koz3 (T:Txt K mg):∀d,PySem.W.kitOne K (.ref ((Gof T).cA d)) (.ref ((Gof T).cA 1))=some (sub0 d 1):=fun d=>match d with | 0=>T.kiz21z3 | 1=>T.kiz3z3 | 2=>T.kiz1z3 | 3=>T.kiz0z3 | 4=>T.kiz2z3 | 5=>T.kiz22z3 | 6=>T.kiz20z3 | _+7=>T.kiz21z3
theorem emz1 (T:Txt K mg):mg "BadPiece"=some (.ref ((Gof T).cA 2)):=T.mez1
theorem eqz1 (T:Txt K mg):PySem.W.excIn K ((Gof T).cA 2) [.type "ValueError",.type "Exception",.type "BaseException",.type "object"] "ValueError.__new__"=true:=T.qz1
theorem emz0 (T:Txt K mg):mg "BadMove"=some (.ref ((Gof T).cA 3)):=T.mez0
theorem eqz0 (T:Txt K mg):PySem.W.excIn K ((Gof T).cA 3) [.type "ValueError",.type "Exception",.type "BaseException",.type "object"] "ValueError.__new__"=true:=T.qz0
theorem emz2 (T:Txt K mg):mg "BadSeam"=some (.ref ((Gof T).cA 4)):=T.mez2
theorem eqz2 (T:Txt K mg):PySem.W.excIn K ((Gof T).cA 4) [.type "ValueError",.type "Exception",.type "BaseException",.type "object"] "ValueError.__new__"=true:=T.qz2
theorem emz22 (T:Txt K mg):mg "NoSuch"=some (.ref ((Gof T).cA 5)):=T.mez22
theorem eqz22 (T:Txt K mg):PySem.W.excIn K ((Gof T).cA 5) [.type "ValueError",.type "Exception",.type "BaseException",.type "object"] "ValueError.__new__"=true:=T.qz22
theorem emz20 (T:Txt K mg):mg "Full"=some (.ref ((Gof T).cA 6)):=T.mez20
theorem eqz20 (T:Txt K mg):PySem.W.excIn K ((Gof T).cA 6) [.type "ValueError",.type "Exception",.type "BaseException",.type "object"] "ValueError.__new__"=true:=T.qz20
theorem koz20 (T:Txt K mg):∀d,PySem.W.kitOne K (.ref ((Gof T).cA d)) (.ref ((Gof T).cA 6))=some (sub0 d 6):=fun d=>match d with | 0=>T.kiz21z20 | 1=>T.kiz3z20 | 2=>T.kiz1z20 | 3=>T.kiz0z20 | 4=>T.kiz2z20 | 5=>T.kiz22z20 | 6=>T.kiz20z20 | _+7=>T.kiz21z20
theorem ek_all (T:Txt K mg):∀d,ExcK K ((Gof T).cA d):=fun d=>match d with | 0=>T.xz21 | 1=>T.xz3 | 2=>T.xz1 | 3=>T.xz0 | 4=>T.xz2 | 5=>T.xz22 | 6=>T.xz20 | _+7=>T.xz21
theorem zaah (T:Txt K mg):Cls K ((Gof T).iA 0):=T.cls_Book
theorem zacp (T:Txt K mg):Mk K ((Gof T).iA 0) T.fz4:=T.mkk_Book
theorem mc_Book (T:Txt K mg):mg "Book"=some (.ref ((Gof T).iA 0)):=T.mC_Book
theorem zaaw (T:Txt K mg):NoAttr K ((Gof T).iA 0) "size":=T.no_Book_size
theorem zaak (T:Txt K mg):NoAttr K ((Gof T).iA 0) "pieces":=T.no_Book_pieces
theorem zaao (T:Txt K mg):NoAttr K ((Gof T).iA 0) "side_marks":=T.no_Book_side_marks
theorem zaar (T:Txt K mg):NoAttr K ((Gof T).iA 0) "seams":=T.no_Book_seams
theorem zac3 (T:Txt K mg):((Gof T).nm 0).Nodup:=show(["size","pieces","side_marks","seams"]:List Str).Nodup by decide
theorem zac1 (T:Txt K mg):((Gof T).nm 0).length≤100:=show(["size","pieces","side_marks","seams"]:List Str).length≤100 by decide
theorem nnz5 (T:Txt K mg):("add_piece":Str)∉(Gof T).nm 0:=show("add_piece":Str)∉(["size","pieces","side_marks","seams"]:List Str) by decide
theorem mtz5 (T:Txt K mg):Meth K ((Gof T).iA 0) "add_piece" T.fz5:=T.mthz5
theorem nnz6 (T:Txt K mg):("add_seam":Str)∉(Gof T).nm 0:=show("add_seam":Str)∉(["size","pieces","side_marks","seams"]:List Str) by decide
theorem mtz6 (T:Txt K mg):Meth K ((Gof T).iA 0) "add_seam" T.fz6:=T.mthz6
theorem nnz8 (T:Txt K mg):("check_pairs":Str)∉(Gof T).nm 0:=show("check_pairs":Str)∉(["size","pieces","side_marks","seams"]:List Str) by decide
theorem mtz8 (T:Txt K mg):Meth K ((Gof T).iA 0) "check_pairs" T.fz8:=T.mthz8
theorem nnz17 (T:Txt K mg):("set_moves":Str)∉(Gof T).nm 0:=show("set_moves":Str)∉(["size","pieces","side_marks","seams"]:List Str) by decide
theorem mtz17 (T:Txt K mg):Meth K ((Gof T).iA 0) "set_moves" T.fz17:=T.mthz17
theorem nnz10 (T:Txt K mg):("let_out":Str)∉(Gof T).nm 0:=show("let_out":Str)∉(["size","pieces","side_marks","seams"]:List Str) by decide
theorem mtz10 (T:Txt K mg):Meth K ((Gof T).iA 0) "let_out" T.fz10:=T.mthz10
theorem nnz19 (T:Txt K mg):("take_in":Str)∉(Gof T).nm 0:=show("take_in":Str)∉(["size","pieces","side_marks","seams"]:List Str) by decide
theorem mtz19 (T:Txt K mg):Meth K ((Gof T).iA 0) "take_in" T.fz19:=T.mthz19
theorem nnz7 (T:Txt K mg):("change_size":Str)∉(Gof T).nm 0:=show("change_size":Str)∉(["size","pieces","side_marks","seams"]:List Str) by decide
theorem mtz7 (T:Txt K mg):Meth K ((Gof T).iA 0) "change_size" T.fz7:=T.mthz7
theorem nnz13 (T:Txt K mg):("piece_count":Str)∉(Gof T).nm 0:=show("piece_count":Str)∉(["size","pieces","side_marks","seams"]:List Str) by decide
theorem mtz13 (T:Txt K mg):Meth K ((Gof T).iA 0) "piece_count" T.fz13:=T.mthz13
theorem nnz16 (T:Txt K mg):("seam_count":Str)∉(Gof T).nm 0:=show("seam_count":Str)∉(["size","pieces","side_marks","seams"]:List Str) by decide
theorem mtz16 (T:Txt K mg):Meth K ((Gof T).iA 0) "seam_count" T.fz16:=T.mthz16
theorem nnz18 (T:Txt K mg):("spots":Str)∉(Gof T).nm 0:=show("spots":Str)∉(["size","pieces","side_marks","seams"]:List Str) by decide
theorem mtz18 (T:Txt K mg):Meth K ((Gof T).iA 0) "spots" T.fz18:=T.mthz18
theorem nnz11 (T:Txt K mg):("mark_spots":Str)∉(Gof T).nm 0:=show("mark_spots":Str)∉(["size","pieces","side_marks","seams"]:List Str) by decide
theorem mtz11 (T:Txt K mg):Meth K ((Gof T).iA 0) "mark_spots" T.fz11:=T.mthz11
theorem nnz15 (T:Txt K mg):("seam":Str)∉(Gof T).nm 0:=show("seam":Str)∉(["size","pieces","side_marks","seams"]:List Str) by decide
theorem mtz15 (T:Txt K mg):Meth K ((Gof T).iA 0) "seam" T.fz15:=T.mthz15
theorem nnz9 (T:Txt K mg):("corners":Str)∉(Gof T).nm 0:=show("corners":Str)∉(["size","pieces","side_marks","seams"]:List Str) by decide
theorem mtz9 (T:Txt K mg):Meth K ((Gof T).iA 0) "corners" T.fz9:=T.mthz9
theorem nnz14 (T:Txt K mg):("places":Str)∉(Gof T).nm 0:=show("places":Str)∉(["size","pieces","side_marks","seams"]:List Str) by decide
theorem mtz14 (T:Txt K mg):Meth K ((Gof T).iA 0) "places" T.fz14:=T.mthz14
end
section
variable {P:Program} {w:World} {K:PySem.W.Frag} {mg:Str→Option Value} {base:Heap} {k:Nat}
set_option genInjectivity false in
set_option genSizeOf false in
structure Ok (P:Program) (w:World) {K:PySem.W.Frag} {mg:Str→Option Value} (base:Heap) (T:Txt K mg) (k:Nat):Prop where
 oz41:FnOk P w K mg base (CXE (Gof T) P w base) (2*k) T.fz41 T.dz41 ["spot","size"] (spG (Gof T) (cfX fns sub0 k).cf (cfX fns sub0 k).fr 0)
 oz38:FnOk P w K mg base (CXE (Gof T) P w base) (2*k) T.fz38 T.dz38 ["size"] (spG (Gof T) (cfX fns sub0 k).cf (cfX fns sub0 k).fr 1)
 oz40:FnOk P w K mg base (CXE (Gof T) P w base) (2*k) T.fz40 T.dz40 ["spot","across","up","steps"] (spG (Gof T) (cfX fns sub0 k).cf (cfX fns sub0 k).fr 2)
 oz4:FnOk P w K mg base (CXE (Gof T) P w base) (2*k) T.fz4 T.dz4 ["self"] (spG (Gof T) (cfX fns sub0 k).cf (cfX fns sub0 k).fr 3)
 oz5:FnOk P w K mg base (CXE (Gof T) P w base) (2*k) T.fz5 T.dz5 ["self","corners","marks"] (spG (Gof T) (cfX fns sub0 k).cf (cfX fns sub0 k).fr 4)
 oz6:FnOk P w K mg base (CXE (Gof T) P w base) (2*k) T.fz6 T.dz6 ["self","first","second","turned","ease","pairs"] (spG (Gof T) (cfX fns sub0 k).cf (cfX fns sub0 k).fr 5)
 oz8:FnOk P w K mg base (CXE (Gof T) P w base) (2*k) T.fz8 T.dz8 ["self","first","second","pairs"] (spG (Gof T) (cfX fns sub0 k).cf (cfX fns sub0 k).fr 6)
 oz17:FnOk P w K mg base (CXE (Gof T) P w base) (2*k) T.fz17 T.dz17 ["self","piece","corner","greater","lesser"] (spG (Gof T) (cfX fns sub0 k).cf (cfX fns sub0 k).fr 7)
 oz10:FnOk P w K mg base (CXE (Gof T) P w base) (2*k) T.fz10 T.dz10 ["self","steps"] (spG (Gof T) (cfX fns sub0 k).cf (cfX fns sub0 k).fr 8)
 oz19:FnOk P w K mg base (CXE (Gof T) P w base) (2*k) T.fz19 T.dz19 ["self","steps"] (spG (Gof T) (cfX fns sub0 k).cf (cfX fns sub0 k).fr 9)
 oz7:FnOk P w K mg base (CXE (Gof T) P w base) (2*k) T.fz7 T.dz7 ["self","steps","change"] (spG (Gof T) (cfX fns sub0 k).cf (cfX fns sub0 k).fr 10)
 oz13:FnOk P w K mg base (CXE (Gof T) P w base) (2*k) T.fz13 T.dz13 ["self"] (spG (Gof T) (cfX fns sub0 k).cf (cfX fns sub0 k).fr 11)
 oz16:FnOk P w K mg base (CXE (Gof T) P w base) (2*k) T.fz16 T.dz16 ["self"] (spG (Gof T) (cfX fns sub0 k).cf (cfX fns sub0 k).fr 12)
 oz18:FnOk P w K mg base (CXE (Gof T) P w base) (2*k) T.fz18 T.dz18 ["self","piece"] (spG (Gof T) (cfX fns sub0 k).cf (cfX fns sub0 k).fr 13)
 oz11:FnOk P w K mg base (CXE (Gof T) P w base) (2*k) T.fz11 T.dz11 ["self","piece","side"] (spG (Gof T) (cfX fns sub0 k).cf (cfX fns sub0 k).fr 14)
 oz15:FnOk P w K mg base (CXE (Gof T) P w base) (2*k) T.fz15 T.dz15 ["self","number"] (spG (Gof T) (cfX fns sub0 k).cf (cfX fns sub0 k).fr 15)
 oz9:FnOk P w K mg base (CXE (Gof T) P w base) (2*k) T.fz9 T.dz9 ["self","piece","size"] (spG (Gof T) (cfX fns sub0 k).cf (cfX fns sub0 k).fr 16)
 oz12:FnOk P w K mg base (CXE (Gof T) P w base) (2*k) T.fz12 T.dz12 ["self","piece","side","size"] (spG (Gof T) (cfX fns sub0 k).cf (cfX fns sub0 k).fr 17)
 oz14:FnOk P w K mg base (CXE (Gof T) P w base) (2*k) T.fz14 T.dz14 ["self","spots","size"] (spG (Gof T) (cfX fns sub0 k).cf (cfX fns sub0 k).fr 18)
 oz39:FnOk P w K mg base (CXE (Gof T) P w base) (2*k) T.fz39 T.dz39 ["number","those"] (spG (Gof T) (cfX fns sub0 k).cf (cfX fns sub0 k).fr 19)
 oz36:FnOk P w K mg base (CXE (Gof T) P w base) (2*k) T.fz36 T.dz36 ["corners","by_side"] (spG (Gof T) (cfX fns sub0 k).cf (cfX fns sub0 k).fr 20)
 oz42:FnOk P w K mg base (CXE (Gof T) P w base) (2*k) T.fz42 T.dz42 ["spots"] (spG (Gof T) (cfX fns sub0 k).cf (cfX fns sub0 k).fr 21)
 oz35:FnOk P w K mg base (CXE (Gof T) P w base) (2*k) T.fz35 T.dz35 ["numbers","bound"] (spG (Gof T) (cfX fns sub0 k).cf (cfX fns sub0 k).fr 22)
 oz37:FnOk P w K mg base (CXE (Gof T) P w base) (2*k) T.fz37 T.dz37 ["first","second","ease","pairs"] (spG (Gof T) (cfX fns sub0 k).cf (cfX fns sub0 k).fr 23)
 oz34:FnOk P w K mg base (CXE (Gof T) P w base) (2*k) T.fz34 T.dz34 ["_law_found"] (spG (Gof T) (cfX fns sub0 k).cf (cfX fns sub0 k).fr 24)
 oz23:FnOk P w K mg base (CXE (Gof T) P w base) (2*k) T.fz23 T.dz23 ["_law_script","_law_k"] (spG (Gof T) (cfX fns sub0 k).cf (cfX fns sub0 k).fr 25)
 oz33:FnOk P w K mg base (CXE (Gof T) P w base) (2*k) T.fz33 T.dz33 ["_law_script","_law_many"] (spG (Gof T) (cfX fns sub0 k).cf (cfX fns sub0 k).fr 26)
 oz28:FnOk P w K mg base (CXE (Gof T) P w base) (2*k) T.fz28 T.dz28 ["_law_found","_law_due_here"] (spG (Gof T) (cfX fns sub0 k).cf (cfX fns sub0 k).fr 27)
 oz30:FnOk P w K mg base (CXE (Gof T) P w base) (2*k) T.fz30 T.dz30 ["_law_found","_law_due_here"] (spG (Gof T) (cfX fns sub0 k).cf (cfX fns sub0 k).fr 28)
 oz31:FnOk P w K mg base (CXE (Gof T) P w base) (2*k) T.fz31 T.dz31 ["_law_seed","_law_many","_law_far","_law_step"] (spG (Gof T) (cfX fns sub0 k).cf (cfX fns sub0 k).fr 29)
 oz27:FnOk P w K mg base (CXE (Gof T) P w base) (2*k) T.fz27 T.dz27 ["_law_state"] (spG (Gof T) (cfX fns sub0 k).cf (cfX fns sub0 k).fr 30)
 oz29:FnOk P w K mg base (CXE (Gof T) P w base) (2*k) T.fz29 T.dz29 ["_law_spot","_law_size"] (spG (Gof T) (cfX fns sub0 k).cf (cfX fns sub0 k).fr 31)
 oz25:FnOk P w K mg base (CXE (Gof T) P w base) (2*k) T.fz25 T.dz25 ["_law_book","_law_d","_law_spots_here","_law_pieces"] (spG (Gof T) (cfX fns sub0 k).cf (cfX fns sub0 k).fr 32)
 oz26:FnOk P w K mg base (CXE (Gof T) P w base) (2*k) T.fz26 T.dz26 ["_law_kept","_law_d","_law_spots_here"] (spG (Gof T) (cfX fns sub0 k).cf (cfX fns sub0 k).fr 33)
 oz24:FnOk P w K mg base (CXE (Gof T) P w base) (2*k) T.fz24 T.dz24 ["_law_book","_law_kept"] (spG (Gof T) (cfX fns sub0 k).cf (cfX fns sub0 k).fr 34)
 oz32:FnOk P w K mg base (CXE (Gof T) P w base) (2*k) T.fz32 T.dz32 ["_law_book","_law_kept"] (spG (Gof T) (cfX fns sub0 k).cf (cfX fns sub0 k).fr 35)
 o_law:FnOk P w K mg base (CXE (Gof T) P w base) (2*k) T.f_law T.d_law ["_law_script"] (spG (Gof T) (cfX fns sub0 k).cf (cfX fns sub0 k).fr 36)
theorem ihz41 {T:Txt K mg} (ih:Ok P w base T k):FnOk P w K mg base (CXE (Gof T) P w base) (2*k) T.fz41 T.dz41 ["spot","size"] (spG (Gof T) (cfX fns sub0 k).cf (cfX fns sub0 k).fr 0):=ih.oz41
theorem ihz38 {T:Txt K mg} (ih:Ok P w base T k):FnOk P w K mg base (CXE (Gof T) P w base) (2*k) T.fz38 T.dz38 ["size"] (spG (Gof T) (cfX fns sub0 k).cf (cfX fns sub0 k).fr 1):=ih.oz38
theorem ihz40 {T:Txt K mg} (ih:Ok P w base T k):FnOk P w K mg base (CXE (Gof T) P w base) (2*k) T.fz40 T.dz40 ["spot","across","up","steps"] (spG (Gof T) (cfX fns sub0 k).cf (cfX fns sub0 k).fr 2):=ih.oz40
theorem ihz4 {T:Txt K mg} (ih:Ok P w base T k):FnOk P w K mg base (CXE (Gof T) P w base) (2*k) T.fz4 T.dz4 ["self"] (spG (Gof T) (cfX fns sub0 k).cf (cfX fns sub0 k).fr 3):=ih.oz4
theorem ihz5 {T:Txt K mg} (ih:Ok P w base T k):FnOk P w K mg base (CXE (Gof T) P w base) (2*k) T.fz5 T.dz5 ["self","corners","marks"] (spG (Gof T) (cfX fns sub0 k).cf (cfX fns sub0 k).fr 4):=ih.oz5
theorem ihz6 {T:Txt K mg} (ih:Ok P w base T k):FnOk P w K mg base (CXE (Gof T) P w base) (2*k) T.fz6 T.dz6 ["self","first","second","turned","ease","pairs"] (spG (Gof T) (cfX fns sub0 k).cf (cfX fns sub0 k).fr 5):=ih.oz6
theorem ihz8 {T:Txt K mg} (ih:Ok P w base T k):FnOk P w K mg base (CXE (Gof T) P w base) (2*k) T.fz8 T.dz8 ["self","first","second","pairs"] (spG (Gof T) (cfX fns sub0 k).cf (cfX fns sub0 k).fr 6):=ih.oz8
theorem ihz17 {T:Txt K mg} (ih:Ok P w base T k):FnOk P w K mg base (CXE (Gof T) P w base) (2*k) T.fz17 T.dz17 ["self","piece","corner","greater","lesser"] (spG (Gof T) (cfX fns sub0 k).cf (cfX fns sub0 k).fr 7):=ih.oz17
theorem ihz10 {T:Txt K mg} (ih:Ok P w base T k):FnOk P w K mg base (CXE (Gof T) P w base) (2*k) T.fz10 T.dz10 ["self","steps"] (spG (Gof T) (cfX fns sub0 k).cf (cfX fns sub0 k).fr 8):=ih.oz10
theorem ihz19 {T:Txt K mg} (ih:Ok P w base T k):FnOk P w K mg base (CXE (Gof T) P w base) (2*k) T.fz19 T.dz19 ["self","steps"] (spG (Gof T) (cfX fns sub0 k).cf (cfX fns sub0 k).fr 9):=ih.oz19
theorem ihz7 {T:Txt K mg} (ih:Ok P w base T k):FnOk P w K mg base (CXE (Gof T) P w base) (2*k) T.fz7 T.dz7 ["self","steps","change"] (spG (Gof T) (cfX fns sub0 k).cf (cfX fns sub0 k).fr 10):=ih.oz7
theorem ihz13 {T:Txt K mg} (ih:Ok P w base T k):FnOk P w K mg base (CXE (Gof T) P w base) (2*k) T.fz13 T.dz13 ["self"] (spG (Gof T) (cfX fns sub0 k).cf (cfX fns sub0 k).fr 11):=ih.oz13
theorem ihz16 {T:Txt K mg} (ih:Ok P w base T k):FnOk P w K mg base (CXE (Gof T) P w base) (2*k) T.fz16 T.dz16 ["self"] (spG (Gof T) (cfX fns sub0 k).cf (cfX fns sub0 k).fr 12):=ih.oz16
theorem ihz18 {T:Txt K mg} (ih:Ok P w base T k):FnOk P w K mg base (CXE (Gof T) P w base) (2*k) T.fz18 T.dz18 ["self","piece"] (spG (Gof T) (cfX fns sub0 k).cf (cfX fns sub0 k).fr 13):=ih.oz18
theorem ihz11 {T:Txt K mg} (ih:Ok P w base T k):FnOk P w K mg base (CXE (Gof T) P w base) (2*k) T.fz11 T.dz11 ["self","piece","side"] (spG (Gof T) (cfX fns sub0 k).cf (cfX fns sub0 k).fr 14):=ih.oz11
theorem ihz15 {T:Txt K mg} (ih:Ok P w base T k):FnOk P w K mg base (CXE (Gof T) P w base) (2*k) T.fz15 T.dz15 ["self","number"] (spG (Gof T) (cfX fns sub0 k).cf (cfX fns sub0 k).fr 15):=ih.oz15
theorem ihz9 {T:Txt K mg} (ih:Ok P w base T k):FnOk P w K mg base (CXE (Gof T) P w base) (2*k) T.fz9 T.dz9 ["self","piece","size"] (spG (Gof T) (cfX fns sub0 k).cf (cfX fns sub0 k).fr 16):=ih.oz9
theorem ihz14 {T:Txt K mg} (ih:Ok P w base T k):FnOk P w K mg base (CXE (Gof T) P w base) (2*k) T.fz14 T.dz14 ["self","spots","size"] (spG (Gof T) (cfX fns sub0 k).cf (cfX fns sub0 k).fr 18):=ih.oz14
theorem ihz39 {T:Txt K mg} (ih:Ok P w base T k):FnOk P w K mg base (CXE (Gof T) P w base) (2*k) T.fz39 T.dz39 ["number","those"] (spG (Gof T) (cfX fns sub0 k).cf (cfX fns sub0 k).fr 19):=ih.oz39
theorem ihz36 {T:Txt K mg} (ih:Ok P w base T k):FnOk P w K mg base (CXE (Gof T) P w base) (2*k) T.fz36 T.dz36 ["corners","by_side"] (spG (Gof T) (cfX fns sub0 k).cf (cfX fns sub0 k).fr 20):=ih.oz36
theorem ihz42 {T:Txt K mg} (ih:Ok P w base T k):FnOk P w K mg base (CXE (Gof T) P w base) (2*k) T.fz42 T.dz42 ["spots"] (spG (Gof T) (cfX fns sub0 k).cf (cfX fns sub0 k).fr 21):=ih.oz42
theorem ihz35 {T:Txt K mg} (ih:Ok P w base T k):FnOk P w K mg base (CXE (Gof T) P w base) (2*k) T.fz35 T.dz35 ["numbers","bound"] (spG (Gof T) (cfX fns sub0 k).cf (cfX fns sub0 k).fr 22):=ih.oz35
theorem ihz37 {T:Txt K mg} (ih:Ok P w base T k):FnOk P w K mg base (CXE (Gof T) P w base) (2*k) T.fz37 T.dz37 ["first","second","ease","pairs"] (spG (Gof T) (cfX fns sub0 k).cf (cfX fns sub0 k).fr 23):=ih.oz37
theorem ihz34 {T:Txt K mg} (ih:Ok P w base T k):FnOk P w K mg base (CXE (Gof T) P w base) (2*k) T.fz34 T.dz34 ["_law_found"] (spG (Gof T) (cfX fns sub0 k).cf (cfX fns sub0 k).fr 24):=ih.oz34
theorem ihz23 {T:Txt K mg} (ih:Ok P w base T k):FnOk P w K mg base (CXE (Gof T) P w base) (2*k) T.fz23 T.dz23 ["_law_script","_law_k"] (spG (Gof T) (cfX fns sub0 k).cf (cfX fns sub0 k).fr 25):=ih.oz23
theorem ihz33 {T:Txt K mg} (ih:Ok P w base T k):FnOk P w K mg base (CXE (Gof T) P w base) (2*k) T.fz33 T.dz33 ["_law_script","_law_many"] (spG (Gof T) (cfX fns sub0 k).cf (cfX fns sub0 k).fr 26):=ih.oz33
theorem ihz28 {T:Txt K mg} (ih:Ok P w base T k):FnOk P w K mg base (CXE (Gof T) P w base) (2*k) T.fz28 T.dz28 ["_law_found","_law_due_here"] (spG (Gof T) (cfX fns sub0 k).cf (cfX fns sub0 k).fr 27):=ih.oz28
theorem ihz30 {T:Txt K mg} (ih:Ok P w base T k):FnOk P w K mg base (CXE (Gof T) P w base) (2*k) T.fz30 T.dz30 ["_law_found","_law_due_here"] (spG (Gof T) (cfX fns sub0 k).cf (cfX fns sub0 k).fr 28):=ih.oz30
theorem ihz31 {T:Txt K mg} (ih:Ok P w base T k):FnOk P w K mg base (CXE (Gof T) P w base) (2*k) T.fz31 T.dz31 ["_law_seed","_law_many","_law_far","_law_step"] (spG (Gof T) (cfX fns sub0 k).cf (cfX fns sub0 k).fr 29):=ih.oz31
theorem ihz27 {T:Txt K mg} (ih:Ok P w base T k):FnOk P w K mg base (CXE (Gof T) P w base) (2*k) T.fz27 T.dz27 ["_law_state"] (spG (Gof T) (cfX fns sub0 k).cf (cfX fns sub0 k).fr 30):=ih.oz27
theorem ihz29 {T:Txt K mg} (ih:Ok P w base T k):FnOk P w K mg base (CXE (Gof T) P w base) (2*k) T.fz29 T.dz29 ["_law_spot","_law_size"] (spG (Gof T) (cfX fns sub0 k).cf (cfX fns sub0 k).fr 31):=ih.oz29
theorem ihz25 {T:Txt K mg} (ih:Ok P w base T k):FnOk P w K mg base (CXE (Gof T) P w base) (2*k) T.fz25 T.dz25 ["_law_book","_law_d","_law_spots_here","_law_pieces"] (spG (Gof T) (cfX fns sub0 k).cf (cfX fns sub0 k).fr 32):=ih.oz25
theorem ihz26 {T:Txt K mg} (ih:Ok P w base T k):FnOk P w K mg base (CXE (Gof T) P w base) (2*k) T.fz26 T.dz26 ["_law_kept","_law_d","_law_spots_here"] (spG (Gof T) (cfX fns sub0 k).cf (cfX fns sub0 k).fr 33):=ih.oz26
theorem ihz24 {T:Txt K mg} (ih:Ok P w base T k):FnOk P w K mg base (CXE (Gof T) P w base) (2*k) T.fz24 T.dz24 ["_law_book","_law_kept"] (spG (Gof T) (cfX fns sub0 k).cf (cfX fns sub0 k).fr 34):=ih.oz24
theorem ihz32 {T:Txt K mg} (ih:Ok P w base T k):FnOk P w K mg base (CXE (Gof T) P w base) (2*k) T.fz32 T.dz32 ["_law_book","_law_kept"] (spG (Gof T) (cfX fns sub0 k).cf (cfX fns sub0 k).fr 35):=ih.oz32
theorem okz41 (T:Txt K mg) (ih:Ok P w base T k):FnOk P w K mg base (CXE (Gof T) P w base) (2*(k+1)) T.fz41 T.dz41 ["spot","size"] (spG (Gof T) (run true fns sub0 whileL (k+1)) (frOf fns) 0):=by
 refine fn_okX T.tz41 scz41 rfl rfl rfl fun cdv A outer s H E hr=>?_
 have hu:=Nat.lt_of_le_of_lt (Nat.add_le_add_left (by decide:9≤64) _) hr.units
 have hp:=IP.passes_leave (X:=cxOf (CXE (Gof T) P w base) P w K mg base nmz41 "place" (zaab sz41) T.fz41 cdv A outer s H E) rfl
 exact(zaaa (qexp (xcall (ihz38 ih) hr T.mz38 T.kz38 T.bdz38 .nil rfl (wrc (wv 1) sR_nil)))
 (zaaa (sS_ifs (wct hu .lt (wv 1) sV_int) (zaaa (sS_ret (xcall (ihz40 ih) hr T.mz40 T.kz40 T.bdz40 .nil rfl (wrc (wv 0) (wrc (wsub (wv 0) sV_int) (wrc (wsub (wv 0) sV_int) (wrc (sV_neg (wv 1)) sR_nil))))))
 zaac) zaac)
 (zaaa (sS_ret (xcall (ihz40 ih) hr T.mz40 T.kz40 T.bdz40 .nil rfl (wrc (wv 0) (wrc (wsub (wv 0) sV_int) (wrc (wsub (wv 0) sV_int) (wrc (wv 1) sR_nil))))))
 zaac)))
theorem okz38 (T:Txt K mg) (ih:Ok P w base T k):FnOk P w K mg base (CXE (Gof T) P w base) (2*(k+1)) T.fz38 T.dz38 ["size"] (spG (Gof T) (run true fns sub0 whileL (k+1)) (frOf fns) 1):=by
 refine fn_okX T.tz38 scz38 rfl rfl rfl fun cdv A outer s H E hr=>?_
 have hu:=Nat.lt_of_le_of_lt (Nat.add_le_add_left (by decide:9≤64) _) hr.units
 have hp:=IP.passes_leave (X:=cxOf (CXE (Gof T) P w base) P w K mg base nmz38 "check_size" (zaab sz38) T.fz38 cdv A outer s H E) rfl
 exact(zaaa (sS_ifs (PW.pt (ptb_or (wct hu .lt (wv 0) (xglb T.g_LEAST)) (zaap (wct hu .gt (wv 0) (xglb T.g_MOST))))) (zaaa (yraise (emz3 T) (eqz3 T))
 zaac) zaac)
 zaac)
theorem okz40 (T:Txt K mg) (ih:Ok P w base T k):FnOk P w K mg base (CXE (Gof T) P w base) (2*(k+1)) T.fz40 T.dz40 ["spot","across","up","steps"] (spG (Gof T) (run true fns sub0 whileL (k+1)) (frOf fns) 2):=by
 refine fn_okX T.tz40 scz40 rfl rfl rfl fun cdv A outer s H E hr=>?_
 have hu:=Nat.lt_of_le_of_lt (Nat.add_le_add_left (by decide:9≤64) _) hr.units
 have hp:=IP.passes_leave (X:=cxOf (CXE (Gof T) P w base) P w K mg base nmz40 "moved" (zaab sz40) T.fz40 cdv A outer s H E) rfl
 exact(zaaa (sS_ret (wtup (wac (sV_bin .add (wsub (wv 0) sV_int) (sV_bin .mul (wv 3) (wv 1))) (wac (sV_bin .add (wsub (wv 0) sV_int) (sV_bin .mul (wv 3) (wv 2))) sA_nil))))
 zaac)
theorem okz4 (T:Txt K mg) (ih:Ok P w base T k):FnOk P w K mg base (CXE (Gof T) P w base) (2*(k+1)) T.fz4 T.dz4 ["self"] (spG (Gof T) (run true fns sub0 whileL (k+1)) (frOf fns) 3):=by
 refine fn_okX T.tz4 scz4 rfl rfl rfl fun cdv A outer s H E hr=>?_
 have hu:=Nat.lt_of_le_of_lt (Nat.add_le_add_left (by decide:9≤64) _) hr.units
 have hp:=IP.passes_leave (X:=cxOf (CXE (Gof T) P w base) P w K mg base nmz4 "Book.__init__" (zaab sz4) T.fz4 cdv A outer s H E) rfl
 exact(zaaa (ysetF (hnd:=zac3 T) (hlen:=zac1 T) (zaah T) (zaaw T) (wv 0) sV_int)
 (zaaa (ysetF (hnd:=zac3 T) (hlen:=zac1 T) (zaah T) (zaak T) (wv 0) (xcell (wlstO sA_nil)))
 (zaaa (ysetF (hnd:=zac3 T) (hlen:=zac1 T) (zaah T) (zaao T) (wv 0) (xcell (wlstO sA_nil)))
 (zaaa (ysetF (hnd:=zac3 T) (hlen:=zac1 T) (zaah T) (zaar T) (wv 0) (xcell (wlstO sA_nil)))
 zaac))))
theorem okz5 (T:Txt K mg) (ih:Ok P w base T k):FnOk P w K mg base (CXE (Gof T) P w base) (2*(k+1)) T.fz5 T.dz5 ["self","corners","marks"] (spG (Gof T) (run true fns sub0 whileL (k+1)) (frOf fns) 4):=by
 refine fn_okX T.tz5 scz5 rfl rfl rfl fun cdv A outer s H E hr=>?_
 have hu:=Nat.lt_of_le_of_lt (Nat.add_le_add_left (by decide:9≤64) _) hr.units
 have hp:=IP.passes_leave (X:=cxOf (CXE (Gof T) P w base) P w K mg base nmz5 "Book.add_piece" (zaab sz5) T.fz5 cdv A outer s H E) rfl
 exact(zaaa (sS_ifs (wct hu .ge (wlen (T.b_len) (xfld (zaah T) (zaak T) (wv 0))) (xglb T.g_MOST_PIECES)) (zaaa (yraise (emz20 T) (eqz20 T))
 zaac) zaac)
 (zaaa (qasg ndz5 (sV_ife (wct hu .isN (wv 2) sV_non) (sV_of (zabh (f:=fun σ st=>one (ev (cfX fns sub0 k) ez5_C0 .v σ st)) rfl (zaa7 (sc:=(zaab sz5).names) (N:=nmz5) (N':=nmz5_c0) rfl rfl rfl rfl (by decide +kernel)) (by decide) (wpl (wv 1)) (fun _ _ _ _ _=>(wg1 ndz5_c0)) (fun _ _ _ _ _=>zaby (wlst sA_nil)) (fun _=>rfl) (fun _ _=>rfl)) fun _ _ _ _ h=>zacd h) (sV_of (zabh (f:=fun σ st=>one (ev (cfX fns sub0 k) ez5_C1 .v σ st)) rfl (zaa7 (sc:=(zaab sz5).names) (N:=nmz5) (N':=nmz5_c1) rfl rfl rfl rfl (by decide +kernel)) (by decide) (wpl (wv 2)) (fun _ _ _ _ _=>(wg1 ndz5_c1)) (fun _ _ _ _ _=>zaby (wlist (T.b_list) (wv 5))) (fun _=>rfl) (fun _ _=>rfl)) fun _ _ _ _ h=>zacd h)))
 (zaaa (qexp (xcall (ihz36 ih) hr T.mz36 T.kz36 T.bdz36 .nil rfl (wrc (wv 1) (wrc (wv 3) sR_nil))))
 (zaaa (yappL (xfld (zaah T) (zaak T) (wv 0)) (xcell (wlistO (T.b_list) (wv 1))))
 (zaaa (yappL (xfld (zaah T) (zaao T) (wv 0)) (wv 3))
 (zaaa (sS_ret (sV_bin .sub (wlen (T.b_len) (xfld (zaah T) (zaak T) (wv 0))) sV_int))
 zaac))))))
theorem okz6 (T:Txt K mg) (ih:Ok P w base T k):FnOk P w K mg base (CXE (Gof T) P w base) (2*(k+1)) T.fz6 T.dz6 ["self","first","second","turned","ease","pairs"] (spG (Gof T) (run true fns sub0 whileL (k+1)) (frOf fns) 5):=by
 refine fn_okX T.tz6 scz6 rfl rfl rfl fun cdv A outer s H E hr=>?_
 have hu:=Nat.lt_of_le_of_lt (Nat.add_le_add_left (by decide:9≤64) _) hr.units
 have hp:=IP.passes_leave (X:=cxOf (CXE (Gof T) P w base) P w K mg base nmz6 "Book.add_seam" (zaab sz6) T.fz6 cdv A outer s H E) rfl
 exact(zaaa (sS_ifs (wct hu .ge (wlen (T.b_len) (xfld (zaah T) (zaar T) (wv 0))) (xglb T.g_MOST_SEAMS)) (zaaa (yraise (emz20 T) (eqz20 T))
 zaac) zaac)
 (zaaa (qasg ndz6 (sV_ife (wct hu .isN (wv 5) sV_non) (wtup sA_nil) (wtuple (T.b_tuple) (wv 5))))
 (zaaa (qexp (xmeth (hnm:=nnz8 T) (zaah T) (mtz8 T) (ihz8 ih) hr T.bdz8 .nil rfl (wv 0) (wrc (wv 1) (wrc (wv 2) (wrc (wv 6) sR_nil)))))
 (zaaa (qexp (xcall (ihz37 ih) hr T.mz37 T.kz37 T.bdz37 .nil rfl (wrc (wv 1) (wrc (wv 2) (wrc (wv 4) (wrc (wv 6) sR_nil))))))
 (zaaa (yappL (xfld (zaah T) (zaar T) (wv 0)) (wtup (wac (wv 1) (wac (wv 2) (wac (wv 3) (wac (wv 4) (wac (wv 6) sA_nil)))))))
 (zaaa (sS_ret (sV_bin .sub (wlen (T.b_len) (xfld (zaah T) (zaar T) (wv 0))) sV_int))
 zaac))))))
theorem okz8 (T:Txt K mg) (ih:Ok P w base T k):FnOk P w K mg base (CXE (Gof T) P w base) (2*(k+1)) T.fz8 T.dz8 ["self","first","second","pairs"] (spG (Gof T) (run true fns sub0 whileL (k+1)) (frOf fns) 6):=by
 refine fn_okX T.tz8 scz8 rfl rfl rfl fun cdv A outer s H E hr=>?_
 have hu:=Nat.lt_of_le_of_lt (Nat.add_le_add_left (by decide:9≤64) _) hr.units
 have hp:=IP.passes_leave (X:=cxOf (CXE (Gof T) P w base) P w K mg base nmz8 "Book.check_pairs" (zaab sz8) T.fz8 cdv A outer s H E) rfl
 exact(zaaa (qasg ndz8 (xmeth (hnm:=nnz11 T) (zaah T) (mtz11 T) (ihz11 ih) hr T.bdz11 .nil rfl (wv 0) (wrc (wsub (wv 1) sV_int) (wrc (wsub (wv 1) sV_int) sR_nil))))
 (zaaa (qasg ndz8 (xmeth (hnm:=nnz11 T) (zaah T) (mtz11 T) (ihz11 ih) hr T.bdz11 .nil rfl (wv 0) (wrc (wsub (wv 2) sV_int) (wrc (wsub (wv 2) sV_int) sR_nil))))
 (zaaa (yforV (i:=3) hp (wg1 ndz8) (zaaa (qexp (xcall (ihz39 ih) hr T.mz39 T.kz39 T.bdz39 .nil rfl (wrc (wsub (wv 6) sV_int) (wrc (wv 4) sR_nil))))
 (zaaa (qexp (xcall (ihz39 ih) hr T.mz39 T.kz39 T.bdz39 .nil rfl (wrc (wsub (wv 6) sV_int) (wrc (wv 5) sR_nil))))
 zaac)))
 zaac)))
theorem okz17 (T:Txt K mg) (ih:Ok P w base T k):FnOk P w K mg base (CXE (Gof T) P w base) (2*(k+1)) T.fz17 T.dz17 ["self","piece","corner","greater","lesser"] (spG (Gof T) (run true fns sub0 whileL (k+1)) (frOf fns) 7):=by
 refine fn_okX T.tz17 scz17 rfl rfl rfl fun cdv A outer s H E hr=>?_
 have hu:=Nat.lt_of_le_of_lt (Nat.add_le_add_left (by decide:9≤64) _) hr.units
 have hp:=IP.passes_leave (X:=cxOf (CXE (Gof T) P w base) P w K mg base nmz17 "Book.set_moves" (zaab sz17) T.fz17 cdv A outer s H E) rfl
 exact(zaaa (qexp (xcall (ihz39 ih) hr T.mz39 T.kz39 T.bdz39 .nil rfl (wrc (wv 1) (wrc (xfld (zaah T) (zaak T) (wv 0)) sR_nil))))
 (zaaa (qasg ndz17 (wsub (xfld (zaah T) (zaak T) (wv 0)) (wv 1)))
 (zaaa (qexp (xcall (ihz39 ih) hr T.mz39 T.kz39 T.bdz39 .nil rfl (wrc (wv 2) (wrc (wv 5) sR_nil))))
 (zaaa (qasg ndz17 (wtup (wac (wsub (wv 3) sV_int) (wac (wsub (wv 3) sV_int) (wac (wsub (wv 4) sV_int) (wac (wsub (wv 4) sV_int) sA_nil))))))
 (zaaa (sS_ifs (sT_not (wtr (xcall (ihz35 ih) hr T.mz35 T.kz35 T.bdz35 .nil rfl (wrc (wv 6) (wrc (xglb T.g_LONGEST_MOVE) sR_nil))))) (zaaa (yraise (emz0 T) (eqz0 T))
 zaac) zaac)
 (zaaa (yputL (sV_bin .add (zafr (wsub (wv 5) (wv 2)) sV_int) (wv 6)) (wv 5) (wv 2))
 zaac))))))
theorem okz10 (T:Txt K mg) (ih:Ok P w base T k):FnOk P w K mg base (CXE (Gof T) P w base) (2*(k+1)) T.fz10 T.dz10 ["self","steps"] (spG (Gof T) (run true fns sub0 whileL (k+1)) (frOf fns) 8):=by
 refine fn_okX T.tz10 scz10 rfl rfl rfl fun cdv A outer s H E hr=>?_
 have hu:=Nat.lt_of_le_of_lt (Nat.add_le_add_left (by decide:9≤64) _) hr.units
 have hp:=IP.passes_leave (X:=cxOf (CXE (Gof T) P w base) P w K mg base nmz10 "Book.let_out" (zaab sz10) T.fz10 cdv A outer s H E) rfl
 exact(zaaa (sS_ret (xmeth (hnm:=nnz7 T) (zaah T) (mtz7 T) (ihz7 ih) hr T.bdz7 .nil rfl (wv 0) (wrc (wv 1) (wrc (wv 1) sR_nil))))
 zaac)
theorem okz19 (T:Txt K mg) (ih:Ok P w base T k):FnOk P w K mg base (CXE (Gof T) P w base) (2*(k+1)) T.fz19 T.dz19 ["self","steps"] (spG (Gof T) (run true fns sub0 whileL (k+1)) (frOf fns) 9):=by
 refine fn_okX T.tz19 scz19 rfl rfl rfl fun cdv A outer s H E hr=>?_
 have hu:=Nat.lt_of_le_of_lt (Nat.add_le_add_left (by decide:9≤64) _) hr.units
 have hp:=IP.passes_leave (X:=cxOf (CXE (Gof T) P w base) P w K mg base nmz19 "Book.take_in" (zaab sz19) T.fz19 cdv A outer s H E) rfl
 exact(zaaa (sS_ret (xmeth (hnm:=nnz7 T) (zaah T) (mtz7 T) (ihz7 ih) hr T.bdz7 .nil rfl (wv 0) (wrc (wv 1) (wrc (sV_neg (wv 1)) sR_nil))))
 zaac)
theorem okz7 (T:Txt K mg) (ih:Ok P w base T k):FnOk P w K mg base (CXE (Gof T) P w base) (2*(k+1)) T.fz7 T.dz7 ["self","steps","change"] (spG (Gof T) (run true fns sub0 whileL (k+1)) (frOf fns) 10):=by
 refine fn_okX T.tz7 scz7 rfl rfl rfl fun cdv A outer s H E hr=>?_
 have hu:=Nat.lt_of_le_of_lt (Nat.add_le_add_left (by decide:9≤64) _) hr.units
 have hp:=IP.passes_leave (X:=cxOf (CXE (Gof T) P w base) P w K mg base nmz7 "Book.change_size" (zaab sz7) T.fz7 cdv A outer s H E) rfl
 exact(zaaa (sS_ifs (wct hu .lt (wv 1) sV_int) (zaaa (yraise (emz3 T) (eqz3 T))
 zaac) zaac)
 (zaaa (qexp (xcall (ihz38 ih) hr T.mz38 T.kz38 T.bdz38 .nil rfl (wrc (sV_bin .add (xfld (zaah T) (zaaw T) (wv 0)) (wv 2)) sR_nil)))
 (zaaa (ysetF (hnd:=zac3 T) (hlen:=zac1 T) (zaah T) (zaaw T) (wv 0) (sV_bin .add (xfld (zaah T) (zaaw T) (wv 0)) (wv 2)))
 (zaaa (sS_ret (xfld (zaah T) (zaaw T) (wv 0)))
 zaac))))
theorem okz13 (T:Txt K mg) (ih:Ok P w base T k):FnOk P w K mg base (CXE (Gof T) P w base) (2*(k+1)) T.fz13 T.dz13 ["self"] (spG (Gof T) (run true fns sub0 whileL (k+1)) (frOf fns) 11):=by
 refine fn_okX T.tz13 scz13 rfl rfl rfl fun cdv A outer s H E hr=>?_
 have hu:=Nat.lt_of_le_of_lt (Nat.add_le_add_left (by decide:9≤64) _) hr.units
 have hp:=IP.passes_leave (X:=cxOf (CXE (Gof T) P w base) P w K mg base nmz13 "Book.piece_count" (zaab sz13) T.fz13 cdv A outer s H E) rfl
 exact(zaaa (sS_ret (wlen (T.b_len) (xfld (zaah T) (zaak T) (wv 0))))
 zaac)
theorem okz16 (T:Txt K mg) (ih:Ok P w base T k):FnOk P w K mg base (CXE (Gof T) P w base) (2*(k+1)) T.fz16 T.dz16 ["self"] (spG (Gof T) (run true fns sub0 whileL (k+1)) (frOf fns) 12):=by
 refine fn_okX T.tz16 scz16 rfl rfl rfl fun cdv A outer s H E hr=>?_
 have hu:=Nat.lt_of_le_of_lt (Nat.add_le_add_left (by decide:9≤64) _) hr.units
 have hp:=IP.passes_leave (X:=cxOf (CXE (Gof T) P w base) P w K mg base nmz16 "Book.seam_count" (zaab sz16) T.fz16 cdv A outer s H E) rfl
 exact(zaaa (sS_ret (wlen (T.b_len) (xfld (zaah T) (zaar T) (wv 0))))
 zaac)
theorem okz18 (T:Txt K mg) (ih:Ok P w base T k):FnOk P w K mg base (CXE (Gof T) P w base) (2*(k+1)) T.fz18 T.dz18 ["self","piece"] (spG (Gof T) (run true fns sub0 whileL (k+1)) (frOf fns) 13):=by
 refine fn_okX T.tz18 scz18 rfl rfl rfl fun cdv A outer s H E hr=>?_
 have hu:=Nat.lt_of_le_of_lt (Nat.add_le_add_left (by decide:9≤64) _) hr.units
 have hp:=IP.passes_leave (X:=cxOf (CXE (Gof T) P w base) P w K mg base nmz18 "Book.spots" (zaab sz18) T.fz18 cdv A outer s H E) rfl
 exact(zaaa (qexp (xcall (ihz39 ih) hr T.mz39 T.kz39 T.bdz39 .nil rfl (wrc (wv 1) (wrc (xfld (zaah T) (zaak T) (wv 0)) sR_nil))))
 (zaaa (sS_ret (wlist (T.b_list) (wsub (xfld (zaah T) (zaak T) (wv 0)) (wv 1))))
 zaac))
theorem okz11 (T:Txt K mg) (ih:Ok P w base T k):FnOk P w K mg base (CXE (Gof T) P w base) (2*(k+1)) T.fz11 T.dz11 ["self","piece","side"] (spG (Gof T) (run true fns sub0 whileL (k+1)) (frOf fns) 14):=by
 refine fn_okX T.tz11 scz11 rfl rfl rfl fun cdv A outer s H E hr=>?_
 have hu:=Nat.lt_of_le_of_lt (Nat.add_le_add_left (by decide:9≤64) _) hr.units
 have hp:=IP.passes_leave (X:=cxOf (CXE (Gof T) P w base) P w K mg base nmz11 "Book.mark_spots" (zaab sz11) T.fz11 cdv A outer s H E) rfl
 exact(zaaa (qexp (xcall (ihz39 ih) hr T.mz39 T.kz39 T.bdz39 .nil rfl (wrc (wv 1) (wrc (xfld (zaah T) (zaao T) (wv 0)) sR_nil))))
 (zaaa (qexp (xcall (ihz39 ih) hr T.mz39 T.kz39 T.bdz39 .nil rfl (wrc (wv 2) (wrc (wsub (xfld (zaah T) (zaao T) (wv 0)) (wv 1)) sR_nil))))
 (zaaa (sS_ret (wlist (T.b_list) (wsub (wsub (xfld (zaah T) (zaao T) (wv 0)) (wv 1)) (wv 2))))
 zaac)))
theorem okz15 (T:Txt K mg) (ih:Ok P w base T k):FnOk P w K mg base (CXE (Gof T) P w base) (2*(k+1)) T.fz15 T.dz15 ["self","number"] (spG (Gof T) (run true fns sub0 whileL (k+1)) (frOf fns) 15):=by
 refine fn_okX T.tz15 scz15 rfl rfl rfl fun cdv A outer s H E hr=>?_
 have hu:=Nat.lt_of_le_of_lt (Nat.add_le_add_left (by decide:9≤64) _) hr.units
 have hp:=IP.passes_leave (X:=cxOf (CXE (Gof T) P w base) P w K mg base nmz15 "Book.seam" (zaab sz15) T.fz15 cdv A outer s H E) rfl
 exact(zaaa (qexp (xcall (ihz39 ih) hr T.mz39 T.kz39 T.bdz39 .nil rfl (wrc (wv 1) (wrc (xfld (zaah T) (zaar T) (wv 0)) sR_nil))))
 (zaaa (qasg ndz15 (wsub (xfld (zaah T) (zaar T) (wv 0)) (wv 1)))
 (zaaa (sS_ret (sV_bin .add (zafr (wv 2) sV_int) (wtup (wac (wlist (T.b_list) (wsub (wv 2) sV_int)) sA_nil))))
 zaac)))
theorem okz9 (T:Txt K mg) (ih:Ok P w base T k):FnOk P w K mg base (CXE (Gof T) P w base) (2*(k+1)) T.fz9 T.dz9 ["self","piece","size"] (spG (Gof T) (run true fns sub0 whileL (k+1)) (frOf fns) 16):=by
 refine fn_okX T.tz9 scz9 rfl rfl rfl fun cdv A outer s H E hr=>?_
 have hu:=Nat.lt_of_le_of_lt (Nat.add_le_add_left (by decide:9≤64) _) hr.units
 have hp:=IP.passes_leave (X:=cxOf (CXE (Gof T) P w base) P w K mg base nmz9 "Book.corners" (zaab sz9) T.fz9 cdv A outer s H E) rfl
 exact(zaaa (sS_ret (xmeth (hnm:=nnz14 T) (zaah T) (mtz14 T) (ihz14 ih) hr T.bdz14 .nil rfl (wv 0) (wrc (xmeth (hnm:=nnz18 T) (zaah T) (mtz18 T) (ihz18 ih) hr T.bdz18 .nil rfl (wv 0) (wrc (wv 1) sR_nil)) (wrc (wv 2) sR_nil))))
 zaac)
theorem okz12 (T:Txt K mg) (ih:Ok P w base T k):FnOk P w K mg base (CXE (Gof T) P w base) (2*(k+1)) T.fz12 T.dz12 ["self","piece","side","size"] (spG (Gof T) (run true fns sub0 whileL (k+1)) (frOf fns) 17):=by
 refine fn_okX T.tz12 scz12 rfl rfl rfl fun cdv A outer s H E hr=>?_
 have hu:=Nat.lt_of_le_of_lt (Nat.add_le_add_left (by decide:9≤64) _) hr.units
 have hp:=IP.passes_leave (X:=cxOf (CXE (Gof T) P w base) P w K mg base nmz12 "Book.marks" (zaab sz12) T.fz12 cdv A outer s H E) rfl
 exact(zaaa (sS_ret (xmeth (hnm:=nnz14 T) (zaah T) (mtz14 T) (ihz14 ih) hr T.bdz14 .nil rfl (wv 0) (wrc (xmeth (hnm:=nnz11 T) (zaah T) (mtz11 T) (ihz11 ih) hr T.bdz11 .nil rfl (wv 0) (wrc (wv 1) (wrc (wv 2) sR_nil))) (wrc (wv 3) sR_nil))))
 zaac)
theorem okz14 (T:Txt K mg) (ih:Ok P w base T k):FnOk P w K mg base (CXE (Gof T) P w base) (2*(k+1)) T.fz14 T.dz14 ["self","spots","size"] (spG (Gof T) (run true fns sub0 whileL (k+1)) (frOf fns) 18):=by
 refine fn_okX T.tz14 scz14 rfl rfl rfl fun cdv A outer s H E hr=>?_
 have hu:=Nat.lt_of_le_of_lt (Nat.add_le_add_left (by decide:9≤64) _) hr.units
 have hp:=IP.passes_leave (X:=cxOf (CXE (Gof T) P w base) P w K mg base nmz14 "Book.places" (zaab sz14) T.fz14 cdv A outer s H E) rfl
 exact(zaaa (qasg ndz14 (sV_ife (wct hu .isN (wv 2) sV_non) (xfld (zaah T) (zaaw T) (wv 0)) (wv 2)))
 (zaaa (qexp (xcall (ihz38 ih) hr T.mz38 T.kz38 T.bdz38 .nil rfl (wrc (wv 3) sR_nil)))
 (zaaa (sS_ret (sV_of (zabh (f:=fun σ st=>one (ev (cfX fns sub0 k) zafp .v σ st)) rfl (zaa7 (sc:=(zaab sz14).names) (N:=nmz14) (N':=zagj) rfl rfl rfl rfl (by decide +kernel)) (by decide) (wpl (wv 1)) (fun _ _ _ _ _=>(wg1 ndz14_c0)) (fun _ _ _ _ _=>zaby (xcall (ihz41 ih) hr T.mz41 T.kz41 T.bdz41 .nil rfl (wrc (wv 4) (wrc (wv 3) sR_nil)))) (fun _=>rfl) (fun _ _=>rfl)) fun _ _ _ _ h=>zacd h))
 zaac)))
theorem okz39 (T:Txt K mg) (ih:Ok P w base T k):FnOk P w K mg base (CXE (Gof T) P w base) (2*(k+1)) T.fz39 T.dz39 ["number","those"] (spG (Gof T) (run true fns sub0 whileL (k+1)) (frOf fns) 19):=by
 refine fn_okX T.tz39 scz39 rfl rfl rfl fun cdv A outer s H E hr=>?_
 have hu:=Nat.lt_of_le_of_lt (Nat.add_le_add_left (by decide:9≤64) _) hr.units
 have hp:=IP.passes_leave (X:=cxOf (CXE (Gof T) P w base) P w K mg base nmz39 "check_there" (zaab sz39) T.fz39 cdv A outer s H E) rfl
 exact(zaaa (sS_ifs (PW.pt (ptb_or (wct hu .lt (wv 0) sV_int) (zaap (wct hu .ge (wv 0) (wlen (T.b_len) (wv 1)))))) (zaaa (yraise (emz22 T) (eqz22 T))
 zaac) zaac)
 zaac)
theorem okz36 (T:Txt K mg) (ih:Ok P w base T k):FnOk P w K mg base (CXE (Gof T) P w base) (2*(k+1)) T.fz36 T.dz36 ["corners","by_side"] (spG (Gof T) (run true fns sub0 whileL (k+1)) (frOf fns) 20):=by
 refine fn_okX T.tz36 scz36 rfl rfl rfl fun cdv A outer s H E hr=>?_
 have hu:=Nat.lt_of_le_of_lt (Nat.add_le_add_left (by decide:9≤64) _) hr.units
 have hp:=IP.passes_leave (X:=cxOf (CXE (Gof T) P w base) P w K mg base nmz36 "check_piece" (zaab sz36) T.fz36 cdv A outer s H E) rfl
 exact(zaaa (sS_ifs (PW.pt (ptb_or (wct hu .lt (wlen (T.b_len) (wv 0)) (xglb T.g_LEAST_CORNERS)) (zaap (wct hu .gt (wlen (T.b_len) (wv 0)) (xglb T.g_MOST_CORNERS))))) (zaaa (yraise (emz1 T) (eqz1 T))
 zaac) zaac)
 (zaaa (sS_ifs (wct hu .ne (wlen (T.b_len) (wv 1)) (wlen (T.b_len) (wv 0))) (zaaa (yraise (emz1 T) (eqz1 T))
 zaac) zaac)
 (zaaa (sS_ifs (wtr (wany (T.b_any) (sV_of (zabh (f:=fun σ st=>one (ev (cfX fns sub0 k) zaex .v σ st)) rfl (zaa7 (sc:=(zaab sz36).names) (N:=nmz36) (N':=zaf9) rfl rfl rfl rfl (by decide +kernel)) (by decide) (wpl (wv 1)) (fun _ _ _ _ _=>(wg1 ndz36_c0)) (fun _ _ _ _ _=>zaby (wcv hu .gt (wlen (T.b_len) (wv 2)) (xglb T.g_MOST_MARKS))) (fun _=>rfl) (fun _ _=>rfl)) fun _ _ _ _ h=>zacd h))) (zaaa (yraise (emz1 T) (eqz1 T))
 zaac) zaac)
 (zaaa (sS_ifs (sT_not (wtr (wall (T.b_all) (sV_of (zabh (f:=fun σ st=>one (ev (cfX fns sub0 k) zagd .v σ st)) rfl (zaa7 (sc:=(zaab sz36).names) (N:=nmz36) (N':=zaf5) rfl rfl rfl rfl (by decide +kernel)) (by decide) (wpl (sV_bin .add (wlst (wac (wv 0) sA_nil)) (wv 1))) (fun _ _ _ _ _=>(wg1 ndz36_c1)) (fun _ _ _ _ _=>zaby (xcall (ihz42 ih) hr T.mz42 T.kz42 T.bdz42 .nil rfl (wrc (wv 3) sR_nil))) (fun _=>rfl) (fun _ _=>rfl)) fun _ _ _ _ h=>zacd h)))) (zaaa (yraise (emz1 T) (eqz1 T))
 zaac) zaac)
 zaac))))
theorem okz42 (T:Txt K mg) (ih:Ok P w base T k):FnOk P w K mg base (CXE (Gof T) P w base) (2*(k+1)) T.fz42 T.dz42 ["spots"] (spG (Gof T) (run true fns sub0 whileL (k+1)) (frOf fns) 21):=by
 refine fn_okX T.tz42 scz42 rfl rfl rfl fun cdv A outer s H E hr=>?_
 have hu:=Nat.lt_of_le_of_lt (Nat.add_le_add_left (by decide:9≤64) _) hr.units
 have hp:=IP.passes_leave (X:=cxOf (CXE (Gof T) P w base) P w K mg base nmz42 "spots_fit" (zaab sz42) T.fz42 cdv A outer s H E) rfl
 exact(zaaa (sS_ret (wall (T.b_all) (sV_of (zabh (f:=fun σ st=>one (ev (cfX fns sub0 k) zaf8 .v σ st)) rfl (zaa7 (sc:=(zaab sz42).names) (N:=nmz42) (N':=zafm) rfl rfl rfl rfl (by decide +kernel)) (by decide) (wpl (wv 0)) (fun _ _ _ _ _=>(wg1 ndz42_c0)) (fun _ _ _ _ _=>zaby (sV_and (xcall (ihz35 ih) hr T.mz35 T.kz35 T.bdz35 .nil rfl (wrc (zafr (wv 1) sV_int) (wrc (xglb T.g_FARTHEST) sR_nil))) (wone (xcall (ihz35 ih) hr T.mz35 T.kz35 T.bdz35 .nil rfl (wrc (sV_cutL (wv 1) sV_int) (wrc (xglb T.g_LONGEST_MOVE) sR_nil)))))) (fun _=>rfl) (fun _ _=>rfl)) fun _ _ _ _ h=>zacd h)))
 zaac)
theorem okz35 (T:Txt K mg) (ih:Ok P w base T k):FnOk P w K mg base (CXE (Gof T) P w base) (2*(k+1)) T.fz35 T.dz35 ["numbers","bound"] (spG (Gof T) (run true fns sub0 whileL (k+1)) (frOf fns) 22):=by
 refine fn_okX T.tz35 scz35 rfl rfl rfl fun cdv A outer s H E hr=>?_
 have hu:=Nat.lt_of_le_of_lt (Nat.add_le_add_left (by decide:9≤64) _) hr.units
 have hp:=IP.passes_leave (X:=cxOf (CXE (Gof T) P w base) P w K mg base nmz35 "all_within" (zaab sz35) T.fz35 cdv A outer s H E) rfl
 exact(zaaa (sS_ret (wall (T.b_all) (sV_of (zabh (f:=fun σ st=>one (ev (cfX fns sub0 k) zaey .v σ st)) rfl (zaa7 (sc:=(zaab sz35).names) (N:=nmz35) (N':=zae5) rfl rfl rfl rfl (by decide +kernel)) (by decide) (wpl (wv 0)) (fun _ _ _ _ _=>(wg1 ndz35_c0)) (fun _ _ _ _ _=>zaby (wcv hu .le (wabs (T.b_abs) (wv 2)) (wv 1))) (fun _=>rfl) (fun _ _=>rfl)) fun _ _ _ _ h=>zacd h)))
 zaac)
theorem okz37 (T:Txt K mg) (ih:Ok P w base T k):FnOk P w K mg base (CXE (Gof T) P w base) (2*(k+1)) T.fz37 T.dz37 ["first","second","ease","pairs"] (spG (Gof T) (run true fns sub0 whileL (k+1)) (frOf fns) 23):=by
 refine fn_okX T.tz37 scz37 rfl rfl rfl fun cdv A outer s H E hr=>?_
 have hu:=Nat.lt_of_le_of_lt (Nat.add_le_add_left (by decide:9≤64) _) hr.units
 have hp:=IP.passes_leave (X:=cxOf (CXE (Gof T) P w base) P w K mg base nmz37 "check_seam" (zaab sz37) T.fz37 cdv A outer s H E) rfl
 exact(zaaa (sS_ifs (wct hu .eq (wv 0) (wv 1)) (zaaa (yraise (emz2 T) (eqz2 T))
 zaac) zaac)
 (zaaa (sS_ifs (PW.pt (ptb_or (wct hu .lt (wv 2) sV_int) (zaap (wct hu .gt (wv 2) (xglb T.g_MOST_EASE))))) (zaaa (yraise (emz2 T) (eqz2 T))
 zaac) zaac)
 (zaaa (sS_ifs (wct hu .gt (wlen (T.b_len) (wv 3)) (xglb T.g_MOST_PAIRS)) (zaaa (yraise (emz2 T) (eqz2 T))
 zaac) zaac)
 zaac)))
theorem okz34 (T:Txt K mg) (ih:Ok P w base T k):FnOk P w K mg base (CXE (Gof T) P w base) (2*(k+1)) T.fz34 T.dz34 ["_law_found"] (spG (Gof T) (run true fns sub0 whileL (k+1)) (frOf fns) 24):=by
 refine fn_okX T.tz34 scz34 rfl rfl rfl fun cdv A outer s H E hr=>?_
 have hu:=Nat.lt_of_le_of_lt (Nat.add_le_add_left (by decide:9≤64) _) hr.units
 have hp:=IP.passes_leave (X:=cxOf (CXE (Gof T) P w base) P w K mg base nmz34 "_law_whole" (zaab sz34) T.fz34 cdv A outer s H E) rfl
 exact(zaaa (sS_ret (sV_and (wisi .int (T.b_isinstance) (T.b_int) (wv 0)) (wone (sV_not (wisi .bool (T.b_isinstance) (T.b_bool) (wv 0))))))
 zaac)
theorem okz23 (T:Txt K mg) (ih:Ok P w base T k):FnOk P w K mg base (CXE (Gof T) P w base) (2*(k+1)) T.fz23 T.dz23 ["_law_script","_law_k"] (spG (Gof T) (run true fns sub0 whileL (k+1)) (frOf fns) 25):=by
 refine fn_okX T.tz23 scz23 rfl rfl rfl fun cdv A outer s H E hr=>?_
 have hu:=Nat.lt_of_le_of_lt (Nat.add_le_add_left (by decide:9≤64) _) hr.units
 have hp:=IP.passes_leave (X:=cxOf (CXE (Gof T) P w base) P w K mg base nmz23 "_law_at" (zaab sz23) T.fz23 cdv A outer s H E) rfl
 exact(zaaa (sS_ifs (wct hu .lt (wv 1) (wlen (T.b_len) (wv 0))) (zaaa (sS_ret (wsub (wv 0) (wv 1)))
 zaac) zaac)
 (zaaa (sS_ret sV_int)
 zaac))
theorem okz33 (T:Txt K mg) (ih:Ok P w base T k):FnOk P w K mg base (CXE (Gof T) P w base) (2*(k+1)) T.fz33 T.dz33 ["_law_script","_law_many"] (spG (Gof T) (run true fns sub0 whileL (k+1)) (frOf fns) 26):=by
 refine fn_okX T.tz33 scz33 rfl rfl rfl fun cdv A outer s H E hr=>?_
 have hu:=Nat.lt_of_le_of_lt (Nat.add_le_add_left (by decide:9≤64) _) hr.units
 have hp:=IP.passes_leave (X:=cxOf (CXE (Gof T) P w base) P w K mg base nmz33 "_law_stir" (zaab sz33) T.fz33 cdv A outer s H E) rfl
 exact(zaaa (qasg ndz33 sV_int)
 (zaaa (qmk ndz33 (wlstO sA_nil))
 (zaaa (yfor hp (wr1 (T.b_range) (wv 1)) (wg1 ndz33) (zaaa (qasg ndz33 (sV_bin .mod (sV_bin .add (sV_bin .add (sV_bin .mul (wv 2) sV_int) (xcall (ihz23 ih) hr T.mz23 T.kz23 T.bdz23 .nil rfl (wrc (wv 0) (wrc (wv 4) sR_nil)))) sV_int) sV_int))
 (zaaa (qapp (i:=3) (wv 2))
 zaac)))
 (sSs_frz (zaaa (sS_ret (wv 3))
 zaac)))))
theorem okz28 (T:Txt K mg) (ih:Ok P w base T k):FnOk P w K mg base (CXE (Gof T) P w base) (2*(k+1)) T.fz28 T.dz28 ["_law_found","_law_due_here"] (spG (Gof T) (run true fns sub0 whileL (k+1)) (frOf fns) 27):=by
 refine fn_okX T.tz28 scz28 rfl rfl rfl fun cdv A outer s H E hr=>?_
 have hu:=Nat.lt_of_le_of_lt (Nat.add_le_add_left (by decide:9≤64) _) hr.units
 have hp:=IP.passes_leave (X:=cxOf (CXE (Gof T) P w base) P w K mg base nmz28 "_law_numbers" (zaab sz28) T.fz28 cdv A outer s H E) rfl
 exact(zaaa (sS_ifs (PW.pt (ptb_or (sT_not (wtr (wisi .tuple (T.b_isinstance) (T.b_tuple) (wv 0)))) (zaap (wct hu .ne (wlen (T.b_len) (wv 0)) (wlen (T.b_len) (wv 1)))))) (zaaa (sS_ret sV_bl)
 zaac) zaac)
 (zaaa (yfor hp (wr1 (T.b_range) (wlen (T.b_len) (wv 1))) (wg1 ndz28) (zaaa (sS_ifs (PW.pt (ptb_or (sT_not (wtr (xcall (ihz34 ih) hr T.mz34 T.kz34 T.bdz34 .nil rfl (wrc (wsub (wv 0) (wv 2)) sR_nil)))) (zaap (wct hu .ne (wsub (wv 0) (wv 2)) (wsub (wv 1) (wv 2)))))) (zaaa (sS_ret sV_bl)
 zaac) zaac)
 zaac))
 (zaaa (sS_ret sV_bl)
 zaac)))
theorem okz30 (T:Txt K mg) (ih:Ok P w base T k):FnOk P w K mg base (CXE (Gof T) P w base) (2*(k+1)) T.fz30 T.dz30 ["_law_found","_law_due_here"] (spG (Gof T) (run true fns sub0 whileL (k+1)) (frOf fns) 28):=by
 refine fn_okX T.tz30 scz30 rfl rfl rfl fun cdv A outer s H E hr=>?_
 have hu:=Nat.lt_of_le_of_lt (Nat.add_le_add_left (by decide:9≤64) _) hr.units
 have hp:=IP.passes_leave (X:=cxOf (CXE (Gof T) P w base) P w K mg base nmz30 "_law_rows" (zaab sz30) T.fz30 cdv A outer s H E) rfl
 exact(zaaa (sS_ifs (PW.pt (ptb_or (sT_not (wtr (wisi .list (T.b_isinstance) (T.b_list) (wv 0)))) (zaap (wct hu .ne (wlen (T.b_len) (wv 0)) (wlen (T.b_len) (wv 1)))))) (zaaa (sS_ret sV_bl)
 zaac) zaac)
 (zaaa (yfor hp (wr1 (T.b_range) (wlen (T.b_len) (wv 1))) (wg1 ndz30) (zaaa (sS_ifs (sT_not (wtr (xcall (ihz28 ih) hr T.mz28 T.kz28 T.bdz28 .nil rfl (wrc (wsub (wv 0) (wv 2)) (wrc (wsub (wv 1) (wv 2)) sR_nil))))) (zaaa (sS_ret sV_bl)
 zaac) zaac)
 zaac))
 (zaaa (sS_ret sV_bl)
 zaac)))
theorem okz31 (T:Txt K mg) (ih:Ok P w base T k):FnOk P w K mg base (CXE (Gof T) P w base) (2*(k+1)) T.fz31 T.dz31 ["_law_seed","_law_many","_law_far","_law_step"] (spG (Gof T) (run true fns sub0 whileL (k+1)) (frOf fns) 29):=by
 refine fn_okX T.tz31 scz31 rfl rfl rfl fun cdv A outer s H E hr=>?_
 have hu:=Nat.lt_of_le_of_lt (Nat.add_le_add_left (by decide:9≤64) _) hr.units
 have hp:=IP.passes_leave (X:=cxOf (CXE (Gof T) P w base) P w K mg base nmz31 "_law_spots" (zaab sz31) T.fz31 cdv A outer s H E) rfl
 exact(zaaa (qmk ndz31 (wlstO sA_nil))
 (zaaa (qasg ndz31 (sV_bin .mod (wv 0) sV_int))
 (zaaa (yfor hp (wr1 (T.b_range) (wv 1)) (wg1 ndz31) (zaaa (qmk ndz31 (wlstO sA_nil))
 (zaaa (yfor hp (wpj (wlst (wac (wv 2) (wac (wv 2) (wac (wv 3) (wac (wv 3) (wac (wv 3) (wac (wv 3) sA_nil)))))))) (wg1 ndz31) (zaaa (qasg ndz31 (sV_bin .mod (sV_bin .add (sV_bin .mul (wv 5) sV_int) sV_int) sV_int))
 (zaaa (qapp (i:=7) (sV_bin .sub (sV_bin .mod (wv 5) (sV_bin .add (sV_bin .mul sV_int (wv 8)) sV_int)) (wv 8)))
 zaac)))
 (zaaa (qapp (i:=4) (wtuple (T.b_tuple) (wv 7)))
 zaac))))
 (sSs_frz (zaaa (sS_ret (wv 4))
 zaac)))))
theorem okz27 (T:Txt K mg) (ih:Ok P w base T k):FnOk P w K mg base (CXE (Gof T) P w base) (2*(k+1)) T.fz27 T.dz27 ["_law_state"] (spG (Gof T) (run true fns sub0 whileL (k+1)) (frOf fns) 30):=by
 refine fn_okX T.tz27 scz27 rfl rfl rfl fun cdv A outer s H E hr=>?_
 have hu:=Nat.lt_of_le_of_lt (Nat.add_le_add_left (by decide:9≤64) _) hr.units
 have hp:=IP.passes_leave (X:=cxOf (CXE (Gof T) P w base) P w K mg base nmz27 "_law_next" (zaab sz27) T.fz27 cdv A outer s H E) rfl
 exact(zaaa (sS_ret (sV_bin .mod (sV_bin .add (sV_bin .mul (wv 0) sV_int) sV_int) sV_int))
 zaac)
theorem okz29 (T:Txt K mg) (ih:Ok P w base T k):FnOk P w K mg base (CXE (Gof T) P w base) (2*(k+1)) T.fz29 T.dz29 ["_law_spot","_law_size"] (spG (Gof T) (run true fns sub0 whileL (k+1)) (frOf fns) 31):=by
 refine fn_okX T.tz29 scz29 rfl rfl rfl fun cdv A outer s H E hr=>?_
 have hu:=Nat.lt_of_le_of_lt (Nat.add_le_add_left (by decide:9≤64) _) hr.units
 have hp:=IP.passes_leave (X:=cxOf (CXE (Gof T) P w base) P w K mg base nmz29 "_law_place" (zaab sz29) T.fz29 cdv A outer s H E) rfl
 exact(zaaa (qasg ndz29 (wsub (wv 0) sV_int))
 (zaaa (qasg ndz29 (wsub (wv 0) sV_int))
 (zaaa (yfor hp (wr1 (T.b_range) (wv 1)) (wg1 ndz29) (zaaa (qasg ndz29 (sV_bin .add (wv 2) (wsub (wv 0) sV_int)))
 (zaaa (qasg ndz29 (sV_bin .add (wv 3) (wsub (wv 0) sV_int)))
 zaac)))
 (zaaa (yfor hp (wr1 (T.b_range) (sV_bin .sub sV_int (wv 1))) (wg1 ndz29) (zaaa (qasg ndz29 (sV_bin .add (wv 2) (wsub (wv 0) sV_int)))
 (zaaa (qasg ndz29 (sV_bin .add (wv 3) (wsub (wv 0) sV_int)))
 zaac)))
 (zaaa (sS_ret (wtup (wac (wv 2) (wac (wv 3) sA_nil))))
 zaac)))))
theorem okz25 (T:Txt K mg) (ih:Ok P w base T k):FnOk P w K mg base (CXE (Gof T) P w base) (2*(k+1)) T.fz25 T.dz25 ["_law_book","_law_d","_law_spots_here","_law_pieces"] (spG (Gof T) (run true fns sub0 whileL (k+1)) (frOf fns) 32):=by
 refine fn_okX T.tz25 scz25 rfl rfl rfl fun cdv A outer s H E hr=>?_
 have hu:=Nat.lt_of_le_of_lt (Nat.add_le_add_left (by decide:9≤64) _) hr.units
 have hp:=IP.passes_leave (X:=cxOf (CXE (Gof T) P w base) P w K mg base nmz25 "_law_done" (zaab sz25) T.fz25 cdv A outer s H E) rfl
 exact(zaaa (qasg ndz25 sV_int)
 (zaaa (qasg ndz25 (sV_bin .mod (wv 1) sV_int))
 (zaaa (ytryN ndz25 (emz21 T) (xmz21 T) (fun E pn hp=>(zaaa (sS_ifs (wct hu .eq (wv 5) sV_int) (zaaa (qexp (xmeth (hnm:=nnz5 T) (zaah T) (mtz5 T) (ihz5 ih) hr T.bdz5_2 (show Vals [.non] [.none] from(.cons rfl .nil)) rfl (wv 0) (wrc (wlist (T.b_list) (wv 2)) sR_nil)))
 zaac) zaac)
 (zaaa (sS_ifs (wct hu .eq (wv 5) sV_int) (zaaa (qexp (xmeth (hnm:=nnz6 T) (zaah T) (mtz6 T) (ihz6 ih) hr T.bdz6_5 (show Vals [.non] [.none] from(.cons rfl .nil)) rfl (wv 0) (wrc (wtup (wac sV_int (wac sV_int sA_nil))) (wrc (wtup (wac (sV_bin .sub (wv 3) sV_int) (wac sV_int sA_nil))) (wrc sV_bl (wrc (sV_bin .mod (sV_bin .fdiv (wv 1) sV_int) sV_int) sR_nil))))))
 zaac) zaac)
 (zaaa (sS_ifs (wct hu .eq (wv 5) sV_int) (zaaa (qexp (xmeth (hnm:=nnz17 T) (zaah T) (mtz17 T) (ihz17 ih) hr T.bdz17 .nil rfl (wv 0) (wrc (sV_bin .sub (wv 3) sV_int) (wrc (sV_bin .mod (sV_bin .fdiv (wv 1) sV_int) sV_int) (wrc (wtup (wac (sV_bin .sub (sV_bin .mod (sV_bin .fdiv (wv 1) sV_int) sV_int) sV_int) (wac sV_int sA_nil))) (wrc (wtup (wac (sV_neg sV_int) (wac (sV_bin .sub (sV_bin .mod (sV_bin .fdiv (wv 1) sV_int) sV_int) sV_int) sA_nil))) sR_nil))))))
 zaac) zaac)
 (zaaa (sS_ifs (wct hu .eq (wv 5) sV_int) (zaaa (qexp (xmeth (hnm:=nnz10 T) (zaah T) (mtz10 T) (ihz10 ih) hr T.bdz10 .nil rfl (wv 0) (wrc (sV_bin .mod (sV_bin .fdiv (wv 1) sV_int) sV_int) sR_nil)))
 zaac) zaac)
 (zaaa (sS_ifs (wct hu .eq (wv 5) sV_int) (zaaa (qexp (xmeth (hnm:=nnz19 T) (zaah T) (mtz19 T) (ihz19 ih) hr T.bdz19 .nil rfl (wv 0) (wrc (sV_bin .mod (sV_bin .fdiv (wv 1) sV_int) sV_int) sR_nil)))
 zaac) zaac)
 zaac)))))) (fun e=>(zaaa (qasg ndz25 (sV_bin .add (wint (T.b_int) (xisx (ek_all T) (koz3 T) (T.b_isinstance) (emz3 T) (wv 6))) (sV_bin .mul sV_int (wint (T.b_int) (xisx (ek_all T) (koz20 T) (T.b_isinstance) (emz20 T) (wv 6))))))
 zaac)))
 (zaaa (sS_ret (wv 4))
 zaac))))
theorem okz26 (T:Txt K mg) (ih:Ok P w base T k):FnOk P w K mg base (CXE (Gof T) P w base) (2*(k+1)) T.fz26 T.dz26 ["_law_kept","_law_d","_law_spots_here"] (spG (Gof T) (run true fns sub0 whileL (k+1)) (frOf fns) 33):=by
 refine fn_okX T.tz26 scz26 rfl rfl rfl fun cdv A outer s H E hr=>?_
 have hu:=Nat.lt_of_le_of_lt (Nat.add_le_add_left (by decide:9≤64) _) hr.units
 have hp:=IP.passes_leave (X:=cxOf (CXE (Gof T) P w base) P w K mg base nmz26 "_law_due" (zaab sz26) T.fz26 cdv A outer s H E) rfl
 exact(zaaa (qasg ndz26 (sV_bin .mod (wv 1) sV_int))
 (zaaa (sS_ifs (PW.pt (ptb_or (PW.pt (zae8 (wct hu .eq (wv 3) sV_int) (zabu (wct hu .eq (wlen (T.b_len) (wsub (wv 0) sV_int)) sV_int)))) (zaap (PW.pt (zae8 (wct hu .eq (wv 3) sV_int) (zabu (wct hu .eq (wlen (T.b_len) (wsub (wv 0) sV_int)) sV_int))))))) (zaaa (sS_ret sV_int)
 zaac) zaac)
 (zaaa (sS_ifs (wct hu .eq (wv 3) sV_int) (zaaa (yappL (wsub (wv 0) sV_int) (xcell (wlistO (T.b_list) (wv 2))))
 zaac) zaac)
 (zaaa (sS_ifs (wct hu .eq (wv 3) sV_int) (zaaa (yappL (wsub (wv 0) sV_int) (sV_bin .mod (sV_bin .fdiv (wv 1) sV_int) sV_int))
 zaac) zaac)
 (zaaa (sS_ifs (wct hu .eq (wv 3) sV_int) (zaaa (qasg ndz26 (wsub (wsub (wsub (wv 0) sV_int) (sV_neg sV_int)) (sV_bin .mod (sV_bin .fdiv (wv 1) sV_int) sV_int)))
 (zaaa (qasg ndz26 (wtup (wac (wsub (wv 4) sV_int) (wac (wsub (wv 4) sV_int) (wac (sV_bin .sub (sV_bin .mod (sV_bin .fdiv (wv 1) sV_int) sV_int) sV_int) (wac sV_int (wac (sV_neg sV_int) (wac (sV_bin .sub (sV_bin .mod (sV_bin .fdiv (wv 1) sV_int) sV_int) sV_int) sA_nil))))))))
 (zaaa (yputL (wv 5) (wsub (wsub (wv 0) sV_int) (sV_neg sV_int)) (sV_bin .mod (sV_bin .fdiv (wv 1) sV_int) sV_int))
 zaac))) zaac)
 (zaaa (sS_ifs (wct hu .gt (wv 3) sV_int) (zaaa (qasg ndz26 (sV_bin .add (wsub (wsub (wv 0) sV_int) sV_int) (sV_bin .mod (sV_bin .fdiv (wv 1) sV_int) sV_int)))
 (zaaa (sS_ifs (wct hu .eq (wv 3) sV_int) (zaaa (qasg ndz26 (sV_bin .sub (wsub (wsub (wv 0) sV_int) sV_int) (sV_bin .mod (sV_bin .fdiv (wv 1) sV_int) sV_int)))
 zaac) zaac)
 (zaaa (sS_ifs (PW.pt (ptb_or (wct hu .lt (wv 6) (sV_neg sV_int)) (zaap (wct hu .gt (wv 6) sV_int)))) (zaaa (sS_ret sV_int)
 zaac) zaac)
 (zaaa (yputL (wv 6) (wsub (wv 0) sV_int) sV_int)
 zaac)))) zaac)
 (zaaa (sS_ret sV_int)
 zaac)))))))
theorem okz24 (T:Txt K mg) (ih:Ok P w base T k):FnOk P w K mg base (CXE (Gof T) P w base) (2*(k+1)) T.fz24 T.dz24 ["_law_book","_law_kept"] (spG (Gof T) (run true fns sub0 whileL (k+1)) (frOf fns) 34):=by
 refine fn_okX T.tz24 scz24 rfl rfl rfl fun cdv A outer s H E hr=>?_
 have hu:=Nat.lt_of_le_of_lt (Nat.add_le_add_left (by decide:9≤64) _) hr.units
 have hp:=IP.passes_leave (X:=cxOf (CXE (Gof T) P w base) P w K mg base nmz24 "_law_counts" (zaab sz24) T.fz24 cdv A outer s H E) rfl
 exact(zaaa (qasg ndz24 (wlst (wac (xmeth0 (hnm:=nnz13 T) (zaah T) (mtz13 T) (ihz13 ih) hr T.bdz13 .nil rfl (wv 0)) (wac (xmeth0 (hnm:=nnz16 T) (zaah T) (mtz16 T) (ihz16 ih) hr T.bdz16 .nil rfl (wv 0)) (wac (xfld (zaah T) (zaaw T) (wv 0)) sA_nil)))))
 (zaaa (qasg ndz24 (wlst (wac (wlen (T.b_len) (wsub (wv 1) sV_int)) (wac (wlen (T.b_len) (wsub (wv 1) sV_int)) (wac (wsub (wsub (wv 1) sV_int) sV_int) sA_nil)))))
 (zaaa (sS_ret (xcall (ihz28 ih) hr T.mz28 T.kz28 T.bdz28 .nil rfl (wrc (wtuple (T.b_tuple) (wv 2)) (wrc (wv 3) sR_nil))))
 zaac)))
theorem okz32 (T:Txt K mg) (ih:Ok P w base T k):FnOk P w K mg base (CXE (Gof T) P w base) (2*(k+1)) T.fz32 T.dz32 ["_law_book","_law_kept"] (spG (Gof T) (run true fns sub0 whileL (k+1)) (frOf fns) 35):=by
 refine fn_okX T.tz32 scz32 rfl rfl rfl fun cdv A outer s H E hr=>?_
 have hu:=Nat.lt_of_le_of_lt (Nat.add_le_add_left (by decide:9≤64) _) hr.units
 have hp:=IP.passes_leave (X:=cxOf (CXE (Gof T) P w base) P w K mg base nmz32 "_law_stands" (zaab sz32) T.fz32 cdv A outer s H E) rfl
 exact(zaaa (yfor hp (wr1 (T.b_range) (wlen (T.b_len) (wsub (wv 1) sV_int))) (wg1 ndz32) (zaaa (sS_ifs (sT_not (wtr (xcall (ihz30 ih) hr T.mz30 T.kz30 T.bdz30 .nil rfl (wrc (xmeth (hnm:=nnz18 T) (zaah T) (mtz18 T) (ihz18 ih) hr T.bdz18 .nil rfl (wv 0) (wrc (wv 2) sR_nil)) (wrc (wsub (wsub (wv 1) sV_int) (wv 2)) sR_nil))))) (zaaa (sS_ret sV_bl)
 zaac) zaac)
 (zaaa (sS_ifs (sT_not (wtr (xcall (ihz30 ih) hr T.mz30 T.kz30 T.bdz30 .nil rfl (wrc (xmeth (hnm:=nnz9 T) (zaah T) (mtz9 T) (ihz9 ih) hr T.bdz9_2 (show Vals [.non] [.none] from(.cons rfl .nil)) rfl (wv 0) (wrc (wv 2) sR_nil)) (wrc (sV_of (comp_ownC (f:=fun σ st=>one (ev (cfX fns sub0 k) zaf4 .v σ st)) rfl (zaa7 (sc:=(zaab sz32).names) (N:=nmz32) (N':=zae0) rfl rfl rfl rfl (by decide +kernel)) (by decide) (wsub (wsub (wv 1) sV_int) (wv 2)) (fun _ _ _ _ _=>(wg1 ndz32_c0)) (fun _ _ _ _ _=>zaby (xcall (ihz29 ih) hr T.mz29 T.kz29 T.bdz29 .nil rfl (wrc (wv 4) (wrc (wsub (wsub (wv 1) sV_int) sV_int) sR_nil)))) (fun _=>rfl) (fun _ _=>rfl)) fun _ _ _ _ h=>compC_is h) sR_nil))))) (zaaa (sS_ret sV_bl)
 zaac) zaac)
 zaac)))
 (zaaa (yfor hp (wr1 (T.b_range) (wlen (T.b_len) (wsub (wv 1) sV_int))) (wg1 ndz32) (zaaa (qasg ndz32 (xmeth (hnm:=nnz15 T) (zaah T) (mtz15 T) (ihz15 ih) hr T.bdz15 .nil rfl (wv 0) (wrc (wv 2) sR_nil)))
 (zaaa (sS_ifs (PW.pt (ptb_or (sT_not (wtr (wisi .tuple (T.b_isinstance) (T.b_tuple) (wv 3)))) (ptb_or (wct hu .ne (wlen (T.b_len) (wv 3)) sV_int) (zaap (sT_not (wtr (xcall (ihz34 ih) hr T.mz34 T.kz34 T.bdz34 .nil rfl (wrc (wsub (wv 3) sV_int) sR_nil)))))))) (zaaa (sS_ret sV_bl)
 zaac) zaac)
 (zaaa (sS_ifs (wct hu .ne (wsub (wv 3) sV_int) (wsub (wsub (wv 1) sV_int) (wv 2))) (zaaa (sS_ret sV_bl)
 zaac) zaac)
 zaac))))
 (zaaa (sS_ret sV_bl)
 zaac)))
theorem ok_law (T:Txt K mg) (ih:Ok P w base T k):FnOk P w K mg base (CXE (Gof T) P w base) (2*(k+1)) T.f_law T.d_law ["_law_script"] (spG (Gof T) (run true fns sub0 whileL (k+1)) (frOf fns) 36):=by
 refine fn_okX T.t_law sc_law rfl rfl rfl fun cdv A outer s H E hr=>?_
 have hu:=Nat.lt_of_le_of_lt (Nat.add_le_add_left (by decide:9≤64) _) hr.units
 have hp:=IP.passes_leave (X:=cxOf (CXE (Gof T) P w base) P w K mg base nm_law "law" (zaab s_law) T.f_law cdv A outer s H E) rfl
 exact(zaaa (qasg nd_law (xcall (ihz33 ih) hr T.mz33 T.kz33 T.bdz33 .nil rfl (wrc (wv 0) (wrc (sV_bin .add (wlen (T.b_len) (wv 0)) sV_int) sR_nil))))
 (zaaa (qasg nd_law (wlst (wac (xnew0 (zacp T) (ihz4 ih) hr (mc_Book T) T.bdz4 .nil rfl) (wac (xnew0 (zacp T) (ihz4 ih) hr (mc_Book T) T.bdz4 .nil rfl) sA_nil))))
 (by rw[← hSs_eq];exact(hSs_cons (hasg nd_law (hlst (hac (hlst (hac (hcell (hlstO hA_nil)) (hac (hcell (hlstO hA_nil)) (hac (hcell (hlstO (hac (hE_mk sV_int) hA_nil))) hA_nil)))) (hac (hlst (hac (hcell (hlstO hA_nil)) (hac (hcell (hlstO hA_nil)) (hac (hcell (hlstO (hac (hE_mk sV_int) hA_nil))) hA_nil)))) hA_nil))))
 (hSs_mk (zaaa (yfor hp (wr1 (T.b_range) (wlen (T.b_len) (wv 0))) (wg1 nd_law) (zaaa (qasg nd_law (sV_bin .mod (wsub (wv 1) (wv 4)) sV_int))
 (zaaa (qasg nd_law (xcall (ihz27 ih) hr T.mz27 T.kz27 T.bdz27 .nil rfl (wrc (wsub (wv 1) (wv 4)) sR_nil)))
 (zaaa (sS_ifs (PW.pt (ptb_or (sT_cmpD hu .eq (.inl rfl) (wsub (wsub (wv 3) (wv 5)) sV_int) (wlst sA_nil)) (zaap (PW.pt (zae8 (wct hu .eq (sV_bin .mod (wv 6) sV_int) sV_int) (zabu (wct hu .lt (wlen (T.b_len) (wsub (wsub (wv 3) (wv 5)) sV_int)) sV_int))))))) (zaaa (qasg nd_law (sV_bin .mul (sV_bin .fdiv (wv 6) sV_int) sV_int))
 zaac) zaac)
 (zaaa (qasg nd_law (xcall (ihz31 ih) hr T.mz31 T.kz31 T.bdz31 .nil rfl (wrc (wv 6) (wrc (sV_bin .add sV_int (sV_bin .mod (sV_bin .fdiv (wv 6) sV_int) sV_int)) (wrc sV_int (wrc sV_int sR_nil))))))
 (zaaa (qasg nd_law (wlen (T.b_len) (wsub (wsub (wv 3) (wv 5)) sV_int)))
 (zaaa (qasg nd_law (xcall (ihz26 ih) hr T.mz26 T.kz26 T.bdz26 .nil rfl (wrc (wsub (wv 3) (wv 5)) (wrc (wv 6) (wrc (wv 7) sR_nil)))))
 (zaaa (sS_ifs (wct hu .ne (xcall (ihz25 ih) hr T.mz25 T.kz25 T.bdz25 .nil rfl (wrc (wsub (wv 2) (wv 5)) (wrc (wv 6) (wrc (wv 7) (wrc (wv 8) sR_nil))))) (wv 9)) (zaaa (sS_ret sV_bl)
 zaac) zaac)
 (zaaa (sS_ifs (PW.pt (ptb_or (sT_not (wtr (xcall (ihz24 ih) hr T.mz24 T.kz24 T.bdz24 .nil rfl (wrc (wsub (wv 2) sV_int) (wrc (wsub (wv 3) sV_int) sR_nil))))) (zaap (sT_not (wtr (xcall (ihz24 ih) hr T.mz24 T.kz24 T.bdz24 .nil rfl (wrc (wsub (wv 2) sV_int) (wrc (wsub (wv 3) sV_int) sR_nil)))))))) (zaaa (sS_ret sV_bl)
 zaac) zaac)
 zaac)))))))))
 (zaaa (sS_ret (sV_and (xcall (ihz32 ih) hr T.mz32 T.kz32 T.bdz32 .nil rfl (wrc (wsub (wv 2) sV_int) (wrc (wsub (wv 3) sV_int) sR_nil))) (wone (xcall (ihz32 ih) hr T.mz32 T.kz32 T.bdz32 .nil rfl (wrc (wsub (wv 2) sV_int) (wrc (wsub (wv 3) sV_int) sR_nil))))))
 zaac)))))))
theorem all (T:Txt K mg):∀k,Ok P w base T k
 | 0=>⟨zaad (sub:=sub0),zaad (sub:=sub0),zaad (sub:=sub0),zaad (sub:=sub0),zaad (sub:=sub0),zaad (sub:=sub0),zaad (sub:=sub0),zaad (sub:=sub0),zaad (sub:=sub0),zaad (sub:=sub0),zaad (sub:=sub0),zaad (sub:=sub0),zaad (sub:=sub0),zaad (sub:=sub0),zaad (sub:=sub0),zaad (sub:=sub0),zaad (sub:=sub0),zaad (sub:=sub0),zaad (sub:=sub0),zaad (sub:=sub0),zaad (sub:=sub0),zaad (sub:=sub0),zaad (sub:=sub0),zaad (sub:=sub0),zaad (sub:=sub0),zaad (sub:=sub0),zaad (sub:=sub0),zaad (sub:=sub0),zaad (sub:=sub0),zaad (sub:=sub0),zaad (sub:=sub0),zaad (sub:=sub0),zaad (sub:=sub0),zaad (sub:=sub0),zaad (sub:=sub0),zaad (sub:=sub0),zaad (sub:=sub0)⟩
 | k+1=>⟨okz41 T (all T k),okz38 T (all T k),okz40 T (all T k),okz4 T (all T k),okz5 T (all T k),okz6 T (all T k),okz8 T (all T k),okz17 T (all T k),okz10 T (all T k),okz19 T (all T k),okz7 T (all T k),okz13 T (all T k),okz16 T (all T k),okz18 T (all T k),okz11 T (all T k),okz15 T (all T k),okz9 T (all T k),okz12 T (all T k),okz14 T (all T k),okz39 T (all T k),okz36 T (all T k),okz42 T (all T k),okz35 T (all T k),okz37 T (all T k),okz34 T (all T k),okz23 T (all T k),okz33 T (all T k),okz28 T (all T k),okz30 T (all T k),okz31 T (all T k),okz27 T (all T k),okz29 T (all T k),okz25 T (all T k),okz26 T (all T k),okz24 T (all T k),okz32 T (all T k),ok_law T (all T k)⟩
end
end Pg
end IP
end
section
set_option Elab.async false
set_option linter.all false
set_option maxRecDepth 100000
set_option maxHeartbeats 0
namespace IP
open PySem PySem.Spec L2
namespace Pg
def Math:Prop:=∀ns:List Int,ns.length≤63→∃s,run true fns sub0 whileL 16 36 [.val (.lst (ns.map .int))] []=.ok (.val (.bl true)) s
abbrev spTop (G:Gx):Sp:=fun vs H Q _=>spG G (run true fns sub0 whileL 16) (frOf fns) 36 vs H Q fun _ _ _=>False
theorem all_mk {l:PySem.W.OpenLaw} {w:World} {K:PySem.W.Frag} {h:Heap} {mg:Str→Option Value} {fa:Addr} {ez21:Addr} {ez3:Addr} {ez1:Addr} {ez0:Addr} {ez2:Addr} {ez22:Addr} {ez20:Addr} {C_Book:Addr} {fz41:Addr} {odz41 anz41:Option Addr} {slz41:Array (Option Value)} {ocz41 kVz41 dcz41 pmz41 cdz41 ctz41:Value} {fz38:Addr} {odz38 anz38:Option Addr} {slz38:Array (Option Value)} {ocz38 kVz38 dcz38 pmz38 cdz38 ctz38:Value} {fz40:Addr} {odz40 anz40:Option Addr} {slz40:Array (Option Value)} {ocz40 kVz40 dcz40 pmz40 cdz40 ctz40:Value} {fz4:Addr} {odz4 anz4:Option Addr} {slz4:Array (Option Value)} {ocz4 kVz4 dcz4 pmz4 cdz4 ctz4:Value} {fz5:Addr} {odz5 anz5:Option Addr} {slz5:Array (Option Value)} {ocz5 kVz5 dcz5 pmz5 cdz5 ctz5:Value} {dtz5:Addr} {odtz5:Option Addr} {octz5:Value} {sltz5:Array (Option Value)} {ntz5:Nat} {fz6:Addr} {odz6 anz6:Option Addr} {slz6:Array (Option Value)} {ocz6 kVz6 dcz6 pmz6 cdz6 ctz6:Value} {dtz6:Addr} {odtz6:Option Addr} {octz6:Value} {sltz6:Array (Option Value)} {ntz6:Nat} {tkz6_1:Tok} {fz8:Addr} {odz8 anz8:Option Addr} {slz8:Array (Option Value)} {ocz8 kVz8 dcz8 pmz8 cdz8 ctz8:Value} {fz17:Addr} {odz17 anz17:Option Addr} {slz17:Array (Option Value)} {ocz17 kVz17 dcz17 pmz17 cdz17 ctz17:Value} {fz10:Addr} {odz10 anz10:Option Addr} {slz10:Array (Option Value)} {ocz10 kVz10 dcz10 pmz10 cdz10 ctz10:Value} {fz19:Addr} {odz19 anz19:Option Addr} {slz19:Array (Option Value)} {ocz19 kVz19 dcz19 pmz19 cdz19 ctz19:Value} {fz7:Addr} {odz7 anz7:Option Addr} {slz7:Array (Option Value)} {ocz7 kVz7 dcz7 pmz7 cdz7 ctz7:Value} {fz13:Addr} {odz13 anz13:Option Addr} {slz13:Array (Option Value)} {ocz13 kVz13 dcz13 pmz13 cdz13 ctz13:Value} {fz16:Addr} {odz16 anz16:Option Addr} {slz16:Array (Option Value)} {ocz16 kVz16 dcz16 pmz16 cdz16 ctz16:Value} {fz18:Addr} {odz18 anz18:Option Addr} {slz18:Array (Option Value)} {ocz18 kVz18 dcz18 pmz18 cdz18 ctz18:Value} {fz11:Addr} {odz11 anz11:Option Addr} {slz11:Array (Option Value)} {ocz11 kVz11 dcz11 pmz11 cdz11 ctz11:Value} {fz15:Addr} {odz15 anz15:Option Addr} {slz15:Array (Option Value)} {ocz15 kVz15 dcz15 pmz15 cdz15 ctz15:Value} {fz9:Addr} {odz9 anz9:Option Addr} {slz9:Array (Option Value)} {ocz9 kVz9 dcz9 pmz9 cdz9 ctz9:Value} {dtz9:Addr} {odtz9:Option Addr} {octz9:Value} {sltz9:Array (Option Value)} {ntz9:Nat} {fz12:Addr} {odz12 anz12:Option Addr} {slz12:Array (Option Value)} {ocz12 kVz12 dcz12 pmz12 cdz12 ctz12:Value} {dtz12:Addr} {odtz12:Option Addr} {octz12:Value} {sltz12:Array (Option Value)} {ntz12:Nat} {fz14:Addr} {odz14 anz14:Option Addr} {slz14:Array (Option Value)} {ocz14 kVz14 dcz14 pmz14 cdz14 ctz14:Value} {fz39:Addr} {odz39 anz39:Option Addr} {slz39:Array (Option Value)} {ocz39 kVz39 dcz39 pmz39 cdz39 ctz39:Value} {fz36:Addr} {odz36 anz36:Option Addr} {slz36:Array (Option Value)} {ocz36 kVz36 dcz36 pmz36 cdz36 ctz36:Value} {fz42:Addr} {odz42 anz42:Option Addr} {slz42:Array (Option Value)} {ocz42 kVz42 dcz42 pmz42 cdz42 ctz42:Value} {fz35:Addr} {odz35 anz35:Option Addr} {slz35:Array (Option Value)} {ocz35 kVz35 dcz35 pmz35 cdz35 ctz35:Value} {fz37:Addr} {odz37 anz37:Option Addr} {slz37:Array (Option Value)} {ocz37 kVz37 dcz37 pmz37 cdz37 ctz37:Value} {fz34:Addr} {odz34 anz34:Option Addr} {slz34:Array (Option Value)} {ocz34 kVz34 dcz34 pmz34 cdz34 ctz34:Value} {fz23:Addr} {odz23 anz23:Option Addr} {slz23:Array (Option Value)} {ocz23 kVz23 dcz23 pmz23 cdz23 ctz23:Value} {fz33:Addr} {odz33 anz33:Option Addr} {slz33:Array (Option Value)} {ocz33 kVz33 dcz33 pmz33 cdz33 ctz33:Value} {fz28:Addr} {odz28 anz28:Option Addr} {slz28:Array (Option Value)} {ocz28 kVz28 dcz28 pmz28 cdz28 ctz28:Value} {fz30:Addr} {odz30 anz30:Option Addr} {slz30:Array (Option Value)} {ocz30 kVz30 dcz30 pmz30 cdz30 ctz30:Value} {fz31:Addr} {odz31 anz31:Option Addr} {slz31:Array (Option Value)} {ocz31 kVz31 dcz31 pmz31 cdz31 ctz31:Value} {fz27:Addr} {odz27 anz27:Option Addr} {slz27:Array (Option Value)} {ocz27 kVz27 dcz27 pmz27 cdz27 ctz27:Value} {fz29:Addr} {odz29 anz29:Option Addr} {slz29:Array (Option Value)} {ocz29 kVz29 dcz29 pmz29 cdz29 ctz29:Value} {fz25:Addr} {odz25 anz25:Option Addr} {slz25:Array (Option Value)} {ocz25 kVz25 dcz25 pmz25 cdz25 ctz25:Value} {fz26:Addr} {odz26 anz26:Option Addr} {slz26:Array (Option Value)} {ocz26 kVz26 dcz26 pmz26 cdz26 ctz26:Value} {fz24:Addr} {odz24 anz24:Option Addr} {slz24:Array (Option Value)} {ocz24 kVz24 dcz24 pmz24 cdz24 ctz24:Value} {fz32:Addr} {odz32 anz32:Option Addr} {slz32:Array (Option Value)} {ocz32 kVz32 dcz32 pmz32 cdz32 ctz32:Value} {f_law:Addr} {od_law an_law:Option Addr} {sl_law:Array (Option Value)} {oc_law kV_law dc_law pm_law cd_law ct_law:Value} {t_LEAST:Tok} {t_MOST:Tok} {t_MOST_PIECES:Tok} {t_LEAST_CORNERS:Tok} {t_MOST_CORNERS:Tok} {t_MOST_MARKS:Tok} {t_FARTHEST:Tok} {t_LONGEST_MOVE:Tok} {t_MOST_SEAMS:Tok} {t_MOST_EASE:Tok} {t_MOST_PAIRS:Tok} (X:K.In h) (Gn:h.Ns mainGlobals mg) (hfa:mg "law"=some (.ref fa))
  (aez21:PySem.W.nsIn K mainGlobals "GradeError"=some (some (.ref ez21)))
  (aez3:PySem.W.nsIn K mainGlobals "BadSize"=some (some (.ref ez3)))
  (qez3:PySem.W.excIn K ez3 [.type "ValueError",.type "Exception",.type "BaseException",.type "object"] "ValueError.__new__"=true)
  (aez1:PySem.W.nsIn K mainGlobals "BadPiece"=some (some (.ref ez1)))
  (qez1:PySem.W.excIn K ez1 [.type "ValueError",.type "Exception",.type "BaseException",.type "object"] "ValueError.__new__"=true)
  (aez0:PySem.W.nsIn K mainGlobals "BadMove"=some (some (.ref ez0)))
  (qez0:PySem.W.excIn K ez0 [.type "ValueError",.type "Exception",.type "BaseException",.type "object"] "ValueError.__new__"=true)
  (aez2:PySem.W.nsIn K mainGlobals "BadSeam"=some (some (.ref ez2)))
  (qez2:PySem.W.excIn K ez2 [.type "ValueError",.type "Exception",.type "BaseException",.type "object"] "ValueError.__new__"=true)
  (aez22:PySem.W.nsIn K mainGlobals "NoSuch"=some (some (.ref ez22)))
  (qez22:PySem.W.excIn K ez22 [.type "ValueError",.type "Exception",.type "BaseException",.type "object"] "ValueError.__new__"=true)
  (aez20:PySem.W.nsIn K mainGlobals "Full"=some (some (.ref ez20)))
  (qez20:PySem.W.excIn K ez20 [.type "ValueError",.type "Exception",.type "BaseException",.type "object"] "ValueError.__new__"=true)
  (hsp:PySem.W.specialIn K (.builtin "object.__class__") "__get__"=some (some (.builtin "getset_descriptor.__get__")))
  (htk:PySem.W.takesIn K (.builtin "object.__class__")=some true)
  (gaz21:PySem.W.findIn K (.ref ez21) "__getattribute__"=some (some (.builtin "BaseException.__getattribute__")))
  (gnz21:PySem.W.findIn K (.ref ez21) "__getattr__"=some none)
  (dcz21:PySem.W.hasDictIn K ez21=true)
  (caz21:PySem.W.findIn K (.ref ez21) "__class__"=some (some (.builtin "object.__class__")))
  (moz21:PySem.W.mroIn K ez21 (.type "object")=some true)
  (mbz21:PySem.W.mroIn K ez21 (.type "BaseException")=some true)
  (gaz3:PySem.W.findIn K (.ref ez3) "__getattribute__"=some (some (.builtin "BaseException.__getattribute__")))
  (gnz3:PySem.W.findIn K (.ref ez3) "__getattr__"=some none)
  (dcz3:PySem.W.hasDictIn K ez3=true)
  (caz3:PySem.W.findIn K (.ref ez3) "__class__"=some (some (.builtin "object.__class__")))
  (moz3:PySem.W.mroIn K ez3 (.type "object")=some true)
  (mbz3:PySem.W.mroIn K ez3 (.type "BaseException")=some true)
  (gaz1:PySem.W.findIn K (.ref ez1) "__getattribute__"=some (some (.builtin "BaseException.__getattribute__")))
  (gnz1:PySem.W.findIn K (.ref ez1) "__getattr__"=some none)
  (dcz1:PySem.W.hasDictIn K ez1=true)
  (caz1:PySem.W.findIn K (.ref ez1) "__class__"=some (some (.builtin "object.__class__")))
  (moz1:PySem.W.mroIn K ez1 (.type "object")=some true)
  (mbz1:PySem.W.mroIn K ez1 (.type "BaseException")=some true)
  (gaz0:PySem.W.findIn K (.ref ez0) "__getattribute__"=some (some (.builtin "BaseException.__getattribute__")))
  (gnz0:PySem.W.findIn K (.ref ez0) "__getattr__"=some none)
  (dcz0:PySem.W.hasDictIn K ez0=true)
  (caz0:PySem.W.findIn K (.ref ez0) "__class__"=some (some (.builtin "object.__class__")))
  (moz0:PySem.W.mroIn K ez0 (.type "object")=some true)
  (mbz0:PySem.W.mroIn K ez0 (.type "BaseException")=some true)
  (gaz2:PySem.W.findIn K (.ref ez2) "__getattribute__"=some (some (.builtin "BaseException.__getattribute__")))
  (gnz2:PySem.W.findIn K (.ref ez2) "__getattr__"=some none)
  (dcz2:PySem.W.hasDictIn K ez2=true)
  (caz2:PySem.W.findIn K (.ref ez2) "__class__"=some (some (.builtin "object.__class__")))
  (moz2:PySem.W.mroIn K ez2 (.type "object")=some true)
  (mbz2:PySem.W.mroIn K ez2 (.type "BaseException")=some true)
  (gaz22:PySem.W.findIn K (.ref ez22) "__getattribute__"=some (some (.builtin "BaseException.__getattribute__")))
  (gnz22:PySem.W.findIn K (.ref ez22) "__getattr__"=some none)
  (dcz22:PySem.W.hasDictIn K ez22=true)
  (caz22:PySem.W.findIn K (.ref ez22) "__class__"=some (some (.builtin "object.__class__")))
  (moz22:PySem.W.mroIn K ez22 (.type "object")=some true)
  (mbz22:PySem.W.mroIn K ez22 (.type "BaseException")=some true)
  (gaz20:PySem.W.findIn K (.ref ez20) "__getattribute__"=some (some (.builtin "BaseException.__getattribute__")))
  (gnz20:PySem.W.findIn K (.ref ez20) "__getattr__"=some none)
  (dcz20:PySem.W.hasDictIn K ez20=true)
  (caz20:PySem.W.findIn K (.ref ez20) "__class__"=some (some (.builtin "object.__class__")))
  (moz20:PySem.W.mroIn K ez20 (.type "object")=some true)
  (mbz20:PySem.W.mroIn K ez20 (.type "BaseException")=some true)
  (kiz21z3:PySem.W.kitOne K (.ref ez21) (.ref ez3)=some false)
  (kiz3z3:PySem.W.kitOne K (.ref ez3) (.ref ez3)=some true)
  (kiz1z3:PySem.W.kitOne K (.ref ez1) (.ref ez3)=some false)
  (kiz0z3:PySem.W.kitOne K (.ref ez0) (.ref ez3)=some false)
  (kiz2z3:PySem.W.kitOne K (.ref ez2) (.ref ez3)=some false)
  (kiz22z3:PySem.W.kitOne K (.ref ez22) (.ref ez3)=some false)
  (kiz20z3:PySem.W.kitOne K (.ref ez20) (.ref ez3)=some false)
  (kiz21z20:PySem.W.kitOne K (.ref ez21) (.ref ez20)=some false)
  (kiz3z20:PySem.W.kitOne K (.ref ez3) (.ref ez20)=some false)
  (kiz1z20:PySem.W.kitOne K (.ref ez1) (.ref ez20)=some false)
  (kiz0z20:PySem.W.kitOne K (.ref ez0) (.ref ez20)=some false)
  (kiz2z20:PySem.W.kitOne K (.ref ez2) (.ref ez20)=some false)
  (kiz22z20:PySem.W.kitOne K (.ref ez22) (.ref ez20)=some false)
  (kiz20z20:PySem.W.kitOne K (.ref ez20) (.ref ez20)=some true)
  (xoz21z21:PySem.W.exmOne K (.ref ez21) (.ref ez21)=some true)
  (xoz3z21:PySem.W.exmOne K (.ref ez3) (.ref ez21)=some true)
  (xoz1z21:PySem.W.exmOne K (.ref ez1) (.ref ez21)=some true)
  (xoz0z21:PySem.W.exmOne K (.ref ez0) (.ref ez21)=some true)
  (xoz2z21:PySem.W.exmOne K (.ref ez2) (.ref ez21)=some true)
  (xoz22z21:PySem.W.exmOne K (.ref ez22) (.ref ez21)=some true)
  (xoz20z21:PySem.W.exmOne K (.ref ez20) (.ref ez21)=some true)
  (aC_Book:PySem.W.nsIn K mainGlobals "Book"=some (some (.ref C_Book)))
  (pg_Book:PySem.W.plainGet K C_Book Str.empty=true)
  (hd_Book:PySem.W.hasDictIn K C_Book=true)
  (po_Book:PySem.W.plainOver K C_Book=true)
  (sa_Book:PySem.W.findIn K (.ref C_Book) "__setattr__"=some (some (.builtin "object.__setattr__")))
  (zacp:PySem.W.makesIn K C_Book=true)
  (kc_Book:PySem.W.keepIn K (.ref C_Book)=true)
  (no_Book_size:PySem.W.findIn K (.ref C_Book) "size"=some none)
  (no_Book_pieces:PySem.W.findIn K (.ref C_Book) "pieces"=some none)
  (no_Book_side_marks:PySem.W.findIn K (.ref C_Book) "side_marks"=some none)
  (no_Book_seams:PySem.W.findIn K (.ref C_Book) "seams"=some none)
  (az41:PySem.W.nsIn K mainGlobals "place"=some (some (.ref fz41)))
  (lz41:K.lookup fz41=some ⟨ocz41,odz41,.func (PySem.W.fnOf "place" "place" (zaaf sz41) (zaae sz41) (zaab sz41) .none kVz41 dcz41 pmz41 anz41 cdz41 ctz41),slz41⟩)
  (cz41:PySem.W.codeIn K cdz41 "place"=true)
  (kz41:PySem.W.keepIn K (.ref fz41)=true)
  (az38:PySem.W.nsIn K mainGlobals "check_size"=some (some (.ref fz38)))
  (lz38:K.lookup fz38=some ⟨ocz38,odz38,.func (PySem.W.fnOf "check_size" "check_size" (zaaf sz38) (zaae sz38) (zaab sz38) .none kVz38 dcz38 pmz38 anz38 cdz38 ctz38),slz38⟩)
  (cz38:PySem.W.codeIn K cdz38 "check_size"=true)
  (kz38:PySem.W.keepIn K (.ref fz38)=true)
  (az40:PySem.W.nsIn K mainGlobals "moved"=some (some (.ref fz40)))
  (lz40:K.lookup fz40=some ⟨ocz40,odz40,.func (PySem.W.fnOf "moved" "moved" (zaaf sz40) (zaae sz40) (zaab sz40) .none kVz40 dcz40 pmz40 anz40 cdz40 ctz40),slz40⟩)
  (cz40:PySem.W.codeIn K cdz40 "moved"=true)
  (kz40:PySem.W.keepIn K (.ref fz40)=true)
  (az4:PySem.W.findIn K (.ref C_Book) "__init__"=some (some (.ref fz4)))
  (iz4:PySem.W.isFn K (.ref fz4)=true)
  (lz4:K.lookup fz4=some ⟨ocz4,odz4,.func (PySem.W.fnOf "__init__" "Book.__init__" (zaaf sz4) (zaae sz4) (zaab sz4) .none kVz4 dcz4 pmz4 anz4 cdz4 ctz4),slz4⟩)
  (cz4:PySem.W.codeIn K cdz4 "Book.__init__"=true)
  (kz4:PySem.W.keepIn K (.ref fz4)=true)
  (az5:PySem.W.findIn K (.ref C_Book) "add_piece"=some (some (.ref fz5)))
  (iz5:PySem.W.isFn K (.ref fz5)=true)
  (lz5:K.lookup fz5=some ⟨ocz5,odz5,.func (PySem.W.fnOf "add_piece" "Book.add_piece" (zaaf sz5) (zaae sz5) (zaab sz5) (.ref dtz5) kVz5 dcz5 pmz5 anz5 cdz5 ctz5),slz5⟩)
  (cz5:PySem.W.codeIn K cdz5 "Book.add_piece"=true)
  (kz5:PySem.W.keepIn K (.ref fz5)=true)
  (dlz5:K.lookup dtz5=some ⟨octz5,odtz5,.seq #[.none] ntz5,sltz5⟩)
  (az6:PySem.W.findIn K (.ref C_Book) "add_seam"=some (some (.ref fz6)))
  (iz6:PySem.W.isFn K (.ref fz6)=true)
  (lz6:K.lookup fz6=some ⟨ocz6,odz6,.func (PySem.W.fnOf "add_seam" "Book.add_seam" (zaaf sz6) (zaae sz6) (zaab sz6) (.ref dtz6) kVz6 dcz6 pmz6 anz6 cdz6 ctz6),slz6⟩)
  (cz6:PySem.W.codeIn K cdz6 "Book.add_seam"=true)
  (kz6:PySem.W.keepIn K (.ref fz6)=true)
  (dlz6:K.lookup dtz6=some ⟨octz6,odtz6,.seq #[.bool false,.int 0 tkz6_1,.none] ntz6,sltz6⟩)
  (az8:PySem.W.findIn K (.ref C_Book) "check_pairs"=some (some (.ref fz8)))
  (iz8:PySem.W.isFn K (.ref fz8)=true)
  (lz8:K.lookup fz8=some ⟨ocz8,odz8,.func (PySem.W.fnOf "check_pairs" "Book.check_pairs" (zaaf sz8) (zaae sz8) (zaab sz8) .none kVz8 dcz8 pmz8 anz8 cdz8 ctz8),slz8⟩)
  (cz8:PySem.W.codeIn K cdz8 "Book.check_pairs"=true)
  (kz8:PySem.W.keepIn K (.ref fz8)=true)
  (az17:PySem.W.findIn K (.ref C_Book) "set_moves"=some (some (.ref fz17)))
  (iz17:PySem.W.isFn K (.ref fz17)=true)
  (lz17:K.lookup fz17=some ⟨ocz17,odz17,.func (PySem.W.fnOf "set_moves" "Book.set_moves" (zaaf sz17) (zaae sz17) (zaab sz17) .none kVz17 dcz17 pmz17 anz17 cdz17 ctz17),slz17⟩)
  (cz17:PySem.W.codeIn K cdz17 "Book.set_moves"=true)
  (kz17:PySem.W.keepIn K (.ref fz17)=true)
  (az10:PySem.W.findIn K (.ref C_Book) "let_out"=some (some (.ref fz10)))
  (iz10:PySem.W.isFn K (.ref fz10)=true)
  (lz10:K.lookup fz10=some ⟨ocz10,odz10,.func (PySem.W.fnOf "let_out" "Book.let_out" (zaaf sz10) (zaae sz10) (zaab sz10) .none kVz10 dcz10 pmz10 anz10 cdz10 ctz10),slz10⟩)
  (cz10:PySem.W.codeIn K cdz10 "Book.let_out"=true)
  (kz10:PySem.W.keepIn K (.ref fz10)=true)
  (az19:PySem.W.findIn K (.ref C_Book) "take_in"=some (some (.ref fz19)))
  (iz19:PySem.W.isFn K (.ref fz19)=true)
  (lz19:K.lookup fz19=some ⟨ocz19,odz19,.func (PySem.W.fnOf "take_in" "Book.take_in" (zaaf sz19) (zaae sz19) (zaab sz19) .none kVz19 dcz19 pmz19 anz19 cdz19 ctz19),slz19⟩)
  (cz19:PySem.W.codeIn K cdz19 "Book.take_in"=true)
  (kz19:PySem.W.keepIn K (.ref fz19)=true)
  (az7:PySem.W.findIn K (.ref C_Book) "change_size"=some (some (.ref fz7)))
  (iz7:PySem.W.isFn K (.ref fz7)=true)
  (lz7:K.lookup fz7=some ⟨ocz7,odz7,.func (PySem.W.fnOf "change_size" "Book.change_size" (zaaf sz7) (zaae sz7) (zaab sz7) .none kVz7 dcz7 pmz7 anz7 cdz7 ctz7),slz7⟩)
  (cz7:PySem.W.codeIn K cdz7 "Book.change_size"=true)
  (kz7:PySem.W.keepIn K (.ref fz7)=true)
  (az13:PySem.W.findIn K (.ref C_Book) "piece_count"=some (some (.ref fz13)))
  (iz13:PySem.W.isFn K (.ref fz13)=true)
  (lz13:K.lookup fz13=some ⟨ocz13,odz13,.func (PySem.W.fnOf "piece_count" "Book.piece_count" (zaaf sz13) (zaae sz13) (zaab sz13) .none kVz13 dcz13 pmz13 anz13 cdz13 ctz13),slz13⟩)
  (cz13:PySem.W.codeIn K cdz13 "Book.piece_count"=true)
  (kz13:PySem.W.keepIn K (.ref fz13)=true)
  (az16:PySem.W.findIn K (.ref C_Book) "seam_count"=some (some (.ref fz16)))
  (iz16:PySem.W.isFn K (.ref fz16)=true)
  (lz16:K.lookup fz16=some ⟨ocz16,odz16,.func (PySem.W.fnOf "seam_count" "Book.seam_count" (zaaf sz16) (zaae sz16) (zaab sz16) .none kVz16 dcz16 pmz16 anz16 cdz16 ctz16),slz16⟩)
  (cz16:PySem.W.codeIn K cdz16 "Book.seam_count"=true)
  (kz16:PySem.W.keepIn K (.ref fz16)=true)
  (az18:PySem.W.findIn K (.ref C_Book) "spots"=some (some (.ref fz18)))
  (iz18:PySem.W.isFn K (.ref fz18)=true)
  (lz18:K.lookup fz18=some ⟨ocz18,odz18,.func (PySem.W.fnOf "spots" "Book.spots" (zaaf sz18) (zaae sz18) (zaab sz18) .none kVz18 dcz18 pmz18 anz18 cdz18 ctz18),slz18⟩)
  (cz18:PySem.W.codeIn K cdz18 "Book.spots"=true)
  (kz18:PySem.W.keepIn K (.ref fz18)=true)
  (az11:PySem.W.findIn K (.ref C_Book) "mark_spots"=some (some (.ref fz11)))
  (iz11:PySem.W.isFn K (.ref fz11)=true)
  (lz11:K.lookup fz11=some ⟨ocz11,odz11,.func (PySem.W.fnOf "mark_spots" "Book.mark_spots" (zaaf sz11) (zaae sz11) (zaab sz11) .none kVz11 dcz11 pmz11 anz11 cdz11 ctz11),slz11⟩)
  (cz11:PySem.W.codeIn K cdz11 "Book.mark_spots"=true)
  (kz11:PySem.W.keepIn K (.ref fz11)=true)
  (az15:PySem.W.findIn K (.ref C_Book) "seam"=some (some (.ref fz15)))
  (iz15:PySem.W.isFn K (.ref fz15)=true)
  (lz15:K.lookup fz15=some ⟨ocz15,odz15,.func (PySem.W.fnOf "seam" "Book.seam" (zaaf sz15) (zaae sz15) (zaab sz15) .none kVz15 dcz15 pmz15 anz15 cdz15 ctz15),slz15⟩)
  (cz15:PySem.W.codeIn K cdz15 "Book.seam"=true)
  (kz15:PySem.W.keepIn K (.ref fz15)=true)
  (az9:PySem.W.findIn K (.ref C_Book) "corners"=some (some (.ref fz9)))
  (iz9:PySem.W.isFn K (.ref fz9)=true)
  (lz9:K.lookup fz9=some ⟨ocz9,odz9,.func (PySem.W.fnOf "corners" "Book.corners" (zaaf sz9) (zaae sz9) (zaab sz9) (.ref dtz9) kVz9 dcz9 pmz9 anz9 cdz9 ctz9),slz9⟩)
  (cz9:PySem.W.codeIn K cdz9 "Book.corners"=true)
  (kz9:PySem.W.keepIn K (.ref fz9)=true)
  (dlz9:K.lookup dtz9=some ⟨octz9,odtz9,.seq #[.none] ntz9,sltz9⟩)
  (az12:PySem.W.findIn K (.ref C_Book) "marks"=some (some (.ref fz12)))
  (iz12:PySem.W.isFn K (.ref fz12)=true)
  (lz12:K.lookup fz12=some ⟨ocz12,odz12,.func (PySem.W.fnOf "marks" "Book.marks" (zaaf sz12) (zaae sz12) (zaab sz12) (.ref dtz12) kVz12 dcz12 pmz12 anz12 cdz12 ctz12),slz12⟩)
  (cz12:PySem.W.codeIn K cdz12 "Book.marks"=true)
  (kz12:PySem.W.keepIn K (.ref fz12)=true)
  (dlz12:K.lookup dtz12=some ⟨octz12,odtz12,.seq #[.none] ntz12,sltz12⟩)
  (az14:PySem.W.findIn K (.ref C_Book) "places"=some (some (.ref fz14)))
  (iz14:PySem.W.isFn K (.ref fz14)=true)
  (lz14:K.lookup fz14=some ⟨ocz14,odz14,.func (PySem.W.fnOf "places" "Book.places" (zaaf sz14) (zaae sz14) (zaab sz14) .none kVz14 dcz14 pmz14 anz14 cdz14 ctz14),slz14⟩)
  (cz14:PySem.W.codeIn K cdz14 "Book.places"=true)
  (kz14:PySem.W.keepIn K (.ref fz14)=true)
  (az39:PySem.W.nsIn K mainGlobals "check_there"=some (some (.ref fz39)))
  (lz39:K.lookup fz39=some ⟨ocz39,odz39,.func (PySem.W.fnOf "check_there" "check_there" (zaaf sz39) (zaae sz39) (zaab sz39) .none kVz39 dcz39 pmz39 anz39 cdz39 ctz39),slz39⟩)
  (cz39:PySem.W.codeIn K cdz39 "check_there"=true)
  (kz39:PySem.W.keepIn K (.ref fz39)=true)
  (az36:PySem.W.nsIn K mainGlobals "check_piece"=some (some (.ref fz36)))
  (lz36:K.lookup fz36=some ⟨ocz36,odz36,.func (PySem.W.fnOf "check_piece" "check_piece" (zaaf sz36) (zaae sz36) (zaab sz36) .none kVz36 dcz36 pmz36 anz36 cdz36 ctz36),slz36⟩)
  (cz36:PySem.W.codeIn K cdz36 "check_piece"=true)
  (kz36:PySem.W.keepIn K (.ref fz36)=true)
  (az42:PySem.W.nsIn K mainGlobals "spots_fit"=some (some (.ref fz42)))
  (lz42:K.lookup fz42=some ⟨ocz42,odz42,.func (PySem.W.fnOf "spots_fit" "spots_fit" (zaaf sz42) (zaae sz42) (zaab sz42) .none kVz42 dcz42 pmz42 anz42 cdz42 ctz42),slz42⟩)
  (cz42:PySem.W.codeIn K cdz42 "spots_fit"=true)
  (kz42:PySem.W.keepIn K (.ref fz42)=true)
  (az35:PySem.W.nsIn K mainGlobals "all_within"=some (some (.ref fz35)))
  (lz35:K.lookup fz35=some ⟨ocz35,odz35,.func (PySem.W.fnOf "all_within" "all_within" (zaaf sz35) (zaae sz35) (zaab sz35) .none kVz35 dcz35 pmz35 anz35 cdz35 ctz35),slz35⟩)
  (cz35:PySem.W.codeIn K cdz35 "all_within"=true)
  (kz35:PySem.W.keepIn K (.ref fz35)=true)
  (az37:PySem.W.nsIn K mainGlobals "check_seam"=some (some (.ref fz37)))
  (lz37:K.lookup fz37=some ⟨ocz37,odz37,.func (PySem.W.fnOf "check_seam" "check_seam" (zaaf sz37) (zaae sz37) (zaab sz37) .none kVz37 dcz37 pmz37 anz37 cdz37 ctz37),slz37⟩)
  (cz37:PySem.W.codeIn K cdz37 "check_seam"=true)
  (kz37:PySem.W.keepIn K (.ref fz37)=true)
  (az34:PySem.W.nsIn K mainGlobals "_law_whole"=some (some (.ref fz34)))
  (lz34:K.lookup fz34=some ⟨ocz34,odz34,.func (PySem.W.fnOf "_law_whole" "_law_whole" (zaaf sz34) (zaae sz34) (zaab sz34) .none kVz34 dcz34 pmz34 anz34 cdz34 ctz34),slz34⟩)
  (cz34:PySem.W.codeIn K cdz34 "_law_whole"=true)
  (kz34:PySem.W.keepIn K (.ref fz34)=true)
  (az23:PySem.W.nsIn K mainGlobals "_law_at"=some (some (.ref fz23)))
  (lz23:K.lookup fz23=some ⟨ocz23,odz23,.func (PySem.W.fnOf "_law_at" "_law_at" (zaaf sz23) (zaae sz23) (zaab sz23) .none kVz23 dcz23 pmz23 anz23 cdz23 ctz23),slz23⟩)
  (cz23:PySem.W.codeIn K cdz23 "_law_at"=true)
  (kz23:PySem.W.keepIn K (.ref fz23)=true)
  (az33:PySem.W.nsIn K mainGlobals "_law_stir"=some (some (.ref fz33)))
  (lz33:K.lookup fz33=some ⟨ocz33,odz33,.func (PySem.W.fnOf "_law_stir" "_law_stir" (zaaf sz33) (zaae sz33) (zaab sz33) .none kVz33 dcz33 pmz33 anz33 cdz33 ctz33),slz33⟩)
  (cz33:PySem.W.codeIn K cdz33 "_law_stir"=true)
  (kz33:PySem.W.keepIn K (.ref fz33)=true)
  (az28:PySem.W.nsIn K mainGlobals "_law_numbers"=some (some (.ref fz28)))
  (lz28:K.lookup fz28=some ⟨ocz28,odz28,.func (PySem.W.fnOf "_law_numbers" "_law_numbers" (zaaf sz28) (zaae sz28) (zaab sz28) .none kVz28 dcz28 pmz28 anz28 cdz28 ctz28),slz28⟩)
  (cz28:PySem.W.codeIn K cdz28 "_law_numbers"=true)
  (kz28:PySem.W.keepIn K (.ref fz28)=true)
  (az30:PySem.W.nsIn K mainGlobals "_law_rows"=some (some (.ref fz30)))
  (lz30:K.lookup fz30=some ⟨ocz30,odz30,.func (PySem.W.fnOf "_law_rows" "_law_rows" (zaaf sz30) (zaae sz30) (zaab sz30) .none kVz30 dcz30 pmz30 anz30 cdz30 ctz30),slz30⟩)
  (cz30:PySem.W.codeIn K cdz30 "_law_rows"=true)
  (kz30:PySem.W.keepIn K (.ref fz30)=true)
  (az31:PySem.W.nsIn K mainGlobals "_law_spots"=some (some (.ref fz31)))
  (lz31:K.lookup fz31=some ⟨ocz31,odz31,.func (PySem.W.fnOf "_law_spots" "_law_spots" (zaaf sz31) (zaae sz31) (zaab sz31) .none kVz31 dcz31 pmz31 anz31 cdz31 ctz31),slz31⟩)
  (cz31:PySem.W.codeIn K cdz31 "_law_spots"=true)
  (kz31:PySem.W.keepIn K (.ref fz31)=true)
  (az27:PySem.W.nsIn K mainGlobals "_law_next"=some (some (.ref fz27)))
  (lz27:K.lookup fz27=some ⟨ocz27,odz27,.func (PySem.W.fnOf "_law_next" "_law_next" (zaaf sz27) (zaae sz27) (zaab sz27) .none kVz27 dcz27 pmz27 anz27 cdz27 ctz27),slz27⟩)
  (cz27:PySem.W.codeIn K cdz27 "_law_next"=true)
  (kz27:PySem.W.keepIn K (.ref fz27)=true)
  (az29:PySem.W.nsIn K mainGlobals "_law_place"=some (some (.ref fz29)))
  (lz29:K.lookup fz29=some ⟨ocz29,odz29,.func (PySem.W.fnOf "_law_place" "_law_place" (zaaf sz29) (zaae sz29) (zaab sz29) .none kVz29 dcz29 pmz29 anz29 cdz29 ctz29),slz29⟩)
  (cz29:PySem.W.codeIn K cdz29 "_law_place"=true)
  (kz29:PySem.W.keepIn K (.ref fz29)=true)
  (az25:PySem.W.nsIn K mainGlobals "_law_done"=some (some (.ref fz25)))
  (lz25:K.lookup fz25=some ⟨ocz25,odz25,.func (PySem.W.fnOf "_law_done" "_law_done" (zaaf sz25) (zaae sz25) (zaab sz25) .none kVz25 dcz25 pmz25 anz25 cdz25 ctz25),slz25⟩)
  (cz25:PySem.W.codeIn K cdz25 "_law_done"=true)
  (kz25:PySem.W.keepIn K (.ref fz25)=true)
  (az26:PySem.W.nsIn K mainGlobals "_law_due"=some (some (.ref fz26)))
  (lz26:K.lookup fz26=some ⟨ocz26,odz26,.func (PySem.W.fnOf "_law_due" "_law_due" (zaaf sz26) (zaae sz26) (zaab sz26) .none kVz26 dcz26 pmz26 anz26 cdz26 ctz26),slz26⟩)
  (cz26:PySem.W.codeIn K cdz26 "_law_due"=true)
  (kz26:PySem.W.keepIn K (.ref fz26)=true)
  (az24:PySem.W.nsIn K mainGlobals "_law_counts"=some (some (.ref fz24)))
  (lz24:K.lookup fz24=some ⟨ocz24,odz24,.func (PySem.W.fnOf "_law_counts" "_law_counts" (zaaf sz24) (zaae sz24) (zaab sz24) .none kVz24 dcz24 pmz24 anz24 cdz24 ctz24),slz24⟩)
  (cz24:PySem.W.codeIn K cdz24 "_law_counts"=true)
  (kz24:PySem.W.keepIn K (.ref fz24)=true)
  (az32:PySem.W.nsIn K mainGlobals "_law_stands"=some (some (.ref fz32)))
  (lz32:K.lookup fz32=some ⟨ocz32,odz32,.func (PySem.W.fnOf "_law_stands" "_law_stands" (zaaf sz32) (zaae sz32) (zaab sz32) .none kVz32 dcz32 pmz32 anz32 cdz32 ctz32),slz32⟩)
  (cz32:PySem.W.codeIn K cdz32 "_law_stands"=true)
  (kz32:PySem.W.keepIn K (.ref fz32)=true)
  (a_law:PySem.W.nsIn K mainGlobals "law"=some (some (.ref f_law)))
  (l_law:K.lookup f_law=some ⟨oc_law,od_law,.func (PySem.W.fnOf "law" "law" (zaaf s_law) (zaae s_law) (zaab s_law) .none kV_law dc_law pm_law an_law cd_law ct_law),sl_law⟩)
  (c_law:PySem.W.codeIn K cd_law "law"=true)
  (k_law:PySem.W.keepIn K (.ref f_law)=true)
  (gl_LEAST:PySem.W.nsIn K mainGlobals "LEAST"=some (some (.int (-6) t_LEAST)))
  (gl_MOST:PySem.W.nsIn K mainGlobals "MOST"=some (some (.int (6) t_MOST)))
  (gl_MOST_PIECES:PySem.W.nsIn K mainGlobals "MOST_PIECES"=some (some (.int (10) t_MOST_PIECES)))
  (gl_LEAST_CORNERS:PySem.W.nsIn K mainGlobals "LEAST_CORNERS"=some (some (.int (3) t_LEAST_CORNERS)))
  (gl_MOST_CORNERS:PySem.W.nsIn K mainGlobals "MOST_CORNERS"=some (some (.int (24) t_MOST_CORNERS)))
  (gl_MOST_MARKS:PySem.W.nsIn K mainGlobals "MOST_MARKS"=some (some (.int (4) t_MOST_MARKS)))
  (gl_FARTHEST:PySem.W.nsIn K mainGlobals "FARTHEST"=some (some (.int (20000) t_FARTHEST)))
  (gl_LONGEST_MOVE:PySem.W.nsIn K mainGlobals "LONGEST_MOVE"=some (some (.int (200) t_LONGEST_MOVE)))
  (gl_MOST_SEAMS:PySem.W.nsIn K mainGlobals "MOST_SEAMS"=some (some (.int (30) t_MOST_SEAMS)))
  (gl_MOST_EASE:PySem.W.nsIn K mainGlobals "MOST_EASE"=some (some (.int (400) t_MOST_EASE)))
  (gl_MOST_PAIRS:PySem.W.nsIn K mainGlobals "MOST_PAIRS"=some (some (.int (4) t_MOST_PAIRS)))
  (z_abs:PySem.W.nsIn K mainGlobals "abs"=some none)
  (z_all:PySem.W.nsIn K mainGlobals "all"=some none)
  (z_any:PySem.W.nsIn K mainGlobals "any"=some none)
  (z_bool:PySem.W.nsIn K mainGlobals "bool"=some none)
  (z_int:PySem.W.nsIn K mainGlobals "int"=some none)
  (z_isinstance:PySem.W.nsIn K mainGlobals "isinstance"=some none)
  (z_len:PySem.W.nsIn K mainGlobals "len"=some none)
  (z_list:PySem.W.nsIn K mainGlobals "list"=some none)
  (z_range:PySem.W.nsIn K mainGlobals "range"=some none)
  (z_tuple:PySem.W.nsIn K mainGlobals "tuple"=some none):
  ∃(fd:FuncData) (G:Gx),(∀(s:Shared) (v:Value),BindsTo s fd ⟨[v],[]⟩ [("_law_script",v)])∧∀base:Heap,K.In base→base.Ns mainGlobals mg→FnOk l.prog w K mg base CX0 32 fa fd ["_law_script"] (spTop G):=by
 have e:=hfa.symm.trans (PySem.W.mg_of X Gn a_law)
 cases e
 have Fz41:=zaaj (st:=sz41) lz41 cz41 kz41
 have Bz41:Binds K (PySem.W.fnOf "place" "place" (zaaf sz41) (zaae sz41) (zaab sz41) .none kVz41 dcz41 pmz41 anz41 cdz41 ctz41) ["spot","size"] []:=.all fun us hl=>match us,hl with | [_,_],_=>rfl
 have Fz38:=zaaj (st:=sz38) lz38 cz38 kz38
 have Bz38:Binds K (PySem.W.fnOf "check_size" "check_size" (zaaf sz38) (zaae sz38) (zaab sz38) .none kVz38 dcz38 pmz38 anz38 cdz38 ctz38) ["size"] []:=.all fun us hl=>match us,hl with | [_],_=>rfl
 have Fz40:=zaaj (st:=sz40) lz40 cz40 kz40
 have Bz40:Binds K (PySem.W.fnOf "moved" "moved" (zaaf sz40) (zaae sz40) (zaab sz40) .none kVz40 dcz40 pmz40 anz40 cdz40 ctz40) ["spot","across","up","steps"] []:=.all fun us hl=>match us,hl with | [_,_,_,_],_=>rfl
 have Fz4:=zaaj (st:=sz4) lz4 cz4 kz4
 have Bz4:Binds K (PySem.W.fnOf "__init__" "Book.__init__" (zaaf sz4) (zaae sz4) (zaab sz4) .none kVz4 dcz4 pmz4 anz4 cdz4 ctz4) ["self"] []:=.all fun us hl=>match us,hl with | [_],_=>rfl
 have Fz5:=zaaj (st:=sz5) lz5 cz5 kz5
 have Bz5:Binds K (PySem.W.fnOf "add_piece" "Book.add_piece" (zaaf sz5) (zaae sz5) (zaab sz5) (.ref dtz5) kVz5 dcz5 pmz5 anz5 cdz5 ctz5) ["self","corners","marks"] []:=fun s us X hl=>match us,hl with | [_,_,_],_=>by first | exact .of_eq rfl | exact PySem.W.binds_K X rfl dlz5 rfl rfl rfl
 have Bz5_2:Binds K (PySem.W.fnOf "add_piece" "Book.add_piece" (zaaf sz5) (zaae sz5) (zaab sz5) (.ref dtz5) kVz5 dcz5 pmz5 anz5 cdz5 ctz5) ["self","corners","marks"] [.none]:=fun s us X hl=>(match us,(show us.length=2 by simpa using hl) with | [_,_],_=>PySem.W.binds_K X rfl dlz5 rfl rfl rfl)
 have Fz6:=zaaj (st:=sz6) lz6 cz6 kz6
 have Bz6:Binds K (PySem.W.fnOf "add_seam" "Book.add_seam" (zaaf sz6) (zaae sz6) (zaab sz6) (.ref dtz6) kVz6 dcz6 pmz6 anz6 cdz6 ctz6) ["self","first","second","turned","ease","pairs"] []:=fun s us X hl=>match us,hl with | [_,_,_,_,_,_],_=>by first | exact .of_eq rfl | exact PySem.W.binds_K X rfl dlz6 rfl rfl rfl
 have Bz6_5:Binds K (PySem.W.fnOf "add_seam" "Book.add_seam" (zaaf sz6) (zaae sz6) (zaab sz6) (.ref dtz6) kVz6 dcz6 pmz6 anz6 cdz6 ctz6) ["self","first","second","turned","ease","pairs"] [.none]:=fun s us X hl=>(match us,(show us.length=5 by simpa using hl) with | [_,_,_,_,_],_=>PySem.W.binds_K X rfl dlz6 rfl rfl rfl)
 have Fz8:=zaaj (st:=sz8) lz8 cz8 kz8
 have Bz8:Binds K (PySem.W.fnOf "check_pairs" "Book.check_pairs" (zaaf sz8) (zaae sz8) (zaab sz8) .none kVz8 dcz8 pmz8 anz8 cdz8 ctz8) ["self","first","second","pairs"] []:=.all fun us hl=>match us,hl with | [_,_,_,_],_=>rfl
 have Fz17:=zaaj (st:=sz17) lz17 cz17 kz17
 have Bz17:Binds K (PySem.W.fnOf "set_moves" "Book.set_moves" (zaaf sz17) (zaae sz17) (zaab sz17) .none kVz17 dcz17 pmz17 anz17 cdz17 ctz17) ["self","piece","corner","greater","lesser"] []:=.all fun us hl=>match us,hl with | [_,_,_,_,_],_=>rfl
 have Fz10:=zaaj (st:=sz10) lz10 cz10 kz10
 have Bz10:Binds K (PySem.W.fnOf "let_out" "Book.let_out" (zaaf sz10) (zaae sz10) (zaab sz10) .none kVz10 dcz10 pmz10 anz10 cdz10 ctz10) ["self","steps"] []:=.all fun us hl=>match us,hl with | [_,_],_=>rfl
 have Fz19:=zaaj (st:=sz19) lz19 cz19 kz19
 have Bz19:Binds K (PySem.W.fnOf "take_in" "Book.take_in" (zaaf sz19) (zaae sz19) (zaab sz19) .none kVz19 dcz19 pmz19 anz19 cdz19 ctz19) ["self","steps"] []:=.all fun us hl=>match us,hl with | [_,_],_=>rfl
 have Fz7:=zaaj (st:=sz7) lz7 cz7 kz7
 have Bz7:Binds K (PySem.W.fnOf "change_size" "Book.change_size" (zaaf sz7) (zaae sz7) (zaab sz7) .none kVz7 dcz7 pmz7 anz7 cdz7 ctz7) ["self","steps","change"] []:=.all fun us hl=>match us,hl with | [_,_,_],_=>rfl
 have Fz13:=zaaj (st:=sz13) lz13 cz13 kz13
 have Bz13:Binds K (PySem.W.fnOf "piece_count" "Book.piece_count" (zaaf sz13) (zaae sz13) (zaab sz13) .none kVz13 dcz13 pmz13 anz13 cdz13 ctz13) ["self"] []:=.all fun us hl=>match us,hl with | [_],_=>rfl
 have Fz16:=zaaj (st:=sz16) lz16 cz16 kz16
 have Bz16:Binds K (PySem.W.fnOf "seam_count" "Book.seam_count" (zaaf sz16) (zaae sz16) (zaab sz16) .none kVz16 dcz16 pmz16 anz16 cdz16 ctz16) ["self"] []:=.all fun us hl=>match us,hl with | [_],_=>rfl
 have Fz18:=zaaj (st:=sz18) lz18 cz18 kz18
 have Bz18:Binds K (PySem.W.fnOf "spots" "Book.spots" (zaaf sz18) (zaae sz18) (zaab sz18) .none kVz18 dcz18 pmz18 anz18 cdz18 ctz18) ["self","piece"] []:=.all fun us hl=>match us,hl with | [_,_],_=>rfl
 have Fz11:=zaaj (st:=sz11) lz11 cz11 kz11
 have Bz11:Binds K (PySem.W.fnOf "mark_spots" "Book.mark_spots" (zaaf sz11) (zaae sz11) (zaab sz11) .none kVz11 dcz11 pmz11 anz11 cdz11 ctz11) ["self","piece","side"] []:=.all fun us hl=>match us,hl with | [_,_,_],_=>rfl
 have Fz15:=zaaj (st:=sz15) lz15 cz15 kz15
 have Bz15:Binds K (PySem.W.fnOf "seam" "Book.seam" (zaaf sz15) (zaae sz15) (zaab sz15) .none kVz15 dcz15 pmz15 anz15 cdz15 ctz15) ["self","number"] []:=.all fun us hl=>match us,hl with | [_,_],_=>rfl
 have Fz9:=zaaj (st:=sz9) lz9 cz9 kz9
 have Bz9:Binds K (PySem.W.fnOf "corners" "Book.corners" (zaaf sz9) (zaae sz9) (zaab sz9) (.ref dtz9) kVz9 dcz9 pmz9 anz9 cdz9 ctz9) ["self","piece","size"] []:=fun s us X hl=>match us,hl with | [_,_,_],_=>by first | exact .of_eq rfl | exact PySem.W.binds_K X rfl dlz9 rfl rfl rfl
 have Bz9_2:Binds K (PySem.W.fnOf "corners" "Book.corners" (zaaf sz9) (zaae sz9) (zaab sz9) (.ref dtz9) kVz9 dcz9 pmz9 anz9 cdz9 ctz9) ["self","piece","size"] [.none]:=fun s us X hl=>(match us,(show us.length=2 by simpa using hl) with | [_,_],_=>PySem.W.binds_K X rfl dlz9 rfl rfl rfl)
 have Fz12:=zaaj (st:=sz12) lz12 cz12 kz12
 have Bz12:Binds K (PySem.W.fnOf "marks" "Book.marks" (zaaf sz12) (zaae sz12) (zaab sz12) (.ref dtz12) kVz12 dcz12 pmz12 anz12 cdz12 ctz12) ["self","piece","side","size"] []:=fun s us X hl=>match us,hl with | [_,_,_,_],_=>by first | exact .of_eq rfl | exact PySem.W.binds_K X rfl dlz12 rfl rfl rfl
 have Fz14:=zaaj (st:=sz14) lz14 cz14 kz14
 have Bz14:Binds K (PySem.W.fnOf "places" "Book.places" (zaaf sz14) (zaae sz14) (zaab sz14) .none kVz14 dcz14 pmz14 anz14 cdz14 ctz14) ["self","spots","size"] []:=.all fun us hl=>match us,hl with | [_,_,_],_=>rfl
 have Fz39:=zaaj (st:=sz39) lz39 cz39 kz39
 have Bz39:Binds K (PySem.W.fnOf "check_there" "check_there" (zaaf sz39) (zaae sz39) (zaab sz39) .none kVz39 dcz39 pmz39 anz39 cdz39 ctz39) ["number","those"] []:=.all fun us hl=>match us,hl with | [_,_],_=>rfl
 have Fz36:=zaaj (st:=sz36) lz36 cz36 kz36
 have Bz36:Binds K (PySem.W.fnOf "check_piece" "check_piece" (zaaf sz36) (zaae sz36) (zaab sz36) .none kVz36 dcz36 pmz36 anz36 cdz36 ctz36) ["corners","by_side"] []:=.all fun us hl=>match us,hl with | [_,_],_=>rfl
 have Fz42:=zaaj (st:=sz42) lz42 cz42 kz42
 have Bz42:Binds K (PySem.W.fnOf "spots_fit" "spots_fit" (zaaf sz42) (zaae sz42) (zaab sz42) .none kVz42 dcz42 pmz42 anz42 cdz42 ctz42) ["spots"] []:=.all fun us hl=>match us,hl with | [_],_=>rfl
 have Fz35:=zaaj (st:=sz35) lz35 cz35 kz35
 have Bz35:Binds K (PySem.W.fnOf "all_within" "all_within" (zaaf sz35) (zaae sz35) (zaab sz35) .none kVz35 dcz35 pmz35 anz35 cdz35 ctz35) ["numbers","bound"] []:=.all fun us hl=>match us,hl with | [_,_],_=>rfl
 have Fz37:=zaaj (st:=sz37) lz37 cz37 kz37
 have Bz37:Binds K (PySem.W.fnOf "check_seam" "check_seam" (zaaf sz37) (zaae sz37) (zaab sz37) .none kVz37 dcz37 pmz37 anz37 cdz37 ctz37) ["first","second","ease","pairs"] []:=.all fun us hl=>match us,hl with | [_,_,_,_],_=>rfl
 have Fz34:=zaaj (st:=sz34) lz34 cz34 kz34
 have Bz34:Binds K (PySem.W.fnOf "_law_whole" "_law_whole" (zaaf sz34) (zaae sz34) (zaab sz34) .none kVz34 dcz34 pmz34 anz34 cdz34 ctz34) ["_law_found"] []:=.all fun us hl=>match us,hl with | [_],_=>rfl
 have Fz23:=zaaj (st:=sz23) lz23 cz23 kz23
 have Bz23:Binds K (PySem.W.fnOf "_law_at" "_law_at" (zaaf sz23) (zaae sz23) (zaab sz23) .none kVz23 dcz23 pmz23 anz23 cdz23 ctz23) ["_law_script","_law_k"] []:=.all fun us hl=>match us,hl with | [_,_],_=>rfl
 have Fz33:=zaaj (st:=sz33) lz33 cz33 kz33
 have Bz33:Binds K (PySem.W.fnOf "_law_stir" "_law_stir" (zaaf sz33) (zaae sz33) (zaab sz33) .none kVz33 dcz33 pmz33 anz33 cdz33 ctz33) ["_law_script","_law_many"] []:=.all fun us hl=>match us,hl with | [_,_],_=>rfl
 have Fz28:=zaaj (st:=sz28) lz28 cz28 kz28
 have Bz28:Binds K (PySem.W.fnOf "_law_numbers" "_law_numbers" (zaaf sz28) (zaae sz28) (zaab sz28) .none kVz28 dcz28 pmz28 anz28 cdz28 ctz28) ["_law_found","_law_due_here"] []:=.all fun us hl=>match us,hl with | [_,_],_=>rfl
 have Fz30:=zaaj (st:=sz30) lz30 cz30 kz30
 have Bz30:Binds K (PySem.W.fnOf "_law_rows" "_law_rows" (zaaf sz30) (zaae sz30) (zaab sz30) .none kVz30 dcz30 pmz30 anz30 cdz30 ctz30) ["_law_found","_law_due_here"] []:=.all fun us hl=>match us,hl with | [_,_],_=>rfl
 have Fz31:=zaaj (st:=sz31) lz31 cz31 kz31
 have Bz31:Binds K (PySem.W.fnOf "_law_spots" "_law_spots" (zaaf sz31) (zaae sz31) (zaab sz31) .none kVz31 dcz31 pmz31 anz31 cdz31 ctz31) ["_law_seed","_law_many","_law_far","_law_step"] []:=.all fun us hl=>match us,hl with | [_,_,_,_],_=>rfl
 have Fz27:=zaaj (st:=sz27) lz27 cz27 kz27
 have Bz27:Binds K (PySem.W.fnOf "_law_next" "_law_next" (zaaf sz27) (zaae sz27) (zaab sz27) .none kVz27 dcz27 pmz27 anz27 cdz27 ctz27) ["_law_state"] []:=.all fun us hl=>match us,hl with | [_],_=>rfl
 have Fz29:=zaaj (st:=sz29) lz29 cz29 kz29
 have Bz29:Binds K (PySem.W.fnOf "_law_place" "_law_place" (zaaf sz29) (zaae sz29) (zaab sz29) .none kVz29 dcz29 pmz29 anz29 cdz29 ctz29) ["_law_spot","_law_size"] []:=.all fun us hl=>match us,hl with | [_,_],_=>rfl
 have Fz25:=zaaj (st:=sz25) lz25 cz25 kz25
 have Bz25:Binds K (PySem.W.fnOf "_law_done" "_law_done" (zaaf sz25) (zaae sz25) (zaab sz25) .none kVz25 dcz25 pmz25 anz25 cdz25 ctz25) ["_law_book","_law_d","_law_spots_here","_law_pieces"] []:=.all fun us hl=>match us,hl with | [_,_,_,_],_=>rfl
 have Fz26:=zaaj (st:=sz26) lz26 cz26 kz26
 have Bz26:Binds K (PySem.W.fnOf "_law_due" "_law_due" (zaaf sz26) (zaae sz26) (zaab sz26) .none kVz26 dcz26 pmz26 anz26 cdz26 ctz26) ["_law_kept","_law_d","_law_spots_here"] []:=.all fun us hl=>match us,hl with | [_,_,_],_=>rfl
 have Fz24:=zaaj (st:=sz24) lz24 cz24 kz24
 have Bz24:Binds K (PySem.W.fnOf "_law_counts" "_law_counts" (zaaf sz24) (zaae sz24) (zaab sz24) .none kVz24 dcz24 pmz24 anz24 cdz24 ctz24) ["_law_book","_law_kept"] []:=.all fun us hl=>match us,hl with | [_,_],_=>rfl
 have Fz32:=zaaj (st:=sz32) lz32 cz32 kz32
 have Bz32:Binds K (PySem.W.fnOf "_law_stands" "_law_stands" (zaaf sz32) (zaae sz32) (zaab sz32) .none kVz32 dcz32 pmz32 anz32 cdz32 ctz32) ["_law_book","_law_kept"] []:=.all fun us hl=>match us,hl with | [_,_],_=>rfl
 have F_law:=zaaj (st:=s_law) l_law c_law k_law
 have B_law:Binds K (PySem.W.fnOf "law" "law" (zaaf s_law) (zaae s_law) (zaab s_law) .none kV_law dc_law pm_law an_law cd_law ct_law) ["_law_script"] []:=.all fun us hl=>match us,hl with | [_],_=>rfl
 let T:Txt K mg:=⟨ez21,PySem.W.mg_of X Gn aez21,ez3,PySem.W.mg_of X Gn aez3,qez3,ez1,PySem.W.mg_of X Gn aez1,qez1,ez0,PySem.W.mg_of X Gn aez0,qez0,ez2,PySem.W.mg_of X Gn aez2,qez2,ez22,PySem.W.mg_of X Gn aez22,qez22,ez20,PySem.W.mg_of X Gn aez20,qez20,⟨gaz21,gnz21,dcz21,caz21,hsp,htk,moz21,mbz21⟩,⟨gaz3,gnz3,dcz3,caz3,hsp,htk,moz3,mbz3⟩,⟨gaz1,gnz1,dcz1,caz1,hsp,htk,moz1,mbz1⟩,⟨gaz0,gnz0,dcz0,caz0,hsp,htk,moz0,mbz0⟩,⟨gaz2,gnz2,dcz2,caz2,hsp,htk,moz2,mbz2⟩,⟨gaz22,gnz22,dcz22,caz22,hsp,htk,moz22,mbz22⟩,⟨gaz20,gnz20,dcz20,caz20,hsp,htk,moz20,mbz20⟩,kiz21z3,kiz3z3,kiz1z3,kiz0z3,kiz2z3,kiz22z3,kiz20z3,kiz21z20,kiz3z20,kiz1z20,kiz0z20,kiz2z20,kiz22z20,kiz20z20,xoz21z21,xoz3z21,xoz1z21,xoz0z21,xoz2z21,xoz22z21,xoz20z21,C_Book,PySem.W.mg_of X Gn aC_Book,⟨pg_Book,hd_Book,po_Book,sa_Book⟩,no_Book_size,no_Book_pieces,no_Book_side_marks,no_Book_seams,fz41,_,Fz41,Bz41,PySem.W.mg_of X Gn az41,kz41,fz38,_,Fz38,Bz38,PySem.W.mg_of X Gn az38,kz38,fz40,_,Fz40,Bz40,PySem.W.mg_of X Gn az40,kz40,fz4,_,Fz4,Bz4,⟨az4,iz4,kz4⟩,⟨zacp,az4,iz4,kc_Book⟩,fz5,_,Fz5,Bz5,Bz5_2,⟨az5,iz5,kz5⟩,tkz6_1,fz6,_,Fz6,Bz6,Bz6_5,⟨az6,iz6,kz6⟩,fz8,_,Fz8,Bz8,⟨az8,iz8,kz8⟩,fz17,_,Fz17,Bz17,⟨az17,iz17,kz17⟩,fz10,_,Fz10,Bz10,⟨az10,iz10,kz10⟩,fz19,_,Fz19,Bz19,⟨az19,iz19,kz19⟩,fz7,_,Fz7,Bz7,⟨az7,iz7,kz7⟩,fz13,_,Fz13,Bz13,⟨az13,iz13,kz13⟩,fz16,_,Fz16,Bz16,⟨az16,iz16,kz16⟩,fz18,_,Fz18,Bz18,⟨az18,iz18,kz18⟩,fz11,_,Fz11,Bz11,⟨az11,iz11,kz11⟩,fz15,_,Fz15,Bz15,⟨az15,iz15,kz15⟩,fz9,_,Fz9,Bz9,Bz9_2,⟨az9,iz9,kz9⟩,fz12,_,Fz12,Bz12,⟨az12,iz12,kz12⟩,fz14,_,Fz14,Bz14,⟨az14,iz14,kz14⟩,fz39,_,Fz39,Bz39,PySem.W.mg_of X Gn az39,kz39,fz36,_,Fz36,Bz36,PySem.W.mg_of X Gn az36,kz36,fz42,_,Fz42,Bz42,PySem.W.mg_of X Gn az42,kz42,fz35,_,Fz35,Bz35,PySem.W.mg_of X Gn az35,kz35,fz37,_,Fz37,Bz37,PySem.W.mg_of X Gn az37,kz37,fz34,_,Fz34,Bz34,PySem.W.mg_of X Gn az34,kz34,fz23,_,Fz23,Bz23,PySem.W.mg_of X Gn az23,kz23,fz33,_,Fz33,Bz33,PySem.W.mg_of X Gn az33,kz33,fz28,_,Fz28,Bz28,PySem.W.mg_of X Gn az28,kz28,fz30,_,Fz30,Bz30,PySem.W.mg_of X Gn az30,kz30,fz31,_,Fz31,Bz31,PySem.W.mg_of X Gn az31,kz31,fz27,_,Fz27,Bz27,PySem.W.mg_of X Gn az27,kz27,fz29,_,Fz29,Bz29,PySem.W.mg_of X Gn az29,kz29,fz25,_,Fz25,Bz25,PySem.W.mg_of X Gn az25,kz25,fz26,_,Fz26,Bz26,PySem.W.mg_of X Gn az26,kz26,fz24,_,Fz24,Bz24,PySem.W.mg_of X Gn az24,kz24,fz32,_,Fz32,Bz32,PySem.W.mg_of X Gn az32,kz32,fa,_,F_law,B_law,PySem.W.mg_of X Gn a_law,k_law,t_LEAST,PySem.W.mg_of X Gn gl_LEAST,t_MOST,PySem.W.mg_of X Gn gl_MOST,t_MOST_PIECES,PySem.W.mg_of X Gn gl_MOST_PIECES,t_LEAST_CORNERS,PySem.W.mg_of X Gn gl_LEAST_CORNERS,t_MOST_CORNERS,PySem.W.mg_of X Gn gl_MOST_CORNERS,t_MOST_MARKS,PySem.W.mg_of X Gn gl_MOST_MARKS,t_FARTHEST,PySem.W.mg_of X Gn gl_FARTHEST,t_LONGEST_MOVE,PySem.W.mg_of X Gn gl_LONGEST_MOVE,t_MOST_SEAMS,PySem.W.mg_of X Gn gl_MOST_SEAMS,t_MOST_EASE,PySem.W.mg_of X Gn gl_MOST_EASE,t_MOST_PAIRS,PySem.W.mg_of X Gn gl_MOST_PAIRS,PySem.W.mg_none_of X Gn z_abs,PySem.W.mg_none_of X Gn z_all,PySem.W.mg_none_of X Gn z_any,PySem.W.mg_none_of X Gn z_bool,PySem.W.mg_none_of X Gn z_int,PySem.W.mg_none_of X Gn z_isinstance,PySem.W.mg_none_of X Gn z_len,PySem.W.mg_none_of X Gn z_list,PySem.W.mg_none_of X Gn z_range,PySem.W.mg_none_of X Gn z_tuple⟩
 exact⟨PySem.W.fnOf "law" "law" (zaaf s_law) (zaae s_law) (zaab s_law) .none kV_law dc_law pm_law an_law cd_law ct_law,Gof T,fun s v=>.of_eq rfl,fun base _ _=>fn_top (all (base:=base) (P:=l.prog) (w:=w) T 16).o_law⟩
theorem zaga:∀{K:List (Addr×Obj)} {a:Addr} {o:Obj},K.lookup a=some o→(a,o)∈K
 | [],a,o,h=>by cases h
 | (b,u)::r,a,o,h=>by
  rw[List.lookup_cons] at h
  split at h
  ·rename_i hb
   cases h
   rw[beq_iff_eq.mp hb]
   exact List.mem_cons_self
  ·exact List.mem_cons_of_mem _ (zaga h)
def noLst (K:PySem.W.Frag):Bool:=K.all fun p=>match p.2.cls with | .type n=>n != "list" | _=>true
theorem noLst_no {K:PySem.W.Frag} (h:noLst K=true) {a:Addr} {o:Obj} (e:K.lookup a=some o) (hc:o.cls=.type "list"):False:=by
 have hm:=zaga e
 have q:=List.all_eq_true.mp h _ hm
 rw[show(a,o).2.cls=.type "list" from hc] at q
 simp at q
theorem zab1 {G:Gx} {w:Wo} {H:Hp}:∀ns:List Int,Reps G w H (ns.map T.int) (ns.map V.int)
 | []=>rfl
 | n::r=>⟨.int n,_,rfl,rfl,zab1 r⟩
theorem walk (M:Math) {l:PySem.W.OpenLaw} {q:Program} {loose:List Str} {XP:(Str→Option Value)→Heap→Prop} {YP:World→Heap→Prop} {d:DefRec} {K:Params→PySem.W.Frag} (hn:l.most=some 63) (hdf:d.params.defaults=[])
  (hY:∀(w:World) (h:Heap),YP w h→(K w.params).In h) (hK:∀w:World,noLst (K w.params)=true)
  (F:∀(w:World) (mg:Str→Option Value) (fa:Addr) (h:Heap),(K w.params).In h→h.Ns mainGlobals mg→mg d.name=some (.ref fa)→
   ∃(fd:FuncData) (G:Gx),(∀(s:Shared) (u:Value),BindsTo s fd ⟨[u],[]⟩ [("_law_script",u)])∧∀base:Heap,(K w.params).In base→base.Ns mainGlobals mg→FnOk l.prog w (K w.params) mg base CX0 32 fa fd ["_law_script"] (spTop G)):
  PySem.W.WalkO q loose XP YP l.row.toRowW d [] (fun f vs=>PySem.call f vs):=by
 refine L2.walk_of (n:=63) (k:=32) (x:="_law_script") (CX:=fun _=>CX0) (sp:=fun w=>fun vs H Q E=>∃(a:Addr) (ns:List Int),vs=[.ref a]∧ns.length≤63∧Rd H a (.lst (ns.map V.int))∧∀H',Q (.bl true) H') hn (by decide) hdf ⟨rfl,by decide,by decide⟩ hY (fun w mg fa h a b c=>?_) (fun w H a ns hl hO hS=>?_) fun _ _ _ _ _ z=>z
 ·obtain⟨fd,G,hb,hF⟩:=F w mg fa h a b c
  refine⟨fd,hb,fun base kb nb=>?_⟩
  have hf:=hF base kb nb
  refine⟨fun vs H Q E ⟨a,ns,e,_⟩=>by subst e;rfl,fun A outer s H args us vs Q E hr e0 hb hv ⟨a,ns,e,hl,hR,hq⟩=>hf.run A outer s H args us vs Q E hr e0 hb hv ?_⟩
  subst e
  obtain⟨st,e⟩:=M ns hl
  refine⟨⟨0,fun _=>0,fun b=>b=a⟩,[],[.val (.lst (ns.map .int))],⟨rfl,fun l m h=>absurd h (Nat.not_lt_zero _),fun l h=>absurd h (Nat.not_lt_zero _),fun l c h=>by simp at h,fun b hb=>⟨ns.map V.int,by have hb:b=a:=hb;subst hb;exact hR⟩⟩,⟨.ref a,[],rfl,⟨a,_,rfl,rfl,hR,zab1 ns⟩,rfl⟩,?_⟩
  rw[e]
  exact⟨fun _ w' H' v _ _ r=>by cases r;exact hq _,fun z=>by cases z⟩
 ·have hR:Rd H a (.lst (ns.map V.int)):=hS.elim id fun⟨o,_,_,e,hc,_⟩=>(noLst_no (hK w) e hc).elim
  exact⟨a,ns,rfl,hl,hR,fun _=>rfl⟩
end Pg
end IP
end
section
set_option Elab.async false
set_option linter.all false
set_option maxRecDepth 100000
namespace IP
open L2
theorem zaax {i j:Int} (h:i.natAbs < 2^64):mulB i j=true:=by
 unfold mulB
 simp[h]
section
variable {x f:Bool} {σ:Fr} {s:Sto} {i j:Int} {ts us:List T} {t a b c d:T} {r:R}
@[simp] theorem leave_ret:leave x false (.ret r s)=.ok r s:=rfl
@[simp] theorem leave_retO:leave x true (.retO ts s)=.ok (.val (.lst ts)) s:=rfl
@[simp] theorem leave_next:leave x false (.next σ s)=.ok (.val .non) s:=rfl
@[simp] theorem onB_bl (b:Bool) (m n:Res R):onB (.val (.bl b)) m n=if b=true then m else n:=by cases b<;>rfl
@[simp] theorem onBS_bl (b:Bool) (m n:SR):onBS (.val (.bl b)) m n=if b=true then m else n:=by cases b<;>rfl
@[simp] theorem onI_int (g:Int→Res R):onI (.val (.int i)) g=g i:=rfl
@[simp] theorem onV_val (g:T→Res (List T)):onV (.val t) g=g t:=rfl
@[simp] theorem onL_lst (g:List T→Res R):onL (.val (.lst ts)) g=g ts:=rfl
@[simp] theorem onO_some {α β:Type} (v:α) (g:α→Res β):onO (some v) g=g v:=rfl
@[simp] theorem int_int:(R.val (.int i)).int?=some i:=rfl
@[simp] theorem val_val:(R.val t).val?=some t:=rfl
@[simp] theorem val_bor:(R.bor ts).val?=none:=rfl
@[simp] theorem lst_lst:(R.val (.lst ts)).lst?=some ts:=rfl
@[simp] theorem seq_lst:(R.val (.lst ts)).seq=some ts:=rfl
@[simp] theorem seq_bor:(R.bor ts).seq=some ts:=rfl
@[simp] theorem sq2_lst:(R.val (.lst ts)).sq2=some ts:=rfl
@[simp] theorem sq2_tup:(R.val (.tup ts)).sq2=some ts:=rfl
@[simp] theorem sq2_bor:(R.bor ts).sq2=some ts:=rfl
@[simp] theorem sq3_lst:(R.val (.lst ts)).sq3=some ts:=rfl
@[simp] theorem sq3_tup:(R.val (.tup ts)).sq3=some ts:=rfl
@[simp] theorem tru_bl (b:Bool):tru (.val (.bl b))=some b:=rfl
@[simp] theorem tru_int:tru (.val (.int i))=some (i != 0):=rfl
@[simp] theorem one_ok:one (.ok (.val t) s)=.ok (some t) s:=rfl
@[simp] theorem st_ite {p:Prop} [Decidable p] (m n:Res R) (k:R→Sto→SR):(if p then m else n).st σ k=if p then m.st σ k else n.st σ k:=by split<;>rfl
@[simp] theorem bind_ite {α β:Type} {p:Prop} [Decidable p] (m n:Res α) (k:α→Sto→Res β):(if p then m else n).bind k=if p then m.bind k else n.bind k:=by split<;>rfl
@[simp] theorem leave_ite {p:Prop} [Decidable p] (m n:SR):leave x f (if p then m else n)=if p then leave x f m else leave x f n:=by split<;>rfl
@[simp] theorem sbind_ite {p:Prop} [Decidable p] (m n:SR) (k:Fr→Sto→SR):(if p then m else n).bind k=if p then m.bind k else n.bind k:=by split<;>rfl
@[simp] theorem unlock_ite {p:Prop} [Decidable p] (m n:SR) (i:Nat):(if p then m else n).unlock i=if p then m.unlock i else n.unlock i:=by split<;>rfl
@[simp] theorem unlock_ret (v:R) (i:Nat):(SR.ret v s).unlock i=.ret v s:=rfl
@[simp] theorem unlock_next (i:Nat):(SR.next σ s).unlock i=.next (IP.unlock σ i) s:=rfl
@[simp] theorem op_add:opR .add (.val (.int i)) (.val (.int j))=some (.val (.int (i+j))):=rfl
@[simp] theorem op_sub:opR .sub (.val (.int i)) (.val (.int j))=some (.val (.int (i - j))):=rfl
theorem op_mul (h:mulB i j=true):opR .mul (.val (.int i)) (.val (.int j))=some (.val (.int (i*j))):=by simp[opR,opI,h]
theorem op_mod (h:0 < j):opR .mod (.val (.int i)) (.val (.int j))=some (.val (.int (Int.fmod i j))):=by simp[opR,opI,show j≠0 by omega]
theorem big_64:(2:Nat)^64 < big:=by unfold big;decide +kernel
theorem zaat (h:0 < j) (hb:j < 2^64):opR .fdiv (.val (.int i)) (.val (.int j))=some (.val (.int (Int.fdiv i j))):=by
 have:j.natAbs < big:=Nat.lt_trans (by omega) big_64
 simp[opR,opI,show j≠0 by omega,this]
@[simp] theorem cm_lt:cmpR .lt (.val (.int i)) (.val (.int j))=some (decide (i < j)):=rfl
@[simp] theorem cm_le:cmpR .le (.val (.int i)) (.val (.int j))=some (decide (i≤j)):=rfl
@[simp] theorem cm_gt:cmpR .gt (.val (.int i)) (.val (.int j))=some (decide (j < i)):=rfl
@[simp] theorem cm_ge:cmpR .ge (.val (.int i)) (.val (.int j))=some (decide (j≤i)):=rfl
@[simp] theorem cm_eq:cmpR .eq (.val a) (.val b)=eqD 8 a b:=rfl
@[simp] theorem cm_ne:cmpR .ne (.val a) (.val b)=(eqD 8 a b).map (!·):=rfl
@[simp] theorem cm_isN:cmpR .isN r (.val .non)=some r.isNon:=rfl
@[simp] theorem cm_notN:cmpR .notN r (.val .non)=some (!r.isNon):=rfl
@[simp] theorem eq_int:eqD 8 (.int i) (.int j)=some (i==j):=by simp[eqD]
@[simp] theorem sub_2a:subR (.val (.tup [a,b])) 0=some a:=rfl
@[simp] theorem sub_2b:subR (.val (.tup [a,b])) 1=some b:=rfl
theorem sub_at {n:Nat} (h:ts[n]?=some t):subR (.val (.lst ts)) (n:Int)=some t:=by
 have hl:=(List.getElem?_eq_some_iff.mp h).1
 have h2:=(List.getElem?_eq_some_iff.mp h).2
 simp[subR,L2.atI,L2.ixN,hl,h2]
theorem zabe {n:Nat} (h:ts[n]?=some t):subR (.bor ts) (n:Int)=some t:=by
 have hl:=(List.getElem?_eq_some_iff.mp h).1
 have h2:=(List.getElem?_eq_some_iff.mp h).2
 simp[subR,L2.atI,L2.ixN,hl,h2]
@[simp] theorem b1_len_lst:b1R .len (.val (.lst ts))=some (.val (.int ts.length)):=rfl
@[simp] theorem b1_len_tup:b1R .len (.val (.tup ts))=some (.val (.int ts.length)):=rfl
@[simp] theorem b1_len_bor:b1R .len (.bor ts)=some (.val (.int ts.length)):=rfl
@[simp] theorem b1_abs:b1R .abs (.val (.int i))=some (.val (.int (if i < 0 then -i else i))):=rfl
@[simp] theorem b1_list:b1R .list (.val (.lst ts))=some (.val (.lst ts)):=rfl
@[simp] theorem b1_sorted2:b1R .sorted (.val (.lst [.int i,.int j]))=some (.val (.lst [.int (min i j),.int (max i j)])):=by
 by_cases h:j < i
 ·simp[b1R,asInts,sortI,insI,h,show min i j=j by omega,show max i j=i by omega]
 ·simp[b1R,asInts,sortI,insI,h,show min i j=i by omega,show max i j=j by omega]
@[simp] theorem b1_max2:b1R .max (.val (.lst [.int i,.int j]))=some (.val (.int (max i j))):=by
 have h:b1R .max (.val (.lst [.int i,.int j]))=some (.val (.int (if j > i then j else i))):=rfl
 rw[h,show(if j > i then j else i)=max i j by split<;>omega]
@[simp] theorem b1_min2:b1R .min (.val (.lst [.int i,.int j]))=some (.val (.int (min i j))):=by
 have h:b1R .min (.val (.lst [.int i,.int j]))=some (.val (.int (if j < i then j else i))):=rfl
 rw[h,show(if j < i then j else i)=min i j by split<;>omega]
@[simp] theorem sub_l2a:subR (.val (.lst [a,b])) 0=some a:=rfl
@[simp] theorem sub_l2b:subR (.val (.lst [a,b])) 1=some b:=rfl
end
theorem ex_for {C:Cf} {g:Tg} {it:E} {b:List S} {σ:Fr} {s s1:Sto} {ts:List T} (h:ev C it .j σ s=.ok (.val (.lst ts)) s1) (hit:∀i,it≠.var i):ex C (.for_ g it b) σ s=forL g (fun σ s=>exs C b σ s) ts σ s1:=by
 have e:ex C (.for_ g it b) σ s=(ev C it .j σ s).st σ fun x s1=>onS x.lst? fun ts=>forL g (fun σ s=>exs C b σ s) ts σ s1:=by
  cases it<;>first | rfl | exact absurd rfl (hit _)
 rw[e,h]
 rfl
theorem lim_ge:1000≤lim:=by decide
theorem lim_ge':(1000:Int)≤(lim:Int):=Int.ofNat_le.mpr lim_ge
theorem rng_a {j:Int} (h:j≤1000):decide (j≤(lim:Int))=true:=decide_eq_true (Int.le_trans h lim_ge')
theorem rng_b {n:Nat} (h:n≤1000):bnd (n:Int)=true:=by
 unfold bnd
 simp
 omega
theorem zab7 {C:Cf} {a:E} {σ:Fr} {s s1:Sto} {j:Int} (h:ev C a .v σ s=.ok (.val (.int j)) s1):ev C (.rng1 a) .j σ s=if bnd j&&decide (j≤lim) then .ok (.val (.lst (rangeT 0 j))) s1 else .stuck:=by
 unfold ev
 rw[h]
 rfl
theorem ite_t {α:Type} {b:Bool} {x y:α} (h:b=true):(if b then x else y)=x:=by rw[h];rfl
theorem and_t {a b:Bool} (h:a=true) (h':b=true):(a&&b)=true:=by rw[h,h'];rfl
theorem zabo {C:Cf} {a:E} {σ:Fr} {s s1:Sto} {n:Nat} (h:ev C a .v σ s=.ok (.val (.int (n:Int))) s1) (hn:n≤1000):ev C (.rng1 a) .j σ s=.ok (.val (.lst (rangeT 0 n))) s1:=
 (zab7 h).trans (ite_t (and_t (rng_b hn) (rng_a (Int.ofNat_le.mpr hn))))
theorem ex_ret {C:Cf} {e:E} {σ:Fr} {s s1:Sto} {r:R} (h:ev C e .v σ s=.ok r s1):ex C (.ret e) σ s=.ret r s1:=by unfold ex;rw[h];rfl
theorem ex_asg {C:Cf} {e:E} {i:Nat} {σ:Fr} {s s1:Sto} {t:T} (h:ev C e .v σ s=.ok (.val t) s1):ex C (.asg i e) σ s=.next (put σ i t) s1:=by unfold ex;rw[h];rfl
theorem ev_comp {C:Cf} {e it:E} {g:Tg} {σ:Fr} {s s1 s2:Sto} {ts q:List T} (h:ev C it .i σ s=.ok (.val (.lst ts)) s1) (h2:mapRes (fun t s=>onO (bindTg σ g t) fun σ'=>one (ev C e .v σ' s)) ts s1=.ok q s2):ev C (.comp e g it) .v σ s=.ok (.val (.lst q)) s2:=by
 unfold ev
 rw[h]
 show(mapRes (fun t s=>onO (bindTg σ g t) fun σ'=>one (ev C e .v σ' s)) ts s1).bind _=_
 rw[h2]
 rfl
theorem zadr {C:Cf} {a:S} {r:List S} {σ:Fr} {s:Sto}:exs C (a::r) σ s=(ex C a σ s).bind fun σ1 s1=>exs C r σ1 s1:=by simp only[exs]
theorem zaag {C:Cf} {a:S} {r:List S} {σ σ1:Fr} {s s1:Sto} (h:ex C a σ s=.next σ1 s1):exs C (a::r) σ s=exs C r σ1 s1:=by rw[zadr,h];rfl
theorem zagc {C:Cf} {a:S} {r:List S} {σ:Fr} {s s1:Sto} {v:R} (h:ex C a σ s=.ret v s1):exs C (a::r) σ s=.ret v s1:=by rw[zadr,h];rfl
@[simp] theorem rngM_j (m:Res R):rngM .j m=m:=rfl
@[simp] theorem rngM_i (m:Res R):rngM .i m=m:=rfl
section
variable {g:Tg} {body:Fr→Sto→SR} {s:Sto}
theorem zaa3 (I:Nat→Fr→Prop):∀(ts:List T) (n:Nat) (σ:Fr),I n σ→(∀(m:Nat) (t:T) (σ:Fr),ts[m]?=some t→I (n+m) σ→∃σ1 σ2,bindTg σ g t=some σ1∧body σ1 s=.next σ2 s∧I (n+m+1) σ2)→
  ∃σ',forL g body ts σ s=.next σ' s∧I (n+ts.length) σ'
 | [],n,σ,h,_=>⟨σ,rfl,h⟩
 | t::ts,n,σ,h,st=>by
  obtain⟨σ1,σ2,e1,e2,e3⟩:=st 0 t σ rfl h
  obtain⟨σ',e4,e5⟩:=zaa3 I ts (n+1) σ2 e3 fun m u σ em hm=>by
   obtain⟨a,b,c1,c2,c3⟩:=st (m+1) u σ (by simpa using em) (by rw[show n+(m+1)=n+1+m by omega];exact hm)
   exact⟨a,b,c1,c2,by rw[show n+1+m+1=n+(m+1)+1 by omega];exact c3⟩
  refine⟨σ',?_,by rw[List.length_cons,show n+(ts.length+1)=n+1+ts.length by omega];exact e5⟩
  show onS (bindTg σ g t) _=_
  rw[e1]
  show(body σ1 s).bind _=_
  rw[e2]
  exact e4
theorem zaau {i j:Int} {n:Nat} {t:T} (h:(rangeT i j)[n]?=some t):t=.int (i+n)∧n < (j - i).toNat:=by
 unfold rangeT at h
 rw[List.getElem?_map] at h
 cases e:(List.range (j - i).toNat)[n]? with
 | none=>rw[e] at h;cases h
 | some m=>
  rw[e] at h
  have hn:=(List.getElem?_eq_some_iff.mp e).1
  have:=(List.getElem?_eq_some_iff.mp e).2
  simp at this hn
  subst this
  simp at h
  exact⟨h.symm,by omega⟩
theorem zacj (i j:Int):(rangeT i j).length=(j - i).toNat:=by unfold rangeT;simp
end
end IP
end
section
set_option Elab.async false
set_option linter.all false
set_option maxRecDepth 100000
namespace IP
@[simp] theorem z_exs_1:type_of% @exs.eq_1:=@exs.eq_1
@[simp] theorem z_exs_2:type_of% @exs.eq_2:=@exs.eq_2
@[simp] theorem z_ex_1:type_of% @ex.eq_1:=@ex.eq_1
@[simp] theorem z_ex_3:type_of% @ex.eq_3:=@ex.eq_3
@[simp] theorem z_ex_4:type_of% @ex.eq_4:=@ex.eq_4
@[simp] theorem z_ex_8:type_of% @ex.eq_8:=@ex.eq_8
@[simp] theorem z_ex_9:type_of% @ex.eq_9:=@ex.eq_9
@[simp] theorem z_ex_13:type_of% @ex.eq_13:=@ex.eq_13
@[simp] theorem z_ex_16:type_of% @ex.eq_16:=@ex.eq_16
@[simp] theorem z_ex_17:type_of% @ex.eq_17:=@ex.eq_17
@[simp] theorem z_ex_18:type_of% @ex.eq_18:=@ex.eq_18
@[simp] theorem z_ex_19:type_of% @ex.eq_19:=@ex.eq_19
@[simp] theorem z_ex_20:type_of% @ex.eq_20:=@ex.eq_20
@[simp] theorem z_ex_21:type_of% @ex.eq_21:=@ex.eq_21
@[simp] theorem z_ev_1:type_of% @ev.eq_1:=@ev.eq_1
@[simp] theorem z_ev_2:type_of% @ev.eq_2:=@ev.eq_2
@[simp] theorem z_ev_3:type_of% @ev.eq_3:=@ev.eq_3
@[simp] theorem z_ev_4:type_of% @ev.eq_4:=@ev.eq_4
@[simp] theorem z_ev_5:type_of% @ev.eq_5:=@ev.eq_5
@[simp] theorem z_ev_6:type_of% @ev.eq_6:=@ev.eq_6
@[simp] theorem z_ev_7:type_of% @ev.eq_7:=@ev.eq_7
@[simp] theorem z_ev_8:type_of% @ev.eq_8:=@ev.eq_8
@[simp] theorem z_ev_9:type_of% @ev.eq_9:=@ev.eq_9
@[simp] theorem z_ev_10:type_of% @ev.eq_10:=@ev.eq_10
@[simp] theorem z_ev_11:type_of% @ev.eq_11:=@ev.eq_11
@[simp] theorem z_ev_13:type_of% @ev.eq_13:=@ev.eq_13
@[simp] theorem z_ev_14:type_of% @ev.eq_14:=@ev.eq_14
@[simp] theorem z_ev_15:type_of% @ev.eq_15:=@ev.eq_15
@[simp] theorem z_ev_16:type_of% @ev.eq_16:=@ev.eq_16
@[simp] theorem z_ev_17:type_of% @ev.eq_17:=@ev.eq_17
@[simp] theorem z_ev_18:type_of% @ev.eq_18:=@ev.eq_18
@[simp] theorem z_ev_21:type_of% @ev.eq_21:=@ev.eq_21
@[simp] theorem z_ev_28:type_of% @ev.eq_28:=@ev.eq_28
@[simp] theorem z_ev_29:type_of% @ev.eq_29:=@ev.eq_29
@[simp] theorem z_ev_30:type_of% @ev.eq_30:=@ev.eq_30
@[simp] theorem z_ev_36:type_of% @ev.eq_36:=@ev.eq_36
@[simp] theorem z_ev_37:type_of% @ev.eq_37:=@ev.eq_37
@[simp] theorem z_ev_38:type_of% @ev.eq_38:=@ev.eq_38
@[simp] theorem z_ev_39:type_of% @ev.eq_39:=@ev.eq_39
@[simp] theorem z_ev_41:type_of% @ev.eq_41:=@ev.eq_41
@[simp] theorem z_evs_1:type_of% @evs.eq_1:=@evs.eq_1
@[simp] theorem z_evs_2:type_of% @evs.eq_2:=@evs.eq_2
@[simp] theorem z_evr_1:type_of% @evr.eq_1:=@evr.eq_1
@[simp] theorem z_evr_2:type_of% @evr.eq_2:=@evr.eq_2
@[simp] theorem z_enter_1:type_of% @enter.eq_1:=@enter.eq_1
@[simp] theorem z_ofR_1:type_of% @ofR.eq_1:=@ofR.eq_1
@[simp] theorem z_ofR_2:type_of% @ofR.eq_2:=@ofR.eq_2
@[simp] theorem z_look_1:type_of% @look.eq_1:=@look.eq_1
@[simp] theorem z_put_1:type_of% @put.eq_1:=@put.eq_1
section
variable {x f:Bool} {σ:Fr} {s:Sto} {i j:Int} {ts us:List T} {t a b c:T} {r:R} {l d k:Nat} {sub:Nat→Nat→Bool} {fs:List (Option T)}
@[simp] theorem dr_non:(R.val .non).dr s=.val .non:=rfl
@[simp] theorem dr_bl (b:Bool):(R.val (.bl b)).dr s=.val (.bl b):=rfl
@[simp] theorem dr_int:(R.val (.int i)).dr s=.val (.int i):=rfl
@[simp] theorem dr_tup:(R.val (.tup ts)).dr s=.val (.tup ts):=rfl
@[simp] theorem dr_lst:(R.val (.lst ts)).dr s=.val (.lst ts):=rfl
@[simp] theorem dr_exc:(R.val (.exc d)).dr s=.val (.exc d):=rfl
@[simp] theorem dr_bor:(R.bor ts).dr s=.bor ts:=rfl
theorem dr_loc (h:s[l]?=some (.lst ts)):(R.val (.loc l)).dr s=.bor ts:=by simp[R.dr,h]
theorem zab0 (h:s[l]?=some (.ins d fs)):fldR s (.val (.loc l)) d k=(fs[k]?).join:=by simp[fldR,h]
theorem zafg (h:s[l]?=some (.ins d fs)):(R.val (.loc l)).locI s d=some (l,fs):=by simp[R.locI,h]
theorem zaa0 (h:s[l]?=some (.lst ts)):(R.val (.loc l)).locL s=some (l,ts):=by simp[R.locL,h]
@[simp] theorem isx_exc:isiX sub (.val (.exc d)) (.cls k)=some (sub d k):=rfl
@[simp] theorem isx_int_int:isiX sub (.val (.int i)) .int=some true:=rfl
@[simp] theorem isx_int_bool:isiX sub (.val (.int i)) .bool=some false:=rfl
@[simp] theorem isx_tup_tup:isiX sub (.val (.tup ts)) .tuple=some true:=rfl
@[simp] theorem isx_lst_lst:isiX sub (.val (.lst ts)) .list=some true:=rfl
@[simp] theorem isx_bor_lst:isiX sub (.bor ts) .list=some true:=rfl
@[simp] theorem leave_excX:leave true f (.exc d σ s)=.exc d s:=rfl
@[simp] theorem nox_next:(SR.next σ s).nox=.next σ s:=rfl
@[simp] theorem nox_ret:(SR.ret r s).nox=.ret r s:=rfl
@[simp] theorem onN_non (m:Res R):onN (.val .non) m=m:=rfl
@[simp] theorem tup_tup:(R.val (.tup ts)).tup?=some ts:=rfl
@[simp] theorem b1_int_bl (b:Bool):b1R .int (.val (.bl b))=some (.val (.int (if b then 1 else 0))):=rfl
@[simp] theorem b1_int_int:b1R .int (.val (.int i))=some (.val (.int i)):=rfl
@[simp] theorem b1_list_bor:b1R .list (.bor ts)=some (.val (.lst ts)):=rfl
@[simp] theorem b1_tuple_bor:b1R .tuple (.bor ts)=some (.val (.tup ts)):=rfl
@[simp] theorem b1_tuple_lst:b1R .tuple (.val (.lst ts))=some (.val (.tup ts)):=rfl
theorem zabv:∀bs:List Bool,zaa2 (bs.map T.bl)=some bs
 | []=>rfl
 | b::bs=>by simp[zaa2,zabv bs]
theorem b1_all (bs:List Bool):b1R .all (.val (.lst (bs.map .bl)))=some (.val (.bl (bs.all id))):=by simp[b1R,zabv]
theorem b1_any (bs:List Bool):b1R .any (.val (.lst (bs.map .bl)))=some (.val (.bl (bs.any id))):=by simp[b1R,zabv]
theorem zagh {C:Cf} {e:E} {b:Bool} {s1:Sto} (h:ev C e .t σ s=.ok (.val (.bl b)) s1):ev C (.not e) .t σ s=.ok (.val (.bl (!b))) s1:=by
 unfold ev
 rw[h]
 cases b<;>rfl
theorem zaa5 {C:Cf} {e it:E} {i:Nat} {α:Type} (xs:List α) (g:α→T) (f:α→T) (ha:ev C it .i σ s=.ok (.val (.lst (xs.map g))) s)
  (h:∀x∈xs,ev C e .v (put σ i (g x)) s=.ok (.val (f x)) s):ev C (.comp e (.one i) it) .v σ s=.ok (.val (.lst (xs.map f))) s:=by
 refine ev_comp ha ?_
 clear ha
 induction xs with
 | nil=>rfl
 | cons x xs ih=>
  have h0:=h x (by simp)
  have h1:=ih fun y hy=>h y (by simp[hy])
  rw[List.map_cons,List.map_cons]
  unfold mapRes
  rw[show onO (bindTg σ (.one i) (g x)) (fun σ'=>one (ev C e .v σ' s))=.ok (some (f x)) s by show one (ev C e .v (put σ i (g x)) s)=_;rw[h0];rfl]
  simp only[Res.bind_ok]
  rw[h1]
  rfl
end
theorem ev_b1 {C:Cf} {e:E} {f:Bi} {σ:Fr} {s s1:Sto} {r r':R} (h:ev C e .v σ s=.ok r s1) (hb:b1R f (r.dr s1)=some r'):ev C (.b1 f e) .v σ s=.ok r' s1:=by
 rw[show ev C (.b1 f e) .v σ s=(ev C e .v σ s).bind fun x s1=>.of (b1R f (x.dr s1)) s1 from by simp only[ev,fin_v],h]
 simp[hb]
theorem ev_all {C:Cf} {e:E} {σ:Fr} {s s1:Sto} {α:Type} {xs:List α} {f:α→Bool} (h:ev C e .v σ s=.ok (.val (.lst (xs.map fun n=>.bl (f n)))) s1):ev C (.b1 .all e) .v σ s=.ok (.val (.bl (xs.all f))) s1:=by
 refine ev_b1 h ?_
 have hb:=b1_all (xs.map f)
 rw[List.map_map] at hb
 rw[dr_lst]
 refine hb.trans ?_
 simp[List.all_map]
theorem ev_any {C:Cf} {e:E} {σ:Fr} {s s1:Sto} {α:Type} {xs:List α} {f:α→Bool} (h:ev C e .v σ s=.ok (.val (.lst (xs.map fun n=>.bl (f n)))) s1):ev C (.b1 .any e) .v σ s=.ok (.val (.bl (xs.any f))) s1:=by
 refine ev_b1 h ?_
 have hb:=b1_any (xs.map f)
 rw[List.map_map] at hb
 rw[dr_lst]
 refine hb.trans ?_
 simp[List.any_map]
theorem ev_t_of {C:Cf} {e:E} {f:Bi} {σ:Fr} {s s1:Sto} {b:Bool} (h:ev C (.b1 f e) .v σ s=.ok (.val (.bl b)) s1):ev C (.b1 f e) .t σ s=.ok (.val (.bl b)) s1:=by
 have e1:ev C (.b1 f e) .t σ s=fin .t (ev C (.b1 f e) .v σ s):=by simp only[ev,fin_v]
 rw[e1,h]
 rfl
theorem ev_ife_f {C:Cf} {c a b:E} {σ:Fr} {s s1:Sto} (h:ev C c .t σ s=.ok (.val (.bl false)) s1):ev C (.ife c a b) .v σ s=ev C b .v σ s1:=by
 rw[show ev C (.ife c a b) .v σ s=(ev C c .t σ s).bind fun x s1=>onB x (ev C a .v σ s1) (ev C b .v σ s1) from by simp only[ev,fin_v],h]
 rfl
theorem ev_ife_t {C:Cf} {c a b:E} {σ:Fr} {s s1:Sto} (h:ev C c .t σ s=.ok (.val (.bl true)) s1):ev C (.ife c a b) .v σ s=ev C a .v σ s1:=by
 rw[show ev C (.ife c a b) .v σ s=(ev C c .t σ s).bind fun x s1=>onB x (ev C a .v σ s1) (ev C b .v σ s1) from by simp only[ev,fin_v],h]
 rfl
@[simp] theorem eq_bl (a b:Bool):eqD 8 (.bl a) (.bl b)=some (a==b):=by simp[eqD]
theorem zady {g:Tg} {body:Fr→Sto→SR} (I:Nat→Fr→Sto→Prop):∀(ts:List T) (n:Nat) (σ:Fr) (s:Sto),I n σ s→(∀(m:Nat) (t:T) (σ:Fr) (s:Sto),ts[m]?=some t→I (n+m) σ s→∃σ1 σ2 s2,bindTg σ g t=some σ1∧body σ1 s=.next σ2 s2∧I (n+m+1) σ2 s2)→
  ∃σ' s',forL g body ts σ s=.next σ' s'∧I (n+ts.length) σ' s'
 | [],n,σ,s,h,_=>⟨σ,s,rfl,h⟩
 | t::ts,n,σ,s,h,st=>by
  obtain⟨σ1,σ2,s2,e1,e2,e3⟩:=st 0 t σ s rfl h
  obtain⟨σ',s',e4,e5⟩:=zady I ts (n+1) σ2 s2 e3 fun m u σ s em hm=>by
   obtain⟨a,b,c,c1,c2,c3⟩:=st (m+1) u σ s (by simpa using em) (by rw[show n+(m+1)=n+1+m by omega];exact hm)
   exact⟨a,b,c,c1,c2,by rw[show n+1+m+1=n+(m+1)+1 by omega];exact c3⟩
  refine⟨σ',s',?_,by rw[List.length_cons,show n+(ts.length+1)=n+1+ts.length by omega];exact e5⟩
  show onS (bindTg σ g t) _=_
  rw[e1]
  show(body σ1 s).bind _=_
  rw[e2]
  exact e4
theorem evr_nil {C:Cf} {σ:Fr} {s:Sto}:evr C [] σ s=.ok [] s:=by simp
theorem zafw {C:Cf} {e:E} {es:List E} {σ:Fr} {s s1 s2:Sto} {x:R} {xs:List R} (h:ev C e .v σ s=.ok x s1) (h2:evr C es σ s1=.ok xs s2):evr C (e::es) σ s=.ok (x::xs) s2:=by
 rw[evr.eq_2,h]
 simp only[Res.bind_ok,h2]
theorem ev_call {C:Cf} {es:List E} {f:Nat} {σ:Fr} {s s1 s2:Sto} {r:R} {rs:List R} (h:evr C es σ s=.ok rs s1) (hf:C.cf f rs s1=.ok r s2):ev C (.call f es []) .v σ s=.ok r s2:=by
 rw[show ev C (.call f es []) .v σ s=(evr C es σ s).bind fun rs s1=>C.cf f (rs++([]:List T).map .val) s1 from by simp only[ev,fin_v],h]
 simp only[Res.bind_ok,List.map_nil,List.append_nil,hf]
theorem ev_call_t {C:Cf} {es:List E} {f:Nat} {σ:Fr} {s s1:Sto} {b:Bool} {ds:List T} (h:ev C (.call f es ds) .v σ s=.ok (.val (.bl b)) s1):ev C (.call f es ds) .t σ s=.ok (.val (.bl b)) s1:=by
 have e1:ev C (.call f es ds) .t σ s=fin .t (ev C (.call f es ds) .v σ s):=by simp only[ev,fin_v]
 rw[e1,h]
 rfl
theorem ex_ifs_f {C:Cf} {c:E} {a b:List S} {σ:Fr} {s s1:Sto} (h:ev C c .t σ s=.ok (.val (.bl false)) s1):ex C (.ifs c a b) σ s=exs C b σ s1:=by
 rw[ex.eq_9,h]
 rfl
theorem exs_nil {C:Cf} {σ:Fr} {s:Sto}:exs C [] σ s=.next σ s:=by simp
theorem zaai {fs:List Fn} {sub:Nat→Nat→Bool} {k f:Nat} {F:Fn} {rs:List R} {s:Sto} (hF:fs[f]?=some F) (hl:rs.length=F.pars):run true fs sub whileL (k+1) f rs s=leave true F.fr (exs (cfX fs sub k) F.body (enter F rs) s):=by
 conv=>lhs;unfold run
 rw[hF]
 exact if_pos hl
theorem ex_try_ok {C:Cf} {b h:List S} {c:Nat} {nm:Option Nat} {σ σ1:Fr} {s s1:Sto} (e:exs C b σ s=.next σ1 s1):ex C (.try_ b c nm h) σ s=.next σ1 s1:=by simp[e]
theorem zadl {C:Cf} {b h:List S} {c d i:Nat} {σ σ1 σ2:Fr} {s s1 s2:Sto} (e:exs C b σ s=.exc d σ1 s1) (hs:C.sub d c=true) (e2:exs C h (put σ1 i (.exc d)) s1=.next σ2 s2):ex C (.try_ b c (some i) h) σ s=.next (σ2.set i none) s2:=by
 rw[show ex C (.try_ b c (some i) h) σ s=_ from ex.eq_18 ..]
 rw[e]
 simp only[hs,if_true]
 rw[e2]
 rfl
end IP
end
section
set_option linter.all false
set_option maxRecDepth 100000
namespace IP
namespace Pg
open L2
variable {k:Nat} {s:Sto}
abbrev iL (xs:List Int):List T:=xs.map .int
abbrev tI (xs:List Int):T:=.tup (iL xs)
theorem zaf3 (i:Int):run true fns sub0 whileL (k+1) iz34 [.val (.int i)] s=.ok (.val (.bl true)) s:=by
 rw[zaai (F:=Fz34) rfl rfl]
 simp[bz34]
theorem at_get {ts:List T} {m:Nat} {t:T} (h:ts[m]?=some t):L2.atI ts (m:Int)=some t:=by
 have hl:=(List.getElem?_eq_some_iff.mp h).1
 have h2:=(List.getElem?_eq_some_iff.mp h).2
 simp[L2.atI,L2.ixN,hl,h2]
theorem sub_atT {ts:List T} {n:Nat} {t:T} (h:ts[n]?=some t):subR (.val (.tup ts)) (n:Int)=some t:=at_get h
theorem zad8 (xs:List Int) (hn:xs.length≤1000):run true fns sub0 whileL (k+2) iz28 [.val (tI xs),.val (tI xs)] s=.ok (.val (.bl true)) s:=by
 rw[zaai (F:=Fz28) rfl rfl]
 have hx:exs (cfX fns sub0 (k+1)) bz28 (enter Fz28 [.val (tI xs),.val (tI xs)]) s=.ret (.val (.bl true)) s:=by
  refine(zaag (σ1:=[some (.val (tI xs)),some (.val (tI xs)),none]) (s1:=s) (by simp)).trans ?_
  obtain⟨σ',e,c,rfl⟩:=zaa3 (g:=.one 2) (body:=fun σ s=>exs (cfX fns sub0 (k+1)) zae2 σ s) (s:=s) (fun _ σ=>∃c,σ=[some (.val (tI xs)),some (.val (tI xs)),c]) (rangeT 0 xs.length) 0 [some (.val (tI xs)),some (.val (tI xs)),none] ⟨none,rfl⟩ (by
    rintro m t σ hm ⟨c,rfl⟩
    obtain⟨rfl,hlt⟩:=zaau hm
    have hlt:m < xs.length:=by omega
    have hg:(iL xs)[m]?=some (.int xs[m]):=by simp[hlt]
    have h1:=sub_atT hg
    have w1:=zaf3 (k:=k) (s:=s) xs[m]
    refine⟨[some (.val (tI xs)),some (.val (tI xs)),some (.val (.int m))],[some (.val (tI xs)),some (.val (tI xs)),some (.val (.int m))],by simp[bindTg],by simp[h1,w1],_,rfl⟩)
  refine(zaag (σ1:=[some (.val (tI xs)),some (.val (tI xs)),c]) (s1:=s) ((ex_for (ts:=rangeT 0 xs.length) (s1:=s) (zabo (n:=xs.length) (by simp) hn) (by intro _ h;cases h)).trans e)).trans ?_
  simp
 rw[hx]
 rfl
abbrev tIs (l:List (List Int)):T:=.lst (l.map tI)
theorem r_rows (l:List (List Int)) (hn:l.length≤1000) (hm:∀xs∈l,xs.length≤1000):run true fns sub0 whileL (k+3) iz30 [.val (tIs l),.val (tIs l)] s=.ok (.val (.bl true)) s:=by
 rw[zaai (F:=Fz30) rfl rfl]
 have hx:exs (cfX fns sub0 (k+2)) bz30 (enter Fz30 [.val (tIs l),.val (tIs l)]) s=.ret (.val (.bl true)) s:=by
  refine(zaag (σ1:=[some (.val (tIs l)),some (.val (tIs l)),none]) (s1:=s) (by simp)).trans ?_
  obtain⟨σ',e,c,rfl⟩:=zaa3 (g:=.one 2) (body:=fun σ s=>exs (cfX fns sub0 (k+2)) zagn σ s) (s:=s) (fun _ σ=>∃c,σ=[some (.val (tIs l)),some (.val (tIs l)),c]) (rangeT 0 l.length) 0 [some (.val (tIs l)),some (.val (tIs l)),none] ⟨none,rfl⟩ (by
    rintro m t σ hm' ⟨c,rfl⟩
    obtain⟨rfl,hlt⟩:=zaau hm'
    have hlt:m < l.length:=by omega
    have hg:(l.map tI)[m]?=some (tI l[m]):=by simp[hlt]
    have h1:=sub_at hg
    have w1:=zad8 (k:=k) (s:=s) l[m] (hm _ (List.getElem_mem hlt))
    refine⟨[some (.val (tIs l)),some (.val (tIs l)),some (.val (.int m))],[some (.val (tIs l)),some (.val (tIs l)),some (.val (.int m))],by simp[bindTg],by simp[h1,w1],_,rfl⟩)
  refine(zaag (σ1:=[some (.val (tIs l)),some (.val (tIs l)),c]) (s1:=s) ((ex_for (ts:=rangeT 0 l.length) (s1:=s) (zabo (n:=l.length) (by simp) hn) (by intro _ h;cases h)).trans e)).trans ?_
  simp
 rw[hx]
 rfl
theorem r_at (ns:List Int) (m:Nat):∃v,run true fns sub0 whileL (k+1) iz23 [.val (.lst (iL ns)),.val (.int m)] s=.ok (.val (.int v)) s:=by
 rw[zaai (F:=Fz23) rfl rfl]
 by_cases h:m < ns.length
 ·have hg:(ns.map T.int)[m]?=some (.int ns[m]):=by simp[h]
  have h1:=sub_at hg
  exact⟨ns[m],by simp[bz23,h,h1]⟩
 ·exact⟨0,by simp[bz23,h]⟩
def zaay (v:Int):Prop:=0≤v∧v≤2147483646
theorem zaaz (i:Int) {j:Int} (h:0 < j):0≤Int.fmod i j∧Int.fmod i j < j:=by
 rw[Int.fmod_eq_emod_of_nonneg _ (by omega)]
 exact⟨Int.emod_nonneg _ (by omega),Int.emod_lt_of_pos _ h⟩
theorem zabd (i:Int):zaay (Int.fmod i 2147483647):=by
 have:=zaaz i (j:=2147483647) (by decide)
 unfold zaay
 omega
theorem r_stir (ns:List Int) (n:Nat) (hn:n≤1000):∃row:List Int,row.length=n∧(∀v∈row,zaay v)∧run true fns sub0 whileL (k+2) iz33 [.val (.lst (iL ns)),.val (.int n)] s=.ok (.val (.lst (iL row))) s:=by
 obtain⟨σ',e,st,row,c,rfl,h1,h2,h3⟩:=zaa3 (g:=.one 4) (body:=fun σ s=>exs (cfX fns sub0 (k+1)) bz33_L0 σ s) (s:=s)
  (fun m σ=>∃(st:Int) (row:List Int) (c:Option B),σ=[some (.val (.lst (iL ns))),some (.val (.int n)),some (.val (.int st)),some (.own (iL row)),c]∧zaay st∧row.length=m∧∀v∈row,zaay v) (rangeT 0 n) 0 [some (.val (.lst (iL ns))),some (.val (.int n)),some (.val (.int 7)),some (.own []),none] ⟨7,[],none,rfl,⟨by decide,by decide⟩,rfl,by simp⟩ (by
   rintro m t σ hm ⟨st,row,c,rfl,h1,h2,h3⟩
   obtain⟨rfl,hlt⟩:=zaau hm
   obtain⟨v,hv⟩:=r_at (k:=k) (s:=s) ns m
   have hmul:=op_mul (i:=st) (j:=48271) (zaax (by have:=h1.1;have:=h1.2;omega))
   have hmod:=op_mod (i:=st*48271+v+11) (j:=2147483647) (by decide)
   have hz:=zabd (st*48271+v+11)
   have hlim:row.length < lim:=Nat.lt_of_lt_of_le (show row.length < 1000 by omega) lim_ge
   refine⟨[some (.val (.lst (iL ns))),some (.val (.int n)),some (.val (.int st)),some (.own (iL row)),some (.val (.int m))],[some (.val (.lst (iL ns))),some (.val (.int n)),some (.val (.int (Int.fmod (st*48271+v+11) 2147483647))),some (.own (iL (row++[Int.fmod (st*48271+v+11) 2147483647]))),some (.val (.int m))],by simp[bindTg],by simp[hv,hmul,hmod,ownAt,setOwn,hlim],Int.fmod (st*48271+v+11) 2147483647,row++[Int.fmod (st*48271+v+11) 2147483647],some (.val (.int m)),rfl,hz,by simp[h2],?_⟩
   intro x hx
   rcases List.mem_append.mp hx with z | z
   ·exact h3 x z
   ·rw[List.mem_singleton.mp z];exact hz)
 refine⟨row,?_,h3,?_⟩
 ·rw[h2,zacj];omega
 ·rw[zaai (F:=Fz33) rfl rfl]
  have hx:exs (cfX fns sub0 (k+1)) bz33 (enter Fz33 [.val (.lst (iL ns)),.val (.int n)]) s=.ret (.val (.lst (iL row))) s:=by
   refine(zaag (σ1:=[some (.val (.lst (iL ns))),some (.val (.int n)),some (.val (.int 7)),none,none]) (s1:=s) (by simp)).trans ?_
   refine(zaag (σ1:=[some (.val (.lst (iL ns))),some (.val (.int n)),some (.val (.int 7)),some (.own []),none]) (s1:=s) (by simp[freshE,setOwn])).trans ?_
   refine(zaag ((ex_for (ts:=rangeT 0 n) (s1:=s) (zabo (n:=n) (by simp) hn) (by intro _ h;cases h)).trans e)).trans ?_
   simp[frz]
  rw[hx]
  rfl
theorem row_at {row:List Int} (hr:∀v∈row,zaay v) {m:Nat} (h:m < row.length):∃v,zaay v∧subR (.val (.lst (iL row))) (m:Int)=some (.int v)∧row[m]?=some v:=by
 refine⟨row[m],hr _ (List.getElem_mem h),sub_at (by simp[h]),by simp[h]⟩
end Pg
end IP
end
section
set_option linter.all false
set_option maxRecDepth 100000
namespace IP
namespace Pg
open L2
variable {k:Nat} {s:Sto}
structure Spt where
 (x y a b c d:Int)
abbrev Spt.l (p:Spt):List Int:=[p.x,p.y,p.a,p.b,p.c,p.d]
def Spt.fit (p:Spt):Prop:=(-20000≤p.x∧p.x≤20000)∧(-20000≤p.y∧p.y≤20000)∧(-200≤p.a∧p.a≤200)∧(-200≤p.b∧p.b≤200)∧(-200≤p.c∧p.c≤200)∧(-200≤p.d∧p.d≤200)
def tS (p:Spt):T:=.tup [.int p.x,.int p.y,.int p.a,.int p.b,.int p.c,.int p.d]
abbrev tSs' (l:List Spt):T:=.lst (l.map tS)
theorem zabc {C:Cf} {A0 A1 A2 A3 A4 A6:Option B} {st m:Int} (hst:zaay st) (hm:0 < m∧m≤20000) (xs:List Int) (hx:xs.length < 1000):∃st' v,zaay st'∧(-m≤v∧v≤m)∧
  exs C zafa [A0,A1,A2,A3,A4,some (.val (.int st)),A6,some (.own (iL xs)),some (.val (.int m))] s=.next [A0,A1,A2,A3,A4,some (.val (.int st')),A6,some (.own (iL (xs++[v]))),some (.val (.int m))] s:=by
 have hmul:=op_mul (i:=st) (j:=48271) (zaax (by have:=hst.1;have:=hst.2;omega))
 have hmod:=op_mod (i:=st*48271+11) (j:=2147483647) (by decide)
 have hz:=zabd (st*48271+11)
 generalize Int.fmod (st*48271+11) 2147483647=st' at hmod hz
 have hmul2:=op_mul (i:=2) (j:=m) (zaax (by decide))
 have hmod2:=op_mod (i:=st') (j:=2*m+1) (by omega)
 have hp:=zaaz st' (j:=2*m+1) (by omega)
 have hlim:xs.length < lim:=Nat.lt_of_lt_of_le hx lim_ge
 exact⟨st',Int.fmod st' (2*m+1) - m,hz,⟨by omega,by omega⟩,by simp[hmul,hmod,hmul2,hmod2,ownAt,setOwn,hlim]⟩
theorem r_spots (seed:Int) (n:Nat) (hn:n≤900) {far stp:Int} (hfar:0 < far∧far≤20000) (hstp:0 < stp∧stp≤200):∃l:List Spt,l.length=n∧(∀p∈l,p.fit)∧run true fns sub0 whileL (k+1) iz31 [.val (.int seed),.val (.int n),.val (.int far),.val (.int stp)] s=.ok (.val (tSs' l)) s:=by
 obtain⟨σ',e,st,l,c1,c2,c3,rfl,h1,h2,h3⟩:=zaa3 (g:=.one 6) (body:=fun σ s=>exs (cfX fns sub0 k) bz31_L1 σ s) (s:=s)
  (fun m σ=>∃(st:Int) (l:List Spt) (c1 c2 c3:Option B),σ=[some (.val (.int seed)),some (.val (.int n)),some (.val (.int far)),some (.val (.int stp)),some (.own (l.map tS)),some (.val (.int st)),c1,c2,c3]∧zaay st∧l.length=m∧∀p∈l,p.fit) (rangeT 0 n) 0
  [some (.val (.int seed)),some (.val (.int n)),some (.val (.int far)),some (.val (.int stp)),some (.own []),some (.val (.int (Int.fmod seed 2147483647))),none,none,none] ⟨_,[],none,none,none,rfl,zabd seed,rfl,by simp⟩ (by
   rintro m t σ hm ⟨st,l,c1,c2,c3,rfl,h1,h2,h3⟩
   obtain⟨rfl,hlt⟩:=zaau hm
   obtain⟨s1,x,g1,b1,e1⟩:=zabc (C:=cfX fns sub0 k) (s:=s) (A0:=some (.val (.int seed))) (A1:=some (.val (.int n))) (A2:=some (.val (.int far))) (A3:=some (.val (.int stp))) (A4:=some (.own (l.map tS))) (A6:=some (.val (.int m))) h1 (m:=far) (by omega) [] (by simp)
   obtain⟨s2,y,g2,b2,e2⟩:=zabc (C:=cfX fns sub0 k) (s:=s) (A0:=some (.val (.int seed))) (A1:=some (.val (.int n))) (A2:=some (.val (.int far))) (A3:=some (.val (.int stp))) (A4:=some (.own (l.map tS))) (A6:=some (.val (.int m))) g1 (m:=far) (by omega) [x] (by simp)
   obtain⟨s3,a,g3,b3,e3⟩:=zabc (C:=cfX fns sub0 k) (s:=s) (A0:=some (.val (.int seed))) (A1:=some (.val (.int n))) (A2:=some (.val (.int far))) (A3:=some (.val (.int stp))) (A4:=some (.own (l.map tS))) (A6:=some (.val (.int m))) g2 (m:=stp) (by omega) [x,y] (by simp)
   obtain⟨s4,b,g4,b4,e4⟩:=zabc (C:=cfX fns sub0 k) (s:=s) (A0:=some (.val (.int seed))) (A1:=some (.val (.int n))) (A2:=some (.val (.int far))) (A3:=some (.val (.int stp))) (A4:=some (.own (l.map tS))) (A6:=some (.val (.int m))) g3 (m:=stp) (by omega) [x,y,a] (by simp)
   obtain⟨s5,c,g5,b5,e5⟩:=zabc (C:=cfX fns sub0 k) (s:=s) (A0:=some (.val (.int seed))) (A1:=some (.val (.int n))) (A2:=some (.val (.int far))) (A3:=some (.val (.int stp))) (A4:=some (.own (l.map tS))) (A6:=some (.val (.int m))) g4 (m:=stp) (by omega) [x,y,a,b] (by simp)
   obtain⟨s6,d,g6,b6,e6⟩:=zabc (C:=cfX fns sub0 k) (s:=s) (A0:=some (.val (.int seed))) (A1:=some (.val (.int n))) (A2:=some (.val (.int far))) (A3:=some (.val (.int stp))) (A4:=some (.own (l.map tS))) (A6:=some (.val (.int m))) g5 (m:=stp) (by omega) [x,y,a,b,c] (by simp)
   simp only[List.cons_append,List.nil_append,iL,List.map_cons,List.map_nil] at e1 e2 e3 e4 e5 e6
   have hlim:l.length < lim:=Nat.lt_of_lt_of_le (show l.length < 1000 by omega) lim_ge
   have hloop:forL (.one 8) (fun σ s=>exs (cfX fns sub0 k) zafa σ s) [.int far,.int far,.int stp,.int stp,.int stp,.int stp] [some (.val (.int seed)),some (.val (.int n)),some (.val (.int far)),some (.val (.int stp)),some (.own (l.map tS)),some (.val (.int st)),some (.val (.int m)),some (.own []),c3] s
     = .next [some (.val (.int seed)),some (.val (.int n)),some (.val (.int far)),some (.val (.int stp)),some (.own (l.map tS)),some (.val (.int s6)),some (.val (.int m)),some (.own (iL [x,y,a,b,c,d])),some (.val (.int stp))] s:=by
    simp only[forL,bindTg,onS_some,put,List.set_cons_succ,List.set_cons_zero,SR.bind_next,e1,e2,e3,e4,e5,e6]
    rfl
   refine⟨[some (.val (.int seed)),some (.val (.int n)),some (.val (.int far)),some (.val (.int stp)),some (.own (l.map tS)),some (.val (.int st)),some (.val (.int m)),c2,c3],[some (.val (.int seed)),some (.val (.int n)),some (.val (.int far)),some (.val (.int stp)),some (.own ((l++[Spt.mk x y a b c d]).map tS)),some (.val (.int s6)),some (.val (.int m)),some (.own (iL [x,y,a,b,c,d])),some (.val (.int stp))],by simp[bindTg],?_,s6,l++[Spt.mk x y a b c d],_,_,_,rfl,g6,by simp[h2],?_⟩
   ·refine(zaag (σ1:=[some (.val (.int seed)),some (.val (.int n)),some (.val (.int far)),some (.val (.int stp)),some (.own (l.map tS)),some (.val (.int st)),some (.val (.int m)),some (.own []),c3]) (s1:=s) (by simp[freshE,setOwn])).trans ?_
    refine(zaag ((ex_for (ts:=[.int far,.int far,.int stp,.int stp,.int stp,.int stp]) (s1:=s) (by simp) (by intro _ h;cases h)).trans hloop)).trans ?_
    simp[ownAt,setOwn,hlim,tS]
   ·intro p hp
    rcases List.mem_append.mp hp with z | z
    ·exact h3 p z
    ·rw[List.mem_singleton.mp z]
     simp only[Spt.fit]
     omega)
 refine⟨l,?_,h3,?_⟩
 ·rw[h2,zacj];omega
 ·rw[zaai (F:=Fz31) rfl rfl]
  have hmod:=op_mod (i:=seed) (j:=2147483647) (by decide)
  have hx:exs (cfX fns sub0 k) bz31 (enter Fz31 [.val (.int seed),.val (.int n),.val (.int far),.val (.int stp)]) s=.ret (.val (tSs' l)) s:=by
   refine(zaag (σ1:=[some (.val (.int seed)),some (.val (.int n)),some (.val (.int far)),some (.val (.int stp)),some (.own []),none,none,none,none]) (s1:=s) (by simp[freshE,setOwn])).trans ?_
   refine(zaag (σ1:=[some (.val (.int seed)),some (.val (.int n)),some (.val (.int far)),some (.val (.int stp)),some (.own []),some (.val (.int (Int.fmod seed 2147483647))),none,none,none]) (s1:=s) (by simp[hmod])).trans ?_
   refine(zaag ((ex_for (ts:=rangeT 0 n) (s1:=s) (zabo (n:=n) (by simp) (by omega)) (by intro _ h;cases h)).trans e)).trans ?_
   simp[frz]
  rw[hx]
  rfl
end Pg
end IP
end
section
set_option linter.all false
set_option maxRecDepth 100000
namespace IP
namespace Pg
open L2
variable {k:Nat} {s:Sto}
def wthn (b n:Int):Bool:=decide ((if n < 0 then -n else n)≤b)
theorem zabi (xs:List Int) (b:Int):run true fns sub0 whileL (k+1) iz35 [.val (tI xs),.val (.int b)] s=.ok (.val (.bl (xs.all (wthn b)))) s:=by
 rw[zaai (F:=Fz35) rfl rfl]
 have hc:ev (cfX fns sub0 k) (.comp zaey (.one 2) (.var 0)) .v (enter Fz35 [.val (tI xs),.val (.int b)]) s=.ok (.val (.lst (xs.map fun n=>.bl (wthn b n)))) s:=
  zaa5 (i:=2) xs .int (fun n=>.bl (wthn b n)) (by simp) (fun n _=>by simp[wthn])
 have hx:exs (cfX fns sub0 k) bz35 (enter Fz35 [.val (tI xs),.val (.int b)]) s=.ret (.val (.bl (xs.all (wthn b)))) s:=zagc (ex_ret (ev_all hc))
 rw[hx]
 rfl
theorem zaem (l:List Spt) (h:∀p∈l,p.fit):run true fns sub0 whileL (k+2) iz42 [.val (tSs' l)] s=.ok (.val (.bl true)) s:=by
 rw[zaai (F:=Fz42) rfl rfl]
 have hc:ev (cfX fns sub0 (k+1)) (.comp zaf8 (.one 1) (.var 0)) .v (enter Fz42 [.val (tSs' l)]) s=.ok (.val (.lst (l.map fun _=>.bl ((fun _=>true) ())))) s:=by
  refine zaa5 (i:=1) l tS (fun _=>.bl true) (by simp) (fun p hp=>?_)
  obtain⟨h1,h2,h3,h4,h5,h6⟩:=h p hp
  have c1:cutR (.val (tS p)) none (some 2)=some (.val (tI [p.x,p.y])):=rfl
  have c2:cutR (.val (tS p)) (some 2) none=some (.val (tI [p.a,p.b,p.c,p.d])):=rfl
  have a1:=zabi (k:=k) (s:=s) [p.x,p.y] 20000
  have a2:=zabi (k:=k) (s:=s) [p.a,p.b,p.c,p.d] 200
  have b1:[p.x,p.y].all (wthn 20000)=true:=by simp[wthn];omega
  have b2:[p.a,p.b,p.c,p.d].all (wthn 200)=true:=by simp[wthn];omega
  rw[b1] at a1
  rw[b2] at a2
  have hd:∀s,(R.val (tS p)).dr s=.val (tS p):=fun _=>rfl
  simp only[tI,iL,List.map_cons,List.map_nil] at *
  simp[c1,c2,a1,a2,hd]
 have hx:exs (cfX fns sub0 (k+1)) bz42 (enter Fz42 [.val (tSs' l)]) s=.ret (.val (.bl (l.all fun _=>true))) s:=zagc (ex_ret (ev_all (f:=fun _=>true) hc))
 rw[hx]
 simp
theorem zac8 (c:List Spt) (m:List (List Spt)) (h3:3≤c.length) (h24:c.length≤24) (hm:m.length=c.length) (h4:∀l∈m,l.length≤4) (hc:∀p∈c,p.fit) (hf:∀l∈m,∀p∈l,p.fit):
  run true fns sub0 whileL (k+3) iz36 [.val (tSs' c),.val (.lst (m.map tSs'))] s=.ok (.val .non) s:=by
 rw[zaai (F:=Fz36) rfl rfl]
 have e1:ev (cfX fns sub0 (k+2)) (.comp zaex (.one 2) (.var 1)) .v [some (.val (tSs' c)),some (.val (.lst (m.map tSs'))),none,none] s=.ok (.val (.lst (m.map fun _=>.bl false))) s:=
  zaa5 (i:=2) m tSs' (fun _=>.bl false) (by simp) (fun l hl=>by have:=h4 l hl;simp;omega)
 have e2:ev (cfX fns sub0 (k+2)) (.comp zagd (.one 3) (.bin .add (.lst [(.var 0)]) (.var 1))) .v [some (.val (tSs' c)),some (.val (.lst (m.map tSs'))),none,none] s=.ok (.val (.lst ((c::m).map fun _=>.bl true))) s:=by
  refine zaa5 (i:=3) (c::m) tSs' (fun _=>.bl true) ?_ (fun l hl=>?_)
  ·have hl:1+m.length≤lim:=Nat.le_trans (show 1+m.length≤1000 by omega) lim_ge
   simp[opR,hl]
  ·have hfit:∀p∈l,p.fit:=by
    rcases List.mem_cons.mp hl with rfl | z
    ·exact hc
    ·exact hf l z
   have:=zaem (k:=k) (s:=s) l hfit
   simp[this]
 have f1:=ev_any (f:=fun _=>false) e1
 have f2:=ev_all (f:=fun _=>true) e2
 have hx:exs (cfX fns sub0 (k+2)) bz36 (enter Fz36 [.val (tSs' c),.val (.lst (m.map tSs'))]) s=.next [some (.val (tSs' c)),some (.val (.lst (m.map tSs'))),none,none] s:=by
  refine(zaag (σ1:=[some (.val (tSs' c)),some (.val (.lst (m.map tSs'))),none,none]) (s1:=s) (by simp[show ¬(c.length:Int) < 3 by omega,show ¬(24:Int) < c.length by omega])).trans ?_
  refine(zaag (σ1:=[some (.val (tSs' c)),some (.val (.lst (m.map tSs'))),none,none]) (s1:=s) (by simp[hm])).trans ?_
  refine(zaag (σ1:=[some (.val (tSs' c)),some (.val (.lst (m.map tSs'))),none,none]) (s1:=s) ?_).trans ?_
  ·rw[ex.eq_9,ev_t_of f1]
   simp
  refine(zaag (σ1:=[some (.val (tSs' c)),some (.val (.lst (m.map tSs'))),none,none]) (s1:=s) ?_).trans ?_
  ·rw[ex.eq_9,zagh (ev_t_of f2)]
   simp
  simp
 rw[hx]
 rfl
theorem zaam {z:Int} {r:R} {ts:List T} (hr:(r.dr s).sq2=some ts) (h:0≤z∧z < ts.length):run true fns sub0 whileL (k+1) iz39 [.val (.int z),r] s=.ok (.val .non) s:=by
 rw[zaai (F:=Fz39) rfl rfl]
 have hb:b1R .len (r.dr s)=some (.val (.int ts.length)):=by simp[b1R,hr]
 cases r with
 | val t=>simp[bz39,hb,show ¬z < 0 by omega,show ¬(ts.length:Int)≤z by omega]
 | bor us=>
  simp at hr
  subst hr
  simp[bz39,show ¬z < 0 by omega,show ¬(us.length:Int)≤z by omega]
theorem zaav {z:Int} {r:R} {ts:List T} (hr:(r.dr s).sq2=some ts) (h:z < 0∨ts.length≤z):run true fns sub0 whileL (k+1) iz39 [.val (.int z),r] s=.exc xz22 s:=by
 rw[zaai (F:=Fz39) rfl rfl]
 have hb:b1R .len (r.dr s)=some (.val (.int ts.length)):=by simp[b1R,hr]
 by_cases h0:z < 0
 ·cases r<;>simp[bz39,hb,h0]
 ·cases r with
  | val t=>simp[bz39,hb,h0,show(ts.length:Int)≤z by omega]
  | bor us=>
   simp at hr
   subst hr
   simp[bz39,h0,show(us.length:Int)≤z by omega]
end Pg
end IP
end
section
set_option linter.all false
set_option maxRecDepth 100000
namespace IP
namespace Pg
open L2
variable {k:Nat} {s:Sto}
structure Sm where
 (f1 f2 g1 g2:Int)
 t:Bool
 e:Int
 ps:List (Int×Int)
def pT (p:Int×Int):T:=.tup [.int p.1,.int p.2]
def seT (x:Sm):T:=.tup [.tup [.int x.f1,.int x.f2],.tup [.int x.g1,.int x.g2],.bl x.t,.int x.e,.tup (x.ps.map pT)]
def paT (x:Sm):T:=.tup [.tup [.int x.f1,.int x.f2],.tup [.int x.g1,.int x.g2],.bl x.t,.int x.e,.lst (x.ps.map pT)]
structure Bk where
 size:Int
 pc:List (List Spt)
 mrk:List (List (List Spt))
 sm:List Sm
def mkT (m:List (List Spt)):T:=.lst (m.map tSs')
structure Ad where
 (o a b c:Nat)
 ls:List Nat
abbrev Ad.fp (A:Ad):List Nat:=A.o::A.a::A.b::A.c::A.ls
structure BAt (s:Sto) (A:Ad) (B:Bk):Prop where
 ins:s[A.o]?=some (.ins 0 [some (.int B.size),some (.loc A.a),some (.loc A.b),some (.loc A.c)])
 pcs:s[A.a]?=some (.lst (A.ls.map .loc))
 mks:s[A.b]?=some (.lst (B.mrk.map mkT))
 sms:s[A.c]?=some (.lst (B.sm.map seT))
 len:A.ls.length=B.pc.length
 pc:∀(i l:Nat) (c:List Spt),A.ls[i]?=some l→B.pc[i]?=some c→s[l]?=some (.lst (c.map tS))
 nd:A.fp.Nodup
abbrev slf (A:Ad):R:=.val (.loc A.o)
def Keep (fp:List Nat) (s s':Sto):Prop:=s.length≤s'.length∧∀l,l < s.length→l∉fp→s'[l]?=s[l]?
theorem Keep.refl (fp:List Nat) (s:Sto):Keep fp s s:=⟨Nat.le_refl _,fun _ _ _=>rfl⟩
section
variable {A:Ad} {B:Bk} (h:BAt s A B)
include h
theorem BAt.f0:fldR s (.val (.loc A.o)) 0 0=some (.int B.size):=by rw[zab0 h.ins];rfl
theorem BAt.f1:fldR s (.val (.loc A.o)) 0 1=some (.loc A.a):=by rw[zab0 h.ins];rfl
theorem BAt.f2:fldR s (.val (.loc A.o)) 0 2=some (.loc A.b):=by rw[zab0 h.ins];rfl
theorem BAt.f3:fldR s (.val (.loc A.o)) 0 3=some (.loc A.c):=by rw[zab0 h.ins];rfl
theorem BAt.li:(R.val (.loc A.o)).locI s 0=some (A.o,[some (.int B.size),some (.loc A.a),some (.loc A.b),some (.loc A.c)]):=zafg h.ins
theorem BAt.l1:(R.val (.loc A.a)).locL s=some (A.a,A.ls.map .loc):=zaa0 h.pcs
theorem BAt.l2:(R.val (.loc A.b)).locL s=some (A.b,B.mrk.map mkT):=zaa0 h.mks
theorem BAt.l3:(R.val (.loc A.c)).locL s=some (A.c,B.sm.map seT):=zaa0 h.sms
theorem BAt.d1:(R.val (.loc A.a)).dr s=.bor (A.ls.map .loc):=dr_loc h.pcs
theorem BAt.d2:(R.val (.loc A.b)).dr s=.bor (B.mrk.map mkT):=dr_loc h.mks
theorem BAt.d3:(R.val (.loc A.c)).dr s=.bor (B.sm.map seT):=dr_loc h.sms
theorem BAt.lt:∀l∈A.fp,l < s.length:=by
 intro l hl
 rcases List.mem_cons.mp hl with rfl | hl
 ·exact(List.getElem?_eq_some_iff.mp h.ins).1
 rcases List.mem_cons.mp hl with rfl | hl
 ·exact(List.getElem?_eq_some_iff.mp h.pcs).1
 rcases List.mem_cons.mp hl with rfl | hl
 ·exact(List.getElem?_eq_some_iff.mp h.mks).1
 rcases List.mem_cons.mp hl with rfl | hl
 ·exact(List.getElem?_eq_some_iff.mp h.sms).1
 obtain⟨i,hi⟩:=List.getElem?_of_mem hl
 have hil:=(List.getElem?_eq_some_iff.mp hi).1
 have hc:B.pc[i]?=some (B.pc[i]'(by rw[← h.len];exact hil)):=by simp
 exact(List.getElem?_eq_some_iff.mp (h.pc i l _ hi hc)).1
theorem BAt.ne:(A.o≠A.a∧A.o≠A.b∧A.o≠A.c∧A.o∉A.ls)∧(A.a≠A.b∧A.a≠A.c∧A.a∉A.ls)∧(A.b≠A.c∧A.b∉A.ls)∧A.c∉A.ls:=by
 have:=h.nd
 simp only[Ad.fp,List.nodup_cons,List.mem_cons,not_or] at this
 obtain⟨⟨a1,a2,a3,a4⟩,⟨b1,b2,b3⟩,⟨c1,c2⟩,d1,_⟩:=this
 exact⟨⟨a1,a2,a3,a4⟩,⟨b1,b2,b3⟩,⟨c1,c2⟩,d1⟩
theorem BAt.other {s':Sto} (hs:∀l∈A.fp,s'[l]?=s[l]?):BAt s' A B where
 ins:=by rw[hs _ (by simp[Ad.fp])];exact h.ins
 pcs:=by rw[hs _ (by simp[Ad.fp])];exact h.pcs
 mks:=by rw[hs _ (by simp[Ad.fp])];exact h.mks
 sms:=by rw[hs _ (by simp[Ad.fp])];exact h.sms
 len:=h.len
 pc:=fun i l c hl hc=>by rw[hs _ (by have:=List.mem_of_getElem? hl;simp[Ad.fp,this])];exact h.pc i l c hl hc
 nd:=h.nd
end
theorem set_ne {s:Sto} {i j:Nat} {c:Cell} (h:i≠j):(s.set i c)[j]?=s[j]?:=List.getElem?_set_ne h
theorem set_eq {s:Sto} {i:Nat} {c:Cell} (h:i < s.length):(s.set i c)[i]?=some c:=List.getElem?_set_self h
theorem r_init (s:Sto):run true fns sub0 whileL (k+1) iz4 [.val (.loc s.length)] (s++[.ins 0 [none,none,none,none]])=.ok (.val .non) (s++[.ins 0 [some (.int 0),some (.loc (s.length+1)),some (.loc (s.length+2)),some (.loc (s.length+3))],.lst [],.lst [],.lst []]):=by
 rw[zaai (F:=Fz4) rfl rfl]
 have q:∀(fs:List (Option T)) (r:Sto),(R.val (.loc s.length)).locI (s++.ins 0 fs::r) 0=some (s.length,fs):=fun fs r=>zafg (by simp)
 have e:∀(c d:Cell) (r:Sto),(s++c::r).set s.length d=s++d::r:=fun c d r=>by simp
 simp[bz4,q,e]
theorem ev_new {σ:Fr} (s:Sto):∃(s':Sto) (A:Ad),ev (cfX fns sub0 (k+1)) (.new 0 iz4 4 [] []) .v σ s=.ok (slf A) s'∧BAt s' A ⟨0,[],[],[]⟩∧Keep [] s s'∧A.ls=[]∧∀l∈A.fp,s.length≤l:=by
 have e0:∀n,(s++[Cell.ins 0 [some (T.int 0),some (.loc (s.length+1)),some (.loc (s.length+2)),some (.loc (s.length+3))],.lst [],.lst [],.lst []])[s.length+n]?=([Cell.ins 0 [some (T.int 0),some (.loc (s.length+1)),some (.loc (s.length+2)),some (.loc (s.length+3))],.lst [],.lst [],.lst []]:List Cell)[n]?:=fun n=>by
  rw[List.getElem?_append_right (by omega),Nat.add_sub_cancel_left]
 refine⟨s++[.ins 0 [some (.int 0),some (.loc (s.length+1)),some (.loc (s.length+2)),some (.loc (s.length+3))],.lst [],.lst [],.lst []],⟨s.length,s.length+1,s.length+2,s.length+3,[]⟩,?_,⟨e0 0,e0 1,e0 2,e0 3,rfl,fun i l c h=>by simp at h,?_⟩,⟨by simp,?_⟩,rfl,?_⟩
 ·have h:=r_init (k:=k) s
  simp[h]
 ·simp[Ad.fp]
 ·intro l hl _
  rw[List.getElem?_append_left hl]
 ·intro l hl
  simp[Ad.fp] at hl
  omega
theorem zaen {A:Ad} {B:Bk} (h:BAt s A B) (c:List Spt) (m:List (List Spt)) {t:T} (ht:t=mkT m∨(t=.non∧m=c.map fun _=>[])) (hB:B.pc.length < 10) (h3:3≤c.length) (h24:c.length≤24) (hm:m.length=c.length) (h4:∀l∈m,l.length≤4) (hc:∀p∈c,p.fit) (hf:∀l∈m,∀p∈l,p.fit) (hk:B.mrk.length≤10):
  ∃s',run true fns sub0 whileL (k+4) iz5 [slf A,.val (tSs' c),.val t] s=.ok (.val (.int B.pc.length)) s'∧BAt s' ⟨A.o,A.a,A.b,A.c,A.ls++[s.length]⟩ ⟨B.size,B.pc++[c],B.mrk++[m],B.sm⟩∧Keep A.fp s s'∧s'.length=s.length+1:=by
 have hcp:=zac8 (k:=k) (s:=s) c m h3 h24 hm h4 hc hf
 have hcomp:ev (cfX fns sub0 (k+3)) (.ife (.cmp .isN (.var 2) (.cst .non)) (.comp ez5_C0 (.one 4) (.var 1)) (.comp ez5_C1 (.one 5) (.var 2))) .v [some (.val (.loc A.o)),some (.val (tSs' c)),some (.val t),none,none,none] s=.ok (.val (mkT m)) s:=by
  rcases ht with rfl | ⟨rfl,rfl⟩
  ·have:ev (cfX fns sub0 (k+3)) (.cmp .isN (.var 2) (.cst .non)) .t [some (.val (.loc A.o)),some (.val (tSs' c)),some (.val (mkT m)),none,none,none] s=.ok (.val (.bl false)) s:=by simp[mkT,R.isNon]
   rw[ev_ife_f this]
   exact zaa5 (i:=5) m tSs' tSs' (by simp[mkT]) (fun l hl=>by simp)
  ·have:ev (cfX fns sub0 (k+3)) (.cmp .isN (.var 2) (.cst .non)) .t [some (.val (.loc A.o)),some (.val (tSs' c)),some (.val .non),none,none,none] s=.ok (.val (.bl true)) s:=by simp[R.isNon]
   rw[ev_ife_t this,zaa5 (i:=4) c tS (fun _=>.lst []) (by simp) (fun l hl=>by simp)]
   simp[mkT]
 have hl1:A.ls.length < lim:=Nat.lt_of_lt_of_le (show A.ls.length < 1000 by have:=h.len;omega) lim_ge
 have hl2:B.mrk.length < lim:=Nat.lt_of_lt_of_le (show B.mrk.length < 1000 by omega) lim_ge
 have lt:=h.lt
 obtain⟨⟨n1,n2,n3,n4⟩,⟨n5,n6,n7⟩,⟨n8,n9⟩,n10⟩:=h.ne
 have ltA:=lt A.a (by simp[Ad.fp])
 have ltB:=lt A.b (by simp[Ad.fp])
 have ltC:=lt A.c (by simp[Ad.fp])
 have ltO:=lt A.o (by simp[Ad.fp])
 have app:∀l,l < s.length→(s++[Cell.lst (c.map tS)])[l]?=s[l]?:=fun l hl=>List.getElem?_append_left hl
 refine⟨((s++[Cell.lst (c.map tS)]).set A.a (Cell.lst (A.ls.map T.loc++[T.loc s.length]))).set A.b (Cell.lst (B.mrk.map mkT++[mkT m])),?_,⟨?_,?_,?_,?_,by simp[h.len],fun i l c' hl hc'=>?_,?_⟩,⟨by simp,fun l hl hn=>?_⟩,by simp⟩
 ·rw[zaai (F:=Fz5) rfl rfl]
  have hx:exs (cfX fns sub0 (k+3)) bz5 (enter Fz5 [slf A,.val (tSs' c),.val t]) s=.ret (.val (.int B.pc.length)) (((s++[Cell.lst (c.map tS)]).set A.a (Cell.lst (A.ls.map T.loc++[T.loc s.length]))).set A.b (Cell.lst (B.mrk.map mkT++[mkT m]))):=by
   refine(zaag (σ1:=[some (.val (.loc A.o)),some (.val (tSs' c)),some (.val t),none,none,none]) (s1:=s) (by simp[h.f1,h.d1,h.len,show ¬(10:Int)≤B.pc.length by omega])).trans ?_
   refine(zaag (σ1:=[some (.val (.loc A.o)),some (.val (tSs' c)),some (.val t),some (.val (mkT m)),none,none]) (s1:=s) (ex_asg hcomp)).trans ?_
   refine(zaag (σ1:=[some (.val (.loc A.o)),some (.val (tSs' c)),some (.val t),some (.val (mkT m)),none,none]) (s1:=s) (by simp[mkT] at *;simp[hcp])).trans ?_
   have a1:(R.val (.loc A.a)).locL (s++[Cell.lst (c.map tS)])=some (A.a,A.ls.map .loc):=zaa0 (by rw[app _ ltA];exact h.pcs)
   refine(zaag (σ1:=[some (.val (.loc A.o)),some (.val (tSs' c)),some (.val t),some (.val (mkT m)),none,none]) (s1:=(s++[Cell.lst (c.map tS)]).set A.a (Cell.lst (A.ls.map T.loc++[T.loc s.length]))) (by simp[h.f1,h.l1,a1,hl1])).trans ?_
   have b0:fldR ((s++[Cell.lst (c.map tS)]).set A.a (Cell.lst (A.ls.map T.loc++[T.loc s.length]))) (.val (.loc A.o)) 0 2=some (.loc A.b):=by
    rw[zab0 (by rw[set_ne (Ne.symm n1),app _ ltO];exact h.ins)];rfl
   have b1:(R.val (.loc A.b)).locL ((s++[Cell.lst (c.map tS)]).set A.a (Cell.lst (A.ls.map T.loc++[T.loc s.length])))=some (A.b,B.mrk.map mkT):=zaa0 (by rw[set_ne n5,app _ ltB];exact h.mks)
   refine(zaag (σ1:=[some (.val (.loc A.o)),some (.val (tSs' c)),some (.val t),some (.val (mkT m)),none,none]) (s1:=((s++[Cell.lst (c.map tS)]).set A.a (Cell.lst (A.ls.map T.loc++[T.loc s.length]))).set A.b (Cell.lst (B.mrk.map mkT++[mkT m]))) (by simp[b0,b1,hl2])).trans ?_
   have c0:fldR (((s++[Cell.lst (c.map tS)]).set A.a (Cell.lst (A.ls.map T.loc++[T.loc s.length]))).set A.b (Cell.lst (B.mrk.map mkT++[mkT m]))) (.val (.loc A.o)) 0 1=some (.loc A.a):=by
    rw[zab0 (by rw[set_ne (Ne.symm n2),set_ne (Ne.symm n1),app _ ltO];exact h.ins)];rfl
   have c1:(R.val (.loc A.a)).dr (((s++[Cell.lst (c.map tS)]).set A.a (Cell.lst (A.ls.map T.loc++[T.loc s.length]))).set A.b (Cell.lst (B.mrk.map mkT++[mkT m])))=.bor (A.ls.map .loc++[.loc s.length]):=dr_loc (by rw[set_ne (Ne.symm n5),set_eq (by simp;omega)])
   simp[c0,c1,h.len]
  rw[hx]
  rfl
 ·show _=_
  rw[set_ne (Ne.symm n2),set_ne (Ne.symm n1),app _ ltO];exact h.ins
 ·show _=_
  rw[set_ne (Ne.symm n5),set_eq (by simp;omega)];simp
 ·show _=_
  rw[set_eq (by simp;omega)];simp
 ·show _=_
  rw[set_ne n8,set_ne n6,app _ ltC];exact h.sms
 ·have hl:(A.ls++[s.length])[i]?=some l:=hl
  have hc':(B.pc++[c])[i]?=some c':=hc'
  by_cases hi:i < A.ls.length
  ·rw[List.getElem?_append_left hi] at hl
   rw[List.getElem?_append_left (by rw[← h.len];exact hi)] at hc'
   have hm':=List.mem_of_getElem? hl
   rw[set_ne (fun e=>n9 (by rw[e];exact hm')),set_ne (fun e=>n7 (by rw[e];exact hm')),app _ (lt l (by simp[Ad.fp,hm']))]
   exact h.pc i l c' hl hc'
  ·have hi2:=(List.getElem?_eq_some_iff.mp hl).1
   have:i=A.ls.length:=by simp at hi2;omega
   subst this
   simp at hl
   subst hl
   rw[h.len] at hc'
   simp at hc'
   subst hc'
   rw[set_ne (by omega),set_ne (by omega)]
   simp
 ·have nd:=h.nd
  have hn:s.length∉A.fp:=fun q=>Nat.lt_irrefl _ (lt _ q)
  show(A.o::A.a::A.b::A.c::(A.ls++[s.length])).Nodup
  rw[show A.o::A.a::A.b::A.c::(A.ls++[s.length])=A.fp++[s.length] from rfl]
  rw[List.nodup_append]
  exact⟨nd,by simp,fun a ha b hb=>by simp at hb;subst hb;exact fun e=>hn (e▸ha)⟩
 ·simp only[Ad.fp,List.mem_cons,not_or] at hn
  rw[set_ne (Ne.symm hn.2.2.1),set_ne (Ne.symm hn.2.1),app _ hl]
theorem BAt.pAt {A:Ad} {B:Bk} (h:BAt s A B) {i:Nat} {c:List Spt} (hc:B.pc[i]?=some c):∃l,A.ls[i]?=some l∧s[l]?=some (.lst (c.map tS)):=by
 have hi:i < A.ls.length:=by rw[h.len];exact(List.getElem?_eq_some_iff.mp hc).1
 have e:A.ls[i]?=some A.ls[i]:=by simp[hi]
 exact⟨_,e,h.pc i _ c e hc⟩
theorem zac4 {A:Ad} {B:Bk} (h:BAt s A B) {i:Nat} {c:List Spt} (hc:B.pc[i]?=some c):run true fns sub0 whileL (k+2) iz18 [slf A,.val (.int i)] s=.ok (.val (tSs' c)) s:=by
 rw[zaai (F:=Fz18) rfl rfl]
 obtain⟨l,el,es⟩:=h.pAt hc
 have hi:i < A.ls.length:=(List.getElem?_eq_some_iff.mp el).1
 have hct:=zaam (k:=k) (s:=s) (r:=.val (.loc A.a)) (ts:=A.ls.map .loc) (z:=i) (by rw[h.d1];rfl) ⟨by omega,by simp[hi]⟩
 have hg:=zabe (ts:=A.ls.map T.loc) (n:=i) (t:=.loc l) (by simp[el])
 have hd:=dr_loc es
 simp[bz18,h.f1,h.d1,hct,hg,hd]
theorem zae6 {A:Ad} {B:Bk} (h:BAt s A B) {i j:Nat} {m:List (List Spt)} {l:List Spt} (hm:B.mrk[i]?=some m) (hj:m[j]?=some l):run true fns sub0 whileL (k+2) iz11 [slf A,.val (.int i),.val (.int j)] s=.ok (.val (tSs' l)) s:=by
 rw[zaai (F:=Fz11) rfl rfl]
 have hi:i < B.mrk.length:=(List.getElem?_eq_some_iff.mp hm).1
 have hj':j < m.length:=(List.getElem?_eq_some_iff.mp hj).1
 have hc:=zaam (k:=k) (s:=s) (r:=.val (.loc A.b)) (ts:=B.mrk.map mkT) (z:=i) (by rw[h.d2];rfl) ⟨by omega,by simp[hi]⟩
 have hg:=zabe (ts:=B.mrk.map mkT) (n:=i) (t:=mkT m) (by simp[hm])
 have hc2:=zaam (k:=k) (s:=s) (r:=.val (mkT m)) (ts:=m.map tSs') (z:=j) rfl ⟨by omega,by simp[hj']⟩
 have hg2:subR (.val (mkT m)) (j:Int)=some (tSs' l):=sub_at (by simp[hj])
 have hd:∀s,(R.val (mkT m)).dr s=.val (mkT m):=fun _=>rfl
 simp[bz11,h.f2,h.d2,hc,hg,hc2,hd,hg2]
end Pg
end IP
end
section
set_option linter.all false
set_option maxRecDepth 100000
namespace IP
namespace Pg
open L2
variable {k:Nat} {s:Sto}
def plc (p:Spt) (z:Int):List Int:=if z < 0 then [p.x+-z*p.c,p.y+-z*p.d] else [p.x+z*p.a,p.y+z*p.b]
theorem zabg {z:Int} (h:-6≤z∧z≤6):run true fns sub0 whileL (k+1) iz38 [.val (.int z)] s=.ok (.val .non) s:=by
 rw[zaai (F:=Fz38) rfl rfl]
 simp[bz38,show ¬z < -6 by omega,show ¬6 < z by omega]
theorem zaca {z:Int} (h:z < -6∨6 < z):run true fns sub0 whileL (k+1) iz38 [.val (.int z)] s=.exc xz3 s:=by
 rw[zaai (F:=Fz38) rfl rfl]
 by_cases h1:z < -6
 ·simp[bz38,h1]
 ·simp[bz38,h1,show 6 < z by omega]
theorem r_moved {p:Spt} {a u t:Int} (ht:0≤t∧t≤6):run true fns sub0 whileL (k+1) iz40 [.val (tS p),.val (.int a),.val (.int u),.val (.int t)] s=.ok (.val (tI [p.x+t*a,p.y+t*u])) s:=by
 rw[zaai (F:=Fz40) rfl rfl]
 have m1:=op_mul (i:=t) (j:=a) (zaax (by omega))
 have m2:=op_mul (i:=t) (j:=u) (zaax (by omega))
 have h0:subR (.val (tS p)) 0=some (.int p.x):=rfl
 have h1:subR (.val (tS p)) 1=some (.int p.y):=rfl
 simp[bz40,tS,m1,m2]
 simp[tS] at h0 h1
 simp[h0,h1]
theorem r_place (p:Spt) {z:Int} (h:-6≤z∧z≤6):run true fns sub0 whileL (k+2) iz41 [.val (tS p),.val (.int z)] s=.ok (.val (tI (plc p z))) s:=by
 rw[zaai (F:=Fz41) rfl rfl]
 have hc:=zabg (k:=k) (s:=s) h
 have h2:subR (.val (tS p)) 2=some (.int p.a):=rfl
 have h3:subR (.val (tS p)) 3=some (.int p.b):=rfl
 have h4:subR (.val (tS p)) 4=some (.int p.c):=rfl
 have h5:subR (.val (tS p)) 5=some (.int p.d):=rfl
 by_cases hz:z < 0
 ·have hm:=r_moved (k:=k) (s:=s) (p:=p) (a:=p.c) (u:=p.d) (t:=-z) (by omega)
  simp only[tS] at *
  simp[bz41,hc,hz,h4,h5,hm,plc]
 ·have hm:=r_moved (k:=k) (s:=s) (p:=p) (a:=p.a) (u:=p.b) (t:=z) (by omega)
  simp only[tS] at *
  simp[bz41,hc,hz,h2,h3,hm,plc]
theorem zadf {C:Cf} {body:List S} {a b:Int} {p:Spt} {z0 x y:Int} {c:Option B} (n:Nat)
  (hb:∀(x y:Int) (m:Nat),exs C body [some (.val (tS p)),some (.val (.int z0)),some (.val (.int x)),some (.val (.int y)),some (.val (.int m))] s=.next [some (.val (tS p)),some (.val (.int z0)),some (.val (.int (x+a))),some (.val (.int (y+b))),some (.val (.int m))] s):
  ∃c',forL (.one 4) (fun σ s=>exs C body σ s) (rangeT 0 n) [some (.val (tS p)),some (.val (.int z0)),some (.val (.int x)),some (.val (.int y)),c] s=.next [some (.val (tS p)),some (.val (.int z0)),some (.val (.int (x+n*a))),some (.val (.int (y+n*b))),c'] s:=by
 obtain⟨σ',e,c',rfl⟩:=zaa3 (g:=.one 4) (body:=fun σ s=>exs C body σ s) (s:=s) (fun m σ=>∃c',σ=[some (.val (tS p)),some (.val (.int z0)),some (.val (.int (x+m*a))),some (.val (.int (y+m*b))),c']) (rangeT 0 n) 0
  [some (.val (tS p)),some (.val (.int z0)),some (.val (.int x)),some (.val (.int y)),c] ⟨c,by simp⟩ (by
   rintro m t σ hm ⟨c,rfl⟩
   obtain⟨rfl,hlt⟩:=zaau hm
   refine⟨_,_,rfl,?_,some (.val (.int m)),rfl⟩
   show exs C body [some (.val (tS p)),some (.val (.int z0)),some (.val (.int (x+((0+m:Nat):Int)*a))),some (.val (.int (y+((0+m:Nat):Int)*b))),some (.val (.int (0+m)))] s=_
   rw[Int.zero_add,hb]
   have e1:x+((0+m:Nat):Int)*a+a=x+((0+m+1:Nat):Int)*a:=by
    rw[show((0+m+1:Nat):Int)=((0+m:Nat):Int)+1 by omega,Int.add_mul];omega
   have e2:y+((0+m:Nat):Int)*b+b=y+((0+m+1:Nat):Int)*b:=by
    rw[show((0+m+1:Nat):Int)=((0+m:Nat):Int)+1 by omega,Int.add_mul];omega
   rw[e1,e2])
 rw[zacj] at e
 simp at e
 exact⟨c',e⟩
theorem zada {z:Int} (h:z≤0):rangeT 0 z=[]:=by unfold rangeT;simp[show z.toNat=0 by omega]
theorem bnd6 {z:Int} (h:-6≤z∧z≤6):bnd z=true:=by unfold bnd;simp;omega
theorem lim6 {z:Int} (h:z≤6):decide (z≤(lim:Int))=true:=decide_eq_true (Int.le_trans h (by decide))
theorem zael (p:Spt) {z:Int} (h:-6≤z∧z≤6):run true fns sub0 whileL (k+1) iz29 [.val (tS p),.val (.int z)] s=.ok (.val (tI (plc p z))) s:=by
 rw[zaai (F:=Fz29) rfl rfl]
 have h0:subR (.val (tS p)) 0=some (.int p.x):=rfl
 have h1:subR (.val (tS p)) 1=some (.int p.y):=rfl
 have h2:subR (.val (tS p)) 2=some (.int p.a):=rfl
 have h3:subR (.val (tS p)) 3=some (.int p.b):=rfl
 have h4:subR (.val (tS p)) 4=some (.int p.c):=rfl
 have h5:subR (.val (tS p)) 5=some (.int p.d):=rfl
 have hd:∀s,(R.val (tS p)).dr s=.val (tS p):=fun _=>rfl
 have hx:exs (cfX fns sub0 k) bz29 (enter Fz29 [.val (tS p),.val (.int z)]) s=.ret (.val (tI (plc p z))) s:=by
  refine(zaag (σ1:=[some (.val (tS p)),some (.val (.int z)),some (.val (.int p.x)),none,none]) (s1:=s) (by simp[h0,hd])).trans ?_
  refine(zaag (σ1:=[some (.val (tS p)),some (.val (.int z)),some (.val (.int p.x)),some (.val (.int p.y)),none]) (s1:=s) (by simp[h1,hd])).trans ?_
  by_cases hz:z < 0
  ·refine(zaag (σ1:=[some (.val (tS p)),some (.val (.int z)),some (.val (.int p.x)),some (.val (.int p.y)),none]) (s1:=s) ((ex_for (ts:=rangeT 0 z) (s1:=s) ((zab7 (j:=z) (s1:=s) (by simp)).trans (ite_t (and_t (bnd6 h) (lim6 h.2)))) (by intro _ h;cases h)).trans (by rw[zada (by omega)];rfl))).trans ?_
   obtain⟨c',e⟩:=zadf (C:=cfX fns sub0 k) (s:=s) (body:=bz29_L1) (a:=p.c) (b:=p.d) (p:=p) (z0:=z) (x:=p.x) (y:=p.y) (c:=none) (-z).toNat (fun x y m=>by simp[h4,h5,hd])
   rw[show(((-z).toNat:Nat):Int)=-z by omega] at e
   refine(zaag ((ex_for (ts:=rangeT 0 (-z)) (s1:=s) ((zab7 (j:=-z) (s1:=s) (by simp)).trans (ite_t (and_t (bnd6 (by omega)) (lim6 (by omega))))) (by intro _ h;cases h)).trans e)).trans ?_
   simp[plc,hz]
  ·obtain⟨c',e⟩:=zadf (C:=cfX fns sub0 k) (s:=s) (body:=bz29_L0) (a:=p.a) (b:=p.b) (p:=p) (z0:=z) (x:=p.x) (y:=p.y) (c:=none) z.toNat (fun x y m=>by simp[h2,h3,hd])
   rw[show((z.toNat:Nat):Int)=z by omega] at e
   refine(zaag ((ex_for (ts:=rangeT 0 z) (s1:=s) ((zab7 (j:=z) (s1:=s) (by simp)).trans (ite_t (and_t (bnd6 h) (lim6 h.2)))) (by intro _ h;cases h)).trans e)).trans ?_
   refine(zaag (σ1:=[some (.val (tS p)),some (.val (.int z)),some (.val (.int (p.x+z*p.a))),some (.val (.int (p.y+z*p.b))),c']) (s1:=s) ((ex_for (ts:=rangeT 0 (-z)) (s1:=s) ((zab7 (j:=-z) (s1:=s) (by simp)).trans (ite_t (and_t (bnd6 (by omega)) (lim6 (by omega))))) (by intro _ h;cases h)).trans (by rw[zada (by omega)];rfl))).trans ?_
   simp[plc,hz]
 rw[hx]
 rfl
abbrev atSz (l:List Spt) (z:Int):List (List Int):=l.map fun p=>plc p z
def pX (p:Spt) (z:Int):Int:=if z < 0 then p.x+-z*p.c else p.x+z*p.a
def pY (p:Spt) (z:Int):Int:=if z < 0 then p.y+-z*p.d else p.y+z*p.b
theorem plc_xy (p:Spt) (z:Int):plc p z=[pX p z,pY p z]:=by
 unfold plc pX pY
 split<;>rfl
def sq2 (p q:Spt) (z:Int):Int:=(pX q z - pX p z)*(pX q z - pX p z)+(pY q z - pY p z)*(pY q z - pY p z)
end Pg
end IP
end
section
set_option linter.all false
set_option maxRecDepth 100000
namespace IP
namespace Pg
open L2
variable {k:Nat} {s:Sto}
def meant (B:Bk):T→Option Int
 | .non=>some B.size
 | .int z=>some z
 | _=>none
theorem r_places {A:Ad} {B:Bk} (hb:BAt s A B) (l:List Spt) {v t:T} {z:Int} (hv:v=.lst (l.map tS)∨v=.tup (l.map tS)) (ht:meant B t=some z) (hz:-6≤z∧z≤6):run true fns sub0 whileL (k+3) iz14 [slf A,.val v,.val t] s=.ok (.val (tIs (atSz l z))) s:=by
 rw[zaai (F:=Fz14) rfl rfl]
 have hc:=zabg (k:=k+1) (s:=s) hz
 have hcomp:ev (cfX fns sub0 (k+2)) (.comp zafp (.one 4) (.var 1)) .v [some (.val (.loc A.o)),some (.val v),some (.val t),some (.val (.int z)),none] s=.ok (.val (.lst (l.map fun p=>tI (plc p z)))) s:=
  zaa5 (i:=4) l tS (fun p=>tI (plc p z)) (by rcases hv with rfl | rfl<;>simp) (fun p hp=>by have:=r_place (k:=k) (s:=s) p hz;simp[this])
 have hx:exs (cfX fns sub0 (k+2)) bz14 (enter Fz14 [slf A,.val v,.val t]) s=.ret (.val (tIs (atSz l z))) s:=by
  refine(zaag (σ1:=[some (.val (.loc A.o)),some (.val v),some (.val t),some (.val (.int z)),none]) (s1:=s) ?_).trans ?_
  ·unfold meant at ht
   split at ht
   ·cases ht;simp[R.isNon,hb.f0]
   ·cases ht;simp[R.isNon]
   ·cases ht
  refine(zaag (σ1:=[some (.val (.loc A.o)),some (.val v),some (.val t),some (.val (.int z)),none]) (s1:=s) (by simp[hc])).trans ?_
  refine zagc (ex_ret (hcomp.trans ?_))
  simp[Function.comp_def]
 rw[hx]
 rfl
theorem r_corners {A:Ad} {B:Bk} (hb:BAt s A B) {i:Nat} {c:List Spt} (h:B.pc[i]?=some c) {t:T} {z:Int} (ht:meant B t=some z) (hz:-6≤z∧z≤6):run true fns sub0 whileL (k+4) iz9 [slf A,.val (.int i),.val t] s=.ok (.val (tIs (atSz c z))) s:=by
 rw[zaai (F:=Fz9) rfl rfl]
 have h1:=zac4 (k:=k+1) hb h
 have h2:=r_places (k:=k) hb c (.inl rfl) ht hz
 simp[bz9,hb.li,h1,h2]
end Pg
end IP
end
section
set_option linter.all false
set_option maxRecDepth 100000
namespace IP
namespace Pg
open L2
variable {k:Nat} {s:Sto}
theorem zaeu {α:Type} {l:Nat} {ts:List T} {a:α} (h:s[l]?=some (.lst ts)):keepC l ts (.ok a s)=.ok a s:=by unfold keepC;simp[h]
theorem zaff {C:Cf} {e it:E} {i l:Nat} {σ:Fr} {α:Type} (xs:List α) (g:α→T) (f:α→T) (ha:ev C it .v σ s=.ok (.val (.loc l)) s) (hl:s[l]?=some (.lst (xs.map g)))
  (h:∀x∈xs,ev C e .v (put σ i (g x)) s=.ok (.val (f x)) s):ev C (.compC e (.one i) it) .v σ s=.ok (.val (.lst (xs.map f))) s:=by
 have e0:ev C (.compC e (.one i) it) .v σ s=((ev C it .v σ s).bind fun x s1=>onO (x.locL s1) fun p=>(mapRes (fun t s=>onO (bindTg σ (.one i) t) fun σ'=>keepC p.1 p.2 (one (ev C e .v σ' s))) p.2 s1).bind fun q s2=>.ok (.val (.lst q)) s2):=by simp only[ev,fin_v]
 rw[e0,ha]
 show onO ((R.val (.loc l)).locL s) _=_
 rw[zaa0 hl]
 show(mapRes (fun t s=>onO (bindTg σ (.one i) t) fun σ'=>keepC l (xs.map g) (one (ev C e .v σ' s))) (xs.map g) s).bind _=_
 have key:∀ys:List α,(∀x∈ys,x∈xs)→mapRes (fun t s=>onO (bindTg σ (.one i) t) fun σ'=>keepC l (xs.map g) (one (ev C e .v σ' s))) (ys.map g) s=.ok (ys.map f) s:=by
  intro ys
  induction ys with
  | nil=>intro _;rfl
  | cons y ys ih=>
   intro hy
   have h0:=h y (hy y (by simp))
   have h1:=ih fun z hz=>hy z (by simp[hz])
   rw[List.map_cons,List.map_cons]
   unfold mapRes
   rw[show onO (bindTg σ (.one i) (g y)) (fun σ'=>keepC l (xs.map g) (one (ev C e .v σ' s)))=.ok (some (f y)) s by
    show keepC l (xs.map g) (one (ev C e .v (put σ i (g y)) s))=_
    rw[h0]
    exact zaeu hl]
   simp only[Res.bind_ok]
   rw[h1]
   rfl
 rw[key xs fun _ h=>h]
 rfl
def wAll (a b c d:Int):Bool:=[a,b,c,d].all (wthn 200)
theorem BAt.setP {A:Ad} {B:Bk} (h:BAt s A B) {i l:Nat} {c:List Spt} (hl:A.ls[i]?=some l):BAt (s.set l (.lst (c.map tS))) A ⟨B.size,B.pc.set i c,B.mrk,B.sm⟩:=by
 have hm:=List.mem_of_getElem? hl
 obtain⟨⟨_,_,_,n4⟩,⟨_,_,n7⟩,⟨_,n9⟩,n10⟩:=h.ne
 have hlt:=h.lt l (by simp[Ad.fp,hm])
 have hne:∀x,x∉A.ls→l≠x:=fun x hx e=>hx (e▸hm)
 refine⟨?_,?_,?_,?_,by simp[h.len],fun i' l' c' hl' hc'=>?_,h.nd⟩
 ·rw[set_ne (hne _ n4)];exact h.ins
 ·rw[set_ne (hne _ n7)];exact h.pcs
 ·rw[set_ne (hne _ n9)];exact h.mks
 ·rw[set_ne (hne _ n10)];exact h.sms
 ·have hc':(B.pc.set i c)[i']?=some c':=hc'
  by_cases hi:i=i'
  ·subst hi
   rw[hl] at hl'
   cases hl'
   have hil:i < B.pc.length:=by rw[← h.len];exact(List.getElem?_eq_some_iff.mp hl).1
   rw[List.getElem?_set_self hil] at hc'
   cases hc'
   rw[set_eq hlt]
  ·rw[List.getElem?_set_ne hi] at hc'
   have nd:=h.nd
   have ndl:A.ls.Nodup:=by
    simp only[Ad.fp,List.nodup_cons] at nd
    exact nd.2.2.2.2
   have hll:l≠l':=fun e=>by
    subst e
    obtain⟨a1,a2⟩:=List.getElem?_eq_some_iff.mp hl
    obtain⟨b1,b2⟩:=List.getElem?_eq_some_iff.mp hl'
    exact hi ((List.getElem_inj ndl).mp (a2.trans b2.symm))
   rw[set_ne hll]
   exact h.pc i' l' c' hl' hc'
section
variable {A:Ad} {B:Bk} (h:BAt s A B) {a b c d:Int}
include h
theorem zafk {i j:Nat} {cs:List Spt} {p:Spt} (hc:B.pc[i]?=some cs) (hj:cs[j]?=some p) (hw:wAll a b c d=true):
  ∃s',run true fns sub0 whileL (k+2) iz17 [slf A,.val (.int i),.val (.int j),.val (.tup [.int a,.int b]),.val (.tup [.int c,.int d])] s=.ok (.val .non) s'∧BAt s' A ⟨B.size,B.pc.set i (cs.set j ⟨p.x,p.y,a,b,c,d⟩),B.mrk,B.sm⟩∧Keep A.fp s s'∧s'.length=s.length:=by
 obtain⟨l,el,es⟩:=h.pAt hc
 have hi:i < A.ls.length:=(List.getElem?_eq_some_iff.mp el).1
 have hjl:j < cs.length:=(List.getElem?_eq_some_iff.mp hj).1
 have hm:=List.mem_of_getElem? el
 refine⟨s.set l (.lst ((cs.set j ⟨p.x,p.y,a,b,c,d⟩).map tS)),?_,h.setP el,⟨by simp,fun x _ hn=>?_⟩,by simp⟩
 ·rw[zaai (F:=Fz17) rfl rfl]
  have hct:=zaam (k:=k) (s:=s) (r:=.val (.loc A.a)) (ts:=A.ls.map .loc) (z:=i) (by rw[h.d1];rfl) ⟨by omega,by simp[hi]⟩
  have hg:=zabe (ts:=A.ls.map T.loc) (n:=i) (t:=.loc l) (by simp[el])
  have hc2:=zaam (k:=k) (s:=s) (r:=.val (.loc l)) (ts:=cs.map tS) (z:=j) (by rw[dr_loc es];rfl) ⟨by omega,by simp[hjl]⟩
  have a1:=zabi (k:=k) (s:=s) [a,b,c,d] 200
  rw[show([a,b,c,d].all (wthn 200))=wAll a b c d from rfl,hw] at a1
  simp only[tI,iL,List.map_cons,List.map_nil] at a1
  have hd:=dr_loc es
  have hL:=zaa0 es
  have hg2:=zabe (ts:=cs.map tS) (n:=j) (t:=tS p) (by simp[hj])
  have hcut:cutR (.val (tS p)) none (some 2)=some (.val (.tup [.int p.x,.int p.y])):=rfl
  have hdr:(R.val (tS p)).dr s=.val (tS p):=rfl
  have hadd:opR .add (.val (.tup [.int p.x,.int p.y])) (.val (.tup [.int a,.int b,.int c,.int d]))=some (.val (tS ⟨p.x,p.y,a,b,c,d⟩)):=by
   simp[opR,tS]
   decide
  have hix:L2.ixN (cs.map tS).length (j:Int)=some j:=by simp[L2.ixN,hjl]
  simp[bz17,h.f1,h.d1,hct,hg,hc2,a1,hd,hL,hg2,hdr,hcut,hadd]
  simp at hix
  simp[hix,List.map_set]
 ·rw[set_ne (fun e=>hn (by simp[Ad.fp,← e,hm]))]
end
theorem r_rowsD (l:List (List Int)) {n:Nat} (hs:s[n]?=some (.lst (l.map tI))) (hn:l.length≤1000) (hm:∀xs∈l,xs.length≤1000):run true fns sub0 whileL (k+3) iz30 [.val (tIs l),.val (.loc n)] s=.ok (.val (.bl true)) s:=by
 rw[zaai (F:=Fz30) rfl rfl]
 have hd:=dr_loc hs
 have hx:exs (cfX fns sub0 (k+2)) bz30 (enter Fz30 [.val (tIs l),.val (.loc n)]) s=.ret (.val (.bl true)) s:=by
  refine(zaag (σ1:=[some (.val (tIs l)),some (.val (.loc n)),none]) (s1:=s) (by simp[hd])).trans ?_
  obtain⟨σ',e,c,rfl⟩:=zaa3 (g:=.one 2) (body:=fun σ s=>exs (cfX fns sub0 (k+2)) zagn σ s) (s:=s) (fun _ σ=>∃c,σ=[some (.val (tIs l)),some (.val (.loc n)),c]) (rangeT 0 l.length) 0 [some (.val (tIs l)),some (.val (.loc n)),none] ⟨none,rfl⟩ (by
    rintro m t σ hm' ⟨c,rfl⟩
    obtain⟨rfl,hlt⟩:=zaau hm'
    have hlt:m < l.length:=by omega
    have hg:(l.map tI)[m]?=some (tI l[m]):=by simp[hlt]
    have h1:=sub_at hg
    have h2:=zabe hg
    have w1:=zad8 (k:=k) (s:=s) l[m] (hm _ (List.getElem_mem hlt))
    refine⟨[some (.val (tIs l)),some (.val (.loc n)),some (.val (.int m))],[some (.val (tIs l)),some (.val (.loc n)),some (.val (.int m))],by simp[bindTg],by simp[h1,h2,hd,w1],_,rfl⟩)
  refine(zaag (σ1:=[some (.val (tIs l)),some (.val (.loc n)),c]) (s1:=s) ((ex_for (ts:=rangeT 0 l.length) (s1:=s) (zabo (n:=l.length) (by simp[hd]) hn) (by intro _ h;cases h)).trans e)).trans ?_
  simp
 rw[hx]
 rfl
theorem tS_tI (p:Spt):tS p=tI p.l:=rfl
theorem tSs_tIs (c:List Spt):tSs' c=tIs (c.map Spt.l):=by simp[tIs,tSs',Function.comp_def];exact fun a _=>tS_tI a
end Pg
end IP
end
section
set_option linter.all false
set_option maxRecDepth 100000
namespace IP
namespace Pg
open L2
variable {k:Nat} {s:Sto}
section
variable {A:Ad} {B:Bk} (hb:BAt s A B)
include hb
theorem zafl {st ch:Int} (h0:0≤st) (h:-6≤B.size+ch∧B.size+ch≤6):∃s',run true fns sub0 whileL (k+2) iz7 [slf A,.val (.int st),.val (.int ch)] s=.ok (.val (.int (B.size+ch))) s'∧BAt s' A ⟨B.size+ch,B.pc,B.mrk,B.sm⟩∧Keep A.fp s s'∧s'.length=s.length:=by
 have hc:=zabg (k:=k) (s:=s) h
 have ltO:=hb.lt A.o (by simp[Ad.fp])
 obtain⟨⟨n1,n2,n3,n4⟩,_⟩:=hb.ne
 have es:(s.set A.o (.ins 0 [some (.int (B.size+ch)),some (.loc A.a),some (.loc A.b),some (.loc A.c)]))[A.o]?=some (.ins 0 [some (.int (B.size+ch)),some (.loc A.a),some (.loc A.b),some (.loc A.c)]):=set_eq ltO
 refine⟨s.set A.o (.ins 0 [some (.int (B.size+ch)),some (.loc A.a),some (.loc A.b),some (.loc A.c)]),?_,⟨es,?_,?_,?_,hb.len,fun i l c hl hc=>?_,hb.nd⟩,⟨by simp,fun l _ hn=>?_⟩,by simp⟩
 ·rw[zaai (F:=Fz7) rfl rfl]
  have f0:fldR (s.set A.o (.ins 0 [some (.int (B.size+ch)),some (.loc A.a),some (.loc A.b),some (.loc A.c)])) (.val (.loc A.o)) 0 0=some (.int (B.size+ch)):=by rw[zab0 es];rfl
  simp[bz7,show ¬st < 0 by omega,hb.f0,hb.li,hc,f0]
 ·rw[set_ne n1];exact hb.pcs
 ·rw[set_ne n2];exact hb.mks
 ·rw[set_ne n3];exact hb.sms
 ·have hm:=List.mem_of_getElem? hl
  have hne:A.o≠l:=fun e=>n4 (by rw[e];exact hm)
  rw[set_ne hne];exact hb.pc i l c hl hc
 ·simp only[Ad.fp,List.mem_cons,not_or] at hn
  rw[set_ne (Ne.symm hn.1)]
theorem zaci {st ch:Int} (h0:0≤st) (h:B.size+ch < -6∨6 < B.size+ch):run true fns sub0 whileL (k+2) iz7 [slf A,.val (.int st),.val (.int ch)] s=.exc xz3 s:=by
 rw[zaai (F:=Fz7) rfl rfl]
 have hc:=zaca (k:=k) (s:=s) h
 simp[bz7,show ¬st < 0 by omega,hb.f0,hc]
theorem zad1 {st:Int}:run true fns sub0 whileL (k+3) iz10 [slf A,.val (.int st)] s=run true fns sub0 whileL (k+2) iz7 [slf A,.val (.int st),.val (.int st)] s:=by
 rw[zaai (F:=Fz10) rfl rfl]
 simp[bz10,hb.li]
 cases run true fns sub0 whileL (k+2) iz7 [slf A,.val (.int st),.val (.int st)] s<;>rfl
theorem zaec {st:Int}:run true fns sub0 whileL (k+3) iz19 [slf A,.val (.int st)] s=run true fns sub0 whileL (k+2) iz7 [slf A,.val (.int st),.val (.int (-st))] s:=by
 rw[zaai (F:=Fz19) rfl rfl]
 simp[bz19,hb.li]
 cases run true fns sub0 whileL (k+2) iz7 [slf A,.val (.int st),.val (.int (-st))] s<;>rfl
end
theorem wthn_iff (b x:Int):wthn b x=decide (-b≤x∧x≤b):=by
 unfold wthn
 congr 1
 apply propext
 split<;>omega
theorem zagi {A:Ad} {B:Bk} (h:BAt s A B) {t u:T} (hB:10≤B.pc.length):run true fns sub0 whileL (k+4) iz5 [slf A,.val t,.val u] s=.exc xz20 s:=by
 rw[zaai (F:=Fz5) rfl rfl]
 simp[bz5,h.f1,h.d1,h.len,show(10:Int)≤B.pc.length by omega]
end Pg
end IP
end
section
set_option linter.all false
set_option maxRecDepth 100000
namespace IP
namespace Pg
open L2
variable {k:Nat} {s:Sto}
theorem zacl {A:Ad} {B:Bk} (hb:BAt s A B) {z:Int} {r:R} (h:z < 0∨B.mrk.length≤z):run true fns sub0 whileL (k+2) iz11 [slf A,.val (.int z),r] s=.exc xz22 s:=by
 rw[zaai (F:=Fz11) rfl rfl]
 have hc:=zaav (k:=k) (s:=s) (r:=.val (.loc A.b)) (ts:=B.mrk.map mkT) (z:=z) (by rw[hb.d2];rfl) (by simp;exact h)
 simp[bz11,hb.f2,hc]
theorem zabz {A:Ad} {B:Bk} (hb:BAt s A B) {i:Nat} {m:List (List Spt)} {z:Int} (h:B.mrk[i]?=some m) (hz:z < 0∨m.length≤z):run true fns sub0 whileL (k+2) iz11 [slf A,.val (.int i),.val (.int z)] s=.exc xz22 s:=by
 rw[zaai (F:=Fz11) rfl rfl]
 have hi:i < B.mrk.length:=(List.getElem?_eq_some_iff.mp h).1
 have hc:=zaam (k:=k) (s:=s) (r:=.val (.loc A.b)) (ts:=B.mrk.map mkT) (z:=i) (by rw[hb.d2];rfl) ⟨by omega,by simp[hi]⟩
 have hg:=zabe (ts:=B.mrk.map mkT) (n:=i) (t:=mkT m) (by simp[h])
 have hc2:=zaav (k:=k) (s:=s) (r:=.val (mkT m)) (ts:=m.map tSs') (z:=z) rfl (by simp;exact hz)
 simp[bz11,hb.f2,hb.d2,hc,hg,hc2]
def sideAt (B:Bk) (p q:Int):Option (List Spt):=if 0≤p∧0≤q then(B.mrk[p.toNat]?).bind (·[q.toNat]?) else none
def sideR (s:Sto) (o:Option (List Spt)):Res R:=match o with
 | some l=>.ok (.val (tSs' l)) s
 | none=>.exc xz22 s
theorem zago {A:Ad} {B:Bk} (hb:BAt s A B) (p q:Int):run true fns sub0 whileL (k+2) iz11 [slf A,.val (.int p),.val (.int q)] s=sideR s (sideAt B p q):=by
 unfold sideAt
 by_cases hp:p < 0
 ·rw[if_neg (by omega)]
  exact zacl hb (.inl hp)
 cases hm:B.mrk[p.toNat]? with
 | none=>
  have hl:B.mrk.length≤p.toNat:=List.getElem?_eq_none_iff.mp hm
  rw[zacl hb (.inr (by omega))]
  split<;>rfl
 | some m=>
  have ep:p=(p.toNat:Int):=by omega
  by_cases hq:q < 0
  ·rw[if_neg (by omega)]
   have:=zabz (k:=k) hb (i:=p.toNat) (z:=q) hm (.inl hq)
   rw[← ep] at this
   exact this
  rw[if_pos (by omega)]
  have eq:q=(q.toNat:Int):=by omega
  cases hl:m[q.toNat]? with
  | none=>
   have hl':m.length≤q.toNat:=List.getElem?_eq_none_iff.mp hl
   have:=zabz (k:=k) hb (i:=p.toNat) (z:=q) hm (.inr (by omega))
   rw[← ep] at this
   rw[this]
   simp[hl,sideR]
  | some l=>
   have:=zae6 (k:=k) hb (i:=p.toNat) (j:=q.toNat) hm hl
   rw[← ep,← eq] at this
   rw[this]
   simp[hl,sideR]
def inR (n:Nat) (i:Int):Bool:=decide (0≤i)&&decide (i < n)
def zabq (a b:Nat) (ps:List (Int×Int)):Bool:=ps.all fun p=>inR a p.1&&inR b p.2
theorem zac7 {l l':List Spt} {A0 A1 A2 A3:Option IP.B}:∀(ps:List (Int×Int)) (c:Option IP.B),∃c',forL (.one 6) (fun σ s=>exs (cfX fns sub0 (k+1)) bz8_L0 σ s) (ps.map pT) [A0,A1,A2,A3,some (.val (tSs' l)),some (.val (tSs' l')),c] s
   = if zabq l.length l'.length ps then .next [A0,A1,A2,A3,some (.val (tSs' l)),some (.val (tSs' l')),c'] s else .exc xz22 [A0,A1,A2,A3,some (.val (tSs' l)),some (.val (tSs' l')),c'] s
 | [],c=>⟨c,rfl⟩
 | p::ps,c=>by
  have h0:subR (.val (pT p)) 0=some (.int p.1):=rfl
  have h1:subR (.val (pT p)) 1=some (.int p.2):=rfl
  have hd:∀s,(R.val (pT p)).dr s=.val (pT p):=fun _=>rfl
  rw[List.map_cons]
  unfold forL
  show ∃c',(exs (cfX fns sub0 (k+1)) bz8_L0 [A0,A1,A2,A3,some (.val (tSs' l)),some (.val (tSs' l')),some (.val (pT p))] s).bind _=_
  by_cases q1:inR l.length p.1=true
  ·have e1:=zaam (k:=k) (s:=s) (r:=.val (tSs' l)) (ts:=l.map tS) (z:=p.1) rfl (by unfold inR at q1;simp at q1 ⊢;exact q1)
   by_cases q2:inR l'.length p.2=true
   ·have e2:=zaam (k:=k) (s:=s) (r:=.val (tSs' l')) (ts:=l'.map tS) (z:=p.2) rfl (by unfold inR at q2;simp at q2 ⊢;exact q2)
    obtain⟨c',e⟩:=zac7 (l:=l) (l':=l') (A0:=A0) (A1:=A1) (A2:=A2) (A3:=A3) ps (some (.val (pT p)))
    refine⟨c',?_⟩
    have:exs (cfX fns sub0 (k+1)) bz8_L0 [A0,A1,A2,A3,some (.val (tSs' l)),some (.val (tSs' l')),some (.val (pT p))] s=.next [A0,A1,A2,A3,some (.val (tSs' l)),some (.val (tSs' l')),some (.val (pT p))] s:=by simp[h0,h1,hd,e1,e2]
    have hq:zabq l.length l'.length (p::ps)=zabq l.length l'.length ps:=by
     unfold zabq
     rw[List.all_cons,q1,q2]
     rfl
    rw[this,SR.bind_next,e,hq]
   ·have e2:=zaav (k:=k) (s:=s) (r:=.val (tSs' l')) (ts:=l'.map tS) (z:=p.2) rfl (by unfold inR at q2;simp at q2 ⊢;omega)
    refine⟨some (.val (pT p)),?_⟩
    have:exs (cfX fns sub0 (k+1)) bz8_L0 [A0,A1,A2,A3,some (.val (tSs' l)),some (.val (tSs' l')),some (.val (pT p))] s=.exc xz22 [A0,A1,A2,A3,some (.val (tSs' l)),some (.val (tSs' l')),some (.val (pT p))] s:=by simp[h0,h1,hd,e1,e2]
    rw[this]
    simp[zabq,q1,q2]
  ·have e1:=zaav (k:=k) (s:=s) (r:=.val (tSs' l)) (ts:=l.map tS) (z:=p.1) rfl (by unfold inR at q1;simp at q1 ⊢;omega)
   refine⟨some (.val (pT p)),?_⟩
   have:exs (cfX fns sub0 (k+1)) bz8_L0 [A0,A1,A2,A3,some (.val (tSs' l)),some (.val (tSs' l')),some (.val (pT p))] s=.exc xz22 [A0,A1,A2,A3,some (.val (tSs' l)),some (.val (tSs' l')),some (.val (pT p))] s:=by simp[h0,h1,hd,e1]
   rw[this]
   simp[zabq,q1]
def pairsR (B:Bk) (a b:Option (List Spt)) (ps:List (Int×Int)):Bool:=match a,b with
 | some l,some l'=>zabq l.length l'.length ps
 | _,_=>false
theorem zabx {A:Ad} {B:Bk} (hb:BAt s A B) (x:Sm):run true fns sub0 whileL (k+3) iz8 [slf A,.val (.tup [.int x.f1,.int x.f2]),.val (.tup [.int x.g1,.int x.g2]),.val (.tup (x.ps.map pT))] s=if pairsR B (sideAt B x.f1 x.f2) (sideAt B x.g1 x.g2) x.ps then .ok (.val .non) s else .exc xz22 s:=by
 rw[zaai (F:=Fz8) rfl rfl]
 have m1:=zago (k:=k) hb x.f1 x.f2
 have m2:=zago (k:=k) hb x.g1 x.g2
 cases h1:sideAt B x.f1 x.f2 with
 | none=>
  rw[h1] at m1
  have m1:run true fns sub0 whileL (k+2) iz11 [slf A,.val (.int x.f1),.val (.int x.f2)] s=.exc xz22 s:=m1
  simp[bz8,hb.li,m1,pairsR]
 | some l=>
  rw[h1] at m1
  have m1:run true fns sub0 whileL (k+2) iz11 [slf A,.val (.int x.f1),.val (.int x.f2)] s=.ok (.val (tSs' l)) s:=m1
  cases h2:sideAt B x.g1 x.g2 with
  | none=>
   rw[h2] at m2
   have m2:run true fns sub0 whileL (k+2) iz11 [slf A,.val (.int x.g1),.val (.int x.g2)] s=.exc xz22 s:=m2
   simp[bz8,hb.li,m1,m2,pairsR]
  | some l'=>
   rw[h2] at m2
   have m2:run true fns sub0 whileL (k+2) iz11 [slf A,.val (.int x.g1),.val (.int x.g2)] s=.ok (.val (tSs' l')) s:=m2
   obtain⟨c',e⟩:=zac7 (k:=k+1) (s:=s) (l:=l) (l':=l') (A0:=some (.val (.loc A.o))) (A1:=some (.val (.tup [.int x.f1,.int x.f2]))) (A2:=some (.val (.tup [.int x.g1,.int x.g2]))) (A3:=some (.val (.tup (x.ps.map pT)))) x.ps none
   have h0:∀a b:Int,subR (.val (.tup [.int a,.int b])) 0=some (.int a):=fun _ _=>rfl
   have hx:exs (cfX fns sub0 (k+2)) bz8 (enter Fz8 [slf A,.val (.tup [.int x.f1,.int x.f2]),.val (.tup [.int x.g1,.int x.g2]),.val (.tup (x.ps.map pT))]) s=if zabq l.length l'.length x.ps then .next [some (.val (.loc A.o)),some (.val (.tup [.int x.f1,.int x.f2])),some (.val (.tup [.int x.g1,.int x.g2])),some (.val (.tup (x.ps.map pT))),some (.val (tSs' l)),some (.val (tSs' l')),c'] s else .exc xz22 [some (.val (.loc A.o)),some (.val (.tup [.int x.f1,.int x.f2])),some (.val (.tup [.int x.g1,.int x.g2])),some (.val (.tup (x.ps.map pT))),some (.val (tSs' l)),some (.val (tSs' l')),c'] s:=by
    refine(zaag (σ1:=[some (.val (.loc A.o)),some (.val (.tup [.int x.f1,.int x.f2])),some (.val (.tup [.int x.g1,.int x.g2])),some (.val (.tup (x.ps.map pT))),some (.val (tSs' l)),none,none]) (s1:=s) (by simp[hb.li,m1])).trans ?_
    refine(zaag (σ1:=[some (.val (.loc A.o)),some (.val (.tup [.int x.f1,.int x.f2])),some (.val (.tup [.int x.g1,.int x.g2])),some (.val (.tup (x.ps.map pT))),some (.val (tSs' l)),some (.val (tSs' l')),none]) (s1:=s) (by simp[hb.li,m2])).trans ?_
    have hfor:ex (cfX fns sub0 (k+2)) (.for_ (.one 6) (.var 3) bz8_L0) [some (.val (.loc A.o)),some (.val (.tup [.int x.f1,.int x.f2])),some (.val (.tup [.int x.g1,.int x.g2])),some (.val (.tup (x.ps.map pT))),some (.val (tSs' l)),some (.val (tSs' l')),none] s=forL (.one 6) (fun σ s=>exs (cfX fns sub0 (k+2)) bz8_L0 σ s) (x.ps.map pT) [some (.val (.loc A.o)),some (.val (.tup [.int x.f1,.int x.f2])),some (.val (.tup [.int x.g1,.int x.g2])),some (.val (.tup (x.ps.map pT))),some (.val (tSs' l)),some (.val (tSs' l')),none] s:=by
     rw[ex.eq_11]
     simp[isOwn]
    rw[zadr,hfor,e]
    split<;>simp
   rw[show Fz8.body=bz8 from rfl,hx]
   show leave true false _=_
   simp only[pairsR]
   by_cases hpo:zabq l.length l'.length x.ps=true<;>simp[hpo]
end Pg
end IP
end
section
set_option linter.all false
set_option maxRecDepth 100000
namespace IP
namespace Pg
open L2
variable {k:Nat} {s:Sto}
def zaa8 (x:Sm):Bool:=((x.f1==x.g1)&&(x.f2==x.g2))||decide (x.e < 0)||decide (400 < x.e)||decide (4 < x.ps.length)
theorem zadg (a b c d:Int):eqD 8 (.tup [.int a,.int b]) (.tup [.int c,.int d])=some ((a==c)&&(b==d)):=by
 simp[eqD,eqL]
theorem zacf (x:Sm):run true fns sub0 whileL (k+1) iz37 [.val (.tup [.int x.f1,.int x.f2]),.val (.tup [.int x.g1,.int x.g2]),.val (.int x.e),.val (.tup (x.ps.map pT))] s=if zaa8 x then .exc xz2 s else .ok (.val .non) s:=by
 rw[zaai (F:=Fz37) rfl rfl]
 by_cases h1:((x.f1==x.g1)&&(x.f2==x.g2))=true
 ·simp only[zaa8,h1]
  simp only[Bool.and_eq_true,beq_iff_eq] at h1
  simp[bz37,zadg,h1]
 ·by_cases h2:x.e < 0
  ·simp only[zaa8,h2]
   simp[bz37,zadg,h1,h2]
  ·by_cases h3:400 < x.e
   ·simp only[zaa8,h3]
    simp[bz37,zadg,h1,h2,h3]
   ·by_cases h4:4 < x.ps.length
    ·simp only[zaa8,h4]
     simp[bz37,zadg,h1,h2,h3,show(4:Int) < x.ps.length by omega]
    ·have h4':¬(4:Int) < x.ps.length:=by omega
     simp only[Bool.not_eq_true] at h1
     simp[zaa8,bz37,zadg,h1,h2,h3,h4,h4']
abbrev fT (x:Sm):T:=.tup [.int x.f1,.int x.f2]
abbrev gT (x:Sm):T:=.tup [.int x.g1,.int x.g2]
def dueC (B:Bk) (x:Sm):Int:=if 30≤B.sm.length then 1 else if pairsR B (sideAt B x.f1 x.f2) (sideAt B x.g1 x.g2) x.ps=true then(if zaa8 x=true then 4 else 0) else 2
def dueX (n:Int):Nat:=if n=1 then xz20 else if n=2 then xz22 else xz2
theorem zafv {A:Ad} {B:Bk} (hb:BAt s A B) (x:Sm) {pv:T} (hpv:pv=.lst (x.ps.map pT)∨(pv=.non∧x.ps=[])) (h30:¬30≤B.sm.length):exs (cfX fns sub0 (k+3)) bz6 (enter Fz6 [slf A,.val (fT x),.val (gT x),.val (.bl x.t),.val (.int x.e),.val pv]) s=exs (cfX fns sub0 (k+3)) (bz6.drop 2) [some (.val (.loc A.o)),some (.val (fT x)),some (.val (gT x)),some (.val (.bl x.t)),some (.val (.int x.e)),some (.val pv),some (.val (.tup (x.ps.map pT)))] s:=by
 have h30':¬(30:Int)≤B.sm.length:=by omega
 refine(zaag (σ1:=[some (.val (.loc A.o)),some (.val (fT x)),some (.val (gT x)),some (.val (.bl x.t)),some (.val (.int x.e)),some (.val pv),none]) (s1:=s) (by simp[hb.f3,hb.d3,h30'])).trans ?_
 refine(zaag (σ1:=[some (.val (.loc A.o)),some (.val (fT x)),some (.val (gT x)),some (.val (.bl x.t)),some (.val (.int x.e)),some (.val pv),some (.val (.tup (x.ps.map pT)))]) (s1:=s) ?_).trans rfl
 rcases hpv with rfl | ⟨rfl,hp⟩
 ·simp[R.isNon]
 ·simp[R.isNon,hp]
theorem zafi {A:Ad} {B:Bk} (hb:BAt s A B) (x:Sm) {pv:T} (hpv:pv=.lst (x.ps.map pT)∨(pv=.non∧x.ps=[])) (hd:dueC B x=0):
  ∃s',run true fns sub0 whileL (k+4) iz6 [slf A,.val (fT x),.val (gT x),.val (.bl x.t),.val (.int x.e),.val pv] s=.ok (.val (.int B.sm.length)) s'∧BAt s' A ⟨B.size,B.pc,B.mrk,B.sm++[x]⟩∧Keep A.fp s s'∧s'.length=s.length:=by
 unfold dueC at hd
 by_cases h30:30≤B.sm.length
 ·rw[if_pos h30] at hd;cases hd
 rw[if_neg h30] at hd
 by_cases hp:pairsR B (sideAt B x.f1 x.f2) (sideAt B x.g1 x.g2) x.ps=true
 rotate_left
 ·rw[if_neg hp] at hd;cases hd
 rw[if_pos hp] at hd
 by_cases hbs:zaa8 x=true
 ·rw[if_pos hbs] at hd;cases hd
 have cp:=zabx (k:=k) hb x
 have cs:=zacf (k:=k+2) (s:=s) x
 rw[if_pos hp] at cp
 rw[if_neg hbs] at cs
 have hl:B.sm.length < lim:=Nat.lt_of_lt_of_le (show B.sm.length < 1000 by omega) lim_ge
 obtain⟨⟨n1,n2,n3,n4⟩,⟨n5,n6,n7⟩,⟨n8,n9⟩,n10⟩:=hb.ne
 have ltC:=hb.lt A.c (by simp[Ad.fp])
 have es:(s.set A.c (.lst (B.sm.map seT++[seT x])))[A.c]?=some (.lst (B.sm.map seT++[seT x])):=set_eq ltC
 refine⟨s.set A.c (.lst (B.sm.map seT++[seT x])),?_,⟨?_,?_,?_,?_,hb.len,fun i l c hl hc=>?_,hb.nd⟩,⟨by simp,fun l _ hn=>?_⟩,by simp⟩
 ·rw[zaai (F:=Fz6) rfl rfl,show Fz6.body=bz6 from rfl,zafv hb x hpv h30]
  have f3:fldR (s.set A.c (.lst (B.sm.map seT++[seT x]))) (.val (.loc A.o)) 0 3=some (.loc A.c):=by rw[zab0 (by rw[set_ne (Ne.symm n3)];exact hb.ins)];rfl
  have d3:=dr_loc es
  have e0:T.tup [fT x,gT x,.bl x.t,.int x.e,.tup (x.ps.map pT)]=seT x:=rfl
  simp[bz6,hb.li,hb.f3,hb.l3,cp,cs,hl,e0,f3,d3]
 ·rw[set_ne (Ne.symm n3)];exact hb.ins
 ·rw[set_ne (Ne.symm n6)];exact hb.pcs
 ·rw[set_ne (Ne.symm n8)];exact hb.mks
 ·rw[es];simp
 ·have hne:A.c≠l:=fun e=>n10 (by rw[e];exact List.mem_of_getElem? hl)
  rw[set_ne hne];exact hb.pc i l c hl hc
 ·simp only[Ad.fp,List.mem_cons,not_or] at hn
  rw[set_ne (Ne.symm hn.2.2.2.1)]
theorem zac5 {A:Ad} {B:Bk} (hb:BAt s A B) (x:Sm) {pv:T} (hpv:pv=.lst (x.ps.map pT)∨(pv=.non∧x.ps=[])) (hd:dueC B x≠0):
  run true fns sub0 whileL (k+4) iz6 [slf A,.val (fT x),.val (gT x),.val (.bl x.t),.val (.int x.e),.val pv] s=.exc (dueX (dueC B x)) s:=by
 rw[zaai (F:=Fz6) rfl rfl]
 unfold dueC at hd ⊢
 by_cases h30:30≤B.sm.length
 ·rw[if_pos h30]
  simp[bz6,hb.f3,hb.d3,show(30:Int)≤B.sm.length by omega,dueX]
 rw[if_neg h30] at hd ⊢
 rw[show Fz6.body=bz6 from rfl,zafv hb x hpv h30]
 have cp:=zabx (k:=k) hb x
 have cs:=zacf (k:=k+2) (s:=s) x
 by_cases hp:pairsR B (sideAt B x.f1 x.f2) (sideAt B x.g1 x.g2) x.ps=true
 ·rw[if_pos hp] at hd cp ⊢
  by_cases hbs:zaa8 x=true
  ·rw[if_pos hbs] at cs ⊢
   simp[bz6,hb.li,cp,cs,dueX]
  ·rw[if_neg hbs] at hd
   exact absurd rfl hd
 ·rw[if_neg hp] at cp ⊢
  simp[bz6,hb.li,cp,dueX]
theorem r_seam {A:Ad} {B:Bk} (hb:BAt s A B) {i:Nat} {x:Sm} (h:B.sm[i]?=some x):run true fns sub0 whileL (k+2) iz15 [slf A,.val (.int i)] s=.ok (.val (paT x)) s:=by
 rw[zaai (F:=Fz15) rfl rfl]
 have hi:i < B.sm.length:=(List.getElem?_eq_some_iff.mp h).1
 have hc:=zaam (k:=k) (s:=s) (r:=.val (.loc A.c)) (ts:=B.sm.map seT) (z:=i) (by rw[hb.d3];rfl) ⟨by omega,by simp[hi]⟩
 have hg:=zabe (ts:=B.sm.map seT) (n:=i) (t:=seT x) (by simp[h])
 have h4:subR (.val (seT x)) 4=some (.tup (x.ps.map pT)):=rfl
 have hd:∀s,(R.val (seT x)).dr s=.val (seT x):=fun _=>rfl
 have hcut:cutR (.val (seT x)) none (some 4)=some (.val (.tup [fT x,gT x,.bl x.t,.int x.e])):=rfl
 have hadd:opR .add (.val (.tup [fT x,gT x,.bl x.t,.int x.e])) (.val (.tup [.lst (x.ps.map pT)]))=some (.val (paT x)):=by
  simp[opR,paT]
  decide
 have hb':b1R .list (.val (.tup (x.ps.map pT)))=some (.val (.lst (x.ps.map pT))):=rfl
 simp[bz15,hb.f3,hb.d3,hc,hg,h4,hd,hcut,hadd,hb']
end Pg
end IP
end
section
set_option linter.all false
set_option maxRecDepth 100000
namespace IP
namespace Pg
open L2
variable {s:Sto}
theorem cf_of {m n f:Nat} {rs:List R} {s:Sto} {r:Res R} (h:run true fns sub0 whileL n f rs s=r) (e:n=m):(cfX fns sub0 m).cf f rs s=r:=by
 subst e
 exact h
abbrev iV (i:Int):Option IP.B:=some (.val (.int i))
def mk0 (c:List Spt):List (List Spt):=c.map fun _=>[]
def fits (c:List Spt):Prop:=∀p∈c,p.fit
structure Kd where
 (p e z:Nat)
 ls:List Nat
abbrev Kd.fp (L:Kd):List Nat:=L.p::L.e::L.z::L.ls
def kT (L:Kd):T:=.lst [.loc L.p,.loc L.e,.loc L.z]
structure Kp (s:Sto) (L:Kd) (B:Bk):Prop where
 p:s[L.p]?=some (.lst (L.ls.map .loc))
 e:s[L.e]?=some (.lst (B.sm.map fun x=>.int x.e))
 z:s[L.z]?=some (.lst [.int B.size])
 len:L.ls.length=B.pc.length
 pc:∀(i l:Nat) (c:List Spt),L.ls[i]?=some l→B.pc[i]?=some c→s[l]?=some (.lst (c.map tS))
 nd:L.fp.Nodup
theorem Kp.other {s':Sto} {L:Kd} {B:Bk} (h:Kp s L B) (hs:∀l∈L.fp,s'[l]?=s[l]?):Kp s' L B where
 p:=by rw[hs _ (by simp[Kd.fp])];exact h.p
 e:=by rw[hs _ (by simp[Kd.fp])];exact h.e
 z:=by rw[hs _ (by simp[Kd.fp])];exact h.z
 len:=h.len
 pc:=fun i l c hl hc=>by rw[hs _ (by have:=List.mem_of_getElem? hl;simp[Kd.fp,this])];exact h.pc i l c hl hc
 nd:=h.nd
theorem Kp.lt {L:Kd} {B:Bk} (h:Kp s L B):∀l∈L.fp,l < s.length:=by
 intro l hl
 simp only[Kd.fp,List.mem_cons] at hl
 rcases hl with rfl | rfl | rfl | hl
 ·exact(List.getElem?_eq_some_iff.mp h.p).1
 ·exact(List.getElem?_eq_some_iff.mp h.e).1
 ·exact(List.getElem?_eq_some_iff.mp h.z).1
 ·obtain⟨i,hi,rfl⟩:=List.getElem_of_mem hl
  have h1:i < B.pc.length:=by rw[← h.len];exact hi
  exact(List.getElem?_eq_some_iff.mp (h.pc i _ B.pc[i] (by simp[hi]) (by simp[h1]))).1
theorem Kp.ne {L:Kd} {B:Bk} (h:Kp s L B):(L.p≠L.e∧L.p≠L.z∧L.p∉L.ls)∧(L.e≠L.z∧L.e∉L.ls)∧L.z∉L.ls∧L.ls.Nodup:=by
 have:=h.nd
 simp only[Kd.fp,List.nodup_cons,List.mem_cons,not_or] at this
 exact this
structure Gd (B:Bk):Prop where
 p:B.pc.length≤10
 m:B.mrk=B.pc.map mk0
 e:B.sm.length≤30
 z:-6≤B.size∧B.size≤6
 c:∀c∈B.pc,(3≤c.length∧c.length≤5)∧fits c
def dE (d:Int):Int:=Int.fmod (Int.fdiv d 5) 401
def dJ (d:Int):Int:=Int.fmod (Int.fdiv d 5) 3
def dA (d:Int):Int:=Int.fmod (Int.fdiv d 15) 401 - 200
def dB (d:Int):Int:=Int.fmod (Int.fdiv d 6015) 401 - 200
def dS (d:Int):Int:=Int.fmod (Int.fdiv d 5) 5
def smD (B:Bk) (d:Int):Sm:=⟨0,0,(B.pc.length:Int) - 1,1,false,dE d,[]⟩
def mvD (p:Spt) (d:Int):Spt:=⟨p.x,p.y,dA d,7,-7,dB d⟩
def sz (B:Bk) (d z:Int):Prop:=(Int.fmod d 5=3∧z=B.size+dS d)∨(Int.fmod d 5=4∧z=B.size - dS d)
inductive Deed (d:Int) (c:List Spt) (B:Bk):Bk→Int→Prop
 | full:Int.fmod d 5=0→B.pc.length=10→Deed d c B B 2
 | add:Int.fmod d 5=0→B.pc.length < 10→Deed d c B ⟨B.size,B.pc++[c],B.mrk++[mk0 c],B.sm⟩ 0
 | fullS:Int.fmod d 5=1→B.sm.length=30→Deed d c B B 2
 | addS:Int.fmod d 5=1→B.sm.length < 30→2≤B.pc.length→Deed d c B ⟨B.size,B.pc,B.mrk,B.sm++[smD B d]⟩ 0
 | mov (m:Nat) (l:List Spt) (p:Spt) (j:Nat):Int.fmod d 5=2→B.pc.length=m+1→B.pc[m]?=some l→l[j]?=some p→dJ d=j→Deed d c B ⟨B.size,B.pc.set m (l.set j (mvD p d)),B.mrk,B.sm⟩ 0
 | far (z:Int):sz B d z→(z < -6∨6 < z)→Deed d c B B 1
 | size (z:Int):sz B d z→(-6≤z∧z≤6)→Deed d c B ⟨z,B.pc,B.mrk,B.sm⟩ 0
theorem d5 (d:Int):0≤Int.fmod d 5∧Int.fmod d 5 < 5:=zaaz d (by decide)
theorem fit_mvD {p:Spt} (h:p.fit) (d:Int):(mvD p d).fit:=by
 have a:=zaaz (Int.fdiv d 15) (j:=401) (by decide)
 have b:=zaaz (Int.fdiv d 6015) (j:=401) (by decide)
 simp only[Spt.fit,mvD,dA,dB] at *
 omega
theorem set_fits {c:List Spt} {i:Nat} {p:Spt} (h:fits c) (hp:p.fit):fits (c.set i p):=fun q hq=>by
 rcases List.mem_or_eq_of_mem_set hq with z | z
 ·exact h q z
 ·rw[z];exact hp
theorem mk0_set (l:List Spt) (j:Nat) (p:Spt):mk0 (l.set j p)=mk0 l:=by unfold mk0;rw[List.map_const',List.map_const',List.length_set]
theorem set_self {α:Type} {l:List α} {m:Nat} {a:α} (h:l[m]?=some a):l.set m a=l:=by
 apply List.ext_getElem?
 intro i
 by_cases e:m=i
 ·subst e
  rw[List.getElem?_set_self (List.getElem?_eq_some_iff.mp h).1,h]
 ·rw[List.getElem?_set_ne e]
theorem deed_some {d:Int} {c:List Spt} {B:Bk} (g:Gd B) (hc:(3≤c.length∧c.length≤5)∧fits c) (h0:Int.fmod d 5≠0→1≤B.pc.length) (h1:Int.fmod d 5=1→2≤B.pc.length):∃B2 code,Deed d c B B2 code∧Gd B2:=by
 have hd:=d5 d
 have gp:=g.p
 have ge:=g.e
 by_cases k0:Int.fmod d 5=0
 ·by_cases hf:B.pc.length=10
  ·exact⟨B,2,.full k0 hf,g⟩
  ·refine⟨_,0,.add k0 (by omega),⟨by simp;omega,by simp[g.m],ge,g.z,fun x hx=>?_⟩⟩
   rcases List.mem_append.mp hx with z | z
   ·exact g.c x z
   ·rw[List.mem_singleton.mp z];exact hc
 by_cases k1:Int.fmod d 5=1
 ·by_cases hf:B.sm.length=30
  ·exact⟨B,2,.fullS k1 hf,g⟩
  ·exact⟨_,0,.addS k1 (by omega) (h1 k1),⟨g.p,g.m,by simp;omega,g.z,g.c⟩⟩
 by_cases k2:Int.fmod d 5=2
 ·have h1:=h0 (by omega)
  obtain⟨m,hm⟩:∃m,B.pc.length=m+1:=⟨B.pc.length - 1,by omega⟩
  have hl:B.pc[m]?=some (B.pc[m]'(by omega)):=by simp[show m < B.pc.length by omega]
  generalize B.pc[m]'(by omega)=l at hl
  have hml:=List.mem_of_getElem? hl
  obtain⟨⟨l3,l5⟩,lf⟩:=g.c l hml
  have hj:=zaaz (Int.fdiv d 5) (j:=3) (by decide)
  obtain⟨j,ej⟩:∃j:Nat,dJ d=j:=⟨(dJ d).toNat,by unfold dJ;omega⟩
  have hjl:j < l.length:=by unfold dJ at ej;omega
  have hp:l[j]?=some l[j]:=by simp[hjl]
  generalize l[j]=p at hp
  have pf:=lf p (List.mem_of_getElem? hp)
  refine⟨_,0,.mov m l p j k2 hm hl hp ej,⟨by simp;omega,?_,ge,g.z,fun x hx=>?_⟩⟩
  ·show B.mrk=(B.pc.set m (l.set j (mvD p d))).map mk0
   rw[List.map_set,mk0_set,g.m]
   exact(set_self (by simp[hl])).symm
  ·rcases List.mem_or_eq_of_mem_set hx with z | z
   ·exact g.c x z
   ·rw[z];exact⟨by simp;omega,set_fits lf (fit_mvD pf d)⟩
 obtain⟨z,hz⟩:∃z,sz B d z:=by
  by_cases k3:Int.fmod d 5=3
  ·exact⟨_,.inl ⟨k3,rfl⟩⟩
  ·exact⟨_,.inr ⟨by omega,rfl⟩⟩
 by_cases hr:-6≤z∧z≤6
 ·exact⟨_,0,.size z hz hr,⟨g.p,g.m,g.e,hr,g.c⟩⟩
 ·exact⟨B,1,.far z hz (by omega),g⟩
theorem sub_lastB {ts:List T} {m:Nat} {t:T} (hl:ts.length=m+1) (h:ts[m]?=some t):subR (.bor ts) (-1)=some t:=by
 simp[subR,L2.atI,L2.ixN,hl]
 rw[if_pos (by omega)]
 have:((-1:Int)+((m:Int)+1)).toNat=m:=by omega
 simp[this,h]
theorem due_any {C:Cf} {L:Kd} {B B2:Bk} {d code:Int} {c:List Spt} (h:Kp s L B) (g:Gd B) (hD:Deed d c B B2 code):
  ∃s' ls',exs C bz26 (enter Fz26 [.val (kT L),.val (.int d),.val (tSs' c)]) s=.ret (.val (.int code)) s'∧Kp s' ⟨L.p,L.e,L.z,ls'⟩ B2∧Keep L.fp s s'∧∀l∈ls',l∈L.ls∨s.length≤l:=by
 have m0:subR (.val (kT L)) 0=some (.loc L.p):=rfl
 have m1:subR (.val (kT L)) 1=some (.loc L.e):=rfl
 have m2:subR (.val (kT L)) 2=some (.loc L.z):=rfl
 have hd:∀s,(R.val (kT L)).dr s=.val (kT L):=fun _=>rfl
 have dp:=dr_loc h.p
 have de:=dr_loc h.e
 have dz:=dr_loc h.z
 have lp:=zaa0 h.p
 have le:=zaa0 h.e
 have lz:=zaa0 h.z
 have ll:=h.len
 have gp:=g.p
 have ge:=g.e
 have k5:=d5 d
 have same:∀l∈L.ls,l∈L.ls∨s.length≤l:=fun l hl=>.inl hl
 obtain⟨⟨n1,n2,n3⟩,⟨n4,n5⟩,n6,n7⟩:=h.ne
 have ltp:=h.lt L.p (by simp)
 have lte:=h.lt L.e (by simp)
 have ltz:=h.lt L.z (by simp)
 have hz0:subR (.bor [.int B.size]) 0=some (.int B.size):=rfl
 generalize hK:kT L=K at *
 cases hD with
 | full k0 hf=>
  refine⟨s,L.ls,?_,h,Keep.refl _ _,same⟩
  simp[bz26,op_mod,k0,hd,m0,dp,ll,hf]
 | add k0 hf=>
  have ltl:=fun l (hl:l∈L.ls)=>h.lt l (by simp[hl])
  have lp2:(R.val (.loc L.p)).locL (s++[.lst (c.map tS)])=some (L.p,L.ls.map .loc):=zaa0 (by rw[List.getElem?_append_left ltp];exact h.p)
  have hlim:L.ls.length < lim:=Nat.lt_of_lt_of_le (show L.ls.length < 1000 by omega) lim_ge
  have old:∀l,l < s.length→l≠L.p→((s++[Cell.lst (c.map tS)]).set L.p (Cell.lst (L.ls.map T.loc++[T.loc s.length])))[l]?=s[l]?:=fun l hl hn=>by
   rw[set_ne (Ne.symm hn),List.getElem?_append_left hl]
  refine⟨(s++[Cell.lst (c.map tS)]).set L.p (Cell.lst (L.ls.map T.loc++[T.loc s.length])),L.ls++[s.length],?_,⟨?_,?_,?_,by simp[ll],fun i l c' hl hc'=>?_,?_⟩,⟨by simp,fun l hl hn=>?_⟩,fun l hl=>?_⟩
  ·have hnf:¬B.pc.length=10:=by omega
   simp[bz26,op_mod,k0,hd,m0,dp,ll,show ¬(B.pc.length:Int)=10 by omega,lp,lp2,show B.pc.length < lim by omega]
  ·rw[set_eq (by simp;omega)];simp
  ·rw[old _ lte (Ne.symm n1)];exact h.e
  ·rw[old _ ltz (Ne.symm n2)];exact h.z
  ·by_cases hi:i < L.ls.length
   ·rw[List.getElem?_append_left hi] at hl
    have hm:=List.mem_of_getElem? hl
    have hc':(B.pc++[c])[i]?=some c':=hc'
    rw[List.getElem?_append_left (by omega)] at hc'
    rw[old l (ltl l hm) (fun z=>n3 (by rw[← z];exact hm))]
    exact h.pc i l c' hl hc'
   ·have hi2:i=L.ls.length:=by
     have:=(List.getElem?_eq_some_iff.mp hl).1
     simp at this
     omega
    subst hi2
    have hc':(B.pc++[c])[L.ls.length]?=some c':=hc'
    rw[List.getElem?_append_right (by omega)] at hl hc'
    simp[ll] at hl hc'
    subst hl hc'
    rw[set_ne (by omega)]
    simp
  ·show(L.p::L.e::L.z::(L.ls++[s.length])).Nodup
   have hnot:s.length∉L.ls:=fun z=>Nat.lt_irrefl _ (ltl _ z)
   simp only[List.nodup_cons,List.mem_cons,List.mem_append,not_or,List.nodup_append,List.mem_singleton,List.not_mem_nil]
   refine⟨⟨n1,n2,n3,by omega,by simp⟩,⟨n4,n5,by omega,by simp⟩,⟨n6,by omega,by simp⟩,n7,by simp,fun a ha b hb=>?_⟩
   intro z
   subst z
   rcases hb with rfl | hb
   ·exact hnot ha
   ·simp at hb
  ·exact old l hl (fun z=>hn (by simp[z]))
  ·rcases List.mem_append.mp hl with z | z
   ·exact .inl z
   ·rw[List.mem_singleton.mp z];exact .inr (Nat.le_refl _)
 | fullS k1 hf=>
  refine⟨s,L.ls,?_,h,Keep.refl _ _,same⟩
  simp[bz26,op_mod,k1,hd,m1,de,hf]
 | addS k1 hf _=>
  have hlim:B.sm.length < lim:=Nat.lt_of_lt_of_le (show B.sm.length < 1000 by omega) lim_ge
  refine⟨s.set L.e (.lst ((B.sm.map fun x=>.int x.e)++[.int (dE d)])),L.ls,?_,⟨?_,?_,?_,ll,fun i l c' hl hc'=>?_,h.nd⟩,⟨by simp,fun l hl hn=>?_⟩,same⟩
  ·have o:=op_mod (i:=Int.fdiv d 5) (j:=401) (by decide)
   simp[bz26,op_mod,zaat,k1,hd,m1,de,le,show ¬(B.sm.length:Int)=30 by omega,hlim,dE]
  ·rw[set_ne (Ne.symm n1)];exact h.p
  ·rw[set_eq lte];simp[smD]
  ·rw[set_ne n4];exact h.z
  ·rw[set_ne (fun z=>n5 (by rw[z];exact List.mem_of_getElem? hl))];exact h.pc i l c' hl hc'
  ·rw[set_ne (fun z=>hn (by simp[← z]))]
 | mov m l p j k2 hm hl hp ej=>
  have hll:L.ls[m]?=some (L.ls[m]'(by omega)):=by simp[show m < L.ls.length by omega]
  generalize L.ls[m]'(by omega)=q at hll
  have hq:=List.mem_of_getElem? hll
  have hsq:=h.pc m q l hll hl
  have dq:=dr_loc hsq
  have lq:=zaa0 hsq
  have ltq:=h.lt q (by simp[hq])
  have hlast:=sub_lastB (ts:=L.ls.map .loc) (m:=m) (t:=.loc q) (by simp;omega) (by simp[hll])
  have hgj:=zabe (ts:=l.map tS) (n:=j) (t:=tS p) (by simp[hp])
  have hjl:j < l.length:=(List.getElem?_eq_some_iff.mp hp).1
  have hix:L2.ixN (l.map tS).length (j:Int)=some j:=by simp[L2.ixN,hjl]
  refine⟨s.set q (.lst ((l.map tS).set j (tS (mvD p d)))),L.ls,?_,⟨?_,?_,?_,by simp[ll],fun i l' c' hl' hc'=>?_,h.nd⟩,⟨by simp,fun l hl hn=>?_⟩,same⟩
  ·have hx:subR (.val (tS p)) 0=some (.int p.x):=rfl
   have hy:subR (.val (tS p)) 1=some (.int p.y):=rfl
   have hdp:∀s,(R.val (tS p)).dr s=.val (tS p):=fun _=>rfl
   have et:T.tup [.int p.x,.int p.y,.int (dA d),.int 7,.int (-7),.int (dB d)]=tS (mvD p d):=rfl
   have oj:=op_mod (i:=Int.fdiv d 5) (j:=3) (by decide)
   have ej:Int.fmod (Int.fdiv d 5) 3=(j:Int):=ej
   rw[ej] at oj
   unfold dA dB at et
   generalize tS (mvD p d)=tm at *
   generalize tS p=tp at *
   simp at hix
   simp[bz26,op_mod,zaat,k2,hd,m0,dp,hlast,oj,dq,hgj,hdp,hx,hy,et,lq,hix]
  ·rw[set_ne (fun z=>n3 (by rw[← z];exact hq))];exact h.p
  ·rw[set_ne (fun z=>n5 (by rw[← z];exact hq))];exact h.e
  ·rw[set_ne (fun z=>n6 (by rw[← z];exact hq))];exact h.z
  ·have hc':(B.pc.set m (l.set j (mvD p d)))[i]?=some c':=hc'
   by_cases hi:m=i
   ·subst hi
    rw[hll] at hl'
    cases hl'
    rw[List.getElem?_set_self (by omega)] at hc'
    cases hc'
    rw[set_eq ltq,List.map_set]
   ·rw[List.getElem?_set_ne hi] at hc'
    have hne:q≠l':=fun z=>by
     subst z
     have a1:=(List.getElem?_eq_some_iff.mp hll)
     have a2:=(List.getElem?_eq_some_iff.mp hl')
     exact hi ((List.getElem_inj n7).mp (a1.2.trans a2.2.symm))
    rw[set_ne hne]
    exact h.pc i l' c' hl' hc'
  ·rw[set_ne (fun z=>hn (by simp[← z,hq]))]
 | far z hz hr=>
  refine⟨s,L.ls,?_,h,Keep.refl _ _,same⟩
  rcases hz with⟨k3,e⟩ | ⟨k3,e⟩
  ·unfold dS at e
   rcases hr with hr | hr
   ·simp[bz26,op_mod,zaat,k3,hd,m2,dz,hz0,← e,hr]
   ·simp[bz26,op_mod,zaat,k3,hd,m2,dz,hz0,← e,hr,show ¬z < -6 by omega]
  ·unfold dS at e
   rcases hr with hr | hr
   ·simp[bz26,op_mod,zaat,k3,hd,m2,dz,hz0,← e,hr]
   ·simp[bz26,op_mod,zaat,k3,hd,m2,dz,hz0,← e,hr,show ¬z < -6 by omega]
 | size z hz hr=>
  refine⟨s.set L.z (.lst [.int z]),L.ls,?_,⟨?_,?_,?_,ll,fun i l c' hl hc'=>?_,h.nd⟩,⟨by simp,fun l hl hn=>?_⟩,same⟩
  ·have hix:L2.ixN 1 0=some 0:=rfl
   rcases hz with⟨k3,e⟩ | ⟨k3,e⟩
   ·unfold dS at e
    simp[bz26,op_mod,zaat,k3,hd,m2,dz,hz0,← e,show ¬z < -6 by omega,show ¬6 < z by omega,lz,hix]
   ·unfold dS at e
    simp[bz26,op_mod,zaat,k3,hd,m2,dz,hz0,← e,show ¬z < -6 by omega,show ¬6 < z by omega,lz,hix]
  ·rw[set_ne (Ne.symm n2)];exact h.p
  ·rw[set_ne (Ne.symm n4)];exact h.e
  ·rw[set_eq ltz]
  ·rw[set_ne (fun z=>n6 (by rw[z];exact List.mem_of_getElem? hl))];exact h.pc i l c' hl hc'
  ·rw[set_ne (fun z=>hn (by simp[← z]))]
end Pg
end IP
end
section
set_option linter.all false
set_option maxRecDepth 100000
namespace IP
namespace Pg
open L2
variable {s:Sto}
structure Hb (C:Cf):Prop where
 sub:C.sub=sub0
 addP:∀(s:Sto) (A:Ad) (B:Bk) (c:List Spt),BAt s A B→B.pc.length < 10→B.mrk.length≤10→3≤c.length→c.length≤24→fits c→∃s',C.cf iz5 [slf A,.val (tSs' c),.val .non] s=.ok (.val (.int B.pc.length)) s'∧BAt s' ⟨A.o,A.a,A.b,A.c,A.ls++[s.length]⟩ ⟨B.size,B.pc++[c],B.mrk++[mk0 c],B.sm⟩∧Keep A.fp s s'
 addF:∀(s:Sto) (A:Ad) (B:Bk) (c:List Spt),BAt s A B→10≤B.pc.length→C.cf iz5 [slf A,.val (tSs' c),.val .non] s=.exc xz20 s
 addS:∀(s:Sto) (A:Ad) (B:Bk) (x:Sm),BAt s A B→x.ps=[]→dueC B x=0→∃s',C.cf iz6 [slf A,.val (fT x),.val (gT x),.val (.bl x.t),.val (.int x.e),.val .non] s=.ok (.val (.int B.sm.length)) s'∧BAt s' A ⟨B.size,B.pc,B.mrk,B.sm++[x]⟩∧Keep A.fp s s'
 addSF:∀(s:Sto) (A:Ad) (B:Bk) (x:Sm),BAt s A B→x.ps=[]→30≤B.sm.length→C.cf iz6 [slf A,.val (fT x),.val (gT x),.val (.bl x.t),.val (.int x.e),.val .non] s=.exc xz20 s
 mov:∀(s:Sto) (A:Ad) (B:Bk) (i j:Nat) (l:List Spt) (p:Spt) (a b c d:Int),BAt s A B→B.pc[i]?=some l→l[j]?=some p→wAll a b c d=true→∃s',C.cf iz17 [slf A,.val (.int i),.val (.int j),.val (.tup [.int a,.int b]),.val (.tup [.int c,.int d])] s=.ok (.val .non) s'∧BAt s' A ⟨B.size,B.pc.set i (l.set j ⟨p.x,p.y,a,b,c,d⟩),B.mrk,B.sm⟩∧Keep A.fp s s'
 out:∀(s:Sto) (A:Ad) (B:Bk) (st:Int),BAt s A B→0≤st→(-6≤B.size+st∧B.size+st≤6)→∃s',C.cf iz10 [slf A,.val (.int st)] s=.ok (.val (.int (B.size+st))) s'∧BAt s' A ⟨B.size+st,B.pc,B.mrk,B.sm⟩∧Keep A.fp s s'
 outF:∀(s:Sto) (A:Ad) (B:Bk) (st:Int),BAt s A B→0≤st→(B.size+st < -6∨6 < B.size+st)→C.cf iz10 [slf A,.val (.int st)] s=.exc xz3 s
 tin:∀(s:Sto) (A:Ad) (B:Bk) (st:Int),BAt s A B→0≤st→(-6≤B.size+-st∧B.size+-st≤6)→∃s',C.cf iz19 [slf A,.val (.int st)] s=.ok (.val (.int (B.size+-st))) s'∧BAt s' A ⟨B.size+-st,B.pc,B.mrk,B.sm⟩∧Keep A.fp s s'
 tinF:∀(s:Sto) (A:Ad) (B:Bk) (st:Int),BAt s A B→0≤st→(B.size+-st < -6∨6 < B.size+-st)→C.cf iz19 [slf A,.val (.int st)] s=.exc xz3 s
theorem hb (k:Nat):Hb (cfX fns sub0 (k+4)) where
 sub:=rfl
 addP:=fun s A B c h h0 hk h3 h24 hc=>by
  obtain⟨s',e,h',k',_⟩:=zaen (k:=k) h c (mk0 c) (t:=.non) (.inr ⟨rfl,rfl⟩) h0 h3 h24 (by simp[mk0]) (fun l hl=>by obtain⟨_,_,rfl⟩:=List.mem_map.mp hl;simp) hc (fun l hl=>by obtain⟨_,_,rfl⟩:=List.mem_map.mp hl;simp) hk
  exact⟨s',cf_of e rfl,h',k'⟩
 addF:=fun s A B c h hf=>cf_of (zagi (k:=k) h hf) rfl
 addS:=fun s A B x h hx hd=>by
  obtain⟨s',e,h',k',_⟩:=zafi (k:=k) h x (pv:=.non) (.inr ⟨rfl,hx⟩) hd
  exact⟨s',cf_of e rfl,h',k'⟩
 addSF:=fun s A B x h hx hf=>by
  have hd:dueC B x=1:=by unfold dueC;rw[if_pos hf]
  have:=zac5 (k:=k) h x (pv:=.non) (.inr ⟨rfl,hx⟩) (by rw[hd];decide)
  rw[hd] at this
  exact cf_of this rfl
 mov:=fun s A B i j l p a b c d h hc hp hw=>by
  obtain⟨s',e,b,k',_⟩:=zafk (k:=k+2) h hc hp hw
  exact⟨s',cf_of e rfl,b,k'⟩
 out:=fun s A B st h h0 hz=>by
  obtain⟨s',e,h',k',_⟩:=zafl (k:=k+1) h h0 hz
  exact⟨s',cf_of ((zad1 (k:=k+1) h).trans e) rfl,h',k'⟩
 outF:=fun s A B st h h0 hz=>cf_of ((zad1 (k:=k+1) h).trans (zaci (k:=k+1) h h0 hz)) rfl
 tin:=fun s A B st h h0 hz=>by
  obtain⟨s',e,h',k',_⟩:=zafl (k:=k+1) h h0 hz
  exact⟨s',cf_of ((zaec (k:=k+1) h).trans e) rfl,h',k'⟩
 tinF:=fun s A B st h h0 hz=>cf_of ((zaec (k:=k+1) h).trans (zaci (k:=k+1) h h0 hz)) rfl
section
variable {C:Cf} {A:Ad} {B B2:Bk} {d code:Int} {c:List Spt}
abbrev fD (A:Ad) (d:Int) (c:List Spt) (n:Int) (v4 v5 v6:Option IP.B):Fr:=[some (.val (.loc A.o)),iV d,some (.val (tSs' c)),iV n,v4,v5,v6]
theorem fin_ok {n:Int} {s':Sto} (h:exs C zafd (fD A d c n (iV 0) (iV (Int.fmod d 5)) none) s=.next (fD A d c n (iV 0) (iV (Int.fmod d 5)) none) s'):
  exs C bz25 (enter Fz25 [slf A,.val (.int d),.val (tSs' c),.val (.int n)]) s=.ret (.val (.int 0)) s':=by
 refine(zaag (σ1:=fD A d c n (iV 0) none none) (s1:=s) (by simp)).trans ?_
 refine(zaag (σ1:=fD A d c n (iV 0) (iV (Int.fmod d 5)) none) (s1:=s) (by simp[op_mod])).trans ?_
 refine(zaag (ex_try_ok h)).trans ?_
 simp
theorem zaei (hC:Hb C) {n:Int} {x:Nat} (hx:(x=xz3∧code=1)∨(x=xz20∧code=2)) (h:exs C zafd (fD A d c n (iV 0) (iV (Int.fmod d 5)) none) s=.exc x (fD A d c n (iV 0) (iV (Int.fmod d 5)) none) s):
  exs C bz25 (enter Fz25 [slf A,.val (.int d),.val (tSs' c),.val (.int n)]) s=.ret (.val (.int code)) s:=by
 have hs:=hC.sub
 have m2:∀b:Int,opR .mul (.val (.int 2)) (.val (.int b))=some (.val (.int (2*b))):=fun b=>op_mul (zaax (by decide))
 refine(zaag (σ1:=fD A d c n (iV 0) none none) (s1:=s) (by simp)).trans ?_
 refine(zaag (σ1:=fD A d c n (iV 0) (iV (Int.fmod d 5)) none) (s1:=s) (by simp[op_mod])).trans ?_
 refine(zaag (σ1:=fD A d c n (iV code) (iV (Int.fmod d 5)) none) (s1:=s) ?_).trans (by simp)
 rcases hx with⟨rfl,rfl⟩ | ⟨rfl,rfl⟩
 ·exact zadl (i:=6) (σ2:=fD A d c n (iV 1) (iV (Int.fmod d 5)) (some (.val (.exc xz3)))) h (by rw[hs];rfl) (by simp[hs,sub0,nth,m2])
 ·exact zadl (i:=6) (σ2:=fD A d c n (iV 2) (iV (Int.fmod d 5)) (some (.val (.exc xz20)))) h (by rw[hs];rfl) (by simp[hs,sub0,nth,m2])
theorem dueD (g:Gd B) (h2:2≤B.pc.length) (hs:B.sm.length < 30):dueC B (smD B d)=0:=by
 have side:∀(p q:Int) (i j:Nat),p=i→q=j→i < B.pc.length→j < 3→sideAt B p q=some []:=fun p q i j hp hq hi hj=>by
  subst hp hq
  unfold sideAt
  rw[if_pos (by omega)]
  have hc:B.pc[i]?=some B.pc[i]:=by simp[hi]
  have:=(g.c B.pc[i] (List.getElem_mem hi)).1.1
  rw[g.m]
  simp[hc,mk0,show j < B.pc[i].length by omega]
 have a:=side 0 0 0 0 rfl rfl (by omega) (by omega)
 have b:=side ((B.pc.length:Int) - 1) 1 (B.pc.length - 1) 1 (by omega) rfl (by omega) (by omega)
 have he:=zaaz (Int.fdiv d 5) (j:=401) (by decide)
 unfold dueC
 rw[if_neg (by omega)]
 have hp:pairsR B (sideAt B (smD B d).f1 (smD B d).f2) (sideAt B (smD B d).g1 (smD B d).g2) (smD B d).ps=true:=by
  show pairsR B (sideAt B 0 0) (sideAt B ((B.pc.length:Int) - 1) 1) []=true
  rw[a,b]
  rfl
 rw[if_pos hp,if_neg]
 have:zaa8 (smD B d)=false:=by
  unfold zaa8 smD dE
  simp
  omega
 rw[this]
 exact Bool.false_ne_true
theorem done_any (hC:Hb C) (h:BAt s A B) (g:Gd B) (hc:(3≤c.length∧c.length≤5)∧fits c) (hD:Deed d c B B2 code):
  ∃s' A',exs C bz25 (enter Fz25 [slf A,.val (.int d),.val (tSs' c),.val (.int B.pc.length)]) s=.ret (.val (.int code)) s'∧BAt s' A' B2∧A'.o=A.o∧Keep A.fp s s'∧∀l∈A'.fp,l∈A.fp∨s.length≤l:=by
 have gp:=g.p
 have ge:=g.e
 have gm:B.mrk.length=B.pc.length:=by rw[g.m];simp
 have li:=h.li
 have same:∀l∈A.fp,l∈A.fp∨s.length≤l:=fun l hl=>.inl hl
 have st:=zaaz (Int.fdiv d 5) (j:=5) (by decide)
 cases hD with
 | full k0 hf=>
  have e:=hC.addF s A B c h (by omega)
  exact⟨s,A,zaei hC (.inr ⟨rfl,rfl⟩) (by simp[k0,li,e]),h,rfl,Keep.refl _ _,same⟩
 | add k0 hf=>
  obtain⟨s',e,b,k⟩:=hC.addP s A B c h hf (by omega) (by omega) (by omega) hc.2
  refine⟨s',_,fin_ok (by simp[k0,li,e]),b,rfl,k,fun l hl=>?_⟩
  simp only[Ad.fp,List.mem_cons,List.mem_append,List.mem_singleton,List.not_mem_nil,or_false] at hl ⊢
  rcases hl with h | h | h | h | h | h
  ·exact .inl (.inl h)
  ·exact .inl (.inr (.inl h))
  ·exact .inl (.inr (.inr (.inl h)))
  ·exact .inl (.inr (.inr (.inr (.inl h))))
  ·exact .inl (.inr (.inr (.inr (.inr h))))
  ·exact .inr (Nat.le_of_eq h.symm)
 | fullS k1 hf=>
  have e:=hC.addSF s A B (smD B d) h rfl (by omega)
  have e:C.cf iz6 [slf A,.val (.tup [.int 0,.int 0]),.val (.tup [.int ((B.pc.length:Int) - 1),.int 1]),.val (.bl false),.val (.int (Int.fmod (Int.fdiv d 5) 401)),.val .non] s=_:=e
  exact⟨s,A,zaei hC (.inr ⟨rfl,rfl⟩) (by simp[k1,li,op_mod,zaat,e]),h,rfl,Keep.refl _ _,same⟩
 | addS k1 hf h2=>
  obtain⟨s',e,b,k⟩:=hC.addS s A B (smD B d) h rfl (dueD g h2 hf)
  have e:C.cf iz6 [slf A,.val (.tup [.int 0,.int 0]),.val (.tup [.int ((B.pc.length:Int) - 1),.int 1]),.val (.bl false),.val (.int (Int.fmod (Int.fdiv d 5) 401)),.val .non] s=_:=e
  exact⟨s',A,fin_ok (by simp[k1,li,op_mod,zaat,e]),b,rfl,k,same⟩
 | mov m l p j k2 hm hl hp ej=>
  have hw:wAll (dA d) 7 (-7) (dB d)=true:=by
   have a:=zaaz (Int.fdiv d 15) (j:=401) (by decide)
   have b:=zaaz (Int.fdiv d 6015) (j:=401) (by decide)
   simp only[wAll,List.all_cons,List.all_nil,wthn_iff,Bool.and_true,Bool.and_eq_true,decide_eq_true_eq,dA,dB]
   omega
  obtain⟨s',e,b,k⟩:=hC.mov s A B m j l p (dA d) 7 (-7) (dB d) h hl hp hw
  refine⟨s',A,fin_ok ?_,b,rfl,k,same⟩
  have oj:=op_mod (i:=Int.fdiv d 5) (j:=3) (by decide)
  have ej:Int.fmod (Int.fdiv d 5) 3=(j:Int):=ej
  rw[ej] at oj
  have em:(B.pc.length:Int) - 1=m:=by omega
  unfold dA dB at e
  simp[k2,li,op_mod,zaat,oj,em,e]
 | far z hz hr=>
  rcases hz with⟨k3,e⟩ | ⟨k3,e⟩
  ·unfold dS at e
   have e1:=hC.outF s A B (Int.fmod (Int.fdiv d 5) 5) h st.1 (by omega)
   exact⟨s,A,zaei hC (.inl ⟨rfl,rfl⟩) (by simp[k3,li,op_mod,zaat,e1]),h,rfl,Keep.refl _ _,same⟩
  ·unfold dS at e
   have e1:=hC.tinF s A B (Int.fmod (Int.fdiv d 5) 5) h st.1 (by omega)
   exact⟨s,A,zaei hC (.inl ⟨rfl,rfl⟩) (by simp[k3,li,op_mod,zaat,e1]),h,rfl,Keep.refl _ _,same⟩
 | size z hz hr=>
  rcases hz with⟨k3,e⟩ | ⟨k3,e⟩
  ·unfold dS at e
   obtain⟨s',e1,b,k⟩:=hC.out s A B (Int.fmod (Int.fdiv d 5) 5) h st.1 (by omega)
   rw[← e] at b
   exact⟨s',A,fin_ok (by simp[k3,li,op_mod,zaat,e1]),b,rfl,k,same⟩
  ·unfold dS at e
   obtain⟨s',e1,b,k⟩:=hC.tin s A B (Int.fmod (Int.fdiv d 5) 5) h st.1 (by omega)
   rw[← Int.sub_eq_add_neg,← e] at b
   exact⟨s',A,fin_ok (by simp[k3,li,op_mod,zaat,e1]),b,rfl,k,same⟩
end
end Pg
end IP
end
section
set_option linter.all false
set_option maxRecDepth 100000
namespace IP
namespace Pg
open L2
variable {k:Nat} {s:Sto}
theorem zaeq (xs:List Int) (hn:xs.length≤1000):run true fns sub0 whileL (k+2) iz28 [.val (tI xs),.val (.lst (iL xs))] s=.ok (.val (.bl true)) s:=by
 rw[zaai (F:=Fz28) rfl rfl]
 have hx:exs (cfX fns sub0 (k+1)) bz28 (enter Fz28 [.val (tI xs),.val (.lst (iL xs))]) s=.ret (.val (.bl true)) s:=by
  refine(zaag (σ1:=[some (.val (tI xs)),some (.val (.lst (iL xs))),none]) (s1:=s) (by simp)).trans ?_
  obtain⟨σ',e,c,rfl⟩:=zaa3 (g:=.one 2) (body:=fun σ s=>exs (cfX fns sub0 (k+1)) zae2 σ s) (s:=s) (fun _ σ=>∃c,σ=[some (.val (tI xs)),some (.val (.lst (iL xs))),c]) (rangeT 0 xs.length) 0 [some (.val (tI xs)),some (.val (.lst (iL xs))),none] ⟨none,rfl⟩ (by
    rintro m t σ hm ⟨c,rfl⟩
    obtain⟨rfl,hlt⟩:=zaau hm
    have hlt:m < xs.length:=by omega
    have hg:(iL xs)[m]?=some (.int xs[m]):=by simp[hlt]
    have h1:=sub_atT hg
    have h2:=sub_at hg
    have w1:=zaf3 (k:=k) (s:=s) xs[m]
    refine⟨[some (.val (tI xs)),some (.val (.lst (iL xs))),some (.val (.int m))],[some (.val (tI xs)),some (.val (.lst (iL xs))),some (.val (.int m))],by simp[bindTg],by simp[h1,h2,w1],_,rfl⟩)
  refine(zaag (σ1:=[some (.val (tI xs)),some (.val (.lst (iL xs))),c]) (s1:=s) ((ex_for (ts:=rangeT 0 xs.length) (s1:=s) (zabo (n:=xs.length) (by simp) hn) (by intro _ h;cases h)).trans e)).trans ?_
  simp
 rw[hx]
 rfl
theorem r_counts {A:Ad} {L:Kd} {B:Bk} (h:BAt s A B) (hk:Kp s L B):run true fns sub0 whileL (k+3) iz24 [slf A,.val (kT L)] s=.ok (.val (.bl true)) s:=by
 rw[zaai (F:=Fz24) rfl rfl]
 have p1:run true fns sub0 whileL (k+2) iz13 [slf A] s=.ok (.val (.int B.pc.length)) s:=by
  rw[zaai (F:=Fz13) rfl rfl]
  simp[bz13,h.f1,h.d1,h.len]
 have p2:run true fns sub0 whileL (k+2) iz16 [slf A] s=.ok (.val (.int B.sm.length)) s:=by
  rw[zaai (F:=Fz16) rfl rfl]
  simp[bz16,h.f3,h.d3]
 have n:=zaeq (k:=k) (s:=s) [(B.pc.length:Int),(B.sm.length:Int),B.size] (by simp)
 have m0:subR (.val (kT L)) 0=some (.loc L.p):=rfl
 have m1:subR (.val (kT L)) 1=some (.loc L.e):=rfl
 have m2:subR (.val (kT L)) 2=some (.loc L.z):=rfl
 have hd:∀s,(R.val (kT L)).dr s=.val (kT L):=fun _=>rfl
 have dp:=dr_loc hk.p
 have de:=dr_loc hk.e
 have dz:=dr_loc hk.z
 have hz0:subR (.bor [.int B.size]) 0=some (.int B.size):=rfl
 have hl:=hk.len
 have li:=h.li
 have f0:=h.f0
 generalize kT L=K at *
 simp only[tI,iL,List.map_cons,List.map_nil] at n
 simp[bz24,li,p1,p2,f0,hd,m0,m1,m2,dp,de,dz,hz0,hl,n]
theorem zagk {C:Cf} {A:Ad} {L:Kd} {B:Bk} (h:BAt s A B) (hk:Kp s L B) (g:Gd B)
  (hsp:∀(i:Nat) (c:List Spt),B.pc[i]?=some c→C.cf iz18 [slf A,.val (.int i)] s=.ok (.val (tSs' c)) s)
  (hco:∀(i:Nat) (c:List Spt),B.pc[i]?=some c→C.cf iz9 [slf A,.val (.int i),.val .non] s=.ok (.val (tIs (atSz c B.size))) s)
  (hse:∀(i:Nat) (x:Sm),B.sm[i]?=some x→C.cf iz15 [slf A,.val (.int i)] s=.ok (.val (paT x)) s)
  (hpl:∀p:Spt,C.cf iz29 [.val (tS p),.val (.int B.size)] s=.ok (.val (tI (plc p B.size))) s)
  (hrD:∀(l:List (List Int)) (n:Nat),s[n]?=some (.lst (l.map tI))→l.length≤1000→(∀xs∈l,xs.length≤1000)→C.cf iz30 [.val (tIs l),.val (.loc n)] s=.ok (.val (.bl true)) s)
  (hr:∀l:List (List Int),l.length≤1000→(∀xs∈l,xs.length≤1000)→C.cf iz30 [.val (tIs l),.val (tIs l)] s=.ok (.val (.bl true)) s)
  (hw:∀i:Int,C.cf iz34 [.val (.int i)] s=.ok (.val (.bl true)) s):
  exs C bz32 (enter Fz32 [slf A,.val (kT L)]) s=.ret (.val (.bl true)) s:=by
 have m0:subR (.val (kT L)) 0=some (.loc L.p):=rfl
 have m1:subR (.val (kT L)) 1=some (.loc L.e):=rfl
 have m2:subR (.val (kT L)) 2=some (.loc L.z):=rfl
 have hd:∀s,(R.val (kT L)).dr s=.val (kT L):=fun _=>rfl
 have dp:=dr_loc hk.p
 have de:=dr_loc hk.e
 have dz:=dr_loc hk.z
 have hz0:subR (.bor [.int B.size]) 0=some (.int B.size):=rfl
 have hl:=hk.len
 have li:=h.li
 have gp:=g.p
 have ge:=g.e
 generalize kT L=K at *
 obtain⟨σ1,e1,w2,rfl⟩:=zaa3 (g:=.one 2) (body:=fun σ s=>exs C bz32_L0 σ s) (s:=s) (fun _ σ=>∃w2,σ=[some (.val (.loc A.o)),some (.val K),w2,none,none]) (rangeT 0 B.pc.length) 0 [some (.val (.loc A.o)),some (.val K),none,none,none] ⟨none,rfl⟩ (by
  rintro m t σ hm ⟨w2,rfl⟩
  obtain⟨rfl,hlt⟩:=zaau hm
  have hlt:m < B.pc.length:=by omega
  have hc:B.pc[m]?=some B.pc[m]:=by simp[hlt]
  have hcm:=List.getElem_mem hlt
  generalize B.pc[m]=c at hc hcm
  have hc5:=(g.c c hcm).1
  have hll:L.ls[m]?=some (L.ls[m]'(by omega)):=by simp[show m < L.ls.length by omega]
  generalize L.ls[m]'(by omega)=q at hll
  have hsq:=hk.pc m q c hll hc
  have hlast:=zabe (ts:=L.ls.map .loc) (n:=m) (t:=.loc q) (by simp[hll])
  have e1:=hsp m c hc
  have e2:=hco m c hc
  have e3:=hrD (c.map Spt.l) q (by rw[hsq];simp[Function.comp_def];exact fun a _=>tS_tI a) (by simp;omega) (by simp)
  rw[← tSs_tIs] at e3
  have e4:=hr (atSz c B.size) (by simp;omega) (fun xs hxs=>by
   obtain⟨p,_,rfl⟩:=List.mem_map.mp hxs
   rw[plc_xy];simp)
  have ec:ev C (.compC zaf4 (.one 4) (.sub (.sub (.var 1) (.cst (.int 0))) (.var 2))) .v [some (.val (.loc A.o)),some (.val K),iV m,none,none] s=.ok (.val (tIs (atSz c B.size))) s:=by
   refine(zaff (i:=4) (l:=q) c tS (fun p=>tI (plc p B.size)) (by simp[hd,m0,dp,hlast]) hsq (fun p hp=>?_)).trans (by simp[Function.comp_def])
   simp[hd,m2,dz,hz0,hpl]
  refine⟨[some (.val (.loc A.o)),some (.val K),iV m,none,none],[some (.val (.loc A.o)),some (.val K),iV m,none,none],by simp[bindTg],?_,_,rfl⟩
  refine(zaag (σ1:=[some (.val (.loc A.o)),some (.val K),iV m,none,none]) (s1:=s) (by simp[li,e1,hd,m0,dp,hlast,e3])).trans ?_
  refine(zaag ((ex_ifs_f (zagh (ev_call_t (ev_call (zafw (x:=.val (tIs (atSz c B.size))) (s1:=s) (by simp[li,e2]) (zafw ec evr_nil)) e4)))).trans exs_nil)).trans ?_
  exact exs_nil)
 obtain⟨σ2,e2,w3,w4,rfl⟩:=zaa3 (g:=.one 2) (body:=fun σ s=>exs C bz32_L1 σ s) (s:=s) (fun _ σ=>∃w3 w4,σ=[some (.val (.loc A.o)),some (.val K),w3,w4,none]) (rangeT 0 B.sm.length) 0 [some (.val (.loc A.o)),some (.val K),w2,none,none] ⟨w2,none,rfl⟩ (by
  rintro m t σ hm ⟨w3,w4,rfl⟩
  obtain⟨rfl,hlt⟩:=zaau hm
  have hlt:m < B.sm.length:=by omega
  have hx:B.sm[m]?=some B.sm[m]:=by simp[hlt]
  generalize B.sm[m]=x at hx
  have e1:=hse m x hx
  have hg:=zabe (ts:=B.sm.map fun x=>T.int x.e) (n:=m) (t:=.int x.e) (by simp[hx])
  have t3:subR (.val (paT x)) 3=some (.int x.e):=rfl
  have tl:b1R .len (.val (paT x))=some (.val (.int 5)):=rfl
  have ti:isiX C.sub (.val (paT x)) .tuple=some true:=rfl
  have td:∀s,(R.val (paT x)).dr s=.val (paT x):=fun _=>rfl
  refine⟨[some (.val (.loc A.o)),some (.val K),iV m,w4,none],[some (.val (.loc A.o)),some (.val K),iV m,some (.val (paT x)),none],by simp[bindTg],?_,_,_,rfl⟩
  generalize paT x=px at *
  refine(zaag (σ1:=[some (.val (.loc A.o)),some (.val K),iV m,some (.val px),none]) (s1:=s) (by simp[li,e1])).trans ?_
  refine(zaag (σ1:=[some (.val (.loc A.o)),some (.val K),iV m,some (.val px),none]) (s1:=s) (by simp[ti,tl,td,t3,hw])).trans ?_
  simp[td,t3,hd,m1,de,hg])
 refine(zaag ((ex_for (ts:=rangeT 0 B.pc.length) (s1:=s) (zabo (n:=B.pc.length) (by simp[hd,m0,dp,hl]) (by omega)) (by intro _ h;cases h)).trans e1)).trans ?_
 refine(zaag ((ex_for (ts:=rangeT 0 B.sm.length) (s1:=s) (zabo (n:=B.sm.length) (by simp[hd,m1,de]) (by omega)) (by intro _ h;cases h)).trans e2)).trans ?_
 simp
theorem r_stands {A:Ad} {L:Kd} {B:Bk} (h:BAt s A B) (hk:Kp s L B) (g:Gd B):run true fns sub0 whileL (k+5) iz32 [slf A,.val (kT L)] s=.ok (.val (.bl true)) s:=by
 have e:=zagk (C:=cfX fns sub0 (k+4)) h hk g (fun i c hc=>cf_of (zac4 (k:=k+2) h hc) rfl) (fun i c hc=>cf_of (r_corners (k:=k) h hc (t:=.non) rfl g.z) rfl) (fun i x hx=>cf_of (r_seam (k:=k+2) h hx) rfl)
  (fun p=>cf_of (zael (k:=k+3) p g.z) rfl) (fun l n a b c=>cf_of (r_rowsD (k:=k+1) l a b c) rfl) (fun l a b=>cf_of (r_rows (k:=k+1) l a b) rfl) (fun i=>cf_of (zaf3 (k:=k+3) i) rfl)
 rw[zaai (F:=Fz32) rfl rfl,show Fz32.body=bz32 from rfl,e]
 rfl
theorem r_due {L:Kd} {B B2:Bk} {d code:Int} {c:List Spt} (h:Kp s L B) (g:Gd B) (hD:Deed d c B B2 code):
  ∃s' ls',run true fns sub0 whileL (k+1) iz26 [.val (kT L),.val (.int d),.val (tSs' c)] s=.ok (.val (.int code)) s'∧Kp s' ⟨L.p,L.e,L.z,ls'⟩ B2∧Keep L.fp s s'∧∀l∈ls',l∈L.ls∨s.length≤l:=by
 obtain⟨s',ls',e,q⟩:=due_any (C:=cfX fns sub0 k) h g hD
 refine⟨s',ls',?_,q⟩
 rw[zaai (F:=Fz26) rfl rfl,show Fz26.body=bz26 from rfl,e]
 rfl
theorem r_done {A:Ad} {B B2:Bk} {d code:Int} {c:List Spt} (h:BAt s A B) (g:Gd B) (hc:(3≤c.length∧c.length≤5)∧fits c) (hD:Deed d c B B2 code):
  ∃s' A',run true fns sub0 whileL (k+5) iz25 [slf A,.val (.int d),.val (tSs' c),.val (.int B.pc.length)] s=.ok (.val (.int code)) s'∧BAt s' A' B2∧A'.o=A.o∧Keep A.fp s s'∧∀l∈A'.fp,l∈A.fp∨s.length≤l:=by
 obtain⟨s',A',e,q⟩:=done_any (hb k) h g hc hD
 refine⟨s',A',?_,q⟩
 rw[zaai (F:=Fz25) rfl rfl,show Fz25.body=bz25 from rfl,e]
 rfl
theorem r_next (v:Int) (hv:zaay v):∃w,zaay w∧run true fns sub0 whileL (k+1) iz27 [.val (.int v)] s=.ok (.val (.int w)) s:=by
 rw[zaai (F:=Fz27) rfl rfl]
 have hmul:=op_mul (i:=v) (j:=48271) (zaax (by have:=hv.1;have:=hv.2;omega))
 have hmod:=op_mod (i:=v*48271+11) (j:=2147483647) (by decide)
 exact⟨_,zabd (v*48271+11),by simp[bz27,hmul,hmod]⟩
end Pg
end IP
end
section
set_option linter.all false
set_option maxRecDepth 100000
namespace IP
namespace Pg
open L2
def Dj (xs ys:List Nat):Prop:=∀l∈xs,l∉ys
theorem Dj.symm {xs ys:List Nat} (h:Dj xs ys):Dj ys xs:=fun l hl hm=>h l hm hl
def Frm (n:Nat) (xs ys:List Nat):Prop:=∀l∈ys,l∈xs∨n≤l
theorem Dj.frm {n:Nat} {xs ys zs:List Nat} (h:Dj xs zs) (hf:Frm n xs ys) (hz:∀l∈zs,l < n):Dj ys zs:=fun l hl hm=>by
 rcases hf l hl with q | q
 ·exact h l q hm
 ·have:=hz l hm;omega
structure Two (s:Sto) (A:Ad) (L:Kd) (B:Bk) (A':Ad) (L':Kd) (B':Bk):Prop where
 b:BAt s A B
 k:Kp s L B
 g:Gd B
 b':BAt s A' B'
 k':Kp s L' B'
 g':Gd B'
 d1:Dj A.fp L.fp
 d2:Dj A.fp A'.fp
 d3:Dj A.fp L'.fp
 d4:Dj L.fp A'.fp
 d5:Dj L.fp L'.fp
 d6:Dj A'.fp L'.fp
theorem Two.swap {s:Sto} {A A':Ad} {L L':Kd} {B B':Bk} (h:Two s A L B A' L' B'):Two s A' L' B' A L B:=
 ⟨h.b',h.k',h.g',h.b,h.k,h.g,h.d6,h.d2.symm,h.d4.symm,h.d3.symm,h.d5.symm,h.d1⟩
theorem Keep.at_ {fp xs:List Nat} {s s':Sto} (k:Keep fp s s') (hd:Dj xs fp) (hl:∀l∈xs,l < s.length):∀l∈xs,s'[l]?=s[l]?:=fun l h=>k.2 l (hl l h) (hd l h)
structure Has (C:Cf) (ns:List Int):Prop where
 stir:∀n:Nat,n≤1000→∃row:List Int,row.length=n∧(∀v∈row,zaay v)∧C.cf iz33 [.val (.lst (iL ns)),.val (.int n)] []=.ok (.val (.lst (iL row))) []
 next:∀(s:Sto) (v:Int),zaay v→∃w,zaay w∧C.cf iz27 [.val (.int v)] s=.ok (.val (.int w)) s
 spots:∀(s:Sto) (seed:Int) (n:Nat),n≤900→∃l:List Spt,l.length=n∧fits l∧C.cf iz31 [.val (.int seed),.val (.int n),.val (.int 20000),.val (.int 200)] s=.ok (.val (tSs' l)) s
 new:∀(σ:Fr) (s:Sto),∃(s':Sto) (A:Ad),ev C (.new 0 iz4 4 [] []) .v σ s=.ok (slf A) s'∧BAt s' A ⟨0,[],[],[]⟩∧Keep [] s s'∧A.ls=[]∧∀l∈A.fp,s.length≤l
 due:∀(s:Sto) (L:Kd) (B B2:Bk) (d code:Int) (c:List Spt),Kp s L B→Gd B→Deed d c B B2 code→∃s' ls',C.cf iz26 [.val (kT L),.val (.int d),.val (tSs' c)] s=.ok (.val (.int code)) s'∧Kp s' ⟨L.p,L.e,L.z,ls'⟩ B2∧Keep L.fp s s'∧∀l∈ls',l∈L.ls∨s.length≤l
 done:∀(s:Sto) (A:Ad) (B B2:Bk) (d code:Int) (c:List Spt),BAt s A B→Gd B→((3≤c.length∧c.length≤5)∧fits c)→Deed d c B B2 code→∃s' A',C.cf iz25 [slf A,.val (.int d),.val (tSs' c),.val (.int B.pc.length)] s=.ok (.val (.int code)) s'∧BAt s' A' B2∧A'.o=A.o∧Keep A.fp s s'∧∀l∈A'.fp,l∈A.fp∨s.length≤l
 cnt:∀(s:Sto) (A:Ad) (L:Kd) (B:Bk),BAt s A B→Kp s L B→C.cf iz24 [slf A,.val (kT L)] s=.ok (.val (.bl true)) s
 std:∀(s:Sto) (A:Ad) (L:Kd) (B:Bk),BAt s A B→Kp s L B→Gd B→C.cf iz32 [slf A,.val (kT L)] s=.ok (.val (.bl true)) s
theorem has (k:Nat) (ns:List Int):Has (cfX fns sub0 (k+5)) ns where
 stir:=fun n hn=>by
  obtain⟨row,hl,hr,e1⟩:=r_stir (k:=k+3) (s:=[]) ns n hn
  exact⟨row,hl,hr,cf_of e1 rfl⟩
 next:=fun s v hv=>by
  obtain⟨w,hw,e⟩:=r_next (k:=k+4) (s:=s) v hv
  exact⟨w,hw,cf_of e rfl⟩
 spots:=fun s seed n hn=>by
  obtain⟨l,h1,h2,e⟩:=r_spots (k:=k+4) (s:=s) seed n hn (far:=20000) (stp:=200) (by omega) (by omega)
  exact⟨l,h1,h2,cf_of e rfl⟩
 new:=fun σ s=>ev_new (k:=k+4) s
 due:=fun s L B B2 d code c h g hD=>by
  obtain⟨s',ls',e,q⟩:=r_due (k:=k+4) h g hD
  exact⟨s',ls',cf_of e rfl,q⟩
 done:=fun s A B B2 d code c h g hc hD=>by
  obtain⟨s',A',e,q⟩:=r_done (k:=k) h g hc hD
  exact⟨s',A',cf_of e rfl,q⟩
 cnt:=fun s A L B h hk=>cf_of (r_counts (k:=k+2) h hk) rfl
 std:=fun s A L B h hk g=>cf_of (r_stands (k:=k) h hk g) rfl
section
variable {C:Cf} {ns row:List Int} {s:Sto} {A A':Ad} {L L':Kd} {B B':Bk}
theorem both (hC:Has C ns) (h:Two s A L B A' L' B') {d:Int} {c:List Spt} (hc:(3≤c.length∧c.length≤5)∧fits c) (h0:Int.fmod d 5≠0→1≤B.pc.length) (h1:Int.fmod d 5=1→2≤B.pc.length):
  ∃(code:Int) (s1 s2:Sto) (A2:Ad) (L2:Kd) (B2:Bk),C.cf iz26 [.val (kT L),.val (.int d),.val (tSs' c)] s=.ok (.val (.int code)) s1∧C.cf iz25 [slf A,.val (.int d),.val (tSs' c),.val (.int B.pc.length)] s1=.ok (.val (.int code)) s2∧
   Two s2 A2 L2 B2 A' L' B'∧A2.o=A.o∧kT L2=kT L:=by
 obtain⟨B2,code,hD,g2⟩:=deed_some h.g hc h0 h1
 obtain⟨s1,ls',e1,k2,kp1,f1⟩:=hC.due s L B B2 d code c h.k h.g hD
 have bl:=h.b.lt
 have kl:=h.k.lt
 have bl':=h.b'.lt
 have kl':=h.k'.lt
 have b1:=h.b.other (kp1.at_ h.d1 bl)
 have b1':=h.b'.other (kp1.at_ h.d4.symm bl')
 have k1':=h.k'.other (kp1.at_ h.d5.symm kl')
 obtain⟨s2,A2,e2,b2,o2,kp2,f2⟩:=hC.done s1 A B B2 d code c b1 h.g hc hD
 have F1:Frm s.length L.fp (⟨L.p,L.e,L.z,ls'⟩:Kd).fp:=fun l hl=>by
  simp only[Kd.fp,List.mem_cons] at hl ⊢
  rcases hl with q | q | q | q
  ·exact .inl (.inl q)
  ·exact .inl (.inr (.inl q))
  ·exact .inl (.inr (.inr (.inl q)))
  ·rcases f1 l q with z | z
   ·exact .inl (.inr (.inr (.inr z)))
   ·exact .inr z
 have F2:Frm s1.length A.fp A2.fp:=f2
 have j1:Dj (⟨L.p,L.e,L.z,ls'⟩:Kd).fp A.fp:=h.d1.symm.frm F1 bl
 have j4:Dj (⟨L.p,L.e,L.z,ls'⟩:Kd).fp A'.fp:=h.d4.frm F1 bl'
 have j5:Dj (⟨L.p,L.e,L.z,ls'⟩:Kd).fp L'.fp:=h.d5.frm F1 kl'
 have k3:=k2.other (kp2.at_ j1 k2.lt)
 have b3':=b1'.other (kp2.at_ h.d2.symm b1'.lt)
 have k3':=k1'.other (kp2.at_ h.d3.symm k1'.lt)
 exact⟨code,s1,s2,A2,⟨L.p,L.e,L.z,ls'⟩,B2,e1,e2,⟨b2,k3,g2,b3',k3',h.g',j1.symm.frm F2 k2.lt,h.d2.frm F2 b1'.lt,h.d3.frm F2 k1'.lt,j4,j5,h.d6⟩,o2,rfl⟩
abbrev g22 (ns row:List Int) (bT kk:T) (v4 v5 v6 v7 v8 v9:Option IP.B):Fr:=[some (.val (.lst (iL ns))),some (.val (.lst (iL row))),some (.val bT),some (.val kk),v4,v5,v6,v7,v8,v9]
theorem zab5 (x:Int):Int.fmod (x*5) 5=0:=by
 rw[Int.fmod_eq_emod_of_nonneg _ (by decide)]
 omega
theorem eq_nil (ts:List T):eqR (.bor ts) (.val (.lst []))=some (decide (ts.length=0)):=by
 cases ts with
 | nil=>rfl
 | cons a r=>simp[eqR,eqL]
theorem turn (hC:Has C ns) (h:Two s A L B A' L' B') {bT kk:T} {j i:Nat} {v:Int} (hv:zaay v) (hs:subR (.val (.lst (iL row))) (i:Int)=some (.int v)) (hj:Int.fmod v 2=(j:Int)) (hb:subR (.val bT) (j:Int)=some (.loc A.o)) (hk:subR (.val kk) (j:Int)=some (kT L))
  (hbd:∀s,(R.val bT).dr s=.val bT) (hkd:∀s,(R.val kk).dr s=.val kk) {v5 v6 v7 v8 v9:Option IP.B}:
  ∃(s2:Sto) (A2:Ad) (L2:Kd) (B2:Bk) (w6 w7 w8 w9:Option IP.B),exs C zabw (g22 ns row bT kk (iV i) v5 v6 v7 v8 v9) s=exs C (zabw.drop 7) (g22 ns row bT kk (iV i) (iV j) w6 w7 w8 w9) s2∧Two s2 A2 L2 B2 A' L' B'∧A2.o=A.o∧kT L2=kT L:=by
 obtain⟨w,hw,ew⟩:=hC.next s v hv
 have o2:=op_mod (i:=v) (j:=2) (by decide)
 rw[hj] at o2
 have m0:subR (.val (kT L)) 0=some (.loc L.p):=rfl
 have kd:∀s,(R.val (kT L)).dr s=.val (kT L):=fun _=>rfl
 have dp:=dr_loc h.k.p
 have hl:=h.k.len
 have en:=eq_nil (L.ls.map .loc)
 have hwr:=hw.1
 have hwr2:=hw.2
 obtain⟨d,h0,h1,ed⟩:∃d:Int,(Int.fmod d 5≠0→1≤B.pc.length)∧(Int.fmod d 5=1→2≤B.pc.length)∧ex C (.ifs (.or (.cmpD .eq (.sub (.sub (.var 3) (.var 5)) (.cst (.int 0))) (.lst [])) (.and (.cmp .eq (.bin .mod (.var 6) (.cst (.int 5))) (.cst (.int 1))) (.cmp .lt (.b1 .len (.sub (.sub (.var 3) (.var 5)) (.cst (.int 0)))) (.cst (.int 2))))) [(.asg 6 (.bin .mul (.bin .fdiv (.var 6) (.cst (.int 5))) (.cst (.int 5))))] []) (g22 ns row bT kk (iV i) (iV j) (iV w) v7 v8 v9) s=.next (g22 ns row bT kk (iV i) (iV j) (iV d) v7 v8 v9) s:=by
  have mu:=op_mul (i:=Int.fdiv w 5) (j:=5) (zaax (by
   rw[Int.fdiv_eq_ediv_of_nonneg _ (by decide)]
   omega))
  by_cases c1:B.pc.length=0
  ·refine⟨Int.fdiv w 5*5,fun z=>absurd (zab5 _) z,fun z=>absurd ((zab5 _).symm.trans z) (by decide),?_⟩
   have ec:cmpR .eq (.bor (L.ls.map .loc)) (.val (.lst []))=some true:=by
    simp only[cmpR]
    rw[en,List.length_map,hl,c1]
    rfl
   simp[hkd,hk,kd,m0,dp,ec,zaat,mu]
  ·have hn:¬L.ls=[]:=fun z=>by rw[z] at hl;simp at hl;omega
   have ec:cmpR .eq (.bor (L.ls.map .loc)) (.val (.lst []))=some false:=by
    simp only[cmpR]
    rw[en,List.length_map,hl,decide_eq_false c1]
   by_cases c2:Int.fmod w 5=1
   ·by_cases c3:B.pc.length < 2
    ·refine⟨Int.fdiv w 5*5,fun z=>absurd (zab5 _) z,fun z=>absurd ((zab5 _).symm.trans z) (by decide),?_⟩
     simp[hkd,hk,kd,m0,dp,ec,zaat,op_mod,mu,hl,c2,show(B.pc.length:Int) < 2 by omega]
    ·refine⟨w,fun _=>by omega,fun _=>by omega,?_⟩
     simp[hkd,hk,kd,m0,dp,ec,zaat,op_mod,mu,hl,c2,show ¬(B.pc.length:Int) < 2 by omega]
   ·refine⟨w,fun _=>by omega,fun z=>absurd z c2,?_⟩
    simp[hkd,hk,kd,m0,dp,ec,zaat,op_mod,mu,hl,c2]
 have h3:=zaaz (Int.fdiv d 5) (j:=3) (by decide)
 obtain⟨m,hm⟩:∃m:Nat,3+Int.fmod (Int.fdiv d 5) 3=(m:Int):=⟨(3+Int.fmod (Int.fdiv d 5) 3).toNat,by omega⟩
 obtain⟨c,hcl,hcf,es⟩:=hC.spots s d m (by omega)
 obtain⟨code,s1,s2,A2,L2,B2,e1,e2,T2,o2',k2⟩:=both hC h (d:=d) (c:=c) ⟨⟨by omega,by omega⟩,hcf⟩ h0 h1
 refine⟨s2,A2,L2,B2,iV d,some (.val (tSs' c)),iV B.pc.length,iV code,?_,T2,o2',k2⟩
 generalize kT L=KL at *
 refine(zaag (σ1:=g22 ns row bT kk (iV i) (iV j) v6 v7 v8 v9) (s1:=s) (by simp[hs,o2])).trans ?_
 refine(zaag (σ1:=g22 ns row bT kk (iV i) (iV j) (iV w) v7 v8 v9) (s1:=s) (by simp[hs,ew])).trans ?_
 refine(zaag ed).trans ?_
 refine(zaag (σ1:=g22 ns row bT kk (iV i) (iV j) (iV d) (some (.val (tSs' c))) v8 v9) (s1:=s) (by simp[op_mod,zaat,hm,es])).trans ?_
 refine(zaag (σ1:=g22 ns row bT kk (iV i) (iV j) (iV d) (some (.val (tSs' c))) (iV B.pc.length) v9) (s1:=s) (by simp[hkd,hk,kd,m0,dp,hl])).trans ?_
 refine(zaag (σ1:=g22 ns row bT kk (iV i) (iV j) (iV d) (some (.val (tSs' c))) (iV B.pc.length) (iV code)) (s1:=s1) (by simp[hkd,hk,e1])).trans ?_
 refine(zaag (σ1:=g22 ns row bT kk (iV i) (iV j) (iV d) (some (.val (tSs' c))) (iV B.pc.length) (iV code)) (s1:=s2) (by simp[hbd,hb,e2])).trans ?_
 rfl
end
end Pg
end IP
end
section
set_option linter.all false
set_option maxRecDepth 100000
namespace IP
namespace Pg
open L2
section
variable {C:Cf} {ns row:List Int} {s:Sto} {A A':Ad} {L L':Kd} {B B':Bk}
abbrev bL (a b:Nat):T:=.lst [.loc a,.loc b]
theorem counts2 (hC:Has C ns) (h:Two s A L B A' L' B') {v4 v5 v6 v7 v8 v9:Option IP.B}:exs C (zabw.drop 7) (g22 ns row (bL A.o A'.o) (.lst [kT L,kT L']) v4 v5 v6 v7 v8 v9) s=.next (g22 ns row (bL A.o A'.o) (.lst [kT L,kT L']) v4 v5 v6 v7 v8 v9) s:=by
 have e1:=hC.cnt s A L B h.b h.k
 have e2:=hC.cnt s A' L' B' h.b' h.k'
 have k0:subR (.val (.lst [kT L,kT L'])) 0=some (kT L):=rfl
 have k1:subR (.val (.lst [kT L,kT L'])) 1=some (kT L'):=rfl
 have b0:subR (.val (bL A.o A'.o)) 0=some (.loc A.o):=rfl
 have b1:subR (.val (bL A.o A'.o)) 1=some (.loc A'.o):=rfl
 have kd:∀s,(R.val (.lst [kT L,kT L'])).dr s=.val (.lst [kT L,kT L']):=fun _=>rfl
 have bd:∀s,(R.val (bL A.o A'.o)).dr s=.val (bL A.o A'.o):=fun _=>rfl
 generalize T.lst [kT L,kT L']=KK at *
 generalize bL A.o A'.o=BB at *
 simp[List.drop,kd,bd,k0,k1,b0,b1,e1,e2]
structure At (C:Cf) (ns row:List Int) (o o':Nat) (K K':T) (σ:Fr) (s:Sto):Prop where
 ex:∃(A A':Ad) (L L':Kd) (B B':Bk) (v4 v5 v6 v7 v8 v9:Option IP.B),Two s A L B A' L' B'∧A.o=o∧A'.o=o'∧kT L=K∧kT L'=K'∧σ=g22 ns row (bL o o') (.lst [K,K']) v4 v5 v6 v7 v8 v9
theorem turnL (hC:Has C ns) (hr:∀v∈row,zaay v) {i:Nat} (hi:i < row.length) {o o':Nat} {K K':T} {σ:Fr} (h:At C ns row o o' K K' σ s):∃σ1 σ2 s2,bindTg σ (.one 4) (.int i)=some σ1∧exs C zabw σ1 s=.next σ2 s2∧At C ns row o o' K K' σ2 s2:=by
 obtain⟨A,A',L,L',B,B',v4,v5,v6,v7,v8,v9,T1,rfl,rfl,rfl,rfl,rfl⟩:=h.ex
 obtain⟨v,hv,hs,_⟩:=row_at hr (m:=i) hi
 have hp:=zaaz v (j:=2) (by decide)
 refine⟨g22 ns row (bL A.o A'.o) (.lst [kT L,kT L']) (iV i) v5 v6 v7 v8 v9,?_⟩
 have:Int.fmod v 2=((0:Nat):Int)∨Int.fmod v 2=((1:Nat):Int):=by omega
 rcases this with q | q
 ·obtain⟨s2,A2,L2,B2,w6,w7,w8,w9,e,T2,o2,k2⟩:=turn (row:=row) (bT:=bL A.o A'.o) (kk:=.lst [kT L,kT L']) (i:=i) (v5:=v5) (v6:=v6) (v7:=v7) (v8:=v8) (v9:=v9) hC T1 hv hs q rfl rfl (fun _=>rfl) (fun _=>rfl)
  have c:=counts2 (row:=row) (v4:=iV i) (v5:=iV 0) (v6:=w6) (v7:=w7) (v8:=w8) (v9:=w9) hC T2
  rw[o2,k2] at c
  exact⟨_,s2,by simp[bindTg],e.trans c,⟨A2,A',L2,L',B2,B',_,_,_,_,_,_,T2,o2,rfl,k2,rfl,rfl⟩⟩
 ·obtain⟨s2,A2,L2,B2,w6,w7,w8,w9,e,T2,o2,k2⟩:=turn (row:=row) (bT:=bL A.o A'.o) (kk:=.lst [kT L,kT L']) (i:=i) (v5:=v5) (v6:=v6) (v7:=v7) (v8:=v8) (v9:=v9) hC T1.swap hv hs q rfl rfl (fun _=>rfl) (fun _=>rfl)
  have c:=counts2 (row:=row) (v4:=iV i) (v5:=iV 1) (v6:=w6) (v7:=w7) (v8:=w8) (v9:=w9) hC T2.swap
  rw[o2,k2] at c
  exact⟨_,s2,by simp[bindTg],e.trans c,⟨A,A2,L,L2,B,B2,_,_,_,_,_,_,T2.swap,rfl,o2,rfl,k2,rfl⟩⟩
theorem ev_lst2 {C:Cf} {a b:E} {σ:Fr} {s s1 s2:Sto} {t1 t2:T} (h1:ev C a .v σ s=.ok (.val t1) s1) (h2:ev C b .v σ s1=.ok (.val t2) s2):ev C (.lst [a,b]) .v σ s=.ok (.val (.lst [t1,t2])) s2:=by
 have e0:ev C (.lst [a,b]) .v σ s=((evs C [a,b] σ s).bind fun ts s1=>.ok (.val (.lst ts)) s1):=by simp only[ev,fin_v]
 rw[e0]
 simp only[evs,h1,h2,Res.bind_ok,onV]
theorem gd0:Gd ⟨0,[],[],[]⟩:=⟨by simp,rfl,by simp,by decide,fun c h=>by simp at h⟩
theorem law_any (hC:Has C ns) (hn:ns.length≤63):∃s',exs C b_law (enter F_law [.val (.lst (iL ns))]) []=.ret (.val (.bl true)) s':=by
 obtain⟨row,hl,hr,e1⟩:=hC.stir (ns.length+1) (by omega)
 have e1:C.cf iz33 [.val (.lst (iL ns)),.val (.int ((ns.length:Int)+1))] []=.ok (.val (.lst (iL row))) []:=e1
 have f0:Fr:=[some (.val (.lst (iL ns))),some (.val (.lst (iL row))),none,none,none,none,none,none,none,none]
 obtain⟨s1,A,en1,b1,_,_,_⟩:=hC.new [some (.val (.lst (iL ns))),some (.val (.lst (iL row))),none,none,none,none,none,none,none,none] []
 obtain⟨s2,A',en2,b2,kp,_,al⟩:=hC.new [some (.val (.lst (iL ns))),some (.val (.lst (iL row))),none,none,none,none,none,none,none,none] s1
 have b1':=b1.other (kp.at_ (xs:=A.fp) (fun l _ h=>by simp at h) b1.lt)
 obtain⟨L,hL⟩:∃L:Kd,L=⟨s2.length,s2.length+1,s2.length+2,[]⟩:=⟨_,rfl⟩
 obtain⟨L',hL'⟩:∃L:Kd,L=⟨s2.length+3,s2.length+4,s2.length+5,[]⟩:=⟨_,rfl⟩
 obtain⟨s3,hs3⟩:∃s3:Sto,s3=s2++[.lst [],.lst [],.lst [.int 0],.lst [],.lst [],.lst [.int 0]]:=⟨_,rfl⟩
 have at3:∀n,s3[s2.length+n]?=([.lst [],.lst [],.lst [.int 0],.lst [],.lst [],.lst [.int 0]]:Sto)[n]?:=fun n=>by
  rw[hs3,List.getElem?_append_right (by omega),Nat.add_sub_cancel_left]
 have old:∀l,l < s2.length→s3[l]?=s2[l]?:=fun l h=>by rw[hs3,List.getElem?_append_left h]
 have ba:BAt s3 A ⟨0,[],[],[]⟩:=b1'.other fun l h=>old l (b1'.lt l h)
 have bb:BAt s3 A' ⟨0,[],[],[]⟩:=b2.other fun l h=>old l (b2.lt l h)
 have ka:Kp s3 L ⟨0,[],[],[]⟩:=by
  subst hL
  refine⟨at3 0,at3 1,at3 2,rfl,fun i l c h=>by simp at h,?_⟩
  simp[Kd.fp]
 have kb:Kp s3 L' ⟨0,[],[],[]⟩:=by
  subst hL'
  refine⟨at3 3,at3 4,at3 5,rfl,fun i l c h=>by simp at h,?_⟩
  simp[Kd.fp]
 have lo:∀l∈L.fp,s2.length≤l∧l < s2.length+3:=fun l h=>by
  subst hL
  simp[Kd.fp] at h
  omega
 have lo':∀l∈L'.fp,s2.length+3≤l:=fun l h=>by
  subst hL'
  simp[Kd.fp] at h
  omega
 have T0:Two s3 A L ⟨0,[],[],[]⟩ A' L' ⟨0,[],[],[]⟩:=by
  refine⟨ba,ka,gd0,bb,kb,gd0,fun l h q=>?_,fun l h q=>?_,fun l h q=>?_,fun l h q=>?_,fun l h q=>?_,fun l h q=>?_⟩
  ·have:=b1'.lt l h;have:=(lo l q).1;omega
  ·have:=b1.lt l h;have:=al l q;omega
  ·have:=b1'.lt l h;have:=lo' l q;omega
  ·have:=b2.lt l q;have:=(lo l h).1;omega
  ·have:=(lo l h).2;have:=lo' l q;omega
  ·have:=b2.lt l h;have:=lo' l q;omega
 have e2:ev C (.lst [(.new 0 iz4 4 [] []),(.new 0 iz4 4 [] [])]) .v [some (.val (.lst (iL ns))),some (.val (.lst (iL row))),none,none,none,none,none,none,none,none] []=.ok (.val (bL A.o A'.o)) s2:=by
  exact ev_lst2 en1 en2
 have e3:ev C (.lst [(.lst [(.cell (.lst [])),(.cell (.lst [])),(.cell (.lst [(.cst (.int 0))]))]),(.lst [(.cell (.lst [])),(.cell (.lst [])),(.cell (.lst [(.cst (.int 0))]))])]) .v [some (.val (.lst (iL ns))),some (.val (.lst (iL row))),some (.val (bL A.o A'.o)),none,none,none,none,none,none,none] s2=.ok (.val (.lst [kT L,kT L'])) s3:=by
  subst hL hL' hs3
  simp[kT]
 obtain⟨σ4,s4,e4,h4⟩:=zady (g:=.one 4) (body:=fun σ s=>exs C zabw σ s) (fun _ σ s=>At C ns row A.o A'.o (kT L) (kT L') σ s) (rangeT 0 ns.length) 0 (g22 ns row (bL A.o A'.o) (.lst [kT L,kT L']) none none none none none none) s3 ⟨A,A',L,L',_,_,_,_,_,_,_,_,T0,rfl,rfl,rfl,rfl,rfl⟩ (by
  rintro i t σ s hi h
  obtain⟨rfl,hlt⟩:=zaau hi
  rw[Int.zero_add]
  exact turnL hC hr (i:=i) (by omega) h)
 obtain⟨A2,A2',L2,L2',B2,B2',v4,v5,v6,v7,v8,v9,T2,o2,o2',k2,k2',rfl⟩:=h4.ex
 have f1:=hC.std s4 A2 L2 B2 T2.b T2.k T2.g
 have f2:=hC.std s4 A2' L2' B2' T2.b' T2.k' T2.g'
 refine⟨s4,?_⟩
 refine(zaag (σ1:=[some (.val (.lst (iL ns))),some (.val (.lst (iL row))),none,none,none,none,none,none,none,none]) (s1:=[]) (by simp[e1])).trans ?_
 refine(zaag (σ1:=[some (.val (.lst (iL ns))),some (.val (.lst (iL row))),some (.val (bL A.o A'.o)),none,none,none,none,none,none,none]) (s1:=s2) (ex_asg e2)).trans ?_
 refine(zaag (σ1:=g22 ns row (bL A.o A'.o) (.lst [kT L,kT L']) none none none none none none) (s1:=s3) (ex_asg e3)).trans ?_
 refine(zaag ((ex_for (ts:=rangeT 0 ns.length) (s1:=s3) (zabo (n:=ns.length) (by simp) (by omega)) (by intro _ h;cases h)).trans e4)).trans ?_
 rw[← o2,← o2',← k2,← k2']
 have k0:subR (.val (.lst [kT L2,kT L2'])) 0=some (kT L2):=rfl
 have k1:subR (.val (.lst [kT L2,kT L2'])) 1=some (kT L2'):=rfl
 have b0:subR (.val (bL A2.o A2'.o)) 0=some (.loc A2.o):=rfl
 have b1:subR (.val (bL A2.o A2'.o)) 1=some (.loc A2'.o):=rfl
 have kd:∀s,(R.val (.lst [kT L2,kT L2'])).dr s=.val (.lst [kT L2,kT L2']):=fun _=>rfl
 have bd:∀s,(R.val (bL A2.o A2'.o)).dr s=.val (bL A2.o A2'.o):=fun _=>rfl
 generalize T.lst [kT L2,kT L2']=KK at *
 generalize bL A2.o A2'.o=BB at *
 simp[kd,bd,k0,k1,b0,b1,f1,f2]
end
theorem law22 (k:Nat) (ns:List Int) (hn:ns.length≤63):∃s,run true fns sub0 whileL (k+6) i_law [.val (.lst (ns.map .int))] []=.ok (.val (.bl true)) s:=by
 obtain⟨s',e⟩:=law_any (has k ns) hn
 refine⟨s',?_⟩
 rw[zaai (F:=F_law) rfl rfl,e]
 rfl
theorem math:Math:=fun ns hn=>law22 10 ns hn
end Pg
end IP
end
section
namespace PySem.W.Fast
def tw2886195860485545528:=()
def tw8992247105578522085:=()
def tw9285617573029049256:=()
def tw16187457442681310982:=()
def tw16001125723178244621:=()
def tw17244518536367135176:=()
def tw2218522791653215506:=()
def tw12895560165108688982:=()
def tw13770700052683101665:=()
def tw3887926068768745526:=()
def tw15063578112722438121:=()
def tw13489329583766231149:=()
def tw5340492769878042160:=()
def tw15704170800235405679:=()
def tw9579904137531532086:=()
def tw822125760855073147:=()
def tw1644125532449518030:=()
def tw14146199161285422909:=()
def tw13660004549270516651:=()
def tw12685637539380318095:=()
def tw248897703447656522:=()
def tw17943432463470689038:=()
def tw4159799258933660646:=()
def tw5455542107040213094:=()
def tw8420340991061167906:=()
def tw16257686562546362692:=()
def tw12053900311105966679:=()
def tw16564653646901034210:=()
def tw15525707437531842955:=()
def tw13554806109795833549:=()
def tw3960779382702173592:=()
def tw11179953234446623574:=()
def tw11122114993864390804:=()
def tw14503234163915758577:=()
def tw15025725699941750727:=()
def tw11947844900631997063:=()
def tw8958227206366108635:=()
def tw10192812311964802133:=()
def tw2760749924049156809:=()
def tw2055159242859573444:=()
def tw7249752803853079281:=()
def tw9506123199609468566:=()
def tw9502001617470319917:=()
def tw9031643454629644575:=()
def tw15206915139944527049:=()
def tw16626968949319667411:=()
def tw5681996710830531659:=()
def tw11185078315456541899:=()
def tw14065477705578920549:=()
def tw7129906705381413129:=()
def tw12146888891421104927:=()
def tw16551485218117919422:=()
def tw9873687368776721096:=()
def tw16917949461448092107:=()
def tw1046607438868626939:=()
def tw15402198571306258360:=()
def tw4985934563602266261:=()
def tw8606614955226090848:=()
def tw3582237174491452830:=()
def tw7411674488131912404:=()
def tw8611200733590693514:=()
def tw6642040749063606872:=()
def tw17639817792300026283:=()
def tw8493865713885010131:=()
def tw18400221291125727086:=()
def tw2806697832220713899:=()
def tw4212887245740355183:=()
def tw1466857927729063881:=()
def tw4108500506837642065:=()
def tw4820727134012540171:=()
def tw16887123743721510302:=()
def tw16793892129526674466:=()
def tw12754985015001709205:=()
def tw8394046773776102970:=()
def tw13810654867550057634:=()
def tw13270999899683209496:=()
def tw12960945044513029982:=()
def tw1179628320902330073:=()
def tw7852158435795298986:=()
def tw12992299374478910213:=()
def tw2422590169472386684:=()
def tw3028468396840456590:=()
def tw15682713037760805705:=()
def tw5207465692112428845:=()
def tw17869483998400522792:=()
def tw17785919917697925272:=()
def tw16306402482032235492:=()
def tw2288085441189498285:=()
def tw14108922227802074452:=()
def tw342655506626451327:=()
def tw18408218202348105795:=()
def tw14648902519891539166:=()
def tw17974278847620736127:=()
def tw9016954474500928275:=()
def tw1223205542072890083:=()
def tw14902512069232604191:=()
def tw6427322825021371840:=()
def tw14489956165115307194:=()
def tw12087129928291884504:=()
def tw16435648887624406704:=()
def tw7252926818127784009:=()
def tw14499179626414702921:=()
def tw12441468485598617408:=()
def tw3488998858193058451:=()
def tw15859820288883191926:=()
def tw81357061022503031:=()
def tw10607295169797227451:=()
def tw7640672605822213251:=()
def tw5411516552665333360:=()
def tw3987480349614222989:=()
def tw3071577953190433487:=()
def tw3803516095257073609:=()
def tw14199054578431751439:=()
def tw4322766230728305452:=()
def tw14174543934809767458:=()
def tw1118756561201297735:=()
def tw2828833049961624448:=()
def tw4013330120368327945:=()
def tw14476126308019706554:=()
def tw21045830411021527:=()
def tw1847001437807026706:=()
def tw15723326413563346498:=()
def tw17637201676896757498:=()
def tw1932992274550352097:=()
def tw3768144441567890124:=()
def tw3031604435067969862:=()
def tw10954402350774223869:=()
def tw8391381921392173383:=()
def tw6077863063248190230:=()
def tw15020882705247573224:=()
def tw13468981601131375748:=()
def tw15188851043400777196:=()
def tw12727258069395273384:=()
def tw411126317662267496:=()
def tw6723514270272385611:=()
def tw2910794765292559259:=()
def tw14878609769630428992:=()
def tw11325412444585962381:=()
def tw9721583016527633573:=()
def tw641644491072876502:=()
def tw10589855428624434084:=()
def tw912740983854795900:=()
def tw2773534647494953737:=()
def tw7496319872219484015:=()
def tw14494443046374094301:=()
def tw1674768886158136223:=()
def tw16949342187093086681:=()
def tw6412126648702273219:=()
def tw2887002061746218431:=()
def tw16643772225348878846:=()
def tw3933195271679810859:=()
def tw14720153224012658299:=()
def tw636732180612619804:=()
def tw9596830537203040991:=()
def tw7128466743716604751:=()
def tw5026348808752448763:=()
def tw14382234358542988654:=()
def tw8310252142554690296:=()
def tw1311538928590812119:=()
def tw12250963563670121425:=()
def tw6587182640564534206:=()
def tw6796210528593699880:=()
def tw16625857104284755190:=()
def tw634696708726719082:=()
def tw16681039652441154907:=()
def tw6930617536931011275:=()
def tw1662130337673603254:=()
def tw4730545830327507643:=()
def tw8234053511363052790:=()
def tw16075580903594148135:=()
def tw15110510237388848365:=()
def tw14174559495112118890:=()
def tw8894110548454486018:=()
def tw12457840740496225256:=()
def tw3270824110671999349:=()
def tw2202088323102700192:=()
def tw14830252595716986661:=()
def tw15001234593329603085:=()
def tw2203037321259587894:=()
def tw6730044870545253007:=()
def tw12484611067974277437:=()
def tw13318407188626562282:=()
def tw17004305880216032539:=()
def tw14979191425592321517:=()
def tw15739981136484321332:=()
def tw8851076249171120807:=()
def tw11507555421476225547:=()
def tw9337291194760751407:=()
def tw8930569479545882888:=()
def tw1055479393063990811:=()
def tw14620459914594853096:=()
def tw8538278211626774555:=()
def tw11296050230185667641:=()
def tw16534359202446372084:=()
def tw15121971280707815889:=()
def tw7869973136852950356:=()
def tw11417871920931813666:=()
def tw13404905380023889753:=()
def tw14444929338523472629:=()
def tw3937893306599744078:=()
def tw8662864956411863411:=()
def tw16597759249396098570:=()
def tw5489998800214167557:=()
def tw6398303804071182149:=()
def tw6913301253900381992:=()
def tw333621576856392118:=()
def tw1516594745389507227:=()
def tw9455038065637349709:=()
def tw9355075771461296794:=()
def tw8894277765997272005:=()
def tw10981826580867104906:=()
def tw4576492422565229079:=()
def tw7404699472156880217:=()
def tw12021692932595494355:=()
def tw4704074575490686435:=()
def tw14660276229958741822:=()
def tw12581466880852283967:=()
def tw3039132022886838581:=()
def tw15451972317215355919:=()
def tw8555409319000240962:=()
def tw6201540770299811287:=()
def tw10103606405398543878:=()
def tw4180276623176902978:=()
def tw16540862489138670902:=()
def tw8672235601699090454:=()
def tw12746820412357209886:=()
def tw185956430741180513:=()
def tw780595684061807267:=()
def tw8838609988780327963:=()
def tw2613150320418483718:=()
def tw11335350677247368142:=()
def tw16056990148595253718:=()
def tw7266604790114997275:=()
def tw11514159998779093346:=()
def tw10847795405366681163:=()
def tw13473743981090875003:=()
def tw2170910781144395448:=()
def tw4226719920449380672:=()
def tw3508718649017291015:=()
def tw4668331106019182137:=()
def tw5008709909124587008:=()
def tw17137570885299666650:=()
def tw7202814453057040630:=()
def tw5334809431422140084:=()
def tw17862684473249018922:=()
def tw7691208081684600082:=()
def tw5067412700840119583:=()
def tw12545720055697130212:=()
def tw15344116812760551784:=()
def tw10864481526828709082:=()
def tw4160790570217650928:=()
def tw9335389290191217055:=()
def tw943844378959338991:=()
def tw2806511539309113150:=()
def tw6071630640669047990:=()
def tw13059883324119501574:=()
def tw2437663099184164203:=()
def tw17849380460010709031:=()
def tw1046037771553125081:=()
def tw8301330616734369241:=()
def tw4359935803668047333:=()
def tw8804329100643097121:=()
def tw8924483996737078633:=()
def tw4360790178180705191:=()
def tw14474377792586017364:=()
def tw15735144483817367042:=()
def tw10521291248725364328:=()
def tw2436024172444809867:=()
def tw1056458824601497768:=()
def tw11796384013479080272:=()
def tw8621844095058758558:=()
def tw8996033015458051618:=()
def tw17013981581066075208:=()
def tw7109006152270394293:=()
def tw6905088968039637863:=()
def tw117920906281184018:=()
def tw12808859040588827317:=()
def tw1602545036870225977:=()
def tw3529180987233139521:=()
def tw8976695470499181335:=()
def tw12279569556980049364:=()
def tw83750522416765325:=()
def tw17931021560709546676:=()
def tw12489509203236179852:=()
def tw13435277984774457263:=()
def tw13925881320729732022:=()
def tw2748266371408272797:=()
def tw6560645390608100707:=()
def tw16994479392154574287:=()
def tw10390437117286280877:=()
def tw13559222859315493888:=()
def tw9034287770827324540:=()
def tw13664032410470273583:=()
def tw6969825852954136326:=()
def tw4322107551296101826:=()
def tw9248972183120052783:=()
def tw11081923079964127516:=()
def tw7050163666136010239:=()
def tw2416883385799823911:=()
def tw3209814278028269998:=()
def tw16240289361115976153:=()
def tw7891392841509422199:=()
def tw16632479787110306195:=()
def tw7683971156616694988:=()
def tw6017255411586216085:=()
def tw292492543951676037:=()
def tw16548032959095255718:=()
def tw1778600372855550407:=()
def tw16608621844720743360:=()
def tw17363100437613530278:=()
def tw13491337529734109718:=()
def tw9032008220788256605:=()
def tw8660576273169802375:=()
def tw13765619122362845156:=()
def tw11591399524726665806:=()
def tw4726946812075160579:=()
def tw9229311443035883224:=()
def tw1348533281994307133:=()
def tw11180262599457301443:=()
def tw17921674929277878172:=()
def tw12901812465038948695:=()
def tw4810974784702845505:=()
def tw3566812994871201709:=()
def tw5291038220235079601:=()
def tw232148631488535965:=()
def tw5963415067095610302:=()
def tw1303440791867427095:=()
def tw859469858546154704:=()
def tw10616393349268890344:=()
def tw7112392764007712638:=()
def tw11294198842075224077:=()
def tw11544968810383656184:=()
def tw16604152359428271458:=()
def tw9493982868258508977:=()
def tw11435979639808951884:=()
def tw6146774709609411500:=()
def tw3232096248216973044:=()
def tw8506347750291230787:=()
def tw7206679695405062546:=()
def tw12420916624774534254:=()
def tw12818337030730068902:=()
def tw149092895916870115:=()
def tw10547783005426688558:=()
def tw15608530154238295274:=()
def tw14742528884018950187:=()
def tw4720924078614178612:=()
def tw11988569214184520997:=()
def tw11554504543951290315:=()
def tw8379637293192636563:=()
def tw7224024102922956086:=()
def tw8117156384017701355:=()
def tw18266853131343152100:=()
def tw4954021648759068663:=()
def tw1416505012052048922:=()
def tw15177954238507934041:=()
def tw10593787383589846095:=()
def tw17278164069113572193:=()
def tw7802836117585863641:=()
def tw14019213213325742200:=()
def tw642803299309537383:=()
def tw15168014992970335068:=()
def tw8152153309151556721:=()
def tw9958668984063570567:=()
def tw6037587795167424426:=()
def tw7682027829160087753:=()
def tw406703865593703894:=()
def tw9458568444725675204:=()
def tw8719210264221397739:=()
def tw1640601082621673279:=()
def tw9217633677345501840:=()
def tw15045608763689167010:=()
def tw7986264853770876977:=()
def tw13977696787215518705:=()
def tw7213864490519901899:=()
def tw3895754539477450892:=()
def tw5137539577504059814:=()
def tw17997874547066377179:=()
def tw3126942904166417175:=()
def tw3383997392231710052:=()
def tw17397238772998481581:=()
def tw2276250115719094854:=()
def tw13455853788468540887:=()
def tw2572304398642063391:=()
def tw2002014987221101950:=()
def tw10791752143278109991:=()
def tw11888007851136547261:=()
def tw14580376930875885564:=()
def tw4699873804508829054:=()
def tw6866942456902692053:=()
def tw2949664151719533179:=()
def tw1821619706114103799:=()
def tw11295762964591502048:=()
def tw9404642505163931022:=()
def tw590120428427693841:=()
def tw1439727049780280136:=()
def tw15249660953287596755:=()
def tw9858971982253835357:=()
def tw17882626467240797419:=()
def tw9052090906331186319:=()
def tw12424397165366770256:=()
def tw6465822787020288086:=()
def tw10343183222539132829:=()
def tw732092194790356612:=()
def tw12112924695520072479:=()
def tw1954698896373094559:=()
def tw8344424523746021734:=()
def tw14264247151925095600:=()
def tw561596816140637500:=()
def tw2989518654712937175:=()
def tw12917752384298796797:=()
def tw15187851329520393528:=()
def tw14662177914996483329:=()
def tw11460211378497339312:=()
def tw4918368408626188782:=()
def tw13037714416473016183:=()
def tw12155526275390056940:=()
def tw4343594928567087915:=()
def tw5430951534494802432:=()
def tw11522630367390438574:=()
def tw11627467121262712121:=()
def tw4458265030285869910:=()
def tw1036230922660998898:=()
def tw8057728199896406097:=()
def tw1332817287242316572:=()
def tw9509381537153076037:=()
def tw3230672383170726352:=()
def tw17309869123861114636:=()
end PySem.W.Fast
set_option Elab.async false
set_option maxRecDepth 100000
set_option maxHeartbeats 0
open PySem PySem.W PyProof.Rows
theorem PySem.Challenge.cw_gradecut_k22_two_books_holds : PySem.Challenge.rw_gradecut_k22_two_books.Holds := by
 w_on;o_law;k_head;(case hw=>w_witness2)
 k_fill
 refine IP.Pg.walk IP.Pg.math (l:=PySem.Challenge.rw_gradecut_k22_two_books) rfl rfl (fun w h Y=>PySem.W.kIn_of Y) ?noL ?goF
 case noL=>intro w;first | rfl | with_unfolding_all rfl | decide +kernel
 case goF=>
  intro w mg fa h KX G hmg
  refine' IP.Pg.all_mk KX G hmg ?aez21 ?aez3 ?qez3 ?aez1 ?qez1 ?aez0 ?qez0 ?aez2 ?qez2 ?aez22 ?qez22 ?aez20 ?qez20 ?hsp ?htk ?gaz21 ?gnz21 ?dcz21 ?caz21 ?moz21 ?mbz21 ?gaz3 ?gnz3 ?dcz3 ?caz3 ?moz3 ?mbz3 ?gaz1 ?gnz1 ?dcz1 ?caz1 ?moz1 ?mbz1 ?gaz0 ?gnz0 ?dcz0 ?caz0 ?moz0 ?mbz0 ?gaz2 ?gnz2 ?dcz2 ?caz2 ?moz2 ?mbz2 ?gaz22 ?gnz22 ?dcz22 ?caz22 ?moz22 ?mbz22 ?gaz20 ?gnz20 ?dcz20 ?caz20 ?moz20 ?mbz20 ?kiz21z3 ?kiz3z3 ?kiz1z3 ?kiz0z3 ?kiz2z3 ?kiz22z3 ?kiz20z3 ?kiz21z20 ?kiz3z20 ?kiz1z20 ?kiz0z20 ?kiz2z20 ?kiz22z20 ?kiz20z20 ?xoz21z21 ?xoz3z21 ?xoz1z21 ?xoz0z21 ?xoz2z21 ?xoz22z21 ?xoz20z21 ?aC_Book ?pg_Book ?hd_Book ?po_Book ?sa_Book ?zacp ?kc_Book ?no_Book_size ?no_Book_pieces ?no_Book_side_marks ?no_Book_seams ?az41 ?lz41 ?cz41 ?kz41 ?az38 ?lz38 ?cz38 ?kz38 ?az40 ?lz40 ?cz40 ?kz40 ?az4 ?iz4 ?lz4 ?cz4 ?kz4 ?az5 ?iz5 ?lz5 ?cz5 ?kz5 ?dlz5 ?az6 ?iz6 ?lz6 ?cz6 ?kz6 ?dlz6 ?az8 ?iz8 ?lz8 ?cz8 ?kz8 ?az17 ?iz17 ?lz17 ?cz17 ?kz17 ?az10 ?iz10 ?lz10 ?cz10 ?kz10 ?az19 ?iz19 ?lz19 ?cz19 ?kz19 ?az7 ?iz7 ?lz7 ?cz7 ?kz7 ?az13 ?iz13 ?lz13 ?cz13 ?kz13 ?az16 ?iz16 ?lz16 ?cz16 ?kz16 ?az18 ?iz18 ?lz18 ?cz18 ?kz18 ?az11 ?iz11 ?lz11 ?cz11 ?kz11 ?az15 ?iz15 ?lz15 ?cz15 ?kz15 ?az9 ?iz9 ?lz9 ?cz9 ?kz9 ?dlz9 ?az12 ?iz12 ?lz12 ?cz12 ?kz12 ?dlz12 ?az14 ?iz14 ?lz14 ?cz14 ?kz14 ?az39 ?lz39 ?cz39 ?kz39 ?az36 ?lz36 ?cz36 ?kz36 ?az42 ?lz42 ?cz42 ?kz42 ?az35 ?lz35 ?cz35 ?kz35 ?az37 ?lz37 ?cz37 ?kz37 ?az34 ?lz34 ?cz34 ?kz34 ?az23 ?lz23 ?cz23 ?kz23 ?az33 ?lz33 ?cz33 ?kz33 ?az28 ?lz28 ?cz28 ?kz28 ?az30 ?lz30 ?cz30 ?kz30 ?az31 ?lz31 ?cz31 ?kz31 ?az27 ?lz27 ?cz27 ?kz27 ?az29 ?lz29 ?cz29 ?kz29 ?az25 ?lz25 ?cz25 ?kz25 ?az26 ?lz26 ?cz26 ?kz26 ?az24 ?lz24 ?cz24 ?kz24 ?az32 ?lz32 ?cz32 ?kz32 ?a_law ?l_law ?c_law ?k_law ?gl_LEAST ?gl_MOST ?gl_MOST_PIECES ?gl_LEAST_CORNERS ?gl_MOST_CORNERS ?gl_MOST_MARKS ?gl_FARTHEST ?gl_LONGEST_MOVE ?gl_MOST_SEAMS ?gl_MOST_EASE ?gl_MOST_PAIRS ?z_abs ?z_all ?z_any ?z_bool ?z_int ?z_isinstance ?z_len ?z_list ?z_range ?z_tuple
  (case aez21=>k_is)
  (case aez3=>k_is)
  (case qez3=>k_exc)
  (case aez1=>k_is)
  (case qez1=>k_exc)
  (case aez0=>k_is)
  (case qez0=>k_exc)
  (case aez2=>k_is)
  (case qez2=>k_exc)
  (case aez22=>k_is)
  (case qez22=>k_exc)
  (case aez20=>k_is)
  (case qez20=>k_exc)
  (case hsp=>k_is)
  (case htk=>k_is)
  (case gaz21=>k_is)
  (case gnz21=>k_is)
  (case dcz21=>k_is)
  (case caz21=>k_is)
  (case moz21=>k_is)
  (case mbz21=>k_is)
  (case gaz3=>k_is)
  (case gnz3=>k_is)
  (case dcz3=>k_is)
  (case caz3=>k_is)
  (case moz3=>k_is)
  (case mbz3=>k_is)
  (case gaz1=>k_is)
  (case gnz1=>k_is)
  (case dcz1=>k_is)
  (case caz1=>k_is)
  (case moz1=>k_is)
  (case mbz1=>k_is)
  (case gaz0=>k_is)
  (case gnz0=>k_is)
  (case dcz0=>k_is)
  (case caz0=>k_is)
  (case moz0=>k_is)
  (case mbz0=>k_is)
  (case gaz2=>k_is)
  (case gnz2=>k_is)
  (case dcz2=>k_is)
  (case caz2=>k_is)
  (case moz2=>k_is)
  (case mbz2=>k_is)
  (case gaz22=>k_is)
  (case gnz22=>k_is)
  (case dcz22=>k_is)
  (case caz22=>k_is)
  (case moz22=>k_is)
  (case mbz22=>k_is)
  (case gaz20=>k_is)
  (case gnz20=>k_is)
  (case dcz20=>k_is)
  (case caz20=>k_is)
  (case moz20=>k_is)
  (case mbz20=>k_is)
  (case kiz21z3=>kit_is)
  (case kiz3z3=>kit_is)
  (case kiz1z3=>kit_is)
  (case kiz0z3=>kit_is)
  (case kiz2z3=>kit_is)
  (case kiz22z3=>kit_is)
  (case kiz20z3=>kit_is)
  (case kiz21z20=>kit_is)
  (case kiz3z20=>kit_is)
  (case kiz1z20=>kit_is)
  (case kiz0z20=>kit_is)
  (case kiz2z20=>kit_is)
  (case kiz22z20=>kit_is)
  (case kiz20z20=>kit_is)
  (case xoz21z21=>kts_exm)
  (case xoz3z21=>kts_exm)
  (case xoz1z21=>kts_exm)
  (case xoz0z21=>kts_exm)
  (case xoz2z21=>kts_exm)
  (case xoz22z21=>kts_exm)
  (case xoz20z21=>kts_exm)
  (case aC_Book=>k_is)
  (case pg_Book=>k_is)
  (case hd_Book=>k_is)
  (case po_Book=>k_is)
  (case sa_Book=>k_is)
  (case zacp=>k_is)
  (case kc_Book=>k_is)
  (case no_Book_size=>k_is)
  (case no_Book_pieces=>k_is)
  (case no_Book_side_marks=>k_is)
  (case no_Book_seams=>k_is)
  (case az41=>k_is)
  (case lz41=>k_is)
  (case cz41=>k_is)
  (case kz41=>k_is)
  (case az38=>k_is)
  (case lz38=>k_is)
  (case cz38=>k_is)
  (case kz38=>k_is)
  (case az40=>k_is)
  (case lz40=>k_is)
  (case cz40=>k_is)
  (case kz40=>k_is)
  (case az4=>k_is)
  (case iz4=>k_is)
  (case lz4=>k_is)
  (case cz4=>k_is)
  (case kz4=>k_is)
  (case az5=>k_is)
  (case iz5=>k_is)
  (case lz5=>k_is)
  (case cz5=>k_is)
  (case kz5=>k_is)
  (case dlz5=>k_is)
  (case az6=>k_is)
  (case iz6=>k_is)
  (case lz6=>k_is)
  (case cz6=>k_is)
  (case kz6=>k_is)
  (case dlz6=>k_is)
  (case az8=>k_is)
  (case iz8=>k_is)
  (case lz8=>k_is)
  (case cz8=>k_is)
  (case kz8=>k_is)
  (case az17=>k_is)
  (case iz17=>k_is)
  (case lz17=>k_is)
  (case cz17=>k_is)
  (case kz17=>k_is)
  (case az10=>k_is)
  (case iz10=>k_is)
  (case lz10=>k_is)
  (case cz10=>k_is)
  (case kz10=>k_is)
  (case az19=>k_is)
  (case iz19=>k_is)
  (case lz19=>k_is)
  (case cz19=>k_is)
  (case kz19=>k_is)
  (case az7=>k_is)
  (case iz7=>k_is)
  (case lz7=>k_is)
  (case cz7=>k_is)
  (case kz7=>k_is)
  (case az13=>k_is)
  (case iz13=>k_is)
  (case lz13=>k_is)
  (case cz13=>k_is)
  (case kz13=>k_is)
  (case az16=>k_is)
  (case iz16=>k_is)
  (case lz16=>k_is)
  (case cz16=>k_is)
  (case kz16=>k_is)
  (case az18=>k_is)
  (case iz18=>k_is)
  (case lz18=>k_is)
  (case cz18=>k_is)
  (case kz18=>k_is)
  (case az11=>k_is)
  (case iz11=>k_is)
  (case lz11=>k_is)
  (case cz11=>k_is)
  (case kz11=>k_is)
  (case az15=>k_is)
  (case iz15=>k_is)
  (case lz15=>k_is)
  (case cz15=>k_is)
  (case kz15=>k_is)
  (case az9=>k_is)
  (case iz9=>k_is)
  (case lz9=>k_is)
  (case cz9=>k_is)
  (case kz9=>k_is)
  (case dlz9=>k_is)
  (case az12=>k_is)
  (case iz12=>k_is)
  (case lz12=>k_is)
  (case cz12=>k_is)
  (case kz12=>k_is)
  (case dlz12=>k_is)
  (case az14=>k_is)
  (case iz14=>k_is)
  (case lz14=>k_is)
  (case cz14=>k_is)
  (case kz14=>k_is)
  (case az39=>k_is)
  (case lz39=>k_is)
  (case cz39=>k_is)
  (case kz39=>k_is)
  (case az36=>k_is)
  (case lz36=>k_is)
  (case cz36=>k_is)
  (case kz36=>k_is)
  (case az42=>k_is)
  (case lz42=>k_is)
  (case cz42=>k_is)
  (case kz42=>k_is)
  (case az35=>k_is)
  (case lz35=>k_is)
  (case cz35=>k_is)
  (case kz35=>k_is)
  (case az37=>k_is)
  (case lz37=>k_is)
  (case cz37=>k_is)
  (case kz37=>k_is)
  (case az34=>k_is)
  (case lz34=>k_is)
  (case cz34=>k_is)
  (case kz34=>k_is)
  (case az23=>k_is)
  (case lz23=>k_is)
  (case cz23=>k_is)
  (case kz23=>k_is)
  (case az33=>k_is)
  (case lz33=>k_is)
  (case cz33=>k_is)
  (case kz33=>k_is)
  (case az28=>k_is)
  (case lz28=>k_is)
  (case cz28=>k_is)
  (case kz28=>k_is)
  (case az30=>k_is)
  (case lz30=>k_is)
  (case cz30=>k_is)
  (case kz30=>k_is)
  (case az31=>k_is)
  (case lz31=>k_is)
  (case cz31=>k_is)
  (case kz31=>k_is)
  (case az27=>k_is)
  (case lz27=>k_is)
  (case cz27=>k_is)
  (case kz27=>k_is)
  (case az29=>k_is)
  (case lz29=>k_is)
  (case cz29=>k_is)
  (case kz29=>k_is)
  (case az25=>k_is)
  (case lz25=>k_is)
  (case cz25=>k_is)
  (case kz25=>k_is)
  (case az26=>k_is)
  (case lz26=>k_is)
  (case cz26=>k_is)
  (case kz26=>k_is)
  (case az24=>k_is)
  (case lz24=>k_is)
  (case cz24=>k_is)
  (case kz24=>k_is)
  (case az32=>k_is)
  (case lz32=>k_is)
  (case cz32=>k_is)
  (case kz32=>k_is)
  (case a_law=>k_is)
  (case l_law=>k_is)
  (case c_law=>k_is)
  (case k_law=>k_is)
  (case gl_LEAST=>k_is)
  (case gl_MOST=>k_is)
  (case gl_MOST_PIECES=>k_is)
  (case gl_LEAST_CORNERS=>k_is)
  (case gl_MOST_CORNERS=>k_is)
  (case gl_MOST_MARKS=>k_is)
  (case gl_FARTHEST=>k_is)
  (case gl_LONGEST_MOVE=>k_is)
  (case gl_MOST_SEAMS=>k_is)
  (case gl_MOST_EASE=>k_is)
  (case gl_MOST_PAIRS=>k_is)
  (case z_abs=>k_is)
  (case z_all=>k_is)
  (case z_any=>k_is)
  (case z_bool=>k_is)
  (case z_int=>k_is)
  (case z_isinstance=>k_is)
  (case z_len=>k_is)
  (case z_list=>k_is)
  (case z_range=>k_is)
  (case z_tuple=>k_is)
end
