import PyProof.Rows.All
import Wide.All
import OpenK.AllK
import Wide.FinOn
import Lean
import PyProof.EqAt
import PyProof.EqKinds
import PyProof.TupleCall
import PyProof.NeKinds
import KE.KTryMore
import PyProof.EnumStmt
import PyProof.ZipIter
import PyProof.Rows.ZipGen
import PySem.Challenge.RW_gradecut_k34_not_laid_out
set_option Elab.async false
set_option linter.all false
set_option maxRecDepth 100000
set_option maxHeartbeats 0
section
namespace L2
open PySem PySem.Spec PyProof.Rows
noncomputable abbrev Key:=Sum Int Str
noncomputable def anJ:Key→Value→Bool
 | .inl k,v=>Value.isInt k v
 | .inr x,v=>Value.isStrOf x v
noncomputable def aiK(w:World):Key→Int
 | .inl k=>hashInt k
 | .inr x=>hashStr w x
theorem aaF:∀{k:Key}{v:Value},anJ k v=true→(∃i t,k=Sum.inl i∧v=Value.int i t)∨(∃x t,k=Sum.inr x∧v=Value.str x t)
 | .inl i,v,h=>by
  obtain⟨t,e⟩:=Value.isInt_shape (k:=i) (v:=v) h
  exact .inl ⟨i,t,rfl,e⟩
 | .inr x,v,h=>by
  obtain⟨t,e⟩:=Value.isStrOf_shape (x:=x) (v:=v) h
  exact .inr ⟨x,t,rfl,e⟩
theorem ao3(a b:Int):decide ((Sum.inl a:Key)=Sum.inl b)=(a==b):=by
 by_cases e:a=b
 ·subst e;simp
 ·have h:¬(Sum.inl a:Key)=Sum.inl b:=fun q=>e (Sum.inl.inj q)
  rw[decide_eq_false h]
  exact(beq_eq_false_iff_ne.mpr e).symm
theorem apo(a b:Str):decide ((Sum.inr a:Key)=Sum.inr b)=decide (a=b):=by
 by_cases e:a=b
 ·subst e;simp
 ·have h:¬(Sum.inr a:Key)=Sum.inr b:=fun q=>e (Sum.inr.inj q)
  rw[decide_eq_false h,decide_eq_false e]
theorem anT(a:Int)(b:Str):decide ((Sum.inl a:Key)=Sum.inr b)=false:=decide_eq_false (fun q=>nomatch q)
theorem aph(a:Str)(b:Int):decide ((Sum.inr a:Key)=Sum.inl b)=false:=decide_eq_false (fun q=>nomatch q)
noncomputable def afs(prog:Program)(w:World):PySem.KeyKind prog w Key where
 is:=anJ
 hash:=aiK w
 inj:=fun v a b ha hb=>by
  rcases aaF ha with⟨i,t,rfl,rfl⟩|⟨x,t,rfl,rfl⟩
  ·rcases aaF hb with⟨j,u,rfl,e⟩|⟨y,u,rfl,e⟩
   ·injection e with e1 _;rw[e1]
   ·exact nomatch e
  ·rcases aaF hb with⟨j,u,rfl,e⟩|⟨y,u,rfl,e⟩
   ·exact nomatch e
   ·injection e with e1 _;rw[e1]
 byValue:=fun k v h=>by
  rcases aaF h with⟨i,t,rfl,rfl⟩|⟨x,t,rfl,rfl⟩<;>rfl
 pyHash:=fun hv h=>by
  rcases aaF hv with⟨i,t,rfl,rfl⟩|⟨x,t,rfl,rfl⟩
  ·exact wpAny_pyHash_int h
  ·exact wpAny_pyHash_str h
 eqBool:=fun hu hv h=>by
  rcases aaF hu with⟨i,t,rfl,rfl⟩|⟨x,t,rfl,rfl⟩
  ·rcases aaF hv with⟨j,u,rfl,rfl⟩|⟨y,u,rfl,rfl⟩
   ·rw[ao3]at h;exact wpAny_eqBool_int h
   ·rw[anT]at h;exact SeqAt.EqAt.int_str i t y u _ _ _ _ h
  ·rcases aaF hv with⟨j,u,rfl,rfl⟩|⟨y,u,rfl,rfl⟩
   ·rw[aph]at h;exact SeqAt.EqAt.str_int x t j u _ _ _ _ h
   ·rw[apo]at h;exact wpAny_eqBool_str h
 «strs»:=fun k x t v h=>by
  rcases aaF h with⟨i,u,rfl,e⟩|⟨y,u,rfl,e⟩
  ·exact nomatch e
  ·injection e with e1 _
   subst e1
   cases v<;>rfl
end L2
namespace L2
open PySem PySem.Spec PyProof.Rows
inductive V where
 | non|bl (b:Bool)|int (i:Int)|str (x:Str)|byt (b:Array UInt8)|flt (b:UInt64)|ref (a:Addr)|ty (n:String)
 deriving DecidableEq
noncomputable def aaL:V→Value→Prop
 | .non,u=>u=Value.none
 | .bl b,u=>u=Value.bool b
 | .int i,u=>∃t,u=Value.int i t
 | .str x,u=>∃t,u=Value.str x t
 | .byt b,u=>∃t,u=Value.bytes b t
 | .flt b,u=>∃t,u=Value.float b t
 | .ref a,u=>u=Value.ref a
 | .ty n,u=>u=Value.type n
noncomputable abbrev aa1:List V→List Value→Prop:=Paired aaL
theorem aa1.length{xs:List V}{us:List Value}(r:aa1 xs us):xs.length=us.length:=Paired.length r
theorem aa1.get:∀{xs:List V}{us:List Value}{i:Nat}{x:V},aa1 xs us→xs[i]?=some x→∃u,us[i]?=some u∧aaL x u
 | _,_,_,_,.nil,e=>by simp at e
 | _,_,0,_,.cons r _,e=>by simp at e;subst e;exact⟨_,rfl,r⟩
 | _,_,i+1,x,.cons _ t,e=>by
  obtain⟨u,h1,h2⟩:=aa1.get (i:=i) (x:=x) t (by simpa using e)
  exact⟨u,by simpa using h1,h2⟩
theorem aa1.set{x:V}{u:Value}(r:aaL x u):∀{xs:List V}{us:List Value} (i:Nat),aa1 xs us→aa1 (xs.set i x) (us.set i u)
 | _,_,_,.nil=>.nil
 | _,_,0,.cons _ t=>.cons r t
 | _,_,i+1,.cons q t=>.cons q (aa1.set r i t)
theorem aa1.append:∀{xs ys:List V}{us ws:List Value},aa1 xs us→aa1 ys ws→aa1 (xs++ys) (us++ws)
 | _,_,_,_,.nil,s=>s
 | _,_,_,_,.cons r t,s=>.cons r (aa1.append t s)
theorem aa1.take:∀{xs:List V}{us:List Value} (n:Nat),aa1 xs us→aa1 (xs.take n) (us.take n)
 | _,_,0,_=>.nil
 | _,_,_+1,.nil=>.nil
 | _,_,n+1,.cons r t=>.cons r (aa1.take n t)
theorem aa1.drop:∀{xs:List V}{us:List Value} (n:Nat),aa1 xs us→aa1 (xs.drop n) (us.drop n)
 | _,_,0,r=>r
 | _,_,_+1,.nil=>.nil
 | _,_,n+1,.cons _ t=>aa1.drop n t
theorem aa1.none_of:∀{xs:List V}{us:List Value}{i:Nat},aa1 xs us→xs[i]?=none→us[i]?=none:=fun {xs us i} r e=>by
 have h1:=r.length
 have h2:xs.length≤i:=List.getElem?_eq_none_iff.mp e
 exact List.getElem?_eq_none_iff.mpr (by omega)
noncomputable def aiN:Option V→Option Value→Prop
 | some v,some u=>aaL v u
 | none,none=>True
 | _,_=>False
noncomputable def KV{κ:Type}:List (κ×V)→List (κ×Value)→Prop:=Paired fun(p:κ×V) (q:κ×Value)=>p.1=q.1∧aaL p.2 q.2
noncomputable def kV:Key→V
 | .inl i=>.int i
 | .inr x=>.str x
inductive HO where
 | lst (xs:List V)
 | tup (xs:List V)
 | dK (kvs:List (Key×V))|dT (kvs:List (List Key×V))
 | set (S:Int→Bool) (n:Nat)
 | ins (C dx:Addr) (fs:List (Str×V))
 | own (x:Addr)
 | xd (fs:List (Str×V))
 | met (f x:Addr)
 | rng (lo hi:Int)
 | frz (o:Obj) (u:HO)
 | tbl (ps:Array Value)
 | ext (φ:Heap→Prop)
noncomputable abbrev Hp:=Addr→Option HO
noncomputable def upd(H:Hp)(a:Addr)(o:HO):Hp:=fun b=>if b=a then some o else H b
theorem aaq{H:Hp}{a:Addr}{o:HO}:upd H a o a=some o:=by unfold upd;rw[if_pos rfl]
theorem aag{H:Hp}{a b:Addr}{o:HO}(h:b≠a):upd H a o b=H b:=by unfold upd;rw[if_neg h]
theorem aiU{H:Hp}{a b:Addr}{o u:HO}(h:H a=some o)(h':H b=some u)(d:o≠u):a≠b:=by
 intro e;subst e;rw[h]at h';exact d (Option.some.inj h')
theorem abx{H:Hp}{a b:Addr}{o:HO}(h:H a=some o)(h':H b=none):a≠b:=by
 intro e;subst e;rw[h]at h';cases h'
section
variable(P:Program)(w:World)
noncomputable def abc(H:Hp)(h:Heap)(a:Addr):HO→Prop
 | .lst xs=>xs.length≤sizeLine∧∃(its:List Value) (n:Nat),aa1 xs its∧h.get? a=some { cls:=.type "list",data:=.seq its.toArray n }
 | .tup xs=>xs.length≤sizeLine∧∃its:List Value,aa1 xs its∧IsTup h a its.toArray
 | .dK kvs=>kvs.length≤sizeLine∧(a==sysModules)=false∧∃vs,KV kvs vs∧h.DictOf (afs P w) a vs
 | .dT kvs=>kvs.length≤sizeLine∧(a==sysModules)=false∧∃xs:List (List Key×Addr×Value),
   Paired (fun(p:List Key×V) (q:List Key×Addr×Value)=>p.1=q.1∧H q.2.1=some (.tup (p.1.map kV))∧aaL p.2 q.2.2) kvs xs∧
   ∃o es ep,h.get? a=some o∧o.ExactDict∧o.data=.dict es ep∧es.toList=xs.map (entryOfKey (tupleKind (afs P w)))∧(xs.map (·.1)).Nodup
 | .set S n=>h.SetOf (intKind P w) a S n
 | .ins C dx fs=>H dx=some (.own a)∧fs.length≤1000∧dx≠a∧h.get? a=some (PySem.W.instObj C dx)∧
   ∃mA,h.Ns1 dx mA∧(∀f,aiN (fs.lookup f) (mA f))∧PySem.Within mA (fs.map (·.1))
 | .own _=>∃o,h.get? a=some o
 | .xd fs=>∃mA,h.Ns1 a mA∧∀f,aiN (fs.lookup f) (mA f)
 | .rng lo hi=>∃t u v,h.get? a=some { cls:=.type "range",data:=.fields #[.int lo t,.int hi u,.int 1 v] }
 | .frz o u=>h.get? a=some o∧abc H h a u
 | .tbl ps=>h.get? a=some { cls:=.none,data:=.fields ps }
 | .met f x=>h.get? a=some (PySem.W.methodObj (.ref f) (.ref x))
 | .ext φ=>φ h∧(∃o,h.get? a=some o)∧∀h1 h2:Heap,φ h1→(∀o,h1.get? a=some o→h2.get? a=some o)→φ h2
noncomputable def HOk(H:Hp)(h:Heap):Prop:=∀a o,H a=some o→abc P w H h a o
end
section
variable{P:Program}{w:World}{H H':Hp}{h h':Heap}{a:Addr}{o:HO}
theorem abc.lt(x:abc P w H h a o):a<h.objs.size:=by
 cases o with
 | lst xs=>obtain⟨_,_,_,_,e⟩:=x;exact Heap.lt_size e
 | tup xs=>obtain⟨_,_,_,p⟩:=x;exact p.lt
 | dK kvs=>obtain⟨_,_,_,_,o,_,_,e,_⟩:=x;exact Heap.lt_size e
 | dT kvs=>obtain⟨_,_,_,_,o,_,_,e,_⟩:=x;exact Heap.lt_size e
 | set S n=>obtain⟨o,_,_,_,e,_⟩:=x;exact Heap.lt_size e
 | ins C dx fs=>obtain⟨_,_,_,e,_⟩:=x;exact Heap.lt_size e
 | own y=>obtain⟨_,e⟩:=x;exact Heap.lt_size e
 | xd fs=>obtain⟨_,⟨_,_,_,e,_⟩,_⟩:=x;exact Heap.lt_size e
 | rng lo hi=>obtain⟨_,_,_,e⟩:=x;exact Heap.lt_size e
 | frz ob u=>obtain⟨e,_⟩:=x;exact Heap.lt_size e
 | tbl ps=>exact Heap.lt_size (show h.get? a=some _ from x)
 | met f y=>exact Heap.lt_size (show h.get? a=some _ from x)
 | ext φ=>obtain⟨_,⟨_,e⟩,_⟩:=x;exact Heap.lt_size e
theorem Paired.mapP{α β:Type}{F G:α→β→Prop}:∀{l₁:List α}{l₂:List β},Paired F l₁ l₂→(∀a b,F a b→G a b)→Paired G l₁ l₂
 | _,_,.nil,_=>.nil
 | _,_,.cons r t,f=>.cons (f _ _ r) (Paired.mapP t f)
theorem abc.stay(x:abc P w H h a o)(k:∀b u,(b=a∨H b=some (.own a))→h.get? b=some u→h'.get? b=some u)
  (ho:∀b,H b=some (.own a)→H' b=some (.own a)) (ht:∀b xs,H b=some (.tup xs)→H' b=some (.tup xs)):abc P w H' h' a o:=by
 induction o with
 | lst xs=>obtain⟨z,its,n,r,e⟩:=x;exact⟨z,its,n,r,k _ _ (.inl rfl) e⟩
 | tup xs=>obtain⟨z,its,r,ob,e,c⟩:=x;exact⟨z,its,r,ob,k _ _ (.inl rfl) e,c⟩
 | dK kvs=>obtain⟨z,y,vs,r,ob,es,ep,e,c⟩:=x;exact⟨z,y,vs,r,ob,es,ep,k _ _ (.inl rfl) e,c⟩
 | dT kvs=>
  obtain⟨z,y,xs,r,ob,es,ep,e,c⟩:=x
  exact⟨z,y,xs,Paired.mapP r fun p q z=>⟨z.1,ht _ _ z.2.1,z.2.2⟩,ob,es,ep,k _ _ (.inl rfl) e,c⟩
 | set S n=>obtain⟨ob,es,ep,t,e,c⟩:=x;exact⟨ob,es,ep,t,k _ _ (.inl rfl) e,c⟩
 | ins C dx fs=>
  obtain⟨d,z,ne,e,mA,⟨od,es,ep,e2,c⟩,r⟩:=x
  exact⟨ho _ d,z,ne,k _ _ (.inl rfl) e,mA,⟨od,es,ep,k _ _ (.inr d) e2,c⟩,r⟩
 | own y=>obtain⟨ob,e⟩:=x;exact⟨ob,k _ _ (.inl rfl) e⟩
 | xd fs=>obtain⟨mA,⟨od,es,ep,e,c⟩,r⟩:=x;exact⟨mA,⟨od,es,ep,k _ _ (.inl rfl) e,c⟩,r⟩
 | rng lo hi=>obtain⟨t,u,v,e⟩:=x;exact⟨t,u,v,k _ _ (.inl rfl) e⟩
 | frz ob u ih=>obtain⟨e,q⟩:=x;exact⟨k _ _ (.inl rfl) e,ih q⟩
 | tbl ps=>
  have e:h.get? a=some { cls:=.none,data:=.fields ps }:=x
  show h'.get? a=some { cls:=.none,data:=.fields ps }
  exact k a _ (.inl rfl) e
 | met f y=>
  have e:h.get? a=some (PySem.W.methodObj (.ref f) (.ref y)):=x
  show h'.get? a=some (PySem.W.methodObj (.ref f) (.ref y))
  exact k a _ (.inl rfl) e
 | ext φ=>obtain⟨p,⟨o,e⟩,st⟩:=x;exact⟨st _ _ p fun o q=>k _ _ (.inl rfl) q,⟨o,k _ _ (.inl rfl) e⟩,st⟩
theorem HOk.lt(x:HOk P w H h)(e:H a=some o):a<h.objs.size:=(x a o e).lt
theorem HOk.fresh(x:HOk P w H h)(e:h.objs.size≤a):H a=none:=by
 cases q:H a with
 | none=>rfl
 | some u=>exact absurd (Nat.lt_of_lt_of_le (x.lt q) e) (Nat.lt_irrefl _)
theorem HOk.kept(x:HOk P w H h)(k:∀b u,h.get? b=some u→h'.get? b=some u):HOk P w H h':=fun a o e=>
 (x a o e).stay (fun b u _ q=>k b u q) (fun _ q=>q) fun _ _ q=>q
theorem HOk.laid(x:HOk P w H h)(k:∀b u,h.get? b=some u→h'.get? b=some u)(hp:h.objs.size≤a)(new:abc P w (upd H a o) h' a o):HOk P w (upd H a o) h':=fun b u e=>by
 have hn:=x.fresh hp
 by_cases hb:b=a
 ·subst hb;rw[aaq]at e;cases e;exact new
 ·rw[aag hb]at e
  exact(x b u e).stay (fun c v _ q=>k c v q) (fun c q=>by rw[aag (abx q hn)];exact q) fun c xs q=>by rw[aag (abx q hn)];exact q
end
noncomputable def Rd(H:Hp)(a:Addr)(u:HO):Prop:=H a=some u∨∃o,H a=some (.frz o u)
theorem Rd.of{H:Hp}{a:Addr}{u:HO}(h:H a=some u):Rd H a u:=.inl h
theorem Rd.ok{P:Program}{w:World}{H:Hp}{h:Heap}{a:Addr}{u:HO}(r:Rd H a u)(x:HOk P w H h):abc P w H h a u:=by
 rcases r with r|⟨o,r⟩
 ·exact x a u r
 ·obtain⟨_,q⟩:=x a _ r
  exact q
noncomputable def Mut:Option HO→Prop
 | some (.lst _)=>True
 | some (.dK _)=>True
 | some (.dT _)=>True
 | some (.set _ _)=>True
 | some (.ins _ _ _)=>True
 | some (.ext _)=>True
 | _=>False
section
variable{P:Program}{w:World}{H:Hp}{h h':Heap}{x e:Addr}{o':HO}
theorem HOk.write(ok:HOk P w H h)(mu:Mut (H x))(he:e=x∨H e=some (.own x))(k:∀b u,b≠e→h.get? b=some u→h'.get? b=some u)(heo:∃u,h'.get? e=some u)
  (new:abc P w (upd H x o') h' x o'):HOk P w (upd H x o') h':=fun b u q=>by
 have nown:∀c y,H c=some (.own y)→c≠x:=fun c y r z=>by subst z;rw[r]at mu;exact mu
 have ntup:∀c xs,H c=some (.tup xs)→c≠x:=fun c xs r z=>by subst z;rw[r]at mu;exact mu
 by_cases hb:b=x
 ·subst hb;rw[aaq]at q;cases q;exact new
 ·rw[aag hb]at q
  by_cases hbe:b=e
  ·have q':H b=some (.own x):=by
    rcases he with z|z
    ·exact absurd (hbe.trans z) hb
    ·rw[hbe];exact z
   rw[q]at q';cases q'
   obtain⟨v,hv⟩:=heo
   exact⟨v,by rw[hbe];exact hv⟩
  ·refine(ok b u q).stay (fun c v hc r=>k c v ?_ r) (fun c r=>by rw[aag (nown c b r)];exact r) fun c xs r=>by rw[aag (ntup c xs r)];exact r
   rcases hc with rfl|hc
   ·exact hbe
   ·rintro rfl
    rcases he with z|z
    ·exact nown c b hc z
    ·rw[hc]at z;cases z;exact hb rfl
end
structure Un(fs ex:List Addr)(H H':Hp)(h h':Heap):Prop where
 keep:∀b o,h.get? b=some o→H b=none→b∉fs→b∉ex→h'.get? b=some o
 slot:∀b o,h.get? b=some o→H b=none→b∈fs→b∉ex→∃sl,h'.get? b=some { o with slots:=sl }
 free:∀b o,h.get? b=some o→H b=none→b∉ex→H' b=none
 there:∀b o,h.get? b=some o→b∉ex→∃o',h'.get? b=some o'
 tups:∀b xs,H b=some (.tup xs)→H' b=some (.tup xs)
 frzs:∀b o u,H b=some (.frz o u)→H' b=some (.frz o u)
 tbls:∀b ps,H b=some (.tbl ps)→∃more,H' b=some (.tbl (ps++more))
section
variable{fs fs' ex ex':List Addr}{H H1 H2:Hp}{h h1 h2 h':Heap}{a x e:Addr}{o:HO}
theorem Un.any(u:Un fs ex H H1 h h1){b:Addr}{ob:Obj}(q:h.get? b=some ob)(n:H b=none)(hx:b∉ex):∃sl,h1.get? b=some { ob with slots:=sl }:=by
 by_cases hb:b∈fs
 ·exact u.slot b ob q n hb hx
 ·exact⟨ob.slots,u.keep b ob q n hb hx⟩
theorem Un.trans(a:Un fs ex H H1 h h1)(b:Un fs ex H1 H2 h1 h2):Un fs ex H H2 h h2 where
 keep:=fun c ob q n hc hx=>b.keep c ob (a.keep c ob q n hc hx) (a.free c ob q n hx) hc hx
 slot:=fun c ob q n hc hx=>by
  obtain⟨sl,e1⟩:=a.slot c ob q n hc hx
  obtain⟨sl',e2⟩:=b.slot c _ e1 (a.free c ob q n hx) hc hx
  exact⟨sl',e2⟩
 free:=fun c ob q n hx=>by
  obtain⟨o',e1⟩:=a.there c ob q hx
  exact b.free c o' e1 (a.free c ob q n hx) hx
 there:=fun c ob q hx=>by
  obtain⟨o',e1⟩:=a.there c ob q hx
  exact b.there c o' e1 hx
 tups:=fun c xs q=>b.tups c xs (a.tups c xs q)
 frzs:=fun c ob xs q=>b.frzs c ob xs (a.frzs c ob xs q)
 tbls:=fun c ps q=>by
  obtain⟨m1,e1⟩:=a.tbls c ps q
  obtain⟨m2,e2⟩:=b.tbls c _ e1
  exact⟨m1++m2,by rw[e2,Array.append_assoc]⟩
theorem Un.kept(k:∀b u,h.get? b=some u→h'.get? b=some u):Un fs ex H H h h':=
 ⟨fun b ob q _ _ _=>k b ob q,fun b ob q _ _ _=>⟨ob.slots,k b ob q⟩,fun _ _ _ n _=>n,fun b ob q _=>⟨ob,k b ob q⟩,fun _ _ q=>q,fun _ _ _ q=>q,fun _ ps q=>⟨#[],by rw[q];simp⟩⟩
theorem Un.refl:Un fs ex H H h h:=Un.kept fun _ _ q=>q
theorem Un.laid(k:∀b u,h.get? b=some u→h'.get? b=some u)(hp:h.objs.size≤a)(hn:H a=none):Un fs ex H (upd H a o) h h' where
 keep:=fun b u q _ _ _=>k b u q
 slot:=fun b u q _ _ _=>⟨u.slots,k b u q⟩
 free:=fun b u q n _=>by rw[aag (Nat.ne_of_lt (Nat.lt_of_lt_of_le (Heap.lt_size q) hp))];exact n
 there:=fun b u q _=>⟨u,k b u q⟩
 tups:=fun b xs q=>by rw[aag (abx q hn)];exact q
 frzs:=fun b u xs q=>by rw[aag (abx q hn)];exact q
 tbls:=fun b ps q=>⟨#[],by rw[aag (abx q hn),q];simp⟩
theorem Un.write(mu:Mut (H x))(he:e=x∨H e=some (.own x))(k:∀b u,b≠e→h.get? b=some u→h'.get? b=some u)(heo:∃u,h'.get? e=some u):Un fs ex H (upd H x o) h h':=by
 have hx:∀b,H b=none→b≠x:=fun b n z=>by subst z;rw[n]at mu;exact mu
 have hb:∀b,H b=none→b≠e:=fun b n z=>by
  subst z
  rcases he with r|r
  ·exact hx b n r
  ·rw[n]at r;cases r
 have hm:∀b u,H b=some u→¬Mut (some u)→b≠x:=fun b u q nm z=>by subst z;rw[q]at mu;exact nm mu
 refine⟨fun b u q n _ _=>k b u (hb b n) q,fun b u q n _ _=>⟨u.slots,k b u (hb b n) q⟩,fun b u q n _=>by rw[aag (hx b n)];exact n,fun b u q _=>?_,
  fun b xs q=>by rw[aag (hm b _ q fun z=>z)];exact q,fun b u xs q=>by rw[aag (hm b _ q fun z=>z)];exact q,fun b ps q=>⟨#[],by rw[aag (hm b _ q fun z=>z),q];simp⟩⟩
 by_cases hbe:b=e
 ·subst hbe;exact heo
 ·exact⟨u,k b u hbe q⟩
theorem Un.mono(u:Un fs ex H H1 h h1)(hs:∀b∈fs,b∈fs')(hx:∀b∈ex,b∈ex'):Un fs' ex' H H1 h h1:=
 ⟨fun b ob q n hb he=>u.keep b ob q n (fun z=>hb (hs b z)) fun z=>he (hx b z),fun _ _ q n _ he=>u.any q n fun z=>he (hx _ z),fun b ob q n he=>u.free b ob q n fun z=>he (hx b z),fun b ob q he=>u.there b ob q fun z=>he (hx b z),u.tups,u.frzs,u.tbls⟩
end
noncomputable def trk(h:Heap)(H:Hp):List Addr:=(List.range h.objs.size).filter fun a=>(H a).isSome
noncomputable def aff(h:Heap)(H:Hp):Heap:=PySem.W.hideAll h (trk h H)
theorem aeW(h:Heap)(H:Hp):(aff h H).objs.size=h.objs.size:=PySem.W.hideAll_size _ _
theorem agw{h:Heap}{H:Hp}{b:Addr}{o:Obj}(e:h.get? b=some o)(n:H b=none):(aff h H).get? b=some o:=
 PySem.W.hideAll_get _ e fun hm=>by
  have q:(H b).isSome=true:=(List.mem_filter.mp hm).2
  rw[n]at q;simp at q
theorem ahf{h:Heap}{H:Hp}{b:Addr}{o:Obj}(e:(aff h H).get? b=some o):h.get? b=some o∧H b=none:=by
 have e':h.get? b=some o:=PySem.W.of_hideAll (trk h H) e
 refine⟨e',?_⟩
 cases q:H b with
 | none=>rfl
 | some x=>
  have hm:b∈trk h H:=List.mem_filter.mpr ⟨List.mem_range.mpr (Heap.lt_size e'),by simp[q]⟩
  have z:(aff h H).get? b=none:=PySem.W.hideAll_none (trk h H) hm
  rw[z]at e;cases e
noncomputable def alN(g h:Heap)(L:Addr):List (Addr×Obj):=(List.range h.objs.size).filterMap fun a=>if a=L∨(g.get? a).isSome=true then none else(h.get? a).map fun o=>(a,o)
noncomputable def aaB(g h:Heap)(L d:Addr):List (Addr×Obj):=(alN g h L).filter fun p=>decide (p.1≠d)
end L2
namespace L2
open PySem PySem.Spec PyProof.Rows
structure Mod(K:PySem.W.Frag)(mg:Str→Option Value)(base:Heap):Prop where
 kin:K.In base
 glob:base.Ns mainGlobals mg
 blt:∃mb,base.Ns builtinsNs mb∧∀x:Str,x≠"__name__"→mb x=bootBuiltins x
 nolimit:base.NoLimit
structure Cx where
 prog:Program
 w:World
 K:PySem.W.Frag
 mg:Str→Option Value
 base:Heap
 A:Around
 N:List Str
 s₀:Shared
 H₀:Hp
 env:Env
 outer:List Env
 stack:List Env
 ex:List Addr
 fn:Str→Bool
 calm:Bool
 pn:List (Addr×Obj)
 xe:Value→Shared→Prop
noncomputable def frs(l:List Env):List Addr:=l.filterMap (·.frame)
noncomputable abbrev Cx.fs(X:Cx):List Addr:=frs X.outer
noncomputable def Vis(sc:Scope)(x:Str):Prop:=sc.names.lookup x=some .local∨sc.names.lookup x=some .cell∨sc.names.lookup x=some .free
noncomputable def Loc(sc:Scope)(x:Str):Prop:=sc.names.lookup x=some .local∨sc.names.lookup x=some .cell
noncomputable def awp(env:Env)(h:Heap)(m:Str→Option Value)(x:Str)(u:Value):Prop:=
 (env.kindOf x=some .local∧m x=some u)∨((env.kindOf x=some .cell∨env.kindOf x=some .free)∧∃c,env.cells.lookup x=some c∧h.IsCell c (some u))
structure Cx.Ok(X:Cx):Prop where
 mod:Mod X.K X.mg X.base
 kind:X.env.scope.kind=.function
 glob:X.env.globals=mainGlobals
 blt:X.env.builtins=builtinsNs
 above:X.s₀.heap.objs.size≤X.env.locals
 inj:∀x y c,X.env.cells.lookup x=some c→X.env.cells.lookup y=some c→x=y
 has:∀x,(X.env.kindOf x=some .cell∨X.env.kindOf x=some .free)→∃c,X.env.cells.lookup x=some c
 cab:∀x c,X.fn x=true→X.env.cells.lookup x=some c→X.s₀.heap.objs.size≤c
 hd:X.calm=true→X.A.handled=none
 frames:X.A.frames=some X.stack
 stk:X.stack=X.outer∨(X.stack=X.env::X.outer∧X.env.frame=some X.env.locals)
 exf:∀b∈X.ex,b≠X.env.locals∧∀x c,X.env.cells.lookup x=some c→c≠b
 bs:∀b o,X.base.get? b=some o→X.s₀.heap.get? b=some o∧X.H₀ b=none
 bsz:X.base.objs.size≤X.s₀.heap.objs.size
 noex:∀b o,X.base.get? b=some o→b∉X.ex
 exfs:∀b∈X.ex,b∉X.fs
 funs:X.s₀.heap.FunFrames X.base X.outer
 frf:∀b∈X.fs,X.H₀ b=none
structure Inv(X:Cx)(pins:List (Addr×Obj))(σ:List (Option V))(H:Hp)(s:Shared):Prop where
 ok:X.Ok
 os:s.os=X.s₀.os
 bare:AllBare s.gens
 base:Un X.fs X.ex X.H₀ H X.s₀.heap s.heap
 loc:∃m,s.heap.Ns X.env.locals m∧∀(i:Nat) (x:Str) (v:V),X.N[i]?=some x→σ[i]?=some (some v)→Vis X.env.scope x→∃u,aaL v u∧awp X.env s.heap m x u
 cell:∀x c,X.env.cells.lookup x=some c→∃v,s.heap.IsCell c v
 free:H X.env.locals=none
 freeC:∀x c,X.env.cells.lookup x=some c→H c=none
 pin:∀p∈X.pn++pins,s.heap.get? p.1=some p.2∧H p.1=none∧p.1≠X.env.locals∧p.1∉X.fs∧∀v,p.2.data≠.cell v
 hok:HOk X.prog X.w H s.heap
 len:σ.length=X.N.length
section
variable{X:Cx}{pins:List (Addr×Obj)}{σ:List (Option V)}{H H':Hp}{s:Shared}{h':Heap}
theorem Cx.Ok.nofr(ok:X.Ok){b:Addr}{o:Obj}(e:X.base.get? b=some o):b∉X.fs:=fun hb=>by
 have:=(ok.funs.mem hb).1
 rw[e]at this;cases this
theorem Inv.bs(I:Inv X pins σ H s):∀b o,X.base.get? b=some o→s.heap.get? b=some o∧H b=none:=fun b o e=>
 ⟨I.base.keep b o (I.ok.bs b o e).1 (I.ok.bs b o e).2 (I.ok.nofr e) (I.ok.noex b o e),I.base.free b o (I.ok.bs b o e).1 (I.ok.bs b o e).2 (I.ok.noex b o e)⟩
theorem Inv.bk(I:Inv X pins σ H s):∀b o,X.base.get? b=some o→s.heap.get? b=some o:=fun b o e=>(I.bs b o e).1
theorem Inv.mod(I:Inv X pins σ H s):Mod X.K X.mg X.base:=I.ok.mod
theorem Inv.kIn(I:Inv X pins σ H s):X.K.In s.heap:=I.ok.mod.kin.keeps I.bk
theorem Inv.nolimit(I:Inv X pins σ H s):s.heap.NoLimit:=I.ok.mod.nolimit.keeps I.bk
theorem Inv.fr(I:Inv X pins σ H s):∃m,Fr X.base X.env.locals s.heap m:=
 let ⟨m,hn,_⟩:=I.loc
 ⟨m,hn,I.bk,Nat.le_trans I.ok.bsz I.ok.above⟩
theorem Inv.lt(I:Inv X pins σ H s):X.env.locals<s.heap.objs.size:=let ⟨_,hn,_⟩:=I.loc;hn.lt
theorem Inv.sz(I:Inv X pins σ H s):X.s₀.heap.objs.size≤s.heap.objs.size:=Nat.le_trans I.ok.above (Nat.le_of_lt I.lt)
theorem Inv.nofs(I:Inv X pins σ H s){a:Addr}(h:s.heap.objs.size≤a):a∉X.fs:=fun hb=>by
 obtain⟨_,o,ho,_⟩:=I.ok.funs.mem hb
 exact absurd (Nat.lt_of_lt_of_le (Heap.lt_size ho) (Nat.le_trans I.sz h)) (Nat.lt_irrefl _)
theorem Inv.cne(I:Inv X pins σ H s):∀x c,X.env.cells.lookup x=some c→c≠X.env.locals:=fun x c e z=>by
 obtain⟨v,o,ho,hd⟩:=I.cell x c e
 obtain⟨m,⟨o',es,ep,ho',hd',_⟩,_⟩:=I.loc
 rw[z,ho']at ho;cases ho;rw[hd']at hd;cases hd
theorem Inv.funs(I:Inv X pins σ H s):s.heap.FunFrames X.base X.outer:=by
 have all:∀(l:List Env),(∀b∈frs l,b∈X.fs)→X.s₀.heap.FunFrames X.base l→s.heap.FunFrames X.base l:=by
  intro l
  induction l with
  | nil=>intro _ _;trivial
  | cons env r ih=>
   intro hs hl
   obtain⟨hk,⟨L,o,hf,hn,ho,hd⟩,hr⟩:=hl
   have hL:L∈X.fs:=hs L (by unfold frs;rw[List.filterMap_cons,hf];exact List.mem_cons_self)
   obtain⟨sl,e⟩:=I.base.slot L o ho (I.ok.frf L hL) hL fun z=>I.ok.exfs L z hL
   exact⟨hk,⟨L,_,hf,hn,e,hd⟩,ih (fun b hb=>hs b (by unfold frs;rw[List.filterMap_cons,hf];exact List.mem_cons_of_mem _ hb)) hr⟩
 exact all X.outer (fun _ hb=>hb) I.ok.funs
theorem Inv.stack(I:Inv X pins σ H s):s.heap.FunFrames X.base X.stack:=by
 rcases I.ok.stk with e|⟨e,hf⟩
 ·rw[e];exact I.funs
 ·rw[e]
  obtain⟨m,hn,_⟩:=I.loc
  refine .cons (by rw[I.ok.kind];decide) hf hn ?_ I.funs
  exact Heap.get?_none_of_le (Nat.le_trans I.ok.bsz I.ok.above)
theorem Inv.stkSub(I:Inv X pins σ H s):∀b∈frs X.stack,b∈X.env.locals::X.fs:=fun b hb=>by
 rcases I.ok.stk with e|⟨e,hf⟩
 ·rw[e]at hb;exact List.mem_cons_of_mem _ hb
 ·rw[e]at hb
  unfold frs at hb
  rw[List.filterMap_cons,hf]at hb
  exact hb
theorem Inv.stkFree(I:Inv X pins σ H s):∀b∈frs X.stack,H b=none:=fun b hb=>by
 rcases List.mem_cons.mp (I.stkSub b hb)with e|hb
 ·rw[e];exact I.free
 ·obtain⟨_,o,ho,_⟩:=I.ok.funs.mem hb
  exact I.base.free b o ho (I.ok.frf b hb) fun z=>I.ok.exfs b z hb
theorem Inv.step{g':Array GenState}{t':Nat}{d':Drawn}{ch:List Addr}(I:Inv X pins σ H s)
  (hch:∀b∈ch,(b∈X.ex∨X.s₀.heap.objs.size≤b)∧b≠X.env.locals∧(∀x c,X.env.cells.lookup x=some c→c≠b)∧∀p∈X.pn++pins,p.1≠b)
  (keep:∀b o,b≠X.env.locals→b∉X.fs→b∉ch→s.heap.get? b=some o→H b=none→h'.get? b=some o)
  (slot:∀b o,b≠X.env.locals→b∈X.fs→b∉ch→s.heap.get? b=some o→H b=none→∃sl,h'.get? b=some { o with slots:=sl }) (free:∀b o,b∉ch→s.heap.get? b=some o→H b=none→H' b=none)
  (there:∀b o,b∉ch→s.heap.get? b=some o→∃o',h'.get? b=some o')
  (tups:∀b xs,H b=some (.tup xs)→H' b=some (.tup xs)) (frzs:∀b o u,H b=some (.frz o u)→H' b=some (.frz o u)) (tbls:∀b ps,H b=some (.tbl ps)→∃more,H' b=some (.tbl (ps++more)))
  (ns:∀m,s.heap.Ns X.env.locals m→h'.Ns X.env.locals m) (hok:HOk X.prog X.w H' h') (hg:AllBare g'):
  Inv X pins σ H' { s with heap:=h',gens:=g',drawn:=d',toks:=t' }:=by
 have neL:∀b o,X.s₀.heap.get? b=some o→b≠X.env.locals:=fun b o e=>Nat.ne_of_lt (Nat.lt_of_lt_of_le (Heap.lt_size e) I.ok.above)
 have neC:∀b o,X.s₀.heap.get? b=some o→b∉X.ex→b∉ch:=fun b o e hx hb=>by
  rcases(hch b hb).1 with z|z
  ·exact hx z
  ·exact absurd (Nat.lt_of_lt_of_le (Heap.lt_size e) z) (Nat.lt_irrefl _)
 have cellK:∀x c,X.env.cells.lookup x=some c→∀v,s.heap.IsCell c v→h'.IsCell c v:=fun x c e v ⟨o,ho,hd⟩=>by
  have nch:c∉ch:=fun z=>(hch c z).2.2.1 x c e rfl
  by_cases hc:c∈X.fs
  ·obtain⟨sl,q⟩:=slot c o (I.cne x c e) hc nch ho (I.freeC x c e)
   exact⟨_,q,hd⟩
  ·exact⟨o,keep c o (I.cne x c e) hc nch ho (I.freeC x c e),hd⟩
 refine⟨I.ok,I.os,hg,⟨fun b o e n hb hx=>?_,fun b o e n hb hx=>?_,fun b o e n hx=>?_,fun b o e hx=>?_,fun b xs e=>tups b xs (I.base.tups b xs e),fun b o xs e=>frzs b o xs (I.base.frzs b o xs e),fun b ps e=>?_⟩,?_,fun x c e=>?_,?_,fun x c e=>?_,fun p hp=>?_,hok,I.len⟩
 ·exact keep b o (neL b o e) hb (neC b o e hx) (I.base.keep b o e n hb hx) (I.base.free b o e n hx)
 ·obtain⟨sl,e1⟩:=I.base.slot b o e n hb hx
  obtain⟨sl',e2⟩:=slot b _ (neL b o e) hb (neC b o e hx) e1 (I.base.free b o e n hx)
  exact⟨sl',e2⟩
 ·obtain⟨o',e1⟩:=I.base.there b o e hx
  exact free b o' (neC b o e hx) e1 (I.base.free b o e n hx)
 ·obtain⟨o',e1⟩:=I.base.there b o e hx
  exact there b o' (neC b o e hx) e1
 ·obtain⟨m1,e1⟩:=I.base.tbls b ps e
  obtain⟨m2,e2⟩:=tbls b _ e1
  exact⟨m1++m2,by rw[e2,Array.append_assoc]⟩
 ·obtain⟨m,hn,hl⟩:=I.loc
  refine⟨m,ns m hn,fun i x v e1 e2 e3=>?_⟩
  obtain⟨u,r,l⟩:=hl i x v e1 e2 e3
  refine⟨u,r,?_⟩
  rcases l with l|⟨k,c,e,z⟩
  ·exact .inl l
  ·exact .inr ⟨k,c,e,cellK x c e _ z⟩
 ·obtain⟨v,z⟩:=I.cell x c e
  exact⟨v,cellK x c e v z⟩
 ·obtain⟨m,⟨o,_,_,ho,_⟩,_⟩:=I.loc
  exact free _ o (fun z=>(hch _ z).2.1 rfl) ho I.free
 ·obtain⟨v,o,ho,hd⟩:=I.cell x c e
  exact free c o (fun z=>(hch c z).2.2.1 x c e rfl) ho (I.freeC x c e)
 ·obtain⟨e,n,ne,nf,d⟩:=I.pin p hp
  have nch:p.1∉ch:=fun z=>(hch p.1 z).2.2.2 p hp rfl
  exact⟨keep p.1 p.2 ne nf nch e n,free p.1 p.2 nch e n,ne,nf,d⟩
theorem Inv.un{t':Nat}(I:Inv X pins σ H s)(u:Un X.fs [] H H' s.heap h')(hok:HOk X.prog X.w H' h'):Inv X pins σ H' { s with heap:=h',toks:=t' }:=by
 obtain⟨m,⟨o,es,ep,ho,r⟩,_⟩:=id I.loc
 obtain⟨sl,hL⟩:=u.any ho I.free (by simp)
 exact I.step (g':=s.gens) (d':=s.drawn) (ch:=[]) (fun _ z=>nomatch z) (fun b o _ hb _ e n=>u.keep b o e n hb (by simp)) (fun b o _ hb _ e n=>u.slot b o e n hb (by simp)) (fun b o _ e n=>u.free b o e n (by simp)) (fun b o _ e=>u.there b o e (by simp)) u.tups u.frzs u.tbls (fun m' hm=>by
  obtain⟨o',es',ep',ho',r'⟩:=hm
  rw[ho]at ho';cases ho'
  exact⟨_,es',ep',hL,r'⟩) hok I.bare
theorem Inv.call{g':Array GenState}{t':Nat}{d':Drawn}{ch:List Addr}(I:Inv X pins σ H s)(u:Un (frs X.stack) ch H H' s.heap h')(hok:HOk X.prog X.w H' h')(hg:AllBare g')
  (hch:∀b∈ch,(b∈X.ex∨X.s₀.heap.objs.size≤b)∧b≠X.env.locals∧(∀x c,X.env.cells.lookup x=some c→c≠b)∧∀p∈X.pn++pins,p.1≠b):
  Inv X pins σ H' { s with heap:=h',gens:=g',drawn:=d',toks:=t' }:=by
 obtain⟨m,⟨o,es,ep,ho,r⟩,_⟩:=id I.loc
 obtain⟨sl,hL⟩:=u.any ho I.free fun z=>(hch _ z).2.1 rfl
 exact I.step (ch:=ch) hch (fun b o hL hb hc e n=>u.keep b o e n (fun z=>(List.mem_cons.mp (I.stkSub b z)).elim hL hb) hc) (fun b o _ _ hc e n=>u.any e n hc) (fun b o hc e n=>u.free b o e n hc) (fun b o hc e=>u.there b o e hc) u.tups u.frzs u.tbls (fun m' hm=>by
  obtain⟨o',es',ep',ho',r'⟩:=hm
  rw[ho]at ho';cases ho'
  exact⟨_,es',ep',hL,r'⟩) hok hg
theorem Inv.turned{t':Nat}{it:Addr}(I:Inv X pins σ H s)(k:∀b o,b≠it→s.heap.get? b=some o→h'.get? b=some o)(hn:H it=none)(hL:it≠X.env.locals)
  (h1:it∈X.ex∨X.s₀.heap.objs.size≤it) (h2:∀x c,X.env.cells.lookup x=some c→c≠it) (h3:∀p∈X.pn++pins,p.1≠it):Inv X pins σ H { s with heap:=h',toks:=t' }:=by
 have nit:∀b u,H b=some u→b≠it:=fun b u e z=>by rw[z,hn]at e;cases e
 refine I.step (g':=s.gens) (d':=s.drawn) (ch:=[it]) (fun b hb=>?_) (fun b o _ _ hc e _=>k b o (fun z=>hc (by simp[z])) e) (fun b o _ _ hc e _=>⟨o.slots,k b o (fun z=>hc (by simp[z])) e⟩) (fun _ _ _ _ n=>n)
  (fun b o hc e=>⟨o,k b o (fun z=>hc (by simp[z])) e⟩) (fun _ _ e=>e) (fun _ _ _ e=>e) (fun b ps e=>⟨#[],by rw[e];simp⟩) (fun m hm=>?_) (fun b u e=>?_) I.bare
 ·have e:b=it:=by simpa using hb
  subst e
  exact⟨h1,hL,h2,h3⟩
 ·obtain⟨o,es,ep,ho,r⟩:=hm
  exact⟨o,es,ep,k _ o (Ne.symm hL) ho,r⟩
 ·refine(I.hok b u e).stay (fun c v hc q=>k c v ?_ q) (fun _ q=>q) fun _ _ q=>q
  rcases hc with z|z
  ·rw[z];exact nit b u e
  ·exact nit c _ z
theorem Inv.tok(I:Inv X pins σ H s)(t:Nat):Inv X pins σ H { s with toks:=t }:=I.un (h':=s.heap) (t':=t) Un.refl I.hok
theorem Inv.kept{t':Nat}(I:Inv X pins σ H s)(k:∀b u,s.heap.get? b=some u→h'.get? b=some u):Inv X pins σ H { s with heap:=h',toks:=t' }:=I.un (Un.kept k) (I.hok.kept k)
theorem Inv.laid{a:Addr}{o:HO}{t':Nat}(I:Inv X pins σ H s)(k:∀b u,s.heap.get? b=some u→h'.get? b=some u)(hp:s.heap.objs.size≤a)(new:abc X.prog X.w (upd H a o) h' a o):
  Inv X pins σ (upd H a o) { s with heap:=h',toks:=t' }:=I.un (Un.laid k hp (I.hok.fresh hp)) (I.hok.laid k hp new)
theorem Inv.write{x e:Addr}{o:HO}{t':Nat}(I:Inv X pins σ H s)(mu:Mut (H x))(he:e=x∨H e=some (.own x))(k:∀b u,b≠e→s.heap.get? b=some u→h'.get? b=some u)(heo:∃u,h'.get? e=some u)
  (new:abc X.prog X.w (upd H x o) h' x o):Inv X pins σ (upd H x o) { s with heap:=h',toks:=t' }:=I.un (Un.write mu he k heo) (I.hok.write mu he k heo new)
theorem Inv.weak{σ':List (Option V)}(I:Inv X pins σ H s)(hl:σ'.length=σ.length)(w:∀(i:Nat) v,σ'[i]?=some (some v)→σ[i]?=some (some v)):Inv X pins σ' H s:=
 ⟨I.ok,I.os,I.bare,I.base,let ⟨m,hn,hl'⟩:=I.loc;⟨m,hn,fun i x v e1 e2 e3=>hl' i x v e1 (w i v e2) e3⟩,I.cell,I.free,I.freeC,I.pin,I.hok,hl.trans I.len⟩
theorem Inv.pins_of{pins':List (Addr×Obj)}(I:Inv X pins σ H s)(h:∀p∈pins',s.heap.get? p.1=some p.2∧H p.1=none∧p.1≠X.env.locals∧p.1∉X.fs∧∀v,p.2.data≠.cell v):Inv X pins' σ H s:=
 ⟨I.ok,I.os,I.bare,I.base,I.loc,I.cell,I.free,I.freeC,fun p hp=>(List.mem_append.mp hp).elim (fun z=>I.pin p (List.mem_append_left _ z)) (h p),I.hok,I.len⟩
theorem acP{N:List Str}(hN:N.Nodup){i j:Nat}{x:Str}(a:N[i]?=some x)(b:N[j]?=some x):i=j:=by
 obtain⟨h1,e1⟩:=List.getElem?_eq_some_iff.mp a
 obtain⟨h2,e2⟩:=List.getElem?_eq_some_iff.mp b
 exact(List.getElem_inj hN).mp (e1.trans e2.symm)
theorem aeT{M:Model}{A:Around}{E:Value→Shared→Prop}{i:Nat}{x:Str}{v:V}{u:Value}{Q:Unit→Shared→Prop}(I:Inv X pins σ H s)(hN:X.N.Nodup)(hi:X.N[i]?=some x)(hx:Loc X.env.scope x)(r:aaL v u)
  (h:∀s',Inv X pins (σ.set i (some v)) H s'→(∃a,Heap.SameBut a s.heap s'.heap∧(a=X.env.locals∨X.env.cells.lookup x=some a))→Q () s') (hf:X.fn x=true∨X.env.scope.names.lookup x=some .local:=by first|exact .inl rfl|exact .inr rfl|assumption):wpAny M A (storeName X.env x u) Q E s:=by
 obtain⟨m,hn,hl⟩:=id I.loc
 have hcls:(X.env.scope.kind==.class||(X.env.scope.kind==.module&&X.env.locals != X.env.globals))=false:=by rw[I.ok.kind];rfl
 have hiσ:i<σ.length:=by rw[I.len];exact(List.getElem?_eq_some_iff.mp hi).1
 have cne:=I.cne
 have tracked:∀{a:Addr}{h':Heap},(∃o,s.heap.get? a=some o∧H a=none)→Heap.SameBut a s.heap h'→HOk X.prog X.w H h':=fun {a h'} ha hs b ob e=>by
  obtain⟨_,_,hfree⟩:=ha
  refine(I.hok b ob e).stay (fun c w' hc q=>(hs.2 c ?_).trans q) (fun _ q=>q) fun _ _ q=>q
  rintro rfl
  rcases hc with rfl|hc
  ·rw[hfree]at e;cases e
  ·rw[hfree]at hc;cases hc
 rcases hx with hk|hk
 ·refine wpAny_storeName_local hk hn (fun h' hn' hs=>?_) hcls
  obtain⟨oL,_,_,hoL,_⟩:=id hn
  refine h _ ⟨I.ok,I.os,I.bare,⟨fun b o e n hb hx=>?_,fun b o e n hb hx=>?_,I.base.free,fun b o e hx=>?_,I.base.tups,I.base.frzs,I.base.tbls⟩,⟨_,hn',fun j y v' e1 e2 e3=>?_⟩,fun y c e=>?_,I.free,I.freeC,fun p hp=>?_,tracked ⟨oL,hoL,I.free⟩ hs,by simpa using I.len⟩ ⟨_,hs,.inl rfl⟩
  ·exact(hs.2 b (Nat.ne_of_lt (Nat.lt_of_lt_of_le (Heap.lt_size e) I.ok.above))).trans (I.base.keep b o e n hb hx)
  ·obtain⟨sl,e1⟩:=I.base.slot b o e n hb hx
   exact⟨sl,(hs.2 b (Nat.ne_of_lt (Nat.lt_of_lt_of_le (Heap.lt_size e) I.ok.above))).trans e1⟩
  ·obtain⟨o',e1⟩:=I.base.there b o e hx
   exact⟨o',(hs.2 b (Nat.ne_of_lt (Nat.lt_of_lt_of_le (Heap.lt_size e) I.ok.above))).trans e1⟩
  ·by_cases hj:j=i
   ·subst hj
    rw[hi]at e1;cases e1
    rw[List.getElem?_set_self hiσ]at e2
    cases e2
    exact⟨u,r,.inl ⟨hk,by simp⟩⟩
   ·rw[List.getElem?_set_ne (Ne.symm hj)]at e2
    obtain⟨u',r',q⟩:=hl j y v' e1 e2 e3
    refine⟨u',r',?_⟩
    rcases q with⟨k,e⟩|⟨k,c,e,z⟩
    ·refine .inl ⟨k,?_⟩
     have:y≠x:=fun e=>hj (acP hN e1 (e▸hi))
     simp[this,e]
    ·exact .inr ⟨k,c,e,z.sameBut hs (cne y c e)⟩
  ·obtain⟨w',z⟩:=I.cell y c e
   exact⟨w',z.sameBut hs (cne y c e)⟩
  ·obtain⟨e,n,ne,nf,d⟩:=I.pin p hp
   exact⟨(hs.2 p.1 ne).trans e,n,ne,nf,d⟩
 ·have hfn:X.fn x=true:=by
   rcases hf with z|z
   ·exact z
   ·rw[z]at hk;cases hk
  obtain⟨c,hc⟩:=I.ok.has x (.inl hk)
  obtain⟨w',z⟩:=I.cell x c hc
  refine wpAny_storeName_cell I.ok.kind hk hc z (fun h' hc' hs=>?_)
  obtain⟨oc,hoc,hocd⟩:=id z
  refine h { s with heap:=h' } ⟨I.ok,I.os,I.bare,⟨fun b o e n hb hx=>?_,fun b o e n hb hx=>?_,I.base.free,fun b o e hx=>?_,I.base.tups,I.base.frzs,I.base.tbls⟩,⟨m,hn.sameBut hs (Ne.symm (cne x c hc)),fun j y v' e1 e2 e3=>?_⟩,fun y c' e=>?_,I.free,I.freeC,fun p hp=>?_,tracked ⟨oc,hoc,I.freeC x c hc⟩ hs,by simpa using I.len⟩ ⟨c,hs,.inr hc⟩
  ·exact(hs.2 b (Nat.ne_of_lt (Nat.lt_of_lt_of_le (Heap.lt_size e) (I.ok.cab x c hfn hc)))).trans (I.base.keep b o e n hb hx)
  ·obtain⟨sl,e1⟩:=I.base.slot b o e n hb hx
   exact⟨sl,(hs.2 b (Nat.ne_of_lt (Nat.lt_of_lt_of_le (Heap.lt_size e) (I.ok.cab x c hfn hc)))).trans e1⟩
  ·obtain⟨o',e1⟩:=I.base.there b o e hx
   exact⟨o',(hs.2 b (Nat.ne_of_lt (Nat.lt_of_lt_of_le (Heap.lt_size e) (I.ok.cab x c hfn hc)))).trans e1⟩
  ·by_cases hj:j=i
   ·subst hj
    rw[hi]at e1;cases e1
    rw[List.getElem?_set_self hiσ]at e2
    cases e2
    exact⟨u,r,.inr ⟨.inl hk,c,hc,hc'⟩⟩
   ·rw[List.getElem?_set_ne (Ne.symm hj)]at e2
    obtain⟨u',r',q⟩:=hl j y v' e1 e2 e3
    refine⟨u',r',?_⟩
    rcases q with q|⟨k,c',e,z'⟩
    ·exact .inl q
    ·refine .inr ⟨k,c',e,z'.sameBut hs ?_⟩
     rintro rfl
     exact hj (acP hN e1 (I.ok.inj _ _ _ e hc▸hi))
  ·by_cases hcc:c'=c
   ·subst hcc;exact⟨_,hc'⟩
   ·obtain⟨w2,z2⟩:=I.cell y c' e
    exact⟨w2,z2.sameBut hs hcc⟩
  ·obtain⟨e,n,ne,nf,d⟩:=I.pin p hp
   refine⟨(hs.2 p.1 ?_).trans e,n,ne,nf,d⟩
   intro q
   rw[q,hoc]at e
   have q':oc=p.2:=Option.some.inj e
   exact d w' (by rw[←q'];exact hocd)
theorem acQ{M:Model}{A:Around}{E:Value→Shared→Prop}{i:Nat}{x:Str}{v:V}{u:Value}{Q:Unit→Shared→Prop}(I:Inv X pins σ H s)(hN:X.N.Nodup)(hi:X.N[i]?=some x)(hx:Loc X.env.scope x)(r:aaL v u)
  (h:∀s',Inv X pins (σ.set i (some v)) H s'→Q () s') (hf:X.fn x=true∨X.env.scope.names.lookup x=some .local:=by first|exact .inl rfl|exact .inr rfl|assumption):wpAny M A (storeName X.env x u) Q E s:=
 aeT I hN hi hx r (fun s' I' _=>h s' I') hf
theorem Inv.call'{s':Shared}{ch:List Addr}(I:Inv X pins σ H s)(ho:s'.os=s.os)(u:Un (frs X.stack) ch H H' s.heap s'.heap)(hok:HOk X.prog X.w H' s'.heap)(hg:AllBare s'.gens)
  (hch:∀b∈ch,(b∈X.ex∨X.s₀.heap.objs.size≤b)∧b≠X.env.locals∧(∀x c,X.env.cells.lookup x=some c→c≠b)∧∀p∈X.pn++pins,p.1≠b):Inv X pins σ H' s':=by
 obtain⟨h',g',d',t',o'⟩:=s'
 have e:o'=s.os:=ho
 subst e
 exact I.call (g':=g') (t':=t') (d':=d') u hok hg hch
end
noncomputable abbrev XK:=Value→Option Addr→Hp→Prop
noncomputable abbrev St:=List (Option V)
noncomputable abbrev VK:=V→Hp→Prop
noncomputable abbrev TE:=St→Hp→VK→Prop
noncomputable abbrev TT:=St→Hp→(Bool→Hp→Prop)→Prop
noncomputable abbrev TA:=St→Hp→(List V→Hp→Prop)→Prop
structure Ends where
 nx:St→Hp→Prop
 rt:VK
 bk:St→Hp→Prop:=fun _ _=>False
 ct:St→Hp→Prop:=fun _ _=>False
noncomputable abbrev TS:=Ends→St→Hp→Prop
noncomputable def EP(X:Cx)(pins:List (Addr×Obj))(σ:St)(Q:VK)(u:Value)(s':Shared):Prop:=∃v H',Inv X pins σ H' s'∧aaL v u∧Q v H'
noncomputable def TP(X:Cx)(pins:List (Addr×Obj))(σ:St)(Q:Bool→Hp→Prop)(b:Bool)(s':Shared):Prop:=∃H',Inv X pins σ H' s'∧Q b H'
noncomputable def AP(X:Cx)(pins:List (Addr×Obj))(σ:St)(Q:List V→Hp→Prop)(us:List Value)(s':Shared):Prop:=∃vs H',Inv X pins σ H' s'∧aa1 vs us∧Q vs H'
noncomputable def SP(X:Cx)(pins:List (Addr×Obj))(D:Ends)(f:Flow)(s':Shared):Prop:=
 match f with
 | .next=>∃σ' H',Inv X pins σ' H' s'∧D.nx σ' H'
 | .brk=>∃σ' H',Inv X pins σ' H' s'∧D.bk σ' H'
 | .cont=>∃σ' H',Inv X pins σ' H' s'∧D.ct σ' H'
 | .ret u=>∃v σ' H',Inv X pins σ' H' s'∧aaL v u∧D.rt v H'
noncomputable def PE(X:Cx)(e:Expr)(t:TE):Prop:=
 ∀(pins:List (Addr×Obj)) (s:Shared) (σ:St) (H:Hp) (Q:VK),Inv X pins σ H s→t σ H Q→wpAny (model X.prog X.w) X.A (eval e X.env) (EP X pins σ Q) X.xe s
noncomputable def PT(X:Cx)(e:Expr)(t:TT):Prop:=
 ∀(pins:List (Addr×Obj)) (s:Shared) (σ:St) (H:Hp) (Q:Bool→Hp→Prop),Inv X pins σ H s→t σ H Q→wpAny (model X.prog X.w) X.A (isTrue e X.env (eval e X.env)) (TP X pins σ Q) X.xe s
noncomputable def PW(X:Cx)(e:Expr)(t:TT):Prop:=
 ∀(whole:Sem Value) (pins:List (Addr×Obj)) (s:Shared) (σ:St) (H:Hp) (Q:Bool→Hp→Prop),Inv X pins σ H s→t σ H Q→wpAny (model X.prog X.w) X.A (isTrue e X.env whole) (TP X pins σ Q) X.xe s
theorem PW.pt{X:Cx}{e:Expr}{t:TT}(h:PW X e t):PT X e t:=h _
noncomputable def PA(X:Cx)(es:List Expr)(t:TA):Prop:=
 ∀(pos:Pos) (pins:List (Addr×Obj)) (s:Shared) (σ:St) (H:Hp) (Q:List V→Hp→Prop),Inv X pins σ H s→t σ H Q→wpAny (model X.prog X.w) X.A (spliced (backTo pos (starEach es X.env))) (AP X pins σ Q) X.xe s
noncomputable def PS(X:Cx)(st:Stmt)(t:TS):Prop:=
 ∀(pins:List (Addr×Obj)) (s:Shared) (σ:St) (H:Hp) (D:Ends),Inv X pins σ H s→t D σ H→wpAny (model X.prog X.w) X.A (exec st X.env) (SP X pins D) X.xe s
noncomputable def PSs(X:Cx)(st:List Stmt)(t:TS):Prop:=
 ∀(pins:List (Addr×Obj)) (s:Shared) (σ:St) (H:Hp) (D:Ends),Inv X pins σ H s→t D σ H→wpAny (model X.prog X.w) X.A (execs st X.env) (SP X pins D) X.xe s
theorem thn{α:Type}{t:Sem α}{Q Q':α→Shared→Prop}{M:Model}{A:Around}{E:Value→Shared→Prop}{s:Shared}(h:wpAny M A t Q E s)(hQ:∀a s,Q a s→Q' a s):wpAny M A t Q' E s:=wpAny_mono h hQ fun _ _ x=>x
end L2
namespace L2
open PySem PySem.Spec PyProof.Rows
section
variable{X:Cx}
theorem bin{a b:Expr}{ta tb:TE}(ha:PE X a ta)(hb:PE X b tb){pins:List (Addr×Obj)}{s:Shared}{σ:St}{H:Hp}{R:V→V→Hp→Prop}(I:Inv X pins σ H s)(h:ta σ H fun x H1=>tb σ H1 fun y H2=>R x y H2)
  {α:Type}{Q:α→Shared→Prop}{f:Value→Value→Sem α}
  (hf:∀v u s2 x y H2,Inv X pins σ H2 s2→aaL x v→aaL y u→R x y H2→wpAny (model X.prog X.w) X.A (f v u) Q X.xe s2):
  wpAny (model X.prog X.w) X.A (eval a X.env) (fun v s₁=>wpAny (model X.prog X.w) X.A (eval b X.env) (fun u s₂=>wpAny (model X.prog X.w) X.A (f v u) Q X.xe s₂) X.xe s₁) X.xe s:=by
 refine thn (ha pins s σ H _ I h) fun v s1 ⟨x,H1,I1,r1,q1⟩=>?_
 refine thn (hb pins s1 σ H1 _ I1 q1) fun u s2 ⟨y,H2,I2,r2,q2⟩=>?_
 exact hf v u s2 x y H2 I2 r1 r2 q2
noncomputable def ar7(i:Nat):TE:=fun σ H Q=>∃v,σ[i]?=some (some v)∧Q v H
noncomputable def tC(v:V):TE:=fun _ H Q=>Q v H
theorem ad8{i:Nat}{x:Str}{pos:Pos}(hN:X.N[i]?=some x)(hv:Vis X.env.scope x)(hd:(x==("__debug__":Str))=false:=by decide)(hcd:(x==("__classdict__":Str))=false:=by decide):PE X (.Name x pos) (ar7 i):=by
 intro pins s σ H Q I h
 obtain⟨v,e,h⟩:=h
 obtain⟨m,hn,hl⟩:=I.loc
 obtain⟨u,r,l⟩:=hl i x v hN e hv
 have fin:EP X pins σ Q u s:=⟨v,H,I,r,h⟩
 rcases l with⟨hk,hm⟩|⟨hk,c,hc,acL⟩
 ·exact wpAny_Name (wpAny_loadName_local I.ok.kind hk hn hm fin) hd
 ·rcases hk with hk|hk
  ·exact wpAny_Name (wpAny_loadName_cell I.ok.kind hk hc acL fin) hd
  ·exact wpAny_Name (wpAny_loadName_free I.ok.kind hk hc acL fin hcd) hd
theorem ain{i j pos}:PE X (.Constant (.int i) j pos) (tC (.int i)):=fun _ _ _ H _ I h=>wpAny_Constant_int ⟨.int i,H,I.tok _,⟨_,rfl⟩,h⟩
theorem att{b j pos}:PE X (.Constant (.bool b) j pos) (tC (.bl b)):=fun _ _ _ H _ I h=>Constant_bool ⟨.bl b,H,I,rfl,h⟩
theorem ao8{j pos}:PE X (.Constant .none j pos) (tC .non):=fun _ _ _ H _ I h=>Constant_none ⟨.non,H,I,rfl,h⟩
theorem aod{x j pos}:PE X (.Constant (.str x) j pos) (tC (.str x)):=fun _ _ _ H _ I h=>Calls.Constant_str ⟨.str x,H,I.tok _,⟨_,rfl⟩,h⟩
noncomputable def Gl(X:Cx)(x:Str):Prop:=X.env.kindOf x=some .globalImplicit
theorem acZ{E:Value→Shared→Prop}{pins:List (Addr×Obj)}{s:Shared}{σ:St}{H:Hp}{x:Str}{u:Value}{pos:Pos}{Q:Value→Shared→Prop}(I:Inv X pins σ H s)(hg:Gl X x)(hm:X.mg x=some u)(h:Q u s)
  (hd:(x==("__debug__":Str))=false:=by decide):wpAny (model X.prog X.w) X.A (eval (.Name x pos) X.env) Q E s:=
 Calls.Name_function_global I.ok.kind hg (Calls.loadGlobal_global (by rw[I.ok.glob];exact I.mod.glob.keeps I.bk) hm h) hd
theorem adb{E:Value→Shared→Prop}{pins:List (Addr×Obj)}{s:Shared}{σ:St}{H:Hp}{x:Str}{u:Value}{pos:Pos}{Q:Value→Shared→Prop}(I:Inv X pins σ H s)(hg:Gl X x)(hm:X.mg x=none)(hv:bootBuiltins x=some u)(h:Q u s)
  (hn:x≠"__name__":=by decide) (hd:(x==("__debug__":Str))=false:=by decide):wpAny (model X.prog X.w) X.A (eval (.Name x pos) X.env) Q E s:=by
 obtain⟨mb,h1,h2⟩:=I.mod.blt
 exact Calls.Name_function_global I.ok.kind hg (Calls.loadGlobal_builtin (by rw[I.ok.glob];exact I.mod.glob.keeps I.bk) hm (by rw[I.ok.blt];exact h1.keeps I.bk) ((h2 x hn).trans hv) h) hd
theorem aho{x:Str}{v:V}{u:Value}{pos:Pos}(hg:Gl X x)(hm:X.mg x=some u)(r:aaL v u)(hd:(x==("__debug__":Str))=false:=by decide):PE X (.Name x pos) (tC v):=
 fun _ _ _ H _ I h=>acZ I hg hm ⟨v,H,I,r,h⟩ hd
theorem alG{x:Str}{v:V}{u:Value}{pos:Pos}(hg:Gl X x)(hm:X.mg x=none)(hv:bootBuiltins x=some u)(r:aaL v u)(hn:x≠"__name__":=by decide)(hd:(x==("__debug__":Str))=false:=by decide):PE X (.Name x pos) (tC v):=
 fun _ _ _ H _ I h=>adb I hg hm hv ⟨v,H,I,r,h⟩ hn hd
variable{a b:Expr}{ta tb:TE}{pos:Pos}
variable{tA tB':TT}{aaB:List Expr}
noncomputable def auP(t u:TT):TT:=fun σ H Q=>t σ H fun c H1=>if c=true then u σ H1 Q else Q false H1
noncomputable def tOr(t u:TT):TT:=fun σ H Q=>t σ H fun c H1=>if c=true then Q true H1 else u σ H1 Q
noncomputable def aw1(t:TT):TT:=fun σ H Q=>t σ H fun c H1=>Q (!c) H1
theorem alS(ha:PT X a tA):PW X (.BoolOp .And [a] pos) tA:=by
 intro wh pins s σ H Q I h
 refine isTrue_and (thn (ha pins s σ H Q I h) fun c s1 e=>?_)
 cases c with
 | true=>exact isTrue_and_nil e
 | false=>exact e
theorem aoh(ha:PT X a tA):PW X (.BoolOp .Or [a] pos) tA:=by
 intro wh pins s σ H Q I h
 refine isTrue_or (thn (ha pins s σ H Q I h) fun c s1 e=>?_)
 cases c with
 | false=>exact isTrue_or_nil e
 | true=>exact e
theorem aoi(ha:PT X a tA)(hb:PW X (.BoolOp .And (b::aaB) pos) tB'):PW X (.BoolOp .And (a::b::aaB) pos) (auP tA tB'):=by
 intro wh pins s σ H Q I h
 refine isTrue_and (thn (ha pins s σ H _ I h) fun c s1 ⟨H1,I1,q1⟩=>?_)
 cases c with
 | true=>exact hb wh pins s1 σ H1 Q I1 q1
 | false=>exact⟨H1,I1,q1⟩
theorem arf(ha:PT X a tA)(hb:PW X (.BoolOp .Or (b::aaB) pos) tB'):PW X (.BoolOp .Or (a::b::aaB) pos) (tOr tA tB'):=by
 intro wh pins s σ H Q I h
 refine isTrue_or (thn (ha pins s σ H _ I h) fun c s1 ⟨H1,I1,q1⟩=>?_)
 cases c with
 | true=>exact⟨H1,I1,q1⟩
 | false=>exact hb wh pins s1 σ H1 Q I1 q1
theorem ao1(ha:PT X a tA):PT X (.UnaryOp .Not a pos) (aw1 tA):=by
 intro pins s σ H Q I h
 exact isTrue_not (ha pins s σ H (fun c H1=>Q (!c) H1) I h)
noncomputable def aqM(ta tb:TE):TE:=fun σ H Q=>ta σ H fun x H1=>∃c,x=.bl c∧if c=true then tb σ H1 Q else Q (.bl false) H1
noncomputable def awA(ta tb:TE):TE:=fun σ H Q=>ta σ H fun x H1=>∃c,x=.bl c∧if c=true then Q (.bl true) H1 else tb σ H1 Q
theorem aoo{op}{t:TE}(h:PE X a t):PE X (.BoolOp op [a] pos) t:=fun pins s σ H Q I hw=>BoolOp_one (h pins s σ H Q I hw)
theorem aoA(ha:PE X a ta)(hb:PE X (.BoolOp .And (b::aaB) pos) tb):PE X (.BoolOp .And (a::b::aaB) pos) (aqM ta tb):=by
 intro pins s σ H Q I h
 refine BoolOp_and (thn (ha pins s σ H _ I h) fun v s1 ⟨x,H1,I1,r1,q1⟩=>?_)
 obtain⟨c,rfl,q1⟩:=q1
 cases r1
 refine wpAny_truthy_bool ?_
 cases c with
 | true=>exact hb pins s1 σ H1 Q I1 q1
 | false=>exact⟨.bl false,H1,I1,rfl,q1⟩
theorem auh(ha:PE X a ta)(hb:PE X (.BoolOp .Or (b::aaB) pos) tb):PE X (.BoolOp .Or (a::b::aaB) pos) (awA ta tb):=by
 intro pins s σ H Q I h
 refine BoolOp_or (thn (ha pins s σ H _ I h) fun v s1 ⟨x,H1,I1,r1,q1⟩=>?_)
 obtain⟨c,rfl,q1⟩:=q1
 cases r1
 refine wpAny_truthy_bool ?_
 cases c with
 | false=>exact hb pins s1 σ H1 Q I1 q1
 | true=>exact⟨.bl true,H1,I1,rfl,q1⟩
noncomputable def tIf(t:TT)(ta tb:TE):TE:=fun σ H Q=>t σ H fun c H1=>if c=true then ta σ H1 Q else tb σ H1 Q
theorem akb{c:Expr}(hc:PT X c tA)(ha:PE X a ta)(hb:PE X b tb):PE X (.IfExp c a b pos) (tIf tA ta tb):=by
 intro pins s σ H Q I h
 refine wpAny_IfExp (thn (hc pins s σ H _ I h) fun d s1 ⟨H1,I1,q1⟩=>?_)
 cases d with
 | true=>exact ha pins s1 σ H1 Q I1 q1
 | false=>exact hb pins s1 σ H1 Q I1 q1
end
end L2
namespace L2
open PySem PySem.Spec PyProof.Rows
noncomputable def SqL(K:PySem.W.Frag)(H:Hp)(a:Addr)(xs:List V):Prop:=
 Rd H a (.lst xs)∨
  ∃(o:Obj) (its:Array Value) (n:Nat),K.lookup a=some o∧o.cls=.type "list"∧o.dict=none∧o.data=.seq its n∧its.size≤sizeLine∧aa1 xs its.toList
noncomputable def SqT(K:PySem.W.Frag)(H:Hp)(a:Addr)(xs:List V):Prop:=
 Rd H a (.tup xs)∨
  ∃(o:Obj) (its:Array Value) (n:Nat),K.lookup a=some o∧o.cls=.type "tuple"∧o.data=.seq its n∧its.size≤sizeLine∧aa1 xs its.toList
noncomputable def avL:Value→Option V
 | .none=>some .non
 | .bool b=>some (.bl b)
 | .int i _=>some (.int i)
 | .str x _=>some (.str x)
 | .bytes b _=>some (.byt b)
 | .float b _=>some (.flt b)
 | .ref a=>some (.ref a)
 | .type n=>some (.ty n)
 | _=>none
theorem aaL.abs{x:V}{u:Value}(r:aaL x u):avL u=some x:=by
 cases x with
 | non=>cases r;rfl
 | bl _=>cases r;rfl
 | int _=>obtain⟨t,rfl⟩:=r;rfl
 | str _=>obtain⟨t,rfl⟩:=r;rfl
 | byt _=>obtain⟨t,rfl⟩:=r;rfl
 | flt _=>obtain⟨t,rfl⟩:=r;rfl
 | ref _=>cases r;rfl
 | ty _=>cases r;rfl
theorem aaL.inj{x y:V}{u:Value}(r:aaL x u)(q:aaL y u):x=y:=Option.some.inj (r.abs.symm.trans q.abs)
theorem aa1.inj:∀{xs ys:List V}{us:List Value},aa1 xs us→aa1 ys us→xs=ys
 | _,_,_,.nil,.nil=>rfl
 | _,_,_,.cons r t,.cons r' t'=>by rw[r.inj r',aa1.inj t t']
section
variable{X:Cx}{pins:List (Addr×Obj)}{σ:St}{H:Hp}{s:Shared}{a:Addr}{xs ys:List V}
theorem SqL.of{K:PySem.W.Frag}(h:H a=some (.lst xs)):SqL K H a xs:=.inl (.inl h)
theorem SqT.of{K:PySem.W.Frag}(h:H a=some (.tup xs)):SqT K H a xs:=.inl (.inl h)
theorem Inv.list(I:Inv X pins σ H s)(h:SqL X.K H a xs):∃its:List Value,aa1 xs its∧PlainL s.heap a its.toArray∧xs.length≤sizeLine:=by
 rcases h with h|⟨o,its,n,hk,hc,hd,hs,hz,r⟩
 ·obtain⟨z,its,n,r,e⟩:=h.ok I.hok
  exact⟨its,r,⟨_,n,e,rfl,rfl,rfl⟩,z⟩
 ·refine⟨its.toList,r,⟨o,n,I.kIn a o hk,hc,hd,by simpa using hs⟩,?_⟩
  have e:=r.length
  simp only[Array.length_toList]at e
  omega
theorem Inv.tuple(I:Inv X pins σ H s)(h:SqT X.K H a xs):∃its:List Value,aa1 xs its∧IsTup s.heap a its.toArray∧xs.length≤sizeLine:=by
 rcases h with h|⟨o,its,n,hk,hc,hs,hz,r⟩
 ·obtain⟨z,its,r,p⟩:=h.ok I.hok
  exact⟨its,r,p,z⟩
 ·refine⟨its.toList,r,⟨o,I.kIn a o hk,hc,n,by simpa using hs⟩,?_⟩
  have e:=r.length
  simp only[Array.length_toList]at e
  omega
theorem Inv.list_inj(I:Inv X pins σ H s)(h:SqL X.K H a xs)(h':SqL X.K H a ys):xs=ys:=by
 obtain⟨its,r,⟨o,n,e,_,_,d⟩,_⟩:=I.list h
 obtain⟨its',r',⟨o',n',e',_,_,d'⟩,_⟩:=I.list h'
 rw[e]at e';cases e'
 rw[d]at d'
 injection d' with d1 _
 have:its=its':=by simpa using congrArg Array.toList d1
 subst this
 exact r.inj r'
theorem Inv.tuple_inj(I:Inv X pins σ H s)(h:SqT X.K H a xs)(h':SqT X.K H a ys):xs=ys:=by
 obtain⟨its,r,⟨o,e,_,n,d⟩,_⟩:=I.tuple h
 obtain⟨its',r',⟨o',e',_,n',d'⟩,_⟩:=I.tuple h'
 rw[e]at e';cases e'
 rw[d]at d'
 injection d' with d1 _
 have:its=its':=by simpa using congrArg Array.toList d1
 subst this
 exact r.inj r'
end
noncomputable abbrev Cx.wish(X:Cx)(E:Value→Shared→Prop):Cx:={ X with xe:=E }
noncomputable abbrev Cx.nox(X:Cx):Cx:=X.wish fun _ _=>False
theorem Cx.Ok.wish{X:Cx}(ok:X.Ok)(E:Value→Shared→Prop):(X.wish E).Ok:=
 ⟨ok.mod,ok.kind,ok.glob,ok.blt,ok.above,ok.inj,ok.has,ok.cab,ok.hd,ok.frames,ok.stk,ok.exf,ok.bs,ok.bsz,ok.noex,ok.exfs,ok.funs,ok.frf⟩
theorem Cx.Ok.unwish{X:Cx}{E:Value→Shared→Prop}(ok:(X.wish E).Ok):X.Ok:=
 ⟨ok.mod,ok.kind,ok.glob,ok.blt,ok.above,ok.inj,ok.has,ok.cab,ok.hd,ok.frames,ok.stk,ok.exf,ok.bs,ok.bsz,ok.noex,ok.exfs,ok.funs,ok.frf⟩
section
variable{X:Cx}{pins:List (Addr×Obj)}{σ:St}{H:Hp}{s:Shared}{E:Value→Shared→Prop}
theorem Inv.wish(I:Inv X pins σ H s)(E:Value→Shared→Prop):Inv (X.wish E) pins σ H s:=⟨I.ok.wish E,I.os,I.bare,I.base,I.loc,I.cell,I.free,I.freeC,I.pin,I.hok,I.len⟩
theorem Inv.unwish(I:Inv (X.wish E) pins σ H s):Inv X pins σ H s:=⟨I.ok.unwish,I.os,I.bare,I.base,I.loc,I.cell,I.free,I.freeC,I.pin,I.hok,I.len⟩
theorem SP.unwish{D:Ends}{f:Flow}{s':Shared}(h:SP (X.wish E) pins D f s'):SP X pins D f s':=by
 cases f with
 | next=>obtain⟨σ',H',I,q⟩:=h;exact⟨σ',H',I.unwish,q⟩
 | brk=>obtain⟨σ',H',I,q⟩:=h;exact⟨σ',H',I.unwish,q⟩
 | cont=>obtain⟨σ',H',I,q⟩:=h;exact⟨σ',H',I.unwish,q⟩
 | ret u=>obtain⟨v,σ',H',I,r,q⟩:=h;exact⟨v,σ',H',I.unwish,r,q⟩
theorem PE.nox{e:Expr}{t:TE}(h:PE X.nox e t):PE X e t:=fun pins s σ H Q I hw=>
 wpAny_mono (h pins s σ H Q (I.wish _) hw) (fun _ _ ⟨v,H',I',r,q⟩=>⟨v,H',I'.unwish,r,q⟩) fun _ _ z=>False.elim z
theorem PT.nox{e:Expr}{t:TT}(h:PT X.nox e t):PT X e t:=fun pins s σ H Q I hw=>
 wpAny_mono (h pins s σ H Q (I.wish _) hw) (fun _ _ ⟨H',I',q⟩=>⟨H',I'.unwish,q⟩) fun _ _ z=>False.elim z
theorem PSs.nox{st:List Stmt}{t:TS}(h:PSs X.nox st t):PSs X st t:=fun pins s σ H D I hw=>
 wpAny_mono (h pins s σ H D (I.wish _) hw) (fun _ _ q=>q.unwish) fun _ _ z=>False.elim z
end
section
variable{X:Cx}{st:Stmt}{aaB:List Stmt}{t u:TS}{e:Expr}{te:TE}{pos:Pos}
noncomputable def aq9:TS:=fun D σ H=>D.nx σ H
noncomputable def awU(t u:TS):TS:=fun D σ H=>t { D with nx:=u D } σ H
theorem alM:PSs X [] aq9:=fun _ _ σ H _ I h=>wpAny_execs_nil ⟨σ,H,I,h⟩
theorem ajx(h1:PS X st t)(h2:PSs X aaB u):PSs X (st::aaB) (awU t u):=by
 intro pins s σ H D I h
 refine wpAny_execs_cons (thn (h1 pins s σ H { D with nx:=u D } I h) fun f s1 q=>?_)
 cases f with
 | next=>
  obtain⟨σ',H',I',q⟩:=q
  exact h2 pins s1 σ' H' D I' q
 | ret v=>exact q
 | brk=>exact q
 | cont=>exact q
theorem Inv.quiet{pins:List (Addr×Obj)}{σ:St}{H:Hp}{s:Shared}(I:Inv X pins σ H s):interactive X.env=false:=by simp[interactive,I.ok.kind]
noncomputable def asj(te:TE):TS:=fun D σ H=>te σ H fun _ H1=>D.nx σ H1
theorem afo(he:PE X e te)(hs:swapsWith e none pos.line X.env=pure false:=by rfl):PS X (.Expr e pos) (asj te):=by
 intro pins s σ H D I h
 exact wpAny_Expr_any (thn (he pins s σ H _ I h) fun v s1 ⟨x,H1,I1,r1,q1⟩=>⟨σ,H1,I1,q1⟩) I.quiet hs
noncomputable def awC(te:TE):TS:=fun D σ H=>te σ H D.rt
theorem aop(he:PE X e te):PS X (.Return (some e) pos) (awC te):=by
 intro pins s σ H D I h
 exact wpAny_Return_some (thn (he pins s σ H _ I h) fun v s1 ⟨x,H1,I1,r1,q1⟩=>⟨x,σ,H1,I1,r1,q1⟩)
noncomputable def avW(c:TT)(t u:TS):TS:=fun D σ H=>c σ H fun b H1=>if b=true then t D σ H1 else u D σ H1
theorem atk{c:Expr}{a b:List Stmt}{tc:TT}(hc:PT X c tc)(ha:PSs X a t)(hb:PSs X b u):PS X (.If c a b pos) (avW tc t u):=by
 intro pins s σ H D I h
 refine wpAny_If (thn (hc pins s σ H _ I h) fun d s1 ⟨H1,I1,q1⟩=>?_)
 cases d with
 | true=>exact ha pins s1 σ H1 D I1 q1
 | false=>exact hb pins s1 σ H1 D I1 q1
end
noncomputable abbrev TG:=V→St→Hp→(St→Hp→Prop)→Prop
noncomputable abbrev TGs:=List V→St→Hp→(St→Hp→Prop)→Prop
noncomputable def PG(X:Cx)(target:Expr)(t:TG):Prop:=
 ∀(pins:List (Addr×Obj)) (s:Shared) (σ:St) (H:Hp) (v:V) (u:Value) (Q:St→Hp→Prop),Inv X pins σ H s→aaL v u→t v σ H Q→
  wpAny (model X.prog X.w) X.A (assign target X.env u) (fun _ s'=>∃σ' H',Inv X pins σ' H' s'∧Q σ' H') X.xe s
noncomputable def PGs(X:Cx)(ts:List Expr)(t:TGs):Prop:=
 ∀(pins:List (Addr×Obj)) (s:Shared) (σ:St) (H:Hp) (vs:List V) (us:List Value) (Q:St→Hp→Prop),Inv X pins σ H s→aa1 vs us→t vs σ H Q→
  wpAny (model X.prog X.w) X.A (assignInOrder ((assignEach ts X.env).map (·.2)) us) (fun _ s'=>∃σ' H',Inv X pins σ' H' s'∧Q σ' H') X.xe s
noncomputable abbrev ash:=V→V→V→Hp→(Hp→Prop)→Prop
noncomputable def av1(X:Cx)(t:ash):Prop:=
 ∀(pins:List (Addr×Obj)) (s:Shared) (σ:St) (H:Hp) (o i v:V) (ov iv u:Value) (Q:Hp→Prop),Inv X pins σ H s→aaL o ov→aaL i iv→aaL v u→t o i v H Q→
  wpAny (model X.prog X.w) X.A (setItem ov iv u) (fun _ s'=>∃H',Inv X pins σ H' s'∧Q H') X.xe s
section
variable{X:Cx}{pos:Pos}
noncomputable def an5(i:Nat):TG:=fun v σ H Q=>Q (σ.set i (some v)) H
theorem aix{i:Nat}{x:Str}(hN:X.N.Nodup)(hi:X.N[i]?=some x)(hx:Loc X.env.scope x)(hf:X.fn x=true∨X.env.scope.names.lookup x=some .local:=by first|exact .inl rfl|exact .inr rfl|assumption):PG X (.Name x pos) (an5 i):=by
 intro pins s σ H v u Q I r h
 exact wpAny_assign_Name (acQ I hN hi hx r (fun s' I'=>⟨_,H,I',h⟩) hf)
noncomputable def awr:TGs:=fun vs σ H Q=>vs=[]∧Q σ H
noncomputable def asp(t:TG)(u:TGs):TGs:=fun vs σ H Q=>∃v r,vs=v::r∧t v σ H fun σ' H'=>u r σ' H' Q
theorem alf:PGs X [] awr:=by
 intro pins s σ H vs us Q I r h
 obtain⟨e,h⟩:=h
 subst e
 cases r
 exact assignInOrder_nil ⟨σ,H,I,h⟩
theorem akg{e:Expr}{es:List Expr}{t:TG}{u:TGs}(h1:PG X e t)(h2:PGs X es u)
  (hs:(assignEach (e::es) X.env).map (·.2)=assign e X.env::(assignEach es X.env).map (·.2):=by rfl):PGs X (e::es) (asp t u):=by
 intro pins s σ H vs us Q I r h
 obtain⟨v,vr,e1,h⟩:=h
 subst e1
 cases r with
 | cons r rr=>
  rw[hs]
  refine assignInOrder_cons (thn (h1 pins s σ H _ _ _ I r h) fun _ s1 ⟨σ1,H1,I1,q1⟩=>?_)
  exact h2 pins s1 σ1 H1 _ _ Q I1 rr q1
noncomputable def aw4(K:PySem.W.Frag)(n:Nat)(t:TGs):TG:=fun v σ H Q=>∃a xs,v=.ref a∧SqT K H a xs∧xs.length=n∧t xs σ H Q
theorem ani{es:List Expr}{k:Nat}{t:TGs}{n:Nat}(hc:X.calm=true)(h:PGs X es t)
  (hn:(assignEach es X.env).length=n:=by rfl) (hst:(assignEach es X.env).findIdx? (·.1)=none:=by rfl):PG X (.Tuple es k pos) (aw4 X.K n t):=by
 intro pins s σ H v u Q I r hw
 obtain⟨a,xs,e1,hq,hl,hw⟩:=hw
 subst e1
 cases r
 obtain⟨its,rv,ht,hz⟩:=I.tuple hq
 refine assign_Tuple_tuple (I.ok.hd hc) ht (by simp[hn,←hl,rv.length]) hst fun h' hx=>?_
 have I1:Inv X pins σ H { s with heap:=h' }:=I.kept (t':=s.toks) fun b o e=>hx b o (Nat.ne_of_lt (Heap.lt_size e)) e
 exact h pins _ σ H xs _ Q I1 (by simpa using rv) hw
noncomputable def awJ(to ti:TE)(t:ash):TG:=fun v σ H Q=>to σ H fun o H1=>ti σ H1 fun i H2=>t o i v H2 fun H3=>Q σ H3
theorem anz{o i:Expr}{to ti:TE}{t:ash}(ho:PE X o to)(hi:PE X i ti)(hs:av1 X t)
  (ha:∀v,assign (.Subscript o i pos) X.env v=(do
   let ov ←holding [v] (eval o X.env)
   let iv ←holding [v,ov] (eval i X.env)
   standAt pos
   holding [v,ov,iv] (setItem ov iv v)
   release [v,ov,iv] []):=by intro _;rfl):PG X (.Subscript o i pos) (awJ to ti t):=by
 intro pins s σ H v u Q I r h
 rw[ha]
 refine wpAny_bind (wpAny_holding (thn (ho pins s σ H _ I h) fun ov s1 ⟨x,H1,I1,r1,q1⟩=>?_))
 refine wpAny_bind (wpAny_holding (thn (hi pins s1 σ H1 _ I1 q1) fun iv s2 ⟨y,H2,I2,r2,q2⟩=>?_))
 refine wpAny_bind (wpAny_standAt (wpAny_bind (wpAny_holding (thn (hs pins s2 σ H2 x y v ov iv u _ I2 r1 r2 r q2) fun _ s3 ⟨H3,I3,q3⟩=>?_))))
 exact wpAny_release ⟨σ,H3,I3,q3⟩
noncomputable def avb(te:TE)(g:TG):TS:=fun D σ H=>te σ H fun x H1=>g x σ H1 D.nx
theorem akz{tg e:Expr}{te:TE}{g:TG}(he:PE X e te)(hg:PG X tg g)(hs:swapsWithSole [tg] e pos.line X.env=pure false:=by rfl)(hw:swappedStores [tg] e X.env=pure none:=by rfl)
  (h1:(assignEach [tg] X.env).map (·.2)=[assign tg X.env]:=by rfl):PS X (.Assign [tg] e pos) (avb te g):=by
 intro pins s σ H D I h
 refine wpAny_Assign_stores (thn (he pins s σ H _ I h) fun v s1 ⟨x,H1,I1,r1,q1⟩=>?_) hs hw
 rw[h1]
 exact thn (hg pins s1 σ H1 x v _ I1 r1 q1) fun _ s2 q=>q
theorem akA{i:Nat}{x:Str}{e:Expr}{te:TE}{pos':Pos}(hN:X.N.Nodup)(hi:X.N[i]?=some x)(hx:Loc X.env.scope x)(he:PE X e te)(hs:swapsWith e (some (.Name x pos')) pos.line X.env=pure false:=by rfl)(hf:X.fn x=true∨X.env.scope.names.lookup x=some .local:=by first|exact .inl rfl|exact .inr rfl|assumption):
  PS X (.Assign [.Name x pos'] e pos) (avb te (an5 i)):=by
 intro pins s σ H D I h
 refine wpAny_Assign_Name (thn (he pins s σ H _ I h) fun v s1 ⟨y,H1,I1,r1,q1⟩=>?_) hs
 exact acQ I1 hN hi hx r1 (fun s2 I2=>⟨_,H1,I2,q1⟩) hf
end
structure It where
 go:Nat→Hp→Prop
 yld:Nat→Hp→V→Hp→Prop
 stop:Nat→Hp→Prop
noncomputable def aeD(X:Cx)(pins:List (Addr×Obj))(H:Hp)(b:Addr):Prop:=
 H b=none∧b≠X.env.locals∧b∉X.fs∧(b∈X.ex∨X.s₀.heap.objs.size≤b)∧(∀x c,X.env.cells.lookup x=some c→c≠b)∧∀p∈X.pn++pins,p.1≠b
theorem Inv.fpOk{X:Cx}{pins:List (Addr×Obj)}{σ:St}{H H':Hp}{s:Shared}{b:Addr}(I:Inv X pins σ H s)(hb:s.heap.objs.size≤b)(hn:H' b=none):aeD X pins H' b:=by
 refine⟨hn,Nat.ne_of_gt (Nat.lt_of_lt_of_le I.lt hb),I.nofs hb,.inr (Nat.le_trans I.sz hb),fun x c e z=>?_,fun p hp z=>?_⟩
 ·obtain⟨v,q⟩:=I.cell x c e
  exact absurd (Nat.lt_of_lt_of_le q.lt (by rw[z];exact hb)) (Nat.lt_irrefl _)
 ·exact absurd (Nat.lt_of_lt_of_le (Heap.lt_size (I.pin p hp).1) (by rw[z];exact hb)) (Nat.lt_irrefl _)
structure ahL(P:Program)(w:World)(K:PySem.W.Frag)(tg:Expr)(J:It)(fp:List Addr)(it:Addr)(tn:Nat→Heap→Prop):Prop where
 mem:it∈fp
 obj:∀i h,tn i h→∀b∈fp,∃o,h.get? b=some o∧∀v,o.data≠.cell v
 keep:∀i h h',tn i h→(∀b∈fp,∀o,h.get? b=some o→h'.get? b=some o)→tn i h'
 item:∀(X:Cx),X.prog=P→X.w=w→X.K=K→X.calm=true→∀(i:Nat) (pins:List (Addr×Obj)) (s:Shared) (σ:St) (H:Hp) (E:Value→Shared→Prop),Inv X pins σ H s→(∀b∈fp,aeD X pins H b)→tn i s.heap→J.go i H→
  wpAny (model P w) X.A (pyNext (.ref it)) (fun r s1=>∃u,r=some u∧
   wpAny (model P w) X.A (letOwnedTupleGo tg (.ref it) u) (fun _ s2=>∃x H',Inv X pins σ H' s2∧aaL x u∧J.yld i H x H'∧tn (i+1) s2.heap∧∀b∈fp,H' b=none) E s1) E s
 done:∀(X:Cx),X.prog=P→X.w=w→X.K=K→X.calm=true→∀(i:Nat) (pins:List (Addr×Obj)) (s:Shared) (σ:St) (H:Hp) (E:Value→Shared→Prop),Inv X pins σ H s→(∀b∈fp,aeD X pins H b)→tn i s.heap→J.stop i H→
  wpAny (model P w) X.A (pyNext (.ref it)) (fun r s1=>r=none∧Inv X pins σ H s1) E s
 self:∀(A:Around) (i:Nat) (s:Shared) (Q:Value→Shared→Prop) (E:Value→Shared→Prop),tn i s.heap→Q (.ref it) s→wpAny (model P w) A (pyIter (.ref it)) Q E s
noncomputable abbrev TI:=St→Hp→(It→Hp→Prop)→Prop
noncomputable def PIE(X:Cx)(pins:List (Addr×Obj))(σ:St)(tg:Expr)(R:It→Hp→Prop)(itv:Value)(s2:Shared):Prop:=
 ∃(it:Addr) (fp:List Addr) (tn:Nat→Heap→Prop) (J:It) (H':Hp),itv=.ref it∧Inv X pins σ H' s2∧ahL X.prog X.w X.K tg J fp it tn∧tn 0 s2.heap∧(∀b∈fp,aeD X pins H' b)∧R J H'
noncomputable def PI(X:Cx)(tg iter:Expr)(wi:TI):Prop:=
 ∀(pins:List (Addr×Obj)) (s:Shared) (σ:St) (H:Hp) (R:It→Hp→Prop),Inv X pins σ H s→wi σ H R→
  wpAny (model X.prog X.w) X.A (eval iter X.env) (fun v s1=>wpAny (model X.prog X.w) X.A (pyIter v) (PIE X pins σ tg R) X.xe s1) X.xe s
theorem alc{M:Model}{A:Around}{E:Value→Shared→Prop}{s:Shared}{tg:Expr}{it:Addr}{u:Value}{o:Obj}{n:String}{vs:Array Value}{Q:Unit→Shared→Prop}(ho:s.heap.get? it=some o)(hc:o.cls=.type n)(hd:o.data=.fields vs)
  (hn:["enumerate","zip","dict_itemiterator","dict_reverseitemiterator","odict_iterator","itertools.zip_longest","itertools.pairwise"].contains n=false) (hQ:Q () s):wpAny M A (letOwnedTupleGo tg (.ref it) u) Q E s:=by
 unfold letOwnedTupleGo
 cases tg<;>first
  | exact wpAny_pure hQ
  | (cases u<;>first
    | exact wpAny_pure hQ
    | (refine wpAny_bind (wpAny_load ho ?_)
       rw[hc,hd]
       show wpAny M A (if(["enumerate","zip","dict_itemiterator","dict_reverseitemiterator","odict_iterator","itertools.zip_longest","itertools.pairwise"].contains n&&vs[0]?==some (rawInt _))=true then _ else _) Q E s
       rw[if_neg (by intro h;rw[hn,Bool.false_and]at h;cases h)]
       exact wpAny_pure hQ))
noncomputable def Itl(K:PySem.W.Frag)(a:Addr):It:=
 ⟨fun i H=>∃xs x,SqL K H a xs∧xs[i]?=some x,fun i H x H'=>H'=H∧∀xs,SqL K H a xs→xs[i]?=some x,fun i H=>∃xs,SqL K H a xs∧xs.length≤i⟩
noncomputable def Itt(K:PySem.W.Frag)(a:Addr):It:=
 ⟨fun i H=>∃xs x,SqT K H a xs∧xs[i]?=some x,fun i H x H'=>H'=H∧∀xs,SqT K H a xs→xs[i]?=some x,fun i H=>∃xs,SqT K H a xs∧xs.length≤i⟩
noncomputable def Itr(lo:Int)(n:Nat):It:=⟨fun i _=>i<n,fun i H x H'=>H'=H∧x=.int (lo+i),fun i _=>n≤i⟩
theorem ahS{P:Program}{w:World}{K:PySem.W.Frag}{tg:Expr}(a it:Addr):ahL P w K tg (Itl K a) [it] it (fun i h=>h.IsListIter it a i)where
 mem:=by simp
 obj:=fun i h st b hb=>by
  have e:b=it:=by simpa using hb
  subst e
  obtain⟨o,e,c,d⟩:=st
  exact⟨o,e,fun v z=>by rw[d]at z;cases z⟩
 keep:=fun i h h' st k=>st.at fun o e=>k it (by simp) o e
 item:=by
  intro X hP hw hK hc i pins s σ H E I hf st hg
  subst hP hw hK
  obtain⟨xs,x,hq,hx⟩:=hg
  obtain⟨its,rv,p,hz⟩:=I.list hq
  obtain⟨u,hu,ru⟩:=rv.get hx
  obtain⟨f0,f1,f2,f3,f4,f5⟩:=hf it (by simp)
  refine wpAny_pyNext_list_item st p.isList (x:=u) (by simpa using hu) fun h' st' sb=>?_
  have I1:Inv X pins σ H { s with heap:=h' }:=I.turned (t':=s.toks) (fun b o hb e=>(sb.2 b hb).trans e) f0 f1 f3 f4 f5
  obtain⟨o,e,c,d⟩:=id st'
  exact⟨u,rfl,alc (s:={ s with heap:=h' }) e c d (by decide) ⟨x,H,I1,ru,⟨rfl,fun ys hy=>by rw[I.list_inj hy hq];exact hx⟩,st',fun b hb=>(hf b hb).1⟩⟩
 done:=by
  intro X hP hw hK hc i pins s σ H E I hf st hg
  subst hP hw hK
  obtain⟨xs,hq,hx⟩:=hg
  obtain⟨its,rv,p,hz⟩:=I.list hq
  obtain⟨f0,f1,f2,f3,f4,f5⟩:=hf it (by simp)
  have hl:=rv.length
  exact wpAny_pyNext_list_end (I.ok.hd hc) st p.isList (by simp;omega) fun h' eb=>⟨rfl,I.turned (t':=s.toks) (fun b o hb e=>eb b o hb e) f0 f1 f3 f4 f5⟩
 self:=fun _ _ _ _ _ st h=>wpAny_pyIter_listiter st h
theorem ag4{P:Program}{w:World}{K:PySem.W.Frag}{tg:Expr}(a it:Addr):ahL P w K tg (Itt K a) [it] it (fun i h=>h.IsTupleIter it a i)where
 mem:=by simp
 obj:=fun i h st b hb=>by
  have e:b=it:=by simpa using hb
  subst e
  obtain⟨o,e,c,d⟩:=st
  exact⟨o,e,fun v z=>by rw[d]at z;cases z⟩
 keep:=fun i h h' st k=>st.at fun o e=>k it (by simp) o e
 item:=by
  intro X hP hw hK hc i pins s σ H E I hf st hg
  subst hP hw hK
  obtain⟨xs,x,hq,hx⟩:=hg
  obtain⟨its,rv,p,hz⟩:=I.tuple hq
  obtain⟨u,hu,ru⟩:=rv.get hx
  obtain⟨f0,f1,f2,f3,f4,f5⟩:=hf it (by simp)
  refine wpAny_pyNext_tuple_item st (show s.heap.IsTuple a its.toArray from p) (x:=u) (by simpa using hu) fun h' st' sb=>?_
  have I1:Inv X pins σ H { s with heap:=h' }:=I.turned (t':=s.toks) (fun b o hb e=>(sb.2 b hb).trans e) f0 f1 f3 f4 f5
  obtain⟨o,e,c,d⟩:=id st'
  exact⟨u,rfl,alc (s:={ s with heap:=h' }) e c d (by decide) ⟨x,H,I1,ru,⟨rfl,fun ys hy=>by rw[I.tuple_inj hy hq];exact hx⟩,st',fun b hb=>(hf b hb).1⟩⟩
 done:=by
  intro X hP hw hK hc i pins s σ H E I hf st hg
  subst hP hw hK
  obtain⟨xs,hq,hx⟩:=hg
  obtain⟨its,rv,p,hz⟩:=I.tuple hq
  obtain⟨f0,f1,f2,f3,f4,f5⟩:=hf it (by simp)
  have hl:=rv.length
  exact wpAny_pyNext_tuple_end (I.ok.hd hc) st (show s.heap.IsTuple a its.toArray from p) (by simp;omega) fun h' eb=>⟨rfl,I.turned (t':=s.toks) (fun b o hb e=>eb b o hb e) f0 f1 f3 f4 f5⟩
 self:=fun _ _ _ _ _ st h=>wpAny_pyIter_tupleiter st h
theorem agH{P:Program}{w:World}{K:PySem.W.Frag}{tg:Expr}(it:Addr)(lo:Int)(n:Nat):ahL P w K tg (Itr lo n) [it] it (fun i h=>IsRangeIter h it (lo+(i:Nat)*1) ((n:Int)-(i:Nat)) 1)where
 mem:=by simp
 obj:=fun i h st b hb=>by
  have e:b=it:=by simpa using hb
  subst e
  exact⟨_,st,fun v z=>by
   have z':Data.fields _=Data.cell v:=z
   cases z'⟩
 keep:=fun i h h' st k=>k it (by simp) _ st
 item:=by
  intro X hP hw hK hc i pins s σ H E I hf st hg
  subst hP hw hK
  obtain⟨f0,f1,f2,f3,f4,f5⟩:=hf it (by simp)
  have W:=Walks.range (prog:=X.prog) (w:=X.w) (I.ok.hd hc) it lo 1 n
  refine W.item i s _ _ hg st fun v h' tk hv st' kk=>?_
  obtain⟨t,rfl⟩:=hv
  have I1:Inv X pins σ H { s with heap:=h',toks:=tk }:=I.turned (fun b o hb e=>kk b o (by simpa using hb) e) f0 f1 f3 f4 f5
  refine⟨_,rfl,alc (s:={ s with heap:=h',toks:=tk }) (n:="range_iterator") st' rfl rfl (by decide) ⟨.int (lo+i),H,I1,⟨t,?_⟩,⟨rfl,rfl⟩,st',fun b hb=>(hf b hb).1⟩⟩
  rw[Int.mul_one]
 done:=by
  intro X hP hw hK hc i pins s σ H E I hf st hg
  subst hP hw hK
  obtain⟨f0,f1,f2,f3,f4,f5⟩:=hf it (by simp)
  exact wpAny_pyNext_range_end (I.ok.hd hc) st (by have:n≤i:=hg;omega) fun h' eb=>⟨rfl,I.turned (t':=s.toks) (fun b o hb e=>eb b o hb e) f0 f1 f3 f4 f5⟩
 self:=fun _ _ _ _ _ st h=>wpAny_pyIter_rangeiter st h
end L2
namespace L2
open PySem PySem.Spec PyProof.Rows
section
variable{X:Cx}{tg:Expr}
theorem afS{pins:List (Addr×Obj)}{σ:St}{H:Hp}{s:Shared}{R:It→Hp→Prop}{E:Value→Shared→Prop}{lo hi:Int}{t u v:Tok}{tk:Nat}(I:Inv X pins σ H s)(h1:-(2^62)≤lo)(h2:lo<2^62)(h3:-(2^62)≤hi)(h4:hi<2^62)
  (q:R (Itr lo (hi-lo).toNat) H):wpAny (model X.prog X.w) X.A (pyIter (.ref s.heap.objs.size)) (PIE X pins σ tg R) E { s with heap:=s.heap.push { cls:=.type "range",data:=.fields #[.int lo t,.int hi u,.int 1 v] },toks:=tk }:=by
 refine wpAny_pyIter_range (IsRange.new ..) (small_one h1 h2 h3 h4) ?_
 have I1:Inv X pins σ H { s with heap:=s.heap.push { cls:=.type "range",data:=.fields #[.int lo t,.int hi u,.int 1 v] },toks:=tk }:=I.kept fun b o e=>Heap.get?_push_of_some _ e
 refine⟨(s.heap.push { cls:=.type "range",data:=.fields #[.int lo t,.int hi u,.int 1 v] }).objs.size,[(s.heap.push { cls:=.type "range",data:=.fields #[.int lo t,.int hi u,.int 1 v] }).objs.size],_,_,H,rfl,
  I1.kept (t':=tk) fun b o e=>Heap.get?_push_of_some _ e,agH _ lo (hi-lo).toNat,?_,fun b hb=>?_,q⟩
 ·have e1:lo+((0:Nat):Int)*1=lo:=by simp
  have e2:(((hi-lo).toNat:Nat):Int)-((0:Nat):Int)=Builtin.Range.rangeSize lo hi 1:=by rw[rangeSize_one];split<;>omega
  show IsRangeIter _ _ (lo+((0:Nat):Int)*1) ((((hi-lo).toNat:Nat):Int)-((0:Nat):Int)) 1
  rw[e1,e2]
  exact Heap.get?_push_size _ rfl
 ·have e:b=(s.heap.push { cls:=.type "range",data:=.fields #[.int lo t,.int hi u,.int 1 v] }).objs.size:=by simpa using hb
  subst e
  exact I1.fpOk (Nat.le_refl _) (I1.hok.fresh (Nat.le_refl _))
noncomputable def atR(ta:TA):TI:=fun σ H R=>ta σ H fun vs H1=>∃j:Int,vs=[.int j]∧-(2^62)≤j∧j<2^62∧R (Itr 0 j.toNat) H1
noncomputable def aqZ(ta:TA):TI:=fun σ H R=>ta σ H fun vs H1=>∃i j:Int,vs=[.int i,.int j]∧(-(2^62)≤i∧i<2^62∧-(2^62)≤j∧j<2^62)∧R (Itr i (j-i).toNat) H1
theorem aiu{a:Expr}{ta:TA}{p pos:Pos}(hg:Gl X "range")(hm:X.mg "range"=none)(ha:PA X [a] ta)(hs:starEach [a] X.env=[(false,eval a X.env)]:=by rfl):PI X tg (.Call (.Name "range" p) [a] [] pos) (atR ta):=by
 intro pins s σ H R I h
 refine Call_ (adb I hg hm boot_range (PyProof.Rows.callWith_type1 (thn (ha pos pins s σ H _ I h) fun us s1 ⟨vs,H1,I1,r1,q1⟩=>?_) hs rfl))
 obtain⟨j,e,q1,q2,q⟩:=q1
 subst e
 cases r1 with
 | cons r rr=>
  cases rr
  obtain⟨t,rfl⟩:=r
  exact call_range_1 (afS I1 (by omega) (by omega) q1 q2 (by simpa using q))
theorem aiB{a b:Expr}{ta:TA}{p pos:Pos}(hg:Gl X "range")(hm:X.mg "range"=none)(ha:PA X [a,b] ta)(hs:starEach [a,b] X.env=[(false,eval a X.env),(false,eval b X.env)]:=by rfl)(hs2:starEach [b] X.env=[(false,eval b X.env)]:=by rfl):
  PI X tg (.Call (.Name "range" p) [a,b] [] pos) (aqZ ta):=by
 intro pins s σ H R I h
 refine Call_ (adb I hg hm boot_range (PyProof.Rows.callWith_type1 (thn (ha pos pins s σ H _ I h) fun us s1 ⟨vs,H1,I1,r1,q1⟩=>?_) (by rw[hs,hs2]) (by rw[hs2];rfl)))
 obtain⟨i,j,e,⟨q1,q2,q3,q4⟩,q⟩:=q1
 subst e
 cases r1 with
 | cons r rr=>
  cases rr with
  | cons r' rr=>
   cases rr
   obtain⟨t,rfl⟩:=r
   obtain⟨t',rfl⟩:=r'
   exact call_range_2 (afS I1 q1 q2 q3 q4 q)
noncomputable def awP(wi:TI)(g:TG)(tb:TS):TS:=fun D σ H=>wi σ H fun J H1=>∃W:Nat→Nat→St→Hp→Prop,(∃m,W 0 m σ H1)∧∀i m σ H,W i m σ H→
 (J.stop i H∧D.nx σ H)∨(J.go i H∧∃N:St→Hp→Prop,(∀σ' H',N σ' H'→∃m',m'<m∧W (i+1) m' σ' H')∧∀x H',J.yld i H x H'→g x σ H' fun σ2 H2=>tb { D with nx:=N,ct:=N,bk:=D.nx } σ2 H2)
noncomputable def adC(fp:List Addr)(h:Heap):List (Addr×Obj):=fp.filterMap fun b=>(h.get? b).map fun o=>(b,o)
theorem ac8{fp:List Addr}{h:Heap}{b:Addr}{o:Obj}(hb:b∈fp)(e:h.get? b=some o):(b,o)∈adC fp h:=List.mem_filterMap.mpr ⟨b,hb,by rw[e];rfl⟩
theorem ai0{fp:List Addr}{h:Heap}{p:Addr×Obj}(hp:p∈adC fp h):p.1∈fp∧h.get? p.1=some p.2:=by
 obtain⟨b,hb,e⟩:=List.mem_filterMap.mp hp
 cases q:h.get? b with
 | none=>rw[q]at e;cases e
 | some o=>
  rw[q]at e
  have e':(b,o)=p:=Option.some.inj e
  subst e'
  exact⟨hb,q⟩
theorem Inv.pinned{pins:List (Addr×Obj)}{σ:St}{H:Hp}{s:Shared}{fp:List Addr}(I:Inv X pins σ H s)(hf:∀b∈fp,aeD X pins H b)(ho:∀b∈fp,∃o,s.heap.get? b=some o∧∀v,o.data≠.cell v):Inv X (pins++adC fp s.heap) σ H s:=
 I.pins_of fun p hp=>(List.mem_append.mp hp).elim (fun z=>I.pin p (List.mem_append_right _ z)) fun z=>by
  obtain⟨hb,e⟩:=ai0 z
  obtain⟨f0,f1,f2,_⟩:=hf p.1 hb
  obtain⟨o,e',d⟩:=ho p.1 hb
  rw[e]at e';cases e'
  exact⟨e,f0,f1,f2,d⟩
theorem Inv.unpinned{pins pl:List (Addr×Obj)}{σ:St}{H:Hp}{s:Shared}(I:Inv X (pins++pl) σ H s):Inv X pins σ H s:=I.pins_of fun p hp=>I.pin p (List.mem_append_right _ (List.mem_append_left _ hp))
theorem ak8{iter:Expr}{body:List Stmt}{wi:TI}{g:TG}{tb:TS}{pos:Pos}(hp:PassesOwn (model X.prog X.w) X.A X.env X.xe)(hc:X.calm=true)(hi:PI X tg iter wi)(hg:PG X tg g)(hb:PSs X body tb)
  (hs:∀x,foldedSetIterable iter X.env x=pure x:=by intro _;rfl):PS X (.For tg iter body [] pos) (awP wi g tb):=by
 intro pins s σ H D I h
 refine wpAny_For (thn (hi pins s σ H _ I h) fun v s1 h1=>thn h1 fun itv s2 h2=>?_) hs
 obtain⟨it,fp,tn,J,H2,e,I2,T,st2,f2,W,⟨m0,w0⟩,turn⟩:=h2
 subst e
 have stat:∀{H':Hp},(∀b∈fp,H' b=none)→∀b∈fp,aeD X pins H' b:=fun hn b hb=>⟨hn b hb,(f2 b hb).2⟩
 refine codeAny_forLoop_any (fun n s'=>∃i σ' H',Inv X pins σ' H' s'∧tn i s'.heap∧(∀b∈fp,H' b=none)∧W i n σ' H') ?_ m0 ⟨0,σ,H2,I2,st2,fun b hb=>(f2 b hb).1,w0⟩
 rintro n s3 ⟨i,σ3,H3,I3,st3,fr3,w3⟩
 rcases turn i n σ3 H3 w3 with⟨stop,qn⟩|⟨go,N,hN,step⟩
 ·refine wpAny_passesOwn hp (thn (T.done X rfl rfl rfl hc i pins s3 σ3 H3 X.xe I3 (stat fr3) st3 stop) fun r s4 ⟨hr,I4⟩=>?_)
  subst hr
  exact wpAny_execs_nil ⟨σ3,H3,I4,qn⟩
 ·refine wpAny_passesOwn hp (thn (T.item X rfl rfl rfl hc i pins s3 σ3 H3 X.xe I3 (stat fr3) st3 go) fun r s4 ⟨u,hr,h4⟩=>?_)
  subst hr
  refine wpAny_passesOwn hp (thn h4 fun _ s5 ⟨x,H5,I5,r5,y5,st5,fr5⟩=>?_)
  have I5':=I5.pinned (stat fr5) (T.obj _ _ st5)
  refine wpAny_passesOwn hp (thn (hg _ s5 σ3 H5 x u _ I5' r5 (step x H5 y5)) fun _ s6 ⟨σ6,H6,I6,q6⟩=>?_)
  refine wpAny_passesOwn hp (thn (hb _ s6 σ6 H6 _ I6 q6) fun f s7 q7=>?_)
  have again:∀{σ7:St}{H7:Hp},Inv X (pins++adC fp s5.heap) σ7 H7 s7→N σ7 H7→∃m,m<n∧∃i σ' H',Inv X pins σ' H' s7∧tn i s7.heap∧(∀b∈fp,H' b=none)∧W i m σ' H':=fun {σ7 H7} I7 n7=>by
   obtain⟨m',hm,w7⟩:=hN σ7 H7 n7
   refine⟨m',hm,i+1,σ7,H7,I7.unpinned,T.keep _ _ _ st5 fun b hb o e=>(I7.pin (b,o) (List.mem_append_right _ (List.mem_append_right _ (ac8 hb e)))).1,fun b hb=>?_,w7⟩
   obtain⟨o,e,d⟩:=T.obj _ _ st5 b hb
   exact(I7.pin (b,o) (List.mem_append_right _ (List.mem_append_right _ (ac8 hb e)))).2.1
  cases f with
  | next=>obtain⟨σ7,H7,I7,n7⟩:=q7;exact again I7 n7
  | cont=>obtain⟨σ7,H7,I7,n7⟩:=q7;exact again I7 n7
  | brk=>obtain⟨σ7,H7,I7,q7⟩:=q7;exact⟨σ7,H7,I7.unpinned,q7⟩
  | ret v=>obtain⟨x7,σ7,H7,I7,r7,q7⟩:=q7;exact⟨x7,σ7,H7,I7.unpinned,r7,q7⟩
end
end L2
namespace L2
open PySem PySem.Spec PyProof.Rows
noncomputable abbrev R2:=V→V→Hp→VK→Prop
noncomputable def OpR(X:Cx)(f:Value→Value→Sem Value)(r:R2):Prop:=
 ∀(pins:List (Addr×Obj)) (s:Shared) (σ:St) (H:Hp) (x y:V) (v u:Value) (Q:VK),Inv X pins σ H s→aaL x v→aaL y u→r x y H Q→
  wpAny (model X.prog X.w) X.A (f v u) (EP X pins σ Q) X.xe s
noncomputable def UnR(X:Cx)(f:Value→Sem Value)(r:V→Hp→VK→Prop):Prop:=
 ∀(pins:List (Addr×Obj)) (s:Shared) (σ:St) (H:Hp) (x:V) (v:Value) (Q:VK),Inv X pins σ H s→aaL x v→r x H Q→
  wpAny (model X.prog X.w) X.A (f v) (EP X pins σ Q) X.xe s
noncomputable def aaK(X:Cx)(f:Value)(r:List V→Hp→VK→Prop):Prop:=
 ∀(pins:List (Addr×Obj)) (s:Shared) (σ:St) (H:Hp) (xs:List V) (us:List Value) (Q:VK),Inv X pins σ H s→aa1 xs us→r xs H Q→
  wpAny (model X.prog X.w) X.A (call f us) (EP X pins σ Q) X.xe s
noncomputable def awl(X:Cx)(r:V→Hp→(Bool→Hp→Prop)→Prop):Prop:=
 ∀(pins:List (Addr×Obj)) (s:Shared) (σ:St) (H:Hp) (x:V) (v:Value) (Q:Bool→Hp→Prop),Inv X pins σ H s→aaL x v→r x H Q→
  wpAny (model X.prog X.w) X.A (truthy v) (TP X pins σ Q) X.xe s
noncomputable def tOp(r:R2)(ta tb:TE):TE:=fun σ H Q=>ta σ H fun x H1=>tb σ H1 fun y H2=>r x y H2 Q
noncomputable def tUn(r:V→Hp→VK→Prop)(ta:TE):TE:=fun σ H Q=>ta σ H fun x H1=>r x H1 Q
noncomputable def rI(C:Int→Int→Prop)(g:Int→Int→V):R2:=fun x y H Q=>∃i j,x=.int i∧y=.int j∧C i j∧Q (g i j) H
noncomputable def rI0(g:Int→Int→V):R2:=fun x y H Q=>∃i j,x=.int i∧y=.int j∧Q (g i j) H
noncomputable def rU(g:Int→V):V→Hp→VK→Prop:=fun x H Q=>∃i,x=.int i∧Q (g i) H
section
variable{X:Cx}{a b c:Expr}{ta tb tc:TE}{pos:Pos}
theorem aqe(ha:PE X a ta)(hb:PE X b tb){pins:List (Addr×Obj)}{s:Shared}{σ:St}{H:Hp}{R:V→V→Hp→Prop}(I:Inv X pins σ H s)
  (h:ta σ H fun x H1=>tb σ H1 fun y H2=>R x y H2) {Q:Value→Shared→Prop}{f:Value→Value→Sem Value}
  (hf:∀v u s2 x y H2,Inv X pins σ H2 s2→aaL x v→aaL y u→R x y H2→wpAny (model X.prog X.w) X.A (f v u) Q X.xe s2):
  wpAny (model X.prog X.w) X.A (eval a X.env) (fun v s₁=>wpAny (model X.prog X.w) X.A (eval b X.env) (fun u s₂=>wpAny (model X.prog X.w) X.A (f v u) Q X.xe s₂) X.xe s₁) X.xe s:=by
 refine thn (ha pins s σ H _ I h) fun v s1 ⟨x,H1,I1,r1,q1⟩=>?_
 refine thn (hb pins s1 σ H1 _ I1 q1) fun u s2 ⟨y,H2,I2,r2,q2⟩=>?_
 exact hf v u s2 x y H2 I2 r1 r2 q2
theorem aum{op:Operator}{r:R2}(ho:OpR X (binaryOp op) r)(ha:PE X a ta)(hb:PE X b tb):PE X (.BinOp a op b pos) (tOp r ta tb):=by
 intro pins s σ H Q I h
 exact wpAny_BinOp (aqe ha hb I h fun v u s2 x y H2 I2 rx ry q=>ho pins s2 σ H2 x y v u Q I2 rx ry q)
theorem aqT{op:UnaryOp}{r:V→Hp→VK→Prop}(ho:UnR X (unaryOp op) r)(ha:PE X a ta):PE X (.UnaryOp op a pos) (tUn r ta):=by
 intro pins s σ H Q I h
 exact UnaryOp_ (thn (ha pins s σ H _ I h) fun v s1 ⟨x,H1,I1,r1,q1⟩=>ho pins s1 σ H1 x v Q I1 r1 q1)
theorem opI{f:Value→Value→Sem Value}{C:Int→Int→Prop}{g:Int→Int→Int}
  (rule:∀(i j:Int) (t u:Tok) (s:Shared) (Q:Value→Shared→Prop) (E:Value→Shared→Prop),C i j→Q (.int (g i j) s.toks) { s with toks:=s.toks+1 }→wpAny (model X.prog X.w) X.A (f (.int i t) (.int j u)) Q E s):
  OpR X f (rI C fun i j=>.int (g i j)):=by
 intro pins s σ H x y v u Q I rx ry h
 obtain⟨i,j,rfl,rfl,hc,q⟩:=h
 obtain⟨t,rfl⟩:=rx
 obtain⟨t',rfl⟩:=ry
 exact rule i j t t' s _ _ hc ⟨.int (g i j),H,I.tok _,⟨_,rfl⟩,q⟩
theorem av9{f:Value→Value→Sem Value}{g:Int→Int→Int}
  (rule:∀(i j:Int) (t u:Tok) (s:Shared) (Q:Value→Shared→Prop) (E:Value→Shared→Prop),Q (.int (g i j) s.toks) { s with toks:=s.toks+1 }→wpAny (model X.prog X.w) X.A (f (.int i t) (.int j u)) Q E s):
  OpR X f (rI0 fun i j=>.int (g i j)):=by
 intro pins s σ H x y v u Q I rx ry h
 obtain⟨i,j,rfl,rfl,q⟩:=h
 obtain⟨t,rfl⟩:=rx
 obtain⟨t',rfl⟩:=ry
 exact rule i j t t' s _ _ ⟨.int (g i j),H,I.tok _,⟨_,rfl⟩,q⟩
theorem apz{f:Value→Value→Sem Value}{g:Int→Int→Bool}
  (rule:∀(i j:Int) (t u:Tok) (s:Shared) (Q:Value→Shared→Prop) (E:Value→Shared→Prop),Q (.bool (g i j)) s→wpAny (model X.prog X.w) X.A (f (.int i t) (.int j u)) Q E s):
  OpR X f (rI0 fun i j=>.bl (g i j)):=by
 intro pins s σ H x y v u Q I rx ry h
 obtain⟨i,j,rfl,rfl,q⟩:=h
 obtain⟨t,rfl⟩:=rx
 obtain⟨t',rfl⟩:=ry
 exact rule i j t t' s _ _ ⟨.bl (g i j),H,I,rfl,q⟩
noncomputable def axi(i j:Int):Prop:=0<j∧j<1073741824
noncomputable def arJ(i j:Int):Prop:=(-(2^64)<i∧i<2^64)∨(-(2^64)<j∧j<2^64)
theorem arJ.ok{i j:Int}(h:arJ i j):IntMulOk i j:=by
 rcases h with⟨h1,h2⟩|⟨h1,h2⟩
 ·exact .of_left (intBits_le_64 h1 h2)
 ·exact .of_right (intBits_le_64 h1 h2)
theorem anK:OpR X (binaryOp .Add) (rI0 fun i j=>.int (i+j)):=av9 fun _ _ _ _ _ _ _ q=>add_int q
theorem aoc:OpR X (binaryOp .Sub) (rI0 fun i j=>.int (i-j)):=av9 fun _ _ _ _ _ _ _ q=>sub_int q
theorem aaT:OpR X (binaryOp .Mult) (rI arJ fun i j=>.int (i*j)):=opI fun _ _ _ _ _ _ _ hc q=>mul_int q hc.ok
theorem abD:OpR X (binaryOp .FloorDiv) (rI axi fun i j=>.int (i / j)):=opI fun i j _ _ _ _ _ hc q=>by
 have h1:(0:Int)<j:=hc.1
 have h2:j<1073741824:=hc.2
 exact floordiv_int (by omega) (by rw[Int.fdiv_eq_ediv_of_nonneg i (by omega)];exact q) (.inl (PyProof.noPylong_small (by omega)))
theorem aaG:OpR X (binaryOp .Mod) (rI (fun _ j=>0<j) fun i j=>.int (i % j)):=opI fun i j _ _ _ _ _ hc q=>by
 have h1:(0:Int)<j:=hc
 exact mod_int' (by omega) (by rw[Int.fmod_eq_emod_of_nonneg i (by omega)];exact q)
theorem unI{f:Value→Sem Value}{g:Int→Int}
  (rule:∀(i:Int) (t:Tok) (s:Shared) (Q:Value→Shared→Prop) (E:Value→Shared→Prop),Q (.int (g i) s.toks) { s with toks:=s.toks+1 }→wpAny (model X.prog X.w) X.A (f (.int i t)) Q E s):
  UnR X f (rU fun i=>.int (g i)):=by
 intro pins s σ H x v Q I rx h
 obtain⟨i,rfl,q⟩:=h
 obtain⟨t,rfl⟩:=rx
 exact rule i t s _ _ ⟨.int (g i),H,I.tok _,⟨_,rfl⟩,q⟩
theorem aoZ:UnR X (unaryOp .USub) (rU fun i=>.int (-i)):=unI fun _ _ _ _ _ q=>neg_int q
end
section
variable{X:Cx}{a b c:Expr}{ta tb tc:TE}{pos:Pos}
theorem ak7{pins:List (Addr×Obj)}{σ:St}{H:Hp}{s:Shared}{Q:VK}{k k':Bool}(I:Inv X pins σ H s)(q:Q (.bl k) H)(e:k=k'):EP X pins σ Q (.bool k') s:=by
 subst e
 exact⟨.bl k,H,I,rfl,q⟩
theorem aqx:OpR X (compareOp .Lt) (rI0 fun i j=>.bl (decide (i<j))):=apz fun _ _ _ _ _ _ _ q=>lt_int q
theorem atv:OpR X (compareOp .LtE) (rI0 fun i j=>.bl (decide (i≤j))):=apz fun _ _ _ _ _ _ _ q=>le_int q
theorem arL:OpR X (compareOp .Gt) (rI0 fun i j=>.bl (decide (j<i))):=apz fun _ _ _ _ _ _ _ q=>gt_int q
theorem arZ:OpR X (compareOp .GtE) (rI0 fun i j=>.bl (decide (j≤i))):=apz fun _ _ _ _ _ _ _ q=>ge_int q
theorem amQ:OpR X (compareOp .Is) (fun x y H Q=>y=.non∧Q (.bl (decide (x=.non))) H):=by
 intro pins s σ H x y v u Q I rx ry h
 obtain⟨rfl,q⟩:=h
 cases ry
 refine is_none_gen (ak7 I q ?_)
 cases x<;>first
  | (cases rx;rfl)
  | (obtain⟨t,rfl⟩:=rx;rfl)
theorem akF:OpR X (compareOp .IsNot) (fun x y H Q=>y=.non∧Q (.bl (!decide (x=.non))) H):=by
 intro pins s σ H x y v u Q I rx ry h
 obtain⟨rfl,q⟩:=h
 cases ry
 refine isnot_none_gen (ak7 I q ?_)
 cases x<;>first
  | (cases rx;rfl)
  | (obtain⟨t,rfl⟩:=rx;rfl)
noncomputable def atU:HO→Bool
 | .lst _=>true
 | .ins _ _ _=>true
 | _=>false
theorem aeN{pins:List (Addr×Obj)}{s:Shared}{σ:St}{H:Hp}{a:Addr}{o:HO}(I:Inv X pins σ H s)(h:H a=some o)(p:atU o=true):∃ob,s.heap.get? a=some ob∧ob.cls≠.type "tuple":=by
 cases o with
 | lst xs=>
  obtain⟨_,its,n,_,e⟩:xs.length≤sizeLine∧∃(its:List Value) (n:Nat),aa1 xs its∧s.heap.get? a=some { cls:=.type "list",data:=.seq its.toArray n }:=I.hok a _ h
  exact⟨_,e,(by show Value.type "list"≠.type "tuple";decide +kernel)⟩
 | ins C dx fs=>
  have x:=I.hok a _ h
  obtain⟨_,_,_,e,_⟩:=x
  exact⟨_,e,(by show Value.ref C≠.type "tuple";exact fun z=>by cases z)⟩
 | _=>exact absurd (show false=true from p) Bool.false_ne_true
theorem OpR.or{f:Value→Value→Sem Value}{r r':R2}(h:OpR X f r)(h':OpR X f r'):OpR X f (fun x y H Q=>r x y H Q∨r' x y H Q):=by
 intro pins s σ H x y v u Q I rx ry q
 rcases q with q|q
 ·exact h pins s σ H x y v u Q I rx ry q
 ·exact h' pins s σ H x y v u Q I rx ry q
theorem au7(b:Expr){op:CmpOp}(h:op≠.In:=by decide)(h2:op≠.NotIn:=by decide):behindInMarks op b=false:=by
 have e1:(op==CmpOp.In)=false:=by cases op<;>first|rfl|exact absurd rfl h
 have e2:(op==CmpOp.NotIn)=false:=by cases op<;>first|rfl|exact absurd rfl h2
 cases b<;>simp[behindInMarks,e1,e2]
theorem akZ{op:CmpOp}{r:R2}(ho:OpR X (compareOp op) r)(ha:PE X a ta)(hb:PE X b tb)(hm:behindInMarks op b=false):PE X (.Compare a [op] [b] pos) (tOp r ta tb):=by
 intro pins s σ H Q I h
 exact wpAny_Compare1 (aqe ha hb I h fun v u s2 x y H2 I2 rx ry q=>ho pins s2 σ H2 x y v u Q I2 rx ry q) hm
noncomputable def aqd(t:TE):TT:=fun σ H Q=>t σ H fun x H'=>∃k,x=.bl k∧Q k H'
theorem akU{op:CmpOp}{r:R2}(ho:OpR X (compareOp op) r)(ha:PE X a ta)(hb:PE X b tb)(hm:behindInMarks op b=false):PT X (.Compare a [op] [b] pos) (aqd (tOp r ta tb)):=by
 intro pins s σ H Q I h
 refine wpAny_isTrue_Compare1 (thn (ha pins s σ H _ I h) fun v s1 ⟨x,H1,I1,r1,q1⟩=>thn (hb pins s1 σ H1 _ I1 q1) fun u s2 ⟨y,H2,I2,r2,q2⟩=>
  thn (ho pins s2 σ H2 x y v u _ I2 r1 r2 q2) fun c s3 ⟨z,H3,I3,r3,k,e,q3⟩=>?_) hm
 subst e
 cases r3
 exact wpAny_truthy_bool ⟨H3,I3,q3⟩
noncomputable def auf(K:PySem.W.Frag)(x:V)(H:Hp)(k:Bool):Prop:=
 match x with
 | .non=>k=false
 | .bl b=>k=b
 | .int i=>k=(i != 0)
 | .str y=>y.length≤sizeLine∧k=((y.length:Int) != 0)
 | .byt y=>y.size≤sizeLine∧k=((y.size:Int) != 0)
 | .ref p=>(∃xs,SqL K H p xs∧k=!xs.isEmpty)∨(∃xs,SqT K H p xs∧k=!xs.isEmpty)∨∃kvs,H p=some (.dK kvs)∧k=!kvs.isEmpty
 | _=>False
theorem ag6{κ:Type}{kvs:List (κ×V)}{vs:List (κ×Value)}(r:KV kvs vs):(!vs.isEmpty)=!kvs.isEmpty:=by
 cases r<;>rfl
theorem ad3{xs:List V}{its:List Value}(r:aa1 xs its):(!its.toArray.isEmpty)=!xs.isEmpty:=by
 cases r<;>simp
theorem adG:(sizeLine:Nat)<2^63:=by rw[sizeLine_eq];decide
theorem akE:awl X (fun x H Q=>∃k,auf X.K x H k∧Q k H):=by
 intro pins s σ H x v Q I rx h
 obtain⟨k,e,q⟩:=h
 have hl:=adG
 have hs:sizeLine=16777216:=sizeLine_eq
 cases x with
 | non=>
  cases rx
  have e':k=false:=e
  subst e'
  exact truthy_none ⟨H,I,q⟩
 | bl b=>
  cases rx
  have e':k=b:=e
  subst e'
  exact wpAny_truthy_bool ⟨H,I,q⟩
 | int i=>
  obtain⟨t,rfl⟩:=rx
  have e':k=(i != 0):=e
  subst e'
  exact PySem.P.truthy_int ⟨H,I,q⟩
 | str y=>
  obtain⟨t,rfl⟩:=rx
  obtain⟨hy,e'⟩:y.length≤sizeLine∧k=((y.length:Int) != 0):=e
  subst e'
  exact PySem.P.truthy_str (by omega) ⟨H,I.tok _,q⟩
 | byt y=>
  obtain⟨t,rfl⟩:=rx
  obtain⟨hy,e'⟩:y.size≤sizeLine∧k=((y.size:Int) != 0):=e
  subst e'
  exact PySem.W.truthy_bytes (by omega) ⟨H,I.tok _,q⟩
 | ref p=>
  cases rx
  have e':(∃xs,SqL X.K H p xs∧k=!xs.isEmpty)∨(∃xs,SqT X.K H p xs∧k=!xs.isEmpty)∨∃kvs,H p=some (.dK kvs)∧k=!kvs.isEmpty:=e
  rcases e' with⟨xs,hx,e'⟩|⟨xs,hx,e'⟩|⟨kvs,hx,e'⟩
  ·subst e'
   obtain⟨its,r,pl,hz⟩:=I.list hx
   have hlen:=r.length
   exact wpAny_truthy_list pl.isList (by simp only[List.size_toArray];omega) ⟨H,I.tok _,by rw[ad3 r];exact q⟩
  ·subst e'
   obtain⟨its,r,pl,hz⟩:=I.tuple hx
   have hlen:=r.length
   exact truthy_tuple pl (by simp only[List.size_toArray];omega) ⟨H,I.tok _,by rw[ad3 r];exact q⟩
  ·subst e'
   obtain⟨hz,hS,vs,r,m⟩:kvs.length≤sizeLine∧(p==sysModules)=false∧∃vs,KV kvs vs∧s.heap.DictOf (afs X.prog X.w) p vs:=I.hok p _ hx
   have hlen:kvs.length=vs.length:=Paired.length r
   exact wpAny_truthy_dict hS m (by omega) ⟨H,I.tok _,by rw[ag6 r];exact q⟩
 | _=>exact(show False from e).elim
theorem ajM(ha:PE X a ta)(he:∀whole,isTrue a X.env whole=(do let v ←whole;standAt a.pos;holding [v] (truthy v))):
  PT X a (fun σ H Q=>ta σ H fun x H'=>∃k,auf X.K x H' k∧Q k H'):=by
 intro pins s σ H Q I h
 exact isTrue_plain (thn (ha pins s σ H _ I h) fun v s1 ⟨x,H1,I1,r1,q1⟩=>akE pins s1 σ H1 x v Q I1 r1 q1) (he _)
theorem aiD{x:V}{us:List Value}(r:aa1 [x] us):∃u,us=[u]∧aaL x u:=by
 cases r with
 | cons r1 r2=>cases r2;exact⟨_,rfl,r1⟩
theorem ajU:aaK X (.builtin "abs") (fun xs H Q=>∃i,xs=[.int i]∧Q (.int (if i<0 then -i else i)) H):=by
 intro pins s σ H xs us Q I r h
 obtain⟨i,rfl,q⟩:=h
 obtain⟨u,rfl,t,rfl⟩:=aiD r
 exact call_abs_int fun u tk=>⟨.int (if i<0 then -i else i),H,I.tok _,⟨_,rfl⟩,q⟩
theorem aic:aaK X (.type "int") (fun xs H Q=>(∃i,xs=[.int i]∧Q (.int i) H)∨∃k,xs=[.bl k]∧Q (.int (if k then 1 else 0)) H):=by
 intro pins s σ H xs us Q I r h
 rcases h with⟨i,rfl,q⟩|⟨k,rfl,q⟩
 ·obtain⟨u,rfl,t,rfl⟩:=aiD r
  exact call_int_int ⟨.int i,H,I,⟨_,rfl⟩,q⟩
 ·obtain⟨u,rfl,r1⟩:=aiD r
  cases r1
  exact call_int_bool ⟨.int (if k then 1 else 0),H,I.tok _,⟨_,rfl⟩,q⟩
end
end L2
namespace L2
open PySem PySem.Spec PyProof.Rows
structure ObjM(h:Heap)(x dx C:Addr)(mA:Str→Option Value):Prop where
 obj:h.get? x=some (PySem.W.instObj C dx)
 ns:h.Ns1 dx mA
 ne:dx≠x
theorem ahD{h:Heap}{dx:Addr}{mA:Str→Option Value}(n:h.Ns1 dx mA):∃od,h.get? dx=some od∧∀name,PySem.W.lookIn name od=some (mA name):=by
 obtain⟨o,es,ep,ho,hd,hk,_,hm⟩:=n
 refine⟨o,ho,fun name=>?_⟩
 have e:=hm name
 unfold nsFind findBy at e
 rw[←Array.find?_toList]at e
 unfold PySem.W.lookIn
 rw[hd]
 dsimp only
 split
 ·rename_i y q
  rw[q]at e
  exact congrArg some e
 ·rename_i q
  rw[q]at e
  have a:es.toList.any (·.refKey)=false:=by
   rw[List.any_eq_false]
   intro y hy
   obtain⟨z,t,hkey⟩:=hk y (Array.mem_toList_iff.mp hy)
   simp[DictEntry.refKey,hkey]
  have a':¬es.toList.any (·.refKey)=true:=by rw[a];exact Bool.false_ne_true
  rw[if_neg a']
  exact congrArg some e
theorem ObjM.look{h:Heap}{x dx C:Addr}{mA:Str→Option Value}(I:ObjM h x dx C mA):∃od,PySem.W.InstAt h x (PySem.W.instObj C dx) C (some od)∧∀name,PySem.W.lookIn name od=some (mA name):=
 let ⟨od,ho,hl⟩:=ahD I.ns
 ⟨od,⟨I.obj,rfl,rfl,ho⟩,hl⟩
section
variable{prog:Program}{w:World}{A:Around}{E:Value→Shared→Prop}{s:Shared}{K:PySem.W.Frag}{x dx C f:Addr}{mA:Str→Option Value}{name:Str}{v:Value}
theorem ama{expr:Bool}{Q:Value→Shared→Prop}(X:K.In s.heap)(I:ObjM s.heap x dx C mA)(hg:PySem.W.plainGet K C name=true)(hh:PySem.W.hasDictIn K C=true)
  (ha:PySem.W.findIn K (.ref C) name=some none) (hv:mA name=some v) (hv':PySem.W.handedIn v=true) (h:Q v { s with toks:=s.toks+1 }):
  wpAny (model prog w) A (getAttr (.ref x) name expr) Q E s:=by
 obtain⟨od,J,hl⟩:=I.look
 exact PySem.W.get_value X J (PySem.W.plainGet_of hg).1 (PySem.W.findObj_own hh ha rfl (by rw[hl,hv])) hv' h
theorem ajy{pl:Sem Bool}{Q:Value×List Value→Shared→Prop}(X:K.In s.heap)(I:ObjM s.heap x dx C mA)(hg:PySem.W.plainGet K C name=true)
  (hf:PySem.W.findIn K (.ref C) name=some (some (.ref f))) (ht:PySem.W.isFn K (.ref f)=true) (hv:mA name=none) (h:Q (.ref f,[.ref x]) s):
  wpAny (model prog w) A (getMethod (.ref x) name pl) Q E s:=by
 obtain⟨od,J,hl⟩:=I.look
 exact PySem.W.method_fn X J (PySem.W.plainGet_of hg).1 (PySem.W.plainGet_of hg).2 hf (beq_iff_eq.mp ht) (by show(PySem.W.lookIn name od).map (·.isSome)=some false;rw[hl,hv];rfl) h
theorem akH{ns:List Str}{Q:Unit→Shared→Prop}(X:K.In s.heap)(I:ObjM s.heap x dx C mA)
  (hs:PySem.W.findIn K (.ref C) "__setattr__"=some (some (.builtin "object.__setattr__"))) (hp:PySem.W.plainOver K C=true) (ht:PySem.W.takerIn K C name=some none) (hh:PySem.W.hasDictIn K C=true)
  (hw:PySem.Within mA ns) (hsz:ns.length≤sizeLine)
  (h:∀h',ObjM h' x dx C (fun y=>if y=name then some v else mA y)→Heap.SameBut dx s.heap h'→Q () { s with heap:=h',toks:=s.toks+2 }):
  wpAny (model prog w) A (setAttr (.ref x) name v) Q E s:=by
 obtain⟨od,J,hl⟩:=I.look
 refine PySem.W.set_plain X J hs (PySem.W.osa_open (s:={ s with toks:=s.toks+1 }) (r:=none) X J hp ht fun b=>?_)
 obtain⟨cd,hc,hd'⟩:=PySem.W.any_some hh
 have hx:s.heap.get? x=some ⟨.ref C,some dx,.plain,#[]⟩:=I.obj
 refine wpAny_bind (wpAny_pure (wpAny_bind (wpAny_bind (wpAny_loadPart hx (wpAny_bind (PySem.W.Looks.here (s:={ s with toks:=s.toks+1 }) (PySem.W.looks_clsIn X hc) ?_))))))
 rw[hd']
 refine wpAny_pure (a:=some dx) (wpAny_bind (wpAny_pure (wpAny_bind ?_)))
 refine wpAny_nsSet1 (s:={ s with toks:=s.toks+1 }) I.ns fun h' hn2 hs2=>?_
 obtain⟨oD,esD,epD,hoD,hdD,hcD⟩:=hn2.count (PySem.Within.cons name v hw)
 refine wpAny_bind (wpAny_lookBehind hoD (by rw[hdD];exact pastItsLine_dict (Nat.le_trans hcD (by rw[List.length_cons];omega))) ?_)
 exact wpAny_pure (h _ ⟨(hs2.2 _ (Ne.symm I.ne)).trans I.obj,hn2,I.ne⟩ hs2)
theorem ajj{R:Result→Shared→Prop}{vs:List Value}{kw:List (Str×Value)}(X:K.In s.heap)(hm:PySem.W.makesIn K C=true)
  (hi:PySem.W.findIn K (.ref C) "__init__"=some (some (.ref f))) (hf:PySem.W.typeIn K (.ref f)=some (.type "function"))
  (h:codeAny (model prog w) (A.under (.builtin "type.__call__" ⟨.ref C::vs,kw⟩)) (.call (.ref f) ⟨.ref (s.heap.objs.size+1)::vs,kw⟩) (PySem.W.InitBack (s.heap.objs.size+1) R)
   { s with heap:=(s.heap.push PySem.W.emptyDict).push (PySem.W.instObj C s.heap.objs.size) }):
  codeAny (model prog w) A (.call (.ref C) ⟨vs,kw⟩) R s:=by
 obtain⟨hh,g,d,t,os⟩:=s
 exact PySem.W.make_core (PySem.W.makes_of X hm) (PySem.W.looks_findIn X hi) (fun self=>PySem.W.bind_fn X self hf) (.inl rfl) h
end
noncomputable def acu(f:Str)(v:V):List (Str×V)→List (Str×V)
 | []=>[(f,v)]
 | (g,x)::r=>if g=f then(g,v)::r else(g,x)::acu f v r
theorem abV(f g:Str)(v:V):∀fs:List (Str×V),(acu f v fs).lookup g=if g=f then some v else fs.lookup g
 | []=>by
  show List.lookup g [(f,v)]=_
  by_cases h:g=f
  ·have hb:(g==f)=true:=beq_iff_eq.mpr h
   simp only[List.lookup,hb,if_pos h]
  ·have hb:(g==f)=false:=beq_eq_false_iff_ne.mpr h
   simp only[List.lookup,hb,if_neg h]
 | (k,x)::r=>by
  have ih:=abV f g v r
  rw[show acu f v ((k,x)::r)=(if k=f then(k,v)::r else(k,x)::acu f v r)from rfl]
  by_cases hk:k=f
  ·rw[if_pos hk]
   by_cases h:g=k
   ·have hb:(g==k)=true:=beq_iff_eq.mpr h
    simp only[List.lookup,hb,if_pos (h.trans hk)]
   ·have hb:(g==k)=false:=beq_eq_false_iff_ne.mpr h
    simp only[List.lookup,hb,if_neg (fun e:g=f=>h (e.trans hk.symm))]
  ·rw[if_neg hk]
   by_cases h:g=k
   ·have hb:(g==k)=true:=beq_iff_eq.mpr h
    simp only[List.lookup,hb,if_neg (fun e:g=f=>hk (h.symm.trans e))]
   ·have hb:(g==k)=false:=beq_eq_false_iff_ne.mpr h
    simp only[List.lookup,hb]
    exact ih
theorem adm(f:Str)(v:V):∀fs:List (Str×V),f∈(acu f v fs).map (·.1)∧∀g,g∈fs.map (·.1)→g∈(acu f v fs).map (·.1)
 | []=>⟨by simp[acu],fun g h=>by simp at h⟩
 | (k,x)::r=>by
  obtain⟨i1,i2⟩:=adm f v r
  rw[show acu f v ((k,x)::r)=(if k=f then(k,v)::r else(k,x)::acu f v r)from rfl]
  by_cases hk:k=f
  ·rw[if_pos hk]
   subst hk
   exact⟨by simp,fun g h=>by simpa using h⟩
  ·rw[if_neg hk]
   refine⟨?_,fun g h=>?_⟩
   ·rw[List.map_cons]
    exact List.mem_cons_of_mem _ i1
   ·rw[List.map_cons]at h ⊢
    rcases List.mem_cons.mp h with e|e
    ·exact List.mem_cons.mpr (.inl e)
    ·exact List.mem_cons_of_mem _ (i2 g e)
theorem adh(f:Str)(v:V):∀fs:List (Str×V),(acu f v fs).length≤fs.length+1
 | []=>by simp[acu]
 | (k,x)::r=>by
  have ih:=adh f v r
  rw[show acu f v ((k,x)::r)=(if k=f then(k,v)::r else(k,x)::acu f v r)from rfl]
  by_cases hk:k=f
  ·rw[if_pos hk,List.length_cons,List.length_cons];omega
  ·rw[if_neg hk,List.length_cons,List.length_cons];omega
theorem aiN.some_of{v:V}{o:Option Value}(r:aiN (some v) o):∃u,o=some u∧aaL v u:=by
 cases o with
 | none=>exact(show False from r).elim
 | some u=>exact⟨u,rfl,r⟩
theorem aiN.none_of{o:Option Value}(r:aiN none o):o=none:=by
 cases o with
 | none=>rfl
 | some u=>exact(show False from r).elim
theorem aiq{v:V}{u:Value}(r:aaL v u):PySem.W.handedIn u=true:=by
 cases v with
 | non=>cases(show u=Value.none from r);rfl
 | bl b=>cases(show u=Value.bool b from r);rfl
 | int i=>obtain⟨t,e⟩:=(show ∃t,u=Value.int i t from r);cases e;rfl
 | str x=>obtain⟨t,e⟩:=(show ∃t,u=Value.str x t from r);cases e;rfl
 | byt b=>obtain⟨t,e⟩:=(show ∃t,u=Value.bytes b t from r);cases e;rfl
 | flt b=>obtain⟨t,e⟩:=(show ∃t,u=Value.float b t from r);cases e;rfl
 | ref a=>cases(show u=Value.ref a from r);rfl
 | ty n=>cases(show u=Value.type n from r);rfl
section
variable{P:Program}{w:World}{H H':Hp}{h h':Heap}{a C dx:Addr}{fs fs':List (Str×V)}
theorem adV(hok:HOk P w H h)(e:H a=some (.ins C dx fs)):∃mA,ObjM h a dx C mA∧(∀f,aiN (fs.lookup f) (mA f))∧PySem.Within mA (fs.map (·.1))∧fs.length≤1000∧H dx=some (.own a):=by
 obtain⟨d,z,ne,ob,mA,n,r,q⟩:=(show abc P w H h a (.ins C dx fs)from hok a _ e)
 exact⟨mA,⟨ob,n,ne⟩,r,q,z,d⟩
end
structure Cls(K:PySem.W.Frag)(C:Addr):Prop where
 pg:PySem.W.plainGet K C Str.empty=true
 hd:PySem.W.hasDictIn K C=true
 po:PySem.W.plainOver K C=true
 sa:PySem.W.findIn K (.ref C) "__setattr__"=some (some (.builtin "object.__setattr__"))
theorem Cls.get{K:PySem.W.Frag}{C:Addr}(c:Cls K C)(f:Str):PySem.W.plainGet K C f=true:=c.pg
noncomputable def aaQ(K:PySem.W.Frag)(C:Addr)(f:Str):Prop:=PySem.W.findIn K (.ref C) f=some none
theorem aaQ.taker{K:PySem.W.Frag}{C:Addr}{f:Str}(n:aaQ K C f):PySem.W.takerIn K C f=some none:=by
 unfold PySem.W.takerIn
 rw[show PySem.W.findIn K (.ref C) f=some none from n]
 rfl
structure Con(K:PySem.W.Frag)(C:Addr)(f:Str)(v:V)(u:Value):Prop where
 at_:PySem.W.findIn K (.ref C) f=some (some u)
 rel:aaL v u
 get:PySem.W.specialIn K u "__get__"=some none
 cp:PySem.W.copiedNames.contains f=false
structure Meth(K:PySem.W.Frag)(C:Addr)(m:Str)(f:Addr):Prop where
 at_:PySem.W.findIn K (.ref C) m=some (some (.ref f))
 fn:PySem.W.isFn K (.ref f)=true
 kp:PySem.W.keepIn K (.ref f)=true
section
variable{X:Cx}{pins:List (Addr×Obj)}{σ:St}{H:Hp}{s:Shared}{a C dx:Addr}{fs:List (Str×V)}{f:Str}{v:V}{A:Around}{E:Value→Shared→Prop}
theorem ag8{b:Bool}{Q:Value→Shared→Prop}(I:Inv X pins σ H s)(e:H a=some (.ins C dx fs))(c:Cls X.K C)(n:aaQ X.K C f)(l:fs.lookup f=some v)
  (h:∀u s',Inv X pins σ H s'→aaL v u→Q u s'):wpAny (model X.prog X.w) A (getAttr (.ref a) f b) Q E s:=by
 obtain⟨mA,O,r,_,_,_⟩:=adV I.hok e
 obtain⟨u,hu,ru⟩:=aiN.some_of (v:=v) (o:=mA f) (by rw[←l];exact r f)
 exact ama I.kIn O (c.get f) c.hd n hu (aiq ru) (h u _ (I.tok _) ru)
theorem agV{m:Str}{g:Addr}{pl:Sem Bool}{Q:Value×List Value→Shared→Prop}(I:Inv X pins σ H s)(e:H a=some (.ins C dx fs))(c:Cls X.K C)(k:Meth X.K C m g)(l:fs.lookup m=none)
  (h:Q (.ref g,[.ref a]) s):wpAny (model X.prog X.w) A (getMethod (.ref a) m pl) Q E s:=by
 obtain⟨mA,O,r,_,_,_⟩:=adV I.hok e
 have hn:mA m=none:=aiN.none_of (by rw[←l];exact r m)
 exact ajy I.kIn O (c.get m) k.at_ k.fn hn h
theorem agA{y:V}{u:Value}{Q:Unit→Shared→Prop}(I:Inv X pins σ H s)(e:H a=some (.ins C dx fs))(c:Cls X.K C)(n:aaQ X.K C f)(hl:fs.length<1000)(ry:aaL y u)
  (h:∀s',Inv X pins σ (upd H a (.ins C dx (acu f y fs))) s'→Q () s'):wpAny (model X.prog X.w) A (setAttr (.ref a) f u) Q E s:=by
 obtain⟨mA,O,r,wi,_,ho⟩:=adV I.hok e
 have hz:(fs.map (·.1)).length≤sizeLine:=by rw[List.length_map,sizeLine_eq];omega
 refine akH I.kIn O c.sa c.po n.taker c.hd wi hz fun h' O' sb=>h _ ?_
 have hd:∃o,h'.get? dx=some o:=let ⟨o,_,_,e',_⟩:=O'.ns;⟨o,e'⟩
 refine I.write (x:=a) (e:=dx) (by rw[e];exact True.intro) (.inr ho) (fun b q hb z=>(sb.2 b hb).trans z) hd ?_
 refine⟨by rw[aag O.ne];exact ho,?_,O.ne,O'.obj,_,O'.ns,fun g=>?_,fun g hg=>?_⟩
 ·have:=adh f y fs;omega
 ·show aiN ((acu f y fs).lookup g) (if g=f then some u else mA g)
  rw[abV]
  by_cases q:g=f
  ·rw[if_pos q,if_pos q];exact ry
  ·rw[if_neg q,if_neg q];exact r g
 ·by_cases q:g=f
  ·rw[q];exact(adm f y fs).1
  ·refine(adm f y fs).2 g (wi g fun z=>hg ?_)
   show(if g=f then some u else mA g)=none
   rw[if_neg q];exact z
theorem Inv.made(I:Inv X pins σ H s):Inv X pins σ (upd (upd H s.heap.objs.size (.own (s.heap.objs.size+1))) (s.heap.objs.size+1) (.ins C s.heap.objs.size []))
  { s with heap:=(s.heap.push PySem.W.emptyDict).push (PySem.W.instObj C s.heap.objs.size) }:=by
 have e1:(s.heap.push PySem.W.emptyDict).get? s.heap.objs.size=some PySem.W.emptyDict:=Heap.get?_push_size s.heap rfl
 have e2:((s.heap.push PySem.W.emptyDict).push (PySem.W.instObj C s.heap.objs.size)).get? (s.heap.objs.size+1)=some (PySem.W.instObj C s.heap.objs.size):=by
  have:=Heap.get?_push_size (s.heap.push PySem.W.emptyDict) (o:=PySem.W.instObj C s.heap.objs.size) rfl
  rwa [Heap.size_push]at this
 have e3:(s.heap.push PySem.W.emptyDict).Ns s.heap.objs.size (fun _=>none):=⟨PySem.W.emptyDict,#[],_,e1,rfl,(fun e he=>absurd he (by simp)),fun _=>rfl⟩
 have I1:=I.laid (a:=s.heap.objs.size) (o:=.own (s.heap.objs.size+1)) (h':=s.heap.push PySem.W.emptyDict) (t':=s.toks) (fun b u q=>Heap.get?_push_of_some _ q) (Nat.le_refl _) ⟨_,e1⟩
 refine I1.laid (a:=s.heap.objs.size+1) (o:=.ins C s.heap.objs.size []) (t':=s.toks) (fun b u q=>Heap.get?_push_of_some _ q) (Nat.le_of_eq (Heap.size_push _ _)) ?_
 have ne:s.heap.objs.size≠s.heap.objs.size+1:=Nat.ne_of_lt (Nat.lt_succ_self _)
 refine⟨by rw[aag ne,aaq],Nat.zero_le _,ne,e2,fun _=>none,(Heap.Ns1.of_empty e3).at fun o q=>Heap.get?_push_of_some _ q,fun _=>True.intro,fun y hy=>absurd rfl hy⟩
theorem aly{prog:Program}{w:World}{env:Env}{e:Expr}{f:Str}{pos:Pos}{s:Shared}{Q:Value→Shared→Prop}(hb:attributeBase e f env (eval e env)=eval e env)
  (h:wpAny (model prog w) A (eval e env) (fun o s₁=>wpAny (model prog w) A (getAttr o f true) Q E s₁) E s):wpAny (model prog w) A (eval (.Attribute e f pos) env) Q E s:=
 Attribute_any_ h (by rw[arm_eval_Attribute,hb])
end
noncomputable def aw0(K:PySem.W.Frag)(ta:TE)(f:Str):TE:=fun σ H Q=>ta σ H fun x H1=>∃a C dx fs v,x=.ref a∧H1 a=some (.ins C dx fs)∧Cls K C∧aaQ K C f∧fs.lookup f=some v∧Q v H1
noncomputable def awK(K:PySem.W.Frag)(ta tv:TE)(f:Str):TS:=fun D σ H=>tv σ H fun y H1=>ta σ H1 fun x H2=>∃a C dx fs,x=.ref a∧H2 a=some (.ins C dx fs)∧Cls K C∧aaQ K C f∧fs.length<1000∧
 D.nx σ (upd H2 a (.ins C dx (acu f y fs)))
section
variable{X:Cx}{o e value:Expr}{f:Str}{pos pos' tpos:Pos}{ta tv:TE}
theorem anm(he:PE X e ta)(hb:attributeBase e f X.env (eval e X.env)=eval e X.env):PE X (.Attribute e f pos) (aw0 X.K ta f):=by
 intro pins s σ H Q I h
 refine aly hb (thn (he pins s σ H _ I h) fun u s1 ⟨x,H1,I1,rx,a,C,dx,fs,v,ex,ea,c,n,l,q⟩=>?_)
 subst ex
 obtain rfl:u=Value.ref a:=rx
 exact ag8 I1 ea c n l fun u' s2 I2 ru=>⟨v,H1,I2,ru,q⟩
theorem amD(ha:PE X o ta)(hv:PE X value tv)(hs:swapsWith value (some (.Attribute o f pos')) pos.line X.env=pure false):PS X (.Assign [.Attribute o f pos'] value pos) (awK X.K ta tv f):=by
 intro pins s σ H D I h
 refine plainObj_wpAny_Assign_Attribute (thn (hv pins s σ H _ I h) fun u s1 ⟨y,H1,I1,ry,q⟩=>thn (ha pins s1 σ H1 _ I1 q) fun ov s2 ⟨x,H2,I2,rx,a,C,dx,fs,ex,ea,c,n,l,q2⟩=>?_) hs
 subst ex
 obtain rfl:ov=Value.ref a:=rx
 exact agA I2 ea c n l ry fun s3 I3=>⟨σ,_,I3,q2⟩
end
section
variable{X:Cx}{pins:List (Addr×Obj)}{σ:St}{H:Hp}{s:Shared}{A:Around}{E:Value→Shared→Prop}{Q:Value→Shared→Prop}{c:Value}{b:Bool}
inductive TyOf(K:PySem.W.Frag)(H:Hp):V→Value→Prop where
 | non:TyOf K H .non (.type "NoneType")
 | bl (x:Bool):TyOf K H (.bl x) (.type "bool")
 | int (i:Int):TyOf K H (.int i) (.type "int")
 | str (x:Str):TyOf K H (.str x) (.type "str")
 | flt (x:UInt64):TyOf K H (.flt x) (.type "float")
 | lst {a:Addr}{xs:List V} (e:H a=some (.lst xs)):TyOf K H (.ref a) (.type "list")
 | frz {a:Addr}{o:Obj}{xs:List V} (e:H a=some (.frz o (.lst xs))):TyOf K H (.ref a) (.type "list")
 | tup {a:Addr}{xs:List V} (e:H a=some (.tup xs)):TyOf K H (.ref a) (.type "tuple")
 | dK {a:Addr}{kvs:List (Key×V)} (e:H a=some (.dK kvs)):TyOf K H (.ref a) (.type "dict")
 | dT {a:Addr}{kvs:List (List Key×V)} (e:H a=some (.dT kvs)):TyOf K H (.ref a) (.type "dict")
 | ins {a C dx:Addr}{fs:List (Str×V)} (e:H a=some (.ins C dx fs)) (cl:Cls K C) (ha:PySem.W.findIn K (.ref C) "__class__"=some (some (.builtin "object.__class__")))
   (hn:PySem.W.specialIn K (.builtin "object.__class__") "__get__"=some (some (.builtin "getset_descriptor.__get__"))) (htk:PySem.W.takesIn K (.builtin "object.__class__")=some true)
   (hm:PySem.W.mroIn K C (.type "object")=some true):TyOf K H (.ref a) (.ref C)
theorem aie{x:V}{u t:Value}(I:Inv X pins σ H s)(rx:aaL x u)(ty:TyOf X.K H x t)(e:PySem.W.kitOne X.K t c=some b)(h:∀tk,Q (.bool b) { s with toks:=tk }):
  wpAny (model X.prog X.w) A (call (.builtin "isinstance") [u,c]) Q E s:=by
 cases ty with
 | non=>cases(show u=Value.none from rx);exact PySem.W.kia_one PySem.W.kitx_none I.kIn True.intro e (fun z=>nomatch z) h
 | bl y=>cases(show u=Value.bool y from rx);exact PySem.W.kia_one PySem.W.kitx_bool I.kIn True.intro e (fun z=>nomatch z) h
 | int i=>obtain⟨t,q⟩:=(show ∃t,u=Value.int i t from rx);cases q;exact PySem.W.kia_one PySem.W.kitx_int I.kIn True.intro e (fun z=>nomatch z) h
 | str y=>obtain⟨t,q⟩:=(show ∃t,u=Value.str y t from rx);cases q;exact PySem.W.kia_one PySem.W.kitx_str I.kIn True.intro e (fun z=>nomatch z) h
 | flt y=>obtain⟨t,q⟩:=(show ∃t,u=Value.float y t from rx);cases q;exact PySem.W.kia_one PySem.W.kitx_float I.kIn True.intro e (fun z=>nomatch z) h
 | @lst a xs ea=>
  cases(show u=Value.ref a from rx)
  obtain⟨_,_,n,_,h1⟩:=(show abc X.prog X.w H s.heap a (.lst xs)from I.hok a _ ea)
  exact PySem.W.kia_one PySem.W.kitx_list I.kIn ⟨_,h1,rfl⟩ e (fun z=>nomatch z) h
 | @frz a ob xs ea=>
  cases(show u=Value.ref a from rx)
  obtain⟨_,_,_,n,_,h1⟩:=(show abc X.prog X.w H s.heap a (.frz ob (.lst xs))from I.hok a _ ea)
  exact PySem.W.kia_one PySem.W.kitx_list I.kIn ⟨_,h1,rfl⟩ e (fun z=>nomatch z) h
 | @tup a xs ea=>
  cases(show u=Value.ref a from rx)
  obtain⟨_,_,_,p⟩:=(show abc X.prog X.w H s.heap a (.tup xs)from I.hok a _ ea)
  obtain⟨o,h1,h2,_⟩:=p
  exact PySem.W.kia_one PySem.W.kitx_tuple I.kIn ⟨o,h1,h2⟩ e (fun z=>nomatch z) h
 | @dK a kvs ea=>
  cases(show u=Value.ref a from rx)
  obtain⟨_,_,vs,_,p⟩:=(show abc X.prog X.w H s.heap a (.dK kvs)from I.hok a _ ea)
  obtain⟨o,es,ep,h1,h2,_⟩:=p
  exact PySem.W.kia_one PySem.W.kitx_dict I.kIn ⟨o,h1,h2.1⟩ e (fun z=>nomatch z) h
 | @dT a kvs ea=>
  cases(show u=Value.ref a from rx)
  obtain⟨_,_,xs,_,o,es,ep,h1,h2,_⟩:=(show abc X.prog X.w H s.heap a (.dT kvs)from I.hok a _ ea)
  exact PySem.W.kia_one PySem.W.kitx_dict I.kIn ⟨o,h1,h2.1⟩ e (fun z=>nomatch z) h
 | @ins a C dx fs ea cl ha hn htk hm=>
  cases(show u=Value.ref a from rx)
  obtain⟨mA,O,_⟩:=adV I.hok ea
  obtain⟨od,J,_⟩:=O.look
  exact PySem.W.kia_one (PySem.W.kitx_own (cl.get _) cl.hd ha hn htk hm) I.kIn J e (fun z=>nomatch z) h
end
end L2
namespace L2
open PySem PySem.Spec PyProof.Rows
structure Room(k:Nat)(A:Around):Prop where
 hd:A.handled=none
 dp:A.depth+3*k+5<recursionLimit
 un:A.units+16*k+200<cLine
theorem Room.mono{j k:Nat}{A:Around}(r:Room k A)(h:j≤k):Room j A:=⟨r.hd,by have:=r.dp;omega,by have:=r.un;omega⟩
theorem Room.deeper{k:Nat}{A:Around}(r:Room (k+1) A)(env:Env):Room k (A.deeper env):=
 ⟨r.hd,by have:=r.dp;show A.depth+1+3*k+5<_;omega,by have:=r.un;show A.units+3+16*k+200<_;omega⟩
theorem Room.in1{k:Nat}{A:Around}(r:Room (k+1) A):Room k A.in1:=
 ⟨r.hd,by have:=r.dp;show A.depth+3*k+5<_;omega,by have:=r.un;show A.units+1+16*k+200<_;omega⟩
theorem agQ{A:Around}{C:Addr}{us:List Value}{kw:List (Str×Value)}:(A.under (.builtin "type.__call__" ⟨.ref C::us,kw⟩)).depth=A.depth+1:=by
 first|rfl|simp[Around.under,Code.weight,Code.isCreation,Code.isGuard,Code.isCaller,Code.frames,Code.isFrame,guardIds]
theorem ag1{A:Around}{C:Addr}{us:List Value}{kw:List (Str×Value)}:(A.under (.builtin "type.__call__" ⟨.ref C::us,kw⟩)).units=A.units+1:=by
 first|rfl|simp[Around.under,Code.cUnits,Code.frames,Code.isFrame]
theorem Room.make{k:Nat}{A:Around}(r:Room (k+1) A)(C:Addr)(us:List Value)(kw:List (Str×Value)):Room k (A.under (.builtin "type.__call__" ⟨.ref C::us,kw⟩)):=
 ⟨r.hd,by have:=r.dp;rw[agQ];omega,by have:=r.un;rw[ag1];omega⟩
theorem Room.depth{k:Nat}{A:Around}(r:Room k A):A.depth<recursionLimit:=by have:=r.dp;omega
theorem Room.units{k:Nat}{A:Around}(r:Room k A):A.units+64<cLine:=by have:=r.un;omega
noncomputable def ank:TA:=fun _ H Q=>Q [] H
noncomputable def ahu(ta:TE)(tr:TA):TA:=fun σ H Q=>ta σ H fun x H1=>tr σ H1 fun xs H2=>Q (x::xs) H2
section
variable{X:Cx}{e:Expr}{es:List Expr}{te:TE}{t:TA}{pos:Pos}
theorem aaY:PA X [] ank:=fun _ _ _ _ H Q I h=>Calls.spliced_nil ⟨[],H,I,.nil,h⟩
theorem aa9(ha:PE X e te)(hr:PA X es t)(hs:starEach (e::es) X.env=(false,eval e X.env)::starEach es X.env:=by rfl):PA X (e::es) (ahu te t):=by
 intro pos pins s σ H Q I h
 rw[hs]
 show wpAny _ _ (spliced ((false,eval e X.env)::backTo pos (starEach es X.env))) _ _ s
 refine Calls.spliced_cons (thn (ha pins s σ H _ I h) fun u s1 ⟨x,H1,I1,r1,q1⟩=>?_)
 exact thn (hr pos pins s1 σ H1 _ I1 q1) fun us s2 ⟨xs,H2,I2,r2,q2⟩=>⟨x::xs,H2,I2,.cons r1 r2,q2⟩
noncomputable def avs(t:TA):TE:=fun σ H Q=>t σ H fun xs H1=>xs.length≤sizeLine∧∀p,H1 p=none→Q (.ref p) (upd H1 p (.tup xs))
noncomputable def axp(t:TA):TE:=fun σ H Q=>t σ H fun xs H1=>xs.length≤sizeLine∧∀p,H1 p=none→Q (.ref p) (upd H1 p (.lst xs))
theorem akD{x1}(h:PA X es t):PE X (.Tuple es x1 pos) (avs t):=by
 intro pins s σ H Q I hq
 refine wpAny_Tuple_spliced (thn (h pos pins s σ H _ I hq) fun us s1 ⟨xs,H1,I1,r,z,q⟩=>⟨by rw[←r.length];exact z,?_⟩)
 have hf:H1 s1.heap.objs.size=none:=I1.hok.fresh (Nat.le_refl _)
 refine⟨.ref s1.heap.objs.size,upd H1 s1.heap.objs.size (.tup xs),I1.laid (t':=s1.toks) (fun b u e=>Heap.get?_push_of_some _ e) (Nat.le_refl _) ?_,rfl,q _ hf⟩
 exact⟨z,us,r,⟨_,Heap.get?_push_size _ rfl,rfl,_,rfl⟩⟩
theorem akx(h:PA X es t):PE X (.List es pos) (axp t):=by
 intro pins s σ H Q I hq
 refine wpAny_List_spliced (thn (h pos pins s σ H _ I hq) fun us s1 ⟨xs,H1,I1,r,z,q⟩=>⟨by rw[←r.length];exact z,?_⟩)
 have hf:H1 s1.heap.objs.size=none:=I1.hok.fresh (Nat.le_refl _)
 refine⟨.ref s1.heap.objs.size,upd H1 s1.heap.objs.size (.lst xs),I1.laid (t':=s1.toks) (fun b u e=>Heap.get?_push_of_some _ e) (Nat.le_refl _) ?_,rfl,q _ hf⟩
 exact⟨z,us,0,r,Heap.get?_push_size _ rfl⟩
end
noncomputable abbrev Sp:=List V→Hp→VK→XK→Prop
noncomputable abbrev CXT:=List Env→Hp→Shared→XK→Value→Shared→Prop
structure Env0(P:Program)(w:World)(K:PySem.W.Frag)(mg:Str→Option Value)(base:Heap)(A:Around)(outer:List Env)(s:Shared)(H:Hp):Prop where
 frames:A.frames=some outer
 mod:Mod K mg base
 bs:∀b o,base.get? b=some o→s.heap.get? b=some o∧H b=none
 bsz:base.objs.size≤s.heap.objs.size
 funs:s.heap.FunFrames base outer
 frf:∀b∈frs outer,H b=none
 hok:HOk P w H s.heap
 bare:AllBare s.gens
noncomputable def CE(outer:List Env)(P:Program)(w:World)(H:Hp)(s:Shared)(Q:VK)(u:Value)(s':Shared):Prop:=
 ∃v H',s'.os=s.os∧AllBare s'.gens∧Un (frs outer) [] H H' s.heap s'.heap∧HOk P w H' s'.heap∧aaL v u∧Q v H'
noncomputable def CR(CX:CXT)(outer:List Env)(P:Program)(w:World)(H:Hp)(s:Shared)(Q:VK)(E:XK)(r:Result)(s':Shared):Prop:=
 match r with
 | .ok (.ret u)=>CE outer P w H s Q u s'
 | .ok _=>False
 | .error e=>CX outer H s E e s'
structure FnOk(P:Program)(w:World)(K:PySem.W.Frag)(mg:Str→Option Value)(base:Heap)(CX:CXT)(k:Nat)(f:Addr)(fd:FuncData)(ps:List Str)(sp:Sp):Prop where
 len:∀vs H Q E,sp vs H Q E→vs.length=ps.length
 run:∀(A:Around) (outer:List Env) (s:Shared) (H:Hp) (args:Args) (us:List Value) (vs:List V) (Q:VK) (E:XK),Room k A→Env0 P w K mg base A outer s H→BindsTo s fd args (ps.zip us)→aa1 vs us→sp vs H Q E→
  codeAny (model P w) A (.call (.ref f) args) (CR CX outer P w H s Q E) s
theorem FnOk.mono{P:Program}{w:World}{K:PySem.W.Frag}{mg:Str→Option Value}{base:Heap}{CX:CXT}{j k:Nat}{f:Addr}{fd:FuncData}{ps:List Str}{sp:Sp}(F:FnOk P w K mg base CX j f fd ps sp)(h:j≤k):
  FnOk P w K mg base CX k f fd ps sp:=⟨F.len,fun A outer s H args us vs Q E hr=>F.run A outer s H args us vs Q E (hr.mono h)⟩
theorem FnOk.imp{P:Program}{w:World}{K:PySem.W.Frag}{mg:Str→Option Value}{base:Heap}{CX:CXT}{k:Nat}{f:Addr}{fd:FuncData}{ps:List Str}{sp sp':Sp}(F:FnOk P w K mg base CX k f fd ps sp)
  (h:∀vs H Q E,sp' vs H Q E→sp vs H Q E):FnOk P w K mg base CX k f fd ps sp':=
 ⟨fun vs H Q E q=>F.len vs H Q E (h _ _ _ _ q),fun A outer s H args us vs Q E hr he hb hv hs=>F.run A outer s H args us vs Q E hr he hb hv (h _ _ _ _ hs)⟩
theorem Env0.make{P:Program}{w:World}{K:PySem.W.Frag}{mg:Str→Option Value}{base:Heap}{A:Around}{outer:List Env}{s:Shared}{H:Hp}(e:Env0 P w K mg base A outer s H)(C:Addr)(us:List Value)(kw:List (Str×Value)):
  Env0 P w K mg base (A.under (.builtin "type.__call__" ⟨.ref C::us,kw⟩)) outer s H:=⟨by first|exact e.frames|(simpa [Around.under,Code.envs,Code.isFrame,pushEnvs]using e.frames),e.mod,e.bs,e.bsz,e.funs,e.frf,e.hok,e.bare⟩
theorem Env0.in1{P:Program}{w:World}{K:PySem.W.Frag}{mg:Str→Option Value}{base:Heap}{A:Around}{outer:List Env}{s:Shared}{H:Hp}(e:Env0 P w K mg base A outer s H):
  Env0 P w K mg base A.in1 outer s H:=⟨e.frames,e.mod,e.bs,e.bsz,e.funs,e.frf,e.hok,e.bare⟩
section
variable{X:Cx}{pins:List (Addr×Obj)}{σ:St}{H:Hp}{s s':Shared}
theorem Inv.env0(I:Inv X pins σ H s):Env0 X.prog X.w X.K X.mg X.base X.A X.stack s H:=
 ⟨I.ok.frames,I.ok.mod,I.bs,Nat.le_trans I.ok.bsz I.sz,I.stack,I.stkFree,I.hok,I.bare⟩
theorem Inv.after{Q:VK}{u:Value}(I:Inv X pins σ H s)(h:CE X.stack X.prog X.w H s Q u s'):EP X pins σ Q u s':=by
 obtain⟨v,H',os,bare,un,hok,r,q⟩:=h
 obtain⟨hh,g,d,t,os'⟩:=s'
 obtain rfl:os'=s.os:=os
 exact⟨v,H',I.call (h':=hh) (g':=g) (d':=d) (t':=t) (ch:=[]) un hok bare (fun b z=>absurd z (by simp)),r,q⟩
end
noncomputable def abY(K:PySem.W.Frag)(fd:FuncData)(ps:List Str)(ds:List Value):Prop:=
 ∀(s:Shared) (us:List Value),K.In s.heap→(us++ds).length=ps.length→BindsTo s fd ⟨us,[]⟩ (ps.zip (us++ds))
theorem abY.all{K:PySem.W.Frag}{fd:FuncData}{ps:List Str}(h:∀us:List Value,us.length=ps.length→bindArgs fd ⟨us,[]⟩=pure (ps.zip us)):abY K fd ps []:=fun s us _ hl=>by
 rw[List.append_nil]at hl ⊢
 exact .of_eq (h us hl)
section
variable{X:Cx}{CX:CXT}{k:Nat}{f C:Addr}{fd:FuncData}{ps:List Str}{sp:Sp}{dvs:List V}{ds:List Value}{E:XK}{x m:Str}{p pos apos:Pos}{e o:Expr}{es:List Expr}{ta:TE}{t:TA}
structure Mk(K:PySem.W.Frag)(C f:Addr):Prop where
 makes:PySem.W.makesIn K C=true
 init:PySem.W.findIn K (.ref C) "__init__"=some (some (.ref f))
 fn:PySem.W.isFn K (.ref f)=true
 kp:PySem.W.keepIn K (.ref C)=true
end
noncomputable def PK(X:Cx)(kws:List Keyword)(t:TA):Prop:=
 ∀(pos:Pos) (pins:List (Addr×Obj)) (s:Shared) (σ:St) (H:Hp) (Q:List V→Hp→Prop),Inv X pins σ H s→t σ H Q→wpAny (model X.prog X.w) X.A (evalAll ((backToKw pos (keywordEach kws X.env)).map (·.2))) (AP X pins σ Q) X.xe s
section
variable{X:Cx}{CX:CXT}{k:Nat}{f C:Addr}{fd:FuncData}{ps ks:List Str}{sp:Sp}{E:XK}{x m:Str}{p pos apos kpos:Pos}{e o:Expr}{es:List Expr}{kws:List Keyword}{te ta:TE}{t tk:TA}{nm:Option Str}
theorem ahM:PK X [] ank:=fun _ _ _ _ H Q I h=>wpAny_evalAll_nil ⟨[],H,I,.nil,h⟩
theorem ahc(ha:PE X e te)(hr:PK X kws t):PK X (⟨nm,e,kpos⟩::kws) (ahu te t):=by
 intro pos pins s σ H Q I h
 show wpAny _ _ (evalAll ((do let v ←eval e X.env;standAt pos;pure v)::(backToKw pos (keywordEach kws X.env)).map (·.2))) _ _ s
 refine wpAny_evalAll_cons (wpAny_bind (thn (ha pins s σ H _ I h) fun u s1 ⟨x,H1,I1,r1,q1⟩=>wpAny_bind (wpAny_standAt (wpAny_pure ?_))))
 exact thn (hr pos pins s1 σ H1 _ I1 q1) fun us s2 ⟨xs,H2,I2,r2,q2⟩=>⟨x::xs,H2,I2,.cons r1 r2,q2⟩
structure KBinds(K:PySem.W.Frag)(fd:FuncData)(ps ks:List Str)(g:List Value→List Value→List Value)(gV:List V→List V→List V):Prop where
 to:∀(s:Shared) (us ws:List Value),K.In s.heap→(g us ws).length=ps.length→BindsTo s fd ⟨us,ks.zip ws⟩ (ps.zip (g us ws))
 rel:∀{vs:List V}{us:List Value}{zs:List V}{ws:List Value},aa1 vs us→aa1 zs ws→aa1 (gV vs zs) (g us ws)
variable{g:List Value→List Value→List Value}{gV:List V→List V→List V}
end
structure FnScope(N P:List Str)(sc:Scope):Prop where
 kind:sc.kind=.function
 co:sc.isCoroutine=false
 gen:sc.isGenerator=false
 nd:N.Nodup
 pre:N.take P.length=P
 par:∀x∈P,sc.names.lookup x=some .local∨sc.names.lookup x=some .cell
 nofree:∀y∈sc.names,y.2≠.free
theorem aeR{kindOf:Str→Option NameKind}{x:Str}:∀{binds:List (Str×Value)}{m:Str→Option Value},(∀v,(x,v)∉binds)→bindL kindOf binds m x=m x
 | [],_,_=>rfl
 | (n,v)::r,m,h=>by
  unfold bindL
  rw[aeR fun w hw=>h w (List.mem_cons_of_mem _ hw)]
  split
  ·have:x≠n:=by rintro rfl;exact h v List.mem_cons_self
   simp[this]
  ·rfl
theorem aeC{kindOf:Str→Option NameKind}{x:Str}:∀{binds:List (Str×Value)}{m:Str→Option Value},(∀v,(x,v)∉binds)→bindC kindOf binds m x=m x
 | [],_,_=>rfl
 | (n,v)::r,m,h=>by
  unfold bindC
  rw[aeC fun w hw=>h w (List.mem_cons_of_mem _ hw)]
  split
  ·rfl
  ·have:x≠n:=by rintro rfl;exact h v List.mem_cons_self
   simp[this]
theorem aeJ{kindOf:Str→Option NameKind}{x:Str}{v:Value}:∀{P:List Str}{vs:List Value}{i:Nat}{m:Str→Option Value},P.Nodup→P[i]?=some x→vs[i]?=some v→kindOf x=some .local→
  bindL kindOf (P.zip vs) m x=some v
 | [],_,_,_,_,h,_,_=>by simp at h
 | _::_,[],_,_,_,_,h,_=>by simp at h
 | p::P,w::vs,0,m,nd,h1,h2,hk=>by
  simp at h1 h2;subst h1;subst h2
  show bindL kindOf ((p,w)::P.zip vs) m p=_
  unfold bindL
  rw[aeR fun v hv=>(List.nodup_cons.mp nd).1 (List.of_mem_zip hv).1,if_pos hk]
  simp
 | p::P,w::vs,i+1,m,nd,h1,h2,hk=>by
  show bindL kindOf ((p,w)::P.zip vs) m x=_
  unfold bindL
  exact aeJ (i:=i) (List.nodup_cons.mp nd).2 (by simpa using h1) (by simpa using h2) hk
theorem ae4{kindOf:Str→Option NameKind}{x:Str}{v:Value}:∀{P:List Str}{vs:List Value}{i:Nat}{m:Str→Option Value},P.Nodup→P[i]?=some x→vs[i]?=some v→kindOf x≠some .local→
  bindC kindOf (P.zip vs) m x=some v
 | [],_,_,_,_,h,_,_=>by simp at h
 | _::_,[],_,_,_,_,h,_=>by simp at h
 | p::P,w::vs,0,m,nd,h1,h2,hk=>by
  simp at h1 h2;subst h1;subst h2
  show bindC kindOf ((p,w)::P.zip vs) m p=_
  unfold bindC
  rw[aeC fun v hv=>(List.nodup_cons.mp nd).1 (List.of_mem_zip hv).1,if_neg hk]
  simp
 | p::P,w::vs,i+1,m,nd,h1,h2,hk=>by
  show bindC kindOf ((p,w)::P.zip vs) m x=_
  unfold bindC
  exact ae4 (i:=i) (List.nodup_cons.mp nd).2 (by simpa using h1) (by simpa using h2) hk
noncomputable def start(N:List Str)(vs:List V):St:=vs.map some++List.replicate (N.length-vs.length) none
noncomputable def adw(CX:CXT)(P:Program)(w:World)(K:PySem.W.Frag)(mg:Str→Option Value)(base:Heap)(N:List Str)(qual:Str)(scope:Scope)(f:Addr)(cd:Value)(A:Around)(outer:List Env)(s:Shared)(H:Hp)(E:XK):Cx where
 prog:=P
 w:=w
 K:=K
 mg:=mg
 base:=base
 A:=A.deeper (envOfC qual scope s.heap.objs.size f cd)
 N:=N
 s₀:=s
 H₀:=H
 env:=envOfC qual scope s.heap.objs.size f cd
 outer:=outer
 stack:=envOfC qual scope s.heap.objs.size f cd::outer
 ex:=[]
 calm:=true
 fn:=fun _=>true
 pn:=[]
 xe:=fun e s'=>wpAny (model P w) (A.deeper (envOfC qual scope s.heap.objs.size f cd)) (leaving (envOfC qual scope s.heap.objs.size f cd) e) (fun _ s''=>CX outer H s E e s'') (fun e' s''=>CX outer H s E e' s'') s'
theorem ags{sc:Scope}{n:Nat}{x:Str}(h:sc.names.lookup x=some .cell):∃c,(cellsFrom n sc.names []).lookup x=some c:=by
 have q:=PySem.W.cellsFrom_some sc.names n [] (.inl h)
 exact Option.isSome_iff_exists.mp q
theorem aex{CX:CXT}{P:Program}{w:World}{K:PySem.W.Frag}{mg:Str→Option Value}{base:Heap}{N ps:List Str}{qual:Str}{scope:Scope}{f:Addr}{cd:Value}{A:Around}{outer:List Env}{s s1:Shared}{H:Hp}{E:XK}{us:List Value}{vs:List V}
  (S:FnScope N ps scope) (hd:A.handled=none) (e0:Env0 P w K mg base A outer s H) (hl:vs.length=ps.length) (r:aa1 vs us)
  (x:InCallC s s.heap.objs.size (bindL (envOfC qual scope s.heap.objs.size f cd).kindOf (ps.zip us) fun _=>none) (cellsFrom (s.heap.objs.size+1) scope.names []) (bindC (envOfC qual scope s.heap.objs.size f cd).kindOf (ps.zip us) fun _=>none) s1):
  Inv (adw CX P w K mg base N qual scope f cd A outer s H E) [] (start N vs) H s1:=by
 have hpl:ps.length≤N.length:=by have:=congrArg List.length S.pre;rw[List.length_take]at this;omega
 obtain⟨h1,tk,rfl,hk⟩:=x.done
 have noA:∀b:Addr,b∉(adw CX P w K mg base N qual scope f cd A outer s H E).ex:=fun b z=>absurd (show b∈([]:List Addr)from z) (by simp)
 refine⟨⟨e0.mod,S.kind,rfl,rfl,Nat.le_refl _,fun y z c h1 h2=>?_,fun y hy=>?_,fun y c _ h=>?_,fun _=>hd,Around.frames_deeper e0.frames,.inr ⟨rfl,rfl⟩,fun b z=>absurd z (noA b),e0.bs,e0.bsz,fun b _ _=>noA b,fun b z=>absurd z (noA b),e0.funs,e0.frf⟩,
  rfl,e0.bare,Un.kept hk,⟨_,x.toInCall.ns,fun i y v h1 h2 h3=>?_⟩,fun y c h=>⟨_,x.cell y c h⟩,e0.hok.fresh (Nat.le_refl _),fun y c h=>?_,fun p hp=>absurd (show p∈([]:List (Addr×Obj))from hp) (by simp),e0.hok.kept hk,?_⟩
 ·exact name_of_addr x.apart (PySem.mem_of_lookup h1) (PySem.mem_of_lookup h2)
 ·have hy:scope.names.lookup y=some .cell∨scope.names.lookup y=some .free:=hy
  rcases hy with hy|hy
  ·exact ags hy
  ·exact absurd rfl (S.nofree _ (PySem.mem_of_lookup hy))
 ·exact Nat.le_of_lt (x.above y c (PySem.mem_of_lookup h))
 ·have hi:i<vs.length:=by
   unfold start at h2
   by_cases hi:i<vs.length
   ·exact hi
   ·rw[List.getElem?_append_right (by simpa using hi)]at h2
    rw[List.getElem?_replicate]at h2
    split at h2<;>cases h2
  have ha:vs[i]?=some v:=by
   unfold start at h2
   rw[List.getElem?_append_left (by simpa using hi),List.getElem?_map]at h2
   cases e:vs[i]? with
   | none=>rw[e]at h2;cases h2
   | some a=>rw[e]at h2;cases h2;rfl
  obtain⟨u,hu,rv⟩:=r.get ha
  have hp:ps[i]?=some y:=by
   rw[←S.pre,List.getElem?_take_of_lt (by omega)];exact h1
  have ndP:ps.Nodup:=by rw[←S.pre];exact S.nd.sublist (List.take_sublist _ _)
  refine⟨u,rv,?_⟩
  rcases S.par y (List.mem_of_getElem? hp)with k|k
  ·exact .inl ⟨k,aeJ ndP hp hu k⟩
  ·obtain⟨c,e⟩:=ags (n:=s.heap.objs.size+1) k
   refine .inr ⟨.inl k,c,e,?_⟩
   have q:=x.cell y c e
   rw[ae4 ndP hp hu (by show scope.names.lookup y≠_;rw[k];decide)]at q
   exact q
 ·exact e0.hok.fresh (Nat.le_of_lt (x.above y c (PySem.mem_of_lookup h)))
 ·unfold start
  show _=N.length
  rw[List.length_append,List.length_map,List.length_replicate]
  omega
theorem ang{CX:CXT}{P:Program}{w:World}{K:PySem.W.Frag}{mg:Str→Option Value}{base:Heap}{k:Nat}{f:Addr}{name qual:Str}{params:Arguments}{body:List Stmt}{scope:Scope}{dV kV doc pm cdv ct oc:Value}{an od:Option Addr}
  {osl:Array (Option Value)}{N ps:List Str}{sp:Sp} (lk:K.lookup f=some ⟨oc,od,.func (PySem.W.fnOf name qual params body scope dV kV doc pm an cdv ct),osl⟩) (hcd:PySem.W.codeIn K cdv qual=true) (S:FnScope N ps scope)
  (len:∀vs H Q E,sp vs H Q E→vs.length=ps.length)
  (hbody:∀(A:Around) (outer:List Env) (s:Shared) (H:Hp) (vs:List V) (Q:VK) (E:XK),Room k (A.deeper (envOfC qual scope s.heap.objs.size f cdv))→sp vs H Q E→
   ∃t,PSs (adw CX P w K mg base N qual scope f cdv A outer s H E) body t∧t { nx:=fun _ H'=>Q .non H',rt:=Q } (start N vs) H):
  FnOk P w K mg base CX (k+1) f (PySem.W.fnOf name qual params body scope dV kV doc pm an cdv ct) ps sp:=by
 refine⟨len,fun A outer s H args us vs Q E hr e0 hb r hsp=>?_⟩
 have hl:=len _ _ _ _ hsp
 have KX:K.In s.heap:=e0.mod.kin.keeps fun b o e=>(e0.bs b o e).1
 have lim:s.heap.NoLimit:=e0.mod.nolimit.keeps fun b o e=>(e0.bs b o e).1
 have hkind:∀y∈ps.zip us,scope.names.lookup y.1=some .local∨(scope.names.lookup y.1=some .cell∧((cellsFrom (s.heap.objs.size+1) scope.names []).lookup y.1).isSome=true):=fun⟨n,v⟩ hy=>by
  rcases S.par n (List.of_mem_zip hy).1 with q|q
  ·exact .inl q
  ·exact .inr ⟨q,PySem.W.cellsFrom_some _ _ _ (.inl q)⟩
 refine codeAny_call_function hr.depth (KX _ _ lk) rfl S.co S.gen rfl (PySem.W.codeRec_of KX hcd) (hb _ _ _ _ ?_)
 refine wpAny_newFunctionEnv_cells S.kind hkind fun env he s1 x=>?_
 subst he
 refine⟨lim.keeps x.toInCall.keep,codeAny_func ?_⟩
 obtain⟨t,ht,hq⟩:=hbody A outer s H vs Q E (hr.deeper _) hsp
 have I:Inv (adw CX P w K mg base N qual scope f cdv A outer s H E) [] (start N vs) H s1:=aex S hr.hd e0 hl r x
 refine wpAny_mono (ht [] s1 (start N vs) H _ I hq) (fun fl s' hs=>?_) fun e s' hs=>hs
 have fin:∀{σ':St}{H':Hp}{v:V}{u:Value},Inv (adw CX P w K mg base N qual scope f cdv A outer s H E) [] σ' H' s'→aaL v u→Q v H'→CE outer P w H s Q u s':=
  fun {σ' H' v u} J rv q=>⟨v,H',J.os,J.bare,J.base,J.hok,rv,q⟩
 cases fl with
 | ret u=>
  obtain⟨v,σ',H',J,rv,q⟩:=hs
  exact fin J rv q
 | next=>
  obtain⟨σ',H',J,q⟩:=hs
  exact fin (v:=V.non) (u:=Value.none) J rfl q
 | brk=>
  obtain⟨_,_,_,q⟩:=hs
  exact False.elim q
 | cont=>
  obtain⟨_,_,_,q⟩:=hs
  exact False.elim q
end L2
namespace L2
open PySem PySem.Spec PyProof.Rows
section
variable{X:Cx}{x:Str}{p pos:Pos}{e:Expr}{es:List Expr}{t:TA}{id T:String}{r:List V→Hp→VK→Prop}
noncomputable def tCB(r:List V→Hp→VK→Prop)(t:TA):TE:=fun σ H Q=>t σ H fun vs H1=>r vs H1 Q
theorem aeo(hc:aaK X (.builtin id) r)(hg:Gl X x)(hm:X.mg x=none)(hv:bootBuiltins x=some (.builtin id))(ha:PA X (e::es) t)(hn:x≠"__name__":=by decide)(hdb:(x==("__debug__":Str))=false:=by decide)
  (he:starEach (e::es) X.env=(false,eval e X.env)::starEach es X.env:=by rfl) (hpl:(backTo pos (starEach es X.env)).any (·.1)=false:=by rfl):PE X (.Call (.Name x p) (e::es) [] pos) (tCB r t):=by
 intro pins s σ H Q I h
 refine wpAny_Call_Name_kw (adb I hg hm hv ?_ hn hdb)
 exact PyProof.Rows.callWith_builtin1 (thn (ha pos pins s σ H _ I h) fun us s1 ⟨vs,H1,I1,r1,q1⟩=>hc pins s1 σ H1 vs us Q I1 r1 q1) he hpl
theorem aeG(hc:aaK X (.type T) r)(hg:Gl X x)(hm:X.mg x=none)(hv:bootBuiltins x=some (.type T))(ha:PA X (e::es) t)(hn:x≠"__name__":=by decide)(hdb:(x==("__debug__":Str))=false:=by decide)
  (he:starEach (e::es) X.env=(false,eval e X.env)::starEach es X.env:=by rfl) (hpl:(backTo pos (starEach es X.env)).any (·.1)=false:=by rfl):PE X (.Call (.Name x p) (e::es) [] pos) (tCB r t):=by
 intro pins s σ H Q I h
 refine wpAny_Call_Name_kw (adb I hg hm hv ?_ hn hdb)
 exact PyProof.Rows.callWith_type1 (thn (ha pos pins s σ H _ I h) fun us s1 ⟨vs,H1,I1,r1,q1⟩=>hc pins s1 σ H1 vs us Q I1 r1 q1) he hpl
end
end L2
namespace HT
open PySem PyProof.Rows
noncomputable def lexLt:List Int→List Int→Bool
 | [],[]=>false
 | [],_::_=>true
 | _::_,[]=>false
 | x::xs,y::ys=>if x=y then lexLt xs ys else decide (x<y)
theorem lexLt_cons(x y:Int)(xs ys:List Int):lexLt (x::xs) (y::ys)=if x=y then lexLt xs ys else decide (x<y):=rfl
theorem lexLt_nil_nil:lexLt [] []=false:=rfl
theorem adx(y:Int)(ys:List Int):lexLt [] (y::ys)=true:=rfl
theorem adu(x:Int)(xs:List Int):lexLt (x::xs) []=false:=rfl
theorem ajR(A:Around)(s:Shared)(a:Int)(t:Tok)(c:Int)(u:Tok):∃e,SeqAt.EqAt A s (.int a t) (.int c u) e∧(e=true↔a=c):=
 ⟨(a==c),SeqAt.EqAt.int_int a t c u,by simp⟩
theorem aiT(A:Around)(s:Shared)(a:Int)(t:Tok)(c:Int)(u:Tok)(prog:Program)(w:World)(E:Value→Shared→Prop)(Q:Value→Shared→Prop)(h:Q (.bool (decide (a<c))) s):
  wpAny (model prog w) A (richCompare .Lt (.int a t) (.int c u)) Q E s:=
 (PyProof.Rows.lt_int h:wpAny (model prog w) A (compareOp .Lt (.int a t) (.int c u)) Q E s)
section
open PySem.SeqAt
open PySem.AutoSeq1 (wpAny_loadPart')
open PySem.MeetsSeq PySem.MeetsSeq2 PySem.MeetsSeq3
theorem aeb(l b:Addr)(items items2:Array Value)(n n2:Nat)(dd dd2:Option Addr)(sl sl2:Array (Option Value))(ns ms:List Int)(hi:IntsAre items.toList ns)(hj:IntsAre items2.toList ms):
  Meets (Builtin.«tuple.__lt__» ⟨[.ref l,.ref b],[]⟩)
   (fun _ R s=>s.heap.get? l=some { cls:=.type "tuple",dict:=dd,data:=.seq items n,slots:=sl }∧s.heap.get? b=some { cls:=.type "tuple",dict:=dd2,data:=.seq items2 n2,slots:=sl2 }∧
    R (.ok (.ret (.bool (lexLt ns ms)))) s):=
 .of_wp fun prog w A R s h=>by
  obtain⟨hp,g,d,tk,os⟩:=s;obtain⟨hl,hb,h⟩:=h
  have f2:=AutoSeq1.sub_tuple_tuple
  have z1:items.size=ns.length:=by rw[←hi.length];simp
  have z2:items2.size=ms.length:=by rw[←hj.length];simp
  wp_walk using wpAny_loadPart' hl,wpAny_loadPart' hb,wpAny_forIn_list _ (fun aaB b s'=>b.1=none∧s'=⟨hp,g,d,tk,os⟩∧∃(vs ws:List Value) (ns' ms':List Int),aaB=vs.zip ws∧
   IntsAre vs ns'∧IntsAre ws ms'∧ns'.length+items2.size=ms'.length+items.size∧R (.ok (.ret (.bool (lexLt ns' ms')))) ⟨hp,g,d,tk,os⟩) _
  case turn=>
   rintro⟨y,x⟩ aaB b s' ⟨hb',rfl,vs,ws,ns',ms',hz,hvi,hwi,hlen,hR⟩
   cases hvi with
   | nil=>rw[List.zip_nil_left]at hz;cases hz
   | cons a t hvi'=>
    cases hwi with
    | nil=>rw[List.zip_nil_right]at hz;cases hz
    | cons c u hwi'=>
     rw[List.zip_cons_cons]at hz
     injection hz with hyx hrest
     injection hyx with hy hx
     subst hy hx
     rw[lexLt_cons]at hR
     simp only[List.length_cons]at hlen
     obtain⟨e,he,hiff⟩:=ajR A.in1 ⟨hp,g,d,tk,os⟩ a t c u
     refine wpAny_bind (he prog w _ _ ?_)
     cases e with
     | true=>
      rw[if_pos (hiff.mp rfl)]at hR
      wp_walk
      exact⟨rfl,rfl,_,_,_,_,hrest,hvi',hwi',by omega,hR⟩
     | false=>
      rw[if_neg (fun q=>absurd (hiff.mpr q) Bool.false_ne_true)]at hR
      have hri:=aiT A.in1 ⟨hp,g,d,tk,os⟩ a t c u prog w
      wp_walk using hri
      exact⟨_,rfl,by simpa using hR⟩
  case fin=>
   rintro⟨b1,b2⟩ s' ⟨hb',rfl,vs,ws,ns',ms',hz,hvi,hwi,hlen,hR⟩
   simp only at hb'
   subst hb'
   have hv:lexLt ns' ms'=decide (items.size<items2.size):=by
    cases hvi with
    | nil=>
     cases hwi with
     | nil=>
      simp only[List.length_nil]at hlen
      rw[lexLt_nil_nil]
      exact(decide_eq_false (by omega)).symm
     | cons c u hw=>
      simp only[List.length_nil,List.length_cons]at hlen
      rw[adx]
      exact(decide_eq_true (by omega)).symm
    | cons a t hv=>
     cases hwi with
     | nil=>
      simp only[List.length_nil,List.length_cons]at hlen
      rw[adu]
      exact(decide_eq_false (by omega)).symm
     | cons c u hw=>
      rw[List.zip_cons_cons]at hz
      cases hz
   rw[hv]at hR
   wp_walk
   exact⟨_,rfl,by simpa [Builtin.Tuple.tupleCompareSizes]using hR⟩
  case h=>
   exact⟨rfl,rfl,items.toList,items2.toList,ns,ms,rfl,hi,hj,by omega,h⟩
end
section
variable{prog:Program}{w:World}{A:Around}{E:Value→Shared→Prop}{s:Shared}
theorem lt_tupInts{l b:Addr}{items items2:Array Value}{ns ms:List Int}{Q:Value→Shared→Prop}(hl:IsTup s.heap l items)(hb:IsTup s.heap b items2)(hi:IntsAre items.toList ns)(hj:IntsAre items2.toList ms)
  (hu:A.units<cLine) (h:Q (.bool (lexLt ns ms)) s):wpAny (model prog w) A (compareOp .Lt (.ref l) (.ref b)) Q E s:=by
 obtain⟨⟨cls,dd,data,sl⟩,ho,hc,n,hd⟩:=id hl
 obtain⟨⟨cls2,dd2,data2,sl2⟩,ho2,hc2,n2,hd2⟩:=id hb
 simp only at hc hd hc2 hd2
 subst hc hd hc2 hd2
 exact richCompare_meets_room (op:=.Lt) ⟨_,ho,rfl⟩ ⟨_,ho2,rfl⟩ PySem.F.slot_tuple_lt PySem.F.entry_tuple_lt (PySem.F.args_tuple_lt_2 _ _) (aeb l b items items2 n n2 dd dd2 sl sl2 ns ms hi hj)
  ⟨ho,ho2,show Value.bool (lexLt ns ms)≠Value.notImplemented∧Q (.bool (lexLt ns ms)) s from⟨(fun x=>nomatch x),h⟩⟩ hu
theorem cat_tup{t b:Addr}{vs ws:List Value}{Q:Value→Shared→Prop}(ht:IsTup s.heap t vs.toArray)(hb:IsTup s.heap b ws.toArray)(hv:vs≠[])
  (h1:ws=[]→Q (.ref t) s) (h2:ws≠[]→Q (.ref s.heap.objs.size) { s with heap:=s.heap.push { cls:=.type "tuple",data:=.seq (vs++ws).toArray } })
  (hsz:vs.length+ws.length≤sizeLine):wpAny (model prog w) A (binaryOp .Add (.ref t) (.ref b)) Q E s:=by
 obtain⟨⟨cls,dd,data,sl⟩,ho,hc,n,hd⟩:=id ht
 obtain⟨⟨cls2,dd2,data2,sl2⟩,ho2,hc2,n2,hd2⟩:=id hb
 simp only at hc hd hc2 hd2
 subst hc hd hc2 hd2
 have e:vs.toArray++ws.toArray=(vs++ws).toArray:=by simp
 by_cases hw:ws=[]
 ·exact concat_meets ⟨_,ho,rfl⟩ ⟨_,ho2,rfl⟩ noFill_tuple_add seq_tuple_add PySem.F.slot_tuple_add PySem.F.entry_tuple_add (PySem.F.args_tuple_add_2 _ _)
   (tuple_addW1 t b vs.toArray ws.toArray n n2 dd dd2 sl sl2 (by simpa using hv) (by simp[hw])) ⟨ho,ho2,h1 hw⟩
 ·refine concat_meets ⟨_,ho,rfl⟩ ⟨_,ho2,rfl⟩ noFill_tuple_add seq_tuple_add PySem.F.slot_tuple_add PySem.F.entry_tuple_add (PySem.F.args_tuple_add_2 _ _)
   (tuple_addW2 t b vs.toArray ws.toArray n n2 dd dd2 sl sl2 (by simpa using hv) (by simpa using hw) (by rw[List.size_toArray,List.size_toArray];exact hsz)) ⟨ho,ho2,?_⟩
  rw[e]
  exact h2 hw
noncomputable def sIx(n d:Nat):Option Int→Nat
 | none=>d
 | some v=>if v<0 then(v+(n:Int)).toNat else min v.toNat n
theorem aou(n d:Nat)(hd:d≤n)(o:Option Int):sIx n d o≤n:=by
 cases o with
 | none=>exact hd
 | some v=>
  show(if v<0 then(v+(n:Int)).toNat else min v.toNat n)≤n
  by_cases hv:v<0
  ·rw[if_pos hv];omega
  ·rw[if_neg hv];exact Nat.min_le_right _ _
theorem ai4(v:Int)(n d:Nat):(if v<0 then max (v+(n:Int)) 0 else min v (n:Int))=((sIx n d (some v):Nat):Int):=by
 show(if v<0 then max (v+(n:Int)) 0 else min v (n:Int))=(((if v<0 then(v+(n:Int)).toNat else min v.toNat n):Nat):Int)
 by_cases hv:v<0
 ·simp only[if_pos hv];omega
 ·simp only[if_neg hv];omega
theorem ag2(lo hi:Option Int)(n:Nat):Builtin.Slice.sliceAdjust lo hi 1 (n:Int)=(((sIx n 0 lo:Nat):Int),((sIx n n hi:Nat):Int)):=by
 have h1:¬((1:Int)<0):=by omega
 unfold Builtin.Slice.sliceAdjust
 simp only[h1,if_false]
 refine Prod.ext ?_ ?_
 ·cases lo with
  | none=>rfl
  | some v=>exact ai4 v n 0
 ·cases hi with
  | none=>rfl
  | some v=>exact ai4 v n n
theorem agF(i j:Nat):Builtin.Slice.slicePlaces (i:Int) (j:Int) 1=j-i:=by
 unfold Builtin.Slice.slicePlaces
 have h1:(1:Int)>0:=by omega
 simp only[h1,if_true,Int.ediv_one]
 split<;>omega
theorem ad4{v:Value}{o:Option Int}{Q:Option Int→Shared→Prop}(p:IsPart v o)(h:Q o s):wpAny (model prog w) A (Builtin.Slice.slicePartIndex v) Q E s:=by
 cases p with
 | none=>exact slicePart_none h
 | int i t=>exact slicePart_int h
theorem acO{sl:Addr}{vl vu:Value}{lo hi:Option Int}{n:Nat}{Q:Int×Int×Nat→Shared→Prop}(hs:s.heap.IsSliceOf sl vl vu .none)(pl:IsPart vl lo)(pu:IsPart vu hi)
  (h:Q (((sIx n 0 lo:Nat):Int),1,sIx n n hi-sIx n 0 lo) s):wpAny (model prog w) A (Builtin.Slice.sliceApplied (.ref sl) (pure (n:Int))) Q E s:=by
 obtain⟨os,hos,hcs,hds⟩:=id hs
 unfold Builtin.Slice.sliceApplied Builtin.Slice.sliceFields
 refine wpAny_bind (wpAny_bind (wpAny_field hos hds (x:=vl) rfl (wpAny_bind (wpAny_field hos hds (x:=vu) rfl (wpAny_bind (wpAny_field hos hds (x:=.none) rfl (wpAny_pure ?_)))))))
 refine wpAny_bind (slicePart_none ?_)
 show wpAny _ _ (if((1:Int)==0)=true then _ else _) _ _ s
 rw[if_neg (by decide)]
 refine wpAny_bind (ad4 pl (wpAny_bind (ad4 pu (wpAny_bind (wpAny_pure ?_)))))
 show wpAny _ _ (match Builtin.Slice.sliceAdjust lo hi 1 (n:Int)with|(lo,hi)=>pure (lo,(1:Int),Builtin.Slice.slicePlaces lo hi 1)) _ _ s
 rw[ag2 lo hi n]
 show wpAny _ _ (pure (((sIx n 0 lo:Nat):Int),(1:Int),Builtin.Slice.slicePlaces ((sIx n 0 lo:Nat):Int) ((sIx n n hi:Nat):Int) 1)) _ _ s
 rw[agF]
 exact wpAny_pure h
theorem ajW(xs:Array Value)(i k:Nat):((List.range k).filterMap fun(m:Nat)=>xs[((i:Int)+(m:Int)*1).toNat]?).toArray=((xs.toList.drop i).take k).toArray:=by
 have e:(fun(m:Nat)=>xs[((i:Int)+(m:Int)*1).toNat]?)=fun m=>xs[i+m]?:=by
  funext m
  have:((i:Int)+(m:Int)*1).toNat=i+m:=by omega
  rw[this]
 rw[e]
 have:=pick_run xs i k
 rw[List.filterMap_map]at this
 have e2:((fun x=>xs[x]?)∘fun x=>i+x)=fun m=>xs[i+m]?:=rfl
 rw[e2]at this
 rw[this]
theorem getItem_tuple_cut{t sl:Addr}{items:Array Value}{vl vu:Value}{lo hi:Option Int}{Q:Value→Shared→Prop}(ht:IsTup s.heap t items)(hs:s.heap.IsSliceOf sl vl vu .none)(pl:IsPart vl lo)(pu:IsPart vu hi)
  (hw:¬(sIx items.size 0 lo=0∧sIx items.size items.size hi=items.size))
  (h:Q (.ref s.heap.objs.size) { s with heap:=s.heap.push { cls:=.type "tuple",data:=.seq ((items.toList.drop (sIx items.size 0 lo)).take (sIx items.size items.size hi-sIx items.size 0 lo)).toArray } })
  (hsz:items.size≤sizeLine):wpAny (model prog w) A (getItem (.ref t) (.ref sl)) Q E s:=by
 have htake:sizeOk (.seq ((items.toList.drop (sIx items.size 0 lo)).take (sIx items.size items.size hi-sIx items.size 0 lo)).toArray):=by
  show((items.toList.drop (sIx items.size 0 lo)).take (sIx items.size items.size hi-sIx items.size 0 lo)).toArray.size≤sizeLine
  rw[List.size_toArray,List.length_take,List.length_drop,Array.length_toList]
  omega
 have hj:sIx items.size items.size hi≤items.size:=aou _ _ (Nat.le_refl _) hi
 obtain⟨os,hos,hcs,hds⟩:=id hs
 have hTs:s.TypeIs (.ref sl) "slice":=⟨os,hos,hcs⟩
 unfold getItem
 try with_reducible refine wpAny_holding ?_
 first|refine wpAny_bind (wpAny_pure ?_)|skip
 refine wpAny_bind (wpAny_sequenceKey ht.typeIs (by decide) ?_)
 refine wpAny_bind (wpAny_callSpecial?_slot (name:=Str.ofString "__getitem__") ht.typeIs PyProof.Rows.slot_tuple_getitem
  (wpAny_call_entry PyProof.Rows.slot_tuple_getitem ht.typeIs entry_tuple_getitem ?_ (args_tuple_getitem _ _)))
 show wpAny _ _ (Builtin.Tuple.tupleItemsOf (.ref t) >>= _) _ _ s
 refine wpAny_bind (tupleItemsOf_ ht ?_)
 refine wpAny_bind (wpAny_typeOf hTs ?_)
 rw[if_pos (by decide)]
 refine wpAny_bind (acO hs pl pu ?_)
 have hno:¬((((sIx items.size 0 lo:Nat):Int)==0&&(1:Int)==1&&(sIx items.size items.size hi-sIx items.size 0 lo)==items.size)=true):=by
  intro q
  rw[Bool.and_eq_true,Bool.and_eq_true]at q
  have q1:((sIx items.size 0 lo:Nat):Int)=0:=eq_of_beq q.1.1
  have q2:sIx items.size items.size hi-sIx items.size 0 lo=items.size:=eq_of_beq q.2
  exact hw ⟨by omega,by omega⟩
 show wpAny _ _ (if(((sIx items.size 0 lo:Nat):Int)==0&&(1:Int)==1&&(sIx items.size items.size hi-sIx items.size 0 lo)==items.size)=true then _ else _) _ _ s
 rw[if_neg hno,ajW]
 first
  | exact wpAny_bind (m:=Builtin.Tuple.tupleExact _) (wpAny_newObj_type (wpAny_pure ⟨_,rfl,wpAny_pure h⟩) htake)
  | exact wpAny_bind (m:=Builtin.Tuple.tupleExact _) (wpAny_newObj_type (wpAny_bind (wpAny_pure (wpAny_pure ⟨_,rfl,wpAny_pure h⟩))) htake)
  | exact wpAny_bind (wpAny_bind (m:=Builtin.Tuple.tupleExact _) (wpAny_newObj_type (wpAny_pure (wpAny_pure ⟨_,rfl,wpAny_pure h⟩)) htake))
  | exact wpAny_bind (wpAny_bind (m:=Builtin.Tuple.tupleExact _) (wpAny_newObj_type (wpAny_pure ⟨_,rfl,wpAny_pure h⟩) htake))
end
end HT
namespace L2
open PySem PySem.Spec PyProof.Rows
noncomputable abbrev TO:=St→Hp→(Option Int→Hp→Prop)→Prop
noncomputable def PO(X:Cx)(e:Option Expr)(t:TO):Prop:=
 ∀(pins:List (Addr×Obj)) (s:Shared) (σ:St) (H:Hp) (Q:Option Int→Hp→Prop),Inv X pins σ H s→t σ H Q→
  wpAny (model X.prog X.w) X.A (evalPart e X.env) (fun u s'=>∃o H',Inv X pins σ H' s'∧IsPart u o∧Q o H') X.xe s
noncomputable def alW:TO:=fun _ H Q=>Q none H
noncomputable def ara(t:TE):TO:=fun σ H Q=>t σ H fun x H1=>∃i,x=.int i∧Q (some i) H1
theorem ac3{ns:List Int}:∀{us:List Value},aa1 (ns.map V.int) us→IntsAre us ns:=by
 induction ns with
 | nil=>intro us r;rw[List.map_nil]at r;cases r;exact .nil
 | cons n ns ih=>
  intro us r
  rw[List.map_cons]at r
  cases r with
  | cons r1 r2=>
   obtain⟨t,e⟩:=r1
   subst e
   exact .cons n t (ih r2)
section
variable{X:Cx}{e:Expr}{te:TE}{lo hi:Option Expr}{tl th:TO}{pos p2:Pos}
theorem aht:PO X none alW:=by
 intro pins s σ H Q I h
 rw[evalPart_none]
 exact wpAny_pure ⟨none,H,I,.none,h⟩
theorem ah8(h:PE X e te):PO X (some e) (ara te):=by
 intro pins s σ H Q I hw
 rw[evalPart_some]
 refine thn (h pins s σ H _ I hw) fun u s1 ⟨x,H1,I1,r1,q1⟩=>?_
 obtain⟨i,rfl,q⟩:=q1
 obtain⟨t,rfl⟩:=r1
 exact⟨some i,H1,I1,.int i t,q⟩
noncomputable def SlR(X:Cx)(r:V→Option Int→Option Int→Hp→VK→Prop):Prop:=
 ∀(pins:List (Addr×Obj)) (s:Shared) (σ:St) (H:Hp) (x:V) (v vl vu:Value) (lo hi:Option Int) (sl:Addr) (Q:VK),Inv X pins σ H s→aaL x v→s.heap.IsSliceOf sl vl vu .none→IsPart vl lo→IsPart vu hi→r x lo hi H Q→
  ∃T id,typeLookup (.type T) "__getitem__"=pure (some (.builtin id))∧s.TypeIs v T∧wpAny (model X.prog X.w) X.A (getItem v (.ref sl)) (EP X pins σ Q) X.xe s
theorem SlR.or{r r':V→Option Int→Option Int→Hp→VK→Prop}(h:SlR X r)(h':SlR X r'):SlR X (fun x lo hi H Q=>r x lo hi H Q∨r' x lo hi H Q):=by
 intro pins s σ H x v vl vu lo hi sl Q I rx hs pl pu q
 rcases q with q|q
 ·exact h pins s σ H x v vl vu lo hi sl Q I rx hs pl pu q
 ·exact h' pins s σ H x v vl vu lo hi sl Q I rx hs pl pu q
noncomputable def tSl(r:V→Option Int→Option Int→Hp→VK→Prop)(te:TE)(tl th:TO):TE:=fun σ H Q=>te σ H fun x H1=>tl σ H1 fun l H2=>th σ H2 fun u H3=>r x l u H3 Q
theorem afM{r:V→Option Int→Option Int→Hp→VK→Prop}(hr:SlR X r)(he:PE X e te)(hl:PO X lo tl)(hu:PO X hi th):PE X (.Subscript e (.Slice lo hi none p2) pos) (tSl r te tl th):=by
 intro pins s σ H Q I h
 refine Subscript_ (thn (he pins s σ H _ I h) fun v s1 ⟨x,H1,I1,r1,q1⟩=>?_)
 refine wpAny_Slice (thn (hl pins s1 σ H1 _ I1 q1) fun vl s2 ⟨l,H2,I2,pl,q2⟩=>thn (hu pins s2 σ H2 _ I2 q2) fun vu s3 ⟨u,H3,I3,pu,q3⟩=>?_)
 rw[evalPart_none]
 refine wpAny_pure ?_
 have I4:Inv X pins σ H3 { s3 with heap:=s3.heap.push { cls:=.type "slice",data:=.fields #[vl,vu,.none] } }:=I3.kept (t':=s3.toks) fun b ob q=>Heap.get?_push_of_some _ q
 obtain⟨T,id,hT,ht,hg⟩:=hr pins { s3 with heap:=s3.heap.push { cls:=.type "slice",data:=.fields #[vl,vu,.none] } } σ H3 x v vl vu l u s3.heap.objs.size Q I4 r1 (Heap.IsSliceOf.new ..) pl pu q3
 show wpAny (model X.prog X.w) X.A (subscriptTail e (.Slice lo hi none p2) v (.ref s3.heap.objs.size)) (EP X pins σ Q) X.xe { s3 with heap:=s3.heap.push { cls:=.type "slice",data:=.fields #[vl,vu,.none] } }
 exact tail_any (ops:=[.ref s3.heap.objs.size,v]) ht hT hg (by with_unfolding_all rfl)
noncomputable def akv(xs:List V)(lo hi:Option Int):List V:=(xs.drop (HT.sIx xs.length 0 lo)).take (HT.sIx xs.length xs.length hi-HT.sIx xs.length 0 lo)
theorem acW(xs:List V)(lo hi:Option Int):(akv xs lo hi).length≤xs.length:=by
 unfold akv
 rw[List.length_take,List.length_drop]
 omega
noncomputable def awQ(K:PySem.W.Frag):V→Option Int→Option Int→Hp→VK→Prop:=fun x lo hi H Q=>∃a xs,x=.ref a∧SqT K H a xs∧
 ¬(HT.sIx xs.length 0 lo=0∧HT.sIx xs.length xs.length hi=xs.length)∧∀p,H p=none→Q (.ref p) (upd H p (.tup (akv xs lo hi)))
theorem aor:SlR X (awQ X.K):=by
 intro pins s σ H x v vl vu lo hi sl Q I rx hs pl pu h
 obtain⟨a,xs,rfl,hx,hw,q⟩:=h
 cases rx
 obtain⟨its,r,ht,hz⟩:=I.tuple hx
 have hlen:its.toArray.size=xs.length:=by rw[List.size_toArray];exact r.length.symm
 refine⟨"tuple",_,PyProof.Rows.slot_tuple_getitem.lookup,ht.typeIs,?_⟩
 refine HT.getItem_tuple_cut ht hs pl pu (by rw[hlen];exact hw) ?_ (by rw[hlen];exact hz)
 rw[hlen]
 refine⟨.ref s.heap.objs.size,_,I.laid (t':=s.toks) (o:=.tup (akv xs lo hi)) (fun b ob q=>Heap.get?_push_of_some _ q) (Nat.le_refl _) ?_,rfl,q _ (I.hok.fresh (Nat.le_refl _))⟩
 exact⟨Nat.le_trans (acW xs lo hi) hz,_,(r.drop (HT.sIx xs.length 0 lo)).take (HT.sIx xs.length xs.length hi-HT.sIx xs.length 0 lo),IsTup.new _ _⟩
noncomputable def aq3(K:PySem.W.Frag):R2:=fun x y H Q=>∃a b xs ys,x=.ref a∧y=.ref b∧SqT K H a xs∧SqT K H b ys∧xs≠[]∧xs.length+ys.length≤sizeLine∧
 (ys=[]→Q (.ref a) H)∧(ys≠[]→∀p,H p=none→Q (.ref p) (upd H p (.tup (xs++ys))))
theorem aa1.nil_iff{xs:List V}{us:List Value}(r:aa1 xs us):us=[]↔xs=[]:=by
 cases r with
 | nil=>simp
 | cons _ _=>simp
theorem ame:OpR X (binaryOp .Add) (aq3 X.K):=by
 intro pins s σ H x y v u Q I rx ry h
 obtain⟨a,b,xs,ys,rfl,rfl,ha,hb,hx,hz,q1,q2⟩:=h
 cases rx
 cases ry
 obtain⟨its,r1,p1,_⟩:=I.tuple ha
 obtain⟨its2,r2,p2,_⟩:=I.tuple hb
 refine HT.cat_tup p1 p2 (fun z=>hx (r1.nil_iff.mp z)) (fun z=>⟨.ref a,H,I,rfl,q1 (r2.nil_iff.mp z)⟩) (fun z=>?_) (by rw[←r1.length,←r2.length];exact hz)
 refine⟨.ref s.heap.objs.size,_,I.laid (t':=s.toks) (o:=.tup (xs++ys)) (fun b ob q=>Heap.get?_push_of_some _ q) (Nat.le_refl _) ?_,rfl,q2 (fun w=>z (r2.nil_iff.mpr w)) _ (I.hok.fresh (Nat.le_refl _))⟩
 exact⟨by rw[List.length_append];exact hz,_,r1.append r2,IsTup.new _ _⟩
end
end L2
namespace L2
open PySem PySem.Spec PyProof.Rows
noncomputable def ixN(n:Nat)(i:Int):Option Nat:=if 0≤i then(if i<n then some i.toNat else none)else if -(n:Int)≤i then some (i+n).toNat else none
noncomputable def atI{α:Type}(xs:List α)(i:Int):Option α:=(ixN xs.length i).bind fun j=>xs[j]?
theorem ai7{n:Nat}{i:Int}{j:Nat}(h:ixN n i=some j):seqIndex? i n=some j∧j<n∧-(n:Int)≤i∧i<n:=by
 unfold ixN at h
 by_cases h0:0≤i
 ·rw[if_pos h0]at h
  by_cases h1:i<n
  ·rw[if_pos h1]at h
   have e:i.toNat=j:=Option.some.inj h
   exact⟨by rw[seqIndex_of h0 h1,e],by omega,by omega,h1⟩
  ·rw[if_neg h1]at h;cases h
 ·rw[if_neg h0]at h
  by_cases h1:-(n:Int)≤i
  ·rw[if_pos h1]at h
   have e:(i+n).toNat=j:=Option.some.inj h
   exact⟨by rw[seqIndex_neg (by omega) h1,e],by omega,h1,by omega⟩
  ·rw[if_neg h1]at h;cases h
theorem afK{α:Type}{xs:List α}{i:Int}{v:α}(h:atI xs i=some v):∃j,seqIndex? i xs.length=some j∧xs[j]?=some v∧j<xs.length∧-(xs.length:Int)≤i∧i<xs.length:=by
 unfold atI at h
 cases e:ixN xs.length i with
 | none=>rw[e]at h;cases h
 | some j=>
  rw[e]at h
  obtain⟨h1,h2,h3,h4⟩:=ai7 e
  exact⟨j,h1,h,h2,h3,h4⟩
noncomputable def afC(b:Expr):Prop:=∀o i,subscripted b false o i=operate [o,i] (getItem o i)
noncomputable def IxR(X:Cx)(r:R2):Prop:=
 ∀(value slice:Expr) (pins:List (Addr×Obj)) (s:Shared) (σ:St) (H:Hp) (x y:V) (v u:Value) (Q:VK),Inv X pins σ H s→aaL x v→aaL y u→r x y H Q→
  subscripted slice false v u=operate [v,u] (getItem v u)→wpAny (model X.prog X.w) X.A (subscriptTail value slice v u) (EP X pins σ Q) X.xe s
noncomputable def MtR(X:Cx)(id:String)(r:V→List V→Hp→VK→Prop):Prop:=
 ∀(pins:List (Addr×Obj)) (s:Shared) (σ:St) (H:Hp) (x:V) (xs:List V) (v:Value) (us:List Value) (Q:VK),Inv X pins σ H s→aaL x v→aa1 xs us→r x xs H Q→
  wpAny (model X.prog X.w) X.A (call (.builtin id) (v::us)) (EP X pins σ Q) X.xe s
section
variable{X:Cx}{a b:Expr}{ta tb:TE}{pos:Pos}
theorem IxR.or{r r':R2}(h:IxR X r)(h':IxR X r'):IxR X (fun x y H Q=>r x y H Q∨r' x y H Q):=by
 intro value slice pins s σ H x y v u Q I rx ry q hs
 rcases q with q|q
 ·exact h value slice pins s σ H x y v u Q I rx ry q hs
 ·exact h' value slice pins s σ H x y v u Q I rx ry q hs
theorem MtR.or{id:String}{r r':V→List V→Hp→VK→Prop}(h:MtR X id r)(h':MtR X id r'):MtR X id (fun x xs H Q=>r x xs H Q∨r' x xs H Q):=by
 intro pins s σ H x xs v us Q I rx rs q
 rcases q with q|q
 ·exact h pins s σ H x xs v us Q I rx rs q
 ·exact h' pins s σ H x xs v us Q I rx rs q
theorem alp{r:R2}(hr:IxR X r)(ha:PE X a ta)(hb:PE X b tb)(hs:afC b):PE X (.Subscript a b pos) (tOp r ta tb):=by
 intro pins s σ H Q I h
 exact Subscript_ (aqe ha hb I h fun v u s2 x y H2 I2 rx ry q=>hr a b pins s2 σ H2 x y v u Q I2 rx ry q (hs _ _))
noncomputable def au3(K:PySem.W.Frag):R2:=fun x y H Q=>∃p xs i v,x=.ref p∧y=.int i∧SqL K H p xs∧atI xs i=some v∧Q v H
noncomputable def apE(K:PySem.W.Frag):R2:=fun x y H Q=>∃p xs i v,x=.ref p∧y=.int i∧SqT K H p xs∧atI xs i=some v∧Q v H
noncomputable def auX:R2:=fun x y H Q=>∃z i c,x=.str z∧y=.int i∧z.length≤sizeLine∧atI z.cps.toList i=some c∧Q (.str ⟨#[c]⟩) H
theorem al7:IxR X (au3 X.K):=by
 intro value slice pins s σ H x y v u Q I rx ry h hs
 obtain⟨p,xs,i,z,rfl,rfl,hq,he,q⟩:=h
 cases rx
 obtain⟨t,rfl⟩:=ry
 obtain⟨its,r,pl,hz⟩:=I.list hq
 obtain⟨j,h1,h2,h3,h4,h5⟩:=afK he
 obtain⟨w,ew,rw'⟩:=r.get h2
 have hl:=r.length
 have hn:=adG
 have fin:EP X pins σ Q w s:=⟨z,H,I,rw',q⟩
 by_cases h0:0≤i
 ·have hj:i.toNat=j:=by
   rw[seqIndex_of h0 h5]at h1
   exact Option.some.inj h1
  exact item_listR pl.isList h0 (by omega) (by rw[hj];simpa using ew) fin hs
 ·have hj:(i+(its.toArray.size:Int)).toNat=j:=by
   rw[seqIndex_neg (by omega) h4]at h1
   rw[List.size_toArray,←hl]
   exact Option.some.inj h1
  exact subscriptTail_builtinR (x:=w) pl.isList.typeIs slot_list_getitem.lookup
   (wpAny_getItem_list_neg (Q:=fun r s'=>r=w∧EP X pins σ Q r s') pl.isList (by omega) (by rw[List.size_toArray]<;>omega) (by omega) (by rw[hj];simpa using ew) ⟨rfl,fin⟩) hs
theorem aiG:IxR X (apE X.K):=by
 intro value slice pins s σ H x y v u Q I rx ry h hs
 obtain⟨p,xs,i,z,rfl,rfl,hq,he,q⟩:=h
 cases rx
 obtain⟨t,rfl⟩:=ry
 obtain⟨its,r,pl,hz⟩:=I.tuple hq
 obtain⟨j,h1,h2,h3,h4,h5⟩:=afK he
 obtain⟨w,ew,rw'⟩:=r.get h2
 have hl:=r.length
 have hn:=adG
 have fin:EP X pins σ Q w s:=⟨z,H,I,rw',q⟩
 exact subscriptTail_builtinR (x:=w) pl.typeIs slot_tuple_getitem.lookup
  (getItem_tuple (j:=j) (Q:=fun r s'=>r=w∧EP X pins σ Q r s') pl (by omega) (by omega) (by rw[List.size_toArray,←hl];exact h1) (by simpa using ew) ⟨rfl,fin⟩) hs
theorem ao9:IxR X auX:=by
 intro value slice pins s σ H x y v u Q I rx ry h hs
 obtain⟨z,i,c,rfl,rfl,hz,he,q⟩:=h
 obtain⟨t,rfl⟩:=rx
 obtain⟨t',rfl⟩:=ry
 obtain⟨j,h1,h2,h3,h4,h5⟩:=afK he
 have hl:z.cps.toList.length=z.length:=by simp[Str.length]
 rw[hl]at h1 h4 h5
 have hn:=adG
 exact tail_any (typeIs_str s z t) slot_str_getitem.lookup (getItem_str (c:=c) (by
  have e1:decide (i < -(2^63:Int))=false:=decide_eq_false (by omega)
  have e2:decide (i≥2^63)=false:=decide_eq_false (by omega)
  rw[e1,e2,Bool.or_false]) (by rw[h1];simpa using h2) ⟨.str ⟨#[c]⟩,H,I.tok _,⟨_,rfl⟩,q⟩) hs
noncomputable def rIx(K:PySem.W.Frag):R2:=fun x y H Q=>au3 K x y H Q∨apE K x y H Q∨auX x y H Q
theorem apq:IxR X (rIx X.K):=al7.or (aiG.or ao9)
theorem agB(its:List Value)(n j:Nat)(u:Value):Obj.mapSeq (·.setIfInBounds j u) { cls:=.type "list",data:=.seq its.toArray n }={ cls:=.type "list",data:=.seq (its.set j u).toArray n }:=by
 simp[Obj.mapSeq]
theorem Inv.lst{pins:List (Addr×Obj)}{σ:St}{H:Hp}{s:Shared}{p:Addr}{xs:List V}(I:Inv X pins σ H s)(h:H p=some (.lst xs)):
  ∃(its:List Value) (n:Nat),aa1 xs its∧s.heap.get? p=some { cls:=.type "list",data:=.seq its.toArray n }∧xs.length≤sizeLine:=by
 obtain⟨z,its,n,r,e⟩:=I.hok p _ h
 exact⟨its,n,r,e,z⟩
theorem Inv.lstUpd{pins:List (Addr×Obj)}{σ:St}{H:Hp}{s:Shared}{p:Addr}{xs ys:List V}{its its':List Value}{n n':Nat}{f:Obj→Obj}(I:Inv X pins σ H s)(h:H p=some (.lst xs))
  (ho:s.heap.get? p=some { cls:=.type "list",data:=.seq its.toArray n }) (hf:f { cls:=.type "list",data:=.seq its.toArray n }={ cls:=.type "list",data:=.seq its'.toArray n' }) (r:aa1 ys its') (hz:ys.length≤sizeLine) (t:Nat):
  Inv X pins σ (upd H p (.lst ys)) { s with heap:=s.heap.update p f,toks:=t }:=by
 have e:(s.heap.update p f).get? p=some { cls:=.type "list",data:=.seq its'.toArray n' }:=by
  rw[Heap.get?_update_self f ho (by rw[hf]<;>rfl),hf]
 refine I.write (x:=p) (e:=p) (by rw[h];trivial) (.inl rfl) (fun b u hb q=>(Heap.get?_update_other _ _ (Ne.symm hb)).trans q) ⟨_,e⟩ ?_
 exact⟨hz,its',n',r,e⟩
noncomputable def atd:V→V→V→Hp→(Hp→Prop)→Prop:=fun o i v H Q=>∃p xs k j,o=.ref p∧i=.int k∧H p=some (.lst xs)∧ixN xs.length k=some j∧Q (upd H p (.lst (xs.set j v)))
theorem ajL:av1 X atd:=by
 intro pins s σ H o i v ov iv u Q I ro ri rv h
 obtain⟨p,xs,k,j,rfl,rfl,hp,hj,q⟩:=h
 cases ro
 obtain⟨t,rfl⟩:=ri
 obtain⟨its,n,r,ho,hz⟩:=I.lst hp
 obtain⟨h1,h2,h3,h4⟩:=ai7 hj
 have hl:=r.length
 have hn:=adG
 have I':Inv X pins σ (upd H p (.lst (xs.set j v))) { s with heap:=s.heap.update p (Obj.mapSeq (·.setIfInBounds j u)) }:=
  I.lstUpd hp ho (agB its n j u) (r.set rv j) (by rw[List.length_set];exact hz) s.toks
 by_cases h0:0≤k
 ·have hk:k.toNat=j:=by
   rw[seqIndex_of h0 h4]at h1
   exact Option.some.inj h1
  exact PySem.W.ki_setAt ho h0 (by omega) (by rw[List.size_toArray,←hl];exact h4) (by rw[hk];exact⟨_,I',q⟩)
 ·have hk:(k+(its.toArray.size:Int)).toNat=j:=by
   rw[seqIndex_neg (by omega) h3]at h1
   rw[List.size_toArray,←hl]
   exact Option.some.inj h1
  exact PySem.W.ki_setBack ho (by omega) (by rw[List.size_toArray,←hl];exact h3) (by omega) (by rw[hk];exact⟨_,I',q⟩)
theorem aew(lo hi:Option Int)(n:Nat):(sliceBounds lo hi none n).1=((HT.sIx n 0 lo:Nat):Int)∧(sliceBounds lo hi none n).2.1=((HT.sIx n n hi:Nat):Int)∧(sliceBounds lo hi none n).2.2=1:=by
 refine⟨?_,?_,rfl⟩
 ·cases lo with
  | none=>simp[sliceBounds,HT.sIx]
  | some i=>
   simp only[sliceBounds,HT.sIx,Option.getD_none,show(1:Int)>0 by decide,if_true]
   by_cases h:i<0
   ·simp only[h,if_true]<;>omega
   ·simp only[h,if_false]<;>omega
 ·cases hi with
  | none=>simp[sliceBounds,HT.sIx]
  | some i=>
   simp only[sliceBounds,HT.sIx,Option.getD_none,show(1:Int)>0 by decide,if_true]
   by_cases h:i<0
   ·simp only[h,if_true]<;>omega
   ·simp only[h,if_false]<;>omega
theorem aeh(its:List Value)(lo hi:Option Int):slicePick its.toArray lo hi none=((its.drop (HT.sIx its.length 0 lo)).take (HT.sIx its.length its.length hi-HT.sIx its.length 0 lo)).toArray:=by
 obtain⟨h1,h2,h3⟩:=aew lo hi its.toArray.size
 unfold slicePick
 rw[h1,h2,h3]
 simp only[sliceRange_one,pick_run,List.size_toArray]<;>rfl
noncomputable def avI(K:PySem.W.Frag):V→Option Int→Option Int→Hp→VK→Prop:=fun x lo hi H Q=>∃a xs,x=.ref a∧SqL K H a xs∧∀p,H p=none→Q (.ref p) (upd H p (.lst (akv xs lo hi)))
theorem alY:SlR X (avI X.K):=by
 intro pins s σ H x v vl vu lo hi sl Q I rx hs pl pu h
 obtain⟨a,xs,rfl,hx,q⟩:=h
 cases rx
 obtain⟨its,r,ht,hz⟩:=I.list hx
 have hlen:=r.length
 refine⟨"list",_,slot_list_getitem.lookup,ht.isList.typeIs,?_⟩
 refine wpAny_getItem_list_slice ht.isList hs pl pu .none (by simp) ?_ (by rw[List.size_toArray]<;>omega)
 rw[aeh,←hlen]
 refine⟨.ref s.heap.objs.size,_,I.laid (t':=s.toks) (o:=.lst (akv xs lo hi)) (fun b ob q=>Heap.get?_push_of_some _ q) (Nat.le_refl _) ?_,rfl,q _ (I.hok.fresh (Nat.le_refl _))⟩
 exact⟨Nat.le_trans (acW xs lo hi) hz,_,0,(r.drop (HT.sIx xs.length 0 lo)).take (HT.sIx xs.length xs.length hi-HT.sIx xs.length 0 lo),Heap.get?_push_size _ rfl⟩
theorem aeA:aaK X (.builtin "len") (fun xs H Q=>∃p ys,xs=[.ref p]∧(SqL X.K H p ys∨SqT X.K H p ys)∧Q (.int ys.length) H):=by
 intro pins s σ H xs us Q I r h
 obtain⟨p,ys,rfl,hq,q⟩:=h
 obtain⟨u,rfl,rx⟩:=aiD r
 cases rx
 have hn:=adG
 rcases hq with hq|hq
 ·obtain⟨its,r',pl,hz⟩:=I.list hq
  have hlen:=r'.length
  exact Calls.call_len_list pl.isList (by simp only[List.size_toArray]<;>omega) ⟨.int ys.length,H,I.tok _,⟨s.toks+1,by rw[List.size_toArray,hlen]⟩,q⟩
 ·obtain⟨its,r',pl,hz⟩:=I.tuple hq
  have hlen:=r'.length
  exact len_tuple pl (by simp only[List.size_toArray]<;>omega) ⟨.int ys.length,H,I.tok _,⟨s.toks+1,by rw[List.size_toArray,hlen]⟩,q⟩
theorem aaK.or{f:Value}{r r':List V→Hp→VK→Prop}(h:aaK X f r)(h':aaK X f r'):aaK X f (fun xs H Q=>r xs H Q∨r' xs H Q):=by
 intro pins s σ H xs us Q I rs q
 rcases q with q|q
 ·exact h pins s σ H xs us Q I rs q
 ·exact h' pins s σ H xs us Q I rs q
theorem acE:aaK X (.type "list") (fun xs H Q=>∃p ys,xs=[.ref p]∧(SqL X.K H p ys∨SqT X.K H p ys)∧∀l,H l=none→Q (.ref l) (upd H l (.lst ys))):=by
 intro pins s σ H xs us Q I r h
 obtain⟨p,ys,rfl,hq,q⟩:=h
 obtain⟨u,rfl,rx⟩:=aiD r
 cases rx
 have fin:∀(its:List Value),aa1 ys its→ys.length≤sizeLine→∀(h':Heap) (c':Nat),(∀b o',s.heap.get? b=some o'→h'.get? b=some o')→
   h'.get? s.heap.objs.size=some { cls:=.type "list",dict:=none,data:=.seq its.toArray c',slots:=#[] }→EP X pins σ Q (.ref s.heap.objs.size) { s with heap:=h' }:=fun its r' hz h' c' kp e=>
  ⟨.ref s.heap.objs.size,_,I.laid (t':=s.toks) kp (Nat.le_refl _) (show abc X.prog X.w _ h' _ (.lst ys)from⟨hz,its,c',r',e⟩),rfl,q _ (I.hok.fresh (Nat.le_refl _))⟩
 rcases hq with hq|hq
 ·obtain⟨its,r',pl,hz⟩:=I.list hq
  have hlen:=r'.length
  obtain⟨o,ho,hc,n,hd⟩:=pl.isList
  exact call_list_seq p (.inl rfl) ho hc hd (fun h' c' kp e=>fin its r' hz h' c' kp e) (by simp only[List.size_toArray]<;>omega)
 ·obtain⟨its,r',pl,hz⟩:=I.tuple hq
  have hlen:=r'.length
  obtain⟨o,ho,hc,n,hd⟩:=pl
  exact call_list_seq p (.inr rfl) ho hc hd (fun h' c' kp e=>fin its r' hz h' c' kp e) (by simp only[List.size_toArray]<;>omega)
noncomputable def tyV(K:PySem.W.Frag)(T:String)(x:V)(H:Hp):Prop:=match x with
 | .str _=>T="str"
 | .int _=>T="int"
 | .ref p=>(T="list"∧∃xs,SqL K H p xs)∨(T="tuple"∧∃o,K.lookup p=some o∧o.cls=.type "tuple"∧o.dict=none)∨
   (T="dict"∧((∃kvs,H p=some (.dK kvs))∨∃kvs,H p=some (.dT kvs)))∨(T="set"∧∃S n,H p=some (.set S n))
 | _=>False
theorem aow{pins:List (Addr×Obj)}{σ:St}{H:Hp}{s:Shared}{T:String}{x:V}{v:Value}(I:Inv X pins σ H s)(r:aaL x v)(ty:tyV X.K T x H):
  s.TypeIs v T∧∀a,v=.ref a→∃ob,s.heap.get? a=some ob∧ob.dict=none:=by
 cases x with
 | str z=>
  obtain⟨t,rfl⟩:=r
  cases(show T="str" from ty)
  exact⟨typeIs_str s z t,fun _ e=>nomatch e⟩
 | int i=>
  obtain⟨t,rfl⟩:=r
  cases(show T="int" from ty)
  exact⟨typeIs_int s i t,fun _ e=>nomatch e⟩
 | ref p=>
  cases r
  rcases ty with⟨rfl,xs,hq⟩|⟨rfl,o,hk,hc,hd⟩|⟨rfl,hk⟩|⟨rfl,S,n,hk⟩
  ·obtain⟨its,_,pl,_⟩:=I.list hq
   refine⟨pl.isList.typeIs,fun a e=>?_⟩
   cases e
   obtain⟨o,n,e,c,hd,_⟩:=pl
   exact⟨o,e,hd⟩
  ·refine⟨⟨o,I.kIn p o hk,hc⟩,fun a e=>?_⟩
   cases e
   exact⟨o,I.kIn _ o hk,hd⟩
  ·have z:∃o,s.heap.get? p=some o∧o.ExactDict:=by
    rcases hk with⟨kvs,hk⟩|⟨kvs,hk⟩
    ·obtain⟨_,_,_,_,o,_,_,e,ex,_⟩:=I.hok p _ hk
     exact⟨o,e,ex⟩
    ·obtain⟨_,_,_,_,o,_,_,e,ex,_⟩:=I.hok p _ hk
     exact⟨o,e,ex⟩
   obtain⟨o,e,ex⟩:=z
   refine⟨⟨o,e,ex.1⟩,fun a e2=>?_⟩
   cases e2
   exact⟨o,e,ex.2.1⟩
  ·obtain⟨o,_,_,_,e,ex,_⟩:=I.hok p _ hk
   refine⟨⟨o,e,ex.1⟩,fun a e2=>?_⟩
   cases e2
   exact⟨o,e,ex.2.1⟩
 | _=>exact False.elim ty
noncomputable def tBM(K:PySem.W.Frag)(T:String)(r:V→List V→Hp→VK→Prop)(to:TE)(t:TA):TE:=fun σ H Q=>to σ H fun x H1=>tyV K T x H1∧t σ H1 fun xs H2=>r x xs H2 Q
variable{o e:Expr}{es:List Expr}{to:TE}{t:TA}{name:Str}{apos cpos:Pos}{T id:String}{r:V→List V→Hp→VK→Prop}
theorem apc(pa:PlainAttrs T)(slot:Slot T name id)(hty:typeOf (.builtin id)=pure (.type "method_descriptor"))(hm:MtR X id r)(ho:PE X o to)(ha:PA X (e::es) t)
  (hbase:attributeBase o name X.env (eval o X.env)=eval o X.env:=by rfl)
  (hfew:((backTo cpos (starEach (e::es) X.env)).all (fun x=>!x.1)&&(backToKw cpos (keywordEach [] X.env)).all (fun x=>x.1.isSome)
   && decide ((e::es).length+([]:List Keyword).length+(if([]:List Keyword).isEmpty then 0 else 1)<30))=true:=by rfl)
  (hline:(apos.endLine==cpos.line)=true:=by rfl) (hs:starEach (e::es) X.env=(false,eval e X.env)::starEach es X.env:=by rfl) (hplain:(backTo cpos (starEach es X.env)).any (·.1)=false:=by rfl):
  PE X (.Call (.Attribute o name apos) (e::es) [] cpos) (tBM X.K T r to t):=by
 intro pins s σ H Q I h
 refine wpAny_Call_method_late hbase hfew hline rfl (thn (ho pins s σ H _ I h) fun v s1 ⟨x,H1,I1,r1,ty,q1⟩=>?_)
 obtain⟨h1,h2⟩:=aow I1 r1 ty
 refine⟨T,id,pa,slot,hty,h1,h2,?_⟩
 have hA:=ha cpos pins s1 σ H1 _ I1 q1
 rw[hs]at hA ⊢
 refine Calls.callWith_builtin (by show(false||(backTo cpos (starEach es X.env)).any (·.1))=false;rw[hplain]<;>rfl) (Calls.evalArgs_plain ?_)
 exact thn hA fun us s2 ⟨vs,H2,I2,r2,q2⟩=>hm pins s2 σ H2 x vs v us Q I2 r1 r2 q2
end
end L2
namespace L2
open PySem PySem.Spec PyProof.Rows
noncomputable def MtM(X:Cx)(id:String)(r:V→List V→Hp→VK→Prop):Prop:=
 ∀(pins:List (Addr×Obj)) (s:Shared) (σ:St) (H:Hp) (x:V) (xs:List V) (v:Value) (us:List Value) (Q:VK),Inv X pins σ H s→aaL x v→aa1 xs us→r x xs H Q→
  wpAny (model X.prog X.w) X.A (call (.builtin id) (v::us)) (EP X pins σ Q) X.xe s
theorem aa1.one:∀{x:V}{us:List Value},aa1 [x] us→∃u,us=[u]∧aaL x u
 | _,_,.cons r .nil=>⟨_,rfl,r⟩
theorem aa1.two:∀{x y:V}{us:List Value},aa1 [x,y] us→∃u v,us=[u,v]∧aaL x u∧aaL y v
 | _,_,_,.cons r (.cons q .nil)=>⟨_,_,rfl,r,q⟩
theorem aa1.zero:∀{us:List Value},aa1 [] us→us=[]
 | _,.nil=>rfl
theorem aa1.dropLast{xs:List V}{us:List Value}(h:aa1 xs us):aa1 xs.dropLast us.dropLast:=by
 induction h with
 | nil=>exact .nil
 | cons r t ih=>
  cases t with
  | nil=>exact .nil
  | cons q t'=>exact .cons r ih
theorem aa1.reverse{xs:List V}{us:List Value}(h:aa1 xs us):aa1 xs.reverse us.reverse:=by
 induction h with
 | nil=>exact .nil
 | cons r t ih=>rw[List.reverse_cons,List.reverse_cons];exact aa1.append ih (.cons r .nil)
section
variable{X:Cx}{pins:List (Addr×Obj)}{σ:St}{H:Hp}{s:Shared}{l b:Addr}{xs ys zs:List V}
theorem Inv.lset{its its':List Value}{n:Nat}{f:Array Value→Array Value}{t':Nat}(I:Inv X pins σ H s)(hH:H l=some (.lst xs))
  (e:s.heap.get? l=some { cls:=.type "list",data:=.seq its.toArray n }) (hf:f its.toArray=its'.toArray) (hv:aa1 ys its') (hz:ys.length≤sizeLine):
  Inv X pins σ (upd H l (.lst ys)) { s with heap:=s.heap.update l (Obj.mapSeq f),toks:=t' }:=by
 have q:=PySem.IsL.update e f
 rw[hf]at q
 refine I.write (x:=l) (e:=l) (by rw[hH];exact trivial) (.inl rfl) (fun b' u hb hu=>(Heap.get?_update_other s.heap (Obj.mapSeq f) (Ne.symm hb)).trans hu) ⟨_,q⟩ ?_
 exact⟨hz,its',_,hv,q⟩
theorem Inv.lnew{its:List Value}{t':Nat}(I:Inv X pins σ H s)(hv:aa1 ys its)(hz:ys.length≤sizeLine):
  Inv X pins σ (upd H s.heap.objs.size (.lst ys)) { s with heap:=s.heap.push { cls:=.type "list",data:=.seq its.toArray },toks:=t' }:=
 I.laid (fun _ _ q=>Heap.get?_push_of_some _ q) (Nat.le_refl _) ⟨hz,its,0,hv,Heap.get?_push_size _ rfl⟩
theorem Inv.fresh(I:Inv X pins σ H s):H s.heap.objs.size=none:=I.hok.fresh (Nat.le_refl _)
theorem Inv.lstM(I:Inv X pins σ H s)(hH:H l=some (.lst xs)):xs.length≤sizeLine∧∃(its:List Value) (n:Nat),aa1 xs its∧xs.length=its.length∧s.heap.get? l=some { cls:=.type "list",data:=.seq its.toArray n }:=by
 obtain⟨z,its,n,r,e⟩:=I.hok l _ hH
 exact⟨z,its,n,r,r.length,e⟩
end
section
variable{X:Cx}
noncomputable def alZ:V→List V→Hp→VK→Prop:=fun x vs H Q=>∃l xs y,x=.ref l∧vs=[y]∧H l=some (.lst xs)∧xs.length<sizeLine∧Q .non (upd H l (.lst (xs++[y])))
theorem ads:MtM X "list.append" alZ:=by
 intro pins s σ H x vs v us Q I rx rv h
 obtain⟨l,xs,y,rfl,rfl,hH,hz,q⟩:=h
 cases rx
 obtain⟨u,rfl,ru⟩:=rv.one
 obtain⟨z,its,n,r,hl,e⟩:=I.lstM hH
 refine call_meets F.slot_list_append ⟨_,e,rfl⟩ F.entry_list_append (F.args_list_append_2 _ _) (PySem.list_append l its.toArray n u (by rw[List.size_toArray];omega)) ⟨e,?_⟩
 refine⟨.non,_,I.lset (its':=its++[u]) hH e (by simp) (r.append (.cons ru .nil)) ?_,rfl,q⟩
 rw[List.length_append,List.length_singleton]
 omega
end
end L2
namespace Att
open PySem PySem.W PySem.Calls PyProof.Rows
theorem adg{P:Params}{h:Heap}:∀(ns:List Int) (vs:List Value),WellAll P h vs (ns.map WData.int)→IntsAre vs ns:=by
 intro ns
 induction ns with
 | nil=>
  intro vs w
  rw[List.map_nil]at w
  cases w
  exact .nil
 | cons n ns ih=>
  intro vs w
  rw[List.map_cons]at w
  cases w with
  | cons a b=>
   cases a
   exact .cons _ _ (ih _ b)
theorem ahR{l:OpenLaw}{n:Nat}(hn:l.most=some n){P:Params}{h:Heap}{args:List WData}{vals:List Value}
  (hpre:l.row.toRowW.claim.pre args=true) (hwl:WellAll P h vals args):
  ∃a vs ns,vals=[Value.ref a]∧args=[WData.list (ns.map WData.int)]∧h.get? a=some { cls:=.type "list",data:=.seq vs.toArray }∧IntsAre vs ns∧ns.length≤n:=by
 have hsh:WShape.hasAll [] args [.list .int]=true:=(pre_splitW hpre).1
 have hc:l.pre.holds [] { args:=args }=true:=(pre_splitW hpre).2
 obtain⟨d,r,rfl,h1,h2⟩:=hasAllW_cons hsh
 obtain rfl:=hasAllW_nil h2
 obtain⟨xs,rfl,h3⟩:=hasW_list h1
 obtain⟨ns,rfl⟩:=items_int h3
 have hlen:ns.length≤n:=by
  unfold OpenLaw.pre at hc
  have h4:(WTm.not (.lt (.lit (.int (n:Int))) (.len (.arg 0)))).holds [] { args:=[.list (ns.map .int)] }=true:=by
   have h4:=(holds_andW hc).1
   rw[hn]at h4
   exact h4
  have h5:=condW_of h4 (w_not (w_lt w_lit (w_len_list (w_arg rfl))))
  rw[List.length_map]at h5
  refine Nat.le_of_not_lt fun q=>?_
  have q':(n:Int)<((ns.length:Nat):Int):=by omega
  first
   | (rw[decide_eq_true q']at h5;exact absurd h5 (by decide))
   | (simp at h5;omega)
 cases hwl with
 | cons w1 w2=>
  cases w2
  cases w1 with
  | list ho hall=>exact⟨_,_,ns,rfl,rfl,ho,adg ns _ hall,hlen⟩
theorem aiH(l:OpenLaw)(args:List WData):l.row.toRowW.claim.post args (.bool true) args=true:=
 postW_of (r:=l.row.toRowW) (X:=(true==true))
  (show WShape.has [] (.bool true) .bool=true by first|rfl|decide|simp[WShape.has,WShape.arms,WShape.armsAll])
  (show(WTm.eq .res (.lit (.bool true))).value [] { args:=args,res:=some (.bool true),after:=args }=some (.bool (true==true))from w_eq_bool (w_res rfl) w_lit) rfl
theorem attach_call{l:OpenLaw}{n:Nat}{q:Program}{loose:List Str}{XP:(Str→Option Value)→Heap→Prop}{YP:World→Heap→Prop}{d:DefRec}
  (hn:l.most=some n) (hdf:d.params.defaults=[])
  (call:∀(w:World) (s₀ s₁:Shared) (mg mb:Str→Option Value) (fa:Addr) (o:Obj) (pm cd doc:Value) (a:Addr) (vs:List Value) (ns:List Int),
   Ground q loose [] XP w s₀ mg mb s₁.heap→YP w s₁.heap→
   s₁.heap.get? fa=some o→o.data=.func (docDef d.name d.params d.body d.scope pm cd doc)→s₁.heap.CodeRec cd d.name→mg d.name=some (.ref fa)→
   s₁.heap.get? a=some { cls:=.type "list",data:=.seq vs.toArray }→IntsAre vs ns→ns.length≤n→s₁.gens=#[]→
   codeAny (model l.prog w) callerA (.call (.ref fa) ⟨[.ref a],[]⟩) (fun r s'=>r=.ok (.ret (.bool true))∧OldK s₁.heap s'.heap∧s'.os=s₁.os∧AllBare s'.gens) s₁):
  WalkO q loose XP YP l.row.toRowW d [] (fun f vs=>PySem.call f vs):=by
 intro w s₀ s₁ mg mb G Y fa o pm cd doc dV kV ho hd hcd hD hmg hg args vals as hpre hlay hrd hwl hlo
 obtain rfl:dV=.none:=Dflts.none hD hdf
 obtain rfl:kV=.none:=Dflts.noKw hD
 obtain⟨a,vs,ns,rfl,rfl,hobj,hints,hlen⟩:=ahR hn hpre hwl
 refine enter_call (codeAny_mono (call w s₀ s₁ mg mb fa o pm cd doc a vs ns G Y ho (fd_plain hd) hcd hmg hobj hints hlen hg) fun r s' hq=>?_)
 obtain⟨rfl,h2,h3,h4⟩:=hq
 exact⟨.inl ⟨.bool true,.bool true,[],rfl,fun _=>rfl,.bool true,aiH l _,fun _=>⟨List.Pairwise.nil,fun _ hm=>(nomatch hm)⟩⟩,h2,h3,h4⟩
section
variable{prog:Program}{w:World}{A:Around}{E:Value→Shared→Prop}{s:Shared}{K:Frag}
noncomputable def avi(h:Heap)(L d:Addr):List (Addr×Obj):=(List.range h.objs.size).filterMap fun a=>if a=L∨a=d then none else(h.get? a).map fun o=>(a,o)
end
end Att
namespace L2
open PySem PySem.Spec PyProof.Rows
theorem adp:∀{vs:List Value}{ns:List Int},IntsAre vs ns→aa1 (ns.map V.int) vs
 | _,_,.nil=>.nil
 | _,_,.cons n t h=>.cons ⟨t,rfl⟩ (adp h)
noncomputable def aq2(H:Hp):Prop:=∀b,H b=none∨∃o xs,H b=some (.frz o (.lst xs))
theorem ajP{P:Program}{w:World}{K:PySem.W.Frag}{mg mb:Str→Option Value}{CX:CXT}{k:Nat}{fa a:Addr}{fd:FuncData}{x:Str}{sp:Sp}{s₁:Shared}{vs:List Value}{ns:List Int}
  (KX:K.In s₁.heap) (hns:s₁.heap.Ns mainGlobals mg) (hb:s₁.heap.Ns builtinsNs mb) (hbb:∀x:Str,x≠"__name__"→mb x=bootBuiltins x) (hlim:s₁.heap.NoLimit) (hg:s₁.gens=#[])
  (ha:s₁.heap.get? a=some { cls:=.type "list",data:=.seq vs.toArray }) (hi:IntsAre vs ns) (hl:ns.length≤sizeLine) (hr:Room k callerA)
  (F:∀base:Heap,K.In base→base.Ns mainGlobals mg→FnOk P w K mg base CX k fa fd [x] sp) (hbind:∀(s:Shared) (u:Value),BindsTo s fd ⟨[u],[]⟩ [(x,u)])
  (hsp:∀H:Hp,aq2 H→SqL K H a (ns.map V.int)→sp [.ref a] H (fun v _=>v=.bl true) fun _ _ _=>False)
  (hCX:∀H e s',CX [] H s₁ (fun _ _ _=>False) e s'→False):
  codeAny (model P w) callerA (.call (.ref fa) ⟨[.ref a],[]⟩) (fun r s'=>r=.ok (.ret (.bool true))∧OldK s₁.heap s'.heap∧s'.os=s₁.os∧AllBare s'.gens) s₁:=by
 have rv:=adp hi
 have lenV:=hi.length
 have core:∀H:Hp,aq2 H→SqL K H a (ns.map V.int)→HOk P w H s₁.heap→(∀b,H b≠none→b=a)→(H a≠none→K.lookup a=none)→
   codeAny (model P w) callerA (.call (.ref fa) ⟨[.ref a],[]⟩) (fun r s'=>r=.ok (.ret (.bool true))∧OldK s₁.heap s'.heap∧s'.os=s₁.os∧AllBare s'.gens) s₁:=by
  intro H hO hS hok hA hK
  have base_of:∀{b:Addr}{o:Obj},s₁.heap.get? b=some o→H b=none→(aff s₁.heap H).get? b=some o:=fun e n=>agw e n
  have noA:∀{b:Addr}{o:Obj}{es:Array DictEntry}{ep:Nat},s₁.heap.get? b=some o→o.data=.dict es ep→H b=none:=fun {b o es ep} e d=>by
   cases q:H b with
   | none=>rfl
   | some u=>
    have e':b=a:=hA b (by rw[q];simp)
    subst e'
    rw[ha]at e;cases e
    have d':Data.seq vs.toArray _=Data.dict es ep:=d
    cases d'
  have nsK:∀{b:Addr}{m:Str→Option Value},s₁.heap.Ns b m→(aff s₁.heap H).Ns b m:=fun {b m} ⟨o,es,ep,e,d,r⟩=>⟨o,es,ep,base_of e (noA e d),d,r⟩
  have hKb:K.In (aff s₁.heap H):=fun b o e=>base_of (KX b o e) (by
   cases q:H b with
   | none=>rfl
   | some u=>
    have e':b=a:=hA b (by rw[q];simp)
    subst e'
    rw[hK (by rw[q];simp)]at e;cases e)
  have hM:Mod K mg (aff s₁.heap H):=⟨hKb,nsK hns,⟨mb,nsK hb,hbb⟩,let ⟨mc,h1,h2⟩:=hlim;⟨mc,nsK h1,h2⟩⟩
  have e0:Env0 P w K mg (aff s₁.heap H) callerA [] s₁ H:=⟨rfl,hM,fun b o e=>ahf e,Nat.le_of_eq (aeW _ _),trivial,fun b hb=>absurd (show b∈([]:List Addr)from hb) (by simp),hok,.of_eq hg⟩
  refine codeAny_mono ((F _ hKb (nsK hns)).run callerA [] s₁ H ⟨[.ref a],[]⟩ [.ref a] [.ref a] _ _ hr e0 (hbind s₁ (.ref a)) (.cons rfl .nil) (hsp H hO hS)) fun r s' h=>?_
  cases r with
  | error e=>exact(hCX H e s' h).elim
  | ok fl=>
   cases fl with
   | next=>exact False.elim h
   | brk=>exact False.elim h
   | cont=>exact False.elim h
   | ret u=>
    obtain⟨v,H',os,bare,un,hok',r',q⟩:=h
    have q':v=.bl true:=q
    subst q'
    obtain rfl:u=Value.bool true:=r'
    refine⟨rfl,OldK.of_keep fun b o e=>?_,os,bare⟩
    cases q:H b with
    | none=>exact un.keep b o e q (by intro z;exact absurd (show b∈([]:List Addr)from z) (by simp)) (by simp)
    | some u=>
     rcases hO b with z|⟨ob,xs,z⟩
     ·rw[q]at z;cases z
     ·have z2:=un.frzs b ob _ z
      obtain⟨e1,_⟩:=hok b _ z
      obtain⟨e2,_⟩:=hok' b _ z2
      rw[e]at e1;cases e1
      exact e2
 cases hk:K.lookup a with
 | some o=>
  have e:=KX a o hk
  rw[ha]at e
  cases e
  refine core (fun _=>none) (fun _=>.inl rfl) (.inr ⟨_,vs.toArray,_,hk,rfl,rfl,rfl,by rw[List.size_toArray,lenV];exact hl,by simpa using rv⟩) (fun b u z=>by have z':(none:Option HO)=some u:=z;cases z') (fun b z=>absurd rfl z) fun z=>absurd rfl z
 | none=>
  refine core (fun b=>if b=a then some (.frz { cls:=.type "list",data:=.seq vs.toArray } (.lst (ns.map V.int)))else none) (fun b=>?_) (.inl (.inr ⟨{ cls:=.type "list",data:=.seq vs.toArray },if_pos rfl⟩)) (fun b u z=>?_) (fun b z=>?_) fun _=>hk
  ·by_cases hb:b=a
   ·exact .inr ⟨_,_,if_pos hb⟩
   ·exact .inl (if_neg hb)
  ·by_cases hb:b=a
   ·have z':=(if_pos hb).symm.trans z
    cases z'
    subst hb
    exact⟨ha,by rw[List.length_map];exact hl,vs,_,rv,ha⟩
   ·have z':=(if_neg hb).symm.trans z
    cases z'
  ·by_cases hb:b=a
   ·exact hb
   ·exact absurd (if_neg hb) z
end L2
namespace L2
open PySem PySem.Spec PyProof.Rows
noncomputable abbrev KOf{K:PySem.W.Frag}{h:Heap}(_:K.In h):PySem.W.Frag:=K
theorem asL{l:PySem.W.OpenLaw}{n k:Nat}{q:Program}{loose:List Str}{XP:(Str→Option Value)→Heap→Prop}{YP:World→Heap→Prop}{d:DefRec}{K:Params→PySem.W.Frag}{CX:World→CXT}{sp:World→Sp}{x:Str}
  (hn:l.most=some n) (hn2:n≤sizeLine) (hdf:d.params.defaults=[]) (hr:Room k callerA)
  (hY:∀(w:World) (h:Heap),YP w h→(K w.params).In h)
  (F:∀(w:World) (mg:Str→Option Value) (fa:Addr) (h:Heap),(K w.params).In h→h.Ns mainGlobals mg→mg d.name=some (.ref fa)→
   ∃fd:FuncData,(∀(s:Shared) (u:Value),BindsTo s fd ⟨[u],[]⟩ [(x,u)])∧
    ∀base:Heap,(K w.params).In base→base.Ns mainGlobals mg→FnOk l.prog w (K w.params) mg base (CX w) k fa fd [x] (sp w))
  (hsp:∀(w:World) (H:Hp) (a:Addr) (ns:List Int),ns.length≤n→aq2 H→SqL (K w.params) H a (ns.map V.int)→sp w [.ref a] H (fun v _=>v=.bl true) fun _ _ _=>False)
  (hCX:∀(w:World) (H:Hp) (s:Shared) (e:Value) (s':Shared),CX w [] H s (fun _ _ _=>False) e s'→False):
  PySem.W.WalkO q loose XP YP l.row.toRowW d [] (fun f vs=>PySem.call f vs):=by
 refine Att.attach_call hn hdf fun w s₀ s₁ mg mb fa o pm cd doc a vs ns G Y ho hd hcd hmg hobj hints hlen hg=>?_
 have KX:=hY w _ Y
 obtain⟨fd,hb,hF⟩:=F w mg fa _ KX G.T.g hmg
 exact ajP KX G.T.g G.T.b G.T.builtins G.T.nolimit hg hobj hints (Nat.le_trans hlen hn2) hr hF hb (fun H hO hS=>hsp w H a ns hlen hO hS) fun H e s'=>hCX w H s₁ e s'
end L2
namespace L2
open PySem PySem.Spec PyProof.Rows
noncomputable def inClass(s:Stmt)(j:Nat):Stmt:=match s with
 | .ClassDef _ _ _ body _ _ _ _ _ _ _=>body.getD j (.Pass ⟨0,0,0,0⟩)
 | _=>.Pass ⟨0,0,0,0⟩
noncomputable def abr(s:Stmt):Arguments:=match s with
 | .FunctionDef _ a _ _ _ _ _ _ _ _=>a
 | _=>{ posonlyargs:=[],args:=[],vararg:=none,kwonlyargs:=[],kw_defaults:=[],kwarg:=none,defaults:=[] }
noncomputable def aaO(s:Stmt):List Stmt:=match s with
 | .FunctionDef _ _ b _ _ _ _ _ _ _=>b
 | _=>[]
noncomputable def aad(s:Stmt):Scope:=match s with
 | .FunctionDef _ _ _ _ _ _ sc _ _ _=>sc
 | _=>{ kind:=.function,names:=[],isGenerator:=false,isCoroutine:=false }
noncomputable abbrev CX0:CXT:=fun _ _ _ _ _ _=>False
noncomputable abbrev E0:XK:=fun _ _ _=>False
structure Fun(K:PySem.W.Frag)(x qual:Str)(st:Stmt)(f:Addr)(fd:FuncData):Prop where
 ex:∃(oc:Value) (od:Option Addr) (kV doc pm:Value) (an:Option Addr) (cdv ct:Value) (osl:Array (Option Value)),
  fd=PySem.W.fnOf x qual (abr st) (aaO st) (aad st) .none kV doc pm an cdv ct∧K.lookup f=some ⟨oc,od,.func fd,osl⟩∧PySem.W.codeIn K cdv qual=true
 kp:PySem.W.keepIn K (.ref f)=true
section
variable{P:Program}{w:World}{K:PySem.W.Frag}{mg:Str→Option Value}{base:Heap}
theorem Fun.ok{x qual:Str}{st:Stmt}{f:Addr}{fd:FuncData}{N ps:List Str}{k:Nat}{sp:Sp}(F:Fun K x qual st f fd)(S:FnScope N ps (aad st))(len:∀vs H Q E,sp vs H Q E→vs.length=ps.length)
  (hbody:∀(cdv:Value) (A:Around) (outer:List Env) (s:Shared) (H:Hp) (vs:List V) (Q:VK) (E:XK),Room k (A.deeper (envOfC qual (aad st) s.heap.objs.size f cdv))→sp vs H Q E→
   ∃t,PSs (adw CX0 P w K mg base N qual (aad st) f cdv A outer s H E).nox (aaO st) t∧t { nx:=fun _ H'=>Q .non H',rt:=Q } (start N vs) H):FnOk P w K mg base CX0 (k+1) f fd ps sp:=by
 obtain⟨oc,od,kV,doc,pm,an,cdv,ct,osl,rfl,lk,hcd⟩:=F.ex
 refine ang lk hcd S len fun A outer s H vs Q E hr hsp=>?_
 obtain⟨t,h,q⟩:=hbody cdv A outer s H vs Q E hr hsp
 exact⟨t,h.nox,q⟩
theorem Fun.binds{x qual:Str}{st:Stmt}{f:Addr}{fd:FuncData}{ps:List Str}(F:Fun K x qual st f fd)
  (h:∀(kV doc pm:Value) (an:Option Addr) (cdv ct:Value) (us:List Value),us.length=ps.length→bindArgs (PySem.W.fnOf x qual (abr st) (aaO st) (aad st) .none kV doc pm an cdv ct) ⟨us,[]⟩=pure (ps.zip us)):abY K fd ps []:=by
 obtain⟨oc,od,kV,doc,pm,an,cdv,ct,osl,rfl,lk,hcd⟩:=F.ex
 exact .all (h kV doc pm an cdv ct)
end
theorem ar3{A:Around}{k:Nat}(hr:Room k A):A.units+1<cLine:=Nat.lt_of_le_of_lt (Nat.add_le_add_left (by decide:1≤64) _) hr.units
theorem am0{A B:Prop}(h:B):if false=true then A else B:=by
 rw[if_neg Bool.false_ne_true]
 exact h
theorem amz{A B:Prop}(h:A):if true=true then A else B:=by
 rw[if_pos rfl]
 exact h
noncomputable def aiL(H H':Hp):Prop:=∀b o,H b=some o→H' b=some o
theorem aiL.refl(H:Hp):aiL H H:=fun _ _ h=>h
theorem aiL.trans{H H1 H2:Hp}(a:aiL H H1)(b:aiL H1 H2):aiL H H2:=fun c o h=>b c o (a c o h)
theorem aiL.free{H H':Hp}(e:aiL H H'){l:Addr}(h:H' l=Option.none):H l=Option.none:=by
 cases q:H l with
 | none=>rfl
 | some o=>
  rw[e l o q]at h
  cases h
theorem aiL.seq{K:PySem.W.Frag}{H H':Hp}{a:Addr}{xs:List V}(e:aiL H H')(h:SqL K H a xs):SqL K H' a xs:=by
 rcases h with(h|⟨o,h⟩)|h
 ·exact .inl (.inl (e _ _ h))
 ·exact .inl (.inr ⟨o,e _ _ h⟩)
 ·exact .inr h
end L2
end
section
namespace IP
open PySem (Str)
inductive T where
 | non|bl (b:Bool)|int (i:Int)|str (x:Str)|tup (xs:List T)|lst (xs:List T)|loc (l:Nat)|exc (c:Nat)
 deriving Inhabited
inductive R where
 | val (t:T)|bor (ts:List T)
inductive B where
 | val (t:T)|own (ts:List T)|bor (ts:List T)|lck (ts:List T)
 deriving Inhabited
noncomputable abbrev Fr:=List (Option B)
inductive Cell where
 | lst (ts:List T)|ins (c:Nat) (fs:List (Option T))|tbl (k:Nat) (p:PySem.Pos) (q:PySem.Str)
noncomputable abbrev Sto:=List Cell
inductive Res(α:Type)where
 | stuck|ok (a:α) (s:Sto)|exc (c:Nat) (s:Sto)
noncomputable def Res.bind{α β:Type}(m:Res α)(k:α→Sto→Res β):Res β:=match m with
 | .stuck=>.stuck
 | .ok a s=>k a s
 | .exc c s=>.exc c s
@[simp] theorem Res.bind_ok {α β:Type} (a:α) (s:Sto) (k:α→Sto→Res β):(Res.ok a s).bind k=k a s:=rfl
@[simp] theorem Res.bind_exc {α β:Type} (c:Nat) (s:Sto) (k:α→Sto→Res β):(Res.exc c s:Res α).bind k=.exc c s:=rfl
@[simp] theorem Res.bind_stuck {α β:Type} (k:α→Sto→Res β):(Res.stuck:Res α).bind k=.stuck:=rfl
noncomputable def Res.of{α:Type}(o:Option α)(s:Sto):Res α:=match o with
 | none=>.stuck
 | some a=>.ok a s
@[simp] theorem Res.of_some {α:Type} (a:α) (s:Sto):Res.of (some a) s=.ok a s:=rfl
@[simp] theorem Res.of_none {α:Type} (s:Sto):Res.of (none:Option α) s=.stuck:=rfl
inductive Op where|add|sub|mul|fdiv|mod|pow
inductive Cm where|lt|le|gt|ge|eq|ne|isN|notN|mem|nmem
inductive Bi where|len|abs|int|list|tuple|any|all|min|max|sorted|str
inductive Ty where|int|bool|tuple|list|str|cls(c:Nat)
inductive Tg where|one(i:Nat)|many(is:List Nat)
inductive E where
 | var (i:Nat)
 | cst (t:T)
 | glb (x:Str) (i:Int)
 | bin (o:Op) (a b:E)
 | neg (a:E)
 | not (a:E)
 | cmp (c:Cm) (a b:E)
 | and (a b:E)|or (a b:E)
 | ife (c a b:E)
 | tup (es:List E)|lst (es:List E)
 | sub (a b:E)
 | cutL (a lo:E)|cutU (a hi:E)|cutLU (a lo hi:E)|rev (a:E)
 | b1 (f:Bi) (a:E)
 | mn2 (a b:E)|mx2 (a b:E)
 | mxd (a d:E)|mnd (a d:E)
 | mnk (a:E) (i j l k:Nat) (p:PySem.Pos) (q:Str)|sok (a:E) (i:Nat) (k:E)
 | isi (a:E) (c:Ty)
 | call (f:Nat) (es:List E) (ds:List T)
 | comp (elt:E) (tg:Tg) (it:E)
 | compIf (elt:E) (tg:Tg) (it c:E)
 | rng1 (a:E)|rng2 (a b:E)|enm (a:E)|zip (a b:E)
 | fld (a:E) (c f:Nat)|cell (a:E)|new (c f n:Nat) (es:List E) (ds:List T)|meth (a:E) (c f:Nat) (es:List E) (ds:List T)
 | compC (elt:E) (tg:Tg) (it:E)
 | cmpD (c:Cm) (a b:E)
 deriving Inhabited
inductive S where
 | asg (i:Nat) (e:E)
 | asgT (is:List Nat) (e:E)
 | mk (i:Nat) (e:E)
 | app (i:Nat) (e:E)
 | ext (i:Nat) (e:E)
 | put (i:Nat) (j e:E)
 | pop (k i:Nat)
 | frz (i:Nat)
 | ifs (c:E) (a b:List S)
 | whl (c:E) (b:List S)
 | for_ (tg:Tg) (it:E) (b:List S)
 | ret (e:E)
 | retO (e:E)
 | retV (i:Nat)
 | exp (e:E)
 | raise (c:Nat)
 | putL (a j e:E)|appL (a e:E)|setF (a:E) (c f:Nat) (e:E)|popL (a:E)|clrL (a:E)|forC (tg:Tg) (it:E) (b:List S)
 | try_ (b:List S) (c:Nat) (nm:Option Nat) (h:List S)
 | pass
 deriving Inhabited
noncomputable def eqL(f:T→T→Option Bool):List T→List T→Option Bool
 | [],[]=>some true
 | [],_::_=>some false
 | _::_,[]=>some false
 | a::r,b::q=>match f a b,eqL f r q with
  | some k,some k'=>some (k&&k')
  | _,_=>none
noncomputable def eqD:Nat→T→T→Option Bool
 | _,.non,.non=>some true
 | _,.bl a,.bl b=>some (a==b)
 | _,.int a,.int b=>some (a==b)
 | _,.str a,.str b=>some (a==b)
 | n+1,.tup a,.tup b=>eqL (eqD n) a b
 | n+1,.lst a,.lst b=>eqL (eqD n) a b
 | _,.non,.int _=>some false
 | _,.int _,.non=>some false
 | _+1,.non,.tup _=>some false
 | _+1,.tup _,.non=>some false
 | _,_,_=>none
noncomputable abbrev eqT:T→T→Option Bool:=eqD 8
noncomputable abbrev arp:List T→List T→Option Bool:=eqL (eqD 7)
noncomputable def big:Nat:=10^300
noncomputable def amC(i j:Int):Bool:=decide (i.natAbs<2^64)||decide (j.natAbs<2^64)||(decide (i.natAbs<big)&&decide (j.natAbs<big))
noncomputable def lim:Nat:=1000000
noncomputable def R.seq:R→Option (List T)
 | .val (.lst ts)=>some ts
 | .bor ts=>some ts
 | _=>none
noncomputable def R.sq2:R→Option (List T)
 | .val (.lst ts)=>some ts
 | .val (.tup ts)=>some ts
 | .bor ts=>some ts
 | _=>none
noncomputable def R.dr(s:Sto):R→R
 | .val (.loc l)=>match s[l]? with
  | some (.lst ts)=>.bor ts
  | _=>.val (.loc l)
 | r=>r
noncomputable def opI:Op→Int→Int→Option Int
 | .add,i,j=>some (i+j)
 | .sub,i,j=>some (i-j)
 | .mul,i,j=>if amC i j then some (i*j)else none
 | .fdiv,i,j=>if j≠0∧j.natAbs<big then some (Int.fdiv i j)else none
 | .mod,i,j=>if j≠0 then some (Int.fmod i j)else none
 | .pow,i,j=>if 0≤j∧j≤100∧i.natAbs<big then some (i^j.toNat)else none
noncomputable def opR(o:Op)(x y:R):Option R:=match o,x,y with
 | o,.val (.int i),.val (.int j)=>(opI o i j).map fun k=>.val (.int k)
 | .add,.val (.tup xs),.val (.tup ys)=>if xs≠[]∧ys≠[]∧xs.length+ys.length≤lim then some (.val (.tup (xs++ys)))else none
 | .add,x,y=>match x.seq,y.seq with
  | some xs,some ys=>if xs.length+ys.length≤lim then some (.val (.lst (xs++ys)))else none
  | _,_=>none
 | _,_,_=>none
noncomputable def aaC:List T→Option (List Int)
 | []=>some []
 | .int i::r=>(aaC r).map (i::·)
 | _=>none
noncomputable def aaN:List T→Option (List Bool)
 | []=>some []
 | .bl b::r=>(aaN r).map (b::·)
 | _=>none
noncomputable def R.int?:R→Option Int
 | .val (.int i)=>some i
 | _=>none
noncomputable def R.isNon:R→Bool
 | .val .non=>true
 | _=>false
noncomputable def R.tup?:R→Option (List T)
 | .val (.tup ts)=>some ts
 | .val (.lst ts)=>some ts
 | _=>none
noncomputable def R.val?:R→Option T
 | .val t=>some t
 | _=>none
noncomputable def tru:R→Option Bool
 | .val .non=>some false
 | .val (.bl b)=>some b
 | .val (.int i)=>some (i != 0)
 | .val (.lst ts)=>some (!ts.isEmpty)
 | .val (.tup ts)=>some (!ts.isEmpty)
 | .bor ts=>some (!ts.isEmpty)
 | _=>none
noncomputable def eqR:R→R→Option Bool
 | .val a,.val b=>eqT a b
 | .val (.lst a),.bor b=>arp a b
 | .bor a,.val (.lst b)=>arp a b
 | .bor a,.bor b=>arp a b
 | _,_=>none
noncomputable def aiR(x:T):List T→Option Bool
 | []=>some false
 | y::r=>match eqT y x,aiR x r with
  | some k,some k'=>some (k||k')
  | _,_=>none
noncomputable def adr(c:Cm)(x y:R):Option Bool:=match c with
 | .lt=>do let i ←x.int?;let j ←y.int?;some (decide (i<j))
 | .le=>do let i ←x.int?;let j ←y.int?;some (decide (i≤j))
 | .gt=>do let i ←x.int?;let j ←y.int?;some (decide (j<i))
 | .ge=>do let i ←x.int?;let j ←y.int?;some (decide (j≤i))
 | .eq=>eqR x y
 | .ne=>(eqR x y).map (!·)
 | .isN=>match y with
  | .val .non=>some x.isNon
  | _=>none
 | .notN=>match y with
  | .val .non=>some (!x.isNon)
  | _=>none
 | .mem=>do let t ←x.val?;let ts ←y.sq2;aiR t ts
 | .nmem=>do let t ←x.val?;let ts ←y.sq2;(aiR t ts).map (!·)
noncomputable def aaW(x:R)(i:Int):Option T:=match x.sq2 with
 | some ts=>L2.atI ts i
 | none=>none
noncomputable def an2(ts:List T)(lo hi:Option Int):List T:=(ts.drop (HT.sIx ts.length 0 lo)).take (HT.sIx ts.length ts.length hi-HT.sIx ts.length 0 lo)
noncomputable def amq(x:R)(lo hi:Option Int):Option R:=match x with
 | .val (.tup ts)=>if HT.sIx ts.length 0 lo=0∧HT.sIx ts.length ts.length hi=ts.length then none else some (.val (.tup (an2 ts lo hi)))
 | .val (.lst ts)=>some (.val (.lst (an2 ts lo hi)))
 | .bor ts=>some (.val (.lst (an2 ts lo hi)))
 | _=>none
noncomputable def ap7(i j:Nat):T→Option (Int×Int)
 | .tup ts=>match ts[i]?,ts[j]? with
  | some (.int x),some (.int y)=>some (x,y)
  | _,_=>none
 | _=>none
noncomputable def agS(i j:Nat):List T→Option (List (Int×Int))
 | []=>some []
 | t::r=>match ap7 i j t,agS i j r with
  | some x,some y=>some (x::y)
  | _,_=>none
noncomputable def lt2(a b:Int×Int):Bool:=decide (a.1<b.1)||(decide (a.1=b.1)&&decide (a.2<b.2))
noncomputable def adz:Int×Int→T→List ((Int×Int)×T)→T
 | _,t,[]=>t
 | k,t,(k',t')::r=>if lt2 k' k then adz k' t' r else adz k t r
noncomputable def aeB(s:Sto)(l k:Nat)(p:PySem.Pos)(q:Str):Bool:=match s[l]? with
 | some (.tbl k' p' q')=>decide (k'=k)&&decide (p'=p)&&decide (q'=q)
 | _=>false
noncomputable def am1(i j:Nat)(ts:List T):Option T:=match agS i j ts,ts with
 | some (k::ks),t::r=>some (adz k t (ks.zip r))
 | _,_=>none
noncomputable def ahi:List Int→Option Int
 | []=>none
 | a::r=>some (r.foldl (fun m x=>if x<m then x else m) a)
noncomputable def aes:List Int→Option Int
 | []=>none
 | a::r=>some (r.foldl (fun m x=>if x>m then x else m) a)
noncomputable def agX(x:Int):List Int→List Int
 | []=>[x]
 | y::r=>if x<y then x::y::r else y::agX x r
noncomputable def aed(xs:List Int):List Int:=xs.foldl (fun acc x=>agX x acc) []
noncomputable def b1R(f:Bi)(x:R):Option R:=match f with
 | .len=>x.sq2.map fun ts=>.val (.int ts.length)
 | .abs=>x.int?.map fun i=>.val (.int (if i<0 then -i else i))
 | .int=>match x with | .val (.int i)=>some (.val (.int i)) | .val (.bl b)=>some (.val (.int (if b then 1 else 0))) | _=>none
 | .list=>x.sq2.map fun ts=>.val (.lst ts)
 | .tuple=>x.sq2.map fun ts=>.val (.tup ts)
 | .any=>do let ts ←x.seq;let bs ←aaN ts;some (.val (.bl (bs.any id)))
 | .all=>do let ts ←x.seq;let bs ←aaN ts;some (.val (.bl (bs.all id)))
 | .min=>do let ts ←x.seq;let is ←aaC ts;(ahi is).map fun i=>.val (.int i)
 | .max=>do let ts ←x.seq;let is ←aaC ts;(aes is).map fun i=>.val (.int i)
 | .sorted=>do let ts ←x.seq;let is ←aaC ts;if is.length<64 then some (.val (.lst ((aed is).map .int)))else none
 | .str=>none
noncomputable def anc(x:R)(c:Ty):Option Bool:=match x,c with
 | .val (.int _),.int=>some true | .val (.bl _),.int=>some true | .val (.tup _),.int=>some false | .val (.lst _),.int=>some false | .val .non,.int=>some false | .bor _,.int=>some false
 | .val (.int _),.bool=>some false | .val (.bl _),.bool=>some true | .val (.tup _),.bool=>some false | .val (.lst _),.bool=>some false | .val .non,.bool=>some false
 | .val (.tup _),.tuple=>some true | .val (.int _),.tuple=>some false | .val (.bl _),.tuple=>some false | .val (.lst _),.tuple=>some false | .val .non,.tuple=>some false
 | .val (.lst _),.list=>some true | .bor _,.list=>some true | .val (.tup _),.list=>some false | .val (.int _),.list=>some false | .val .non,.list=>some false
 | _,_=>none
noncomputable def afi(sub:Nat→Nat→Bool)(x:R)(c:Ty):Option Bool:=match x,c with
 | .val (.exc d),.cls k=>some (sub d k)
 | x,c=>anc x c
noncomputable def enT:Nat→List T→List T
 | _,[]=>[]
 | n,t::ts=>.tup [.int n,t]::enT (n+1) ts
noncomputable def ziT:List T→List T→List T
 | a::as,b::bs=>.tup [a,b]::ziT as bs
 | _,_=>[]
noncomputable def ahB(s:Sto)(x:R)(c f:Nat):Option T:=match x with
 | .val (.loc l)=>match s[l]? with
  | some (.ins d fs)=>if d=c then(fs[f]?).join else none
  | _=>none
 | _=>none
noncomputable def R.locL(s:Sto):R→Option (Nat×List T)
 | .val (.loc l)=>match s[l]? with
  | some (.lst ts)=>some (l,ts)
  | _=>none
 | _=>none
noncomputable def R.locI(s:Sto)(c:Nat):R→Option (Nat×List (Option T))
 | .val (.loc l)=>match s[l]? with
  | some (.ins d fs)=>if d=c then some (l,fs)else none
  | _=>none
 | _=>none
noncomputable def look(σ:Fr)(i:Nat):Option R:=match σ[i]? with
 | some (some (.val t))=>some (.val t)
 | some (some (.own ts))=>some (.bor ts)
 | some (some (.bor ts))=>some (.bor ts)
 | some (some (.lck ts))=>some (.bor ts)
 | _=>none
noncomputable def put(σ:Fr)(i:Nat)(t:T):Fr:=σ.set i (some (.val t))
noncomputable def puts(σ:Fr):List Nat→List T→Option Fr
 | [],[]=>some σ
 | i::is,t::ts=>puts (put σ i t) is ts
 | _,_=>none
noncomputable def aap(σ:Fr)(g:Tg)(t:T):Option Fr:=match g with
 | .one i=>some (put σ i t)
 | .many is=>match t with
  | .tup ts=>puts σ is ts
  | .lst ts=>puts σ is ts
  | _=>none
inductive SR where
 | stuck|next (σ:Fr) (s:Sto)|ret (r:R) (s:Sto)|retO (ts:List T) (s:Sto)|exc (c:Nat) (σ:Fr) (s:Sto)
structure Cf where
 cf:Nat→List R→Sto→Res R
 sub:Nat→Nat→Bool
 fr:Nat→Bool
 wl:(Fr→Sto→Res Bool)→(Fr→Sto→SR)→Fr→Sto→SR
noncomputable def aeF:Option T→List T→List T
 | some x,q=>x::q
 | none,q=>q
@[simp] theorem am3 (x:T) (q:List T):aeF (some x) q=x::q:=rfl
@[simp] theorem agW (q:List T):aeF none q=q:=rfl
noncomputable def aas(f:T→Sto→Res (Option T)):List T→Sto→Res (List T)
 | [],s=>.ok [] s
 | t::ts,s=>(f t s).bind fun r s1=>(aas f ts s1).bind fun q s2=>.ok (aeF r q) s2
noncomputable def aa4(i j:Int):List T:=(List.range (j-i).toNat).map fun(k:Nat)=>T.int (i+k)
noncomputable def bnd(i:Int):Bool:=decide (-(2^62)≤i)&&decide (i<2^62)
inductive Md where|v|t|i|j
noncomputable def R.sq3:R→Option (List T)
 | .val (.lst ts)=>some ts
 | .val (.tup ts)=>some ts
 | _=>none
noncomputable def fin(m:Md)(r:Res R):Res R:=match m with
 | .v=>r
 | .t=>r.bind fun x s=>.of ((tru x).map fun k=>.val (.bl k)) s
 | .i=>r.bind fun x s=>.of (x.sq2.map fun ts=>.val (.lst ts)) s
 | .j=>r.bind fun x s=>.of (x.sq3.map fun ts=>.val (.lst ts)) s
@[simp] theorem ahJ (r:Res R):fin .v r=r:=rfl
@[simp] theorem avS (r:Res R):fin .t r=r.bind fun x s=>.of ((tru x).map fun k=>.val (.bl k)) s:=rfl
@[simp] theorem ary (r:Res R):fin .j r=r.bind fun x s=>.of (x.sq3.map fun ts=>.val (.lst ts)) s:=rfl
@[simp] theorem avD (r:Res R):fin .i r=r.bind fun x s=>.of (x.sq2.map fun ts=>.val (.lst ts)) s:=rfl
noncomputable def onB(x:R)(a b:Res R):Res R:=match x with
 | .val (.bl true)=>a
 | .val (.bl false)=>b
 | _=>.stuck
noncomputable def onI(x:R)(f:Int→Res R):Res R:=match x with
 | .val (.int i)=>f i
 | _=>.stuck
noncomputable def onL(x:R)(f:List T→Res R):Res R:=match x with
 | .val (.lst ts)=>f ts
 | _=>.stuck
noncomputable def onV(x:R)(f:T→Res (List T)):Res (List T):=match x with
 | .val t=>f t
 | _=>.stuck
noncomputable def one(m:Res R):Res (Option T):=match m with
 | .ok r s=>.of (r.val?.map some) s
 | .exc c s=>.exc c s
 | .stuck=>.stuck
noncomputable def onO{α β:Type}(o:Option α)(f:α→Res β):Res β:=match o with
 | some a=>f a
 | none=>.stuck
noncomputable def onN(x:R)(m:Res R):Res R:=match x with
 | .val .non=>m
 | _=>.stuck
open Classical in
noncomputable def asR{α:Type}(l:Nat)(ts:List T)(m:Res α):Res α:=match m with
 | .ok a s=>if s[l]?=some (.lst ts)then .ok a s else .stuck
 | r=>r
noncomputable def amx(m:Md)(r:Res R):Res R:=match m with | .i=>r | .j=>r | _=>.stuck
mutual
noncomputable def ev(C:Cf):E→Md→Fr→Sto→Res R
 | .var i,m,σ,s=>fin m (.of (look σ i) s)
 | .cst t,m,_,s=>fin m (.ok (.val t) s)
 | .glb _ i,m,_,s=>fin m (.ok (.val (.int i)) s)
 | .bin o a b,m,σ,s=>fin m ((ev C a .v σ s).bind fun x s1=>(ev C b .v σ s1).bind fun y s2=>.of (opR o x y) s2)
 | .neg a,m,σ,s=>fin m ((ev C a .v σ s).bind fun x s1=>.of (x.int?.map fun i=>.val (.int (-i))) s1)
 | .not a,.t,σ,s=>(ev C a .t σ s).bind fun x s1=>onB x (.ok (.val (.bl false)) s1) (.ok (.val (.bl true)) s1)
 | .not a,m,σ,s=>fin m ((ev C a .v σ s).bind fun x s1=>.of ((tru x).map fun k=>.val (.bl (!k))) s1)
 | .cmp c a b,m,σ,s=>fin m ((ev C a .v σ s).bind fun x s1=>(ev C b .v σ s1).bind fun y s2=>.of ((adr c x y).map fun k=>.val (.bl k)) s2)
 | .and a b,.t,σ,s=>(ev C a .t σ s).bind fun x s1=>onB x (ev C b .t σ s1) (.ok (.val (.bl false)) s1)
 | .or a b,.t,σ,s=>(ev C a .t σ s).bind fun x s1=>onB x (.ok (.val (.bl true)) s1) (ev C b .t σ s1)
 | .and a b,m,σ,s=>fin m ((ev C a .v σ s).bind fun x s1=>onB x (ev C b .v σ s1) (.ok (.val (.bl false)) s1))
 | .or a b,m,σ,s=>fin m ((ev C a .v σ s).bind fun x s1=>onB x (.ok (.val (.bl true)) s1) (ev C b .v σ s1))
 | .ife c a b,m,σ,s=>fin m ((ev C c .t σ s).bind fun x s1=>onB x (ev C a .v σ s1) (ev C b .v σ s1))
 | .tup es,m,σ,s=>fin m ((evs C es σ s).bind fun ts s1=>.ok (.val (.tup ts)) s1)
 | .lst es,m,σ,s=>fin m ((evs C es σ s).bind fun ts s1=>.ok (.val (.lst ts)) s1)
 | .sub a b,m,σ,s=>fin m ((ev C a .v σ s).bind fun x s1=>(ev C b .v σ s1).bind fun y s2=>onI y fun i=>.of ((aaW (x.dr s2) i).map .val) s2)
 | .cutL a l,m,σ,s=>fin m ((ev C a .v σ s).bind fun x s1=>(ev C l .v σ s1).bind fun y s2=>onI y fun i=>.of (amq (x.dr s2) (some i) none) s2)
 | .cutU a h,m,σ,s=>fin m ((ev C a .v σ s).bind fun x s1=>(ev C h .v σ s1).bind fun y s2=>onI y fun i=>.of (amq (x.dr s2) none (some i)) s2)
 | .cutLU a l h,m,σ,s=>fin m ((ev C a .v σ s).bind fun x s1=>(ev C l .v σ s1).bind fun y s2=>onI y fun i=>(ev C h .v σ s2).bind fun z s3=>onI z fun j=>.of (amq (x.dr s3) (some i) (some j)) s3)
 | .rev a,m,σ,s=>fin m ((ev C a .v σ s).bind fun x s1=>.of (x.seq.map fun ts=>.val (.lst ts.reverse)) s1)
 | .b1 f a,m,σ,s=>fin m ((ev C a .v σ s).bind fun x s1=>.of (b1R f (x.dr s1)) s1)
 | .mn2 a b,m,σ,s=>fin m ((ev C a .v σ s).bind fun x s1=>(ev C b .v σ s1).bind fun y s2=>.of (do let i ←x.int?;let j ←y.int?;some (.val (.int (if j<i then j else i)))) s2)
 | .mx2 a b,m,σ,s=>fin m ((ev C a .v σ s).bind fun x s1=>(ev C b .v σ s1).bind fun y s2=>.of (do let i ←x.int?;let j ←y.int?;some (.val (.int (if j>i then j else i)))) s2)
 | .mxd a d,m,σ,s=>fin m ((ev C a .v σ s).bind fun x s1=>(ev C d .v σ s1).bind fun y s2=>.of (do let ts ←x.seq;let is ←aaC ts;let d ←y.int?;some (.val (.int ((aes is).getD d)))) s2)
 | .mnd a d,m,σ,s=>fin m ((ev C a .v σ s).bind fun x s1=>(ev C d .v σ s1).bind fun y s2=>.of (do let ts ←x.seq;let is ←aaC ts;let d ←y.int?;some (.val (.int ((ahi is).getD d)))) s2)
 | .mnk a i j l k p q,m,σ,s=>fin m ((ev C a .v σ s).bind fun x s1=>.of (if aeB s1 l k p q then x.seq.bind fun ts=>(am1 i j ts).map .val else none) s1)
 | .sok _ _ _,_,_,_=>.stuck
 | .isi a c,m,σ,s=>fin m ((ev C a .v σ s).bind fun x s1=>.of ((afi C.sub (x.dr s1) c).map fun k=>.val (.bl k)) s1)
 | .call f es ds,m,σ,s=>fin m ((evr C es σ s).bind fun rs s1=>C.cf f (rs++ds.map .val) s1)
 | .comp e g it,m,σ,s=>fin m ((ev C it .i σ s).bind fun x s1=>onL x fun ts=>(aas (fun t s=>onO (aap σ g t) fun σ'=>one (ev C e .v σ' s)) ts s1).bind fun q s2=>.ok (.val (.lst q)) s2)
 | .compIf e g it c,m,σ,s=>fin m ((ev C it .i σ s).bind fun x s1=>onL x fun ts=>(aas (fun t s=>onO (aap σ g t) fun σ'=>
   match ev C c .t σ' s with
   | .ok (.val (.bl true)) s2=>one (ev C e .v σ' s2)
   | .ok (.val (.bl false)) s2=>.ok none s2
   | .exc c s2=>.exc c s2
   | _=>.stuck) ts s1).bind fun q s2=>.ok (.val (.lst q)) s2)
 | .rng1 a,m,σ,s=>amx m ((ev C a .v σ s).bind fun x s1=>onI x fun j=>if bnd j&&decide (j≤lim)then .ok (.val (.lst (aa4 0 j))) s1 else .stuck)
 | .rng2 a b,m,σ,s=>amx m ((ev C a .v σ s).bind fun x s1=>onI x fun i=>(ev C b .v σ s1).bind fun y s2=>onI y fun j=>if bnd i&&bnd j&&decide (j-i≤lim)then .ok (.val (.lst (aa4 i j))) s2 else .stuck)
 | .enm a,m,σ,s=>amx m ((ev C a .v σ s).bind fun x s1=>onL x fun ts=>.ok (.val (.lst (enT 0 ts))) s1)
 | .zip a b,m,σ,s=>amx m ((ev C a .v σ s).bind fun x s1=>(ev C b .v σ s1).bind fun y s2=>onL x fun ts=>onL y fun us=>.ok (.val (.lst (ziT ts us))) s2)
 | .fld a c f,m,σ,s=>fin m ((ev C a .v σ s).bind fun x s1=>.of ((ahB s1 x c f).map .val) s1)
 | .cell a,m,σ,s=>fin m ((ev C a .v σ s).bind fun x s1=>onL x fun ts=>.ok (.val (.loc s1.length)) (s1++[.lst ts]))
 | .new c f n es ds,m,σ,s=>fin m ((evr C es σ s).bind fun rs s1=>(C.cf f (.val (.loc s1.length)::rs++ds.map .val) (s1++[.ins c (List.replicate n none)])).bind fun r s2=>onN r (.ok (.val (.loc s1.length)) s2))
 | .meth a c f es ds,m,σ,s=>fin m ((ev C a .v σ s).bind fun x s1=>onO (x.locI s1 c) fun _=>(evr C es σ s1).bind fun rs s2=>C.cf f (x::rs++ds.map .val) s2)
 | .compC e g it,m,σ,s=>fin m ((ev C it .v σ s).bind fun x s1=>onO (x.locL s1) fun p=>(aas (fun t s=>onO (aap σ g t) fun σ'=>asR p.1 p.2 (one (ev C e .v σ' s))) p.2 s1).bind fun q s2=>.ok (.val (.lst q)) s2)
 | .cmpD c a b,m,σ,s=>fin m ((ev C a .v σ s).bind fun x s1=>(ev C b .v σ s1).bind fun y s2=>.of ((adr c (x.dr s2) (y.dr s2)).map fun k=>.val (.bl k)) s2)
noncomputable def evs(C:Cf):List E→Fr→Sto→Res (List T)
 | [],_,s=>.ok [] s
 | e::es,σ,s=>(ev C e .v σ s).bind fun x s1=>onV x fun t=>(evs C es σ s1).bind fun ts s2=>.ok (t::ts) s2
noncomputable def evr(C:Cf):List E→Fr→Sto→Res (List R)
 | [],_,s=>.ok [] s
 | e::es,σ,s=>(ev C e .v σ s).bind fun x s1=>(evr C es σ s1).bind fun xs s2=>.ok (x::xs) s2
end
noncomputable def frz(σ:Fr)(i:Nat):Fr:=match σ[i]? with
 | some (some (.own ts))=>σ.set i (some (.val (.lst ts)))
 | _=>σ
noncomputable def aaH(σ:Fr)(i:Nat)(ts:List T):Fr:=σ.set i (some (.own ts))
noncomputable def acd(σ:Fr)(i:Nat):Option (List T):=match σ[i]? with
 | some (some (.own ts))=>some ts
 | _=>none
noncomputable def R.sto(r:R):Option T:=r.val?
noncomputable def Res.st(m:Res R)(σ:Fr)(k:R→Sto→SR):SR:=match m with
 | .stuck=>.stuck
 | .ok a s=>k a s
 | .exc c s=>.exc c σ s
@[simp] theorem Res.st_ok (a:R) (s:Sto) (σ:Fr) (k:R→Sto→SR):(Res.ok a s).st σ k=k a s:=rfl
@[simp] theorem Res.st_exc (c:Nat) (s:Sto) (σ:Fr) (k:R→Sto→SR):(Res.exc c s).st σ k=.exc c σ s:=rfl
noncomputable def SR.bind(m:SR)(k:Fr→Sto→SR):SR:=match m with
 | .next σ s=>k σ s
 | r=>r
@[simp] theorem SR.bind_next (σ:Fr) (s:Sto) (k:Fr→Sto→SR):(SR.next σ s).bind k=k σ s:=rfl
@[simp] theorem SR.bind_ret (r:R) (s:Sto) (k:Fr→Sto→SR):(SR.ret r s).bind k=.ret r s:=rfl
@[simp] theorem SR.bind_retO (ts:List T) (s:Sto) (k:Fr→Sto→SR):(SR.retO ts s).bind k=.retO ts s:=rfl
@[simp] theorem SR.bind_exc (c:Nat) (σ:Fr) (s:Sto) (k:Fr→Sto→SR):(SR.exc c σ s).bind k=.exc c σ s:=rfl
@[simp] theorem SR.bind_stuck (k:Fr→Sto→SR):SR.stuck.bind k=.stuck:=rfl
noncomputable def onS{α:Type}(o:Option α)(f:α→SR):SR:=match o with
 | some a=>f a
 | none=>.stuck
@[simp] theorem apH {α:Type} (a:α) (f:α→SR):onS (some a) f=f a:=rfl
@[simp] theorem ap5 {α:Type} (f:α→SR):onS none f=.stuck:=rfl
noncomputable def asP(x:R)(a b:SR):SR:=match x with
 | .val (.bl true)=>a
 | .val (.bl false)=>b
 | _=>.stuck
noncomputable def R.lst?:R→Option (List T)
 | .val (.lst ts)=>some ts
 | _=>none
noncomputable def aaX(g:Tg)(body:Fr→Sto→SR):List T→Fr→Sto→SR
 | [],σ,s=>.next σ s
 | t::ts,σ,s=>onS (aap σ g t) fun σ'=>(body σ' s).bind fun σ2 s2=>aaX g body ts σ2 s2
open Classical in
noncomputable def forC(g:Tg)(body:Fr→Sto→SR)(l:Nat)(all:List T):List T→Fr→Sto→SR
 | [],σ,s=>if s[l]?=some (.lst all)then .next σ s else .stuck
 | t::ts,σ,s=>if s[l]?=some (.lst all)then onS (aap σ g t) fun σ'=>(body σ' s).bind fun σ2 s2=>forC g body l all ts σ2 s2 else .stuck
noncomputable def SR.nox(r:SR):SR:=match r with
 | .exc _ _ _=>.stuck
 | r=>r
noncomputable def lock(σ:Fr)(i:Nat):Fr:=match σ[i]? with
 | some (some (.own ts))=>σ.set i (some (.lck ts))
 | _=>σ
noncomputable def unlock(σ:Fr)(i:Nat):Fr:=match σ[i]? with
 | some (some (.lck ts))=>σ.set i (some (.own ts))
 | _=>σ
noncomputable def SR.unlock(r:SR)(i:Nat):SR:=match r with
 | .next σ s=>.next (IP.unlock σ i) s
 | .exc c σ s=>.exc c (IP.unlock σ i) s
 | r=>r
noncomputable def abg(σ:Fr)(i:Nat):Bool:=match σ[i]? with
 | some (some (.own _))=>true
 | _=>false
noncomputable def adD(C:Cf):E→Bool
 | .lst _=>true | .comp _ _ _=>true | .compIf _ _ _ _=>true | .b1 .list _=>true | .rev _=>true | .bin .add _ _=>true | .call f _ _=>C.fr f | _=>false
mutual
noncomputable def ex(C:Cf):S→Fr→Sto→SR
 | .asg i e,σ,s=>(ev C e .v σ s).st σ fun x s1=>onS x.val? fun t=>.next (put σ i t) s1
 | .asgT is e,σ,s=>(ev C e .v σ s).st σ fun x s1=>onS x.tup? fun ts=>onS (puts σ is ts) fun σ'=>.next σ' s1
 | .mk i e,σ,s=>if adD C e then(ev C e .v σ s).st σ fun x s1=>onS x.lst? fun ts=>.next (aaH σ i ts) s1 else .stuck
 | .app i e,σ,s=>onS (acd σ i) fun ts=>(ev C e .v σ s).st σ fun x s1=>onS x.val? fun t=>if ts.length<lim then .next (aaH σ i (ts++[t])) s1 else .stuck
 | .ext i e,σ,s=>onS (acd σ i) fun ts=>(ev C e .v σ s).st σ fun x s1=>onS x.lst? fun us=>if ts.length+us.length≤lim then .next (aaH σ i (ts++us)) s1 else .stuck
 | .put i j e,σ,s=>onS (acd σ i) fun ts=>(ev C e .v σ s).st σ fun x s1=>onS x.val? fun t=>(ev C j .v σ s1).st σ fun y s2=>onS y.int? fun k=>onS (L2.ixN ts.length k) fun n=>.next (aaH σ i (ts.set n t)) s2
 | .pop k i,σ,s=>onS (acd σ i) fun ts=>onS ts.getLast? fun t=>.next (put (aaH σ i ts.dropLast) k t) s
 | .frz i,σ,s=>.next (frz σ i) s
 | .ifs c a b,σ,s=>(ev C c .t σ s).st σ fun x s1=>asP x (exs C a σ s1) (exs C b σ s1)
 | .whl c b,σ,s=>C.wl (fun σ s=>(ev C c .t σ s).bind fun x s1=>.of (match x with | .val (.bl k)=>some k | _=>none) s1) (fun σ s=>exs C b σ s) σ s
 | .for_ g it b,σ,s=>match it with
  | .var i=>(ev C (.var i) .i σ s).st σ fun x s1=>onS x.lst? fun ts=>if abg σ i then(aaX g (fun σ s=>exs C b σ s) ts (lock σ i) s1).unlock i else aaX g (fun σ s=>exs C b σ s) ts σ s1
  | it=>(ev C it .j σ s).st σ fun x s1=>onS x.lst? fun ts=>aaX g (fun σ s=>exs C b σ s) ts σ s1
 | .ret e,σ,s=>(ev C e .v σ s).st σ fun x s1=>.ret x s1
 | .retO e,σ,s=>if adD C e then(ev C e .v σ s).st σ fun x s1=>onS x.lst? fun ts=>.retO ts s1 else .stuck
 | .retV i,σ,s=>onS (acd σ i) fun ts=>.retO ts s
 | .exp e,σ,s=>(ev C e .v σ s).st σ fun _ s1=>.next σ s1
 | .raise c,σ,s=>.exc c σ s
 | .try_ b c nm h,σ,s=>match exs C b σ s with
  | .exc d σ1 s1=>if C.sub d c then(match nm with
    | none=>(exs C h σ1 s1).nox
    | some i=>(exs C h (put σ1 i (.exc d)) s1).nox.bind fun σ2 s2=>.next (σ2.set i none) s2)else .exc d σ1 s1
  | r=>r
 | .putL a j e,σ,s=>(ev C e .v σ s).st σ fun x s1=>onS x.val? fun t=>(ev C a .v σ s1).st σ fun y s2=>(ev C j .v σ s2).st σ fun z s3=>onS (y.locL s3) fun p=>onS z.int? fun k=>onS (L2.ixN p.2.length k) fun n=>.next σ (s3.set p.1 (.lst (p.2.set n t)))
 | .appL a e,σ,s=>(ev C a .v σ s).st σ fun y s1=>onS (y.locL s1) fun _=>(ev C e .v σ s1).st σ fun x s2=>onS x.val? fun t=>onS (y.locL s2) fun p=>if p.2.length<lim then .next σ (s2.set p.1 (.lst (p.2++[t])))else .stuck
 | .setF a c f e,σ,s=>(ev C e .v σ s).st σ fun x s1=>onS x.val? fun t=>(ev C a .v σ s1).st σ fun y s2=>onS (y.locI s2 c) fun p=>if f<p.2.length then .next σ (s2.set p.1 (.ins c (p.2.set f (some t))))else .stuck
 | .popL a,σ,s=>(ev C a .v σ s).st σ fun y s1=>onS (y.locL s1) fun p=>if p.2.isEmpty then .stuck else .next σ (s1.set p.1 (.lst p.2.dropLast))
 | .clrL a,σ,s=>(ev C a .v σ s).st σ fun y s1=>onS (y.locL s1) fun p=>.next σ (s1.set p.1 (.lst []))
 | .forC g it b,σ,s=>(ev C it .v σ s).st σ fun x s1=>onS (x.locL s1) fun p=>forC g (fun σ s=>exs C b σ s) p.1 p.2 p.2 σ s1
 | .pass,σ,s=>.next σ s
noncomputable def exs(C:Cf):List S→Fr→Sto→SR
 | [],σ,s=>.next σ s
 | a::r,σ,s=>(ex C a σ s).bind fun σ1 s1=>exs C r σ1 s1
end
structure Fn where
 pars:Nat
 size:Nat
 fr:Bool
 body:List S
noncomputable def ofR:R→B
 | .val t=>.val t
 | .bor ts=>.bor ts
noncomputable def abb(F:Fn)(rs:List R):Fr:=rs.map (fun r=>some (ofR r))++List.replicate (F.size-rs.length) none
noncomputable def aaU(x fr:Bool):SR→Res R
 | .ret r s=>if fr then .stuck else .ok r s
 | .retO ts s=>if fr then .ok (.val (.lst ts)) s else .stuck
 | .next _ s=>if fr then .stuck else .ok (.val .non) s
 | .exc c _ s=>if x then .exc c s else .stuck
 | .stuck=>.stuck
noncomputable def ahA(c:Fr→Sto→Res Bool)(b:Fr→Sto→SR):Nat→Fr→Sto→SR
 | 0,_,_=>.stuck
 | n+1,σ,s=>match c σ s with
  | .stuck=>.stuck
  | .exc d s1=>.exc d σ s1
  | .ok false s1=>.next σ s1
  | .ok true s1=>(b σ s1).bind fun σ2 s2=>ahA c b n σ2 s2
open Classical in
noncomputable def aaj(c:Fr→Sto→Res Bool)(b:Fr→Sto→SR)(σ:Fr)(s:Sto):SR:=
 if h:∃n,ahA c b n σ s≠.stuck then ahA c b (choose h) σ s else .stuck
noncomputable def afE(fs:List Fn)(f:Nat):Bool:=match fs[f]? with
 | some F=>F.fr
 | none=>false
noncomputable def run(x:Bool)(fs:List Fn)(sub:Nat→Nat→Bool)(wl:(Fr→Sto→Res Bool)→(Fr→Sto→SR)→Fr→Sto→SR):Nat→Nat→List R→Sto→Res R
 | 0,_,_,_=>.stuck
 | k+1,f,rs,s=>match fs[f]? with
  | none=>.stuck
  | some F=>if rs.length=F.pars then aaU x F.fr (exs ⟨run x fs sub wl k,sub,afE fs,wl⟩ F.body (abb F rs) s)else .stuck
end IP
end
section
namespace IP
open PySem L2
structure Gx where
 K:PySem.W.Frag
 cA:Nat→Addr
 iA:Nat→Addr
 nm:Nat→List Str
structure Wo where
 n:Nat
 io:Nat→Addr
 Z:Addr→Prop
noncomputable def ag0(a:Addr)(C:Addr):Heap→Prop:=fun h=>∃o,h.get? a=some o∧o.cls=.ref C
noncomputable def abQ(c:Addr)(q:Str):Heap→Prop:=fun h=>h.CodeRec (.ref c) q
section
variable(G:Gx)
mutual
noncomputable def Rep(w:Wo)(H:Hp):T→V→Prop
 | .non,v=>v=.non
 | .bl b,v=>v=.bl b
 | .int i,v=>v=.int i
 | .str x,v=>v=.str x
 | .tup ts,v=>∃a vs,v=.ref a∧H a=some (.tup vs)∧aam w H ts vs
 | .lst ts,v=>∃a vs,v=.ref a∧w.Z a∧Rd H a (.lst vs)∧aam w H ts vs
 | .loc l,v=>l<w.n∧v=.ref (w.io l)
 | .exc c,v=>∃a,v=.ref a∧H a=some (.ext (ag0 a (G.cA c)))
noncomputable def aam(w:Wo)(H:Hp):List T→List V→Prop
 | [],vs=>vs=[]
 | t::ts,vs=>∃v r,vs=v::r∧Rep w H t v∧aam w H ts r
end
end
noncomputable def notLoc(w:Wo)(a:Addr):Prop:=∀l,l<w.n→a≠w.io l
structure Le(w w':Wo)(H H':Hp):Prop where
 n:w.n≤w'.n
 io:∀l,l<w.n→w'.io l=w.io l
 Z:∀a,w.Z a→w'.Z a
 keep:∀a o,H a=some o→notLoc w a→H' a=some o
 newL:∀l,w.n≤l→l<w'.n→H (w'.io l)=none
 newZ:∀a,w'.Z a→w.Z a∨H a=none
 some_:∀a,H a≠none→H' a≠none
theorem Le.refl(w:Wo)(H:Hp):Le w w H H:=⟨Nat.le_refl _,fun _ _=>rfl,fun _ z=>z,fun _ _ e _=>e,fun l a b=>absurd (Nat.lt_of_lt_of_le b a) (Nat.lt_irrefl _),fun _ z=>.inl z,fun _ z=>z⟩
theorem Le.trans{w w1 w2:Wo}{H H1 H2:Hp}(a:Le w w1 H H1)(b:Le w1 w2 H1 H2):Le w w2 H H2 where
 n:=Nat.le_trans a.n b.n
 io:=fun l h=>(b.io l (Nat.lt_of_lt_of_le h a.n)).trans (a.io l h)
 Z:=fun x z=>b.Z x (a.Z x z)
 keep:=fun x o e nl=>b.keep x o (a.keep x o e nl) fun l hl q=>by
  by_cases h:l<w.n
  ·exact nl l h (q.trans (a.io l h))
  ·have:=a.newL l (Nat.le_of_not_lt h) hl
   rw[←q,e]at this
   cases this
 newL:=fun l h1 h2=>by
  by_cases h:l<w1.n
  ·rw[b.io l h]
   exact a.newL l h1 h
  ·have q:=b.newL l (Nat.le_of_not_lt h) h2
   cases e:H (w2.io l)with
   | none=>rfl
   | some o=>exact absurd q (a.some_ _ (by rw[e];intro z;cases z))
 newZ:=fun x z=>by
  rcases b.newZ x z with z|z
  ·exact a.newZ x z
  ·refine .inr ?_
   cases e:H x with
   | none=>rfl
   | some o=>exact absurd z (a.some_ x (by rw[e];intro q;cases q))
 some_:=fun x z=>b.some_ x (a.some_ x z)
section
variable{G:Gx}
noncomputable def ap3(nm:List Str)(kvs:List (Str×V)):Prop:=(kvs.map (·.1)).Nodup∧∀x∈kvs.map (·.1),x∈nm
noncomputable def abo(G:Gx)(w:Wo)(H:Hp)(a:Addr):Cell→Prop
 | .lst ts=>∃vs,H a=some (.lst vs)∧aam G w H ts vs
 | .ins c fs=>∃dx kvs,H a=some (.ins (G.iA c) dx kvs)∧ap3 (G.nm c) kvs∧∀(i:Nat) (x:Str) (t:T),(G.nm c)[i]?=some x→fs[i]?=some (some t)→∃v,kvs.lookup x=some v∧Rep G w H t v
 | .tbl k p q=>a=G.iA k∧∃ps:Array Value,H a=some (.tbl ps)∧TriplesOk ps.toList∧∀cv,codeAmong p ps.toList=some cv→∃c,cv=.ref c∧H c=some (.ext (abQ c q))
structure StoOk(G:Gx)(w:Wo)(H:Hp)(s:Sto):Prop where
 len:s.length=w.n
 inj:∀l m,l<w.n→m<w.n→w.io l=w.io m→l=m
 nz:∀l,l<w.n→¬w.Z (w.io l)
 cell:∀l c,s[l]?=some c→abo G w H (w.io l) c
 zt:∀a,w.Z a→∃vs,Rd H a (.lst vs)
theorem StoOk.loc{w:Wo}{H:Hp}{s:Sto}(S:StoOk G w H s){l:Nat}(h:l<w.n):(∃vs,H (w.io l)=some (.lst vs))∨(∃c dx kvs,H (w.io l)=some (.ins c dx kvs))∨∃ps,H (w.io l)=some (.tbl ps):=by
 have hl:l<s.length:=by rw[S.len];exact h
 have q:=S.cell l s[l] (List.getElem?_eq_getElem hl)
 cases e:s[l]with
 | lst ts=>rw[e]at q;obtain⟨vs,q,_⟩:=q;exact .inl ⟨vs,q⟩
 | ins c fs=>rw[e]at q;obtain⟨dx,kvs,q,_⟩:=q;exact .inr (.inl ⟨_,dx,kvs,q⟩)
 | tbl k p q'=>rw[e]at q;obtain⟨_,ps,q,_⟩:=q;exact .inr (.inr ⟨ps,q⟩)
theorem StoOk.notLoc{w:Wo}{H:Hp}{s:Sto}(S:StoOk G w H s){a:Addr}{o:HO}(e:H a=some o)(h1:∀vs,o≠.lst vs)(h2:∀c dx kvs,o≠.ins c dx kvs)(h3:∀ps,o≠.tbl ps:=by intro _ z;cases z):IP.notLoc w a:=fun l hl q=>by
 subst q
 rcases S.loc hl with⟨vs,z⟩|⟨c,dx,kvs,z⟩|⟨ps,z⟩
 ·rw[e]at z;exact h1 vs (Option.some.inj z)
 ·rw[e]at z;exact h2 c dx kvs (Option.some.inj z)
 ·rw[e]at z;exact h3 ps (Option.some.inj z)
theorem StoOk.zLoc{w:Wo}{H:Hp}{s:Sto}(S:StoOk G w H s){a:Addr}(z:w.Z a):IP.notLoc w a:=fun l hl q=>S.nz l hl (q▸z)
theorem StoOk.fresh{w:Wo}{H:Hp}{s:Sto}(S:StoOk G w H s){a:Addr}(h:H a=none):¬w.Z a∧IP.notLoc w a:=by
 refine⟨fun z=>?_,fun l hl q=>?_⟩
 ·obtain⟨vs,r|⟨o,r⟩⟩:=S.zt a z
  ·rw[h]at r;cases r
  ·rw[h]at r;cases r
 ·subst q
  rcases S.loc hl with⟨vs,z⟩|⟨c,dx,kvs,z⟩|⟨ps,z⟩<;>(rw[h]at z;cases z)
theorem Rd.keep{w w':Wo}{H H':Hp}{a:Addr}{u:HO}(L:Le w w' H H')(nl:IP.notLoc w a)(r:Rd H a u):Rd H' a u:=by
 rcases r with r|⟨o,r⟩
 ·exact .inl (L.keep _ _ r nl)
 ·exact .inr ⟨o,L.keep _ _ r nl⟩
mutual
theorem Rep.mono{w w':Wo}{H H':Hp}{s:Sto}(L:Le w w' H H')(S:StoOk G w H s):∀(t:T) (v:V),Rep G w H t v→Rep G w' H' t v
 | .non,v,h=>h
 | .bl b,v,h=>h
 | .int i,v,h=>h
 | .str x,v,h=>h
 | .tup ts,v,⟨a,vs,e,h,r⟩=>⟨a,vs,e,L.keep _ _ h (S.notLoc h (fun _ z=>by cases z) fun _ _ _ z=>by cases z),aam.mono L S ts vs r⟩
 | .lst ts,v,⟨a,vs,e,z,h,r⟩=>⟨a,vs,e,L.Z _ z,Rd.keep L (S.zLoc z) h,aam.mono L S ts vs r⟩
 | .loc l,v,⟨h,e⟩=>⟨Nat.lt_of_lt_of_le h L.n,by rw[L.io l h];exact e⟩
 | .exc c,v,⟨a,e,h⟩=>⟨a,e,L.keep _ _ h (S.notLoc h (fun _ z=>by cases z) fun _ _ _ z=>by cases z)⟩
theorem aam.mono{w w':Wo}{H H':Hp}{s:Sto}(L:Le w w' H H')(S:StoOk G w H s):∀(ts:List T) (vs:List V),aam G w H ts vs→aam G w' H' ts vs
 | [],vs,h=>h
 | t::ts,vs,⟨v,r,e,h,q⟩=>⟨v,r,e,Rep.mono L S t v h,aam.mono L S ts r q⟩
end
theorem aam.length{w:Wo}{H:Hp}:∀{ts:List T}{vs:List V},aam G w H ts vs→ts.length=vs.length
 | [],_,h=>by rw[h];rfl
 | t::ts,_,⟨v,r,e,_,q⟩=>by subst e;simp[aam.length q]
theorem aam.get{w:Wo}{H:Hp}:∀{ts:List T}{vs:List V}{i:Nat}{t:T},aam G w H ts vs→ts[i]?=some t→∃v,vs[i]?=some v∧Rep G w H t v
 | [],_,i,t,h,e=>by simp at e
 | t::ts,_,0,u,⟨v,r,e,h,q⟩,z=>by subst e;simp at z;subst z;exact⟨v,rfl,h⟩
 | t::ts,_,i+1,u,⟨v,r,e,h,q⟩,z=>by
  subst e
  obtain⟨x,h1,h2⟩:=aam.get q (i:=i) (t:=u) (by simpa using z)
  exact⟨x,by simpa using h1,h2⟩
theorem aam.get'{w:Wo}{H:Hp}{ts:List T}{vs:List V}{i:Nat}{v:V}(h:aam G w H ts vs)(e:vs[i]?=some v):∃t,ts[i]?=some t∧Rep G w H t v:=by
 have hi:i<ts.length:=by
  rw[h.length]
  exact(List.getElem?_eq_some_iff.mp e).1
 obtain⟨u,h1,h2⟩:=h.get (List.getElem?_eq_getElem hi)
 rw[e]at h1
 cases h1
 exact⟨_,List.getElem?_eq_getElem hi,h2⟩
theorem aam.append{w:Wo}{H:Hp}:∀{ts us:List T}{vs ws:List V},aam G w H ts vs→aam G w H us ws→aam G w H (ts++us) (vs++ws)
 | [],us,_,ws,h,q=>by rw[h];exact q
 | t::ts,us,_,ws,⟨v,r,e,h,k⟩,q=>by subst e;exact⟨v,r++ws,rfl,h,aam.append k q⟩
theorem aam.set{w:Wo}{H:Hp}{t:T}{v:V}(rv:Rep G w H t v):∀{ts:List T}{vs:List V} (i:Nat),aam G w H ts vs→aam G w H (ts.set i t) (vs.set i v)
 | [],_,i,h=>by rw[h];exact rfl
 | x::ts,_,0,⟨y,r,e,h,k⟩=>by subst e;exact⟨v,r,rfl,rv,k⟩
 | x::ts,_,i+1,⟨y,r,e,h,k⟩=>by subst e;exact⟨y,r.set i v,rfl,h,aam.set rv i k⟩
theorem aam.drop{w:Wo}{H:Hp}:∀{ts:List T}{vs:List V} (i:Nat),aam G w H ts vs→aam G w H (ts.drop i) (vs.drop i)
 | ts,vs,0,h=>h
 | [],_,i+1,h=>by rw[h];exact rfl
 | x::ts,_,i+1,⟨y,r,e,h,k⟩=>by subst e;exact aam.drop i k
theorem aam.take{w:Wo}{H:Hp}:∀{ts:List T}{vs:List V} (i:Nat),aam G w H ts vs→aam G w H (ts.take i) (vs.take i)
 | ts,vs,0,h=>by simp;exact rfl
 | [],_,i+1,h=>by rw[h];exact rfl
 | x::ts,_,i+1,⟨y,r,e,h,k⟩=>by subst e;exact⟨y,r.take i,rfl,h,aam.take i k⟩
theorem aam.reverse{w:Wo}{H:Hp}:∀{ts:List T}{vs:List V},aam G w H ts vs→aam G w H ts.reverse vs.reverse
 | [],_,h=>by rw[h];exact rfl
 | x::ts,_,⟨y,r,e,h,k⟩=>by
  subst e
  rw[List.reverse_cons,List.reverse_cons]
  exact aam.append (aam.reverse k) ⟨y,[],rfl,h,rfl⟩
theorem aam.cut{w:Wo}{H:Hp}{ts:List T}{vs:List V}(h:aam G w H ts vs)(lo hi:Option Int):aam G w H (an2 ts lo hi) (akv vs lo hi):=by
 unfold an2 akv
 rw[←h.length]
 exact(h.drop _).take _
noncomputable def abl(G:Gx)(w:Wo)(H:Hp):R→V→Prop
 | .val t,v=>Rep G w H t v
 | .bor ts,v=>∃a vs,v=.ref a∧H a=some (.lst vs)∧aam G w H ts vs∧notLoc w a
noncomputable def acT(G:Gx)(w:Wo)(H:Hp):R→V→Prop
 | .val t,v=>Rep G w H t v
 | .bor ts,v=>∃a vs,v=.ref a∧H a=some (.lst vs)∧aam G w H ts vs
theorem abl.d{w:Wo}{H:Hp}:∀{r:R}{v:V},abl G w H r v→acT G w H r v
 | .val t,v,h=>h
 | .bor ts,v,⟨a,vs,e,h,r,_⟩=>⟨a,vs,e,h,r⟩
theorem abl.dr{w:Wo}{H:Hp}{s:Sto}(S:StoOk G w H s){r:R}{v:V}(h:abl G w H r v):acT G w H (r.dr s) v:=by
 unfold R.dr
 split
 ·rename_i l
  obtain⟨hl,e⟩:=h
  split
  ·rename_i ts q
   obtain⟨vs,h1,h2⟩:=S.cell l _ q
   exact⟨w.io l,vs,e,h1,h2⟩
  ·exact⟨hl,e⟩
 ·exact h.d
theorem abl.mono{w w':Wo}{H H':Hp}{s:Sto}(L:Le w w' H H')(S:StoOk G w H s):∀{r:R}{v:V},abl G w H r v→abl G w' H' r v
 | .val t,v,h=>Rep.mono L S t v h
 | .bor ts,v,⟨a,vs,e,h,r,nl⟩=>⟨a,vs,e,L.keep _ _ h nl,aam.mono L S ts vs r,fun l hl q=>by
   by_cases k:l<w.n
   ·exact nl l k (q.trans (L.io l k))
   ·have:=L.newL l (Nat.le_of_not_lt k) hl
    rw[←q,h]at this
    cases this⟩
noncomputable def abk(G:Gx)(w:Wo)(H:Hp):List R→List V→Prop
 | [],vs=>vs=[]
 | t::ts,vs=>∃v r,vs=v::r∧abl G w H t v∧abk G w H ts r
theorem abk.mono{w w':Wo}{H H':Hp}{s:Sto}(L:Le w w' H H')(S:StoOk G w H s):∀{ts:List R}{vs:List V},abk G w H ts vs→abk G w' H' ts vs
 | [],vs,h=>h
 | t::ts,vs,⟨v,r,e,h,q⟩=>⟨v,r,e,abl.mono L S h,abk.mono L S q⟩
theorem abk.length{w:Wo}{H:Hp}:∀{ts:List R}{vs:List V},abk G w H ts vs→ts.length=vs.length
 | [],_,h=>by rw[h];rfl
 | t::ts,_,⟨v,r,e,_,q⟩=>by subst e;simp[abk.length q]
noncomputable def ahY:B→Option (List T)
 | .own ts=>some ts
 | .lck ts=>some ts
 | _=>none
structure FrOk(G:Gx)(w:Wo)(H H₀:Hp)(σ:Fr)(σV:St):Prop where
 len:σ.length=σV.length
 val:∀(i:Nat) (t:T),σ[i]?=some (some (.val t))→∃v,σV[i]?=some (some v)∧Rep G w H t v
 own:∀(i:Nat) (b:B) (ts:List T),σ[i]?=some (some b)→ahY b=some ts→∃a vs,σV[i]?=some (some (.ref a))∧H a=some (.lst vs)∧aam G w H ts vs∧H₀ a=none∧¬w.Z a∧notLoc w a
 apart:∀(i j:Nat) (b c:B) (ts us:List T) (a:Addr),i≠j→σ[i]?=some (some b)→ahY b=some ts→σ[j]?=some (some c)→ahY c=some us→σV[i]?=some (some (.ref a))→σV[j]?=some (some (.ref a))→False
 bor:∀(i:Nat) (ts:List T),σ[i]?=some (some (.bor ts))→∃a vs,σV[i]?=some (some (.ref a))∧H a=some (.lst vs)∧aam G w H ts vs∧H₀ a≠none∧notLoc w a
theorem notLoc.mono{w w':Wo}{H H':Hp}(L:Le w w' H H'){a:Addr}(h:H a≠none)(nl:notLoc w a):notLoc w' a:=fun l hl q=>by
 by_cases k:l<w.n
 ·exact nl l k (q.trans (L.io l k))
 ·have:=L.newL l (Nat.le_of_not_lt k) hl
  rw[←q]at this
  exact h this
theorem FrOk.mono{w w':Wo}{H H' H₀:Hp}{s:Sto}{σ:Fr}{σV:St}(L:Le w w' H H')(S:StoOk G w H s)(F:FrOk G w H H₀ σ σV):FrOk G w' H' H₀ σ σV where
 len:=F.len
 val:=fun i t e=>let ⟨v,h1,h2⟩:=F.val i t e;⟨v,h1,Rep.mono L S t v h2⟩
 own:=fun i b ts e eb=>by
  obtain⟨a,vs,h1,h2,h3,h4,h5,h6⟩:=F.own i b ts e eb
  have hn:H a≠none:=by rw[h2];intro z;cases z
  refine⟨a,vs,h1,L.keep _ _ h2 h6,aam.mono L S ts vs h3,h4,fun z=>?_,notLoc.mono L hn h6⟩
  rcases L.newZ a z with z|z
  ·exact h5 z
  ·exact hn z
 apart:=F.apart
 bor:=fun i ts e=>by
  obtain⟨a,vs,h1,h2,h3,h4,h6⟩:=F.bor i ts e
  have hn:H a≠none:=by rw[h2];intro z;cases z
  exact⟨a,vs,h1,L.keep _ _ h2 h6,aam.mono L S ts vs h3,h4,notLoc.mono L hn h6⟩
structure Good(G:Gx)(w₀:Wo)(H₀:Hp)(w:Wo)(H:Hp)(σ:Fr)(s:Sto)(σV:St):Prop where
 sto:StoOk G w H s
 fr:FrOk G w H H₀ σ σV
 ent:Le w₀ w H₀ H
theorem Good.step{w₀ w w':Wo}{H₀ H H':Hp}{σ:Fr}{s s':Sto}{σV:St}(g:Good G w₀ H₀ w H σ s σV)(L:Le w w' H H')(S:StoOk G w' H' s'):Good G w₀ H₀ w' H' σ s' σV:=⟨S,g.fr.mono L g.sto,g.ent.trans L⟩
end
end IP
end
section
namespace IP
open PySem PySem.Spec L2
structure Flt(stack:List Env)(h B:Heap)(e:Addr)(sh:Heap):Prop where
 cov:∀b o,B.get? b=some o↔h.get? b=some o∧b∉frs stack
 keep:∀b o,h.get? b=some o→b∉frs stack→sh.get? b=some o
 slot:∀b o,h.get? b=some o→b∈frs stack→∃sl,sh.get? b=some { o with slots:=sl }
 new:h.get? e=none
noncomputable def aoR(base:Heap)(l:List Env)(e:Addr)(cls a0 fl:Value)(h:Heap):Prop:=base.StaysIn h∧base.get? e=none∧h.FunFrames base l∧h.TracedAtW base e cls a0 fl
noncomputable def aaS(G:Gx)(X:Cx)(pins:List (Addr×Obj))(σV:St)(H:Hp)(c:Nat)(u:Value)(sh:Shared):Prop:=
 ∃(e:Addr) (h B:Heap),u=.ref e∧Inv X pins σV H { sh with heap:=h }∧Flt X.stack h B e sh.heap∧X.base.StaysIn B∧
  ((∃args,Heap.MadeExcOf h sh.heap e (.ref (G.cA c)) args)∨(∃t,Heap.FlyingW B X.stack e (.ref (G.cA c)) t sh.heap)∨
   ∃t fl,aoR B X.stack e (.ref (G.cA c)) t fl sh.heap)
noncomputable def aaJ(G:Gx)(X:Cx)(σV:St)(w:Wo)(H:Hp)(res:Res R)(Q:VK):Prop:=match res with
 | .stuck=>False
 | .ok r s'=>∀w' H' v,Le w w' H H'→StoOk G w' H' s'→abl G w' H' r v→Q v H'
 | .exc c s'=>∀w' H' pins u sh,Le w w' H H'→StoOk G w' H' s'→aaS G X pins σV H' c u sh→X.xe u sh
section
variable{G:Gx}{X:Cx}{σV:St}{w w₀:Wo}{H H₀:Hp}{Q Q':VK}
theorem aaJ.imp{res:Res R}(h:aaJ G X σV w H res Q)(q:∀v H',Q v H'→Q' v H'):aaJ G X σV w H res Q':=by
 cases res with
 | stuck=>exact h
 | ok r s=>exact fun w' H' v a b c=>q _ _ (h w' H' v a b c)
 | exc c s=>exact h
theorem aaJ.mono{res:Res R}{w1:Wo}{H1:Hp}(L:Le w w1 H H1)(h:aaJ G X σV w H res Q):aaJ G X σV w1 H1 res Q:=by
 cases res with
 | stuck=>exact h
 | ok r s=>exact fun w' H' v a b c=>h w' H' v (L.trans a) b c
 | exc c s=>exact fun w' H' pins u sh a b=>h w' H' pins u sh (L.trans a) b
theorem aaJ.bind{m:Res R}{k:R→Sto→Res R}(h:aaJ G X σV w H (m.bind k) Q):
  aaJ G X σV w H m fun v H1=>∃w1 r s1,Le w w1 H H1∧StoOk G w1 H1 s1∧abl G w1 H1 r v∧aaJ G X σV w1 H1 (k r s1) Q:=by
 cases m with
 | stuck=>exact h
 | ok r s=>exact fun w' H' v a b c=>⟨w',r,s,a,b,c,aaJ.mono a h⟩
 | exc c s=>exact h
theorem aaJ.of{o:Option R}{s:Sto}(h:aaJ G X σV w H (Res.of o s) Q):∃r,o=some r∧∀w' H' v,Le w w' H H'→StoOk G w' H' s→abl G w' H' r v→Q v H':=by
 cases o with
 | none=>exact h.elim
 | some r=>exact⟨r,rfl,h⟩
theorem PE.imp{e:Expr}{t t':TE}(h:PE X e t)(q:∀σ H Q,t' σ H Q→t σ H Q):PE X e t':=fun pins s σ H Q I z=>h pins s σ H Q I (q _ _ _ z)
theorem PT.imp{e:Expr}{t t':TT}(h:PT X e t)(q:∀σ H Q,t' σ H Q→t σ H Q):PT X e t':=fun pins s σ H Q I z=>h pins s σ H Q I (q _ _ _ z)
theorem PA.imp{e:List Expr}{t t':TA}(h:PA X e t)(q:∀σ H Q,t' σ H Q→t σ H Q):PA X e t':=fun pos pins s σ H Q I z=>h pos pins s σ H Q I (q _ _ _ z)
noncomputable def tV(G:Gx)(X:Cx)(C:Cf)(e:E):TE:=fun σV H Q=>∃w₀ H₀ w σ s,Good G w₀ H₀ w H σ s σV∧aaJ G X σV w H (ev C e .v σ s) Q
noncomputable def tT(G:Gx)(X:Cx)(C:Cf)(e:E):TT:=fun σV H Q=>∃w₀ H₀ w σ s,Good G w₀ H₀ w H σ s σV∧aaJ G X σV w H (ev C e .t σ s) fun v H'=>∃k,v=.bl k∧Q k H'
theorem acj{a p:Addr}{o:HO}(e:H a=some o)(hp:H p=none):a≠p:=fun q=>by rw[q,hp]at e;cases e
theorem Le.new{p:Addr}(hp:H p=none)(o:HO):Le w w H (upd H p o)where
 n:=Nat.le_refl _
 io:=fun _ _=>rfl
 Z:=fun _ z=>z
 keep:=fun a u e _=>by rw[aag (acj e hp)];exact e
 newL:=fun l a b=>absurd (Nat.lt_of_lt_of_le b a) (Nat.lt_irrefl _)
 newZ:=fun _ z=>.inl z
 some_:=fun a z=>by
  cases e:H a with
  | none=>exact absurd e z
  | some u=>rw[aag (acj e hp),e];intro q;cases q
noncomputable def Wo.addZ(w:Wo)(p:Addr):Wo:={ w with Z:=fun a=>w.Z a∨a=p }
theorem Le.newZ_{p:Addr}(hp:H p=none)(o:HO):Le w (w.addZ p) H (upd H p o)where
 n:=Nat.le_refl _
 io:=fun _ _=>rfl
 Z:=fun _ z=>.inl z
 keep:=(Le.new (w:=w) hp o).keep
 newL:=(Le.new (w:=w) hp o).newL
 newZ:=fun a z=>z.elim .inl fun q=>.inr (q▸hp)
 some_:=(Le.new (w:=w) hp o).some_
theorem abo.mono{w':Wo}{H':Hp}{s:Sto}(L:Le w w' H H')(S:StoOk G w H s){a:Addr}(e:H' a=H a):∀{c:Cell},abo G w H a c→abo G w' H' a c
 | .lst ts,⟨vs,h,r⟩=>⟨vs,e.trans h,aam.mono L S ts vs r⟩
 | .ins c fs,⟨dx,kvs,h,z,k⟩=>⟨dx,kvs,e.trans h,z,fun i x t h1 h2=>let ⟨v,q1,q2⟩:=k i x t h1 h2;⟨v,q1,Rep.mono L S t v q2⟩⟩
 | .tbl k p q,⟨ha,ps,h,z,f⟩=>⟨ha,ps,e.trans h,z,fun cv hcv=>let ⟨c,e1,e2⟩:=f cv hcv;⟨c,e1,L.keep _ _ e2 (S.notLoc e2 (fun _ z=>by cases z) fun _ _ _ z=>by cases z)⟩⟩
theorem StoOk.grow{w':Wo}{H':Hp}{s:Sto}(S:StoOk G w H s)(L:Le w w' H H')(hn:w'.n=w.n)(hl:∀l,l<w.n→H' (w.io l)=H (w.io l))(hz:∀a,w'.Z a→∃vs,Rd H' a (.lst vs)):StoOk G w' H' s where
 len:=S.len.trans hn.symm
 inj:=fun l m h1 h2 e=>by
  rw[hn]at h1 h2
  rw[L.io l h1,L.io m h2]at e
  exact S.inj l m h1 h2 e
 nz:=fun l h z=>by
  rw[hn]at h
  rw[L.io l h]at z
  rcases L.newZ _ z with q|q
  ·exact S.nz l h q
  ·rcases S.loc h with⟨vs,y⟩|⟨c,dx,kvs,y⟩|⟨ps,y⟩<;>(rw[q]at y;cases y)
 cell:=fun l c e=>by
  have h:l<w.n:=by rw[←S.len];exact(List.getElem?_eq_some_iff.mp e).1
  rw[L.io l h]
  exact abo.mono L S (hl l h) (S.cell l c e)
 zt:=hz
theorem Rd.upd{a p:Addr}{u o:HO}(hp:H p=none)(r:Rd H a u):Rd (upd H p o) a u:=by
 rcases r with r|⟨q,r⟩
 ·exact .inl (by rw[aag (acj r hp)];exact r)
 ·exact .inr ⟨q,by rw[aag (acj r hp)];exact r⟩
theorem StoOk.new{s:Sto}{p:Addr}(S:StoOk G w H s)(hp:H p=none)(o:HO):StoOk G w (L2.upd H p o) s:=
 S.grow (Le.new hp o) rfl (fun l h=>aag ((S.fresh hp).2 l h).symm) fun a z=>let ⟨vs,r⟩:=S.zt a z;⟨vs,Rd.upd hp r⟩
theorem StoOk.newZ{s:Sto}{p:Addr}(S:StoOk G w H s)(hp:H p=none)(vs:List V):StoOk G (w.addZ p) (L2.upd H p (.lst vs)) s:=
 S.grow (Le.newZ_ hp _) rfl (fun l h=>aag ((S.fresh hp).2 l h).symm) fun a z=>z.elim (fun z=>let ⟨vs,r⟩:=S.zt a z;⟨vs,Rd.upd hp r⟩) fun q=>⟨vs,.inl (by rw[q];exact aaq)⟩
theorem afp{s:Sto}{ts:List T}{vs:List V}(S:StoOk G w H s)(r:aam G w H ts vs)(h:∀w' H' v,Le w w' H H'→StoOk G w' H' s→abl G w' H' (.val (.tup ts)) v→Q v H')(p:Addr)(hp:H p=none):Q (.ref p) (L2.upd H p (.tup vs)):=
 h w _ _ (Le.new hp _) (S.new hp _) ⟨p,vs,rfl,aaq,aam.mono (Le.new hp _) S ts vs r⟩
theorem ac6{s:Sto}{ts:List T}{vs:List V}(S:StoOk G w H s)(r:aam G w H ts vs)(h:∀w' H' v,Le w w' H H'→StoOk G w' H' s→abl G w' H' (.val (.lst ts)) v→Q v H')(p:Addr)(hp:H p=none):Q (.ref p) (L2.upd H p (.lst vs)):=
 h _ _ _ (Le.newZ_ hp _) (S.newZ hp vs) ⟨p,vs,rfl,.inr rfl,.inl aaq,aam.mono (Le.newZ_ hp _) S ts vs r⟩
noncomputable def abd(G:Gx)(X:Cx)(σV:St)(w:Wo)(H:Hp)(res:Res R)(Q:VK):Prop:=match res with
 | .ok (.val (.lst ts)) s'=>∀w' H' a vs,Le w w' H H'→StoOk G w' H' s'→H' a=some (.lst vs)→aam G w' H' ts vs→H a=none→¬w'.Z a→notLoc w' a→Q (.ref a) H'
 | .exc c s'=>∀w' H' pins u sh,Le w w' H H'→StoOk G w' H' s'→aaS G X pins σV H' c u sh→X.xe u sh
 | _=>False
noncomputable def tO(G:Gx)(X:Cx)(C:Cf)(e:E):TE:=fun σV H Q=>∃w₀ H₀ w σ s,Good G w₀ H₀ w H σ s σV∧abd G X σV w H (ev C e .v σ s) Q
theorem aig{s:Sto}{ts:List T}{vs:List V}(S:StoOk G w H s)(r:aam G w H ts vs)(h:∀w' H' a vs,Le w w' H H'→StoOk G w' H' s→H' a=some (.lst vs)→aam G w' H' ts vs→H a=none→¬w'.Z a→notLoc w' a→Q (.ref a) H')(p:Addr)(hp:H p=none):Q (.ref p) (L2.upd H p (.lst vs)):=
 h w _ p vs (Le.new hp _) (S.new hp _) aaq (aam.mono (Le.new hp _) S ts vs r) hp (S.fresh hp).1 (S.fresh hp).2
theorem acT.seq{s:Sto}{x:R}{v:V}{ts:List T}(r:acT G w H x v)(e:x.seq=some ts):∃a vs,v=.ref a∧Rd H a (.lst vs)∧aam G w H ts vs:=by
 match x,e with
 | .val (.lst us),e=>obtain⟨a,vs,e1,_,h,q⟩:=r;cases e;exact⟨a,vs,e1,h,q⟩
 | .bor us,e=>obtain⟨a,vs,e1,h,q⟩:=r;cases e;exact⟨a,vs,e1,.inl h,q⟩
theorem abl.seq{s:Sto}{x:R}{v:V}{ts:List T}(r:abl G w H x v)(e:x.seq=some ts):∃a vs,v=.ref a∧Rd H a (.lst vs)∧aam G w H ts vs:=acT.seq (s:=s) r.d e
theorem acT.sq2{x:R}{v:V}{ts:List T}(r:acT G w H x v)(e:x.sq2=some ts):∃a vs,v=.ref a∧(Rd H a (.lst vs)∨H a=some (.tup vs))∧aam G w H ts vs:=by
 match x,e with
 | .val (.lst us),e=>obtain⟨a,vs,e1,_,h,q⟩:=r;cases e;exact⟨a,vs,e1,.inl h,q⟩
 | .val (.tup us),e=>obtain⟨a,vs,e1,h,q⟩:=r;cases e;exact⟨a,vs,e1,.inr h,q⟩
 | .bor us,e=>obtain⟨a,vs,e1,h,q⟩:=r;cases e;exact⟨a,vs,e1,.inl (.inl h),q⟩
theorem abl.sq2{x:R}{v:V}{ts:List T}(r:abl G w H x v)(e:x.sq2=some ts):∃a vs,v=.ref a∧(Rd H a (.lst vs)∨H a=some (.tup vs))∧aam G w H ts vs:=acT.sq2 r.d e
theorem abl.int{x:R}{v:V}{i:Int}(r:abl G w H x v)(e:x.int?=some i):v=.int i:=by
 match x,e with
 | .val (.int j),e=>cases e;exact r
theorem acT.int{x:R}{v:V}{i:Int}(r:acT G w H x v)(e:x.int?=some i):v=.int i:=by
 match x,e with
 | .val (.int j),e=>cases e;exact r
end
section
variable{G:Gx}{X:Cx}{C:Cf}{a b c:Expr}{a' b' c':E}{pos:Pos}
theorem Rd.lst{pins:List (Addr×Obj)}{σ:St}{H:Hp}{s:Shared}{p:Addr}{xs:List V}(I:Inv X pins σ H s)(h:Rd H p (.lst xs)):
  xs.length≤sizeLine∧∃(its:List Value) (n:Nat),aa1 xs its∧xs.length=its.length∧s.heap.get? p=some { cls:=.type "list",data:=.seq its.toArray n }:=by
 obtain⟨z,its,n,r,e⟩:=Rd.ok h I.hok
 exact⟨z,its,n,r,r.length,e⟩
theorem aoy{i:Nat}{x:Str}(hN:X.N[i]?=some x)(hv:Vis X.env.scope x)(hd:(x==("__debug__":Str))=false)(hcd:(x==("__classdict__":Str))=false):PE X (.Name x pos) (tV G X C (.var i)):=by
 refine PE.imp (ad8 hN hv hd hcd) ?_
 rintro σV H Q ⟨w₀,H₀,w,σ,s,g,h⟩
 obtain⟨r,e,q⟩:=aaJ.of h
 unfold look at e
 split at e
 ·rename_i t ht
  cases e
  obtain⟨v,h1,h2⟩:=g.fr.val i t ht
  exact⟨v,h1,q w H v (Le.refl _ _) g.sto h2⟩
 ·rename_i ts ht
  cases e
  obtain⟨p,vs,h1,h2,h3,_,_,h6⟩:=g.fr.own i _ ts ht rfl
  exact⟨_,h1,q w H _ (Le.refl _ _) g.sto ⟨p,vs,rfl,h2,h3,h6⟩⟩
 ·rename_i ts ht
  cases e
  obtain⟨p,vs,h1,h2,h3,_,h6⟩:=g.fr.bor i ts ht
  exact⟨_,h1,q w H _ (Le.refl _ _) g.sto ⟨p,vs,rfl,h2,h3,h6⟩⟩
 ·rename_i ts ht
  cases e
  obtain⟨p,vs,h1,h2,h3,_,_,h6⟩:=g.fr.own i _ ts ht rfl
  exact⟨_,h1,q w H _ (Le.refl _ _) g.sto ⟨p,vs,rfl,h2,h3,h6⟩⟩
 ·cases e
theorem amj{t:T}{v:V}(r:∀w H,Rep G w H t v){σV:St}{H:Hp}{Q:VK}(h:tV G X C (.cst t) σV H Q):tC v σV H Q:=by
 obtain⟨w₀,H₀,w,σ,s,g,h⟩:=h
 exact h w H v (Le.refl _ _) g.sto (r w H)
theorem aab{i j}:PE X (.Constant (.int i) j pos) (tV G X C (.cst (.int i))):=PE.imp ain fun _ _ _ h=>amj (t:=.int i) (v:=.int i) (fun _ _=>rfl) h
theorem adK{b j}:PE X (.Constant (.bool b) j pos) (tV G X C (.cst (.bl b))):=PE.imp att fun _ _ _ h=>amj (t:=.bl b) (v:=.bl b) (fun _ _=>rfl) h
theorem ae0{j}:PE X (.Constant .none j pos) (tV G X C (.cst .non)):=PE.imp ao8 fun _ _ _ h=>amj (t:=.non) (v:=.non) (fun _ _=>rfl) h
theorem anD{x:Str}{i:Int}{t:Tok}(hg:Gl X x)(hm:X.mg x=some (.int i t))(hd:(x==("__debug__":Str))=false):PE X (.Name x pos) (tV G X C (.glb x i)):=by
 refine PE.imp (aho (v:=.int i) hg hm ⟨t,rfl⟩ hd) ?_
 rintro σV H Q ⟨w₀,H₀,w,σ,s,g,h⟩
 exact h w H _ (Le.refl _ _) g.sto rfl
noncomputable def r2(G:Gx)(f:R→R→Option R):R2:=fun x y H Q=>∃w s rx ry r,StoOk G w H s∧abl G w H rx x∧abl G w H ry y∧f rx ry=some r∧∀w' H' v,Le w w' H H'→StoOk G w' H' s→abl G w' H' r v→Q v H'
theorem alH{f:R→R→Option R}{σV:St}{H:Hp}{Q:VK}(h:∃w₀ H₀ w σ s,Good G w₀ H₀ w H σ s σV∧aaJ G X σV w H ((ev C a' .v σ s).bind fun x s1=>(ev C b' .v σ s1).bind fun y s2=>.of (f x y) s2) Q):
  tOp (r2 G f) (tV G X C a') (tV G X C b') σV H Q:=by
 obtain⟨w₀,H₀,w,σ,s,g,h⟩:=h
 refine⟨w₀,H₀,w,σ,s,g,(aaJ.bind h).imp ?_⟩
 rintro x H1 ⟨w1,r1,s1,L1,S1,R1,h1⟩
 refine⟨w₀,H₀,w1,σ,s1,g.step L1 S1,(aaJ.bind h1).imp ?_⟩
 rintro y H2 ⟨w2,r2,s2,L2,S2,R2,h2⟩
 obtain⟨r,e,q⟩:=aaJ.of h2
 exact⟨w2,s2,r1,r2,r,S2,R1.mono L2 S1,R2,e,q⟩
theorem s2{f:R→R→Option R}{op:Operator}(ho:OpR X (binaryOp op) (r2 G f))(ha:PE X a (tV G X C a'))(hb:PE X b (tV G X C b')){e:E}(he:∀σ s,ev C e .v σ s=(ev C a' .v σ s).bind fun x s1=>(ev C b' .v σ s1).bind fun y s2=>.of (f x y) s2):
  PE X (.BinOp a op b pos) (tV G X C e):=by
 refine PE.imp (aum ho ha hb) fun σV H Q h=>?_
 obtain⟨w₀,H₀,w,σ,s,g,h⟩:=h
 rw[he]at h
 exact alH ⟨w₀,H₀,w,σ,s,g,h⟩
theorem s2c{f:R→R→Option R}{op:CmpOp}(ho:OpR X (compareOp op) (r2 G f))(ha:PE X a (tV G X C a'))(hb:PE X b (tV G X C b'))(hm:behindInMarks op b=false){e:E}(he:∀σ s,ev C e .v σ s=(ev C a' .v σ s).bind fun x s1=>(ev C b' .v σ s1).bind fun y s2=>.of (f x y) s2):
  PE X (.Compare a [op] [b] pos) (tV G X C e):=by
 refine PE.imp (akZ ho ha hb hm) fun σV H Q h=>?_
 obtain⟨w₀,H₀,w,σ,s,g,h⟩:=h
 rw[he]at h
 exact alH ⟨w₀,H₀,w,σ,s,g,h⟩
theorem ad1{j:Int}(h:j.natAbs<big):j.natAbs.log2<1000:=by
 rcases Nat.eq_zero_or_pos j.natAbs with h0|hp
 ·rw[h0];decide
 ·refine(Nat.log2_lt (Nat.ne_of_gt hp)).mpr (Nat.lt_trans h ?_)
  unfold big
  decide +kernel
theorem afA{k:Int}(h:k.natAbs<big):Builtin.Int.intBits k≤1000:=by
 unfold Builtin.Int.intBits
 split
 ·exact Nat.zero_le _
 ·have:=ad1 h
  omega
theorem alI{i j:Int}(h:amC i j=true):IntMulOk i j:=by
 unfold amC at h
 rw[Bool.or_eq_true,Bool.or_eq_true,Bool.and_eq_true,decide_eq_true_iff,decide_eq_true_iff,decide_eq_true_iff,decide_eq_true_iff]at h
 rcases h with(h|h)|⟨h1,h2⟩
 ·exact IntMulOk.of_left (intBits_le_64 (by omega) (by omega))
 ·exact IntMulOk.of_right (intBits_le_64 (by omega) (by omega))
 ·exact PyProof.Rows.mulOk_of_bits (afA h1) (afA h2) (by decide)
noncomputable def ans:Op→Operator
 | .add=>.Add | .sub=>.Sub | .mul=>.Mult | .fdiv=>.FloorDiv | .mod=>.Mod | .pow=>.Pow
theorem amN(o:Op)(i j k:Int)(h:opI o i j=some k):∀(t u:Tok) (s:Shared) (Q:Value→Shared→Prop) (E:Value→Shared→Prop),Q (.int k s.toks) { s with toks:=s.toks+1 }→wpAny (model X.prog X.w) X.A (binaryOp (ans o) (.int i t) (.int j u)) Q E s:=by
 intro t u s Q E q
 cases o with
 | add=>cases h;exact PyProof.Rows.add_int q
 | sub=>cases h;exact PyProof.Rows.sub_int q
 | mul=>
  simp only[opI]at h
  split at h
  ·rename_i hm;cases h;exact PyProof.Rows.mul_int q (alI hm)
  ·cases h
 | fdiv=>
  simp only[opI]at h
  split at h
  ·rename_i hm;cases h;exact PyProof.Rows.floordiv_int hm.1 q (Or.inl (PyProof.noPylong_of_log2 (Nat.lt_trans (ad1 hm.2) (by decide))))
  ·cases h
 | mod=>
  simp only[opI]at h
  split at h
  ·rename_i hm;cases h;exact PyProof.Rows.mod_int hm q
  ·cases h
 | pow=>
  simp only[opI]at h
  split at h
  ·rename_i hm
   cases h
   refine PyProof.Rows.pow_int hm.1 ?_ q
   have h1:=afA hm.2.2
   have h2:((Builtin.Int.intBits i:Nat):Int)*j≤1000*100:=by
    refine Int.mul_le_mul (by omega) hm.2.1 hm.1 (by omega)
   omega
  ·cases h
theorem arc(o:Op):OpR X (binaryOp (ans o)) (r2 G (opR o)):=by
 intro pins s σ H x y v u Q I rx ry h
 obtain⟨w,st,x',y',r,S,Rx,Ry,e,q⟩:=h
 have intc:∀i j k,x'=.val (.int i)→y'=.val (.int j)→opI o i j=some k→r=.val (.int k)→wpAny (model X.prog X.w) X.A (binaryOp (ans o) v u) (EP X pins σ Q) X.xe s:=by
  rintro i j k rfl rfl ho rfl
  have hx:x=.int i:=Rx
  have hy:y=.int j:=Ry
  subst hx hy
  obtain⟨t,rfl⟩:=rx
  obtain⟨t2,rfl⟩:=ry
  exact amN o i j k ho t t2 s _ _ ⟨.int k,H,I.tok _,⟨_,rfl⟩,q w H _ (Le.refl _ _) S rfl⟩
 have lstc:∀xs ys,x'.seq=some xs→y'.seq=some ys→o=.add→xs.length+ys.length≤lim→r=.val (.lst (xs++ys))→wpAny (model X.prog X.w) X.A (binaryOp (ans o) v u) (EP X pins σ Q) X.xe s:=by
  rintro xs ys e1 e2 rfl hl rfl
  obtain⟨p,vs,rfl,hp,r1⟩:=abl.seq (s:=st) Rx e1
  obtain⟨p2,vs2,rfl,hp2,r2⟩:=abl.seq (s:=st) Ry e2
  cases rx
  cases ry
  obtain⟨z,its,n,q1,l1,g1⟩:=Rd.lst I hp
  obtain⟨z2,its2,n2,q2,l2,g2⟩:=Rd.lst I hp2
  have hz:its.length+its2.length≤sizeLine:=by
   rw[←l1,←l2,←r1.length,←r2.length]
   have:lim≤sizeLine:=by decide
   omega
  refine PySem.P.add_list g1 g2 ?_ (by rw[List.size_toArray,List.size_toArray];exact hz)
  have ea:its.toArray++its2.toArray=(its++its2).toArray:=by simp
  rw[ea]
  exact⟨.ref _,_,I.lnew (t':=s.toks) (q1.append q2) (by rw[List.length_append,l1,l2];exact hz),rfl,ac6 S (r1.append r2) q _ I.fresh⟩
 unfold opR at e
 split at e
 ·rename_i i j
  cases ho:opI o i j with
  | none=>rw[ho]at e;cases e
  | some k=>rw[ho]at e;cases e;exact intc i j k rfl rfl ho rfl
 ·rename_i xs ys
  split at e
  ·rename_i hc
   cases e
   obtain⟨p,vs,rfl,hp,r1⟩:=Rx
   obtain⟨p2,vs2,rfl,hp2,r2⟩:=Ry
   have n1:vs≠[]:=by
    intro z;subst z
    exact hc.1 (List.length_eq_zero_iff.mp r1.length)
   have n2:vs2≠[]:=by
    intro z;subst z
    exact hc.2.1 (List.length_eq_zero_iff.mp r2.length)
   refine ame pins s σ H _ _ v u Q I rx ry ⟨p,p2,vs,vs2,rfl,rfl,SqT.of hp,SqT.of hp2,n1,?_,fun z=>absurd z n2,fun _=>afp S (r1.append r2) q⟩
   rw[←r1.length,←r2.length]
   have:lim≤sizeLine:=by decide
   omega
  ·cases e
 ·split at e
  ·rename_i xs ys e1 e2
   split at e
   ·rename_i hl
    cases e
    exact lstc xs ys e1 e2 rfl hl rfl
   ·cases e
  ·cases e
 ·cases e
theorem aaf(o:Op)(ha:PE X a (tV G X C a'))(hb:PE X b (tV G X C b')):PE X (.BinOp a (ans o) b pos) (tV G X C (.bin o a' b')):=s2 (arc o) ha hb fun _ _=>rfl
end
end IP
end
section
namespace IP
open PySem PySem.Spec L2 PySem.SeqAt
section
variable{G:Gx}{X:Cx}{pins:List (Addr×Obj)}{σ:St}{H:Hp}{s:Shared}{w:Wo}{st:Sto}
theorem abh{a:Addr}{vs:List V}(I:Inv X pins σ H s)(h:H a=some (.tup vs)):∃its:List Value,aa1 vs its∧s.heap.IsTuple a its.toArray:=by
 obtain⟨its,r,q,_⟩:=I.tuple (SqT.of (K:=X.K) h)
 exact⟨its,r,q⟩
theorem aaD{a:Addr}{vs:List V}(I:Inv X pins σ H s)(h:Rd H a (.lst vs)):∃its:List Value,aa1 vs its∧s.heap.IsList a its.toArray:=by
 obtain⟨_,its,n,r,_,e⟩:=Rd.lst I h
 exact⟨its,r,_,e,rfl,n,rfl⟩
theorem aeq{f:T→T→Option Bool}:∀(ts us:List T) (vs:List V),(∀t u v k,Rep G w H t v→Rep G w H u v→f t u=some k→k=true)→aam G w H ts vs→aam G w H us vs→∀k,eqL f ts us=some k→k=true
 | [],[],_,_,_,_,k,h=>by cases h;rfl
 | [],_::_,_,_,h1,h2,k,h=>by
  obtain⟨v,r,e,_⟩:=h2
  rw[h1]at e
  cases e
 | _::_,[],_,_,h1,h2,k,h=>by
  obtain⟨v,r,e,_⟩:=h1
  rw[h2]at e
  cases e
 | t::ts,u::us,_,hf,⟨v,r,e,h1,h2⟩,⟨v',r',e',h1',h2'⟩,k,h=>by
  subst e
  cases e'
  unfold eqL at h
  split at h
  ·rename_i k1 k2 q1 q2
   cases h
   rw[hf t u v k1 h1 h1' q1,aeq ts us r hf h2 h2' k2 q2]
   rfl
  ·cases h
theorem acR:∀(n:Nat) (t u:T) (v:V) (k:Bool),Rep G w H t v→Rep G w H u v→eqD n t u=some k→k=true
 | n,.non,u,v,k,h1,h2,h=>by
  cases h1
  cases u<;>simp only[Rep]at h2<;>first|(cases h2;done)|(simp[eqD]at h;exact h)|(obtain⟨a,vs,e,_⟩:=h2;cases e)|(obtain⟨e,e2⟩:=h2;cases e2;done)|(obtain⟨e,e2,_⟩:=h2;cases e2)
 | n,.bl b,u,v,k,h1,h2,h=>by
  cases h1
  cases u<;>simp only[Rep]at h2<;>first|(cases h2;done)|(cases h2;simp[eqD]at h;exact h)|(obtain⟨a,vs,e,_⟩:=h2;cases e)|(obtain⟨e,e2⟩:=h2;cases e2;done)|(obtain⟨e,e2,_⟩:=h2;cases e2)
 | n,.int i,u,v,k,h1,h2,h=>by
  cases h1
  cases u<;>simp only[Rep]at h2<;>first|(cases h2;done)|(cases h2;simp[eqD]at h;exact h)|(obtain⟨a,vs,e,_⟩:=h2;cases e)|(obtain⟨e,e2⟩:=h2;cases e2;done)|(obtain⟨e,e2,_⟩:=h2;cases e2)
 | n,.str x,u,v,k,h1,h2,h=>by
  cases h1
  cases u<;>simp only[Rep]at h2<;>first|(cases h2;done)|(cases h2;simp[eqD]at h;exact h)|(obtain⟨a,vs,e,_⟩:=h2;cases e)|(obtain⟨e,e2⟩:=h2;cases e2;done)|(obtain⟨e,e2,_⟩:=h2;cases e2)
 | 0,.tup ts,u,v,k,h1,h2,h=>by cases u<;>simp[eqD]at h
 | n+1,.tup ts,u,v,k,h1,h2,h=>by
  obtain⟨a,vs,e,q,r⟩:=h1
  subst e
  cases u with
  | tup us=>
   obtain⟨a',vs',e',q',r'⟩:=h2
   cases e'
   rw[q]at q'
   cases q'
   simp only[eqD]at h
   exact aeq ts us vs (fun t u v k=>acR n t u v k) r r' k h
  | non=>cases h2
  | _=>simp[eqD]at h
 | 0,.lst ts,u,v,k,h1,h2,h=>by cases u<;>simp[eqD]at h
 | n+1,.lst ts,u,v,k,h1,h2,h=>by
  obtain⟨a,vs,e,z,q,r⟩:=h1
  subst e
  cases u with
  | lst us=>
   obtain⟨a',vs',e',z',q',r'⟩:=h2
   cases e'
   have ev:vs=vs':=by
    rcases q with q|⟨o,q⟩<;>rcases q' with q'|⟨o',q'⟩<;>(rw[q]at q';cases q';try rfl)
   subst ev
   simp only[eqD]at h
   exact aeq ts us vs (fun t u v k=>acR n t u v k) r r' k h
  | _=>simp[eqD]at h
 | n,.loc l,u,v,k,h1,h2,h=>by cases u<;>simp[eqD]at h
 | n,.exc c,u,v,k,h1,h2,h=>by cases u<;>simp[eqD]at h
theorem acU{f:T→T→Option Bool}:∀(ts us:List T) (k:Bool),eqL f ts us=some k→∃e:Nat→Bool,(∀(j:Nat) t u,ts[j]?=some t→us[j]?=some u→f t u=some (e j))∧k=((List.range (min ts.length us.length)).all e&&ts.length==us.length)
 | [],[],k,h=>by cases h;exact⟨fun _=>true,fun j t u z=>by simp at z,rfl⟩
 | [],u::us,k,h=>by cases h;exact⟨fun _=>true,fun j t u z=>by simp at z,by simp⟩
 | t::ts,[],k,h=>by cases h;exact⟨fun _=>true,fun j t u _ z=>by simp at z,by simp⟩
 | t::ts,u::us,k,h=>by
  unfold eqL at h
  split at h
  ·rename_i k1 k2 q1 q2
   cases h
   obtain⟨e,h1,h2⟩:=acU ts us k2 q2
   refine⟨fun j=>match j with | 0=>k1|j+1=>e j,fun j t' u' z1 z2=>?_,?_⟩
   ·cases j with
    | zero=>simp at z1 z2;subst z1 z2;exact q1
    | succ j=>simp at z1 z2;exact h1 j t' u' z1 z2
   ·rw[h2]
    have em:min (t::ts).length (u::us).length=min ts.length us.length+1:=by simp[Nat.succ_min_succ]
    rw[em,List.range_succ_eq_map,List.all_cons,List.all_map]
    have el:((t::ts).length==(u::us).length)=(ts.length==us.length):=by simp
    rw[el,Bool.and_assoc]
    rfl
  ·cases h
theorem adZ{vs:List V}{its:List Value}(r:aa1 vs its){j:Nat}{u:Value}(e:its[j]?=some u):∃v,vs[j]?=some v∧aaL v u:=by
 have hj:j<vs.length:=by rw[r.length];exact(List.getElem?_eq_some_iff.mp e).1
 obtain⟨u',h1,h2⟩:=r.get (List.getElem?_eq_getElem hj)
 rw[e]at h1
 cases h1
 exact⟨_,List.getElem?_eq_getElem hj,h2⟩
variable{A:Around}
theorem abK{n:Nat}{ts us:List T}{vs vs':List V}{its its':List Value}{e:Nat→Bool}(r:aam G w H ts vs)(r':aam G w H us vs')(q:aa1 vs its)(q':aa1 vs' its')
  (he:∀(j:Nat) t u,ts[j]?=some t→us[j]?=some u→eqD n t u=some (e j))
  (ih:∀(t u:T) (v v':V) (x y:Value) (k:Bool),Rep G w H t v→Rep G w H u v'→aaL v x→aaL v' y→eqD n t u=some k→EqAt A s x y k):
  ∀j (h1:j<its.toArray.size) (h2:j<its'.toArray.size),EqAt A s its.toArray[j] its'.toArray[j] (e j):=by
 intro j h1 h2
 have h1':j<its.length:=by simpa using h1
 have h2':j<its'.length:=by simpa using h2
 obtain⟨v,e1,rv⟩:=adZ q (List.getElem?_eq_getElem h1')
 obtain⟨v',e2,rv'⟩:=adZ q' (List.getElem?_eq_getElem h2')
 obtain⟨t,e3,rt⟩:=r.get' e1
 obtain⟨u,e4,ru⟩:=r'.get' e2
 have:=ih t u v v' its[j] its'[j] (e j) rt ru rv rv' (he j t u e3 e4)
 simpa using this
theorem ah9(I:Inv X pins σ H s):∀(n:Nat) (A:Around),A.units+n<cLine→∀(t u:T) (v v':V) (x y:Value) (k:Bool),Rep G w H t v→Rep G w H u v'→aaL v x→aaL v' y→eqD n t u=some k→EqAt A s x y k:=by
 intro n
 induction n with
 | zero=>
  intro A hu t u v v' x y k h1 h2 r1 r2 h
  cases t<;>cases u<;>simp only[eqD]at h<;>first|(cases h;done)|skip
  ·cases h;cases h1;cases h2;cases r1;cases r2;exact EqAt.same _
  ·cases h;cases h1;cases h2;cases r1;obtain⟨_,rfl⟩:=r2;exact EqAt.none_int _ _
  ·cases h;cases h1;cases h2;cases r1;cases r2;exact EqAt.bool_bool _ _
  ·cases h;cases h1;cases h2;obtain⟨_,rfl⟩:=r1;cases r2;exact EqAt.int_none _ _
  ·cases h;cases h1;cases h2;obtain⟨_,rfl⟩:=r1;obtain⟨_,rfl⟩:=r2;exact EqAt.int_int _ _ _ _
  ·cases h;cases h1;cases h2;obtain⟨_,rfl⟩:=r1;obtain⟨_,rfl⟩:=r2;exact EqAt.str_str _ _ _ _
 | succ n ih=>
  intro A hu t u v v' x y k h1 h2 r1 r2 h
  have hu0:A.units<cLine:=by omega
  have hin:A.in1.units+n<cLine:=by show A.units+1+n<cLine;omega
  cases t<;>cases u<;>simp only[eqD]at h<;>first|(cases h;done)|skip
  ·cases h;cases h1;cases h2;cases r1;cases r2;exact EqAt.same _
  ·cases h;cases h1;cases h2;cases r1;obtain⟨_,rfl⟩:=r2;exact EqAt.none_int _ _
  ·cases h
   obtain⟨a,vs,e,q,_⟩:=h2
   subst e
   cases h1;cases r1;cases r2
   obtain⟨its,_,hi⟩:=abh I q
   exact EqAt.none_tuple hi hu0
  ·cases h;cases h1;cases h2;cases r1;cases r2;exact EqAt.bool_bool _ _
  ·cases h;cases h1;cases h2;obtain⟨_,rfl⟩:=r1;cases r2;exact EqAt.int_none _ _
  ·cases h;cases h1;cases h2;obtain⟨_,rfl⟩:=r1;obtain⟨_,rfl⟩:=r2;exact EqAt.int_int _ _ _ _
  ·cases h;cases h1;cases h2;obtain⟨_,rfl⟩:=r1;obtain⟨_,rfl⟩:=r2;exact EqAt.str_str _ _ _ _
  ·cases h
   obtain⟨a,vs,e,q,_⟩:=h1
   subst e
   cases h2;cases r1;cases r2
   obtain⟨its,_,hi⟩:=abh I q
   exact EqAt.tuple_none hi hu0
  ·rename_i ts us
   have hs:=acR (G:=G) (w:=w) (H:=H) (n+1) (.tup ts) (.tup us)
   have h1':=h1
   have h2':=h2
   obtain⟨a,vs,e,q,r⟩:=h1
   obtain⟨a',vs',e',q',r'⟩:=h2
   subst e e'
   cases r1;cases r2
   by_cases ea:a=a'
   ·subst ea
    have hk:k=true:=hs (.ref a) k h1' h2' (by simp only[eqD];exact h)
    subst hk
    exact EqAt.same _
   ·obtain⟨its,q1,hi⟩:=abh I q
    obtain⟨its',q1',hi'⟩:=abh I q'
    obtain⟨e,he,hk⟩:=acU ts us k h
    have hz:=RcAt.tuples hi hi' hu0 (abK r r' q1 q1' he (ih A.in1 hin))
    rw[List.size_toArray,List.size_toArray,←q1.length,←q1'.length,←r.length,←r'.length,←hk]at hz
    exact EqAt.of_refs ea hz
  ·rename_i ts us
   have hs:=acR (G:=G) (w:=w) (H:=H) (n+1) (.lst ts) (.lst us)
   have h1':=h1
   have h2':=h2
   obtain⟨a,vs,e,_,q,r⟩:=h1
   obtain⟨a',vs',e',_,q',r'⟩:=h2
   subst e e'
   cases r1;cases r2
   by_cases ea:a=a'
   ·subst ea
    have hk:k=true:=hs (.ref a) k h1' h2' (by simp only[eqD];exact h)
    subst hk
    exact EqAt.same _
   ·obtain⟨its,q1,hi⟩:=aaD I q
    obtain⟨its',q1',hi'⟩:=aaD I q'
    obtain⟨e,he,hk⟩:=acU ts us k h
    have l1:its.toArray.size=ts.length:=by rw[List.size_toArray,←q1.length,←r.length]
    have l2:its'.toArray.size=us.length:=by rw[List.size_toArray,←q1'.length,←r'.length]
    by_cases el:ts.length=us.length
    ·have hz:=RcAt.lists hi hi' (by rw[l1,l2,el]) hu0 (abK r r' q1 q1' he (ih A.in1 hin))
     rw[l1]at hz
     rw[el,Nat.min_self]at hk
     have:k=(List.range us.length).all e:=by rw[hk];simp
     rw[el,←this]at hz
     exact EqAt.of_refs ea hz
    ·have hz:=RcAt.lists_lengths hi hi' (by rw[l1,l2];simpa using el) hu0
     have:k=false:=by rw[hk];simp[el]
     rw[this]
     exact EqAt.of_refs ea hz
end
section
variable{G:Gx}{X:Cx}{pins:List (Addr×Obj)}{σ:St}{H:Hp}{s:Shared}{w:Wo}{st:Sto}{A:Around}
theorem acS(I:Inv X pins σ H s)(hu:A.units+8<cLine){a b:Addr}{vs vs':List V}{ts us:List T}{k:Bool}(q:Rd H a (.lst vs))(q':Rd H b (.lst vs'))(r:aam G w H ts vs)(r':aam G w H us vs')(h:eqL (eqD 7) ts us=some k):
  RcAt A s (.ref a) (.ref b) k∧RcNeAt A s (.ref a) (.ref b) (!k):=by
 have hu0:A.units<cLine:=by omega
 have hin:A.in1.units+7<cLine:=by show A.units+1+7<cLine;omega
 obtain⟨its,q1,hi⟩:=aaD I q
 obtain⟨its',q1',hi'⟩:=aaD I q'
 obtain⟨e,he,hk⟩:=acU ts us k h
 have l1:its.toArray.size=ts.length:=by rw[List.size_toArray,←q1.length,←r.length]
 have l2:its'.toArray.size=us.length:=by rw[List.size_toArray,←q1'.length,←r'.length]
 have hp:=abK (s:=s) (A:=A.in1) r r' q1 q1' he (ah9 I 7 A.in1 hin)
 by_cases el:ts.length=us.length
 ·have hz:=RcAt.lists hi hi' (by rw[l1,l2,el]) hu0 hp
  have hy:=RcNeAt.lists hi hi' (by rw[l1,l2,el]) hu0 hp
  rw[el,Nat.min_self]at hk
  have:k=(List.range us.length).all e:=by rw[hk];simp
  rw[l1,el,←this]at hz hy
  exact⟨hz,hy⟩
 ·have hz:=RcAt.lists_lengths hi hi' (by rw[l1,l2];simpa using el) hu0
  have hy:=RcNeAt.lists_lengths hi hi' (by rw[l1,l2];simpa using el) hu0
  have:k=false:=by rw[hk];simp[el]
  rw[this]
  exact⟨hz,hy⟩
theorem akY(I:Inv X pins σ H s)(hu:A.units+8<cLine){a b:Addr}{vs vs':List V}{ts us:List T}{k:Bool}(q:H a=some (.tup vs))(q':H b=some (.tup vs'))(r:aam G w H ts vs)(r':aam G w H us vs')(h:eqL (eqD 7) ts us=some k):
  RcAt A s (.ref a) (.ref b) k∧RcNeAt A s (.ref a) (.ref b) (!k):=by
 have hu0:A.units<cLine:=by omega
 have hin:A.in1.units+7<cLine:=by show A.units+1+7<cLine;omega
 obtain⟨its,q1,hi⟩:=abh I q
 obtain⟨its',q1',hi'⟩:=abh I q'
 obtain⟨e,he,hk⟩:=acU ts us k h
 have hp:=abK (s:=s) (A:=A.in1) r r' q1 q1' he (ah9 I 7 A.in1 hin)
 have hz:=RcAt.tuples hi hi' hu0 hp
 have hy:=RcNeAt.tuples hi hi' hu0 hp
 rw[List.size_toArray,List.size_toArray,←q1.length,←q1'.length,←r.length,←r'.length,←hk]at hz hy
 exact⟨hz,hy⟩
theorem awR(I:Inv X pins σ H s)(hu:A.units+8<cLine){t u:T}{v v':V}{x y:Value}{k:Bool}(h1:Rep G w H t v)(h2:Rep G w H u v')(r1:aaL v x)(r2:aaL v' y)(h:eqD 8 t u=some k):
  RcAt A s x y k∧RcNeAt A s x y (!k):=by
 have hu0:A.units<cLine:=by omega
 cases t<;>cases u<;>simp only[eqD]at h<;>first|(cases h;done)|skip
 ·cases h;cases h1;cases h2;cases r1;cases r2;exact⟨RcAt.none_none,RcNeAt.none_none⟩
 ·cases h;cases h1;cases h2;cases r1;obtain⟨_,rfl⟩:=r2;exact⟨RcAt.none_int _ _,RcNeAt.none_int _ _⟩
 ·cases h
  obtain⟨a,vs,e,q,_⟩:=h2
  subst e
  cases h1;cases r1;cases r2
  obtain⟨its,_,hi⟩:=abh I q
  exact⟨RcAt.none_tuple hi hu0,RcNeAt.none_tuple hi hu0⟩
 ·cases h;cases h1;cases h2;cases r1;cases r2;exact⟨RcAt.bool_bool _ _,RcNeAt.bool_bool _ _⟩
 ·cases h;cases h1;cases h2;obtain⟨_,rfl⟩:=r1;cases r2;exact⟨RcAt.int_none _ _,RcNeAt.int_none _ _⟩
 ·cases h;cases h1;cases h2;obtain⟨_,rfl⟩:=r1;obtain⟨_,rfl⟩:=r2;exact⟨RcAt.int_int _ _ _ _,RcNeAt.int_int _ _ _ _⟩
 ·cases h;cases h1;cases h2;obtain⟨_,rfl⟩:=r1;obtain⟨_,rfl⟩:=r2;exact⟨RcAt.str_str _ _ _ _,RcNeAt.str_str _ _ _ _⟩
 ·cases h
  obtain⟨a,vs,e,q,_⟩:=h1
  subst e
  cases h2;cases r1;cases r2
  obtain⟨its,_,hi⟩:=abh I q
  exact⟨RcAt.tuple_none hi hu0,RcNeAt.tuple_none hi hu0⟩
 ·obtain⟨a,vs,e,q,r⟩:=h1
  obtain⟨a',vs',e',q',r'⟩:=h2
  subst e e'
  cases r1;cases r2
  exact akY I hu q q' r r' h
 ·obtain⟨a,vs,e,_,q,r⟩:=h1
  obtain⟨a',vs',e',_,q',r'⟩:=h2
  subst e e'
  cases r1;cases r2
  exact acS I hu q q' r r' h
theorem avt(I:Inv X pins σ H s)(hu:A.units+8<cLine){t u:R}{v v':V}{x y:Value}{k:Bool}(h1:abl G w H t v)(h2:abl G w H u v')(r1:aaL v x)(r2:aaL v' y)(h:eqR t u=some k):
  RcAt A s x y k∧RcNeAt A s x y (!k):=by
 unfold eqR at h
 split at h
 ·exact awR I hu h1 h2 r1 r2 h
 ·obtain⟨a,vs,e,_,q,r⟩:=h1
  obtain⟨a',vs',e',q',r',_⟩:=h2
  subst e e'
  cases r1;cases r2
  exact acS I hu q (.inl q') r r' h
 ·obtain⟨a,vs,e,q,r,_⟩:=h1
  obtain⟨a',vs',e',_,q',r'⟩:=h2
  subst e e'
  cases r1;cases r2
  exact acS I hu (.inl q) q' r r' h
 ·obtain⟨a,vs,e,q,r,_⟩:=h1
  obtain⟨a',vs',e',q',r',_⟩:=h2
  subst e e'
  cases r1;cases r2
  exact acS I hu (.inl q) (.inl q') r r' h
 ·cases h
end
section
variable{G:Gx}{X:Cx}{C:Cf}{a b c:Expr}{a' b' c':E}{pos:Pos}
noncomputable def akm:Cm→CmpOp
 | .lt=>.Lt | .le=>.LtE | .gt=>.Gt | .ge=>.GtE | .eq=>.Eq | .ne=>.NotEq | .isN=>.Is | .notN=>.IsNot | .mem=>.In | .nmem=>.NotIn
noncomputable def aiP(c:Cm)(x y:R):Option R:=(adr c x y).map fun k=>.val (.bl k)
theorem abO{pins:List (Addr×Obj)}{σ:St}{H:Hp}{s:Shared}{w:Wo}{st:Sto}{Q:VK}{k:Bool}(I:Inv X pins σ H s)(S:StoOk G w H st)(q:∀w' H' v,Le w w' H H'→StoOk G w' H' st→abl G w' H' (.val (.bl k)) v→Q v H'):EP X pins σ Q (.bool k) s:=
 ⟨.bl k,H,I,rfl,q w H _ (Le.refl _ _) S rfl⟩
theorem aei{op:CmpOp}{f:Int→Int→Bool}{c:Cm}(hc:∀x y r,aiP c x y=some r→∃i j,x=.val (.int i)∧y=.val (.int j)∧r=.val (.bl (f i j)))
  (ho:OpR X (compareOp op) (rI0 fun i j=>.bl (f i j))):OpR X (compareOp op) (r2 G (aiP c)):=by
 intro pins s σ H x y v u Q I rx ry h
 obtain⟨w,st,x',y',r,S,Rx,Ry,e,q⟩:=h
 obtain⟨i,j,rfl,rfl,rfl⟩:=hc x' y' r e
 have hx:x=.int i:=Rx
 have hy:y=.int j:=Ry
 exact ho pins s σ H x y v u Q I rx ry ⟨i,j,hx,hy,q w H _ (Le.refl _ _) S rfl⟩
theorem apF{x y:R}{g:Int→Int→Bool}{r:R}(h:(do let i ←x.int?;let j ←y.int?;some (g i j)).map (fun k=>R.val (.bl k))=some r):∃i j,x=.val (.int i)∧y=.val (.int j)∧r=.val (.bl (g i j)):=by
 match x,y with
 | .val (.int i),.val (.int j)=>cases h;exact⟨i,j,rfl,rfl,rfl⟩
 | .val (.int i),.val .non=>cases h
 | .val (.int i),.val (.bl _)=>cases h
 | .val (.int i),.val (.str _)=>cases h
 | .val (.int i),.val (.tup _)=>cases h
 | .val (.int i),.val (.lst _)=>cases h
 | .val (.int i),.val (.loc _)=>cases h
 | .val (.int i),.val (.exc _)=>cases h
 | .val (.int i),.bor _=>cases h
 | .val .non,_=>cases h
 | .val (.bl _),_=>cases h
 | .val (.str _),_=>cases h
 | .val (.tup _),_=>cases h
 | .val (.lst _),_=>cases h
 | .val (.loc _),_=>cases h
 | .val (.exc _),_=>cases h
 | .bor _,_=>cases h
theorem adB{w:Wo}{H:Hp}{x:R}{v:V}(r:abl G w H x v):decide (v=.non)=x.isNon:=by
 match x,r with
 | .val .non,r=>cases r;rfl
 | .val (.bl _),r=>cases r;rfl
 | .val (.int _),r=>cases r;rfl
 | .val (.str _),r=>cases r;rfl
 | .val (.tup _),r=>obtain⟨_,_,e,_⟩:=r;subst e;rfl
 | .val (.lst _),r=>obtain⟨_,_,e,_⟩:=r;subst e;rfl
 | .val (.loc _),r=>obtain⟨_,e⟩:=r;subst e;rfl
 | .val (.exc _),r=>obtain⟨_,e,_⟩:=r;subst e;rfl
 | .bor _,r=>obtain⟨_,_,e,_⟩:=r;subst e;rfl
theorem adn{w:Wo}{H:Hp}{f:T→T→Option Bool}(hf:∀t t' u v k k',Rep G w H t v→Rep G w H t' v→f t u=some k→f t' u=some k'→k=k'):
  ∀(ts ts' us:List T) (vs:List V) (k k':Bool),aam G w H ts vs→aam G w H ts' vs→eqL f ts us=some k→eqL f ts' us=some k'→k=k'
 | [],[],us,vs,k,k',_,_,h,h'=>by rw[h]at h';cases h';rfl
 | [],_::_,us,vs,k,k',r,r',h,h'=>by obtain⟨v,q,e,_⟩:=r';rw[r]at e;cases e
 | _::_,[],us,vs,k,k',r,r',h,h'=>by obtain⟨v,q,e,_⟩:=r;rw[r']at e;cases e
 | t::ts,t'::ts',[],vs,k,k',r,r',h,h'=>by cases h;cases h';rfl
 | t::ts,t'::ts',u::us,vs,k,k',⟨v,q,e,h1,h2⟩,⟨v',q',e',h1',h2'⟩,h,h'=>by
  subst e
  cases e'
  unfold eqL at h h'
  split at h
  ·rename_i k1 k2 z1 z2
   split at h'
   ·rename_i k3 k4 z3 z4
    cases h
    cases h'
    rw[hf t t' u v k1 k3 h1 h1' z1 z3,adn hf ts ts' us q k2 k4 h2 h2' z2 z4]
   ·cases h'
  ·cases h
theorem afb{w:Wo}{H:Hp}:∀(n:Nat) (t t' u:T) (v:V) (k k':Bool),Rep G w H t v→Rep G w H t' v→eqD n t u=some k→eqD n t' u=some k'→k=k':=by
 intro n
 induction n with
 | zero=>
  intro t t' u v k k' h1 h2 e1 e2
  cases t<;>cases t'<;>first
   | (cases h1;cases h2;rw[e1]at e2;cases e2;rfl)
   | (cases u<;>simp[eqD]at e1;done)
   | (cases u<;>simp[eqD]at e2;done)
   | (cases h1;cases h2;done)
 | succ n ih=>
  intro t t' u v k k' h1 h2 e1 e2
  cases t<;>cases t'<;>first
   | (cases h1;cases h2;rw[e1]at e2;cases e2;rfl)
   | (cases h1;cases h2;done)
   | (cases u<;>simp[eqD]at e1;done)
   | (cases u<;>simp[eqD]at e2;done)
   | (cases h1;obtain⟨_,_,z,_⟩:=h2;cases z;done)
   | (cases h2;obtain⟨_,_,z,_⟩:=h1;cases z;done)
   | skip
  ·rename_i ts ts'
   obtain⟨a,vs,e,q,r⟩:=h1
   obtain⟨a',vs',e',q',r'⟩:=h2
   subst e
   cases e'
   rw[q]at q'
   cases q'
   cases u<;>simp only[eqD]at e1 e2<;>first|(cases e1;done)|(cases e1;cases e2;rfl)|exact adn (ih ·  ·  ·  ·  ·  ·) ts ts' _ vs k k' r r' e1 e2
  ·obtain⟨a,vs,e,q,r⟩:=h1
   obtain⟨a',vs',e',_,q',r'⟩:=h2
   subst e
   cases e'
   rcases q' with q'|⟨_,q'⟩<;>(rw[q]at q';cases q')
  ·obtain⟨a,vs,e,_,q,r⟩:=h1
   obtain⟨a',vs',e',q',r'⟩:=h2
   subst e
   cases e'
   rcases q with q|⟨_,q⟩<;>(rw[q]at q';cases q')
  ·rename_i ts ts'
   obtain⟨a,vs,e,_,q,r⟩:=h1
   obtain⟨a',vs',e',_,q',r'⟩:=h2
   subst e
   cases e'
   have ev:vs=vs':=by
    rcases q with q|⟨o,q⟩<;>rcases q' with q'|⟨o',q'⟩<;>(rw[q]at q';cases q';try rfl)
   subst ev
   cases u<;>simp only[eqD]at e1 e2<;>first|(cases e1;done)|(cases e1;cases e2;rfl)|exact adn (ih ·  ·  ·  ·  ·  ·) ts ts' _ vs k k' r r' e1 e2
theorem agv{x:T}:∀(ts:List T) (k:Bool),aiR x ts=some k→(∀t∈ts,∃j,eqD 8 t x=some j)∧(k=true↔∃t∈ts,eqD 8 t x=some true)
 | [],k,h=>by cases h;exact⟨fun t z=>by simp at z,by simp⟩
 | t::ts,k,h=>by
  unfold aiR at h
  split at h
  ·rename_i k1 k2 z1 z2
   cases h
   obtain⟨h1,h2⟩:=agv ts k2 z2
   refine⟨fun u hu=>?_,?_⟩
   ·rcases List.mem_cons.mp hu with rfl|hu
    ·exact⟨k1,z1⟩
    ·exact h1 u hu
   ·constructor
    ·intro q
     rcases(Bool.or_eq_true _ _).mp q with q|q
     ·subst q;exact⟨t,List.mem_cons_self ..,z1⟩
     ·obtain⟨u,hu,e⟩:=h2.mp q
      exact⟨u,List.mem_cons_of_mem _ hu,e⟩
    ·rintro⟨u,hu,e⟩
     rcases List.mem_cons.mp hu with rfl|hu
     ·have:some k1=some true:=z1.symm.trans e
      cases this
      rfl
     ·rw[h2.mpr ⟨u,hu,e⟩,Bool.or_true]
  ·cases h
theorem afX{vs:List V}{its:List Value}(r:aa1 vs its){u:Value}(h:u∈its):∃v∈vs,aaL v u:=by
 obtain⟨j,hj,e⟩:=List.mem_iff_getElem.mp h
 obtain⟨v,h1,h2⟩:=adZ r (List.getElem?_eq_some_iff.mpr ⟨hj,e⟩)
 exact⟨v,List.mem_of_getElem? h1,h2⟩
theorem afT{w:Wo}{H:Hp}{ts:List T}{vs:List V}(r:aam G w H ts vs){v:V}(h:v∈vs):∃t∈ts,Rep G w H t v:=by
 obtain⟨j,hj,e⟩:=List.mem_iff_getElem.mp h
 obtain⟨t,h1,h2⟩:=r.get' (List.getElem?_eq_some_iff.mpr ⟨hj,e⟩)
 exact⟨t,List.mem_of_getElem? h1,h2⟩
theorem akf{w:Wo}{H:Hp}{ts:List T}{vs:List V}(r:aam G w H ts vs){t:T}(h:t∈ts):∃v∈vs,Rep G w H t v:=by
 obtain⟨j,hj,e⟩:=List.mem_iff_getElem.mp h
 obtain⟨t,h1,h2⟩:=r.get (List.getElem?_eq_some_iff.mpr ⟨hj,e⟩)
 exact⟨t,List.mem_of_getElem? h1,h2⟩
theorem ajK{vs:List V}{its:List Value}(r:aa1 vs its){v:V}(h:v∈vs):∃u∈its,aaL v u:=by
 obtain⟨j,hj,e⟩:=List.mem_iff_getElem.mp h
 obtain⟨u,h1,h2⟩:=r.get (List.getElem?_eq_some_iff.mpr ⟨hj,e⟩)
 exact⟨u,List.mem_of_getElem? h1,h2⟩
open Classical in
theorem adQ{pins:List (Addr×Obj)}{σ:St}{H:Hp}{s:Shared}{w:Wo}{A:Around}(I:Inv X pins σ H s)(hu:A.units+8<cLine){tx:T}{vx:V}{x:Value}{ts:List T}{vs:List V}{its:List Value}{k:Bool}
  (Rx:Rep G w H tx vx) (rx:aaL vx x) (r:aam G w H ts vs) (q:aa1 vs its) (h:aiR tx ts=some k):∃e:Value→Bool,(∀y,y∈its.toArray→EqAt A s y x (e y))∧its.toArray.any e=k:=by
 obtain⟨h1,h2⟩:=agv ts k h
 refine⟨fun u=>decide (∃v t,aaL v u∧Rep G w H t v∧eqD 8 t tx=some true),fun y hy=>?_,?_⟩
 ·have hy':y∈its:=by simpa using hy
  obtain⟨v,hv,rv⟩:=afX q hy'
  obtain⟨t,ht,rt⟩:=afT r hv
  obtain⟨j,hj⟩:=h1 t ht
  have z:=ah9 I 8 A hu t tx v vx y x j rt Rx rv rx hj
  have ej:decide (∃v t,aaL v y∧Rep G w H t v∧eqD 8 t tx=some true)=j:=by
   cases j with
   | true=>exact decide_eq_true ⟨v,t,rv,rt,hj⟩
   | false=>
    refine decide_eq_false ?_
    rintro⟨v',t',rv',rt',e'⟩
    cases rv.inj rv'
    exact Bool.noConfusion (afb 8 t t' tx v false true rt rt' hj e')
  dsimp only
  rw[ej]
  exact z
 ·rw[Bool.eq_iff_iff,h2,List.any_toArray,List.any_eq_true]
  constructor
  ·rintro⟨u,hu',e⟩
   obtain⟨v,t,rv,rt,e⟩:=of_decide_eq_true e
   obtain⟨v',hv',rv'⟩:=afX q hu'
   cases rv.inj rv'
   obtain⟨t',ht',rt'⟩:=afT r hv'
   obtain⟨j,hj⟩:=h1 t' ht'
   have:=afb 8 t t' tx v true j rt rt' e hj
   subst this
   exact⟨t',ht',hj⟩
  ·rintro⟨t,ht,e⟩
   obtain⟨v,hv,rt⟩:=akf r ht
   obtain⟨u,hu',rv⟩:=ajK q hv
   exact⟨u,hu',decide_eq_true ⟨v,t,rv,rt,e⟩⟩
theorem aky(hu:X.A.units+9<cLine)(c:Cm):OpR X (compareOp (akm c)) (r2 G (aiP c)):=by
 cases c with
 | lt=>exact aei (fun x y r h=>apF h) aqx
 | le=>exact aei (fun x y r h=>apF h) atv
 | gt=>exact aei (fun x y r h=>apF h) arL
 | ge=>exact aei (fun x y r h=>apF h) arZ
 | eq=>
  intro pins s σ H x y v u Q I rx ry h
  obtain⟨w,st,x',y',r,S,Rx,Ry,e,q⟩:=h
  unfold aiP adr at e
  cases he:eqR x' y' with
  | none=>simp[he]at e
  | some k=>
   simp only[he,Option.map_some,Option.some.injEq]at e
   subst e
   exact(avt I (by omega) Rx Ry rx ry he).1 _ _ _ _ (abO I S q)
 | ne=>
  intro pins s σ H x y v u Q I rx ry h
  obtain⟨w,st,x',y',r,S,Rx,Ry,e,q⟩:=h
  unfold aiP adr at e
  cases he:eqR x' y' with
  | none=>simp[he]at e
  | some k=>
   simp only[he,Option.map_some,Option.some.injEq]at e
   subst e
   exact(avt I (by omega) Rx Ry rx ry he).2 _ _ _ _ (abO I S q)
 | isN=>
  intro pins s σ H x y v u Q I rx ry h
  obtain⟨w,st,x',y',r,S,Rx,Ry,e,q⟩:=h
  unfold aiP adr at e
  dsimp only at e
  split at e
  ·have hy:y=.non:=Ry
   refine amQ pins s σ H x y v u Q I rx ry ⟨hy,?_⟩
   rw[adB Rx]
   cases e
   exact q w H _ (Le.refl _ _) S rfl
  ·cases e
 | notN=>
  intro pins s σ H x y v u Q I rx ry h
  obtain⟨w,st,x',y',r,S,Rx,Ry,e,q⟩:=h
  unfold aiP adr at e
  dsimp only at e
  split at e
  ·have hy:y=.non:=Ry
   refine akF pins s σ H x y v u Q I rx ry ⟨hy,?_⟩
   rw[adB Rx]
   cases e
   exact q w H _ (Le.refl _ _) S rfl
  ·cases e
 | mem=>
  intro pins s σ H x y v u Q I rx ry h
  obtain⟨w,st,x',y',r,S,Rx,Ry,e,q⟩:=h
  unfold aiP adr at e
  dsimp only at e
  cases hx:x'.val? with
  | none=>simp[hx]at e
  | some tx=>
   cases hy:y'.sq2 with
   | none=>simp[hx,hy]at e
   | some ts=>
    cases hm:aiR tx ts with
    | none=>simp[hx,hy,hm]at e
    | some k=>
     simp[hx,hy,hm]at e
     subst e
     have Rx':Rep G w H tx x:=by
      cases x' with
      | val t=>cases hx;exact Rx
      | bor t=>cases hx
     obtain⟨p,vs,rfl,hp,rp⟩:=abl.sq2 Ry hy
     cases ry
     rcases hp with hp|hp
     ·obtain⟨its,r1,hi⟩:=aaD I hp
      obtain⟨e,h1,h2⟩:=adQ (A:=X.A.in1) I (by show X.A.units+1+8<cLine;omega) Rx' rx rp r1 hm
      exact in_listAt e hi h1 (by rw[h2];exact abO I S q)
     ·obtain⟨its,r1,hi⟩:=abh I hp
      obtain⟨e,h1,h2⟩:=adQ (A:=X.A.in1) I (by show X.A.units+1+8<cLine;omega) Rx' rx rp r1 hm
      exact in_tupleAt e hi h1 (by rw[h2];exact abO I S q)
 | nmem=>
  intro pins s σ H x y v u Q I rx ry h
  obtain⟨w,st,x',y',r,S,Rx,Ry,e,q⟩:=h
  unfold aiP adr at e
  dsimp only at e
  cases hx:x'.val? with
  | none=>simp[hx]at e
  | some tx=>
   cases hy:y'.sq2 with
   | none=>simp[hx,hy]at e
   | some ts=>
    cases hm:aiR tx ts with
    | none=>simp[hx,hy,hm]at e
    | some k=>
     simp[hx,hy,hm]at e
     subst e
     have Rx':Rep G w H tx x:=by
      cases x' with
      | val t=>cases hx;exact Rx
      | bor t=>cases hx
     obtain⟨p,vs,rfl,hp,rp⟩:=abl.sq2 Ry hy
     cases ry
     rcases hp with hp|hp
     ·obtain⟨its,r1,hi⟩:=aaD I hp
      obtain⟨e,h1,h2⟩:=adQ (A:=X.A.in1) I (by show X.A.units+1+8<cLine;omega) Rx' rx rp r1 hm
      exact notIn_listAt e hi h1 (by rw[h2];exact abO I S q)
     ·obtain⟨its,r1,hi⟩:=abh I hp
      obtain⟨e,h1,h2⟩:=adQ (A:=X.A.in1) I (by show X.A.units+1+8<cLine;omega) Rx' rx rp r1 hm
      exact notIn_tupleAt e hi h1 (by rw[h2];exact abO I S q)
theorem apl(hu:X.A.units+9<cLine)(c:Cm)(ha:PE X a (tV G X C a'))(hb:PE X b (tV G X C b'))(hm:behindInMarks (akm c) b=false):PE X (.Compare a [akm c] [b] pos) (tV G X C (.cmp c a' b')):=
 s2c (aky hu c) ha hb hm fun _ _=>rfl
end
section
variable{G:Gx}{X:Cx}{C:Cf}{a b c:Expr}{a' b' c' e':E}{pos:Pos}{aaB:List Expr}
theorem amH{w:Wo}{H:Hp}{x:R}{v:V}{k:Bool}(r:acT G w H x v)(h:tru x=some k):auf X.K v H k:=by
 match x,h with
 | .val .non,h=>cases r;cases h;exact rfl
 | .val (.bl b),h=>cases r;cases h;exact rfl
 | .val (.int i),h=>cases r;cases h;exact rfl
 | .val (.lst ts),h=>
  cases h
  obtain⟨a,vs,e,_,q,r⟩:=r
  subst e
  refine .inl ⟨vs,.inl q,?_⟩
  cases ts with
  | nil=>cases r;rfl
  | cons t ts=>obtain⟨_,_,e,_⟩:=r;subst e;rfl
 | .val (.tup ts),h=>
  cases h
  obtain⟨a,vs,e,q,r⟩:=r
  subst e
  refine .inr (.inl ⟨vs,.inl (.inl q),?_⟩)
  cases ts with
  | nil=>cases r;rfl
  | cons t ts=>obtain⟨_,_,e,_⟩:=r;subst e;rfl
 | .bor ts,h=>
  cases h
  obtain⟨a,vs,e,q,r⟩:=r
  subst e
  refine .inl ⟨vs,.inl (.inl q),?_⟩
  cases ts with
  | nil=>cases r;rfl
  | cons t ts=>obtain⟨_,_,e,_⟩:=r;subst e;rfl
noncomputable def aur(x:R):Option R:=(tru x).map fun k=>.val (.bl k)
theorem ajs{e:Expr}(hE:PE X e (tV G X C e'))(he:∀whole,isTrue e X.env whole=(do let v ←whole;standAt e.pos;holding [v] (truthy v)))
  (hev:∀σ s,ev C e' .t σ s=(ev C e' .v σ s).bind fun x s=>.of (aur x) s):PT X e (tT G X C e'):=by
 refine PT.imp (ajM hE he) ?_
 rintro σV H Q ⟨w₀,H₀,w,σ,s,g,h⟩
 rw[hev]at h
 refine⟨w₀,H₀,w,σ,s,g,(aaJ.bind h).imp ?_⟩
 rintro v H1 ⟨w1,r,s1,L1,S1,R1,h1⟩
 obtain⟨r',e,q⟩:=aaJ.of h1
 unfold aur at e
 cases ht:tru r with
 | none=>rw[ht]at e;cases e
 | some k=>
  rw[ht]at e
  cases e
  obtain⟨k',e,q'⟩:=q w1 H1 (.bl k) (Le.refl _ _) S1 rfl
  cases e
  exact⟨k,amH R1.d ht,q'⟩
theorem asw(c:Cm)(σ:Fr)(s:Sto):ev C (.cmp c a' b') .t σ s=ev C (.cmp c a' b') .v σ s:=by
 show Res.bind (Res.bind (ev C a' .v σ s) _) _=Res.bind (ev C a' .v σ s) _
 cases ev C a' .v σ s with
 | stuck=>rfl
 | exc c s=>rfl
 | ok x s1=>
  show Res.bind (Res.bind (ev C b' .v σ s1) _) _=Res.bind (ev C b' .v σ s1) _
  cases ev C b' .v σ s1 with
  | stuck=>rfl
  | exc c s=>rfl
  | ok y s2=>
   show Res.bind (Res.of ((adr c x y).map _) s2) _=Res.of ((adr c x y).map _) s2
   cases adr c x y<;>rfl
theorem aon(hu:X.A.units+9<cLine)(c:Cm)(ha:PE X a (tV G X C a'))(hb:PE X b (tV G X C b'))(hm:behindInMarks (akm c) b=false):PT X (.Compare a [akm c] [b] pos) (tT G X C (.cmp c a' b')):=by
 refine PT.imp (akU (aky (G:=G) hu c) ha hb hm) ?_
 rintro σV H Q ⟨w₀,H₀,w,σ,s,g,h⟩
 rw[asw]at h
 exact alH (f:=aiP c) ⟨w₀,H₀,w,σ,s,g,h⟩
noncomputable def r1(G:Gx)(f:R→Option R):V→Hp→VK→Prop:=fun x H Q=>∃w s rx r,StoOk G w H s∧acT G w H rx x∧f rx=some r∧∀w' H' v,Le w w' H H'→StoOk G w' H' s→abl G w' H' r v→Q v H'
theorem amI{f:R→Option R}{σV:St}{H:Hp}{Q:VK}(h:∃w₀ H₀ w σ s,Good G w₀ H₀ w H σ s σV∧aaJ G X σV w H ((ev C a' .v σ s).bind fun x s1=>.of (f x) s1) Q):
  tV G X C a' σV H fun x H1=>r1 G f x H1 Q:=by
 obtain⟨w₀,H₀,w,σ,s,g,h⟩:=h
 refine⟨w₀,H₀,w,σ,s,g,(aaJ.bind h).imp ?_⟩
 rintro x H1 ⟨w1,r1,s1,L1,S1,R1,h1⟩
 obtain⟨r,e,q⟩:=aaJ.of h1
 exact⟨w1,s1,r1,r,S1,R1.d,e,q⟩
theorem ajV{f:R→Option R}{σV:St}{H:Hp}{Q:VK}(h:∃w₀ H₀ w σ s,Good G w₀ H₀ w H σ s σV∧aaJ G X σV w H ((ev C a' .v σ s).bind fun x s1=>.of (f (x.dr s1)) s1) Q):
  tV G X C a' σV H fun x H1=>r1 G f x H1 Q:=by
 obtain⟨w₀,H₀,w,σ,s,g,h⟩:=h
 refine⟨w₀,H₀,w,σ,s,g,(aaJ.bind h).imp ?_⟩
 rintro x H1 ⟨w1,r1,s1,L1,S1,R1,h1⟩
 obtain⟨r,e,q⟩:=aaJ.of h1
 exact⟨w1,s1,_,r,S1,R1.dr S1,e,q⟩
theorem acB(ha:PE X a (tV G X C a')):PE X (.UnaryOp .USub a pos) (tV G X C (.neg a')):=by
 refine PE.imp (aqT aoZ ha) ?_
 rintro σV H Q h
 have h:=amI (f:=fun x=>x.int?.map fun i=>R.val (.int (-i))) h
 refine(show tV G X C a' σV H _ from ?_)
 obtain⟨w₀,H₀,w,σ,s,g,h⟩:=h
 refine⟨w₀,H₀,w,σ,s,g,h.imp ?_⟩
 rintro x H1 ⟨w1,s1,rx,r,S1,R1,e,q⟩
 match rx,e with
 | .val (.int i),e=>cases e;cases R1;exact⟨i,rfl,q w1 H1 _ (Le.refl _ _) S1 rfl⟩
theorem afO(ha:PE X a (tV G X C a')):PE X (.UnaryOp .Not a pos) (tV G X C (.not a')):=by
 intro pins s σ H Q I h
 have h:=amI (f:=fun x=>(tru x).map fun k=>R.val (.bl (!k))) h
 refine PyProof.Rows.UnaryOp_ (thn (ha pins s σ H _ I h) fun v s1 ⟨x,H1,I1,r1,q1⟩=>?_)
 obtain⟨w1,st,rx,r,S1,R1,e,q⟩:=q1
 dsimp only at e
 cases ht:tru rx with
 | none=>rw[ht]at e;cases e
 | some k=>
  rw[ht]at e
  cases e
  exact PyProof.Rows.not_of (thn (akE pins s1 σ H1 x v (fun c H2=>Q (.bl (!c)) H2) I1 r1 ⟨k,amH R1 ht,q w1 H1 _ (Le.refl _ _) S1 rfl⟩) fun c s2 ⟨H2,I2,z⟩=>⟨.bl (!c),H2,I2,rfl,z⟩)
theorem ag5{w:Wo}{H:Hp}{σV:St}{x:R}{v:V}{m n:Res R}{Q:VK}(r:abl G w H x v)(h:aaJ G X σV w H (onB x m n) Q):∃k,v=.bl k∧x=.val (.bl k)∧aaJ G X σV w H (if k=true then m else n) Q:=by
 match x,h with
 | .val (.bl true),h=>exact⟨true,r,rfl,h⟩
 | .val (.bl false),h=>exact⟨false,r,rfl,h⟩
 | .val .non,h=>exact h.elim
 | .val (.int _),h=>exact h.elim
 | .val (.str _),h=>exact h.elim
 | .val (.tup _),h=>exact h.elim
 | .val (.lst _),h=>exact h.elim
 | .val (.loc _),h=>exact h.elim
 | .val (.exc _),h=>exact h.elim
 | .bor _,h=>exact h.elim
theorem abR(ha:PT X a (tT G X C a')):PT X (.UnaryOp .Not a pos) (tT G X C (.not a')):=by
 refine PT.imp (ao1 ha) ?_
 rintro σV H Q ⟨w₀,H₀,w,σ,s,g,h⟩
 refine⟨w₀,H₀,w,σ,s,g,(aaJ.bind h).imp ?_⟩
 rintro v H1 ⟨w1,r,s1,L1,S1,R1,h1⟩
 obtain⟨k,rfl,rfl,h1⟩:=ag5 R1 h1
 refine⟨k,rfl,?_⟩
 cases k with
 | true=>obtain⟨_,e,q⟩:=h1 w1 H1 (.bl false) (Le.refl _ _) S1 rfl;cases e;exact q
 | false=>obtain⟨_,e,q⟩:=h1 w1 H1 (.bl true) (Le.refl _ _) S1 rfl;cases e;exact q
theorem ao7{σV:St}{H:Hp}{Q:Bool→Hp→Prop}(h:tT G X C (.and a' b') σV H Q):auP (tT G X C a') (tT G X C b') σV H Q:=by
 obtain⟨w₀,H₀,w,σ,s,g,h⟩:=h
 refine⟨w₀,H₀,w,σ,s,g,(aaJ.bind h).imp ?_⟩
 rintro v H1 ⟨w1,r,s1,L1,S1,R1,h1⟩
 obtain⟨k,rfl,rfl,h1⟩:=ag5 R1 h1
 refine⟨k,rfl,?_⟩
 cases k with
 | true=>exact amz ⟨w₀,H₀,w1,σ,s1,g.step L1 S1,h1⟩
 | false=>obtain⟨_,e,q⟩:=h1 w1 H1 (.bl false) (Le.refl _ _) S1 rfl;cases e;exact am0 q
theorem atz{σV:St}{H:Hp}{Q:Bool→Hp→Prop}(h:tT G X C (.or a' b') σV H Q):tOr (tT G X C a') (tT G X C b') σV H Q:=by
 obtain⟨w₀,H₀,w,σ,s,g,h⟩:=h
 refine⟨w₀,H₀,w,σ,s,g,(aaJ.bind h).imp ?_⟩
 rintro v H1 ⟨w1,r,s1,L1,S1,R1,h1⟩
 obtain⟨k,rfl,rfl,h1⟩:=ag5 R1 h1
 refine⟨k,rfl,?_⟩
 cases k with
 | true=>obtain⟨_,e,q⟩:=h1 w1 H1 (.bl true) (Le.refl _ _) S1 rfl;cases e;exact amz q
 | false=>exact am0 ⟨w₀,H₀,w1,σ,s1,g.step L1 S1,h1⟩
theorem PW.imp{e:Expr}{t t':TT}(h:PW X e t)(q:∀σ H Q,t' σ H Q→t σ H Q):PW X e t':=fun wh pins s σ H Q I z=>h wh pins s σ H Q I (q _ _ _ z)
noncomputable def PTb(X:Cx)(op:BoolOp)(es:List Expr)(pos:Pos)(t:TT):Prop:=PW X (.BoolOp op es pos) t
theorem abj(h:PT X a (tT G X C a')):PTb X .And [a] pos (tT G X C a'):=alS h
theorem aaA(h:PT X a (tT G X C a')):PTb X .Or [a] pos (tT G X C a'):=aoh h
theorem ado(ha:PT X a (tT G X C a'))(hb:PTb X .And (b::aaB) pos (tT G X C b')):PTb X .And (a::b::aaB) pos (tT G X C (.and a' b')):=PW.imp (aoi ha hb) fun _ _ _ h=>ao7 h
theorem ab5(ha:PT X a (tT G X C a'))(hb:PTb X .Or (b::aaB) pos (tT G X C b')):PTb X .Or (a::b::aaB) pos (tT G X C (.or a' b')):=PW.imp (arf ha hb) fun _ _ _ h=>atz h
theorem adl(ha:PE X a (tV G X C a'))(hb:PE X (.BoolOp .And (b::aaB) pos) (tV G X C b')):PE X (.BoolOp .And (a::b::aaB) pos) (tV G X C (.and a' b')):=by
 refine PE.imp (aoA ha hb) ?_
 rintro σV H Q ⟨w₀,H₀,w,σ,s,g,h⟩
 refine⟨w₀,H₀,w,σ,s,g,(aaJ.bind h).imp ?_⟩
 rintro v H1 ⟨w1,r,s1,L1,S1,R1,h1⟩
 obtain⟨k,rfl,rfl,h1⟩:=ag5 R1 h1
 refine⟨k,rfl,?_⟩
 cases k with
 | true=>exact amz ⟨w₀,H₀,w1,σ,s1,g.step L1 S1,h1⟩
 | false=>exact am0 (h1 w1 H1 (.bl false) (Le.refl _ _) S1 rfl)
theorem alT(ha:PE X a (tV G X C a'))(hb:PE X (.BoolOp .Or (b::aaB) pos) (tV G X C b')):PE X (.BoolOp .Or (a::b::aaB) pos) (tV G X C (.or a' b')):=by
 refine PE.imp (auh ha hb) ?_
 rintro σV H Q ⟨w₀,H₀,w,σ,s,g,h⟩
 refine⟨w₀,H₀,w,σ,s,g,(aaJ.bind h).imp ?_⟩
 rintro v H1 ⟨w1,r,s1,L1,S1,R1,h1⟩
 obtain⟨k,rfl,rfl,h1⟩:=ag5 R1 h1
 refine⟨k,rfl,?_⟩
 cases k with
 | true=>exact amz (h1 w1 H1 (.bl true) (Le.refl _ _) S1 rfl)
 | false=>exact am0 ⟨w₀,H₀,w1,σ,s1,g.step L1 S1,h1⟩
theorem ak4(hc:PT X c (tT G X C c'))(ha:PE X a (tV G X C a'))(hb:PE X b (tV G X C b')):PE X (.IfExp c a b pos) (tV G X C (.ife c' a' b')):=by
 refine PE.imp (akb hc ha hb) ?_
 rintro σV H Q ⟨w₀,H₀,w,σ,s,g,h⟩
 refine⟨w₀,H₀,w,σ,s,g,(aaJ.bind h).imp ?_⟩
 rintro v H1 ⟨w1,r,s1,L1,S1,R1,h1⟩
 obtain⟨k,rfl,rfl,h1⟩:=ag5 R1 h1
 refine⟨k,rfl,?_⟩
 cases k with
 | true=>exact amz ⟨w₀,H₀,w1,σ,s1,g.step L1 S1,h1⟩
 | false=>exact am0 ⟨w₀,H₀,w1,σ,s1,g.step L1 S1,h1⟩
noncomputable def alL(G:Gx)(X:Cx)(σV:St)(w:Wo)(H:Hp)(res:Res (List T))(Q:List V→Hp→Prop):Prop:=match res with
 | .stuck=>False
 | .ok ts s'=>∀w' H' vs,Le w w' H H'→StoOk G w' H' s'→aam G w' H' ts vs→Q vs H'
 | .exc c s'=>∀w' H' pins u sh,Le w w' H H'→StoOk G w' H' s'→aaS G X pins σV H' c u sh→X.xe u sh
noncomputable def ajC(G:Gx)(X:Cx)(σV:St)(w:Wo)(H:Hp)(res:Res (List R))(Q:List V→Hp→Prop):Prop:=match res with
 | .stuck=>False
 | .ok ts s'=>∀w' H' vs,Le w w' H H'→StoOk G w' H' s'→abk G w' H' ts vs→Q vs H'
 | .exc c s'=>∀w' H' pins u sh,Le w w' H H'→StoOk G w' H' s'→aaS G X pins σV H' c u sh→X.xe u sh
noncomputable def tA(G:Gx)(X:Cx)(C:Cf)(es:List E):TA:=fun σV H Q=>∃w₀ H₀ w σ s,Good G w₀ H₀ w H σ s σV∧alL G X σV w H (evs C es σ s) Q
noncomputable def tR(G:Gx)(X:Cx)(C:Cf)(es:List E):TA:=fun σV H Q=>∃w₀ H₀ w σ s,Good G w₀ H₀ w H σ s σV∧ajC G X σV w H (evr C es σ s) Q
theorem aan:PA X [] (tA G X C []):=PA.imp aaY fun σV H Q ⟨w₀,H₀,w,σ,s,g,h⟩=>h w H [] (Le.refl _ _) g.sto rfl
theorem aah:PA X [] (tR G X C []):=PA.imp aaY fun σV H Q ⟨w₀,H₀,w,σ,s,g,h⟩=>h w H [] (Le.refl _ _) g.sto rfl
variable{es:List Expr}{es':List E}
theorem aln(ha:PE X a (tV G X C a'))(hr:PA X es (tA G X C es'))(hs:starEach (a::es) X.env=(false,eval a X.env)::starEach es X.env):PA X (a::es) (tA G X C (a'::es')):=by
 refine PA.imp (aa9 ha hr hs) ?_
 rintro σV H Q ⟨w₀,H₀,w,σ,s,g,h⟩
 have h:alL G X σV w H ((ev C a' .v σ s).bind fun x s1=>onV x fun t=>(evs C es' σ s1).bind fun ts s2=>.ok (t::ts) s2) Q:=h
 refine⟨w₀,H₀,w,σ,s,g,?_⟩
 cases he:ev C a' .v σ s with
 | stuck=>rw[he]at h;exact h
 | exc c s1=>rw[he]at h;exact h
 | ok x s1=>
  rw[he]at h
  intro w1 H1 v L1 S1 R1
  match x,h with
  | .bor _,h=>exact h.elim
  | .val t,h=>
   have h:alL G X σV w H ((evs C es' σ s1).bind fun ts s2=>.ok (t::ts) s2) Q:=h
   refine⟨w₀,H₀,w1,σ,s1,g.step L1 S1,?_⟩
   cases hf:evs C es' σ s1 with
   | stuck=>rw[hf]at h;exact h
   | exc c s2=>rw[hf]at h;exact fun w2 H2 pins u sh L2=>h w2 H2 pins u sh (L1.trans L2)
   | ok ts s2=>
    rw[hf]at h
    intro w2 H2 vs L2 S2 R2
    exact h w2 H2 (v::vs) (L1.trans L2) S2 ⟨v,vs,rfl,Rep.mono L2 S1 t v R1,R2⟩
theorem alr(ha:PE X a (tV G X C a'))(hr:PA X es (tR G X C es'))(hs:starEach (a::es) X.env=(false,eval a X.env)::starEach es X.env):PA X (a::es) (tR G X C (a'::es')):=by
 refine PA.imp (aa9 ha hr hs) ?_
 rintro σV H Q ⟨w₀,H₀,w,σ,s,g,h⟩
 have h:ajC G X σV w H ((ev C a' .v σ s).bind fun x s1=>(evr C es' σ s1).bind fun ts s2=>.ok (x::ts) s2) Q:=h
 refine⟨w₀,H₀,w,σ,s,g,?_⟩
 cases he:ev C a' .v σ s with
 | stuck=>rw[he]at h;exact h
 | exc c s1=>rw[he]at h;exact h
 | ok x s1=>
  rw[he]at h
  intro w1 H1 v L1 S1 R1
  have h:ajC G X σV w H ((evr C es' σ s1).bind fun ts s2=>.ok (x::ts) s2) Q:=h
  refine⟨w₀,H₀,w1,σ,s1,g.step L1 S1,?_⟩
  cases hf:evr C es' σ s1 with
  | stuck=>rw[hf]at h;exact h
  | exc c s2=>rw[hf]at h;exact fun w2 H2 pins u sh L2=>h w2 H2 pins u sh (L1.trans L2)
  | ok ts s2=>
   rw[hf]at h
   intro w2 H2 vs L2 S2 R2
   exact h w2 H2 (v::vs) (L1.trans L2) S2 ⟨v,vs,rfl,abl.mono L2 S1 R1,R2⟩
theorem aea(C:Cf):∀(es:List E) (σ:Fr) (s:Sto) (ts:List T) (s':Sto),evs C es σ s=.ok ts s'→ts.length=es.length
 | [],σ,s,ts,s',h=>by cases h;rfl
 | e::es,σ,s,ts,s',h=>by
  unfold evs at h
  cases he:ev C e .v σ s with
  | stuck=>rw[he]at h;cases h
  | exc c s1=>rw[he]at h;cases h
  | ok x s1=>
   rw[he]at h
   match x,h with
   | .bor _,h=>cases h
   | .val t,h=>
    have h:((evs C es σ s1).bind fun ts s2=>Res.ok (t::ts) s2)=.ok ts s':=h
    cases hf:evs C es σ s1 with
    | stuck=>rw[hf]at h;cases h
    | exc c s2=>rw[hf]at h;cases h
    | ok us s2=>
     rw[hf]at h
     cases h
     simp[aea C es σ s1 us _ hf]
theorem ann{k:Nat}(h:PA X es (tA G X C es'))(hz:es'.length≤sizeLine):PE X (.Tuple es k pos) (tV G X C (.tup es')):=by
 refine PE.imp (akD h) ?_
 rintro σV H Q ⟨w₀,H₀,w,σ,s,g,h⟩
 have h:aaJ G X σV w H ((evs C es' σ s).bind fun ts s1=>.ok (.val (.tup ts)) s1) Q:=h
 refine⟨w₀,H₀,w,σ,s,g,?_⟩
 cases hf:evs C es' σ s with
 | stuck=>rw[hf]at h;exact h
 | exc c s2=>rw[hf]at h;exact h
 | ok ts s2=>
  rw[hf]at h
  intro w2 H2 vs L2 S2 R2
  refine⟨by rw[←R2.length,aea C _ _ _ _ _ hf];exact hz,?_⟩
  exact afp S2 R2 fun w' H' v L S R=>h w' H' v (L2.trans L) S R
theorem anu(h:PA X es (tA G X C es'))(hz:es'.length≤sizeLine):PE X (.List es pos) (tV G X C (.lst es')):=by
 refine PE.imp (akx h) ?_
 rintro σV H Q ⟨w₀,H₀,w,σ,s,g,h⟩
 have h:aaJ G X σV w H ((evs C es' σ s).bind fun ts s1=>.ok (.val (.lst ts)) s1) Q:=h
 refine⟨w₀,H₀,w,σ,s,g,?_⟩
 cases hf:evs C es' σ s with
 | stuck=>rw[hf]at h;exact h
 | exc c s2=>rw[hf]at h;exact h
 | ok ts s2=>
  rw[hf]at h
  intro w2 H2 vs L2 S2 R2
  refine⟨by rw[←R2.length,aea C _ _ _ _ _ hf];exact hz,?_⟩
  exact ac6 S2 R2 fun w' H' v L S R=>h w' H' v (L2.trans L) S R
end
section
variable{G:Gx}{X:Cx}{C:Cf}{a b c:Expr}{a' b' c' e':E}{pos p:Pos}{aaB:List Expr}
theorem aam.atI{w:Wo}{H:Hp}{ts:List T}{vs:List V}{i:Int}{t:T}(r:aam G w H ts vs)(h:L2.atI ts i=some t):∃v,L2.atI vs i=some v∧Rep G w H t v:=by
 unfold L2.atI at h ⊢
 rw[←r.length]
 cases e:ixN ts.length i with
 | none=>rw[e]at h;cases h
 | some j=>
  rw[e]at h
  exact r.get h
theorem aos(ha:PE X a (tV G X C a'))(hb:PE X b (tV G X C b'))(hs:afC b):PE X (.Subscript a b pos) (tV G X C (.sub a' b')):=by
 refine PE.imp (alp apq ha hb hs) ?_
 rintro σV H Q ⟨w₀,H₀,w,σ,s,g,h⟩
 refine⟨w₀,H₀,w,σ,s,g,(aaJ.bind h).imp ?_⟩
 rintro x H1 ⟨w1,r1,s1,L1,S1,R1,h1⟩
 refine⟨w₀,H₀,w1,σ,s1,g.step L1 S1,(aaJ.bind h1).imp ?_⟩
 rintro y H2 ⟨w2,r2,s2,M2,S2,R2,h2⟩
 have R1':=R1.mono M2 S1
 match r2,h2 with
 | .val (.int i),h2=>
  obtain⟨r,e,q⟩:=aaJ.of h2
  cases R2
  unfold aaW at e
  cases hx:(r1.dr s2).sq2 with
  | none=>rw[hx]at e;cases e
  | some ts=>
   rw[hx]at e
   dsimp only at e
   cases ht:L2.atI ts i with
   | none=>rw[ht]at e;cases e
   | some t=>
    rw[ht]at e
    cases e
    obtain⟨pa,vs,rfl,hp,rp⟩:=acT.sq2 (R1'.dr S2) hx
    obtain⟨v,hv,rv⟩:=rp.atI ht
    rcases hp with hp|hp
    ·exact .inl ⟨pa,vs,i,v,rfl,rfl,.inl hp,hv,q w2 H2 v (Le.refl _ _) S2 rv⟩
    ·exact .inr (.inl ⟨pa,vs,i,v,rfl,rfl,SqT.of hp,hv,q w2 H2 v (Le.refl _ _) S2 rv⟩)
 | .val .non,h2=>exact h2.elim
 | .val (.bl _),h2=>exact h2.elim
 | .val (.str _),h2=>exact h2.elim
 | .val (.tup _),h2=>exact h2.elim
 | .val (.lst _),h2=>exact h2.elim
 | .val (.loc _),h2=>exact h2.elim
 | .val (.exc _),h2=>exact h2.elim
 | .bor _,h2=>exact h2.elim
noncomputable def rSl(G:Gx):V→Option Int→Option Int→Hp→VK→Prop:=fun x lo hi H Q=>∃w s rx r,StoOk G w H s∧acT G w H rx x∧amq rx lo hi=some r∧∀w' H' v,Le w w' H H'→StoOk G w' H' s→abl G w' H' r v→Q v H'
theorem SlR.imp{r r':V→Option Int→Option Int→Hp→VK→Prop}(h:SlR X r)(q:∀x lo hi H Q,r' x lo hi H Q→r x lo hi H Q):SlR X r':=fun pins s σ H x v vl vu lo hi sl Q I rx hs pl pu z=>h pins s σ H x v vl vu lo hi sl Q I rx hs pl pu (q _ _ _ _ _ z)
theorem aoq:SlR X (rSl G):=by
 refine SlR.imp (SlR.or aor alY) ?_
 rintro x lo hi H Q ⟨w,s,rx,r,S,R1,e,q⟩
 unfold amq at e
 split at e
 ·rename_i ts
  split at e
  ·cases e
  ·rename_i hc
   cases e
   obtain⟨pa,vs,rfl,hp,rp⟩:=R1
   refine .inl ⟨pa,vs,rfl,SqT.of hp,by rw[←rp.length];exact hc,afp S (rp.cut lo hi) q⟩
 ·rename_i ts
  cases e
  obtain⟨pa,vs,rfl,_,hp,rp⟩:=R1
  exact .inr ⟨pa,vs,rfl,.inl hp,ac6 S (rp.cut lo hi) q⟩
 ·rename_i ts
  cases e
  obtain⟨pa,vs,rfl,hp,rp⟩:=R1
  exact .inr ⟨pa,vs,rfl,SqL.of hp,ac6 S (rp.cut lo hi) q⟩
 ·cases e
theorem aoB{w:Wo}{H:Hp}{σV:St}{x:R}{v:V}{f:Int→Res R}{Q:VK}(r:abl G w H x v)(h:aaJ G X σV w H (onI x f) Q):∃i,v=.int i∧x=.val (.int i)∧aaJ G X σV w H (f i) Q:=by
 match x,h with
 | .val (.int i),h=>exact⟨i,r,rfl,h⟩
 | .val .non,h=>exact h.elim
 | .val (.bl _),h=>exact h.elim
 | .val (.str _),h=>exact h.elim
 | .val (.tup _),h=>exact h.elim
 | .val (.lst _),h=>exact h.elim
 | .val (.loc _),h=>exact h.elim
 | .val (.exc _),h=>exact h.elim
 | .bor _,h=>exact h.elim
theorem alm{p2:Pos}(ha:PE X a (tV G X C a'))(hb:PE X b (tV G X C b')):PE X (.Subscript a (.Slice (some b) none none p2) pos) (tV G X C (.cutL a' b')):=by
 refine PE.imp (afM (aoq (G:=G)) ha (ah8 hb) aht) ?_
 rintro σV H Q ⟨w₀,H₀,w,σ,s,g,h⟩
 refine⟨w₀,H₀,w,σ,s,g,(aaJ.bind h).imp ?_⟩
 rintro x H1 ⟨w1,r1,s1,L1,S1,R1,h1⟩
 refine⟨w₀,H₀,w1,σ,s1,g.step L1 S1,(aaJ.bind h1).imp ?_⟩
 rintro y H2 ⟨w2,r2,s2,L2,S2,R2,h2⟩
 obtain⟨i,rfl,rfl,h2⟩:=aoB R2 h2
 obtain⟨r,e,q⟩:=aaJ.of h2
 exact⟨i,rfl,w2,s2,_,r,S2,(R1.mono L2 S1).dr S2,e,q⟩
theorem al5{p2:Pos}(ha:PE X a (tV G X C a'))(hb:PE X b (tV G X C b')):PE X (.Subscript a (.Slice none (some b) none p2) pos) (tV G X C (.cutU a' b')):=by
 refine PE.imp (afM (aoq (G:=G)) ha aht (ah8 hb)) ?_
 rintro σV H Q ⟨w₀,H₀,w,σ,s,g,h⟩
 refine⟨w₀,H₀,w,σ,s,g,(aaJ.bind h).imp ?_⟩
 rintro x H1 ⟨w1,r1,s1,L1,S1,R1,h1⟩
 refine⟨w₀,H₀,w1,σ,s1,g.step L1 S1,(aaJ.bind h1).imp ?_⟩
 rintro y H2 ⟨w2,r2,s2,L2,S2,R2,h2⟩
 obtain⟨i,rfl,rfl,h2⟩:=aoB R2 h2
 obtain⟨r,e,q⟩:=aaJ.of h2
 exact⟨i,rfl,w2,s2,_,r,S2,(R1.mono L2 S1).dr S2,e,q⟩
noncomputable def rB1(G:Gx)(f:R→Option R):List V→Hp→VK→Prop:=fun xs H Q=>∃v,xs=[v]∧r1 G f v H Q
theorem aaK.imp{f:Value}{r r':List V→Hp→VK→Prop}(h:aaK X f r)(q:∀xs H Q,r' xs H Q→r xs H Q):aaK X f r':=fun pins s σ H xs us Q I rx z=>h pins s σ H xs us Q I rx (q _ _ _ z)
theorem sB1{f:R→Option R}{id:String}{x:Str}(hc:aaK X (.builtin id) (rB1 G f))(hg:Gl X x)(hm:X.mg x=none)(hv:bootBuiltins x=some (.builtin id))(hn:x≠"__name__")(hdb:(x==("__debug__":Str))=false)
  (ha:PE X a (tV G X C a')) (hs:starEach [a] X.env=[(false,eval a X.env)]) (hev:∀σ s,ev C e' .v σ s=(ev C a' .v σ s).bind fun x s1=>.of (f (x.dr s1)) s1):PE X (.Call (.Name x p) [a] [] pos) (tV G X C e'):=by
 refine PE.imp (aeo hc hg hm hv (aa9 ha aaY hs) hn hdb hs rfl) ?_
 rintro σV H Q ⟨w₀,H₀,w,σ,s,g,h⟩
 rw[hev]at h
 obtain⟨w₀,H₀,w,σ,s,g,h⟩:=ajV ⟨w₀,H₀,w,σ,s,g,h⟩
 exact⟨w₀,H₀,w,σ,s,g,h.imp fun v H1 q=>⟨v,rfl,q⟩⟩
theorem av5{f:R→Option R}{T:String}{x:Str}(hc:aaK X (.type T) (rB1 G f))(hg:Gl X x)(hm:X.mg x=none)(hv:bootBuiltins x=some (.type T))(hn:x≠"__name__")(hdb:(x==("__debug__":Str))=false)
  (ha:PE X a (tV G X C a')) (hs:starEach [a] X.env=[(false,eval a X.env)]) (hev:∀σ s,ev C e' .v σ s=(ev C a' .v σ s).bind fun x s1=>.of (f (x.dr s1)) s1):PE X (.Call (.Name x p) [a] [] pos) (tV G X C e'):=by
 refine PE.imp (aeG hc hg hm hv (aa9 ha aaY hs) hn hdb hs rfl) ?_
 rintro σV H Q ⟨w₀,H₀,w,σ,s,g,h⟩
 rw[hev]at h
 obtain⟨w₀,H₀,w,σ,s,g,h⟩:=ajV ⟨w₀,H₀,w,σ,s,g,h⟩
 exact⟨w₀,H₀,w,σ,s,g,h.imp fun v H1 q=>⟨v,rfl,q⟩⟩
theorem map_some{α β:Type}{o:Option α}{f:α→β}{r:β}(h:o.map f=some r):∃a,o=some a∧r=f a:=by
 cases o with
 | none=>cases h
 | some a=>cases h;exact⟨a,rfl,rfl⟩
theorem asH:aaK X (.builtin "len") (rB1 G (b1R .len)):=by
 refine aaK.imp aeA ?_
 rintro xs H Q ⟨v,rfl,w,s,rx,r,S,R1,e,q⟩
 obtain⟨ts,ht,rfl⟩:=map_some e
 obtain⟨pa,vs,rfl,hp,rp⟩:=acT.sq2 R1 ht
 refine⟨pa,vs,rfl,hp.imp (fun h=>.inl h) (fun h=>SqT.of h),?_⟩
 rw[←rp.length]
 exact q w H _ (Le.refl _ _) S rfl
theorem aqv:aaK X (.builtin "abs") (rB1 G (b1R .abs)):=by
 refine aaK.imp ajU ?_
 rintro xs H Q ⟨v,rfl,w,s,rx,r,S,R1,e,q⟩
 obtain⟨i,hi,rfl⟩:=map_some e
 cases R1.int hi
 exact⟨i,rfl,q w H _ (Le.refl _ _) S rfl⟩
theorem arN:aaK X (.type "int") (rB1 G (b1R .int)):=by
 refine aaK.imp aic ?_
 rintro xs H Q ⟨v,rfl,w,s,rx,r,S,R1,e,q⟩
 unfold b1R at e
 dsimp only at e
 split at e
 ·cases e;cases R1;exact .inl ⟨_,rfl,q w H _ (Le.refl _ _) S rfl⟩
 ·cases e;cases R1;exact .inr ⟨_,rfl,q w H _ (Le.refl _ _) S rfl⟩
 ·cases e
theorem ana:aaK X (.type "list") (rB1 G (b1R .list)):=by
 refine aaK.imp acE ?_
 rintro xs H Q ⟨v,rfl,w,s,rx,r,S,R1,e,q⟩
 obtain⟨ts,ht,rfl⟩:=map_some e
 obtain⟨pa,vs,rfl,hp,rp⟩:=acT.sq2 R1 ht
 exact⟨pa,vs,rfl,hp.imp (fun h=>.inl h) (fun h=>SqT.of h),ac6 S rp q⟩
noncomputable def ap0:Ty→Option String
 | .int=>some "int" | .bool=>some "bool" | .tuple=>some "tuple" | .list=>some "list" | .str=>some "str" | .cls _=>none
theorem anh{w:Wo}{H:Hp}{st:Sto}{x:R}{v:V}{c:Ty}{k:Bool}{n:String}(S:StoOk G w H st)(r:acT G w H x v)(hn:ap0 c=some n)(h:anc x c=some k):∃t,TyOf X.K H v t∧PySem.W.kitOne X.K t (.type n)=some k:=by
 have lst:∀{a:Addr}{vs:List V},Rd H a (.lst vs)→TyOf X.K H (.ref a) (.type "list"):=fun {a vs} q=>by
  rcases q with q|⟨o,q⟩
  ·exact .lst q
  ·exact .frz q
 unfold anc at h
 split at h<;>first
  | (cases h;done)
  | (cases h;cases hn;cases r;exact⟨_,.int _,by with_unfolding_all rfl⟩)
  | (cases h;cases hn;cases r;exact⟨_,.bl _,by with_unfolding_all rfl⟩)
  | (cases h;cases hn;cases r;exact⟨_,.non,by with_unfolding_all rfl⟩)
  | (cases h;cases hn;obtain⟨a,vs,rfl,q,_⟩:=r;exact⟨_,.tup q,by with_unfolding_all rfl⟩)
  | (cases h;cases hn;obtain⟨a,vs,rfl,_,q,_⟩:=r;exact⟨_,lst q,by with_unfolding_all rfl⟩)
  | (cases h;cases hn;obtain⟨a,vs,rfl,q,_⟩:=r;exact⟨_,.lst q,by with_unfolding_all rfl⟩)
theorem alX{sub:Nat→Nat→Bool}{x:R}{c:Ty}{n:String}(hn:ap0 c=some n):afi sub x c=anc x c:=by
 cases c<;>first|(cases hn;done)|(unfold afi;split<;>first|rfl|(rename_i z;cases z))
theorem aoe{c:Ty}{n:String}{y:Str}{py:Pos}(hn:ap0 c=some n)(hg:Gl X "isinstance")(hm:X.mg "isinstance"=none)(hgy:Gl X y)(hmy:X.mg y=none)(hv:bootBuiltins y=some (.type n))(hy:y≠"__name__")(hdy:(y==("__debug__":Str))=false)
  (ha:PE X a (tV G X C a')) (hs:starEach [a,.Name y py] X.env=[(false,eval a X.env),(false,eval (.Name y py) X.env)]):PE X (.Call (.Name "isinstance" p) [a,.Name y py] [] pos) (tV G X C (.isi a' c)):=by
 have hc:aaK X (.builtin "isinstance") (fun xs H Q=>∃v,xs=[v,.ty n]∧r1 G (fun x=>(afi C.sub x c).map fun k=>.val (.bl k)) v H Q):=by
  rintro pins s σ H xs us Q I rv ⟨v,rfl,w,st,rx,r,S,R1,e,q⟩
  obtain⟨u,u',rfl,r1,r2⟩:=rv.two
  cases r2
  obtain⟨k,hk,rfl⟩:=map_some e
  rw[alX hn]at hk
  obtain⟨t,ht,hk'⟩:=anh (X:=X) S R1 hn hk
  exact aie I r1 ht hk' fun tk=>⟨.bl k,H,I.tok tk,rfl,q w H _ (Le.refl _ _) S rfl⟩
 refine PE.imp (aeo hc hg hm (show bootBuiltins "isinstance"=some (.builtin "isinstance")by decide +kernel) (aa9 ha (aa9 (alG (v:=.ty n) hgy hmy hv rfl hy hdy) aaY rfl) (by rw[hs];rfl)) (by decide) (by decide) (by rw[hs];rfl) rfl) ?_
 rintro σV H Q ⟨w₀,H₀,w,σ,s,g,h⟩
 obtain⟨w₀,H₀,w,σ,s,g,h⟩:=ajV (f:=fun x=>(afi C.sub x c).map fun k=>.val (.bl k)) ⟨w₀,H₀,w,σ,s,g,h⟩
 exact⟨w₀,H₀,w,σ,s,g,h.imp fun v H1 q=>⟨v,rfl,q⟩⟩
end
end IP
end
section
namespace IP
open PySem PySem.Spec L2 PySem.SeqAt PyProof.Rows.LSm
section
variable{G:Gx}{X:Cx}
theorem abP{w:Wo}{H:Hp}:∀{ts:List T}{is:List Int}{vs:List V}{its:List Value},aaC ts=some is→aam G w H ts vs→aa1 vs its→PyProof.Rows.IntsAre its is
 | [],is,vs,its,h,r,q=>by
  cases h
  cases r
  rw[aa1.zero q]
  exact .nil
 | .int i::ts,is,vs,its,h,⟨v,r,e,h1,h2⟩,q=>by
  unfold aaC at h
  obtain⟨js,hj,rfl⟩:=map_some h
  subst e
  cases h1
  cases q with
  | cons q1 q2=>
   obtain⟨t,rfl⟩:=q1
   exact .cons i t (abP hj h2 q2)
 | .non::ts,is,vs,its,h,r,q=>by simp[aaC]at h
 | .bl _::ts,is,vs,its,h,r,q=>by simp[aaC]at h
 | .str _::ts,is,vs,its,h,r,q=>by simp[aaC]at h
 | .tup _::ts,is,vs,its,h,r,q=>by simp[aaC]at h
 | .lst _::ts,is,vs,its,h,r,q=>by simp[aaC]at h
 | .loc _::ts,is,vs,its,h,r,q=>by simp[aaC]at h
 | .exc _::ts,is,vs,its,h,r,q=>by simp[aaC]at h
theorem abU{w:Wo}{H:Hp}:∀{ts:List T}{is:List Bool}{vs:List V}{its:List Value},aaN ts=some is→aam G w H ts vs→aa1 vs its→BoolsAre its is
 | [],is,vs,its,h,r,q=>by
  cases h
  cases r
  rw[aa1.zero q]
  exact .nil
 | .bl i::ts,is,vs,its,h,⟨v,r,e,h1,h2⟩,q=>by
  unfold aaN at h
  obtain⟨js,hj,rfl⟩:=map_some h
  subst e
  cases h1
  cases q with
  | cons q1 q2=>
   cases q1
   exact .cons i (abU hj h2 q2)
 | .non::ts,is,vs,its,h,r,q=>by simp[aaN]at h
 | .int _::ts,is,vs,its,h,r,q=>by simp[aaN]at h
 | .str _::ts,is,vs,its,h,r,q=>by simp[aaN]at h
 | .tup _::ts,is,vs,its,h,r,q=>by simp[aaN]at h
 | .lst _::ts,is,vs,its,h,r,q=>by simp[aaN]at h
 | .loc _::ts,is,vs,its,h,r,q=>by simp[aaN]at h
 | .exc _::ts,is,vs,its,h,r,q=>by simp[aaN]at h
theorem aj9{α β γ:Type}{o:Option α}{p:α→Option β}{f:α→β→Option γ}{r:γ}(h:(do let a ←o;let b ←p a;f a b)=some r):∃a b,o=some a∧p a=some b∧f a b=some r:=by
 cases ho:o with
 | none=>rw[ho]at h;cases h
 | some a=>
  rw[ho]at h
  cases hp:p a with
  | none=>simp[hp]at h
  | some b=>simp[hp]at h;exact⟨a,b,rfl,hp,h⟩
theorem arI(hc:X.calm=true):aaK X (.builtin "any") (rB1 G (b1R .any)):=by
 rintro pins s σ H xs us Q I rv ⟨v,rfl,w,st,rx,r,S,R1,e,q⟩
 obtain⟨ts,bs,ht,hb,he⟩:=aj9 (f:=fun(_:List T) (bs:List Bool)=>some (R.val (.bl (bs.any id)))) e
 cases he
 obtain⟨pa,vs,rfl,hp,rp⟩:=acT.seq (s:=st) R1 ht
 obtain⟨u,rfl,ru⟩:=rv.one
 cases ru
 obtain⟨its,q1,hl⟩:=aaD I hp
 have hB:=abU hb rp q1
 have hlt:pa<s.heap.objs.size:=by obtain⟨_,e,_⟩:=hl;exact Heap.lt_size e
 refine call_any_walk (wpAny_pyIter_list hl ?_)
 refine⟨s.heap.objs.size,[s.heap.objs.size,pa],[s.heap.objs.size],its.toArray.size,_,_,fun i=>(bs[i]?).getD false,rfl,Walks.list (A:=X.A.in1) (I.ok.hd hc) _ pa (Nat.ne_of_lt hlt) its.toArray,
  ⟨⟨_,Heap.get?_push_size _ rfl,rfl,rfl⟩,hl.push _⟩,fun i v s' Q' E' hP hQ=>?_,fun h' tk hk=>?_⟩
 ·obtain⟨b,e,rfl⟩:=hB.get i v (by simpa using hP)
  simp only[e,Option.getD_some]at hQ
  exact wpAny_truthy_bool hQ
 ·have e:((List.range its.toArray.size).any fun i=>(bs[i]?).getD false)=bs.any id:=by
   rw[List.size_toArray,hB.length];exact range_any bs
  rw[e]
  exact⟨.bl _,H,I.kept (kept_iter hk),rfl,q w H _ (Le.refl _ _) S rfl⟩
theorem aqN(hc:X.calm=true):aaK X (.builtin "all") (rB1 G (b1R .all)):=by
 rintro pins s σ H xs us Q I rv ⟨v,rfl,w,st,rx,r,S,R1,e,q⟩
 obtain⟨ts,bs,ht,hb,he⟩:=aj9 (f:=fun(_:List T) (bs:List Bool)=>some (R.val (.bl (bs.all id)))) e
 cases he
 obtain⟨pa,vs,rfl,hp,rp⟩:=acT.seq (s:=st) R1 ht
 obtain⟨u,rfl,ru⟩:=rv.one
 cases ru
 obtain⟨its,q1,hl⟩:=aaD I hp
 have hB:=abU hb rp q1
 have hlt:pa<s.heap.objs.size:=by obtain⟨_,e,_⟩:=hl;exact Heap.lt_size e
 refine call_all_walk (wpAny_pyIter_list hl ?_)
 refine⟨s.heap.objs.size,[s.heap.objs.size,pa],[s.heap.objs.size],its.toArray.size,_,_,fun i=>(bs[i]?).getD true,rfl,Walks.list (A:=X.A.in1) (I.ok.hd hc) _ pa (Nat.ne_of_lt hlt) its.toArray,
  ⟨⟨_,Heap.get?_push_size _ rfl,rfl,rfl⟩,hl.push _⟩,fun i v s' Q' E' hP hQ=>?_,fun h' tk hk=>?_⟩
 ·obtain⟨b,e,rfl⟩:=hB.get i v (by simpa using hP)
  simp only[e,Option.getD_some]at hQ
  exact wpAny_truthy_bool hQ
 ·have e:((List.range its.toArray.size).all fun i=>(bs[i]?).getD true)=bs.all id:=by
   rw[List.size_toArray,hB.length];exact range_all bs
  rw[e]
  exact⟨.bl _,H,I.kept (kept_iter hk),rfl,q w H _ (Le.refl _ _) S rfl⟩
theorem ahP:∀(is:List Int) (m:Int),ahi is=some m→m∈is∧∀x∈is,m≤x:=by
 have go:∀(r:List Int) (a:Int),(r.foldl (fun m x=>if x<m then x else m) a∈a::r)∧(∀x∈a::r,r.foldl (fun m x=>if x<m then x else m) a≤x):=by
  intro r
  induction r with
  | nil=>intro a;exact⟨List.mem_cons_self ..,fun x hx=>by simp at hx;subst hx;exact Int.le_refl _⟩
  | cons b r ih=>
   intro a
   rw[List.foldl_cons]
   obtain⟨h1,h2⟩:=ih (if b<a then b else a)
   refine⟨?_,fun x hx=>?_⟩
   ·rcases List.mem_cons.mp h1 with e|e
    ·rw[e];split<;>simp
    ·exact List.mem_cons_of_mem _ (List.mem_cons_of_mem _ e)
   ·have h3:=h2 _ (List.mem_cons_self ..)
    rcases List.mem_cons.mp hx with e|e
    ·subst e;exact Int.le_trans h3 (by split<;>omega)
    ·rcases List.mem_cons.mp e with e|e
     ·subst e;exact Int.le_trans h3 (by split<;>omega)
     ·exact h2 x (List.mem_cons_of_mem _ e)
 intro is m h
 cases is with
 | nil=>cases h
 | cons a r=>cases h;exact go r a
theorem ahT:∀(is:List Int) (m:Int),aes is=some m→m∈is∧∀x∈is,x≤m:=by
 have go:∀(r:List Int) (a:Int),(r.foldl (fun m x=>if x>m then x else m) a∈a::r)∧(∀x∈a::r,x≤r.foldl (fun m x=>if x>m then x else m) a):=by
  intro r
  induction r with
  | nil=>intro a;exact⟨List.mem_cons_self ..,fun x hx=>by simp at hx;subst hx;exact Int.le_refl _⟩
  | cons b r ih=>
   intro a
   rw[List.foldl_cons]
   obtain⟨h1,h2⟩:=ih (if b>a then b else a)
   refine⟨?_,fun x hx=>?_⟩
   ·rcases List.mem_cons.mp h1 with e|e
    ·rw[e];split<;>simp
    ·exact List.mem_cons_of_mem _ (List.mem_cons_of_mem _ e)
   ·have h3:=h2 _ (List.mem_cons_self ..)
    rcases List.mem_cons.mp hx with e|e
    ·subst e;exact Int.le_trans (by split<;>omega) h3
    ·rcases List.mem_cons.mp e with e|e
     ·subst e;exact Int.le_trans (by split<;>omega) h3
     ·exact h2 x (List.mem_cons_of_mem _ e)
 intro is m h
 cases is with
 | nil=>cases h
 | cons a r=>cases h;exact go r a
theorem al0{is:List Int}{m:Int}(h:ahi is=some m):0<is.length:=by cases is with|nil=>cases h|cons a r=>simp
theorem alE{is:List Int}{m:Int}(h:aes is=some m):0<is.length:=by cases is with|nil=>cases h|cons a r=>simp
theorem auw{pins:List (Addr×Obj)}{σ:St}{H:Hp}{s:Shared}{pa:Addr}{its:List Value}{is:List Int}{m:Int}{Q:VK}(hc:X.calm=true)(I:Inv X pins σ H s)(hl:s.heap.IsList pa its.toArray)(hi:PyProof.Rows.IntsAre its is)(hm:ahi is=some m)(q:Q (.int m) H):
  wpAny (model X.prog X.w) X.A (call (.builtin "min") [.ref pa]) (EP X pins σ Q) X.xe s:=by
 obtain⟨xs,e⟩:=hi.allInts.items
 have hns:is=xs.toList.map (·.1):=by rw[←hi.numsOf,←nums_intItems,←e]
 have hne:=al0 hm
 have hsz:0<xs.size:=by rw[hns,List.length_map,Array.length_toList]at hne;exact hne
 rw[e]at hl
 refine min_intList (I.ok.hd hc) hl hsz fun v h' tk hv hk=>?_
 obtain⟨t,rfl⟩:=intItems_at hv
 obtain⟨h1,h2⟩:=argBest_lt (numAt xs) (xs.size-1)
 obtain⟨g1,g2⟩:=ahP is m hm
 have em:numAt xs (argBest (fun i j=>decide (numAt xs i<numAt xs j)) (xs.size-1))=m:=by
  apply Int.le_antisymm
  ·rw[hns]at g1
   obtain⟨j,hj,ej⟩:=List.getElem_of_mem g1
   rw[List.length_map,Array.length_toList]at hj
   have:=h2 j (by omega)
   rw[numAt_eq xs j]at this
   have e2:(xs.toList.map (·.1)).getD j 0=m:=by rw[←ej];simp[hj]
   omega
  ·refine g2 _ ?_
   rw[hns,numAt_eq]
   have hlt:argBest (fun i j=>decide (numAt xs i<numAt xs j)) (xs.size-1)<(xs.toList.map (·.1)).length:=by rw[List.length_map,Array.length_toList];omega
   rw[List.getD_eq_getElem?_getD,List.getElem?_eq_getElem hlt]
   exact List.getElem_mem _
 rw[em]
 exact⟨.int m,H,I.kept hk,⟨_,rfl⟩,q⟩
theorem aqC{pins:List (Addr×Obj)}{σ:St}{H:Hp}{s:Shared}{pa:Addr}{its:List Value}{is:List Int}{m:Int}{Q:VK}(hc:X.calm=true)(I:Inv X pins σ H s)(hl:s.heap.IsList pa its.toArray)(hi:PyProof.Rows.IntsAre its is)(hm:aes is=some m)(q:Q (.int m) H):
  wpAny (model X.prog X.w) X.A (call (.builtin "max") [.ref pa]) (EP X pins σ Q) X.xe s:=by
 obtain⟨xs,e⟩:=hi.allInts.items
 have hns:is=xs.toList.map (·.1):=by rw[←hi.numsOf,←nums_intItems,←e]
 have hne:=alE hm
 have hsz:0<xs.size:=by rw[hns,List.length_map,Array.length_toList]at hne;exact hne
 rw[e]at hl
 refine max_intList (I.ok.hd hc) hl hsz fun v h' tk hv hk=>?_
 obtain⟨t,rfl⟩:=intItems_at hv
 obtain⟨h1,h2⟩:=argBest_gt (numAt xs) (xs.size-1)
 obtain⟨g1,g2⟩:=ahT is m hm
 have em:numAt xs (argBest (fun i j=>decide (numAt xs i>numAt xs j)) (xs.size-1))=m:=by
  apply Int.le_antisymm
  ·refine g2 _ ?_
   rw[hns,numAt_eq]
   have hlt:argBest (fun i j=>decide (numAt xs i>numAt xs j)) (xs.size-1)<(xs.toList.map (·.1)).length:=by rw[List.length_map,Array.length_toList];omega
   rw[List.getD_eq_getElem?_getD,List.getElem?_eq_getElem hlt]
   exact List.getElem_mem _
  ·rw[hns]at g1
   obtain⟨j,hj,ej⟩:=List.getElem_of_mem g1
   rw[List.length_map,Array.length_toList]at hj
   have:=h2 j (by omega)
   rw[numAt_eq xs j]at this
   have e2:(xs.toList.map (·.1)).getD j 0=m:=by rw[←ej];simp[hj]
   omega
 rw[em]
 exact⟨.int m,H,I.kept hk,⟨_,rfl⟩,q⟩
theorem anO{α β γ:Type}{o:Option α}{p:α→Option β}{f:β→Option γ}{g:γ→R}{r:R}(h:(do let a ←o;let b ←p a;(f b).map g)=some r):∃a b c,o=some a∧p a=some b∧f b=some c∧r=g c:=by
 obtain⟨a,b,h1,h2,h3⟩:=aj9 h
 obtain⟨c,h4,h5⟩:=map_some h3
 exact⟨a,b,c,h1,h2,h4,h5⟩
theorem aqo(hc:X.calm=true):aaK X (.builtin "min") (rB1 G (b1R .min)):=by
 rintro pins s σ H xs us Q I rv ⟨v,rfl,w,st,rx,r,S,R1,e,q⟩
 obtain⟨ts,is,m,ht,hb,hm,rfl⟩:=anO (f:=ahi) (g:=fun i=>R.val (.int i)) e
 obtain⟨pa,vs,rfl,hp,rp⟩:=acT.seq (s:=st) R1 ht
 obtain⟨u,rfl,ru⟩:=rv.one
 cases ru
 obtain⟨its,q1,hl⟩:=aaD I hp
 exact auw hc I hl (abP hb rp q1) hm (q w H _ (Le.refl _ _) S rfl)
theorem apU(hc:X.calm=true):aaK X (.builtin "max") (rB1 G (b1R .max)):=by
 rintro pins s σ H xs us Q I rv ⟨v,rfl,w,st,rx,r,S,R1,e,q⟩
 obtain⟨ts,is,m,ht,hb,hm,rfl⟩:=anO (f:=aes) (g:=fun i=>R.val (.int i)) e
 obtain⟨pa,vs,rfl,hp,rp⟩:=acT.seq (s:=st) R1 ht
 obtain⟨u,rfl,ru⟩:=rv.one
 cases ru
 obtain⟨its,q1,hl⟩:=aaD I hp
 exact aqC hc I hl (abP hb rp q1) hm (q w H _ (Le.refl _ _) S rfl)
theorem acY(x:Int):∀l:List Int,(agX x l).Perm (x::l)
 | []=>.refl _
 | y::r=>by
  unfold agX
  split
  ·exact .refl _
  ·exact((acY x r).cons y).trans (.swap x y r)
theorem ahC(x:Int):∀l:List Int,l.Pairwise (·≤·)→(agX x l).Pairwise (·≤·)
 | [],_=>by simp[agX]
 | y::r,h=>by
  unfold agX
  obtain⟨h1,h2⟩:=List.pairwise_cons.mp h
  split
  ·rename_i hlt
   refine List.pairwise_cons.mpr ⟨fun z hz=>?_,h⟩
   rcases List.mem_cons.mp hz with e|e
   ·omega
   ·have:=h1 z e;omega
  ·rename_i hlt
   refine List.pairwise_cons.mpr ⟨fun z hz=>?_,ahC x r h2⟩
   rcases List.mem_cons.mp ((acY x r).mem_iff.mp hz)with e|e
   ·omega
   ·exact h1 z e
theorem agD(is:List Int):(aed is).Perm is∧(aed is).Pairwise (·≤·):=by
 have go:∀(l acc:List Int),acc.Pairwise (·≤·)→(l.foldl (fun acc x=>agX x acc) acc).Perm (l++acc)∧(l.foldl (fun acc x=>agX x acc) acc).Pairwise (·≤·):=by
  intro l
  induction l with
  | nil=>intro acc h;exact⟨.refl _,h⟩
  | cons x l ih=>
   intro acc h
   obtain⟨h1,h2⟩:=ih (agX x acc) (ahC x acc h)
   refine⟨h1.trans ?_,h2⟩
   exact((acY x acc).append_left l).trans List.perm_middle
 have:=go is [] List.Pairwise.nil
 rw[List.append_nil]at this
 exact this
theorem acF:∀{its:List Value}{ns:List Int},PyProof.Rows.IntsAre its ns→aa1 (ns.map V.int) its
 | _,_,.nil=>.nil
 | _,_,.cons n t r=>.cons ⟨t,rfl⟩ (acF r)
theorem abC(w:Wo)(H:Hp):∀ns:List Int,aam G w H (ns.map T.int) (ns.map V.int)
 | []=>rfl
 | n::r=>⟨_,_,rfl,rfl,abC w H r⟩
theorem aiZ:aaK X (.builtin "sorted") (rB1 G (b1R .sorted)):=by
 rintro pins s σ H xs us Q I rv ⟨v,rfl,w,st,rx,r,S,R1,e,q⟩
 obtain⟨ts,is,ht,hb,he⟩:=aj9 (f:=fun(_:List T) (is:List Int)=>if is.length<64 then some (R.val (.lst ((aed is).map .int)))else none) e
 split at he
 ·rename_i h64
  cases he
  obtain⟨pa,vs,rfl,hp,rp⟩:=acT.seq (s:=st) R1 ht
  obtain⟨u,rfl,ru⟩:=rv.one
  cases ru
  obtain⟨its,q1,hl⟩:=aaD I hp
  have hI:=abP hb rp q1
  have hlen:=hI.length
  refine PyProof.Rows.sorted_ints hl hI (by omega) fun out ns' a1 a2 a3=>?_
  obtain⟨s1,s2⟩:=agD is
  have en:ns'=aed is:=PySem.W.ksm_same (a2.trans s1.symm) a3 s2
  subst en
  obtain⟨ee,he⟩:=PyProof.Rows.sortedAll_at s.heap its out
  have hf:H (s.heap.objs.size+1)=none:=I.hok.fresh (Nat.le_succ _)
  have hlen2:(aed is).length≤sizeLine:=by
   rw[s1.length_eq]
   have:(64:Nat)≤sizeLine:=by decide
   omega
  refine⟨.ref (s.heap.objs.size+1),upd H (s.heap.objs.size+1) (.lst ((aed is).map V.int)),I.laid (t':=s.toks) (fun b u e=>PyProof.Rows.sortedAll_old e) (Nat.le_succ _) ?_,rfl,ac6 S (abC w H _) q _ hf⟩
  refine⟨by rw[List.length_map];exact hlen2,out.toList,ee,acF a1,?_⟩
  rw[he]
 ·cases he
end
end IP
end
section
namespace IP
open PySem PySem.Spec L2
noncomputable def CXE(G:Gx)(P:Program)(w:World)(base:Heap):CXT:=fun outer H s E e s'=>
 ∃(a:Addr) (cls t:Value) (H':Hp) (h B:Heap),e=.ref a∧s'.os=s.os∧PyProof.Rows.AllBare s'.gens∧Un (frs outer) [] H H' s.heap h∧HOk P w H' h∧Flt outer h B a s'.heap∧base.StaysIn B∧Heap.FlyingW B outer a cls t s'.heap∧E cls none H'
section
variable{G:Gx}{X:Cx}{C:Cf}{k:Nat}{f fa:Addr}{fd:FuncData}{ps:List Str}{sp:Sp}{dvs:List V}{ds:List Value}{E:XK}
theorem Inv.after'{pins:List (Addr×Obj)}{σ:St}{H H':Hp}{s s':Shared}(I:Inv X pins σ H s)(os:s'.os=s.os)(bare:PyProof.Rows.AllBare s'.gens)(un:Un (frs X.stack) [] H H' s.heap s'.heap)(hok:HOk X.prog X.w H' s'.heap):Inv X pins σ H' s':=by
 obtain⟨hh,g,d,t,os'⟩:=s'
 obtain rfl:os'=s.os:=os
 exact I.call (h':=hh) (g':=g) (d':=d) (t':=t) (ch:=[]) un hok bare (fun b z=>absurd z (by simp))
theorem afR{CX:CXT}{pins:List (Addr×Obj)}{σ:St}{H:Hp}{s:Shared}{Q:VK}{us:List Value}{vs:List V}(F:FnOk X.prog X.w X.K X.mg X.base CX k f fd ps sp)(hr:Room k X.A)(hb:abY X.K fd ps ds)(hd:aa1 dvs ds)
  (I:Inv X pins σ H s) (r:aa1 vs us) (h:sp (vs++dvs) H Q E) (hx:∀e s',CX X.stack H s E e s'→X.xe e s'):wpAny (model X.prog X.w) X.A (call (.ref f) us) (EP X pins σ Q) X.xe s:=by
 have r2:aa1 (vs++dvs) (us++ds):=r.append hd
 have hl:(us++ds).length=ps.length:=by rw[←r2.length];exact F.len _ _ _ _ h
 refine wpAny_call (codeAny_mono (F.run X.A X.stack s H ⟨us,[]⟩ (us++ds) (vs++dvs) Q E hr I.env0 (hb s us I.kIn hl) r2 h) fun r s' hq=>?_)
 cases r with
 | error e=>exact hx e s' hq
 | ok fl=>
  cases fl with
  | ret u=>exact I.after hq
  | next=>exact False.elim hq
  | brk=>exact False.elim hq
  | cont=>exact False.elim hq
noncomputable def EX(G:Gx)(X:Cx)(σV:St):XK:=fun cls _ H'=>∀pins u sh h B a t,u=.ref a→Inv X pins σV H' { sh with heap:=h }→Flt X.stack h B a sh.heap→X.base.StaysIn B→Heap.FlyingW B X.stack a cls t sh.heap→X.xe u sh
theorem adf{pins:List (Addr×Obj)}{σ:St}{H:Hp}{s:Shared}(I:Inv X pins σ H s)(e:Value)(s':Shared)(h:CXE G X.prog X.w X.base X.stack H s (EX G X σ) e s'):X.xe e s':=by
 obtain⟨a,cls,t,H',hh,B,rfl,os,bare,un,hok,fl,sb,fly,q⟩:=h
 exact q pins (.ref a) s' hh B a t rfl (Inv.after' (s':={ s' with heap:=hh }) I os bare un hok) fl sb fly
theorem abp{w:Wo}{H:Hp}:∀{rs qs:List R}{vs us:List V},abk G w H rs vs→abk G w H qs us→abk G w H (rs++qs) (vs++us)
 | [],qs,_,us,h,q=>by rw[h];exact q
 | t::ts,qs,_,us,⟨v,r,e,h,k⟩,q=>by subst e;exact⟨v,r++us,rfl,h,abp k q⟩
noncomputable def aiO:T→Option V
 | .non=>some .non | .bl b=>some (.bl b) | .int i=>some (.int i) | .str x=>some (.str x) | _=>none
theorem ack{w:Wo}{H:Hp}:∀{ts:List T}{vs:List V},ts.mapM aiO=some vs→abk G w H (ts.map R.val) vs
 | [],vs,h=>by cases h;exact rfl
 | t::ts,vs,h=>by
  rw[List.mapM_cons]at h
  cases e:aiO t with
  | none=>simp[e]at h
  | some v=>
   cases e2:ts.mapM aiO with
   | none=>simp[e,e2]at h
   | some us=>
    simp[e,e2]at h
    subst h
    refine⟨v,us,rfl,?_,ack e2⟩
    cases t<;>cases e<;>exact rfl
variable{es:List Expr}{es':List IP.E}{e₀:Expr}{fi:Nat}{x:Str}{p pos:Pos}{dts:List T}
theorem ad5{w:Wo}{H:Hp}{σV:St}{m:Res (List R)}{k:List R→Sto→Res R}{Q:VK}(h:aaJ G X σV w H (m.bind k) Q):ajC G X σV w H m fun vs H1=>∃w1 rs s1,Le w w1 H H1∧StoOk G w1 H1 s1∧abk G w1 H1 rs vs∧aaJ G X σV w H (k rs s1) Q:=by
 cases m with
 | stuck=>exact h
 | ok rs s=>exact fun w' H' vs a b c=>⟨w',rs,s,a,b,c,h⟩
 | exc c s=>exact h
end
noncomputable def clo(cells:List (Str×Addr)):List (Str×NameKind)→List (Str×Addr)→List (Str×Addr)
 | [],acc=>acc
 | (n,k)::r,acc=>clo cells r (if k==.free then(match cells.lookup n with|some c=>(n,c)::acc|none=>acc)else acc)
theorem agU(scope:Scope)(env:Env)(h:∀x∈scope.names,x.2=.free→∃c,env.cells.lookup x.1=some c):closureFor scope env=pure (clo env.cells scope.names []):=by
 unfold closureFor
 generalize ([]:List (Str×Addr))=acc
 obtain⟨k,names,a,b,c⟩:=scope
 simp only at h ⊢
 induction names generalizing acc with
 | nil=>rfl
 | cons x r ih=>
  obtain⟨n,k⟩:=x
  have ih:=fun acc=>ih acc (fun y hy=>h y (List.mem_cons_of_mem _ hy))
  simp only[List.forIn_cons,clo]
  by_cases hk:(k==NameKind.free)=true
  ·have hk':k=.free:=by simpa using hk
   obtain⟨c,hc⟩:=h (n,k) (List.mem_cons_self ..) hk'
   have hc:List.lookup n env.cells=some c:=hc
   simp only[hk,if_true,cellOf,hc,pure_bind]
   exact ih _
  ·simp only[Bool.not_eq_true]at hk
   simp only[hk,Bool.false_eq_true,if_false,pure_bind]
   exact ih _
theorem af3(cells:List (Str×Addr)):∀(names:List (Str×NameKind)) (acc:List (Str×Addr)),(∀x c,acc.lookup x=some c→cells.lookup x=some c)→∀x c,(clo cells names acc).lookup x=some c→cells.lookup x=some c
 | [],acc,h,x,c,e=>h x c e
 | (n,k)::r,acc,h,x,c,e=>by
  refine af3 cells r _ (fun y d q=>?_) x c e
  split at q
  ·split at q
   ·rename_i d' hd
    rw[List.lookup_cons]at q
    split at q
    ·rename_i hyn
     have:y=n:=by simpa using hyn
     subst this
     cases q
     exact hd
    ·exact h y d q
   ·exact h y d q
  ·exact h y d q
theorem ago(cells:List (Str×Addr)):∀(names:List (Str×NameKind)) (acc:List (Str×Addr)) (x:Str),(∃c,acc.lookup x=some c)→∃c,(clo cells names acc).lookup x=some c
 | [],acc,x,h=>h
 | (n,k)::r,acc,x,h=>by
  refine ago cells r _ x ?_
  split
  ·split
   ·rename_i d' hd
    rw[List.lookup_cons]
    split
    ·exact⟨_,rfl⟩
    ·exact h
   ·exact h
  ·exact h
theorem afH(cells:List (Str×Addr)):∀(names:List (Str×NameKind)) (acc:List (Str×Addr)) (x:Str),(x,NameKind.free)∈names→(∃c,cells.lookup x=some c)→∃c,(clo cells names acc).lookup x=some c
 | [],acc,x,h,_=>by simp at h
 | (n,k)::r,acc,x,h,hc=>by
  rcases List.mem_cons.mp h with e|e
  ·cases e
   obtain⟨c,hc⟩:=hc
   refine ago cells r _ _ ?_
   simp[hc]
  ·exact afH cells r _ x e hc
theorem ac2{α:Type}:∀{l:List (Str×α)}{x:Str}{a:α},l.lookup x=some a→(x,a)∈l
 | [],x,a,h=>by simp at h
 | (y,b)::r,x,a,h=>by
  rw[List.lookup_cons]at h
  split at h
  ·rename_i e
   have:x=y:=by simpa using e
   subst this
   cases h
   exact List.mem_cons_self ..
  ·exact List.mem_cons_of_mem _ (ac2 h)
theorem acI(scope:Scope)(env:Env)(x:Str)(k:NameKind)(h:(relabel scope env).names.lookup x=some k):∃k',(x,k')∈scope.names∧((k=.cell∨k=.free)→k'=.cell∨k'=.free)∧(k=.local→k'=.local):=by
 have h:=ac2 h
 unfold relabel at h
 obtain⟨⟨n,k'⟩,hm,e⟩:=List.mem_map.mp h
 dsimp only at e
 split at e
 ·rename_i hc
  cases e
  have:k'=.free:=by
   have:=(Bool.and_eq_true _ _).mp hc
   have:=(Bool.and_eq_true _ _).mp this.1
   simpa using this.1
  exact⟨k',hm,fun _=>.inr this,fun z=>by cases z⟩
 ·cases e
  exact⟨_,hm,fun z=>z,fun z=>z⟩
section
variable{X:Cx}
noncomputable def cxC(X:Cx)(N':List Str)(scope:Scope)(C:Addr)(fp:List Addr)(s2:Shared)(H2:Hp)(xe:Value→Shared→Prop):Cx:=
 { X with N:=N',s₀:=s2,H₀:=H2,env:=compEnvC scope (clo X.env.cells scope.names []) C X.env,outer:=X.stack,ex:=fp,fn:=fun _=>false,pn:=[],xe:=xe }
structure CompN(X:Cx)(scope:Scope)(N':List Str)(js:List Nat):Prop where
 kind:scope.kind=.function
 nocell:∀x∈scope.names,x.2≠.cell
 free:∀x∈scope.names,x.2=.free→X.env.kindOf x.1=some .cell∨X.env.kindOf x.1=some .free
 len:N'.length=X.N.length
 nd:N'.Nodup
 same:∀(i:Nat) (x:Str),N'[i]?=some x→i∉js→Vis (relabel scope X.env) x→X.N[i]?=some x∧(x,NameKind.free)∈scope.names∧((relabel scope X.env).names.lookup x=some .cell∨(relabel scope X.env).names.lookup x=some .free)
 locs:∀x∈scope.names,x.2=.local→scope.names.lookup x.1=some .local
noncomputable def clr(σ:St)(js:List Nat):St:=js.foldl (fun σ j=>σ.set j none) σ
theorem ahw(js:List Nat):∀σ:St,(clr σ js).length=σ.length:=by
 induction js with
 | nil=>intro σ;rfl
 | cons j js ih=>intro σ;show(clr (σ.set j none) js).length=_;rw[ih];simp
theorem ah1(js:List Nat):∀(σ:St) (i:Nat) (v:V),(clr σ js)[i]?=some (some v)→σ[i]?=some (some v)∧i∉js:=by
 induction js with
 | nil=>intro σ i v h;exact⟨h,by simp⟩
 | cons j js ih=>
  intro σ i v h
  obtain⟨h1,h2⟩:=ih (σ.set j none) i v h
  by_cases e:j=i
  ·subst e
   rw[List.getElem?_set_self']at h1
   cases hq:σ[j]? with
   | none=>rw[hq]at h1;cases h1
   | some q=>rw[hq]at h1;cases h1
  ·rw[List.getElem?_set_ne e]at h1
   exact⟨h1,by simp[h2];exact fun z=>e z.symm⟩
theorem alg{pins:List (Addr×Obj)}{σ:St}{H:Hp}{s:Shared}{scope:Scope}{N':List Str}{js:List Nat}{fp:List Addr}{h4:Heap}{tk:Nat}{xe:Value→Shared→Prop}(hN:CompN X scope N' js)(I:Inv X pins σ H s)(hfp:∀b∈fp,aeD X pins H b)(hfo:∀b∈fp,∃o,s.heap.get? b=some o)
  (hns:h4.Ns s.heap.objs.size (fun _=>none)) (hk:∀b o,s.heap.get? b=some o→h4.get? b=some o):
  Inv (cxC X N' scope s.heap.objs.size fp s H xe) [] (clr σ js) H { s with heap:=h4,toks:=tk }:=by
 have hlt:∀{b:Addr}{o:Obj},s.heap.get? b=some o→b≠s.heap.objs.size:=fun e=>Nat.ne_of_lt (Heap.lt_size e)
 have hsubc:=af3 X.env.cells scope.names [] (fun x c z=>by simp at z)
 have clt:∀x c,(clo X.env.cells scope.names []).lookup x=some c→c≠s.heap.objs.size:=fun x c e=>by
  obtain⟨v,hv⟩:=I.cell x c (hsubc x c e)
  obtain⟨o,ho,_⟩:=hv
  exact hlt ho
 have hkin:∀x:Str,(relabel scope X.env).names.lookup x=some .cell∨(relabel scope X.env).names.lookup x=some .free→(x,NameKind.free)∈scope.names:=fun x hx=>by
  have:∃k',(x,k')∈scope.names∧(k'=.cell∨k'=.free):=by
   rcases hx with hx|hx
   ·obtain⟨k',h1,h2,_⟩:=acI _ _ _ _ hx;exact⟨k',h1,h2 (.inl rfl)⟩
   ·obtain⟨k',h1,h2,_⟩:=acI _ _ _ _ hx;exact⟨k',h1,h2 (.inr rfl)⟩
  obtain⟨k',h1,h2⟩:=this
  rcases h2 with rfl|rfl
  ·exact absurd rfl (hN.nocell _ h1)
  ·exact h1
 have acL:∀x:Str,(x,NameKind.free)∈scope.names→∃c,X.env.cells.lookup x=some c:=fun x hx=>I.ok.has x (hN.free (x,.free) hx rfl)
 have hstk:∀b∈frs X.stack,b∈X.env.locals::X.fs:=I.stkSub
 refine⟨⟨I.ok.mod,hN.kind,I.ok.glob,I.ok.blt,Nat.le_refl _,fun x y c h1 h2=>I.ok.inj x y c (hsubc _ _ h1) (hsubc _ _ h2),fun x hx=>?_,fun x c h _=>(Bool.noConfusion (show false=true from h)),I.ok.hd,I.ok.frames,.inl rfl,fun b hb=>?_,I.bs,Nat.le_trans I.ok.bsz I.sz,fun b o e hb=>?_,fun b hb hf=>?_,I.stack,I.stkFree⟩,
  rfl,I.bare,Un.kept hk,⟨_,hns,fun i x v h1 h2 h3=>?_⟩,fun x c h=>?_,I.hok.fresh (Nat.le_refl _),fun x c h=>I.freeC x c (hsubc _ _ h),fun p hp=>absurd (show p∈([]:List (Addr×Obj))from hp) (by simp),I.hok.kept hk,?_⟩
 ·exact afH X.env.cells scope.names [] x (hkin x hx) (acL x (hkin x hx))
 ·obtain⟨f0,f1,f2,f3,f4,f5⟩:=hfp b hb
  refine⟨fun z=>?_,fun x c e z=>f4 x c (hsubc _ _ e) z⟩
  obtain⟨o,ho⟩:=hfo b hb
  exact hlt ho z
 ·have:=I.bs b o e
  obtain⟨f0,f1,f2,f3,f4,f5⟩:=hfp b hb
  rcases f3 with f3|f3
  ·exact I.ok.noex b o e f3
  ·exact absurd (Nat.lt_of_lt_of_le (Heap.lt_size (I.ok.bs b o e).1) f3) (Nat.lt_irrefl _)
 ·obtain⟨f0,f1,f2,f3,f4,f5⟩:=hfp b hb
  rcases List.mem_cons.mp (hstk b hf)with z|z
  ·exact f1 z
  ·exact f2 z
 ·obtain⟨h2',hj⟩:=ah1 js σ i v h2
  obtain⟨q1,q2,q3⟩:=hN.same i x h1 hj h3
  obtain⟨m,hm,hl⟩:=I.loc
  have hkx:=hN.free (x,.free) q2 rfl
  obtain⟨u,ru,lk⟩:=hl i x v q1 h2' (.inr hkx)
  refine⟨u,ru,.inr ⟨q3,?_⟩⟩
  ·rcases lk with⟨k1,_⟩|⟨_,c,hc,ic⟩
   ·rcases hkx with z|z<;>(rw[z]at k1;cases k1)
   ·obtain⟨c',hc'⟩:=afH X.env.cells scope.names [] x q2 ⟨c,hc⟩
    have:=hsubc _ _ hc'
    rw[hc]at this
    cases this
    exact⟨c,hc',ic.keeps hk⟩
 ·obtain⟨v,hv⟩:=I.cell x c (hsubc x c h)
  exact⟨v,hv.keeps hk⟩
 ·rw[ahw,I.len]
  exact hN.len.symm
end
section
variable{G:Gx}{w:Wo}{H H₀:Hp}
mutual
theorem Rep.upd{a:Addr}{xs ys:List V}(ha:H a=some (.lst xs))(hz:¬w.Z a):∀(t:T) (v:V),Rep G w H t v→Rep G w (L2.upd H a (.lst ys)) t v
 | .non,v,h=>h
 | .bl b,v,h=>h
 | .int i,v,h=>h
 | .str x,v,h=>h
 | .tup ts,v,⟨p,vs,e,h,r⟩=>⟨p,vs,e,by rw[aag (aiU h ha (by intro z;cases z))];exact h,aam.upd ha hz ts vs r⟩
 | .lst ts,v,⟨p,vs,e,z,h,r⟩=>by
  have ne:p≠a:=fun q=>hz (q▸z)
  refine⟨p,vs,e,z,?_,aam.upd ha hz ts vs r⟩
  rcases h with h|⟨o,h⟩
  ·exact .inl (by rw[aag ne];exact h)
  ·exact .inr ⟨o,by rw[aag ne];exact h⟩
 | .loc l,v,h=>h
 | .exc c,v,⟨p,e,h⟩=>⟨p,e,by rw[aag (aiU h ha (by intro z;cases z))];exact h⟩
theorem aam.upd{a:Addr}{xs ys:List V}(ha:H a=some (.lst xs))(hz:¬w.Z a):∀(ts:List T) (vs:List V),aam G w H ts vs→aam G w (L2.upd H a (.lst ys)) ts vs
 | [],vs,h=>h
 | t::ts,vs,⟨v,r,e,h,q⟩=>⟨v,r,e,Rep.upd ha hz t v h,aam.upd ha hz ts r q⟩
end
mutual
theorem Rep.zmono{w':Wo}(hn:w'.n=w.n)(hio:w'.io=w.io)(hz:∀a,w.Z a→w'.Z a):∀(t:T) (v:V),Rep G w H t v→Rep G w' H t v
 | .non,v,h=>h
 | .bl b,v,h=>h
 | .int i,v,h=>h
 | .str x,v,h=>h
 | .tup ts,v,⟨p,vs,e,h,r⟩=>⟨p,vs,e,h,aam.zmono hn hio hz ts vs r⟩
 | .lst ts,v,⟨p,vs,e,z,h,r⟩=>⟨p,vs,e,hz _ z,h,aam.zmono hn hio hz ts vs r⟩
 | .loc l,v,⟨h,e⟩=>⟨by rw[hn];exact h,by rw[hio];exact e⟩
 | .exc c,v,h=>h
theorem aam.zmono{w':Wo}(hn:w'.n=w.n)(hio:w'.io=w.io)(hz:∀a,w.Z a→w'.Z a):∀(ts:List T) (vs:List V),aam G w H ts vs→aam G w' H ts vs
 | [],vs,h=>h
 | t::ts,vs,⟨v,r,e,h,q⟩=>⟨v,r,e,Rep.zmono hn hio hz t v h,aam.zmono hn hio hz ts r q⟩
end
theorem StoOk.upd{s:Sto}{a:Addr}{xs ys:List V}(S:StoOk G w H s)(ha:H a=some (.lst xs))(hz:¬w.Z a)(hl:IP.notLoc w a):StoOk G w (L2.upd H a (.lst ys)) s where
 len:=S.len
 inj:=S.inj
 nz:=S.nz
 cell:=fun l c e=>by
  have h:l<w.n:=by rw[←S.len];exact(List.getElem?_eq_some_iff.mp e).1
  have q:=S.cell l c e
  have ne:w.io l≠a:=fun z=>hl l h z.symm
  cases c with
  | lst ts=>obtain⟨vs,q1,q2⟩:=q;exact⟨vs,by rw[aag ne];exact q1,aam.upd ha hz ts vs q2⟩
  | ins c fs=>obtain⟨dx,kvs,q1,q2,q3⟩:=q;exact⟨dx,kvs,by rw[aag ne];exact q1,q2,fun i x t h1 h2=>let ⟨v,z1,z2⟩:=q3 i x t h1 h2;⟨v,z1,Rep.upd ha hz t v z2⟩⟩
  | tbl k p q'=>obtain⟨q0,ps,q1,q2,q3⟩:=q;exact⟨q0,ps,by rw[aag ne];exact q1,q2,fun cv hcv=>let ⟨c,e1,e2⟩:=q3 cv hcv;⟨c,e1,by rw[aag (aiU e2 ha (by intro z;cases z))];exact e2⟩⟩
 zt:=fun p z=>by
  obtain⟨vs,r⟩:=S.zt p z
  have ne:p≠a:=fun q=>hz (q▸z)
  rcases r with r|⟨o,r⟩
  ·exact⟨vs,.inl (by rw[aag ne];exact r)⟩
  ·exact⟨vs,.inr ⟨o,by rw[aag ne];exact r⟩⟩
theorem StoOk.addZ{s:Sto}{a:Addr}{xs:List V}(S:StoOk G w H s)(ha:H a=some (.lst xs))(hl:IP.notLoc w a):StoOk G (w.addZ a) H s where
 len:=S.len
 inj:=S.inj
 nz:=fun l h z=>z.elim (S.nz l h) fun q=>hl l h q.symm
 cell:=fun l c e=>by
  have q:=S.cell l c e
  cases c with
  | lst ts=>obtain⟨vs,q1,q2⟩:=q;exact⟨vs,q1,aam.zmono (w:=w) (w':=w.addZ a) rfl rfl (fun _ z=>.inl z) ts vs q2⟩
  | ins c fs=>obtain⟨dx,kvs,q1,q2,q3⟩:=q;exact⟨dx,kvs,q1,q2,fun i x t h1 h2=>let ⟨v,z1,z2⟩:=q3 i x t h1 h2;⟨v,z1,Rep.zmono (w:=w) (w':=w.addZ a) rfl rfl (fun _ z=>.inl z) t v z2⟩⟩
  | tbl k p q'=>exact q
 zt:=fun p z=>z.elim (S.zt p) fun q=>⟨xs,.inl (by rw[q];exact ha)⟩
theorem Le.updNew{w':Wo}{H':Hp}{a:Addr}{o:HO}(L:Le w w' H H')(ha:H a=none)(hs:H' a≠none):Le w w' H (L2.upd H' a o)where
 n:=L.n
 io:=L.io
 Z:=L.Z
 keep:=fun p q e nl=>by rw[aag (acj e ha)];exact L.keep p q e nl
 newL:=L.newL
 newZ:=L.newZ
 some_:=fun p z=>by
  by_cases e:p=a
  ·subst e;exact absurd ha z
  ·rw[aag e];exact L.some_ p z
theorem Le.addZ{w':Wo}{H':Hp}{a:Addr}(L:Le w w' H H')(ha:H a=none):Le w (w'.addZ a) H H' where
 n:=L.n
 io:=L.io
 Z:=fun p z=>.inl (L.Z p z)
 keep:=L.keep
 newL:=L.newL
 newZ:=fun p z=>z.elim (L.newZ p) fun q=>.inr (q▸ha)
 some_:=L.some_
theorem aks{X:Cx}{σV:St}{res:Res R}{Q:VK}(hv:∀r s,res=.ok r s→∃ts,r=.val (.lst ts))(h:aaJ G X σV w H res Q):abd G X σV w H res Q:=by
 cases res with
 | stuck=>exact h
 | exc c s=>exact h
 | ok r s=>
  obtain⟨ts,rfl⟩:=hv r s rfl
  intro w' H' a vs L S ha r hn nz nl
  exact h (w'.addZ a) H' (.ref a) (L.addZ hn) (S.addZ ha nl) ⟨a,vs,rfl,.inr rfl,.inl ha,aam.zmono (w:=w') (w':=w'.addZ a) rfl rfl (fun _ z=>.inl z) ts vs r⟩
theorem FrOk.put{σ:Fr}{σV:St}{i:Nat}{t:T}{v:V}(F:FrOk G w H H₀ σ σV)(r:Rep G w H t v):FrOk G w H H₀ (put σ i t) (σV.set i (some v))where
 len:=by unfold IP.put;simp[F.len]
 val:=fun j u e=>by
  unfold IP.put at e
  by_cases hj:i=j
  ·subst hj
   have hlt:i<σ.length:=by
    have:=(List.getElem?_eq_some_iff.mp e).1
    simpa using this
   rw[List.getElem?_set_self hlt]at e
   cases e
   exact⟨v,by rw[List.getElem?_set_self (by rw[←F.len];exact hlt)],r⟩
  ·rw[List.getElem?_set_ne hj]at e
   obtain⟨x,h1,h2⟩:=F.val j u e
   exact⟨x,by rw[List.getElem?_set_ne hj];exact h1,h2⟩
 own:=fun j b ts e eb=>by
  unfold IP.put at e
  by_cases hj:i=j
  ·subst hj
   have hlt:i<σ.length:=by
    have:=(List.getElem?_eq_some_iff.mp e).1
    simpa using this
   rw[List.getElem?_set_self hlt]at e
   cases e
   cases eb
  ·rw[List.getElem?_set_ne hj]at e
   obtain⟨a,vs,h1,h2⟩:=F.own j b ts e eb
   exact⟨a,vs,by rw[List.getElem?_set_ne hj];exact h1,h2⟩
 apart:=fun j k b c ts us a hjk e1 eb e2 ec e3 e4=>by
  unfold IP.put at e1 e2
  have nj:i≠j:=fun q=>by
   subst q
   have hlt:i<σ.length:=by
    have:=(List.getElem?_eq_some_iff.mp e1).1
    simpa using this
   rw[List.getElem?_set_self hlt]at e1
   cases e1
   cases eb
  have nk:i≠k:=fun q=>by
   subst q
   have hlt:i<σ.length:=by
    have:=(List.getElem?_eq_some_iff.mp e2).1
    simpa using this
   rw[List.getElem?_set_self hlt]at e2
   cases e2
   cases ec
  rw[List.getElem?_set_ne nj]at e1 e3
  rw[List.getElem?_set_ne nk]at e2 e4
  exact F.apart j k b c ts us a hjk e1 eb e2 ec e3 e4
 bor:=fun j ts e=>by
  unfold IP.put at e
  by_cases hj:i=j
  ·subst hj
   have hlt:i<σ.length:=by
    have:=(List.getElem?_eq_some_iff.mp e).1
    simpa using this
   rw[List.getElem?_set_self hlt]at e
   cases e
  ·rw[List.getElem?_set_ne hj]at e
   obtain⟨a,vs,h1,h2⟩:=F.bor j ts e
   exact⟨a,vs,by rw[List.getElem?_set_ne hj];exact h1,h2⟩
noncomputable def abw(σV:St):List Nat→List V→St
 | [],_=>σV
 | _,[]=>σV
 | i::is,v::vs=>abw (σV.set i (some v)) is vs
theorem ae7:∀(is:List Nat) (vs:List V) (σV:St),(abw σV is vs).length=σV.length
 | [],_,σV=>rfl
 | i::is,[],σV=>rfl
 | i::is,v::vs,σV=>by show(abw (σV.set i (some v)) is vs).length=_;rw[ae7 is vs];simp
theorem FrOk.puts:∀{is:List Nat}{ts:List T}{vs:List V}{σ σ':Fr}{σV:St},FrOk G w H H₀ σ σV→aam G w H ts vs→IP.puts σ is ts=some σ'→FrOk G w H H₀ σ' (abw σV is vs)
 | [],[],vs,σ,σ',σV,F,r,h=>by cases h;exact F
 | [],_::_,vs,σ,σ',σV,F,r,h=>by cases h
 | _::_,[],vs,σ,σ',σV,F,r,h=>by cases h
 | i::is,t::ts,_,σ,σ',σV,F,⟨v,r,e,h1,h2⟩,h=>by
  subst e
  have z:=FrOk.puts (is:=is) (ts:=ts) (vs:=r) (σ':=σ') (F.put (i:=i) h1) h2 h
  exact z
theorem aiF{σV:St}{i j:Nat}{x y:Option V}(h:i≠j):(σV.set i x).set j y=(σV.set j y).set i x:=List.set_comm x y h
theorem afl{σV:St}{j:Nat}{x:Option V}:∀{js:List Nat},j∉js→clr (σV.set j x) js=(clr σV js).set j x
 | [],_=>rfl
 | k::js,h=>by
  show clr ((σV.set j x).set k none) js=(clr (σV.set k none) js).set j x
  rw[aiF (fun q=>h (by simp[q]))]
  exact afl (σV:=σV.set k none) fun q=>h (List.mem_cons_of_mem _ q)
theorem aey:∀{js:List Nat}{vs:List V}{σV:St},js.Nodup→js.length=vs.length→abw (clr σV js) js vs=abw σV js vs
 | [],[],σV,_,_=>rfl
 | j::js,v::vs,σV,hn,hl=>by
  obtain⟨h1,h2⟩:=List.nodup_cons.mp hn
  show abw ((clr (σV.set j none) js).set j (some v)) js vs=abw (σV.set j (some v)) js vs
  rw[afl h1,List.set_set,←afl h1]
  exact aey h2 (by simpa using hl)
 | j::js,[],σV,hn,hl=>by simp at hl
 | [],_::_,σV,hn,hl=>by simp at hl
end
section
variable{prog:Program}{w:World}{A:Around}{E:Value→Shared→Prop}{s:Shared}
theorem agj{it l:Addr}{items:Array Value}(hne:l≠it):∀(n i:Nat) (s:Shared) (Q:List Value→Shared→Prop),s.heap.IsListIter it l i→s.heap.IsList l items→i+n≤items.size→
  (∀h',h'.IsListIter it l (i+n)→Heap.SameBut it s.heap h'→Q ((items.toList.drop i).take n) { s with heap:=h' })→wpAny (model prog w) A (draw (.ref it) n) Q E s
 | 0,i,s,Q,hit,_,_,hQ=>by
  show wpAny _ _ (pure []) Q E s
  exact wpAny_pure (by simpa using hQ s.heap hit (Heap.SameBut.refl ..))
 | n+1,i,s,Q,hit,ht,hle,hQ=>by
  have hlt:i<items.size:=by omega
  show wpAny _ _ (pyNext (.ref it) >>= _) Q E s
  refine wpAny_bind (wpAny_pyNext_list_item hit ht (x:=items[i]) (by simp[hlt]) fun h₁ hit₁ hs₁=>?_)
  refine wpAny_bind (wpAny_holding (agj hne n (i+1) _ _ hit₁ (ht.extBut hs₁.extBut hne) (by omega) fun h₂ hit₂ hs₂=>wpAny_pure ?_))
  have hd:items.toList.drop i=items[i]::items.toList.drop (i+1):=by simp[List.drop_eq_getElem_cons,hlt]
  have:=hQ h₂ (by rw[show i+(n+1)=i+1+n by omega];exact hit₂) (hs₁.trans hs₂)
  rw[hd,List.take_succ_cons]at this
  exact this
theorem adk{l:Addr}{items:Array Value}{Q:List Value→Shared→Prop}(hh:A.handled=none)(ht:s.heap.IsList l items)
  (hQ:∀h',Heap.ExtBut s.heap.objs.size s.heap h'→Q items.toList { s with heap:=h' }):wpAny (model prog w) A (unpackItems (.ref l) items.size none) Q E s:=by
 have hlt:l≠s.heap.objs.size:=by obtain⟨o,ho,_⟩:=ht;exact Nat.ne_of_lt (Heap.lt_size ho)
 unfold unpackItems
 refine wpAny_bind ?_
 ·unfold notIterableAtAll
  refine wpAny_bind (wpAny_specialOf ht.typeIs slot_list_iter.lookup ?_)
  refine wpAny_pure ?_
  simp only[Bool.false_eq_true,if_false]
  refine wpAny_bind (wpAny_holding (wpAny_pyIter_list ht ?_))
  have ht0:(s.heap.push { cls:=.type "list_iterator",data:=.fields #[.ref l,.int 0 0] }).IsList l items:=ht.extBut (b:=s.heap.objs.size) (fun b o _ e=>Heap.get?_push_of_some _ e) hlt
  refine wpAny_bind (wpAny_holding (agj hlt items.size 0 _ _ ⟨_,Heap.get?_push_size _ rfl,rfl,rfl⟩ ht0 (by omega) fun h₁ hit₁ hs₁=>?_))
  have hall:List.take items.size (List.drop 0 items.toList)=items.toList:=by
   rw[List.drop_zero];exact List.take_of_length_le (by simp)
  rw[hall]
  rw[if_neg (by simp)]
  have ht₁:h₁.IsList l items:=ht0.extBut hs₁.extBut hlt
  refine wpAny_bind (wpAny_holding (wpAny_pyNext_list_end hh hit₁ ht₁ (by simp) fun h₂ he₂=>?_))
  simp only[Option.isSome_none,Bool.false_eq_true,if_false]
  refine wpAny_pure (hQ h₂ fun b o hb e=>he₂ b o hb (hs₁.extBut b o hb (Heap.get?_push_of_some _ e)))
theorem acK{env:Env}{elts:List Expr}{x1}{pos:Pos}{l:Addr}{items:Array Value}{Q:Unit→Shared→Prop}(hh:A.handled=none)(ht:s.heap.IsList l items)
  (hn:(assignEach elts env).length=items.size) (hstar:(assignEach elts env).findIdx? (·.1)=none)
  (h:∀h',Heap.ExtBut s.heap.objs.size s.heap h'→wpAny (model prog w) A (assignInOrder ((assignEach elts env).map (·.2)) items.toList) Q E { s with heap:=h' }):
  wpAny (model prog w) A (assign (.Tuple elts x1 pos) env (.ref l)) Q E s:=by
 rw[PyProof.Rows.assign_Tuple]
 refine wpAny_bind (wpAny_standAt ?_)
 unfold unpack
 rw[hn,hstar]
 exact wpAny_bind (wpAny_holding (adk hh ht h))
end
section
variable{X:Cx}
theorem aoF{es:List Expr}{k:Nat}{t:TGs}{n:Nat}{pos:Pos}(hc:X.calm=true)(h:PGs X es t)(hn:(assignEach es X.env).length=n)(hst:(assignEach es X.env).findIdx? (·.1)=none):
  PG X (.Tuple es k pos) (fun v σ H Q=>∃a xs,v=.ref a∧Rd H a (.lst xs)∧xs.length=n∧t xs σ H Q):=by
 intro pins s σ H v u Q I r hw
 obtain⟨a,xs,e1,hq,hl,hw⟩:=hw
 subst e1
 cases r
 obtain⟨its,rv,p⟩:=aaD I hq
 refine acK (I.ok.hd hc) p (by simp[hn,←hl,rv.length]) hst fun h' hx=>?_
 have I1:Inv X pins σ H { s with heap:=h' }:=I.kept (t':=s.toks) fun b o e=>hx b o (Nat.ne_of_lt (Heap.lt_size e)) e
 exact h pins _ σ H xs _ Q I1 (by simpa using rv) hw
end
inductive Src where
 | l (a:Addr) (vs:List V)|t (a:Addr) (vs:List V)|r (lo:Int) (n:Nat)
noncomputable def ahr(K:PySem.W.Frag):Src→It
 | .l a _=>Itl K a
 | .t a _=>Itt K a
 | .r lo n=>Itr lo n
noncomputable def aaV(G:Gx)(w:Wo)(H:Hp)(z:Bool):Src→List T→Prop
 | .l a vs,ts=>Rd H a (.lst vs)∧aam G w H ts vs∧notLoc w a∧(z=true→w.Z a)
 | .t a vs,ts=>H a=some (.tup vs)∧aam G w H ts vs
 | .r lo n,ts=>ts=(List.range n).map (fun(k:Nat)=>T.int (lo+k))∧n≤sizeLine
section
variable{G:Gx}{X:Cx}{C:Cf}{w w':Wo}{H H':Hp}
theorem Rd.some{a:Addr}{u:HO}(r:Rd H a u):H a≠none:=by
 rcases r with r|⟨o,r⟩<;>(rw[r];intro z;cases z)
theorem aaV.mono{z:Bool}{s:Sto}(L:Le w w' H H')(S:StoOk G w H s):∀{src:Src}{ts:List T},aaV G w H z src ts→aaV G w' H' z src ts
 | .l a vs,ts,⟨h1,h2,h3,h4⟩=>⟨Rd.keep L h3 h1,aam.mono L S ts vs h2,notLoc.mono L (Rd.some h1) h3,fun q=>L.Z a (h4 q)⟩
 | .t a vs,ts,⟨h1,h2⟩=>⟨L.keep _ _ h1 (S.notLoc h1 (fun _ z=>by cases z) fun _ _ _ z=>by cases z),aam.mono L S ts vs h2⟩
 | .r lo n,ts,h=>h
noncomputable def acn(G:Gx)(w:Wo)(H:Hp):Src→List T→Prop
 | .l a _,ts=>∃vs,Rd H a (.lst vs)∧aam G w H ts vs
 | .t a vs,ts=>H a=some (.tup vs)∧aam G w H ts vs
 | .r lo n,ts=>ts=(List.range n).map (fun(k:Nat)=>T.int (lo+k))∧n≤sizeLine
theorem aaV.now{z:Bool}:∀{src:Src}{ts:List T},aaV G w H z src ts→acn G w H src ts
 | .l _ vs,_,h=>⟨vs,h.1,h.2.1⟩
 | .t _ _,_,h=>h
 | .r _ _,_,h=>h
theorem acn.go:∀{src:Src}{ts:List T}{K:PySem.W.Frag}{i:Nat}{t:T},acn G w H src ts→ts[i]?=some t→(ahr K src).go i H∧∀x H',(ahr K src).yld i H x H'→H'=H∧Rep G w H t x
 | .l a _,ts,K,i,t,⟨vs,h1,h2⟩,e=>by
  obtain⟨v,e1,r⟩:=h2.get e
  refine⟨⟨vs,v,.inl h1,e1⟩,fun x H' ⟨q1,q2⟩=>⟨q1,?_⟩⟩
  have:=q2 vs (.inl h1)
  rw[e1]at this
  cases this
  exact r
 | .t a vs,ts,K,i,t,⟨h1,h2⟩,e=>by
  obtain⟨v,e1,r⟩:=h2.get e
  refine⟨⟨vs,v,SqT.of h1,e1⟩,fun x H' ⟨q1,q2⟩=>⟨q1,?_⟩⟩
  have:=q2 vs (SqT.of h1)
  rw[e1]at this
  cases this
  exact r
 | .r lo n,ts,K,i,t,⟨h1,_⟩,e=>by
  subst h1
  rw[List.getElem?_map]at e
  obtain⟨k,hk,rfl⟩:=map_some e
  obtain⟨hi,hk⟩:=List.getElem?_eq_some_iff.mp hk
  simp at hi hk
  subst hk
  refine⟨hi,fun x H' ⟨q1,q2⟩=>⟨q1,?_⟩⟩
  rw[q2]
  exact rfl
theorem acn.stop:∀{src:Src}{ts:List T}{K:PySem.W.Frag},acn G w H src ts→(ahr K src).stop ts.length H
 | .l a _,ts,K,⟨vs,h1,h2⟩=>⟨vs,.inl h1,by rw[h2.length];exact Nat.le_refl _⟩
 | .t a vs,ts,K,⟨h1,h2⟩=>⟨vs,SqT.of h1,by rw[h2.length];exact Nat.le_refl _⟩
 | .r lo n,ts,K,⟨h1,_⟩=>by subst h1;show n≤_;simp
theorem acn.small{pins:List (Addr×Obj)}{σ:St}{s:Shared}(I:Inv X pins σ H s):∀{src:Src}{ts:List T},acn G w H src ts→ts.length≤sizeLine
 | .l a _,ts,⟨vs,h1,h2⟩=>by rw[h2.length];exact(Rd.lst I h1).1
 | .t a vs,ts,⟨h1,h2⟩=>by
  rw[h2.length]
  exact(I.hok a _ h1).1
 | .r lo n,ts,⟨h1,h2⟩=>by subst h1;simpa using h2
theorem aaV.go{z:Bool}{src:Src}{ts:List T}{K:PySem.W.Frag}{i:Nat}{t:T}(h:aaV G w H z src ts)(e:ts[i]?=some t):(ahr K src).go i H∧∀x H',(ahr K src).yld i H x H'→H'=H∧Rep G w H t x:=h.now.go e
theorem aaV.stop{z:Bool}{src:Src}{ts:List T}{K:PySem.W.Frag}(h:aaV G w H z src ts):(ahr K src).stop ts.length H:=h.now.stop
theorem aaV.small{z:Bool}{pins:List (Addr×Obj)}{σ:St}{s:Shared}(I:Inv X pins σ H s){src:Src}{ts:List T}(h:aaV G w H z src ts):ts.length≤sizeLine:=h.now.small I
noncomputable def ag3(G:Gx)(X:Cx)(σV:St)(w:Wo)(H:Hp)(z:Bool)(res:Res R)(Q:It→Hp→Prop):Prop:=match res with
 | .ok (.val (.lst ts)) s'=>∀w' H' src,Le w w' H H'→StoOk G w' H' s'→aaV G w' H' z src ts→Q (ahr X.K src) H'
 | .exc c s'=>∀w' H' pins u sh,Le w w' H H'→StoOk G w' H' s'→aaS G X pins σV H' c u sh→X.xe u sh
 | _=>False
noncomputable def tI(G:Gx)(X:Cx)(C:Cf)(e:E)(m:Md)(z:Bool):TI:=fun σV H R=>∃w₀ H₀ w σ s,Good G w₀ H₀ w H σ s σV∧ag3 G X σV w H z (ev C e m σ s) R
theorem PI.imp{tg e:Expr}{t t':TI}(h:PI X tg e t)(q:∀σ H R,t' σ H R→t σ H R):PI X tg e t':=fun pins s σ H R I z=>h pins s σ H R I (q _ _ _ z)
theorem ak5{tg l:Expr}{tl:TE}(hl:PE X l tl):PI X tg l (fun σ H R=>tl σ H fun x H1=>∃a,x=.ref a∧((∃xs,Rd H1 a (.lst xs)∧R (Itl X.K a) H1)∨∃xs,H1 a=some (.tup xs)∧R (Itt X.K a) H1)):=by
 intro pins s σ H R I h
 refine thn (hl pins s σ H _ I h) fun v s1 ⟨x,H1,I1,r1,q1⟩=>?_
 obtain⟨a,e,q⟩:=q1
 subst e
 cases r1
 have hf:∀b∈[s1.heap.objs.size],aeD X pins H1 b:=fun b hb=>by
  have e:b=s1.heap.objs.size:=by simpa using hb
  subst e
  exact I1.fpOk (Nat.le_refl _) (I1.hok.fresh (Nat.le_refl _))
 rcases q with⟨xs,hq,q⟩|⟨xs,hq,q⟩
 ·obtain⟨its,rv,p⟩:=aaD I1 hq
  refine wpAny_pyIter_list p ?_
  exact⟨s1.heap.objs.size,[s1.heap.objs.size],_,_,H1,rfl,I1.kept (t':=s1.toks) fun b o e=>Heap.get?_push_of_some _ e,ahS a _,⟨_,Heap.get?_push_size _ rfl,rfl,rfl⟩,hf,q⟩
 ·obtain⟨its,rv,p⟩:=abh I1 hq
  refine wpAny_pyIter_tuple p ?_
  exact⟨s1.heap.objs.size,[s1.heap.objs.size],_,_,H1,rfl,I1.kept (t':=s1.toks) fun b o e=>Heap.get?_push_of_some _ e,ag4 a _,⟨_,Heap.get?_push_size _ rfl,rfl,rfl⟩,hf,q⟩
theorem agk{tg e:Expr}{e':E}{m:Md}{z:Bool}(hE:PE X e (tV G X C e'))(hm:m=.i∧z=false∨m=.j∧z=true)
  (hev:∀σ s,ev C e' m σ s=fin m (ev C e' .v σ s)):PI X tg e (tI G X C e' m z):=by
 refine PI.imp (ak5 hE) ?_
 rintro σV H R ⟨w₀,H₀,w,σ,s,g,h⟩
 rw[hev]at h
 refine⟨w₀,H₀,w,σ,s,g,?_⟩
 cases he:ev C e' .v σ s with
 | stuck=>rw[he]at h;rcases hm with⟨rfl,rfl⟩|⟨rfl,rfl⟩<;>exact h
 | exc c s1=>rw[he]at h;rcases hm with⟨rfl,rfl⟩|⟨rfl,rfl⟩<;>exact h
 | ok x s1=>
  rw[he]at h
  intro w1 H1 v L1 S1 R1
  match x,R1 with
  | .val (.lst ts),⟨a,vs,e,hz,hr,rp⟩=>
   subst e
   refine⟨a,rfl,.inl ⟨vs,hr,?_⟩⟩
   rcases hm with⟨rfl,rfl⟩|⟨rfl,rfl⟩<;>exact h w1 H1 (.l a vs) L1 S1 ⟨hr,rp,S1.zLoc hz,fun _=>hz⟩
  | .val (.tup ts),⟨a,vs,e,hr,rp⟩=>
   subst e
   refine⟨a,rfl,.inr ⟨vs,hr,?_⟩⟩
   rcases hm with⟨rfl,rfl⟩|⟨rfl,rfl⟩<;>exact h w1 H1 (.t a vs) L1 S1 ⟨hr,rp⟩
  | .bor ts,⟨a,vs,e,hr,rp,nl⟩=>
   subst e
   rcases hm with⟨rfl,rfl⟩|⟨rfl,rfl⟩
   ·exact⟨a,rfl,.inl ⟨vs,.inl hr,h w1 H1 (.l a vs) L1 S1 ⟨.inl hr,rp,nl,fun z=>by cases z⟩⟩⟩
   ·exact h.elim
  | .val .non,_=>rcases hm with⟨rfl,rfl⟩|⟨rfl,rfl⟩<;>exact h.elim
  | .val (.bl _),_=>rcases hm with⟨rfl,rfl⟩|⟨rfl,rfl⟩<;>exact h.elim
  | .val (.int _),_=>rcases hm with⟨rfl,rfl⟩|⟨rfl,rfl⟩<;>exact h.elim
  | .val (.str _),_=>rcases hm with⟨rfl,rfl⟩|⟨rfl,rfl⟩<;>exact h.elim
  | .val (.loc _),_=>rcases hm with⟨rfl,rfl⟩|⟨rfl,rfl⟩<;>exact h.elim
  | .val (.exc _),_=>rcases hm with⟨rfl,rfl⟩|⟨rfl,rfl⟩<;>exact h.elim
theorem adE{i:Int}(h:bnd i=true):-(2^62)≤i∧i<2^62:=by
 unfold bnd at h
 rw[Bool.and_eq_true,decide_eq_true_iff,decide_eq_true_iff]at h
 exact h
theorem agx:lim≤sizeLine:=by decide
theorem alK{tg a:Expr}{a':E}{p pos:Pos}{m:Md}{z:Bool}(hm:m=.i∨m=.j)(hg:Gl X "range")(hmg:X.mg "range"=none)(ha:PE X a (tV G X C a'))(hs:starEach [a] X.env=[(false,eval a X.env)]):PI X tg (.Call (.Name "range" p) [a] [] pos) (tI G X C (.rng1 a') m z):=by
 refine PI.imp (aiu hg hmg (aa9 ha aaY hs) hs) ?_
 rintro σV H R ⟨w₀,H₀,w,σ,s,g,h⟩
 have h:ag3 G X σV w H z ((ev C a' .v σ s).bind fun x s1=>onI x fun j=>if bnd j&&decide (j≤lim)then .ok (.val (.lst (aa4 0 j))) s1 else .stuck) R:=by rcases hm with rfl|rfl<;>exact h
 refine⟨w₀,H₀,w,σ,s,g,?_⟩
 cases he:ev C a' .v σ s with
 | stuck=>rw[he]at h;exact h
 | exc c s1=>rw[he]at h;exact h
 | ok x s1=>
  rw[he]at h
  intro w1 H1 v L1 S1 R1
  match x,R1,h with
  | .val (.int j),R1,h=>
   cases R1
   have h:ag3 G X σV w H z (if bnd j&&decide (j≤lim)then .ok (.val (.lst (aa4 0 j))) s1 else .stuck) R:=h
   split at h
   ·rename_i hb
    rw[Bool.and_eq_true,decide_eq_true_iff]at hb
    refine⟨j,rfl,(adE hb.1).1,(adE hb.1).2,?_⟩
    refine h w1 H1 (.r 0 j.toNat) L1 S1 ⟨?_,?_⟩
    ·unfold aa4;simp
    ·have:=agx;omega
   ·exact h.elim
  | .val .non,_,h=>exact h.elim
  | .val (.bl _),_,h=>exact h.elim
  | .val (.str _),_,h=>exact h.elim
  | .val (.tup _),_,h=>exact h.elim
  | .val (.lst _),_,h=>exact h.elim
  | .val (.loc _),_,h=>exact h.elim
  | .val (.exc _),_,h=>exact h.elim
  | .bor _,_,h=>exact h.elim
theorem akN{tg a b:Expr}{a' b':E}{p pos:Pos}{m:Md}{z:Bool}(hm:m=.i∨m=.j)(hg:Gl X "range")(hmg:X.mg "range"=none)(ha:PE X a (tV G X C a'))(hb:PE X b (tV G X C b'))(hs:starEach [a,b] X.env=[(false,eval a X.env),(false,eval b X.env)])(hs2:starEach [b] X.env=[(false,eval b X.env)]):PI X tg (.Call (.Name "range" p) [a,b] [] pos) (tI G X C (.rng2 a' b') m z):=by
 refine PI.imp (aiB hg hmg (aa9 ha (aa9 hb aaY hs2) (by rw[hs,hs2])) hs hs2) ?_
 rintro σV H R ⟨w₀,H₀,w,σ,s,g,h⟩
 have h:ag3 G X σV w H z ((ev C a' .v σ s).bind fun x s1=>onI x fun i=>(ev C b' .v σ s1).bind fun y s2=>onI y fun j=>if bnd i&&bnd j&&decide (j-i≤lim)then .ok (.val (.lst (aa4 i j))) s2 else .stuck) R:=by rcases hm with rfl|rfl<;>exact h
 refine⟨w₀,H₀,w,σ,s,g,?_⟩
 cases he:ev C a' .v σ s with
 | stuck=>rw[he]at h;exact h
 | exc c s1=>rw[he]at h;exact h
 | ok x s1=>
  rw[he]at h
  intro w1 H1 v L1 S1 R1
  match x,R1,h with
  | .val (.int i),R1,h=>
   cases R1
   refine⟨w₀,H₀,w1,σ,s1,g.step L1 S1,?_⟩
   have h:ag3 G X σV w H z ((ev C b' .v σ s1).bind fun y s2=>onI y fun j=>if bnd i&&bnd j&&decide (j-i≤lim)then .ok (.val (.lst (aa4 i j))) s2 else .stuck) R:=h
   cases hf:ev C b' .v σ s1 with
   | stuck=>rw[hf]at h;exact h
   | exc c s2=>rw[hf]at h;exact fun w2 H2 pins u sh L2=>h w2 H2 pins u sh (L1.trans L2)
   | ok y s2=>
    rw[hf]at h
    intro w2 H2 v2 M2 S2 R2
    match y,R2,h with
    | .val (.int j),R2,h=>
     cases R2
     have h:ag3 G X σV w H z (if bnd i&&bnd j&&decide (j-i≤lim)then .ok (.val (.lst (aa4 i j))) s2 else .stuck) R:=h
     split at h
     ·rename_i hb
      rw[Bool.and_eq_true,Bool.and_eq_true,decide_eq_true_iff]at hb
      refine⟨i,j,rfl,⟨(adE hb.1.1).1,(adE hb.1.1).2,(adE hb.1.2).1,(adE hb.1.2).2⟩,?_⟩
      refine h w2 H2 (.r i (j-i).toNat) (L1.trans M2) S2 ⟨rfl,?_⟩
      have:=agx
      omega
     ·exact h.elim
    | .val .non,_,h=>exact h.elim
    | .val (.bl _),_,h=>exact h.elim
    | .val (.str _),_,h=>exact h.elim
    | .val (.tup _),_,h=>exact h.elim
    | .val (.lst _),_,h=>exact h.elim
    | .val (.loc _),_,h=>exact h.elim
    | .val (.exc _),_,h=>exact h.elim
    | .bor _,_,h=>exact h.elim
  | .val .non,_,h=>exact h.elim
  | .val (.bl _),_,h=>exact h.elim
  | .val (.str _),_,h=>exact h.elim
  | .val (.tup _),_,h=>exact h.elim
  | .val (.lst _),_,h=>exact h.elim
  | .val (.loc _),_,h=>exact h.elim
  | .val (.exc _),_,h=>exact h.elim
  | .bor _,_,h=>exact h.elim
noncomputable def slots:Tg→List Nat
 | .one i=>[i]
 | .many is=>is
noncomputable def gTg(G:Gx)(g:Tg):TG:=fun v σV H Q=>∃w s t σ σ',StoOk G w H s∧Rep G w H t v∧aap σ g t=some σ'∧∀vs,(∀H₀ σV',FrOk G w H H₀ σ σV'→FrOk G w H H₀ σ' (abw σV' (slots g) vs))→vs.length=(slots g).length→Q (abw σV (slots g) vs) H
theorem PG.imp{tg:Expr}{t t':TG}(h:PG X tg t)(q:∀v σ H Q,t' v σ H Q→t v σ H Q):PG X tg t':=fun pins s σ H v u Q I r z=>h pins s σ H v u Q I r (q _ _ _ _ z)
theorem aom{i:Nat}{x:Str}{pos:Pos}(hN:X.N.Nodup)(hi:X.N[i]?=some x)(hx:Loc X.env.scope x)(hf:X.fn x=true∨X.env.scope.names.lookup x=some .local):PG X (.Name x pos) (gTg G (.one i)):=by
 refine PG.imp (aix hN hi hx hf) ?_
 rintro v σV H Q ⟨w,s,t,σ,σ',S,r,e,q⟩
 cases e
 exact q [v] (fun H₀ σV' F=>F.put r) rfl
noncomputable def adT(js:List Nat):TGs:=fun vs σ H Q=>vs.length=js.length∧Q (abw σ js vs) H
theorem PGs.imp{ts:List Expr}{t t':TGs}(h:PGs X ts t)(q:∀v σ H Q,t' v σ H Q→t v σ H Q):PGs X ts t':=fun pins s σ H v u Q I r z=>h pins s σ H v u Q I r (q _ _ _ _ z)
theorem ad0:PGs X [] (adT []):=PGs.imp alf fun vs σ H Q ⟨h,q⟩=>by
 have:vs=[]:=List.length_eq_zero_iff.mp h
 subst this
 exact⟨rfl,q⟩
theorem akS{i:Nat}{js:List Nat}{x:Str}{pos:Pos}{es:List Expr}(hN:X.N.Nodup)(hi:X.N[i]?=some x)(hx:Loc X.env.scope x)(hf:X.fn x=true∨X.env.scope.names.lookup x=some .local)(h2:PGs X es (adT js)):PGs X (.Name x pos::es) (adT (i::js)):=by
 refine PGs.imp (akg (aix hN hi hx hf) h2 rfl) ?_
 rintro vs σ H Q ⟨h,q⟩
 match vs,h,q with
 | v::r,h,q=>exact⟨v,r,rfl,by simpa using h,q⟩
theorem aeg:∀{is:List Nat}{ts:List T}{σ σ':Fr},puts σ is ts=some σ'→is.length=ts.length
 | [],[],_,_,_=>rfl
 | [],_::_,_,_,h=>by cases h
 | _::_,[],_,_,h=>by cases h
 | i::is,t::ts,σ,σ',h=>by simp[aeg (is:=is) (ts:=ts) (σ:=put σ i t) h]
theorem aik{js:List Nat}{es:List Expr}{k:Nat}{pos:Pos}(hc:X.calm=true)(h:PGs X es (adT js))(hn:(assignEach es X.env).length=js.length)(hst:(assignEach es X.env).findIdx? (·.1)=none):PG X (.Tuple es k pos) (gTg G (.many js)):=by
 rintro pins s0 σV H v u Q I ru ⟨w,s,t,σ,σ',S,r,e,q⟩
 match t,r,e with
 | .tup ts,⟨a,vs,e1,hp,rp⟩,e=>
  have e:puts σ js ts=some σ':=e
  have hl:=aeg e
  refine ani hc h hn hst pins s0 σV H v u Q I ru ⟨a,vs,e1,SqT.of hp,by rw[←rp.length,hl],by rw[←rp.length,hl],?_⟩
  exact q vs (fun H₀ σV' F=>FrOk.puts F rp e) (by rw[←rp.length];exact hl.symm)
 | .lst ts,⟨a,vs,e1,_,hp,rp⟩,e=>
  have e:puts σ js ts=some σ':=e
  have hl:=aeg e
  refine aoF hc h hn hst pins s0 σV H v u Q I ru ⟨a,vs,e1,hp,by rw[←rp.length,hl],by rw[←rp.length,hl],?_⟩
  exact q vs (fun H₀ σV' F=>FrOk.puts F rp e) (by rw[←rp.length];exact hl.symm)
 | .non,_,e=>cases e
 | .bl _,_,e=>cases e
 | .int _,_,e=>cases e
 | .str _,_,e=>cases e
 | .loc _,_,e=>cases e
 | .exc _,_,e=>cases e
end
theorem aay{h:Heap}{as:List Addr}{b:Addr}{o:Obj}:(PySem.W.hideAll h as).get? b=some o↔h.get? b=some o∧b∉as:=by
 refine⟨fun e=>⟨PySem.W.of_hideAll as e,fun z=>?_⟩,fun⟨e,n⟩=>PySem.W.hideAll_get as e n⟩
 rw[PySem.W.hideAll_none as z]at e
 cases e
section
variable{G:Gx}{X:Cx}{pins:List (Addr×Obj)}{σV:St}{H:Hp}{c:Nat}{u:Value}{sh:Shared}
theorem aip{base h B:Heap}{as:List Addr}(hc:∀b o,B.get? b=some o→b∉as):∀{l:List Env},h.FunFrames base l→(∀b∈frs l,b∈as)→h.FunFrames B l
 | [],_,_=>trivial
 | env::l,⟨hk,⟨L,o,hf,_,ho,hd⟩,hr⟩,hin=>by
  have hL:L∈as:=hin L (by unfold frs;rw[List.filterMap_cons,hf];exact List.mem_cons_self)
  refine⟨hk,⟨L,o,hf,?_,ho,hd⟩,aip hc hr fun b hb=>hin b ?_⟩
  ·cases q:B.get? L with
   | none=>rfl
   | some z=>exact absurd hL (hc L z q)
  ·unfold frs
   rw[List.filterMap_cons,hf]
   exact List.mem_cons_of_mem _ hb
theorem Flt.next{stack:List Env}{base h B h1 h2:Heap}{e:Addr}(F:Flt stack h B e h1)(hf:h.FunFrames base stack)(st:B.StaysIn h2)(sm:h1.UpToSlots h2):Flt stack h B e h2 where
 cov:=F.cov
 keep:=fun b o q n=>st b o ((F.cov b o).mpr ⟨q,n⟩)
 slot:=fun b o q n=>by
  obtain⟨sl,e1⟩:=F.slot b o q n
  obtain⟨_,o',ho',hd⟩:=hf.mem n
  rw[q]at ho'
  cases ho'
  obtain⟨sl',e2⟩:=sm b _ e1 hd
  exact⟨sl',e2⟩
 new:=F.new
theorem ahd{M:Model}{A:Around}{E:Value→Shared→Prop}{s:Shared}{B h:Heap}{env:Env}{outer:List Env}{L e:Addr}{cls:Value}{args:List Value}{Q:Unit→Shared→Prop}
  (hfr:A.frames=some (env::outer)) (hf:env.frame=some L) (hkb:B.StaysIn h) (hl:h.FunFrames B (env::outer)) (hx:Heap.MadeExcOf h s.heap e cls args)
  (hQ:∀h' t,Heap.HeldW B (env::outer) e cls t L h'→s.heap.UpToSlots h'→Q () { s with heap:=h' }):wpAny M A (noteFrame (.ref e) env) Q E s:=by
 obtain⟨t,he,htn,ht⟩:=hx.there
 have hen:B.get? e=none:=by
  cases hq:B.get? e with
  | none=>rfl
  | some o'=>have:=hkb e o' hq;rw[hx.new]at this;cases this
 unfold noteFrame
 simp only[hf]
 refine wpAny_bind (wpAny_field (x:=.none) he rfl rfl ?_)
 rw[if_neg (by decide)]
 refine wpAny_entryW (a0:=.ref t) hfr (hl.of_keeps fun b o hb _=>⟨o,hx.keeps b o hb,rfl⟩) hf he (fun b o hb=>hx.keeps b o (hkb b o hb)) hen rfl (by simp) rfl fun h' hN=>?_
 obtain⟨k1,k2,k3,k4⟩:=hN
 exact hQ h' (.ref t) ⟨k1,hen,k2,k3⟩ k4
noncomputable def afF(X:Cx):Prop:=∃env0 outer0 L,X.stack=env0::outer0∧env0.frame=some L∧X.env.frame=some L
theorem aeu{e:Value}{env env':Env}(h:env.frame=env'.frame):noteFrame e env=noteFrame e env':=by
 unfold noteFrame frameOf
 rw[h]
theorem aj0{M:Model}{A:Around}{E:Value→Shared→Prop}{s:Shared}{base:Heap}{env:Env}{outer:List Env}{L e:Addr}{cls a0 fl:Value}{Q:Unit→Shared→Prop}
  (hfr:A.frames=some (env::outer)) (hf:env.frame=some L) (hh:aoR base (env::outer) e cls a0 fl s.heap)
  (hQ:∀h',Heap.HeldW base (env::outer) e cls a0 L h'→s.heap.UpToSlots h'→Q () { s with heap:=h' }):wpAny M A (noteFrame (.ref e) env) Q E s:=by
 obtain⟨hkb,hen,hl,oe,vs,T,oT,ts,he,⟨hcls,h0⟩,hd,h1,hnT,hTe,hT,hdT,h3⟩:=hh
 by_cases hq:fl=rawInt L
 ·subst hq
  exact wpAny_noteFrame_againW hf ⟨oe,vs,T,oT,ts,he,⟨hcls,h0⟩,hd,h1,hnT,hTe,hT,hdT,h3⟩ (hQ s.heap ⟨hkb,hen,hl,oe,vs,T,oT,ts,he,⟨hcls,h0⟩,hd,h1,hnT,hTe,hT,hdT,h3⟩ (.refl _))
 ·have other:∀b,b≠T→(s.heap.update T (Obj.mapFields (·.setIfInBounds 3 Value.none))).get? b=s.heap.get? b:=fun b hb=>Heap.get?_update_other _ _ (Ne.symm hb)
  have nor:∀b o,s.heap.get? b=some o→(∀vs,o.data≠.fields vs)→b≠T:=fun b o hb hnf q=>by
   rw[q,hT]at hb;cases hb;exact hnf ts hdT
  subst hcls
  unfold noteFrame
  simp only[hf]
  refine wpAny_bind (wpAny_field he hd h1 ?_)
  rw[if_pos (show(Value.ref T != Value.none)=true from by simp)]
  refine wpAny_bind (wpAny_field hT hdT h3 ?_)
  rw[if_neg (show ¬((fl==rawInt L)=true)from fun z=>hq (by simpa using z))]
  refine wpAny_bind (wpAny_setField hT hdT (Array.getElem?_eq_some_iff.mp h3).1 ?_)
  refine wpAny_entryW hfr (hl.of_keeps fun b o hb hnf=>⟨o,(other b (nor b o hb hnf)).trans hb,rfl⟩) hf ((other e (Ne.symm hTe)).trans he)
   (fun b o hbo=>(other b fun q=>by rw[q,hnT]at hbo;cases hbo).trans (hkb b o hbo)) hen hd (Array.getElem?_eq_some_iff.mp h1).1 h0
   fun h' ⟨x1,x2,x3,x4⟩=>hQ h' ⟨x1,hen,x2,x3⟩ fun b o hb hnf=>x4 b o ((other b (nor b o hb hnf)).trans hb) hnf
theorem ac9{E:Value→Shared→Prop}{Q:Unit→Shared→Prop}(hst:afF X)(T:aaS G X pins σV H c u sh)
  (hQ:∀e h B h' t L,u=.ref e→Inv X pins σV H { sh with heap:=h }→Flt X.stack h B e h'→X.base.StaysIn B→Heap.HeldW B X.stack e (.ref (G.cA c)) t L h'→Q () { sh with heap:=h' }):
  wpAny (model X.prog X.w) X.A (noteFrame u X.env) Q E sh:=by
 obtain⟨env0,outer0,L,e1,e2,e3⟩:=hst
 rw[aeu (e3.trans e2.symm)]
 obtain⟨e,h,B,rfl,I,F,sb,T⟩:=T
 have hff:h.FunFrames X.base X.stack:=I.stack
 have hfr:X.A.frames=some (env0::outer0):=by rw[I.ok.frames,e1]
 have fB:h.FunFrames B X.stack:=aip (fun b o q=>((F.cov b o).mp q).2) hff fun _ z=>z
 have land:∀(h1:Heap) (t:Value),Heap.HeldW B (env0::outer0) e (.ref (G.cA c)) t L h1→sh.heap.UpToSlots h1→Q () { sh with heap:=h1 }:=fun h1 t hh sm=>by
  rw[←e1]at hh
  exact hQ e h B h1 t L rfl I (F.next hff hh.1 sm) sb hh
 rw[e1]at T fB
 rcases T with⟨args,hm⟩|⟨t,hf⟩|⟨t,fl,hh⟩
 ·exact ahd hfr e2 (fun b o q=>((F.cov b o).mp q).1) fB hm fun h1 t hh sm=>land h1 t hh sm
 ·exact wpAny_looks_onW hfr e2 hf fun h1 hh sm=>land h1 t hh sm
 ·exact aj0 hfr e2 hh fun h1 hh sm=>land h1 t hh sm
theorem agq{base h B h2:Heap}{as:List Addr}(hc:∀b o,B.get? b=some o→b∉as)(hm:∀b∈as,∀o,h.get? b=some o→(∀vs,o.data≠.fields vs)→h2.get? b=some o):
  ∀{l:List Env},h.FunFrames base l→(∀b∈frs l,b∈as)→h2.FunFrames B l
 | [],_,_=>trivial
 | env::l,⟨hk,⟨L,o,hf,_,ho,hd⟩,hr⟩,hin=>by
  have hL:L∈as:=hin L (by unfold frs;rw[List.filterMap_cons,hf];exact List.mem_cons_self)
  refine⟨hk,⟨L,o,hf,?_,hm L hL o ho hd,hd⟩,agq hc hm hr fun b hb=>hin b ?_⟩
  ·cases q:B.get? L with
   | none=>rfl
   | some z=>exact absurd hL (hc L z q)
  ·unfold frs
   rw[List.filterMap_cons,hf]
   exact List.mem_cons_of_mem _ hb
theorem afB{E:Value→Shared→Prop}{X:Cx}{pins:List (Addr×Obj)}{σV:St}{e A L:Addr}{h B h1 h':Heap}{t:Value}{what:String}{cenv:Env}(I:Inv X pins σV H { sh with heap:=h })(fA:aeD X pins H A)(hA:∀o,X.base.get? A≠some o)(F:Flt X.stack h B e h1)(sb:X.base.StaysIn B)
  (hh:Heap.HeldW B X.stack e (.ref (G.cA c)) t L h1) (nsA:∃o,h1.get? A=some o∧∀vs,o.data≠.fields vs) (hs:Heap.SameBut A h1 h') (hx:∀sh',aaS G X pins σV H c (.ref e) sh'→E (.ref e) sh'):
  wpAny (model X.prog X.w) X.A (passOn what (.ref e) cenv:Sem Value) (fun _ _=>False) E { sh with heap:=h' }:=by
 obtain⟨hkb,hen,hl,oe,vs,T,oT,ts,he,⟨hcls,h0⟩,hd,h1',hnT,hTe,hT,hdT,h3⟩:=hh
 obtain⟨oA,hoA,hAd⟩:=nsA
 have eA:e≠A:=fun z=>by rw[z,hoA]at he;cases he;exact hAd _ hd
 have TA:T≠A:=fun z=>by rw[z,hoA]at hT;cases hT;exact hAd _ hdT
 have Afr:A∉frs X.stack:=fun z=>by
  rcases List.mem_cons.mp (I.stkSub A z)with z|z
  ·exact fA.2.1 z
  ·exact fA.2.2.1 z
 have he':h'.get? e=some oe:=(hs.2 e eA).trans he
 have hT':h'.get? T=some oT:=(hs.2 T TA).trans hT
 have hsz3:3<ts.size:=(Array.getElem?_eq_some_iff.mp h3).1
 unfold passOn
 refine wpAny_bind (wpAny_field he' hd h1' ?_)
 rw[if_neg (show ¬((Value.ref T==Value.none)=true)from by simp)]
 refine wpAny_bind ?_
 unfold setFlight
 refine wpAny_bind (wpAny_field he' hd h1' ?_)
 rw[if_pos (show(Value.ref T != Value.none)=true from by simp)]
 generalize (cenv.frame.elim Value.none fun f=>rawInt f)=fl
 refine wpAny_setField hT' hdT hsz3 (wpAny_throw (hx _ ?_))
 have other:∀b,b≠T→(h'.update T (Obj.mapFields (·.setIfInBounds 3 fl))).get? b=h'.get? b:=fun b hb=>Heap.get?_update_other _ _ (Ne.symm hb)
 have bT:∀b o,B.get? b=some o→b≠T:=fun b o q z=>by rw[z,hnT]at q;cases q
 have fT:∀b∈frs X.stack,b≠T:=fun b hb z=>by
  obtain⟨_,o,ho,hnf⟩:=hl.mem hb
  rw[z,hT]at ho;cases ho;exact hnf _ hdT
 refine⟨e,PySem.W.hideAll h [A],PySem.W.hideAll B [A],rfl,?_,⟨fun b o=>?_,fun b o q n=>?_,fun b o q n=>?_,?_⟩,fun b o q=>aay.mpr ⟨sb b o q,fun z=>?_⟩,.inr (.inr ⟨t,fl,fun b o q=>?_,?_,?_,?_⟩)⟩
 ·exact I.turned (t':=sh.toks) (fun b o ne q=>aay.mpr ⟨q,by simpa using ne⟩) fA.1 fA.2.1 fA.2.2.2.1 fA.2.2.2.2.1 fA.2.2.2.2.2
 ·rw[aay,aay,F.cov b o]
  exact⟨fun⟨⟨a,y⟩,z⟩=>⟨⟨a,z⟩,y⟩,fun⟨⟨a,z⟩,y⟩=>⟨⟨a,y⟩,z⟩⟩
 ·obtain⟨a,y⟩:=aay.mp q
  have y:b≠A:=by simpa using y
  exact(other b (bT b o ((F.cov b o).mpr ⟨a,n⟩))).trans ((hs.2 b y).trans (F.keep b o a n))
 ·obtain⟨a,y⟩:=aay.mp q
  have y:b≠A:=by simpa using y
  obtain⟨sl,z⟩:=F.slot b o a n
  exact⟨sl,(other b (fT b n)).trans ((hs.2 b y).trans z)⟩
 ·cases q:(PySem.W.hideAll h [A]).get? e with
  | none=>rfl
  | some o=>have:=(aay.mp q).1;rw[F.new]at this;cases this
 ·have z:b=A:=by simpa using z
  subst z
  exact hA o q
 ·obtain⟨a,y⟩:=aay.mp q
  have y:b≠A:=by simpa using y
  exact(other b (bT b o a)).trans ((hs.2 b y).trans (hkb b o a))
 ·cases q:(PySem.W.hideAll B [A]).get? e with
  | none=>rfl
  | some o=>have:=(aay.mp q).1;rw[hen]at this;cases this
 ·refine agq (as:=frs X.stack) (fun b o q=>((F.cov b o).mp (aay.mp q).1).2) (fun b hb o q _=>(other b (fT b hb)).trans ((hs.2 b fun z=>Afr (z▸hb)).trans q)) hl fun _ z=>z
 ·refine⟨oe,vs,T,_,_,(other e (Ne.symm hTe)).trans he',⟨hcls,h0⟩,hd,h1',?_,hTe,Heap.get?_update_self _ hT' (Obj.isFreed_of_fields (Obj.data_mapFields hdT _)),Obj.data_mapFields hdT _,by simp[hsz3]⟩
  cases q:(PySem.W.hideAll B [A]).get? T with
  | none=>rfl
  | some o=>have:=(aay.mp q).1;rw[hnT]at this;cases this
end
section
variable{G:Gx}{X:Cx}{C:Cf}
noncomputable def av3(G:Gx)(w:Wo)(H:Hp):Option T→Option V→Prop
 | some t,some v=>Rep G w H t v
 | none,none=>True
 | _,_=>False
noncomputable def apN(G:Gx)(X:Cx)(σV:St)(w:Wo)(H:Hp)(r:Res (Option T))(Q:Option V→Hp→Prop):Prop:=match r with
 | .stuck=>False
 | .ok o s'=>∀w1 H1 vo,Le w w1 H H1→StoOk G w1 H1 s'→av3 G w1 H1 o vo→Q vo H1
 | .exc c s'=>∀w' H' pins u sh,Le w w' H H'→StoOk G w' H' s'→aaS G X pins σV H' c u sh→X.xe u sh
noncomputable def adj(G:Gx)(X:Cx)(ifs:List Expr)(elt:Expr)(f:Fr→Sto→Res (Option T)):Prop:=
 ∀(pins:List (Addr×Obj)) (s:Shared) (σV:St) (H:Hp) (w₀:Wo) (H₀:Hp) (w:Wo) (σ:Fr) (st:Sto) (Q:Option V→Hp→Prop),Inv X pins σV H s→Good G w₀ H₀ w H σ st σV→apN G X σV w H (f σ st) Q→
  wpAny (model X.prog X.w) X.A (forIn ifs true fun c r=>if r=true then do let ok ←isTrue c X.env (eval c X.env);pure (ForInStep.yield ok)else pure (ForInStep.yield r))
   (fun ok s3=>if ok=true then wpAny (model X.prog X.w) X.A (eval elt X.env) (fun u s4=>∃v H4,Inv X pins σV H4 s4∧aaL v u∧Q (some v) H4) X.xe s3 else ∃H3,Inv X pins σV H3 s3∧Q none H3) X.xe s
noncomputable def acM(G:Gx)(X:Cx)(σV:St)(w:Wo)(H:Hp)(Q:VK)(acc:List T)(r:Res (List T)):Prop:=match r with
 | .ok aaB st'=>∀w' H' a vs,Le w w' H H'→StoOk G w' H' st'→H' a=some (.lst vs)→aam G w' H' (acc++aaB) vs→H a=none→¬w'.Z a→notLoc w' a→Q (.ref a) H'
 | .exc c st'=>∀w' H' pins u sh,Le w w' H H'→StoOk G w' H' st'→aaS G X pins σV H' c u sh→X.xe u sh
 | .stuck=>False
theorem abN{σV:St}{w:Wo}{H:Hp}{Q:VK}{acc:List T}{f:T→Sto→Res (Option T)}{t:T}{ts:List T}{s:Sto}(h:acM G X σV w H Q acc (aas f (t::ts) s)):
  (∃o s1,f t s=.ok o s1∧acM G X σV w H Q (acc++aeF o []) (aas f ts s1))∨∃c s1,f t s=.exc c s1∧∀w' H' pins u sh,Le w w' H H'→StoOk G w' H' s1→aaS G X pins σV H' c u sh→X.xe u sh:=by
 unfold aas at h
 cases hf:f t s with
 | stuck=>rw[hf]at h;exact h.elim
 | exc c s1=>rw[hf]at h;exact .inr ⟨c,s1,rfl,h⟩
 | ok o s1=>
  rw[hf]at h
  refine .inl ⟨o,s1,rfl,?_⟩
  have h:acM G X σV w H Q acc ((aas f ts s1).bind fun q s2=>Res.ok (aeF o q) s2):=h
  cases hm:aas f ts s1 with
  | stuck=>rw[hm]at h;exact h
  | exc c s2=>rw[hm]at h;exact h
  | ok r s2=>
   rw[hm]at h
   intro w' H' a vs h1 h2 h3 h4
   refine h w' H' a vs h1 h2 h3 ?_
   cases o<;>simpa [aeF]using h4
theorem acm{α β:Type}{o:Option α}{f:α→Res β}{c:Nat}{s:Sto}(h:onO o f=.exc c s):∃a,o=some a∧f a=.exc c s:=by
 cases o with
 | none=>cases h
 | some a=>exact⟨a,rfl,h⟩
theorem age{α β:Type}{o:Option α}{f:α→Res β}{b:β}{s:Sto}(h:onO o f=.ok b s):∃a,o=some a∧f a=.ok b s:=by
 cases o with
 | none=>cases h
 | some a=>exact⟨a,rfl,h⟩
variable{elt iter tg:Expr}{ifs:List Expr}{scope:Scope}{pos:Pos}{it' ce:E}{g:Tg}{N':List Str}{f:Fr→Sto→Res (Option T)}
theorem ajB{pins:List (Addr×Obj)}{σ:St}{H:Hp}{s:Shared}{D:Addr}{xs:List V}{v:V}{u:Value}{Y:Cx}{E:Value→Shared→Prop}{Q:Shared→Prop}(I:Inv Y pins σ H s)(r:aaL v u)(hD:H D=some (.lst xs))(hl:xs.length<sizeLine)
  (q:∀s',Inv Y pins σ (upd H D (.lst (xs++[v]))) s'→Q s'):wpAny (model Y.prog Y.w) Y.A (call (.builtin "list.append") [.ref D,u]) (fun _ s'=>Q s') E s:=by
 have z:=ads (X:=Y.wish E) pins s σ H (.ref D) [v] (.ref D) [u] (fun _ H'=>H'=upd H D (.lst (xs++[v]))) (I.wish E) rfl (.cons r .nil) ⟨D,xs,v,rfl,rfl,hD,hl,rfl⟩
 refine thn z fun u' s' ⟨_,H',I',_,e⟩=>?_
 subst e
 exact q s' I'.unwish
theorem aeK:∀{js:List Nat}{vs:List V}{σV:St}{i:Nat},i∉js→(abw σV js vs)[i]?=σV[i]?
 | [],vs,σV,i,_=>by cases vs<;>rfl
 | j::js,[],σV,i,_=>rfl
 | j::js,v::vs,σV,i,h=>by
  show(abw (σV.set j (some v)) js vs)[i]?=_
  rw[aeK fun q=>h (List.mem_cons_of_mem _ q),List.getElem?_set_ne fun q=>h (by simp[q])]
noncomputable def agn(G:Gx)(w:Wo)(H:Hp)(s:Sto)(J:It)(ts:List T):Prop:=
 (∀i t,ts[i]?=some t→J.go i H∧∀x H',J.yld i H x H'→∃w',Le w w' H H'∧StoOk G w' H' s∧Rep G w' H' t x)∧J.stop ts.length H∧∀(X:Cx) pins σ s',Inv X pins σ H s'→ts.length≤sizeLine
theorem acn.walked{w:Wo}{H:Hp}{s:Sto}{src:Src}{ts:List T}{K:PySem.W.Frag}(S:StoOk G w H s)(h:acn G w H src ts):agn G w H s (ahr K src) ts:=
 ⟨fun i t e=>⟨(h.go e).1,fun x H' y=>by obtain⟨e1,r⟩:=(h.go (K:=K) e).2 x H' y;subst e1;exact⟨w,Le.refl _ _,S,r⟩⟩,h.stop,fun _ _ _ _ I=>h.small I⟩
noncomputable def ajv(G:Gx)(X:Cx)(g:Tg)(f:Fr→Sto→Res (Option T))(σ:Fr)(σV:St)(w:Wo)(H:Hp)(Q:VK)(J:It)(H2:Hp):Prop:=
 ∃(w2:Wo) (ts:List T) (st2:Sto) (K:Sto→Prop) (kp:Res (Option T)→Res (Option T)),Le w w2 H H2∧StoOk G w2 H2 st2∧(∀w' H' s',Le w2 w' H2 H'→StoOk G w' H' s'→K s'→agn G w' H' s' J ts)∧K st2∧(∀r,(∀o s',kp r=.ok o s'→r=.ok o s'∧K s')∧∀c s',kp r=.exc c s'→r=.exc c s')∧
  acM G X σV w H Q [] (aas (fun t s=>onO (aap σ g t) fun σ'=>kp (f σ' s)) ts st2)
theorem ad2(hfr:afF X)(hc:X.calm=true)(hN:CompN X scope N' (slots g))(hnd:(slots g).Nodup){tx:TI}(hI:PI X tg iter tx)
  (hG:∀A fp s2 H2 xe,PG (cxC X N' scope A fp s2 H2 xe) tg (gTg G g)) (hE:∀A fp s2 H2 xe,adj G (cxC X N' scope A fp s2 H2 xe) ifs elt f) (hs:∀x,foldedSetIterable iter X.env x=pure x)
  {pins:List (Addr×Obj)}{s:Shared}{σV:St}{H:Hp}{w₀ w:Wo}{H₀:Hp}{σ:Fr}{st:Sto}{Q:VK} (I:Inv X pins σV H s) (gd:Good G w₀ H₀ w H σ st σV)
  (hsrc:tx σV H (ajv G X g f σ σV w H Q))
  {use:Option (Value→Sem Unit)}{Q':Value→Shared→Prop}
  (hfin:∀(s':Shared) (Hc:Hp) (A D:Addr),Inv X pins σV Hc s'→aeD X pins Hc A→(∃m,s'.heap.Ns A m)→Q (.ref D) Hc→compPost (model X.prog X.w) X.A X.xe use Q' (.ref D) A (.ok .next) s'):
  wpAny (model X.prog X.w) X.A (comprehension (.ListComp elt [⟨tg,iter,ifs,0⟩] scope pos) scope X.env (firstIterPos [⟨tg,iter,ifs,0⟩] pos) (newList []) false (eval iter X.env) use) Q' X.xe s:=by
 have hfree:∀x∈scope.names,x.2=.free→∃c,X.env.cells.lookup x.1=some c:=fun x hx hf=>I.ok.has x.1 (hN.free x hx hf)
 refine wpAny_comprehension_free (use:=use) rfl hs (agU scope X.env hfree) hN.kind hN.locs (thn (hI pins s σV H _ I hsrc) fun xv s1 h1=>thn h1 fun itv s2 h2=>?_)
 obtain⟨it,fp,tn,J,H2,rfl,I2,T,st2,f2,w2,ts,stc,KK,kp,L2,S2,now,hK,hkp,hm⟩:=h2
 have ho2:∀b∈fp,∃o,s2.heap.get? b=some o:=fun b hb=>let ⟨o,e,_⟩:=T.obj _ _ st2 b hb;⟨o,e⟩
 refine wpAny_newObj_type (wpAny_newFunctionEnv hN.nocell (by intro y hy;simp at hy) (fun h₁ hns₁ hsb₁=>?_) hN.kind)
 have hns₁:h₁.Ns (s2.heap.push { cls:=.type "list",data:=.seq ([]:List Value).toArray }).objs.size (fun _=>none):=hns₁
 have hfD:H2 s2.heap.objs.size=none:=I2.hok.fresh (Nat.le_refl _)
 generalize hD:s2.heap.objs.size=D at hfD
 have I3:Inv X pins σV (upd H2 D (.lst [])) { s2 with heap:=s2.heap.push { cls:=.type "list",data:=.seq ([]:List Value).toArray } }:=by
  rw[←hD]
  exact I2.lnew (its:=[]) (t':=s2.toks) .nil (Nat.zero_le _)
 generalize hs3:({ s2 with heap:=s2.heap.push { cls:=.type "list",data:=.seq ([]:List Value).toArray } }:Shared)=s3 at I3
 have k3:∀b o,s2.heap.get? b=some o→s3.heap.get? b=some o:=fun b o e=>by rw[←hs3];exact Heap.get?_push_of_some _ e
 have fpD:∀b∈fp,b≠D:=fun b hb=>by
  obtain⟨o,e⟩:=ho2 b hb
  rw[←hD]
  exact Nat.ne_of_lt (Heap.lt_size e)
 have f3:∀b∈fp,aeD X pins (upd H2 D (.lst [])) b:=fun b hb=>⟨by rw[aag (fpD b hb)];exact(f2 b hb).1,(f2 b hb).2⟩
 have ho3:∀b∈fp,∃o,s3.heap.get? b=some o:=fun b hb=>let ⟨o,e⟩:=ho2 b hb;⟨o,k3 b o e⟩
 have e3:(s2.heap.push { cls:=.type "list",data:=.seq ([]:List Value).toArray })=s3.heap:=by rw[←hs3]
 rw[e3]at hns₁ hsb₁
 have k4:∀b o,s3.heap.get? b=some o→h₁.get? b=some o:=fun b o e=>hsb₁.extBut b o (Nat.ne_of_lt (Heap.lt_size e)) (Heap.get?_push_of_some _ e)
 obtain⟨XE,hXE⟩:∃XE:Addr→Value→Shared→Prop,XE=fun A=>notedBy (model X.prog X.w) X.A (compEnvC scope (clo X.env.cells scope.names []) A X.env) fun e s'=>compPost (model X.prog X.w) X.A X.xe use Q' (.ref D) A (.error e) s':=⟨_,rfl⟩
 have I4:Inv (cxC X N' scope s3.heap.objs.size fp s3 (upd H2 D (.lst [])) (XE s3.heap.objs.size)) [] (clr σV (slots g)) (upd H2 D (.lst [])) { s3 with heap:=h₁,toks:=s3.toks+([]:List (Str×Value)).length }:=alg hN I3 f3 ho3 hns₁ k4
 have tn4:tn 0 h₁:=T.keep _ _ _ st2 fun b hb o e=>k4 b o (k3 b o e)
 generalize hA:s3.heap.objs.size=A at I4 hns₁ hsb₁
 have hAD:D≠A:=by
  rw[←hA,←hs3]
  show D≠(s2.heap.push _).objs.size
  rw[Heap.size_push,hD]
  exact Nat.ne_of_lt (Nat.lt_succ_self _)
 generalize hY:cxC X N' scope A fp s3 (upd H2 D (.lst [])) (XE A)=Y at I4
 have eP:Y.prog=X.prog:=by rw[←hY];rfl
 have eW:Y.w=X.w:=by rw[←hY];rfl
 have eK:Y.K=X.K:=by rw[←hY];rfl
 have eA:Y.A=X.A:=by rw[←hY];rfl
 have eC:Y.calm=true:=by rw[←hY];exact hc
 have eL:Y.env.locals=A:=by rw[←hY];rfl
 have eS:Y.stack=X.stack:=by rw[←hY];rfl
 have eB:Y.base=X.base:=by rw[←hY];rfl
 have eF:Y.env.frame=X.env.frame:=by rw[←hY];rfl
 have eN:Y.env=compEnvC scope (clo X.env.cells scope.names []) A X.env:=by rw[←hY];rfl
 have stat:∀{H':Hp},(∀b∈fp,H' b=none)→∀b∈fp,aeD Y [] H' b:=fun {H'} hn b hb=>by
  obtain⟨f0,f1,fx,fy,fz,fw⟩:=f2 b hb
  subst hY
  refine⟨hn b hb,?_,?_,.inl hb,fun x c e=>fz x c (af3 X.env.cells scope.names [] (fun x c z=>by simp at z) x c e),fun p hp=>absurd (show p∈([]:List (Addr×Obj))from hp) (by simp)⟩
  ·show b≠A
   obtain⟨o,e⟩:=ho3 b hb
   rw[←hA]
   exact Nat.ne_of_lt (Heap.lt_size e)
  ·intro hm
   rcases List.mem_cons.mp (I2.stkSub b hm)with z|z
   ·exact f1 z
   ·exact fx z
 have eX:Y.xe=notedBy (model X.prog X.w) X.A Y.env fun e s'=>compPost (model X.prog X.w) X.A X.xe use Q' (.ref D) A (.error e) s':=by rw[eN,←hY];show XE A=_;rw[hXE]
 have hGY:PG Y tg (gTg G g):=by rw[←hY];exact hG A fp s3 _ _
 have hEY:adj G Y ifs elt f:=by rw[←hY];exact hE A fp s3 _ _
 have back:∀{pins':List (Addr×Obj)}{σ':St}{Hc:Hp}{s':Shared},Inv Y pins' σ' Hc s'→Inv X pins σV Hc s'∧aeD X pins Hc A:=fun {pins' σ' Hc s'} Ic=>by
  have un:Un (frs X.stack) fp (upd H2 D (.lst [])) Hc s3.heap s'.heap:=by
   have:=Ic.base
   subst hY
   exact this
  have hcA:Hc A=none:=by have:=Ic.free;rw[eL]at this;exact this
  have hok:HOk X.prog X.w Hc s'.heap:=by rw[←eP,←eW];exact Ic.hok
  have os:s'.os=s3.os:=by have:=Ic.os;subst hY;exact this
  exact⟨I3.call' (s':=s') (ch:=fp) os un hok Ic.bare fun b hb=>⟨(f2 b hb).2.2.2.1,(f2 b hb).2.1,(f2 b hb).2.2.2.2.1,(f2 b hb).2.2.2.2.2⟩,
   by rw[←hA];exact I3.fpOk (Nat.le_refl _) (by rw[hA];exact hcA)⟩
 have hHD:H D=none:=by
  cases e:H D with
  | none=>rfl
  | some o=>exact absurd hfD (L2.some_ D (by rw[e];intro z;cases z))
 have aaU:∀{pins':List (Addr×Obj)}{σ':St}{Hc:Hp}{c:Nat}{u:Value}{sh:Shared},aaS G Y pins' σ' Hc c u sh→(∀sh',aaS G X pins σV Hc c u sh'→X.xe u sh')→Y.xe u sh:=fun {pins' σ' Hc c u sh} Th hx=>by
  rw[eX]
  obtain⟨env0,outer0,L0,q1,q2,q3⟩:=hfr
  have z:=ac9 (X:=Y) (E:=fun e s'=>compPost (model X.prog X.w) X.A X.xe use Q' (.ref D) A (.error e) s') (Q:=fun _ s''=>compPost (model X.prog X.w) X.A X.xe use Q' (.ref D) A (.error u) s'') ⟨env0,outer0,L0,eS.trans q1,q2,eF.trans q3⟩ Th fun e h B h1 t L eu I F sb hh=>?_
  ·rw[eP,eW,eA]at z
   exact z
  ·subst eu
   rw[eS]at F hh
   rw[eB]at sb
   obtain⟨IX,fA⟩:=back I
   obtain⟨m,⟨o,es,ep,ho,hd,r⟩,_⟩:=I.loc
   rw[eL]at ho
   have Afr:A∉frs X.stack:=fun z=>by
    rcases List.mem_cons.mp (IX.stkSub A z)with z|z
    ·exact fA.2.1 z
    ·exact fA.2.2.1 z
   have hA1:=F.keep A o ho Afr
   have hAb:∀o,X.base.get? A≠some o:=fun o q=>by
    have:=Heap.lt_size (I3.bk A o q)
    rw[hA]at this
    exact absurd this (Nat.lt_irrefl _)
   have hns:h1.Ns A m:=⟨o,es,ep,hA1,hd,r⟩
   have fin:∀h',Heap.SameBut A h1 h'→∀cenv:Env,cenv.locals=A→wpAny (model X.prog X.w) X.A (passOn "comprehension.variables-let-go" (.ref e) cenv:Sem Value) (fun _ _=>False) X.xe { sh with heap:=h' }:=fun h' hs cenv _=>
    afB IX fA hAb F sb hh ⟨o,hA1,fun vs q=>by rw[hd]at q;cases q⟩ hs hx
   cases use<;>exact⟨m,hns,fin⟩
 have loop:∀s4:Shared,s4={ s3 with heap:=h₁,toks:=s3.toks+([]:List (Str×Value)).length }→
   codeAny (model X.prog X.w) X.A (.compLoop (.ListComp elt [⟨tg,iter,ifs,0⟩] scope pos) 0 (.ref it) (.ref D) Y.env) (compPost (model X.prog X.w) X.A X.xe use Q' (.ref D) A) s4:=by
  rintro s4 rfl
  refine codeAny_loop rfl (fun n s'=>∃(i:Nat) (Hc:Hp) (wc:Wo) (stc':Sto) (accT:List IP.T) (accV:List V),n=ts.length-i∧i≤ts.length∧Inv Y [] (clr σV (slots g)) Hc s'∧tn i s'.heap∧(∀b∈fp,Hc b=none)∧
    Le w2 wc H2 Hc∧StoOk G wc Hc stc'∧Hc D=some (.lst accV)∧aam G wc Hc accT accV∧¬wc.Z D∧notLoc wc D∧accT.length≤i∧
    KK stc'∧acM G X σV w H Q accT (aas (fun t s=>onO (aap σ g t) fun σ'=>kp (f σ' s)) (ts.drop i) stc')) ?_ ts.length
   ⟨0,upd H2 D (.lst []),w2,stc,[],[],rfl,Nat.zero_le _,I4,tn4,fun b hb=>by rw[aag (fpD b hb)];exact(f2 b hb).1,Le.new hfD _,S2.new hfD _,aaq,rfl,(S2.fresh hfD).1,(S2.fresh hfD).2,Nat.le_refl _,hK,hm⟩
  rintro n s' ⟨i,Hc,wc,stc',accT,accV,hn,hi,Ic,tc,fc,Lc,Sc,hDc,rc,nz,nl,hal,hKc,hmr⟩
  have SOc:agn G wc Hc stc' J ts:=now wc Hc stc' Lc Sc hKc
  show wpAny _ X.A ((compTurn (.ListComp elt [⟨tg,iter,ifs,0⟩] scope pos) 0 (.ref it) (.ref D) Y.env).onRaise (fun x=>do noteFrame x Y.env;theTreesLotGoes x)) _ _ s'
  refine wpAny_noted ?_
  rw[compTurn_list]
  refine wpAny_bind (wpAny_standAt (wpAny_bind ?_))
  by_cases hlt:i<ts.length
  ·have et:ts[i]?=some ts[i]:=List.getElem?_eq_getElem hlt
   have ed:ts.drop i=ts[i]::ts.drop (i+1):=List.drop_eq_getElem_cons hlt
   rw[ed]at hmr
   obtain⟨σ',hb⟩:∃σ',aap σ g ts[i]=some σ':=by
    rcases abN hmr with⟨o,s1,q,_⟩|⟨c,s1,q,_⟩
    ·obtain⟨a,q,_⟩:=age q;exact⟨a,q⟩
    ·obtain⟨a,q,_⟩:=acm q;exact⟨a,q⟩
   obtain⟨go,yld⟩:=SOc.1 _ _ et
   have hsm:=SOc.2.2 _ _ _ _ Ic
   have z:=T.item Y eP eW eK eC i [] s' (clr σV (slots g)) Hc (notedBy (model X.prog X.w) X.A Y.env fun e s'=>compPost (model X.prog X.w) X.A X.xe use Q' (.ref D) A (.error e) s') Ic (stat fc) tc go
   rw[eA]at z
   refine thn z fun r s5 ⟨u,hr,h5⟩=>?_
   subst hr
   refine wpAny_bind (thn h5 fun _ s6 ⟨x,H6,I6,r6,y6,t6,f6⟩=>?_)
   obtain⟨w6,L6,S6,rx⟩:=yld x H6 y6
   have rc:=aam.mono L6 Sc _ _ rc
   have Lc:=Lc.trans L6
   have nz:¬w6.Z D:=fun z=>by
    rcases L6.newZ D z with z|z
    ·exact nz z
    ·rw[hDc]at z;cases z
   have hD6:=L6.keep D _ hDc nl
   have nl:=notLoc.mono L6 (by rw[hDc];intro z;cases z) nl
   have hDc:=hD6
   have Sc:=S6
   have I6':=I6.pinned (stat f6) (T.obj _ _ t6)
   have hgd:Good G w₀ H₀ w6 H6 σ stc' σV:=(gd.step L2 S2).step Lc Sc
   have zg:=hGY _ s6 (clr σV (slots g)) H6 x u (fun σ7 H7=>H7=H6∧∃vs,σ7=abw σV (slots g) vs∧FrOk G w6 H6 H₀ σ' (abw σV (slots g) vs)) I6' r6
    ⟨w6,stc',ts[i],σ,σ',Sc,rx,hb,fun vs hfr hl=>⟨rfl,vs,aey hnd hl.symm,hfr H₀ σV hgd.fr⟩⟩
   rw[eP,eW,eA]at zg
   rw[eX]at zg
   refine wpAny_bind (thn zg fun _ s7 ⟨σ7,H7,I7,eH7,vs,e7,F7⟩=>?_)
   obtain rfl:H6=H7:=eH7.symm
   subst e7
   have okc:∀o st1,f σ' stc'=.ok o st1→KK st1∧acM G X σV w H Q (accT++aeF o []) (aas (fun t s=>onO (aap σ g t) fun σ'=>kp (f σ' s)) (ts.drop (i+1)) st1):=fun o st1 e=>by
    rcases abN hmr with⟨o2,s2,q,h⟩|⟨c,s2,q,_⟩
    ·obtain⟨a,q1,q2⟩:=age q
     rw[hb]at q1;cases q1
     obtain⟨q3,q4⟩:=(hkp _).1 _ _ q2
     rw[e]at q3;cases q3
     exact⟨q4,h⟩
    ·obtain⟨a,q1,q2⟩:=acm q
     rw[hb]at q1;cases q1
     have q3:=(hkp _).2 _ _ q2
     rw[e]at q3;cases q3
   have zt:=hEY _ s7 _ H6 w₀ H₀ w6 σ' stc' (fun vo H8=>∃w8 o st1,f σ' stc'=.ok o st1∧Le w6 w8 H6 H8∧StoOk G w8 H8 st1∧av3 G w8 H8 o vo) I7 ⟨Sc,F7,hgd.ent⟩ (by
    cases hf:f σ' stc' with
    | ok o st1=>exact fun w8 H8 vo L8 S8 R8=>⟨w8,o,st1,rfl,L8,S8,R8⟩
    | stuck=>
     rcases abN hmr with⟨o2,s2,q,h⟩|⟨c,s2,q,_⟩
     ·obtain⟨a,q1,q2⟩:=age q
      rw[hb]at q1;cases q1
      have:=((hkp _).1 _ _ q2).1
      rw[hf]at this;cases this
     ·obtain⟨a,q1,q2⟩:=acm q
      rw[hb]at q1;cases q1
      have:=(hkp _).2 _ _ q2
      rw[hf]at this;cases this
    | exc c s1=>
     rcases abN hmr with⟨o2,s2,q,h⟩|⟨c,s2,q,h⟩
     ·obtain⟨a,q1,q2⟩:=age q
      rw[hb]at q1;cases q1
      have:=((hkp _).1 _ _ q2).1
      rw[hf]at this;cases this
     ·obtain⟨a,q1,q2⟩:=acm q
      rw[hb]at q1;cases q1
      have:=(hkp _).2 _ _ q2
      rw[hf]at this;cases this
      exact fun w8 H8 pins8 u8 sh8 L8 S8 T8=>aaU T8 fun sh'=>h w8 H8 pins u8 sh' (L2.trans (Lc.trans L8)) S8)
   rw[eP,eW,eA,eX]at zt
   have next:∀(st1:Sto) (s8:Shared) (H8:Hp) (w8:Wo) (accT':List IP.T) (accV':List V),KK st1→Inv Y ([]++adC fp s6.heap) (abw σV (slots g) vs) H8 s8→Le w2 w8 H2 H8→StoOk G w8 H8 st1→H8 D=some (.lst accV')→aam G w8 H8 accT' accV'→¬w8.Z D→notLoc w8 D→accT'.length≤i+1→acM G X σV w H Q accT' (aas (fun t s=>onO (aap σ g t) fun σ'=>kp (f σ' s)) (ts.drop (i+1)) st1)→
     ∃m,m<n∧∃(i:Nat) (H6:Hp) (w6:Wo) (stc':Sto) (accT:List IP.T) (accV:List V),m=ts.length-i∧i≤ts.length∧Inv Y [] (clr σV (slots g)) H6 s8∧tn i s8.heap∧(∀b∈fp,H6 b=none)∧
      Le w2 w6 H2 H6∧StoOk G w6 H6 stc'∧H6 D=some (.lst accV)∧aam G w6 H6 accT accV∧¬w6.Z D∧notLoc w6 D∧accT.length≤i∧
      KK stc'∧acM G X σV w H Q accT (aas (fun t s=>onO (aap σ g t) fun σ'=>kp (f σ' s)) (ts.drop i) stc'):=by
    intro st1 s8 H8 w8 accT' accV' hK1 I8 L8 S8 hD8 r8 nz8 nl8 hl8 hq8
    have hpin:∀b∈fp,∀o,s6.heap.get? b=some o→s8.heap.get? b=some o∧H8 b=none:=fun b hb o e=>by
     have:=I8.pin (b,o) (List.mem_append_right _ (List.mem_append_right _ (ac8 hb e)))
     exact⟨this.1,this.2.1⟩
    refine⟨ts.length-(i+1),by omega,i+1,H8,w8,st1,accT',accV',rfl,hlt,?_,T.keep _ _ _ t6 fun b hb o e=>(hpin b hb o e).1,fun b hb=>?_,L8,S8,hD8,r8,nz8,nl8,hl8,hK1,hq8⟩
    ·refine Inv.unpinned (pins:=[]) (pl:=adC fp s6.heap) (I8.weak ?_ fun j v e=>?_)
     ·rw[ahw,ae7]
     ·obtain⟨e1,e2⟩:=ah1 _ _ _ _ e
      rw[aeK e2]
      exact e1
    ·obtain⟨o,e,_⟩:=T.obj _ _ t6 b hb
     exact(hpin b hb o e).2
   refine wpAny_bind (thn zt fun ok s8 h8=>?_)
   have nzD:∀{w8:Wo}{H8:Hp},Le w6 w8 H6 H8→¬w8.Z D:=fun L8 z=>by
    rcases L8.newZ D z with z|z
    ·exact nz z
    ·rw[hDc]at z;cases z
   have nlD:∀{w8:Wo}{H8:Hp},Le w6 w8 H6 H8→notLoc w8 D:=fun L8=>notLoc.mono L8 (by rw[hDc];intro z;cases z) nl
   cases ok with
   | false=>
    simp only[Bool.false_eq_true,if_false]at h8 ⊢
    obtain⟨H8,I8,w8,o,st1,hfo,L8,S8,R8⟩:=h8
    obtain⟨hK1,hm1⟩:=okc o st1 hfo
    have eo:o=none:=by cases o with|none=>rfl|some t=>exact R8.elim
    subst eo
    rw[agW,List.append_nil]at hm1
    exact wpAny_pure ⟨rfl,next st1 s8 H8 w8 accT accV hK1 I8 (Lc.trans L8) S8 (L8.keep D _ hDc nl) (aam.mono L8 Sc _ _ rc) (nzD L8) (nlD L8) (by omega) hm1⟩
   | true=>
    simp only[if_true]at h8 ⊢
    refine wpAny_bind (wpAny_bind (thn h8 fun u9 s9 ⟨v9,H9,I9,r9,w9,o,st1,hfo,L9,S9,R9⟩=>?_))
    obtain⟨hK1,hm1⟩:=okc o st1 hfo
    have eo:∃t9,o=some t9:=by cases o with|none=>exact R9.elim|some t=>exact⟨t,rfl⟩
    obtain⟨t9,rfl⟩:=eo
    have R9:Rep G w9 H9 t9 v9:=R9
    have hD9:=L9.keep D _ hDc nl
    have hlen:accV.length<sizeLine:=by
     rw[←rc.length]
     have:=hsm
     omega
    have za:=ajB (E:=notedBy (model X.prog X.w) X.A Y.env fun e s'=>compPost (model X.prog X.w) X.A X.xe use Q' (.ref D) A (.error e) s') I9 r9 hD9 hlen fun s10 I10=>
     next st1 s10 _ w9 (accT++[t9]) (accV++[v9]) hK1 I10 ((Lc.trans L9).updNew hfD (by rw[hD9];intro z;cases z)) (S9.upd hD9 (nzD L9) (nlD L9)) aaq
      (aam.upd hD9 (nzD L9) _ _ ((aam.mono L9 Sc _ _ rc).append ⟨v9,[],rfl,R9,rfl⟩)) (nzD L9) (nlD L9) (by rw[List.length_append,List.length_singleton];omega) hm1
    rw[eP,eW,eA]at za
    exact wpAny_bind (thn za fun _ s10 h10=>wpAny_pure (wpAny_pure ⟨rfl,h10⟩))
  ·have ei:i=ts.length:=by omega
   subst ei
   rw[List.drop_length]at hmr
   have hmr:∀w' H' a vs,Le w w' H H'→StoOk G w' H' stc'→H' a=some (.lst vs)→aam G w' H' (accT++[]) vs→H a=none→¬w'.Z a→notLoc w' a→Q (.ref a) H':=hmr
   rw[List.append_nil]at hmr
   have z:=T.done Y eP eW eK eC ts.length [] s' (clr σV (slots g)) Hc (notedBy (model X.prog X.w) X.A Y.env fun e s'=>compPost (model X.prog X.w) X.A X.xe use Q' (.ref D) A (.error e) s') Ic (stat fc) tc SOc.2.1
   rw[eA]at z
   refine thn z fun r s5 ⟨hr,I5⟩=>?_
   subst hr
   obtain⟨m5,hm5,_⟩:=I5.loc
   rw[eL]at hm5
   exact wpAny_pure (hfin s5 Hc A D (back I5).1 (back I5).2 ⟨m5,hm5⟩ (hmr wc Hc D accV (L2.trans Lc) Sc hDc rc hHD nz nl))
 show codeAny (model X.prog X.w) X.A (.compStart (.ListComp elt [⟨tg,iter,ifs,0⟩] scope pos) 0 (.ref it) (.ref D) (compEnvC scope (clo X.env.cells scope.names []) A X.env)) (compPost (model X.prog X.w) X.A X.xe use Q' (.ref D) A) _
 rw[←eN]
 exact codeAny_compStart_list (loop _ rfl) (T.self _ 0 _ _ _ tn4 (loop _ rfl))
theorem aeX(hfr:afF X)(hc:X.calm=true)(hN:CompN X scope N' (slots g))(hnd:(slots g).Nodup)(hI:PI X tg iter (tI G X C it' .i false))
  (hG:∀A fp s2 H2 xe,PG (cxC X N' scope A fp s2 H2 xe) tg (gTg G g)) (hE:∀A fp s2 H2 xe,adj G (cxC X N' scope A fp s2 H2 xe) ifs elt f) (hs:∀x,foldedSetIterable iter X.env x=pure x)
  {pins:List (Addr×Obj)}{s:Shared}{σV:St}{H:Hp}{w₀ w:Wo}{H₀:Hp}{σ:Fr}{st:Sto}{Q:VK} (I:Inv X pins σV H s) (gd:Good G w₀ H₀ w H σ st σV)
  (h:abd G X σV w H ((ev C it' .i σ st).bind fun x s1=>onL x fun ts=>(aas (fun t s=>onO (aap σ g t) fun σ'=>f σ' s) ts s1).bind fun q s2=>.ok (.val (.lst q)) s2) Q)
  {use:Option (Value→Sem Unit)}{Q':Value→Shared→Prop}
  (hfin:∀(s':Shared) (Hc:Hp) (A D:Addr),Inv X pins σV Hc s'→aeD X pins Hc A→(∃m,s'.heap.Ns A m)→Q (.ref D) Hc→compPost (model X.prog X.w) X.A X.xe use Q' (.ref D) A (.ok .next) s'):
  wpAny (model X.prog X.w) X.A (comprehension (.ListComp elt [⟨tg,iter,ifs,0⟩] scope pos) scope X.env (firstIterPos [⟨tg,iter,ifs,0⟩] pos) (newList []) false (eval iter X.env) use) Q' X.xe s:=by
 refine ad2 hfr hc hN hnd hI hG hE hs I gd ?_ hfin
 refine⟨w₀,H₀,w,σ,st,gd,?_⟩
 cases he:ev C it' .i σ st with
 | stuck=>rw[he]at h;exact h
 | exc c s1=>rw[he]at h;exact h
 | ok x s1=>
  rw[he]at h
  match x,h with
  | .val (.lst ts),h=>
   intro w2 H2 src L S SO
   have h:abd G X σV w H ((aas (fun t s=>onO (aap σ g t) fun σ'=>f σ' s) ts s1).bind fun q s2=>.ok (.val (.lst q)) s2) Q:=h
   refine⟨w2,ts,s1,fun _=>True,id,L,S,fun w' H' s' L' S' _=>(SO.mono L' S).now.walked S',trivial,fun r=>⟨fun o s' e=>⟨e,trivial⟩,fun c s' e=>e⟩,?_⟩
   cases hm:aas (fun t s=>onO (aap σ g t) fun σ'=>f σ' s) ts s1 with
   | stuck=>rw[hm]at h;exact h.elim
   | exc c s2=>rw[hm]at h;show acM G X σV w H Q [] (aas (fun t s=>onO (aap σ g t) fun σ'=>f σ' s) ts s1);rw[hm];exact h
   | ok q st'=>rw[hm]at h;show acM G X σV w H Q [] (aas (fun t s=>onO (aap σ g t) fun σ'=>f σ' s) ts s1);rw[hm];exact h
  | .val .non,h=>exact h.elim
  | .val (.bl _),h=>exact h.elim
  | .val (.int _),h=>exact h.elim
  | .val (.str _),h=>exact h.elim
  | .val (.tup _),h=>exact h.elim
  | .val (.loc _),h=>exact h.elim
  | .val (.exc _),h=>exact h.elim
  | .bor _,h=>exact h.elim
theorem aqD{pins:List (Addr×Obj)}{s:Shared}{σV:St}{H:Hp}{A:Addr}{h':Heap}(I:Inv X pins σV H s)(fA:aeD X pins H A)(sb:Heap.SameBut A s.heap h'):Inv X pins σV H { s with heap:=h' }:=
 I.turned (t':=s.toks) (fun b o ne e=>(sb.2 b ne).trans e) fA.1 fA.2.1 fA.2.2.2.1 fA.2.2.2.2.1 fA.2.2.2.2.2
theorem aa3(hc:X.calm=true)(hN:CompN X scope N' (slots g))(hnd:(slots g).Nodup)(hI:PI X tg iter (tI G X C it' .i false))
  (hG:∀A fp s2 H2 xe,PG (cxC X N' scope A fp s2 H2 xe) tg (gTg G g)) (hE:∀A fp s2 H2 xe,adj G (cxC X N' scope A fp s2 H2 xe) ifs elt f) (hs:∀x,foldedSetIterable iter X.env x=pure x)
  (hev:∀σ s,ev C ce .v σ s=(ev C it' .i σ s).bind fun x s1=>onL x fun ts=>(aas (fun t s=>onO (aap σ g t) fun σ'=>f σ' s) ts s1).bind fun q s2=>.ok (.val (.lst q)) s2) (hfr:afF X:=by exact⟨_,_,_,rfl,rfl,rfl⟩):
  PE X (.ListComp elt [⟨tg,iter,ifs,0⟩] scope pos) (tO G X C ce):=by
 rintro pins s σV H Q I ⟨w₀,H₀,w,σ,st,gd,h⟩
 rw[hev]at h
 rw[eval_ListComp]
 refine aeX hfr hc hN hnd hI hG hE hs I gd h (use:=none) fun s' Hc A D I' fA ⟨m,hm⟩ q=>?_
 exact⟨m,hm,fun h' sb=>⟨.ref D,Hc,aqD I' fA sb,rfl,q⟩⟩
theorem aki{y:Str}{py spos:Pos}{i:Nat}(hc:X.calm=true)(hN:CompN X scope N' (slots g))(hnd:(slots g).Nodup)(hI:PI X tg iter (tI G X C it' .i false))
  (hG:∀A fp s2 H2 xe,PG (cxC X N' scope A fp s2 H2 xe) tg (gTg G g)) (hE:∀A fp s2 H2 xe,adj G (cxC X N' scope A fp s2 H2 xe) ifs elt f) (hs:∀x,foldedSetIterable iter X.env x=pure x)
  (hev:∀σ s,ev C ce .v σ s=(ev C it' .i σ s).bind fun x s1=>onL x fun ts=>(aas (fun t s=>onO (aap σ g t) fun σ'=>f σ' s) ts s1).bind fun q s2=>.ok (.val (.lst q)) s2)
  (hsw:swapsWith (.ListComp elt [⟨tg,iter,ifs,0⟩] scope pos) (some (.Name y py)) spos.line X.env=pure true) (hXN:X.N.Nodup) (hi:X.N[i]?=some y) (hy:X.env.scope.names.lookup y=some .local) (hfr:afF X:=by exact⟨_,_,_,rfl,rfl,rfl⟩):
  PS X (.Assign [.Name y py] (.ListComp elt [⟨tg,iter,ifs,0⟩] scope pos) spos) (fun D σV H=>tO G X C ce σV H fun v H1=>D.nx (σV.set i (some v)) H1):=by
 rintro pins s σV H DD I ⟨w₀,H₀,w,σ,st,gd,h⟩
 rw[hev]at h
 rw[exec_Assign_Name_used _ _ _ _ hsw]
 refine wpAny_bind (wpAny_standAt (wpAny_bind ?_))
 show wpAny _ X.A (do let _ ←comprehension (.ListComp elt [⟨tg,iter,ifs,0⟩] scope pos) scope X.env _ (newList []) false (eval iter X.env) (some (assign (.Name y py) X.env))) _ _ s
 refine wpAny_bind (thn (aeX (pos:=pos) hfr hc hN hnd hI hG hE hs I gd h (use:=some (assign (.Name y py) X.env)) (Q':=fun _ s'=>SP X pins DD .next s') fun s' Hc A D I' fA ⟨m,hm⟩ q=>?_) fun _ s' hq=>wpAny_pure (wpAny_pure hq))
 refine wpAny_assign_Name (aeT (v:=.ref D) I' hXN hi (.inl hy) rfl (fun s'' I'' ⟨a,sb,ha⟩=>?_) (.inr hy))
 have neA:A≠a:=fun z=>by
  subst z
  rcases ha with ha|ha
  ·exact fA.2.1 ha
  ·exact fA.2.2.2.2.1 y _ ha rfl
 refine⟨m,?_,fun h' sb'=>?_⟩
 ·obtain⟨o,es,ep,e,r⟩:=hm
  exact⟨o,es,ep,(sb.2 A neA).trans e,r⟩
 ·exact⟨_,Hc,aqD I'' fA sb',q⟩
theorem aa7{Y:Cx}{elt:Expr}{e':E}(hE:PE Y elt (tV G Y C e')):adj G Y [] elt (fun σ st=>one (ev C e' .v σ st)):=by
 intro pins s σV H w₀ H₀ w σ st Q I gd hf
 refine wpAny_tests_nil ?_
 rw[if_pos rfl]
 dsimp only at hf
 refine hE pins s σV H (fun v H'=>Q (some v) H') I ⟨w₀,H₀,w,σ,st,gd,?_⟩
 cases he:ev C e' .v σ st with
 | stuck=>rw[he]at hf;exact hf
 | exc c s1=>rw[he]at hf;exact hf
 | ok r s1=>
  rw[he]at hf
  match r,hf with
  | .val t,hf=>exact fun w' H' v L S R=>hf w' H' (some v) L S R
  | .bor ts,hf=>exact hf.elim
end
noncomputable def Own(σ:Fr)(σV:St)(a:Addr):Prop:=∃(i:Nat) (ts:List T),σ[i]?=some (some (.own ts))∧σV[i]?=some (some (.ref a))
structure LeS(w w':Wo)(H H':Hp)(σ σ':Fr)(σV σV':St):Prop where
 n:w.n≤w'.n
 io:∀l,l<w.n→w'.io l=w.io l
 Z:∀a,w.Z a→w'.Z a
 keep:∀a o,H a=some o→notLoc w a→¬Own σ σV a→H' a=some o
 newL:∀l,w.n≤l→l<w'.n→H (w'.io l)=none
 some_:∀a,H a≠none→H' a≠none
 own:∀a,Own σ' σV' a→Own σ σV a∨H a=none
 lk:∀(i:Nat) (ts:List T),σ'[i]?=some (some (.lck ts))→(∃us,σ[i]?=some (some (.lck us)))∧σV'[i]?=σV[i]?
section
variable{G:Gx}{X:Cx}{C:Cf}{w w' w₀:Wo}{H H' H₀:Hp}{σ σ':Fr}{σV σV':St}
theorem LeS.refl:LeS w w H H σ σ σV σV:=⟨Nat.le_refl _,fun _ _=>rfl,fun _ z=>z,fun _ _ e _ _=>e,fun l a b=>absurd (Nat.lt_of_lt_of_le b a) (Nat.lt_irrefl _),fun _ z=>z,fun _ z=>.inl z,fun i ts e=>⟨⟨ts,e⟩,rfl⟩⟩
theorem LeS.notLoc(L:LeS w w' H H' σ σ' σV σV'){a:Addr}(h:H a≠none)(nl:IP.notLoc w a):IP.notLoc w' a:=fun l hl q=>by
 by_cases k:l<w.n
 ·exact nl l k (q.trans (L.io l k))
 ·have:=L.newL l (Nat.le_of_not_lt k) hl
  rw[←q]at this
  exact h this
theorem LeS.trans{w2:Wo}{H2:Hp}{σ2:Fr}{σV2:St}(a:LeS w w' H H' σ σ' σV σV')(b:LeS w' w2 H' H2 σ' σ2 σV' σV2):LeS w w2 H H2 σ σ2 σV σV2 where
 n:=Nat.le_trans a.n b.n
 io:=fun l h=>(b.io l (Nat.lt_of_lt_of_le h a.n)).trans (a.io l h)
 Z:=fun x z=>b.Z x (a.Z x z)
 keep:=fun x o e nl no=>by
  have hn:H x≠none:=by rw[e];intro z;cases z
  refine b.keep x o (a.keep x o e nl no) (a.notLoc hn nl) fun z=>?_
  rcases a.own x z with z|z
  ·exact no z
  ·exact hn z
 newL:=fun l h1 h2=>by
  by_cases h:l<w'.n
  ·rw[b.io l h]
   exact a.newL l h1 h
  ·have q:=b.newL l (Nat.le_of_not_lt h) h2
   cases e:H (w2.io l)with
   | none=>rfl
   | some o=>exact absurd q (a.some_ _ (by rw[e];intro z;cases z))
 some_:=fun x z=>b.some_ x (a.some_ x z)
 own:=fun x z=>by
  rcases b.own x z with z|z
  ·exact a.own x z
  ·refine .inr ?_
   cases e:H x with
   | none=>rfl
   | some o=>exact absurd z (a.some_ x (by rw[e];intro q;cases q))
 lk:=fun i ts e=>by
  obtain⟨⟨us,h1⟩,h2⟩:=b.lk i ts e
  obtain⟨h3,h4⟩:=a.lk i us h1
  exact⟨h3,h2.trans h4⟩
theorem LeS.of(L:Le w w' H H'):LeS w w' H H' σ σ σV σV:=⟨L.n,L.io,L.Z,fun a o e nl _=>L.keep a o e nl,L.newL,L.some_,fun _ z=>.inl z,fun i ts e=>⟨⟨ts,e⟩,rfl⟩⟩
structure Kp(w w':Wo)(H H':Hp):Prop where
 n:w.n≤w'.n
 io:∀l,l<w.n→w'.io l=w.io l
 Z:∀a,w.Z a→w'.Z a
 z:∀a u,w.Z a→Rd H a u→Rd H' a u
 t:∀a vs,H a=some (.tup vs)→H' a=some (.tup vs)
 x:∀a φ,H a=some (.ext φ)→H' a=some (.ext φ)
mutual
theorem Rep.kp(L:Kp w w' H H'):∀(t:T) (v:V),Rep G w H t v→Rep G w' H' t v
 | .non,v,h=>h
 | .bl b,v,h=>h
 | .int i,v,h=>h
 | .str x,v,h=>h
 | .tup ts,v,⟨a,vs,e,h,r⟩=>⟨a,vs,e,L.t _ _ h,aam.kp L ts vs r⟩
 | .lst ts,v,⟨a,vs,e,z,h,r⟩=>⟨a,vs,e,L.Z _ z,L.z _ _ z h,aam.kp L ts vs r⟩
 | .loc l,v,⟨h,e⟩=>⟨Nat.lt_of_lt_of_le h L.n,by rw[L.io l h];exact e⟩
 | .exc c,v,⟨a,e,h⟩=>⟨a,e,L.x _ _ h⟩
theorem aam.kp(L:Kp w w' H H'):∀(ts:List T) (vs:List V),aam G w H ts vs→aam G w' H' ts vs
 | [],vs,h=>h
 | t::ts,vs,⟨v,r,e,h,q⟩=>⟨v,r,e,Rep.kp L t v h,aam.kp L ts r q⟩
end
theorem FrOk.notOwnZ(F:FrOk G w H H₀ σ σV){a:Addr}(z:w.Z a):¬Own σ σV a:=fun⟨i,ts,e1,e2⟩=>by
 obtain⟨b,vs,h1,_,_,_,h5,_⟩:=F.own i _ ts e1 rfl
 rw[e2]at h1
 cases h1
 exact h5 z
theorem FrOk.notOwnT(F:FrOk G w H H₀ σ σV){a:Addr}{o:HO}(e:H a=some o)(h:∀vs,o≠.lst vs):¬Own σ σV a:=fun⟨i,ts,e1,e2⟩=>by
 obtain⟨b,vs,h1,h2,_⟩:=F.own i _ ts e1 rfl
 rw[e2]at h1
 cases h1
 rw[e]at h2
 exact h vs (Option.some.inj h2)
theorem LeS.kp{s:Sto}(L:LeS w w' H H' σ σ' σV σV')(S:StoOk G w H s)(F:FrOk G w H H₀ σ σV):Kp w w' H H' where
 n:=L.n
 io:=L.io
 Z:=L.Z
 z:=fun a u z r=>by
  have no:=F.notOwnZ z
  rcases r with r|⟨o,r⟩
  ·exact .inl (L.keep _ _ r (S.zLoc z) no)
  ·exact .inr ⟨o,L.keep _ _ r (S.zLoc z) no⟩
 t:=fun a vs e=>L.keep _ _ e (S.notLoc e (fun _ z=>by cases z) fun _ _ _ z=>by cases z) (F.notOwnT e fun _ z=>by cases z)
 x:=fun a φ e=>L.keep _ _ e (S.notLoc e (fun _ z=>by cases z) fun _ _ _ z=>by cases z) (F.notOwnT e fun _ z=>by cases z)
noncomputable def aa5(G:Gx)(X:Cx)(w₀:Wo)(H₀:Hp)(w:Wo)(H:Hp)(σ:Fr)(σV:St)(res:SR)(D:Ends):Prop:=match res with
 | .stuck=>False
 | .next σ' s'=>∀w' H' σV',Good G w₀ H₀ w' H' σ' s' σV'→LeS w w' H H' σ σ' σV σV'→D.nx σV' H'
 | .ret r s'=>∀w' H' v,StoOk G w' H' s'→abl G w' H' r v→Le w₀ w' H₀ H'→D.rt v H'
 | .retO ts s'=>∀w' H' a vs,StoOk G w' H' s'→H' a=some (.lst vs)→aam G w' H' ts vs→H₀ a=none→¬w'.Z a→notLoc w' a→Le w₀ w' H₀ H'→D.rt (.ref a) H'
 | .exc c σ' s'=>∀w' H' σV' pins u sh,Good G w₀ H₀ w' H' σ' s' σV'→LeS w w' H H' σ σ' σV σV'→aaS G X pins σV' H' c u sh→X.xe u sh
noncomputable def tS(G:Gx)(X:Cx)(C:Cf)(a:S):TS:=fun D σV H=>∃w₀ H₀ w σ s,Good G w₀ H₀ w H σ s σV∧aa5 G X w₀ H₀ w H σ σV (ex C a σ s) D
noncomputable def tSs(G:Gx)(X:Cx)(C:Cf)(a:List S):TS:=fun D σV H=>∃w₀ H₀ w σ s,Good G w₀ H₀ w H σ s σV∧aa5 G X w₀ H₀ w H σ σV (exs C a σ s) D
theorem PS.imp{st:Stmt}{t t':TS}(h:PS X st t)(q:∀D σ H,t' D σ H→t D σ H):PS X st t':=fun pins s σ H D I z=>h pins s σ H D I (q _ _ _ z)
theorem PSs.imp{st:List Stmt}{t t':TS}(h:PSs X st t)(q:∀D σ H,t' D σ H→t D σ H):PSs X st t':=fun pins s σ H D I z=>h pins s σ H D I (q _ _ _ z)
theorem aa5.mono{res:SR}{D:Ends}(L:LeS w w' H H' σ σ' σV σV')(h:aa5 G X w₀ H₀ w H σ σV res D):aa5 G X w₀ H₀ w' H' σ' σV' res D:=by
 cases res with
 | stuck=>exact h
 | next σ2 s2=>exact fun w2 H2 σV2 g M=>h w2 H2 σV2 g (L.trans M)
 | ret r s2=>exact h
 | retO ts s2=>exact h
 | exc c σ2 s2=>exact fun w2 H2 σV2 pins u sh g M=>h w2 H2 σV2 pins u sh g (L.trans M)
theorem aa5.bind{m:SR}{k:Fr→Sto→SR}{D:Ends}{u:TS}(h:aa5 G X w₀ H₀ w H σ σV (m.bind k) D)
  (hu:∀w1 H1 σ1 s1 σV1,Good G w₀ H₀ w1 H1 σ1 s1 σV1→aa5 G X w₀ H₀ w1 H1 σ1 σV1 (k σ1 s1) D→u D σV1 H1):aa5 G X w₀ H₀ w H σ σV m { D with nx:=u D }:=by
 cases m with
 | stuck=>exact h
 | next σ2 s2=>exact fun w2 H2 σV2 g L=>hu w2 H2 σ2 s2 σV2 g (aa5.mono L h)
 | ret r s2=>exact h
 | retO ts s2=>exact h
 | exc c σ2 s2=>exact h
theorem aac:PSs X [] (tSs G X C []):=PSs.imp alM fun D σV H ⟨w₀,H₀,w,σ,s,g,h⟩=>h w H σV g LeS.refl
theorem aaa{st:Stmt}{aaB:List Stmt}{a:S}{as:List S}(h1:PS X st (tS G X C a))(h2:PSs X aaB (tSs G X C as)):PSs X (st::aaB) (tSs G X C (a::as)):=by
 refine PSs.imp (ajx h1 h2) ?_
 rintro D σV H ⟨w₀,H₀,w,σ,s,g,h⟩
 refine⟨w₀,H₀,w,σ,s,g,aa5.bind h fun w1 H1 σ1 s1 σV1 g1 h1=>?_⟩
 exact⟨w₀,H₀,w1,σ1,s1,g1,h1⟩
theorem acx{m:Res R}{k:R→Sto→SR}{D:Ends}{s:Sto}(g:Good G w₀ H₀ w H σ s σV)(h:aa5 G X w₀ H₀ w H σ σV (m.st σ k) D):
  aaJ G X σV w H m fun v H1=>∃w1 r s1,Le w w1 H H1∧StoOk G w1 H1 s1∧abl G w1 H1 r v∧Good G w₀ H₀ w1 H1 σ s1 σV∧aa5 G X w₀ H₀ w1 H1 σ σV (k r s1) D:=by
 cases m with
 | stuck=>exact h
 | ok r s1=>exact fun w1 H1 v L S R=>⟨w1,r,s1,L,S,R,g.step L S,aa5.mono (LeS.of L) h⟩
 | exc c s1=>exact fun w1 H1 pins u sh L S T=>h w1 H1 σV pins u sh (g.step L S) (LeS.of L) T
theorem ab7{α:Type}{o:Option α}{f:α→SR}{D:Ends}(h:aa5 G X w₀ H₀ w H σ σV (onS o f) D):∃a,o=some a∧aa5 G X w₀ H₀ w H σ σV (f a) D:=by
 cases o with
 | none=>exact h.elim
 | some a=>exact⟨a,rfl,h⟩
theorem adF{r:R}{t:T}(h:r.val?=some t):r=.val t:=by
 cases r with
 | val u=>cases h;rfl
 | bor u=>cases h
theorem al9{i:Nat}{b:Option B}{x:Option V}(hb:∀ts,b≠some (.own ts)){a:Addr}(h:Own (σ.set i b) (σV.set i x) a):Own σ σV a:=by
 obtain⟨j,ts,e1,e2⟩:=h
 by_cases hj:i=j
 ·subst hj
  have hlt:i<σ.length:=by
   have:=(List.getElem?_eq_some_iff.mp e1).1
   simpa using this
  rw[List.getElem?_set_self hlt]at e1
  exact absurd (Option.some.inj e1) (hb ts)
 ·rw[List.getElem?_set_ne hj]at e1 e2
  exact⟨j,ts,e1,e2⟩
theorem ane{i:Nat}{b:Option B}{x:Option V}(hb:∀ts,b≠some (.lck ts))(j:Nat)(ts:List T)(e:(σ.set i b)[j]?=some (some (.lck ts))):(∃us,σ[j]?=some (some (.lck us)))∧(σV.set i x)[j]?=σV[j]?:=by
 by_cases hj:i=j
 ·subst hj
  have hlt:i<σ.length:=by
   have:=(List.getElem?_eq_some_iff.mp e).1
   simpa using this
  rw[List.getElem?_set_self hlt]at e
  exact absurd (Option.some.inj e) (hb ts)
 ·rw[List.getElem?_set_ne hj]at e ⊢
  exact⟨⟨ts,e⟩,rfl⟩
theorem LeS.set{i:Nat}{b:Option B}{x:Option V}(hb:∀ts,b≠some (.own ts))(hb':∀ts,b≠some (.lck ts)):LeS w w H H σ (σ.set i b) σV (σV.set i x):=
 ⟨Nat.le_refl _,fun _ _=>rfl,fun _ z=>z,fun _ _ e _ _=>e,fun l a b=>absurd (Nat.lt_of_lt_of_le b a) (Nat.lt_irrefl _),fun _ z=>z,fun a z=>.inl (al9 hb z),ane hb'⟩
theorem LeS.put{i:Nat}{t:T}{v:V}:LeS w w H H σ (IP.put σ i t) σV (σV.set i (some v)):=LeS.set (by intro ts z;cases z) (by intro ts z;cases z)
theorem Good.put{s:Sto}{i:Nat}{t:T}{v:V}(g:Good G w₀ H₀ w H σ s σV)(r:Rep G w H t v):Good G w₀ H₀ w H (IP.put σ i t) s (σV.set i (some v)):=⟨g.sto,g.fr.put r,g.ent⟩
variable{e:Expr}{e':E}{x:Str}{pos pos':Pos}{i:Nat}
theorem amX(hN:X.N.Nodup)(hi:X.N[i]?=some x)(hx:Loc X.env.scope x)(he:PE X e (tV G X C e'))(hs:swapsWith e (some (.Name x pos')) pos.line X.env=pure false)(hf:X.fn x=true∨X.env.scope.names.lookup x=some .local):
  PS X (.Assign [.Name x pos'] e pos) (tS G X C (.asg i e')):=by
 refine PS.imp (akA hN hi hx he hs hf) ?_
 rintro D σV H ⟨w₀,H₀,w,σ,s,g,h⟩
 refine⟨w₀,H₀,w,σ,s,g,(acx g h).imp ?_⟩
 rintro v H1 ⟨w1,r,s1,L1,S1,R1,g1,h1⟩
 obtain⟨t,ht,h1⟩:=ab7 h1
 cases adF ht
 exact h1 w1 H1 _ (g1.put R1) LeS.put
theorem aal(he:PE X e (tV G X C e')):PS X (.Return (some e) pos) (tS G X C (.ret e')):=by
 refine PS.imp (aop he) ?_
 rintro D σV H ⟨w₀,H₀,w,σ,s,g,h⟩
 refine⟨w₀,H₀,w,σ,s,g,(acx g h).imp ?_⟩
 rintro v H1 ⟨w1,r,s1,L1,S1,R1,g1,h1⟩
 exact h1 w1 H1 v S1 R1 g1.ent
theorem anG(he:PE X e (tV G X C e'))(hs:swapsWith e none pos.line X.env=pure false):PS X (.Expr e pos) (tS G X C (.exp e')):=by
 refine PS.imp (afo he hs) ?_
 rintro D σV H ⟨w₀,H₀,w,σ,s,g,h⟩
 refine⟨w₀,H₀,w,σ,s,g,(acx g h).imp ?_⟩
 rintro v H1 ⟨w1,r,s1,L1,S1,R1,g1,h1⟩
 exact h1 w1 H1 σV g1 LeS.refl
theorem ape{x:R}{v:V}{m n:SR}{D:Ends}(r:abl G w H x v)(h:aa5 G X w₀ H₀ w H σ σV (asP x m n) D):∃k,v=.bl k∧aa5 G X w₀ H₀ w H σ σV (if k=true then m else n) D:=by
 match x,h with
 | .val (.bl true),h=>exact⟨true,r,h⟩
 | .val (.bl false),h=>exact⟨false,r,h⟩
 | .val .non,h=>exact h.elim
 | .val (.int _),h=>exact h.elim
 | .val (.str _),h=>exact h.elim
 | .val (.tup _),h=>exact h.elim
 | .val (.lst _),h=>exact h.elim
 | .val (.loc _),h=>exact h.elim
 | .val (.exc _),h=>exact h.elim
 | .bor _,h=>exact h.elim
theorem aa0{c:Expr}{c':E}{a b:List Stmt}{a' b':List S}(hc:PT X c (tT G X C c'))(ha:PSs X a (tSs G X C a'))(hb:PSs X b (tSs G X C b')):PS X (.If c a b pos) (tS G X C (.ifs c' a' b')):=by
 refine PS.imp (atk hc ha hb) ?_
 rintro D σV H ⟨w₀,H₀,w,σ,s,g,h⟩
 refine⟨w₀,H₀,w,σ,s,g,(acx g h).imp ?_⟩
 rintro v H1 ⟨w1,r,s1,L1,S1,R1,g1,h1⟩
 obtain⟨k,rfl,h1⟩:=ape R1 h1
 refine⟨k,rfl,?_⟩
 cases k with
 | true=>exact amz ⟨w₀,H₀,w1,σ,s1,g1,h1⟩
 | false=>exact am0 ⟨w₀,H₀,w1,σ,s1,g1,h1⟩
end
section
variable{G:Gx}{X:Cx}{C:Cf}{w w' w₀:Wo}{H H' H₀:Hp}{σ σ':Fr}{σV σV':St}
theorem aau{α:Type}{l:List (Option α)}{i j:Nat}{b:Option α}{c:α}(h:(l.set i b)[j]?=some (some c)):(i=j∧b=some c∧i<l.length)∨(i≠j∧l[j]?=some (some c)):=by
 by_cases hj:i=j
 ·subst hj
  have hlt:i<l.length:=by
   have:=(List.getElem?_eq_some_iff.mp h).1
   simpa using this
  rw[List.getElem?_set_self hlt]at h
  exact .inl ⟨rfl,Option.some.inj h,hlt⟩
 ·rw[List.getElem?_set_ne hj]at h
  exact .inr ⟨hj,h⟩
theorem FrOk.mkO{i:Nat}{ts:List T}{a:Addr}{vs:List V}(F:FrOk G w H H₀ σ σV)(ha:H a=some (.lst vs))(r:aam G w H ts vs)(h0:H₀ a=none)(hz:¬w.Z a)(hl:notLoc w a)
  (hap:∀(j:Nat) (b:B) (us:List T),σ[j]?=some (some b)→ahY b=some us→σV[j]?≠some (some (.ref a))):FrOk G w H H₀ (aaH σ i ts) (σV.set i (some (.ref a)))where
 len:=by unfold aaH;simp[F.len]
 val:=fun j t e=>by
  rcases aau e with⟨_,z,_⟩|⟨ne,z⟩
  ·cases z
  ·obtain⟨v,h1,h2⟩:=F.val j t z
   exact⟨v,by rw[List.getElem?_set_ne ne];exact h1,h2⟩
 own:=fun j b us e eb=>by
  rcases aau e with⟨rfl,z,hlt⟩|⟨ne,z⟩
  ·cases z
   cases eb
   exact⟨a,vs,by rw[List.getElem?_set_self (by rw[←F.len];exact hlt)],ha,r,h0,hz,hl⟩
  ·obtain⟨p,us',h1,h2⟩:=F.own j b us z eb
   exact⟨p,us',by rw[List.getElem?_set_ne ne];exact h1,h2⟩
 apart:=fun j k b c us us' p hjk e1 eb e2 ec e3 e4=>by
  rcases aau e1 with⟨rfl,z,hlt⟩|⟨ne,z⟩
  ·rcases aau e2 with⟨rfl,_,_⟩|⟨ne',z'⟩
   ·exact hjk rfl
   ·rw[List.getElem?_set_self (by rw[←F.len];exact hlt)]at e3
    cases e3
    rw[List.getElem?_set_ne ne']at e4
    exact hap k c us' z' ec e4
  ·rcases aau e2 with⟨rfl,z',hlt⟩|⟨ne',z'⟩
   ·rw[List.getElem?_set_self (by rw[←F.len];exact hlt)]at e4
    cases e4
    rw[List.getElem?_set_ne ne]at e3
    exact hap j b us z eb e3
   ·rw[List.getElem?_set_ne ne]at e3
    rw[List.getElem?_set_ne ne']at e4
    exact F.apart j k b c us us' p hjk z eb z' ec e3 e4
 bor:=fun j us e=>by
  rcases aau e with⟨_,z,_⟩|⟨ne,z⟩
  ·cases z
  ·obtain⟨p,us',h1,h2⟩:=F.bor j us z
   exact⟨p,us',by rw[List.getElem?_set_ne ne];exact h1,h2⟩
theorem FrOk.chg{i:Nat}{ts us:List T}{a:Addr}{xs ys:List V}(F:FrOk G w H H₀ σ σV)(hi:σ[i]?=some (some (.own ts)))(hv:σV[i]?=some (some (.ref a)))(ha:H a=some (.lst xs))(r:aam G w H us ys):
  FrOk G w (upd H a (.lst ys)) H₀ (aaH σ i us) σV:=by
 obtain⟨a',xs',h1,h2,h3,h4,h5,h6⟩:=F.own i _ ts hi rfl
 rw[hv]at h1
 cases h1
 have hlt:i<σ.length:=(List.getElem?_eq_some_iff.mp hi).1
 exact {
  len:=by unfold aaH;simp[F.len]
  val:=fun j t e=>by
   rcases aau e with⟨_,z,_⟩|⟨ne,z⟩
   ·cases z
   ·obtain⟨v,q1,q2⟩:=F.val j t z
    exact⟨v,q1,Rep.upd ha h5 t v q2⟩
  own:=fun j b vs e eb=>by
   rcases aau e with⟨rfl,z,hlt⟩|⟨ne,z⟩
   ·cases z
    cases eb
    exact⟨a,ys,hv,aaq,aam.upd ha h5 us ys r,h4,h5,h6⟩
   ·obtain⟨p,us',q1,q2,q3,q4⟩:=F.own j b vs z eb
    have np:p≠a:=fun y=>by
     subst y
     exact F.apart i j _ b ts vs p ne hi rfl z eb hv q1
    exact⟨p,us',q1,by rw[aag np];exact q2,aam.upd ha h5 _ _ q3,q4⟩
  apart:=fun j k b c us1 us2 p hjk e1 eb e2 ec e3 e4=>by
   have old:∀{j:Nat}{b:B}{us1:List T},(aaH σ i us)[j]?=some (some b)→ahY b=some us1→∃b' us',σ[j]?=some (some b')∧ahY b'=some us':=fun {j b us1} e eb=>by
    rcases aau e with⟨rfl,z,_⟩|⟨ne,z⟩
    ·exact⟨_,ts,hi,rfl⟩
    ·exact⟨b,us1,z,eb⟩
   obtain⟨b',u1,z1,y1⟩:=old e1 eb
   obtain⟨c',u2,z2,y2⟩:=old e2 ec
   exact F.apart j k b' c' u1 u2 p hjk z1 y1 z2 y2 e3 e4
  bor:=fun j vs e=>by
   rcases aau e with⟨_,z,_⟩|⟨ne,z⟩
   ·cases z
   ·obtain⟨p,us',q1,q2,q3,q4,q5⟩:=F.bor j vs z
    have np:p≠a:=fun y=>by subst y;exact q4 h4
    exact⟨p,us',q1,by rw[aag np];exact q2,aam.upd ha h5 _ _ q3,q4,q5⟩ }
theorem aeO{i:Nat}{ts:List T}(h:acd σ i=some ts):σ[i]?=some (some (.own ts)):=by
 unfold acd at h
 split at h
 ·rename_i us e
  cases h
  exact e
 ·cases h
theorem Good.chg{s:Sto}{i:Nat}{ts us:List T}{a:Addr}{xs ys:List V}(g:Good G w₀ H₀ w H σ s σV)(hi:σ[i]?=some (some (.own ts)))(hv:σV[i]?=some (some (.ref a)))(ha:H a=some (.lst xs))(r:aam G w H us ys):
  Good G w₀ H₀ w (upd H a (.lst ys)) (aaH σ i us) s σV∧LeS w w H (upd H a (.lst ys)) σ (aaH σ i us) σV σV:=by
 obtain⟨a',xs',h1,h2,h3,h4,h5,h6⟩:=g.fr.own i _ ts hi rfl
 rw[hv]at h1
 cases h1
 have hlt:i<σ.length:=(List.getElem?_eq_some_iff.mp hi).1
 refine⟨⟨g.sto.upd ha h5 h6,g.fr.chg hi hv ha r,g.ent.updNew h4 (by rw[ha];intro z;cases z)⟩,Nat.le_refl _,fun _ _=>rfl,fun _ z=>z,fun p o e nl no=>?_,fun l a b=>absurd (Nat.lt_of_lt_of_le b a) (Nat.lt_irrefl _),fun p z=>?_,fun p z=>.inl ?_,fun j vs e=>?_⟩
 ·have np:p≠a:=fun y=>by subst y;exact no ⟨i,ts,hi,hv⟩
  rw[aag np]
  exact e
 ·by_cases e:p=a
  ·subst e;rw[aaq];intro z;cases z
  ·rw[aag e];exact z
 ·obtain⟨j,vs,e1,e2⟩:=z
  rcases aau e1 with⟨rfl,_,_⟩|⟨ne,z⟩
  ·exact⟨i,ts,hi,e2⟩
  ·exact⟨j,vs,z,e2⟩
 ·rcases aau e with⟨rfl,z,_⟩|⟨ne,z⟩
  ·cases z
  ·exact⟨⟨vs,z⟩,rfl⟩
variable{e j:Expr}{e' j':E}{x:Str}{pos pos' p1 p2:Pos}{i:Nat}
theorem atJ{D:Ends}{s:Sto}(g:Good G w₀ H₀ w H σ s σV)(h:aa5 G X w₀ H₀ w H σ σV (ex C (.mk i e') σ s) D):abd G X σV w H (ev C e' .v σ s) fun v H1=>D.nx (σV.set i (some v)) H1:=by
 unfold ex at h
 split at h
 ·cases hv:ev C e' .v σ s with
  | stuck=>rw[hv]at h;exact h
  | exc c s1=>rw[hv]at h;exact fun w1 H1 pins u sh L S T=>h w1 H1 σV pins u sh (g.step L S) (LeS.of L) T
  | ok r s1=>
   rw[hv]at h
   obtain⟨ts,ht,h⟩:=ab7 (show aa5 G X w₀ H₀ w H σ σV (onS r.lst? fun ts=>.next (aaH σ i ts) s1) D from h)
   have er:r=.val (.lst ts):=by
    match r,ht with
    | .val (.lst us),ht=>cases ht;rfl
   subst er
   intro w1 H1 a vs L S ha r hn nz nl
   have h0:H₀ a=none:=by
    cases q:H₀ a with
    | none=>rfl
    | some o=>exact absurd hn (g.ent.some_ a (by rw[q];intro z;cases z))
   have g1:=g.step L S
   have hap:∀(j:Nat) (b:B) (us:List T),σ[j]?=some (some b)→ahY b=some us→σV[j]?≠some (some (.ref a)):=fun j b us e eb q=>by
    obtain⟨a',xs',h1,h2,_⟩:=g.fr.own j b us e eb
    rw[q]at h1
    cases h1
    rw[hn]at h2
    cases h2
   refine h w1 H1 _ ⟨g1.sto,g1.fr.mkO ha r h0 nz nl hap,g1.ent⟩ ⟨L.n,L.io,L.Z,fun p o e nl _=>L.keep p o e nl,L.newL,L.some_,fun p z=>?_,fun k us e=>?_⟩
   ·obtain⟨k,us,e1,e2⟩:=z
    rcases aau e1 with⟨rfl,_,hlt⟩|⟨ne,z⟩
    ·rw[List.getElem?_set_self (by rw[←g.fr.len];exact hlt)]at e2
     cases e2
     exact .inr hn
    ·rw[List.getElem?_set_ne ne]at e2
     exact .inl ⟨k,us,z,e2⟩
   ·rcases aau e with⟨_,z,_⟩|⟨ne,z⟩
    ·cases z
    ·exact⟨⟨us,z⟩,by rw[List.getElem?_set_ne ne]⟩
 ·exact h.elim
theorem ato(hN:X.N.Nodup)(hi:X.N[i]?=some x)(hx:Loc X.env.scope x)(he:PE X e (tO G X C e'))(hs:swapsWith e (some (.Name x pos')) pos.line X.env=pure false)(hf:X.fn x=true∨X.env.scope.names.lookup x=some .local):
  PS X (.Assign [.Name x pos'] e pos) (tS G X C (.mk i e')):=by
 refine PS.imp (akA hN hi hx he hs hf) ?_
 rintro D σV H ⟨w₀,H₀,w,σ,s,g,h⟩
 exact⟨w₀,H₀,w,σ,s,g,atJ g h⟩
theorem afD(hfr:∀σ s r s1,ev C e' .v σ s=.ok r s1→∃ts,r=.val (.lst ts))(he:PS X (.Assign [.Name x pos'] e pos) (fun D σV H=>tO G X C e' σV H fun v H1=>D.nx (σV.set i (some v)) H1)):PS X (.Assign [.Name x pos'] e pos) (tS G X C (.asg i e')):=by
 refine PS.imp he ?_
 rintro D σV H ⟨w₀,H₀,w,σ,s,g,h⟩
 refine⟨w₀,H₀,w,σ,s,g,aks (hfr σ s) ((acx g h).imp ?_)⟩
 rintro v H1 ⟨w1,r,s1,L1,S1,R1,g1,h1⟩
 obtain⟨t,ht,h1⟩:=ab7 h1
 cases adF ht
 exact h1 w1 H1 _ (g1.put R1) LeS.put
theorem aok{cpos:Pos}(hN:X.N[i]?=some x)(hv:Vis X.env.scope x)(hd:(x==("__debug__":Str))=false)(hcd:(x==("__classdict__":Str))=false)(he:PE X e (tV G X C e'))(hst:starEach [e] X.env=[(false,eval e X.env)])
  (hline:(p2.endLine==cpos.line)=true) (hbase:attributeBase (.Name x p1) "append" X.env (eval (.Name x p1) X.env)=eval (.Name x p1) X.env)
  (hfew:((backTo cpos (starEach [e] X.env)).all (fun x=>!x.1)&&(backToKw cpos (keywordEach [] X.env)).all (fun x=>x.1.isSome)&&decide ([e].length+([]:List Keyword).length+(if([]:List Keyword).isEmpty then 0 else 1)<30))=true)
  (hs:swapsWith (.Call (.Attribute (.Name x p1) "append" p2) [e] [] cpos) none pos.line X.env=pure false):
  PS X (.Expr (.Call (.Attribute (.Name x p1) "append" p2) [e] [] cpos) pos) (tS G X C (.app i e')):=by
 refine PS.imp (afo (apc PySem.F.plainAttrs_list PySem.F.slot_list_append PySem.F.type_list_append ads (ad8 hN hv hd hcd) (aa9 he aaY hst) hbase hfew hline hst rfl) hs) ?_
 rintro D σV H ⟨w₀,H₀,w,σ,s,g,h⟩
 obtain⟨ts,ho,h⟩:=ab7 (show aa5 G X w₀ H₀ w H σ σV (onS (acd σ i) fun ts=>(ev C e' .v σ s).st σ fun x s1=>onS x.val? fun t=>if ts.length<lim then .next (aaH σ i (ts++[t])) s1 else .stuck) D from h)
 have hi:=aeO ho
 obtain⟨a,vs,h1,h2,h3,h4,h5,h6⟩:=g.fr.own i _ ts hi rfl
 refine⟨.ref a,h1,.inl ⟨rfl,vs,SqL.of h2⟩,w₀,H₀,w,σ,s,g,(acx g h).imp ?_⟩
 rintro v H1 ⟨w1,r,s1,L1,S1,R1,g1,q1⟩
 obtain⟨t,ht,q1⟩:=ab7 q1
 cases adF ht
 split at q1
 ·rename_i hlim
  have ha1:=L1.keep a _ h2 h6
  have r1:=aam.mono L1 g.sto ts vs h3
  refine⟨a,vs,v,rfl,rfl,ha1,by rw[←h3.length];have:=agx;omega,?_⟩
  obtain⟨g2,l2⟩:=g1.chg hi h1 ha1 (r1.append (show aam G w1 H1 [t] [v]from⟨v,[],rfl,R1,rfl⟩))
  exact q1 w1 _ σV g2 l2
 ·exact q1.elim
theorem aov(hN:X.N[i]?=some x)(hv:Vis X.env.scope x)(hd:(x==("__debug__":Str))=false)(hcd:(x==("__classdict__":Str))=false)(he:PE X e (tV G X C e'))(hj:PE X j (tV G X C j'))
  (hs:swapsWithSole [.Subscript (.Name x p1) j p2] e pos.line X.env=pure false) (hw:swappedStores [.Subscript (.Name x p1) j p2] e X.env=pure none) (h1:(assignEach [.Subscript (.Name x p1) j p2] X.env).map (·.2)=[assign (.Subscript (.Name x p1) j p2) X.env])
  (ha:∀v,assign (.Subscript (.Name x p1) j p2) X.env v=(do
   let ov ←holding [v] (eval (.Name x p1) X.env)
   let iv ←holding [v,ov] (eval j X.env)
   standAt p2
   holding [v,ov,iv] (setItem ov iv v)
   release [v,ov,iv] [])):
  PS X (.Assign [.Subscript (.Name x p1) j p2] e pos) (tS G X C (.put i j' e')):=by
 refine PS.imp (akz he (anz (ad8 hN hv hd hcd) hj ajL ha) hs hw h1) ?_
 rintro D σV H ⟨w₀,H₀,w,σ,s,g,h⟩
 obtain⟨ts,ho,h⟩:=ab7 (show aa5 G X w₀ H₀ w H σ σV (onS (acd σ i) fun ts=>(ev C e' .v σ s).st σ fun x s1=>onS x.val? fun t=>(ev C j' .v σ s1).st σ fun y s2=>onS y.int? fun k=>onS (L2.ixN ts.length k) fun n=>.next (aaH σ i (ts.set n t)) s2) D from h)
 have hi:=aeO ho
 obtain⟨a,vs,h1,h2,h3,h4,h5,h6⟩:=g.fr.own i _ ts hi rfl
 refine⟨w₀,H₀,w,σ,s,g,(acx g h).imp ?_⟩
 rintro v H1 ⟨w1,r,s1,L1,S1,R1,g1,q1⟩
 obtain⟨t,ht,q1⟩:=ab7 q1
 cases adF ht
 have ha1:=L1.keep a _ h2 h6
 have r1:=aam.mono L1 g.sto ts vs h3
 have hl1:=notLoc.mono L1 (by rw[h2];intro z;cases z) h6
 refine⟨.ref a,h1,w₀,H₀,w1,σ,s1,g1,(acx g1 q1).imp ?_⟩
 rintro y H2 ⟨w2,r2,s2,L2,S2,R2,g2,q2⟩
 obtain⟨k,hk,q2⟩:=ab7 q2
 obtain⟨n,hn,q2⟩:=ab7 q2
 cases R2.int hk
 have ha2:=L2.keep a _ ha1 hl1
 have r2:=aam.mono L2 S1 ts vs r1
 refine⟨a,vs,k,n,rfl,rfl,ha2,by rw[←h3.length];exact hn,?_⟩
 obtain⟨g3,l3⟩:=g2.chg hi h1 ha2 (r2.set (Rep.mono L2 S1 t v R1) n)
 exact q2 w2 _ σV g3 l3
theorem Good.frz{s:Sto}(g:Good G w₀ H₀ w H σ s σV)(i:Nat):∃w',Good G w₀ H₀ w' H (frz σ i) s σV∧LeS w w' H H σ (frz σ i) σV σV:=by
 unfold IP.frz
 split
 ·rename_i ts hi
  obtain⟨a,vs,h1,h2,h3,h4,h5,h6⟩:=g.fr.own i _ ts hi rfl
  have zm:=fun(t:T) (v:V) (h:Rep G w H t v)=>Rep.zmono (w:=w) (w':=w.addZ a) rfl rfl (fun _ z=>.inl z) t v h
  have zms:=fun(t:List T) (v:List V) (h:aam G w H t v)=>aam.zmono (w:=w) (w':=w.addZ a) rfl rfl (fun _ z=>.inl z) t v h
  refine⟨w.addZ a,⟨g.sto.addZ h2 h6,⟨by simp[g.fr.len],fun j t e=>?_,fun j b us e eb=>?_,fun j k b c us us' p hjk e1 eb e2 ec=>?_,fun j us e=>?_⟩,g.ent.addZ h4⟩,Nat.le_refl _,fun _ _=>rfl,fun _ z=>.inl z,fun _ _ e _ _=>e,fun l a b=>absurd (Nat.lt_of_lt_of_le b a) (Nat.lt_irrefl _),fun _ z=>z,fun p z=>.inl ?_,fun j us e=>?_⟩
  ·rcases aau e with⟨rfl,z,_⟩|⟨ne,z⟩
   ·cases z
    exact⟨.ref a,h1,a,vs,rfl,.inr rfl,.inl h2,zms _ _ h3⟩
   ·obtain⟨v,q1,q2⟩:=g.fr.val j t z
    exact⟨v,q1,zm t v q2⟩
  ·rcases aau e with⟨_,z,_⟩|⟨ne,z⟩
   ·cases z;cases eb
   ·obtain⟨p,us',q1,q2,q3,q4,q5,q6⟩:=g.fr.own j b us z eb
    refine⟨p,us',q1,q2,zms _ _ q3,q4,fun y=>y.elim q5 fun y=>?_,q6⟩
    subst y
    exact g.fr.apart i j _ b ts us p ne hi rfl z eb h1 q1
  ·rcases aau e1 with⟨_,z,_⟩|⟨ne,z⟩
   ·cases z;cases eb
   ·rcases aau e2 with⟨_,z',_⟩|⟨ne',z'⟩
    ·cases z';cases ec
    ·exact g.fr.apart j k b c us us' p hjk z eb z' ec
  ·rcases aau e with⟨_,z,_⟩|⟨ne,z⟩
   ·cases z
   ·obtain⟨p,us',q1,q2,q3,q4⟩:=g.fr.bor j us z
    exact⟨p,us',q1,q2,zms _ _ q3,q4⟩
  ·obtain⟨j,us,e1,e2⟩:=z
   rcases aau e1 with⟨_,z,_⟩|⟨ne,z⟩
   ·cases z
   ·exact⟨j,us,z,e2⟩
  ·rcases aau e with⟨_,z,_⟩|⟨ne,z⟩
   ·cases z
   ·exact⟨⟨us,z⟩,rfl⟩
 ·exact⟨w,g,LeS.refl⟩
theorem alD{aaB:List Stmt}{as:List S}(h:PSs X aaB (tSs G X C as)):PSs X aaB (tSs G X C (.frz i::as)):=by
 refine PSs.imp h ?_
 rintro D σV H ⟨w₀,H₀,w,σ,s,g,h⟩
 obtain⟨w',g',l'⟩:=g.frz i
 exact⟨w₀,H₀,w',IP.frz σ i,s,g',aa5.mono l' h⟩
end
section
variable{G:Gx}{X:Cx}{C:Cf}{w w' w₀:Wo}{H H' H₀:Hp}{σ σ':Fr}{σV σV':St}{pos:Pos}
noncomputable def ada(σ:Fr)(σV:St):Src→Prop
 | .l a _=>¬Own σ σV a
 | _=>True
theorem aaV.monoS{z:Bool}{s:Sto}(L:LeS w w' H H' σ σ' σV σV')(S:StoOk G w H s)(F:FrOk G w H H₀ σ σV):∀{src:Src}{ts:List T},ada σ σV src→aaV G w H z src ts→aaV G w' H' z src ts∧ada σ' σV' src
 | .l a vs,ts,nf,⟨h1,h2,h3,h4⟩=>by
  have hs:=Rd.some h1
  refine⟨⟨?_,aam.kp (L.kp S F) ts vs h2,L.notLoc hs h3,fun q=>L.Z a (h4 q)⟩,fun z=>?_⟩
  ·rcases h1 with h1|⟨o,h1⟩
   ·exact .inl (L.keep _ _ h1 h3 nf)
   ·exact .inr ⟨o,L.keep _ _ h1 h3 nf⟩
  ·rcases L.own a z with z|z
   ·exact nf z
   ·exact hs z
 | .t a vs,ts,_,⟨h1,h2⟩=>⟨⟨(L.kp S F).t _ _ h1,aam.kp (L.kp S F) ts vs h2⟩,True.intro⟩
 | .r lo n,ts,_,h=>⟨h,True.intro⟩
theorem abM{tg:Expr}{g:Tg}{b:List Stmt}{b':List S}{D:Ends}{src:Src}{ts:List T}{s:Sto}{K:PySem.W.Frag}{z:Bool}(gd:Good G w₀ H₀ w H σ s σV)(SO:aaV G w H z src ts)(SF:ada σ σV src)
  (h:aa5 G X w₀ H₀ w H σ σV (aaX g (fun σ s=>exs C b' σ s) ts σ s) D):
  ∃W:Nat→Nat→St→Hp→Prop,(∃m,W 0 m σV H)∧∀i m σV H,W i m σV H→
   ((ahr K src).stop i H∧D.nx σV H)∨((ahr K src).go i H∧∃N:St→Hp→Prop,(∀σ' H',N σ' H'→∃m',m'<m∧W (i+1) m' σ' H')∧∀x H',(ahr K src).yld i H x H'→gTg G g x σV H' fun σ2 H2=>tSs G X C b' { D with nx:=N,ct:=N,bk:=D.nx } σ2 H2):=by
 refine⟨fun i m σV1 H1=>∃w1 σ1 s1,m=ts.length-i∧i≤ts.length∧Good G w₀ H₀ w1 H1 σ1 s1 σV1∧aaV G w1 H1 z src ts∧ada σ1 σV1 src∧aa5 G X w₀ H₀ w1 H1 σ1 σV1 (aaX g (fun σ s=>exs C b' σ s) (ts.drop i) σ1 s1) D,
  ⟨ts.length,w,σ,s,rfl,Nat.zero_le _,gd,SO,SF,h⟩,?_⟩
 rintro i m σV1 H1 ⟨w1,σ1,s1,hm,hi,g1,SO1,SF1,h1⟩
 by_cases hlt:i<ts.length
 ·refine .inr ?_
  have et:ts[i]?=some ts[i]:=List.getElem?_eq_getElem hlt
  have ed:ts.drop i=ts[i]::ts.drop (i+1):=List.drop_eq_getElem_cons hlt
  rw[ed]at h1
  obtain⟨σ2,hb,h1⟩:=ab7 (show aa5 G X w₀ H₀ w1 H1 σ1 σV1 (onS (aap σ1 g ts[i]) fun σ'=>(exs C b' σ' s1).bind fun σ2 s2=>aaX g (fun σ s=>exs C b' σ s) (ts.drop (i+1)) σ2 s2) D from h1)
  obtain⟨go,yld⟩:=SO1.go (K:=K) et
  refine⟨go,fun σV3 H3=>∃w3 σ3 s3,Good G w₀ H₀ w3 H3 σ3 s3 σV3∧aaV G w3 H3 z src ts∧ada σ3 σV3 src∧aa5 G X w₀ H₀ w3 H3 σ3 σV3 (aaX g (fun σ s=>exs C b' σ s) (ts.drop (i+1)) σ3 s3) D,fun σV3 H3 ⟨w3,σ3,s3,q1,q2,q3,q4⟩=>⟨ts.length-(i+1),by omega,w3,σ3,s3,rfl,hlt,q1,q2,q3,q4⟩,fun x H' hy=>?_⟩
  have rx:=(yld x H' hy).2
  obtain rfl:H1=H':=(yld x H' hy).1.symm
  refine⟨w1,s1,ts[i],σ1,σ2,g1.sto,rx,hb,fun vs hfr hl=>?_⟩
  have g2:Good G w₀ H₀ w1 H1 σ2 s1 (abw σV1 (slots g) vs):=⟨g1.sto,hfr H₀ σV1 g1.fr,g1.ent⟩
  have l2:LeS w1 w1 H1 H1 σ1 σ2 σV1 (abw σV1 (slots g) vs):=by
   cases g with
   | one k=>
    cases hb
    match vs,hl with
    | [v],_=>exact LeS.put
   | many ks=>
    have hb':∃us,puts σ1 ks us=some σ2:=by
     match hts:ts[i],hb with
     | .tup us,hb=>exact⟨us,hb⟩
     | .lst us,hb=>exact⟨us,hb⟩
     | .non,hb=>cases hb
     | .bl _,hb=>cases hb
     | .int _,hb=>cases hb
     | .str _,hb=>cases hb
     | .loc _,hb=>cases hb
     | .exc _,hb=>cases hb
    obtain⟨us,hb⟩:=hb'
    have go:∀(ks:List Nat) (us:List T) (vs:List V) (σ1:Fr) (σV1:St),puts σ1 ks us=some σ2→vs.length=ks.length→LeS w1 w1 H1 H1 σ1 σ2 σV1 (abw σV1 ks vs):=by
     intro ks
     induction ks with
     | nil=>
      intro us vs σ1 σV1 hp hl
      cases us with
      | nil=>cases hp;cases vs<;>exact LeS.refl
      | cons u us=>cases hp
     | cons k ks ih=>
      intro us vs σ1 σV1 hp hl
      cases us with
      | nil=>cases hp
      | cons u us=>
       cases vs with
       | nil=>simp at hl
       | cons v vs=>exact LeS.trans (LeS.put (v:=v)) (ih us vs (put σ1 k u) (σV1.set k (some v)) hp (by simpa using hl))
    exact go ks us vs σ1 σV1 hb hl
  obtain⟨SO2,SF2⟩:=SO1.monoS l2 g1.sto g1.fr SF1
  refine⟨w₀,H₀,w1,σ2,s1,g2,?_⟩
  cases hx:exs C b' σ2 s1 with
  | stuck=>rw[hx]at h1;exact h1
  | ret r s3=>rw[hx]at h1;exact h1
  | retO ts s3=>rw[hx]at h1;exact h1
  | exc d σ3 s3=>rw[hx]at h1;exact fun w3 H3 σV3 pins u sh g3 L3 T=>h1 w3 H3 σV3 pins u sh g3 (l2.trans L3) T
  | next σ3 s3=>
   rw[hx]at h1
   intro w3 H3 σV3 g3 L3
   obtain⟨SO3,SF3⟩:=SO2.monoS L3 g2.sto g2.fr SF2
   exact⟨w3,σ3,s3,g3,SO3,SF3,aa5.mono (l2.trans L3) h1⟩
 ·have ei:i=ts.length:=by omega
  subst ei
  rw[List.drop_length]at h1
  exact .inl ⟨SO1.stop,h1 w1 H1 σV1 g1 LeS.refl⟩
theorem acb{i j:Nat}{b:B}(h:(lock σ i)[j]?=some (some b)):(σ[j]?=some (some b)∧(i=j→∀ts,b≠.own ts))∨(i=j∧∃ts,b=.lck ts∧σ[i]?=some (some (.own ts))):=by
 unfold lock at h
 split at h
 ·rename_i ts e
  rcases aau h with⟨rfl,z,_⟩|⟨ne,z⟩
  ·exact .inr ⟨rfl,ts,by cases z;rfl,e⟩
  ·exact .inl ⟨z,fun q=>absurd q ne⟩
 ·rename_i hn
  refine .inl ⟨h,fun q ts z=>?_⟩
  subst q z
  exact hn ts h
theorem acv{i j:Nat}{b:B}(h:(unlock σ i)[j]?=some (some b)):σ[j]?=some (some b)∨(i=j∧∃ts,b=.own ts∧σ[i]?=some (some (.lck ts))):=by
 unfold unlock at h
 split at h
 ·rename_i ts e
  rcases aau h with⟨rfl,z,_⟩|⟨ne,z⟩
  ·exact .inr ⟨rfl,ts,by cases z;rfl,e⟩
  ·exact .inl z
 ·exact .inl h
theorem ajk(σ:Fr)(i:Nat):(lock σ i).length=σ.length:=by unfold lock;split<;>simp
theorem agP(σ:Fr)(i:Nat):(unlock σ i).length=σ.length:=by unfold unlock;split<;>simp
theorem FrOk.relock(F:FrOk G w H H₀ σ σV)(hl:σ'.length=σ.length)(hr:∀(j:Nat) (b:B),σ'[j]?=some (some b)→σ[j]?=some (some b)∨∃b' ts,σ[j]?=some (some b')∧ahY b=some ts∧ahY b'=some ts):FrOk G w H H₀ σ' σV where
 len:=hl.trans F.len
 val:=fun j t e=>by
  rcases hr j _ e with z|⟨b',ts,_,z,_⟩
  ·exact F.val j t z
  ·cases z
 own:=fun j b ts e eb=>by
  rcases hr j _ e with z|⟨b',us,z1,z2,z3⟩
  ·exact F.own j b ts z eb
  ·rw[eb]at z2
   cases z2
   exact F.own j b' ts z1 z3
 apart:=fun j k b c ts us a hjk e1 eb e2 ec e3 e4=>by
  have old:∀{j:Nat}{b:B}{ts:List T},σ'[j]?=some (some b)→ahY b=some ts→∃b',σ[j]?=some (some b')∧ahY b'=some ts:=fun {j b ts} e eb=>by
   rcases hr j _ e with z|⟨b',us,z1,z2,z3⟩
   ·exact⟨b,z,eb⟩
   ·rw[eb]at z2
    cases z2
    exact⟨b',z1,z3⟩
  obtain⟨b',y1,y2⟩:=old e1 eb
  obtain⟨c',y3,y4⟩:=old e2 ec
  exact F.apart j k b' c' ts us a hjk y1 y2 y3 y4 e3 e4
 bor:=fun j ts e=>by
  rcases hr j _ e with z|⟨b',us,_,z,_⟩
  ·exact F.bor j ts z
  ·cases z
theorem Good.lock{s:Sto}(g:Good G w₀ H₀ w H σ s σV)(i:Nat):Good G w₀ H₀ w H (lock σ i) s σV:=⟨g.sto,g.fr.relock (ajk σ i) fun j b e=>by
 rcases acb e with⟨z,_⟩|⟨rfl,ts,rfl,z⟩
 ·exact .inl z
 ·exact .inr ⟨_,ts,z,rfl,rfl⟩,g.ent⟩
theorem Good.unlock{s:Sto}(g:Good G w₀ H₀ w H σ s σV)(i:Nat):Good G w₀ H₀ w H (unlock σ i) s σV:=⟨g.sto,g.fr.relock (agP σ i) fun j b e=>by
 rcases acv e with z|⟨rfl,ts,rfl,z⟩
 ·exact .inl z
 ·exact .inr ⟨_,ts,z,rfl,rfl⟩,g.ent⟩
theorem LeS.unlock{i:Nat}(hi:abg σ i=true)(L:LeS w w' H H' (lock σ i) σ' σV σV'):LeS w w' H H' σ (unlock σ' i) σV σV' where
 n:=L.n
 io:=L.io
 Z:=L.Z
 keep:=fun a o e nl no=>L.keep a o e nl fun⟨j,ts,e1,e2⟩=>by
  rcases acb e1 with⟨z,_⟩|⟨_,us,z,_⟩
  ·exact no ⟨j,ts,z,e2⟩
  ·cases z
 newL:=L.newL
 some_:=L.some_
 own:=fun a ⟨j,ts,e1,e2⟩=>by
  rcases acv e1 with z|⟨rfl,us,z1,z2⟩
  ·rcases L.own a ⟨j,ts,z,e2⟩with⟨k,us,y1,y2⟩|y
   ·rcases acb y1 with⟨z,_⟩|⟨_,vs,z,_⟩
    ·exact .inl ⟨k,us,z,y2⟩
    ·cases z
   ·exact .inr y
  ·obtain⟨⟨vs,y1⟩,y2⟩:=L.lk i us z2
   unfold abg at hi
   split at hi
   ·rename_i xs ex
    rw[e2]at y2
    exact .inl ⟨i,xs,ex,y2.symm⟩
   ·cases hi
 lk:=fun j ts e=>by
  rcases acv e with z|⟨_,us,z,_⟩
  ·obtain⟨⟨us,y1⟩,y2⟩:=L.lk j ts z
   rcases acb y1 with⟨y,_⟩|⟨rfl,vs,_,y⟩
   ·exact⟨⟨us,y⟩,y2⟩
   ·exfalso
    unfold IP.unlock at e
    split at e
    ·rename_i q
     rcases aau e with⟨_,q2,_⟩|⟨ne,_⟩
     ·cases q2
     ·exact ne rfl
    ·rename_i q
     exact q ts e
  ·cases z
theorem aa5.unlock{i:Nat}{r:SR}{D:Ends}(hi:abg σ i=true)(h:aa5 G X w₀ H₀ w H σ σV (r.unlock i) D):aa5 G X w₀ H₀ w H (lock σ i) σV r D:=by
 cases r with
 | stuck=>exact h
 | ret r s=>exact h
 | retO ts s=>exact h
 | next σ1 s1=>exact fun w' H' σV' g L=>h w' H' σV' (g.unlock i) (L.unlock hi)
 | exc c σ1 s1=>exact fun w' H' σV' pins u sh g L T=>h w' H' σV' pins u sh (g.unlock i) (L.unlock hi) T
theorem ao2{x:R}{ts:List T}(h:x.lst?=some ts):x=.val (.lst ts):=by
 match x,h with
 | .val (.lst us),h=>cases h;rfl
theorem amV{tg iter:Expr}{it':E}{g:Tg}{b:List Stmt}{b':List S}(hp:PassesOwn (model X.prog X.w) X.A X.env X.xe)(hc:X.calm=true)(hI:PI X tg iter (tI G X C it' .j true))(hg:PG X tg (gTg G g))(hb:PSs X b (tSs G X C b'))
  (hs:∀x,foldedSetIterable iter X.env x=pure x) (hit:∀i,it'≠.var i):PS X (.For tg iter b [] pos) (tS G X C (.for_ g it' b')):=by
 refine PS.imp (ak8 hp hc hI hg hb hs) ?_
 rintro D σV H ⟨w₀,H₀,w,σ,s,gd,h⟩
 have h:aa5 G X w₀ H₀ w H σ σV ((ev C it' .j σ s).st σ fun x s1=>onS x.lst? fun ts=>aaX g (fun σ s=>exs C b' σ s) ts σ s1) D:=by
  cases it'<;>first|exact h|exact absurd rfl (hit _)
 refine⟨w₀,H₀,w,σ,s,gd,?_⟩
 cases he:ev C it' .j σ s with
 | stuck=>rw[he]at h;exact h.elim
 | exc c s1=>rw[he]at h;exact fun w1 H1 pins u sh L S T=>h w1 H1 σV pins u sh (gd.step L S) (LeS.of L) T
 | ok x s1=>
  rw[he]at h
  obtain⟨ts,ht,h⟩:=ab7 (show aa5 G X w₀ H₀ w H σ σV (onS x.lst? fun ts=>aaX g (fun σ s=>exs C b' σ s) ts σ s1) D from h)
  cases ao2 ht
  intro w1 H1 src L S SO
  have g1:=gd.step L S
  refine abM (X:=X) (tg:=tg) (b:=b) (z:=true) (K:=X.K) g1 SO ?_ (aa5.mono (LeS.of L) h)
  cases src with
  | l a vs=>exact g1.fr.notOwnZ (SO.2.2.2 rfl)
  | t a vs=>exact True.intro
  | r lo n=>exact True.intro
theorem akI{tg:Expr}{x:Str}{xp:Pos}{i:Nat}{g:Tg}{b:List Stmt}{b':List S}(hp:PassesOwn (model X.prog X.w) X.A X.env X.xe)(hc:X.calm=true)(hN:X.N[i]?=some x)(hv:Vis X.env.scope x)(hd:(x==("__debug__":Str))=false)(hcd:(x==("__classdict__":Str))=false)
  (hg:PG X tg (gTg G g)) (hb:PSs X b (tSs G X C b')) (hs:∀y,foldedSetIterable (.Name x xp) X.env y=pure y):PS X (.For tg (.Name x xp) b [] pos) (tS G X C (.for_ g (.var i) b')):=by
 refine PS.imp (ak8 hp hc (ak5 (ad8 hN hv hd hcd)) hg hb hs) ?_
 rintro D σV H ⟨w₀,H₀,w,σ,s,gd,h⟩
 have h:aa5 G X w₀ H₀ w H σ σV ((ev C (.var i) .i σ s).st σ fun x s1=>onS x.lst? fun ts=>if abg σ i then(aaX g (fun σ s=>exs C b' σ s) ts (lock σ i) s1).unlock i else aaX g (fun σ s=>exs C b' σ s) ts σ s1) D:=h
 have hev:ev C (.var i) .i σ s=(Res.of (look σ i) s).bind fun x s=>.of (x.sq2.map fun ts=>.val (.lst ts)) s:=rfl
 rw[hev]at h
 cases hl:look σ i with
 | none=>rw[hl]at h;exact h.elim
 | some r=>
  rw[hl]at h
  have h:aa5 G X w₀ H₀ w H σ σV ((Res.of (r.sq2.map fun ts=>.val (.lst ts)) s).st σ fun x s1=>onS x.lst? fun ts=>if abg σ i then(aaX g (fun σ s=>exs C b' σ s) ts (lock σ i) s1).unlock i else aaX g (fun σ s=>exs C b' σ s) ts σ s1) D:=h
  cases hq:r.sq2 with
  | none=>rw[hq]at h;exact h.elim
  | some ts=>
   rw[hq]at h
   have h:aa5 G X w₀ H₀ w H σ σV (if abg σ i then(aaX g (fun σ s=>exs C b' σ s) ts (lock σ i) s).unlock i else aaX g (fun σ s=>exs C b' σ s) ts σ s) D:=h
   unfold look at hl
   split at hl
   ·rename_i t et
    cases hl
    obtain⟨v,e1,e2⟩:=gd.fr.val i t et
    have no:abg σ i=false:=by unfold abg;rw[et]
    rw[no]at h
    match t,hq,e2 with
    | .lst us,hq,⟨a,vs,ev,hz,hr,rp⟩=>
     cases hq
     subst ev
     exact⟨_,e1,a,rfl,.inl ⟨vs,hr,abM (X:=X) (tg:=tg) (b:=b) (z:=false) (src:=.l a vs) (K:=X.K) gd ⟨hr,rp,gd.sto.zLoc hz,fun z=>by cases z⟩ (gd.fr.notOwnZ hz) h⟩⟩
    | .tup us,hq,⟨a,vs,ev,hr,rp⟩=>
     cases hq
     subst ev
     exact⟨_,e1,a,rfl,.inr ⟨vs,hr,abM (X:=X) (tg:=tg) (b:=b) (z:=false) (src:=.t a vs) (K:=X.K) gd ⟨hr,rp⟩ True.intro h⟩⟩
   ·rename_i us et
    cases hl
    cases hq
    obtain⟨a,vs,e1,e2,e3,e4,e5,e6⟩:=gd.fr.own i _ ts et rfl
    have ho:abg σ i=true:=by unfold abg;rw[et]
    rw[ho]at h
    have h:aa5 G X w₀ H₀ w H σ σV ((aaX g (fun σ s=>exs C b' σ s) ts (lock σ i) s).unlock i) D:=h
    refine⟨_,e1,a,rfl,.inl ⟨vs,.inl e2,abM (X:=X) (tg:=tg) (b:=b) (z:=false) (src:=.l a vs) (K:=X.K) (gd.lock i) ⟨.inl e2,e3,e6,fun z=>by cases z⟩ (fun⟨j,qs,y1,y2⟩=>?_) (aa5.unlock ho h)⟩⟩
    rcases acb y1 with⟨z,z'⟩|⟨_,xs,z,_⟩
    ·by_cases hij:i=j
     ·exact z' hij qs rfl
     ·exact gd.fr.apart i j _ _ ts qs a hij et rfl z rfl e1 y2
    ·cases z
   ·rename_i us et
    cases hl
    cases hq
    obtain⟨a,vs,e1,e2,e3,e4,e6⟩:=gd.fr.bor i ts et
    have no:abg σ i=false:=by unfold abg;rw[et]
    rw[no]at h
    refine⟨_,e1,a,rfl,.inl ⟨vs,.inl e2,abM (X:=X) (tg:=tg) (b:=b) (z:=false) (src:=.l a vs) (K:=X.K) gd ⟨.inl e2,e3,e6,fun z=>by cases z⟩ (fun⟨j,qs,y1,y2⟩=>?_) h⟩⟩
    obtain⟨a',xs,q1,_,_,q4,_⟩:=gd.fr.own j _ qs y1 rfl
    rw[y2]at q1
    cases q1
    exact e4 q4
   ·rename_i us et
    cases hl
    cases hq
    obtain⟨a,vs,e1,e2,e3,e4,e5,e6⟩:=gd.fr.own i _ ts et rfl
    have no:abg σ i=false:=by unfold abg;rw[et]
    rw[no]at h
    refine⟨_,e1,a,rfl,.inl ⟨vs,.inl e2,abM (X:=X) (tg:=tg) (b:=b) (z:=false) (src:=.l a vs) (K:=X.K) gd ⟨.inl e2,e3,e6,fun z=>by cases z⟩ (fun⟨j,qs,y1,y2⟩=>?_) h⟩⟩
    by_cases hij:i=j
    ·subst hij;rw[et]at y1;cases y1
    ·exact gd.fr.apart i j _ _ ts qs a hij et rfl y1 rfl e1 y2
   ·cases hl
end
end IP
end
section
namespace IP
open PySem PySem.Spec L2
open PyProof.Rows (subscriptTail)
section
variable{G:Gx}{X:Cx}{C:Cf}{w w' w₀:Wo}{H H' H₀:Hp}{σ σ':Fr}{σV σV':St}{a b e:Expr}{a' b' e':E}{pos p p2:Pos}{Q:VK}{i:Nat}{x:Str}
theorem abd.mono{res:Res R}{w1:Wo}{H1:Hp}(L:Le w w1 H H1)(h:abd G X σV w H res Q):abd G X σV w1 H1 res Q:=by
 match res,h with
 | .stuck,h=>exact h
 | .exc c s,h=>exact fun w' H' pins u sh a b=>h w' H' pins u sh (L.trans a) b
 | .ok (.val (.lst ts)) s,h=>
  intro w' H' a vs L' S ha r hn nz nl
  refine h w' H' a vs (L.trans L') S ha r ?_ nz nl
  cases q:H a with
  | none=>rfl
  | some o=>exact absurd hn (L.some_ a (by rw[q];intro z;cases z))
 | .ok (.val .non) s,h=>exact h
 | .ok (.val (.bl _)) s,h=>exact h
 | .ok (.val (.int _)) s,h=>exact h
 | .ok (.val (.str _)) s,h=>exact h
 | .ok (.val (.tup _)) s,h=>exact h
 | .ok (.val (.loc _)) s,h=>exact h
 | .ok (.val (.exc _)) s,h=>exact h
 | .ok (.bor _) s,h=>exact h
theorem abd.bind{m:Res R}{k:R→Sto→Res R}(h:abd G X σV w H (m.bind k) Q):
  aaJ G X σV w H m fun v H1=>∃w1 r s1,Le w w1 H H1∧StoOk G w1 H1 s1∧abl G w1 H1 r v∧abd G X σV w1 H1 (k r s1) Q:=by
 cases m with
 | stuck=>exact h
 | ok r s=>exact fun w' H' v a b c=>⟨w',r,s,a,b,c,abd.mono a h⟩
 | exc c s=>exact h
theorem abd.of{o:Option R}{s:Sto}(h:abd G X σV w H (Res.of o s) Q):∃ts,o=some (.val (.lst ts))∧∀w' H' a vs,Le w w' H H'→StoOk G w' H' s→H' a=some (.lst vs)→aam G w' H' ts vs→H a=none→¬w'.Z a→notLoc w' a→Q (.ref a) H':=by
 match o,h with
 | none,h=>exact h.elim
 | some (.val (.lst ts)),h=>exact⟨ts,rfl,h⟩
 | some (.val .non),h=>exact h.elim
 | some (.val (.bl _)),h=>exact h.elim
 | some (.val (.int _)),h=>exact h.elim
 | some (.val (.str _)),h=>exact h.elim
 | some (.val (.tup _)),h=>exact h.elim
 | some (.val (.loc _)),h=>exact h.elim
 | some (.val (.exc _)),h=>exact h.elim
 | some (.bor _),h=>exact h.elim
theorem abu(hE:PE X e (tO G X C e'))(hfr:∀σ s r s1,ev C e' .v σ s=.ok r s1→∃ts,r=.val (.lst ts)):PE X e (tV G X C e'):=
 PE.imp hE fun σV H Q ⟨w₀,H₀,w,σ,s,g,h⟩=>⟨w₀,H₀,w,σ,s,g,aks (hfr σ s) h⟩
theorem anV{es:List Expr}{es':List E}(h:PA X es (tA G X C es'))(hz:es'.length≤sizeLine):PE X (.List es pos) (tO G X C (.lst es')):=by
 refine PE.imp (akx h) ?_
 rintro σV H Q ⟨w₀,H₀,w,σ,s,g,h⟩
 have h:abd G X σV w H ((evs C es' σ s).bind fun ts s1=>.ok (.val (.lst ts)) s1) Q:=h
 refine⟨w₀,H₀,w,σ,s,g,?_⟩
 cases hf:evs C es' σ s with
 | stuck=>rw[hf]at h;exact h
 | exc c s2=>rw[hf]at h;exact h
 | ok ts s2=>
  rw[hf]at h
  intro w2 H2 vs L2 S2 R2
  refine⟨by rw[←R2.length,aea C _ _ _ _ _ hf];exact hz,?_⟩
  exact aig S2 R2 (abd.mono L2 h)
noncomputable def r1O(G:Gx)(f:R→Option R):V→Hp→VK→Prop:=fun x H Q=>∃w s rx ts,StoOk G w H s∧acT G w H rx x∧f rx=some (.val (.lst ts))∧∀w' H' a vs,Le w w' H H'→StoOk G w' H' s→H' a=some (.lst vs)→aam G w' H' ts vs→H a=none→¬w'.Z a→notLoc w' a→Q (.ref a) H'
theorem aoK{f:R→Option R}(h:∃w₀ H₀ w σ s,Good G w₀ H₀ w H σ s σV∧abd G X σV w H ((ev C a' .v σ s).bind fun x s1=>.of (f (x.dr s1)) s1) Q):tV G X C a' σV H fun v H1=>r1O G f v H1 Q:=by
 obtain⟨w₀,H₀,w,σ,s,g,h⟩:=h
 refine⟨w₀,H₀,w,σ,s,g,(abd.bind h).imp ?_⟩
 rintro v H1 ⟨w1,r1,s1,L1,S1,R1,h1⟩
 obtain⟨ts,e,q⟩:=abd.of h1
 exact⟨w1,s1,_,ts,S1,R1.dr S1,e,q⟩
theorem al2:aaK X (.type "list") (fun xs H Q=>∃v,xs=[v]∧r1O G (b1R .list) v H Q):=by
 refine aaK.imp acE ?_
 rintro xs H Q ⟨v,rfl,w,s,rx,ts,S,R1,e,q⟩
 obtain⟨us,ht,er⟩:=map_some e
 cases er
 obtain⟨pa,vs,rfl,hp,rp⟩:=acT.sq2 R1 ht
 exact⟨pa,vs,rfl,hp.imp (fun h=>.inl h) (fun h=>SqT.of h),aig S rp q⟩
theorem amf(hg:Gl X "list")(hm:X.mg "list"=none)(ha:PE X a (tV G X C a'))(hs:starEach [a] X.env=[(false,eval a X.env)]):PE X (.Call (.Name "list" p) [a] [] pos) (tO G X C (.b1 .list a')):=by
 refine PE.imp (aeG (al2 (G:=G)) hg hm (by rfl) (aa9 ha aaY hs) (by decide) (by decide) hs rfl) ?_
 rintro σV H Q ⟨w₀,H₀,w,σ,s,g,h⟩
 have h:abd G X σV w H ((ev C a' .v σ s).bind fun x s1=>.of (b1R .list (x.dr s1)) s1) Q:=h
 obtain⟨w₀,H₀,w,σ,s,g,h⟩:=aoK ⟨w₀,H₀,w,σ,s,g,h⟩
 exact⟨w₀,H₀,w,σ,s,g,h.imp fun v H1 q=>⟨v,rfl,q⟩⟩
end
end IP
end
section
namespace IP
open PySem PySem.Spec L2
section
variable{G:Gx}{X:Cx}{C:Cf}{w w' w₀:Wo}{H H' H₀:Hp}{σ σ':Fr}{σV σV':St}{a b e:Expr}{a' b' e':IP.E}{pos p p2:Pos}{Q:VK}{i:Nat}{x:Str}
noncomputable def spG(G:Gx)(cf:Nat→List R→Sto→Res R)(fr:Nat→Bool)(f:Nat):Sp:=fun vs H Q E=>∃w s rs,StoOk G w H s∧abk G w H rs vs∧match cf f rs s with
 | .stuck=>False
 | .ok r s'=>(fr f=false→∀w' H' v,Le w w' H H'→StoOk G w' H' s'→abl G w' H' r v→Q v H')∧
   (fr f=true→∃ts,r=.val (.lst ts)∧∀w' H' a vs,Le w w' H H'→StoOk G w' H' s'→H' a=some (.lst vs)→aam G w' H' ts vs→H a=none→¬w'.Z a→notLoc w' a→Q (.ref a) H')
 | .exc c s'=>∀w' H',Le w w' H H'→StoOk G w' H' s'→E (.ref (G.cA c)) none H'
variable{k fi:Nat}{fa:Addr}{fd:FuncData}{ps:List Str}{e₀:Expr}{es:List Expr}{es':List IP.E}{rs:List R}{vs:List V}
end
section
variable{fs:List Fn}{sub:Nat→Nat→Bool}{k fi:Nat}
variable{G:Gx}{P:Program}{w:World}{K:PySem.W.Frag}{mg:Str→Option Value}{base:Heap}
theorem acf{F:Fn}{rs:List R}{i:Nat}{b:B}(h:(abb F rs)[i]?=some (some b)):∃r,rs[i]?=some r∧ofR r=b:=by
 unfold abb at h
 by_cases hi:i<rs.length
 ·rw[List.getElem?_append_left (by simpa using hi),List.getElem?_map]at h
  cases q:rs[i]? with
  | none=>rw[q]at h;cases h
  | some r=>rw[q]at h;cases h;exact⟨r,rfl,rfl⟩
 ·rw[List.getElem?_append_right (by simpa using hi),List.getElem?_replicate]at h
  split at h<;>cases h
theorem abk.get{wo:Wo}{H:Hp}:∀{rs:List R}{vs:List V}{i:Nat}{r:R},abk G wo H rs vs→rs[i]?=some r→∃v,vs[i]?=some v∧abl G wo H r v
 | [],_,i,t,h,e=>by simp at e
 | t::ts,_,0,u,⟨v,r,e,h,q⟩,z=>by subst e;simp at z;subst z;exact⟨v,rfl,h⟩
 | t::ts,_,i+1,u,⟨v,r,e,h,q⟩,z=>by
  subst e
  obtain⟨x,h1,h2⟩:=abk.get q (i:=i) (r:=u) (by simpa using z)
  exact⟨x,by simpa using h1,h2⟩
theorem ae6{N:List Str}{vs:List V}{i:Nat}{v:V}(h:vs[i]?=some v):(L2.start N vs)[i]?=some (some v):=by
 unfold L2.start
 have hi:=(List.getElem?_eq_some_iff.mp h).1
 rw[List.getElem?_append_left (by simpa using hi),List.getElem?_map,h]
 rfl
theorem agG{wo:Wo}{H:Hp}{s:Sto}{F:Fn}{rs:List R}{vs:List V}{N:List Str}(S:StoOk G wo H s)(R1:abk G wo H rs vs)(hs:F.size=N.length):Good G wo H wo H (abb F rs) s (L2.start N vs):=by
 refine⟨S,⟨?_,fun i t e=>?_,fun i b ts e eb=>?_,fun i j b c ts us a ne e eb=>?_,fun i ts e=>?_⟩,Le.refl _ _⟩
 ·unfold abb L2.start
  rw[List.length_append,List.length_append,List.length_map,List.length_map,List.length_replicate,List.length_replicate,hs,R1.length]
 ·obtain⟨r,hr,q⟩:=acf e
  obtain⟨v,hv,rv⟩:=R1.get hr
  cases r with
  | val u=>cases q;exact⟨v,ae6 hv,rv⟩
  | bor u=>cases q
 ·obtain⟨r,hr,q⟩:=acf e
  cases r<;>subst q<;>cases eb
 ·obtain⟨r,hr,q⟩:=acf e
  cases r<;>subst q<;>cases eb
 ·obtain⟨r,hr,q⟩:=acf e
  obtain⟨v,hv,rv⟩:=R1.get hr
  cases r with
  | val u=>cases q
  | bor u=>
   cases q
   obtain⟨a,xs,e1,e2,e3,e4⟩:=rv
   subst e1
   exact⟨a,xs,ae6 hv,e2,e3,(by rw[e2];intro z;cases z),e4⟩
end
section
variable{G:Gx}{X:Cx}{pins:List (Addr×Obj)}{σV:St}{H:Hp}{c:Nat}{u:Value}{sh:Shared}
theorem agR{s:Shared}(I:Inv X pins σV H s):X.base.StaysIn (PySem.W.hideAll s.heap (frs X.stack)):=fun b o e=>
 aay.mpr ⟨I.bk b o e,fun z=>by have:=(I.stack.mem z).1;rw[e]at this;cases this⟩
theorem afz{s:Shared}(I:Inv X pins σV H s){h':Heap}{e:Addr}{args:List Value}(hm:Heap.MadeExcOf s.heap h' e (.ref (G.cA c)) args):aaS G X pins σV H c (.ref e) { s with heap:=h' }:=
 ⟨e,s.heap,PySem.W.hideAll s.heap (frs X.stack),rfl,I,⟨fun _ _=>aay,fun b o q _=>hm.keeps b o q,fun b o q _=>⟨o.slots,hm.keeps b o q⟩,hm.new⟩,agR I,.inl ⟨args,hm⟩⟩
theorem acC{E E':Value→Shared→Prop}{Q:Unit→Shared→Prop}(hst:afF X)(T:aaS G X pins σV H c u sh)
  (hQ:∀e h B h' t,u=.ref e→Inv X pins σV H { sh with heap:=h }→Flt X.stack h B e h'→X.base.StaysIn B→Heap.FlyingW B X.stack e (.ref (G.cA c)) t h'→Q () { sh with heap:=h' }):
  wpAny (model X.prog X.w) X.A (noteFrame u X.env) (fun _ s2=>wpAny (model X.prog X.w) X.A (setFlight u none) Q E s2) E' sh:=by
 refine ac9 hst T fun e h B h1 t L eu I F sb hh=>?_
 subst eu
 refine wpAny_landsW (s:={ sh with heap:=h1 }) hh fun h2 hfl sm2=>?_
 exact hQ e h B h2 t rfl I (F.next I.stack hfl.1 sm2) sb hfl
theorem adA{M:Model}{A:Around}{E:Value→Shared→Prop}{s:Shared}{env:Env}{u:Value}{Q:Unit→Shared→Prop}(h:wpAny M A (noteFrame u env) (fun _ s2=>wpAny M A (setFlight u none) Q E s2) E s):wpAny M A (leaving env u) Q E s:=by
 unfold leaving
 exact wpAny_bind h
theorem ad7{h B h':Heap}{e:Addr}(I:Inv X pins σV H { sh with heap:=h })(F:Flt X.stack h B e h'):Inv X pins σV H { sh with heap:=h' }:=by
 have nfr:∀b,H b≠none→b∉frs X.stack:=fun b n z=>n (I.stkFree b z)
 have upsl:∀b o,h.get? b=some o→∃sl,h'.get? b=some { o with slots:=sl }:=fun b o q=>by
  by_cases z:b∈frs X.stack
  ·exact F.slot b o q z
  ·exact⟨o.slots,F.keep b o q z⟩
 have ncell:∀{b:Addr}{v:Option Value},h.IsCell b v→h'.IsCell b v:=fun {b v} ⟨o,q,d⟩=>by
  obtain⟨sl,e⟩:=upsl b o q
  exact⟨_,e,d⟩
 have old:∀b o,X.s₀.heap.get? b=some o→b∉X.fs→b∉frs X.stack:=fun b o q n z=>by
  rcases List.mem_cons.mp (I.stkSub b z)with r|r
  ·rw[r]at q
   exact absurd (Heap.lt_size q) (Nat.not_lt.mpr I.ok.above)
  ·exact n r
 refine⟨I.ok,I.os,I.bare,⟨fun b o q n hb hx=>?_,fun b o q n hb hx=>?_,I.base.free,fun b o q hx=>?_,I.base.tups,I.base.frzs,I.base.tbls⟩,?_,fun x c q=>?_,I.free,I.freeC,fun p hp=>?_,fun a o q=>?_,I.len⟩
 ·exact F.keep b o (I.base.keep b o q n hb hx) (old b o q hb)
 ·obtain⟨sl,e1⟩:=I.base.slot b o q n hb hx
  obtain⟨sl',e2⟩:=upsl b _ e1
  exact⟨sl',e2⟩
 ·obtain⟨o',e1⟩:=I.base.there b o q hx
  obtain⟨sl',e2⟩:=upsl b _ e1
  exact⟨_,e2⟩
 ·obtain⟨m,⟨o,es,ep,ho,hd,r⟩,hl⟩:=I.loc
  obtain⟨sl,e1⟩:=upsl _ o ho
  refine⟨m,⟨_,es,ep,e1,hd,r⟩,fun i x v h1 h2 h3=>?_⟩
  obtain⟨w,rv,lk⟩:=hl i x v h1 h2 h3
  refine⟨w,rv,?_⟩
  rcases lk with lk|⟨lk,cc,lc,ic⟩
  ·exact .inl lk
  ·exact .inr ⟨lk,cc,lc,ncell ic⟩
 ·obtain⟨v,ic⟩:=I.cell x c q
  exact⟨v,ncell ic⟩
 ·obtain⟨p1,p2,p3,p4,p5⟩:=I.pin p hp
  refine⟨F.keep p.1 p.2 p1 fun z=>?_,p2,p3,p4,p5⟩
  rcases List.mem_cons.mp (I.stkSub _ z)with r|r
  ·exact p3 r
  ·exact p4 r
 ·refine(I.hok a o q).stay (fun b v hb r=>F.keep b v r (nfr b ?_)) (fun _ r=>r) fun _ _ r=>r
  rcases hb with rfl|hb
  ·rw[q];intro z;cases z
  ·rw[hb];intro z;cases z
end
section
variable{G:Gx}{X:Cx}{C:Cf}{pins:List (Addr×Obj)}{σV:St}{H:Hp}{c:Nat}{u:Value}{sh:Shared}
theorem aj5{P:Program}{w:World}{h:Heap}{L:Addr}(k:HOk P w H h)(n:H L=none):HOk P w H (PySem.W.hideAll h [L]):=fun a o q=>by
 refine(k a o q).stay (fun b v hb r=>aay.mpr ⟨r,fun z=>?_⟩) (fun _ r=>r) fun _ _ r=>r
 have z:b=L:=by simpa using z
 subst z
 rcases hb with rfl|hb
 ·rw[n]at q;cases q
 ·rw[n]at hb;cases hb
theorem ag9{P:Program}{w:World}{K:PySem.W.Frag}{mg:Str→Option Value}{base:Heap}{N:List Str}{qual:Str}{scope:Scope}{f:Addr}{cd:Value}{A:Around}{outer:List Env}{s:Shared}{H₁:Hp}{E:XK}
  (T:aaS G (adw (CXE G P w base) P w K mg base N qual scope f cd A outer s H₁ E) pins σV H c u sh) (hE:E (.ref (G.cA c)) none H):(adw (CXE G P w base) P w K mg base N qual scope f cd A outer s H₁ E).xe u sh:=by
 refine adA (acC (X:=adw (CXE G P w base) P w K mg base N qual scope f cd A outer s H₁ E) ⟨_,_,_,rfl,rfl,rfl⟩ T fun e h B h' t eu I F sb fly=>?_)
 have hL:H s.heap.objs.size=none:=I.free
 have un:=I.base
 obtain⟨f1,f2,⟨_,_,f3⟩,f4⟩:=fly
 have hne:∀b,b<s.heap.objs.size→b∉[s.heap.objs.size]:=fun b hb z=>by
  have:b=s.heap.objs.size:=by simpa using z
  omega
 refine⟨e,_,t,H,PySem.W.hideAll h [s.heap.objs.size],B,eu,I.os,I.bare,⟨fun b o q n hb hx=>?_,fun b o q n hb hx=>?_,un.free,fun b o q hx=>?_,un.tups,un.frzs,un.tbls⟩,aj5 I.hok hL,⟨fun b o=>?_,fun b o q n=>?_,fun b o q n=>?_,?_⟩,sb,⟨f1,f2,f3,f4⟩,hE⟩
 ·exact aay.mpr ⟨un.keep b o q n hb hx,hne b (Heap.lt_size q)⟩
 ·obtain⟨sl,z⟩:=un.slot b o q n hb hx
  exact⟨sl,aay.mpr ⟨z,hne b (Heap.lt_size q)⟩⟩
 ·obtain⟨o',z⟩:=un.there b o q hx
  exact⟨o',aay.mpr ⟨z,hne b (Heap.lt_size q)⟩⟩
 ·rw[F.cov b o,aay]
  have efs:b∈frs (adw (CXE G P w base) P w K mg base N qual scope f cd A outer s H₁ E).stack↔b∈[s.heap.objs.size]∨b∈frs outer:=by
   show b∈s.heap.objs.size::frs outer↔_
   simp
  rw[efs]
  exact⟨fun⟨a,z⟩=>⟨⟨a,fun y=>z (.inl y)⟩,fun y=>z (.inr y)⟩,fun⟨⟨a,y⟩,z⟩=>⟨a,fun y'=>y'.elim y z⟩⟩
 ·obtain⟨a,y⟩:=aay.mp q
  refine F.keep b o a fun z=>?_
  rcases List.mem_cons.mp (show b∈s.heap.objs.size::frs outer from z)with r|r
  ·exact y (by simp[r])
  ·exact n r
 ·obtain⟨a,y⟩:=aay.mp q
  exact F.slot b o a (List.mem_cons_of_mem _ n)
 ·cases q:(PySem.W.hideAll h [s.heap.objs.size]).get? e with
  | none=>rfl
  | some o=>have:=(aay.mp q).1;rw[F.new]at this;cases this
theorem passes_leave{Q:Value→Unit→Shared→Prop}{E₁:Value→Value→Shared→Prop}(hx:X.xe=fun e s=>wpAny (model X.prog X.w) X.A (leaving X.env e) (Q e) (E₁ e) s):PassesOwn (model X.prog X.w) X.A X.env X.xe:=by
 intro e s' h
 rw[hx]at h
 have h2:=wpAny_leaving_again (A':=X.A) (A'':=X.A) (SameStack.refl X.A) (what:="frame.own-activation:exception-without-traceback") (E₂:=X.xe) (E₃:=cameBackBy (model X.prog X.w) X.A X.env X.xe) h
 refine wpAny_mono h2 (fun _ s1 q=>?_) fun _ _ z=>z
 refine wpAny_mono q (fun _ s2 z=>?_) fun _ _ z=>z
 show X.xe e s2
 rw[hx]
 exact z
end
section
variable{G:Gx}{X:Cx}{C:Cf}{w w' w₀:Wo}{H H' H₀:Hp}{σ σ':Fr}{σV σV':St}{a b e:Expr}{a' b' e':IP.E}{pos p p2:Pos}{Q:VK}{i:Nat}{x:Str}
variable{k fi:Nat}{fa:Addr}{fd:FuncData}{ps:List Str}{e₀:Expr}{es:List Expr}{es':List IP.E}{rs:List R}{vs dvs:List V}{ds:List Value}{dts:List T}
theorem ahh{H1:Hp}{w1:Wo}{s1:Sto}(hf:C.fr fi=false)(L1:Le w w1 H H1)(S1:StoOk G w1 H1 s1)(R1:abk G w1 H1 rs vs)(h:aaJ G X σV w H (C.cf fi rs s1) Q):spG G C.cf C.fr fi vs H1 Q (EX G X σV):=by
 refine⟨w1,s1,rs,S1,R1,?_⟩
 have h:=aaJ.mono L1 h
 cases hc:C.cf fi rs s1 with
 | stuck=>rw[hc]at h;exact h
 | ok r s'=>rw[hc]at h;exact⟨fun _=>h,fun z=>by rw[hf]at z;cases z⟩
 | exc c s'=>
  rw[hc]at h
  intro w' H' L S pins u sh hh B a t e I fl sb fly
  exact h w' H' pins u sh L S ⟨a,hh,B,e,I,fl,sb,.inr (.inl ⟨t,fly⟩)⟩
theorem ajQ(hf:C.fr fi=false)(F:FnOk X.prog X.w X.K X.mg X.base (CXE G X.prog X.w X.base) k fa fd ps (spG G C.cf C.fr fi))(hr:Room k X.A)(hg:Gl X x)(hm:X.mg x=some (.ref fa))(hk:PySem.W.keepIn X.K (.ref fa)=true)(hb:abY X.K fd ps ds)(hd:aa1 dvs ds)
  (hdt:dts.mapM aiO=some dvs) (ha:PA X (e₀::es) (tR G X C es')) (hdb:(x==("__debug__":Str))=false) (he:starEach (e₀::es) X.env=(false,eval e₀ X.env)::starEach es X.env) (hpl:(backTo pos (starEach es X.env)).any (·.1)=false):
  PE X (.Call (.Name x p) (e₀::es) [] pos) (tV G X C (.call fi es' dts)):=by
 rintro pins s σV H Q I ⟨w₀,H₀,w,σ,st,g,h⟩
 have h:aaJ G X σV w H ((evr C es' σ st).bind fun rs s1=>C.cf fi (rs++dts.map .val) s1) Q:=h
 refine wpAny_Call_Name_kw (acZ I hg hm ?_ hdb)
 refine PySem.W.callWith_K (h₀:=X.base) I.ok.mod.kin hk (thn (ha pos pins s σV H _ I ⟨w₀,H₀,w,σ,st,g,ad5 h⟩) fun us s1 ⟨vs,H1,I1,r,q⟩=>⟨I1.kIn,?_⟩) he hpl
 obtain⟨w1,rs,st1,L1,S1,R1,h1⟩:=q
 exact afR F hr hb hd I1 r (ahh hf L1 S1 (abp R1 (ack hdt)) h1) (adf I1)
end
structure FunD(K:PySem.W.Frag)(x qual:Str)(st:Stmt)(f:Addr)(fd:FuncData):Prop where
 ex:∃(oc:Value) (od:Option Addr) (dV kV doc pm:Value) (an:Option Addr) (cdv ct:Value) (osl:Array (Option Value)),
  fd=PySem.W.fnOf x qual (abr st) (aaO st) (aad st) dV kV doc pm an cdv ct∧K.lookup f=some ⟨oc,od,.func fd,osl⟩∧PySem.W.codeIn K cdv qual=true
 kp:PySem.W.keepIn K (.ref f)=true
theorem aak{K:PySem.W.Frag}{x qual:Str}{st:Stmt}{f:Addr}{oc:Value}{od an:Option Addr}{osl:Array (Option Value)}{dV kV doc pm cdv ct:Value}(l:K.lookup f=some ⟨oc,od,.func (PySem.W.fnOf x qual (abr st) (aaO st) (aad st) dV kV doc pm an cdv ct),osl⟩)
  (c:PySem.W.codeIn K cdv qual=true) (k:PySem.W.keepIn K (.ref f)=true):FunD K x qual st f (PySem.W.fnOf x qual (abr st) (aaO st) (aad st) dV kV doc pm an cdv ct):=⟨⟨oc,od,dV,kV,doc,pm,an,cdv,ct,osl,rfl,l,c⟩,k⟩
section
variable{fs:List Fn}{sub:Nat→Nat→Bool}{k fi:Nat}
variable{G:Gx}{P:Program}{w:World}{K:PySem.W.Frag}{mg:Str→Option Value}{base:Heap}
theorem afL{CX:CXT}{f:Addr}{fd:FuncData}{ps:List Str}{k:Nat}:FnOk P w K mg base CX k f fd ps (spG G (run true fs sub aaj 0) (afE fs) fi):=
 ⟨fun vs H Q E ⟨_,_,_,_,_,z⟩=>z.elim,fun A outer s H args us vs Q E hr e0 hb hv ⟨_,_,_,_,_,z⟩=>z.elim⟩
@[reducible] noncomputable def cfX (fs:List Fn) (sub:Nat→Nat→Bool) (k:Nat):Cf:=⟨run true fs sub aaj k,sub,afE fs,aaj⟩
theorem ak9{x qual:Str}{st:Stmt}{f:Addr}{fd:FuncData}{N ps:List Str}{F:Fn}(Fu:FunD K x qual st f fd)(S:FnScope N ps (aad st))(hF:fs[fi]?=some F)(hp:F.pars=ps.length)(hs:F.size=N.length)
  (hbody:∀(cdv:Value) (A:Around) (outer:List Env) (s:Shared) (H:Hp) (E:XK),fd.code=cdv→Room (2*k+1) (A.deeper (PyProof.Rows.envOfC qual (aad st) s.heap.objs.size f cdv))→
   PSs (adw (CXE G P w base) P w K mg base N qual (aad st) f cdv A outer s H E) (aaO st) (tSs G (adw (CXE G P w base) P w K mg base N qual (aad st) f cdv A outer s H E) (cfX fs sub k) F.body)):
  FnOk P w K mg base (CXE G P w base) (2*(k+1)) f fd ps (spG G (run true fs sub aaj (k+1)) (afE fs) fi):=by
 have hrun:∀rs s,run true fs sub aaj (k+1) fi rs s=if rs.length=F.pars then aaU true F.fr (exs (cfX fs sub k) F.body (abb F rs) s)else .stuck:=fun rs s=>by
  conv=>lhs;unfold run
  rw[hF]
 have hfr:afE fs fi=F.fr:=by unfold afE;rw[hF]
 obtain⟨oc,od,dV,kV,doc,pm,an,cdv,ct,osl,rfl,lk,hcd⟩:=Fu.ex
 refine ang (k:=2*k+1) lk hcd S (fun vs H Q E h=>?_) fun A outer s H vs Q E hr h=>⟨_,hbody cdv A outer s H E rfl hr,?_⟩
 ·obtain⟨wo,st,rs,S1,R1,h⟩:=h
  rw[hrun]at h
  by_cases hl:rs.length=F.pars
  ·exact R1.length.symm.trans (hl.trans hp)
  ·rw[if_neg hl]at h;exact h.elim
 ·obtain⟨wo,st,rs,S1,R1,h⟩:=h
  rw[hrun]at h
  by_cases hl:rs.length=F.pars
  ·rw[if_pos hl]at h
   refine⟨wo,H,wo,abb F rs,st,agG S1 R1 hs,?_⟩
   rw[hfr]at h
   cases hx:exs (cfX fs sub k) F.body (abb F rs) st with
   | stuck=>rw[hx]at h;exact h.elim
   | next σ' s'=>
    rw[hx]at h
    cases hb:F.fr with
    | true=>rw[hb]at h;exact h.elim
    | false=>rw[hb]at h;exact fun w' H' σV' g L=>h.1 rfl w' H' .non g.ent g.sto rfl
   | ret r s'=>
    rw[hx]at h
    cases hb:F.fr with
    | true=>rw[hb]at h;exact h.elim
    | false=>rw[hb]at h;exact fun w' H' v S R L=>h.1 rfl w' H' v L S R
   | retO ts s'=>
    rw[hx]at h
    cases hb:F.fr with
    | false=>rw[hb]at h;exact h.elim
    | true=>
     rw[hb]at h
     obtain⟨us,e,q⟩:=h.2 rfl
     cases e
     exact fun w' H' a vs S ha r hn nz nl L=>q w' H' a vs L S ha r hn nz nl
   | exc c σ' s'=>
    rw[hx]at h
    exact fun w' H' σV' pins u sh g L T=>ag9 T (h w' H' g.ent g.sto)
  ·rw[if_neg hl]at h;exact h.elim
theorem aoW{x qual:Str}{st:Stmt}{f:Addr}{fd:FuncData}{N ps:List Str}{F:Fn}(Fu:FunD K x qual st f fd)(S:FnScope N ps (aad st))(hF:fs[fi]?=some F)(hp:F.pars=ps.length)(hs:F.size=N.length)
  (hbody:∀(cdv:Value) (A:Around) (outer:List Env) (s:Shared) (H:Hp) (E:XK),Room (2*k+1) (A.deeper (PyProof.Rows.envOfC qual (aad st) s.heap.objs.size f cdv))→
   PSs (adw (CXE G P w base) P w K mg base N qual (aad st) f cdv A outer s H E) (aaO st) (tSs G (adw (CXE G P w base) P w K mg base N qual (aad st) f cdv A outer s H E) (cfX fs sub k) F.body)):
  FnOk P w K mg base (CXE G P w base) (2*(k+1)) f fd ps (spG G (run true fs sub aaj (k+1)) (afE fs) fi):=
 ak9 Fu S hF hp hs fun cdv A outer s H E _ hr=>hbody cdv A outer s H E hr
end
theorem amh{K:PySem.W.Frag}{h:Heap}{Ca:Addr}{bB:List Value}{nid:String}(hK:K.In h)(q:PySem.W.excIn K Ca bB nid=true):
  ∃bm N nm qn bs hdct sn sub ab col dd k0 k1 k2 k3 k5 mN,h.get? Ca=some (excClassObj nm qn Ca N bs bm hdct sn sub ab col dd k0 k1 k2 k3 k5 nid)∧h.Ns N mN∧mN "__init__"=none∧OwnTail h bB bm:=by
 unfold PySem.W.excIn at q
 split at q
 ·rename_i d1 cl sl ho
  split at q
  ·rename_i Cb tl u0 u1 u2 u3 nn u5 em es
   simp only[Bool.and_eq_true,beq_iff_eq,Bool.not_eq_true']at q
   obtain⟨⟨⟨⟨⟨q1,q2⟩,q3⟩,q4⟩,q5⟩,q6⟩:=q
   subst q1 q2
   obtain⟨nm0,bs0,mro0,ns0,qn0,hd0,sn0,aao,ab0,col0,del0⟩:=cl
   dsimp only at em q3 q5 q6
   subst em q3
   have hg:=hK _ _ ho
   have esl:sl=#[u0,u1,u2,u3,some (.builtin nn),u5]:=by
    apply Array.toList_inj.mp
    rw[es]
   subst esl
   exact⟨tl,ns0,nm0,qn0,bs0,hd0,sn0,aao,ab0,col0,d1,u0,u1,u2,u3,u5,_,hg,.of_isNs (PySem.W.isNs_of_in hK q5),PySem.W.nsMap_none_of_in hK q5 q6,PySem.W.tail_of_in hK q4⟩
  ·cases q
 ·cases q
section
variable{G:Gx}{X:Cx}{C:Cf}{w w' w₀:Wo}{H H' H₀:Hp}{σ σ':Fr}{σV σV':St}{c:Nat}{x:Str}{np cpos pos mp:Pos}{m:Str}{j:Nat}
theorem ajh{bB:List Value}{B nid iid:String}(hc:X.calm=true)(hg:Gl X x)(hm:X.mg x=some (.ref (G.cA c)))(hq:PySem.W.excIn X.K (G.cA c) bB nid=true)(FB:ExcBaseFacts B nid iid bB)(hdb:(x==("__debug__":Str))=false)
  (he:starEach [.Constant (.str m) j mp] X.env=[(false,eval (.Constant (.str m) j mp) X.env)]):PS X (.Raise (some (.Call (.Name x np) [.Constant (.str m) j mp] [] cpos)) none pos) (tS G X C (.raise c)):=by
 rintro pins s σV H D I ⟨w₀,H₀,w,σ,st,g,h⟩
 have hx:∀u sh,aaS G X pins σV H c u sh→X.xe u sh:=fun u sh T=>h w H σV pins u sh g LeS.refl T
 obtain⟨tl,N,nm,qn,bs,hdct,sn,sub,ab,col,dd,k0,k1,k2,k3,k5,mN,hC,hN,hni,T⟩:=amh (I.ok.mod.kin) hq
 refine wpAny_Raise_call_subT (C:=G.cA c) (nm:=nm) (q:=qn) (N:=N) (bs:=bs) (bm:=tl) (hdct:=hdct) (sn:=sn) (sub:=sub) (ab:=ab) (col:=col) (dd:=dd) (k0:=k0) (k1:=k1) (k2:=k2) (k3:=k3) (k5:=k5)
  FB (mN:=mN) (T.hasType FB.hasBase) (I.ok.hd hc) (by rw[he];rfl) hni (acZ I hg hm ⟨rfl,?_⟩ hdb)
 have ha:PA X [.Constant (.str m) j mp] (ahu (tC (.str m)) ank):=aa9 aod aaY (by rw[he];rfl)
 have z:=ha cpos pins s σV H (fun vs H1=>vs=[.str m]∧H1=H) I ⟨rfl,rfl⟩
 rw[he]at z ⊢
 refine PySem.Calls.evalArgs_plain (wpAny_mono z (fun vs s₂ h₂=>?_) fun _ _ y=>y)
 obtain⟨ws,H1,I1,rv,rfl,rfl⟩:=h₂
 have hl:=rv.length
 refine⟨rfl,?_,I1.bk _ _ hC,hN.keeps I1.bk,T.keeps I1.bk,fun h' e hmd=>hx _ _ (afz I1 hmd)⟩
 show vs.length≤sizeLine
 rw[←hl]
 show 1≤sizeLine
 decide
end
section
variable{M:Model}{A:Around}{E:Value→Shared→Prop}{s:Shared}{env:Env}
theorem ahE{body orelse:Sem Flow}{h₀:ExceptHandler}{hs:List ExceptHandler}{Q:Flow→Shared→Prop}
  (h:wpAny M A body (fun f s₁=>match f with | .next=>wpAny M A orelse Q E s₁|f=>Q f s₁)
   (fun e s₁=>wpAny M A (leaving env e) (fun _ s₃=>wpAny M A (handleBy e env (h₀::hs)) Q E s₃) E s₁) s):
  wpAny M A (tryStmt false body (h₀::hs) orelse [] env) Q E s:=by
 have e0:tryStmt false body (h₀::hs) orelse [] env=(body.attempt >>= fun r=>match r with
   | .ok .next=>orelse
   | .ok f=>pure f
   | .error e=>leaving env e >>= fun _=>handleBy e env (h₀::hs)):=by
  unfold tryStmt
  simp only[List.isEmpty_nil,if_true,List.isEmpty_cons,Bool.false_and,Bool.false_eq_true,if_false,bind_pure]
  congr 1
  funext r
  cases r with
  | error e=>unfold leaving;simp only[bind_assoc,pure_bind]
  | ok f=>cases f<;>rfl
 rw[e0]
 refine wpAny_bind (wpAny_attempt (wpAny_mono h (fun f s₁ h₁=>?_) fun e s₁ h₁=>?_))
 ·cases f<;>first|exact h₁|exact wpAny_pure h₁
 ·exact wpAny_bind h₁
end
noncomputable def Wo.addL(w:Wo)(a:Addr):Wo:={ n:=w.n+1,io:=fun k=>if k=w.n then a else w.io k,Z:=w.Z }
theorem abe{w:Wo}{a:Addr}{l:Nat}(h:l<w.n):(w.addL a).io l=w.io l:=by
 show(if l=w.n then a else w.io l)=w.io l
 rw[if_neg (Nat.ne_of_lt h)]
theorem ab2{w:Wo}{a:Addr}:(w.addL a).io w.n=a:=by
 show(if w.n=w.n then a else w.io w.n)=a
 rw[if_pos rfl]
section
variable{G:Gx}{X:Cx}{C:Cf}{w w' w₀:Wo}{H H' H₀:Hp}{σ σ':Fr}{σV σV':St}{s:Sto}{a:Addr}{l:Nat}
theorem af8:Kp w (w.addL a) H H:=⟨Nat.le_succ _,fun l h=>abe h,fun _ z=>z,fun _ _ _ r=>r,fun _ _ e=>e,fun _ _ e=>e⟩
theorem abo.addL{b:Addr}:∀{c:Cell},abo G w H b c→abo G (w.addL a) H b c
 | .lst ts,⟨vs,h,r⟩=>⟨vs,h,aam.kp af8 ts vs r⟩
 | .ins c fs,⟨dx,kvs,h,z,k⟩=>⟨dx,kvs,h,z,fun i x t h1 h2=>let ⟨v,q1,q2⟩:=k i x t h1 h2;⟨v,q1,Rep.kp af8 t v q2⟩⟩
 | .tbl k p q,h=>h
theorem StoOk.addL{c:Cell}(S:StoOk G w H s)(hc:abo G (w.addL a) H a c)(nz:¬w.Z a)(nl:IP.notLoc w a):StoOk G (w.addL a) H (s++[c])where
 len:=by rw[List.length_append,S.len];rfl
 inj:=fun i j hi hj e=>by
  have hi:i<w.n+1:=hi
  have hj:j<w.n+1:=hj
  by_cases h1:i<w.n
  ·by_cases h2:j<w.n
   ·rw[abe h1,abe h2]at e
    exact S.inj i j h1 h2 e
   ·have:j=w.n:=by omega
    subst this
    rw[abe h1,ab2]at e
    exact absurd e.symm (nl i h1)
  ·have:i=w.n:=by omega
   subst this
   by_cases h2:j<w.n
   ·rw[abe h2,ab2]at e
    exact absurd e (nl j h2)
   ·omega
 nz:=fun i hi z=>by
  have hi:i<w.n+1:=hi
  by_cases h1:i<w.n
  ·rw[abe h1]at z
   exact S.nz i h1 z
  ·have:i=w.n:=by omega
   subst this
   rw[ab2]at z
   exact nz z
 cell:=fun i d e=>by
  by_cases h1:i<w.n
  ·rw[List.getElem?_append_left (by rw[S.len];exact h1)]at e
   rw[abe h1]
   exact abo.addL (S.cell i d e)
  ·have hl:=(List.getElem?_eq_some_iff.mp e).1
   rw[List.length_append,S.len]at hl
   have:i=w.n:=by simp at hl;omega
   subst this
   rw[List.getElem?_append_right (by rw[S.len];exact Nat.le_refl _),S.len,Nat.sub_self]at e
   cases e
   rw[ab2]
   exact hc
 zt:=S.zt
theorem Le.addL(L:Le w w' H H')(ha:H a=none):Le w (w'.addL a) H H' where
 n:=Nat.le_trans L.n (Nat.le_succ _)
 io:=fun i h=>(abe (Nat.lt_of_lt_of_le h L.n)).trans (L.io i h)
 Z:=L.Z
 keep:=L.keep
 newL:=fun i h1 h2=>by
  have h2:i<w'.n+1:=h2
  by_cases h:i<w'.n
  ·rw[abe h]
   exact L.newL i h1 h
  ·have:i=w'.n:=by omega
   subst this
   rw[ab2]
   exact ha
 newZ:=L.newZ
 some_:=L.some_
mutual
theorem Rep.updC{o o':HO}(ha:H a=some o)(hz:¬w.Z a)(ht:∀vs,o≠.tup vs)(hx:∀φ,o≠.ext φ):∀(t:T) (v:V),Rep G w H t v→Rep G w (L2.upd H a o') t v
 | .non,v,h=>h
 | .bl b,v,h=>h
 | .int i,v,h=>h
 | .str x,v,h=>h
 | .tup ts,v,⟨p,vs,e,h,r⟩=>⟨p,vs,e,by rw[aag (fun q=>by rw[q,ha]at h;exact ht vs (Option.some.inj h))];exact h,aam.updC ha hz ht hx ts vs r⟩
 | .lst ts,v,⟨p,vs,e,z,h,r⟩=>by
  have ne:p≠a:=fun q=>hz (q▸z)
  refine⟨p,vs,e,z,?_,aam.updC ha hz ht hx ts vs r⟩
  rcases h with h|⟨o,h⟩
  ·exact .inl (by rw[aag ne];exact h)
  ·exact .inr ⟨o,by rw[aag ne];exact h⟩
 | .loc l,v,h=>h
 | .exc c,v,⟨p,e,h⟩=>⟨p,e,by rw[aag (fun q=>by rw[q,ha]at h;exact hx _ (Option.some.inj h))];exact h⟩
theorem aam.updC{o o':HO}(ha:H a=some o)(hz:¬w.Z a)(ht:∀vs,o≠.tup vs)(hx:∀φ,o≠.ext φ):∀(ts:List T) (vs:List V),aam G w H ts vs→aam G w (L2.upd H a o') ts vs
 | [],vs,h=>h
 | t::ts,vs,⟨v,r,e,h,q⟩=>⟨v,r,e,Rep.updC ha hz ht hx t v h,aam.updC ha hz ht hx ts r q⟩
end
theorem StoOk.setC{o o':HO}{c:Cell}(S:StoOk G w H s)(hl:l<w.n)(ha:H (w.io l)=some o)(ht:∀vs,o≠.tup vs)(hx:∀φ,o≠.ext φ)(hc:abo G w (L2.upd H (w.io l) o') (w.io l) c):StoOk G w (L2.upd H (w.io l) o') (s.set l c)where
 len:=by rw[List.length_set];exact S.len
 inj:=S.inj
 nz:=S.nz
 cell:=fun i d e=>by
  by_cases hi:l=i
  ·subst hi
   rw[List.getElem?_set_self (by rw[S.len];exact hl)]at e
   cases e
   exact hc
  ·rw[List.getElem?_set_ne hi]at e
   have hin:i<w.n:=by rw[←S.len];exact(List.getElem?_eq_some_iff.mp e).1
   have ne:w.io i≠w.io l:=fun q=>hi (S.inj i l hin hl q).symm
   have nz:=S.nz l hl
   have q:=S.cell i d e
   cases d with
   | lst ts=>obtain⟨vs,q1,q2⟩:=q;exact⟨vs,by rw[aag ne];exact q1,aam.updC ha nz ht hx ts vs q2⟩
   | ins c fs=>obtain⟨dx,kvs,q1,q2,q3⟩:=q;exact⟨dx,kvs,by rw[aag ne];exact q1,q2,fun i x t h1 h2=>let ⟨v,z1,z2⟩:=q3 i x t h1 h2;⟨v,z1,Rep.updC ha nz ht hx t v z2⟩⟩
   | tbl k p q'=>obtain⟨q0,ps,q1,q2,q3⟩:=q;exact⟨q0,ps,by rw[aag ne];exact q1,q2,fun cv hcv=>let ⟨c,e1,e2⟩:=q3 cv hcv;⟨c,e1,by rw[aag (aiU e2 ha (fun z=>hx _ z.symm))];exact e2⟩⟩
 zt:=fun p z=>by
  obtain⟨vs,r⟩:=S.zt p z
  have ne:p≠w.io l:=fun q=>S.nz l hl (q▸z)
  rcases r with r|⟨o,r⟩
  ·exact⟨vs,.inl (by rw[aag ne];exact r)⟩
  ·exact⟨vs,.inr ⟨o,by rw[aag ne];exact r⟩⟩
theorem Le.setC{o':HO}(L:Le w w' H H')(hl:l<w'.n)(hs:H' (w'.io l)≠none):Le w w' H (L2.upd H' (w'.io l) o')where
 n:=L.n
 io:=L.io
 Z:=L.Z
 keep:=fun p q e nl=>by
  have ne:p≠w'.io l:=fun z=>by
   by_cases h:l<w.n
   ·exact nl l h (z.trans (L.io l h))
   ·have:=L.newL l (Nat.le_of_not_lt h) hl
    rw[←z,e]at this
    cases this
  rw[aag ne]
  exact L.keep p q e nl
 newL:=L.newL
 newZ:=L.newZ
 some_:=fun p z=>by
  by_cases e:p=w'.io l
  ·rw[e,aaq];intro q;cases q
  ·rw[aag e];exact L.some_ p z
theorem Good.setC{o o':HO}{c:Cell}(g:Good G w₀ H₀ w H σ s σV)(hl:l<w.n)(ha:H (w.io l)=some o)(ht:∀vs,o≠.tup vs)(hx:∀φ,o≠.ext φ)(hc:abo G w (L2.upd H (w.io l) o') (w.io l) c):
  Good G w₀ H₀ w (L2.upd H (w.io l) o') σ (s.set l c) σV∧LeS w w H (L2.upd H (w.io l) o') σ σ σV σV:=by
 have nz:=g.sto.nz l hl
 have hn:H (w.io l)≠none:=by rw[ha];intro z;cases z
 refine⟨⟨g.sto.setC hl ha ht hx hc,⟨g.fr.len,fun i t e=>?_,fun i b ts e eb=>?_,g.fr.apart,fun i ts e=>?_⟩,g.ent.setC hl hn⟩,LeS.of ((Le.refl w H).setC hl hn)⟩
 ·obtain⟨v,h1,h2⟩:=g.fr.val i t e
  exact⟨v,h1,Rep.updC ha nz ht hx t v h2⟩
 ·obtain⟨p,vs,h1,h2,h3,h4,h5,h6⟩:=g.fr.own i b ts e eb
  exact⟨p,vs,h1,by rw[aag (h6 l hl)];exact h2,aam.updC ha nz ht hx ts vs h3,h4,h5,h6⟩
 ·obtain⟨p,vs,h1,h2,h3,h4,h6⟩:=g.fr.bor i ts e
  exact⟨p,vs,h1,by rw[aag (h6 l hl)];exact h2,aam.updC ha nz ht hx ts vs h3,h4,h6⟩
theorem ah0{r:R}{v:V}{p:Nat×List T}(S:StoOk G w H s)(R1:abl G w H r v)(h:r.locL s=some p):r=.val (.loc p.1)∧v=.ref (w.io p.1)∧p.1<w.n∧∃vs,H (w.io p.1)=some (.lst vs)∧aam G w H p.2 vs:=by
 unfold R.locL at h
 split at h
 ·rename_i l
  split at h
  ·rename_i ts q
   cases h
   obtain⟨hl,e⟩:=R1
   obtain⟨vs,h1,h2⟩:=S.cell l _ q
   exact⟨rfl,e,hl,vs,h1,h2⟩
  ·cases h
 ·cases h
theorem ai1{r:R}{v:V}{c:Nat}{p:Nat×List (Option T)}(S:StoOk G w H s)(R1:abl G w H r v)(h:r.locI s c=some p):r=.val (.loc p.1)∧v=.ref (w.io p.1)∧p.1<w.n∧s[p.1]?=some (.ins c p.2)∧abo G w H (w.io p.1) (.ins c p.2):=by
 unfold R.locI at h
 split at h
 ·rename_i l
  split at h
  ·rename_i d fs q
   split at h
   ·rename_i hd
    subst hd
    cases h
    obtain⟨hl,e⟩:=R1
    exact⟨rfl,e,hl,q,S.cell l _ q⟩
   ·cases h
  ·cases h
 ·cases h
end
section
variable{G:Gx}{X:Cx}{C:Cf}{w w' w₀:Wo}{H H' H₀:Hp}{σ σ':Fr}{σV σV':St}{a b e j o:Expr}{a' b' e' j':IP.E}{pos pos' p p1 p2 apos:Pos}{Q:VK}{i c f:Nat}{x m:Str}
variable{k fi:Nat}{fa:Addr}{fd:FuncData}{ps:List Str}{e₀:Expr}{es:List Expr}{es':List IP.E}{rs:List R}{vs dvs:List V}{ds:List Value}{dts:List T}
theorem an4(hc:Cls X.K (G.iA c))(hn:(G.nm c)[f]?=some x)(ha':aaQ X.K (G.iA c) x)(ha:PE X a (tV G X C a'))(hb:attributeBase a x X.env (eval a X.env)=eval a X.env):PE X (.Attribute a x pos) (tV G X C (.fld a' c f)):=by
 refine PE.imp (anm ha hb) ?_
 rintro σV H Q ⟨w₀,H₀,w,σ,s,g,h⟩
 have h:aaJ G X σV w H ((ev C a' .v σ s).bind fun x s1=>.of ((ahB s1 x c f).map .val) s1) Q:=h
 refine⟨w₀,H₀,w,σ,s,g,(aaJ.bind h).imp ?_⟩
 rintro v H1 ⟨w1,r,s1,L1,S1,R1,h1⟩
 obtain⟨r',e,q⟩:=aaJ.of h1
 obtain⟨t,ht,rfl⟩:=map_some e
 unfold ahB at ht
 split at ht
 ·rename_i l
  split at ht
  ·rename_i d fs hq
   split at ht
   ·rename_i hd
    subst hd
    obtain⟨hl,rfl⟩:=R1
    obtain⟨dx,kvs,z1,z2,z3⟩:=S1.cell l _ hq
    have hf:fs[f]?=some (some t):=by
     cases q2:fs[f]? with
     | none=>rw[q2]at ht;cases ht
     | some u=>rw[q2]at ht;exact congrArg some ht
    obtain⟨u,y1,y2⟩:=z3 f x t hn hf
    exact⟨w1.io l,_,dx,kvs,u,rfl,z1,hc,ha',y1,q w1 H1 u (Le.refl _ _) S1 y2⟩
   ·cases ht
  ·cases ht
 ·cases ht
theorem ahI(ha:PE X a (tO G X C a')):PE X a (tV G X C (.cell a')):=by
 refine PE.imp ha ?_
 rintro σV H Q ⟨w₀,H₀,w,σ,s,g,h⟩
 have h:aaJ G X σV w H ((ev C a' .v σ s).bind fun x s1=>onL x fun ts=>.ok (.val (.loc s1.length)) (s1++[.lst ts])) Q:=h
 refine⟨w₀,H₀,w,σ,s,g,?_⟩
 cases he:ev C a' .v σ s with
 | stuck=>rw[he]at h;exact h
 | exc c s1=>rw[he]at h;exact h
 | ok r s1=>
  rw[he]at h
  match r,h with
  | .val (.lst ts),h=>
   intro w1 H1 p vs L S ha r hn nz nl
   refine h (w1.addL p) H1 (.ref p) (L.addL hn) (S.addL ⟨vs,ha,aam.kp af8 ts vs r⟩ nz nl) ⟨?_,?_⟩
   ·rw[S.len];exact Nat.lt_succ_self _
   ·rw[S.len,ab2]
  | .val .non,h=>exact h.elim
  | .val (.bl _),h=>exact h.elim
  | .val (.int _),h=>exact h.elim
  | .val (.str _),h=>exact h.elim
  | .val (.tup _),h=>exact h.elim
  | .val (.loc _),h=>exact h.elim
  | .val (.exc _),h=>exact h.elim
  | .bor _,h=>exact h.elim
theorem aij{kvs:List (Str×V)}{nm:List Str}(k:ap3 nm kvs)(hm:m∉nm):kvs.lookup m=none:=by
 cases q:kvs.lookup m with
 | none=>rfl
 | some v=>exact absurd (k.2 m (List.mem_map.mpr ⟨(m,v),ac2 q,rfl⟩)) hm
theorem asG{α:Type}{o:Option α}{f:α→Res R}(h:aaJ G X σV w H (onO o f) Q):∃a,o=some a∧aaJ G X σV w H (f a) Q:=by
 cases o with
 | none=>exact h.elim
 | some a=>exact⟨a,rfl,h⟩
theorem aeY{r:R}{v:V}(h:abl G w H r v)(h2:abk G w H rs vs):abk G w H (r::rs) (v::vs):=⟨v,vs,rfl,h,h2⟩
theorem ake{pl:Sem Bool}(hf:C.fr fi=false)(hcl:Cls X.K (G.iA c))(hmt:Meth X.K (G.iA c) m fa)(hnm:m∉G.nm c)(F:FnOk X.prog X.w X.K X.mg X.base (CXE G X.prog X.w X.base) k fa fd ps (spG G C.cf C.fr fi))(hr:Room k X.A)(hb:abY X.K fd ps ds)(hd:aa1 dvs ds)(hdt:dts.mapM aiO=some dvs)
  (ho:PE X o (tV G X C a')) (ha:PA X (e₀::es) (tR G X C es')) (hst:starEach (e₀::es) X.env=(false,eval e₀ X.env)::starEach es X.env) (hpl:(backTo pos (starEach es X.env)).any (·.1)=false)
  (ht:eval (.Call (.Attribute o m apos) (e₀::es) [] pos) X.env=(do
   let ov ←eval o X.env
   standAt apos.atName
   let (f,first) ←holding [ov] (getMethod ov m pl)
   callWith pos f first (backTo pos (starEach (e₀::es) X.env)) (backToKw pos (keywordEach [] X.env)))):PE X (.Call (.Attribute o m apos) (e₀::es) [] pos) (tV G X C (.meth a' c fi es' dts)):=by
 rintro pins s σV H Q I ⟨w₀,H₀,w,σ,st,g,h⟩
 have h:aaJ G X σV w H ((ev C a' .v σ st).bind fun x s1=>onO (x.locI s1 c) fun _=>(evr C es' σ s1).bind fun rs s2=>C.cf fi (x::rs++dts.map .val) s2) Q:=h
 refine PySem.W.methodCall_KW (pl:=pl) (thn (ho pins s σV H _ I ⟨w₀,H₀,w,σ,st,g,aaJ.bind h⟩) fun u s1 ⟨xv,H1,I1,rx,q⟩=>?_) ht
 obtain⟨w1,r,st1,L1,S1,R1,h1⟩:=q
 obtain⟨pp,hp,h1⟩:=asG h1
 obtain⟨er,ev',hl,hs,dx,kvs,z1,z2,z3⟩:=ai1 S1 R1 hp
 subst ev'
 cases rx
 refine agV I1 z1 hcl hmt (aij z2 hnm) ?_
 refine PySem.W.callWith_K (first:=[.ref (w1.io pp.1)]) (h₀:=X.base) I.ok.mod.kin hmt.kp (thn (ha pos pins s1 σV H1 _ I1 ⟨w₀,H₀,w1,σ,st1,g.step L1 S1,ad5 h1⟩) fun us s2 ⟨vs,H2,I2,rv,q2⟩=>⟨I2.kIn,?_⟩) hst hpl
 obtain⟨w2,rs,st2,L2,S2,R2,h2⟩:=q2
 exact afR (us:=.ref (w1.io pp.1)::us) (vs:=.ref (w1.io pp.1)::vs) F hr hb hd I2 (.cons rfl rv) (ahh hf L2 S2 (aeY (R1.mono L2 S1) (abp R2 (ack hdt))) h2) (adf I2)
theorem amm{Ca:Addr}{n:Nat}{s1:Sto}{xx dx:Addr}(S:StoOk G w H s1)(hx:H xx=none)(hdx:H dx=none)(hne:dx≠xx):
  Le w (w.addL xx) H (upd (upd H dx (.own xx)) xx (.ins (G.iA c) dx []))∧StoOk G (w.addL xx) (upd (upd H dx (.own xx)) xx (.ins (G.iA c) dx [])) (s1++[.ins c (List.replicate n none)]):=by
 have L1:Le w w H (upd H dx (.own xx)):=Le.new hdx _
 have hx1:upd H dx (.own xx) xx=none:=by rw[aag hne.symm];exact hx
 have L2:Le w w H (upd (upd H dx (.own xx)) xx (.ins (G.iA c) dx [])):=L1.trans (Le.new hx1 _)
 have S1:=(S.new hdx (.own xx)).new hx1 (.ins (G.iA c) dx [])
 refine⟨L2.addL hx,S1.addL ⟨dx,[],aaq,⟨List.nodup_nil,fun y hy=>by simp at hy⟩,fun i y t h1 h2=>?_⟩ (S.fresh hx).1 (S.fresh hx).2⟩
 rw[List.getElem?_replicate]at h2
 split at h2<;>cases h2
theorem ahZ{CX:CXT}{sp:Sp}{E:XK}{Ca:Addr}{pins:List (Addr×Obj)}{σV:St}{H:Hp}{s:Shared}{us:List Value}(M:Mk X.K Ca fa)(F:FnOk X.prog X.w X.K X.mg X.base CX k fa fd ps sp)(hr:Room (k+1) X.A)(hb:abY X.K fd ps ds)(hd:aa1 dvs ds)
  (I:Inv X pins σV H s) (r:aa1 vs us) (h:∀x dx,H x=none→H dx=none→dx≠x→sp (.ref x::(vs++dvs)) (upd (upd H dx (.own x)) x (.ins Ca dx [])) (fun v H2=>v=.non∧Q (.ref x) H2) E)
  (hx:∀H2 s2 e s',Inv X pins σV H2 s2→CX X.stack H2 s2 E e s'→X.xe e s'):wpAny (model X.prog X.w) X.A (call (.ref Ca) us) (EP X pins σV Q) X.xe s:=by
 have hq:=h (s.heap.objs.size+1) s.heap.objs.size (I.hok.fresh (Nat.le_succ _)) (I.hok.fresh (Nat.le_refl _)) (Nat.ne_of_lt (Nat.lt_succ_self _))
 have I2:=Inv.made (C:=Ca) I
 have r2:aa1 (V.ref (s.heap.objs.size+1)::(vs++dvs)) (Value.ref (s.heap.objs.size+1)::(us++ds)):=.cons rfl (r.append hd)
 have hl:(Value.ref (s.heap.objs.size+1)::us++ds).length=ps.length:=by
  have e:=r2.length
  rw[F.len _ _ _ _ hq]at e
  exact e.symm
 refine wpAny_call (ajj (f:=fa) I.kIn M.makes M.init (beq_iff_eq.mp M.fn) (codeAny_mono (F.run _ X.stack _ _ ⟨Value.ref (s.heap.objs.size+1)::us,[]⟩ (Value.ref (s.heap.objs.size+1)::(us++ds)) _ _ E (hr.make Ca us [])
  (I2.env0.make Ca us []) (hb _ (Value.ref (s.heap.objs.size+1)::us) I2.kIn hl) r2 hq) fun r s' hq'=>?_))
 cases r with
 | error e=>exact hx _ _ e s' I2 hq'
 | ok fl=>
  cases fl with
  | ret u=>
   obtain⟨v,H',I3,rv,ev,q3⟩:=I2.after hq'
   subst ev
   exact⟨rv,⟨V.ref (s.heap.objs.size+1),H',I3,rfl,q3⟩⟩
  | next=>exact False.elim hq'
  | brk=>exact False.elim hq'
  | cont=>exact False.elim hq'
theorem aoz{n:Nat}{st:Sto}{σV:St}(hf:C.fr fi=false)(hdt:dts.mapM aiO=some dvs)(S:StoOk G w H st)(R1:abk G w H rs vs)(h:aaJ G X σV w H ((C.cf fi (.val (.loc st.length)::(rs++dts.map .val)) (st++[.ins c (List.replicate n none)])).bind fun r s2=>onN r (.ok (.val (.loc st.length)) s2)) Q)(x dx:Addr)(hx:H x=none)(hdx:H dx=none)(hne:dx≠x):
  spG G C.cf C.fr fi (.ref x::(vs++dvs)) (upd (upd H dx (.own x)) x (.ins (G.iA c) dx [])) (fun v H2=>v=.non∧Q (.ref x) H2) (EX G X σV):=by
 obtain⟨LL,SS⟩:=amm (c:=c) (Ca:=G.iA c) (n:=n) S hx hdx hne
 have hloc:abl G (w.addL x) (upd (upd H dx (.own x)) x (.ins (G.iA c) dx [])) (.val (.loc st.length)) (.ref x):=by
  refine⟨?_,?_⟩
  ·rw[S.len];exact Nat.lt_succ_self _
  ·rw[S.len,ab2]
 refine ahh hf (Le.refl _ _) SS (aeY hloc (abp (R1.mono LL S) (ack hdt))) ((aaJ.bind (aaJ.mono LL h)).imp ?_)
 rintro v H1 ⟨w1,r,s1,L1,S1,R1,h1⟩
 match r,h1 with
 | .val .non,h1=>exact⟨R1,h1 w1 H1 (.ref x) (Le.refl _ _) S1 (hloc.mono L1 SS)⟩
 | .val (.bl _),h1=>exact h1.elim
 | .val (.int _),h1=>exact h1.elim
 | .val (.str _),h1=>exact h1.elim
 | .val (.tup _),h1=>exact h1.elim
 | .val (.lst _),h1=>exact h1.elim
 | .val (.loc _),h1=>exact h1.elim
 | .val (.exc _),h1=>exact h1.elim
 | .bor _,h1=>exact h1.elim
theorem ajg{n:Nat}(hf:C.fr fi=false)(M:Mk X.K (G.iA c) fa)(F:FnOk X.prog X.w X.K X.mg X.base (CXE G X.prog X.w X.base) k fa fd ps (spG G C.cf C.fr fi))(hr:Room (k+1) X.A)(hg:Gl X x)(hm:X.mg x=some (.ref (G.iA c)))(hb:abY X.K fd ps ds)(hd:aa1 dvs ds)(hdt:dts.mapM aiO=some dvs)
  (hdb:(x==("__debug__":Str))=false):PE X (.Call (.Name x p) [] [] pos) (tV G X C (.new c fi n [] dts)):=by
 rintro pins s σV H Q I ⟨w₀,H₀,w,σ,st,g,h⟩
 refine wpAny_Call_Name_kw (acZ I hg hm ?_ hdb)
 exact PySem.W.callWith_K0 I.kIn M.kp (ahZ (us:=[]) (vs:=[]) M F hr hb hd I .nil (aoz (rs:=[]) (vs:=[]) hf hdt g.sto rfl h) fun H2 s2 e s' I2 q=>adf I2 e s' q)
theorem alu{cpos:Pos}(ha:PE X a (tV G X C a'))(he:PE X e (tV G X C e'))(hst:starEach [e] X.env=[(false,eval e X.env)])
  (hline:(p2.endLine==cpos.line)=true) (hbase:attributeBase a "append" X.env (eval a X.env)=eval a X.env)
  (hfew:((backTo cpos (starEach [e] X.env)).all (fun x=>!x.1)&&(backToKw cpos (keywordEach [] X.env)).all (fun x=>x.1.isSome)&&decide ([e].length+([]:List Keyword).length+(if([]:List Keyword).isEmpty then 0 else 1)<30))=true)
  (hs:swapsWith (.Call (.Attribute a "append" p2) [e] [] cpos) none pos.line X.env=pure false):
  PS X (.Expr (.Call (.Attribute a "append" p2) [e] [] cpos) pos) (tS G X C (.appL a' e')):=by
 refine PS.imp (afo (apc PySem.F.plainAttrs_list PySem.F.slot_list_append PySem.F.type_list_append ads ha (aa9 he aaY hst) hbase hfew hline hst rfl) hs) ?_
 rintro D σV H ⟨w₀,H₀,w,σ,s,g,h⟩
 refine⟨w₀,H₀,w,σ,s,g,(acx g h).imp ?_⟩
 rintro o H1 ⟨w1,r,s1,L1,S1,R1,g1,q1⟩
 obtain⟨p0,hp0,q1⟩:=ab7 q1
 obtain⟨er,ev',hl,xs,z1,z2⟩:=ah0 S1 R1 hp0
 subst er ev'
 refine⟨.inl ⟨rfl,xs,SqL.of z1⟩,w₀,H₀,w1,σ,s1,g1,(acx g1 q1).imp ?_⟩
 rintro v H2 ⟨w2,r2,s2,L2,S2,R2,g2,q2⟩
 obtain⟨t,ht,qa⟩:=ab7 q2
 obtain⟨pp,hp,qb⟩:=ab7 qa
 cases adF ht
 obtain⟨er2,ev2,hl2,ys,y1,y2⟩:=ah0 S2 (R1.mono L2 S1) hp
 split at qb
 ·rename_i hlim
  have ea:w1.io p0.1=w2.io pp.1:=by injection ev2
  have e0:p0.1=pp.1:=by injection er2 with e;injection e
  rw[ea]
  refine⟨w2.io pp.1,ys,v,rfl,rfl,y1,by rw[←y2.length];have:=agx;omega,?_⟩
  obtain⟨g4,l4⟩:=g2.setC (o':=.lst (ys++[v])) (c:=.lst (pp.2++[t])) hl2 y1 (by intro _ z;cases z) (by intro _ z;cases z) ⟨_,aaq,aam.updC y1 (S2.nz _ hl2) (by intro _ z;cases z) (by intro _ z;cases z) _ _ (y2.append (show aam G w2 H2 [t] [v]from⟨v,[],rfl,R2,rfl⟩))⟩
  exact qb w2 _ σV g4 l4
 ·exact qb.elim
theorem aeL{α:Type}[DecidableEq α]:∀(l m:List α),l.Nodup→(∀x∈l,x∈m)→l.length≤m.length
 | [],m,_,_=>Nat.zero_le _
 | x::l,m,hn,hs=>by
  obtain⟨h1,h2⟩:=List.nodup_cons.mp hn
  have hx:=hs x List.mem_cons_self
  have:=aeL l (m.erase x) h2 fun y hy=>(List.mem_erase_of_ne (a:=y) (b:=x) (fun e=>h1 (by rw[←e];exact hy))).mpr (hs y (List.mem_cons_of_mem _ hy))
  rw[List.length_erase_of_mem hx]at this
  have hp:0<m.length:=List.length_pos_of_mem hx
  rw[List.length_cons]
  omega
theorem ahg{nm:List Str}{y:V}:∀{kvs:List (Str×V)},ap3 nm kvs→x∈nm→ap3 nm (acu x y kvs)
 | [],_,hx=>⟨by simp[acu],fun z hz=>by simp[acu]at hz;rw[hz];exact hx⟩
 | (g,v)::r,⟨h1,h2⟩,hx=>by
  rw[List.map_cons,List.nodup_cons]at h1
  obtain⟨i1,i2⟩:=ahg (y:=y) (kvs:=r) ⟨h1.2,fun z hz=>h2 z (List.mem_cons_of_mem _ hz)⟩ hx
  rw[show acu x y ((g,v)::r)=(if g=x then(g,y)::r else(g,v)::acu x y r)from rfl]
  split
  ·exact⟨List.nodup_cons.mpr h1,h2⟩
  ·rename_i hg
   refine⟨List.nodup_cons.mpr ⟨fun hz=>?_,i1⟩,fun z hz=>?_⟩
   ·have:g∈r.map (·.1):=by
     have key:∀(q:List (Str×V)),g∈(acu x y q).map (·.1)→g∈q.map (·.1):=by
      intro q
      induction q with
      | nil=>intro hq;simp[acu]at hq;exact absurd hq hg
      | cons u q ih=>
       obtain⟨u1,u2⟩:=u
       intro hq
       rw[show acu x y ((u1,u2)::q)=(if u1=x then(u1,y)::q else(u1,u2)::acu x y q)from rfl]at hq
       split at hq
       ·exact hq
       ·rw[List.map_cons,List.mem_cons]at hq ⊢
        exact hq.imp (fun z=>z) ih
     exact key r hz
    exact h1.1 this
   ·rw[List.map_cons,List.mem_cons]at hz
    rcases hz with rfl|hz
    ·exact h2 _ List.mem_cons_self
    ·exact i2 z hz
theorem alJ(hcl:Cls X.K (G.iA c))(hn:(G.nm c)[f]?=some x)(hnd:(G.nm c).Nodup)(hlen:(G.nm c).length≤100)(hna:aaQ X.K (G.iA c) x)(ha:PE X o (tV G X C a'))(he:PE X e (tV G X C e'))
  (hs:swapsWith e (some (.Attribute o x pos')) pos.line X.env=pure false):PS X (.Assign [.Attribute o x pos'] e pos) (tS G X C (.setF a' c f e')):=by
 refine PS.imp (amD ha he hs) ?_
 rintro D σV H ⟨w₀,H₀,w,σ,s,g,h⟩
 refine⟨w₀,H₀,w,σ,s,g,(acx g h).imp ?_⟩
 rintro v H1 ⟨w1,r,s1,L1,S1,R1,g1,q1⟩
 obtain⟨t,ht,q1⟩:=ab7 q1
 cases adF ht
 refine⟨w₀,H₀,w1,σ,s1,g1,(acx g1 q1).imp ?_⟩
 rintro y H2 ⟨w2,r2,s2,L2,S2,R2,g2,q2⟩
 obtain⟨pp,hp,q2⟩:=ab7 q2
 obtain⟨er,ev',hl,hs2,dx,kvs,z1,z2,z3⟩:=ai1 S2 R2 hp
 subst ev'
 split at q2
 ·rename_i hfl
  have hx:x∈G.nm c:=List.mem_of_getElem? hn
  have rt:Rep G w2 H2 t v:=Rep.mono L2 S1 t v R1
  have nz:=S2.nz _ hl
  refine⟨w2.io pp.1,_,dx,kvs,rfl,z1,hcl,hna,?_,?_⟩
  ·have:=aeL _ _ z2.1 z2.2
   rw[List.length_map]at this
   omega
  ·have acL:abo G w2 (upd H2 (w2.io pp.1) (.ins (G.iA c) dx (acu x v kvs))) (w2.io pp.1) (.ins c (pp.2.set f (some t))):=by
    refine⟨dx,acu x v kvs,aaq,ahg z2 hx,fun i y u h1 h2=>?_⟩
    rw[abV]
    by_cases hi:f=i
    ·subst hi
     rw[hn]at h1
     cases h1
     rw[List.getElem?_set_self hfl]at h2
     cases h2
     exact⟨v,if_pos rfl,Rep.updC z1 nz (by intro _ z;cases z) (by intro _ z;cases z) t v rt⟩
    ·rw[List.getElem?_set_ne hi]at h2
     obtain⟨u',y1,y2⟩:=z3 i y u h1 h2
     have ne:y≠x:=fun e=>hi (acP hnd hn (e▸h1))
     exact⟨u',by rw[if_neg ne];exact y1,Rep.updC z1 nz (by intro _ z;cases z) (by intro _ z;cases z) u u' y2⟩
   obtain⟨g4,l4⟩:=g2.setC (o':=.ins (G.iA c) dx (acu x v kvs)) (c:=.ins c (pp.2.set f (some t))) hl z1 (by intro _ z;cases z) (by intro _ z;cases z) acL
   exact q2 w2 _ σV g4 l4
 ·exact q2.elim
end
end IP
end
section
namespace IP
open PySem PySem.Spec L2
noncomputable abbrev hnd(X:Cx)(e:Addr):Cx:={ X with A:=X.A.mark (some (.ref e)),calm:=false,xe:=fun _ _=>False }
section
variable{G:Gx}{X:Cx}{C:Cf}{pins:List (Addr×Obj)}{σV:St}{H:Hp}{c:Nat}{u:Value}{sh s:Shared}{e:Addr}
theorem apg(ok:X.Ok):(hnd X e).Ok:=
 ⟨ok.mod,ok.kind,ok.glob,ok.blt,ok.above,ok.inj,ok.has,ok.cab,fun z=>(by cases z),ok.frames,ok.stk,ok.exf,ok.bs,ok.bsz,ok.noex,ok.exfs,ok.funs,ok.frf⟩
theorem ahs(I:Inv X pins σV H s):Inv (hnd X e) pins σV H s:=⟨apg I.ok,I.os,I.bare,I.base,I.loc,I.cell,I.free,I.freeC,I.pin,I.hok,I.len⟩
theorem acp(ok:X.Ok)(I:Inv (hnd X e) pins σV H s):Inv X pins σV H s:=⟨ok,I.os,I.bare,I.base,I.loc,I.cell,I.free,I.freeC,I.pin,I.hok,I.len⟩
theorem aeN{P:Program}{w:World}{h:Heap}{a:Addr}{o:HO}(x:abc P w H h a o):∃q,h.get? a=some q:=by
 cases o with
 | lst xs=>obtain⟨_,_,_,_,e⟩:=x;exact⟨_,e⟩
 | tup xs=>obtain⟨_,_,_,ob,e,_⟩:=x;exact⟨_,e⟩
 | dK kvs=>obtain⟨_,_,_,_,o,_,_,e,_⟩:=x;exact⟨_,e⟩
 | dT kvs=>obtain⟨_,_,_,_,o,_,_,e,_⟩:=x;exact⟨_,e⟩
 | set S n=>obtain⟨o,_,_,_,e,_⟩:=x;exact⟨_,e⟩
 | ins C dx fs=>obtain⟨_,_,_,e,_⟩:=x;exact⟨_,e⟩
 | own y=>obtain⟨_,e⟩:=x;exact⟨_,e⟩
 | xd fs=>obtain⟨_,⟨_,_,_,e,_⟩,_⟩:=x;exact⟨_,e⟩
 | rng lo hi=>obtain⟨_,_,_,e⟩:=x;exact⟨_,e⟩
 | frz ob v=>obtain⟨e,_⟩:=x;exact⟨_,e⟩
 | tbl ps=>exact⟨_,(show h.get? a=some _ from x)⟩
 | met f y=>exact⟨_,(show h.get? a=some _ from x)⟩
 | ext φ=>obtain⟨_,⟨_,e⟩,_⟩:=x;exact⟨_,e⟩
theorem agE{h B h':Heap}{Ca:Addr}{oe:Obj}(hex:X.ex=[])(I:Inv X pins σV H { sh with heap:=h })(F:Flt X.stack h B e h')(ho:h'.get? e=some oe)(hc:oe.cls=.ref Ca):
  H e=none∧Inv X pins σV (upd H e (.ext (ag0 e Ca))) { sh with heap:=h' }:=by
 have hn:H e=none:=by
  cases q:H e with
  | none=>rfl
  | some o=>obtain⟨z,hz⟩:=aeN (I.hok e o q);rw[F.new]at hz;cases hz
 have J:=ad7 I F
 have new:∀b o,h.get? b=some o→b≠e:=fun b o q z=>by rw[z,F.new]at q;cases q
 have newc:∀{b:Addr}{v:Option Value},h.IsCell b v→b≠e:=fun {b v} ⟨o,q,_⟩=>new b o q
 refine⟨hn,J.ok,J.os,J.bare,⟨J.base.keep,J.base.slot,fun b o q n hx=>?_,J.base.there,fun b xs q=>?_,fun b o v q=>?_,fun b ps q=>?_⟩,J.loc,J.cell,?_,fun x cc q=>?_,fun p hp=>?_,fun a o q=>?_,J.len⟩
 ·obtain⟨o',z⟩:=I.base.there b o q hx
  rw[aag (new b o' z)]
  exact J.base.free b o q n hx
 ·have z:=J.base.tups b xs q
  rw[aag (fun y=>by rw[y,hn]at z;cases z)]
  exact z
 ·have z:=J.base.frzs b o v q
  rw[aag (fun y=>by rw[y,hn]at z;cases z)]
  exact z
 ·obtain⟨m,z⟩:=J.base.tbls b ps q
  exact⟨m,by rw[aag (fun y=>by rw[y,hn]at z;cases z)];exact z⟩
 ·obtain⟨m,⟨o,es,ep,q,_⟩,_⟩:=I.loc
  rw[aag (new _ o q)]
  exact J.free
 ·obtain⟨v,ic⟩:=I.cell x cc q
  rw[aag (newc ic)]
  exact J.freeC x cc q
 ·obtain⟨p1,p2,p3,p4,p5⟩:=J.pin p hp
  refine⟨p1,?_,p3,p4,p5⟩
  rw[aag (new _ _ (I.pin p hp).1)]
  exact p2
 ·by_cases ha:a=e
  ·subst ha
   rw[aaq]at q
   cases q
   exact⟨⟨oe,ho,hc⟩,⟨oe,ho⟩,fun h1 h2 ⟨o,q1,q2⟩ k=>⟨o,k o q1,q2⟩⟩
  ·rw[aag ha]at q
   refine(J.hok a o q).stay (fun _ _ _ r=>r) (fun b r=>?_) fun b xs r=>?_
   ·rw[aag (fun y=>by rw[y,hn]at r;cases r)];exact r
   ·rw[aag (fun y=>by rw[y,hn]at r;cases r)];exact r
theorem aiz{M:Model}{A:Around}{E:Value→Shared→Prop}{i:Nat}{x:Str}{v:V}{Q:Unit→Shared→Prop}(I:Inv X pins σV H s)(hN:X.N.Nodup)(hi:X.N[i]?=some x)(hx:X.env.scope.names.lookup x=some .local)(hv:σV[i]?=some (some v))
  (h:∀s',Inv X pins (σV.set i none) H s'→Q () s'):wpAny M A (unbindName X.env x) Q E s:=by
 obtain⟨m,hn,hl⟩:=id I.loc
 have hcls:(X.env.scope.kind==.class||(X.env.scope.kind==.module&&X.env.locals != X.env.globals))=false:=by rw[I.ok.kind];rfl
 obtain⟨w,rw',lk⟩:=hl i x v hi hv (.inl hx)
 have hm:m x=some w:=by
  rcases lk with⟨_,z⟩|⟨z,_⟩
  ·exact z
  ·have z:X.env.scope.names.lookup x=some .cell∨X.env.scope.names.lookup x=some .free:=z
   rw[hx]at z
   rcases z with z|z<;>cases z
 obtain⟨oL,_,_,hoL,_⟩:=id hn
 have hne:∀{b:Addr}{o:Obj},X.s₀.heap.get? b=some o→b≠X.env.locals:=fun q z=>by
  rw[z]at q
  exact absurd (Heap.lt_size q) (Nat.not_lt.mpr I.ok.above)
 refine wpAny_unbindName_local hx hn hm hcls fun h' u' hn' hs=>?_
 refine h _ ⟨I.ok,I.os,I.bare,⟨fun b o q n hb hx=>?_,fun b o q n hb hx=>?_,I.base.free,fun b o q hx=>?_,I.base.tups,I.base.frzs,I.base.tbls⟩,⟨_,hn',fun j y z e1 e2 e3=>?_⟩,fun y cc q=>?_,I.free,I.freeC,fun p hp=>?_,fun a o q=>?_,?_⟩
 ·exact(hs.2 b (hne q)).trans (I.base.keep b o q n hb hx)
 ·obtain⟨sl,z⟩:=I.base.slot b o q n hb hx
  exact⟨sl,(hs.2 b (hne q)).trans z⟩
 ·obtain⟨o',z⟩:=I.base.there b o q hx
  exact⟨o',(hs.2 b (hne q)).trans z⟩
 ·by_cases hj:i=j
  ·subst hj
   have hlt:i<σV.length:=(List.getElem?_eq_some_iff.mp hv).1
   rw[List.getElem?_set_self hlt]at e2
   cases e2
  ·rw[List.getElem?_set_ne hj]at e2
   obtain⟨w2,r2,q⟩:=hl j y z e1 e2 e3
   refine⟨w2,r2,?_⟩
   have ny:y≠x:=fun e=>hj (acP hN hi (e▸e1))
   rcases q with⟨k,q⟩|⟨k,cc,q,ic⟩
   ·exact .inl ⟨k,(if_neg ny).trans q⟩
   ·exact .inr ⟨k,cc,q,ic.sameBut hs (I.cne y cc q)⟩
 ·obtain⟨w2,ic⟩:=I.cell y cc q
  exact⟨w2,ic.sameBut hs (I.cne y cc q)⟩
 ·obtain⟨p1,p2,p3,p4,p5⟩:=I.pin p hp
  exact⟨(hs.2 p.1 p3).trans p1,p2,p3,p4,p5⟩
 ·refine(I.hok a o q).stay (fun b r hb k=>(hs.2 b ?_).trans k) (fun _ r=>r) fun _ _ r=>r
  rintro rfl
  rcases hb with rfl|hb
  ·rw[I.free]at q;cases q
  ·rw[I.free]at hb;cases hb
 ·rw[List.length_set];exact I.len
end
end IP
end
section
namespace IP
open PySem PySem.Spec L2
noncomputable abbrev agL(X:Cx)(E:Value→Shared→Prop)(pn:List (Addr×Obj)):Cx:={ X with xe:=E,pn:=pn }
section
variable{G:Gx}{X:Cx}{C:Cf}{pins pins':List (Addr×Obj)}{w w' w₀:Wo}{H H' H₀:Hp}{σ σ':Fr}{σV σV':St}{c:Nat}{u:Value}{sh s:Shared}{e:Addr}{E:Value→Shared→Prop}
theorem anW{pn:List (Addr×Obj)}(ok:X.Ok):(agL X E pn).Ok:=
 ⟨ok.mod,ok.kind,ok.glob,ok.blt,ok.above,ok.inj,ok.has,ok.cab,ok.hd,ok.frames,ok.stk,ok.exf,ok.bs,ok.bsz,ok.noex,ok.exfs,ok.funs,ok.frf⟩
theorem ajt{pn:List (Addr×Obj)}(ok:(agL X E pn).Ok):X.Ok:=
 ⟨ok.mod,ok.kind,ok.glob,ok.blt,ok.above,ok.inj,ok.has,ok.cab,ok.hd,ok.frames,ok.stk,ok.exf,ok.bs,ok.bsz,ok.noex,ok.exfs,ok.funs,ok.frf⟩
theorem akR(I:Inv X pins σV H s):Inv (agL X E (X.pn++pins)) [] σV H s:=
 ⟨anW I.ok,I.os,I.bare,I.base,I.loc,I.cell,I.free,I.freeC,fun p hp=>I.pin p (by simpa using hp),I.hok,I.len⟩
theorem abF(I:Inv (agL X E (X.pn++pins)) pins' σV H s):Inv X pins σV H s:=
 ⟨ajt I.ok,I.os,I.bare,I.base,I.loc,I.cell,I.free,I.freeC,fun p hp=>I.pin p (List.mem_append_left _ hp),I.hok,I.len⟩
theorem ajZ{D:Ends}{f:Flow}{s':Shared}(h:SP (agL X E (X.pn++pins)) [] D f s'):SP X pins D f s':=by
 cases f with
 | next=>obtain⟨σ',H',I,q⟩:=h;exact⟨σ',H',abF I,q⟩
 | brk=>obtain⟨σ',H',I,q⟩:=h;exact⟨σ',H',abF I,q⟩
 | cont=>obtain⟨σ',H',I,q⟩:=h;exact⟨σ',H',abF I,q⟩
 | ret u=>obtain⟨v,σ',H',I,r,q⟩:=h;exact⟨v,σ',H',abF I,r,q⟩
theorem akn{D:Ends}{f:Flow}{s':Shared}(ok:X.Ok)(h:SP (hnd X e) pins D f s'):SP X pins D f s':=by
 cases f with
 | next=>obtain⟨σ',H',I,q⟩:=h;exact⟨σ',H',acp ok I,q⟩
 | brk=>obtain⟨σ',H',I,q⟩:=h;exact⟨σ',H',acp ok I,q⟩
 | cont=>obtain⟨σ',H',I,q⟩:=h;exact⟨σ',H',acp ok I,q⟩
 | ret u=>obtain⟨v,σ',H',I,r,q⟩:=h;exact⟨v,σ',H',acp ok I,r,q⟩
theorem aio{r:SR}{D:Ends}(h:aa5 G X w₀ H₀ w H σ σV r.nox D):aa5 G (hnd X e) w₀ H₀ w H σ σV r D:=by
 cases r with
 | stuck=>exact h
 | next σ1 s1=>exact h
 | ret r s1=>exact h
 | retO ts s1=>exact h
 | exc c σ1 s1=>exact h.elim
theorem FrOk.unset{i:Nat}(F:FrOk G w H H₀ σ σV):FrOk G w H H₀ (σ.set i none) (σV.set i none)where
 len:=by simp[F.len]
 val:=fun j t e=>by
  rcases aau e with⟨_,z,_⟩|⟨ne,z⟩
  ·cases z
  ·obtain⟨v,h1,h2⟩:=F.val j t z
   exact⟨v,by rw[List.getElem?_set_ne ne];exact h1,h2⟩
 own:=fun j b ts e eb=>by
  rcases aau e with⟨_,z,_⟩|⟨ne,z⟩
  ·cases z
  ·obtain⟨a,vs,h1,h2⟩:=F.own j b ts z eb
   exact⟨a,vs,by rw[List.getElem?_set_ne ne];exact h1,h2⟩
 apart:=fun j k b c ts us a hjk e1 eb e2 ec e3 e4=>by
  rcases aau e1 with⟨_,z,_⟩|⟨ne,z⟩
  ·cases z
  ·rcases aau e2 with⟨_,z',_⟩|⟨ne',z'⟩
   ·cases z'
   ·rw[List.getElem?_set_ne ne]at e3
    rw[List.getElem?_set_ne ne']at e4
    exact F.apart j k b c ts us a hjk z eb z' ec e3 e4
 bor:=fun j ts e=>by
  rcases aau e with⟨_,z,_⟩|⟨ne,z⟩
  ·cases z
  ·obtain⟨a,vs,h1,h2⟩:=F.bor j ts z
   exact⟨a,vs,by rw[List.getElem?_set_ne ne];exact h1,h2⟩
theorem anP{body suite:List Stmt}{b':List S}{y:Str}{yp hpos pos:Pos}{nm:Option Str}{b₀:Stmt}(hst:X.stack=X.env::X.outer∧X.env.frame=some X.env.locals)(hg:Gl X y)(hm:X.mg y=some (.ref (G.cA c)))(hdb:(y==("__debug__":Str))=false)
  (hmt:∀d,PySem.W.exmOne X.K (.ref (G.cA d)) (.ref (G.cA c))=some (C.sub d c))
  (hbody:∀(E:Value→Shared→Prop) (pn:List (Addr×Obj)),PassesOwn (model X.prog X.w) X.A X.env E→PSs (agL X E pn) body (tSs G (agL X E pn) C b')) {st:Sto}{D:Ends}{k:Nat→Fr→Sto→SR}
  (I:Inv X pins σV H s) (g:Good G w₀ H₀ w H σ st σV)
  (h:aa5 G X w₀ H₀ w H σ σV (match exs C b' σ st with | .exc d σ1 s1=>if C.sub d c then k d σ1 s1 else .exc d σ1 s1|r=>r) D)
  (hk:∀(d:Nat) (σ1:Fr) (s1:Sto) (w1:Wo) (H1:Hp) (σV1:St) (e:Addr) (h B h1:Heap) (t:Value) (sh:Shared),Good G w₀ H₀ w1 H1 σ1 s1 σV1→aa5 G X w₀ H₀ w1 H1 σ1 σV1 (k d σ1 s1) D→Inv X pins σV1 H1 { sh with heap:=h }→Flt X.stack h B e h1→X.base.StaysIn B→Heap.FlyingW B X.stack e (.ref (G.cA d)) t h1→
   codeAny (model X.prog X.w) (X.A.mark (some (.ref e))) (.handlers (.ref e) [.ExceptHandler none nm (b₀::suite) hpos] X.env) (fun r s₂=>match r with
     | .ok f=>(match nm with
      | none=>SP X pins D f s₂
      | some n=>wpAny (model X.prog X.w) X.A (do bindName X.env n .none;unbindBehindTheSuite X.env n hpos) (fun _ s₃=>SP X pins D f s₃) X.xe s₂)
     | .error x=>cameBackBy (model X.prog X.w) X.A X.env X.xe x s₂) { sh with heap:=h1 }):
  wpAny (model X.prog X.w) X.A (exec (.Try body [.ExceptHandler (some (.Name y yp)) nm (b₀::suite) hpos] [] [] pos) X.env) (SP X pins D) X.xe s:=by
 rw[arm_exec_Try]
 refine wpAny_bind (wpAny_standAt (ahE ?_))
 generalize hE2:(fun(u:Value) (s₁:Shared)=>wpAny (model X.prog X.w) X.A (leaving X.env u) (fun _ s₃=>wpAny (model X.prog X.w) X.A (handleBy u X.env [.ExceptHandler (some (.Name y yp)) nm (b₀::suite) hpos]) (SP X pins D) X.xe s₃) X.xe s₁)=E2
 have hp:PassesOwn (model X.prog X.w) X.A X.env E2:=passes_leave (X:=agL X E2 []) (Q:=fun u _ s₃=>wpAny (model X.prog X.w) X.A (handleBy u X.env [.ExceptHandler (some (.Name y yp)) nm (b₀::suite) hpos]) (SP X pins D) X.xe s₃) (E₁:=fun _=>X.xe) hE2.symm
 refine wpAny_mono (hbody E2 (X.pn++pins) hp [] s σV H D (akR I) ⟨w₀,H₀,w,σ,st,g,?_⟩) (fun f s₁ q=>?_) fun u s₁ q=>?_
 ·cases hx:exs C b' σ st with
  | stuck=>rw[hx]at h;exact h
  | next σ1 s1=>rw[hx]at h;exact h
  | ret r s1=>rw[hx]at h;exact h
  | retO ts s1=>rw[hx]at h;exact h
  | exc d σ1 s1=>
   rw[hx]at h
   intro w1 H1 σV1 pins' u sh g1 L1 T
   show E2 u sh
   rw[←hE2]
   refine adA (acC (X:=agL X E2 (X.pn++pins)) ⟨_,_,_,hst.1,hst.2,hst.2⟩ T fun e hh B h1 t eu I1 F sb fly=>?_)
   subst eu
   have J:=abF I1
   have JL:Inv X pins σV1 H1 { sh with heap:=h1 }:=ad7 J F
   obtain⟨ob,hob,hoc⟩:=fly.there
   have LT:PySem.W.Looks (model X.prog X.w) h1 (typeOf (.ref e)) (.ref (G.cA d)):=hoc▸(PySem.W.Looks.ld hob).andThen .now
   refine wpAny_handleBy_cons (codeAny_handlers_test (A:=X.A.mark (some (.ref e))) (acZ (X:=hnd X e) (ahs JL) hg hm ?_ hdb)) (by intro q;cases q)
   refine(PySem.W.exm_one (M:=model X.prog X.w) JL.kIn LT (hmt d)).at ?_
   cases hsb:C.sub d c with
   | true=>
    dsimp only at h
    rw[hsb]at h
    exact hk d σ1 s1 w1 H1 σV1 e hh B h1 t sh g1 (aa5.mono L1 h) J F sb fly
   | false=>
    dsimp only at h
    rw[hsb]at h
    have h:aa5 G X w₀ H₀ w H σ σV (.exc d σ1 s1) D:=h
    show wpAny _ _ (handleBy (.ref e) X.env []) _ _ _
    refine wpAny_handleBy_nil ?_
    obtain⟨f1,f2,f3,oe,vs,Tb,oT,ts,he,hcl,hd,hv,hnT,hTe,hT,hdT,h3⟩:=id fly
    unfold passOn
    refine wpAny_bind (wpAny_field he hd hv ?_)
    rw[if_neg (show ¬((Value.ref Tb==Value.none)=true)from by simp)]
    have step:wpAny (model X.prog X.w) X.A (setFlight (.ref e) X.env.frame >>= fun _=>(throw (Value.ref e):Sem Flow)) (SP X pins D) X.xe { sh with heap:=h1 }:=by
     rw[hst.2]
     refine wpAny_bind (PySem.W.setFlight_onW (s:={ sh with heap:=h1 }) fly fun h2 hh2 sm=>?_)
     refine wpAny_throw ?_
     have F2:Flt X.stack hh B e h2:=F.next J.stack hh2.1 sm
     exact h w1 H1 σV1 pins (.ref e) { sh with heap:=h2 } g1 L1 ⟨e,hh,B,rfl,J,F2,sb,.inr (.inr ⟨t,_,hh2⟩)⟩
    first
     | exact wpAny_bind (wpAny_pure step)
     | exact step
 ·have q:=ajZ q
  cases f with
  | next=>exact wpAny_execs_nil q
  | brk=>exact q
  | cont=>exact q
  | ret v=>exact q
 ·exact q
end
section
variable{G:Gx}{X:Cx}{C:Cf}{pins pins':List (Addr×Obj)}{w w' w₀:Wo}{H H' H₀:Hp}{σ σ':Fr}{σV σV':St}{c i:Nat}{u:Value}{sh s:Shared}{e:Addr}{E:Value→Shared→Prop}
variable{body suite:List Stmt}{b' h':List S}{y n:Str}{yp hpos pos:Pos}{b₀:Stmt}
theorem akO(hst:X.stack=X.env::X.outer∧X.env.frame=some X.env.locals)(hex:X.ex=[])(hN:X.N.Nodup)(hi:X.N[i]?=some n)(hl:X.env.scope.names.lookup n=some .local)(hg:Gl X y)(hm:X.mg y=some (.ref (G.cA c)))(hdb:(y==("__debug__":Str))=false)
  (hmt:∀d,PySem.W.exmOne X.K (.ref (G.cA d)) (.ref (G.cA c))=some (C.sub d c))
  (hbody:∀(E:Value→Shared→Prop) (pn:List (Addr×Obj)),PassesOwn (model X.prog X.w) X.A X.env E→PSs (agL X E pn) body (tSs G (agL X E pn) C b'))
  (hsuite:∀e,PSs (hnd X e) (b₀::suite) (tSs G (hnd X e) C h')):PS X (.Try body [.ExceptHandler (some (.Name y yp)) (some n) (b₀::suite) hpos] [] [] pos) (tS G X C (.try_ b' c (some i) h')):=by
 rintro pins s σV H D I ⟨w₀,H₀,w,σ,st,g,h⟩
 refine anP (C:=C) (c:=c) (k:=fun d σ1 s1=>(exs C h' (put σ1 i (.exc d)) s1).nox.bind fun σ2 s2=>.next (σ2.set i none) s2) hst hg hm hdb hmt hbody I g h fun d σ1 s1 w1 H1 σV1 e hh B h1 t sh g1 q J F sb fly=>?_
 refine codeAny_handlers_suite_as (PyProof.Rows.lands_againW (s:={ sh with heap:=h1 }) fly fun h2 fly2 sm=>?_)
 obtain⟨ob,hob,hoc⟩:=fly2.there
 obtain⟨hne,J2⟩:=agE hex J (F.next J.stack fly2.1 sm) hob hoc
 have L2:Le w1 w1 H1 (upd H1 e (.ext (ag0 e (G.cA d)))):=Le.new hne _
 have S2:=g1.sto.new hne (.ext (ag0 e (G.cA d)))
 have g2:Good G w₀ H₀ w1 (upd H1 e (.ext (ag0 e (G.cA d)))) (put σ1 i (.exc d)) s1 (σV1.set i (some (.ref e))):=(g1.step L2 S2).put ⟨e,rfl,aaq⟩
 have l2:LeS w1 w1 H1 (upd H1 e (.ext (ag0 e (G.cA d)))) σ1 (put σ1 i (.exc d)) σV1 (σV1.set i (some (.ref e))):=(LeS.of L2).trans LeS.put
 have hiσ:i<σV1.length:=by rw[J.len];exact(List.getElem?_eq_some_iff.mp hi).1
 refine acQ (v:=.ref e) J2 hN hi (.inl hl) rfl (fun s3 J3=>?_) (.inr hl)
 refine wpAny_mono (hsuite e pins s3 (σV1.set i (some (.ref e))) _ { D with nx:=fun σ2 H2=>D.nx (σ2.set i none) H2,rt:=D.rt,bk:=fun _ _=>False,ct:=fun _ _=>False } (ahs J3) ⟨w₀,H₀,w1,put σ1 i (.exc d),s1,g2,?_⟩) (fun f s₂ z=>?_) fun _ _ z=>z.elim
 ·refine aio ?_
  have q:=aa5.mono l2 q
  generalize hr:(exs C h' (put σ1 i (.exc d)) s1).nox=r at q
  cases r with
  | stuck=>exact q
  | next σ2 s2=>exact fun w3 H3 σV3 g3 l3=>q w3 H3 (σV3.set i none) ⟨g3.sto,g3.fr.unset,g3.ent⟩ (l3.trans (LeS.set (by intro ts z;cases z) (by intro ts z;cases z)))
  | ret r s2=>exact q
  | retO ts s2=>exact q
  | exc cc σ2 s2=>exact q
 ·have z:=akn J2.ok z
  have go:∀(σ2:St) (H2:Hp),Inv X pins σ2 H2 s₂→∀Q:Shared→Prop,(∀s4,Inv X pins (σ2.set i none) H2 s4→Q s4)→wpAny (model X.prog X.w) X.A (do bindName X.env n .none;unbindBehindTheSuite X.env n hpos) (fun _ s₃=>Q s₃) X.xe s₂:=fun σ2 H2 K Q hQ=>by
   have hi2:i<σ2.length:=by rw[K.len];exact(List.getElem?_eq_some_iff.mp hi).1
   refine wpAny_bind (PySem.wpAny_bindName (acQ (v:=.non) K hN hi (.inl hl) rfl (fun s4 K4=>?_) (.inr hl)))
   unfold unbindBehindTheSuite
   refine wpAny_onRaise (aiz (v:=.non) K4 hN hi hl (List.getElem?_set_self hi2) fun s5 K5=>?_)
   rw[List.set_set]at K5
   exact hQ s5 K5
  cases f with
  | next=>
   obtain⟨σ2,H2,K,z⟩:=z
   exact go σ2 H2 K _ fun s4 K4=>⟨σ2.set i none,H2,K4,z⟩
  | brk=>obtain⟨σ2,H2,K,z⟩:=z;exact z.elim
  | cont=>obtain⟨σ2,H2,K,z⟩:=z;exact z.elim
  | ret v=>
   obtain⟨x,σ2,H2,K,r,z⟩:=z
   exact go σ2 H2 K _ fun s4 K4=>⟨x,σ2.set i none,H2,K4,r,z⟩
end
end IP
end
section
namespace IP
open PySem PySem.W PySem.Spec PySem.Calls PyProof.Rows Builtin Builtin.ObjectAttr Builtin.Getset_descriptor
noncomputable def Err(x D:Addr)(hp:Heap):Prop:=∃ob,hp.get? x=some ob∧ob.cls=.ref D
section
variable{KK:Frag}{x D:Addr}
theorem akw(M:Model)(hp:Heap)(p:Err x D hp):Looks M hp (typeOf (.ref x)) (.ref D):=by
 obtain⟨ob,k1,k2⟩:=p
 exact k2▸(Looks.ld k1).andThen .now
end
end IP
namespace IP
open PySem PySem.W PySem.Spec PySem.Calls PyProof.Rows Builtin Builtin.ObjectAttr Builtin.Getset_descriptor
section
variable{KK:Frag}{x D:Addr}{prog:Program}{w:World}{A:Around}{E:Value→Shared→Prop}
theorem ahN{Q:Option Value→Shared→Prop}{s:Shared}
  (hga:findIn KK (.ref D) "__getattribute__"=some (some (.builtin "BaseException.__getattribute__")))
  (hgn:findIn KK (.ref D) "__getattr__"=some none)
  (ha:findIn KK (.ref D) "__class__"=some (some (.builtin "object.__class__")))
  (hn:specialIn KK (.builtin "object.__class__") "__get__"=some (some (.builtin "getset_descriptor.__get__")))
  (htk:takesIn KK (.builtin "object.__class__")=some true)
  (hm:mroIn KK D (.type "object")=some true) (hb:mroIn KK D (.type "BaseException")=some true)
  (X:KK.In s.heap) (p:Err x D s.heap) (k:Q (some (.ref D)) { s with toks:=s.toks+1 }):
  wpAny (model prog w) A (getAttr? (.ref x) "__class__") Q E s:=by
 obtain⟨hp,gg,dd,tt,oo⟩:=s
 have T0:=akw (model prog w) hp p
 have T1:=looks_findIn (M:=model prog w) X hga
 have T2:=looks_findIn (M:=model prog w) X hgn
 have TF:Looks (model prog w) hp (find (.ref x) (.ref D) "__class__") (.bind (.builtin "getset_descriptor.__get__") (.builtin "object.__class__")):=by
  have a1:=looks_findIn (M:=model prog w) X ha
  have a2:=looks_specialIn (M:=model prog w) X hn
  have a3:=looks_takesIn (M:=model prog w) X htk
  refine a1.andThen ?_
  refine Looks.andThen (show Looks (model prog w) hp (getOf (some (.builtin "object.__class__"))) (some (.builtin "getset_descriptor.__get__"))from a2) ?_
  refine Looks.andThen (show Looks (model prog w) hp (dataDescriptor? (some (.builtin "object.__class__")) (some (.builtin "getset_descriptor.__get__"))) (some (.builtin "getset_descriptor.__get__",.builtin "object.__class__"))from a3.andThen .now) ?_
  exact Looks.tag .now
 have T3:=looks_mroIn (M:=model prog w) X hm
 have T4:=looks_mroIn (M:=model prog w) X hb
 have TI:Looks (model prog w) hp (isInstance (.ref x) (.type "BaseException")) true:=T0.andThen T4
 have f3:=F.excAttr_ValueError.ga.bind (.ref x)
 unfold getAttr? getAttrBy? getAttrBy
 refine wpAny_bind (wpAny_mkText ?_)
 refine wpAny_bind (wpAny_attempt ?_)
 refine wpAny_holding ?_
 refine wpAny_bind (T0.at ?_)
 refine wpAny_bind (T1.at ?_)
 have c0:(onTheHeap (Value.ref D)&&Value.builtin "BaseException.__getattribute__"==Value.builtin "object.__getattribute__")=false:=by
  have:(Value.builtin "BaseException.__getattribute__"==Value.builtin "object.__getattribute__")=false:=by decide +kernel
  rw[this];rfl
 dsimp only
 rw[c0]
 simp only[Bool.false_eq_true,if_false]
 unfold getAttrByItsOwn
 refine wpAny_bind (Looks.at (show Looks (model prog w) hp (hookBefore (.ref D)) none from T2) ?_)
 refine wpAny_bind (wpAny_attempt ?_)
 refine wpAny_holding ?_
 unfold callGetattribute boundAndCalled
 simp only[Bool.false_and,Bool.false_eq_true,if_false]
 rw[f3]
 refine wpAny_bind (wpAny_pure ?_)
 refine wpAny_call ?_
 refine codeAny_call_builtin F.excAttr_ValueError.ga.plain F.entry_bexc_ga ?_
 have hk:builtinKind "BaseException.__getattribute__"=some .slot:=by decide +kernel
 have hsplit:splitId "BaseException.__getattribute__"=some ("BaseException","__getattribute__"):=by decide +kernel
 have hargs:=F.args_bexc_ga (.ref x) (.str "__class__" tt)
 show wpAny _ _ (checkBuiltinCall "BaseException.__getattribute__" ⟨[.ref x,.str "__class__" tt],[]⟩) _ _ _
 simp only[checkBuiltinCall,hk,hsplit]
 refine wpAny_bind ?_
 refine TI.at ?_
 repeat (first|exact hargs|wp_step)
 obtain⟨ob,k1,k2⟩:=p
 refine wpAny_loadPart k1 ?_
 refine wpAny_pure ?_
 rw[k2]
 refine wpAny_bind (TF.at ?_)
 show wpAny _ _ (bindTo (.builtin "getset_descriptor.__get__") (.builtin "object.__class__") (.ref x) (.ref D)) _ _ _
 show wpAny _ _ (holding [Value.builtin "object.__class__"] (call (.builtin "getset_descriptor.__get__") [Value.builtin "object.__class__",.ref x,.ref D]) >>= ret) _ _ _
 refine wpAny_bind (wpAny_holding ?_)
 refine wpAny_call ?_
 refine codeAny_call_builtin KF.slot_gs.plain KF.entry_gs (KF.slot_gs.check _ _ _ _ _ _ _ _ KF.type_class (KF.args_gs _ _ _) ?_)
 unfold Builtin.«getset_descriptor.__get__» descrGet
 rw[dga_obj]
 refine wpAny_bind (wpAny_pure ?_)
 unfold descrGetter descrCheckInstance descrNameAndClass isInstance
 simp only[KF.owner_class]
 repeat lk
 refine⟨Code.quiet_builtin _ (by decide +kernel),?_⟩
 refine codeAny_builtin KF.entry_class ?_
 unfold Builtin.«object.__class__» shownTypeOf
 repeat lk
 exact k
theorem al8(hga:findIn KK (.ref D) "__getattribute__"=some (some (.builtin "BaseException.__getattribute__")))
  (hgn:findIn KK (.ref D) "__getattr__"=some none) (hdct:hasDictIn KK D=true)
  (ha:findIn KK (.ref D) "__class__"=some (some (.builtin "object.__class__")))
  (hn:specialIn KK (.builtin "object.__class__") "__get__"=some (some (.builtin "getset_descriptor.__get__")))
  (htk:takesIn KK (.builtin "object.__class__")=some true) (hm:mroIn KK D (.type "object")=some true)
  (hb:mroIn KK D (.type "BaseException")=some true):
  KitX KK (.ref x) (.ref D) (Err x D)where
 ty:=fun M hp _ p=>akw M hp p
 it:=fun _ _ X _=>by
  obtain⟨cdD,hcD,_⟩:=any_some hdct
  unfold clsIn at hcD
  split at hcD
  ·rename_i ho
   intro A' Q' E' s' kk q
   unfold isType loadHead
   refine wpAny_bind ?_
   exact wpAny_loadPart (kk _ _ (X _ _ ho)) (wpAny_pure q)
  ·cases hcD
 ne:=fun hp tp dd its n sl X htp=>by
  obtain⟨cdD,hcD,_⟩:=any_some hdct
  refine Bool.eq_false_iff.mpr fun q=>?_
  have e:D=tp:=Value.ref.inj (beq_iff_eq.mp q)
  subst e
  unfold clsIn at hcD
  split at hcD
  ·rename_i ho
   cases(X _ _ ho).symm.trans htp
  ·cases hcD
 ca:=fun X p k=>ahN hga hgn ha hn htk hm hb X p k
end
end IP
namespace IP
open PySem PySem.Spec L2
structure ExcK(K:PySem.W.Frag)(D:Addr):Prop where
 ga:PySem.W.findIn K (.ref D) "__getattribute__"=some (some (.builtin "BaseException.__getattribute__"))
 gn:PySem.W.findIn K (.ref D) "__getattr__"=some none
 dct:PySem.W.hasDictIn K D=true
 ca:PySem.W.findIn K (.ref D) "__class__"=some (some (.builtin "object.__class__"))
 sp:PySem.W.specialIn K (.builtin "object.__class__") "__get__"=some (some (.builtin "getset_descriptor.__get__"))
 tk:PySem.W.takesIn K (.builtin "object.__class__")=some true
 mo:PySem.W.mroIn K D (.type "object")=some true
 mb:PySem.W.mroIn K D (.type "BaseException")=some true
section
variable{G:Gx}{X:Cx}{C:Cf}{a:Expr}{a':IP.E}{pos p py:Pos}{y:Str}{k:Nat}
theorem ako{sub:Nat→Nat→Bool}{x:R}{b:Bool}(h:afi sub x (.cls k)=some b):∃d,x=.val (.exc d)∧b=sub d k:=by
 unfold afi at h
 split at h
 ·rename_i d kk hk
  cases hk
  cases h
  exact⟨d,rfl,rfl⟩
 ·unfold anc at h
  split at h<;>first|(cases h;done)|(rename_i z;cases z;done)|(rename_i z _;cases z;done)|simp_all
theorem api(hkit:∀d,ExcK X.K (G.cA d))(hone:∀d,PySem.W.kitOne X.K (.ref (G.cA d)) (.ref (G.cA k))=some (C.sub d k))(hg:Gl X "isinstance")(hm:X.mg "isinstance"=none)(hgy:Gl X y)(hmy:X.mg y=some (.ref (G.cA k)))(hdy:(y==("__debug__":Str))=false)
  (ha:PE X a (tV G X C a')) (hs:starEach [a,.Name y py] X.env=[(false,eval a X.env),(false,eval (.Name y py) X.env)]):PE X (.Call (.Name "isinstance" p) [a,.Name y py] [] pos) (tV G X C (.isi a' (.cls k))):=by
 have hc:aaK X (.builtin "isinstance") (fun xs H Q=>∃v,xs=[v,.ref (G.cA k)]∧r1 G (fun x=>(afi C.sub x (.cls k)).map fun b=>.val (.bl b)) v H Q):=by
  rintro pins s σ H xs us Q I rv ⟨v,rfl,w,st,rx,r,S,R1,e,q⟩
  obtain⟨u,u',rfl,r1,r2⟩:=rv.two
  cases r2
  obtain⟨b,hb,rfl⟩:=map_some e
  obtain⟨d,rfl,rfl⟩:=ako hb
  obtain⟨ad,rfl,hH⟩:=R1
  cases r1
  obtain⟨hφ,_⟩:=I.hok ad _ hH
  have z:=hkit d
  exact PySem.W.kia_one (al8 z.ga z.gn z.dct z.ca z.sp z.tk z.mo z.mb) I.kIn hφ (hone d) (by intro z;cases z) fun tk=>⟨.bl _,H,I.tok tk,rfl,q w H _ (Le.refl _ _) S rfl⟩
 refine PE.imp (aeo hc hg hm (show bootBuiltins "isinstance"=some (.builtin "isinstance")by decide +kernel) (aa9 ha (aa9 (aho (v:=.ref (G.cA k)) hgy hmy rfl hdy) aaY rfl) (by rw[hs];rfl)) (by decide) (by decide) (by rw[hs];rfl) rfl) ?_
 rintro σV H Q ⟨w₀,H₀,w,σ,s,g,h⟩
 obtain⟨w₀,H₀,w,σ,s,g,h⟩:=ajV (f:=fun x=>(afi C.sub x (.cls k)).map fun b=>.val (.bl b)) ⟨w₀,H₀,w,σ,s,g,h⟩
 exact⟨w₀,H₀,w,σ,s,g,h.imp fun v H1 q=>⟨v,rfl,q⟩⟩
end
end IP
end
section
namespace IP
open PySem PySem.Spec L2
section
variable{G:Gx}{X:Cx}{C:Cf}{w w' w₀:Wo}{H H' H₀:Hp}{σ σ':Fr}{σV σV':St}{a b e:Expr}{a' b' e':IP.E}{pos p p2:Pos}{Q:VK}
theorem LeS.puts:∀{ks:List Nat}{us:List T}{vs:List V}{σ:Fr}{σV:St},IP.puts σ ks us=some σ'→vs.length=ks.length→LeS w w H H σ σ' σV (abw σV ks vs)
 | [],[],vs,σ,σV,hp,hl=>by cases hp;cases vs<;>exact LeS.refl
 | [],_::_,vs,σ,σV,hp,hl=>by cases hp
 | _::_,[],vs,σ,σV,hp,hl=>by cases hp
 | k::ks,u::us,[],σ,σV,hp,hl=>by simp at hl
 | k::ks,u::us,v::vs,σ,σV,hp,hl=>LeS.trans (LeS.put (v:=v)) (LeS.puts (ks:=ks) (us:=us) (vs:=vs) (σ:=IP.put σ k u) (σV:=σV.set k (some v)) hp (by simpa using hl))
theorem aoN{x:R}{ts:List T}(h:x.tup?=some ts):x=.val (.tup ts)∨x=.val (.lst ts):=by
 unfold R.tup? at h
 split at h
 ·cases h;exact .inl rfl
 ·cases h;exact .inr rfl
 ·cases h
theorem al4{js:List Nat}{es:List Expr}{k:Nat}(hc:X.calm=true)(he:PE X e (tV G X C e'))(h:PGs X es (adT js))(hn:(assignEach es X.env).length=js.length)(hst:(assignEach es X.env).findIdx? (·.1)=none)
  (hs:swapsWithSole [.Tuple es k p] e pos.line X.env=pure false) (hw:swappedStores [.Tuple es k p] e X.env=pure none) (h1:(assignEach [.Tuple es k p] X.env).map (·.2)=[assign (.Tuple es k p) X.env]):
  PS X (.Assign [.Tuple es k p] e pos) (tS G X C (.asgT js e')):=by
 refine PS.imp (akz he (aik (G:=G) hc h hn hst) hs hw h1) ?_
 rintro D σV H ⟨w₀,H₀,w,σ,s,g,h⟩
 refine⟨w₀,H₀,w,σ,s,g,(acx g h).imp ?_⟩
 rintro v H1 ⟨w1,r,s1,L1,S1,R1,g1,q1⟩
 obtain⟨ts,ht,qa⟩:=ab7 q1
 obtain⟨σ2,hp,qb⟩:=ab7 qa
 rcases aoN ht with rfl|rfl
 ·exact⟨w1,s1,.tup ts,σ,σ2,S1,R1,hp,fun vs hf hl=>qb w1 H1 _ ⟨S1,hf H₀ σV g1.fr,g1.ent⟩ (LeS.puts hp hl)⟩
 ·exact⟨w1,s1,.lst ts,σ,σ2,S1,R1,hp,fun vs hf hl=>qb w1 H1 _ ⟨S1,hf H₀ σV g1.fr,g1.ent⟩ (LeS.puts hp hl)⟩
end
theorem afk:∀(ts us:List T) (i:Nat) (t:T),(ziT ts us)[i]?=some t→∃a b,ts[i]?=some a∧us[i]?=some b∧t=.tup [a,b]
 | [],us,i,t,h=>by unfold ziT at h;simp at h
 | a::ts,[],i,t,h=>by unfold ziT at h;simp at h
 | a::ts,b::us,0,t,h=>by cases h;exact⟨a,b,rfl,rfl,rfl⟩
 | a::ts,b::us,i+1,t,h=>by
  obtain⟨c,d,h1,h2,h3⟩:=afk ts us i t h
  exact⟨c,d,h1,h2,h3⟩
theorem adI:∀(ts us:List T),(ziT ts us).length=min ts.length us.length
 | [],us=>by unfold ziT;simp
 | a::ts,[]=>by unfold ziT;simp
 | a::ts,b::us=>by unfold ziT;simp[adI ts us]
noncomputable def Itz(a b:Addr):It:=
 ⟨fun i H=>∃vs us v u,Rd H a (.lst vs)∧Rd H b (.lst us)∧vs[i]?=some v∧us[i]?=some u,
  fun i H x H'=>∃T v u,x=.ref T∧H T=none∧H'=upd H T (.tup [v,u])∧∀vs us,Rd H a (.lst vs)→Rd H b (.lst us)→vs[i]?=some v∧us[i]?=some u,
  fun i H=>∃vs us,Rd H a (.lst vs)∧Rd H b (.lst us)∧(vs.length≤i∨us.length≤i)⟩
section
variable{G:Gx}{X:Cx}{C:Cf}{w w' w₀:Wo}{H H' H₀:Hp}{σ σ':Fr}{σV σV':St}{pos:Pos}
theorem aid{pins:List (Addr×Obj)}{σ:St}{H:Hp}{s:Shared}{a:Addr}{vs ws:List V}(I:Inv X pins σ H s)(h1:Rd H a (.lst vs))(h2:Rd H a (.lst ws)):ws=vs:=by
 obtain⟨its,rv,p⟩:=aaD I h1
 obtain⟨its2,rv2,p2⟩:=aaD I h2
 obtain⟨o1,e1,_,n1,d1⟩:=p
 obtain⟨o2,e2,_,n2,d2⟩:=p2
 rw[e1]at e2
 cases e2
 rw[d1]at d2
 injection d2 with d3 _
 have:its=its2:=by simpa using congrArg Array.toList d3
 subst this
 exact rv2.inj rv
theorem acV{pins:List (Addr×Obj)}{σ:St}{H:Hp}{s:Shared}{h':Heap}{t':Nat}{fp:List Addr}(I:Inv X pins σ H s)(k:∀b o,b∉fp→s.heap.get? b=some o→h'.get? b=some o)(hf:∀b∈fp,aeD X pins H b):
  Inv X pins σ H { s with heap:=h',toks:=t' }:=by
 have nit:∀b u,H b=some u→b∉fp:=fun b u q z=>by rw[(hf b z).1]at q;cases q
 refine I.step (g':=s.gens) (d':=s.drawn) (ch:=fp) (fun b hb=>?_) (fun b o _ _ hc e _=>k b o hc e) (fun b o _ _ hc e _=>⟨o.slots,k b o hc e⟩) (fun _ _ _ _ n=>n)
  (fun b o hc e=>⟨o,k b o hc e⟩) (fun _ _ e=>e) (fun _ _ _ e=>e) (fun b ps e=>⟨#[],by rw[e];simp⟩) (fun m hm=>?_) (fun b u e=>?_) I.bare
 ·obtain⟨_,g1,g2,g3,g4,g5⟩:=hf b hb
  exact⟨g3,g1,g4,g5⟩
 ·obtain⟨o,es,ep,ho,r⟩:=hm
  exact⟨o,es,ep,k _ o (fun z=>(hf _ z).2.1 rfl) ho,r⟩
 ·refine(I.hok b u e).stay (fun c v hc q=>k c v ?_ q) (fun _ q=>q) fun _ _ q=>q
  rcases hc with z|z
  ·rw[z];exact nit b u e
  ·exact nit c _ z
theorem ajJ{P:Program}{w:World}{K:PySem.W.Frag}{es:List Expr}{k:Nat}{p:Pos}{a b z TI TO i1 i2:Addr}(D:ZipApart z TI TO i1 i2 a b):ahL P w K (.Tuple es k p) (Itz a b) [z,TI,TO,i1,i2] z
  (fun i h=>IsZip h z TI TO .none∧IsPair h TI (.ref i1) (.ref i2)∧(∃x y,IsPair h TO x y)∧h.IsListIter i1 a i∧h.IsListIter i2 b i)where
 mem:=by simp
 obj:=fun i h ⟨hz,hTI,⟨x,y,hTO⟩,h1,h2⟩ c hc=>by
  simp at hc
  rcases hc with rfl|rfl|rfl|rfl|rfl
  ·exact⟨_,hz,fun v q=>by cases q⟩
  ·exact⟨_,hTI,fun v q=>by cases q⟩
  ·exact⟨_,hTO,fun v q=>by cases q⟩
  ·obtain⟨o,e1,_,d⟩:=h1
   exact⟨o,e1,fun v q=>by rw[d]at q;cases q⟩
  ·obtain⟨o,e1,_,d⟩:=h2
   exact⟨o,e1,fun v q=>by rw[d]at q;cases q⟩
 keep:=fun i h h' ⟨hz,hTI,⟨x,y,hTO⟩,h1,h2⟩ k=>⟨k z (by simp) _ hz,k TI (by simp) _ hTI,⟨x,y,k TO (by simp) _ hTO⟩,h1.at fun o q=>k i1 (by simp) o q,h2.at fun o q=>k i2 (by simp) o q⟩
 item:=by
  intro X hP hw hK hc i pins s σ H E I hf ⟨hz,hTI,⟨x0,y0,hTO⟩,h1,h2⟩ ⟨vs,us,v,u,hr1,hr2,hx1,hx2⟩
  subst hP hw hK
  obtain⟨its1,rv1,p1⟩:=aaD I hr1
  obtain⟨its2,rv2,p2⟩:=aaD I hr2
  obtain⟨u1,hu1,ru1⟩:=rv1.get hx1
  obtain⟨u2,hu2,ru2⟩:=rv2.get hx2
  refine wpAny_pyNext_zip_item D hz hTI hTO h1 h2 p1 p2 (x:=u1) (y:=u2) (by simpa using hu1) (by simpa using hu2) fun h' a1 a2 a3 a4 a5 a6 hk=>⟨_,rfl,?_⟩
  refine wpAny_letOwnedTupleGo_zip a1 fun h2' he2 hs2=>?_
  have hn:H s.heap.objs.size=none:=I.hok.fresh (Nat.le_refl _)
  have I1:Inv X pins σ (upd H s.heap.objs.size (.tup [v,u])) { s with heap:=s.heap.push { cls:=.type "tuple",data:=.seq #[u1,u2] },toks:=s.toks }:=by
   refine I.laid (fun b o q=>Heap.get?_push_of_some _ q) (Nat.le_refl _) ⟨show 2≤sizeLine by decide,[u1,u2],.cons ru1 (.cons ru2 .nil),?_⟩
   exact⟨_,Heap.get?_push_size _ rfl,rfl,_,rfl⟩
  have lt:∀c∈[z,TI,TO,i1,i2],c<s.heap.objs.size:=fun c hc=>by
   simp at hc
   rcases hc with rfl|rfl|rfl|rfl|rfl
   ·exact Heap.lt_size hz
   ·exact Heap.lt_size hTI
   ·exact Heap.lt_size hTO
   ·obtain⟨o,q,_⟩:=h1;exact Heap.lt_size q
   ·obtain⟨o,q,_⟩:=h2;exact Heap.lt_size q
  have fp:∀c∈[z,TI,TO,i1,i2],aeD X pins (upd H s.heap.objs.size (.tup [v,u])) c:=fun c hc=>by
   refine⟨?_,(hf c hc).2⟩
   rw[aag (Nat.ne_of_lt (lt c hc))]
   exact(hf c hc).1
  have I2:Inv X pins σ (upd H s.heap.objs.size (.tup [v,u])) { s with heap:=h2',toks:=s.toks }:=by
   refine acV (s:={ s with heap:=s.heap.push { cls:=.type "tuple",data:=.seq #[u1,u2] },toks:=s.toks }) I1 (fun c o hc q=>?_) fp
   simp at hc
   obtain⟨c1,c2,c3,c4,c5⟩:=hc
   rcases Heap.get?_push_cases q with⟨rfl,rfl⟩|q
   ·exact(hs2.2 _ c1).trans a5
   ·exact(hs2.2 c c1).trans (hk c o c1 c3 c4 c5 q)
  refine⟨.ref s.heap.objs.size,_,I2,rfl,⟨_,v,u,rfl,hn,rfl,fun ws ws' hw hw'=>?_⟩,⟨he2,(hs2.2 TI D.TIz).trans (hk TI _ D.TIz D.TITO D.TIi1 D.TIi2 hTI),⟨u1,u2,(hs2.2 TO D.TOz).trans a2⟩,a3.at fun o q=>(hs2.2 i1 D.i1z).trans q,a4.at fun o q=>(hs2.2 i2 D.i2z).trans q⟩,fun c hc=>(fp c hc).1⟩
  rw[aid I hr1 hw,aid I hr2 hw']
  exact⟨hx1,hx2⟩
 done:=by
  intro X hP hw hK hc i pins s σ H E I hf ⟨hz,hTI,⟨x0,y0,hTO⟩,h1,h2⟩ ⟨vs,us,hr1,hr2,hx⟩
  subst hP hw hK
  obtain⟨its1,rv1,p1⟩:=aaD I hr1
  obtain⟨its2,rv2,p2⟩:=aaD I hr2
  have l1:=rv1.length
  have l2:=rv2.length
  refine wpAny_pyNext_zip_end (I.ok.hd hc) D hz hTI hTO h1 h2 p1 p2 (hx.imp (fun q=>by simp;omega) fun q=>by simp;omega) fun h' hk=>⟨rfl,acV (t':=s.toks) (fp:=[z,TI,TO,i1,i2]) I (fun c o hc q=>?_) hf⟩
  simp at hc
  obtain⟨c1,c2,c3,c4,c5⟩:=hc
  exact hk c o c1 c3 c4 c5 q
 self:=fun _ _ _ _ _ ⟨hz,_⟩ h=>wpAny_pyIter_zip hz h
theorem anf{es:List Expr}{k:Nat}{p1:Pos}{a b:Expr}{ta:TA}{p pos:Pos}(hg:Gl X "zip")(hm:X.mg "zip"=none)(ha:PA X [a,b] ta)(hs:starEach [a,b] X.env=[(false,eval a X.env),(false,eval b X.env)])(hs2:starEach [b] X.env=[(false,eval b X.env)]):
  PI X (.Tuple es k p1) (.Call (.Name "zip" p) [a,b] [] pos) (fun σ H R=>ta σ H fun vs H1=>∃c d,vs=[.ref c,.ref d]∧(∃xs,Rd H1 c (.lst xs))∧(∃ys,Rd H1 d (.lst ys))∧R (Itz c d) H1):=by
 intro pins s σ H R I h
 refine PyProof.Rows.Call_ (adb I hg hm PyProof.Rows.boot_zip (PyProof.Rows.callWith_type1 (thn (ha pos pins s σ H _ I h) fun us s1 ⟨vs,H1,I1,r1,q1⟩=>?_) (by rw[hs,hs2]) (by rw[hs2];rfl)))
 obtain⟨c,d,e,⟨xs,hr1⟩,⟨ys,hr2⟩,q⟩:=q1
 subst e
 cases r1 with
 | cons r rr=>
  cases rr with
  | cons r' rr=>
   cases rr
   cases r
   cases r'
   obtain⟨_,its1,n1,rv1,_,e1⟩:=Rd.lst I1 hr1
   obtain⟨_,its2,n2,rv2,_,e2⟩:=Rd.lst I1 hr2
   refine call_zip_2 ⟨_,e1,rfl,n1,rfl⟩ ⟨_,e2,rfl,n2,rfl⟩ fun h' hz hTI hTO g1 g2 hsz hk=>wpAny_pyIter_zip hz ?_
   have I2:Inv X pins σ H1 { s1 with heap:=h' }:=I1.kept (t':=s1.toks) hk
   refine⟨_,[s1.heap.objs.size+4,s1.heap.objs.size+2,s1.heap.objs.size+3,s1.heap.objs.size,s1.heap.objs.size+1],_,_,H1,rfl,I2,ajJ (PyProof.Rows.zipApart_new (Heap.lt_size e1) (Heap.lt_size e2)),⟨hz,hTI,⟨_,_,hTO⟩,g1,g2⟩,fun c hc=>?_,q⟩
   have:s1.heap.objs.size≤c:=by
    simp at hc
    rcases hc with h|h|h|h|h<;>rw[h]<;>first|exact Nat.le_refl _|exact Nat.le_add_right _ _
   exact I1.fpOk this (I1.hok.fresh this)
variable{a b elt:Expr}{a' b' ce:E}{ifs:List Expr}{scope:Scope}{g:Tg}{N':List Str}{f:Fr→Sto→Res (Option T)}{es:List Expr}{k:Nat}{p p1 p2:Pos}
theorem agC{s:Sto}{c d:Addr}{vs us:List V}{ts ts':List T}(S:StoOk G w H s)(h1:aaV G w H true (.l c vs) ts)(h2:aaV G w H true (.l d us) ts'):agn G w H s (Itz c d) (ziT ts ts'):=by
 obtain⟨r1,q1,n1,z1⟩:=h1
 obtain⟨r2,q2,n2,z2⟩:=h2
 refine⟨fun i t e=>?_,⟨vs,us,r1,r2,?_⟩,fun X pins σ s' I=>?_⟩
 ·obtain⟨t1,t2,e1,e2,rfl⟩:=afk ts ts' i t e
  obtain⟨v,e3,y1⟩:=q1.get e1
  obtain⟨u,e4,y2⟩:=q2.get e2
  refine⟨⟨vs,us,v,u,r1,r2,e3,e4⟩,?_⟩
  rintro x H' ⟨T,v',u',rfl,hn,rfl,hv⟩
  obtain⟨b1,b2⟩:=hv vs us r1 r2
  rw[e3]at b1;cases b1
  rw[e4]at b2;cases b2
  have L1:Le w w H (L2.upd H T (.tup [v,u])):=Le.new hn _
  exact⟨w,L1,S.new hn _,T,_,rfl,aaq,⟨_,_,rfl,Rep.mono L1 S _ _ y1,_,_,rfl,Rep.mono L1 S _ _ y2,rfl⟩⟩
 ·rw[adI,←q1.length,←q2.length];omega
 ·have:=(Rd.lst I r1).1
  rw[←q1.length]at this
  rw[adI]
  omega
theorem ahV(hc:X.calm=true)(hN:CompN X scope N' (slots g))(hnd:(slots g).Nodup)(hgl:Gl X "zip")(hmg:X.mg "zip"=none)(ha:PE X a (tV G X C a'))(hb:PE X b (tV G X C b'))
  (hG:∀A fp s2 H2 xe,PG (cxC X N' scope A fp s2 H2 xe) (.Tuple es k p1) (gTg G g)) (hE:∀A fp s2 H2 xe,adj G (cxC X N' scope A fp s2 H2 xe) ifs elt f) (hs:∀x,foldedSetIterable (.Call (.Name "zip" p) [a,b] [] p2) X.env x=pure x)
  (hev:∀σ s,ev C ce .v σ s=(ev C (.zip a' b') .i σ s).bind fun x s1=>onL x fun ts=>(aas (fun t s=>onO (aap σ g t) fun σ'=>f σ' s) ts s1).bind fun q s2=>.ok (.val (.lst q)) s2)
  (hs1:starEach [a,b] X.env=[(false,eval a X.env),(false,eval b X.env)]:=by rfl) (hs2:starEach [b] X.env=[(false,eval b X.env)]:=by rfl) (hfr:afF X:=by exact⟨_,_,_,rfl,rfl,rfl⟩):
  PE X (.ListComp elt [⟨.Tuple es k p1,.Call (.Name "zip" p) [a,b] [] p2,ifs,0⟩] scope pos) (tO G X C ce):=by
 rintro pins s σV H Q I ⟨w₀,H₀,w,σ,st,gd,h⟩
 rw[hev]at h
 rw[eval_ListComp]
 refine ad2 hfr hc hN hnd (anf hgl hmg (aa9 ha (aa9 hb aaY hs2) (by rw[hs1,hs2])) hs1 hs2) hG hE hs I gd (Q:=Q) ?_ (use:=none) fun s' Hc A D I' fA ⟨m,hm⟩ q=>?_
 ·have h:abd G X σV w H (((ev C a' .v σ st).bind fun x s1=>(ev C b' .v σ s1).bind fun y s2=>onL x fun ts=>onL y fun us=>.ok (.val (.lst (ziT ts us))) s2).bind fun x s1=>onL x fun ts=>(aas (fun t s=>onO (aap σ g t) fun σ'=>f σ' s) ts s1).bind fun q s2=>.ok (.val (.lst q)) s2) Q:=h
  refine⟨w₀,H₀,w,σ,st,gd,?_⟩
  cases h1:ev C a' .v σ st with
  | stuck=>rw[h1]at h;exact h.elim
  | exc c s1=>rw[h1]at h;exact h
  | ok x s1=>
   rw[h1]at h
   intro w1 H1 v1 L1 S1 R1
   refine⟨w₀,H₀,w1,σ,s1,gd.step L1 S1,?_⟩
   have h:abd G X σV w H (((ev C b' .v σ s1).bind fun y s2=>onL x fun ts=>onL y fun us=>.ok (.val (.lst (ziT ts us))) s2).bind fun x s1=>onL x fun ts=>(aas (fun t s=>onO (aap σ g t) fun σ'=>f σ' s) ts s1).bind fun q s2=>.ok (.val (.lst q)) s2) Q:=h
   cases h2:ev C b' .v σ s1 with
   | stuck=>rw[h2]at h;exact h.elim
   | exc c s2=>rw[h2]at h;exact fun w2 H2 pins u sh L S T=>h w2 H2 pins u sh (L1.trans L) S T
   | ok y s2=>
    rw[h2]at h
    intro w2 H2 v2 L2 S2 R2
    have h:abd G X σV w H ((onL x fun ts=>onL y fun us=>.ok (.val (.lst (ziT ts us))) s2).bind fun x s1=>onL x fun ts=>(aas (fun t s=>onO (aap σ g t) fun σ'=>f σ' s) ts s1).bind fun q s2=>.ok (.val (.lst q)) s2) Q:=h
    have hx:∃ts,x=.val (.lst ts):=by
     match x,h with
     | .val (.lst ts),_=>exact⟨ts,rfl⟩
     | .val .non,h=>exact h.elim
     | .val (.bl _),h=>exact h.elim
     | .val (.int _),h=>exact h.elim
     | .val (.str _),h=>exact h.elim
     | .val (.tup _),h=>exact h.elim
     | .val (.loc _),h=>exact h.elim
     | .val (.exc _),h=>exact h.elim
     | .bor _,h=>exact h.elim
    obtain⟨ts,rfl⟩:=hx
    have hy:∃us,y=.val (.lst us):=by
     match y,h with
     | .val (.lst us),_=>exact⟨us,rfl⟩
     | .val .non,h=>exact h.elim
     | .val (.bl _),h=>exact h.elim
     | .val (.int _),h=>exact h.elim
     | .val (.str _),h=>exact h.elim
     | .val (.tup _),h=>exact h.elim
     | .val (.loc _),h=>exact h.elim
     | .val (.exc _),h=>exact h.elim
     | .bor _,h=>exact h.elim
    obtain⟨us,rfl⟩:=hy
    have h:abd G X σV w H ((aas (fun t s=>onO (aap σ g t) fun σ'=>f σ' s) (ziT ts us) s2).bind fun q s2=>.ok (.val (.lst q)) s2) Q:=h
    obtain⟨c,vs,e1,z1,r1,q1⟩:=R1
    obtain⟨d,vs2,e2,z2,r2,q2⟩:=R2
    subst e1 e2
    have O1:aaV G w1 H1 true (.l c vs) ts:=⟨r1,q1,S1.zLoc z1,fun _=>z1⟩
    have O1:=aaV.mono L2 S1 O1
    have O2:aaV G w2 H2 true (.l d vs2) us:=⟨r2,q2,S2.zLoc z2,fun _=>z2⟩
    refine⟨c,d,rfl,⟨vs,O1.1⟩,⟨vs2,O2.1⟩,?_⟩
    refine⟨w2,ziT ts us,s2,fun _=>True,id,L1.trans L2,S2,fun w' H' s' L' S' _=>agC S' (aaV.mono L' S2 O1) (aaV.mono L' S2 O2),trivial,fun r=>⟨fun o s' e=>⟨e,trivial⟩,fun c s' e=>e⟩,?_⟩
    cases hm:aas (fun t s=>onO (aap σ g t) fun σ'=>f σ' s) (ziT ts us) s2 with
    | stuck=>rw[hm]at h;exact h.elim
    | exc c s3=>rw[hm]at h;show acM G X σV w H Q [] (aas (fun t s=>onO (aap σ g t) fun σ'=>f σ' s) (ziT ts us) s2);rw[hm];exact h
    | ok q st'=>rw[hm]at h;show acM G X σV w H Q [] (aas (fun t s=>onO (aap σ g t) fun σ'=>f σ' s) (ziT ts us) s2);rw[hm];exact h
 ·exact⟨m,hm,fun h' sb=>⟨.ref D,Hc,aqD I' fA sb,rfl,q⟩⟩
end
theorem amr{CX:CXT}{P:Program}{w:World}{K:PySem.W.Frag}{mg:Str→Option Value}{base:Heap}{k:Nat}{q c:Addr}{nm qual:Str}{params:Arguments}{body:Expr}{scope:Scope}{pm ctv:Value}{N ps:List Str}
  {A:Around}{outer:List Env}{s:Shared}{H:Hp}{args:Args}{us:List Value}{vs:List V}{Q:VK}{E:XK}{t:TE}
  (ho:s.heap.get? q=some (PySem.W.kla_obj nm qual params body scope [] pm c ctv)) (hcd:s.heap.CodeRec (.ref c) qual) (S:FnScope N ps scope) (hr:Room k A) (e0:Env0 P w K mg base A outer s H)
  (hb:bindArgs (PySem.W.kla_fn nm qual params body scope [] pm (.ref c) ctv) args=pure (ps.zip us)) (hl:vs.length=ps.length) (r:aa1 vs us)
  (ht:PE (adw CX P w K mg base N qual scope q (.ref c) A outer s H E) body t) (hq:t (start N vs) H Q):
  codeAny (model P w) A (.call (.ref q) args) (CR CX outer P w H s Q E) s:=by
 have lim:s.heap.NoLimit:=e0.mod.nolimit.keeps fun b o e=>(e0.bs b o e).1
 have hkind:∀y∈ps.zip us,scope.names.lookup y.1=some .local∨(scope.names.lookup y.1=some .cell∧((cellsFrom (s.heap.objs.size+1) scope.names []).lookup y.1).isSome=true):=fun⟨n,v⟩ hy=>by
  rcases S.par n (List.of_mem_zip hy).1 with q|q
  ·exact .inl q
  ·exact .inr ⟨q,PySem.W.cellsFrom_some _ _ _ (.inl q)⟩
 refine PySem.W.kla_callFunE hr.depth ho rfl S.co S.gen rfl hcd ?_
 rw[hb]
 refine wpAny_pure ?_
 refine wpAny_newFunctionEnv_cells S.kind hkind fun env he s1 x=>?_
 subst he
 refine⟨lim.keeps x.toInCall.keep,PySem.W.kla_codeExpr ?_⟩
 have I:Inv (adw CX P w K mg base N qual scope q (.ref c) A outer s H E) [] (start N vs) H s1:=aex S hr.hd e0 hl r x
 refine wpAny_mono (ht [] s1 (start N vs) H _ I hq) (fun u s' hs=>?_) fun e s' hs=>hs
 obtain⟨v,H',J,rv,q⟩:=hs
 exact⟨v,H',J.os,J.bare,J.base,J.hok,rv,q⟩
noncomputable def akL(K:PySem.W.Frag)(i j:Int):TE:=avs (ahu (tOp (apE K) (ar7 0) (tC (.int i))) (ahu (tOp (apE K) (ar7 0) (tC (.int j))) ank))
theorem ali{X:Cx}{x:Str}{i j:Int}{n3:Nat}{p1 p2 p3 p4 p5 p6 pos:Pos}(hN:X.N[0]?=some x)(hv:Vis X.env.scope x)(hd:(x==("__debug__":Str))=false:=by decide)(hcd:(x==("__classdict__":Str))=false:=by decide){k1 k2:Nat}:
  PE X (.Tuple [.Subscript (.Name x p1) (.Constant (.int i) k1 p2) p3,.Subscript (.Name x p4) (.Constant (.int j) k2 p5) p6] n3 pos) (akL X.K i j):=
 akD (aa9 (alp aiG (ad8 hN hv hd hcd) ain fun _ _=>rfl) (aa9 (alp aiG (ad8 hN hv hd hcd) ain fun _ _=>rfl) aaY))
end IP
end
section
namespace IP
open PySem PySem.Spec L2
open PyProof.Rows (seqObj)
structure Mine(X:Cx)(pins:List (Addr×Obj))(b:Addr):Prop where
 a:X.s₀.heap.objs.size≤b
 l:b≠X.env.locals
 c:∀x c,X.env.cells.lookup x=some c→c≠b
 p:∀p∈X.pn++pins,p.1≠b
 f:b∉frs X.stack
section
variable{X:Cx}{pins:List (Addr×Obj)}{σ:L2.St}{H H0:Hp}{s:Shared}
theorem Mine.of(I:Inv X pins σ H s){b:Addr}(h:s.heap.objs.size≤b):Mine X pins b where
 a:=Nat.le_trans I.sz h
 l:=fun e=>absurd I.lt (by rw[←e];exact Nat.not_lt.mpr h)
 c:=fun x c e z=>by
  obtain⟨v,o,ho,_⟩:=I.cell x c e
  rw[z]at ho
  exact absurd (Heap.lt_size ho) (Nat.not_lt.mpr h)
 p:=fun p hp z=>by
  have:=(I.pin p hp).1
  rw[z]at this
  exact absurd (Heap.lt_size this) (Nat.not_lt.mpr h)
 f:=fun hb=>by
  rcases List.mem_cons.mp (I.stkSub b hb)with e|hb
  ·exact absurd I.lt (by rw[←e];exact Nat.not_lt.mpr h)
  ·exact I.nofs h hb
theorem Mine.turned{t':Nat}{b:Addr}{h':Heap}(M:Mine X pins b)(I:Inv X pins σ H s)(k:∀d o,d≠b→s.heap.get? d=some o→h'.get? d=some o)(hn:H b=none):Inv X pins σ H { s with heap:=h',toks:=t' }:=
 I.turned k hn M.l (.inr M.a) M.c M.p
noncomputable def Gr(H H':Hp):Prop:=∀a o,H a=some o→H' a=some o
theorem Gr.new{H H':Hp}(g:Gr H H'){p:Addr}{o:HO}(hp:H' p=none):Gr H (upd H' p o):=fun a u e=>by
 have:=g a u e
 rw[aag (fun z=>by rw[z,hp]at this;cases this)];exact this
theorem akP(x y:Int×Int):HT.lexLt [x.1,x.2] [y.1,y.2]=lt2 x y:=by
 unfold lt2
 rw[HT.lexLt_cons,HT.lexLt_cons,HT.lexLt_nil_nil]
 by_cases h2:x.1=y.1
 ·by_cases h3:x.2=y.2
  ·simp[h2,h3]
  ·simp[h2,h3]
 ·simp[h2]
theorem aeM:∀{as:List Addr}{its:List Value},aa1 (as.map V.ref) its→its=as.map Value.ref
 | [],_,h=>by cases h;rfl
 | a::as,_,h=>by
  cases h with
  | cons r t=>
   cases r
   rw[aeM t]
   rfl
noncomputable def ab8(kf:Addr→Int×Int):Addr→List Addr→Addr
 | a,[]=>a
 | a,a'::r=>if lt2 (kf a') (kf a)then ab8 kf a' r else ab8 kf a r
noncomputable def ahL(X:Cx)(pins:List (Addr×Obj))(σ:L2.St)(H0:Hp)(q:Addr)(a:Addr)(kf:Int×Int):Prop:=
 ∀(s:Shared) (H:Hp),Inv X pins σ H s→Gr H0 H→
  codeAny (model X.prog X.w) X.A.in1 (.call (.ref q) ⟨[.ref a],[]⟩) (CR CX0 X.stack X.prog X.w H s (fun v H'=>∃p,v=.ref p∧H p=none∧H'=upd H p (.tup [.int kf.1,.int kf.2])) E0) s
theorem ahL.call{q a:Addr}{kf:Int×Int}(T:ahL X pins σ H0 q a kf)(I:Inv X pins σ H s)(g:Gr H0 H):
  wpAny (model X.prog X.w) X.A.in1 (call (.ref q) [.ref a]) (fun u s'=>∃p,u=.ref p∧H p=none∧Inv X pins σ (upd H p (.tup [.int kf.1,.int kf.2])) s'∧Un (frs X.stack) [] H (upd H p (.tup [.int kf.1,.int kf.2])) s.heap s'.heap) (fun _ _=>False) s:=by
 refine wpAny_call (codeAny_mono (T s H I g) fun r s' h=>?_)
 cases r with
 | error e=>exact h
 | ok fl=>
  cases fl with
  | next=>exact False.elim h
  | brk=>exact False.elim h
  | cont=>exact False.elim h
  | ret u=>
   obtain⟨v,H',os,bare,un,hok,rv,p,rfl,hp,rfl⟩:=h
   have hI:=I.after (Q:=fun _ H2=>H2=upd H p (.tup [.int kf.1,.int kf.2])) ⟨.ref p,_,os,bare,un,hok,rv,rfl⟩
   obtain⟨_,H2,I2,_,rfl⟩:=hI
   cases rv
   exact⟨p,rfl,hp,I2,un⟩
variable{q l I S:Addr}{oq:Obj}{as:List Addr}{kf:Addr→Int×Int}{R:Result→Shared→Prop}
theorem Gr.rd{u:HO}{a:Addr}(g:Gr H0 H)(r:Rd H0 a u):Rd H a u:=by
 rcases r with r|⟨o,r⟩
 ·exact .inl (g a _ r)
 ·exact .inr ⟨o,g a _ r⟩
theorem isL(J:Inv X pins σ H s)(g:Gr H0 H)(hl:Rd H0 l (.lst (as.map V.ref))):s.heap.IsList l (as.map Value.ref).toArray:=by
 obtain⟨its,r,pl,hz⟩:=J.list (.inl (g.rd hl))
 rw[aeM r]at pl
 exact pl.isList
theorem abL{h h':Heap}{j:Nat}(hk:∀b o,h.get? b=some o→b=I→h'.get? b=some o)(x:h.IsListIter I l j):h'.IsListIter I l j:=by
 obtain⟨o,ho,r⟩:=x
 exact⟨o,hk I o ho rfl,r⟩
theorem akG(hh:X.A.handled=none)(hu:X.A.units+1<cLine)(hl0:Rd H0 l (.lst (as.map V.ref)))(hlI:l≠I)(hSI:S≠I)(MI:Mine X pins I)(MS:Mine X pins S)
  (turn:∀a∈as,ahL X pins σ H0 q a (kf a)):
  ∀(aaB:List Addr) (j:Nat) (ai kb:Addr) (s:Shared) (H:Hp) (c:Nat),as.drop (j+1)=aaB→j+1≤as.length→Inv X pins σ H s→Gr H0 H→H I=none→H S=none→s.heap.IsListIter I l (j+1)→
   s.heap.get? S=some (seqObj "list" #[.ref ai,.ref kb] c)→H kb=some (.tup [.int (kf ai).1,.int (kf ai).2])→(∀(s':Shared) (H':Hp),Inv X pins σ H' s'→Gr H0 H'→R (.ok (.ret (.ref (ab8 kf ai aaB)))) s')→
   codeAny (model X.prog X.w) X.A (.builtin "min.loop" ⟨[.ref I,.ref q,.ref S],[]⟩) R s:=by
 have hname:(toString "min"++toString ".loop":String)="min.loop":=by decide
 have W:=Walks.list (prog:=X.prog) (w:=X.w) (A:=X.A.in1) hh I l hlI (as.map Value.ref).toArray
 have hsz:(as.map Value.ref).toArray.size=as.length:=by simp
 intro aaB
 induction aaB with
 | nil=>
  intro j ai kb s H c hd hj J g nI nS hit hS hkb hR
  have hin:j+1=as.length:=by
   have:=congrArg List.length hd
   simp at this
   omega
  refine codeAny_builtin PySem.F.entry_min_loop ?_
  rw[Around.under_plainId PySem.F.plain_min_loop _]
  show wpAny _ X.A.in1 (seqItems? (.ref S) >>= _) _ _ _
  refine wpAny_bind (wpAny_seqItems hS rfl ?_)
  show wpAny _ X.A.in1 (tryCatch (pyNext (.ref I)) _ >>= _) _ _ _
  refine wpAny_bind (wpAny_tryCatch (W.done _ _ _ ⟨by rw[hsz,←hin];exact hit,isL J g hl0⟩ fun h' tk' hk'=>?_))
  have J1:=MI.turned (t':=tk') J (fun d o hd e=>hk' d o (by simpa using hd) e) nI
  have hS':=hk' S _ (by simpa using hSI) hS
  have s1:=Heap.SameBut.update h' S (Obj.mapSeq fun _=>(#[]:Array Value))
  show wpAny _ X.A.in1 (updateSeq S (fun _=>#[]) >>= _) _ _ _
  refine wpAny_bind ?_
  refine wpAny_updateSeq hS' rfl (wpAny_bind (wpAny_letGo (wpAny_pure ?_)))
  exact hR _ _ (MS.turned (t':=tk') J1 (fun d o hd e=>(s1.2 d hd).trans e) nS) g
 | cons a' aaB ih=>
  intro j ai kb s H c hd hj J g nI nS hit hS hkb hR
  have hlt:j+1<as.length:=by
   have:=congrArg List.length hd
   simp at this
   omega
  have ha':as[j+1]?=some a':=by
   have:=congrArg (fun x:List Addr=>x[0]?) hd
   simpa using this
  have hd':as.drop (j+1+1)=aaB:=by
   have:=congrArg List.tail hd
   simpa using this
  refine codeAny_builtin PySem.F.entry_min_loop ?_
  rw[Around.under_plainId PySem.F.plain_min_loop _]
  show wpAny _ X.A.in1 (seqItems? (.ref S) >>= _) _ _ _
  refine wpAny_bind (wpAny_seqItems hS rfl ?_)
  show wpAny _ X.A.in1 (tryCatch (pyNext (.ref I)) _ >>= _) _ _ _
  refine wpAny_bind (wpAny_tryCatch (W.item (j+1) _ _ _ (by rw[hsz];exact hlt) ⟨hit,isL J g hl0⟩ fun v h' tk' hP hst' hk'=>?_))
  have hv:v=.ref a':=by
   have:(as.map Value.ref)[j+1]?=some v:=by simpa using hP
   rw[List.getElem?_map,ha']at this
   exact(Option.some.inj this).symm
  subst hv
  have J1:=MI.turned (t':=tk') J (fun d o hd e=>hk' d o (by simpa using hd) e) nI
  have hS1:=hk' S _ (by simpa using hSI) hS
  have hit1:=hst'.1
  show wpAny _ X.A.in1 (tryCatch (holding [.ref a'] (call (.ref q) [.ref a'])) _ >>= _) _ _ _
  refine wpAny_bind (wpAny_tryCatch (wpAny_holding (wpAny_mono ((turn a' (List.mem_of_getElem? ha')).call J1 g) (fun x s2 he=>?_) fun _ _ hF=>hF.elim)))
  obtain⟨p,rfl,hp,J2,un⟩:=he
  have nI2:=un.free I _ hit1.choose_spec.1 nI (by simp)
  have nS2:=un.free S _ hS1 nS (by simp)
  have hS2:=un.keep S _ hS1 nS MS.f (by simp)
  have hit2:s2.heap.IsListIter I l (j+1+1):=abL (fun b o e z=>by subst z;exact un.keep b o e nI MI.f (by simp)) hit1
  have hkp:upd H p (.tup [.int (kf a').1,.int (kf a').2]) p=some (.tup [.int (kf a').1,.int (kf a').2]):=aaq
  have hkb2:upd H p (.tup [.int (kf a').1,.int (kf a').2]) kb=some (.tup [.int (kf ai).1,.int (kf ai).2]):=by
   rw[aag (fun z=>by rw[z,hp]at hkb;cases hkb)];exact hkb
  have g2:=g.new (o:=.tup [.int (kf a').1,.int (kf a').2]) hp
  generalize upd H p (.tup [.int (kf a').1,.int (kf a').2])=H2 at *
  obtain⟨i1,r1,p1,_⟩:=J2.tuple (.inl (.inl hkp))
  obtain⟨i2,r2,p2,_⟩:=J2.tuple (.inl (.inl hkb2))
  show wpAny _ X.A.in1 (tryCatch (holding [.ref a',.ref p] (richCompare .Lt (.ref p) (.ref kb) >>= _)) _ >>= _) _ _ _
  refine wpAny_bind (wpAny_tryCatch (wpAny_holding (wpAny_bind ?_)))
  have e1:PyProof.Rows.IntsAre i1.toArray.toList [(kf a').1,(kf a').2]:=ac3 (ns:=[(kf a').1,(kf a').2]) r1
  have e2:PyProof.Rows.IntsAre i2.toArray.toList [(kf ai).1,(kf ai).2]:=ac3 (ns:=[(kf ai).1,(kf ai).2]) r2
  refine HT.lt_tupInts p1 p2 e1 e2 hu ?_
  rw[akP]
  refine wpAny_bind (wpAny_holding (wpAny_truthy_bool ?_))
  refine wpAny_bind (wpAny_letGo (wpAny_pure ?_))
  by_cases hb':lt2 (kf a') (kf ai)=true
  ·have s1:=Heap.SameBut.update s2.heap S (Obj.mapSeq fun _=>#[.ref a',.ref p])
   obtain⟨c2,hc2⟩:∃c2,(s2.heap.update S (Obj.mapSeq fun _=>#[.ref a',.ref p])).get? S=some (seqObj "list" #[.ref a',.ref p] c2):=⟨_,PyProof.Rows.get?_update_seq hS2 fun _=>#[.ref a',.ref p]⟩
   simp only[hb',if_true]
   refine wpAny_bind ?_
   refine wpAny_updateSeq hS2 rfl (wpAny_bind (wpAny_letGo ?_))
   rw[hname]
   have eb:ab8 kf ai (a'::aaB)=ab8 kf a' aaB:=by
    show(if lt2 (kf a') (kf ai)then ab8 kf a' aaB else ab8 kf ai aaB)=_
    rw[if_pos hb']
   rw[eb]at hR
   exact wpAny_pure ⟨plainId_quiet PySem.F.plain_min_loop _,ih (j+1) a' p _ H2 c2 hd' hlt (MS.turned (t':=s2.toks) J2 (fun d o hd e=>(s1.2 d hd).trans e) nS2) g2 nI2 nS2 (abL (fun b o e z=>by subst z;exact(s1.2 b hSI.symm).trans e) hit2) hc2 hkp hR⟩
  ·simp only[hb',Bool.false_eq_true,if_false]
   refine wpAny_bind (wpAny_letGo ?_)
   rw[hname]
   have eb:ab8 kf ai (a'::aaB)=ab8 kf ai aaB:=by
    show(if lt2 (kf a') (kf ai)then ab8 kf a' aaB else ab8 kf ai aaB)=_
    rw[if_neg hb']
   rw[eb]at hR
   exact wpAny_pure ⟨plainId_quiet PySem.F.plain_min_loop _,ih (j+1) ai kb _ H2 c hd' hlt J2 g2 nI2 nS2 hit2 hS2 hkb2 hR⟩
end
section
variable{X:Cx}{pins:List (Addr×Obj)}{σ:L2.St}{H H0:Hp}{s:Shared}{q l:Addr}{as:List Addr}{kf:Addr→Int×Int}{E:Value→Shared→Prop}{Q:Value→Shared→Prop}
theorem amP{a0:Addr}{aaB:List Addr}(hh:X.A.handled=none)(hu:X.A.units+1<cLine)(has:as=a0::aaB)(hl0:Rd H0 l (.lst (as.map V.ref)))(turn:∀a∈as,ahL X pins σ H0 q a (kf a))(J:Inv X pins σ H s)(g:Gr H0 H)
  (hQ:∀(s':Shared) (H':Hp),Inv X pins σ H' s'→Gr H0 H'→Q (.ref (ab8 kf a0 aaB)) s'):
  wpAny (model X.prog X.w) X.A (call (.builtin "min") [.ref l] [(Str.ofString "key",.ref q)]) Q E s:=by
 have hname:(toString "min"++toString ".loop":String)="min.loop":=by decide
 have hls:=isL J g hl0
 obtain⟨ol,hol,_⟩:=id hls
 have hll:l<s.heap.objs.size:=Heap.lt_size hol
 refine PyProof.Rows.kmk_tree PySem.F.kind_min PySem.F.plain_min PySem.F.entry_min (PyProof.Rows.kmk_min_key _ _) ?_
 show wpAny _ X.A.in1 (Builtin.Builtins.bindParams "min" ["key","default"] 0 ⟨[],[(Str.ofString "key",.ref q)]⟩ >>= _) _ _ s
 refine wpAny_bind (wpAny_of_eq (show Builtin.Builtins.bindParams "min" ["key","default"] 0 ⟨[],[(Str.ofString "key",.ref q)]⟩=pure [some (.ref q),none]from rfl) ?_)
 refine wpAny_bind (wpAny_pure ?_)
 refine wpAny_bind (wpAny_pyIter_list hls ?_)
 refine wpAny_bind (wpAny_newList ?_ (Nat.zero_le _))
 rw[hname]
 generalize hI:s.heap.objs.size=I at *
 have gI:(s.heap.push { cls:=.type "list_iterator",data:=.fields #[.ref l,.int 0 0] }).get? I=some { cls:=.type "list_iterator",data:=.fields #[.ref l,.int 0 0] }:=by rw[←hI];exact Heap.get?_push_size _ rfl
 have MI:Mine X pins I:=Mine.of J (by omega)
 have nI:H I=none:=J.hok.fresh (by omega)
 have J1:Inv X pins σ H { s with heap:=s.heap.push { cls:=.type "list_iterator",data:=.fields #[.ref l,.int 0 0] } }:=J.kept (t':=s.toks) fun b u e=>Heap.get?_push_of_some _ e
 have hS0:(s.heap.push { cls:=.type "list_iterator",data:=.fields #[.ref l,.int 0 0] }).objs.size=I+1:=by rw[←hI,Heap.size_push]
 generalize s.heap.push { cls:=.type "list_iterator",data:=.fields #[.ref l,.int 0 0] }=h1 at *
 generalize hS:h1.objs.size=S at *
 have gS:(h1.push (seqObj "list" #[] 0)).get? S=some (seqObj "list" #[] 0):=by rw[←hS];exact Heap.get?_push_size _ rfl
 have MS:Mine X pins S:=Mine.of J1 (by show h1.objs.size≤S;omega)
 have nS:H S=none:=J1.hok.fresh (by show h1.objs.size≤S;omega)
 have gI2:(h1.push (seqObj "list" #[] 0)).get? I=some { cls:=.type "list_iterator",data:=.fields #[.ref l,.int 0 0] }:=Heap.get?_push_of_some _ gI
 have J2:Inv X pins σ H { s with heap:=h1.push (seqObj "list" #[] 0) }:=J1.kept (t':=s.toks) fun b u e=>Heap.get?_push_of_some _ e
 have hlI:l≠I:=Nat.ne_of_lt hll
 have hSI:S≠I:=fun z=>absurd (z▸hS0:I=I+1) (by omega)
 have W:=Walks.list (prog:=X.prog) (w:=X.w) (A:=X.A.in1) hh I l hlI (as.map Value.ref).toArray
 have hsz:(as.map Value.ref).toArray.size=as.length:=by simp
 have h0:as[0]?=some a0:=by rw[has];rfl
 have hne:0<as.length:=by rw[has];simp
 refine wpAny_pure ⟨plainId_quiet PySem.F.plain_min_loop _,?_⟩
 refine codeAny_builtin PySem.F.entry_min_loop ?_
 rw[Around.under_plainId PySem.F.plain_min_loop _]
 show wpAny _ X.A.in1 (seqItems? (.ref S) >>= _) _ _ _
 refine wpAny_bind (wpAny_seqItems gS rfl ?_)
 show wpAny _ X.A.in1 (tryCatch (pyNext (.ref I)) _ >>= _) _ _ _
 refine wpAny_bind (wpAny_tryCatch (W.item 0 _ _ _ (by rw[hsz];exact hne) ⟨⟨_,gI2,rfl,rfl⟩,isL J2 g hl0⟩ fun v h' tk' hP hst' hk'=>?_))
 have hv:v=.ref a0:=by
  have:(as.map Value.ref)[0]?=some v:=by simpa using hP
  rw[List.getElem?_map,h0]at this
  exact(Option.some.inj this).symm
 subst hv
 have J3:=MI.turned (t':=tk') J2 (fun d o hd e=>hk' d o (by simpa using hd) e) nI
 have hS1:=hk' S _ (by simpa using hSI) gS
 have hit1:=hst'.1
 show wpAny _ X.A.in1 (tryCatch (holding [.ref a0] (call (.ref q) [.ref a0])) _ >>= _) _ _ _
 refine wpAny_bind (wpAny_tryCatch (wpAny_holding (wpAny_mono ((turn a0 (List.mem_of_getElem? h0)).call J3 g) (fun x s2 he=>?_) fun _ _ hF=>hF.elim)))
 obtain⟨p,rfl,hp,J4,un⟩:=he
 have nI2:=un.free I _ hit1.choose_spec.1 nI (by simp)
 have nS2:=un.free S _ hS1 nS (by simp)
 have hS2:=un.keep S _ hS1 nS MS.f (by simp)
 have hit2:s2.heap.IsListIter I l (0+1):=abL (fun b o e z=>by subst z;exact un.keep b o e nI MI.f (by simp)) hit1
 have hkp:upd H p (.tup [.int (kf a0).1,.int (kf a0).2]) p=some (.tup [.int (kf a0).1,.int (kf a0).2]):=aaq
 have g2:=g.new (o:=.tup [.int (kf a0).1,.int (kf a0).2]) hp
 generalize upd H p (.tup [.int (kf a0).1,.int (kf a0).2])=H2 at *
 have s1:=Heap.SameBut.update s2.heap S (Obj.mapSeq fun _=>#[.ref a0,.ref p])
 obtain⟨c2,hc2⟩:∃c2,(s2.heap.update S (Obj.mapSeq fun _=>#[.ref a0,.ref p])).get? S=some (seqObj "list" #[.ref a0,.ref p] c2):=⟨_,PyProof.Rows.get?_update_seq hS2 fun _=>#[.ref a0,.ref p]⟩
 show wpAny _ X.A.in1 (updateSeq S (fun _=>#[.ref a0,.ref p]) >>= _) _ _ _
 refine wpAny_bind ?_
 refine wpAny_updateSeq hS2 rfl ?_
 rw[hname]
 exact wpAny_pure ⟨plainId_quiet PySem.F.plain_min_loop _,akG hh hu hl0 hlI hSI MI MS turn aaB 0 a0 p _ H2 c2 (by rw[has];rfl) hne (MS.turned (t':=s2.toks) J4 (fun d o hd e=>(s1.2 d hd).trans e) nS2) g2 nI2 nS2 (abL (fun b o e z=>by subst z;exact(s1.2 b hSI.symm).trans e) hit2) hc2 hkp hQ⟩
end
end IP
end
section
namespace IP
open PySem PySem.Spec L2
noncomputable def afe(a:Addr)(o:Obj):Heap→Prop:=fun h=>h.get? a=some o
theorem ahH{P:Program}{w:World}{H:Hp}{h:Heap}{a:Addr}{o:Obj}(e:h.get? a=some o):abc P w H h a (.ext (afe a o)):=⟨e,⟨o,e⟩,fun _ _ p k=>k o p⟩
theorem akk{P:Program}{w:World}{H:Hp}{h:Heap}{c:Addr}{q:Str}(e:h.CodeRec (.ref c) q):abc P w H h c (.ext (abQ c q)):=by
 refine⟨e,?_,fun h1 h2 p k=>?_⟩
 ·obtain⟨c',o,vs,t,e1,e2,_⟩:=e
  cases e1
  exact⟨o,e2⟩
 ·obtain⟨c',o,vs,t,e1,e2,r⟩:=p
  cases e1
  exact⟨c,o,vs,t,rfl,k o e2,r⟩
section
variable{X:Cx}{e:Expr}{es:List Expr}{t:TA}{tk:TA}{kws:List Keyword}{id:String}{x:Str}{p pos:Pos}{ks:List Str}
theorem aeV{r:List V→List V→Hp→VK→Prop}(hc:∀(pins:List (Addr×Obj)) (s:Shared) (σ:L2.St) (H:Hp) (vs zs:List V) (us ws:List Value) (Q:VK),Inv X pins σ H s→aa1 vs us→aa1 zs ws→r vs zs H Q→wpAny (model X.prog X.w) X.A (call (.builtin id) us (ks.zip ws)) (EP X pins σ Q) X.xe s)
  (hg:Gl X x) (hm:X.mg x=none) (hv:bootBuiltins x=some (.builtin id)) (ha:PA X (e::es) t) (hkw:PK X kws tk) (hall:(backToKw pos (keywordEach kws X.env)).all (·.1.isSome)=true:=by rfl) (hks:(backToKw pos (keywordEach kws X.env)).filterMap (·.1)=ks:=by rfl)
  (hn:x≠"__name__":=by decide) (hdb:(x==("__debug__":Str))=false:=by decide)
  (he:starEach (e::es) X.env=(false,eval e X.env)::starEach es X.env:=by rfl) (hpl:(backTo pos (starEach (e::es) X.env)).any (·.1)=false:=by rfl) (hpk:(backToKw pos (keywordEach kws X.env)).any (·.1.isNone)=false:=by rfl):
  PE X (.Call (.Name x p) (e::es) kws pos) (fun σ H Q=>t σ H fun vs H1=>tk σ H1 fun zs H2=>r vs zs H2 Q):=by
 intro pins s σ H Q I h
 refine wpAny_Call_Name_kw (adb I hg hm hv ?_ hn hdb)
 refine PyProof.Rows.callWith_builtin_kwB hpl hpk (PyProof.Rows.evalArgs_kw2 hall (thn (ha pos pins s σ H _ I h) fun us s1 ⟨vs,H1,I1,r1,q1⟩=>?_) he)
 refine thn (hkw pos pins s1 σ H1 _ I1 q1) fun ws s2 ⟨zs,H2,I2,rz,q2⟩=>?_
 rw[hks]
 exact hc pins s2 σ H2 vs zs us ws Q I2 r1 rz q2
theorem ahM:PK X [] ank:=fun _ _ _ _ H Q I h=>wpAny_evalAll_nil ⟨[],H,I,.nil,h⟩
end
section
variable{X:Cx}{params:Arguments}{body:Expr}{scope:Scope}{lpos:Pos}{P c0:Addr}
noncomputable abbrev adH(X:Cx)(params:Arguments)(body:Expr)(scope:Scope)(c:Addr)(ctv:Value):Obj:=PySem.W.kla_obj "<lambda>" (X.env.qual++"<lambda>") params body scope [] ((X.mg "__name__").getD .none) c ctv
noncomputable def axn(X:Cx)(params:Arguments)(body:Expr)(scope:Scope)(lpos:Pos)(P:Addr):TE:=fun _ H Q=>∃ps:Array Value,H P=some (.tbl ps)∧TriplesOk ps.toList∧
 (∀cv,codeAmong lpos ps.toList=some cv→∃c,cv=.ref c∧H c=some (.ext (abQ c (X.env.qual++"<lambda>"))))∧
 (∀f c ctv,codeAmong lpos ps.toList=some (.ref c)→H f=none→Q (.ref f) (upd H f (.ext (afe f (adH X params body scope c ctv)))))∧
 (∀f c ctv,codeAmong lpos ps.toList=none→H c=none→H f=none→c≠f→f≠P→c≠P→Q (.ref f) (upd (upd (upd H P (.tbl (ps++#[rawInt lpos.line,rawInt lpos.col,.ref c]))) c (.ext (abQ c (X.env.qual++"<lambda>")))) f (.ext (afe f (adH X params body scope c ctv)))))
theorem aen{h:Heap}{mg:Str→Option Value}{bm:Addr}{ob:Obj}(b1:mg "__builtins__"=some (.ref bm))(b2:bm≠builtinsNs)(b3:h.get? bm=some ob)(b4:ob.cls=.type "module")(b5:ob.dict=some builtinsNs)(b6:ob.data=.plain)(hG:∃m,h.Ns mainGlobals m){ps:Array Value}{P:Addr}(hP:h.get? P=some (PySem.W.tabObj ps)):h.BuiltinsAt mg P:=by
 refine⟨bm,ob,b1,b2,fun z=>?_,fun z=>?_,b3,b4,b5,b6⟩
 ·obtain⟨m,o,es,ep,e,hd,_⟩:=hG
  rw[z,e]at b3;cases b3;rw[hd]at b6;cases b6
 ·rw[z,hP]at b3;cases b3;cases b4
theorem af6{pins:List (Addr×Obj)}{σ:L2.St}{H:Hp}{s:Shared}{h':Heap}{t':Nat}{ps more:Array Value}{c f:Addr}{φ ψ:Heap→Prop}(I:Inv X pins σ H s)(hP:H P=some (.tbl ps))(hPh:s.heap.get? P=some (PySem.W.tabObj ps))(nc:H c=none)(nf:H f=none)(hcP:c≠P)(hfP:f≠P)(hcf:c≠f)
  (sc:s.heap.objs.size≤c) (sf:s.heap.objs.size≤f) (hk:∀b o,b≠P→s.heap.get? b=some o→h'.get? b=some o) (hP':h'.get? P=some (PySem.W.tabObj (ps++more)))
  (oc:∀{H':Hp},abc X.prog X.w H' h' c (.ext φ)) (of:∀{H':Hp},abc X.prog X.w H' h' f (.ext ψ)):
  Inv X pins σ (upd (upd (upd H P (.tbl (ps++more))) c (.ext φ)) f (.ext ψ)) { s with heap:=h',toks:=t' }:=by
 have old:∀b,b≠P→b≠c→b≠f→upd (upd (upd H P (.tbl (ps++more))) c (.ext φ)) f (.ext ψ) b=H b:=fun b h1 h2 h3=>by rw[aag h3,aag h2,aag h1]
 have atP:upd (upd (upd H P (.tbl (ps++more))) c (.ext φ)) f (.ext ψ) P=some (.tbl (ps++more)):=by rw[aag hfP.symm,aag hcP.symm,aaq]
 have lt:∀b o,s.heap.get? b=some o→b≠c∧b≠f:=fun b o e=>⟨fun z=>absurd (Heap.lt_size e) (by rw[z];exact Nat.not_lt.mpr sc),fun z=>absurd (Heap.lt_size e) (by rw[z];exact Nat.not_lt.mpr sf)⟩
 have nP:∀b,H b=none→b≠P:=fun b n z=>by rw[z,hP]at n;cases n
 have kp:∀b o,H b=some o→(∀qs,o≠.tbl qs)→upd (upd (upd H P (.tbl (ps++more))) c (.ext φ)) f (.ext ψ) b=some o:=fun b o e ne=>by
  rw[old b (fun z=>by rw[z,hP]at e;exact ne _ (Option.some.inj e).symm) (fun z=>by rw[z,nc]at e;cases e) (fun z=>by rw[z,nf]at e;cases e)];exact e
 refine I.un ⟨fun b o e n _ _=>hk b o (nP b n) e,fun b o e n _ _=>⟨o.slots,hk b o (nP b n) e⟩,fun b o e n _=>?_,fun b o e _=>?_,fun b xs e=>kp b _ e (by intro _ z;cases z),fun b o u e=>kp b _ e (by intro _ z;cases z),fun b qs e=>?_⟩ fun b o e=>?_
 ·rw[old b (nP b n) (lt b o e).1 (lt b o e).2];exact n
 ·by_cases z:b=P
  ·rw[z];exact⟨_,hP'⟩
  ·exact⟨o,hk b o z e⟩
 ·by_cases z:b=P
  ·subst z
   rw[hP]at e;cases e
   exact⟨more,atP⟩
  ·exact⟨#[],by rw[old b z (fun y=>by rw[y,nc]at e;cases e) (fun y=>by rw[y,nf]at e;cases e),e];simp⟩
 ·by_cases z1:b=f
  ·subst z1;rw[aaq]at e;cases e;exact of
  ·rw[aag z1]at e
   by_cases z2:b=c
   ·subst z2;rw[aaq]at e;cases e;exact oc
   ·rw[aag z2]at e
    by_cases z3:b=P
    ·subst z3;rw[aaq]at e;cases e;exact hP'
    ·rw[aag z3]at e
     refine(I.hok b o e).stay (fun d u hd q=>hk d u ?_ q) (fun d q=>kp d _ q (by intro _ z;cases z)) fun d xs q=>kp d _ q (by intro _ z;cases z)
     rcases hd with z|z
     ·rw[z];exact z3
     ·intro y;rw[y,hP]at z;cases z
theorem amU(hcode:X.env.code=.ref c0)(hC:PySem.W.CodeHd X.base c0 P)(hB:∃bm ob,X.mg "__builtins__"=some (.ref bm)∧bm≠builtinsNs∧X.base.get? bm=some ob∧ob.cls=.type "module"∧ob.dict=some builtinsNs∧ob.data=.plain)
  (hdef:defaultsOf params X.env=([],[]):=by rfl) (hcl:closureFor scope X.env=pure []:=by rfl):PE X (.Lambda params body scope lpos) (axn X params body scope lpos P):=by
 intro pins s σ H Q I ⟨ps,hP,ht,hc,q1,q2⟩
 have hPh:s.heap.get? P=some (PySem.W.tabObj ps):=I.hok P _ hP
 have hg:s.heap.Ns mainGlobals X.mg:=I.mod.glob.keeps I.bk
 obtain⟨bm,ob,b1,b2,b3,b4,b5,b6⟩:=hB
 have hb:=aen b1 b2 (I.bk _ _ b3) b4 b5 b6 ⟨_,hg⟩ hPh
 have hCs:=hC.keeps I.bk
 refine PySem.W.kla_eval hdef ?_
 cases hf:codeAmong lpos ps.toList with
 | some cv=>
  obtain⟨c,rfl,hcc⟩:=hc cv hf
  refine PySem.W.kla_makeFunctionHit (mg:=X.mg) hcl I.ok.glob hg hcode hCs hPh ht hf hb fun ctv h' tk hk hsz=>?_
  have e0:=Heap.get?_push_size h' (o:=adH X params body scope c ctv) rfl
  have J:=I.laid (a:=h'.objs.size) (o:=.ext (afe h'.objs.size (adH X params body scope c ctv))) (t':=tk) (h':=h'.push (adH X params body scope c ctv)) (fun b u e=>Heap.get?_push_of_some _ (hk b u e)) hsz (ahH e0)
  exact⟨.ref h'.objs.size,_,J,rfl,q1 _ _ _ hf (I.hok.fresh hsz)⟩
 | none=>
  have hgP:mainGlobals≠P:=fun z=>by
   obtain⟨o,es,ep,e,hd,_⟩:=hg
   rw[z,hPh]at e;cases e;cases hd
  refine PySem.W.kla_makeFunction (mg:=X.mg) hcl I.ok.glob hg hcode hCs hPh ht hf hgP hb fun c' ctv h' tk hx hge hlt hrec htb=>?_
  have hss:s.heap.objs.size≤h'.objs.size:=Nat.le_trans hge (Nat.le_of_lt hlt)
  have hfP:h'.objs.size≠P:=fun z=>absurd (Heap.lt_size hPh) (by rw[←z];exact Nat.not_lt.mpr hss)
  have hcP:c'≠P:=fun z=>absurd (Heap.lt_size hPh) (by rw[←z];exact Nat.not_lt.mpr hge)
  have hcf:c'≠h'.objs.size:=Nat.ne_of_lt hlt
  have nc:H c'=none:=I.hok.fresh hge
  have nf:H h'.objs.size=none:=I.hok.fresh hss
  have hkk:∀b o,b≠P→s.heap.get? b=some o→(h'.push (adH X params body scope c' ctv)).get? b=some o:=fun b o n e=>Heap.get?_push_of_some _ (hx b o n e)
  have J:=af6 (t':=tk) I hP hPh nc nf hcP hfP hcf hge hss hkk (Heap.get?_push_of_some _ htb) (akk (hrec.push _)) (ahH (Heap.get?_push_size h' (o:=adH X params body scope c' ctv) rfl))
  exact⟨.ref h'.objs.size,_,J,rfl,q2 _ _ _ hf nc nf hcf hfP hcP⟩
end
section
variable{G:Gx}{X:Cx}{w:Wo}{H H':Hp}{st:Sto}
theorem Gr.refl(H:Hp):Gr H H:=fun _ _ e=>e
theorem Gr.trans{H H1 H2:Hp}(a:Gr H H1)(b:Gr H1 H2):Gr H H2:=fun x o e=>b x o (a x o e)
theorem Gr.le(g:Gr H H'):Le w w H H' where
 n:=Nat.le_refl _
 io:=fun _ _=>rfl
 Z:=fun _ z=>z
 keep:=fun a o e _=>g a o e
 newL:=fun l a b=>absurd (Nat.lt_of_lt_of_le b a) (Nat.lt_irrefl _)
 newZ:=fun _ z=>.inl z
 some_:=fun a z=>by
  cases e:H a with
  | none=>exact absurd e z
  | some u=>rw[g a u e];intro q;cases q
theorem StoOk.gr(S:StoOk G w H st)(g:Gr H H'):StoOk G w H' st:=S.grow g.le rfl (fun l hl=>by
 rcases S.loc hl with⟨vs,y⟩|⟨c,dx,kvs,y⟩|⟨ps,y⟩<;>rw[y,g _ _ y]) (fun a z=>by
 obtain⟨vs,r⟩:=S.zt a z
 exact⟨vs,g.rd r⟩)
noncomputable def aiK(H:Hp)(i j:Nat)(a:Addr):Int×Int:=match H a with
 | some (.tup ws)=>match ws[i]?,ws[j]? with
  | some (.int x),some (.int y)=>(x,y)
  | _,_=>(0,0)
 | _=>(0,0)
noncomputable def ae9(H:Hp)(i j:Nat)(k:Int×Int)(a:Addr):Prop:=∃ws,H a=some (.tup ws)∧ws[i]?=some (.int k.1)∧ws[j]?=some (.int k.2)
theorem ae9.is{i j:Nat}{k:Int×Int}{a:Addr}(h:ae9 H i j k a):aiK H i j a=k:=by
 obtain⟨ws,e1,e2,e3⟩:=h
 unfold aiK
 rw[e1]
 simp only[e2,e3]
theorem alo{i j:Nat}{t:T}{v:V}{k:Int×Int}(r:Rep G w H t v)(h:ap7 i j t=some k):∃a,v=.ref a∧ae9 H i j k a:=by
 unfold ap7 at h
 split at h
 ·rename_i ts
  split at h
  ·rename_i x y e1 e2
   cases h
   obtain⟨a,vs,rfl,ha,hs⟩:=r
   obtain⟨v1,g1,r1⟩:=hs.get e1
   obtain⟨v2,g2,r2⟩:=hs.get e2
   cases r1
   cases r2
   exact⟨a,rfl,vs,ha,g1,g2⟩
  ·cases h
 ·cases h
theorem agt{i j:Nat}:∀{ts:List T}{vs:List V}{ks:List (Int×Int)},aam G w H ts vs→agS i j ts=some ks→∃as:List Addr,vs=as.map V.ref∧ks=as.map (aiK H i j)∧∀a∈as,ae9 H i j (aiK H i j a) a
 | [],_,ks,h,e=>by
  cases h
  cases e
  exact⟨[],rfl,rfl,by simp⟩
 | t::ts,_,ks,⟨v,r,e1,h1,h2⟩,e=>by
  subst e1
  unfold agS at e
  split at e
  ·rename_i x y ex ey
   cases e
   obtain⟨a,rfl,ka⟩:=alo h1 ex
   obtain⟨as,rfl,rfl,q⟩:=agt h2 ey
   refine⟨a::as,rfl,by rw[List.map_cons,ka.is],fun b hb=>?_⟩
   rcases List.mem_cons.mp hb with rfl|hb
   ·rw[ka.is];exact ka
   ·exact q b hb
  ·cases e
theorem adP{kf:Addr→Int×Int}:∀{tr:List T}{as:List Addr}{t:T}{a:Addr},Rep G w H t (.ref a)→aam G w H tr (as.map V.ref)→Rep G w H (adz (kf a) t ((as.map kf).zip tr)) (.ref (ab8 kf a as))
 | [],[],t,a,h,_=>h
 | [],b::as,t,a,h,q=>by cases q
 | t'::tr,[],t,a,h,q=>by obtain⟨v,r,e,_⟩:=q;cases e
 | t'::tr,b::as,t,a,h,q=>by
  obtain⟨v,r,e,h1,h2⟩:=q
  cases e
  show Rep G w H (if lt2 (kf b) (kf a)then adz (kf b) t' ((as.map kf).zip tr)else adz (kf a) t ((as.map kf).zip tr)) (.ref (if lt2 (kf b) (kf a)then ab8 kf b as else ab8 kf a as))
  split
  ·exact adP h1 h2
  ·exact adP h h2
theorem akT{i j:Nat}{ts:List T}{t:T}{vs:List V}(r:aam G w H ts vs)(h:am1 i j ts=some t):∃a0 aaB,vs=(a0::aaB).map V.ref∧(∀a∈a0::aaB,ae9 H i j (aiK H i j a) a)∧Rep G w H t (.ref (ab8 (aiK H i j) a0 aaB)):=by
 unfold am1 at h
 split at h
 ·rename_i k ks t0 tr ek
  cases h
  obtain⟨as,rfl,e2,q⟩:=agt r ek
  cases as with
  | nil=>cases e2
  | cons a0 aaB=>
   rw[List.map_cons]at e2
   cases e2
   obtain⟨v,r',e,h1,h2⟩:=r
   cases e
   exact⟨a0,aaB,rfl,q,adP h1 h2⟩
 ·cases h
end
section
variable{G:Gx}{X:Cx}{C:Cf}{params:Arguments}{body:Expr}{scope:Scope}{lpos p pos kpos:Pos}{c0:Addr}{x:Str}{a:Expr}{a':E}{i j k l kk:Nat}
theorem aju{pins:List (Addr×Obj)}{σ:L2.St}{H0:Hp}{q b c:Addr}{ctv:Value}{kf:Int×Int}(hr:Room (k+1) X.A)(S:FnScope [x] [x] scope)
  (hb:∀(pm cv ctv u:Value),bindArgs (PySem.W.kla_fn "<lambda>" (X.env.qual++"<lambda>") params body scope [] pm cv ctv) ⟨[u],[]⟩=pure [(x,u)])
  (hbody:∀Y:Cx,Y.N[0]?=some x→Y.env.scope=scope→PE Y body (akL Y.K i j)) (hq:H0 q=some (.ext (afe q (adH X params body scope c ctv)))) (hc:H0 c=some (.ext (abQ c (X.env.qual++"<lambda>")))) (hk:ae9 H0 i j kf b):ahL X pins σ H0 q b kf:=by
 intro s H J g
 have e1:s.heap.get? q=some (adH X params body scope c ctv):=(J.hok q _ (g _ _ hq)).1
 have e2:s.heap.CodeRec (.ref c) (X.env.qual++"<lambda>"):=(J.hok c _ (g _ _ hc)).1
 obtain⟨ws,h1,h2,h3⟩:=hk
 refine amr (k:=k) (N:=[x]) (ps:=[x]) (us:=[.ref b]) (vs:=[.ref b]) e1 e2 S hr.in1 J.env0.in1 (hb _ _ _ _) rfl (.cons rfl .nil) (hbody _ rfl rfl) ?_
 have at_:∀{n:Nat}{v:V},ws[n]?=some v→atI ws (n:Int)=some v:=fun {n v} e=>by
  have hl:=(List.getElem?_eq_some_iff.mp e).1
  have h2:=(List.getElem?_eq_some_iff.mp e).2
  simp[L2.atI,L2.ixN,hl,h2]
 refine⟨.ref b,rfl,b,ws,i,.int kf.1,rfl,rfl,.inl (.inl (g _ _ h1)),at_ h2,.ref b,rfl,b,ws,j,.int kf.2,rfl,rfl,.inl (.inl (g _ _ h1)),at_ h3,?_⟩
 exact⟨by show 2≤sizeLine;decide,fun p hp=>⟨p,rfl,hp,rfl⟩⟩
noncomputable def auY(X:Cx)(params:Arguments)(body:Expr)(scope:Scope)(i j:Nat):List V→List V→Hp→VK→Prop:=fun vs zs H Q=>∃l q a0 aaB kf c ctv,vs=[.ref l]∧zs=[.ref q]∧Rd H l (.lst ((a0::aaB:List Addr).map V.ref))∧
 (∀b∈a0::aaB,ae9 H i j (kf b) b)∧H q=some (.ext (afe q (adH X params body scope c ctv)))∧H c=some (.ext (abQ c (X.env.qual++"<lambda>")))∧∀H',Gr H H'→Q (.ref (ab8 kf a0 aaB)) H'
theorem agy{H:Hp}{a b:Addr}{u v:HO}(h:a≠b):upd (upd H a u) b v=upd (upd H b v) a u:=by
 funext d
 unfold upd
 by_cases h1:d=a
 ·by_cases h2:d=b
  ·exact absurd (h1.symm.trans h2) h
  ·simp[h1,h2,h]
 ·by_cases h2:d=b
  ·simp[h1,h2]
   intro z;exact absurd z.symm h
  ·simp[h1,h2]
theorem an3(hr:Room (k+1) X.A)(hcm:X.calm=true)(hcode:X.env.code=.ref c0)(hC:PySem.W.CodeHd X.base c0 (G.iA kk))(hB:∃bm ob,X.mg "__builtins__"=some (.ref bm)∧bm≠builtinsNs∧X.base.get? bm=some ob∧ob.cls=.type "module"∧ob.dict=some builtinsNs∧ob.data=.plain)
  (ha:PE X a (tV G X C a')) (hm:X.mg "min"=none) (S:FnScope [x] [x] scope)
  (hb:∀(pm cv ctv u:Value),bindArgs (PySem.W.kla_fn "<lambda>" (X.env.qual++"<lambda>") params body scope [] pm cv ctv) ⟨[u],[]⟩=pure [(x,u)])
  (hbody:∀Y:Cx,Y.N[0]?=some x→Y.env.scope=scope→PE Y body (akL Y.K i j)) (hg:Gl X "min":=by rfl) (hs:starEach [a] X.env=[(false,eval a X.env)]:=by rfl) (hdef:defaultsOf params X.env=([],[]):=by rfl) (hcl:closureFor scope X.env=pure []:=by rfl):
  PE X (.Call (.Name "min" p) [a] [⟨some "key",.Lambda params body scope lpos,kpos⟩] pos) (tV G X C (.mnk a' i j l kk lpos (X.env.qual++"<lambda>"))):=by
 refine PE.imp (aeV (id:="min") (ks:=["key"]) (r:=auY X params body scope i j) ?_ hg hm rfl (aa9 ha aaY hs) (ahc (amU (P:=G.iA kk) hcode hC hB hdef hcl) ahM) rfl rfl (by decide) (by decide) hs (by rw[hs];rfl) rfl) ?_
 ·rintro pins s σ H vs zs us ws Q I rv rz ⟨l,q,a0,aaB,kf,c,ctv,rfl,rfl,hl,hk,hq,hc,fin⟩
  obtain⟨u,rfl,ru⟩:=rv.one
  obtain⟨zz,rfl,rq⟩:=rz.one
  cases ru
  obtain rfl:zz=Value.ref q:=rq
  exact amP (Q:=EP X pins σ Q) (I.ok.hd hcm) (ar3 hr) rfl hl (fun b hb'=>aju hr S hb hbody hq hc (hk b hb')) I (Gr.refl H) fun s' H' J g=>⟨.ref (ab8 kf a0 aaB),H',J,rfl,fin H' g⟩
 ·rintro σV H Q ⟨w₀,H₀,w,σ,st,g,h⟩
  have hev:ev C (.mnk a' i j l kk lpos (X.env.qual++"<lambda>")) .v σ st=(ev C a' .v σ st).bind fun x s1=>.of (if aeB s1 l kk lpos (X.env.qual++"<lambda>")then x.seq.bind fun ts=>(am1 i j ts).map .val else none) s1:=by
   rw[ev];rfl
  rw[hev]at h
  refine⟨w₀,H₀,w,σ,st,g,h.bind.imp ?_⟩
  rintro v H1 ⟨w1,r,s1,L1,S1,R1,h2⟩
  obtain⟨r',e,cont⟩:=h2.of
  by_cases ht:aeB s1 l kk lpos (X.env.qual++"<lambda>")=true
  ·rw[if_pos ht]at e
   obtain⟨ts,e1,e2⟩:=Option.bind_eq_some_iff.mp e
   obtain⟨t,e3,rfl⟩:=map_some e2
   obtain⟨la,vs,rfl,hla,rs⟩:=R1.seq (s:=s1) e1
   obtain⟨a0,aaB,rfl,hka,rb⟩:=akT rs e3
   have acL:s1[l]?=some (.tbl kk lpos (X.env.qual++"<lambda>")):=by
    unfold aeB at ht
    split at ht
    ·rename_i k' p' q' ez
     simp only[Bool.and_eq_true,decide_eq_true_eq]at ht
     obtain⟨⟨rfl,rfl⟩,rfl⟩:=ht
     exact ez
    ·cases ht
   have hln:l<w1.n:=by rw[←S1.len];exact(List.getElem?_eq_some_iff.mp acL).1
   obtain⟨hio,ps,hP,htr,hcv⟩:=S1.cell l _ acL
   rw[hio]at hP
   have last:∀(H2:Hp) (f c:Addr) (ctv:Value),Le w1 w1 H1 H2→StoOk G w1 H2 s1→Rd H2 la (.lst ((a0::aaB).map V.ref))→(∀b∈a0::aaB,ae9 H2 i j (aiK H1 i j b) b)→H2 f=some (.ext (afe f (adH X params body scope c ctv)))→H2 c=some (.ext (abQ c (X.env.qual++"<lambda>")))→
     auY X params body scope i j [.ref la] [.ref f] H2 Q:=fun H2 f c ctv L2 S2 rd hk hf hc=>⟨la,f,a0,aaB,aiK H1 i j,c,ctv,rfl,rfl,rd,hk,hf,hc,fun H' gr=>cont w1 H' _ (L2.trans gr.le) (S2.gr gr) (Rep.mono (L2.trans gr.le) S1 t _ rb)⟩
   refine⟨ps,hP,htr,hcv,fun f c ctv hf nf=>?_,fun f c ctv hf nc nf hcf hfP hcP=>?_⟩
   ·have gr:Gr H1 (upd H1 f (.ext (afe f (adH X params body scope c ctv)))):=(Gr.refl H1).new nf
    obtain⟨c',e',hc'⟩:=hcv _ hf
    cases e'
    exact last _ f c ctv gr.le (S1.gr gr) (gr.rd hla) (fun b hb'=>let ⟨ws,q1,q2,q3⟩:=hka b hb';⟨ws,gr _ _ q1,q2,q3⟩) aaq (gr _ _ hc')
   ·have g1:Gr H1 (upd H1 c (.ext (abQ c (X.env.qual++"<lambda>")))):=(Gr.refl H1).new nc
    have g2:Gr H1 (upd (upd H1 c (.ext (abQ c (X.env.qual++"<lambda>")))) f (.ext (afe f (adH X params body scope c ctv)))):=g1.new (by rw[aag hcf.symm];exact nf)
    have S2:=S1.gr g2
    have eH:upd (upd (upd H1 (G.iA kk) (.tbl (ps++#[rawInt lpos.line,rawInt lpos.col,.ref c]))) c (.ext (abQ c (X.env.qual++"<lambda>")))) f (.ext (afe f (adH X params body scope c ctv)))=upd (upd (upd H1 c (.ext (abQ c (X.env.qual++"<lambda>")))) f (.ext (afe f (adH X params body scope c ctv)))) (w1.io l) (.tbl (ps++#[rawInt lpos.line,rawInt lpos.col,.ref c])):=by
     rw[hio,agy hcP.symm,agy hfP.symm]
    have hP2:upd (upd H1 c (.ext (abQ c (X.env.qual++"<lambda>")))) f (.ext (afe f (adH X params body scope c ctv))) (w1.io l)=some (.tbl ps):=by rw[hio];exact g2 _ _ hP
    have hfw:f≠w1.io l:=by rw[hio];exact hfP
    have hcw:c≠w1.io l:=by rw[hio];exact hcP
    rw[eH]
    have ef:upd (upd (upd H1 c (.ext (abQ c (X.env.qual++"<lambda>")))) f (.ext (afe f (adH X params body scope c ctv)))) (w1.io l) (.tbl (ps++#[rawInt lpos.line,rawInt lpos.col,.ref c])) f=some (.ext (afe f (adH X params body scope c ctv))):=by rw[aag hfw,aaq]
    have ec:upd (upd (upd H1 c (.ext (abQ c (X.env.qual++"<lambda>")))) f (.ext (afe f (adH X params body scope c ctv)))) (w1.io l) (.tbl (ps++#[rawInt lpos.line,rawInt lpos.col,.ref c])) c=some (.ext (abQ c (X.env.qual++"<lambda>"))):=by rw[aag hcw,aag hcf,aaq]
    have S3:=S2.setC (c:=.tbl kk lpos (X.env.qual++"<lambda>")) (o':=.tbl (ps++#[rawInt lpos.line,rawInt lpos.col,.ref c])) hln hP2 (by intro _ z;cases z) (by intro _ z;cases z) ⟨hio,_,aaq,by
     have:=TriplesOk_snoc lpos.line lpos.col (.ref c) ps.toList htr
     simpa using this,fun cv hcv'=>by
     have:=codeAmong_snoc (pos:=lpos) (c:=.ref c) ps.toList htr hf
     have e4:codeAmong lpos (ps++#[rawInt lpos.line,rawInt lpos.col,.ref c]).toList=some (.ref c):=by simpa using this
     rw[e4]at hcv'
     cases hcv'
     exact⟨c,rfl,ec⟩⟩
    have eset:s1.set l (.tbl kk lpos (X.env.qual++"<lambda>"))=s1:=by
     have hl':=(List.getElem?_eq_some_iff.mp acL).1
     rw[← (List.getElem?_eq_some_iff.mp acL).2]
     exact List.set_getElem_self hl'
    rw[eset]at S3
    have L3:Le w1 w1 H1 _:=(g2.le (w:=w1)).setC (o':=.tbl (ps++#[rawInt lpos.line,rawInt lpos.col,.ref c])) hln (by rw[hP2];intro z;cases z)
    have rdK:∀{b:Addr}{o:HO},H1 b=some o→(∀qs,o≠.tbl qs)→upd (upd (upd H1 c (.ext (abQ c (X.env.qual++"<lambda>")))) f (.ext (afe f (adH X params body scope c ctv)))) (w1.io l) (.tbl (ps++#[rawInt lpos.line,rawInt lpos.col,.ref c])) b=some o:=fun {b o} e ne=>by
     rw[aag (fun z=>by rw[z,hio,hP]at e;exact ne _ (Option.some.inj e).symm)];exact g2 _ _ e
    refine last _ f c ctv L3 S3 ?_ (fun b hb'=>let ⟨ws,q1,q2,q3⟩:=hka b hb';⟨ws,rdK q1 (by intro _ z;cases z),q2,q3⟩) ef ec
    rcases hla with z|⟨o,z⟩
    ·exact .inl (rdK z (by intro _ z;cases z))
    ·exact .inr ⟨o,rdK z (by intro _ z;cases z)⟩
  ·rw[if_neg ht]at e
   cases e
end
end IP
end
section
namespace IP
open PySem PySem.Spec L2
open PyProof.Rows (seqObj)
section
variable{prog:Program}{w:World}{A:Around}{l I S:Addr}{its:List Value}{is:List Int}{kw:List (Str×Value)}{R:Result→Shared→Prop}{E:Value→Shared→Prop}{Q:Value→Shared→Prop}
noncomputable def mxF(m x:Int):Int:=if x>m then x else m
theorem adW:∀{its:List Value}{is:List Int}{j:Nat}{i:Int}{v:Value},PyProof.Rows.IntsAre its is→is[j]?=some i→its[j]?=some v→∃t,v=.int i t
 | _,_,j,i,v,.nil,h,_=>by simp at h
 | _,_,0,i,v,.cons a t r,h,q=>by simp at h q;subst h;exact⟨_,q.symm⟩
 | _,_,j+1,i,v,.cons a t r,h,q=>adW r (by simpa using h) (by simpa using q)
theorem amp(hh:A.handled=none)(hi:PyProof.Rows.IntsAre its is)(hlI:l≠I)(hlS:l≠S)(hSI:S≠I):
  ∀(aaB:List Int) (j:Nat) (m:Int) (tm:Tok) (s:Shared) (c:Nat),is.drop (j+1)=aaB→j+1≤is.length→s.heap.IsList l its.toArray→s.heap.IsListIter I l (j+1)→s.heap.get? S=some (seqObj "list" #[.int m tm,.int m tm] c)→
   (∀(h':Heap) (tk:Nat) (t:Tok),(∀b o,b≠I→b≠S→s.heap.get? b=some o→h'.get? b=some o)→R (.ok (.ret (.int (aaB.foldl mxF m) t))) { s with heap:=h',toks:=tk })→
   codeAny (model prog w) A (.builtin "max.loop" ⟨[.ref I,.none,.ref S],kw⟩) R s:=by
 have hname:(toString "max"++toString ".loop":String)="max.loop":=by decide
 have W:=Walks.list (prog:=prog) (w:=w) (A:=A.in1) hh I l hlI its.toArray
 have hsz:its.toArray.size=is.length:=by rw[List.size_toArray,hi.length]
 intro aaB
 induction aaB with
 | nil=>
  intro j m tm s c hd hj hl hit hS hR
  have hin:j+1=is.length:=by
   have:=congrArg List.length hd
   simp at this
   omega
  refine codeAny_builtin PySem.F.entry_max_loop ?_
  rw[Around.under_plainId PySem.F.plain_max_loop _]
  show wpAny _ A.in1 (seqItems? (.ref S) >>= _) _ _ _
  refine wpAny_bind (wpAny_seqItems hS rfl ?_)
  show wpAny _ A.in1 (tryCatch (pyNext (.ref I)) _ >>= _) _ _ _
  refine wpAny_bind (wpAny_tryCatch (W.done _ _ _ ⟨by rw[hsz,←hin];exact hit,hl⟩ fun h' tk' hk'=>?_))
  have hS':=hk' S _ (by simpa using hSI) hS
  have s1:=Heap.SameBut.update h' S (Obj.mapSeq fun _=>(#[]:Array Value))
  show wpAny _ A.in1 (updateSeq S (fun _=>#[]) >>= _) _ _ _
  refine wpAny_bind ?_
  refine wpAny_updateSeq hS' rfl (wpAny_bind (wpAny_letGo (wpAny_pure ?_)))
  exact hR _ _ tm fun b o h1 h2 e=>(s1.2 b h2).trans (hk' b o (by simpa using h1) e)
 | cons x aaB ih=>
  intro j m tm s c hd hj hl hit hS hR
  have hlt:j+1<is.length:=by
   have:=congrArg List.length hd
   simp at this
   omega
  have hx:is[j+1]?=some x:=by
   have:=congrArg (fun x:List Int=>x[0]?) hd
   simpa using this
  have hd':is.drop (j+1+1)=aaB:=by
   have:=congrArg List.tail hd
   simpa using this
  refine codeAny_builtin PySem.F.entry_max_loop ?_
  rw[Around.under_plainId PySem.F.plain_max_loop _]
  show wpAny _ A.in1 (seqItems? (.ref S) >>= _) _ _ _
  refine wpAny_bind (wpAny_seqItems hS rfl ?_)
  show wpAny _ A.in1 (tryCatch (pyNext (.ref I)) _ >>= _) _ _ _
  refine wpAny_bind (wpAny_tryCatch (W.item (j+1) _ _ _ (by rw[hsz];exact hlt) ⟨hit,hl⟩ fun v h' tk' hP hst' hk'=>?_))
  obtain⟨tx,rfl⟩:=adW hi hx (by simpa using hP)
  have hS1:=hk' S _ (by simpa using hSI) hS
  have hit1:=hst'.1
  have hl1:=hst'.2
  refine wpAny_bind (wpAny_pure ?_)
  show wpAny _ A.in1 (tryCatch (holding [.int x tx,.int x tx] (richCompare .Gt (.int x tx) (.int m tm) >>= _)) _ >>= _) _ _ _
  refine wpAny_bind (wpAny_tryCatch (wpAny_holding (wpAny_bind (CmpOf.ints_gt (prog:=prog) (w:=w) (A:=A.in1) (P:=fun i v=>∃t,v=.int (if i=0 then x else m) t) (fun i=>if i=0 then x else m) (fun i v h=>h) 0 1 _ _ _ _ _ ⟨tx,rfl⟩ ⟨tm,rfl⟩ ?_))))
  refine wpAny_bind (wpAny_holding (wpAny_truthy_bool ?_))
  refine wpAny_bind (wpAny_letGo (wpAny_pure ?_))
  by_cases hb':x>m
  ·have s1:=Heap.SameBut.update h' S (Obj.mapSeq fun _=>#[.int x tx,.int x tx])
   obtain⟨c2,hc2⟩:∃c2,(h'.update S (Obj.mapSeq fun _=>#[.int x tx,.int x tx])).get? S=some (seqObj "list" #[.int x tx,.int x tx] c2):=⟨_,PyProof.Rows.get?_update_seq hS1 fun _=>#[.int x tx,.int x tx]⟩
   have e:(decide ((if(0:Nat)=0 then x else m)>if(1:Nat)=0 then x else m))=true:=by simpa using hb'
   simp only[eq_self,if_true,Nat.one_ne_zero,if_false,hb',decide_true]
   refine wpAny_bind ?_
   refine wpAny_updateSeq hS1 rfl (wpAny_bind (wpAny_letGo ?_))
   rw[hname]
   have ef:(x::aaB).foldl mxF m=aaB.foldl mxF x:=by rw[List.foldl_cons];unfold mxF;rw[if_pos hb']
   rw[ef]at hR
   refine wpAny_pure ⟨plainId_quiet PySem.F.plain_max_loop _,ih (j+1) x tx _ c2 hd' hlt ?_ (abL (fun b o e z=>by subst z;exact(s1.2 b hSI.symm).trans e) hit1) hc2 fun h2 tk t hk=>?_⟩
   ·obtain⟨o,e1,r⟩:=hl1
    exact⟨o,(s1.2 l hlS).trans e1,r⟩
   ·exact hR h2 tk t fun b o h1 h3 e=>hk b o h1 h3 ((s1.2 b h3).trans (hk' b o (by simpa using h1) e))
  ·have e:(decide ((if(0:Nat)=0 then x else m)>if(1:Nat)=0 then x else m))=false:=by simpa using hb'
   simp only[eq_self,if_true,Nat.one_ne_zero,if_false,hb',decide_false,Bool.false_eq_true]
   refine wpAny_bind (wpAny_letGo ?_)
   rw[hname]
   have ef:(x::aaB).foldl mxF m=aaB.foldl mxF m:=by rw[List.foldl_cons];unfold mxF;rw[if_neg hb']
   rw[ef]at hR
   exact wpAny_pure ⟨plainId_quiet PySem.F.plain_max_loop _,ih (j+1) m tm _ c hd' hlt hl1 hit1 hS1 fun h2 tk t hk=>hR h2 tk t fun b o h1 h3 e=>hk b o h1 h3 (hk' b o (by simpa using h1) e)⟩
theorem ai9(a v:Value):argsOk "max" ⟨[a],[(Str.ofString "default",v)]⟩:=by unfold argsOk;kernel_rfl
theorem alh{d:Value}{s:Shared}(hh:A.handled=none)(hi:PyProof.Rows.IntsAre its is)(hl:s.heap.IsList l its.toArray)
  (hQ:∀(v:Value) (h':Heap) (tk:Nat),(∀b o,s.heap.get? b=some o→h'.get? b=some o)→(∀m,aes is=some m→∃t,v=.int m t)→(aes is=none→v=d)→Q v { s with heap:=h',toks:=tk }):
  wpAny (model prog w) A (call (.builtin "max") [.ref l] [(Str.ofString "default",d)]) Q E s:=by
 have hname:(toString "max"++toString ".loop":String)="max.loop":=by decide
 obtain⟨ol,hol,_⟩:=id hl
 have hll:l<s.heap.objs.size:=Heap.lt_size hol
 refine PyProof.Rows.kmk_tree PySem.F.kind_max PySem.F.plain_max PySem.F.entry_max (ai9 _ _) ?_
 show wpAny _ A.in1 (Builtin.Builtins.bindParams "max" ["key","default"] 0 ⟨[],[(Str.ofString "default",d)]⟩ >>= _) _ _ s
 refine wpAny_bind (wpAny_of_eq (show Builtin.Builtins.bindParams "max" ["key","default"] 0 ⟨[],[(Str.ofString "default",d)]⟩=pure [none,some d]from rfl) ?_)
 refine wpAny_bind (wpAny_pure ?_)
 refine wpAny_bind (wpAny_pyIter_list hl ?_)
 refine wpAny_bind (wpAny_newList ?_ (Nat.zero_le _))
 rw[hname]
 have gI:(s.heap.push { cls:=.type "list_iterator",data:=.fields #[.ref l,.int 0 0] }).get? s.heap.objs.size=some { cls:=.type "list_iterator",data:=.fields #[.ref l,.int 0 0] }:=Heap.get?_push_size _ rfl
 have hk1:∀b o,s.heap.get? b=some o→(s.heap.push { cls:=.type "list_iterator",data:=.fields #[.ref l,.int 0 0] }).get? b=some o:=fun b o e=>Heap.get?_push_of_some _ e
 have hS0:(s.heap.push { cls:=.type "list_iterator",data:=.fields #[.ref l,.int 0 0] }).objs.size=s.heap.objs.size+1:=Heap.size_push ..
 have nI:∀b o,s.heap.get? b=some o→b≠s.heap.objs.size:=fun b o e=>Nat.ne_of_lt (Heap.lt_size e)
 have nS0:∀b o,s.heap.get? b=some o→b≠s.heap.objs.size+1:=fun b o e=>Nat.ne_of_lt (Nat.lt_succ_of_lt (Heap.lt_size e))
 generalize s.heap.push { cls:=.type "list_iterator",data:=.fields #[.ref l,.int 0 0] }=h1 at *
 rw[hS0]
 have gS:(h1.push (seqObj "list" #[] 0)).get? (s.heap.objs.size+1)=some (seqObj "list" #[] 0):=by rw[←hS0];exact Heap.get?_push_size _ rfl
 have hk2:∀b o,s.heap.get? b=some o→(h1.push (seqObj "list" #[] 0)).get? b=some o:=fun b o e=>Heap.get?_push_of_some _ (hk1 b o e)
 have gI2:(h1.push (seqObj "list" #[] 0)).get? s.heap.objs.size=some { cls:=.type "list_iterator",data:=.fields #[.ref l,.int 0 0] }:=Heap.get?_push_of_some _ gI
 have hl2:(h1.push (seqObj "list" #[] 0)).IsList l its.toArray:=by
  obtain⟨o,e1,r⟩:=hl
  exact⟨o,hk2 _ _ e1,r⟩
 have hlI:l≠s.heap.objs.size:=Nat.ne_of_lt hll
 have hlS:l≠s.heap.objs.size+1:=Nat.ne_of_lt (Nat.lt_succ_of_lt hll)
 have hSI:s.heap.objs.size+1≠s.heap.objs.size:=Nat.succ_ne_self _
 generalize s.heap.objs.size+1=S at *
 generalize s.heap.objs.size=I at *
 generalize h1.push (seqObj "list" #[] 0)=h2 at *
 have W:=Walks.list (prog:=prog) (w:=w) (A:=A.in1) hh I l hlI its.toArray
 have hsz:its.toArray.size=is.length:=by rw[List.size_toArray,hi.length]
 refine wpAny_pure ⟨plainId_quiet PySem.F.plain_max_loop _,?_⟩
 refine codeAny_builtin PySem.F.entry_max_loop ?_
 rw[Around.under_plainId PySem.F.plain_max_loop _]
 show wpAny _ A.in1 (seqItems? (.ref S) >>= _) _ _ _
 refine wpAny_bind (wpAny_seqItems gS rfl ?_)
 show wpAny _ A.in1 (tryCatch (pyNext (.ref I)) _ >>= _) _ _ _
 cases is with
 | nil=>
  refine wpAny_bind (wpAny_tryCatch (W.done _ _ _ ⟨by rw[hsz];exact⟨_,gI2,rfl,rfl⟩,hl2⟩ fun h' tk' hk'=>?_))
  refine wpAny_bind (wpAny_rule (wpAny_pure ?_))
  exact hQ d h' tk' (fun b o e=>hk' b o (by simpa using nI b o e) (hk2 b o e)) (fun m z=>by cases z) fun _=>rfl
 | cons x aaB=>
  refine wpAny_bind (wpAny_tryCatch (W.item 0 _ _ _ (by rw[hsz];simp) ⟨⟨_,gI2,rfl,rfl⟩,hl2⟩ fun v h' tk' hP hst' hk'=>?_))
  obtain⟨tx,rfl⟩:=adW hi rfl (by simpa using hP)
  have hS1:=hk' S _ (by simpa using hSI) gS
  refine wpAny_bind (wpAny_pure ?_)
  have s1:=Heap.SameBut.update h' S (Obj.mapSeq fun _=>#[.int x tx,.int x tx])
  obtain⟨c2,hc2⟩:∃c2,(h'.update S (Obj.mapSeq fun _=>#[.int x tx,.int x tx])).get? S=some (seqObj "list" #[.int x tx,.int x tx] c2):=⟨_,PyProof.Rows.get?_update_seq hS1 fun _=>#[.int x tx,.int x tx]⟩
  show wpAny _ A.in1 (updateSeq S (fun _=>#[.int x tx,.int x tx]) >>= _) _ _ _
  refine wpAny_bind ?_
  refine wpAny_updateSeq hS1 rfl ?_
  rw[hname]
  refine wpAny_pure ⟨plainId_quiet PySem.F.plain_max_loop _,amp hh hi hlI hlS hSI aaB 0 x tx _ c2 rfl (by simp) ?_ (abL (fun b o e z=>by subst z;exact(s1.2 b hSI.symm).trans e) hst'.1) hc2 fun h3 tk t hk=>?_⟩
  ·obtain⟨o,e1,r⟩:=hst'.2
   exact⟨o,(s1.2 l hlS).trans e1,r⟩
  ·refine hQ _ h3 tk (fun b o e=>hk b o (nI b o e) (nS0 b o e) ((s1.2 b (nS0 b o e)).trans (hk' b o (by simpa using nI b o e) (hk2 b o e)))) (fun m z=>?_) fun z=>by cases z
   cases z
   exact⟨t,rfl⟩
end
section
variable{G:Gx}{X:Cx}{C:Cf}{a b:Expr}{a' b':IP.E}{p pos kpos:Pos}
noncomputable def axe(G:Gx):List V→List V→Hp→VK→Prop:=fun vs zs H Q=>∃l is d,vs=[.ref l]∧zs=[.int d]∧Rd H l (.lst (is.map V.int))∧Q (.int ((aes is).getD d)) H
theorem ad9{w:Wo}{H:Hp}:∀{ts:List T}{is:List Int}{vs:List V},aaC ts=some is→aam G w H ts vs→vs=is.map V.int
 | [],is,vs,h,r=>by cases h;cases r;rfl
 | t::ts,is,vs,h,r=>by
  obtain⟨v,q,rfl,h1,h2⟩:=r
  cases t with
  | int i=>
   unfold aaC at h
   cases e1:aaC ts with
   | none=>rw[e1]at h;cases h
   | some js=>
    rw[e1]at h
    cases h
    cases h1
    rw[ad9 e1 h2]
    rfl
  | _=>cases h
theorem anX(hcm:X.calm=true)(ha:PE X a (tV G X C a'))(hb:PE X b (tV G X C b'))(hm:X.mg "max"=none)(hg:Gl X "max":=by rfl)(hs:starEach [a] X.env=[(false,eval a X.env)]:=by rfl):
  PE X (.Call (.Name "max" p) [a] [⟨some "default",b,kpos⟩] pos) (tV G X C (.mxd a' b')):=by
 refine PE.imp (aeV (id:="max") (ks:=["default"]) (r:=axe G) ?_ hg hm rfl (aa9 ha aaY hs) (ahc hb ahM) rfl rfl (by decide) (by decide) hs (by rw[hs];rfl) rfl) ?_
 ·rintro pins s σ H vs zs us ws Q I rv rz ⟨l,is,d,rfl,rfl,hl,fin⟩
  obtain⟨u,rfl,ru⟩:=rv.one
  obtain⟨zz,rfl,rq⟩:=rz.one
  cases ru
  obtain⟨td,rfl⟩:=rq
  obtain⟨its,r,pl,hz⟩:=I.list (.inl hl)
  refine alh (Q:=EP X pins σ Q) (I.ok.hd hcm) (ac3 r) pl.isList fun v h' tk hk h1 h2=>?_
  cases hm':aes is with
  | none=>
   rw[hm']at fin
   rw[h2 hm']
   exact⟨.int d,H,I.kept hk,⟨td,rfl⟩,fin⟩
  | some m=>
   rw[hm']at fin
   obtain⟨t,rfl⟩:=h1 m hm'
   exact⟨.int m,H,I.kept hk,⟨t,rfl⟩,fin⟩
 ·rintro σV H Q ⟨w₀,H₀,w,σ,st,g,h⟩
  have hev:ev C (.mxd a' b') .v σ st=(ev C a' .v σ st).bind fun x s1=>(ev C b' .v σ s1).bind fun y s2=>.of (do let ts ←x.seq;let is ←aaC ts;let d ←y.int?;some (.val (.int ((aes is).getD d)))) s2:=by
   rw[ev];rfl
  rw[hev]at h
  refine⟨w₀,H₀,w,σ,st,g,h.bind.imp ?_⟩
  rintro v H1 ⟨w1,r,s1,L1,S1,R1,h2⟩
  refine⟨w₀,H₀,w1,σ,s1,g.step L1 S1,h2.bind.imp ?_⟩
  rintro v2 H2 ⟨w2,r2,s2,L2,S2,R2,h3⟩
  obtain⟨r',e,cont⟩:=h3.of
  obtain⟨ts,e1,e2⟩:=Option.bind_eq_some_iff.mp e
  obtain⟨is,e3,e4⟩:=Option.bind_eq_some_iff.mp e2
  obtain⟨d,e5,e6⟩:=Option.bind_eq_some_iff.mp e4
  cases e6
  obtain⟨la,vs,rfl,hla,rs⟩:=(R1.mono L2 S1).seq (s:=s2) e1
  have hv2:v2=.int d:=by
   match r2,e5 with
   | .val (.int i),e5=>cases e5;exact R2
  subst hv2
  rw[ad9 e3 rs]at hla
  exact⟨la,is,d,rfl,rfl,hla,cont w2 H2 _ (Le.refl _ _) S2 rfl⟩
end
end IP
end
section
namespace IP
open PySem PySem.Spec L2
noncomputable def BM(mg:Str→Option Value)(h:Heap):Prop:=∃bm ob,mg "__builtins__"=some (.ref bm)∧bm≠builtinsNs∧h.get? bm=some ob∧ob.cls=.type "module"∧ob.dict=some builtinsNs∧ob.data=.plain
theorem ah2{P:Program}{w:World}{K:PySem.W.Frag}{mg mb:Str→Option Value}{k:Nat}{fa a c0 Pt:Addr}{fd:FuncData}{x:Str}{sp:Sp}{s₁:Shared}{vs:List Value}{ns:List Int}
  (KX:K.In s₁.heap) (hns:s₁.heap.Ns mainGlobals mg) (hb:s₁.heap.Ns builtinsNs mb) (hbb:∀x:Str,x≠"__name__"→mb x=bootBuiltins x) (hlim:s₁.heap.NoLimit) (hg:s₁.gens=#[])
  (ha:s₁.heap.get? a=some { cls:=.type "list",data:=.seq vs.toArray }) (hi:PyProof.Rows.IntsAre vs ns) (hl:ns.length≤sizeLine) (hr:Room k callerA)
  (hC:PySem.W.CodeHd s₁.heap c0 Pt) (hT:s₁.heap.TableAt c0 Pt #[]) (hKP:K.lookup Pt=none) (hKa:K.lookup a=none) (hM:BM mg s₁.heap)
  (F:∀base:Heap,K.In base→base.Ns mainGlobals mg→PySem.W.CodeHd base c0 Pt→BM mg base→FnOk P w K mg base CX0 k fa fd [x] sp) (hbind:∀(s:Shared) (u:Value),BindsTo s fd ⟨[u],[]⟩ [(x,u)])
  (hsp:∀H:Hp,Rd H a (.lst (ns.map V.int))→H Pt=some (.tbl #[])→a≠Pt→sp [.ref a] H (fun v _=>v=.bl true) fun _ _ _=>False):
  codeAny (model P w) callerA (.call (.ref fa) ⟨[.ref a],[]⟩) (fun r s'=>r=.ok (.ret (.bool true))∧OldK s₁.heap s'.heap∧s'.os=s₁.os∧PyProof.Rows.AllBare s'.gens) s₁:=by
 have rv:=adp hi
 have lenV:=hi.length
 have hPt:s₁.heap.get? Pt=some { cls:=.none,data:=.fields #[] }:=hT.2
 have haP:a≠Pt:=fun z=>by rw[z,hPt]at ha;cases ha
 have hH:∃H:Hp,H a=some (.frz { cls:=.type "list",data:=.seq vs.toArray } (.lst (ns.map V.int)))∧H Pt=some (.tbl #[])∧∀b,b≠a→b≠Pt→H b=none:=
  ⟨fun b=>if b=a then some (.frz { cls:=.type "list",data:=.seq vs.toArray } (.lst (ns.map V.int)))else if b=Pt then some (.tbl #[])else none,if_pos rfl,by show(if Pt=a then _ else if Pt=Pt then some (HO.tbl #[])else none)=_;rw[if_neg haP.symm,if_pos rfl],fun b h1 h2=>by show(if b=a then _ else if b=Pt then _ else none)=none;rw[if_neg h1,if_neg h2]⟩
 obtain⟨H,Ha,HP,Hn⟩:=hH
 have hok:HOk P w H s₁.heap:=fun b u z=>by
  by_cases h1:b=a
  ·subst h1
   rw[Ha]at z;cases z
   exact⟨ha,by rw[List.length_map];exact hl,vs,_,rv,ha⟩
  ·by_cases h2:b=Pt
   ·subst h2
    rw[HP]at z;cases z
    exact hPt
   ·rw[Hn b h1 h2]at z;cases z
 have base_of:∀{b:Addr}{o:Obj},s₁.heap.get? b=some o→b≠a→b≠Pt→(aff s₁.heap H).get? b=some o:=fun {b o} e h1 h2=>agw e (Hn b h1 h2)
 have nsK:∀{b:Addr}{m:Str→Option Value},s₁.heap.Ns b m→(aff s₁.heap H).Ns b m:=fun {b m} ⟨o,es,ep,e,d,r⟩=>⟨o,es,ep,base_of e (fun z=>by rw[z,ha]at e;cases e;cases d) (fun z=>by rw[z,hPt]at e;cases e;cases d),d,r⟩
 have hKb:K.In (aff s₁.heap H):=fun b o e=>base_of (KX b o e) (fun z=>by rw[z,hKa]at e;cases e) (fun z=>by rw[z,hKP]at e;cases e)
 have hCb:PySem.W.CodeHd (aff s₁.heap H) c0 Pt:=by
  obtain⟨o,us,file,tf,flags,tg,inF,text,tt,e1,e2,r⟩:=hC
  exact⟨o,us,file,tf,flags,tg,inF,text,tt,base_of e1 (fun z=>by rw[z,ha]at e1;cases e1;simp at e2) r.2.2.2.2.2.2.2,e2,r⟩
 have hMb:BM mg (aff s₁.heap H):=by
  obtain⟨bm,ob,b1,b2,b3,b4,r⟩:=hM
  exact⟨bm,ob,b1,b2,base_of b3 (fun z=>by rw[z,ha]at b3;cases b3;simp at b4) (fun z=>by rw[z,hPt]at b3;cases b3;cases b4),b4,r⟩
 have hMd:Mod K mg (aff s₁.heap H):=⟨hKb,nsK hns,⟨mb,nsK hb,hbb⟩,let ⟨mc,h1,h2⟩:=hlim;⟨mc,nsK h1,h2⟩⟩
 have e0:Env0 P w K mg (aff s₁.heap H) callerA [] s₁ H:=⟨rfl,hMd,fun b o e=>ahf e,Nat.le_of_eq (aeW _ _),trivial,fun b hb=>absurd (show b∈([]:List Addr)from hb) (by simp),hok,.of_eq hg⟩
 refine codeAny_mono ((F _ hKb (nsK hns) hCb hMb).run callerA [] s₁ H ⟨[.ref a],[]⟩ [.ref a] [.ref a] _ _ hr e0 (hbind s₁ (.ref a)) (.cons rfl .nil) (hsp H (.inr ⟨_,Ha⟩) HP haP)) fun r s' h=>?_
 cases r with
 | error e=>exact False.elim h
 | ok fl=>
  cases fl with
  | next=>exact False.elim h
  | brk=>exact False.elim h
  | cont=>exact False.elim h
  | ret u=>
   obtain⟨v,H',os,bare,un,hok',r',q⟩:=h
   have q':v=.bl true:=q
   subst q'
   obtain rfl:u=Value.bool true:=r'
   have ka:∀o,s₁.heap.get? a=some o→s'.heap.get? a=some o:=fun o e=>by
    have z2:=un.frzs a _ _ Ha
    obtain⟨e2,_⟩:=hok' a _ z2
    rw[ha]at e;cases e
    exact e2
   have kn:∀b o,b≠a→b≠Pt→s₁.heap.get? b=some o→s'.heap.get? b=some o:=fun b o h1 h2 e=>un.keep b o e (Hn b h1 h2) (by intro z;exact absurd (show b∈([]:List Addr)from z) (by simp)) (by simp)
   obtain⟨more,em⟩:=un.tbls Pt _ HP
   have kP:s'.heap.get? Pt=some { cls:=.none,data:=.fields (#[]++more) }:=hok' Pt _ em
   refine⟨rfl,⟨fun b o e=>?_,fun b o e=>?_⟩,os,bare⟩
   ·by_cases h1:b=a
    ·subst h1;exact .inl (ka o e)
    ·by_cases h2:b=Pt
     ·subst h2
      rw[hPt]at e;cases e
      exact .inr (.inl ⟨hT.isCodeTable,rfl,#[],more,rfl,kP⟩)
     ·exact .inl (kn b o h1 h2 e)
   ·by_cases h1:b=a
    ·subst h1;exact⟨o,ka o e⟩
    ·by_cases h2:b=Pt
     ·subst h2;exact⟨_,kP⟩
     ·exact⟨o,kn b o h1 h2 e⟩
theorem agc:∀{K:List (Addr×Obj)}{a:Addr}{o:Obj},K.lookup a=some o→(a,o)∈K
 | [],a,o,h=>by cases h
 | (b,u)::r,a,o,h=>by
  rw[List.lookup_cons]at h
  split at h
  ·rename_i hb
   cases h
   rw[beq_iff_eq.mp hb]
   exact List.mem_cons_self
  ·exact List.mem_cons_of_mem _ (agc h)
noncomputable def aqA(K:PySem.W.Frag):Bool:=K.all fun p=>match p.2.cls,p.2.data with | .type n,_=>n != "list" | .none,.fields _=>false | _,_=>true
theorem ami{K:PySem.W.Frag}(h:aqA K=true){a:Addr}{o:Obj}(e:K.lookup a=some o):o.cls≠.type "list"∧o≠{ cls:=.none,data:=.fields #[] }:=by
 have q:=List.all_eq_true.mp h _ (agc e)
 constructor
 ·intro z
  obtain⟨cls,dd,data,sl⟩:=o
  simp only at z
  subst z
  exact absurd (show(("list":String) != "list")=true from q) (by decide)
 ·intro z
  subst z
  exact Bool.noConfusion (show false=true from q)
theorem ajr{l:PySem.W.OpenLaw}{n k:Nat}{q:Program}{loose:List Str}{XP:(Str→Option Value)→Heap→Prop}{YP:World→Heap→Prop}{d d0:DefRec}{K:Params→PySem.W.Frag}{sp:World→Addr→Sp}{x:Str}
  (hn:l.most=some n) (hn2:n≤sizeLine) (hdf:d.params.defaults=[]) (hr:Room k callerA) (hd0:d0∈PyProof.Rows.recsOf q)
  (hY:∀(w:World) (h:Heap),YP w h→(K w.params).In h) (hK:∀w:World,aqA (K w.params)=true)
  (F:∀(w:World) (mg:Str→Option Value) (fa c0 Pt:Addr) (h:Heap),(K w.params).In h→h.Ns mainGlobals mg→mg d.name=some (.ref fa)→(∀(f:Addr) (o:Obj) (fd:FuncData),mg d0.name=some (.ref f)→h.get? f=some o→o.data=.func fd→fd.code=.ref c0)→
   ∃fd:FuncData,(∀(s:Shared) (u:Value),BindsTo s fd ⟨[u],[]⟩ [(x,u)])∧
    ∀base:Heap,(K w.params).In base→base.Ns mainGlobals mg→PySem.W.CodeHd base c0 Pt→BM mg base→FnOk l.prog w (K w.params) mg base CX0 k fa fd [x] (sp w Pt))
  (hsp:∀(w:World) (H:Hp) (a Pt:Addr) (ns:List Int),ns.length≤n→Rd H a (.lst (ns.map V.int))→H Pt=some (.tbl #[])→a≠Pt→sp w Pt [.ref a] H (fun v _=>v=.bl true) fun _ _ _=>False):
  PySem.W.WalkO q loose XP YP l.row.toRowW d [] (fun f vs=>PySem.call f vs):=by
 refine Att.attach_call hn hdf fun w s₀ s₁ mg mb fa o pm cd doc a vs ns G Y ho hd hcd hmg hobj hints hlen hg=>?_
 have KX:=hY w _ Y
 obtain⟨f0,o0,fd0,c0,Pt,t1,t2,t3,t4,t5,t6⟩:=G.T.tab d0 hd0
 have hC:PySem.W.CodeHd s₁.heap c0 Pt:=PySem.W.CodeHd.of t5 t6
 obtain⟨fd,hb,hF⟩:=F w mg fa c0 Pt _ KX G.T.g hmg (fun f o fd e1 e2 e3=>by
  rw[t1]at e1;cases e1
  rw[t2]at e2;cases e2
  rw[t3]at e3;cases e3
  exact t4)
 have nol:∀{b:Addr}{u:Obj},s₁.heap.get? b=some u→(u.cls=.type "list"∨u={ cls:=.none,data:=.fields #[] })→(K w.params).lookup b=none:=fun {b u} e hc=>by
  cases z:(K w.params).lookup b with
  | none=>rfl
  | some u'=>
   have e2:=KX b u' z
   rw[e]at e2;cases e2
   have:=ami (hK w) z
   rcases hc with hc|hc
   ·exact absurd hc this.1
   ·exact absurd hc this.2
 exact ah2 KX G.T.g G.T.b G.T.builtins G.T.nolimit hg hobj hints (Nat.le_trans hlen hn2) hr hC t6 (nol t6.2 (.inr rfl)) (nol hobj (.inl rfl)) G.T.bmain hF hb (fun H h1 h2 h3=>hsp w H a Pt ns hlen h1 h2 h3)
section
variable{G:Gx}{X:Cx}{C:Cf}{a b e:Expr}{a' b' e':IP.E}{pos p p2:Pos}
noncomputable def am9(sc names:List (Str×NameKind)):List (Str×NameKind):=names.map fun(n,k)=>if(k==.free&&sc.lookup n==some .cell)then(n,.cell)else(n,k)
noncomputable def aq8(names:List (Str×NameKind))(x:Str):Bool:=names.lookup x==some .local||names.lookup x==some .cell||names.lookup x==some .free
noncomputable def ak6(sc names:List (Str×NameKind))(N N':List Str)(js:List Nat):Bool:=
 names.all (fun x=>x.2 != .cell)&&names.all (fun x=>x.2 != .free||sc.lookup x.1==some .cell||sc.lookup x.1==some .free)&&decide (N'.length=N.length)&&decide N'.Nodup &&
 names.all (fun x=>x.2 != .local||names.lookup x.1==some .local) &&
 (List.range N'.length).all fun i=>js.contains i||match N'[i]? with
  | none=>true
  | some x=>!aq8 (am9 sc names) x||(N[i]?==some x&&names.contains (x,NameKind.free)&&((am9 sc names).lookup x==some .cell||(am9 sc names).lookup x==some .free))
theorem anQ{scope:Scope}{sc:List (Str×NameKind)}(hsc:X.env.scope.names=sc)(hk:X.env.scope.kind=.function):(relabel scope X.env).names=am9 sc scope.names:=by
 subst hsc
 unfold relabel am9 Env.kindOf
 rw[hk]
 simp
theorem aax{scope:Scope}{sc:List (Str×NameKind)}{N N':List Str}{js:List Nat}(hsc:X.env.scope.names=sc)(hk:X.env.scope.kind=.function)(hN:X.N=N)(hks:scope.kind=.function)(h:ak6 sc scope.names N N' js=true):CompN X scope N' js:=by
 unfold ak6 at h
 simp only[Bool.and_eq_true,List.all_eq_true,Bool.or_eq_true,bne_iff_ne,ne_eq,beq_iff_eq,decide_eq_true_eq]at h
 obtain⟨⟨⟨⟨⟨h1,h2⟩,h3⟩,h4⟩,h5⟩,h6⟩:=h
 refine⟨hks,h1,fun x hx e=>?_,by rw[hN];exact h3,h4,fun i x hi hj hv=>?_,fun x hx e=>?_⟩
 ·rcases h2 x hx with(q|q)|q
  ·exact absurd e q
  ·exact .inl (by unfold Env.kindOf;rw[hsc];exact q)
  ·exact .inr (by unfold Env.kindOf;rw[hsc];exact q)
 ·have hil:i<N'.length:=(List.getElem?_eq_some_iff.mp hi).1
  have q:=h6 i (List.mem_range.mpr hil)
  rw[hi]at q
  unfold Vis at hv
  rw[anQ hsc hk]at hv ⊢
  rcases q with q|q
  ·exact absurd (List.contains_iff_mem.mp q) hj
  ·have hv':aq8 (am9 sc scope.names) x=true:=by
    unfold aq8
    rcases hv with z|z|z<;>rw[z]<;>rfl
   simp only[hv',Bool.not_true,Bool.false_eq_true,false_or,Bool.and_eq_true,Bool.or_eq_true,beq_iff_eq]at q
   obtain⟨⟨q1,q2⟩,q3⟩:=q
   exact⟨by rw[hN];exact q1,List.contains_iff_mem.mp q2,q3⟩
 ·rcases h5 x hx with q|q
  ·exact absurd e q
  ·exact q
theorem akX{f:T→Sto→Res (Option T)}{m:Res R}{r:R}{s1:Sto}(h:(m.bind fun x s1=>onL x fun ts=>(aas f ts s1).bind fun q s2=>.ok (.val (.lst q)) s2)=.ok r s1):∃ts,r=.val (.lst ts):=by
 cases m with
 | stuck=>cases h
 | exc c s=>cases h
 | ok x s=>
  replace h:(onL x fun ts=>(aas f ts s).bind fun q s2=>.ok (.val (.lst q)) s2)=.ok r s1:=h
  unfold onL at h
  split at h
  ·rename_i ts
   replace h:((aas f ts s).bind fun q s2=>.ok (.val (.lst q)) s2)=.ok r s1:=h
   cases hm:aas f ts s with
   | stuck=>rw[hm]at h;cases h
   | exc c s=>rw[hm]at h;cases h
   | ok q s2=>rw[hm]at h;cases h;exact⟨q,rfl⟩
  ·cases h
theorem aa8{elt it:IP.E}{g:Tg}{σ:Fr}{s:Sto}{r:R}{s1:Sto}(h:ev C (.comp elt g it) .v σ s=.ok r s1):∃ts,r=.val (.lst ts):=akX h
theorem wv(i:Nat){x:Str}(hN:X.N[i]?=some x:=by rfl)(hv:Vis X.env.scope x:=by first|exact Or.inl rfl|exact Or.inr (Or.inl rfl)|exact Or.inr (Or.inr rfl))(hd:(x==("__debug__":Str))=false:=by decide)(hcd:(x==("__classdict__":Str))=false:=by decide):PE X (.Name x pos) (tV G X C (.var i)):=aoy hN hv hd hcd
theorem wtr{e:Expr}(hE:PE X e (tV G X C e'))(he:∀whole,isTrue e X.env whole=(do let v ←whole;standAt e.pos;holding [v] (truthy v)):=by intro _;rfl)
  (hev:∀σ s,ev C e' .t σ s=(ev C e' .v σ s).bind fun x s=>.of (aur x) s:=by intro _ _;rfl):PT X e (tT G X C e'):=ajs hE he hev
theorem wcv(hu:X.A.units+9<cLine)(c:Cm)(ha:PE X a (tV G X C a'))(hb:PE X b (tV G X C b'))(hm:behindInMarks (akm c) b=false:=by rfl):PE X (.Compare a [akm c] [b] pos) (tV G X C (.cmp c a' b')):=apl hu c ha hb hm
theorem wct(hu:X.A.units+9<cLine)(c:Cm)(ha:PE X a (tV G X C a'))(hb:PE X b (tV G X C b'))(hm:behindInMarks (akm c) b=false:=by rfl):PT X (.Compare a [akm c] [b] pos) (tT G X C (.cmp c a' b')):=aon hu c ha hb hm
theorem aiS{op}(h:PE X a (tV G X C a')):PE X (.BoolOp op [a] pos) (tV G X C a'):=aoo h
theorem aaw(ha:PE X a (tV G X C a'))(hb:PE X b (tV G X C b'))(hs:afC b:=by intro _ _;rfl):PE X (.Subscript a b pos) (tV G X C (.sub a' b')):=aos ha hb hs
theorem wac{es:List Expr}{es':List IP.E}(ha:PE X a (tV G X C a'))(hr:PA X es (tA G X C es'))(hs:starEach (a::es) X.env=(false,eval a X.env)::starEach es X.env:=by rfl):PA X (a::es) (tA G X C (a'::es')):=aln ha hr hs
theorem wrc{es:List Expr}{es':List IP.E}(ha:PE X a (tV G X C a'))(hr:PA X es (tR G X C es'))(hs:starEach (a::es) X.env=(false,eval a X.env)::starEach es X.env:=by rfl):PA X (a::es) (tR G X C (a'::es')):=alr ha hr hs
theorem acy{es:List Expr}{es':List IP.E}{k:Nat}(h:PA X es (tA G X C es'))(hz:es'.length≤1000:=by decide):PE X (.Tuple es k pos) (tV G X C (.tup es')):=ann h (Nat.le_trans hz (by decide))
theorem aeH{es:List Expr}{es':List IP.E}(h:PA X es (tA G X C es'))(hz:es'.length≤1000:=by decide):PE X (.List es pos) (tV G X C (.lst es')):=anu h (Nat.le_trans hz (by decide))
theorem af0{es:List Expr}{es':List IP.E}(h:PA X es (tA G X C es'))(hz:es'.length≤1000:=by decide):PE X (.List es pos) (tO G X C (.lst es')):=anV h (Nat.le_trans hz (by decide))
theorem acw(hm:X.mg "len"=none)(ha:PE X a (tV G X C a'))(hg:Gl X "len":=by rfl)(hs:starEach [a] X.env=[(false,eval a X.env)]:=by rfl):PE X (.Call (.Name "len" p) [a] [] pos) (tV G X C (.b1 .len a')):=sB1 asH hg hm (by rfl) (by decide) (by decide) ha hs fun _ _=>rfl
theorem atM(hm:X.mg "abs"=none)(ha:PE X a (tV G X C a'))(hg:Gl X "abs":=by rfl)(hs:starEach [a] X.env=[(false,eval a X.env)]:=by rfl):PE X (.Call (.Name "abs" p) [a] [] pos) (tV G X C (.b1 .abs a')):=sB1 aqv hg hm (by rfl) (by decide) (by decide) ha hs fun _ _=>rfl
theorem am5(hm:X.mg "int"=none)(ha:PE X a (tV G X C a'))(hg:Gl X "int":=by rfl)(hs:starEach [a] X.env=[(false,eval a X.env)]:=by rfl):PE X (.Call (.Name "int" p) [a] [] pos) (tV G X C (.b1 .int a')):=av5 arN hg hm (by rfl) (by decide) (by decide) ha hs fun _ _=>rfl
theorem aj8(hm:X.mg "list"=none)(ha:PE X a (tV G X C a'))(hg:Gl X "list":=by rfl)(hs:starEach [a] X.env=[(false,eval a X.env)]:=by rfl):PE X (.Call (.Name "list" p) [a] [] pos) (tV G X C (.b1 .list a')):=av5 ana hg hm (by rfl) (by decide) (by decide) ha hs fun _ _=>rfl
theorem amE(hm:X.mg "list"=none)(ha:PE X a (tV G X C a'))(hg:Gl X "list":=by rfl)(hs:starEach [a] X.env=[(false,eval a X.env)]:=by rfl):PE X (.Call (.Name "list" p) [a] [] pos) (tO G X C (.b1 .list a')):=amf hg hm ha hs
theorem apx(hm:X.mg "any"=none)(ha:PE X a (tV G X C a'))(hg:Gl X "any":=by rfl)(hs:starEach [a] X.env=[(false,eval a X.env)]:=by rfl)(hc:X.calm=true:=by rfl):PE X (.Call (.Name "any" p) [a] [] pos) (tV G X C (.b1 .any a')):=sB1 (arI hc) hg hm (by rfl) (by decide) (by decide) ha hs fun _ _=>rfl
theorem atF(hm:X.mg "all"=none)(ha:PE X a (tV G X C a'))(hg:Gl X "all":=by rfl)(hs:starEach [a] X.env=[(false,eval a X.env)]:=by rfl)(hc:X.calm=true:=by rfl):PE X (.Call (.Name "all" p) [a] [] pos) (tV G X C (.b1 .all a')):=sB1 (aqN hc) hg hm (by rfl) (by decide) (by decide) ha hs fun _ _=>rfl
theorem axb(hm:X.mg "min"=none)(ha:PE X a (tV G X C a'))(hg:Gl X "min":=by rfl)(hs:starEach [a] X.env=[(false,eval a X.env)]:=by rfl)(hc:X.calm=true:=by rfl):PE X (.Call (.Name "min" p) [a] [] pos) (tV G X C (.b1 .min a')):=sB1 (aqo hc) hg hm (by rfl) (by decide) (by decide) ha hs fun _ _=>rfl
theorem axg(hm:X.mg "max"=none)(ha:PE X a (tV G X C a'))(hg:Gl X "max":=by rfl)(hs:starEach [a] X.env=[(false,eval a X.env)]:=by rfl)(hc:X.calm=true:=by rfl):PE X (.Call (.Name "max" p) [a] [] pos) (tV G X C (.b1 .max a')):=sB1 (apU hc) hg hm (by rfl) (by decide) (by decide) ha hs fun _ _=>rfl
theorem ait(hm:X.mg "sorted"=none)(ha:PE X a (tV G X C a'))(hg:Gl X "sorted":=by rfl)(hs:starEach [a] X.env=[(false,eval a X.env)]:=by rfl):PE X (.Call (.Name "sorted" p) [a] [] pos) (tV G X C (.b1 .sorted a')):=sB1 aiZ hg hm (by rfl) (by decide) (by decide) ha hs fun _ _=>rfl
theorem am4(c:Ty){n:String}{y:Str}{py:Pos}(hm:X.mg "isinstance"=none)(hmy:X.mg y=none)(ha:PE X a (tV G X C a'))(hn:ap0 c=some n:=by rfl)(hg:Gl X "isinstance":=by rfl)(hgy:Gl X y:=by rfl)(hv:bootBuiltins y=some (.type n):=by rfl)(hy:y≠"__name__":=by decide)(hdy:(y==("__debug__":Str))=false:=by decide)
  (hs:starEach [a,.Name y py] X.env=[(false,eval a X.env),(false,eval (.Name y py) X.env)]:=by rfl):PE X (.Call (.Name "isinstance" p) [a,.Name y py] [] pos) (tV G X C (.isi a' c)):=aoe hn hg hm hgy hmy hv hy hdy ha hs
theorem wpl{tg e:Expr}(hE:PE X e (tV G X C e'))(hev:∀σ s,ev C e' .i σ s=fin .i (ev C e' .v σ s):=by intro _ _;rfl):PI X tg e (tI G X C e' .i false):=agk hE (.inl ⟨rfl,rfl⟩) hev
theorem wpj{tg e:Expr}(hE:PE X e (tV G X C e'))(hev:∀σ s,ev C e' .j σ s=fin .j (ev C e' .v σ s):=by intro _ _;rfl):PI X tg e (tI G X C e' .j true):=agk hE (.inr ⟨rfl,rfl⟩) hev
theorem wr1{tg:Expr}{m:Md}{z:Bool}(hmg:X.mg "range"=none)(ha:PE X a (tV G X C a'))(hm:m=.i∨m=.j:=by first|exact .inl rfl|exact .inr rfl)(hg:Gl X "range":=by rfl)(hs:starEach [a] X.env=[(false,eval a X.env)]:=by rfl):PI X tg (.Call (.Name "range" p) [a] [] pos) (tI G X C (.rng1 a') m z):=alK hm hg hmg ha hs
theorem wr2{tg:Expr}{m:Md}{z:Bool}(hmg:X.mg "range"=none)(ha:PE X a (tV G X C a'))(hb:PE X b (tV G X C b'))(hm:m=.i∨m=.j:=by first|exact .inl rfl|exact .inr rfl)(hg:Gl X "range":=by rfl)(hs:starEach [a,b] X.env=[(false,eval a X.env),(false,eval b X.env)]:=by rfl)(hs2:starEach [b] X.env=[(false,eval b X.env)]:=by rfl):PI X tg (.Call (.Name "range" p) [a,b] [] pos) (tI G X C (.rng2 a' b') m z):=akN hm hg hmg ha hb hs hs2
theorem wg1{i:Nat}{x:Str}(hN:X.N.Nodup)(hi:X.N[i]?=some x:=by rfl)(hx:Loc X.env.scope x:=by first|exact Or.inl rfl|exact Or.inr rfl)(hf:X.fn x=true∨X.env.scope.names.lookup x=some .local:=by first|exact Or.inl rfl|exact Or.inr rfl):PG X (.Name x pos) (gTg G (.one i)):=aom hN hi hx hf
theorem wgc{i:Nat}{js:List Nat}{x:Str}{es:List Expr}(hN:X.N.Nodup)(h2:PGs X es (adT js))(hi:X.N[i]?=some x:=by rfl)(hx:Loc X.env.scope x:=by first|exact Or.inl rfl|exact Or.inr rfl)(hf:X.fn x=true∨X.env.scope.names.lookup x=some .local:=by first|exact Or.inl rfl|exact Or.inr rfl):PGs X (.Name x pos::es) (adT (i::js)):=akS hN hi hx hf h2
theorem wgm{js:List Nat}{es:List Expr}{k:Nat}(h:PGs X es (adT js))(hc:X.calm=true:=by rfl)(hn:(assignEach es X.env).length=js.length:=by rfl)(hst:(assignEach es X.env).findIdx? (·.1)=none:=by rfl):PG X (.Tuple es k pos) (gTg G (.many js)):=aik hc h hn hst
variable{i:Nat}{x:Str}{pos':Pos}
theorem abA(hN:X.N.Nodup)(he:PE X e (tV G X C e'))(hi:X.N[i]?=some x:=by rfl)(hx:Loc X.env.scope x:=by first|exact Or.inl rfl|exact Or.inr rfl)(hs:swapsWith e (some (.Name x pos')) pos.line X.env=pure false:=by rfl)(hf:X.fn x=true∨X.env.scope.names.lookup x=some .local:=by exact Or.inl rfl):PS X (.Assign [.Name x pos'] e pos) (tS G X C (.asg i e')):=amX hN hi hx he hs hf
theorem qmk(hN:X.N.Nodup)(he:PE X e (tO G X C e'))(hi:X.N[i]?=some x:=by rfl)(hx:Loc X.env.scope x:=by first|exact Or.inl rfl|exact Or.inr rfl)(hs:swapsWith e (some (.Name x pos')) pos.line X.env=pure false:=by rfl)(hf:X.fn x=true∨X.env.scope.names.lookup x=some .local:=by exact Or.inl rfl):PS X (.Assign [.Name x pos'] e pos) (tS G X C (.mk i e')):=ato hN hi hx he hs hf
theorem ap4{p1 cpos:Pos}(he:PE X e (tV G X C e'))(hN:X.N[i]?=some x:=by rfl)(hv:Vis X.env.scope x:=by first|exact Or.inl rfl|exact Or.inr (Or.inl rfl))(hd:(x==("__debug__":Str))=false:=by decide)(hcd:(x==("__classdict__":Str))=false:=by decide)(hst:starEach [e] X.env=[(false,eval e X.env)]:=by rfl)
  (hline:(p2.endLine==cpos.line)=true:=by rfl) (hbase:attributeBase (.Name x p1) "append" X.env (eval (.Name x p1) X.env)=eval (.Name x p1) X.env:=by rfl)
  (hfew:((backTo cpos (starEach [e] X.env)).all (fun x=>!x.1)&&(backToKw cpos (keywordEach [] X.env)).all (fun x=>x.1.isSome)&&decide ([e].length+([]:List Keyword).length+(if([]:List Keyword).isEmpty then 0 else 1)<30))=true:=by rfl)
  (hs:swapsWith (.Call (.Attribute (.Name x p1) "append" p2) [e] [] cpos) none pos.line X.env=pure false:=by rfl):
  PS X (.Expr (.Call (.Attribute (.Name x p1) "append" p2) [e] [] cpos) pos) (tS G X C (.app i e')):=aok hN hv hd hcd he hst hline hbase hfew hs
theorem au6{j:Expr}{j':IP.E}{p1:Pos}(hj:PE X j (tV G X C j'))(he:PE X e (tV G X C e'))(hN:X.N[i]?=some x:=by rfl)(hv:Vis X.env.scope x:=by first|exact Or.inl rfl|exact Or.inr (Or.inl rfl))(hd:(x==("__debug__":Str))=false:=by decide)(hcd:(x==("__classdict__":Str))=false:=by decide)
  (hs:swapsWithSole [.Subscript (.Name x p1) j p2] e pos.line X.env=pure false:=by rfl) (hw:swappedStores [.Subscript (.Name x p1) j p2] e X.env=pure none:=by rfl) (h1:(assignEach [.Subscript (.Name x p1) j p2] X.env).map (·.2)=[assign (.Subscript (.Name x p1) j p2) X.env]:=by rfl)
  (ha:∀v,assign (.Subscript (.Name x p1) j p2) X.env v=(do
   let ov ←holding [v] (eval (.Name x p1) X.env)
   let iv ←holding [v,ov] (eval j X.env)
   standAt p2
   holding [v,ov,iv] (setItem ov iv v)
   release [v,ov,iv] []):=by intro _;rfl):
  PS X (.Assign [.Subscript (.Name x p1) j p2] e pos) (tS G X C (.put i j' e')):=aov hN hv hd hcd he hj hs hw h1 ha
theorem aib(he:PE X e (tV G X C e'))(hs:swapsWith e none pos.line X.env=pure false:=by rfl):PS X (.Expr e pos) (tS G X C (.exp e')):=anG he hs
end
noncomputable def nth{α:Type}:List α→α→Nat→α
 | [],z,_=>z
 | a::_,_,0=>a
 | _::r,z,n+1=>nth r z n
theorem aoG{G:Gx}{P:Program}{w:World}{K:PySem.W.Frag}{mg:Str→Option Value}{base:Heap}{k:Nat}{f:Addr}{fd:FuncData}{ps:List Str}{sp:Sp}(F:FnOk P w K mg base (CXE G P w base) k f fd ps sp):FnOk P w K mg base CX0 k f fd ps (fun vs H Q _=>sp vs H Q fun _ _ _=>False):=by
 refine⟨fun vs H Q E h=>F.len vs H Q _ h,fun A outer s H args us vs Q E hr e0 hb hv h=>codeAny_mono (F.run A outer s H args us vs Q (fun _ _ _=>False) hr e0 hb hv h) fun r s' q=>?_⟩
 cases r with
 | ok fl=>
  cases fl with
  | ret u=>exact q
  | next=>exact q
  | brk=>exact q
  | cont=>exact q
 | error e=>
  obtain⟨a,cls,t,H',h,B,_,_,_,_,_,_,_,_,z⟩:=q
  exact z
section
variable{G:Gx}{X:Cx}{fs:List Fn}{sub:Nat→Nat→Bool}{k fi:Nat}{fa:Addr}{fd:FuncData}{ps:List Str}{a b e j o e₀:Expr}{es:List Expr}{a' b' e' j':IP.E}{es':List IP.E}{x m y n:Str}{p p1 p2 pos pos' apos cpos:Pos}{ds:List Value}{dvs:List V}{dts:List T}{c f i:Nat}
theorem aot(F:FnOk X.prog X.w X.K X.mg X.base (CXE G X.prog X.w X.base) (2*k) fa fd ps (spG G (cfX fs sub k).cf (cfX fs sub k).fr fi))(hr:Room (2*k+1) X.A)(hm:X.mg x=some (.ref fa))(hk:PySem.W.keepIn X.K (.ref fa)=true)(hb:abY X.K fd ps ds)(hd:aa1 dvs ds)(hdt:dts.mapM aiO=some dvs)(ha:PA X (e₀::es) (tR G X (cfX fs sub k) es'))
  (hf:afE fs fi=false:=by rfl) (hg:Gl X x:=by rfl) (hdb:(x==("__debug__":Str))=false:=by decide) (he:starEach (e₀::es) X.env=(false,eval e₀ X.env)::starEach es X.env:=by rfl) (hpl:(backTo pos (starEach es X.env)).any (·.1)=false:=by rfl):
  PE X (.Call (.Name x p) (e₀::es) [] pos) (tV G X (cfX fs sub k) (.call fi es' dts)):=ajQ hf F (hr.mono (Nat.le_succ _)) hg hm hk hb hd hdt ha hdb he hpl
theorem ady{pl:Sem Bool}(hcl:Cls X.K (G.iA c))(hmt:Meth X.K (G.iA c) m fa)(F:FnOk X.prog X.w X.K X.mg X.base (CXE G X.prog X.w X.base) (2*k) fa fd ps (spG G (cfX fs sub k).cf (cfX fs sub k).fr fi))(hr:Room (2*k+1) X.A)(hb:abY X.K fd ps ds)(hd:aa1 dvs ds)(hdt:dts.mapM aiO=some dvs)
  (ho:PE X o (tV G X (cfX fs sub k) a')) (ha:PA X (e₀::es) (tR G X (cfX fs sub k) es')) (hf:afE fs fi=false:=by rfl) (hnm:m∉G.nm c:=by decide) (hst:starEach (e₀::es) X.env=(false,eval e₀ X.env)::starEach es X.env:=by rfl) (hpl:(backTo pos (starEach es X.env)).any (·.1)=false:=by rfl)
  (ht:eval (.Call (.Attribute o m apos) (e₀::es) [] pos) X.env=(do
   let ov ←eval o X.env
   standAt apos.atName
   let (f,first) ←holding [ov] (getMethod ov m pl)
   callWith pos f first (backTo pos (starEach (e₀::es) X.env)) (backToKw pos (keywordEach [] X.env))):=by rfl):PE X (.Call (.Attribute o m apos) (e₀::es) [] pos) (tV G X (cfX fs sub k) (.meth a' c fi es' dts)):=
 ake hf hcl hmt hnm F (hr.mono (Nat.le_succ _)) hb hd hdt ho ha hst hpl ht
theorem atc{nf:Nat}(M:Mk X.K (G.iA c) fa)(F:FnOk X.prog X.w X.K X.mg X.base (CXE G X.prog X.w X.base) (2*k) fa fd ps (spG G (cfX fs sub k).cf (cfX fs sub k).fr fi))(hr:Room (2*k+1) X.A)(hm:X.mg x=some (.ref (G.iA c)))(hb:abY X.K fd ps ds)(hd:aa1 dvs ds)(hdt:dts.mapM aiO=some dvs)
  (hf:afE fs fi=false:=by rfl) (hg:Gl X x:=by rfl) (hdb:(x==("__debug__":Str))=false:=by decide):PE X (.Call (.Name x p) [] [] pos) (tV G X (cfX fs sub k) (.new c fi nf [] dts)):=ajg hf M F hr hg hm hb hd hdt hdb
end
section
variable{G:Gx}{X:Cx}{C:Cf}{a b e j o e₀:Expr}{es:List Expr}{a' b' e' j':IP.E}{es':List IP.E}{x m y n:Str}{p p1 p2 pos pos' apos cpos np mp yp hpos:Pos}{c f i:Nat}
theorem aiQ(hc:Cls X.K (G.iA c))(hna:aaQ X.K (G.iA c) x)(ha:PE X a (tV G X C a'))(hn:(G.nm c)[f]?=some x:=by rfl)(hb:attributeBase a x X.env (eval a X.env)=eval a X.env:=by rfl):PE X (.Attribute a x pos) (tV G X C (.fld a' c f)):=an4 hc hn hna ha hb
theorem ajX(ha:PE X a (tO G X C a')):PE X a (tV G X C (.cell a')):=ahI ha
theorem aoj{k:Nat}(hkit:∀d,ExcK X.K (G.cA d))(hone:∀d,PySem.W.kitOne X.K (.ref (G.cA d)) (.ref (G.cA k))=some (C.sub d k))(hm:X.mg "isinstance"=none)(hmy:X.mg y=some (.ref (G.cA k)))(ha:PE X a (tV G X C a'))(hg:Gl X "isinstance":=by rfl)(hgy:Gl X y:=by rfl)(hdy:(y==("__debug__":Str))=false:=by decide)
  (hs:starEach [a,.Name y yp] X.env=[(false,eval a X.env),(false,eval (.Name y yp) X.env)]:=by rfl):PE X (.Call (.Name "isinstance" p) [a,.Name y yp] [] pos) (tV G X C (.isi a' (.cls k))):=api hkit hone hg hm hgy hmy hdy ha hs
theorem aox(ha:PE X a (tV G X C a'))(he:PE X e (tV G X C e'))(hst:starEach [e] X.env=[(false,eval e X.env)]:=by rfl)(hline:(p2.endLine==cpos.line)=true:=by rfl)(hbase:attributeBase a "append" X.env (eval a X.env)=eval a X.env:=by rfl)
  (hfew:((backTo cpos (starEach [e] X.env)).all (fun x=>!x.1)&&(backToKw cpos (keywordEach [] X.env)).all (fun x=>x.1.isSome)&&decide ([e].length+([]:List Keyword).length+(if([]:List Keyword).isEmpty then 0 else 1)<30))=true:=by rfl)
  (hs:swapsWith (.Call (.Attribute a "append" p2) [e] [] cpos) none pos.line X.env=pure false:=by rfl):PS X (.Expr (.Call (.Attribute a "append" p2) [e] [] cpos) pos) (tS G X C (.appL a' e')):=alu ha he hst hline hbase hfew hs
theorem ajI(hcl:Cls X.K (G.iA c))(hna:aaQ X.K (G.iA c) x)(ha:PE X o (tV G X C a'))(he:PE X e (tV G X C e'))(hn:(G.nm c)[f]?=some x:=by rfl)(hnd:(G.nm c).Nodup:=by decide)(hlen:(G.nm c).length≤100:=by decide)(hs:swapsWith e (some (.Attribute o x pos')) pos.line X.env=pure false:=by rfl):
  PS X (.Assign [.Attribute o x pos'] e pos) (tS G X C (.setF a' c f e')):=alJ hcl hn hnd hlen hna ha he hs
theorem abI{ms:Str}{jj:Nat}(hm:X.mg x=some (.ref (G.cA c)))(hq:PySem.W.excIn X.K (G.cA c) [.type "ValueError",.type "Exception",.type "BaseException",.type "object"] "ValueError.__new__"=true)(hc:X.calm=true:=by rfl)(hg:Gl X x:=by rfl)(hdb:(x==("__debug__":Str))=false:=by decide)
  (he:starEach [.Constant (.str ms) jj mp] X.env=[(false,eval (.Constant (.str ms) jj mp) X.env)]:=by rfl):PS X (.Raise (some (.Call (.Name x np) [.Constant (.str ms) jj mp] [] cpos)) none pos) (tS G X C (.raise c)):=ajh hc hg hm hq PySem.F.excBase_ValueError hdb he
theorem asa{body suite:List Stmt}{b' h':List S}{b₀:Stmt}(hN:X.N.Nodup)(hm:X.mg y=some (.ref (G.cA c)))(hmt:∀d,PySem.W.exmOne X.K (.ref (G.cA d)) (.ref (G.cA c))=some (C.sub d c))
  (hbody:∀(E:Value→Shared→Prop) (pn:List (Addr×Obj)),PassesOwn (model X.prog X.w) X.A X.env E→PSs (agL X E pn) body (tSs G (agL X E pn) C b')) (hsuite:∀e,PSs (hnd X e) (b₀::suite) (tSs G (hnd X e) C h'))
  (hst:X.stack=X.env::X.outer∧X.env.frame=some X.env.locals:=by exact⟨rfl,rfl⟩) (hex:X.ex=[]:=by rfl) (hi:X.N[i]?=some n:=by rfl) (hl:X.env.scope.names.lookup n=some .local:=by rfl) (hg:Gl X y:=by rfl) (hdb:(y==("__debug__":Str))=false:=by decide):
  PS X (.Try body [.ExceptHandler (some (.Name y yp)) (some n) (b₀::suite) hpos] [] [] pos) (tS G X C (.try_ b' c (some i) h')):=akO hst hex hN hi hl hg hm hdb hmt hbody hsuite
theorem aqb{js:List Nat}{kk:Nat}(he:PE X e (tV G X C e'))(h:PGs X es (adT js))(hc:X.calm=true:=by rfl)(hn:(assignEach es X.env).length=js.length:=by rfl)(hst:(assignEach es X.env).findIdx? (·.1)=none:=by rfl)
  (hs:swapsWithSole [.Tuple es kk p] e pos.line X.env=pure false:=by rfl) (hw:swappedStores [.Tuple es kk p] e X.env=pure none:=by rfl) (h1:(assignEach [.Tuple es kk p] X.env).map (·.2)=[assign (.Tuple es kk p) X.env]:=by rfl):PS X (.Assign [.Tuple es kk p] e pos) (tS G X C (.asgT js e')):=al4 hc he h hn hst hs hw h1
theorem akt{tg iter:Expr}{it':IP.E}{g:Tg}{bb:List Stmt}{b':List S}(hp:PassesOwn (model X.prog X.w) X.A X.env X.xe)(hI:PI X tg iter (tI G X C it' .j true))(hg:PG X tg (gTg G g))(hb:PSs X bb (tSs G X C b'))(hc:X.calm=true:=by rfl)
  (hs:∀x,foldedSetIterable iter X.env x=pure x:=by intro _;rfl) (hit:∀i,it'≠.var i:=by intro _ h;cases h):PS X (.For tg iter bb [] pos) (tS G X C (.for_ g it' b')):=amV hp hc hI hg hb hs hit
theorem agK{tg:Expr}{xp:Pos}{g:Tg}{bb:List Stmt}{b':List S}(hp:PassesOwn (model X.prog X.w) X.A X.env X.xe)(hg:PG X tg (gTg G g))(hb:PSs X bb (tSs G X C b'))(hc:X.calm=true:=by rfl)(hN:X.N[i]?=some x:=by rfl)(hv:Vis X.env.scope x:=by first|exact Or.inl rfl|exact Or.inr (Or.inl rfl))(hd:(x==("__debug__":Str))=false:=by decide)(hcd:(x==("__classdict__":Str))=false:=by decide)
  (hs:∀y,foldedSetIterable (.Name x xp) X.env y=pure y:=by intro _;rfl):PS X (.For tg (.Name x xp) bb [] pos) (tS G X C (.for_ g (.var i) b')):=akI hp hc hN hv hd hcd hg hb hs
theorem aiM{i:Int}{t:Tok}(hm:X.mg x=some (.int i t))(hg:Gl X x:=by rfl)(hd:(x==("__debug__":Str))=false:=by decide):PE X (.Name x pos) (tV G X C (.glb x i)):=anD hg hm hd
end
section
variable{G:Gx}{X:Cx}{C:Cf}
@[irreducible] def HE (X:Cx) (e:Expr) (t:TE):Prop:=PE X e t
theorem acL{a:Expr}{a':IP.E}(ha:HE X a (tO G X C a')):HE X a (tV G X C (.cell a')):=by
 unfold HE at *
 exact ahI ha
end
theorem aar{G:Gx}{P:Program}{w:World}{K:PySem.W.Frag}{mg:Str→Option Value}{base:Heap}{fs:List Fn}{sub:Nat→Nat→Bool}{k fi:Nat}{x qual:Str}{st:Stmt}{f:Addr}{fd:FuncData}{N ps:List Str}{F:Fn}(Fu:FunD K x qual st f fd)(S:FnScope N ps (aad st))(hF:fs[fi]?=some F)(hp:F.pars=ps.length)(hs:F.size=N.length)
  (hbody:∀(cdv:Value) (A:Around) (outer:List Env) (s:Shared) (H:Hp) (E:XK),Room (2*k+1) (A.deeper (PyProof.Rows.envOfC qual (aad st) s.heap.objs.size f cdv))→(A.deeper (PyProof.Rows.envOfC qual (aad st) s.heap.objs.size f cdv)).units+9<cLine→
   PassesOwn (model P w) (A.deeper (PyProof.Rows.envOfC qual (aad st) s.heap.objs.size f cdv)) (PyProof.Rows.envOfC qual (aad st) s.heap.objs.size f cdv) (adw (CXE G P w base) P w K mg base N qual (aad st) f cdv A outer s H E).xe→
   PSs (adw (CXE G P w base) P w K mg base N qual (aad st) f cdv A outer s H E) (aaO st) (tSs G (adw (CXE G P w base) P w K mg base N qual (aad st) f cdv A outer s H E) (cfX fs sub k) F.body)):
  FnOk P w K mg base (CXE G P w base) (2*(k+1)) f fd ps (spG G (run true fs sub aaj (k+1)) (afE fs) fi):=
 aoW Fu S hF hp hs fun cdv A outer s H E hr=>hbody cdv A outer s H E hr (Nat.lt_of_le_of_lt (Nat.add_le_add_left (by decide:9≤64) _) hr.units) (passes_leave (X:=adw (CXE G P w base) P w K mg base N qual (aad st) f cdv A outer s H E) rfl)
noncomputable def ar6:Nat→(List Value→Prop)→Prop
 | 0,p=>p []
 | n+1,p=>∀a,ar6 n fun us=>p (a::us)
theorem abq:∀(n:Nat) {p:List Value→Prop},ar6 n p→∀us,us.length=n→p us
 | 0,p,h,us,hl=>by rw[List.length_eq_zero_iff.mp hl];exact h
 | n+1,p,h,us,hl=>by
  cases us with
  | nil=>cases hl
  | cons a us=>exact abq n (h a) us (Nat.succ.inj hl)
theorem aet{K:PySem.W.Frag}{fd:FuncData}{ps:List Str}{ds:List Value}(n:Nat)(h:ar6 n fun us=>∀s:Shared,K.In s.heap→BindsTo s fd ⟨us,[]⟩ (ps.zip (us++ds)))(hn:n+ds.length=ps.length):abY K fd ps ds:=fun s us X hl=>abq n (p:=fun us=>∀s:Shared,K.In s.heap→BindsTo s fd ⟨us,[]⟩ (ps.zip (us++ds))) h us (by rw[List.length_append]at hl;omega) s X
structure PV where
 (oc:Value) (od:Option Addr) (kV dc pm:Value) (an:Option Addr) (cd ct:Value) (sl:Array (Option Value))
structure FH(K:PySem.W.Frag)(x q:Str)(st:Stmt)(dv:Value)(f:Addr)(v:PV):Prop where
 a:PySem.W.nsIn K mainGlobals x=some (some (.ref f))
 l:K.lookup f=some ⟨v.oc,v.od,.func (PySem.W.fnOf x q (abr st) (aaO st) (aad st) dv v.kV v.dc v.pm v.an v.cd v.ct),v.sl⟩
 c:PySem.W.codeIn K v.cd q=true
 k:PySem.W.keepIn K (.ref f)=true
structure FM(K:PySem.W.Frag)(C:Addr)(x q:Str)(st:Stmt)(dv:Value)(f:Addr)(v:PV):Prop where
 a:PySem.W.findIn K (.ref C) x=some (some (.ref f))
 i:PySem.W.isFn K (.ref f)=true
 l:K.lookup f=some ⟨v.oc,v.od,.func (PySem.W.fnOf x q (abr st) (aaO st) (aad st) dv v.kV v.dc v.pm v.an v.cd v.ct),v.sl⟩
 c:PySem.W.codeIn K v.cd q=true
 k:PySem.W.keepIn K (.ref f)=true
theorem FH.of{K:PySem.W.Frag}{x q:Str}{st:Stmt}{dv:Value}{f:Addr}{oc:Value}{od:Option Addr}{kV dc pm:Value}{an:Option Addr}{cd ct:Value}{sl:Array (Option Value)}(a:PySem.W.nsIn K mainGlobals x=some (some (.ref f)))
  (l:K.lookup f=some ⟨oc,od,.func (PySem.W.fnOf x q (abr st) (aaO st) (aad st) dv kV dc pm an cd ct),sl⟩) (c:PySem.W.codeIn K cd q=true) (k:PySem.W.keepIn K (.ref f)=true):FH K x q st dv f ⟨oc,od,kV,dc,pm,an,cd,ct,sl⟩:=⟨a,l,c,k⟩
theorem FM.of{K:PySem.W.Frag}{C:Addr}{x q:Str}{st:Stmt}{dv:Value}{f:Addr}{oc:Value}{od:Option Addr}{kV dc pm:Value}{an:Option Addr}{cd ct:Value}{sl:Array (Option Value)}(a:PySem.W.findIn K (.ref C) x=some (some (.ref f)))(i:PySem.W.isFn K (.ref f)=true)
  (l:K.lookup f=some ⟨oc,od,.func (PySem.W.fnOf x q (abr st) (aaO st) (aad st) dv kV dc pm an cd ct),sl⟩) (c:PySem.W.codeIn K cd q=true) (k:PySem.W.keepIn K (.ref f)=true):FM K C x q st dv f ⟨oc,od,kV,dc,pm,an,cd,ct,sl⟩:=⟨a,i,l,c,k⟩
structure FD(K:PySem.W.Frag)(x q:Str)(st:Stmt)(ps:List Str)(E:Addr→Prop)where
 f:Addr
 d:FuncData
 t:FunD K x q st f d
 b:abY K d ps []
 e:E f
noncomputable abbrev FT(K:PySem.W.Frag)(mg:Str→Option Value)(x q:Str)(st:Stmt)(ps:List Str):=FD K x q st ps fun f=>mg x=some (.ref f)∧PySem.W.keepIn K (.ref f)=true
noncomputable abbrev FU(K:PySem.W.Frag)(C:Addr)(x q:Str)(st:Stmt)(ps:List Str):=FD K x q st ps fun f=>Meth K C x f
theorem aat{G:Gx}{X:Cx}{fs:List Fn}{sub:Nat→Nat→Bool}{k fi:Nat}{x q:Str}{st:Stmt}{ps:List Str}{u:FT X.K X.mg x q st ps}{e₀:Expr}{es:List Expr}{es':List IP.E}{p pos:Pos}(F:FnOk X.prog X.w X.K X.mg X.base (CXE G X.prog X.w X.base) (2*k) u.f u.d ps (spG G (cfX fs sub k).cf (cfX fs sub k).fr fi))(hr:Room (2*k+1) X.A)(ha:PA X (e₀::es) (tR G X (cfX fs sub k) es'))
  (hf:afE fs fi=false:=by rfl) (hg:Gl X x:=by rfl) (hdb:(x==("__debug__":Str))=false:=by decide) (he:starEach (e₀::es) X.env=(false,eval e₀ X.env)::starEach es X.env:=by rfl) (hpl:(backTo pos (starEach es X.env)).any (·.1)=false:=by rfl):
  PE X (.Call (.Name x p) (e₀::es) [] pos) (tV G X (cfX fs sub k) (.call fi es' [])):=aot F hr u.e.1 u.e.2 u.b .nil rfl ha hf hg hdb he hpl
end IP
end
section
namespace IP
open PySem PySem.Spec L2
namespace Pg
noncomputable def top(i:Nat):Stmt:=PySem.Challenge.pw_gradecut_k34_not_laid_out.main.body.getD i (.Pass ⟨0,0,0,0⟩)
noncomputable abbrev agJ:Stmt:=top 12
noncomputable def aeE:List Str:=["oblongs","width","laid","oblong","length","?5","?6","?7"]
theorem ahp:(aeE).Nodup:=by decide +kernel
noncomputable def aeP:List Str:=["oblongs","width","laid","!3","length","oblong","!6","!7"]
theorem ahl:(aeP).Nodup:=by decide +kernel
noncomputable def aeU:List Str:=["oblongs","width","laid","oblong","length","!5","box","!7"]
theorem ahX:(aeU).Nodup:=by decide +kernel
noncomputable def aez:List Str:=["oblongs","width","laid","oblong","length","!5","!6","box"]
theorem ahK:(aez).Nodup:=by decide +kernel
noncomputable abbrev abz:E:=(.cmp .gt (.sub (.var 5) (.cst (.int 0))) (.var 1))
noncomputable abbrev act:List S:=[(.app 2 (.call 1 [(.var 3),(.var 1),(.var 2)] []))]
noncomputable abbrev aca:E:=(.call 5 [(.var 6)] [])
noncomputable abbrev aco:E:=(.tup [(.sub (.var 7) (.cst (.int 0))),(.sub (.var 7) (.cst (.int 1)))])
noncomputable def ajN:List S:=[(.ifs (.cmp .gt (.b1 .len (.var 0)) (.glb "MOST_OBLONGS" (8))) [(.raise 6)] []),
 (.ifs (.b1 .any (.comp abz (.one 5) (.var 0))) [(.raise 7)] []),
 (.mk 2 (.lst [])),
 (.for_ (.one 3) (.var 0) act),
 (.asg 4 (.mxd (.comp aca (.one 6) (.var 2)) (.cst (.int 0)))),
 (.ret (.tup [(.var 4),(.comp aco (.one 7) (.var 2))]))]
noncomputable abbrev ao0:Fn:=⟨2,8,false,ajN⟩
theorem aoC:FnScope aeE ["oblongs","width"] (aad agJ):=by constructor<;>first|rfl|decide +kernel
noncomputable abbrev amv:Stmt:=top 13
noncomputable def aiI:List Str:=["oblong","width","laid","free","y","x","tried","?7","?8"]
theorem aiY:(aiI).Nodup:=by decide +kernel
noncomputable def afV:List Str:=["oblong","width","laid","free","y","x","tried","box","!8"]
theorem aj3:(afV).Nodup:=by decide +kernel
noncomputable def agd:List Str:=["oblong","width","laid","free","y","x","tried","!7","box"]
theorem ajF:(agd).Nodup:=by decide +kernel
noncomputable abbrev adN:E:=(.call 5 [(.var 7)] [])
noncomputable abbrev adY:E:=(.call 4 [(.var 8)] [])
noncomputable abbrev adc:List S:=[(.asg 6 (.tup [(.var 5),(.var 4),(.sub (.var 0) (.cst (.int 0))),(.sub (.var 0) (.cst (.int 1)))])),
 (.ifs (.and (.cmp .le (.call 4 [(.var 6)] []) (.var 1)) (.call 2 [(.var 6),(.var 2)] [])) [(.app 3 (.var 6))] [])]
noncomputable abbrev acX:List S:=[(.for_ (.one 5) (.bin .add (.lst [(.cst (.int 0))]) (.comp adY (.one 8) (.var 2))) adc)]
noncomputable def aqt:List S:=[(.mk 3 (.lst [])),
 (.for_ (.one 4) (.bin .add (.lst [(.cst (.int 0))]) (.comp adN (.one 7) (.var 2))) acX),
 (.ret (.mnk (.var 3) 1 0 0 1 ⟨40,25,40,53⟩ ((("lowest_box":Str)++".<locals>.")++"<lambda>")))]
noncomputable abbrev awW:Fn:=⟨3,9,false,aqt⟩
theorem asS:FnScope aiI ["oblong","width","laid"] (aad amv):=by constructor<;>first|rfl|decide +kernel
noncomputable abbrev apI:Stmt:=top 14
noncomputable def an9:List Str:=["tried","laid","?2"]
noncomputable def afW:List Str:=["tried","laid","box"]
theorem ajG:(afW).Nodup:=by decide +kernel
noncomputable abbrev afI:E:=(.call 3 [(.var 0),(.var 2)] [])
noncomputable def aru:List S:=[(.ret (.not (.b1 .any (.comp afI (.one 2) (.var 1)))))]
noncomputable abbrev aw9:Fn:=⟨2,3,false,aru⟩
theorem at9:FnScope an9 ["tried","laid"] (aad apI):=by constructor<;>first|rfl|decide +kernel
noncomputable abbrev as4:Stmt:=top 15
noncomputable def ano:List Str:=["one","two","beside","above"]
theorem aof:(ano).Nodup:=by decide +kernel
noncomputable def arR:List S:=[(.asg 2 (.or (.cmp .le (.call 4 [(.var 0)] []) (.sub (.var 1) (.cst (.int 0)))) (.cmp .le (.call 4 [(.var 1)] []) (.sub (.var 0) (.cst (.int 0)))))),
 (.asg 3 (.or (.cmp .le (.call 5 [(.var 0)] []) (.sub (.var 1) (.cst (.int 1)))) (.cmp .le (.call 5 [(.var 1)] []) (.sub (.var 0) (.cst (.int 1)))))),
 (.ret (.and (.not (.var 2)) (.not (.var 3))))]
noncomputable abbrev avN:Fn:=⟨2,4,false,arR⟩
theorem asq:FnScope ano ["one","two"] (aad as4):=by constructor<;>first|rfl|decide +kernel
noncomputable abbrev atx:Stmt:=top 16
noncomputable def aub:List Str:=["box"]
noncomputable def auy:List S:=[(.ret (.bin .add (.sub (.var 0) (.cst (.int 0))) (.sub (.var 0) (.cst (.int 2)))))]
noncomputable abbrev avE:Fn:=⟨1,1,false,auy⟩
theorem aui:FnScope aub ["box"] (aad atx):=by constructor<;>first|rfl|decide +kernel
noncomputable abbrev akJ:Stmt:=top 17
noncomputable def anx:List Str:=["box"]
noncomputable def alj:List S:=[(.ret (.bin .add (.sub (.var 0) (.cst (.int 1))) (.sub (.var 0) (.cst (.int 3)))))]
noncomputable abbrev auj:Fn:=⟨1,1,false,alj⟩
theorem aoX:FnScope anx ["box"] (aad akJ):=by constructor<;>first|rfl|decide +kernel
noncomputable abbrev aqw:Stmt:=top 19
noncomputable abbrev awH:Nat:=6
noncomputable def anr:List Str:=["corners","i","j"]
theorem anj:(anr).Nodup:=by decide +kernel
noncomputable abbrev amd:List S:=[(.ifs (.call 7 [(.var 0),(.var 1),(.var 2)] []) [(.ret (.tup [(.var 1),(.var 2)]))] [])]
noncomputable abbrev amk:List S:=[(.for_ (.one 2) (.rng2 (.var 1) (.b1 .len (.var 0))) amd)]
noncomputable def ave:List S:=[(.for_ (.one 1) (.rng1 (.b1 .len (.var 0))) amk),
 (.ret (.cst .non))]
theorem arD:FnScope anr ["corners"] (aad aqw):=by constructor<;>first|rfl|decide +kernel
noncomputable abbrev arS:Stmt:=top 20
noncomputable abbrev avC:Nat:=7
noncomputable def an0:List Str:=["corners","i","j","one","two"]
theorem amW:(an0).Nodup:=by decide +kernel
noncomputable def apO:List S:=[(.asg 3 (.call 8 [(.var 0),(.var 1)] [])),
 (.asg 4 (.call 8 [(.var 0),(.var 2)] [])),
 (.ifs (.cmp .eq (.var 1) (.var 2)) [(.ret (.cmp .eq (.sub (.var 3) (.cst (.int 0))) (.sub (.var 3) (.cst (.int 1)))))] []),
 (.ifs (.cmp .eq (.var 2) (.bin .add (.var 1) (.cst (.int 1)))) [(.ret (.call 9 [(.sub (.var 3) (.cst (.int 1))),(.sub (.var 3) (.cst (.int 0))),(.sub (.var 4) (.cst (.int 1)))] []))] []),
 (.ifs (.and (.cmp .eq (.bin .add (.var 2) (.cst (.int 1))) (.b1 .len (.var 0))) (.cmp .eq (.var 1) (.cst (.int 0)))) [(.ret (.call 9 [(.sub (.var 3) (.cst (.int 0))),(.sub (.var 3) (.cst (.int 1))),(.sub (.var 4) (.cst (.int 0)))] []))] []),
 (.ret (.call 10 [(.var 3),(.var 4)] []))]
theorem apM:FnScope an0 ["corners","i","j"] (aad arS):=by constructor<;>first|rfl|decide +kernel
noncomputable abbrev at4:Stmt:=top 21
noncomputable abbrev avX:Nat:=8
noncomputable def asJ:List Str:=["corners","k"]
noncomputable def aqf:List S:=[(.ret (.tup [(.sub (.var 0) (.var 1)),(.sub (.var 0) (.bin .mod (.bin .add (.var 1) (.cst (.int 1))) (.b1 .len (.var 0))))]))]
theorem aqP:FnScope asJ ["corners","k"] (aad at4):=by constructor<;>first|rfl|decide +kernel
noncomputable abbrev arP:Stmt:=top 22
noncomputable abbrev avO:Nat:=9
noncomputable def as8:List Str:=["corner","one","two"]
noncomputable def arO:List S:=[(.ret (.and (.cmp .eq (.call 13 [(.var 0),(.var 1),(.var 2)] []) (.cst (.int 0))) (.cmp .gt (.call 14 [(.var 0),(.var 1),(.var 2)] []) (.cst (.int 0)))))]
theorem aqB:FnScope as8 ["corner","one","two"] (aad arP):=by constructor<;>first|rfl|decide +kernel
noncomputable abbrev aqK:Stmt:=top 23
noncomputable abbrev awg:Nat:=10
noncomputable def asr:List Str:=["one","two"]
noncomputable def aqV:List S:=[(.ifs (.or (.not (.call 11 [(.var 0),(.var 1),(.cst (.int 0))] [])) (.not (.call 11 [(.var 0),(.var 1),(.cst (.int 1))] []))) [(.ret (.cst (.bl false)))] []),
 (.ret (.and (.call 12 [(.var 0),(.var 1)] []) (.call 12 [(.var 1),(.var 0)] [])))]
theorem aq5:FnScope asr ["one","two"] (aad aqK):=by constructor<;>first|rfl|decide +kernel
noncomputable abbrev aq1:Stmt:=top 24
noncomputable abbrev avw:Nat:=11
noncomputable def amF:List Str:=["one","two","axis","one_span","two_span"]
theorem amO:(amF).Nodup:=by decide +kernel
noncomputable def aoS:List S:=[(.asg 3 (.b1 .sorted (.lst [(.sub (.sub (.var 0) (.cst (.int 0))) (.var 2)),(.sub (.sub (.var 0) (.cst (.int 1))) (.var 2))]))),
 (.asg 4 (.b1 .sorted (.lst [(.sub (.sub (.var 1) (.cst (.int 0))) (.var 2)),(.sub (.sub (.var 1) (.cst (.int 1))) (.var 2))]))),
 (.ret (.and (.cmp .le (.sub (.var 3) (.cst (.int 0))) (.sub (.var 4) (.cst (.int 1)))) (.cmp .le (.sub (.var 4) (.cst (.int 0))) (.sub (.var 3) (.cst (.int 1))))))]
theorem aql:FnScope amF ["one","two","axis"] (aad aq1):=by constructor<;>first|rfl|decide +kernel
noncomputable abbrev au1:Stmt:=top 25
noncomputable abbrev awf:Nat:=12
noncomputable def arC:List Str:=["side","line"]
noncomputable def atC:List S:=[(.ret (.cmp .le (.bin .mul (.call 13 [(.sub (.var 1) (.cst (.int 0))),(.sub (.var 1) (.cst (.int 1))),(.sub (.var 0) (.cst (.int 0)))] []) (.call 13 [(.sub (.var 1) (.cst (.int 0))),(.sub (.var 1) (.cst (.int 1))),(.sub (.var 0) (.cst (.int 1)))] [])) (.cst (.int 0))))]
theorem asD:FnScope arC ["side","line"] (aad au1):=by constructor<;>first|rfl|decide +kernel
noncomputable abbrev asi:Stmt:=top 26
noncomputable abbrev awz:Nat:=13
noncomputable def aqs:List Str:=["start","one","two"]
noncomputable def arj:List S:=[(.ret (.bin .sub (.bin .mul (.bin .sub (.sub (.var 1) (.cst (.int 0))) (.sub (.var 0) (.cst (.int 0)))) (.bin .sub (.sub (.var 2) (.cst (.int 1))) (.sub (.var 0) (.cst (.int 1))))) (.bin .mul (.bin .sub (.sub (.var 1) (.cst (.int 1))) (.sub (.var 0) (.cst (.int 1)))) (.bin .sub (.sub (.var 2) (.cst (.int 0))) (.sub (.var 0) (.cst (.int 0)))))))]
theorem auq:FnScope aqs ["start","one","two"] (aad asi):=by constructor<;>first|rfl|decide +kernel
noncomputable abbrev arW:Stmt:=top 27
noncomputable abbrev aw6:Nat:=14
noncomputable def asu:List Str:=["start","one","two"]
noncomputable def auc:List S:=[(.ret (.bin .add (.bin .mul (.bin .sub (.sub (.var 1) (.cst (.int 0))) (.sub (.var 0) (.cst (.int 0)))) (.bin .sub (.sub (.var 2) (.cst (.int 0))) (.sub (.var 0) (.cst (.int 0))))) (.bin .mul (.bin .sub (.sub (.var 1) (.cst (.int 1))) (.sub (.var 0) (.cst (.int 1)))) (.bin .sub (.sub (.var 2) (.cst (.int 1))) (.sub (.var 0) (.cst (.int 1)))))))]
theorem ata:FnScope asu ["start","one","two"] (aad arW):=by constructor<;>first|rfl|decide +kernel
noncomputable abbrev akr:Stmt:=top 29
noncomputable def afr:List Str:=["book","wanted","width","room","lines","told","?6","?7","?8","?9","?10"]
theorem alR:(afr).Nodup:=by decide +kernel
noncomputable def aem:List Str:=["book","wanted","width","room","lines","told","one","!7","!8","!9","!10"]
theorem agb:(aem).Nodup:=by decide +kernel
noncomputable def afN:List Str:=["book","wanted","width","room","lines","told","!6","line","!8","!9","!10"]
theorem aj4:(afN).Nodup:=by decide +kernel
noncomputable def agz:List Str:=["book","wanted","width","room","lines","told","!6","!7","line","!9","!10"]
theorem ajn:(agz).Nodup:=by decide +kernel
noncomputable def agi:List Str:=["book","wanted","width","room","lines","told","!6","!7","!8","line","at"]
theorem agg:(agi).Nodup:=by decide +kernel
noncomputable abbrev adi:E:=(.meth (.var 0) 0 28 [(.sub (.var 6) (.cst (.int 0))),(.sub (.var 6) (.cst (.int 1)))] [])
noncomputable abbrev afu:E:=(.cmp .notN (.call 6 [(.var 7)] []) (.cst .non))
noncomputable abbrev ade:E:=(.call 17 [(.var 8),(.var 3)] [])
noncomputable abbrev acz:E:=(.call 20 [(.var 9),(.var 10),(.var 3)] [])
noncomputable def agY:List S:=[(.exp (.call 16 [(.var 0),(.var 1)] [])),
 (.asg 4 (.comp adi (.one 6) (.var 1))),
 (.ifs (.b1 .any (.comp afu (.one 7) (.var 4))) [(.raise 5)] []),
 (.asg 5 (.call 0 [(.comp ade (.one 8) (.var 4)),(.var 2)] [])),
 (.ret (.tup [(.sub (.var 5) (.cst (.int 0))),(.comp acz (.many [9,10]) (.zip (.var 4) (.sub (.var 5) (.cst (.int 1)))))]))]
noncomputable abbrev an6:Fn:=⟨4,11,false,agY⟩
theorem arq:FnScope afr ["book","wanted","width","room"] (aad akr):=by constructor<;>first|rfl|decide +kernel
noncomputable abbrev asz:Stmt:=top 30
noncomputable def amS:List Str:=["book","wanted","one"]
theorem atb:(amS).Nodup:=by decide +kernel
noncomputable abbrev abB:List S:=[(.exp (.meth (.var 0) 0 26 [(.sub (.var 2) (.cst (.int 0)))] []))]
noncomputable def aku:List S:=[(.ifs (.cmp .gt (.b1 .len (.var 1)) (.glb "MOST_OBLONGS" (8))) [(.raise 6)] []),
 (.for_ (.one 2) (.var 1) abB)]
noncomputable abbrev aw8:Fn:=⟨2,3,false,aku⟩
theorem art:FnScope amS ["book","wanted"] (aad asz):=by constructor<;>first|rfl|decide +kernel
noncomputable abbrev arU:Stmt:=top 31
noncomputable def arl:List Str:=["line","room"]
noncomputable def atg:List S:=[(.ret (.tup [(.bin .add (.call 18 [(.var 0),(.cst (.int 0))] []) (.bin .mul (.cst (.int 2)) (.var 1))),(.bin .add (.call 18 [(.var 0),(.cst (.int 1))] []) (.bin .mul (.cst (.int 2)) (.var 1)))]))]
noncomputable abbrev axc:Fn:=⟨2,2,false,atg⟩
theorem arz:FnScope arl ["line","room"] (aad arU):=by constructor<;>first|rfl|decide +kernel
noncomputable abbrev apu:Stmt:=top 32
noncomputable def aoY:List Str:=["line","axis","?2"]
noncomputable def aga:List Str:=["line","axis","corner"]
theorem aji:(aga).Nodup:=by decide +kernel
noncomputable abbrev ahz:E:=(.sub (.var 2) (.var 1))
noncomputable def auM:List S:=[(.ret (.bin .sub (.b1 .max (.comp ahz (.one 2) (.var 0))) (.call 19 [(.var 0),(.var 1)] [])))]
noncomputable abbrev avK:Fn:=⟨2,3,false,auM⟩
theorem atp:FnScope aoY ["line","axis"] (aad apu):=by constructor<;>first|rfl|decide +kernel
noncomputable abbrev apD:Stmt:=top 33
noncomputable def anF:List Str:=["line","axis","?2"]
noncomputable def agu:List Str:=["line","axis","corner"]
theorem akj:(agu).Nodup:=by decide +kernel
noncomputable abbrev ahO:E:=(.sub (.var 2) (.var 1))
noncomputable def av0:List S:=[(.ret (.b1 .min (.comp ahO (.one 2) (.var 0))))]
noncomputable abbrev awS:Fn:=⟨2,3,false,av0⟩
theorem apW:FnScope anF ["line","axis"] (aad apD):=by constructor<;>first|rfl|decide +kernel
noncomputable abbrev apC:Stmt:=top 34
noncomputable def alV:List Str:=["line","at","room","across","up","?5"]
theorem amJ:(alV).Nodup:=by decide +kernel
noncomputable def afQ:List Str:=["line","at","room","across","up","corner"]
theorem aka:(afQ).Nodup:=by decide +kernel
noncomputable abbrev afg:E:=(.tup [(.bin .add (.sub (.var 5) (.cst (.int 0))) (.var 3)),(.bin .add (.sub (.var 5) (.cst (.int 1))) (.var 4))])
noncomputable def auL:List S:=[(.asg 3 (.bin .sub (.bin .add (.sub (.var 1) (.cst (.int 0))) (.var 2)) (.call 19 [(.var 0),(.cst (.int 0))] []))),
 (.asg 4 (.bin .sub (.bin .add (.sub (.var 1) (.cst (.int 1))) (.var 2)) (.call 19 [(.var 0),(.cst (.int 1))] []))),
 (.ret (.comp afg (.one 5) (.var 0)))]
noncomputable abbrev awk:Fn:=⟨3,6,false,auL⟩
theorem atN:FnScope alV ["line","at","room"] (aad apC):=by constructor<;>first|rfl|decide +kernel
noncomputable abbrev ase:Stmt:=top 38
noncomputable abbrev aw2:Nat:=21
noncomputable def asV:List Str:=["spot","size"]
noncomputable def ap9:List S:=[(.exp (.call 22 [(.var 1)] [])),
 (.ifs (.cmp .lt (.var 1) (.cst (.int 0))) [(.ret (.call 23 [(.var 0),(.sub (.var 0) (.cst (.int 4))),(.sub (.var 0) (.cst (.int 5))),(.neg (.var 1))] []))] []),
 (.ret (.call 23 [(.var 0),(.sub (.var 0) (.cst (.int 2))),(.sub (.var 0) (.cst (.int 3))),(.var 1)] []))]
noncomputable abbrev aws:Fn:=⟨2,2,false,ap9⟩
theorem aqU:FnScope asV ["spot","size"] (aad ase):=by constructor<;>first|rfl|decide +kernel
noncomputable abbrev asE:Stmt:=top 39
noncomputable abbrev avd:Nat:=22
noncomputable def aqJ:List Str:=["size"]
noncomputable def aog:List S:=[(.ifs (.or (.cmp .lt (.var 0) (.glb "LEAST" (-6))) (.cmp .gt (.var 0) (.glb "MOST" (6)))) [(.raise 1)] [])]
noncomputable abbrev auW:Fn:=⟨1,1,false,aog⟩
theorem aqu:FnScope aqJ ["size"] (aad asE):=by constructor<;>first|rfl|decide +kernel
noncomputable abbrev arF:Stmt:=top 40
noncomputable abbrev awO:Nat:=23
noncomputable def arE:List Str:=["spot","across","up","steps"]
noncomputable def at8:List S:=[(.ret (.tup [(.bin .add (.sub (.var 0) (.cst (.int 0))) (.bin .mul (.var 3) (.var 1))),(.bin .add (.sub (.var 0) (.cst (.int 1))) (.bin .mul (.var 3) (.var 2)))]))]
noncomputable abbrev avY:Fn:=⟨4,4,false,at8⟩
theorem arn:FnScope arE ["spot","across","up","steps"] (aad arF):=by constructor<;>first|rfl|decide +kernel
noncomputable abbrev sz2:Stmt:=L2.inClass (top 48) 0
noncomputable abbrev iz2:Nat:=24
noncomputable def aw5:List Str:=["self"]
noncomputable def bz2:List S:=[(.setF (.var 0) 0 0 (.cst (.int 0))),
 (.setF (.var 0) 0 1 (.cell (.lst []))),
 (.setF (.var 0) 0 2 (.cell (.lst []))),
 (.setF (.var 0) 0 3 (.cell (.lst [])))]
noncomputable abbrev Fz2:Fn:=⟨1,1,false,bz2⟩
theorem avJ:FnScope aw5 ["self"] (aad sz2):=by constructor<;>first|rfl|decide +kernel
noncomputable abbrev sz3:Stmt:=L2.inClass (top 48) 1
noncomputable abbrev iz3:Nat:=25
noncomputable def apv:List Str:=["self","corners","marks","by_side","?4","?5"]
theorem axo:(apv).Nodup:=by decide +kernel
noncomputable def aha:List Str:=["self","corners","marks","by_side","corner","!5"]
theorem alz:(aha).Nodup:=by decide +kernel
noncomputable def ai3:List Str:=["self","corners","marks","by_side","!4","spots"]
theorem aml:(ai3).Nodup:=by decide +kernel
noncomputable abbrev ais:E:=(.lst [])
noncomputable abbrev ahb:E:=(.b1 .list (.var 5))
noncomputable def bz3:List S:=[(.ifs (.cmp .ge (.b1 .len (.fld (.var 0) 0 1)) (.glb "MOST_PIECES" (10))) [(.raise 4)] []),
 (.asg 3 (.ife (.cmp .isN (.var 2) (.cst .non)) (.comp ais (.one 4) (.var 1)) (.comp ahb (.one 5) (.var 2)))),
 (.exp (.call 32 [(.var 1),(.var 3)] [])),
 (.appL (.fld (.var 0) 0 1) (.cell (.b1 .list (.var 1)))),
 (.appL (.fld (.var 0) 0 2) (.var 3)),
 (.ret (.bin .sub (.b1 .len (.fld (.var 0) 0 1)) (.cst (.int 1))))]
noncomputable abbrev Fz3:Fn:=⟨3,6,false,bz3⟩
theorem awi:FnScope apv ["self","corners","marks"] (aad sz3):=by constructor<;>first|rfl|decide +kernel
noncomputable abbrev sz8:Stmt:=L2.inClass (top 48) 10
noncomputable abbrev iz8:Nat:=26
noncomputable def awE:List Str:=["self","piece"]
noncomputable def bz8:List S:=[(.exp (.call 31 [(.var 1),(.fld (.var 0) 0 1)] [])),
 (.ret (.b1 .list (.sub (.fld (.var 0) 0 1) (.var 1))))]
noncomputable abbrev Fz8:Fn:=⟨2,2,false,bz8⟩
theorem awt:FnScope awE ["self","piece"] (aad sz8):=by constructor<;>first|rfl|decide +kernel
noncomputable abbrev sz5:Stmt:=L2.inClass (top 48) 11
noncomputable def avG:List Str:=["self","piece","side"]
noncomputable def bz5:List S:=[(.exp (.call 31 [(.var 1),(.fld (.var 0) 0 2)] [])),
 (.exp (.call 31 [(.var 2),(.sub (.fld (.var 0) 0 2) (.var 1))] [])),
 (.ret (.b1 .list (.sub (.sub (.fld (.var 0) 0 2) (.var 1)) (.var 2))))]
theorem axk:FnScope avG ["self","piece","side"] (aad sz5):=by constructor<;>first|rfl|decide +kernel
noncomputable abbrev sz4:Stmt:=L2.inClass (top 48) 13
noncomputable abbrev iz4:Nat:=28
noncomputable def awZ:List Str:=["self","piece","size"]
noncomputable def bz4:List S:=[(.ret (.meth (.var 0) 0 30 [(.meth (.var 0) 0 26 [(.var 1)] []),(.var 2)] []))]
noncomputable abbrev Fz4:Fn:=⟨3,3,false,bz4⟩
theorem awB:FnScope awZ ["self","piece","size"] (aad sz4):=by constructor<;>first|rfl|decide +kernel
noncomputable abbrev sz6:Stmt:=L2.inClass (top 48) 14
noncomputable def avQ:List Str:=["self","piece","side","size"]
noncomputable def bz6:List S:=[(.ret (.meth (.var 0) 0 30 [(.meth (.var 0) 0 27 [(.var 1),(.var 2)] []),(.var 3)] []))]
theorem awD:FnScope avQ ["self","piece","side","size"] (aad sz6):=by constructor<;>first|rfl|decide +kernel
noncomputable abbrev sz7:Stmt:=L2.inClass (top 48) 15
noncomputable abbrev iz7:Nat:=30
noncomputable def arT:List Str:=["self","spots","size","meant","?4"]
theorem awc:(arT).Nodup:=by decide +kernel
noncomputable def ah6:List Str:=["self","spots","size","meant","spot"]
theorem akV:(ah6).Nodup:=by decide +kernel
noncomputable abbrev ai6:E:=(.call 21 [(.var 4),(.var 3)] [])
noncomputable def bz7:List S:=[(.asg 3 (.ife (.cmp .isN (.var 2) (.cst .non)) (.fld (.var 0) 0 0) (.var 2))),
 (.exp (.call 22 [(.var 3)] [])),
 (.ret (.comp ai6 (.one 4) (.var 1)))]
noncomputable abbrev Fz7:Fn:=⟨3,5,false,bz7⟩
theorem awj:FnScope arT ["self","spots","size"] (aad sz7):=by constructor<;>first|rfl|decide +kernel
noncomputable abbrev asU:Stmt:=top 49
noncomputable abbrev auJ:Nat:=31
noncomputable def arY:List Str:=["number","those"]
noncomputable def alv:List S:=[(.ifs (.or (.cmp .lt (.var 0) (.cst (.int 0))) (.cmp .ge (.var 0) (.b1 .len (.var 1)))) [(.raise 3)] [])]
noncomputable abbrev auZ:Fn:=⟨2,2,false,alv⟩
theorem arB:FnScope arY ["number","those"] (aad asU):=by constructor<;>first|rfl|decide +kernel
noncomputable abbrev aoT:Stmt:=top 50
noncomputable abbrev awd:Nat:=32
noncomputable def alF:List Str:=["corners","by_side","?2","?3"]
noncomputable def afU:List Str:=["corners","by_side","spots","!3"]
theorem aj2:(afU).Nodup:=by decide +kernel
noncomputable def agm:List Str:=["corners","by_side","!2","spots"]
theorem ajm:(agm).Nodup:=by decide +kernel
noncomputable abbrev af4:E:=(.cmp .gt (.b1 .len (.var 2)) (.glb "MOST_MARKS" (4)))
noncomputable abbrev af7:E:=(.call 33 [(.var 3)] [])
noncomputable def arv:List S:=[(.ifs (.or (.cmp .lt (.b1 .len (.var 0)) (.glb "LEAST_CORNERS" (3))) (.cmp .gt (.b1 .len (.var 0)) (.glb "MOST_CORNERS" (24)))) [(.raise 2)] []),
 (.ifs (.cmp .ne (.b1 .len (.var 1)) (.b1 .len (.var 0))) [(.raise 2)] []),
 (.ifs (.b1 .any (.comp af4 (.one 2) (.var 1))) [(.raise 2)] []),
 (.ifs (.not (.b1 .all (.comp af7 (.one 3) (.bin .add (.lst [(.var 0)]) (.var 1))))) [(.raise 2)] [])]
noncomputable abbrev auE:Fn:=⟨2,4,false,arv⟩
theorem arH:FnScope alF ["corners","by_side"] (aad aoT):=by constructor<;>first|rfl|decide +kernel
noncomputable abbrev apw:Stmt:=top 51
noncomputable abbrev axf:Nat:=33
noncomputable def apm:List Str:=["spots","?1"]
noncomputable def afP:List Str:=["spots","spot"]
theorem ajH:(afP).Nodup:=by decide +kernel
noncomputable abbrev afG:E:=(.and (.call 34 [(.cutU (.var 1) (.cst (.int 2))),(.glb "FARTHEST" (20000))] []) (.call 34 [(.cutL (.var 1) (.cst (.int 2))),(.glb "LONGEST_MOVE" (200))] []))
noncomputable def at1:List S:=[(.ret (.b1 .all (.comp afG (.one 1) (.var 0))))]
noncomputable abbrev atf:Fn:=⟨1,2,false,at1⟩
theorem arM:FnScope apm ["spots"] (aad apw):=by constructor<;>first|rfl|decide +kernel
noncomputable abbrev ap2:Stmt:=top 52
noncomputable abbrev awa:Nat:=34
noncomputable def amK:List Str:=["numbers","bound","?2"]
noncomputable def agl:List Str:=["numbers","bound","number"]
theorem aje:(agl).Nodup:=by decide +kernel
noncomputable abbrev afm:E:=(.cmp .le (.b1 .abs (.var 2)) (.var 1))
noncomputable def atm:List S:=[(.ret (.b1 .all (.comp afm (.one 2) (.var 0))))]
noncomputable abbrev asl:Fn:=⟨2,3,false,atm⟩
theorem as1:FnScope amK ["numbers","bound"] (aad ap2):=by constructor<;>first|rfl|decide +kernel
noncomputable abbrev at6:Stmt:=top 54
noncomputable abbrev awY:Nat:=35
noncomputable def ard:List Str:=["_law_found"]
noncomputable def aus:List S:=[(.ret (.and (.isi (.var 0) .int) (.not (.isi (.var 0) .bool))))]
noncomputable abbrev awX:Fn:=⟨1,1,false,aus⟩
theorem aqm:FnScope ard ["_law_found"] (aad at6):=by constructor<;>first|rfl|decide +kernel
noncomputable abbrev arx:Stmt:=top 55
noncomputable abbrev awo:Nat:=36
noncomputable def aqp:List Str:=["_law_script","_law_k"]
noncomputable def apt:List S:=[(.ifs (.cmp .lt (.var 1) (.b1 .len (.var 0))) [(.ret (.sub (.var 0) (.var 1)))] []),
 (.ret (.cst (.int 0)))]
noncomputable abbrev awG:Fn:=⟨2,2,false,apt⟩
theorem atu:FnScope aqp ["_law_script","_law_k"] (aad arx):=by constructor<;>first|rfl|decide +kernel
noncomputable abbrev aug:Stmt:=top 56
noncomputable abbrev avF:Nat:=37
noncomputable def anH:List Str:=["_law_script","_law_many","_law_state","_law_row","_law_k"]
theorem aj7:(anH).Nodup:=by decide +kernel
noncomputable abbrev aiE:List S:=[(.asg 2 (.bin .mod (.bin .add (.bin .add (.bin .mul (.var 2) (.cst (.int 48271))) (.call 36 [(.var 0),(.var 4)] [])) (.cst (.int 11))) (.cst (.int 2147483647)))),
 (.app 3 (.var 2))]
noncomputable def aq6:List S:=[(.asg 2 (.cst (.int 7))),
 (.mk 3 (.lst [])),
 (.for_ (.one 4) (.rng1 (.var 1)) aiE),
 (.frz 3),
 (.ret (.var 3))]
noncomputable abbrev auN:Fn:=⟨2,5,false,aq6⟩
theorem asb:FnScope anH ["_law_script","_law_many"] (aad aug):=by constructor<;>first|rfl|decide +kernel
noncomputable abbrev asC:Stmt:=top 57
noncomputable abbrev awM:Nat:=38
noncomputable def aoP:List Str:=["_law_found","_law_due_here","_law_k"]
theorem ar0:(aoP).Nodup:=by decide +kernel
noncomputable abbrev ah4:List S:=[(.ifs (.not (.call 39 [(.sub (.var 0) (.var 2)),(.sub (.var 1) (.var 2))] [])) [(.ret (.cst (.bl false)))] [])]
noncomputable def asc:List S:=[(.ifs (.or (.not (.isi (.var 0) .list)) (.cmp .ne (.b1 .len (.var 0)) (.b1 .len (.var 1)))) [(.ret (.cst (.bl false)))] []),
 (.for_ (.one 2) (.rng1 (.b1 .len (.var 1))) ah4),
 (.ret (.cst (.bl true)))]
noncomputable abbrev av7:Fn:=⟨2,3,false,asc⟩
theorem atq:FnScope aoP ["_law_found","_law_due_here"] (aad asC):=by constructor<;>first|rfl|decide +kernel
noncomputable abbrev as9:Stmt:=top 58
noncomputable abbrev axm:Nat:=39
noncomputable def apk:List Str:=["_law_found","_law_due_here","_law_k"]
theorem asv:(apk).Nodup:=by decide +kernel
noncomputable abbrev ahF:List S:=[(.ifs (.or (.not (.call 35 [(.sub (.var 0) (.var 2))] [])) (.cmp .ne (.sub (.var 0) (.var 2)) (.sub (.var 1) (.var 2)))) [(.ret (.cst (.bl false)))] [])]
noncomputable def auk:List S:=[(.ifs (.or (.not (.isi (.var 0) .tuple)) (.cmp .ne (.b1 .len (.var 0)) (.b1 .len (.var 1)))) [(.ret (.cst (.bl false)))] []),
 (.for_ (.one 2) (.rng1 (.b1 .len (.var 1))) ahF),
 (.ret (.cst (.bl true)))]
noncomputable abbrev avf:Fn:=⟨2,3,false,auk⟩
theorem aqg:FnScope apk ["_law_found","_law_due_here"] (aad as9):=by constructor<;>first|rfl|decide +kernel
noncomputable abbrev arX:Stmt:=top 59
noncomputable def an1:List Str:=["_law_broad","_law_high","_law_grow","_law_edge","_law_book_here","_law_right"]
theorem aoH:(an1).Nodup:=by decide +kernel
noncomputable def au9:List S:=[(.asg 4 (.new 0 24 4 [] [])),
 (.asg 5 (.lst [(.tup [(.var 0),(.cst (.int 0)),(.var 2),(.cst (.int 0)),(.var 2),(.cst (.int 0))]),(.tup [(.var 0),(.var 1),(.var 2),(.cst (.int 0)),(.var 2),(.cst (.int 0))])])),
 (.exp (.meth (.var 4) 0 25 [(.bin .add (.bin .add (.lst [(.tup [(.cst (.int 0)),(.cst (.int 0)),(.cst (.int 0)),(.cst (.int 0)),(.cst (.int 0)),(.cst (.int 0))])]) (.var 5)) (.lst [(.tup [(.cst (.int 0)),(.var 1),(.cst (.int 0)),(.cst (.int 0)),(.cst (.int 0)),(.cst (.int 0))])]))] [.non])),
 (.exp (.meth (.var 4) 0 25 [(.lst [(.tup [(.cst (.int 0)),(.cst (.int 0)),(.cst (.int 0)),(.cst (.int 0)),(.cst (.int 0)),(.cst (.int 0))]),(.tup [(.cst (.int 9)),(.cst (.int 0)),(.cst (.int 0)),(.cst (.int 0)),(.cst (.int 0)),(.cst (.int 0))]),(.tup [(.cst (.int 9)),(.var 3),(.cst (.int 0)),(.neg (.cst (.int 1))),(.cst (.int 0)),(.neg (.cst (.int 1)))]),(.tup [(.cst (.int 0)),(.cst (.int 9)),(.cst (.int 0)),(.cst (.int 0)),(.cst (.int 0)),(.cst (.int 0))])])] [.non])),
 (.exp (.meth (.var 4) 0 25 [(.lst [(.tup [(.neg (.cst (.int 500))),(.cst (.int 0)),(.cst (.int 0)),(.cst (.int 0)),(.cst (.int 0)),(.cst (.int 0))]),(.tup [(.cst (.int 500)),(.cst (.int 0)),(.cst (.int 0)),(.cst (.int 0)),(.cst (.int 0)),(.cst (.int 0))]),(.tup [(.cst (.int 500)),(.cst (.int 5)),(.cst (.int 0)),(.cst (.int 0)),(.cst (.int 0)),(.cst (.int 0))]),(.tup [(.neg (.cst (.int 500))),(.cst (.int 5)),(.cst (.int 0)),(.cst (.int 0)),(.cst (.int 0)),(.cst (.int 0))])])] [.non])),
 (.ret (.var 4))]
noncomputable abbrev awe:Fn:=⟨4,6,false,au9⟩
theorem atE:FnScope an1 ["_law_broad","_law_high","_law_grow","_law_edge"] (aad arX):=by constructor<;>first|rfl|decide +kernel
noncomputable abbrev as5:Stmt:=top 60
noncomputable def aut:List Str:=["_law_piece","_law_size","_law_broad","_law_grow"]
noncomputable def aoU:List S:=[(.ret (.sub (.lst [(.bin .add (.var 2) (.bin .mul (.var 3) (.b1 .abs (.var 1)))),(.cst (.int 9)),(.cst (.int 1000))]) (.var 0)))]
noncomputable abbrev awq:Fn:=⟨4,4,false,aoU⟩
theorem apS:FnScope aut ["_law_piece","_law_size","_law_broad","_law_grow"] (aad as5):=by constructor<;>first|rfl|decide +kernel
noncomputable abbrev at0:Stmt:=top 61
noncomputable def apb:List Str:=["_law_wanted","_law_width","_law_room","_law_broad","_law_grow","_law_edge","_law_piece","_law_size"]
theorem afa:(apb).Nodup:=by decide +kernel
noncomputable abbrev aia:List S:=[(.ifs (.or (.cmp .lt (.var 6) (.cst (.int 0))) (.cmp .gt (.var 6) (.cst (.int 2)))) [(.ret (.cst (.int 2)))] [])]
noncomputable abbrev ai5:List S:=[(.ifs (.or (.cmp .lt (.var 7) (.neg (.cst (.int 6)))) (.cmp .gt (.var 7) (.cst (.int 6)))) [(.ret (.cst (.int 4)))] [])]
noncomputable abbrev ahq:List S:=[(.ifs (.and (.cmp .eq (.var 6) (.cst (.int 1))) (.cmp .ge (.b1 .abs (.var 7)) (.var 5))) [(.ret (.cst (.int 8)))] [])]
noncomputable abbrev aiw:List S:=[(.ifs (.cmp .gt (.bin .add (.call 41 [(.var 6),(.var 7),(.var 3),(.var 4)] []) (.bin .mul (.cst (.int 2)) (.var 2))) (.var 1)) [(.ret (.cst (.int 16)))] [])]
noncomputable def atY:List S:=[(.ifs (.cmp .gt (.b1 .len (.var 0)) (.cst (.int 8))) [(.ret (.cst (.int 1)))] []),
 (.for_ (.many [6,7]) (.var 0) aia),
 (.for_ (.many [6,7]) (.var 0) ai5),
 (.for_ (.many [6,7]) (.var 0) ahq),
 (.for_ (.many [6,7]) (.var 0) aiw),
 (.ret (.cst (.int 0)))]
noncomputable abbrev awN:Fn:=⟨6,8,false,atY⟩
theorem ate:FnScope apb ["_law_wanted","_law_width","_law_room","_law_broad","_law_grow","_law_edge"] (aad at0):=by constructor<;>first|rfl|decide +kernel
noncomputable abbrev apZ:Stmt:=top 62
noncomputable def anM:List Str:=["_law_book_here","_law_wanted","_law_width","_law_room","_law_code","_law_found","e"]
theorem aft:(anM).Nodup:=by decide +kernel
noncomputable abbrev afx:List S:=[(.ifs (.cmp .eq (.var 3) (.cst (.int 0))) [(.asg 5 (.call 15 [(.var 0),(.var 1),(.var 2)] [.int 0]))] [(.asg 5 (.call 15 [(.var 0),(.var 1),(.var 2),(.var 3)] []))])]
noncomputable abbrev afn:List S:=[(.asg 4 (.bin .add (.bin .add (.b1 .int (.isi (.var 6) (.cls 6))) (.bin .mul (.cst (.int 2)) (.b1 .int (.isi (.var 6) (.cls 3))))) (.bin .mul (.cst (.int 4)) (.b1 .int (.isi (.var 6) (.cls 1)))))),
 (.asg 4 (.bin .add (.bin .add (.var 4) (.bin .mul (.cst (.int 8)) (.b1 .int (.isi (.var 6) (.cls 5))))) (.bin .mul (.cst (.int 16)) (.b1 .int (.isi (.var 6) (.cls 7))))))]
noncomputable def anN:List S:=[(.asg 4 (.cst (.int 0))),
 (.asg 5 (.cst .non)),
 (.try_ afx 0 (some 6) afn),
 (.ret (.tup [(.var 4),(.var 5)]))]
noncomputable abbrev aw7:Fn:=⟨4,7,false,anN⟩
theorem aqS:FnScope anM ["_law_book_here","_law_wanted","_law_width","_law_room"] (aad apZ):=by constructor<;>first|rfl|decide +kernel
noncomputable abbrev au0:Stmt:=top 63
noncomputable abbrev awu:Nat:=44
noncomputable def as7:List Str:=["_law_found","_law_many"]
noncomputable def aqF:List S:=[(.ifs (.or (.not (.isi (.var 0) .tuple)) (.or (.cmp .ne (.b1 .len (.var 0)) (.cst (.int 2))) (.not (.call 35 [(.sub (.var 0) (.cst (.int 0)))] [])))) [(.ret (.cst (.bl false)))] []),
 (.ret (.and (.isi (.sub (.var 0) (.cst (.int 1))) .list) (.cmp .eq (.b1 .len (.sub (.var 0) (.cst (.int 1)))) (.var 1))))]
noncomputable abbrev avZ:Fn:=⟨2,2,false,aqF⟩
theorem ati:FnScope as7 ["_law_found","_law_many"] (aad au0):=by constructor<;>first|rfl|decide +kernel
noncomputable abbrev agO:Stmt:=top 64
noncomputable abbrev asx:Nat:=45
noncomputable def ak0:List Str:=["_law_script","_law_row","_law_broad","_law_high","_law_grow","_law_edge","_law_book_here","_law_wanted","_law_k","_law_room","_law_width","_law_handed","_law_code","_law_found"]
theorem abi:(ak0).Nodup:=by decide +kernel
noncomputable abbrev adU:List S:=[(.app 7 (.tup [(.bin .mul (.bin .mod (.sub (.var 1) (.bin .add (.cst (.int 5)) (.var 8))) (.cst (.int 3))) (.bin .mod (.bin .fdiv (.sub (.var 1) (.bin .add (.cst (.int 5)) (.var 8))) (.cst (.int 39))) (.cst (.int 2)))),(.bin .sub (.bin .mod (.bin .fdiv (.sub (.var 1) (.bin .add (.cst (.int 5)) (.var 8))) (.cst (.int 3))) (.cst (.int 13))) (.cst (.int 6)))]))]
noncomputable def amb:List S:=[(.asg 1 (.call 37 [(.var 0),(.cst (.int 24))] [])),
 (.asg 2 (.bin .add (.cst (.int 10)) (.bin .mod (.sub (.var 1) (.cst (.int 0))) (.cst (.int 51))))),
 (.asg 3 (.bin .add (.cst (.int 10)) (.bin .mod (.sub (.var 1) (.cst (.int 1))) (.cst (.int 51))))),
 (.asg 4 (.bin .add (.cst (.int 1)) (.bin .mod (.sub (.var 1) (.cst (.int 2))) (.cst (.int 9))))),
 (.asg 5 (.bin .mod (.sub (.var 1) (.cst (.int 3))) (.cst (.int 9)))),
 (.ifs (.cmp .eq (.bin .mod (.bin .fdiv (.sub (.var 1) (.cst (.int 3))) (.cst (.int 9))) (.cst (.int 2))) (.cst (.int 0))) [(.asg 5 (.cst (.int 7)))] []),
 (.asg 6 (.call 40 [(.var 2),(.var 3),(.var 4),(.var 5)] [])),
 (.mk 7 (.lst [])),
 (.for_ (.one 8) (.rng1 (.bin .mod (.sub (.var 1) (.cst (.int 4))) (.cst (.int 11)))) adU),
 (.ifs (.and (.cmp .ne (.var 7) (.lst [])) (.cmp .mem (.bin .mod (.sub (.var 1) (.cst (.int 16))) (.cst (.int 8))) (.tup [(.cst (.int 1)),(.cst (.int 3))]))) [(.put 7 (.bin .mod (.sub (.var 1) (.cst (.int 17))) (.b1 .len (.var 7))) (.tup [(.sub (.lst [(.cst (.int 3)),(.neg (.cst (.int 1)))]) (.bin .mod (.sub (.var 1) (.cst (.int 18))) (.cst (.int 2)))),(.bin .mod (.bin .fdiv (.sub (.var 1) (.cst (.int 17))) (.cst (.int 10))) (.cst (.int 5)))]))] []),
 (.ifs (.and (.cmp .ne (.var 7) (.lst [])) (.cmp .mem (.bin .mod (.sub (.var 1) (.cst (.int 16))) (.cst (.int 8))) (.tup [(.cst (.int 2)),(.cst (.int 3))]))) [(.put 7 (.bin .mod (.sub (.var 1) (.cst (.int 19))) (.b1 .len (.var 7))) (.tup [(.bin .mod (.sub (.var 1) (.cst (.int 20))) (.cst (.int 3))),(.sub (.lst [(.cst (.int 7)),(.neg (.cst (.int 7))),(.bin .pow (.cst (.int 10)) (.cst (.int 30)))]) (.bin .mod (.bin .fdiv (.sub (.var 1) (.cst (.int 20))) (.cst (.int 3))) (.cst (.int 3))))]))] []),
 (.asg 9 (.bin .mul (.bin .mod (.sub (.var 1) (.cst (.int 21))) (.cst (.int 21))) (.bin .mod (.bin .fdiv (.sub (.var 1) (.cst (.int 21))) (.cst (.int 21))) (.cst (.int 2))))),
 (.asg 10 (.sub (.lst [(.bin .add (.cst (.int 1000)) (.bin .mod (.sub (.var 1) (.cst (.int 22))) (.cst (.int 500)))),(.bin .add (.cst (.int 1)) (.bin .mod (.sub (.var 1) (.cst (.int 22))) (.cst (.int 150))))]) (.b1 .int (.cmp .eq (.bin .mod (.sub (.var 1) (.cst (.int 23))) (.cst (.int 3))) (.cst (.int 1)))))),
 (.ifs (.cmp .eq (.bin .mod (.bin .fdiv (.sub (.var 1) (.cst (.int 23))) (.cst (.int 3))) (.cst (.int 4))) (.cst (.int 1))) [(.asg 10 (.bin .sub (.bin .add (.bin .add (.bin .add (.var 2) (.bin .mul (.var 4) (.cst (.int 6)))) (.bin .mul (.cst (.int 2)) (.var 9))) (.bin .mod (.sub (.var 1) (.cst (.int 22))) (.cst (.int 2)))) (.cst (.int 1))))] []),
 (.asg 11 (.b1 .list (.var 7))),
 (.asgT [12,13] (.call 43 [(.var 6),(.var 11),(.var 10),(.var 9)] [])),
 (.ifs (.or (.not (.call 38 [(.var 11),(.var 7)] [])) (.cmp .ne (.var 12) (.call 42 [(.var 7),(.var 10),(.var 9),(.var 2),(.var 4),(.var 5)] []))) [(.ret (.cst (.bl false)))] []),
 (.ret (.or (.cmp .gt (.var 12) (.cst (.int 0))) (.call 44 [(.var 13),(.b1 .len (.var 7))] [])))]
noncomputable abbrev apr:Fn:=⟨1,14,false,amb⟩
theorem an8:FnScope ak0 ["_law_script"] (aad agO):=by constructor<;>first|rfl|decide +kernel
noncomputable def fns:List Fn:=[⟨2,8,false,ajN⟩,
 ⟨3,9,false,aqt⟩,
 ⟨2,3,false,aru⟩,
 ⟨2,4,false,arR⟩,
 ⟨1,1,false,auy⟩,
 ⟨1,1,false,alj⟩,
 ⟨1,3,false,ave⟩,
 ⟨3,5,false,apO⟩,
 ⟨2,2,false,aqf⟩,
 ⟨3,3,false,arO⟩,
 ⟨2,2,false,aqV⟩,
 ⟨3,5,false,aoS⟩,
 ⟨2,2,false,atC⟩,
 ⟨3,3,false,arj⟩,
 ⟨3,3,false,auc⟩,
 ⟨4,11,false,agY⟩,
 ⟨2,3,false,aku⟩,
 ⟨2,2,false,atg⟩,
 ⟨2,3,false,auM⟩,
 ⟨2,3,false,av0⟩,
 ⟨3,6,false,auL⟩,
 ⟨2,2,false,ap9⟩,
 ⟨1,1,false,aog⟩,
 ⟨4,4,false,at8⟩,
 ⟨1,1,false,bz2⟩,
 ⟨3,6,false,bz3⟩,
 ⟨2,2,false,bz8⟩,
 ⟨3,3,false,bz5⟩,
 ⟨3,3,false,bz4⟩,
 ⟨4,4,false,bz6⟩,
 ⟨3,5,false,bz7⟩,
 ⟨2,2,false,alv⟩,
 ⟨2,4,false,arv⟩,
 ⟨1,2,false,at1⟩,
 ⟨2,3,false,atm⟩,
 ⟨1,1,false,aus⟩,
 ⟨2,2,false,apt⟩,
 ⟨2,5,false,aq6⟩,
 ⟨2,3,false,asc⟩,
 ⟨2,3,false,auk⟩,
 ⟨4,6,false,au9⟩,
 ⟨4,4,false,aoU⟩,
 ⟨6,8,false,atY⟩,
 ⟨4,7,false,anN⟩,
 ⟨2,2,false,aqF⟩,
 ⟨1,14,false,amb⟩]
noncomputable abbrev ayX:Nat:=0
noncomputable abbrev xz1:Nat:=1
noncomputable abbrev xz0:Nat:=2
noncomputable abbrev ayU:Nat:=3
noncomputable abbrev azH:Nat:=4
noncomputable abbrev xz9:Nat:=5
noncomputable abbrev azN:Nat:=6
noncomputable abbrev azF:Nat:=7
noncomputable def aao(d c:Nat):Bool:=nth (nth [[true,false,false,false,false,false,false,false],[true,true,false,false,false,false,false,false],[true,false,true,false,false,false,false,false],[true,false,false,true,false,false,false,false],[true,false,false,false,true,false,false,false],[true,false,false,false,false,true,false,false],[true,false,false,false,false,false,true,false],[true,false,false,false,false,false,false,true]] [true,false,false,false,false,false,false,false] d) false c
set_option genInjectivity false in
set_option genSizeOf false in
structure Txt(K:W.Frag)(mg:Str→Option Value)where
 axy:Addr
 azr:mg "GradeError"=some (.ref axy)
 ez1:Addr
 azY:mg "BadSize"=some (.ref ez1)
 qz1:W.excIn K ez1 [.type "ValueError",.type "Exception",.type "BaseException",.type "object"] "ValueError.__new__"=true
 ez0:Addr
 a0j:mg "BadPiece"=some (.ref ez0)
 qz0:W.excIn K ez0 [.type "ValueError",.type "Exception",.type "BaseException",.type "object"] "ValueError.__new__"=true
 axv:Addr
 azg:mg "NoSuch"=some (.ref axv)
 a0g:W.excIn K axv [.type "ValueError",.type "Exception",.type "BaseException",.type "object"] "ValueError.__new__"=true
 ax4:Addr
 azm:mg "Full"=some (.ref ax4)
 a0o:W.excIn K ax4 [.type "ValueError",.type "Exception",.type "BaseException",.type "object"] "ValueError.__new__"=true
 ez9:Addr
 a0f:mg "Crossed"=some (.ref ez9)
 qz9:W.excIn K ez9 [.type "ValueError",.type "Exception",.type "BaseException",.type "object"] "ValueError.__new__"=true
 axw:Addr
 azv:mg "TooMany"=some (.ref axw)
 a0u:W.excIn K axw [.type "ValueError",.type "Exception",.type "BaseException",.type "object"] "ValueError.__new__"=true
 axx:Addr
 azw:mg "TooWide"=some (.ref axx)
 a0n:W.excIn K axx [.type "ValueError",.type "Exception",.type "BaseException",.type "object"] "ValueError.__new__"=true
 ayX:ExcK K axy
 xz1:ExcK K ez1
 xz0:ExcK K ez0
 ayU:ExcK K axv
 azH:ExcK K ax4
 xz9:ExcK K ez9
 azN:ExcK K axw
 azF:ExcK K axx
 axN:W.kitOne K (.ref axy) (.ref ez1)=some false
 ay2:W.kitOne K (.ref ez1) (.ref ez1)=some true
 ay4:W.kitOne K (.ref ez0) (.ref ez1)=some false
 ayp:W.kitOne K (.ref axv) (.ref ez1)=some false
 ays:W.kitOne K (.ref ax4) (.ref ez1)=some false
 ay7:W.kitOne K (.ref ez9) (.ref ez1)=some false
 ayi:W.kitOne K (.ref axw) (.ref ez1)=some false
 ayr:W.kitOne K (.ref axx) (.ref ez1)=some false
 ax6:W.kitOne K (.ref axy) (.ref axv)=some false
 ayl:W.kitOne K (.ref ez1) (.ref axv)=some false
 ayx:W.kitOne K (.ref ez0) (.ref axv)=some false
 axP:W.kitOne K (.ref axv) (.ref axv)=some true
 axY:W.kitOne K (.ref ax4) (.ref axv)=some false
 ayd:W.kitOne K (.ref ez9) (.ref axv)=some false
 axH:W.kitOne K (.ref axw) (.ref axv)=some false
 axW:W.kitOne K (.ref axx) (.ref axv)=some false
 axJ:W.kitOne K (.ref axy) (.ref ez9)=some false
 ay9:W.kitOne K (.ref ez1) (.ref ez9)=some false
 ay8:W.kitOne K (.ref ez0) (.ref ez9)=some false
 ayn:W.kitOne K (.ref axv) (.ref ez9)=some false
 ayu:W.kitOne K (.ref ax4) (.ref ez9)=some false
 ay5:W.kitOne K (.ref ez9) (.ref ez9)=some true
 ayo:W.kitOne K (.ref axw) (.ref ez9)=some false
 ayj:W.kitOne K (.ref axx) (.ref ez9)=some false
 ax7:W.kitOne K (.ref axy) (.ref axw)=some false
 ayq:W.kitOne K (.ref ez1) (.ref axw)=some false
 ayg:W.kitOne K (.ref ez0) (.ref axw)=some false
 axZ:W.kitOne K (.ref axv) (.ref axw)=some false
 axQ:W.kitOne K (.ref ax4) (.ref axw)=some false
 ayv:W.kitOne K (.ref ez9) (.ref axw)=some false
 axT:W.kitOne K (.ref axw) (.ref axw)=some true
 axR:W.kitOne K (.ref axx) (.ref axw)=some false
 ax8:W.kitOne K (.ref axy) (.ref axx)=some false
 ayf:W.kitOne K (.ref ez1) (.ref axx)=some false
 ayz:W.kitOne K (.ref ez0) (.ref axx)=some false
 aya:W.kitOne K (.ref axv) (.ref axx)=some false
 ayb:W.kitOne K (.ref ax4) (.ref axx)=some false
 aye:W.kitOne K (.ref ez9) (.ref axx)=some false
 axV:W.kitOne K (.ref axw) (.ref axx)=some false
 axM:W.kitOne K (.ref axx) (.ref axx)=some true
 ax5:W.exmOne K (.ref axy) (.ref axy)=some true
 ayw:W.exmOne K (.ref ez1) (.ref axy)=some true
 ayy:W.exmOne K (.ref ez0) (.ref axy)=some true
 axX:W.exmOne K (.ref axv) (.ref axy)=some true
 axU:W.exmOne K (.ref ax4) (.ref axy)=some true
 aym:W.exmOne K (.ref ez9) (.ref axy)=some true
 axO:W.exmOne K (.ref axw) (.ref axy)=some true
 axS:W.exmOne K (.ref axx) (.ref axy)=some true
 axq:Addr
 ayK:mg "Book"=some (.ref axq)
 ayB:Cls K axq
 ax0:aaQ K axq "size"
 axu:aaQ K axq "pieces"
 axs:aaQ K axq "side_marks"
 axz:aaQ K axq "seams"
 ayH:FT K mg "lay" "lay" agJ ["oblongs","width"]
 ayP:FT K mg "lowest_box" "lowest_box" amv ["oblong","width","laid"]
 azq:FT K mg "is_free" "is_free" apI ["tried","laid"]
 azh:FT K mg "overlap" "overlap" as4 ["one","two"]
 azt:FT K mg "right" "right" atx ["box"]
 ayG:FT K mg "top" "top" akJ ["box"]
 azz:FT K mg "crossing" "crossing" aqw ["corners"]
 azp:FT K mg "sides_cross" "sides_cross" arS ["corners","i","j"]
 azl:FT K mg "side_ends" "side_ends" at4 ["corners","k"]
 az8:FT K mg "run_together" "run_together" arP ["corner","one","two"]
 azd:FT K mg "have_common_point" "have_common_point" aqK ["one","two"]
 azE:FT K mg "spans_meet" "spans_meet" aq1 ["one","two","axis"]
 az4:FT K mg "reaches_across" "reaches_across" au1 ["side","line"]
 az5:FT K mg "turn" "turn" asi ["start","one","two"]
 azB:FT K mg "along" "along" arW ["start","one","two"]
 ayt:Tok
 ayO:FT K mg "lay_out" "lay_out" akr ["book","wanted","width","room"]
 ayJ:abY K ayO.d ["book","wanted","width","room"] [.int 0 ayt]
 azC:FT K mg "check_wanted" "check_wanted" asz ["book","wanted"]
 az2:FT K mg "oblong" "oblong" arU ["line","room"]
 azn:FT K mg "breadth_along" "breadth_along" apu ["line","axis"]
 aza:FT K mg "least_along" "least_along" apD ["line","axis"]
 az3:FT K mg "moved_to" "moved_to" apC ["line","at","room"]
 az0:FT K mg "place" "place" ase ["spot","size"]
 azu:FT K mg "check_size" "check_size" asE ["size"]
 ayY:FT K mg "moved" "moved" arF ["spot","across","up","steps"]
 uz2:FU K axq "__init__" "Book.__init__" sz2 ["self"]
 ayC:Mk K axq uz2.f
 uz3:FU K axq "add_piece" "Book.add_piece" sz3 ["self","corners","marks"]
 ay6:abY K uz3.d ["self","corners","marks"] [.none]
 uz8:FU K axq "spots" "Book.spots" sz8 ["self","piece"]
 uz5:FU K axq "mark_spots" "Book.mark_spots" sz5 ["self","piece","side"]
 uz4:FU K axq "corners" "Book.corners" sz4 ["self","piece","size"]
 uz6:FU K axq "marks" "Book.marks" sz6 ["self","piece","side","size"]
 uz7:FU K axq "places" "Book.places" sz7 ["self","spots","size"]
 az9:FT K mg "check_there" "check_there" asU ["number","those"]
 az1:FT K mg "check_piece" "check_piece" aoT ["corners","by_side"]
 azb:FT K mg "spots_fit" "spots_fit" apw ["spots"]
 azj:FT K mg "all_within" "all_within" ap2 ["numbers","bound"]
 azk:FT K mg "_law_whole" "_law_whole" at6 ["_law_found"]
 azc:FT K mg "_law_at" "_law_at" arx ["_law_script","_law_k"]
 azD:FT K mg "_law_stir" "_law_stir" aug ["_law_script","_law_many"]
 azi:FT K mg "_law_rows" "_law_rows" asC ["_law_found","_law_due_here"]
 azf:FT K mg "_law_numbers" "_law_numbers" as9 ["_law_found","_law_due_here"]
 azx:FT K mg "_law_book" "_law_book" arX ["_law_broad","_law_high","_law_grow","_law_edge"]
 azA:FT K mg "_law_wide" "_law_wide" as5 ["_law_piece","_law_size","_law_broad","_law_grow"]
 azy:FT K mg "_law_due" "_law_due" at0 ["_law_wanted","_law_width","_law_room","_law_broad","_law_grow","_law_edge"]
 ayW:FT K mg "_law_asked" "_law_asked" apZ ["_law_book_here","_law_wanted","_law_width","_law_room"]
 azs:FT K mg "_law_told" "_law_told" au0 ["_law_found","_law_many"]
 ayF:FT K mg "law" "law" agO ["_law_script"]
 axB:Tok
 ax1:mg "MOST_OBLONGS"=some (.int (8) axB)
 ayD:Tok
 ayN:mg "LEAST"=some (.int (-6) ayD)
 ayL:Tok
 ayR:mg "MOST"=some (.int (6) ayL)
 axF:Tok
 axL:mg "MOST_PIECES"=some (.int (10) axF)
 ax3:Tok
 ax9:mg "LEAST_CORNERS"=some (.int (3) ax3)
 axA:Tok
 axE:mg "MOST_CORNERS"=some (.int (24) axA)
 axK:Tok
 ayc:mg "MOST_MARKS"=some (.int (4) axK)
 ayh:Tok
 ay1:mg "FARTHEST"=some (.int (20000) ayh)
 axD:Tok
 axG:mg "LONGEST_MOVE"=some (.int (200) axD)
 ayI:mg "abs"=none
 ayM:mg "all"=none
 ayE:mg "any"=none
 ayQ:mg "bool"=none
 ayk:mg "int"=none
 axr:mg "isinstance"=none
 axt:mg "len"=none
 axC:mg "list"=none
 ayS:mg "max"=none
 ayT:mg "min"=none
 ax2:mg "range"=none
 ay0:mg "sorted"=none
 ay3:mg "tuple"=none
 az7:mg "zip"=none
 pt:Addr
 cz:Addr
 zc:ayP.d.code=.ref cz
section
variable{K:W.Frag}{mg:Str→Option Value}
noncomputable def Gof(T:Txt K mg):Gx:=⟨K,nth [T.axy,T.ez1,T.ez0,T.axv,T.ax4,T.ez9,T.axw,T.axx] (T.axy),nth [T.axq,T.pt] (T.axq),nth [["size","pieces","side_marks","seams"]] []⟩
theorem at5(T:Txt K mg):mg "GradeError"=some (.ref ((Gof T).cA 0)):=T.azr
theorem atT(T:Txt K mg):∀d,W.exmOne K (.ref ((Gof T).cA d)) (.ref ((Gof T).cA 0))=some (aao d 0):=fun d=>match d with | 0=>T.ax5 | 1=>T.ayw | 2=>T.ayy | 3=>T.axX | 4=>T.axU | 5=>T.aym | 6=>T.axO | 7=>T.axS | _+8=>T.ax5
theorem avg(T:Txt K mg):mg "BadSize"=some (.ref ((Gof T).cA 1)):=T.azY
theorem axh(T:Txt K mg):W.excIn K ((Gof T).cA 1) [.type "ValueError",.type "Exception",.type "BaseException",.type "object"] "ValueError.__new__"=true:=T.qz1
theorem awm(T:Txt K mg):∀d,W.kitOne K (.ref ((Gof T).cA d)) (.ref ((Gof T).cA 1))=some (aao d 1):=fun d=>match d with | 0=>T.axN | 1=>T.ay2 | 2=>T.ay4 | 3=>T.ayp | 4=>T.ays | 5=>T.ay7 | 6=>T.ayi | 7=>T.ayr | _+8=>T.axN
theorem apG(T:Txt K mg):mg "BadPiece"=some (.ref ((Gof T).cA 2)):=T.a0j
theorem apJ(T:Txt K mg):W.excIn K ((Gof T).cA 2) [.type "ValueError",.type "Exception",.type "BaseException",.type "object"] "ValueError.__new__"=true:=T.qz0
theorem ao6(T:Txt K mg):mg "NoSuch"=some (.ref ((Gof T).cA 3)):=T.azg
theorem atj(T:Txt K mg):W.excIn K ((Gof T).cA 3) [.type "ValueError",.type "Exception",.type "BaseException",.type "object"] "ValueError.__new__"=true:=T.a0g
theorem ar9(T:Txt K mg):∀d,W.kitOne K (.ref ((Gof T).cA d)) (.ref ((Gof T).cA 3))=some (aao d 3):=fun d=>match d with | 0=>T.ax6 | 1=>T.ayl | 2=>T.ayx | 3=>T.axP | 4=>T.axY | 5=>T.ayd | 6=>T.axH | 7=>T.axW | _+8=>T.ax6
theorem aqL(T:Txt K mg):mg "Full"=some (.ref ((Gof T).cA 4)):=T.azm
theorem aq4(T:Txt K mg):W.excIn K ((Gof T).cA 4) [.type "ValueError",.type "Exception",.type "BaseException",.type "object"] "ValueError.__new__"=true:=T.a0o
theorem av8(T:Txt K mg):mg "Crossed"=some (.ref ((Gof T).cA 5)):=T.a0f
theorem aww(T:Txt K mg):W.excIn K ((Gof T).cA 5) [.type "ValueError",.type "Exception",.type "BaseException",.type "object"] "ValueError.__new__"=true:=T.qz9
theorem avM(T:Txt K mg):∀d,W.kitOne K (.ref ((Gof T).cA d)) (.ref ((Gof T).cA 5))=some (aao d 5):=fun d=>match d with | 0=>T.axJ | 1=>T.ay9 | 2=>T.ay8 | 3=>T.ayn | 4=>T.ayu | 5=>T.ay5 | 6=>T.ayo | 7=>T.ayj | _+8=>T.axJ
theorem ale(T:Txt K mg):mg "TooMany"=some (.ref ((Gof T).cA 6)):=T.azv
theorem amM(T:Txt K mg):W.excIn K ((Gof T).cA 6) [.type "ValueError",.type "Exception",.type "BaseException",.type "object"] "ValueError.__new__"=true:=T.a0u
theorem asn(T:Txt K mg):∀d,W.kitOne K (.ref ((Gof T).cA d)) (.ref ((Gof T).cA 6))=some (aao d 6):=fun d=>match d with | 0=>T.ax7 | 1=>T.ayq | 2=>T.ayg | 3=>T.axZ | 4=>T.axQ | 5=>T.ayv | 6=>T.axT | 7=>T.axR | _+8=>T.ax7
theorem apa(T:Txt K mg):mg "TooWide"=some (.ref ((Gof T).cA 7)):=T.azw
theorem arm(T:Txt K mg):W.excIn K ((Gof T).cA 7) [.type "ValueError",.type "Exception",.type "BaseException",.type "object"] "ValueError.__new__"=true:=T.a0n
theorem apK(T:Txt K mg):∀d,W.kitOne K (.ref ((Gof T).cA d)) (.ref ((Gof T).cA 7))=some (aao d 7):=fun d=>match d with | 0=>T.ax8 | 1=>T.ayf | 2=>T.ayz | 3=>T.aya | 4=>T.ayb | 5=>T.aye | 6=>T.axV | 7=>T.axM | _+8=>T.ax8
theorem afc(T:Txt K mg):∀d,ExcK K ((Gof T).cA d):=fun d=>match d with | 0=>T.ayX | 1=>T.xz1 | 2=>T.xz0 | 3=>T.ayU | 4=>T.azH | 5=>T.xz9 | 6=>T.azN | 7=>T.azF | _+8=>T.ayX
theorem aa2(T:Txt K mg):Cls K ((Gof T).iA 0):=T.ayB
theorem afj(T:Txt K mg):Mk K ((Gof T).iA 0) T.uz2.f:=T.ayC
theorem alC(T:Txt K mg):mg "Book"=some (.ref ((Gof T).iA 0)):=T.ayK
theorem acH(T:Txt K mg):aaQ K ((Gof T).iA 0) "size":=T.ax0
theorem aaI(T:Txt K mg):aaQ K ((Gof T).iA 0) "pieces":=T.axu
theorem aa6(T:Txt K mg):aaQ K ((Gof T).iA 0) "side_marks":=T.axs
theorem aec(T:Txt K mg):aaQ K ((Gof T).iA 0) "seams":=T.axz
theorem aef(T:Txt K mg):((Gof T).nm 0).Nodup:=show(["size","pieces","side_marks","seams"]:List Str).Nodup by decide
theorem adJ(T:Txt K mg):((Gof T).nm 0).length≤100:=show(["size","pieces","side_marks","seams"]:List Str).length≤100 by decide
theorem arV(T:Txt K mg):("add_piece":Str)∉(Gof T).nm 0:=show("add_piece":Str)∉(["size","pieces","side_marks","seams"]:List Str)by decide
theorem apY(T:Txt K mg):Meth K ((Gof T).iA 0) "add_piece" T.uz3.f:=T.uz3.e
theorem avv(T:Txt K mg):("spots":Str)∉(Gof T).nm 0:=show("spots":Str)∉(["size","pieces","side_marks","seams"]:List Str)by decide
theorem avy(T:Txt K mg):Meth K ((Gof T).iA 0) "spots" T.uz8.f:=T.uz8.e
theorem avT(T:Txt K mg):("mark_spots":Str)∉(Gof T).nm 0:=show("mark_spots":Str)∉(["size","pieces","side_marks","seams"]:List Str)by decide
theorem avR(T:Txt K mg):Meth K ((Gof T).iA 0) "mark_spots" T.uz5.f:=T.uz5.e
theorem av4(T:Txt K mg):("corners":Str)∉(Gof T).nm 0:=show("corners":Str)∉(["size","pieces","side_marks","seams"]:List Str)by decide
theorem auH(T:Txt K mg):Meth K ((Gof T).iA 0) "corners" T.uz4.f:=T.uz4.e
theorem au8(T:Txt K mg):("places":Str)∉(Gof T).nm 0:=show("places":Str)∉(["size","pieces","side_marks","seams"]:List Str)by decide
theorem av6(T:Txt K mg):Meth K ((Gof T).iA 0) "places" T.uz7.f:=T.uz7.e
end
section
variable{P:Program}{w:World}{K:W.Frag}{mg:Str→Option Value}{base:Heap}{k:Nat}
noncomputable abbrev OF(P:Program)(w:World){K:W.Frag}{mg:Str→Option Value}(base:Heap)(T:Txt K mg)(k:Nat){x q:Str}{st:Stmt}{ps:List Str}{E:Addr→Prop}(u:FD K x q st ps E)(i:Nat):Prop:=FnOk P w K mg base (CXE (Gof T) P w base) (2*k) u.f u.d ps (spG (Gof T) (cfX fns aao k).cf (cfX fns aao k).fr i)
noncomputable abbrev OG(P:Program)(w:World){K:W.Frag}{mg:Str→Option Value}(base:Heap)(T:Txt K mg)(k:Nat){x q:Str}{st:Stmt}{ps:List Str}{E:Addr→Prop}(u:FD K x q st ps E)(i:Nat):Prop:=FnOk P w K mg base (CXE (Gof T) P w base) (2*(k+1)) u.f u.d ps (spG (Gof T) (run true fns aao aaj (k+1)) (afE fns) i)
set_option genInjectivity false in
set_option genSizeOf false in
structure Ok(P:Program)(w:World){K:W.Frag}{mg:Str→Option Value}(base:Heap)(T:Txt K mg)(k:Nat):Prop where
 ayZ:OF P w base T k T.ayH 0
 a0b:OF P w base T k T.ayP 1
 a0m:OF P w base T k T.azq 2
 a0c:OF P w base T k T.azh 3
 ayV:OF P w base T k T.azt 4
 ayA:OF P w base T k T.ayG 5
 a0d:OF P w base T k T.azz 6
 a0v:OF P w base T k T.azp 7
 azQ:OF P w base T k T.azl 8
 azK:OF P w base T k T.az8 9
 a0t:OF P w base T k T.azd 10
 azP:OF P w base T k T.azE 11
 azO:OF P w base T k T.az4 12
 az6:OF P w base T k T.az5 13
 a0l:OF P w base T k T.azB 14
 azI:OF P w base T k T.ayO 15
 a0e:OF P w base T k T.azC 16
 azW:OF P w base T k T.az2 17
 azG:OF P w base T k T.azn 18
 azo:OF P w base T k T.aza 19
 azV:OF P w base T k T.az3 20
 azX:OF P w base T k T.az0 21
 azR:OF P w base T k T.azu 22
 azM:OF P w base T k T.ayY 23
 oz2:OF P w base T k T.uz2 24
 oz3:OF P w base T k T.uz3 25
 oz8:OF P w base T k T.uz8 26
 oz5:OF P w base T k T.uz5 27
 oz4:OF P w base T k T.uz4 28
 oz6:OF P w base T k T.uz6 29
 oz7:OF P w base T k T.uz7 30
 aze:OF P w base T k T.az9 31
 a0i:OF P w base T k T.az1 32
 azT:OF P w base T k T.azb 33
 azL:OF P w base T k T.azj 34
 azJ:OF P w base T k T.azk 35
 a0q:OF P w base T k T.azc 36
 a0r:OF P w base T k T.azD 37
 a0s:OF P w base T k T.azi 38
 a0k:OF P w base T k T.azf 39
 a0a:OF P w base T k T.azx 40
 a0p:OF P w base T k T.azA 41
 azS:OF P w base T k T.azy 42
 azU:OF P w base T k T.ayW 43
 a0h:OF P w base T k T.azs 44
 o_law:OF P w base T k T.ayF 45
section
variable(T:Txt K mg)(ih:Ok P w base T k)
include ih
theorem apf:OG P w base T k T.ayH 0:=
 aar T.ayH.t aoC rfl rfl rfl fun _ _ _ _ _ _ r u p=>(aaa (aa0 (wct u .gt (acw (T.axt) (wv 0)) (aiM T.ax1)) (aaa (abI (ale T) (amM T)) aac) aac) (aaa (aa0 (wtr (apx (T.ayE) (abu (aa3 (f:=fun σ st=>one (ev (cfX fns aao k) abz .v σ st)) rfl (aax (sc:=(aad agJ).names) (N:=aeE) (N':=aeP) rfl rfl rfl rfl (by decide +kernel)) (by decide) (wpl (wv 0)) (fun _ _ _ _ _=>(wg1 ahl)) (fun _ _ _ _ _=>aa7 (wcv u .gt (aaw (wv 5) aab) (wv 1))) (fun _=>rfl) (fun _ _=>rfl)) fun _ _ _ _ h=>aa8 h))) (aaa (abI (apa T) (arm T)) aac) aac) (aaa (qmk ahp (af0 aan)) (aaa (agK (i:=0) p (wg1 ahp) (aaa (ap4 (i:=2) (aat ih.a0b r (wrc (wv 3) (wrc (wv 1) (wrc (wv 2) aah))))) aac)) (aaa (abA ahp (anX rfl (abu (aa3 (f:=fun σ st=>one (ev (cfX fns aao k) aca .v σ st)) rfl (aax (sc:=(aad agJ).names) (N:=aeE) (N':=aeU) rfl rfl rfl rfl (by decide +kernel)) (by decide) (wpl (wv 2)) (fun _ _ _ _ _=>(wg1 ahX)) (fun _ _ _ _ _=>aa7 (aat ih.ayA r (wrc (wv 6) aah))) (fun _=>rfl) (fun _ _=>rfl)) fun _ _ _ _ h=>aa8 h) aab (T.ayS))) (aaa (aal (acy (wac (wv 4) (wac (abu (aa3 (f:=fun σ st=>one (ev (cfX fns aao k) aco .v σ st)) rfl (aax (sc:=(aad agJ).names) (N:=aeE) (N':=aez) rfl rfl rfl rfl (by decide +kernel)) (by decide) (wpl (wv 2)) (fun _ _ _ _ _=>(wg1 ahK)) (fun _ _ _ _ _=>aa7 (acy (wac (aaw (wv 7) aab) (wac (aaw (wv 7) aab) aan)))) (fun _=>rfl) (fun _ _=>rfl)) fun _ _ _ _ h=>aa8 h) aan)))) aac))))))
theorem asQ(hC:W.CodeHd base T.cz T.pt)(hB:BM mg base):FnOk P w K mg base (CXE (Gof T) P w base) (2*(k+1)) T.ayP.f T.ayP.d ["oblong","width","laid"] (spG (Gof T) (run true fns aao aaj (k+1)) (afE fns) 1):=by
 refine ak9 T.ayP.t asS rfl rfl rfl fun cdv A outer s H E hz r=>?_
 have hcz:cdv=.ref T.cz:=hz.symm.trans T.zc
 have u:=Nat.lt_of_le_of_lt (Nat.add_le_add_left (by decide:9≤64) _) r.units
 have p:=IP.passes_leave (X:=adw (CXE (Gof T) P w base) P w K mg base aiI "lowest_box" (aad amv) T.ayP.f cdv A outer s H E) rfl
 exact(aaa (qmk aiY (af0 aan))
 (aaa (akt p (wpj (aaf .add (aeH (wac aab aan)) (abu (aa3 (f:=fun σ st=>one (ev (cfX fns aao k) adN .v σ st)) rfl (aax (sc:=(aad amv).names) (N:=aiI) (N':=afV) rfl rfl rfl rfl (by decide +kernel)) (by decide) (wpl (wv 2)) (fun _ _ _ _ _=>(wg1 aj3)) (fun _ _ _ _ _=>aa7 (aat ih.ayA r (wrc (wv 7) aah))) (fun _=>rfl) (fun _ _=>rfl)) fun _ _ _ _ h=>aa8 h))) (wg1 aiY) (aaa (akt p (wpj (aaf .add (aeH (wac aab aan)) (abu (aa3 (f:=fun σ st=>one (ev (cfX fns aao k) adY .v σ st)) rfl (aax (sc:=(aad amv).names) (N:=aiI) (N':=agd) rfl rfl rfl rfl (by decide +kernel)) (by decide) (wpl (wv 2)) (fun _ _ _ _ _=>(wg1 ajF)) (fun _ _ _ _ _=>aa7 (aat ih.ayV r (wrc (wv 8) aah))) (fun _=>rfl) (fun _ _=>rfl)) fun _ _ _ _ h=>aa8 h))) (wg1 aiY) (aaa (abA aiY (acy (wac (wv 5) (wac (wv 4) (wac (aaw (wv 0) aab) (wac (aaw (wv 0) aab) aan))))))
 (aaa (aa0 (PW.pt (ado (wct u .le (aat ih.ayV r (wrc (wv 6) aah)) (wv 1)) (abj (wtr (aat ih.a0m r (wrc (wv 6) (wrc (wv 2) aah))))))) (aaa (ap4 (i:=3) (wv 6))
 aac) aac)
 aac)))
 aac))
 (aaa (aal (an3 (k:=2*k) (x:="box") r rfl hcz hC hB (wv 3) (T.ayT) ⟨rfl,rfl,rfl,by decide,rfl,by decide +kernel,by decide +kernel⟩ (fun _ _ _ _=>rfl) (fun Y hN hs=>ali hN (by rw[hs];exact .inl rfl))))
 aac)))
theorem arA:OG P w base T k T.azq 2:=
 aar T.azq.t at9 rfl rfl rfl fun _ _ _ _ _ _ r u p=>(aaa (aal (afO (apx (T.ayE) (abu (aa3 (f:=fun σ st=>one (ev (cfX fns aao k) afI .v σ st)) rfl (aax (sc:=(aad apI).names) (N:=an9) (N':=afW) rfl rfl rfl rfl (by decide +kernel)) (by decide) (wpl (wv 1)) (fun _ _ _ _ _=>(wg1 ajG)) (fun _ _ _ _ _=>aa7 (aat ih.a0c r (wrc (wv 0) (wrc (wv 2) aah)))) (fun _=>rfl) (fun _ _=>rfl)) fun _ _ _ _ h=>aa8 h)))) aac)
theorem ar4:OG P w base T k T.azh 3:=
 aar T.azh.t asq rfl rfl rfl fun _ _ _ _ _ _ r u p=>(aaa (abA aof (alT (wcv u .le (aat ih.ayV r (wrc (wv 0) aah)) (aaw (wv 1) aab)) (aiS (wcv u .le (aat ih.ayV r (wrc (wv 1) aah)) (aaw (wv 0) aab))))) (aaa (abA aof (alT (wcv u .le (aat ih.ayA r (wrc (wv 0) aah)) (aaw (wv 1) aab)) (aiS (wcv u .le (aat ih.ayA r (wrc (wv 1) aah)) (aaw (wv 0) aab))))) (aaa (aal (adl (afO (wv 2)) (aiS (afO (wv 3))))) aac)))
theorem asZ:OG P w base T k T.azt 4:=
 aar T.azt.t aui rfl rfl rfl fun _ _ _ _ _ _ r u p=>(aaa (aal (aaf .add (aaw (wv 0) aab) (aaw (wv 0) aab))) aac)
theorem an7:OG P w base T k T.ayG 5:=
 aar T.ayG.t aoX rfl rfl rfl fun _ _ _ _ _ _ r u p=>(aaa (aal (aaf .add (aaw (wv 0) aab) (aaw (wv 0) aab))) aac)
theorem asK:OG P w base T k T.azz 6:=
 aar T.azz.t arD rfl rfl rfl fun _ _ _ _ _ _ r u p=>(aaa (akt p (wr1 (T.ax2) (acw (T.axt) (wv 0))) (wg1 anj) (aaa (akt p (wr2 (T.ax2) (wv 1) (acw (T.axt) (wv 0))) (wg1 anj) (aaa (aa0 (wtr (aat ih.a0v r (wrc (wv 0) (wrc (wv 1) (wrc (wv 2) aah))))) (aaa (aal (acy (wac (wv 1) (wac (wv 2) aan)))) aac) aac) aac)) aac)) (aaa (aal ae0) aac))
theorem aqI:OG P w base T k T.azp 7:=
 aar T.azp.t apM rfl rfl rfl fun _ _ _ _ _ _ r u p=>(aaa (abA amW (aat ih.azQ r (wrc (wv 0) (wrc (wv 1) aah)))) (aaa (abA amW (aat ih.azQ r (wrc (wv 0) (wrc (wv 2) aah)))) (aaa (aa0 (wct u .eq (wv 1) (wv 2)) (aaa (aal (wcv u .eq (aaw (wv 3) aab) (aaw (wv 3) aab))) aac) aac) (aaa (aa0 (wct u .eq (wv 2) (aaf .add (wv 1) aab)) (aaa (aal (aat ih.azK r (wrc (aaw (wv 3) aab) (wrc (aaw (wv 3) aab) (wrc (aaw (wv 4) aab) aah))))) aac) aac) (aaa (aa0 (PW.pt (ado (wct u .eq (aaf .add (wv 2) aab) (acw (T.axt) (wv 0))) (abj (wct u .eq (wv 1) aab)))) (aaa (aal (aat ih.azK r (wrc (aaw (wv 3) aab) (wrc (aaw (wv 3) aab) (wrc (aaw (wv 4) aab) aah))))) aac) aac) (aaa (aal (aat ih.a0t r (wrc (wv 3) (wrc (wv 4) aah)))) aac))))))
theorem aqy:OG P w base T k T.azl 8:=
 aar T.azl.t aqP rfl rfl rfl fun _ _ _ _ _ _ r u p=>(aaa (aal (acy (wac (aaw (wv 0) (wv 1)) (wac (aaw (wv 0) (aaf .mod (aaf .add (wv 1) aab) (acw (T.axt) (wv 0)))) aan)))) aac)
theorem aqQ:OG P w base T k T.az8 9:=
 aar T.az8.t aqB rfl rfl rfl fun _ _ _ _ _ _ r u p=>(aaa (aal (adl (wcv u .eq (aat ih.az6 r (wrc (wv 0) (wrc (wv 1) (wrc (wv 2) aah)))) aab) (aiS (wcv u .gt (aat ih.a0l r (wrc (wv 0) (wrc (wv 1) (wrc (wv 2) aah)))) aab)))) aac)
theorem atn:OG P w base T k T.azd 10:=
 aar T.azd.t aq5 rfl rfl rfl fun _ _ _ _ _ _ r u p=>(aaa (aa0 (PW.pt (ab5 (abR (wtr (aat ih.azP r (wrc (wv 0) (wrc (wv 1) (wrc aab aah)))))) (aaA (abR (wtr (aat ih.azP r (wrc (wv 0) (wrc (wv 1) (wrc aab aah))))))))) (aaa (aal adK) aac) aac) (aaa (aal (adl (aat ih.azO r (wrc (wv 0) (wrc (wv 1) aah))) (aiS (aat ih.azO r (wrc (wv 1) (wrc (wv 0) aah)))))) aac))
theorem aqH:OG P w base T k T.azE 11:=
 aar T.azE.t aql rfl rfl rfl fun _ _ _ _ _ _ r u p=>(aaa (abA amO (ait (T.ay0) (aeH (wac (aaw (aaw (wv 0) aab) (wv 2)) (wac (aaw (aaw (wv 0) aab) (wv 2)) aan))))) (aaa (abA amO (ait (T.ay0) (aeH (wac (aaw (aaw (wv 1) aab) (wv 2)) (wac (aaw (aaw (wv 1) aab) (wv 2)) aan))))) (aaa (aal (adl (wcv u .le (aaw (wv 3) aab) (aaw (wv 4) aab)) (aiS (wcv u .le (aaw (wv 4) aab) (aaw (wv 3) aab))))) aac)))
theorem ar5:OG P w base T k T.az4 12:=
 aar T.az4.t asD rfl rfl rfl fun _ _ _ _ _ _ r u p=>(aaa (aal (wcv u .le (aaf .mul (aat ih.az6 r (wrc (aaw (wv 1) aab) (wrc (aaw (wv 1) aab) (wrc (aaw (wv 0) aab) aah)))) (aat ih.az6 r (wrc (aaw (wv 1) aab) (wrc (aaw (wv 1) aab) (wrc (aaw (wv 0) aab) aah))))) aab)) aac)
theorem auo:OG P w base T k T.az5 13:=
 aar T.az5.t auq rfl rfl rfl fun _ _ _ _ _ _ r u p=>(aaa (aal (aaf .sub (aaf .mul (aaf .sub (aaw (wv 1) aab) (aaw (wv 0) aab)) (aaf .sub (aaw (wv 2) aab) (aaw (wv 0) aab))) (aaf .mul (aaf .sub (aaw (wv 1) aab) (aaw (wv 0) aab)) (aaf .sub (aaw (wv 2) aab) (aaw (wv 0) aab))))) aac)
theorem atB:OG P w base T k T.azB 14:=
 aar T.azB.t ata rfl rfl rfl fun _ _ _ _ _ _ r u p=>(aaa (aal (aaf .add (aaf .mul (aaf .sub (aaw (wv 1) aab) (aaw (wv 0) aab)) (aaf .sub (aaw (wv 2) aab) (aaw (wv 0) aab))) (aaf .mul (aaf .sub (aaw (wv 1) aab) (aaw (wv 0) aab)) (aaf .sub (aaw (wv 2) aab) (aaw (wv 0) aab))))) aac)
theorem arr:OG P w base T k T.ayO 15:=
 aar T.ayO.t arq rfl rfl rfl fun _ _ _ _ _ _ r u p=>(aaa (aib (aat ih.a0e r (wrc (wv 0) (wrc (wv 1) aah)))) (aaa (by first|exact afD (fun _ _ _ _ h=>aa8 h) (aki (f:=fun σ st=>one (ev (cfX fns aao k) adi .v σ st)) rfl (aax (sc:=(aad akr).names) (N:=afr) (N':=aem) rfl rfl rfl rfl (by decide +kernel)) (by decide) (wpl (wv 1)) (fun _ _ _ _ _=>(wg1 agb)) (fun _ _ _ _ _=>aa7 (ady (hnm:=av4 T) (aa2 T) (auH T) ih.oz4 r T.uz4.b .nil rfl (wv 0) (wrc (aaw (wv 6) aab) (wrc (aaw (wv 6) aab) aah)))) (fun _=>rfl) (fun _ _=>rfl) rfl alR rfl rfl)|exact abA alR (abu (aa3 (f:=fun σ st=>one (ev (cfX fns aao k) adi .v σ st)) rfl (aax (sc:=(aad akr).names) (N:=afr) (N':=aem) rfl rfl rfl rfl (by decide +kernel)) (by decide) (wpl (wv 1)) (fun _ _ _ _ _=>(wg1 agb)) (fun _ _ _ _ _=>aa7 (ady (hnm:=av4 T) (aa2 T) (auH T) ih.oz4 r T.uz4.b .nil rfl (wv 0) (wrc (aaw (wv 6) aab) (wrc (aaw (wv 6) aab) aah)))) (fun _=>rfl) (fun _ _=>rfl)) fun _ _ _ _ h=>aa8 h)) (aaa (aa0 (wtr (apx (T.ayE) (abu (aa3 (f:=fun σ st=>one (ev (cfX fns aao k) afu .v σ st)) rfl (aax (sc:=(aad akr).names) (N:=afr) (N':=afN) rfl rfl rfl rfl (by decide +kernel)) (by decide) (wpl (wv 4)) (fun _ _ _ _ _=>(wg1 aj4)) (fun _ _ _ _ _=>aa7 (wcv u .notN (aat ih.a0d r (wrc (wv 7) aah)) ae0)) (fun _=>rfl) (fun _ _=>rfl)) fun _ _ _ _ h=>aa8 h))) (aaa (abI (av8 T) (aww T)) aac) aac) (aaa (abA alR (aat ih.ayZ r (wrc (abu (aa3 (f:=fun σ st=>one (ev (cfX fns aao k) ade .v σ st)) rfl (aax (sc:=(aad akr).names) (N:=afr) (N':=agz) rfl rfl rfl rfl (by decide +kernel)) (by decide) (wpl (wv 4)) (fun _ _ _ _ _=>(wg1 ajn)) (fun _ _ _ _ _=>aa7 (aat ih.azW r (wrc (wv 8) (wrc (wv 3) aah)))) (fun _=>rfl) (fun _ _=>rfl)) fun _ _ _ _ h=>aa8 h) (wrc (wv 2) aah)))) (aaa (aal (acy (wac (aaw (wv 5) aab) (wac (abu (ahV (f:=fun σ st=>one (ev (cfX fns aao k) acz .v σ st)) rfl (aax (sc:=(aad akr).names) (N:=afr) (N':=agi) rfl rfl rfl rfl (by decide +kernel)) (by decide) rfl (T.az7) (wv 4) (aaw (wv 5) aab) (fun _ _ _ _ _=>(wgm (wgc agg (wgc agg ad0)))) (fun _ _ _ _ _=>aa7 (aat ih.azV r (wrc (wv 9) (wrc (wv 10) (wrc (wv 3) aah))))) (fun _=>rfl) (fun _ _=>rfl)) fun _ _ _ _ h=>aa8 h) aan)))) aac)))))
theorem ark:OG P w base T k T.azC 16:=
 aar T.azC.t art rfl rfl rfl fun _ _ _ _ _ _ r u p=>(aaa (aa0 (wct u .gt (acw (T.axt) (wv 1)) (aiM T.ax1)) (aaa (abI (ale T) (amM T)) aac) aac) (aaa (agK (i:=1) p (wg1 atb) (aaa (aib (ady (hnm:=avv T) (aa2 T) (avy T) ih.oz8 r T.uz8.b .nil rfl (wv 0) (wrc (aaw (wv 2) aab) aah))) aac)) aac))
theorem asO:OG P w base T k T.az2 17:=
 aar T.az2.t arz rfl rfl rfl fun _ _ _ _ _ _ r u p=>(aaa (aal (acy (wac (aaf .add (aat ih.azG r (wrc (wv 0) (wrc aab aah))) (aaf .mul aab (wv 1))) (wac (aaf .add (aat ih.azG r (wrc (wv 0) (wrc aab aah))) (aaf .mul aab (wv 1))) aan)))) aac)
theorem aup:OG P w base T k T.azn 18:=
 aar T.azn.t atp rfl rfl rfl fun _ _ _ _ _ _ r u p=>(aaa (aal (aaf .sub (axg (T.ayS) (abu (aa3 (f:=fun σ st=>one (ev (cfX fns aao k) ahz .v σ st)) rfl (aax (sc:=(aad apu).names) (N:=aoY) (N':=aga) rfl rfl rfl rfl (by decide +kernel)) (by decide) (wpl (wv 0)) (fun _ _ _ _ _=>(wg1 aji)) (fun _ _ _ _ _=>aa7 (aaw (wv 2) (wv 1))) (fun _=>rfl) (fun _ _=>rfl)) fun _ _ _ _ h=>aa8 h)) (aat ih.azo r (wrc (wv 0) (wrc (wv 1) aah))))) aac)
theorem asy:OG P w base T k T.aza 19:=
 aar T.aza.t apW rfl rfl rfl fun _ _ _ _ _ _ r u p=>(aaa (aal (axb (T.ayT) (abu (aa3 (f:=fun σ st=>one (ev (cfX fns aao k) ahO .v σ st)) rfl (aax (sc:=(aad apD).names) (N:=anF) (N':=agu) rfl rfl rfl rfl (by decide +kernel)) (by decide) (wpl (wv 0)) (fun _ _ _ _ _=>(wg1 akj)) (fun _ _ _ _ _=>aa7 (aaw (wv 2) (wv 1))) (fun _=>rfl) (fun _ _=>rfl)) fun _ _ _ _ h=>aa8 h))) aac)
theorem asY:OG P w base T k T.az3 20:=
 aar T.az3.t atN rfl rfl rfl fun _ _ _ _ _ _ r u p=>(aaa (abA amJ (aaf .sub (aaf .add (aaw (wv 1) aab) (wv 2)) (aat ih.azo r (wrc (wv 0) (wrc aab aah))))) (aaa (abA amJ (aaf .sub (aaf .add (aaw (wv 1) aab) (wv 2)) (aat ih.azo r (wrc (wv 0) (wrc aab aah))))) (aaa (aal (abu (aa3 (f:=fun σ st=>one (ev (cfX fns aao k) afg .v σ st)) rfl (aax (sc:=(aad apC).names) (N:=alV) (N':=afQ) rfl rfl rfl rfl (by decide +kernel)) (by decide) (wpl (wv 0)) (fun _ _ _ _ _=>(wg1 aka)) (fun _ _ _ _ _=>aa7 (acy (wac (aaf .add (aaw (wv 5) aab) (wv 3)) (wac (aaf .add (aaw (wv 5) aab) (wv 4)) aan)))) (fun _=>rfl) (fun _ _=>rfl)) fun _ _ _ _ h=>aa8 h)) aac)))
theorem aqr:OG P w base T k T.az0 21:=
 aar T.az0.t aqU rfl rfl rfl fun _ _ _ _ _ _ r u p=>(aaa (aib (aat ih.azR r (wrc (wv 1) aah))) (aaa (aa0 (wct u .lt (wv 1) aab) (aaa (aal (aat ih.azM r (wrc (wv 0) (wrc (aaw (wv 0) aab) (wrc (aaw (wv 0) aab) (wrc (acB (wv 1)) aah)))))) aac) aac) (aaa (aal (aat ih.azM r (wrc (wv 0) (wrc (aaw (wv 0) aab) (wrc (aaw (wv 0) aab) (wrc (wv 1) aah)))))) aac)))
theorem atW:OG P w base T k T.azu 22:=
 aar T.azu.t aqu rfl rfl rfl fun _ _ _ _ _ _ r u p=>(aaa (aa0 (PW.pt (ab5 (wct u .lt (wv 0) (aiM T.ayN)) (aaA (wct u .gt (wv 0) (aiM T.ayR))))) (aaa (abI (avg T) (axh T)) aac) aac) aac)
theorem aqG:OG P w base T k T.ayY 23:=
 aar T.ayY.t arn rfl rfl rfl fun _ _ _ _ _ _ r u p=>(aaa (aal (acy (wac (aaf .add (aaw (wv 0) aab) (aaf .mul (wv 3) (wv 1))) (wac (aaf .add (aaw (wv 0) aab) (aaf .mul (wv 3) (wv 2))) aan)))) aac)
theorem axl:OG P w base T k T.uz2 24:=
 aar T.uz2.t avJ rfl rfl rfl fun _ _ _ _ _ _ r u p=>(aaa (ajI (hnd:=aef T) (hlen:=adJ T) (aa2 T) (acH T) (wv 0) aab) (aaa (ajI (hnd:=aef T) (hlen:=adJ T) (aa2 T) (aaI T) (wv 0) (ajX (af0 aan))) (aaa (ajI (hnd:=aef T) (hlen:=adJ T) (aa2 T) (aa6 T) (wv 0) (ajX (af0 aan))) (aaa (ajI (hnd:=aef T) (hlen:=adJ T) (aa2 T) (aec T) (wv 0) (ajX (af0 aan))) aac))))
theorem awx:OG P w base T k T.uz3 25:=
 aar T.uz3.t awi rfl rfl rfl fun _ _ _ _ _ _ r u p=>(aaa (aa0 (wct u .ge (acw (T.axt) (aiQ (aa2 T) (aaI T) (wv 0))) (aiM T.axL)) (aaa (abI (aqL T) (aq4 T)) aac) aac) (aaa (abA axo (ak4 (wct u .isN (wv 2) ae0) (abu (aa3 (f:=fun σ st=>one (ev (cfX fns aao k) ais .v σ st)) rfl (aax (sc:=(aad sz3).names) (N:=apv) (N':=aha) rfl rfl rfl rfl (by decide +kernel)) (by decide) (wpl (wv 1)) (fun _ _ _ _ _=>(wg1 alz)) (fun _ _ _ _ _=>aa7 (aeH aan)) (fun _=>rfl) (fun _ _=>rfl)) fun _ _ _ _ h=>aa8 h) (abu (aa3 (f:=fun σ st=>one (ev (cfX fns aao k) ahb .v σ st)) rfl (aax (sc:=(aad sz3).names) (N:=apv) (N':=ai3) rfl rfl rfl rfl (by decide +kernel)) (by decide) (wpl (wv 2)) (fun _ _ _ _ _=>(wg1 aml)) (fun _ _ _ _ _=>aa7 (aj8 (T.axC) (wv 5))) (fun _=>rfl) (fun _ _=>rfl)) fun _ _ _ _ h=>aa8 h))) (aaa (aib (aat ih.a0i r (wrc (wv 1) (wrc (wv 3) aah)))) (aaa (aox (aiQ (aa2 T) (aaI T) (wv 0)) (ajX (amE (T.axC) (wv 1)))) (aaa (aox (aiQ (aa2 T) (aa6 T) (wv 0)) (wv 3)) (aaa (aal (aaf .sub (acw (T.axt) (aiQ (aa2 T) (aaI T) (wv 0))) aab)) aac))))))
theorem awb:OG P w base T k T.uz8 26:=
 aar T.uz8.t awt rfl rfl rfl fun _ _ _ _ _ _ r u p=>(aaa (aib (aat ih.aze r (wrc (wv 1) (wrc (aiQ (aa2 T) (aaI T) (wv 0)) aah)))) (aaa (aal (aj8 (T.axC) (aaw (aiQ (aa2 T) (aaI T) (wv 0)) (wv 1)))) aac))
theorem awy:OG P w base T k T.uz5 27:=
 aar T.uz5.t axk rfl rfl rfl fun _ _ _ _ _ _ r u p=>(aaa (aib (aat ih.aze r (wrc (wv 1) (wrc (aiQ (aa2 T) (aa6 T) (wv 0)) aah)))) (aaa (aib (aat ih.aze r (wrc (wv 2) (wrc (aaw (aiQ (aa2 T) (aa6 T) (wv 0)) (wv 1)) aah)))) (aaa (aal (aj8 (T.axC) (aaw (aaw (aiQ (aa2 T) (aa6 T) (wv 0)) (wv 1)) (wv 2)))) aac)))
theorem awT:OG P w base T k T.uz4 28:=
 aar T.uz4.t awB rfl rfl rfl fun _ _ _ _ _ _ r u p=>(aaa (aal (ady (hnm:=au8 T) (aa2 T) (av6 T) ih.oz7 r T.uz7.b .nil rfl (wv 0) (wrc (ady (hnm:=avv T) (aa2 T) (avy T) ih.oz8 r T.uz8.b .nil rfl (wv 0) (wrc (wv 1) aah)) (wrc (wv 2) aah)))) aac)
theorem avH:OG P w base T k T.uz6 29:=
 aar T.uz6.t awD rfl rfl rfl fun _ _ _ _ _ _ r u p=>(aaa (aal (ady (hnm:=au8 T) (aa2 T) (av6 T) ih.oz7 r T.uz7.b .nil rfl (wv 0) (wrc (ady (hnm:=avT T) (aa2 T) (avR T) ih.oz5 r T.uz5.b .nil rfl (wv 0) (wrc (wv 1) (wrc (wv 2) aah))) (wrc (wv 3) aah)))) aac)
theorem awn:OG P w base T k T.uz7 30:=
 aar T.uz7.t awj rfl rfl rfl fun _ _ _ _ _ _ r u p=>(aaa (abA awc (ak4 (wct u .isN (wv 2) ae0) (aiQ (aa2 T) (acH T) (wv 0)) (wv 2))) (aaa (aib (aat ih.azR r (wrc (wv 3) aah))) (aaa (aal (abu (aa3 (f:=fun σ st=>one (ev (cfX fns aao k) ai6 .v σ st)) rfl (aax (sc:=(aad sz7).names) (N:=arT) (N':=ah6) rfl rfl rfl rfl (by decide +kernel)) (by decide) (wpl (wv 1)) (fun _ _ _ _ _=>(wg1 akV)) (fun _ _ _ _ _=>aa7 (aat ih.azX r (wrc (wv 4) (wrc (wv 3) aah)))) (fun _=>rfl) (fun _ _=>rfl)) fun _ _ _ _ h=>aa8 h)) aac)))
theorem apX:OG P w base T k T.az9 31:=
 aar T.az9.t arB rfl rfl rfl fun _ _ _ _ _ _ r u p=>(aaa (aa0 (PW.pt (ab5 (wct u .lt (wv 0) aab) (aaA (wct u .ge (wv 0) (acw (T.axt) (wv 1)))))) (aaa (abI (ao6 T) (atj T)) aac) aac) aac)
theorem atZ:OG P w base T k T.az1 32:=
 aar T.az1.t arH rfl rfl rfl fun _ _ _ _ _ _ r u p=>(aaa (aa0 (PW.pt (ab5 (wct u .lt (acw (T.axt) (wv 0)) (aiM T.ax9)) (aaA (wct u .gt (acw (T.axt) (wv 0)) (aiM T.axE))))) (aaa (abI (apG T) (apJ T)) aac) aac) (aaa (aa0 (wct u .ne (acw (T.axt) (wv 1)) (acw (T.axt) (wv 0))) (aaa (abI (apG T) (apJ T)) aac) aac) (aaa (aa0 (wtr (apx (T.ayE) (abu (aa3 (f:=fun σ st=>one (ev (cfX fns aao k) af4 .v σ st)) rfl (aax (sc:=(aad aoT).names) (N:=alF) (N':=afU) rfl rfl rfl rfl (by decide +kernel)) (by decide) (wpl (wv 1)) (fun _ _ _ _ _=>(wg1 aj2)) (fun _ _ _ _ _=>aa7 (wcv u .gt (acw (T.axt) (wv 2)) (aiM T.ayc))) (fun _=>rfl) (fun _ _=>rfl)) fun _ _ _ _ h=>aa8 h))) (aaa (abI (apG T) (apJ T)) aac) aac) (aaa (aa0 (abR (wtr (atF (T.ayM) (abu (aa3 (f:=fun σ st=>one (ev (cfX fns aao k) af7 .v σ st)) rfl (aax (sc:=(aad aoT).names) (N:=alF) (N':=agm) rfl rfl rfl rfl (by decide +kernel)) (by decide) (wpl (aaf .add (aeH (wac (wv 0) aan)) (wv 1))) (fun _ _ _ _ _=>(wg1 ajm)) (fun _ _ _ _ _=>aa7 (aat ih.azT r (wrc (wv 3) aah))) (fun _=>rfl) (fun _ _=>rfl)) fun _ _ _ _ h=>aa8 h)))) (aaa (abI (apG T) (apJ T)) aac) aac) aac))))
theorem aqY:OG P w base T k T.azb 33:=
 aar T.azb.t arM rfl rfl rfl fun _ _ _ _ _ _ r u p=>(aaa (aal (atF (T.ayM) (abu (aa3 (f:=fun σ st=>one (ev (cfX fns aao k) afG .v σ st)) rfl (aax (sc:=(aad apw).names) (N:=apm) (N':=afP) rfl rfl rfl rfl (by decide +kernel)) (by decide) (wpl (wv 0)) (fun _ _ _ _ _=>(wg1 ajH)) (fun _ _ _ _ _=>aa7 (adl (aat ih.azL r (wrc (al5 (wv 1) aab) (wrc (aiM T.ay1) aah))) (aiS (aat ih.azL r (wrc (alm (wv 1) aab) (wrc (aiM T.axG) aah)))))) (fun _=>rfl) (fun _ _=>rfl)) fun _ _ _ _ h=>aa8 h))) aac)
theorem arh:OG P w base T k T.azj 34:=
 aar T.azj.t as1 rfl rfl rfl fun _ _ _ _ _ _ r u p=>(aaa (aal (atF (T.ayM) (abu (aa3 (f:=fun σ st=>one (ev (cfX fns aao k) afm .v σ st)) rfl (aax (sc:=(aad ap2).names) (N:=amK) (N':=agl) rfl rfl rfl rfl (by decide +kernel)) (by decide) (wpl (wv 0)) (fun _ _ _ _ _=>(wg1 aje)) (fun _ _ _ _ _=>aa7 (wcv u .le (atM (T.ayI) (wv 2)) (wv 1))) (fun _=>rfl) (fun _ _=>rfl)) fun _ _ _ _ h=>aa8 h))) aac)
theorem aqn:OG P w base T k T.azk 35:=
 aar T.azk.t aqm rfl rfl rfl fun _ _ _ _ _ _ r u p=>(aaa (aal (adl (am4 .int (T.axr) (T.ayk) (wv 0)) (aiS (afO (am4 .bool (T.axr) (T.ayQ) (wv 0)))))) aac)
theorem aua:OG P w base T k T.azc 36:=
 aar T.azc.t atu rfl rfl rfl fun _ _ _ _ _ _ r u p=>(aaa (aa0 (wct u .lt (wv 1) (acw (T.axt) (wv 0))) (aaa (aal (aaw (wv 0) (wv 1))) aac) aac) (aaa (aal aab) aac))
theorem au2:OG P w base T k T.azD 37:=
 aar T.azD.t asb rfl rfl rfl fun _ _ _ _ _ _ r u p=>(aaa (abA aj7 aab) (aaa (qmk aj7 (af0 aan)) (aaa (akt p (wr1 (T.ax2) (wv 1)) (wg1 aj7) (aaa (abA aj7 (aaf .mod (aaf .add (aaf .add (aaf .mul (wv 2) aab) (aat ih.a0q r (wrc (wv 0) (wrc (wv 4) aah)))) aab) aab)) (aaa (ap4 (i:=3) (wv 2)) aac))) (alD (aaa (aal (wv 3)) aac)))))
theorem apR:OG P w base T k T.azi 38:=
 aar T.azi.t atq rfl rfl rfl fun _ _ _ _ _ _ r u p=>(aaa (aa0 (PW.pt (ab5 (abR (wtr (am4 .list (T.axr) (T.axC) (wv 0)))) (aaA (wct u .ne (acw (T.axt) (wv 0)) (acw (T.axt) (wv 1)))))) (aaa (aal adK) aac) aac) (aaa (akt p (wr1 (T.ax2) (acw (T.axt) (wv 1))) (wg1 ar0) (aaa (aa0 (abR (wtr (aat ih.a0k r (wrc (aaw (wv 0) (wv 2)) (wrc (aaw (wv 1) (wv 2)) aah))))) (aaa (aal adK) aac) aac) aac)) (aaa (aal adK) aac)))
theorem aqz:OG P w base T k T.azf 39:=
 aar T.azf.t aqg rfl rfl rfl fun _ _ _ _ _ _ r u p=>(aaa (aa0 (PW.pt (ab5 (abR (wtr (am4 .tuple (T.axr) (T.ay3) (wv 0)))) (aaA (wct u .ne (acw (T.axt) (wv 0)) (acw (T.axt) (wv 1)))))) (aaa (aal adK) aac) aac) (aaa (akt p (wr1 (T.ax2) (acw (T.axt) (wv 1))) (wg1 asv) (aaa (aa0 (PW.pt (ab5 (abR (wtr (aat ih.azJ r (wrc (aaw (wv 0) (wv 2)) aah)))) (aaA (wct u .ne (aaw (wv 0) (wv 2)) (aaw (wv 1) (wv 2)))))) (aaa (aal adK) aac) aac) aac)) (aaa (aal adK) aac)))
theorem aro:OG P w base T k T.azx 40:=
 aar T.azx.t atE rfl rfl rfl fun _ _ _ _ _ _ r u p=>(aaa (abA aoH (atc (afj T) ih.oz2 r (alC T) T.uz2.b .nil rfl)) (aaa (abA aoH (aeH (wac (acy (wac (wv 0) (wac aab (wac (wv 2) (wac aab (wac (wv 2) (wac aab aan))))))) (wac (acy (wac (wv 0) (wac (wv 1) (wac (wv 2) (wac aab (wac (wv 2) (wac aab aan))))))) aan)))) (aaa (aib (ady (hnm:=arV T) (aa2 T) (apY T) ih.oz3 r T.ay6 (show aa1 [.non] [.none]from(.cons rfl .nil)) rfl (wv 4) (wrc (aaf .add (aaf .add (aeH (wac (acy (wac aab (wac aab (wac aab (wac aab (wac aab (wac aab aan))))))) aan)) (wv 5)) (aeH (wac (acy (wac aab (wac (wv 1) (wac aab (wac aab (wac aab (wac aab aan))))))) aan))) aah))) (aaa (aib (ady (hnm:=arV T) (aa2 T) (apY T) ih.oz3 r T.ay6 (show aa1 [.non] [.none]from(.cons rfl .nil)) rfl (wv 4) (wrc (aeH (wac (acy (wac aab (wac aab (wac aab (wac aab (wac aab (wac aab aan))))))) (wac (acy (wac aab (wac aab (wac aab (wac aab (wac aab (wac aab aan))))))) (wac (acy (wac aab (wac (wv 3) (wac aab (wac (acB aab) (wac aab (wac (acB aab) aan))))))) (wac (acy (wac aab (wac aab (wac aab (wac aab (wac aab (wac aab aan))))))) aan))))) aah))) (aaa (aib (ady (hnm:=arV T) (aa2 T) (apY T) ih.oz3 r T.ay6 (show aa1 [.non] [.none]from(.cons rfl .nil)) rfl (wv 4) (wrc (aeH (wac (acy (wac (acB aab) (wac aab (wac aab (wac aab (wac aab (wac aab aan))))))) (wac (acy (wac aab (wac aab (wac aab (wac aab (wac aab (wac aab aan))))))) (wac (acy (wac aab (wac aab (wac aab (wac aab (wac aab (wac aab aan))))))) (wac (acy (wac (acB aab) (wac aab (wac aab (wac aab (wac aab (wac aab aan))))))) aan))))) aah))) (aaa (aal (wv 4)) aac))))))
theorem aun:OG P w base T k T.azA 41:=
 aar T.azA.t apS rfl rfl rfl fun _ _ _ _ _ _ r u p=>(aaa (aal (aaw (aeH (wac (aaf .add (wv 2) (aaf .mul (wv 3) (atM (T.ayI) (wv 1)))) (wac aab (wac aab aan)))) (wv 0))) aac)
theorem at3:OG P w base T k T.azy 42:=
 aar T.azy.t ate rfl rfl rfl fun _ _ _ _ _ _ r u p=>(aaa (aa0 (wct u .gt (acw (T.axt) (wv 0)) aab) (aaa (aal aab) aac) aac) (aaa (agK (i:=0) p (wgm (wgc afa (wgc afa ad0))) (aaa (aa0 (PW.pt (ab5 (wct u .lt (wv 6) aab) (aaA (wct u .gt (wv 6) aab)))) (aaa (aal aab) aac) aac) aac)) (aaa (agK (i:=0) p (wgm (wgc afa (wgc afa ad0))) (aaa (aa0 (PW.pt (ab5 (wct u .lt (wv 7) (acB aab)) (aaA (wct u .gt (wv 7) aab)))) (aaa (aal aab) aac) aac) aac)) (aaa (agK (i:=0) p (wgm (wgc afa (wgc afa ad0))) (aaa (aa0 (PW.pt (ado (wct u .eq (wv 6) aab) (abj (wct u .ge (atM (T.ayI) (wv 7)) (wv 5))))) (aaa (aal aab) aac) aac) aac)) (aaa (agK (i:=0) p (wgm (wgc afa (wgc afa ad0))) (aaa (aa0 (wct u .gt (aaf .add (aat ih.a0p r (wrc (wv 6) (wrc (wv 7) (wrc (wv 3) (wrc (wv 4) aah))))) (aaf .mul aab (wv 2))) (wv 1)) (aaa (aal aab) aac) aac) aac)) (aaa (aal aab) aac))))))
theorem as2:OG P w base T k T.ayW 43:=
 aar T.ayW.t aqS rfl rfl rfl fun _ _ _ _ _ _ r u p=>(aaa (abA aft aab) (aaa (abA aft ae0) (aaa (asa aft (at5 T) (atT T) (fun E pn p=>(aaa (aa0 (wct u .eq (wv 3) aab) (aaa (abA aft (aot ih.azI r T.ayO.e.1 T.ayO.e.2 T.ayJ (show aa1 [.int 0] [.int 0 _]from(.cons ⟨_,rfl⟩ .nil)) rfl (wrc (wv 0) (wrc (wv 1) (wrc (wv 2) aah))))) aac) (aaa (abA aft (aat ih.azI r (wrc (wv 0) (wrc (wv 1) (wrc (wv 2) (wrc (wv 3) aah)))))) aac)) aac)) (fun e=>(aaa (abA aft (aaf .add (aaf .add (am5 (T.ayk) (aoj (afc T) (asn T) (T.axr) (ale T) (wv 6))) (aaf .mul aab (am5 (T.ayk) (aoj (afc T) (ar9 T) (T.axr) (ao6 T) (wv 6))))) (aaf .mul aab (am5 (T.ayk) (aoj (afc T) (awm T) (T.axr) (avg T) (wv 6)))))) (aaa (abA aft (aaf .add (aaf .add (wv 4) (aaf .mul aab (am5 (T.ayk) (aoj (afc T) (avM T) (T.axr) (av8 T) (wv 6))))) (aaf .mul aab (am5 (T.ayk) (aoj (afc T) (apK T) (T.axr) (apa T) (wv 6)))))) aac)))) (aaa (aal (acy (wac (wv 4) (wac (wv 5) aan)))) aac))))
theorem atV:OG P w base T k T.azs 44:=
 aar T.azs.t ati rfl rfl rfl fun _ _ _ _ _ _ r u p=>(aaa (aa0 (PW.pt (ab5 (abR (wtr (am4 .tuple (T.axr) (T.ay3) (wv 0)))) (ab5 (wct u .ne (acw (T.axt) (wv 0)) aab) (aaA (abR (wtr (aat ih.azJ r (wrc (aaw (wv 0) aab) aah)))))))) (aaa (aal adK) aac) aac) (aaa (aal (adl (am4 .list (T.axr) (T.axC) (aaw (wv 0) aab)) (aiS (wcv u .eq (acw (T.axt) (aaw (wv 0) aab)) (wv 1))))) aac))
theorem apn:OG P w base T k T.ayF 45:=
 aar T.ayF.t an8 rfl rfl rfl fun _ _ _ _ _ _ r u p=>(aaa (abA abi (aat ih.a0r r (wrc (wv 0) (wrc aab aah)))) (aaa (abA abi (aaf .add aab (aaf .mod (aaw (wv 1) aab) aab))) (aaa (abA abi (aaf .add aab (aaf .mod (aaw (wv 1) aab) aab))) (aaa (abA abi (aaf .add aab (aaf .mod (aaw (wv 1) aab) aab))) (aaa (abA abi (aaf .mod (aaw (wv 1) aab) aab)) (aaa (aa0 (wct u .eq (aaf .mod (aaf .fdiv (aaw (wv 1) aab) aab) aab) aab) (aaa (abA abi aab) aac) aac) (aaa (abA abi (aat ih.a0a r (wrc (wv 2) (wrc (wv 3) (wrc (wv 4) (wrc (wv 5) aah)))))) (aaa (qmk abi (af0 aan)) (aaa (akt p (wr1 (T.ax2) (aaf .mod (aaw (wv 1) aab) aab)) (wg1 abi) (aaa (ap4 (i:=7) (acy (wac (aaf .mul (aaf .mod (aaw (wv 1) (aaf .add aab (wv 8))) aab) (aaf .mod (aaf .fdiv (aaw (wv 1) (aaf .add aab (wv 8))) aab) aab)) (wac (aaf .sub (aaf .mod (aaf .fdiv (aaw (wv 1) (aaf .add aab (wv 8))) aab) aab) aab) aan)))) aac)) (aaa (aa0 (PW.pt (ado (wct u .ne (wv 7) (aeH aan)) (abj (wct u .mem (aaf .mod (aaw (wv 1) aab) aab) (acy (wac aab (wac aab aan))))))) (aaa (au6 (i:=7) (aaf .mod (aaw (wv 1) aab) (acw (T.axt) (wv 7))) (acy (wac (aaw (aeH (wac aab (wac (acB aab) aan))) (aaf .mod (aaw (wv 1) aab) aab)) (wac (aaf .mod (aaf .fdiv (aaw (wv 1) aab) aab) aab) aan)))) aac) aac) (aaa (aa0 (PW.pt (ado (wct u .ne (wv 7) (aeH aan)) (abj (wct u .mem (aaf .mod (aaw (wv 1) aab) aab) (acy (wac aab (wac aab aan))))))) (aaa (au6 (i:=7) (aaf .mod (aaw (wv 1) aab) (acw (T.axt) (wv 7))) (acy (wac (aaf .mod (aaw (wv 1) aab) aab) (wac (aaw (aeH (wac aab (wac (acB aab) (wac (aaf .pow aab aab) aan)))) (aaf .mod (aaf .fdiv (aaw (wv 1) aab) aab) aab)) aan)))) aac) aac) (aaa (abA abi (aaf .mul (aaf .mod (aaw (wv 1) aab) aab) (aaf .mod (aaf .fdiv (aaw (wv 1) aab) aab) aab))) (aaa (abA abi (aaw (aeH (wac (aaf .add aab (aaf .mod (aaw (wv 1) aab) aab)) (wac (aaf .add aab (aaf .mod (aaw (wv 1) aab) aab)) aan))) (am5 (T.ayk) (wcv u .eq (aaf .mod (aaw (wv 1) aab) aab) aab)))) (aaa (aa0 (wct u .eq (aaf .mod (aaf .fdiv (aaw (wv 1) aab) aab) aab) aab) (aaa (abA abi (aaf .sub (aaf .add (aaf .add (aaf .add (wv 2) (aaf .mul (wv 4) aab)) (aaf .mul aab (wv 9))) (aaf .mod (aaw (wv 1) aab) aab)) aab)) aac) aac) (aaa (abA abi (aj8 (T.axC) (wv 7))) (aaa (aqb (aat ih.azU r (wrc (wv 6) (wrc (wv 11) (wrc (wv 10) (wrc (wv 9) aah))))) (wgc abi (wgc abi ad0))) (aaa (aa0 (PW.pt (ab5 (abR (wtr (aat ih.a0s r (wrc (wv 11) (wrc (wv 7) aah))))) (aaA (wct u .ne (wv 12) (aat ih.azS r (wrc (wv 7) (wrc (wv 10) (wrc (wv 9) (wrc (wv 2) (wrc (wv 4) (wrc (wv 5) aah))))))))))) (aaa (aal adK) aac) aac) (aaa (aal (alT (wcv u .gt (wv 12) aab) (aiS (aat ih.a0h r (wrc (wv 13) (wrc (acw (T.axt) (wv 7)) aah)))))) aac))))))))))))))))))
end
theorem all(T:Txt K mg)(hC:W.CodeHd base T.cz T.pt)(hB:BM mg base):∀k,Ok P w base T k
 | 0=>by constructor<;>exact afL (sub:=aao)
 | k+1=>⟨apf T (all T hC hB k),asQ T (all T hC hB k) hC hB,arA T (all T hC hB k),ar4 T (all T hC hB k),asZ T (all T hC hB k),an7 T (all T hC hB k),asK T (all T hC hB k),aqI T (all T hC hB k),aqy T (all T hC hB k),aqQ T (all T hC hB k),atn T (all T hC hB k),aqH T (all T hC hB k),ar5 T (all T hC hB k),auo T (all T hC hB k),atB T (all T hC hB k),arr T (all T hC hB k),ark T (all T hC hB k),asO T (all T hC hB k),aup T (all T hC hB k),asy T (all T hC hB k),asY T (all T hC hB k),aqr T (all T hC hB k),atW T (all T hC hB k),aqG T (all T hC hB k),axl T (all T hC hB k),awx T (all T hC hB k),awb T (all T hC hB k),awy T (all T hC hB k),awT T (all T hC hB k),avH T (all T hC hB k),awn T (all T hC hB k),apX T (all T hC hB k),atZ T (all T hC hB k),aqY T (all T hC hB k),arh T (all T hC hB k),aqn T (all T hC hB k),aua T (all T hC hB k),au2 T (all T hC hB k),apR T (all T hC hB k),aqz T (all T hC hB k),aro T (all T hC hB k),aun T (all T hC hB k),at3 T (all T hC hB k),as2 T (all T hC hB k),atV T (all T hC hB k),apn T (all T hC hB k)⟩
end
noncomputable def auD:Prop:=∀ns:List Int,ns.length≤63→∃s,run true fns aao aaj 16 45 [.val (.lst (ns.map .int))] [.tbl 1 ⟨40,25,40,53⟩ ((("lowest_box":Str)++".<locals>.")++"<lambda>")]=.ok (.val (.bl true)) s
noncomputable abbrev amL(G:Gx):Sp:=fun vs H Q _=>spG G (run true fns aao aaj 16) (afE fns) 45 vs H Q fun _ _ _=>False
theorem all_mk{l:W.OpenLaw}{w:World}{K:W.Frag}{h:Heap}{mg:Str→Option Value}{fa:Addr}(X:K.In h)(Gn:h.Ns mainGlobals mg)(hfa:mg "law"=some (.ref fa)){pt cz:Addr}(hz:∀(f:Addr) (o:Obj) (fd:FuncData),mg "lowest_box"=some (.ref f)→h.get? f=some o→o.data=.func fd→fd.code=.ref cz)
  (aez11:W.nsIn K mainGlobals "GradeError"=some (some (.ref axy)))
  (aez1:W.nsIn K mainGlobals "BadSize"=some (some (.ref ez1)))
  (qez1:W.excIn K ez1 [.type "ValueError",.type "Exception",.type "BaseException",.type "object"] "ValueError.__new__"=true)
  (aez0:W.nsIn K mainGlobals "BadPiece"=some (some (.ref ez0)))
  (qez0:W.excIn K ez0 [.type "ValueError",.type "Exception",.type "BaseException",.type "object"] "ValueError.__new__"=true)
  (aez12:W.nsIn K mainGlobals "NoSuch"=some (some (.ref axv)))
  (qez12:W.excIn K axv [.type "ValueError",.type "Exception",.type "BaseException",.type "object"] "ValueError.__new__"=true)
  (aez10:W.nsIn K mainGlobals "Full"=some (some (.ref ax4)))
  (qez10:W.excIn K ax4 [.type "ValueError",.type "Exception",.type "BaseException",.type "object"] "ValueError.__new__"=true)
  (aez9:W.nsIn K mainGlobals "Crossed"=some (some (.ref ez9)))
  (qez9:W.excIn K ez9 [.type "ValueError",.type "Exception",.type "BaseException",.type "object"] "ValueError.__new__"=true)
  (aez13:W.nsIn K mainGlobals "TooMany"=some (some (.ref axw)))
  (qez13:W.excIn K axw [.type "ValueError",.type "Exception",.type "BaseException",.type "object"] "ValueError.__new__"=true)
  (aez14:W.nsIn K mainGlobals "TooWide"=some (some (.ref axx)))
  (qez14:W.excIn K axx [.type "ValueError",.type "Exception",.type "BaseException",.type "object"] "ValueError.__new__"=true)
  (hsp:W.specialIn K (.builtin "object.__class__") "__get__"=some (some (.builtin "getset_descriptor.__get__")))
  (htk:W.takesIn K (.builtin "object.__class__")=some true)
  (gaz11:W.findIn K (.ref axy) "__getattribute__"=some (some (.builtin "BaseException.__getattribute__")))
  (gnz11:W.findIn K (.ref axy) "__getattr__"=some none)
  (dcz11:W.hasDictIn K axy=true)
  (caz11:W.findIn K (.ref axy) "__class__"=some (some (.builtin "object.__class__")))
  (moz11:W.mroIn K axy (.type "object")=some true)
  (mbz11:W.mroIn K axy (.type "BaseException")=some true)
  (gaz1:W.findIn K (.ref ez1) "__getattribute__"=some (some (.builtin "BaseException.__getattribute__")))
  (gnz1:W.findIn K (.ref ez1) "__getattr__"=some none)
  (dcz1:W.hasDictIn K ez1=true)
  (caz1:W.findIn K (.ref ez1) "__class__"=some (some (.builtin "object.__class__")))
  (moz1:W.mroIn K ez1 (.type "object")=some true)
  (mbz1:W.mroIn K ez1 (.type "BaseException")=some true)
  (gaz0:W.findIn K (.ref ez0) "__getattribute__"=some (some (.builtin "BaseException.__getattribute__")))
  (gnz0:W.findIn K (.ref ez0) "__getattr__"=some none)
  (dcz0:W.hasDictIn K ez0=true)
  (caz0:W.findIn K (.ref ez0) "__class__"=some (some (.builtin "object.__class__")))
  (moz0:W.mroIn K ez0 (.type "object")=some true)
  (mbz0:W.mroIn K ez0 (.type "BaseException")=some true)
  (gaz12:W.findIn K (.ref axv) "__getattribute__"=some (some (.builtin "BaseException.__getattribute__")))
  (gnz12:W.findIn K (.ref axv) "__getattr__"=some none)
  (dcz12:W.hasDictIn K axv=true)
  (caz12:W.findIn K (.ref axv) "__class__"=some (some (.builtin "object.__class__")))
  (moz12:W.mroIn K axv (.type "object")=some true)
  (mbz12:W.mroIn K axv (.type "BaseException")=some true)
  (gaz10:W.findIn K (.ref ax4) "__getattribute__"=some (some (.builtin "BaseException.__getattribute__")))
  (gnz10:W.findIn K (.ref ax4) "__getattr__"=some none)
  (dcz10:W.hasDictIn K ax4=true)
  (caz10:W.findIn K (.ref ax4) "__class__"=some (some (.builtin "object.__class__")))
  (moz10:W.mroIn K ax4 (.type "object")=some true)
  (mbz10:W.mroIn K ax4 (.type "BaseException")=some true)
  (gaz9:W.findIn K (.ref ez9) "__getattribute__"=some (some (.builtin "BaseException.__getattribute__")))
  (gnz9:W.findIn K (.ref ez9) "__getattr__"=some none)
  (dcz9:W.hasDictIn K ez9=true)
  (caz9:W.findIn K (.ref ez9) "__class__"=some (some (.builtin "object.__class__")))
  (moz9:W.mroIn K ez9 (.type "object")=some true)
  (mbz9:W.mroIn K ez9 (.type "BaseException")=some true)
  (gaz13:W.findIn K (.ref axw) "__getattribute__"=some (some (.builtin "BaseException.__getattribute__")))
  (gnz13:W.findIn K (.ref axw) "__getattr__"=some none)
  (dcz13:W.hasDictIn K axw=true)
  (caz13:W.findIn K (.ref axw) "__class__"=some (some (.builtin "object.__class__")))
  (moz13:W.mroIn K axw (.type "object")=some true)
  (mbz13:W.mroIn K axw (.type "BaseException")=some true)
  (gaz14:W.findIn K (.ref axx) "__getattribute__"=some (some (.builtin "BaseException.__getattribute__")))
  (gnz14:W.findIn K (.ref axx) "__getattr__"=some none)
  (dcz14:W.hasDictIn K axx=true)
  (caz14:W.findIn K (.ref axx) "__class__"=some (some (.builtin "object.__class__")))
  (moz14:W.mroIn K axx (.type "object")=some true)
  (mbz14:W.mroIn K axx (.type "BaseException")=some true)
  (axN:W.kitOne K (.ref axy) (.ref ez1)=some false)
  (ay2:W.kitOne K (.ref ez1) (.ref ez1)=some true)
  (ay4:W.kitOne K (.ref ez0) (.ref ez1)=some false)
  (ayp:W.kitOne K (.ref axv) (.ref ez1)=some false)
  (ays:W.kitOne K (.ref ax4) (.ref ez1)=some false)
  (ay7:W.kitOne K (.ref ez9) (.ref ez1)=some false)
  (ayi:W.kitOne K (.ref axw) (.ref ez1)=some false)
  (ayr:W.kitOne K (.ref axx) (.ref ez1)=some false)
  (ax6:W.kitOne K (.ref axy) (.ref axv)=some false)
  (ayl:W.kitOne K (.ref ez1) (.ref axv)=some false)
  (ayx:W.kitOne K (.ref ez0) (.ref axv)=some false)
  (axP:W.kitOne K (.ref axv) (.ref axv)=some true)
  (axY:W.kitOne K (.ref ax4) (.ref axv)=some false)
  (ayd:W.kitOne K (.ref ez9) (.ref axv)=some false)
  (axH:W.kitOne K (.ref axw) (.ref axv)=some false)
  (axW:W.kitOne K (.ref axx) (.ref axv)=some false)
  (axJ:W.kitOne K (.ref axy) (.ref ez9)=some false)
  (ay9:W.kitOne K (.ref ez1) (.ref ez9)=some false)
  (ay8:W.kitOne K (.ref ez0) (.ref ez9)=some false)
  (ayn:W.kitOne K (.ref axv) (.ref ez9)=some false)
  (ayu:W.kitOne K (.ref ax4) (.ref ez9)=some false)
  (ay5:W.kitOne K (.ref ez9) (.ref ez9)=some true)
  (ayo:W.kitOne K (.ref axw) (.ref ez9)=some false)
  (ayj:W.kitOne K (.ref axx) (.ref ez9)=some false)
  (ax7:W.kitOne K (.ref axy) (.ref axw)=some false)
  (ayq:W.kitOne K (.ref ez1) (.ref axw)=some false)
  (ayg:W.kitOne K (.ref ez0) (.ref axw)=some false)
  (axZ:W.kitOne K (.ref axv) (.ref axw)=some false)
  (axQ:W.kitOne K (.ref ax4) (.ref axw)=some false)
  (ayv:W.kitOne K (.ref ez9) (.ref axw)=some false)
  (axT:W.kitOne K (.ref axw) (.ref axw)=some true)
  (axR:W.kitOne K (.ref axx) (.ref axw)=some false)
  (ax8:W.kitOne K (.ref axy) (.ref axx)=some false)
  (ayf:W.kitOne K (.ref ez1) (.ref axx)=some false)
  (ayz:W.kitOne K (.ref ez0) (.ref axx)=some false)
  (aya:W.kitOne K (.ref axv) (.ref axx)=some false)
  (ayb:W.kitOne K (.ref ax4) (.ref axx)=some false)
  (aye:W.kitOne K (.ref ez9) (.ref axx)=some false)
  (axV:W.kitOne K (.ref axw) (.ref axx)=some false)
  (axM:W.kitOne K (.ref axx) (.ref axx)=some true)
  (ax5:W.exmOne K (.ref axy) (.ref axy)=some true)
  (ayw:W.exmOne K (.ref ez1) (.ref axy)=some true)
  (ayy:W.exmOne K (.ref ez0) (.ref axy)=some true)
  (axX:W.exmOne K (.ref axv) (.ref axy)=some true)
  (axU:W.exmOne K (.ref ax4) (.ref axy)=some true)
  (aym:W.exmOne K (.ref ez9) (.ref axy)=some true)
  (axO:W.exmOne K (.ref axw) (.ref axy)=some true)
  (axS:W.exmOne K (.ref axx) (.ref axy)=some true)
  (aC_Book:W.nsIn K mainGlobals "Book"=some (some (.ref axq)))
  (pg_Book:W.plainGet K axq Str.empty=true)
  (hd_Book:W.hasDictIn K axq=true)
  (po_Book:W.plainOver K axq=true)
  (sa_Book:W.findIn K (.ref axq) "__setattr__"=some (some (.builtin "object.__setattr__")))
  (afj:W.makesIn K axq=true)
  (kc_Book:W.keepIn K (.ref axq)=true)
  (ax0:W.findIn K (.ref axq) "size"=some none)
  (axu:W.findIn K (.ref axq) "pieces"=some none)
  (axs:W.findIn K (.ref axq) "side_marks"=some none)
  (axz:W.findIn K (.ref axq) "seams"=some none)
  (j_lay:FH K "lay" "lay" agJ .none f_lay v_lay)
  (jz37:FH K "lowest_box" "lowest_box" amv .none fz37 vz37)
  (jz34:FH K "is_free" "is_free" apI .none fz34 vz34)
  (jz41:FH K "overlap" "overlap" as4 .none fz41 vz41)
  (jz44:FH K "right" "right" atx .none fz44 vz44)
  (j_top:FH K "top" "top" akJ .none f_top v_top)
  (jz32:FH K "crossing" "crossing" aqw .none fz32 vz32)
  (jz47:FH K "sides_cross" "sides_cross" arS .none fz47 vz47)
  (jz46:FH K "side_ends" "side_ends" at4 .none fz46 vz46)
  (jz45:FH K "run_together" "run_together" arP .none fz45 vz45)
  (jz33:FH K "have_common_point" "have_common_point" aqK .none fz33 vz33)
  (jz48:FH K "spans_meet" "spans_meet" aq1 .none fz48 vz48)
  (jz43:FH K "reaches_across" "reaches_across" au1 .none fz43 vz43)
  (jz50:FH K "turn" "turn" asi .none fz50 vz50)
  (jz26:FH K "along" "along" arW .none fz26 vz26)
  (jz35:FH K "lay_out" "lay_out" akr (.ref dtz35) fz35 vz35)
  (dlz35:K.lookup dtz35=some ⟨octz35,odtz35,.seq #[.int 0 ayt] ntz35,sltz35⟩)
  (jz31:FH K "check_wanted" "check_wanted" asz .none fz31 vz31)
  (jz40:FH K "oblong" "oblong" arU .none fz40 vz40)
  (jz27:FH K "breadth_along" "breadth_along" apu .none fz27 vz27)
  (jz36:FH K "least_along" "least_along" apD .none fz36 vz36)
  (jz39:FH K "moved_to" "moved_to" apC .none fz39 vz39)
  (jz42:FH K "place" "place" ase .none fz42 vz42)
  (jz29:FH K "check_size" "check_size" asE .none fz29 vz29)
  (jz38:FH K "moved" "moved" arF .none fz38 vz38)
  (jz2:FM K axq "__init__" "Book.__init__" sz2 .none fz2 vz2)
  (jz3:FM K axq "add_piece" "Book.add_piece" sz3 (.ref dtz3) fz3 vz3)
  (dlz3:K.lookup dtz3=some ⟨octz3,odtz3,.seq #[.none] ntz3,sltz3⟩)
  (jz8:FM K axq "spots" "Book.spots" sz8 .none fz8 vz8)
  (jz5:FM K axq "mark_spots" "Book.mark_spots" sz5 .none fz5 vz5)
  (jz4:FM K axq "corners" "Book.corners" sz4 (.ref dtz4) fz4 vz4)
  (dlz4:K.lookup dtz4=some ⟨octz4,odtz4,.seq #[.none] ntz4,sltz4⟩)
  (jz6:FM K axq "marks" "Book.marks" sz6 (.ref dtz6) fz6 vz6)
  (dlz6:K.lookup dtz6=some ⟨octz6,odtz6,.seq #[.none] ntz6,sltz6⟩)
  (jz7:FM K axq "places" "Book.places" sz7 .none fz7 vz7)
  (jz30:FH K "check_there" "check_there" asU .none fz30 vz30)
  (jz28:FH K "check_piece" "check_piece" aoT .none fz28 vz28)
  (jz49:FH K "spots_fit" "spots_fit" apw .none fz49 vz49)
  (jz25:FH K "all_within" "all_within" ap2 .none fz25 vz25)
  (jz23:FH K "_law_whole" "_law_whole" at6 .none fz23 vz23)
  (jz16:FH K "_law_at" "_law_at" arx .none fz16 vz16)
  (jz21:FH K "_law_stir" "_law_stir" aug .none fz21 vz21)
  (jz20:FH K "_law_rows" "_law_rows" asC .none fz20 vz20)
  (jz19:FH K "_law_numbers" "_law_numbers" as9 .none fz19 vz19)
  (jz17:FH K "_law_book" "_law_book" arX .none fz17 vz17)
  (jz24:FH K "_law_wide" "_law_wide" as5 .none fz24 vz24)
  (jz18:FH K "_law_due" "_law_due" at0 .none fz18 vz18)
  (jz15:FH K "_law_asked" "_law_asked" apZ .none fz15 vz15)
  (jz22:FH K "_law_told" "_law_told" au0 .none fz22 vz22)
  (j_law:FH K "law" "law" agO .none f_law v_law)
  (gl_MOST_OBLONGS:W.nsIn K mainGlobals "MOST_OBLONGS"=some (some (.int (8) t_MOST_OBLONGS)))
  (gl_LEAST:W.nsIn K mainGlobals "LEAST"=some (some (.int (-6) t_LEAST)))
  (gl_MOST:W.nsIn K mainGlobals "MOST"=some (some (.int (6) t_MOST)))
  (gl_MOST_PIECES:W.nsIn K mainGlobals "MOST_PIECES"=some (some (.int (10) t_MOST_PIECES)))
  (gl_LEAST_CORNERS:W.nsIn K mainGlobals "LEAST_CORNERS"=some (some (.int (3) t_LEAST_CORNERS)))
  (gl_MOST_CORNERS:W.nsIn K mainGlobals "MOST_CORNERS"=some (some (.int (24) t_MOST_CORNERS)))
  (gl_MOST_MARKS:W.nsIn K mainGlobals "MOST_MARKS"=some (some (.int (4) t_MOST_MARKS)))
  (gl_FARTHEST:W.nsIn K mainGlobals "FARTHEST"=some (some (.int (20000) t_FARTHEST)))
  (gl_LONGEST_MOVE:W.nsIn K mainGlobals "LONGEST_MOVE"=some (some (.int (200) t_LONGEST_MOVE)))
  (z_abs:W.nsIn K mainGlobals "abs"=some none)
  (z_all:W.nsIn K mainGlobals "all"=some none)
  (z_any:W.nsIn K mainGlobals "any"=some none)
  (z_bool:W.nsIn K mainGlobals "bool"=some none)
  (z_int:W.nsIn K mainGlobals "int"=some none)
  (z_isinstance:W.nsIn K mainGlobals "isinstance"=some none)
  (z_len:W.nsIn K mainGlobals "len"=some none)
  (z_list:W.nsIn K mainGlobals "list"=some none)
  (z_max:W.nsIn K mainGlobals "max"=some none)
  (z_min:W.nsIn K mainGlobals "min"=some none)
  (z_range:W.nsIn K mainGlobals "range"=some none)
  (z_sorted:W.nsIn K mainGlobals "sorted"=some none)
  (z_tuple:W.nsIn K mainGlobals "tuple"=some none)
  (z_zip:W.nsIn K mainGlobals "zip"=some none):
  ∃(fd:FuncData) (G:Gx),(∀(s:Shared) (v:Value),BindsTo s fd ⟨[v],[]⟩ [("_law_script",v)])∧G.iA 1=pt∧∀base:Heap,K.In base→base.Ns mainGlobals mg→W.CodeHd base cz pt→BM mg base→FnOk l.prog w K mg base CX0 32 fa fd ["_law_script"] (amL G):=by
 have e:=hfa.symm.trans (W.mg_of X Gn j_law.a)
 cases e
 have hzz:=hz _ _ _ (W.mg_of X Gn jz37.a) (X _ _ jz37.l) rfl
 let T:Txt K mg:=⟨axy,W.mg_of X Gn aez11,ez1,W.mg_of X Gn aez1,qez1,ez0,W.mg_of X Gn aez0,qez0,axv,W.mg_of X Gn aez12,qez12,ax4,W.mg_of X Gn aez10,qez10,ez9,W.mg_of X Gn aez9,qez9,axw,W.mg_of X Gn aez13,qez13,axx,W.mg_of X Gn aez14,qez14,⟨gaz11,gnz11,dcz11,caz11,hsp,htk,moz11,mbz11⟩,⟨gaz1,gnz1,dcz1,caz1,hsp,htk,moz1,mbz1⟩,⟨gaz0,gnz0,dcz0,caz0,hsp,htk,moz0,mbz0⟩,⟨gaz12,gnz12,dcz12,caz12,hsp,htk,moz12,mbz12⟩,⟨gaz10,gnz10,dcz10,caz10,hsp,htk,moz10,mbz10⟩,⟨gaz9,gnz9,dcz9,caz9,hsp,htk,moz9,mbz9⟩,⟨gaz13,gnz13,dcz13,caz13,hsp,htk,moz13,mbz13⟩,⟨gaz14,gnz14,dcz14,caz14,hsp,htk,moz14,mbz14⟩,axN,ay2,ay4,ayp,ays,ay7,ayi,ayr,ax6,ayl,ayx,axP,axY,ayd,axH,axW,axJ,ay9,ay8,ayn,ayu,ay5,ayo,ayj,ax7,ayq,ayg,axZ,axQ,ayv,axT,axR,ax8,ayf,ayz,aya,ayb,aye,axV,axM,ax5,ayw,ayy,axX,axU,aym,axO,axS,axq,W.mg_of X Gn aC_Book,⟨pg_Book,hd_Book,po_Book,sa_Book⟩,ax0,axu,axs,axz,⟨f_lay,_,aak j_lay.l j_lay.c j_lay.k,.all (abq 2 (fun _ _=>rfl)),⟨W.mg_of X Gn j_lay.a,j_lay.k⟩⟩,⟨fz37,_,aak jz37.l jz37.c jz37.k,.all (abq 3 (fun _ _ _=>rfl)),⟨W.mg_of X Gn jz37.a,jz37.k⟩⟩,⟨fz34,_,aak jz34.l jz34.c jz34.k,.all (abq 2 (fun _ _=>rfl)),⟨W.mg_of X Gn jz34.a,jz34.k⟩⟩,⟨fz41,_,aak jz41.l jz41.c jz41.k,.all (abq 2 (fun _ _=>rfl)),⟨W.mg_of X Gn jz41.a,jz41.k⟩⟩,⟨fz44,_,aak jz44.l jz44.c jz44.k,.all (abq 1 (fun _=>rfl)),⟨W.mg_of X Gn jz44.a,jz44.k⟩⟩,⟨f_top,_,aak j_top.l j_top.c j_top.k,.all (abq 1 (fun _=>rfl)),⟨W.mg_of X Gn j_top.a,j_top.k⟩⟩,⟨fz32,_,aak jz32.l jz32.c jz32.k,.all (abq 1 (fun _=>rfl)),⟨W.mg_of X Gn jz32.a,jz32.k⟩⟩,⟨fz47,_,aak jz47.l jz47.c jz47.k,.all (abq 3 (fun _ _ _=>rfl)),⟨W.mg_of X Gn jz47.a,jz47.k⟩⟩,⟨fz46,_,aak jz46.l jz46.c jz46.k,.all (abq 2 (fun _ _=>rfl)),⟨W.mg_of X Gn jz46.a,jz46.k⟩⟩,⟨fz45,_,aak jz45.l jz45.c jz45.k,.all (abq 3 (fun _ _ _=>rfl)),⟨W.mg_of X Gn jz45.a,jz45.k⟩⟩,⟨fz33,_,aak jz33.l jz33.c jz33.k,.all (abq 2 (fun _ _=>rfl)),⟨W.mg_of X Gn jz33.a,jz33.k⟩⟩,⟨fz48,_,aak jz48.l jz48.c jz48.k,.all (abq 3 (fun _ _ _=>rfl)),⟨W.mg_of X Gn jz48.a,jz48.k⟩⟩,⟨fz43,_,aak jz43.l jz43.c jz43.k,.all (abq 2 (fun _ _=>rfl)),⟨W.mg_of X Gn jz43.a,jz43.k⟩⟩,⟨fz50,_,aak jz50.l jz50.c jz50.k,.all (abq 3 (fun _ _ _=>rfl)),⟨W.mg_of X Gn jz50.a,jz50.k⟩⟩,⟨fz26,_,aak jz26.l jz26.c jz26.k,.all (abq 3 (fun _ _ _=>rfl)),⟨W.mg_of X Gn jz26.a,jz26.k⟩⟩,ayt,⟨fz35,_,aak jz35.l jz35.c jz35.k,aet 4 (fun _ _ _ _ s X=>by first|exact .of_eq rfl|exact W.binds_K X rfl dlz35 rfl rfl rfl) rfl,⟨W.mg_of X Gn jz35.a,jz35.k⟩⟩,aet 3 (fun _ _ _ s X=>W.binds_K X rfl dlz35 rfl rfl rfl) rfl,⟨fz31,_,aak jz31.l jz31.c jz31.k,.all (abq 2 (fun _ _=>rfl)),⟨W.mg_of X Gn jz31.a,jz31.k⟩⟩,⟨fz40,_,aak jz40.l jz40.c jz40.k,.all (abq 2 (fun _ _=>rfl)),⟨W.mg_of X Gn jz40.a,jz40.k⟩⟩,⟨fz27,_,aak jz27.l jz27.c jz27.k,.all (abq 2 (fun _ _=>rfl)),⟨W.mg_of X Gn jz27.a,jz27.k⟩⟩,⟨fz36,_,aak jz36.l jz36.c jz36.k,.all (abq 2 (fun _ _=>rfl)),⟨W.mg_of X Gn jz36.a,jz36.k⟩⟩,⟨fz39,_,aak jz39.l jz39.c jz39.k,.all (abq 3 (fun _ _ _=>rfl)),⟨W.mg_of X Gn jz39.a,jz39.k⟩⟩,⟨fz42,_,aak jz42.l jz42.c jz42.k,.all (abq 2 (fun _ _=>rfl)),⟨W.mg_of X Gn jz42.a,jz42.k⟩⟩,⟨fz29,_,aak jz29.l jz29.c jz29.k,.all (abq 1 (fun _=>rfl)),⟨W.mg_of X Gn jz29.a,jz29.k⟩⟩,⟨fz38,_,aak jz38.l jz38.c jz38.k,.all (abq 4 (fun _ _ _ _=>rfl)),⟨W.mg_of X Gn jz38.a,jz38.k⟩⟩,⟨fz2,_,aak jz2.l jz2.c jz2.k,.all (abq 1 (fun _=>rfl)),⟨jz2.a,jz2.i,jz2.k⟩⟩,⟨afj,jz2.a,jz2.i,kc_Book⟩,⟨fz3,_,aak jz3.l jz3.c jz3.k,aet 3 (fun _ _ _ s X=>by first|exact .of_eq rfl|exact W.binds_K X rfl dlz3 rfl rfl rfl) rfl,⟨jz3.a,jz3.i,jz3.k⟩⟩,aet 2 (fun _ _ s X=>W.binds_K X rfl dlz3 rfl rfl rfl) rfl,⟨fz8,_,aak jz8.l jz8.c jz8.k,.all (abq 2 (fun _ _=>rfl)),⟨jz8.a,jz8.i,jz8.k⟩⟩,⟨fz5,_,aak jz5.l jz5.c jz5.k,.all (abq 3 (fun _ _ _=>rfl)),⟨jz5.a,jz5.i,jz5.k⟩⟩,⟨fz4,_,aak jz4.l jz4.c jz4.k,aet 3 (fun _ _ _ s X=>by first|exact .of_eq rfl|exact W.binds_K X rfl dlz4 rfl rfl rfl) rfl,⟨jz4.a,jz4.i,jz4.k⟩⟩,⟨fz6,_,aak jz6.l jz6.c jz6.k,aet 4 (fun _ _ _ _ s X=>by first|exact .of_eq rfl|exact W.binds_K X rfl dlz6 rfl rfl rfl) rfl,⟨jz6.a,jz6.i,jz6.k⟩⟩,⟨fz7,_,aak jz7.l jz7.c jz7.k,.all (abq 3 (fun _ _ _=>rfl)),⟨jz7.a,jz7.i,jz7.k⟩⟩,⟨fz30,_,aak jz30.l jz30.c jz30.k,.all (abq 2 (fun _ _=>rfl)),⟨W.mg_of X Gn jz30.a,jz30.k⟩⟩,⟨fz28,_,aak jz28.l jz28.c jz28.k,.all (abq 2 (fun _ _=>rfl)),⟨W.mg_of X Gn jz28.a,jz28.k⟩⟩,⟨fz49,_,aak jz49.l jz49.c jz49.k,.all (abq 1 (fun _=>rfl)),⟨W.mg_of X Gn jz49.a,jz49.k⟩⟩,⟨fz25,_,aak jz25.l jz25.c jz25.k,.all (abq 2 (fun _ _=>rfl)),⟨W.mg_of X Gn jz25.a,jz25.k⟩⟩,⟨fz23,_,aak jz23.l jz23.c jz23.k,.all (abq 1 (fun _=>rfl)),⟨W.mg_of X Gn jz23.a,jz23.k⟩⟩,⟨fz16,_,aak jz16.l jz16.c jz16.k,.all (abq 2 (fun _ _=>rfl)),⟨W.mg_of X Gn jz16.a,jz16.k⟩⟩,⟨fz21,_,aak jz21.l jz21.c jz21.k,.all (abq 2 (fun _ _=>rfl)),⟨W.mg_of X Gn jz21.a,jz21.k⟩⟩,⟨fz20,_,aak jz20.l jz20.c jz20.k,.all (abq 2 (fun _ _=>rfl)),⟨W.mg_of X Gn jz20.a,jz20.k⟩⟩,⟨fz19,_,aak jz19.l jz19.c jz19.k,.all (abq 2 (fun _ _=>rfl)),⟨W.mg_of X Gn jz19.a,jz19.k⟩⟩,⟨fz17,_,aak jz17.l jz17.c jz17.k,.all (abq 4 (fun _ _ _ _=>rfl)),⟨W.mg_of X Gn jz17.a,jz17.k⟩⟩,⟨fz24,_,aak jz24.l jz24.c jz24.k,.all (abq 4 (fun _ _ _ _=>rfl)),⟨W.mg_of X Gn jz24.a,jz24.k⟩⟩,⟨fz18,_,aak jz18.l jz18.c jz18.k,.all (abq 6 (fun _ _ _ _ _ _=>rfl)),⟨W.mg_of X Gn jz18.a,jz18.k⟩⟩,⟨fz15,_,aak jz15.l jz15.c jz15.k,.all (abq 4 (fun _ _ _ _=>rfl)),⟨W.mg_of X Gn jz15.a,jz15.k⟩⟩,⟨fz22,_,aak jz22.l jz22.c jz22.k,.all (abq 2 (fun _ _=>rfl)),⟨W.mg_of X Gn jz22.a,jz22.k⟩⟩,⟨f_law,_,aak j_law.l j_law.c j_law.k,.all (abq 1 (fun _=>rfl)),⟨W.mg_of X Gn j_law.a,j_law.k⟩⟩,t_MOST_OBLONGS,W.mg_of X Gn gl_MOST_OBLONGS,t_LEAST,W.mg_of X Gn gl_LEAST,t_MOST,W.mg_of X Gn gl_MOST,t_MOST_PIECES,W.mg_of X Gn gl_MOST_PIECES,t_LEAST_CORNERS,W.mg_of X Gn gl_LEAST_CORNERS,t_MOST_CORNERS,W.mg_of X Gn gl_MOST_CORNERS,t_MOST_MARKS,W.mg_of X Gn gl_MOST_MARKS,t_FARTHEST,W.mg_of X Gn gl_FARTHEST,t_LONGEST_MOVE,W.mg_of X Gn gl_LONGEST_MOVE,W.mg_none_of X Gn z_abs,W.mg_none_of X Gn z_all,W.mg_none_of X Gn z_any,W.mg_none_of X Gn z_bool,W.mg_none_of X Gn z_int,W.mg_none_of X Gn z_isinstance,W.mg_none_of X Gn z_len,W.mg_none_of X Gn z_list,W.mg_none_of X Gn z_max,W.mg_none_of X Gn z_min,W.mg_none_of X Gn z_range,W.mg_none_of X Gn z_sorted,W.mg_none_of X Gn z_tuple,W.mg_none_of X Gn z_zip,pt,cz,hzz⟩
 exact⟨W.fnOf "law" "law" (abr agO) (aaO agO) (aad agO) .none v_law.kV v_law.dc v_law.pm v_law.an v_law.cd v_law.ct,Gof T,fun s v=>.of_eq rfl,rfl,fun base _ _ hC hB=>aoG (all (base:=base) (P:=l.prog) (w:=w) T hC hB 16).o_law⟩
theorem abC{G:Gx}{w:Wo}{H:Hp}:∀ns:List Int,aam G w H (ns.map T.int) (ns.map V.int)
 | []=>rfl
 | n::r=>⟨.int n,_,rfl,rfl,abC r⟩
theorem walk(M:auD){l:W.OpenLaw}{q:Program}{loose:List Str}{XP:(Str→Option Value)→Heap→Prop}{YP:World→Heap→Prop}{d:DefRec}{K:Params→W.Frag}(hn:l.most=some 63)(hdf:d.params.defaults=[])(hd0:((PyProof.Rows.recsOf q).any fun d=>d.name=="lowest_box")=true)
  (hY:∀(w:World) (h:Heap),YP w h→(K w.params).In h) (hK:∀w:World,aqA (K w.params)=true)
  (F:∀(w:World) (mg:Str→Option Value) (fa cz pt:Addr) (h:Heap),(K w.params).In h→h.Ns mainGlobals mg→mg d.name=some (.ref fa)→(∀(f:Addr) (o:Obj) (fd:FuncData),mg "lowest_box"=some (.ref f)→h.get? f=some o→o.data=.func fd→fd.code=.ref cz)→
   ∃(fd:FuncData) (G:Gx),(∀(s:Shared) (u:Value),BindsTo s fd ⟨[u],[]⟩ [("_law_script",u)])∧G.iA 1=pt∧∀base:Heap,(K w.params).In base→base.Ns mainGlobals mg→W.CodeHd base cz pt→BM mg base→FnOk l.prog w (K w.params) mg base CX0 32 fa fd ["_law_script"] (amL G)):
  W.WalkO q loose XP YP l.row.toRowW d [] (fun f vs=>PySem.call f vs):=by
 obtain⟨d0,hm0,hn0⟩:=List.any_eq_true.mp hd0
 have hn0:d0.name="lowest_box":=by simpa using hn0
 refine ajr (n:=63) (k:=32) (x:="_law_script") (sp:=fun w Pt=>fun vs H Q E=>∃(a:Addr) (ns:List Int),vs=[.ref a]∧ns.length≤63∧Rd H a (.lst (ns.map V.int))∧H Pt=some (.tbl #[])∧a≠Pt∧∀H',Q (.bl true) H') hn (by decide) hdf ⟨rfl,by decide,by decide⟩ hm0 hY hK (fun w mg fa c0 Pt h a b c z=>?_) (fun w H a Pt ns hl h1 h2 h3=>⟨a,ns,rfl,hl,h1,h2,h3,fun _=>rfl⟩)
 obtain⟨fd,G,hb,hG,hF⟩:=F w mg fa c0 Pt h a b c (fun f o fd e1=>z f o fd (by rw[hn0];exact e1))
 refine⟨fd,hb,fun base kb nb hC hB=>?_⟩
 have hf:=hF base kb nb hC hB
 refine⟨fun vs H Q E ⟨a,ns,e,_⟩=>by subst e;rfl,fun A outer s H args us vs Q E hr e0 hb hv ⟨a,ns,e,hl,hR,hP,hne,hq⟩=>hf.run A outer s H args us vs Q E hr e0 hb hv ?_⟩
 subst e
 obtain⟨st,e⟩:=M ns hl
 refine⟨⟨1,fun _=>Pt,fun b=>b=a⟩,[.tbl 1 ⟨40,25,40,53⟩ ((("lowest_box":Str)++".<locals>.")++"<lambda>")],[.val (.lst (ns.map .int))],⟨rfl,fun l m h1 h2 _=>by have h1:l<1:=h1;have h2:m<1:=h2;omega,fun l h z=>hne (show Pt=a from z).symm,fun l c h=>?_,fun b hb=>⟨ns.map V.int,by have hb:b=a:=hb;subst hb;exact hR⟩⟩,⟨.ref a,[],rfl,⟨a,_,rfl,rfl,hR,abC ns⟩,rfl⟩,?_⟩
 ·cases l with
  | zero=>cases h;exact⟨hG.symm,#[],hP,True.intro,fun cv z=>by cases z⟩
  | succ l=>cases h
 ·rw[e]
  exact⟨fun _ w' H' v _ _ r=>by cases r;exact hq _,fun z=>by cases z⟩
end Pg
end IP
end
section
namespace IP
open L2
theorem aav{i j:Int}(h:i.natAbs<2^64):amC i j=true:=by
 unfold amC
 simp[h]
section
variable{x f:Bool}{σ:Fr}{s:Sto}{i j:Int}{ts us:List T}{t a b c d:T}{r:R}
@[simp] theorem anI:aaU x false (.ret r s)=.ok r s:=rfl
@[simp] theorem am7:aaU x true (.retO ts s)=.ok (.val (.lst ts)) s:=rfl
@[simp] theorem amt:aaU x false (.next σ s)=.ok (.val .non) s:=rfl
@[simp] theorem auG (b:Bool) (m n:Res R):onB (.val (.bl b)) m n=if b=true then m else n:=by cases b<;>rfl
@[simp] theorem asT (b:Bool) (m n:SR):asP (.val (.bl b)) m n=if b=true then m else n:=by cases b<;>rfl
@[simp] theorem atr (g:Int→Res R):onI (.val (.int i)) g=g i:=rfl
@[simp] theorem aih (g:T→Res (List T)):onV (.val t) g=g t:=rfl
@[simp] theorem atQ (g:List T→Res R):onL (.val (.lst ts)) g=g ts:=rfl
@[simp] theorem apA {α β:Type} (v:α) (g:α→Res β):onO (some v) g=g v:=rfl
@[simp] theorem int_int:(R.val (.int i)).int?=some i:=rfl
@[simp] theorem as6:(R.val t).val?=some t:=rfl
@[simp] theorem asI:(R.bor ts).val?=none:=rfl
@[simp] theorem ar1:(R.val (.lst ts)).lst?=some ts:=rfl
@[simp] theorem aud:(R.val (.lst ts)).seq=some ts:=rfl
@[simp] theorem ask:(R.bor ts).seq=some ts:=rfl
@[simp] theorem apP:(R.val (.lst ts)).sq2=some ts:=rfl
@[simp] theorem auu:(R.val (.tup ts)).sq2=some ts:=rfl
@[simp] theorem ass:(R.bor ts).sq2=some ts:=rfl
@[simp] theorem amg:(R.val (.lst ts)).sq3=some ts:=rfl
@[simp] theorem atA:(R.val (.tup ts)).sq3=some ts:=rfl
@[simp] theorem ava (b:Bool):tru (.val (.bl b))=some b:=rfl
@[simp] theorem apT:tru (.val (.int i))=some (i != 0):=rfl
@[simp] theorem au4:one (.ok (.val t) s)=.ok (some t) s:=rfl
@[simp] theorem auQ {p:Prop} [Decidable p] (m n:Res R) (k:R→Sto→SR):(if p then m else n).st σ k=if p then m.st σ k else n.st σ k:=by split<;>rfl
@[simp] theorem apy {α β:Type}{p:Prop} [Decidable p] (m n:Res α) (k:α→Sto→Res β):(if p then m else n).bind k=if p then m.bind k else n.bind k:=by split<;>rfl
@[simp] theorem anC {p:Prop} [Decidable p] (m n:SR):aaU x f (if p then m else n)=if p then aaU x f m else aaU x f n:=by split<;>rfl
@[simp] theorem aoI {p:Prop} [Decidable p] (m n:SR) (k:Fr→Sto→SR):(if p then m else n).bind k=if p then m.bind k else n.bind k:=by split<;>rfl
@[simp] theorem am8 {p:Prop} [Decidable p] (m n:SR) (i:Nat):(if p then m else n).unlock i=if p then m.unlock i else n.unlock i:=by split<;>rfl
@[simp] theorem amy (v:R) (i:Nat):(SR.ret v s).unlock i=.ret v s:=rfl
@[simp] theorem alO (i:Nat):(SR.next σ s).unlock i=.next (IP.unlock σ i) s:=rfl
@[simp] theorem anK:opR .add (.val (.int i)) (.val (.int j))=some (.val (.int (i+j))):=rfl
@[simp] theorem aoc:opR .sub (.val (.int i)) (.val (.int j))=some (.val (.int (i-j))):=rfl
theorem aaT(h:amC i j=true):opR .mul (.val (.int i)) (.val (.int j))=some (.val (.int (i*j))):=by simp[opR,opI,h]
theorem aaG(h:0<j):opR .mod (.val (.int i)) (.val (.int j))=some (.val (.int (Int.fmod i j))):=by simp[opR,opI,show j≠0 by omega]
theorem apj:(2:Nat)^64<big:=by unfold big;decide +kernel
theorem abD(h:0<j)(hb:j<2^64):opR .fdiv (.val (.int i)) (.val (.int j))=some (.val (.int (Int.fdiv i j))):=by
 have:j.natAbs<big:=Nat.lt_trans (by omega) apj
 simp[opR,opI,show j≠0 by omega,this]
@[simp] theorem axj:adr .lt (.val (.int i)) (.val (.int j))=some (decide (i<j)):=rfl
@[simp] theorem awh:adr .le (.val (.int i)) (.val (.int j))=some (decide (i≤j)):=rfl
@[simp] theorem awL:adr .gt (.val (.int i)) (.val (.int j))=some (decide (j<i)):=rfl
@[simp] theorem awF:adr .ge (.val (.int i)) (.val (.int j))=some (decide (j≤i)):=rfl
@[simp] theorem axd:adr .eq (.val a) (.val b)=eqD 8 a b:=rfl
@[simp] theorem axa:adr .ne (.val a) (.val b)=(eqD 8 a b).map (!·):=rfl
@[simp] theorem auF:adr .isN r (.val .non)=some r.isNon:=rfl
@[simp] theorem aqa:adr .notN r (.val .non)=some (!r.isNon):=rfl
@[simp] theorem av2:eqD 8 (.int i) (.int j)=some (i==j):=by simp[eqD]
@[simp] theorem auU:aaW (.val (.tup [a,b])) 0=some a:=rfl
@[simp] theorem avx:aaW (.val (.tup [a,b])) 1=some b:=rfl
theorem ae3{n:Nat}(h:ts[n]?=some t):aaW (.val (.lst ts)) (n:Int)=some t:=by
 have hl:=(List.getElem?_eq_some_iff.mp h).1
 have h2:=(List.getElem?_eq_some_iff.mp h).2
 simp[aaW,L2.atI,L2.ixN,hl,h2]
theorem ahm{n:Nat}(h:ts[n]?=some t):aaW (.bor ts) (n:Int)=some t:=by
 have hl:=(List.getElem?_eq_some_iff.mp h).1
 have h2:=(List.getElem?_eq_some_iff.mp h).2
 simp[aaW,L2.atI,L2.ixN,hl,h2]
@[simp] theorem am2:b1R .len (.val (.lst ts))=some (.val (.int ts.length)):=rfl
@[simp] theorem amu:b1R .len (.val (.tup ts))=some (.val (.int ts.length)):=rfl
@[simp] theorem am6:b1R .len (.bor ts)=some (.val (.int ts.length)):=rfl
@[simp] theorem auV:b1R .abs (.val (.int i))=some (.val (.int (if i<0 then -i else i))):=rfl
@[simp] theorem asW:b1R .list (.val (.lst ts))=some (.val (.lst ts)):=rfl
@[simp] theorem amA:b1R .sorted (.val (.lst [.int i,.int j]))=some (.val (.lst [.int (min i j),.int (max i j)])):=by
 by_cases h:j<i
 ·simp[b1R,aaC,aed,agX,h,show min i j=j by omega,show max i j=i by omega]
 ·simp[b1R,aaC,aed,agX,h,show min i j=i by omega,show max i j=j by omega]
@[simp] theorem asA:b1R .max (.val (.lst [.int i,.int j]))=some (.val (.int (max i j))):=by
 have h:b1R .max (.val (.lst [.int i,.int j]))=some (.val (.int (if j>i then j else i))):=rfl
 rw[h,show(if j>i then j else i)=max i j by split<;>omega]
@[simp] theorem atw:b1R .min (.val (.lst [.int i,.int j]))=some (.val (.int (min i j))):=by
 have h:b1R .min (.val (.lst [.int i,.int j]))=some (.val (.int (if j<i then j else i))):=rfl
 rw[h,show(if j<i then j else i)=min i j by split<;>omega]
@[simp] theorem ar8:aaW (.val (.lst [a,b])) 0=some a:=rfl
@[simp] theorem aqO:aaW (.val (.lst [a,b])) 1=some b:=rfl
end
theorem acG{C:Cf}{g:Tg}{it:E}{b:List S}{σ:Fr}{s s1:Sto}{ts:List T}(h:ev C it .j σ s=.ok (.val (.lst ts)) s1)(hit:∀i,it≠.var i):ex C (.for_ g it b) σ s=aaX g (fun σ s=>exs C b σ s) ts σ s1:=by
 have e:ex C (.for_ g it b) σ s=(ev C it .j σ s).st σ fun x s1=>onS x.lst? fun ts=>aaX g (fun σ s=>exs C b σ s) ts σ s1:=by
  cases it<;>first|rfl|exact absurd rfl (hit _)
 rw[e,h]
 rfl
theorem acg:1000≤lim:=by decide
theorem alw:(1000:Int)≤(lim:Int):=Int.ofNat_le.mpr acg
theorem ant{j:Int}(h:j≤1000):decide (j≤(lim:Int))=true:=decide_eq_true (Int.le_trans h alw)
theorem ala{n:Nat}(h:n≤1000):bnd (n:Int)=true:=by
 unfold bnd
 simp
 omega
theorem ajl{C:Cf}{a:E}{σ:Fr}{s s1:Sto}{j:Int}(h:ev C a .v σ s=.ok (.val (.int j)) s1):ev C (.rng1 a) .j σ s=if bnd j&&decide (j≤lim)then .ok (.val (.lst (aa4 0 j))) s1 else .stuck:=by
 unfold ev
 rw[h]
 rfl
theorem ajd{C:Cf}{a b:E}{σ:Fr}{s s1 s2:Sto}{i j:Int}(h:ev C a .v σ s=.ok (.val (.int i)) s1)(h':ev C b .v σ s1=.ok (.val (.int j)) s2):ev C (.rng2 a b) .j σ s=if bnd i&&bnd j&&decide (j-i≤lim)then .ok (.val (.lst (aa4 i j))) s2 else .stuck:=by
 unfold ev
 rw[h]
 show(ev C b .v σ s1).bind _=_
 rw[h']
 rfl
theorem amT{α:Type}{b:Bool}{x y:α}(h:b=true):(if b then x else y)=x:=by rw[h];rfl
theorem alk{a b:Bool}(h:a=true)(h':b=true):(a&&b)=true:=by rw[h,h'];rfl
theorem adq{C:Cf}{a:E}{σ:Fr}{s s1:Sto}{n:Nat}(h:ev C a .v σ s=.ok (.val (.int (n:Int))) s1)(hn:n≤1000):ev C (.rng1 a) .j σ s=.ok (.val (.lst (aa4 0 n))) s1:=
 (ajl h).trans (amT (alk (ala hn) (ant (Int.ofNat_le.mpr hn))))
theorem alq{C:Cf}{a b:E}{σ:Fr}{s s1 s2:Sto}{m n:Nat}(h:ev C a .v σ s=.ok (.val (.int (m:Int))) s1)(h':ev C b .v σ s1=.ok (.val (.int (n:Int))) s2)(hm:m≤1000)(hn:n≤1000):ev C (.rng2 a b) .j σ s=.ok (.val (.lst (aa4 m n))) s2:=
 (ajd h h').trans (amT (alk (alk (ala hm) (ala hn)) (ant (by omega))))
theorem abZ{C:Cf}{e:E}{σ:Fr}{s s1:Sto}{r:R}(h:ev C e .v σ s=.ok r s1):ex C (.ret e) σ s=.ret r s1:=by unfold ex;rw[h];rfl
theorem aev{C:Cf}{e:E}{i:Nat}{σ:Fr}{s s1:Sto}{t:T}(h:ev C e .v σ s=.ok (.val t) s1):ex C (.asg i e) σ s=.next (put σ i t) s1:=by unfold ex;rw[h];rfl
theorem aeS{F:T→Sto→Res (Option T)}{s:Sto}{α:Type}(f:α→T)(P:α→Prop):∀ts:List T,(∀(m:Nat) (t:T),ts[m]?=some t→∃x,P x∧F t s=.ok (some (f x)) s)→∃xs:List α,xs.length=ts.length∧(∀x∈xs,P x)∧aas F ts s=.ok (xs.map f) s
 | [],_=>⟨[],rfl,by simp,rfl⟩
 | t::ts,h=>by
  obtain⟨x,hx,e⟩:=h 0 t rfl
  obtain⟨xs,h1,h2,h3⟩:=aeS f P ts fun m u hm=>h (m+1) u (by simpa using hm)
  refine⟨x::xs,by simp[h1],fun y hy=>?_,?_⟩
  ·rcases List.mem_cons.mp hy with rfl|z
   ·exact hx
   ·exact h2 y z
  ·unfold aas
   rw[e]
   simp[h3]
theorem ahn{C:Cf}{e it:E}{g:Tg}{σ:Fr}{s s1 s2:Sto}{ts q:List T}(h:ev C it .i σ s=.ok (.val (.lst ts)) s1)(h2:aas (fun t s=>onO (aap σ g t) fun σ'=>one (ev C e .v σ' s)) ts s1=.ok q s2):ev C (.comp e g it) .v σ s=.ok (.val (.lst q)) s2:=by
 unfold ev
 rw[h]
 show(aas (fun t s=>onO (aap σ g t) fun σ'=>one (ev C e .v σ' s)) ts s1).bind _=_
 rw[h2]
 rfl
theorem adX{C:Cf}{a:S}{r:List S}{σ:Fr}{s:Sto}:exs C (a::r) σ s=(ex C a σ s).bind fun σ1 s1=>exs C r σ1 s1:=by simp only[exs]
theorem aae{C:Cf}{a:S}{r:List S}{σ σ1:Fr}{s s1:Sto}(h:ex C a σ s=.next σ1 s1):exs C (a::r) σ s=exs C r σ1 s1:=by rw[adX,h];rfl
theorem aaE{C:Cf}{a:S}{r:List S}{σ:Fr}{s s1:Sto}{v:R}(h:ex C a σ s=.ret v s1):exs C (a::r) σ s=.ret v s1:=by rw[adX,h];rfl
@[simp] theorem avk (m:Res R):amx .j m=m:=rfl
@[simp] theorem avr (m:Res R):amx .i m=m:=rfl
section
variable{g:Tg}{body:Fr→Sto→SR}{s:Sto}
theorem acl(I:Nat→Fr→Prop):∀(ts:List T) (n:Nat) (σ:Fr),I n σ→(∀(m:Nat) (t:T) (σ:Fr),ts[m]?=some t→I (n+m) σ→∃σ1 σ2,aap σ g t=some σ1∧body σ1 s=.next σ2 s∧I (n+m+1) σ2)→
  ∃σ',aaX g body ts σ s=.next σ' s∧I (n+ts.length) σ'
 | [],n,σ,h,_=>⟨σ,rfl,h⟩
 | t::ts,n,σ,h,st=>by
  obtain⟨σ1,σ2,e1,e2,e3⟩:=st 0 t σ rfl h
  obtain⟨σ',e4,e5⟩:=acl I ts (n+1) σ2 e3 fun m u σ em hm=>by
   obtain⟨a,b,c1,c2,c3⟩:=st (m+1) u σ (by simpa using em) (by rw[show n+(m+1)=n+1+m by omega];exact hm)
   exact⟨a,b,c1,c2,by rw[show n+1+m+1=n+(m+1)+1 by omega];exact c3⟩
  refine⟨σ',?_,by rw[List.length_cons,show n+(ts.length+1)=n+1+ts.length by omega];exact e5⟩
  show onS (aap σ g t) _=_
  rw[e1]
  show(body σ1 s).bind _=_
  rw[e2]
  exact e4
noncomputable def ab4{α:Type}(q:Nat→Option α):Nat→Nat→Option α
 | _,0=>none
 | n,m+1=>match q n with
  | some v=>some v
  | none=>ab4 q (n+1) m
theorem ac7(I:Nat→Fr→Prop)(q:Nat→Option R):∀(ts:List T) (n:Nat) (σ:Fr),I n σ→
  (∀(m:Nat) (t:T) (σ:Fr),ts[m]?=some t→I (n+m) σ→∃σ1,aap σ g t=some σ1∧match q (n+m)with
   | some r=>body σ1 s=.ret r s
   | none=>∃σ2,body σ1 s=.next σ2 s∧I (n+m+1) σ2)→
  match ab4 q n ts.length with
  | some r=>aaX g body ts σ s=.ret r s
  | none=>∃σ',aaX g body ts σ s=.next σ' s∧I (n+ts.length) σ'
 | [],n,σ,h,_=>⟨σ,rfl,h⟩
 | t::ts,n,σ,h,st=>by
  obtain⟨σ1,e1,e2⟩:=st 0 t σ rfl h
  rw[List.length_cons]
  unfold ab4
  cases hq:q n with
  | some r=>
   rw[show n+0=n from rfl,hq]at e2
   show onS (aap σ g t) _=_
   rw[e1]
   show(body σ1 s).bind _=_
   rw[show body σ1 s=_ from e2]
   rfl
  | none=>
   rw[show n+0=n from rfl,hq]at e2
   obtain⟨σ2,e2,e3⟩:=e2
   have ih:=ac7 I q ts (n+1) σ2 e3 fun m u σ em hm=>by
    obtain⟨a,c1,c2⟩:=st (m+1) u σ (by simpa using em) (by rw[show n+(m+1)=n+1+m by omega];exact hm)
    refine⟨a,c1,?_⟩
    rw[show n+(m+1)=n+1+m by omega]at c2
    exact c2
   have e0:aaX g body (t::ts) σ s=aaX g body ts σ2 s:=by
    show onS (aap σ g t) _=_
    rw[e1]
    show(body σ1 s).bind _=_
    rw[e2]
    rfl
   rw[e0]
   show(match ab4 q (n+1) ts.length with|some r=>_|none=>_)
   cases hf:ab4 q (n+1) ts.length with
   | some r=>rw[hf]at ih;exact ih
   | none=>
    rw[hf]at ih
    obtain⟨σ',e4,e5⟩:=ih
    exact⟨σ',e4,by rw[show n+(ts.length+1)=n+1+ts.length by omega];exact e5⟩
theorem abf{i j:Int}{n:Nat}{t:T}(h:(aa4 i j)[n]?=some t):t=.int (i+n)∧n<(j-i).toNat:=by
 unfold aa4 at h
 rw[List.getElem?_map]at h
 cases e:(List.range (j-i).toNat)[n]? with
 | none=>rw[e]at h;cases h
 | some m=>
  rw[e]at h
  have hn:=(List.getElem?_eq_some_iff.mp e).1
  have:=(List.getElem?_eq_some_iff.mp e).2
  simp at this hn
  subst this
  simp at h
  exact⟨h.symm,by omega⟩
theorem abJ(i j:Int):(aa4 i j).length=(j-i).toNat:=by unfold aa4;simp
end
end IP
end
section
namespace IP
@[simp] theorem aqj:type_of% @exs.eq_1:=@exs.eq_1
@[simp] theorem asM:type_of% @exs.eq_2:=@exs.eq_2
@[simp] theorem avz:type_of% @ex.eq_1:=@ex.eq_1
@[simp] theorem auS:type_of% @ex.eq_2:=@ex.eq_2
@[simp] theorem auR:type_of% @ex.eq_3:=@ex.eq_3
@[simp] theorem avu:type_of% @ex.eq_4:=@ex.eq_4
@[simp] theorem avj:type_of% @ex.eq_8:=@ex.eq_8
@[simp] theorem auO:type_of% @ex.eq_9:=@ex.eq_9
@[simp] theorem ast:type_of% @ex.eq_12:=@ex.eq_12
@[simp] theorem asX:type_of% @ex.eq_13:=@ex.eq_13
@[simp] theorem arK:type_of% @ex.eq_16:=@ex.eq_16
@[simp] theorem atL:type_of% @ex.eq_17:=@ex.eq_17
@[simp] theorem ats:type_of% @ex.eq_18:=@ex.eq_18
@[simp] theorem aty:type_of% @ex.eq_20:=@ex.eq_20
@[simp] theorem arw:type_of% @ex.eq_21:=@ex.eq_21
@[simp] theorem avl:type_of% @ev.eq_1:=@ev.eq_1
@[simp] theorem avm:type_of% @ev.eq_2:=@ev.eq_2
@[simp] theorem avo:type_of% @ev.eq_3:=@ev.eq_3
@[simp] theorem auT:type_of% @ev.eq_4:=@ev.eq_4
@[simp] theorem avA:type_of% @ev.eq_5:=@ev.eq_5
@[simp] theorem avq:type_of% @ev.eq_6:=@ev.eq_6
@[simp] theorem auB:type_of% @ev.eq_7:=@ev.eq_7
@[simp] theorem avp:type_of% @ev.eq_8:=@ev.eq_8
@[simp] theorem avn:type_of% @ev.eq_9:=@ev.eq_9
@[simp] theorem atS:type_of% @ev.eq_10:=@ev.eq_10
@[simp] theorem aqc:type_of% @ev.eq_11:=@ev.eq_11
@[simp] theorem aqi:type_of% @ev.eq_12:=@ev.eq_12
@[simp] theorem asF:type_of% @ev.eq_13:=@ev.eq_13
@[simp] theorem aul:type_of% @ev.eq_14:=@ev.eq_14
@[simp] theorem arQ:type_of% @ev.eq_15:=@ev.eq_15
@[simp] theorem asf:type_of% @ev.eq_16:=@ev.eq_16
@[simp] theorem atX:type_of% @ev.eq_17:=@ev.eq_17
@[simp] theorem apQ:type_of% @ev.eq_18:=@ev.eq_18
@[simp] theorem asm:type_of% @ev.eq_21:=@ev.eq_21
@[simp] theorem aq0:type_of% @ev.eq_26:=@ev.eq_26
@[simp] theorem aqE:type_of% @ev.eq_28:=@ev.eq_28
@[simp] theorem aqh:type_of% @ev.eq_29:=@ev.eq_29
@[simp] theorem auv:type_of% @ev.eq_30:=@ev.eq_30
@[simp] theorem ath:type_of% @ev.eq_35:=@ev.eq_35
@[simp] theorem apV:type_of% @ev.eq_36:=@ev.eq_36
@[simp] theorem aqX:type_of% @ev.eq_37:=@ev.eq_37
@[simp] theorem asB:type_of% @ev.eq_38:=@ev.eq_38
@[simp] theorem at2:type_of% @ev.eq_39:=@ev.eq_39
@[simp] theorem atG:type_of% @evs.eq_1:=@evs.eq_1
@[simp] theorem auz:type_of% @evs.eq_2:=@evs.eq_2
@[simp] theorem arb:type_of% @evr.eq_1:=@evr.eq_1
@[simp] theorem as0:type_of% @evr.eq_2:=@evr.eq_2
@[simp] theorem anl:type_of% @abb.eq_1:=@abb.eq_1
@[simp] theorem atO:type_of% @ofR.eq_1:=@ofR.eq_1
@[simp] theorem aso:type_of% @ofR.eq_2:=@ofR.eq_2
@[simp] theorem ap1:type_of% @look.eq_1:=@look.eq_1
@[simp] theorem asN:type_of% @put.eq_1:=@put.eq_1
section
variable{x f:Bool}{σ:Fr}{s:Sto}{i j:Int}{ts us:List T}{t a b c:T}{r:R}{l d k:Nat}{sub:Nat→Nat→Bool}{fs:List (Option T)}
@[simp] theorem auK:(R.val .non).dr s=.val .non:=rfl
@[simp] theorem awv (b:Bool):(R.val (.bl b)).dr s=.val (.bl b):=rfl
@[simp] theorem avh:(R.val (.int i)).dr s=.val (.int i):=rfl
@[simp] theorem avc:(R.val (.tup ts)).dr s=.val (.tup ts):=rfl
@[simp] theorem agr:(R.val (.lst ts)).dr s=.val (.lst ts):=rfl
@[simp] theorem auA:(R.val (.exc d)).dr s=.val (.exc d):=rfl
@[simp] theorem auI:(R.bor ts).dr s=.bor ts:=rfl
theorem aeQ(h:s[l]?=some (.lst ts)):(R.val (.loc l)).dr s=.bor ts:=by simp[R.dr,h]
theorem ac1(h:s[l]?=some (.ins d fs)):ahB s (.val (.loc l)) d k=(fs[k]?).join:=by simp[ahB,h]
theorem agf(h:s[l]?=some (.ins d fs)):(R.val (.loc l)).locI s d=some (l,fs):=by simp[R.locI,h]
theorem acq(h:s[l]?=some (.lst ts)):(R.val (.loc l)).locL s=some (l,ts):=by simp[R.locL,h]
@[simp] theorem aux:afi sub (.val (.exc d)) (.cls k)=some (sub d k):=rfl
@[simp] theorem alx:afi sub (.val (.int i)) .int=some true:=rfl
@[simp] theorem akC:afi sub (.val (.int i)) .bool=some false:=rfl
@[simp] theorem alU:afi sub (.val (.tup ts)) .tuple=some true:=rfl
@[simp] theorem akW:afi sub (.val (.lst ts)) .list=some true:=rfl
@[simp] theorem al3:afi sub (.bor ts) .list=some true:=rfl
@[simp] theorem amB:aaU true f (.exc d σ s)=.exc d s:=rfl
@[simp] theorem apB:(SR.next σ s).nox=.next σ s:=rfl
@[simp] theorem aqk:(SR.ret r s).nox=.ret r s:=rfl
@[simp] theorem aqR (m:Res R):onN (.val .non) m=m:=rfl
@[simp] theorem atD:(R.val (.tup ts)).tup?=some ts:=rfl
@[simp] theorem aoE (b:Bool):b1R .int (.val (.bl b))=some (.val (.int (if b then 1 else 0))):=rfl
@[simp] theorem amw:b1R .int (.val (.int i))=some (.val (.int i)):=rfl
@[simp] theorem al6:b1R .list (.bor ts)=some (.val (.lst ts)):=rfl
@[simp] theorem akp:b1R .tuple (.bor ts)=some (.val (.tup ts)):=rfl
@[simp] theorem akq:b1R .tuple (.val (.lst ts))=some (.val (.tup ts)):=rfl
theorem abT:∀bs:List Bool,aaN (bs.map T.bl)=some bs
 | []=>rfl
 | b::bs=>by simp[aaN,abT bs]
theorem amZ(bs:List Bool):b1R .all (.val (.lst (bs.map .bl)))=some (.val (.bl (bs.all id))):=by simp[b1R,abT]
theorem ao4(bs:List Bool):b1R .any (.val (.lst (bs.map .bl)))=some (.val (.bl (bs.any id))):=by simp[b1R,abT]
theorem ajA{C:Cf}{e:E}{b:Bool}{s1:Sto}(h:ev C e .t σ s=.ok (.val (.bl b)) s1):ev C (.not e) .t σ s=.ok (.val (.bl (!b))) s1:=by
 unfold ev
 rw[h]
 cases b<;>rfl
theorem aaz{C:Cf}{e it:E}{i:Nat}{α:Type}(xs:List α)(g:α→T)(f:α→T)(ha:ev C it .i σ s=.ok (.val (.lst (xs.map g))) s)
  (h:∀x∈xs,ev C e .v (put σ i (g x)) s=.ok (.val (f x)) s):ev C (.comp e (.one i) it) .v σ s=.ok (.val (.lst (xs.map f))) s:=by
 refine ahn ha ?_
 clear ha
 induction xs with
 | nil=>rfl
 | cons x xs ih=>
  have h0:=h x (by simp)
  have h1:=ih fun y hy=>h y (by simp[hy])
  rw[List.map_cons,List.map_cons]
  unfold aas
  rw[show onO (aap σ (.one i) (g x)) (fun σ'=>one (ev C e .v σ' s))=.ok (some (f x)) s by show one (ev C e .v (put σ i (g x)) s)=_;rw[h0];rfl]
  simp only[Res.bind_ok]
  rw[h1]
  rfl
end
theorem ajE{C:Cf}{e:E}{f:Bi}{σ:Fr}{s s1:Sto}{r r':R}(h:ev C e .v σ s=.ok r s1)(hb:b1R f (r.dr s1)=some r'):ev C (.b1 f e) .v σ s=.ok r' s1:=by
 rw[show ev C (.b1 f e) .v σ s=(ev C e .v σ s).bind fun x s1=>.of (b1R f (x.dr s1)) s1 from by simp only[ev,ahJ],h]
 simp[hb]
theorem aiv{C:Cf}{e:E}{σ:Fr}{s s1:Sto}{α:Type}{xs:List α}{f:α→Bool}(h:ev C e .v σ s=.ok (.val (.lst (xs.map fun n=>.bl (f n)))) s1):ev C (.b1 .all e) .v σ s=.ok (.val (.bl (xs.all f))) s1:=by
 refine ajE h ?_
 have hb:=amZ (xs.map f)
 rw[List.map_map]at hb
 rw[agr]
 refine hb.trans ?_
 simp[List.all_map]
theorem agp{C:Cf}{e:E}{σ:Fr}{s s1:Sto}{α:Type}{xs:List α}{f:α→Bool}(h:ev C e .v σ s=.ok (.val (.lst (xs.map fun n=>.bl (f n)))) s1):ev C (.b1 .any e) .v σ s=.ok (.val (.bl (xs.any f))) s1:=by
 refine ajE h ?_
 have hb:=ao4 (xs.map f)
 rw[List.map_map]at hb
 rw[agr]
 refine hb.trans ?_
 simp[List.any_map]
theorem aee{C:Cf}{e:E}{f:Bi}{σ:Fr}{s s1:Sto}{b:Bool}(h:ev C (.b1 f e) .v σ s=.ok (.val (.bl b)) s1):ev C (.b1 f e) .t σ s=.ok (.val (.bl b)) s1:=by
 have e1:ev C (.b1 f e) .t σ s=fin .t (ev C (.b1 f e) .v σ s):=by simp only[ev,ahJ]
 rw[e1,h]
 rfl
theorem aiV{C:Cf}{c a b:E}{σ:Fr}{s s1:Sto}(h:ev C c .t σ s=.ok (.val (.bl false)) s1):ev C (.ife c a b) .v σ s=ev C b .v σ s1:=by
 rw[show ev C (.ife c a b) .v σ s=(ev C c .t σ s).bind fun x s1=>onB x (ev C a .v σ s1) (ev C b .v σ s1)from by simp only[ev,ahJ],h]
 rfl
theorem aj1{C:Cf}{c a b:E}{σ:Fr}{s s1:Sto}(h:ev C c .t σ s=.ok (.val (.bl true)) s1):ev C (.ife c a b) .v σ s=ev C a .v σ s1:=by
 rw[show ev C (.ife c a b) .v σ s=(ev C c .t σ s).bind fun x s1=>onB x (ev C a .v σ s1) (ev C b .v σ s1)from by simp only[ev,ahJ],h]
 rfl
@[simp] theorem avU (a b:Bool):eqD 8 (.bl a) (.bl b)=some (a==b):=by simp[eqD]
theorem aiW:opR .pow (.val (.int 10)) (.val (.int 30))=some (.val (.int (10^30))):=by
 have h:(10:Int).natAbs<big:=by unfold big;decide +kernel
 simp only[opR,opI]
 rw[if_pos ⟨by decide,by decide,h⟩]
 rfl
theorem agh{C:Cf}{c:E}{a b:List S}{σ:Fr}{s s1:Sto}(h:ev C c .t σ s=.ok (.val (.bl false)) s1):ex C (.ifs c a b) σ s=exs C b σ s1:=by
 rw[ex.eq_9,h]
 rfl
theorem adS{C:Cf}{c:E}{a b:List S}{σ:Fr}{s s1:Sto}(h:ev C c .t σ s=.ok (.val (.bl true)) s1):ex C (.ifs c a b) σ s=exs C a σ s1:=by
 rw[ex.eq_9,h]
 rfl
theorem ac5{C:Cf}{σ:Fr}{s:Sto}:exs C [] σ s=.next σ s:=by simp
theorem aai{fs:List Fn}{sub:Nat→Nat→Bool}{k f:Nat}{F:Fn}{rs:List R}{s:Sto}(hF:fs[f]?=some F)(hl:rs.length=F.pars):run true fs sub aaj (k+1) f rs s=aaU true F.fr (exs (cfX fs sub k) F.body (abb F rs) s):=by
 conv=>lhs;unfold run
 rw[hF]
 exact if_pos hl
theorem abt{C:Cf}{a:S}{r:List S}{σ σ1:Fr}{s s1:Sto}{d:Nat}(h:ex C a σ s=.exc d σ1 s1):exs C (a::r) σ s=.exc d σ1 s1:=by rw[adX,h];rfl
theorem aii{C:Cf}{b h:List S}{c:Nat}{nm:Option Nat}{σ σ1:Fr}{s s1:Sto}(e:exs C b σ s=.next σ1 s1):ex C (.try_ b c nm h) σ s=.next σ1 s1:=by simp[e]
theorem agT{C:Cf}{b h:List S}{c d i:Nat}{σ σ1 σ2:Fr}{s s1 s2:Sto}(e:exs C b σ s=.exc d σ1 s1)(hs:C.sub d c=true)(e2:exs C h (put σ1 i (.exc d)) s1=.next σ2 s2):ex C (.try_ b c (some i) h) σ s=.next (σ2.set i none) s2:=by
 rw[show ex C (.try_ b c (some i) h) σ s=_ from ex.eq_18 ..]
 rw[e]
 simp only[hs,if_true]
 rw[e2]
 rfl
end IP
end
section
namespace IP
namespace Pg
open L2
variable{k:Nat}{s:Sto}
noncomputable abbrev iL(xs:List Int):List T:=xs.map .int
noncomputable abbrev tI(xs:List Int):T:=.tup (iL xs)
noncomputable abbrev tIs(l:List (List Int)):T:=.lst (l.map tI)
theorem ahk(i:Int):run true fns aao aaj (k+1) awY [.val (.int i)] s=.ok (.val (.bl true)) s:=by
 rw[aai (F:=awX) rfl rfl]
 simp[aus]
theorem ao5{ts:List T}{m:Nat}{t:T}(h:ts[m]?=some t):L2.atI ts (m:Int)=some t:=by
 have hl:=(List.getElem?_eq_some_iff.mp h).1
 have h2:=(List.getElem?_eq_some_iff.mp h).2
 simp[L2.atI,L2.ixN,hl,h2]
theorem alB{ts:List T}{n:Nat}{t:T}(h:ts[n]?=some t):aaW (.val (.tup ts)) (n:Int)=some t:=ao5 h
theorem avV(ns:List Int)(m:Nat):∃v,run true fns aao aaj (k+1) awo [.val (.lst (iL ns)),.val (.int m)] s=.ok (.val (.int v)) s:=by
 rw[aai (F:=awG) rfl rfl]
 by_cases h:m<ns.length
 ·have hg:(ns.map T.int)[m]?=some (.int ns[m]):=by simp[h]
  have h1:=ae3 hg
  exact⟨ns[m],by simp[apt,h,h1]⟩
 ·exact⟨0,by simp[apt,h]⟩
noncomputable def aby(v:Int):Prop:=0≤v∧v≤2147483646
theorem aaM(i:Int){j:Int}(h:0<j):0≤Int.fmod i j∧Int.fmod i j<j:=by
 rw[Int.fmod_eq_emod_of_nonneg _ (by omega)]
 exact⟨Int.emod_nonneg _ (by omega),Int.emod_lt_of_pos _ h⟩
theorem afh(i:Int):aby (Int.fmod i 2147483647):=by
 have:=aaM i (j:=2147483647) (by decide)
 unfold aby
 omega
theorem aol(ns:List Int)(n:Nat)(hn:n≤1000):∃row:List Int,row.length=n∧(∀v∈row,aby v)∧run true fns aao aaj (k+2) avF [.val (.lst (iL ns)),.val (.int n)] s=.ok (.val (.lst (iL row))) s:=by
 obtain⟨σ',e,st,row,c,rfl,h1,h2,h3⟩:=acl (g:=.one 4) (body:=fun σ s=>exs (cfX fns aao (k+1)) aiE σ s) (s:=s)
  (fun m σ=>∃(st:Int) (row:List Int) (c:Option B),σ=[some (.val (.lst (iL ns))),some (.val (.int n)),some (.val (.int st)),some (.own (iL row)),c]∧aby st∧row.length=m∧∀v∈row,aby v) (aa4 0 n) 0 [some (.val (.lst (iL ns))),some (.val (.int n)),some (.val (.int 7)),some (.own []),none] ⟨7,[],none,rfl,⟨by decide,by decide⟩,rfl,by simp⟩ (by
   rintro m t σ hm ⟨st,row,c,rfl,h1,h2,h3⟩
   obtain⟨rfl,hlt⟩:=abf hm
   obtain⟨v,hv⟩:=avV (k:=k) (s:=s) ns m
   have hmul:=aaT (i:=st) (j:=48271) (aav (by have:=h1.1;have:=h1.2;omega))
   have hmod:=aaG (i:=st*48271+v+11) (j:=2147483647) (by decide)
   have hz:=afh (st*48271+v+11)
   have hlim:row.length<lim:=Nat.lt_of_lt_of_le (show row.length<1000 by omega) acg
   refine⟨[some (.val (.lst (iL ns))),some (.val (.int n)),some (.val (.int st)),some (.own (iL row)),some (.val (.int m))],[some (.val (.lst (iL ns))),some (.val (.int n)),some (.val (.int (Int.fmod (st*48271+v+11) 2147483647))),some (.own (iL (row++[Int.fmod (st*48271+v+11) 2147483647]))),some (.val (.int m))],by simp[aap],by simp[hv,hmul,hmod,acd,aaH,hlim],Int.fmod (st*48271+v+11) 2147483647,row++[Int.fmod (st*48271+v+11) 2147483647],some (.val (.int m)),rfl,hz,by simp[h2],?_⟩
   intro x hx
   rcases List.mem_append.mp hx with z|z
   ·exact h3 x z
   ·rw[List.mem_singleton.mp z];exact hz)
 refine⟨row,?_,h3,?_⟩
 ·rw[h2,abJ];omega
 ·rw[aai (F:=auN) rfl rfl]
  have hx:exs (cfX fns aao (k+1)) aq6 (abb auN [.val (.lst (iL ns)),.val (.int n)]) s=.ret (.val (.lst (iL row))) s:=by
   refine(aae (σ1:=[some (.val (.lst (iL ns))),some (.val (.int n)),some (.val (.int 7)),none,none]) (s1:=s) (by simp)).trans ?_
   refine(aae (σ1:=[some (.val (.lst (iL ns))),some (.val (.int n)),some (.val (.int 7)),some (.own []),none]) (s1:=s) (by simp[adD,aaH])).trans ?_
   refine(aae ((acG (ts:=aa4 0 n) (s1:=s) (adq (n:=n) (by simp) hn) (by intro _ h;cases h)).trans e)).trans ?_
   simp[frz]
  rw[hx]
  rfl
theorem abn{row:List Int}(hr:∀v∈row,aby v){m:Nat}(h:m<row.length):∃v,aby v∧aaW (.val (.lst (iL row))) (m:Int)=some (.int v)∧row[m]?=some v:=by
 refine⟨row[m],hr _ (List.getElem_mem h),ae3 (by simp[h]),by simp[h]⟩
structure Spt where
 (x y a b c d:Int)
noncomputable abbrev Spt.l(p:Spt):List Int:=[p.x,p.y,p.a,p.b,p.c,p.d]
noncomputable def Spt.fit(p:Spt):Prop:=(-20000≤p.x∧p.x≤20000)∧(-20000≤p.y∧p.y≤20000)∧(-200≤p.a∧p.a≤200)∧(-200≤p.b∧p.b≤200)∧(-200≤p.c∧p.c≤200)∧(-200≤p.d∧p.d≤200)
noncomputable def tS(p:Spt):T:=.tup [.int p.x,.int p.y,.int p.a,.int p.b,.int p.c,.int p.d]
noncomputable abbrev ab6(l:List Spt):T:=.lst (l.map tS)
noncomputable def ajf(b n:Int):Bool:=decide ((if n<0 then -n else n)≤b)
theorem acA(xs:List Int)(b:Int):run true fns aao aaj (k+1) awa [.val (tI xs),.val (.int b)] s=.ok (.val (.bl (xs.all (ajf b)))) s:=by
 rw[aai (F:=asl) rfl rfl]
 have hc:ev (cfX fns aao k) (.comp afm (.one 2) (.var 0)) .v (abb asl [.val (tI xs),.val (.int b)]) s=.ok (.val (.lst (xs.map fun n=>.bl (ajf b n)))) s:=
  aaz (i:=2) xs .int (fun n=>.bl (ajf b n)) (by simp) (fun n _=>by simp[ajf])
 have hx:exs (cfX fns aao k) atm (abb asl [.val (tI xs),.val (.int b)]) s=.ret (.val (.bl (xs.all (ajf b)))) s:=aaE (abZ (aiv hc))
 rw[hx]
 rfl
theorem af1(l:List Spt)(h:∀p∈l,p.fit):run true fns aao aaj (k+2) axf [.val (ab6 l)] s=.ok (.val (.bl true)) s:=by
 rw[aai (F:=atf) rfl rfl]
 have hc:ev (cfX fns aao (k+1)) (.comp afG (.one 1) (.var 0)) .v (abb atf [.val (ab6 l)]) s=.ok (.val (.lst (l.map fun _=>.bl ((fun _=>true) ())))) s:=by
  refine aaz (i:=1) l tS (fun _=>.bl true) (by simp) (fun p hp=>?_)
  obtain⟨h1,h2,h3,h4,h5,h6⟩:=h p hp
  have c1:amq (.val (tS p)) none (some 2)=some (.val (tI [p.x,p.y])):=rfl
  have c2:amq (.val (tS p)) (some 2) none=some (.val (tI [p.a,p.b,p.c,p.d])):=rfl
  have a1:=acA (k:=k) (s:=s) [p.x,p.y] 20000
  have a2:=acA (k:=k) (s:=s) [p.a,p.b,p.c,p.d] 200
  have b1:[p.x,p.y].all (ajf 20000)=true:=by simp[ajf];omega
  have b2:[p.a,p.b,p.c,p.d].all (ajf 200)=true:=by simp[ajf];omega
  rw[b1]at a1
  rw[b2]at a2
  have hd:∀s,(R.val (tS p)).dr s=.val (tS p):=fun _=>rfl
  simp only[tI,iL,List.map_cons,List.map_nil]at *
  simp[c1,c2,a1,a2,hd]
 have hx:exs (cfX fns aao (k+1)) at1 (abb atf [.val (ab6 l)]) s=.ret (.val (.bl (l.all fun _=>true))) s:=aaE (abZ (aiv (f:=fun _=>true) hc))
 rw[hx]
 simp
theorem adM(c:List Spt)(m:List (List Spt))(h3:3≤c.length)(h24:c.length≤24)(hm:m.length=c.length)(h4:∀l∈m,l.length≤4)(hc:∀p∈c,p.fit)(hf:∀l∈m,∀p∈l,p.fit):
  run true fns aao aaj (k+3) awd [.val (ab6 c),.val (.lst (m.map ab6))] s=.ok (.val .non) s:=by
 rw[aai (F:=auE) rfl rfl]
 have e1:ev (cfX fns aao (k+2)) (.comp af4 (.one 2) (.var 1)) .v [some (.val (ab6 c)),some (.val (.lst (m.map ab6))),none,none] s=.ok (.val (.lst (m.map fun _=>.bl false))) s:=
  aaz (i:=2) m ab6 (fun _=>.bl false) (by simp) (fun l hl=>by have:=h4 l hl;simp;omega)
 have e2:ev (cfX fns aao (k+2)) (.comp af7 (.one 3) (.bin .add (.lst [(.var 0)]) (.var 1))) .v [some (.val (ab6 c)),some (.val (.lst (m.map ab6))),none,none] s=.ok (.val (.lst ((c::m).map fun _=>.bl true))) s:=by
  refine aaz (i:=3) (c::m) ab6 (fun _=>.bl true) ?_ (fun l hl=>?_)
  ·have hl:1+m.length≤lim:=Nat.le_trans (show 1+m.length≤1000 by omega) acg
   simp[opR,hl]
  ·have hfit:∀p∈l,p.fit:=by
    rcases List.mem_cons.mp hl with rfl|z
    ·exact hc
    ·exact hf l z
   have:=af1 (k:=k) (s:=s) l hfit
   simp[this]
 have f1:=agp (f:=fun _=>false) e1
 have f2:=aiv (f:=fun _=>true) e2
 have hx:exs (cfX fns aao (k+2)) arv (abb auE [.val (ab6 c),.val (.lst (m.map ab6))]) s=.next [some (.val (ab6 c)),some (.val (.lst (m.map ab6))),none,none] s:=by
  refine(aae (σ1:=[some (.val (ab6 c)),some (.val (.lst (m.map ab6))),none,none]) (s1:=s) (by simp[show ¬(c.length:Int)<3 by omega,show ¬(24:Int)<c.length by omega])).trans ?_
  refine(aae (σ1:=[some (.val (ab6 c)),some (.val (.lst (m.map ab6))),none,none]) (s1:=s) (by simp[hm])).trans ?_
  refine(aae (σ1:=[some (.val (ab6 c)),some (.val (.lst (m.map ab6))),none,none]) (s1:=s) ?_).trans ?_
  ·rw[ex.eq_9,aee f1]
   simp
  refine(aae (σ1:=[some (.val (ab6 c)),some (.val (.lst (m.map ab6))),none,none]) (s1:=s) ?_).trans ?_
  ·rw[ex.eq_9,ajA (aee f2)]
   simp
  simp
 rw[hx]
 rfl
theorem ael{z:Int}{r:R}{ts:List T}(hr:(r.dr s).sq2=some ts)(h:0≤z∧z<ts.length):run true fns aao aaj (k+1) auJ [.val (.int z),r] s=.ok (.val .non) s:=by
 rw[aai (F:=auZ) rfl rfl]
 have hb:b1R .len (r.dr s)=some (.val (.int ts.length)):=by simp[b1R,hr]
 cases r with
 | val t=>simp[alv,hb,show ¬z<0 by omega,show ¬(ts.length:Int)≤z by omega]
 | bor us=>
  simp at hr
  subst hr
  simp[alv,show ¬z<0 by omega,show ¬(us.length:Int)≤z by omega]
theorem ac0{z:Int}{r:R}{ts:List T}(hr:(r.dr s).sq2=some ts)(h:z<0∨ts.length≤z):run true fns aao aaj (k+1) auJ [.val (.int z),r] s=.exc ayU s:=by
 rw[aai (F:=auZ) rfl rfl]
 have hb:b1R .len (r.dr s)=some (.val (.int ts.length)):=by simp[b1R,hr]
 by_cases h0:z<0
 ·cases r<;>simp[alv,hb,h0]
 ·cases r with
  | val t=>simp[alv,hb,h0,show(ts.length:Int)≤z by omega]
  | bor us=>
   simp at hr
   subst hr
   simp[alv,h0,show(us.length:Int)≤z by omega]
structure Sm where
 (f1 f2 g1 g2:Int)
 t:Bool
 e:Int
 ps:List (Int×Int)
noncomputable def pT(p:Int×Int):T:=.tup [.int p.1,.int p.2]
noncomputable def seT(x:Sm):T:=.tup [.tup [.int x.f1,.int x.f2],.tup [.int x.g1,.int x.g2],.bl x.t,.int x.e,.tup (x.ps.map pT)]
structure Bk where
 size:Int
 pc:List (List Spt)
 mrk:List (List (List Spt))
 sm:List Sm
noncomputable def mkT(m:List (List Spt)):T:=.lst (m.map ab6)
structure Ad where
 (o a b c:Nat)
 ls:List Nat
noncomputable abbrev Ad.fp(A:Ad):List Nat:=A.o::A.a::A.b::A.c::A.ls
structure BAt(s:Sto)(A:Ad)(B:Bk):Prop where
 ins:s[A.o]?=some (.ins 0 [some (.int B.size),some (.loc A.a),some (.loc A.b),some (.loc A.c)])
 pcs:s[A.a]?=some (.lst (A.ls.map .loc))
 mks:s[A.b]?=some (.lst (B.mrk.map mkT))
 sms:s[A.c]?=some (.lst (B.sm.map seT))
 len:A.ls.length=B.pc.length
 pc:∀(i l:Nat) (c:List Spt),A.ls[i]?=some l→B.pc[i]?=some c→s[l]?=some (.lst (c.map tS))
 nd:A.fp.Nodup
noncomputable abbrev slf(A:Ad):R:=.val (.loc A.o)
noncomputable def aoL(fp:List Nat)(s s':Sto):Prop:=s.length≤s'.length∧∀l,l<s.length→l∉fp→s'[l]?=s[l]?
theorem aoL.refl(fp:List Nat)(s:Sto):aoL fp s s:=⟨Nat.le_refl _,fun _ _ _=>rfl⟩
section
variable{A:Ad}{B:Bk}(h:BAt s A B)
include h
theorem BAt.f0:ahB s (.val (.loc A.o)) 0 0=some (.int B.size):=by rw[ac1 h.ins];rfl
theorem BAt.f1:ahB s (.val (.loc A.o)) 0 1=some (.loc A.a):=by rw[ac1 h.ins];rfl
theorem BAt.f2:ahB s (.val (.loc A.o)) 0 2=some (.loc A.b):=by rw[ac1 h.ins];rfl
theorem BAt.f3:ahB s (.val (.loc A.o)) 0 3=some (.loc A.c):=by rw[ac1 h.ins];rfl
theorem BAt.li:(R.val (.loc A.o)).locI s 0=some (A.o,[some (.int B.size),some (.loc A.a),some (.loc A.b),some (.loc A.c)]):=agf h.ins
theorem BAt.l1:(R.val (.loc A.a)).locL s=some (A.a,A.ls.map .loc):=acq h.pcs
theorem BAt.l2:(R.val (.loc A.b)).locL s=some (A.b,B.mrk.map mkT):=acq h.mks
theorem BAt.l3:(R.val (.loc A.c)).locL s=some (A.c,B.sm.map seT):=acq h.sms
theorem BAt.d1:(R.val (.loc A.a)).dr s=.bor (A.ls.map .loc):=aeQ h.pcs
theorem BAt.d2:(R.val (.loc A.b)).dr s=.bor (B.mrk.map mkT):=aeQ h.mks
theorem BAt.d3:(R.val (.loc A.c)).dr s=.bor (B.sm.map seT):=aeQ h.sms
theorem BAt.lt:∀l∈A.fp,l<s.length:=by
 intro l hl
 rcases List.mem_cons.mp hl with rfl|hl
 ·exact(List.getElem?_eq_some_iff.mp h.ins).1
 rcases List.mem_cons.mp hl with rfl|hl
 ·exact(List.getElem?_eq_some_iff.mp h.pcs).1
 rcases List.mem_cons.mp hl with rfl|hl
 ·exact(List.getElem?_eq_some_iff.mp h.mks).1
 rcases List.mem_cons.mp hl with rfl|hl
 ·exact(List.getElem?_eq_some_iff.mp h.sms).1
 obtain⟨i,hi⟩:=List.getElem?_of_mem hl
 have hil:=(List.getElem?_eq_some_iff.mp hi).1
 have hc:B.pc[i]?=some (B.pc[i]'(by rw[←h.len];exact hil)):=by simp
 exact(List.getElem?_eq_some_iff.mp (h.pc i l _ hi hc)).1
theorem BAt.ne:(A.o≠A.a∧A.o≠A.b∧A.o≠A.c∧A.o∉A.ls)∧(A.a≠A.b∧A.a≠A.c∧A.a∉A.ls)∧(A.b≠A.c∧A.b∉A.ls)∧A.c∉A.ls:=by
 have:=h.nd
 simp only[Ad.fp,List.nodup_cons,List.mem_cons,not_or]at this
 obtain⟨⟨a1,a2,a3,a4⟩,⟨b1,b2,b3⟩,⟨c1,c2⟩,d1,_⟩:=this
 exact⟨⟨a1,a2,a3,a4⟩,⟨b1,b2,b3⟩,⟨c1,c2⟩,d1⟩
theorem BAt.other{s':Sto}(hs:∀l∈A.fp,s'[l]?=s[l]?):BAt s' A B where
 ins:=by rw[hs _ (by simp[Ad.fp])];exact h.ins
 pcs:=by rw[hs _ (by simp[Ad.fp])];exact h.pcs
 mks:=by rw[hs _ (by simp[Ad.fp])];exact h.mks
 sms:=by rw[hs _ (by simp[Ad.fp])];exact h.sms
 len:=h.len
 pc:=fun i l c hl hc=>by rw[hs _ (by have:=List.mem_of_getElem? hl;simp[Ad.fp,this])];exact h.pc i l c hl hc
 nd:=h.nd
end
theorem aba{s:Sto}{i j:Nat}{c:Cell}(h:i≠j):(s.set i c)[j]?=s[j]?:=List.getElem?_set_ne h
theorem ahU{s:Sto}{i:Nat}{c:Cell}(h:i<s.length):(s.set i c)[i]?=some c:=List.getElem?_set_self h
theorem anq(s:Sto):run true fns aao aaj (k+1) iz2 [.val (.loc s.length)] (s++[.ins 0 [none,none,none,none]])=.ok (.val .non) (s++[.ins 0 [some (.int 0),some (.loc (s.length+1)),some (.loc (s.length+2)),some (.loc (s.length+3))],.lst [],.lst [],.lst []]):=by
 rw[aai (F:=Fz2) rfl rfl]
 have q:∀(fs:List (Option T)) (r:Sto),(R.val (.loc s.length)).locI (s++.ins 0 fs::r) 0=some (s.length,fs):=fun fs r=>agf (by simp)
 have e:∀(c d:Cell) (r:Sto),(s++c::r).set s.length d=s++d::r:=fun c d r=>by simp
 simp[bz2,q,e]
theorem anR{σ:Fr}(s:Sto):∃(s':Sto) (A:Ad),ev (cfX fns aao (k+1)) (.new 0 iz2 4 [] []) .v σ s=.ok (slf A) s'∧BAt s' A ⟨0,[],[],[]⟩∧aoL [] s s'∧A.ls=[]∧∀l∈A.fp,s.length≤l:=by
 have e0:∀n,(s++[Cell.ins 0 [some (T.int 0),some (.loc (s.length+1)),some (.loc (s.length+2)),some (.loc (s.length+3))],.lst [],.lst [],.lst []])[s.length+n]?=([Cell.ins 0 [some (T.int 0),some (.loc (s.length+1)),some (.loc (s.length+2)),some (.loc (s.length+3))],.lst [],.lst [],.lst []]:List Cell)[n]?:=fun n=>by
  rw[List.getElem?_append_right (by omega),Nat.add_sub_cancel_left]
 refine⟨s++[.ins 0 [some (.int 0),some (.loc (s.length+1)),some (.loc (s.length+2)),some (.loc (s.length+3))],.lst [],.lst [],.lst []],⟨s.length,s.length+1,s.length+2,s.length+3,[]⟩,?_,⟨e0 0,e0 1,e0 2,e0 3,rfl,fun i l c h=>by simp at h,?_⟩,⟨by simp,?_⟩,rfl,?_⟩
 ·have h:=anq (k:=k) s
  simp[h]
 ·simp[Ad.fp]
 ·intro l hl _
  rw[List.getElem?_append_left hl]
 ·intro l hl
  simp[Ad.fp]at hl
  omega
theorem abX{A:Ad}{B:Bk}(h:BAt s A B)(c:List Spt)(m:List (List Spt)){t:T}(ht:t=mkT m∨(t=.non∧m=c.map fun _=>[]))(hB:B.pc.length<10)(h3:3≤c.length)(h24:c.length≤24)(hm:m.length=c.length)(h4:∀l∈m,l.length≤4)(hc:∀p∈c,p.fit)(hf:∀l∈m,∀p∈l,p.fit)(hk:B.mrk.length≤10):
  ∃s',run true fns aao aaj (k+4) iz3 [slf A,.val (ab6 c),.val t] s=.ok (.val (.int B.pc.length)) s'∧BAt s' ⟨A.o,A.a,A.b,A.c,A.ls++[s.length]⟩ ⟨B.size,B.pc++[c],B.mrk++[m],B.sm⟩∧aoL A.fp s s'∧s'.length=s.length+1:=by
 have hcp:=adM (k:=k) (s:=s) c m h3 h24 hm h4 hc hf
 have hcomp:ev (cfX fns aao (k+3)) (.ife (.cmp .isN (.var 2) (.cst .non)) (.comp ais (.one 4) (.var 1)) (.comp ahb (.one 5) (.var 2))) .v [some (.val (.loc A.o)),some (.val (ab6 c)),some (.val t),none,none,none] s=.ok (.val (mkT m)) s:=by
  rcases ht with rfl|⟨rfl,rfl⟩
  ·have:ev (cfX fns aao (k+3)) (.cmp .isN (.var 2) (.cst .non)) .t [some (.val (.loc A.o)),some (.val (ab6 c)),some (.val (mkT m)),none,none,none] s=.ok (.val (.bl false)) s:=by simp[mkT,R.isNon]
   rw[aiV this]
   exact aaz (i:=5) m ab6 ab6 (by simp[mkT]) (fun l hl=>by simp)
  ·have:ev (cfX fns aao (k+3)) (.cmp .isN (.var 2) (.cst .non)) .t [some (.val (.loc A.o)),some (.val (ab6 c)),some (.val .non),none,none,none] s=.ok (.val (.bl true)) s:=by simp[R.isNon]
   rw[aj1 this,aaz (i:=4) c tS (fun _=>.lst []) (by simp) (fun l hl=>by simp)]
   simp[mkT]
 have hl1:A.ls.length<lim:=Nat.lt_of_lt_of_le (show A.ls.length<1000 by have:=h.len;omega) acg
 have hl2:B.mrk.length<lim:=Nat.lt_of_lt_of_le (show B.mrk.length<1000 by omega) acg
 have lt:=h.lt
 obtain⟨⟨n1,n2,n3,n4⟩,⟨n5,n6,n7⟩,⟨n8,n9⟩,n10⟩:=h.ne
 have ltA:=lt A.a (by simp[Ad.fp])
 have ltB:=lt A.b (by simp[Ad.fp])
 have ltC:=lt A.c (by simp[Ad.fp])
 have ltO:=lt A.o (by simp[Ad.fp])
 have app:∀l,l<s.length→(s++[Cell.lst (c.map tS)])[l]?=s[l]?:=fun l hl=>List.getElem?_append_left hl
 refine⟨((s++[Cell.lst (c.map tS)]).set A.a (Cell.lst (A.ls.map T.loc++[T.loc s.length]))).set A.b (Cell.lst (B.mrk.map mkT++[mkT m])),?_,⟨?_,?_,?_,?_,by simp[h.len],fun i l c' hl hc'=>?_,?_⟩,⟨by simp,fun l hl hn=>?_⟩,by simp⟩
 ·rw[aai (F:=Fz3) rfl rfl]
  have hx:exs (cfX fns aao (k+3)) bz3 (abb Fz3 [slf A,.val (ab6 c),.val t]) s=.ret (.val (.int B.pc.length)) (((s++[Cell.lst (c.map tS)]).set A.a (Cell.lst (A.ls.map T.loc++[T.loc s.length]))).set A.b (Cell.lst (B.mrk.map mkT++[mkT m]))):=by
   refine(aae (σ1:=[some (.val (.loc A.o)),some (.val (ab6 c)),some (.val t),none,none,none]) (s1:=s) (by simp[h.f1,h.d1,h.len,show ¬(10:Int)≤B.pc.length by omega])).trans ?_
   refine(aae (σ1:=[some (.val (.loc A.o)),some (.val (ab6 c)),some (.val t),some (.val (mkT m)),none,none]) (s1:=s) (aev hcomp)).trans ?_
   refine(aae (σ1:=[some (.val (.loc A.o)),some (.val (ab6 c)),some (.val t),some (.val (mkT m)),none,none]) (s1:=s) (by simp[mkT]at *;simp[hcp])).trans ?_
   have a1:(R.val (.loc A.a)).locL (s++[Cell.lst (c.map tS)])=some (A.a,A.ls.map .loc):=acq (by rw[app _ ltA];exact h.pcs)
   refine(aae (σ1:=[some (.val (.loc A.o)),some (.val (ab6 c)),some (.val t),some (.val (mkT m)),none,none]) (s1:=(s++[Cell.lst (c.map tS)]).set A.a (Cell.lst (A.ls.map T.loc++[T.loc s.length]))) (by simp[h.f1,h.l1,a1,hl1])).trans ?_
   have b0:ahB ((s++[Cell.lst (c.map tS)]).set A.a (Cell.lst (A.ls.map T.loc++[T.loc s.length]))) (.val (.loc A.o)) 0 2=some (.loc A.b):=by
    rw[ac1 (by rw[aba (Ne.symm n1),app _ ltO];exact h.ins)];rfl
   have b1:(R.val (.loc A.b)).locL ((s++[Cell.lst (c.map tS)]).set A.a (Cell.lst (A.ls.map T.loc++[T.loc s.length])))=some (A.b,B.mrk.map mkT):=acq (by rw[aba n5,app _ ltB];exact h.mks)
   refine(aae (σ1:=[some (.val (.loc A.o)),some (.val (ab6 c)),some (.val t),some (.val (mkT m)),none,none]) (s1:=((s++[Cell.lst (c.map tS)]).set A.a (Cell.lst (A.ls.map T.loc++[T.loc s.length]))).set A.b (Cell.lst (B.mrk.map mkT++[mkT m]))) (by simp[b0,b1,hl2])).trans ?_
   have c0:ahB (((s++[Cell.lst (c.map tS)]).set A.a (Cell.lst (A.ls.map T.loc++[T.loc s.length]))).set A.b (Cell.lst (B.mrk.map mkT++[mkT m]))) (.val (.loc A.o)) 0 1=some (.loc A.a):=by
    rw[ac1 (by rw[aba (Ne.symm n2),aba (Ne.symm n1),app _ ltO];exact h.ins)];rfl
   have c1:(R.val (.loc A.a)).dr (((s++[Cell.lst (c.map tS)]).set A.a (Cell.lst (A.ls.map T.loc++[T.loc s.length]))).set A.b (Cell.lst (B.mrk.map mkT++[mkT m])))=.bor (A.ls.map .loc++[.loc s.length]):=aeQ (by rw[aba (Ne.symm n5),ahU (by simp;omega)])
   simp[c0,c1,h.len]
  rw[hx]
  rfl
 ·show _=_
  rw[aba (Ne.symm n2),aba (Ne.symm n1),app _ ltO];exact h.ins
 ·show _=_
  rw[aba (Ne.symm n5),ahU (by simp;omega)];simp
 ·show _=_
  rw[ahU (by simp;omega)];simp
 ·show _=_
  rw[aba n8,aba n6,app _ ltC];exact h.sms
 ·have hl:(A.ls++[s.length])[i]?=some l:=hl
  have hc':(B.pc++[c])[i]?=some c':=hc'
  by_cases hi:i<A.ls.length
  ·rw[List.getElem?_append_left hi]at hl
   rw[List.getElem?_append_left (by rw[←h.len];exact hi)]at hc'
   have hm':=List.mem_of_getElem? hl
   rw[aba (fun e=>n9 (by rw[e];exact hm')),aba (fun e=>n7 (by rw[e];exact hm')),app _ (lt l (by simp[Ad.fp,hm']))]
   exact h.pc i l c' hl hc'
  ·have hi2:=(List.getElem?_eq_some_iff.mp hl).1
   have:i=A.ls.length:=by simp at hi2;omega
   subst this
   simp at hl
   subst hl
   rw[h.len]at hc'
   simp at hc'
   subst hc'
   rw[aba (by omega),aba (by omega)]
   simp
 ·have nd:=h.nd
  have hn:s.length∉A.fp:=fun q=>Nat.lt_irrefl _ (lt _ q)
  show(A.o::A.a::A.b::A.c::(A.ls++[s.length])).Nodup
  rw[show A.o::A.a::A.b::A.c::(A.ls++[s.length])=A.fp++[s.length]from rfl]
  rw[List.nodup_append]
  exact⟨nd,by simp,fun a ha b hb=>by simp at hb;subst hb;exact fun e=>hn (e▸ha)⟩
 ·simp only[Ad.fp,List.mem_cons,not_or]at hn
  rw[aba (Ne.symm hn.2.2.1),aba (Ne.symm hn.2.1),app _ hl]
theorem BAt.pAt{A:Ad}{B:Bk}(h:BAt s A B){i:Nat}{c:List Spt}(hc:B.pc[i]?=some c):∃l,A.ls[i]?=some l∧s[l]?=some (.lst (c.map tS)):=by
 have hi:i<A.ls.length:=by rw[h.len];exact(List.getElem?_eq_some_iff.mp hc).1
 have e:A.ls[i]?=some A.ls[i]:=by simp[hi]
 exact⟨_,e,h.pc i _ c e hc⟩
theorem ac4{A:Ad}{B:Bk}(h:BAt s A B){i:Nat}{c:List Spt}(hc:B.pc[i]?=some c):run true fns aao aaj (k+2) iz8 [slf A,.val (.int i)] s=.ok (.val (ab6 c)) s:=by
 rw[aai (F:=Fz8) rfl rfl]
 obtain⟨l,el,es⟩:=h.pAt hc
 have hi:i<A.ls.length:=(List.getElem?_eq_some_iff.mp el).1
 have hct:=ael (k:=k) (s:=s) (r:=.val (.loc A.a)) (ts:=A.ls.map .loc) (z:=i) (by rw[h.d1];rfl) ⟨by omega,by simp[hi]⟩
 have hg:=ahm (ts:=A.ls.map T.loc) (n:=i) (t:=.loc l) (by simp[el])
 have hd:=aeQ es
 simp[bz8,h.f1,h.d1,hct,hg,hd]
theorem afJ{A:Ad}{B:Bk}(h:BAt s A B){z:Int}(hz:z<0∨B.pc.length≤z):run true fns aao aaj (k+2) iz8 [slf A,.val (.int z)] s=.exc ayU s:=by
 rw[aai (F:=Fz8) rfl rfl]
 have hct:=ac0 (k:=k) (s:=s) (r:=.val (.loc A.a)) (ts:=A.ls.map .loc) (z:=z) (by rw[h.d1];rfl) (by simp[h.len];exact hz)
 simp[bz8,h.f1,hct]
noncomputable def plc(p:Spt)(z:Int):List Int:=if z<0 then [p.x+-z*p.c,p.y+-z*p.d]else [p.x+z*p.a,p.y+z*p.b]
theorem acD{z:Int}(h:-6≤z∧z≤6):run true fns aao aaj (k+1) avd [.val (.int z)] s=.ok (.val .non) s:=by
 rw[aai (F:=auW) rfl rfl]
 simp[aog,show ¬z < -6 by omega,show ¬6<z by omega]
theorem acN{z:Int}(h:z < -6∨6<z):run true fns aao aaj (k+1) avd [.val (.int z)] s=.exc xz1 s:=by
 rw[aai (F:=auW) rfl rfl]
 by_cases h1:z < -6
 ·simp[aog,h1]
 ·simp[aog,h1,show 6<z by omega]
theorem aps{p:Spt}{a u t:Int}(ht:0≤t∧t≤6):run true fns aao aaj (k+1) awO [.val (tS p),.val (.int a),.val (.int u),.val (.int t)] s=.ok (.val (tI [p.x+t*a,p.y+t*u])) s:=by
 rw[aai (F:=avY) rfl rfl]
 have m1:=aaT (i:=t) (j:=a) (aav (by omega))
 have m2:=aaT (i:=t) (j:=u) (aav (by omega))
 have h0:aaW (.val (tS p)) 0=some (.int p.x):=rfl
 have h1:aaW (.val (tS p)) 1=some (.int p.y):=rfl
 simp[at8,tS,m1,m2]
 simp[tS]at h0 h1
 simp[h0,h1]
theorem al1(p:Spt){z:Int}(h:-6≤z∧z≤6):run true fns aao aaj (k+2) aw2 [.val (tS p),.val (.int z)] s=.ok (.val (tI (plc p z))) s:=by
 rw[aai (F:=aws) rfl rfl]
 have hc:=acD (k:=k) (s:=s) h
 have h2:aaW (.val (tS p)) 2=some (.int p.a):=rfl
 have h3:aaW (.val (tS p)) 3=some (.int p.b):=rfl
 have h4:aaW (.val (tS p)) 4=some (.int p.c):=rfl
 have h5:aaW (.val (tS p)) 5=some (.int p.d):=rfl
 by_cases hz:z<0
 ·have hm:=aps (k:=k) (s:=s) (p:=p) (a:=p.c) (u:=p.d) (t:=-z) (by omega)
  simp only[tS]at *
  simp[ap9,hc,hz,h4,h5,hm,plc]
 ·have hm:=aps (k:=k) (s:=s) (p:=p) (a:=p.a) (u:=p.b) (t:=z) (by omega)
  simp only[tS]at *
  simp[ap9,hc,hz,h2,h3,hm,plc]
noncomputable abbrev amG(l:List Spt)(z:Int):List (List Int):=l.map fun p=>plc p z
noncomputable def pX(p:Spt)(z:Int):Int:=if z<0 then p.x+-z*p.c else p.x+z*p.a
noncomputable def pY(p:Spt)(z:Int):Int:=if z<0 then p.y+-z*p.d else p.y+z*p.b
theorem anv(p:Spt)(z:Int):plc p z=[pX p z,pY p z]:=by
 unfold plc pX pY
 split<;>rfl
noncomputable def sq2(p q:Spt)(z:Int):Int:=(pX q z-pX p z)*(pX q z-pX p z)+(pY q z-pY p z)*(pY q z-pY p z)
noncomputable def meant(B:Bk):T→Option Int
 | .non=>some B.size
 | .int z=>some z
 | _=>none
theorem akc{A:Ad}{B:Bk}(hb:BAt s A B)(l:List Spt){v t:T}{z:Int}(hv:v=.lst (l.map tS)∨v=.tup (l.map tS))(ht:meant B t=some z)(hz:-6≤z∧z≤6):run true fns aao aaj (k+3) iz7 [slf A,.val v,.val t] s=.ok (.val (tIs (amG l z))) s:=by
 rw[aai (F:=Fz7) rfl rfl]
 have hc:=acD (k:=k+1) (s:=s) hz
 have hcomp:ev (cfX fns aao (k+2)) (.comp ai6 (.one 4) (.var 1)) .v [some (.val (.loc A.o)),some (.val v),some (.val t),some (.val (.int z)),none] s=.ok (.val (.lst (l.map fun p=>tI (plc p z)))) s:=
  aaz (i:=4) l tS (fun p=>tI (plc p z)) (by rcases hv with rfl|rfl<;>simp) (fun p hp=>by have:=al1 (k:=k) (s:=s) p hz;simp[this])
 have hx:exs (cfX fns aao (k+2)) bz7 (abb Fz7 [slf A,.val v,.val t]) s=.ret (.val (tIs (amG l z))) s:=by
  refine(aae (σ1:=[some (.val (.loc A.o)),some (.val v),some (.val t),some (.val (.int z)),none]) (s1:=s) ?_).trans ?_
  ·unfold meant at ht
   split at ht
   ·cases ht;simp[R.isNon,hb.f0]
   ·cases ht;simp[R.isNon]
   ·cases ht
  refine(aae (σ1:=[some (.val (.loc A.o)),some (.val v),some (.val t),some (.val (.int z)),none]) (s1:=s) (by simp[hc])).trans ?_
  refine aaE (abZ (hcomp.trans ?_))
  simp[Function.comp_def]
 rw[hx]
 rfl
theorem ae8{A:Ad}{B:Bk}(hb:BAt s A B){v t:T}{z:Int}(ht:meant B t=some z)(hz:z < -6∨6<z):run true fns aao aaj (k+3) iz7 [slf A,.val v,.val t] s=.exc xz1 s:=by
 rw[aai (F:=Fz7) rfl rfl]
 have hc:=acN (k:=k+1) (s:=s) hz
 unfold meant at ht
 split at ht
 ·cases ht;simp[bz7,R.isNon,hb.f0,hc]
 ·cases ht;simp[bz7,R.isNon,hc]
 ·cases ht
theorem agZ{A:Ad}{B:Bk}(hb:BAt s A B){i:Nat}{c:List Spt}(h:B.pc[i]?=some c){t:T}{z:Int}(ht:meant B t=some z)(hz:-6≤z∧z≤6):run true fns aao aaj (k+4) iz4 [slf A,.val (.int i),.val t] s=.ok (.val (tIs (amG c z))) s:=by
 rw[aai (F:=Fz4) rfl rfl]
 have h1:=ac4 (k:=k+1) hb h
 have h2:=akc (k:=k) hb c (.inl rfl) ht hz
 simp[bz4,hb.li,h1,h2]
end Pg
end IP
end
section
namespace IP
namespace Pg
open L2
noncomputable def pt(p:Int×Int):T:=.tup [.int p.1,.int p.2]
noncomputable abbrev PT(p:Int×Int):R:=.val (pt p)
@[simp] theorem avP (p:Int×Int) (s:Sto):(R.val (pt p)).dr s=.val (pt p):=rfl
@[simp] theorem au5 (p q:Int×Int):eqD 8 (pt p) (pt q)=some (p==q):=by
 obtain⟨a,b⟩:=p;obtain⟨c,d⟩:=q
 simp[pt,eqD,eqL]
 rfl
@[simp] theorem ap8 (p:Int×Int):aaW (.val (pt p)) 0=some (.int p.1):=rfl
@[simp] theorem ap6 (p:Int×Int):aaW (.val (pt p)) 1=some (.int p.2):=rfl
noncomputable def sml(p:Int×Int):Prop:=p.1.natAbs≤2^20∧p.2.natAbs≤2^20
noncomputable def abm(p q r:Int×Int):Int:=(q.1-p.1)*(r.2-p.2)-(q.2-p.2)*(r.1-p.1)
noncomputable def ahe(p q r:Int×Int):Int:=(q.1-p.1)*(r.1-p.1)+(q.2-p.2)*(r.2-p.2)
theorem aci{a b:Int}(ha:a.natAbs≤2^20)(hb:b.natAbs≤2^20):(a-b).natAbs≤2^21:=by omega
theorem aek{a b j:Int}(ha:a.natAbs≤2^20)(hb:b.natAbs≤2^20):opR .mul (.val (.int (a-b))) (.val (.int j))=some (.val (.int ((a-b)*j))):=aaT (aav (by omega))
variable{k:Nat}{s:Sto}{p q r u:Int×Int}
theorem aiC(hp:sml p)(hq:sml q):run true fns aao aaj (k+1) awz [PT p,PT q,PT r] s=.ok (.val (.int (abm p q r))) s:=by
 rw[aai (F:=⟨3,3,false,arj⟩) rfl rfl]
 simp[arj,aek hq.1 hp.1,aek hq.2 hp.2,abm]
theorem ald(hp:sml p)(hq:sml q):run true fns aao aaj (k+1) aw6 [PT p,PT q,PT r] s=.ok (.val (.int (ahe p q r))) s:=by
 rw[aai (F:=⟨3,3,false,auc⟩) rfl rfl]
 simp[auc,aek hq.1 hp.1,aek hq.2 hp.2,ahe]
theorem ace{a b:Int}{m n:Nat}(ha:a.natAbs≤m)(hb:b.natAbs≤n):(a*b).natAbs≤m*n:=by
 rw[Int.natAbs_mul]
 exact Nat.mul_le_mul ha hb
theorem ag7(hp:sml p)(hq:sml q)(hr:sml r):(abm p q r).natAbs<2^64:=by
 have h1:=ace (aci hq.1 hp.1) (aci hr.2 hp.2)
 have h2:=ace (aci hq.2 hp.2) (aci hr.1 hp.1)
 unfold abm
 omega
noncomputable def abv(p q r:Int×Int):Bool:=decide (abm p q r=0)&&decide (0<ahe p q r)
theorem ad6(hp:sml p)(hq:sml q):run true fns aao aaj (k+2) avO [PT p,PT q,PT r] s=.ok (.val (.bl (abv p q r))) s:=by
 rw[aai (F:=⟨3,3,false,arO⟩) rfl rfl]
 have h1:=aiC (k:=k) (s:=s) (r:=r) hp hq
 have h2:=ald (k:=k) (s:=s) (r:=r) hp hq
 simp[arO,h1,h2,abv]
 split<;>simp[*]
theorem aeI(hr:sml r)(hu:sml u)(hp:sml p):run true fns aao aaj (k+2) awf [.val (.tup [pt p,pt q]),.val (.tup [pt r,pt u])] s=.ok (.val (.bl (decide (abm r u p*abm r u q≤0)))) s:=by
 rw[aai (F:=⟨2,2,false,atC⟩) rfl rfl]
 have h1:=aiC (k:=k) (s:=s) (r:=p) hr hu
 have h2:=aiC (k:=k) (s:=s) (r:=q) hr hu
 have h3:=aaT (i:=abm r u p) (j:=abm r u q) (aav (ag7 hr hu hp))
 simp[atC,h1,h2,h3]
noncomputable def ax(b:Bool)(p:Int×Int):Int:=if b then p.2 else p.1
noncomputable def abS(b:Bool)(p q r u:Int×Int):Bool:=decide (min (ax b p) (ax b q)≤max (ax b r) (ax b u))&&decide (min (ax b r) (ax b u)≤max (ax b p) (ax b q))
theorem ajo:run true fns aao aaj (k+1) avw [.val (.tup [pt p,pt q]),.val (.tup [pt r,pt u]),.val (.int 0)] s=.ok (.val (.bl (abS false p q r u))) s:=by
 rw[aai (F:=⟨3,5,false,aoS⟩) rfl rfl]
 simp[aoS,abS,ax]
 split<;>simp[*]
theorem aj6:run true fns aao aaj (k+1) avw [.val (.tup [pt p,pt q]),.val (.tup [pt r,pt u]),.val (.int 1)] s=.ok (.val (.bl (abS true p q r u))) s:=by
 rw[aai (F:=⟨3,5,false,aoS⟩) rfl rfl]
 simp[aoS,abS,ax]
 split<;>simp[*]
noncomputable def abW(p q r u:Int×Int):Bool:=abS false p q r u&&abS true p q r u&&decide (abm r u p*abm r u q≤0)&&decide (abm p q r*abm p q u≤0)
theorem akd(hp:sml p)(hq:sml q)(hr:sml r)(hu:sml u):run true fns aao aaj (k+3) awg [.val (.tup [pt p,pt q]),.val (.tup [pt r,pt u])] s=.ok (.val (.bl (abW p q r u))) s:=by
 rw[aai (F:=⟨2,2,false,aqV⟩) rfl rfl]
 have h1:=ajo (k:=k+1) (s:=s) (p:=p) (q:=q) (r:=r) (u:=u)
 have h2:=aj6 (k:=k+1) (s:=s) (p:=p) (q:=q) (r:=r) (u:=u)
 have h3:=aeI (k:=k) (s:=s) (p:=p) (q:=q) hr hu hp
 have h4:=aeI (k:=k) (s:=s) (p:=r) (q:=u) (r:=p) (u:=q) hp hq hr
 simp[aqV,h1,h2,h3,h4,abW]
 cases abS false p q r u<;>cases abS true p q r u<;>simp
 split<;>simp[*]
variable{l:List (Int×Int)}
noncomputable abbrev LN(l:List (Int×Int)):R:=.val (.lst (l.map pt))
noncomputable def cor(l:List (Int×Int))(i:Nat):Int×Int:=l.getD (i % l.length) (0,0)
theorem ahG(h:0<l.length)(i:Nat):(l.map pt)[i % l.length]?=some (pt (cor l i)):=by
 have:=Nat.mod_lt i h
 simp[cor,List.getElem?_map,this]
theorem ajc(i n:Nat):Int.fmod (i:Int) (n:Int)=((i % n:Nat):Int):=by
 rw[Int.fmod_eq_emod_of_nonneg _ (Int.natCast_nonneg n)]
 simp
theorem ajz(i:Nat)(n:Nat)(h:0<n):opR .mod (.val (.int ((i:Int)+1))) (.val (.int (n:Int)))=some (.val (.int (((i+1) % n:Nat):Int))):=by
 have h3:=aaG (i:=(i:Int)+1) (j:=(n:Int)) (by omega)
 rw[h3,show((i:Int)+1)=((i+1:Nat):Int)by omega,ajc]
theorem akB{i:Nat}(hi:i<l.length):run true fns aao aaj (k+1) avX [LN l,.val (.int i)] s=.ok (.val (.tup [pt (cor l i),pt (cor l (i+1))])) s:=by
 rw[aai (F:=⟨2,2,false,aqf⟩) rfl rfl]
 have h0:0<l.length:=by omega
 have h1:=ae3 (ahG h0 i)
 have h2:=ae3 (ahG h0 (i+1))
 rw[Nat.mod_eq_of_lt hi]at h1
 have h3:=ajz i l.length h0
 generalize (i+1) % l.length=m at h2 h3
 simp[aqf,h1,h2,h3]
theorem abH(hl:∀p∈l,sml p)(i:Nat):sml (cor l i):=by
 unfold cor
 rw[List.getD_eq_getElem?_getD]
 cases e:l[i % l.length]? with
 | none=>exact⟨by decide,by decide⟩
 | some p=>exact hl p (List.mem_of_getElem? e)
noncomputable def ach(l:List (Int×Int))(i j:Nat):Bool:=
 if i=j then cor l i==cor l (i+1)
 else if j=i+1 then abv (cor l (i+1)) (cor l i) (cor l (j+1))
 else if j+1=l.length∧i=0 then abv (cor l i) (cor l (i+1)) (cor l j)
 else abW (cor l i) (cor l (i+1)) (cor l j) (cor l (j+1))
theorem akQ{i j:Nat}(hl:∀p∈l,sml p)(hij:i≤j)(hj:j<l.length):run true fns aao aaj (k+4) avC [LN l,.val (.int i),.val (.int j)] s=.ok (.val (.bl (ach l i j))) s:=by
 rw[aai (F:=⟨3,5,false,apO⟩) rfl rfl]
 have h1:=akB (k:=k+2) (s:=s) (l:=l) (i:=i) (by omega)
 have h2:=akB (k:=k+2) (s:=s) (l:=l) (i:=j) hj
 have h3:=ad6 (k:=k+1) (s:=s) (p:=cor l (i+1)) (q:=cor l i) (r:=cor l (j+1)) (abH hl _) (abH hl _)
 have h4:=ad6 (k:=k+1) (s:=s) (p:=cor l i) (q:=cor l (i+1)) (r:=cor l j) (abH hl _) (abH hl _)
 have h5:=akd (k:=k) (s:=s) (p:=cor l i) (q:=cor l (i+1)) (r:=cor l j) (u:=cor l (j+1)) (abH hl _) (abH hl _) (abH hl _) (abH hl _)
 simp[apO,h1,h2,h3,h4,h5]
 unfold ach
 by_cases c1:i=j
 ·simp[c1]
 ·by_cases c2:j=i+1
  ·rw[if_neg (by omega),if_pos (by omega),if_neg c1,if_pos c2]
  ·rw[if_neg (by omega),if_neg (by omega),if_neg c1,if_neg c2]
   by_cases c3:j+1=l.length
   ·rw[if_pos (by omega)]
    by_cases c4:i=0
    ·rw[if_pos c4,if_pos ⟨c3,c4⟩]
    ·rw[if_neg c4,if_neg (fun z=>c4 z.2)]
   ·rw[if_neg (by omega),if_neg (fun z=>c3 z.1)]
noncomputable def ajb(f:Nat):List S:=[.for_ (.one 1) (.rng1 (.b1 .len (.var 0))) [.for_ (.one 2) (.rng2 (.var 1) (.b1 .len (.var 0))) [.ifs (.call f [.var 0,.var 1,.var 2] []) [.ret (.tup [.var 1,.var 2])] []]],.ret (.cst .non)]
noncomputable def qj(p:Nat→Nat→Bool)(i j:Nat):Option R:=if p i j then some (.val (.tup [.int i,.int j]))else none
noncomputable def qi(p:Nat→Nat→Bool)(n i:Nat):Option R:=ab4 (qj p i) i (n-i)
noncomputable def fp(p:Nat→Nat→Bool)(n:Nat):R:=(ab4 (qi p n) 0 n).getD (.val .non)
theorem af9{C:Cf}{f:Nat}{p:Nat→Nat→Bool}{i:Nat}(hp:∀j,i≤j→j<l.length→C.cf f [LN l,.val (.int i),.val (.int j)] s=.ok (.val (.bl (p i j))) s)(hi:i<l.length)(c:Option B):
  match qi p l.length i with
  | some r=>aaX (.one 2) (fun σ s=>exs C [.ifs (.call f [.var 0,.var 1,.var 2] []) [.ret (.tup [.var 1,.var 2])] []] σ s) (aa4 i l.length) [some (.val (.lst (l.map pt))),some (.val (.int i)),c] s=.ret r s
  | none=>∃c',aaX (.one 2) (fun σ s=>exs C [.ifs (.call f [.var 0,.var 1,.var 2] []) [.ret (.tup [.var 1,.var 2])] []] σ s) (aa4 i l.length) [some (.val (.lst (l.map pt))),some (.val (.int i)),c] s=.next [some (.val (.lst (l.map pt))),some (.val (.int i)),c'] s:=by
 have h:=ac7 (g:=.one 2) (body:=fun σ s=>exs C [.ifs (.call f [.var 0,.var 1,.var 2] []) [.ret (.tup [.var 1,.var 2])] []] σ s) (s:=s) (fun _ σ=>∃c,σ=[some (.val (.lst (l.map pt))),some (.val (.int i)),c]) (qj p i) (aa4 i l.length) i [some (.val (.lst (l.map pt))),some (.val (.int i)),c] ⟨c,rfl⟩ ?_
 ·rw[abJ,show((l.length:Int)-(i:Int)).toNat=l.length-i by omega]at h
  unfold qi
  cases hq:ab4 (qj p i) i (l.length-i)with
  | some r=>rw[hq]at h;exact h
  | none=>
   rw[hq]at h
   obtain⟨σ',e,c',rfl⟩:=h
   exact⟨c',e⟩
 ·rintro m t σ hm ⟨c,rfl⟩
  obtain⟨rfl,hlt⟩:=abf hm
  have hq:=hp (i+m) (by omega) (by omega)
  rw[show((i+m:Nat):Int)=(i:Int)+(m:Int)by omega]at hq
  refine⟨[some (.val (.lst (l.map pt))),some (.val (.int i)),some (.val (.int (i+m)))],by simp[aap,put],?_⟩
  unfold qj
  cases hb:p i (i+m)with
  | true=>rw[hb]at hq;simp[hq]
  | false=>rw[hb]at hq;simp[hq]
theorem ah3{C:Cf}{f:Nat}{p:Nat→Nat→Bool}(hl:l.length≤1000)(hp:∀i j,i≤j→j<l.length→C.cf f [LN l,.val (.int i),.val (.int j)] s=.ok (.val (.bl (p i j))) s):
  exs C (ajb f) [some (.val (.lst (l.map pt))),none,none] s=.ret (fp p l.length) s:=by
 have h:=ac7 (g:=.one 1) (body:=fun σ s=>exs C [.for_ (.one 2) (.rng2 (.var 1) (.b1 .len (.var 0))) [.ifs (.call f [.var 0,.var 1,.var 2] []) [.ret (.tup [.var 1,.var 2])] []]] σ s) (s:=s) (fun _ σ=>∃b c,σ=[some (.val (.lst (l.map pt))),b,c]) (qi p l.length) (aa4 0 l.length) 0 [some (.val (.lst (l.map pt))),none,none] ⟨none,none,rfl⟩ ?_
 ·rw[abJ,show((l.length:Int)-0).toNat=l.length by omega]at h
  unfold fp
  have e1:ex C (.for_ (.one 1) (.rng1 (.b1 .len (.var 0))) [.for_ (.one 2) (.rng2 (.var 1) (.b1 .len (.var 0))) [.ifs (.call f [.var 0,.var 1,.var 2] []) [.ret (.tup [.var 1,.var 2])] []]]) [some (.val (.lst (l.map pt))),none,none] s=_:=acG (ts:=aa4 0 l.length) (s1:=s) (adq (by simp) hl) (by intro i h;cases h)
  cases hq:ab4 (qi p l.length) 0 l.length with
  | some r=>
   rw[hq]at h
   exact aaE (e1.trans h)
  | none=>
   rw[hq]at h
   obtain⟨σ',e,b,c,rfl⟩:=h
   refine(aae (e1.trans e)).trans ?_
   simp
 ·rintro m t σ hm ⟨b,c,rfl⟩
  obtain⟨rfl,hlt⟩:=abf hm
  have hlt:m<l.length:=by omega
  have hin:=af9 (C:=C) (f:=f) (p:=p) (i:=m) (fun j h1 h2=>hp m j h1 h2) hlt c
  refine⟨[some (.val (.lst (l.map pt))),some (.val (.int m)),c],by simp[aap,put],?_⟩
  rw[show 0+m=m by omega]
  have e1:ex C (.for_ (.one 2) (.rng2 (.var 1) (.b1 .len (.var 0))) [.ifs (.call f [.var 0,.var 1,.var 2] []) [.ret (.tup [.var 1,.var 2])] []]) [some (.val (.lst (l.map pt))),some (.val (.int m)),c] s=_:=acG (ts:=aa4 m l.length) (s1:=s) (alq (s1:=s) (by simp) (by simp) (by omega) hl) (by intro i h;cases h)
  cases hq:qi p l.length m with
  | some r=>
   rw[hq]at hin
   exact aaE (e1.trans hin)
  | none=>
   rw[hq]at hin
   obtain⟨c',e⟩:=hin
   exact⟨_,(aae (e1.trans e)).trans (by simp only[exs]),some (.val (.int m)),c',rfl⟩
theorem agI(hl:∀p∈l,sml p)(hn:l.length≤1000):run true fns aao aaj (k+5) awH [LN l] s=.ok (fp (ach l) l.length) s:=by
 rw[aai (F:=⟨1,3,false,ave⟩) rfl rfl]
 have h:=ah3 (C:=cfX fns aao (k+4)) (f:=avC) (s:=s) (l:=l) (p:=ach l) hn (fun i j h1 h2=>akQ (k:=k) hl h1 h2)
 exact congrArg (aaU true false) h
theorem ab9{α:Type}{q q':Nat→Option α}:∀(m n:Nat),(∀j,n≤j→j<n+m→q j=q' j)→ab4 q n m=ab4 q' n m
 | 0,n,_=>rfl
 | m+1,n,h=>by
  unfold ab4
  rw[←h n (Nat.le_refl _) (by omega),ab9 m (n+1) fun j h1 h2=>h j (by omega) (by omega)]
theorem ajS{p p':Nat→Nat→Bool}{n:Nat}(h:∀i j,i≤j→j<n→p i j=p' i j):fp p n=fp p' n:=by
 unfold fp
 rw[ab9 n 0 fun i _ hi=>?_]
 unfold qi
 refine ab9 _ _ fun j h1 h2=>?_
 unfold qj
 rw[h i j h1 (by omega)]
end Pg
end IP
end
section
namespace LayM
structure Box where
 x:Int
 y:Int
 w:Int
 h:Int
noncomputable def ak3(a b:Box):Prop:=¬(a.x+a.w≤b.x∨b.x+b.w≤a.x)∧¬(a.y+a.h≤b.y∨b.y+b.h≤a.y)
noncomputable def afw(t:Box)(l:List Box):Prop:=∀b∈l,¬ak3 t b
theorem aif(w h y W:Int)(l:List Box):∀(n:Nat) (x:Int),0≤x→x≤n→afw ⟨x,y,w,h⟩ l→
  ∃x',0≤x'∧x'≤x∧afw ⟨x',y,w,h⟩ l∧(x'=0∨∃b∈l,x'=b.x+b.w):=by
 intro n
 induction n with
 | zero=>intro x h0 h1 hf;exact⟨x,h0,by omega,hf,Or.inl (by omega)⟩
 | succ n ih=>
  intro x h0 h1 hf
  by_cases hx:x=0
  ·exact⟨x,h0,by omega,hf,Or.inl hx⟩
  ·by_cases hl:afw ⟨x-1,y,w,h⟩ l
   ·obtain⟨x',a,b,c,d⟩:=ih (x-1) (by omega) (by omega) hl
    exact⟨x',a,by omega,c,d⟩
   ·refine⟨x,h0,by omega,hf,Or.inr ?_⟩
    have:∃b∈l,ak3 ⟨x-1,y,w,h⟩ b:=by
     apply Classical.byContradiction
     intro hn
     exact hl fun b hb ho=>hn ⟨b,hb,ho⟩
    obtain⟨b,hb,ho⟩:=this
    have hnb:=hf b hb
    refine⟨b,hb,?_⟩
    unfold ak3 at ho hnb
    simp only at ho hnb
    omega
theorem ahj(w h x:Int)(l:List Box):∀(n:Nat) (y:Int),0≤y→y≤n→afw ⟨x,y,w,h⟩ l→
  ∃y',0≤y'∧y'≤y∧afw ⟨x,y',w,h⟩ l∧(y'=0∨∃b∈l,y'=b.y+b.h):=by
 intro n
 induction n with
 | zero=>intro y h0 h1 hf;exact⟨y,h0,by omega,hf,Or.inl (by omega)⟩
 | succ n ih=>
  intro y h0 h1 hf
  by_cases hy:y=0
  ·exact⟨y,h0,by omega,hf,Or.inl hy⟩
  ·by_cases hl:afw ⟨x,y-1,w,h⟩ l
   ·obtain⟨y',a,b,c,d⟩:=ih (y-1) (by omega) (by omega) hl
    exact⟨y',a,by omega,c,d⟩
   ·refine⟨y,h0,by omega,hf,Or.inr ?_⟩
    have:∃b∈l,ak3 ⟨x,y-1,w,h⟩ b:=by
     apply Classical.byContradiction
     intro hn
     exact hl fun b hb ho=>hn ⟨b,hb,ho⟩
    obtain⟨b,hb,ho⟩:=this
    have hnb:=hf b hb
    refine⟨b,hb,?_⟩
    unfold ak3 at ho hnb
    simp only at ho hnb
    omega
noncomputable def OnY(l:List Box)(y:Int):Prop:=y=0∨∃b∈l,y=b.y+b.h
noncomputable def OnX(l:List Box)(x:Int):Prop:=x=0∨∃b∈l,x=b.x+b.w
noncomputable def adR(x y x' y':Int):Prop:=y<y'∨(y=y'∧x<x')
theorem adt{w h W x y:Int}{l:List Box}(hx:0≤x)(hy:0≤y)(hw:x+w≤W)(hf:afw ⟨x,y,w,h⟩ l):
  ∃x' y',0≤x'∧0≤y'∧x'+w≤W∧afw ⟨x',y',w,h⟩ l∧OnX l x'∧OnY l y'∧¬adR x y x' y':=by
 obtain⟨y',a1,a2,a3,a4⟩:=ahj w h x l y.toNat y hy (by omega) hf
 obtain⟨x',b1,b2,b3,b4⟩:=aif w h y' W l x.toNat x hx (by omega) a3
 exact⟨x',y',b1,a1,by omega,b3,b4,a4,by unfold adR;omega⟩
theorem ai8(l:List Box):∃Y,0≤Y∧∀b∈l,b.y+b.h≤Y:=by
 induction l with
 | nil=>exact⟨0,by omega,fun _ h=>nomatch h⟩
 | cons c l ih=>
  obtain⟨Y,h0,hY⟩:=ih
  refine⟨max Y (c.y+c.h),by omega,fun b hb=>?_⟩
  rcases List.mem_cons.mp hb with rfl|hb
  ·omega
  ·have:=hY b hb;omega
theorem aiy{w h W:Int}(l:List Box)(hw:w≤W):∃x' y',0≤x'∧0≤y'∧x'+w≤W∧afw ⟨x',y',w,h⟩ l∧OnX l x'∧OnY l y':=by
 obtain⟨Y,h0,hY⟩:=ai8 l
 have hf:afw ⟨0,Y,w,h⟩ l:=by
  intro b hb ho
  have:=hY b hb
  unfold ak3 at ho
  simp only at ho
  omega
 obtain⟨x',y',a,b,c,d,e,f,_⟩:=adt (W:=W) (Int.le_refl 0) h0 (by omega) hf
 exact⟨x',y',a,b,c,d,e,f⟩
end LayM
end
section
namespace IP
namespace Pg
open L2 LayM
variable{k:Nat}{s:Sto}
noncomputable def bx(b:Box):T:=.tup [.int b.x,.int b.y,.int b.w,.int b.h]
noncomputable def ob(p:Int×Int):T:=.tup [.int p.1,.int p.2]
@[simp] theorem awI (b:Box) (s:Sto):(R.val (bx b)).dr s=.val (bx b):=rfl
@[simp] theorem awV (b:Int×Int) (s:Sto):(R.val (ob b)).dr s=.val (ob b):=rfl
@[simp] theorem atl (b:Box):aaW (.val (bx b)) 0=some (.int b.x):=rfl
@[simp] theorem aqW (b:Box):aaW (.val (bx b)) 1=some (.int b.y):=rfl
@[simp] theorem at7 (b:Box):aaW (.val (bx b)) 2=some (.int b.w):=rfl
@[simp] theorem ari (b:Box):aaW (.val (bx b)) 3=some (.int b.h):=rfl
@[simp] theorem as3 (b:Int×Int):aaW (.val (ob b)) 0=some (.int b.1):=rfl
@[simp] theorem aqq (b:Int×Int):aaW (.val (ob b)) 1=some (.int b.2):=rfl
theorem aaP{m n f:Nat}{rs:List R}{s:Sto}{r:Res R}(h:run true fns aao aaj n f rs s=r)(e:n=m):(cfX fns aao m).cf f rs s=r:=by
 subst e
 exact h
theorem ail(b:Box):run true fns aao aaj (k+1) 4 [.val (bx b)] s=.ok (.val (.int (b.x+b.w))) s:=by
 rw[aai (F:=avE) rfl rfl]
 simp[auy]
theorem amo(b:Box):run true fns aao aaj (k+1) 5 [.val (bx b)] s=.ok (.val (.int (b.y+b.h))) s:=by
 rw[aai (F:=auj) rfl rfl]
 simp[alj]
noncomputable def adv(a b:Box):Bool:=!(decide (a.x+a.w≤b.x)||decide (b.x+b.w≤a.x))&&!(decide (a.y+a.h≤b.y)||decide (b.y+b.h≤a.y))
theorem ae2(a b:Box):adv a b=true↔ak3 a b:=by
 unfold adv ak3
 simp
theorem ajY{C:Cf}{a b:Box}(h4:∀b:Box,C.cf 4 [.val (bx b)] s=.ok (.val (.int (b.x+b.w))) s)(h5:∀b:Box,C.cf 5 [.val (bx b)] s=.ok (.val (.int (b.y+b.h))) s):
  exs C arR [some (.val (bx a)),some (.val (bx b)),none,none] s=.ret (.val (.bl (adv a b))) s:=by
 have a4:=h4 a
 have b4:=h4 b
 have a5:=h5 a
 have b5:=h5 b
 unfold adv
 refine(aae (σ1:=[some (.val (bx a)),some (.val (bx b)),some (.val (.bl (decide (a.x+a.w≤b.x)||decide (b.x+b.w≤a.x)))),none]) (s1:=s) (by
  by_cases h:a.x+a.w≤b.x
  ·simp[a4,b4,h]
  ·simp[a4,b4,h])).trans ?_
 refine(aae (σ1:=[some (.val (bx a)),some (.val (bx b)),some (.val (.bl (decide (a.x+a.w≤b.x)||decide (b.x+b.w≤a.x)))),some (.val (.bl (decide (a.y+a.h≤b.y)||decide (b.y+b.h≤a.y))))]) (s1:=s) (by
  by_cases h:a.y+a.h≤b.y
  ·simp[a5,b5,h]
  ·simp[a5,b5,h])).trans ?_
 generalize (decide (a.x+a.w≤b.x)||decide (b.x+b.w≤a.x))=u
 generalize (decide (a.y+a.h≤b.y)||decide (b.y+b.h≤a.y))=v
 cases u<;>cases v<;>simp
theorem aoV(a b:Box):run true fns aao aaj (k+2) 3 [.val (bx a),.val (bx b)] s=.ok (.val (.bl (adv a b))) s:=
 (aai (F:=avN) rfl rfl).trans (congrArg (aaU true false) (ajY (C:=cfX fns aao (k+1)) (fun b=>aaP (ail (k:=k) b) rfl) (fun b=>aaP (amo (k:=k) b) rfl)))
noncomputable def aer(t:Box)(l:List Box):Bool:=!l.any (adv t)
theorem aeZ(t:Box)(l:List Box):aer t l=true↔afw t l:=by
 unfold aer afw
 simp only[Bool.not_eq_true',List.any_eq_false]
 constructor
 ·intro h b hb ho
  exact h b hb ((ae2 t b).mpr ho)
 ·intro h b hb ho
  exact h b hb ((ae2 t b).mp ho)
theorem aja{C:Cf}{t:Box}{l:List Box}(h3:∀a b:Box,C.cf 3 [.val (bx a),.val (bx b)] s=.ok (.val (.bl (adv a b))) s):
  exs C aru [some (.val (bx t)),some (.bor (l.map bx)),none] s=.ret (.val (.bl (aer t l))) s:=by
 have hc:ev C (.comp afI (.one 2) (.var 1)) .v [some (.val (bx t)),some (.bor (l.map bx)),none] s=.ok (.val (.lst (l.map fun b=>.bl (adv t b)))) s:=by
  refine aaz (i:=2) l bx (fun b=>.bl (adv t b)) (by simp) fun b hb=>?_
  have:=h3 t b
  simp[this]
 have ha:=agp hc
 refine aaE (abZ ?_)
 unfold aer
 generalize l.any (adv t)=u at ha
 cases u<;>simp[ha]
theorem aob(t:Box)(l:List Box):run true fns aao aaj (k+3) 2 [.val (bx t),.bor (l.map bx)] s=.ok (.val (.bl (aer t l))) s:=
 (aai (F:=aw9) rfl rfl).trans (congrArg (aaU true false) (aja (C:=cfX fns aao (k+2)) (fun a b=>aaP (aoV (k:=k) a b) rfl)))
theorem air{C:Cf}{a b:E}{σ:Fr}{s s1 s2:Sto}{x y:R}{ts:List T}(h1:ev C a .v σ s=.ok x s1)(h2:ev C b .v σ s1=.ok y s2)(h3:opR .add x y=some (.val (.lst ts))):ev C (.bin .add a b) .j σ s=.ok (.val (.lst ts)) s2:=by
 rw[ev.eq_4,h1]
 simp only[Res.bind_ok,h2,h3,ary,Res.of_some,amg,Option.map_some]
theorem acr{a b:List T}(h:a.length+b.length≤1000):opR .add (.val (.lst a)) (.val (.lst b))=some (.val (.lst (a++b))):=by
 have:a.length+b.length≤lim:=Nat.le_trans h acg
 simp[opR,this]
noncomputable def okB(W:Int)(l:List Box)(b:Box):Bool:=decide (b.x+b.w≤W)&&aer b l
noncomputable abbrev g1(w h W:Int)(l:List Box)(free:List Box)(v4 v5 v6:Option B):Fr:=[some (.val (ob (w,h))),some (.val (.int W)),some (.bor (l.map bx)),some (.own (free.map bx)),v4,v5,v6,none,none]
structure Has1(C:Cf)(s:Sto):Prop where
 h4:∀b:Box,C.cf 4 [.val (bx b)] s=.ok (.val (.int (b.x+b.w))) s
 h5:∀b:Box,C.cf 5 [.val (bx b)] s=.ok (.val (.int (b.y+b.h))) s
 h2:∀(t:Box) (l:List Box),C.cf 2 [.val (bx t),.bor (l.map bx)] s=.ok (.val (.bl (aer t l))) s
section
variable{C:Cf}(hC:Has1 C s){w h W:Int}{l:List Box}
include hC
theorem atK{y x:Int}{free:List Box}{v6:Option B}(hf:free.length<900):
  ∃v6',exs C adc (g1 w h W l free (some (.val (.int y))) (some (.val (.int x))) v6) s=.next (g1 w h W l (free++[⟨x,y,w,h⟩].filter (okB W l)) (some (.val (.int y))) (some (.val (.int x))) v6') s:=by
 refine⟨some (.val (bx ⟨x,y,w,h⟩)),?_⟩
 have e4:=hC.h4 ⟨x,y,w,h⟩
 have e2:=hC.h2 ⟨x,y,w,h⟩ l
 have hlim:free.length<lim:=Nat.lt_of_lt_of_le (show free.length<1000 by omega) acg
 refine(aae (σ1:=g1 w h W l free (some (.val (.int y))) (some (.val (.int x))) (some (.val (bx ⟨x,y,w,h⟩)))) (s1:=s) (by simp[bx])).trans ?_
 have hok:okB W l ⟨x,y,w,h⟩=(decide (x+w≤W)&&aer ⟨x,y,w,h⟩ l):=rfl
 generalize aer ⟨x,y,w,h⟩ l=u at e2 hok
 generalize hb:(⟨x,y,w,h⟩:Box)=b at *
 have hbx:b.x+b.w=x+w:=by rw[←hb]
 rw[hbx]at e4
 by_cases h1:x+w≤W
 ·cases u
  ·simp[e4,e2,h1,List.filter,hok]
  ·simp[e4,e2,h1,List.filter,hok,acd,aaH,hlim]
 ·simp[e4,h1,List.filter,hok]
theorem anY{y:Int}:∀(xs:List Int) (free:List Box) (v5 v6:Option B),free.length+xs.length≤900→∃v5' v6',aaX (.one 5) (fun σ s=>exs C adc σ s) (xs.map .int) (g1 w h W l free (some (.val (.int y))) v5 v6) s=.next (g1 w h W l (free++(xs.map fun x=>(⟨x,y,w,h⟩:Box)).filter (okB W l)) (some (.val (.int y))) v5' v6') s
 | [],free,v5,v6,_=>⟨v5,v6,by simp[aaX]⟩
 | x::xs,free,v5,v6,hl=>by
  obtain⟨v6',e⟩:=atK hC (w:=w) (h:=h) (W:=W) (l:=l) (y:=y) (x:=x) (v6:=v6) (free:=free) (by simp at hl;omega)
  have hlen:([⟨x,y,w,h⟩].filter (okB W l)).length≤1:=List.length_filter_le _ _
  obtain⟨a,b,e2⟩:=anY xs (free++[⟨x,y,w,h⟩].filter (okB W l)) (some (.val (.int x))) v6' (by simp only[List.length_append,List.length_cons]at hl ⊢;omega)
  refine⟨a,b,?_⟩
  show(exs C adc (g1 w h W l free (some (.val (.int y))) (some (.val (.int x))) v6) s).bind _=_
  rw[e]
  show aaX (.one 5) (fun σ s=>exs C adc σ s) (xs.map .int) (g1 w h W l (free++[⟨x,y,w,h⟩].filter (okB W l)) (some (.val (.int y))) (some (.val (.int x))) v6') s=_
  rw[e2,List.append_assoc,←List.filter_append]
  rfl
theorem atH{free:List Box}{v4 v5 v6:Option B}(hl:l.length≤8):ev C (.bin .add (.lst [(.cst (.int 0))]) (.comp adY (.one 8) (.var 2))) .j (g1 w h W l free v4 v5 v6) s=.ok (.val (.lst ((0::l.map fun b=>b.x+b.w).map .int))) s:=by
 have hc:ev C (.comp adY (.one 8) (.var 2)) .v (g1 w h W l free v4 v5 v6) s=.ok (.val (.lst (l.map fun b=>.int (b.x+b.w)))) s:=by
  refine aaz (i:=8) l bx (fun b=>.int (b.x+b.w)) (by simp) fun b hb=>?_
  have:=hC.h4 b
  simp[this]
 have e0:ev C (.lst [(.cst (.int 0))]) .v (g1 w h W l free v4 v5 v6) s=.ok (.val (.lst [.int 0])) s:=by simp
 refine air e0 hc ?_
 rw[acr (by simp;omega)]
 simp
theorem aq7(hl:l.length≤8){free:List Box}:ev C (.bin .add (.lst [(.cst (.int 0))]) (.comp adN (.one 7) (.var 2))) .j (g1 w h W l free none none none) s=.ok (.val (.lst ((0::l.map fun b=>b.y+b.h).map .int))) s:=by
 have hc:ev C (.comp adN (.one 7) (.var 2)) .v (g1 w h W l free none none none) s=.ok (.val (.lst (l.map fun b=>.int (b.y+b.h)))) s:=by
  refine aaz (i:=7) l bx (fun b=>.int (b.y+b.h)) (by simp) fun b hb=>?_
  have:=hC.h5 b
  simp[this]
 have e0:ev C (.lst [(.cst (.int 0))]) .v (g1 w h W l free none none none) s=.ok (.val (.lst [.int 0])) s:=by simp
 refine air e0 hc ?_
 rw[acr (by simp;omega)]
 simp
noncomputable def akh(w h W:Int)(l:List Box)(y:Int):List Box:=((0::l.map fun b=>b.x+b.w).map fun x=>(⟨x,y,w,h⟩:Box)).filter (okB W l)
theorem amR(hl:l.length≤8):∀(ys:List Int) (free:List Box) (v4 v5 v6:Option B),free.length+9*ys.length≤800→∃v4' v5' v6',aaX (.one 4) (fun σ s=>exs C acX σ s) (ys.map .int) (g1 w h W l free v4 v5 v6) s=.next (g1 w h W l (free++ys.flatMap (akh w h W l)) v4' v5' v6') s
 | [],free,v4,v5,v6,_=>⟨v4,v5,v6,by simp[aaX]⟩
 | y::ys,free,v4,v5,v6,hn=>by
  have hr:(akh w h W l y).length≤9:=by
   unfold akh
   refine Nat.le_trans (List.length_filter_le _ _) ?_
   simp;omega
  obtain⟨v5',v6',e⟩:=anY hC (w:=w) (h:=h) (W:=W) (l:=l) (y:=y) (0::l.map fun b=>b.x+b.w) free v5 v6 (by simp at hn ⊢;omega)
  obtain⟨a,b,c,e2⟩:=amR hl ys (free++akh w h W l y) (some (.val (.int y))) v5' v6' (by simp only[List.length_append,List.length_cons]at hn ⊢;omega)
  refine⟨a,b,c,?_⟩
  have e1:exs C acX (g1 w h W l free (some (.val (.int y))) v5 v6) s=.next (g1 w h W l (free++akh w h W l y) (some (.val (.int y))) v5' v6') s:=by
   refine(aae ((acG (ts:=(0::l.map fun b=>b.x+b.w).map .int) (s1:=s) (atH hC hl) (by intro _ h;cases h)).trans e)).trans ?_
   simp only[exs]
   rfl
  show(exs C acX (g1 w h W l free (some (.val (.int y))) v5 v6) s).bind _=_
  rw[e1]
  show aaX (.one 4) (fun σ s=>exs C acX σ s) (ys.map .int) (g1 w h W l (free++akh w h W l y) (some (.val (.int y))) v5' v6') s=_
  rw[e2,List.append_assoc]
  rfl
end
noncomputable def ab3:Box→List Box→Box
 | b,[]=>b
 | b,c::r=>if lt2 (c.y,c.x) (b.y,b.x)then ab3 c r else ab3 b r
theorem ahv:∀l:List Box,agS 1 0 (l.map bx)=some (l.map fun b=>(b.y,b.x))
 | []=>rfl
 | b::l=>by
  show(match ap7 1 0 (bx b),agS 1 0 (l.map bx)with|some x,some y=>some (x::y) | _,_=>none)=_
  rw[ahv l]
  rfl
theorem afv:∀(l:List Box) (b:Box),adz (b.y,b.x) (bx b) ((l.map fun b=>(b.y,b.x)).zip (l.map bx))=bx (ab3 b l)
 | [],b=>rfl
 | c::l,b=>by
  show(if lt2 (c.y,c.x) (b.y,b.x)then adz (c.y,c.x) (bx c) _ else adz (b.y,b.x) (bx b) _)=bx (if lt2 (c.y,c.x) (b.y,b.x)then ab3 c l else ab3 b l)
  split
  ·exact afv l c
  ·exact afv l b
theorem alA(b:Box)(l:List Box):am1 1 0 ((b::l).map bx)=some (bx (ab3 b l)):=by
 unfold am1
 rw[ahv]
 show some (adz (b.y,b.x) (bx b) ((l.map fun b=>(b.y,b.x)).zip (l.map bx)))=_
 rw[afv]
theorem ahQ(a b:Int×Int):lt2 a b=true↔(a.1<b.1∨(a.1=b.1∧a.2<b.2)):=by
 unfold lt2
 simp
theorem adL:∀(l:List Box) (b:Box),ab3 b l∈b::l∧∀c∈b::l,¬adR c.x c.y (ab3 b l).x (ab3 b l).y
 | [],b=>⟨by simp[ab3],fun c hc=>by
  have:c=b:=by simpa using hc
  subst this
  unfold ab3 adR
  omega⟩
 | d::l,b=>by
  show(if lt2 (d.y,d.x) (b.y,b.x)then ab3 d l else ab3 b l)∈b::d::l∧∀c∈b::d::l,¬adR c.x c.y (if lt2 (d.y,d.x) (b.y,b.x)then ab3 d l else ab3 b l).x (if lt2 (d.y,d.x) (b.y,b.x)then ab3 d l else ab3 b l).y
  by_cases h:lt2 (d.y,d.x) (b.y,b.x)=true
  ·rw[if_pos h]
   have h':=(ahQ _ _).mp h
   obtain⟨h1,h2⟩:=adL l d
   refine⟨List.mem_cons_of_mem _ h1,fun c hc=>?_⟩
   rcases List.mem_cons.mp hc with rfl|hc
   ·have:=h2 d (by simp)
    unfold adR at this ⊢
    simp only at h'
    omega
   ·exact h2 c hc
  ·rw[if_neg h]
   have h':¬(d.y<b.y∨(d.y=b.y∧d.x<b.x)):=fun z=>h ((ahQ _ _).mpr z)
   obtain⟨h1,h2⟩:=adL l b
   refine⟨?_,fun c hc=>?_⟩
   ·rcases List.mem_cons.mp h1 with e|e
    ·rw[e];simp
    ·exact List.mem_cons_of_mem _ (List.mem_cons_of_mem _ e)
   ·rcases List.mem_cons.mp hc with rfl|hc
    ·exact h2 c (by simp)
    ·rcases List.mem_cons.mp hc with rfl|hc
     ·have:=h2 b (by simp)
      unfold adR at this ⊢
      omega
     ·exact h2 c (List.mem_cons_of_mem _ hc)
structure Low(W w h:Int)(l:List Box)(b:Box):Prop where
 w_:b.w=w
 h_:b.h=h
 x0:0≤b.x
 y0:0≤b.y
 in_:b.x+w≤W
 fr:afw b l
 first:∀x y,0≤x→0≤y→x+w≤W→afw ⟨x,y,w,h⟩ l→¬adR x y b.x b.y
noncomputable def acJ(b:Box):Prop:=0≤b.x∧0≤b.y∧0<b.w∧0<b.h
noncomputable def ah5(W w h:Int)(l:List Box):List Box:=(0::l.map fun b=>b.y+b.h).flatMap (akh w h W l)
theorem aej{W w h:Int}{l:List Box}{b:Box}:b∈ah5 W w h l↔(b.w=w∧b.h=h∧OnX l b.x∧OnY l b.y∧b.x+w≤W∧afw b l):=by
 unfold ah5 akh
 rw[List.mem_flatMap]
 constructor
 ·rintro⟨y,hy,hb⟩
  obtain⟨h1,h2⟩:=List.mem_filter.mp hb
  obtain⟨x,hx,rfl⟩:=List.mem_map.mp h1
  unfold okB at h2
  simp only[Bool.and_eq_true,decide_eq_true_eq]at h2
  refine⟨rfl,rfl,?_,?_,h2.1,(aeZ _ _).mp h2.2⟩
  ·rcases List.mem_cons.mp hx with e|e
   ·exact .inl e
   ·obtain⟨c,hc,rfl⟩:=List.mem_map.mp e
    exact .inr ⟨c,hc,rfl⟩
  ·rcases List.mem_cons.mp hy with e|e
   ·exact .inl e
   ·obtain⟨c,hc,rfl⟩:=List.mem_map.mp e
    exact .inr ⟨c,hc,rfl⟩
 ·rintro⟨rfl,rfl,hx,hy,hw,hf⟩
  refine⟨b.y,?_,List.mem_filter.mpr ⟨List.mem_map.mpr ⟨b.x,?_,rfl⟩,?_⟩⟩
  ·rcases hy with e|⟨c,hc,e⟩
   ·rw[e];simp
   ·rw[e];exact List.mem_cons_of_mem _ (List.mem_map.mpr ⟨c,hc,rfl⟩)
  ·rcases hx with e|⟨c,hc,e⟩
   ·rw[e];simp
   ·rw[e];exact List.mem_cons_of_mem _ (List.mem_map.mpr ⟨c,hc,rfl⟩)
  ·unfold okB
   rw[(aeZ _ _).mpr hf]
   simp[hw]
theorem anS{W w h:Int}{l:List Box}(hl:∀b∈l,acJ b)(hw:w≤W):∃b r,ah5 W w h l=b::r∧Low W w h l (ab3 b r):=by
 obtain⟨x',y',a1,a2,a3,a4,a5,a6⟩:=aiy (w:=w) (h:=h) (W:=W) l hw
 have hm:(⟨x',y',w,h⟩:Box)∈ah5 W w h l:=aej.mpr ⟨rfl,rfl,a5,a6,a3,a4⟩
 cases hc:ah5 W w h l with
 | nil=>rw[hc]at hm;cases hm
 | cons b r=>
  refine⟨b,r,rfl,?_⟩
  obtain⟨h1,h2⟩:=adL r b
  rw[←hc]at h1 h2
  obtain⟨e1,e2,e3,e4,e5,e6⟩:=aej.mp h1
  refine⟨e1,e2,?_,?_,e5,e6,fun x y hx hy hxw hf=>?_⟩
  ·rcases e3 with z|⟨c,hc,z⟩
   ·omega
   ·have:=hl c hc;unfold acJ at this;omega
  ·rcases e4 with z|⟨c,hc,z⟩
   ·omega
   ·have:=hl c hc;unfold acJ at this;omega
  ·obtain⟨x2,y2,b1,b2,b3,b4,b5,b6,b7⟩:=adt (W:=W) hx hy hxw hf
   have:=h2 _ (aej.mpr ⟨rfl,rfl,b5,b6,b3,b4⟩)
   unfold adR at this b7 ⊢
   simp only at this
   omega
noncomputable def TB(s:Sto):Prop:=aeB s 0 1 ⟨40,25,40,53⟩ ((("lowest_box":PySem.Str)++".<locals>.")++"<lambda>")=true
theorem alP{C:Cf}(hC:Has1 C s)(hT:TB s){w h W:Int}{l:List Box}(hl:l.length≤8)(hb:∀b∈l,acJ b)(hw:w≤W):
  ∃b,Low W w h l b∧exs C aqt [some (.val (ob (w,h))),some (.val (.int W)),some (.bor (l.map bx)),none,none,none,none,none,none] s=.ret (.val (bx b)) s:=by
 obtain⟨b,r,hc,hlow⟩:=anS (h:=h) hb hw
 refine⟨ab3 b r,hlow,?_⟩
 obtain⟨v4,v5,v6,e⟩:=amR hC (w:=w) (h:=h) (W:=W) hl (0::l.map fun b=>b.y+b.h) [] none none none (by simp;omega)
 have ec:[]++(0::l.map fun b=>b.y+b.h).flatMap (akh w h W l)=b::r:=by rw[List.nil_append];exact hc
 rw[ec]at e
 refine(aae (σ1:=g1 w h W l [] none none none) (s1:=s) (by simp[adD,aaH])).trans ?_
 refine(aae ((acG (ts:=(0::l.map fun b=>b.y+b.h).map .int) (s1:=s) (aq7 hC hl) (by intro _ h;cases h)).trans e)).trans ?_
 have hm:=alA b r
 rw[List.map_cons]at hm
 unfold TB at hT
 simp[hT,hm]
theorem aw3(k:Nat)(s:Sto):Has1 (cfX fns aao (k+3)) s:=⟨fun b=>aaP (ail (k:=k+2) b) rfl,fun b=>aaP (amo (k:=k+2) b) rfl,fun t l=>aaP (aob (k:=k) t l) rfl⟩
theorem are(hT:TB s){w h W:Int}{l:List Box}(hl:l.length≤8)(hb:∀b∈l,acJ b)(hw:w≤W):∃b,Low W w h l b∧run true fns aao aaj (k+4) 1 [.val (ob (w,h)),.val (.int W),.bor (l.map bx)] s=.ok (.val (bx b)) s:=by
 obtain⟨b,h1,e⟩:=alP (aw3 k s) hT (w:=w) (h:=h) hl hb hw
 exact⟨b,h1,(aai (F:=awW) rfl rfl).trans (congrArg (aaU true false) e)⟩
noncomputable def ar2(W:Int):List (Int×Int)→List Box→List Box→Prop
 | [],_,bs=>bs=[]
 | o::os,l,bs=>∃b r,bs=b::r∧Low W o.1 o.2 l b∧ar2 W os (l++[b]) r
noncomputable def anw(W:Int)(o:Int×Int):Prop:=0<o.1∧o.1≤W∧0<o.2
noncomputable abbrev g0(os:List (Int×Int))(W:Int)(v2 v3 v4:Option B):Fr:=[some (.val (.lst (os.map ob))),some (.val (.int W)),v2,v3,v4,none,none,none]
theorem ae1{C:Cf}{W:Int}{os0:List (Int×Int)}(h1:∀(w h:Int) (l:List Box),l.length≤8→(∀b∈l,acJ b)→w≤W→∃b,Low W w h l b∧C.cf 1 [.val (ob (w,h)),.val (.int W),.bor (l.map bx)] s=.ok (.val (bx b)) s):
  ∀(os:List (Int×Int)) (l:List Box) (v3:Option B),l.length+os.length≤8→(∀b∈l,acJ b)→(∀o∈os,anw W o)→∃bs v3',ar2 W os l bs∧(∀b∈bs,acJ b)∧bs.length=os.length∧aaX (.one 3) (fun σ s=>exs C act σ s) (os.map ob) (g0 os0 W (some (.own (l.map bx))) v3 none) s=.next (g0 os0 W (some (.own ((l++bs).map bx))) v3' none) s
 | [],l,v3,_,_,_=>⟨[],v3,rfl,by simp,rfl,by simp[aaX]⟩
 | o::os,l,v3,hn,hb,ho=>by
  have ho1:=ho o (by simp)
  obtain⟨b,hlow,e⟩:=h1 o.1 o.2 l (by simp at hn;omega) hb ho1.2.1
  have hbo:acJ b:=by
   have a1:=hlow.w_
   have a2:=hlow.h_
   have a3:=hlow.x0
   have a4:=hlow.y0
   unfold anw at ho1
   unfold acJ
   omega
  obtain⟨bs,v3',q1,q2,q3,q4⟩:=ae1 h1 os (l++[b]) (some (.val (ob o))) (by simp at hn ⊢;omega) (fun c hc=>by
   rcases List.mem_append.mp hc with z|z
   ·exact hb c z
   ·rw[List.mem_singleton.mp z];exact hbo) (fun o ho'=>ho o (by simp[ho']))
  refine⟨b::bs,v3',⟨b,bs,rfl,hlow,q1⟩,fun c hc=>?_,by simp[q3],?_⟩
  ·rcases List.mem_cons.mp hc with rfl|hc
   ·exact hbo
   ·exact q2 c hc
  ·have hlim:l.length<lim:=Nat.lt_of_lt_of_le (show l.length<1000 by simp at hn;omega) acg
   have e1:exs C act (g0 os0 W (some (.own (l.map bx))) (some (.val (ob o))) none) s=.next (g0 os0 W (some (.own ((l++[b]).map bx))) (some (.val (ob o))) none) s:=by
    simp[e,acd,aaH,hlim]
   show(exs C act (g0 os0 W (some (.own (l.map bx))) (some (.val (ob o))) none) s).bind _=_
   rw[e1]
   show aaX (.one 3) (fun σ s=>exs C act σ s) (os.map ob) (g0 os0 W (some (.own ((l++[b]).map bx))) (some (.val (ob o))) none) s=_
   rw[q4,List.append_assoc]
   rfl
theorem af5{C:Cf}{g:Tg}{i:Nat}{b:List S}{σ:Fr}{ts:List T}(h:σ[i]?=some (some (.val (.lst ts)))):ex C (.for_ g (.var i) b) σ s=aaX g (fun σ s=>exs C b σ s) ts σ s:=by
 have e:ex C (.for_ g (.var i) b) σ s=(ev C (.var i) .i σ s).st σ fun x s1=>onS x.lst? fun ts=>if abg σ i then(aaX g (fun σ s=>exs C b σ s) ts (lock σ i) s1).unlock i else aaX g (fun σ s=>exs C b σ s) ts σ s1:=rfl
 have ho:abg σ i=false:=by unfold abg;rw[h]
 have hv:ev C (.var i) .i σ s=.ok (.val (.lst ts)) s:=by simp[look,h]
 rw[e,hv]
 show(if abg σ i=true then _ else _)=_
 rw[ho]
 rfl
noncomputable def pl(b:Box):T:=.tup [.int b.x,.int b.y]
noncomputable def aet(bs:List Box):Int:=(aes (bs.map fun b=>b.y+b.h)).getD 0
noncomputable def afd(bs:List Box):T:=.tup [.int (aet bs),.lst (bs.map pl)]
theorem ab1:∀xs:List Int,aaC (xs.map T.int)=some xs
 | []=>rfl
 | x::xs=>by
  show(aaC (xs.map T.int)).map (x::·)=_
  rw[ab1 xs]
  rfl
structure Has0(C:Cf)(W:Int)(s:Sto):Prop where
 h1:∀(w h:Int) (l:List Box),l.length≤8→(∀b∈l,acJ b)→w≤W→∃b,Low W w h l b∧C.cf 1 [.val (ob (w,h)),.val (.int W),.bor (l.map bx)] s=.ok (.val (bx b)) s
 h5:∀b:Box,C.cf 5 [.val (bx b)] s=.ok (.val (.int (b.y+b.h))) s
theorem ahx{C:Cf}{W:Int}{os:List (Int×Int)}:ev C (.b1 .any (.comp abz (.one 5) (.var 0))) .v (g0 os W none none none) s=.ok (.val (.bl (os.any fun o=>decide (W<o.1)))) s:=by
 have hc:ev C (.comp abz (.one 5) (.var 0)) .v (g0 os W none none none) s=.ok (.val (.lst (os.map fun o=>.bl (decide (W<o.1))))) s:=
  aaz (i:=5) os ob (fun o=>.bl (decide (W<o.1))) (by simp) fun o ho=>by simp
 exact agp hc
theorem alb{C:Cf}{W:Int}(hC:Has0 C W s){os:List (Int×Int)}(hn:os.length≤8)(ho:∀o∈os,anw W o):
  ∃bs,ar2 W os [] bs∧(∀b∈bs,acJ b)∧bs.length=os.length∧exs C ajN (g0 os W none none none) s=.ret (.val (afd bs)) s:=by
 obtain⟨bs,v3,q1,q2,q3,q4⟩:=ae1 (C:=C) (W:=W) (os0:=os) hC.h1 os [] none (by simpa using hn) (by simp) ho
 refine⟨bs,q1,q2,q3,?_⟩
 have hw:=ahx (C:=C) (s:=s) (W:=W) (os:=os)
 have ha:(os.any fun o=>decide (W<o.1))=false:=by
  rw[List.any_eq_false]
  intro o h
  have:=(ho o h).2.1
  simp;omega
 rw[ha]at hw
 rw[List.nil_append]at q4
 have c1:ev C (.comp aca (.one 6) (.var 2)) .v (g0 os W (some (.own (bs.map bx))) v3 none) s=.ok (.val (.lst ((bs.map fun b=>b.y+b.h).map .int))) s:=by
  rw[List.map_map]
  refine aaz (i:=6) bs bx (fun b=>.int (b.y+b.h)) (by simp) fun b hb=>?_
  have:=hC.h5 b
  simp[this]
 have c2:ev C (.comp aco (.one 7) (.var 2)) .v (g0 os W (some (.own (bs.map bx))) v3 (some (.val (.int (aet bs))))) s=.ok (.val (.lst (bs.map pl))) s:=
  aaz (i:=7) bs bx pl (by simp) fun b hb=>by simp[pl]
 refine(aae (σ1:=g0 os W none none none) (s1:=s) (by simp;omega)).trans ?_
 refine(aae (σ1:=g0 os W none none none) (s1:=s) (by
  have e:ev C (.b1 .any (.comp abz (.one 5) (.var 0))) .t (g0 os W none none none) s=.ok (.val (.bl false)) s:=by
   rw[show ev C (.b1 .any (.comp abz (.one 5) (.var 0))) .t (g0 os W none none none) s=fin .t (ev C (.b1 .any (.comp abz (.one 5) (.var 0))) .v (g0 os W none none none) s)from rfl,hw]
   rfl
  unfold ex
  rw[e]
  simp)).trans ?_
 refine(aae (σ1:=g0 os W (some (.own [])) none none) (s1:=s) (by simp[adD,aaH])).trans ?_
 refine(aae ((af5 rfl).trans q4)).trans ?_
 refine(aae (σ1:=g0 os W (some (.own (bs.map bx))) v3 (some (.val (.int (aet bs))))) (s1:=s) (aev (by
  have hev:ev C (.mxd (.comp aca (.one 6) (.var 2)) (.cst (.int 0))) .v (g0 os W (some (.own (bs.map bx))) v3 none) s=(ev C (.comp aca (.one 6) (.var 2)) .v (g0 os W (some (.own (bs.map bx))) v3 none) s).bind fun x s1=>(ev C (.cst (.int 0)) .v (g0 os W (some (.own (bs.map bx))) v3 none) s1).bind fun y s2=>.of (do let ts ←x.seq;let is ←aaC ts;let d ←y.int?;some (.val (.int ((aes is).getD d)))) s2:=by rw[ev];rfl
  rw[hev,c1]
  have ai:=ab1 (bs.map fun b=>b.y+b.h)
  unfold aet
  generalize (bs.map fun b=>b.y+b.h)=zs at *
  simp[ai]))).trans ?_
 refine aaE (abZ ?_)
 have et:ev C (.tup [(.var 4),(.comp aco (.one 7) (.var 2))]) .v (g0 os W (some (.own (bs.map bx))) v3 (some (.val (.int (aet bs))))) s=(evs C [(.var 4),(.comp aco (.one 7) (.var 2))] (g0 os W (some (.own (bs.map bx))) v3 (some (.val (.int (aet bs))))) s).bind fun ts s1=>.ok (.val (.tup ts)) s1:=by rw[ev];rfl
 rw[et]
 simp only[evs]
 have c0:ev C (.var 4) .v (g0 os W (some (.own (bs.map bx))) v3 (some (.val (.int (aet bs))))) s=.ok (.val (.int (aet bs))) s:=by simp
 rw[c0]
 simp only[Res.bind_ok,aih,c2]
 rfl
end Pg
end IP
end
section
namespace IP
namespace Pg
open L2 LayM
variable{k:Nat}{s:Sto}{l:List (Int×Int)}
noncomputable def plP(p:Spt)(z:Int):Int×Int:=(pX p z,pY p z)
theorem aoO(p:Spt)(z:Int):tI (plc p z)=pt (plP p z):=by rw[anv];rfl
noncomputable def lnZ(c:List Spt)(z:Int):List (Int×Int):=c.map fun p=>plP p z
theorem amc(c:List Spt)(z:Int):tIs (amG c z)=.lst ((lnZ c z).map pt):=by
 unfold tIs lnZ amG
 rw[List.map_map,List.map_map]
 congr 1
 exact List.map_congr_left fun p _=>aoO p z
noncomputable def hiA(b:Bool)(l:List (Int×Int)):Int:=(aes (l.map (ax b))).getD 0
noncomputable def loA(b:Bool)(l:List (Int×Int)):Int:=(ahi (l.map (ax b))).getD 0
noncomputable def axI(b:Bool):Int:=if b then 1 else 0
theorem ajq(b:Bool)(p:Int×Int):aaW (.val (pt p)) (axI b)=some (.int (ax b p)):=by cases b<;>rfl
theorem afZ{C:Cf}{b:Bool}:ev C (.comp (.sub (.var 2) (.var 1)) (.one 2) (.var 0)) .v [some (.val (.lst (l.map pt))),some (.val (.int (axI b))),none] s=.ok (.val (.lst ((l.map (ax b)).map .int))) s:=by
 rw[List.map_map]
 exact aaz (i:=2) l pt (fun p=>.int (ax b p)) (by simp) fun p hp=>by have:=ajq b p;simp[this]
theorem anU{xs:List Int}(h:xs≠[]):b1R .min (.val (.lst (xs.map .int)))=some (.val (.int ((ahi xs).getD 0))):=by
 cases xs with
 | nil=>exact absurd rfl h
 | cons x xs=>
  show(aaC (List.map T.int (x::xs))).bind _=_
  rw[ab1 (x::xs)]
  rfl
theorem anL{xs:List Int}(h:xs≠[]):b1R .max (.val (.lst (xs.map .int)))=some (.val (.int ((aes xs).getD 0))):=by
 cases xs with
 | nil=>exact absurd rfl h
 | cons x xs=>
  show(aaC (List.map T.int (x::xs))).bind _=_
  rw[ab1 (x::xs)]
  rfl
theorem alt{C:Cf}{o:Op}{a b:E}{σ:Fr}{s s1 s2:Sto}{x y r:R}(h1:ev C a .v σ s=.ok x s1)(h2:ev C b .v σ s1=.ok y s2)(h3:opR o x y=some r):ev C (.bin o a b) .v σ s=.ok r s2:=by
 simp[h1,h2,h3]
theorem afq(hl:l≠[])(b:Bool):run true fns aao aaj (k+1) 19 [LN l,.val (.int (axI b))] s=.ok (.val (.int (loA b l))) s:=by
 rw[aai (F:=awS) rfl rfl]
 refine congrArg (aaU true false) (aaE (abZ (ajE afZ ?_)))
 rw[agr]
 exact anU (by simpa using hl)
theorem ae5(hl:l≠[])(b:Bool):run true fns aao aaj (k+2) 18 [LN l,.val (.int (axI b))] s=.ok (.val (.int (hiA b l-loA b l))) s:=by
 rw[aai (F:=avK) rfl rfl]
 have h1:=afq (k:=k) (s:=s) hl b
 refine congrArg (aaU true false) (aaE (abZ (alt (x:=.val (.int (hiA b l))) (y:=.val (.int (loA b l))) (ajE afZ ?_) ?_ rfl)))
 ·rw[agr]
  exact anL (by simpa using hl)
 ·simp[h1]
noncomputable def obL(room:Int)(l:List (Int×Int)):Int×Int:=(hiA false l-loA false l+2*room,hiA true l-loA true l+2*room)
theorem ajT(hl:l≠[])(room:Int):run true fns aao aaj (k+3) 17 [LN l,.val (.int room)] s=.ok (.val (ob (obL room l))) s:=by
 rw[aai (F:=axc) rfl rfl]
 have h0:run true fns aao aaj (k+2) 18 [LN l,.val (.int 0)] s=_:=ae5 (k:=k) (s:=s) hl false
 have h1:run true fns aao aaj (k+2) 18 [LN l,.val (.int 1)] s=_:=ae5 (k:=k) (s:=s) hl true
 have m2:=aaT (i:=2) (j:=room) (aav (by decide))
 simp[atg,h0,h1,m2,ob,obL]
theorem agM(hl:l≠[])(room:Int)(b:Box):∃l',run true fns aao aaj (k+2) 20 [LN l,.val (pl b),.val (.int room)] s=.ok (LN l') s:=by
 refine⟨l.map fun p=>(p.1+(b.x+room-loA false l),p.2+(b.y+room-loA true l)),?_⟩
 rw[aai (F:=awk) rfl rfl]
 have h0:run true fns aao aaj (k+1) 19 [LN l,.val (.int 0)] s=_:=afq (k:=k) (s:=s) hl false
 have h1:run true fns aao aaj (k+1) 19 [LN l,.val (.int 1)] s=_:=afq (k:=k) (s:=s) hl true
 have p0:aaW (.val (pl b)) 0=some (.int b.x):=rfl
 have p1:aaW (.val (pl b)) 1=some (.int b.y):=rfl
 have d0:(R.val (pl b)).dr s=.val (pl b):=rfl
 generalize loA false l=u at *
 generalize loA true l=v at *
 refine(congrArg (aaU true false) (a₂:=.ret (LN (l.map fun p=>(p.1+(b.x+room-u),p.2+(b.y+room-v)))) s) ?_).trans rfl
 refine(aae (σ1:=[some (.val (.lst (l.map pt))),some (.val (pl b)),some (.val (.int room)),some (.val (.int (b.x+room-u))),none,none]) (s1:=s) (by simp[h0,p0,d0])).trans ?_
 refine(aae (σ1:=[some (.val (.lst (l.map pt))),some (.val (pl b)),some (.val (.int room)),some (.val (.int (b.x+room-u))),some (.val (.int (b.y+room-v))),none]) (s1:=s) (by simp[h1,p1,d0])).trans ?_
 refine aaE (abZ ?_)
 have:=aaz (C:=cfX fns aao (k+1)) (e:=afg) (it:=.var 0) (i:=5) (σ:=[some (.val (.lst (l.map pt))),some (.val (pl b)),some (.val (.int room)),some (.val (.int (b.x+room-u))),some (.val (.int (b.y+room-v))),none]) (s:=s) l pt (fun p=>pt (p.1+(b.x+room-u),p.2+(b.y+room-v))) (by simp) fun p hp=>by simp[pt]
 rw[this]
 show Res.ok (R.val (T.lst _)) s=Res.ok (R.val (T.lst ((l.map fun p=>(p.1+(b.x+room-u),p.2+(b.y+room-v))).map pt))) s
 rw[List.map_map]
 rfl
theorem ajw{C:Cf}{e it:E}{i:Nat}{σ:Fr}{d:Nat}{α:Type}(xs:List α)(g f:α→T)(ok:α→Bool)(ha:ev C it .i σ s=.ok (.val (.lst (xs.map g))) s)(h1:∀x∈xs,ok x=true→ev C e .v (put σ i (g x)) s=.ok (.val (f x)) s)(h2:∀x∈xs,ok x=false→ev C e .v (put σ i (g x)) s=.exc d s):
  ev C (.comp e (.one i) it) .v σ s=if xs.all ok=true then .ok (.val (.lst (xs.map f))) s else .exc d s:=by
 rw[show ev C (.comp e (.one i) it) .v σ s=((ev C it .i σ s).bind fun x s1=>onL x fun ts=>(aas (fun t s=>onO (aap σ (.one i) t) fun σ'=>one (ev C e .v σ' s)) ts s1).bind fun q s2=>.ok (.val (.lst q)) s2)from by simp only[ev,ahJ],ha]
 show(aas (fun t s=>onO (aap σ (.one i) t) fun σ'=>one (ev C e .v σ' s)) (xs.map g) s).bind _=_
 have key:aas (fun t s=>onO (aap σ (.one i) t) fun σ'=>one (ev C e .v σ' s)) (xs.map g) s=if xs.all ok=true then .ok (xs.map f) s else .exc d s:=by
  clear ha
  induction xs with
  | nil=>rfl
  | cons x xs ih=>
   have ih:=ih (fun y hy=>h1 y (List.mem_cons_of_mem _ hy)) fun y hy=>h2 y (List.mem_cons_of_mem _ hy)
   rw[List.map_cons]
   unfold aas
   rw[show onO (aap σ (.one i) (g x)) (fun σ'=>one (ev C e .v σ' s))=one (ev C e .v (put σ i (g x)) s)from rfl]
   cases hx:ok x with
   | true=>
    rw[h1 x (by simp) hx]
    show((aas (fun t s=>onO (aap σ (.one i) t) fun σ'=>one (ev C e .v σ' s)) (xs.map g) s).bind fun q s2=>Res.ok (aeF (some (f x)) q) s2)=_
    rw[ih,List.all_cons,hx,Bool.true_and]
    by_cases ha:xs.all ok=true
    ·rw[if_pos ha,if_pos ha];rfl
    ·rw[if_neg ha,if_neg ha];rfl
   | false=>
    rw[h2 x (by simp) hx,List.all_cons,hx,Bool.false_and]
    rfl
 rw[key]
 by_cases ha:xs.all ok=true
 ·rw[if_pos ha,if_pos ha];rfl
 ·rw[if_neg ha,if_neg ha];rfl
noncomputable def aaR(n:Nat)(w:Int×Int):Bool:=decide (0≤w.1∧w.1<n)
noncomputable def abG(w:Int×Int):Bool:=decide (-6≤w.2∧w.2≤6)
noncomputable def crB(l:List (Int×Int)):Bool:=!(fp (ach l) l.length).isNon
noncomputable abbrev lT(l:List (Int×Int)):T:=.lst (l.map pt)
noncomputable abbrev gc(A:Ad)(ws:List (Int×Int))(v:Option B):Fr:=[some (.val (.loc A.o)),some (.val (.lst (ws.map ob))),v]
theorem cw_loop{C:Cf}{A:Ad}{p:Nat×List (Option T)}{n:Nat}(li:(R.val (.loc A.o)).locI s 0=some p)(h1:∀p:Int,0≤p→p<n→∃r,C.cf 26 [slf A,.val (.int p)] s=.ok r s)(h2:∀p:Int,¬(0≤p∧p<n)→C.cf 26 [slf A,.val (.int p)] s=.exc 3 s){ws0:List (Int×Int)}:
  ∀(ws:List (Int×Int)) (v:Option B),match ws.all (aaR n)with
   | true=>∃v',aaX (.one 2) (fun σ s=>exs C abB σ s) (ws.map ob) (gc A ws0 v) s=.next (gc A ws0 v') s
   | false=>∃v',aaX (.one 2) (fun σ s=>exs C abB σ s) (ws.map ob) (gc A ws0 v) s=.exc 3 (gc A ws0 v') s
 | [],v=>⟨v,rfl⟩
 | w::ws,v=>by
  have ih:=cw_loop li h1 h2 (ws0:=ws0) ws (some (.val (ob w)))
  rw[List.all_cons]
  have e0:aaX (.one 2) (fun σ s=>exs C abB σ s) ((w::ws).map ob) (gc A ws0 v) s=(exs C abB (gc A ws0 (some (.val (ob w)))) s).bind fun σ s=>aaX (.one 2) (fun σ s=>exs C abB σ s) (ws.map ob) σ s:=rfl
  rw[e0]
  cases hw:aaR n w with
  | true=>
   have hw:=of_decide_eq_true hw
   obtain⟨r,e⟩:=h1 w.1 hw.1 hw.2
   have e:C.cf 26 [.val (.loc A.o),.val (.int w.1)] s=.ok r s:=e
   have e1:exs C abB (gc A ws0 (some (.val (ob w)))) s=.next (gc A ws0 (some (.val (ob w)))) s:=by
    simp[li,e]
   rw[e1,Bool.true_and]
   exact ih
  | false=>
   have e:=h2 w.1 (fun z=>by rw[show aaR n w=true from decide_eq_true z]at hw;cases hw)
   have e:C.cf 26 [.val (.loc A.o),.val (.int w.1)] s=.exc 3 s:=e
   have e1:exs C abB (gc A ws0 (some (.val (ob w)))) s=.exc 3 (gc A ws0 (some (.val (ob w)))) s:=by
    simp[li,e]
   rw[e1,Bool.false_and]
   exact⟨_,rfl⟩
noncomputable def cwR(n:Nat)(ws:List (Int×Int)):Option Nat:=if 8<ws.length then some 6 else if ws.all (aaR n)=true then none else some 3
noncomputable def avB(o:Option Nat)(s:Sto):Res R:=match o with
 | some d=>.exc d s
 | none=>.ok (.val .non) s
theorem cw_any{C:Cf}{A:Ad}{p:Nat×List (Option T)}{n:Nat}(li:(R.val (.loc A.o)).locI s 0=some p)(h1:∀p:Int,0≤p→p<n→∃r,C.cf 26 [slf A,.val (.int p)] s=.ok r s)(h2:∀p:Int,¬(0≤p∧p<n)→C.cf 26 [slf A,.val (.int p)] s=.exc 3 s)(ws:List (Int×Int)):
  aaU true false (exs C aku (gc A ws none) s)=avB (cwR n ws) s:=by
 unfold cwR
 by_cases h8:8<ws.length
 ·rw[if_pos h8]
  have:(8:Int)<(ws.length:Int):=by omega
  have e:exs C aku (gc A ws none) s=.exc 6 (gc A ws none) s:=abt (by simp[this])
  rw[e]
  rfl
 ·rw[if_neg h8]
  have h:=cw_loop li h1 h2 (ws0:=ws) ws none
  have e0:exs C aku (gc A ws none) s=exs C (aku.drop 1) (gc A ws none) s:=aae (by simp;omega)
  rw[e0]
  cases ha:ws.all (aaR n)with
  | true=>
   rw[ha]at h
   obtain⟨v',e⟩:=h
   rw[show exs C (aku.drop 1) (gc A ws none) s=exs C [] (gc A ws v') s from aae ((af5 rfl).trans e)]
   rw[ac5]
   rfl
  | false=>
   rw[ha]at h
   obtain⟨v',e⟩:=h
   rw[show exs C (aku.drop 1) (gc A ws none) s=.exc 3 (gc A ws v') s from abt ((af5 rfl).trans e)]
   rfl
structure Lo(C:Cf)(A:Ad)(s:Sto)(n:Nat)(lw:Int×Int→List (Int×Int))(W room:Int):Prop where
 li:∃p,(R.val (.loc A.o)).locI s 0=some p
 chk:∀ws:List (Int×Int),C.cf 16 [slf A,.val (.lst (ws.map ob))] s=avB (cwR n ws) s
 cor:∀w:Int×Int,aaR n w=true→abG w=true→C.cf 28 [slf A,.val (.int w.1),.val (.int w.2)] s=.ok (.val (lT (lw w))) s
 corb:∀w:Int×Int,aaR n w=true→abG w=false→C.cf 28 [slf A,.val (.int w.1),.val (.int w.2)] s=.exc 1 s
 crs:∀w:Int×Int,aaR n w=true→abG w=true→C.cf 6 [LN (lw w)] s=.ok (fp (ach (lw w)) (lw w).length) s
 ne:∀w:Int×Int,lw w≠[]
 obl:∀l:List (Int×Int),l≠[]→C.cf 17 [LN l,.val (.int room)] s=.ok (.val (ob (obL room l))) s
 lay:∀os:List (Int×Int),os.length≤8→(∀o∈os,anw W o)→∃bs:List Box,bs.length=os.length∧C.cf 0 [.val (.lst (os.map ob)),.val (.int W)] s=.ok (.val (afd bs)) s
 wide:∀os:List (Int×Int),os.length≤8→(∃o∈os,W<o.1)→C.cf 0 [.val (.lst (os.map ob)),.val (.int W)] s=.exc 7 s
 mov:∀(l:List (Int×Int)) (b:Box),l≠[]→∃l',C.cf 20 [LN l,.val (pl b),.val (.int room)] s=.ok (LN l') s
 pos:∀w:Int×Int,aaR n w=true→abG w=true→crB (lw w)=false→0<(obL room (lw w)).1∧0<(obL room (lw w)).2
noncomputable def af2(n:Nat)(lw:Int×Int→List (Int×Int))(W room:Int)(ws:List (Int×Int)):Option Nat:=
 match cwR n ws with
 | some d=>some d
 | none=>if ws.all abG=true then(if(ws.any fun w=>crB (lw w))=true then some 5 else if(ws.any fun w=>decide (W<(obL room (lw w)).1))=true then some 7 else none)else some 1
noncomputable abbrev gl(A:Ad)(ws:List (Int×Int))(W room:Int)(v4 v5:Option B):Fr:=[some (.val (.loc A.o)),some (.val (.lst (ws.map ob))),some (.val (.int W)),some (.val (.int room)),v4,v5,none,none,none,none,none]
theorem ajO(r:R):adr .notN r (.val .non)=some (!r.isNon):=rfl
theorem aoa{C:Cf}{A:Ad}{n:Nat}{lw:Int×Int→List (Int×Int)}{W room:Int}(hC:Lo C A s n lw W room)(ws:List (Int×Int)):
  match af2 n lw W room ws with
  | some d=>∃σ',exs C agY (gl A ws W room none none) s=.exc d σ' s
  | none=>∃m xs,xs.length=ws.length∧exs C agY (gl A ws W room none none) s=.ret (.val (.tup [.int m,.lst xs])) s:=by
 have hchk:=hC.chk ws
 unfold af2
 cases hcw:cwR n ws with
 | some d=>
  rw[hcw]at hchk
  have hchk:C.cf 16 [.val (.loc A.o),.val (.lst (ws.map ob))] s=.exc d s:=hchk
  exact⟨gl A ws W room none none,abt (by simp[hchk])⟩
 | none=>
  rw[hcw]at hchk
  have hchk:C.cf 16 [.val (.loc A.o),.val (.lst (ws.map ob))] s=.ok (.val .non) s:=hchk
  have h8:ws.length≤8:=by
   unfold cwR at hcw
   by_cases h:8<ws.length
   ·rw[if_pos h]at hcw;cases hcw
   ·omega
  have hth:∀w∈ws,aaR n w=true:=by
   unfold cwR at hcw
   rw[if_neg (by omega)]at hcw
   by_cases h:ws.all (aaR n)=true
   ·exact List.all_eq_true.mp h
   ·rw[if_neg h]at hcw;cases hcw
  obtain⟨p,li⟩:=hC.li
  have e1:exs C agY (gl A ws W room none none) s=exs C (agY.drop 1) (gl A ws W room none none) s:=aae (by simp[hchk])
  have c1:=ajw (C:=C) (e:=adi) (it:=.var 1) (i:=6) (σ:=gl A ws W room none none) (s:=s) (d:=1) ws ob (fun w=>lT (lw w)) abG (by simp) (fun w hw hs=>by
   have e:=hC.cor w (hth w hw) hs
   have e:C.cf 28 [.val (.loc A.o),.val (.int w.1),.val (.int w.2)] s=.ok (.val (lT (lw w))) s:=e
   simp[li,e]) (fun w hw hs=>by
   have e:=hC.corb w (hth w hw) hs
   have e:C.cf 28 [.val (.loc A.o),.val (.int w.1),.val (.int w.2)] s=.exc 1 s:=e
   simp[li,e])
  show match(if ws.all abG=true then _ else some 1:Option Nat)with|some d=>_|none=>_
  by_cases hsz:ws.all abG=true
  ·rw[if_pos hsz]
   rw[if_pos hsz]at c1
   have hs:=List.all_eq_true.mp hsz
   have e2:exs C (agY.drop 1) (gl A ws W room none none) s=exs C (agY.drop 2) (gl A ws W room (some (.val (.lst (ws.map fun w=>lT (lw w))))) none) s:=aae (aev c1)
   have c2:ev C (.comp afu (.one 7) (.var 4)) .v (gl A ws W room (some (.val (.lst (ws.map fun w=>lT (lw w))))) none) s=.ok (.val (.lst (ws.map fun w=>.bl (crB (lw w))))) s:=
    aaz (i:=7) ws (fun w=>lT (lw w)) (fun w=>.bl (crB (lw w))) (by simp) fun w hw=>by
     have e:=hC.crs w (hth w hw) (hs w hw)
     unfold crB
     generalize fp (ach (lw w)) (lw w).length=r at *
     have:=ajO r
     simp[e,this]
   have c3:=aee (agp c2)
   cases hcr:(ws.any fun w=>crB (lw w))with
   | true=>
    rw[if_pos rfl]
    rw[hcr]at c3
    refine⟨gl A ws W room (some (.val (.lst (ws.map fun w=>lT (lw w))))) none,(e1.trans e2).trans (abt ((adS c3).trans (abt ?_)))⟩
    simp
   | false=>
    rw[if_neg (by simp)]
    rw[hcr]at c3
    have hnc:∀w∈ws,crB (lw w)=false:=fun w hw=>by
     have:=List.any_eq_false.mp hcr w hw
     simpa using this
    have e3:exs C (agY.drop 2) (gl A ws W room (some (.val (.lst (ws.map fun w=>lT (lw w))))) none) s=exs C (agY.drop 3) (gl A ws W room (some (.val (.lst (ws.map fun w=>lT (lw w))))) none) s:=aae ((agh c3).trans ac5)
    have c4:ev C (.comp ade (.one 8) (.var 4)) .v (gl A ws W room (some (.val (.lst (ws.map fun w=>lT (lw w))))) none) s=.ok (.val (.lst ((ws.map fun w=>obL room (lw w)).map ob))) s:=by
     rw[List.map_map]
     refine aaz (i:=8) ws (fun w=>lT (lw w)) (fun w=>ob (obL room (lw w))) (by simp) fun w hw=>?_
     have e:=hC.obl (lw w) (hC.ne w)
     simp[e]
    cases hwd:(ws.any fun w=>decide (W<(obL room (lw w)).1))with
    | true=>
     rw[if_pos rfl]
     obtain⟨w,hw,hlt⟩:=List.any_eq_true.mp hwd
     have ew:=hC.wide (ws.map fun w=>obL room (lw w)) (by simpa using h8) ⟨_,List.mem_map_of_mem hw,of_decide_eq_true hlt⟩
     generalize (ws.map fun w=>obL room (lw w))=os at c4 ew
     refine⟨gl A ws W room (some (.val (.lst (ws.map fun w=>lT (lw w))))) none,((e1.trans e2).trans e3).trans (abt ?_)⟩
     have ec:ev C (.call 0 [(.comp ade (.one 8) (.var 4)),(.var 2)] []) .v (gl A ws W room (some (.val (.lst (ws.map fun w=>lT (lw w))))) none) s=.exc 7 s:=by
      simp[c4,ew]
     rw[show ex C (.asg 5 (.call 0 [(.comp ade (.one 8) (.var 4)),(.var 2)] [])) (gl A ws W room (some (.val (.lst (ws.map fun w=>lT (lw w))))) none) s=_ from ex.eq_1 ..,ec]
     rfl
    | false=>
     rw[if_neg (by simp)]
     have hno:∀w∈ws,¬W<(obL room (lw w)).1:=fun w hw z=>List.any_eq_false.mp hwd w hw (decide_eq_true z)
     obtain⟨bs,hbl,elay⟩:=hC.lay (ws.map fun w=>obL room (lw w)) (by simpa using h8) (fun o ho=>by
      obtain⟨w,hw,rfl⟩:=List.mem_map.mp ho
      have h1:=hC.pos w (hth w hw) (hs w hw) (hnc w hw)
      have h2:=hno w hw
      exact⟨h1.1,by omega,h1.2⟩)
     rw[List.length_map]at hbl
     have e4:exs C (agY.drop 3) (gl A ws W room (some (.val (.lst (ws.map fun w=>lT (lw w))))) none) s=exs C (agY.drop 4) (gl A ws W room (some (.val (.lst (ws.map fun w=>lT (lw w))))) (some (.val (afd bs)))) s:=by
      refine aae (aev ?_)
      generalize (ws.map fun w=>obL room (lw w))=os at c4 elay
      simp[c4,elay]
     obtain⟨xs,x1,_,x3⟩:=aeS (F:=fun t s=>onO (aap (gl A ws W room (some (.val (.lst (ws.map fun w=>lT (lw w))))) (some (.val (afd bs)))) (.many [9,10]) t) fun σ'=>one (ev C acz .v σ' s)) (s:=s) lT (fun _=>True) (ziT (ws.map fun w=>lT (lw w)) (bs.map pl)) (fun m t hm=>by
      obtain⟨a,b,h1,h2,rfl⟩:=afk _ _ _ _ hm
      rw[List.getElem?_map]at h1 h2
      obtain⟨w,_,rfl⟩:=Option.map_eq_some_iff.mp h1
      obtain⟨bb,_,rfl⟩:=Option.map_eq_some_iff.mp h2
      obtain⟨l',e⟩:=hC.mov (lw w) bb (hC.ne w)
      refine⟨l',trivial,?_⟩
      show one (ev C acz .v [some (.val (.loc A.o)),some (.val (.lst (ws.map ob))),some (.val (.int W)),some (.val (.int room)),some (.val (.lst (ws.map fun w=>lT (lw w)))),some (.val (afd bs)),none,none,none,some (.val (lT (lw w))),some (.val (pl bb))] s)=_
      generalize (ws.map fun w=>lT (lw w))=ls at *
      generalize afd bs=tt at *
      generalize pl bb=pp at *
      simp[e])
     have hz:ev C (.zip (.var 4) (.sub (.var 5) (.cst (.int 1)))) .i (gl A ws W room (some (.val (.lst (ws.map fun w=>lT (lw w))))) (some (.val (afd bs)))) s=.ok (.val (.lst (ziT (ws.map fun w=>lT (lw w)) (bs.map pl)))) s:=by
      have s1:aaW (.val (afd bs)) 1=some (.lst (bs.map pl)):=rfl
      have d1:(R.val (afd bs)).dr s=.val (afd bs):=rfl
      generalize afd bs=tt at *
      generalize (ws.map fun w=>lT (lw w))=ls at *
      simp[s1,d1]
     have hc:=ahn hz x3
     have hl:(ziT (ws.map fun w=>lT (lw w)) (bs.map pl)).length=ws.length:=by rw[adI];simp[hbl]
     refine⟨aet bs,xs.map lT,by rw[List.length_map,x1,hl],(((e1.trans e2).trans e3).trans e4).trans (aaE (abZ ?_))⟩
     have s0:aaW (.val (afd bs)) 0=some (.int (aet bs)):=rfl
     have d1:(R.val (afd bs)).dr s=.val (afd bs):=rfl
     generalize afd bs=tt at *
     generalize (ws.map fun w=>lT (lw w))=ls at *
     have c0:ev C (.sub (.var 5) (.cst (.int 0))) .v (gl A ws W room (some (.val (.lst ls))) (some (.val tt))) s=.ok (.val (.int (aet bs))) s:=by simp[s0,d1]
     rw[show ev C (.tup [(.sub (.var 5) (.cst (.int 0))),(.comp acz (.many [9,10]) (.zip (.var 4) (.sub (.var 5) (.cst (.int 1)))))]) .v (gl A ws W room (some (.val (.lst ls))) (some (.val tt))) s=(evs C [(.sub (.var 5) (.cst (.int 0))),(.comp acz (.many [9,10]) (.zip (.var 4) (.sub (.var 5) (.cst (.int 1)))))] (gl A ws W room (some (.val (.lst ls))) (some (.val tt))) s).bind fun ts s1=>.ok (.val (.tup ts)) s1 from by rw[ev];rfl]
     simp only[evs]
     rw[c0]
     simp only[Res.bind_ok,aih,hc]
  ·rw[if_neg hsz]
   rw[if_neg hsz]at c1
   refine⟨gl A ws W room none none,e1.trans (abt ?_)⟩
   rw[show ex C (.asg 4 (.comp adi (.one 6) (.var 1))) (gl A ws W room none none) s=_ from ex.eq_1 ..,c1]
   rfl
noncomputable abbrev rct(a h:Int):List (Int×Int):=[(0,0),(a,0),(a,h),(0,h)]
noncomputable abbrev qd(h:Int):List (Int×Int):=[(0,0),(9,0),(9,h),(0,9)]
noncomputable abbrev rc2:List (Int×Int):=[(-500,0),(500,0),(500,5),(-500,5)]
noncomputable def P0(a h g:Int):List Spt:=[⟨0,0,0,0,0,0⟩,⟨a,0,g,0,g,0⟩,⟨a,h,g,0,g,0⟩,⟨0,h,0,0,0,0⟩]
noncomputable def P1(e:Int):List Spt:=[⟨0,0,0,0,0,0⟩,⟨9,0,0,0,0,0⟩,⟨9,e,0,-1,0,-1⟩,⟨0,9,0,0,0,0⟩]
noncomputable def P2:List Spt:=[⟨-500,0,0,0,0,0⟩,⟨500,0,0,0,0,0⟩,⟨500,5,0,0,0,0⟩,⟨-500,5,0,0,0,0⟩]
noncomputable def azZ(z:Int):Int:=if z<0 then -z else z
theorem aiA(a h g z:Int):lnZ (P0 a h g) z=rct (a+g*azZ z) h:=by
 unfold lnZ P0 plP pX pY azZ
 by_cases hz:z<0
 ·simp[hz,Int.mul_comm]
 ·simp[hz,Int.mul_comm]
theorem ai2(e z:Int):lnZ (P1 e) z=qd (e-azZ z):=by
 unfold lnZ P1 plP pX pY azZ
 by_cases h:z<0
 ·simp[h]
 ·simp[h];omega
theorem ahy(z:Int):lnZ P2 z=rc2:=by
 unfold lnZ P2 plP pX pY
 by_cases h:z<0<;>simp[h]
theorem apd{n:Nat}(hl:l.length=n)(h:∀i j,i≤j→j<n→ach l i j=false)(h0:(fp (fun _ _=>false) n).isNon=true):crB l=false:=by
 unfold crB
 rw[hl,ajS (p':=fun _ _=>false) h,h0]
 rfl
theorem ajp{a h:Int}(ha:0<a)(hh:0<h):crB (rct a h)=false:=by
 have hp:=Int.mul_pos ha hh
 have hq:=Int.mul_pos hh ha
 have c0:cor (rct a h) 0=(0,0):=rfl
 have c1:cor (rct a h) 1=(a,0):=rfl
 have c2:cor (rct a h) 2=(a,h):=rfl
 have c3:cor (rct a h) 3=(0,h):=rfl
 have c4:cor (rct a h) 4=(0,0):=by simp[cor]
 have tg:∀p q r:Int×Int,abm p q r≠0→abv p q r=false:=fun p q r z=>by unfold abv;simp[z]
 refine apd (n:=4) rfl (fun i j h1 h2=>?_) rfl
 have hi:i<4:=by omega
 unfold ach
 match i,j,h1,h2,hi with
 | 0,0,_,_,_=>simp[c0,c1];omega
 | 1,1,_,_,_=>simp[c1,c2];omega
 | 2,2,_,_,_=>simp[c2,c3];omega
 | 3,3,_,_,_=>simp[c3,c4];omega
 | 0,1,_,_,_=>exact tg _ _ _ (by show abm (cor (rct a h) 1) (cor (rct a h) 0) (cor (rct a h) 2)≠0;rw[c0,c1,c2];unfold abm;simp;omega)
 | 1,2,_,_,_=>exact tg _ _ _ (by show abm (cor (rct a h) 2) (cor (rct a h) 1) (cor (rct a h) 3)≠0;rw[c1,c2,c3];unfold abm;simp;omega)
 | 2,3,_,_,_=>exact tg _ _ _ (by show abm (cor (rct a h) 3) (cor (rct a h) 2) (cor (rct a h) 4)≠0;rw[c2,c3,c4];unfold abm;simp;omega)
 | 0,3,_,_,_=>exact tg _ _ _ (by show abm (cor (rct a h) 0) (cor (rct a h) 1) (cor (rct a h) 3)≠0;rw[c0,c1,c3];unfold abm;simp;omega)
 | 0,2,_,_,_=>show abW (cor (rct a h) 0) (cor (rct a h) 1) (cor (rct a h) 2) (cor (rct a h) 3)=false;rw[c0,c1,c2,c3];unfold abW abS ax;simp;omega
 | 1,3,_,_,_=>show abW (cor (rct a h) 1) (cor (rct a h) 2) (cor (rct a h) 3) (cor (rct a h) 4)=false;rw[c1,c2,c3,c4];unfold abW abS ax;simp;omega
theorem ars{h:Int}(hh:-6≤h∧h≤8):crB (qd h)=decide (h≤0):=by
 have:h=-6∨h=-5∨h=-4∨h=-3∨h=-2∨h=-1∨h=0∨h=1∨h=2∨h=3∨h=4∨h=5∨h=6∨h=7∨h=8:=by omega
 rcases this with rfl|rfl|rfl|rfl|rfl|rfl|rfl|rfl|rfl|rfl|rfl|rfl|rfl|rfl|rfl<;>decide
theorem ajD:crB rc2=false:=by decide
theorem ams{a h:Int}(ha:0<a)(hh:0<h)(room:Int):obL room (rct a h)=(a+2*room,h+2*room):=by
 unfold obL hiA loA ax
 simp[aes,ahi,ha,hh,show ¬a<0 by omega,show ¬h<0 by omega]
theorem aoD(h room:Int):(obL room (qd h)).1=9+2*room∧9+2*room≤(obL room (qd h)).2:=by
 unfold obL hiA loA ax
 simp[aes,ahi]
 repeat' (first|omega|split)
theorem alQ(room:Int):obL room rc2=(1000+2*room,5+2*room):=by
 unfold obL hiA loA ax
 simp[aes,ahi]
theorem aiJ(xs:List Int)(hn:xs.length≤1000):run true fns aao aaj (k+2) axm [.val (tI xs),.val (tI xs)] s=.ok (.val (.bl true)) s:=by
 rw[aai (F:=avf) rfl rfl]
 have hx:exs (cfX fns aao (k+1)) auk (abb avf [.val (tI xs),.val (tI xs)]) s=.ret (.val (.bl true)) s:=by
  refine(aae (σ1:=[some (.val (tI xs)),some (.val (tI xs)),none]) (s1:=s) (by simp)).trans ?_
  obtain⟨σ',e,c,rfl⟩:=acl (g:=.one 2) (body:=fun σ s=>exs (cfX fns aao (k+1)) ahF σ s) (s:=s) (fun _ σ=>∃c,σ=[some (.val (tI xs)),some (.val (tI xs)),c]) (aa4 0 xs.length) 0 [some (.val (tI xs)),some (.val (tI xs)),none] ⟨none,rfl⟩ (by
    rintro m t σ hm ⟨c,rfl⟩
    obtain⟨rfl,hlt⟩:=abf hm
    have hlt:m<xs.length:=by omega
    have hg:(iL xs)[m]?=some (.int xs[m]):=by simp[hlt]
    have h1:=alB hg
    have w1:=ahk (k:=k) (s:=s) xs[m]
    refine⟨[some (.val (tI xs)),some (.val (tI xs)),some (.val (.int m))],[some (.val (tI xs)),some (.val (tI xs)),some (.val (.int m))],by simp[aap],by simp[h1,w1],_,rfl⟩)
  refine(aae (σ1:=[some (.val (tI xs)),some (.val (tI xs)),c]) (s1:=s) ((acG (ts:=aa4 0 xs.length) (s1:=s) (adq (n:=xs.length) (by simp) hn) (by intro _ h;cases h)).trans e)).trans ?_
  simp
 rw[hx]
 rfl
theorem apL(hT:TB s){W:Int}{os:List (Int×Int)}(hn:os.length≤8)(ho:∀o∈os,anw W o):
  ∃bs:List Box,bs.length=os.length∧run true fns aao aaj (k+5) 0 [.val (.lst (os.map ob)),.val (.int W)] s=.ok (.val (afd bs)) s:=by
 obtain⟨bs,q1,q2,q3,e⟩:=alb (C:=cfX fns aao (k+4)) (s:=s) (W:=W) ⟨fun w h l hl hb hw=>by
  obtain⟨b,h1,e⟩:=are (k:=k) hT (w:=w) (h:=h) hl hb hw
  exact⟨b,h1,aaP e rfl⟩,fun b=>aaP (amo (k:=k+3) b) rfl⟩ hn ho
 exact⟨bs,q3,(aai (F:=ao0) rfl rfl).trans (congrArg (aaU true false) e)⟩
theorem aiX{C:Cf}{W:Int}{os:List (Int×Int)}(hn:os.length≤8)(hw:∃o∈os,W<o.1):exs C ajN (g0 os W none none none) s=.exc 7 (g0 os W none none none) s:=by
 have hv:=ahx (C:=C) (s:=s) (W:=W) (os:=os)
 have ha:(os.any fun o=>decide (W<o.1))=true:=by
  rw[List.any_eq_true]
  obtain⟨o,h1,h2⟩:=hw
  exact⟨o,h1,by simpa using h2⟩
 rw[ha]at hv
 refine(aae (σ1:=g0 os W none none none) (s1:=s) (by simp;omega)).trans ?_
 exact abt ((adS (aee hv)).trans (abt (by simp)))
theorem aoQ{W:Int}{os:List (Int×Int)}(hn:os.length≤8)(hw:∃o∈os,W<o.1):run true fns aao aaj (k+1) 0 [.val (.lst (os.map ob)),.val (.int W)] s=.exc 7 s:=
 (aai (F:=ao0) rfl rfl).trans (congrArg (aaU true false) (aiX (C:=cfX fns aao k) hn hw))
theorem aep{A:Ad}{B:Bk}(hb:BAt s A B){i:Nat}{c:List Spt}(h:B.pc[i]?=some c){z:Int}(hz:z < -6∨6<z):run true fns aao aaj (k+4) iz4 [slf A,.val (.int i),.val (.int z)] s=.exc xz1 s:=by
 rw[aai (F:=Fz4) rfl rfl]
 have h1:=ac4 (k:=k+1) hb h
 have h2:=ae8 (k:=k) hb (v:=ab6 c) (t:=.int z) (z:=z) rfl hz
 simp[bz4,hb.li,h1,h2]
noncomputable def lwF(a h g e:Int)(w:Int×Int):List (Int×Int):=lnZ (if w.1=0 then P0 a h g else if w.1=1 then P1 e else P2) w.2
theorem ahW{z:Int}(h:-6≤z∧z≤6):0≤azZ z∧azZ z≤6:=by unfold azZ;split<;>omega
section
variable{a h g e room:Int}(hb:(10≤a∧a≤60)∧(10≤h∧h≤60)∧(1≤g∧g≤9)∧(0≤e∧e≤8)∧(0≤room∧room≤20))
include hb
theorem anp{w:Int×Int}(hz:abG w=true):∀p∈lwF a h g e w,sml p:=by
 obtain⟨b1,b2,b3,b4,b5⟩:=hb
 have hz:=ahW (of_decide_eq_true hz)
 have hg:0≤g*azZ w.2∧g*azZ w.2≤54:=⟨Int.mul_nonneg (by omega) hz.1,Int.le_trans (Int.mul_le_mul b3.2 hz.2 hz.1 (by decide)) (by decide)⟩
 intro p hp
 unfold lwF at hp
 split at hp
 ·rw[aiA]at hp
  generalize g*azZ w.2=u at *
  simp at hp
  rcases hp with rfl|rfl|rfl|rfl<;>exact⟨by simp<;>omega,by simp<;>omega⟩
 ·split at hp
  ·rw[ai2]at hp
   simp at hp
   rcases hp with rfl|rfl|rfl|rfl<;>exact⟨by simp<;>omega,by simp<;>omega⟩
  ·rw[ahy]at hp
   simp at hp
   rcases hp with rfl|rfl|rfl|rfl<;>exact⟨by simp,by simp⟩
theorem asd{w:Int×Int}(hz:abG w=true):crB (lwF a h g e w)=decide (w.1=1∧e≤azZ w.2):=by
 obtain⟨b1,b2,b3,b4,b5⟩:=hb
 have hz:=ahW (of_decide_eq_true hz)
 have hg:0≤g*azZ w.2:=Int.mul_nonneg (by omega) hz.1
 unfold lwF
 by_cases h0:w.1=0
 ·rw[if_pos h0,aiA,ajp (by omega) (by omega)]
  exact(decide_eq_false (by omega)).symm
 ·rw[if_neg h0]
  by_cases h1:w.1=1
  ·rw[if_pos h1,ai2,ars (by omega)]
   exact decide_eq_decide.mpr ⟨fun z=>⟨h1,by omega⟩,fun z=>by omega⟩
  ·rw[if_neg h1,ahy,ajD]
   exact(decide_eq_false (by omega)).symm
noncomputable def wdF(a g:Int)(w:Int×Int):Int:=if w.1=0 then a+g*azZ w.2 else if w.1=1 then 9 else 1000
omit hb in
theorem anb(hb:(10≤a∧a≤60)∧(10≤h∧h≤60)∧(1≤g∧g≤9)∧(0≤e∧e≤8)∧(0≤room∧room≤20)){w:Int×Int}(hz:abG w=true):(obL room (lwF a h g e w)).1=wdF a g w+2*room∧0<(obL room (lwF a h g e w)).1∧0<(obL room (lwF a h g e w)).2:=by
 obtain⟨b1,b2,b3,b4,b5⟩:=hb
 have hz:=ahW (of_decide_eq_true hz)
 have hg:0≤g*azZ w.2:=Int.mul_nonneg (by omega) hz.1
 unfold lwF wdF
 by_cases h0:w.1=0
 ·rw[if_pos h0,if_pos h0,aiA,ams (by omega) (by omega)]
  exact⟨rfl,by show 0<a+g*azZ w.2+2*room;omega,by show 0<h+2*room;omega⟩
 ·rw[if_neg h0,if_neg h0]
  by_cases h1:w.1=1
  ·rw[if_pos h1,if_pos h1,ai2]
   obtain⟨q1,q2⟩:=aoD (e-azZ w.2) room
   exact⟨q1,by omega,by omega⟩
  ·rw[if_neg h1,if_neg h1,ahy,alQ]
   exact⟨rfl,by show 0<1000+2*room;omega,by show 0<5+2*room;omega⟩
theorem lo(k:Nat){A:Ad}{mk:List (List (List Spt))}(hT:TB s)(hB:BAt s A ⟨0,[P0 a h g,P1 e,P2],mk,[]⟩)(W:Int):Lo (cfX fns aao (k+6)) A s 3 (lwF a h g e) W room:=by
 have pc:∀w:Int×Int,aaR 3 w=true→∃i:Nat,w.1=i∧[P0 a h g,P1 e,P2][i]?=some (if w.1=0 then P0 a h g else if w.1=1 then P1 e else P2):=fun w hw=>by
  have hw:=of_decide_eq_true hw
  have:w.1=0∨w.1=1∨w.1=2:=by omega
  rcases this with q|q|q<;>rw[q]
  ·exact⟨0,rfl,rfl⟩
  ·exact⟨1,rfl,rfl⟩
  ·exact⟨2,rfl,rfl⟩
 refine⟨⟨_,hB.li⟩,fun ws=>?_,fun w hw hs=>?_,fun w hw hs=>?_,fun w hw hs=>?_,fun w=>?_,fun l hl=>aaP (ajT (k:=k+3) hl room) rfl,fun os hn ho=>?_,fun os hn hw=>aaP (aoQ (k:=k+5) hn hw) rfl,fun l b hl=>?_,fun w hw hs _=>(anb hb hs).2⟩
 ·refine aaP ((aai (F:=aw8) rfl rfl).trans ?_) (rfl:k+5+1=k+6)
  refine cw_any (C:=cfX fns aao (k+5)) hB.li (fun p h0 h3=>?_) (fun p hp=>?_) ws
  ·obtain⟨i,q1,q2⟩:=pc (p,0) (decide_eq_true ⟨h0,h3⟩)
   have q1:p=i:=q1
   subst q1
   exact⟨_,aaP (ac4 (k:=k+3) hB q2) rfl⟩
  ·exact aaP (afJ (k:=k+3) hB (by show p<0∨((3:Nat):Int)≤p;omega)) rfl
 ·obtain⟨i,q1,q2⟩:=pc w hw
  have:=agZ (k:=k+2) hB q2 (t:=.int w.2) (z:=w.2) rfl (of_decide_eq_true hs)
  rw[amc,←q1]at this
  exact aaP this rfl
 ·obtain⟨i,q1,q2⟩:=pc w hw
  have hz:w.2 < -6∨6<w.2:=by
   have:=of_decide_eq_false hs
   omega
  have:=aep (k:=k+2) hB q2 hz
  rw[←q1]at this
  exact aaP this rfl
 ·refine aaP (agI (k:=k+1) (anp hb hs) ?_) rfl
  unfold lwF lnZ
  rw[List.length_map]
  split
  ·simp[P0]
  ·split<;>simp[P1,P2]
 ·unfold lwF lnZ
  split
  ·simp[P0]
  ·split<;>simp[P1,P2]
 ·obtain⟨bs,h1,e⟩:=apL (k:=k+1) hT hn ho
  exact⟨bs,h1,aaP e rfl⟩
 ·obtain⟨l',e⟩:=agM (k:=k+4) (s:=s) hl room b
  exact⟨l',aaP e rfl⟩
end
noncomputable abbrev iV(i:Int):Option B:=some (.val (.int i))
noncomputable def aaZ:Option Nat→Int
 | some 6=>1|some 3=>2|some 1=>4|some 5=>8|some 7=>16 | _=>0
theorem abE{C:Cf}{g:Tg}{i:Nat}{b:List S}{σ:Fr}{ts:List T}(h:σ[i]?=some (some (.bor ts))):ex C (.for_ g (.var i) b) σ s=aaX g (fun σ s=>exs C b σ s) ts σ s:=by
 have e:ex C (.for_ g (.var i) b) σ s=(ev C (.var i) .i σ s).st σ fun x s1=>onS x.lst? fun ts=>if abg σ i then(aaX g (fun σ s=>exs C b σ s) ts (lock σ i) s1).unlock i else aaX g (fun σ s=>exs C b σ s) ts σ s1:=rfl
 have ho:abg σ i=false:=by unfold abg;rw[h]
 have hv:ev C (.var i) .i σ s=.ok (.val (.lst ts)) s:=by simp[look,h]
 rw[e,hv]
 show(if abg σ i=true then _ else _)=_
 rw[ho]
 rfl
theorem agN{p z a g:Int}(hp:0≤p∧p<3)(hg:1≤g∧g≤9):run true fns aao aaj (k+1) 41 [.val (.int p),.val (.int z),.val (.int a),.val (.int g)] s=.ok (.val (.int (wdF a g (p,z)))) s:=by
 rw[aai (F:=awq) rfl rfl]
 have m:=aaT (i:=g) (j:=if z<0 then -z else z) (aav (by omega))
 have:p=0∨p=1∨p=2:=by omega
 rcases this with rfl|rfl|rfl
 ·have q:aaW (.val (.lst [.int (a+g*if z<0 then -z else z),.int 9,.int 1000])) 0=some (.int (a+g*if z<0 then -z else z)):=rfl
  simp[aoU,m,q,wdF,azZ]
 ·have q:aaW (.val (.lst [.int (a+g*if z<0 then -z else z),.int 9,.int 1000])) 1=some (.int 9):=rfl
  simp[aoU,m,q,wdF,azZ]
 ·have q:aaW (.val (.lst [.int (a+g*if z<0 then -z else z),.int 9,.int 1000])) 2=some (.int 1000):=rfl
  simp[aoU,m,q,wdF,azZ]
section
variable{a h g e room W:Int}{ws0:List (Int×Int)}
noncomputable abbrev gd(ws:List (Int×Int))(W room a g e:Int)(v6 v7:Option B):Fr:=[some (.bor (ws.map ob)),iV W,iV room,iV a,iV g,iV e,v6,v7]
theorem acs{C:Cf}{body:List S}{c:Int}(q:Int×Int→Bool):∀(ws:List (Int×Int)) (v6 v7:Option B),(∀w∈ws,exs C body (gd ws0 W room a g e (iV w.1) (iV w.2)) s=if q w=true then .ret (.val (.int c)) s else .next (gd ws0 W room a g e (iV w.1) (iV w.2)) s)→
  match ws.any q with
  | true=>aaX (.many [6,7]) (fun σ s=>exs C body σ s) (ws.map ob) (gd ws0 W room a g e v6 v7) s=.ret (.val (.int c)) s
  | false=>∃v6' v7',aaX (.many [6,7]) (fun σ s=>exs C body σ s) (ws.map ob) (gd ws0 W room a g e v6 v7) s=.next (gd ws0 W room a g e v6' v7') s
 | [],v6,v7,_=>⟨v6,v7,rfl⟩
 | w::ws,v6,v7,hq=>by
  have ih:=acs q ws (iV w.1) (iV w.2) fun x hx=>hq x (List.mem_cons_of_mem _ hx)
  have h1:=hq w (by simp)
  rw[List.any_cons]
  have e0:aaX (.many [6,7]) (fun σ s=>exs C body σ s) ((w::ws).map ob) (gd ws0 W room a g e v6 v7) s=(exs C body (gd ws0 W room a g e (iV w.1) (iV w.2)) s).bind fun σ s=>aaX (.many [6,7]) (fun σ s=>exs C body σ s) (ws.map ob) σ s:=rfl
  rw[e0,h1]
  cases hw:q w with
  | true=>rfl
  | false=>exact ih
theorem als{C:Cf}(hb:(10≤a∧a≤60)∧(10≤h∧h≤60)∧(1≤g∧g≤9)∧(0≤e∧e≤8)∧(0≤room∧room≤20))(hw:∀w:Int×Int,aaR 3 w=true→C.cf 41 [.val (.int w.1),.val (.int w.2),.val (.int a),.val (.int g)] s=.ok (.val (.int (wdF a g w))) s)(ws:List (Int×Int)):
  exs C atY (gd ws W room a g e none none) s=.ret (.val (.int (aaZ (af2 3 (lwF a h g e) W room ws)))) s:=by
 unfold af2 cwR
 by_cases h8:8<ws.length
 ·rw[if_pos h8]
  have:(8:Int)<(ws.length:Int):=by omega
  exact aaE (by simp[this,aaZ])
 ·rw[if_neg h8]
  refine(aae (σ1:=gd ws W room a g e none none) (s1:=s) (by simp;omega)).trans ?_
  have L0:=acs (C:=C) (s:=s) (ws0:=ws) (W:=W) (room:=room) (a:=a) (g:=g) (e:=e) (body:=aia) (c:=2) (fun w=>!aaR 3 w) ws none none (fun w _=>by
   by_cases q:0≤w.1∧w.1<3
   ·have:aaR 3 w=true:=decide_eq_true q
    simp[this,show ¬w.1<0 by omega,show ¬2<w.1 by omega]
   ·have:aaR 3 w=false:=decide_eq_false q
    by_cases q2:w.1<0
    ·simp[this,q2]
    ·simp[this,q2,show 2<w.1 by omega])
  rw[←List.not_all_eq_any_not]at L0
  by_cases ht:ws.all (aaR 3)=true
  ·rw[if_pos ht]
   rw[ht]at L0
   have hth:=List.all_eq_true.mp ht
   obtain⟨v6,v7,L0⟩:=L0
   refine(aae ((abE rfl).trans L0)).trans ?_
   have L1:=acs (C:=C) (s:=s) (ws0:=ws) (W:=W) (room:=room) (a:=a) (g:=g) (e:=e) (body:=ai5) (c:=4) (fun w=>!abG w) ws v6 v7 (fun w _=>by
    by_cases q:-6≤w.2∧w.2≤6
    ·have:abG w=true:=decide_eq_true q
     simp[this,show ¬w.2 < -6 by omega,show ¬6<w.2 by omega]
    ·have:abG w=false:=decide_eq_false q
     by_cases q2:w.2 < -6
     ·simp[this,q2]
     ·simp[this,q2,show 6<w.2 by omega])
   rw[←List.not_all_eq_any_not]at L1
   show exs C _ _ s=.ret (.val (.int (aaZ (if ws.all abG=true then _ else some 1)))) s
   by_cases hz:ws.all abG=true
   ·rw[if_pos hz]
    rw[hz]at L1
    have hsz:=List.all_eq_true.mp hz
    obtain⟨v6,v7,L1⟩:=L1
    refine(aae ((abE rfl).trans L1)).trans ?_
    have L2:=acs (C:=C) (s:=s) (ws0:=ws) (W:=W) (room:=room) (a:=a) (g:=g) (e:=e) (body:=ahq) (c:=8) (fun w=>crB (lwF a h g e w)) ws v6 v7 (fun w hm=>by
     rw[asd hb (hsz w hm)]
     by_cases q1:w.1=1
     ·by_cases q2:e≤azZ w.2
      ·have q2':=q2
       unfold azZ at q2'
       simp[q1,q2,q2']
      ·have q2':=q2
       unfold azZ at q2'
       simp[q1,q2,q2']
     ·simp[q1])
    cases hcr:ws.any (fun w=>crB (lwF a h g e w))with
    | true=>
     rw[hcr]at L2
     exact aaE ((abE rfl).trans L2)
    | false=>
     rw[hcr]at L2
     obtain⟨v6,v7,L2⟩:=L2
     refine(aae ((abE rfl).trans L2)).trans ?_
     have L3:=acs (C:=C) (s:=s) (ws0:=ws) (W:=W) (room:=room) (a:=a) (g:=g) (e:=e) (body:=aiw) (c:=16) (fun w=>decide (W<(obL room (lwF a h g e w)).1)) ws v6 v7 (fun w hm=>by
      rw[(anb hb (hsz w hm)).1]
      have e1:=hw w (hth w hm)
      have m2:=aaT (i:=2) (j:=room) (aav (by decide))
      generalize wdF a g w=u at *
      by_cases q1:W<u+2*room
      ·simp[e1,m2,q1]
      ·simp[e1,m2,q1])
     cases hwd:ws.any (fun w=>decide (W<(obL room (lwF a h g e w)).1))with
     | true=>
      rw[hwd]at L3
      exact aaE ((abE rfl).trans L3)
     | false=>
      rw[hwd]at L3
      obtain⟨v6,v7,L3⟩:=L3
      refine(aae ((abE rfl).trans L3)).trans ?_
      exact aaE (by simp[aaZ])
   ·rw[if_neg hz]
    have hz:=Bool.eq_false_iff.mpr hz
    rw[hz]at L1
    exact aaE ((abE rfl).trans L1)
  ·rw[if_neg ht]
   have ht:=Bool.eq_false_iff.mpr ht
   rw[ht]at L0
   exact aaE ((abE rfl).trans L0)
end
theorem akK(l:List (List Int))(hn:l.length≤1000)(hm:∀xs∈l,xs.length≤1000):run true fns aao aaj (k+3) awM [.val (tIs l),.bor (l.map tI)] s=.ok (.val (.bl true)) s:=by
 rw[aai (F:=av7) rfl rfl]
 have hx:exs (cfX fns aao (k+2)) asc (abb av7 [.val (tIs l),.bor (l.map tI)]) s=.ret (.val (.bl true)) s:=by
  refine(aae (σ1:=[some (.val (tIs l)),some (.bor (l.map tI)),none]) (s1:=s) (by simp)).trans ?_
  obtain⟨σ',e,c,rfl⟩:=acl (g:=.one 2) (body:=fun σ s=>exs (cfX fns aao (k+2)) ah4 σ s) (s:=s) (fun _ σ=>∃c,σ=[some (.val (tIs l)),some (.bor (l.map tI)),c]) (aa4 0 l.length) 0 [some (.val (tIs l)),some (.bor (l.map tI)),none] ⟨none,rfl⟩ (by
    rintro m t σ hm' ⟨c,rfl⟩
    obtain⟨rfl,hlt⟩:=abf hm'
    have hlt:m<l.length:=by omega
    have hg:(l.map tI)[m]?=some (tI l[m]):=by simp[hlt]
    have h1:=ae3 hg
    have h2:=ahm hg
    have w1:=aiJ (k:=k) (s:=s) l[m] (hm _ (List.getElem_mem hlt))
    refine⟨[some (.val (tIs l)),some (.bor (l.map tI)),some (.val (.int m))],[some (.val (tIs l)),some (.bor (l.map tI)),some (.val (.int m))],by simp[aap],by simp[h1,h2,w1],_,rfl⟩)
  refine(aae (σ1:=[some (.val (tIs l)),some (.bor (l.map tI)),c]) (s1:=s) ((acG (ts:=aa4 0 l.length) (s1:=s) (adq (n:=l.length) (by simp) hn) (by intro _ h;cases h)).trans e)).trans ?_
  simp
 rw[hx]
 rfl
theorem anE(m:Int)(xs:List T):run true fns aao aaj (k+2) awu [.val (.tup [.int m,.lst xs]),.val (.int xs.length)] s=.ok (.val (.bl true)) s:=by
 rw[aai (F:=avZ) rfl rfl]
 have w:=ahk (k:=k) (s:=s) m
 have q0:aaW (.val (.tup [.int m,.lst xs])) 0=some (.int m):=rfl
 have q1:aaW (.val (.tup [.int m,.lst xs])) 1=some (.lst xs):=rfl
 simp[aqF,w,q0,q1]
noncomputable def akl(o:Option Nat)(n:Nat)(s:Sto)(r:Res R):Prop:=match o with
 | some d=>r=.exc d s
 | none=>∃m xs,xs.length=n∧r=.ok (.val (.tup [.int m,.lst xs])) s
theorem ah7{A:Ad}{n:Nat}{lw:Int×Int→List (Int×Int)}{W room:Int}(hC:Lo (cfX fns aao (k+6)) A s n lw W room)(ws:List (Int×Int)):
  akl (af2 n lw W room ws) ws.length s (run true fns aao aaj (k+7) 15 [slf A,.val (.lst (ws.map ob)),.val (.int W),.val (.int room)] s):=by
 have h:=aoa hC ws
 rw[aai (F:=an6) rfl rfl]
 unfold akl
 cases hd:af2 n lw W room ws with
 | some d=>
  rw[hd]at h
  obtain⟨σ',e⟩:=h
  have e:exs (cfX fns aao (k+6)) an6.body (abb an6 [slf A,.val (.lst (ws.map ob)),.val (.int W),.val (.int room)]) s=.exc d σ' s:=e
  rw[e]
  rfl
 | none=>
  rw[hd]at h
  obtain⟨m,xs,h1,e⟩:=h
  have e:exs (cfX fns aao (k+6)) an6.body (abb an6 [slf A,.val (.lst (ws.map ob)),.val (.int W),.val (.int room)]) s=.ret (.val (.tup [.int m,.lst xs])) s:=e
  exact⟨m,xs,h1,by rw[e];rfl⟩
theorem ak2{n:Nat}{lw:Int×Int→List (Int×Int)}{W room:Int}{ws:List (Int×Int)}{d:Nat}(h:af2 n lw W room ws=some d):d=6∨d=3∨d=1∨d=5∨d=7:=by
 unfold af2 cwR at h
 by_cases h8:8<ws.length
 ·rw[if_pos h8]at h;cases h;simp
 ·rw[if_neg h8]at h
  by_cases ht:ws.all (aaR n)=true
  ·rw[if_pos ht]at h
   have h:(if ws.all abG=true then(if(ws.any fun w=>crB (lw w))=true then some 5 else if(ws.any fun w=>decide (W<(obL room (lw w)).1))=true then some 7 else none)else some 1)=some d:=h
   split at h
   ·split at h
    ·cases h;simp
    ·split at h
     ·cases h;simp
     ·cases h
   ·cases h;simp
  ·rw[if_neg ht]at h;cases h;simp
noncomputable abbrev ga(A:Ad)(ws:List (Int×Int))(W room:Int)(v4 v5 v6:Option B):Fr:=[some (.val (.loc A.o)),some (.val (.lst (ws.map ob))),iV W,iV room,v4,v5,v6]
theorem aim{C:Cf}(hs:C.sub=aao){A:Ad}{ws:List (Int×Int)}{W room:Int}{o:Option Nat}(hin:∀d,o=some d→d=6∨d=3∨d=1∨d=5∨d=7){n:Nat}
  (h:akl o n s (C.cf 15 [slf A,.val (.lst (ws.map ob)),.val (.int W),.val (.int room)] s)):
  ∃f:T,exs C anN (ga A ws W room none none none) s=.ret (.val (.tup [.int (aaZ o),f])) s∧(o=none→∃m xs,xs.length=n∧f=.tup [.int m,.lst xs]):=by
 have e1:exs C anN (ga A ws W room none none none) s=exs C (anN.drop 2) (ga A ws W room (iV 0) (some (.val .non)) none) s:=(aae (σ1:=ga A ws W room (iV 0) none none) (s1:=s) (by simp)).trans (aae (by simp))
 unfold akl at h
 cases o with
 | some d=>
  have h:C.cf 15 [.val (.loc A.o),.val (.lst (ws.map ob)),.val (.int W),.val (.int room)] s=.exc d s:=h
  refine⟨.non,?_,fun z=>by cases z⟩
  rw[e1]
  have hb:exs C afx (ga A ws W room (iV 0) (some (.val .non)) none) s=.exc d (ga A ws W room (iV 0) (some (.val .non)) none) s:=by
   refine abt ?_
   by_cases h0:room=0
   ·subst h0
    simp[h]
   ·simp[h,h0]
  have m2:∀b:Bool,opR .mul (.val (.int 2)) (.val (.int (if b=true then 1 else 0)))=some (.val (.int (2*(if b=true then 1 else 0)))):=fun b=>aaT (aav (by decide))
  have m4:∀b:Bool,opR .mul (.val (.int 4)) (.val (.int (if b=true then 1 else 0)))=some (.val (.int (4*(if b=true then 1 else 0)))):=fun b=>aaT (aav (by decide))
  have m8:∀b:Bool,opR .mul (.val (.int 8)) (.val (.int (if b=true then 1 else 0)))=some (.val (.int (8*(if b=true then 1 else 0)))):=fun b=>aaT (aav (by decide))
  have m16:∀b:Bool,opR .mul (.val (.int 16)) (.val (.int (if b=true then 1 else 0)))=some (.val (.int (16*(if b=true then 1 else 0)))):=fun b=>aaT (aav (by decide))
  have hh:exs C afn (put (ga A ws W room (iV 0) (some (.val .non)) none) 6 (.exc d)) s=.next (ga A ws W room (iV (aaZ (some d))) (some (.val .non)) (some (.val (.exc d)))) s:=by
   show exs C afn (ga A ws W room (iV 0) (some (.val .non)) (some (.val (.exc d)))) s=_
   have k2:=m2 (aao d 3)
   have k4:=m4 (aao d 1)
   have k8:=m8 (aao d 5)
   have k16:=m16 (aao d 7)
   have key:(if aao d 6=true then 1 else 0)+2*(if aao d 3=true then 1 else 0)+4*(if aao d 1=true then 1 else 0)+8*(if aao d 5=true then 1 else 0)+16*(if aao d 7=true then(1:Int)else 0)=aaZ (some d):=by
    rcases hin d rfl with rfl|rfl|rfl|rfl|rfl<;>rfl
   rw[←key]
   refine(aae (σ1:=[some (.val (.loc A.o)),some (.val (.lst (ws.map ob))),iV W,iV room,iV ((if aao d 6=true then 1 else 0)+2*(if aao d 3=true then 1 else 0)+4*(if aao d 1=true then 1 else 0)),some (.val .non),some (.val (.exc d))]) (s1:=s) (by simp[hs,k2,k4])).trans ?_
   refine(aae (σ1:=[some (.val (.loc A.o)),some (.val (.lst (ws.map ob))),iV W,iV room,iV ((if aao d 6=true then 1 else 0)+2*(if aao d 3=true then 1 else 0)+4*(if aao d 1=true then 1 else 0)+8*(if aao d 5=true then 1 else 0)+16*(if aao d 7=true then 1 else 0)),some (.val .non),some (.val (.exc d))]) (s1:=s) (by simp[hs,k8,k16])).trans ac5
  have hd0:aao d 0=true:=by rcases hin d rfl with rfl|rfl|rfl|rfl|rfl<;>rfl
  refine(aae (agT (i:=6) hb (by rw[hs];exact hd0) hh)).trans ?_
  simp
 | none=>
  obtain⟨m,xs,hl,h⟩:=h
  have h:C.cf 15 [.val (.loc A.o),.val (.lst (ws.map ob)),.val (.int W),.val (.int room)] s=.ok (.val (.tup [.int m,.lst xs])) s:=h
  refine⟨.tup [.int m,.lst xs],?_,fun _=>⟨m,xs,hl,rfl⟩⟩
  rw[e1]
  have hb:exs C afx (ga A ws W room (iV 0) (some (.val .non)) none) s=.next (ga A ws W room (iV 0) (some (.val (.tup [.int m,.lst xs]))) none) s:=by
   refine(aae ?_).trans ac5
   by_cases h0:room=0
   ·subst h0
    simp[h]
   ·simp[h,h0]
  refine(aae (aii hb)).trans ?_
  simp[aaZ]
end Pg
end IP
end
section
namespace IP
namespace Pg
open L2 LayM
variable{k:Nat}{s:Sto}{l:List (Int×Int)}{a h g e room W:Int}
theorem afY(hT:TB s):0<s.length:=by
 cases s with
 | nil=>unfold TB aeB at hT;simp at hT
 | cons _ _=>simp
theorem adO{fp:List Nat}{s':Sto}(hT:TB s)(K:aoL fp s s')(h0:0∉fp):TB s':=by
 have:=K.2 0 (afY hT) h0
 unfold TB aeB at *
 rw[this]
 exact hT
noncomputable abbrev Bnd(a h g e room:Int):Prop:=(10≤a∧a≤60)∧(10≤h∧h≤60)∧(1≤g∧g≤9)∧(0≤e∧e≤8)∧(0≤room∧room≤20)
theorem anA(hb:Bnd a h g e room):∀p∈P0 a h g,p.fit:=fun p hp=>by
 obtain⟨b1,b2,b3,b4,b5⟩:=hb
 simp[P0]at hp
 rcases hp with rfl|rfl|rfl|rfl<;>simp[Spt.fit]<;>omega
theorem anB(hb:Bnd a h g e room):∀p∈P1 e,p.fit:=fun p hp=>by
 obtain⟨b1,b2,b3,b4,b5⟩:=hb
 simp[P1]at hp
 rcases hp with rfl|rfl|rfl|rfl<;>simp[Spt.fit]<;>omega
theorem aoM:∀p∈P2,p.fit:=fun p hp=>by
 simp[P2]at hp
 rcases hp with rfl|rfl|rfl|rfl<;>simp[Spt.fit]
noncomputable abbrev fb(a h g e:Int)(v4 v5:Option B):Fr:=[iV a,iV h,iV g,iV e,v4,v5]
theorem amY(hT:TB s)(hb:Bnd a h g e room):∃s' A mk,run true fns aao aaj (k+6) 40 [.val (.int a),.val (.int h),.val (.int g),.val (.int e)] s=.ok (slf A) s'∧TB s'∧BAt s' A ⟨0,[P0 a h g,P1 e,P2],mk,[]⟩:=by
 obtain⟨s1,A0,E1,B1,K1,l1,f1⟩:=anR (k:=k+4) (σ:=fb a h g e none none) s
 have hp:=afY hT
 have n0:0∉A0.fp:=fun z=>by have:=f1 0 z;omega
 have T1:=adO hT K1 (by simp)
 have hp1:=afY T1
 obtain⟨s2,E2,B2,K2,_⟩:=abX (k:=k+1) B1 (P0 a h g) ((P0 a h g).map fun _=>[]) (t:=.non) (.inr ⟨rfl,rfl⟩) (by simp) (by simp[P0]) (by simp[P0]) (by simp) (fun l hl=>by obtain⟨_,_,rfl⟩:=List.mem_map.mp hl;simp) (anA hb) (fun l hl=>by obtain⟨_,_,rfl⟩:=List.mem_map.mp hl;simp) (by simp)
 have T2:=adO T1 K2 n0
 have hp2:=afY T2
 obtain⟨A1,hA1⟩:∃A1:Ad,A1=⟨A0.o,A0.a,A0.b,A0.c,A0.ls++[s1.length]⟩:=⟨_,rfl⟩
 rw[←hA1]at B2
 have o1:A0.o=A1.o:=by rw[hA1]
 have n1:0∉A1.fp:=by
  rw[hA1]
  intro z
  have z:0∈A0.fp++[s1.length]:=z
  rcases List.mem_append.mp z with q|q
  ·exact n0 q
  ·have:=List.mem_singleton.mp q;omega
 obtain⟨s3,E3,B3,K3,_⟩:=abX (k:=k+1) B2 (P1 e) ((P1 e).map fun _=>[]) (t:=.non) (.inr ⟨rfl,rfl⟩) (by simp) (by simp[P1]) (by simp[P1]) (by simp) (fun l hl=>by obtain⟨_,_,rfl⟩:=List.mem_map.mp hl;simp) (anB hb) (fun l hl=>by obtain⟨_,_,rfl⟩:=List.mem_map.mp hl;simp) (by simp)
 have T3:=adO T2 K3 n1
 obtain⟨A2,hA2⟩:∃A2:Ad,A2=⟨A1.o,A1.a,A1.b,A1.c,A1.ls++[s2.length]⟩:=⟨_,rfl⟩
 rw[←hA2]at B3
 have o2:A1.o=A2.o:=by rw[hA2]
 have n2:0∉A2.fp:=by
  rw[hA2]
  intro z
  have z:0∈A1.fp++[s2.length]:=z
  rcases List.mem_append.mp z with q|q
  ·exact n1 q
  ·have:=List.mem_singleton.mp q;omega
 obtain⟨s4,E4,B4,K4,_⟩:=abX (k:=k+1) B3 P2 (P2.map fun _=>[]) (t:=.non) (.inr ⟨rfl,rfl⟩) (by simp) (by simp[P2]) (by simp[P2]) (by simp) (fun l hl=>by obtain⟨_,_,rfl⟩:=List.mem_map.mp hl;simp) aoM (fun l hl=>by obtain⟨_,_,rfl⟩:=List.mem_map.mp hl;simp) (by simp)
 have T4:=adO T3 K4 n2
 refine⟨s4,_,_,?_,T4,B4⟩
 have E2:(cfX fns aao (k+5)).cf 25 [.val (.loc A0.o),.val (.lst [.tup [.int 0,.int 0,.int 0,.int 0,.int 0,.int 0],.tup [.int a,.int 0,.int g,.int 0,.int g,.int 0],.tup [.int a,.int h,.int g,.int 0,.int g,.int 0],.tup [.int 0,.int h,.int 0,.int 0,.int 0,.int 0]]),.val .non] s1=.ok (.val (.int 0)) s2:=aaP E2 rfl
 have E3:(cfX fns aao (k+5)).cf 25 [.val (.loc A0.o),.val (.lst [.tup [.int 0,.int 0,.int 0,.int 0,.int 0,.int 0],.tup [.int 9,.int 0,.int 0,.int 0,.int 0,.int 0],.tup [.int 9,.int e,.int 0,.int (-1),.int 0,.int (-1)],.tup [.int 0,.int 9,.int 0,.int 0,.int 0,.int 0]]),.val .non] s2=.ok (.val (.int 1)) s3:=by rw[o1];exact aaP E3 rfl
 have E4:(cfX fns aao (k+5)).cf 25 [.val (.loc A0.o),.val (.lst [.tup [.int (-500),.int 0,.int 0,.int 0,.int 0,.int 0],.tup [.int 500,.int 0,.int 0,.int 0,.int 0,.int 0],.tup [.int 500,.int 5,.int 0,.int 0,.int 0,.int 0],.tup [.int (-500),.int 5,.int 0,.int 0,.int 0,.int 0]]),.val .non] s3=.ok (.val (.int 2)) s4:=by rw[o1,o2];exact aaP E4 rfl
 have li1:=B1.li
 have li2:=B2.li
 have li3:=B3.li
 rw[←o1]at li2
 rw[←o2,←o1]at li3
 show _=Res.ok (R.val (.loc A2.o)) s4
 rw[←o2,←o1]
 clear B1 B2 B3 B4 K1 K2 K3 K4 T1 T2 T3 T4
 rw[aai (F:=awe) rfl rfl]
 refine(congrArg (aaU true false) (a₂:=.ret (.val (.loc A0.o)) s4) ?_).trans rfl
 generalize cfX fns aao (k+5)=C at *
 refine(aae (σ1:=fb a h g e (some (.val (.loc A0.o))) none) (s1:=s1) (aev E1)).trans ?_
 refine(aae (σ1:=fb a h g e (some (.val (.loc A0.o))) (some (.val (.lst [.tup [.int a,.int 0,.int g,.int 0,.int g,.int 0],.tup [.int a,.int h,.int g,.int 0,.int g,.int 0]])))) (s1:=s1) (by simp)).trans ?_
 have a1:=acr (a:=[.tup [.int 0,.int 0,.int 0,.int 0,.int 0,.int 0]]) (b:=[.tup [.int a,.int 0,.int g,.int 0,.int g,.int 0],.tup [.int a,.int h,.int g,.int 0,.int g,.int 0]]) (by simp)
 have a2:=acr (a:=[.tup [.int 0,.int 0,.int 0,.int 0,.int 0,.int 0]]++[.tup [.int a,.int 0,.int g,.int 0,.int g,.int 0],.tup [.int a,.int h,.int g,.int 0,.int g,.int 0]]) (b:=[.tup [.int 0,.int h,.int 0,.int 0,.int 0,.int 0]]) (by simp)
 simp only[List.cons_append,List.nil_append]at a1 a2
 refine(aae (σ1:=fb a h g e (some (.val (.loc A0.o))) (some (.val (.lst [.tup [.int a,.int 0,.int g,.int 0,.int g,.int 0],.tup [.int a,.int h,.int g,.int 0,.int g,.int 0]])))) (s1:=s2) (by simp[li1,a1,a2,E2])).trans ?_
 refine(aae (σ1:=fb a h g e (some (.val (.loc A0.o))) (some (.val (.lst [.tup [.int a,.int 0,.int g,.int 0,.int g,.int 0],.tup [.int a,.int h,.int g,.int 0,.int g,.int 0]])))) (s1:=s3) (by simp[li2,E3])).trans ?_
 refine(aae (σ1:=fb a h g e (some (.val (.loc A0.o))) (some (.val (.lst [.tup [.int a,.int 0,.int g,.int 0,.int g,.int 0],.tup [.int a,.int h,.int g,.int 0,.int g,.int 0]])))) (s1:=s4) (by simp[li3,E4])).trans ?_
 simp
structure Has(C:Cf)(ns:List Int)(s0:Sto):Prop where
 stir:∃row:List Int,row.length=24∧(∀v∈row,aby v)∧C.cf 37 [.val (.lst (iL ns)),.val (.int 24)] s0=.ok (.val (.lst (iL row))) s0
 book:∀a h g e:Int,Bnd a h g e 0→∃s' A mk,C.cf 40 [.val (.int a),.val (.int h),.val (.int g),.val (.int e)] s0=.ok (slf A) s'∧TB s'∧BAt s' A ⟨0,[P0 a h g,P1 e,P2],mk,[]⟩
 asked:∀(s:Sto) (A:Ad) (mk:List (List (List Spt))) (a h g e room W:Int) (ws:List (Int×Int)),TB s→BAt s A ⟨0,[P0 a h g,P1 e,P2],mk,[]⟩→Bnd a h g e room→
  ∃f:T,C.cf 43 [slf A,.val (.lst (ws.map ob)),.val (.int W),.val (.int room)] s=.ok (.val (.tup [.int (aaZ (af2 3 (lwF a h g e) W room ws)),f])) s∧(af2 3 (lwF a h g e) W room ws=none→∃m xs,xs.length=ws.length∧f=.tup [.int m,.lst xs])
 due:∀(s:Sto) (a h g e room W:Int) (ws:List (Int×Int)),Bnd a h g e room→C.cf 42 [.bor (ws.map ob),.val (.int W),.val (.int room),.val (.int a),.val (.int g),.val (.int e)] s=.ok (.val (.int (aaZ (af2 3 (lwF a h g e) W room ws)))) s
 rows:∀(s:Sto) (ws:List (Int×Int)),ws.length≤1000→C.cf 38 [.val (.lst (ws.map ob)),.bor (ws.map ob)] s=.ok (.val (.bl true)) s
 told:∀(s:Sto) (m:Int) (xs:List T),C.cf 44 [.val (.tup [.int m,.lst xs]),.val (.int xs.length)] s=.ok (.val (.bl true)) s
theorem has(k:Nat)(ns:List Int)(hT:TB s):Has (cfX fns aao (k+8)) ns s where
 stir:=by
  obtain⟨row,h1,h2,h3⟩:=aol (k:=k+6) (s:=s) ns 24 (by decide)
  exact⟨row,h1,h2,aaP h3 rfl⟩
 book:=fun a h g e hb=>by
  obtain⟨s',A,mk,q,t,b⟩:=amY (k:=k+2) hT hb
  exact⟨s',A,mk,aaP q rfl,t,b⟩
 asked:=fun s A mk a h g e room W ws hT hB hb=>by
  have h1:=ah7 (lo hb k hT hB W) ws
  obtain⟨f,q1,q2⟩:=aim (C:=cfX fns aao (k+7)) rfl (n:=ws.length) (o:=af2 3 (lwF a h g e) W room ws) (fun d hd=>ak2 hd) h1
  exact⟨f,aaP ((aai (F:=aw7) rfl rfl).trans (congrArg (aaU true false) q1)) rfl,q2⟩
 due:=fun s a h g e room W ws hb=>aaP ((aai (F:=awN) rfl rfl).trans (congrArg (aaU true false) (als (C:=cfX fns aao (k+7)) hb (fun w hw=>aaP (agN (k:=k+6) (by have:=of_decide_eq_true hw;exact⟨this.1,this.2⟩) hb.2.2.1) rfl) ws))) rfl
 rows:=fun s ws hn=>by
  have:=akK (k:=k+5) (s:=s) (ws.map fun w=>[w.1,w.2]) (by simpa using hn) (fun xs hx=>by obtain⟨_,_,rfl⟩:=List.mem_map.mp hx;simp)
  rw[tIs,List.map_map]at this
  exact aaP this rfl
 told:=fun s m xs=>aaP (anE (k:=k+6) m xs) rfl
end Pg
end IP
end
section
namespace IP
namespace Pg
open L2 LayM
variable{k:Nat}{s:Sto}{ns row:List Int}{a h g e room W:Int}
theorem anZ{a b z:Int}(h0:0≤z)(h1:z<2):∃v,aaW (.val (.lst [.int a,.int b])) z=some (.int v):=by
 have:z=0∨z=1:=by omega
 rcases this with rfl|rfl
 ·exact⟨a,rfl⟩
 ·exact⟨b,rfl⟩
theorem aue{a b c z:Int}(h0:0≤z)(h1:z<3):∃v,aaW (.val (.lst [.int a,.int b,.int c])) z=some (.int v):=by
 have:z=0∨z=1∨z=2:=by omega
 rcases this with rfl|rfl|rfl
 ·exact⟨a,rfl⟩
 ·exact⟨b,rfl⟩
 ·exact⟨c,rfl⟩
theorem amn{n i:Nat}(h:i<n):L2.ixN n (i:Int)=some i:=by
 unfold L2.ixN
 rw[if_pos (by omega)]
 simp[h]
theorem aoJ(os:List (Int×Int)):adr .ne (.bor (os.map ob)) (.val (.lst []))=some (!os.isEmpty):=by
 cases os with
 | nil=>rfl
 | cons a r=>rfl
theorem auC(z x y:Int):∃b,adr .mem (.val (.int z)) (.val (.tup [.int x,.int y]))=some b:=by
 have e:∀x:Int,eqT (.int x) (.int z)=some (x==z):=fun x=>by first|rfl|simp[eqT,eqD]
 refine⟨x==z||(y==z||false),?_⟩
 show aiR (.int z) [.int x,.int y]=_
 simp only[aiR,e]
noncomputable abbrev gL(ns row:List Int)(a h g e:Int)(v6 v7 v8 v9 v10 v11 v12 v13:Option B):Fr:=[some (.val (.lst (iL ns))),some (.val (.lst (iL row))),iV a,iV h,iV g,iV e,v6,v7,v8,v9,v10,v11,v12,v13]
noncomputable abbrev ow(ws:List (Int×Int)):Option B:=some (.own (ws.map ob))
theorem ak1{C:Cf}{M I Tp:E}{v6 v8:Option B}{ws:List (Int×Int)}(hM:∃b,ev C M .t (gL ns row a h g e v6 (ow ws) v8 none none none none none) s=.ok (.val (.bl b)) s)
  (hI:ws≠[]→∃i:Nat,i<ws.length∧ev C I .v (gL ns row a h g e v6 (ow ws) v8 none none none none none) s=.ok (.val (.int i)) s)
  (hT:∃o,ev C Tp .v (gL ns row a h g e v6 (ow ws) v8 none none none none none) s=.ok (.val (ob o)) s):
  ∃ws':List (Int×Int),ws'.length=ws.length∧ex C (.ifs (.and (.cmp .ne (.var 7) (.lst [])) M) [.put 7 I Tp] []) (gL ns row a h g e v6 (ow ws) v8 none none none none none) s=.next (gL ns row a h g e v6 (ow ws') v8 none none none none none) s:=by
 have hn:=aoJ ws
 have e0:ev C (.cmp .ne (.var 7) (.lst [])) .t (gL ns row a h g e v6 (ow ws) v8 none none none none none) s=.ok (.val (.bl (!ws.isEmpty))) s:=by
  simp[hn]
 have e1:∀b,ev C M .t (gL ns row a h g e v6 (ow ws) v8 none none none none none) s=.ok (.val (.bl b)) s→ev C (.and (.cmp .ne (.var 7) (.lst [])) M) .t (gL ns row a h g e v6 (ow ws) v8 none none none none none) s=.ok (.val (.bl (!ws.isEmpty&&b))) s:=fun b hb=>by
  rw[show ev C (.and (.cmp .ne (.var 7) (.lst [])) M) .t (gL ns row a h g e v6 (ow ws) v8 none none none none none) s=(ev C (.cmp .ne (.var 7) (.lst [])) .t (gL ns row a h g e v6 (ow ws) v8 none none none none none) s).bind fun x s1=>onB x (ev C M .t (gL ns row a h g e v6 (ow ws) v8 none none none none none) s1) (.ok (.val (.bl false)) s1)from by simp only[ev],e0]
  cases ws.isEmpty with
  | true=>rfl
  | false=>exact hb
 obtain⟨b,hb⟩:=hM
 have e2:=e1 b hb
 cases hc:(!ws.isEmpty&&b)with
 | false=>
  rw[hc]at e2
  exact⟨ws,rfl,(agh e2).trans ac5⟩
 | true=>
  rw[hc]at e2
  have hne:ws≠[]:=by
   intro z
   subst z
   simp at hc
  obtain⟨i,hi,eI⟩:=hI hne
  obtain⟨o,eT⟩:=hT
  refine⟨ws.set i o,by simp,(adS e2).trans ((aae ?_).trans ac5)⟩
  have hx:L2.ixN (ws.map ob).length (i:Int)=some i:=amn (by simpa using hi)
  rw[show ex C (.put 7 I Tp) (gL ns row a h g e v6 (ow ws) v8 none none none none none) s=onS (acd (gL ns row a h g e v6 (ow ws) v8 none none none none none) 7) fun ts=>(ev C Tp .v (gL ns row a h g e v6 (ow ws) v8 none none none none none) s).st (gL ns row a h g e v6 (ow ws) v8 none none none none none) fun x s1=>onS x.val? fun t=>(ev C I .v (gL ns row a h g e v6 (ow ws) v8 none none none none none) s1).st (gL ns row a h g e v6 (ow ws) v8 none none none none none) fun y s2=>onS y.int? fun k=>onS (L2.ixN ts.length k) fun n=>.next (aaH (gL ns row a h g e v6 (ow ws) v8 none none none none none) 7 (ts.set n t)) s2 from by simp only[ex],eT]
  show(ev C I .v (gL ns row a h g e v6 (ow ws) v8 none none none none none) s).st (gL ns row a h g e v6 (ow ws) v8 none none none none none) _=_
  rw[eI]
  show onS (L2.ixN (ws.map ob).length (i:Int)) _=_
  rw[hx]
  show SR.next (aaH (gL ns row a h g e v6 (ow ws) v8 none none none none none) 7 ((ws.map ob).set i (ob o))) s=_
  rw[←List.map_set]
  rfl
theorem afy{C:Cf}(hr:∀v∈row,aby v)(hl:row.length=24){v6:Option B}{n:Nat}(hn:n≤10):∃(ws:List (Int×Int)) (c8:Option B),ws.length=n∧
  aaX (.one 8) (fun σ s=>exs C adU σ s) (aa4 0 n) (gL ns row a h g e v6 (ow []) none none none none none none) s=.next (gL ns row a h g e v6 (ow ws) c8 none none none none none) s:=by
 obtain⟨σ',e3,ws,c8,rfl,q1⟩:=acl (g:=.one 8) (body:=fun σ s=>exs C adU σ s) (s:=s)
  (fun m σ=>∃(ws:List (Int×Int)) (c8:Option B),σ=gL ns row a h g e v6 (ow ws) c8 none none none none none∧ws.length=m) (aa4 0 n) 0 (gL ns row a h g e v6 (ow []) none none none none none none) ⟨[],none,rfl,rfl⟩ (by
   rintro m t σ hm ⟨ws,c8,rfl,h2⟩
   obtain⟨rfl,hlt⟩:=abf hm
   rw[Int.zero_add]
   obtain⟨v,_,rv,_⟩:=abn hr (m:=5+m) (by omega)
   rw[show((5+m:Nat):Int)=5+(m:Int)by omega]at rv
   have g1:=aaG (i:=v) (j:=3) (by decide)
   have g2:=aaM v (j:=3) (by decide)
   have g3:=abD (i:=v) (j:=39) (by decide) (by decide)
   have g4:=aaG (i:=Int.fdiv v 39) (j:=2) (by decide)
   have g5:=abD (i:=v) (j:=3) (by decide) (by decide)
   have g6:=aaG (i:=Int.fdiv v 3) (j:=13) (by decide)
   have mm:=aaT (i:=Int.fmod v 3) (j:=Int.fmod (Int.fdiv v 39) 2) (aav (by omega))
   have hlim:ws.length<lim:=Nat.lt_of_lt_of_le (show ws.length<1000 by omega) acg
   refine⟨gL ns row a h g e v6 (ow ws) (iV m) none none none none none,gL ns row a h g e v6 (ow (ws++[(Int.fmod v 3*Int.fmod (Int.fdiv v 39) 2,Int.fmod (Int.fdiv v 3) 13-6)])) (iV m) none none none none none,by simp[aap],?_,_,iV m,rfl,by simp[h2]⟩
   simp[rv,g1,g3,g4,g5,g6,mm,acd,aaH,hlim,ob])
 rw[abJ]at q1
 exact⟨ws,c8,by omega,e3⟩
noncomputable abbrev gA(ns row:List Int)(v2 v3 v4 v5 v6 v7 v8 v9 v10 v11 v12 v13:Option B):Fr:=[some (.val (.lst (iL ns))),some (.val (.lst (iL row))),v2,v3,v4,v5,v6,v7,v8,v9,v10,v11,v12,v13]
theorem akM{C:Cf}(hC:Has C ns s):∃s',exs C amb (abb apr [.val (.lst (iL ns))]) s=.ret (.val (.bl true)) s':=by
 obtain⟨row,hl,hr,e1⟩:=hC.stir
 obtain⟨v0,_,r0,_⟩:=abn hr (m:=0) (by omega)
 obtain⟨v1,_,r1,_⟩:=abn hr (m:=1) (by omega)
 obtain⟨v2,_,r2,_⟩:=abn hr (m:=2) (by omega)
 obtain⟨v3,_,r3,_⟩:=abn hr (m:=3) (by omega)
 obtain⟨v4,_,r4,_⟩:=abn hr (m:=4) (by omega)
 obtain⟨v16,_,r16,_⟩:=abn hr (m:=16) (by omega)
 obtain⟨v17,_,r17,_⟩:=abn hr (m:=17) (by omega)
 obtain⟨v18,_,r18,_⟩:=abn hr (m:=18) (by omega)
 obtain⟨v19,_,r19,_⟩:=abn hr (m:=19) (by omega)
 obtain⟨v20,_,r20,_⟩:=abn hr (m:=20) (by omega)
 obtain⟨v21,_,r21,_⟩:=abn hr (m:=21) (by omega)
 obtain⟨v22,_,r22,_⟩:=abn hr (m:=22) (by omega)
 obtain⟨v23,_,r23,_⟩:=abn hr (m:=23) (by omega)
 have r0:aaW (.val (.lst (iL row))) 0=some (.int v0):=r0
 have r1:aaW (.val (.lst (iL row))) 1=some (.int v1):=r1
 have r2:aaW (.val (.lst (iL row))) 2=some (.int v2):=r2
 have r3:aaW (.val (.lst (iL row))) 3=some (.int v3):=r3
 have r4:aaW (.val (.lst (iL row))) 4=some (.int v4):=r4
 have r16:aaW (.val (.lst (iL row))) 16=some (.int v16):=r16
 have r17:aaW (.val (.lst (iL row))) 17=some (.int v17):=r17
 have r18:aaW (.val (.lst (iL row))) 18=some (.int v18):=r18
 have r19:aaW (.val (.lst (iL row))) 19=some (.int v19):=r19
 have r20:aaW (.val (.lst (iL row))) 20=some (.int v20):=r20
 have r21:aaW (.val (.lst (iL row))) 21=some (.int v21):=r21
 have r22:aaW (.val (.lst (iL row))) 22=some (.int v22):=r22
 have r23:aaW (.val (.lst (iL row))) 23=some (.int v23):=r23
 have m0:=aaG (i:=v0) (j:=51) (by decide)
 have b0:=aaM v0 (j:=51) (by decide)
 have m1:=aaG (i:=v1) (j:=51) (by decide)
 have b1:=aaM v1 (j:=51) (by decide)
 have m2:=aaG (i:=v2) (j:=9) (by decide)
 have b2:=aaM v2 (j:=9) (by decide)
 have m3:=aaG (i:=v3) (j:=9) (by decide)
 have b3:=aaM v3 (j:=9) (by decide)
 have d3:=abD (i:=v3) (j:=9) (by decide) (by decide)
 have m32:=aaG (i:=Int.fdiv v3 9) (j:=2) (by decide)
 have m4:=aaG (i:=v4) (j:=11) (by decide)
 have b4:=aaM v4 (j:=11) (by decide)
 obtain⟨a,ha⟩:∃a,10+Int.fmod v0 51=a:=⟨_,rfl⟩
 obtain⟨h,hh⟩:∃h,10+Int.fmod v1 51=h:=⟨_,rfl⟩
 obtain⟨g,hg⟩:∃g,1+Int.fmod v2 9=g:=⟨_,rfl⟩
 obtain⟨e0,he0⟩:∃e,Int.fmod v3 9=e:=⟨_,rfl⟩
 obtain⟨n,hn⟩:∃n:Nat,Int.fmod v4 11=(n:Int):=⟨(Int.fmod v4 11).toNat,by omega⟩
 obtain⟨e,be,E5⟩:∃e:Int,(0≤e∧e≤8)∧ex C (.ifs (.cmp .eq (.bin .mod (.bin .fdiv (.sub (.var 1) (.cst (.int 3))) (.cst (.int 9))) (.cst (.int 2))) (.cst (.int 0))) [(.asg 5 (.cst (.int 7)))] []) (gA ns row (iV a) (iV h) (iV g) (iV e0) none none none none none none none none) s=.next (gA ns row (iV a) (iV h) (iV g) (iV e) none none none none none none none none) s:=by
  by_cases q:Int.fmod (Int.fdiv v3 9) 2=0
  ·exact⟨7,by omega,by simp[r3,d3,m32,q]⟩
  ·exact⟨e0,by omega,by simp[r3,d3,m32,q]⟩
 have hb0:Bnd a h g e 0:=⟨by omega,by omega,by omega,be,by omega⟩
 obtain⟨s1,A,mk,E6,T1,B1⟩:=hC.book a h g e hb0
 have E6:C.cf 40 [.val (.int a),.val (.int h),.val (.int g),.val (.int e)] s=.ok (.val (.loc A.o)) s1:=E6
 obtain⟨ws0,c8,hws0,E8⟩:=afy (C:=C) (s:=s1) (ns:=ns) (row:=row) (a:=a) (h:=h) (g:=g) (e:=e) hr hl (v6:=some (.val (.loc A.o))) (n:=n) (by omega)
 have p1:=aaG (i:=v16) (j:=8) (by decide)
 have i1:∀(v:Int) (ws:List (Int×Int)),ws≠[]→∃i:Nat,i<ws.length∧opR .mod (.val (.int v)) (.val (.int (ws.length:Int)))=some (.val (.int i)):=fun v ws hne=>by
  have hp:0<ws.length:=List.length_pos_iff.mpr hne
  have q1:=aaG (i:=v) (j:=(ws.length:Int)) (by omega)
  have q2:=aaM v (j:=(ws.length:Int)) (by omega)
  exact⟨(Int.fmod v ws.length).toNat,by omega,by rw[q1];congr 3;omega⟩
 obtain⟨ws1,hws1,E9⟩:=ak1 (C:=C) (s:=s1) (ns:=ns) (row:=row) (a:=a) (h:=h) (g:=g) (e:=e) (v6:=some (.val (.loc A.o))) (v8:=c8) (ws:=ws0) (M:=.cmp .mem (.bin .mod (.sub (.var 1) (.cst (.int 16))) (.cst (.int 8))) (.tup [(.cst (.int 1)),(.cst (.int 3))])) (I:=.bin .mod (.sub (.var 1) (.cst (.int 17))) (.b1 .len (.var 7))) (Tp:=.tup [(.sub (.lst [(.cst (.int 3)),(.neg (.cst (.int 1)))]) (.bin .mod (.sub (.var 1) (.cst (.int 18))) (.cst (.int 2)))),(.bin .mod (.bin .fdiv (.sub (.var 1) (.cst (.int 17))) (.cst (.int 10))) (.cst (.int 5)))]) (by
   obtain⟨b,hb⟩:=auC (Int.fmod v16 8) 1 3
   exact⟨b,by simp[r16,p1,hb]⟩) (fun hne=>by
   obtain⟨i,q1,q2⟩:=i1 v17 ws0 hne
   exact⟨i,q1,by simp[r17,q2]⟩) (by
   have q1:=aaG (i:=v18) (j:=2) (by decide)
   have q2:=aaM v18 (j:=2) (by decide)
   obtain⟨v,q3⟩:=anZ (a:=3) (b:=-1) q2.1 q2.2
   have q4:=abD (i:=v17) (j:=10) (by decide) (by decide)
   have q5:=aaG (i:=Int.fdiv v17 10) (j:=5) (by decide)
   exact⟨(v,_),by simp[r17,r18,q1,q3,q4,q5];rfl⟩)
 obtain⟨ws,hws,E10⟩:=ak1 (C:=C) (s:=s1) (ns:=ns) (row:=row) (a:=a) (h:=h) (g:=g) (e:=e) (v6:=some (.val (.loc A.o))) (v8:=c8) (ws:=ws1) (M:=.cmp .mem (.bin .mod (.sub (.var 1) (.cst (.int 16))) (.cst (.int 8))) (.tup [(.cst (.int 2)),(.cst (.int 3))])) (I:=.bin .mod (.sub (.var 1) (.cst (.int 19))) (.b1 .len (.var 7))) (Tp:=.tup [(.bin .mod (.sub (.var 1) (.cst (.int 20))) (.cst (.int 3))),(.sub (.lst [(.cst (.int 7)),(.neg (.cst (.int 7))),(.bin .pow (.cst (.int 10)) (.cst (.int 30)))]) (.bin .mod (.bin .fdiv (.sub (.var 1) (.cst (.int 20))) (.cst (.int 3))) (.cst (.int 3))))]) (by
   obtain⟨b,hb⟩:=auC (Int.fmod v16 8) 2 3
   exact⟨b,by simp[r16,p1,hb]⟩) (fun hne=>by
   obtain⟨i,q1,q2⟩:=i1 v19 ws1 hne
   exact⟨i,q1,by simp[r19,q2]⟩) (by
   have q1:=aaG (i:=v20) (j:=3) (by decide)
   have q4:=abD (i:=v20) (j:=3) (by decide) (by decide)
   have q5:=aaG (i:=Int.fdiv v20 3) (j:=3) (by decide)
   have q2:=aaM (Int.fdiv v20 3) (j:=3) (by decide)
   obtain⟨v,q3⟩:=aue (a:=7) (b:=-7) (c:=10^30) q2.1 q2.2
   have q6:=aiW
   generalize (10:Int)^30=big30 at q3 q6
   exact⟨(_,v),by simp[r20,q1,q3,q4,q5,q6];rfl⟩)
 have x1:=aaG (i:=v21) (j:=21) (by decide)
 have x2:=aaM v21 (j:=21) (by decide)
 have x3:=abD (i:=v21) (j:=21) (by decide) (by decide)
 have x4:=aaG (i:=Int.fdiv v21 21) (j:=2) (by decide)
 have x5:=aaM (Int.fdiv v21 21) (j:=2) (by decide)
 have x6:=aaT (i:=Int.fmod v21 21) (j:=Int.fmod (Int.fdiv v21 21) 2) (aav (by omega))
 obtain⟨room,hroom,broom⟩:∃room,Int.fmod v21 21*Int.fmod (Int.fdiv v21 21) 2=room∧(0≤room∧room≤20):=by
  refine⟨_,rfl,?_⟩
  have:Int.fmod (Int.fdiv v21 21) 2=0∨Int.fmod (Int.fdiv v21 21) 2=1:=by omega
  rcases this with q|q<;>rw[q]<;>omega
 rw[hroom]at x6
 have hb:Bnd a h g e room:=⟨hb0.1,hb0.2.1,hb0.2.2.1,be,broom⟩
 obtain⟨W1,E11⟩:∃W1,ex C (.asg 10 (.sub (.lst [(.bin .add (.cst (.int 1000)) (.bin .mod (.sub (.var 1) (.cst (.int 22))) (.cst (.int 500)))),(.bin .add (.cst (.int 1)) (.bin .mod (.sub (.var 1) (.cst (.int 22))) (.cst (.int 150))))]) (.b1 .int (.cmp .eq (.bin .mod (.sub (.var 1) (.cst (.int 23))) (.cst (.int 3))) (.cst (.int 1)))))) (gA ns row (iV a) (iV h) (iV g) (iV e) (some (.val (.loc A.o))) (ow ws) c8 (iV room) none none none none) s1=.next (gA ns row (iV a) (iV h) (iV g) (iV e) (some (.val (.loc A.o))) (ow ws) c8 (iV room) (iV W1) none none none) s1:=by
  have y1:=aaG (i:=v22) (j:=500) (by decide)
  have y2:=aaG (i:=v22) (j:=150) (by decide)
  have y3:=aaG (i:=v23) (j:=3) (by decide)
  obtain⟨v,q⟩:=anZ (a:=1000+Int.fmod v22 500) (b:=1+Int.fmod v22 150) (z:=if Int.fmod v23 3=1 then 1 else 0) (by split<;>omega) (by split<;>omega)
  exact⟨v,by simp[r22,r23,y1,y2,y3,q]⟩
 obtain⟨W,E12⟩:∃W,ex C (.ifs (.cmp .eq (.bin .mod (.bin .fdiv (.sub (.var 1) (.cst (.int 23))) (.cst (.int 3))) (.cst (.int 4))) (.cst (.int 1))) [(.asg 10 (.bin .sub (.bin .add (.bin .add (.bin .add (.var 2) (.bin .mul (.var 4) (.cst (.int 6)))) (.bin .mul (.cst (.int 2)) (.var 9))) (.bin .mod (.sub (.var 1) (.cst (.int 22))) (.cst (.int 2)))) (.cst (.int 1))))] []) (gA ns row (iV a) (iV h) (iV g) (iV e) (some (.val (.loc A.o))) (ow ws) c8 (iV room) (iV W1) none none none) s1=.next (gA ns row (iV a) (iV h) (iV g) (iV e) (some (.val (.loc A.o))) (ow ws) c8 (iV room) (iV W) none none none) s1:=by
  have y1:=abD (i:=v23) (j:=3) (by decide) (by decide)
  have y2:=aaG (i:=Int.fdiv v23 3) (j:=4) (by decide)
  have y3:=aaG (i:=v22) (j:=2) (by decide)
  have y4:=aaT (i:=g) (j:=6) (aav (by omega))
  have y5:=aaT (i:=2) (j:=room) (aav (by decide))
  by_cases q:Int.fmod (Int.fdiv v23 3) 4=1
  ·exact⟨_,by simp[r22,r23,y1,y2,y3,y4,y5,q];rfl⟩
  ·exact⟨W1,by simp[r23,y1,y2,q]⟩
 obtain⟨f,E13,hf⟩:=hC.asked s1 A mk a h g e room W ws T1 B1 hb
 have E14:=hC.due s1 a h g e room W ws hb
 have E15:=hC.rows s1 ws (by omega)
 have E13:C.cf 43 [.val (.loc A.o),.val (.lst (ws.map ob)),.val (.int W),.val (.int room)] s1=.ok (.val (.tup [.int (aaZ (af2 3 (lwF a h g e) W room ws)),f])) s1:=E13
 refine⟨s1,?_⟩
 refine(aae (σ1:=gA ns row none none none none none none none none none none none none) (s1:=s) (by simp[e1])).trans ?_
 refine(aae (σ1:=gA ns row (iV a) none none none none none none none none none none none) (s1:=s) (by simp[r0,m0,ha])).trans ?_
 refine(aae (σ1:=gA ns row (iV a) (iV h) none none none none none none none none none none) (s1:=s) (by simp[r1,m1,hh])).trans ?_
 refine(aae (σ1:=gA ns row (iV a) (iV h) (iV g) none none none none none none none none none) (s1:=s) (by simp[r2,m2,hg])).trans ?_
 refine(aae (σ1:=gA ns row (iV a) (iV h) (iV g) (iV e0) none none none none none none none none) (s1:=s) (by simp[r3,m3,he0])).trans ?_
 refine(aae E5).trans ?_
 refine(aae (σ1:=gA ns row (iV a) (iV h) (iV g) (iV e) (some (.val (.loc A.o))) none none none none none none none) (s1:=s1) (by simp[E6])).trans ?_
 refine(aae (σ1:=gA ns row (iV a) (iV h) (iV g) (iV e) (some (.val (.loc A.o))) (ow []) none none none none none none) (s1:=s1) (by simp[adD,aaH])).trans ?_
 refine(aae ((acG (ts:=aa4 0 n) (s1:=s1) (adq (n:=n) (by simp[r4,m4,hn]) (by omega)) (by intro _ h;cases h)).trans E8)).trans ?_
 refine(aae E9).trans ?_
 refine(aae E10).trans ?_
 refine(aae (σ1:=gA ns row (iV a) (iV h) (iV g) (iV e) (some (.val (.loc A.o))) (ow ws) c8 (iV room) none none none none) (s1:=s1) (by simp[r21,x1,x3,x4,x6])).trans ?_
 refine(aae E11).trans ?_
 refine(aae E12).trans ?_
 refine(aae (σ1:=gA ns row (iV a) (iV h) (iV g) (iV e) (some (.val (.loc A.o))) (ow ws) c8 (iV room) (iV W) (some (.val (.lst (ws.map ob)))) none none) (s1:=s1) (by simp)).trans ?_
 refine(aae (σ1:=gA ns row (iV a) (iV h) (iV g) (iV e) (some (.val (.loc A.o))) (ow ws) c8 (iV room) (iV W) (some (.val (.lst (ws.map ob)))) (iV (aaZ (af2 3 (lwF a h g e) W room ws))) (some (.val f))) (s1:=s1) (by simp[E13,IP.puts])).trans ?_
 have hlen:(ws.map ob).length=ws.length:=List.length_map _
 cases hd:af2 3 (lwF a h g e) W room ws with
 | some d=>
  rw[hd]at E14
  refine(aae (σ1:=gA ns row (iV a) (iV h) (iV g) (iV e) (some (.val (.loc A.o))) (ow ws) c8 (iV room) (iV W) (some (.val (.lst (ws.map ob)))) (iV (aaZ (some d))) (some (.val f))) (s1:=s1) (by simp[E15,E14])).trans ?_
  refine aaE ?_
  rcases ak2 hd with rfl|rfl|rfl|rfl|rfl<;>simp[aaZ]
 | none=>
  rw[hd]at E14
  obtain⟨m,xs,hx,rfl⟩:=hf hd
  have E16:=hC.told s1 m xs
  rw[hx]at E16
  refine(aae (σ1:=gA ns row (iV a) (iV h) (iV g) (iV e) (some (.val (.loc A.o))) (ow ws) c8 (iV room) (iV W) (some (.val (.lst (ws.map ob)))) (iV (aaZ none)) (some (.val (.tup [.int m,.lst xs])))) (s1:=s1) (by simp[E15,E14])).trans ?_
  refine aaE ?_
  simp[aaZ,E16]
theorem arG(k:Nat)(ns:List Int)(hT:TB s):∃s',run true fns aao aaj (k+9) asx [.val (.lst (ns.map .int))] s=.ok (.val (.bl true)) s':=by
 obtain⟨s',e⟩:=akM (has k ns hT)
 refine⟨s',?_⟩
 rw[aai (F:=apr) rfl rfl,e]
 rfl
theorem math:auD:=fun ns _=>arG 7 ns (by unfold TB aeB;simp)
end Pg
end IP
end
section
namespace PySem.W.Fast
def tw1962077229936970194:=()
def tw14038915645284318480:=()
def tw11726724813200904253:=()
def tw10154675264419605175:=()
def tw9403783253886818463:=()
def tw1029830393067246408:=()
def tw8978790645498584653:=()
def tw9966516342982315603:=()
def tw14520130030501786944:=()
def tw5668482389766030983:=()
def tw13737991953520845929:=()
def tw12535851591029547330:=()
def tw7875939569900897516:=()
def tw1712628956670505845:=()
def tw11040317649703067844:=()
def tw17585814633776731102:=()
def tw8966707307489032543:=()
def tw3367111626446802647:=()
def tw13550450741143565766:=()
def tw6503537289077627757:=()
def tw15316180657119815903:=()
def tw894416062291880298:=()
def tw12393625282234319795:=()
def tw10899639737457482439:=()
def tw14459614386828969912:=()
def tw8441896198396491874:=()
def tw8308333563198586644:=()
def tw3797515773926996061:=()
def tw6764934626334898784:=()
def tw14187323412083612123:=()
def tw15894907603566846302:=()
def tw1027512596994913824:=()
def tw9699246440283453666:=()
def tw1525276051470663733:=()
def tw12020576371989209847:=()
def tw234642310445152360:=()
def tw9014635861368733598:=()
def tw4307117393609096405:=()
def tw5555646798286096254:=()
def tw808819041931109477:=()
def tw7566762660924580878:=()
def tw8119495350749133986:=()
def tw17993003878938913603:=()
def tw3301034429656397549:=()
def tw1645831010367834776:=()
def tw13238951906216006986:=()
def tw7930143787252797692:=()
def tw13602139095565725055:=()
def tw14776829138491960840:=()
def tw2449605834318467143:=()
def tw2440722941696664486:=()
def tw11334075180787740713:=()
def tw6118884121915991852:=()
def tw14137990592946824825:=()
def tw12852381671200543916:=()
def tw9689495956703677744:=()
def tw5514696656617248415:=()
def tw4144207605062830540:=()
def tw9941978485889454071:=()
def tw5545854047497004835:=()
def tw17654692389985270908:=()
def tw7942925680311278257:=()
def tw17801537666687198823:=()
def tw6040126308238713345:=()
def tw15618095597397851828:=()
def tw8662825643834281124:=()
def tw9603978373994173737:=()
def tw18376985206479546288:=()
def tw3323879041366747266:=()
def tw455777488831343976:=()
def tw6324399448289734487:=()
def tw10518528372420774652:=()
def tw11763543945646445053:=()
def tw13365315484812718495:=()
def tw16975793820133003769:=()
def tw18011633023098719375:=()
def tw3296845560996212470:=()
def tw10422714848711407605:=()
def tw11004355935910879120:=()
def tw2604567324295106919:=()
def tw814310666837756322:=()
def tw14129916582335211773:=()
def tw18295268599726567142:=()
def tw13204328147192416901:=()
def tw17945749156665305225:=()
def tw18404993585431844492:=()
def tw4010694242087508494:=()
def tw14834105136265320693:=()
def tw1399287267815136959:=()
def tw10029724835545196717:=()
def tw1569895278588426414:=()
def tw7447727759580383091:=()
def tw14397483552960035457:=()
def tw10480292982785120855:=()
def tw1168774644103395628:=()
def tw8654959274867085505:=()
def tw1256996649530193289:=()
def tw13624516570636567870:=()
def tw542479334411790782:=()
def tw1236495898409197393:=()
def tw4217425180630049022:=()
def tw18008315916598718860:=()
def tw10800062324993668560:=()
def tw11825131563730229919:=()
def tw6578110175969007626:=()
def tw14448072241615013573:=()
def tw14936623988534872510:=()
def tw7172914316757221625:=()
def tw2679118968456081701:=()
def tw11785481347257073903:=()
def tw8807596054152549674:=()
def tw9943113802597158924:=()
def tw4081051129057589862:=()
def tw5132972845072850762:=()
def tw10281622857175894335:=()
def tw8615980537812553387:=()
def tw5625391696384188345:=()
def tw18255511405874114511:=()
def tw5067278184131890368:=()
def tw12825142718247611716:=()
def tw14212560371970115228:=()
def tw14220146139701758542:=()
def tw1839317558083445603:=()
def tw7156637651779464561:=()
def tw3782764268272252852:=()
def tw5643190572114257152:=()
def tw2025000213068612882:=()
def tw2126121819966355675:=()
def tw5135489347535082613:=()
def tw5408540255895217213:=()
def tw5422742455819836214:=()
def tw6232803992904093266:=()
def tw14682437518978073356:=()
def tw15563773981539204182:=()
def tw10983909590699987570:=()
def tw382697085052699757:=()
def tw15278755221231228292:=()
def tw8833264364516824722:=()
def tw11675793910501739551:=()
def tw12112204714889153935:=()
def tw8140092779889687032:=()
def tw9357669864306362346:=()
def tw2098818796605031599:=()
def tw13758503458315969112:=()
def tw4410355270271255357:=()
def tw1885539799583623438:=()
def tw4024278913939817786:=()
def tw7611939535122464914:=()
def tw9734371188872351324:=()
def tw974656340723579097:=()
def tw4279166629504935065:=()
def tw4363173474659210539:=()
def tw13593288817564781128:=()
def tw7888074964627334507:=()
def tw15278249706550022997:=()
def tw7008134450913065950:=()
def tw14850049903355657920:=()
def tw4351745680042698559:=()
def tw7911840815605528141:=()
def tw3608591968856721281:=()
def tw2332704672773402862:=()
def tw3229721197176331736:=()
def tw7995948724775667286:=()
def tw3829786985418929075:=()
def tw12191277174534222807:=()
def tw473030357742905822:=()
def tw879021807761521272:=()
def tw6887952124926225085:=()
def tw11282096092823206555:=()
def tw2770310915540810689:=()
def tw17915704071955727350:=()
def tw18313186231345971640:=()
def tw17023946307834033973:=()
def tw12787511713183925100:=()
def tw2773150292778051057:=()
def tw5938331583759662250:=()
def tw15880192334577927245:=()
def tw3197166086092097335:=()
def tw17886054851115667718:=()
def tw2460173007702472730:=()
def tw13089372099778278222:=()
def tw6322674325137577406:=()
def tw6178257594196389505:=()
def tw12689347800851835187:=()
def tw5369463862443114195:=()
def tw11551807812984119276:=()
def tw9644414609906604776:=()
def tw871755777641284701:=()
def tw1162331079456818406:=()
def tw6241276766151458083:=()
def tw7919614175739419678:=()
def tw2185478552733937348:=()
def tw99510227748928961:=()
def tw12593836942909002357:=()
def tw3661571748919385737:=()
def tw12481978337598389635:=()
def tw11444281329946627638:=()
def tw14684010842580531756:=()
def tw12441520364314064625:=()
def tw13927797044414394819:=()
def tw9630901565214993686:=()
def tw4443460073649107936:=()
def tw10137558695371106878:=()
def tw11520875579178335614:=()
def tw4166690952158674129:=()
def tw12533772041415126506:=()
def tw9853092787349538237:=()
def tw15889847396542500330:=()
def tw15366432247577282430:=()
def tw15192752138525757027:=()
def tw16049658386116993799:=()
def tw14101885777644745804:=()
def tw13207351639469296382:=()
def tw12557832294715547720:=()
def tw6849964899010992659:=()
def tw16498730772766180665:=()
def tw4124425488453911571:=()
def tw6640258808757355728:=()
def tw2484949157136109345:=()
def tw14843911952879465132:=()
def tw15650895272454179708:=()
def tw5997226050418431707:=()
def tw15309982395778080784:=()
def tw11913412858825556368:=()
def tw7966761198426419475:=()
def tw9318529861651048580:=()
def tw17428922983099818622:=()
def tw17868361856948633850:=()
def tw15633666599993975568:=()
def tw11793298789782914865:=()
def tw4291182098701013847:=()
def tw6778732824482731818:=()
def tw210762218753896022:=()
def tw11812664243901432610:=()
def tw1727855604940169663:=()
def tw16614875083863984065:=()
def tw11569029439740076834:=()
def tw5779394149735852045:=()
def tw9011207297570068842:=()
def tw7390029226071493253:=()
def tw5556114851276122999:=()
def tw11518510520796380527:=()
def tw14921317971124207883:=()
def tw5056805022831932161:=()
def tw352197055874095664:=()
def tw896511127657394330:=()
def tw6987174737358837419:=()
def tw14999449227669921041:=()
def tw3454312972457414821:=()
def tw8653946157354888923:=()
def tw3741733112823490871:=()
def tw8047716620625350800:=()
def tw1444835340060672959:=()
def tw18232227392538370123:=()
def tw12488102256759342837:=()
def tw4213482222132476911:=()
def tw9426423155758912478:=()
def tw10787479426713832970:=()
def tw8227246923542329645:=()
def tw8224408271262212979:=()
def tw7535417511892995794:=()
def tw10408568682800262906:=()
def tw2024178499816046694:=()
def tw11040598616176646026:=()
def tw12498302251849761631:=()
def tw14893194502186665201:=()
def tw14988992696683320656:=()
def tw11165134980152180399:=()
def tw6193848078420504419:=()
def tw9244046440315143975:=()
def tw1477956751811245569:=()
def tw10554377197408803734:=()
def tw958072642570109455:=()
def tw41705505948267626:=()
def tw8727423882560723792:=()
def tw13650482042472811959:=()
def tw4029536893351866727:=()
def tw13932614687267214374:=()
def tw799655096428330280:=()
def tw15892273773211030500:=()
def tw18189779309275742719:=()
def tw14592418126027000500:=()
def tw5406278581877095003:=()
def tw10102322869683277675:=()
def tw520161731140523801:=()
def tw12586898362016965457:=()
def tw3120670713101136739:=()
def tw11686855659911391117:=()
def tw6032897568820021588:=()
def tw17674587088201143244:=()
def tw10549659220392498777:=()
def tw14496383009813898763:=()
def tw1036602376778113519:=()
def tw3770610406699551715:=()
def tw17958605944322517695:=()
def tw13464589028874710220:=()
def tw6002579588150368475:=()
def tw3912304749325603815:=()
def tw14896723349086039311:=()
def tw3626926417860681098:=()
def tw2587893241391047672:=()
def tw13080226517848342787:=()
def tw14533859852677476738:=()
def tw239459810459656691:=()
def tw2499585972512857180:=()
def tw4190802278976401702:=()
def tw15117872218768276127:=()
def tw7289430309244522452:=()
def tw7498366871556307408:=()
def tw10082445253778013600:=()
def tw5865647652347019607:=()
def tw16132703765365236840:=()
def tw12005004877501100270:=()
def tw16436605363288334356:=()
def tw12122737773529961365:=()
def tw15415002051726079780:=()
def tw8744735266840552101:=()
def tw12336766898693791046:=()
def tw4176079371290768140:=()
def tw2691166232003780511:=()
def tw17346507447173762286:=()
def tw959433968033169990:=()
def tw3447583028707087574:=()
def tw5330500997988262608:=()
def tw14753266339810325754:=()
def tw556456757558815885:=()
def tw16773568742133094857:=()
def tw14326907715097537898:=()
def tw440870772850802855:=()
def tw1934572866810989692:=()
def tw14042147634588458423:=()
def tw17295550811060570193:=()
def tw16599265362573208334:=()
def tw1240051046344436869:=()
def tw5477845172869453976:=()
def tw8097026427078542362:=()
def tw4517047232681227148:=()
def tw2867240374032256173:=()
def tw18045230619868857475:=()
def tw1656250777245825957:=()
def tw16712284839350021523:=()
def tw11867498515631436773:=()
def tw3936716943217716012:=()
def tw13277931420733042432:=()
def tw18419732146519170474:=()
def tw8312102728904234376:=()
def tw11843821535680757693:=()
def tw8827768078557045415:=()
def tw5296612450035641205:=()
def tw14964606975119559681:=()
def tw8605793501255381116:=()
def tw12545239114334956601:=()
def tw17252240376129972219:=()
def tw7091123927052995582:=()
def tw11445640433108052053:=()
def tw2394990115367388783:=()
def tw14262505585985601913:=()
def tw13133659267128152621:=()
def tw8339498654345517055:=()
def tw17279862468302376224:=()
def tw5422858782645181432:=()
def tw12259657830739140569:=()
def tw2892668691042289900:=()
def tw16014500102983431318:=()
def tw12268786450022390001:=()
def tw10606191199269372922:=()
def tw18029186775844728748:=()
def tw17858489414209521589:=()
def tw15543181442957434862:=()
def tw15521404505796896882:=()
def tw15733778766320261323:=()
def tw8159433114238828244:=()
def tw13408533469963636987:=()
def tw17455085413777928054:=()
def tw8099983030260164240:=()
def tw2500172738881950983:=()
def tw16958235828205177675:=()
def tw14851572878793634707:=()
def tw3525946790754206099:=()
def tw9719196230165248499:=()
def tw8486052136764660691:=()
def tw12632117862717796672:=()
def tw9602162770844143119:=()
def tw3341963268501440090:=()
def tw10807729484685486926:=()
def tw10799313700794454520:=()
def tw2488196365435893817:=()
def tw8506686130281755870:=()
def tw12345402100220685735:=()
def tw10231390132209872032:=()
def tw132029935510339343:=()
def tw8487636842606923625:=()
def tw7211286918929036503:=()
def tw4226658084385275909:=()
def tw5403859970367338926:=()
def tw10915559414659329951:=()
def tw12094148350577797662:=()
def tw12881456476582320030:=()
def tw7162948350663447198:=()
def tw15733553420961917184:=()
def tw17312079693301066847:=()
def tw14960073739379366853:=()
def tw15642768427152352082:=()
def tw16641448894195119564:=()
def tw2696247150652580618:=()
def tw4382138418971333874:=()
def tw11489421976607214976:=()
def tw14949151019413338221:=()
def tw17949098985804282664:=()
def tw3729393171842510778:=()
def tw16972237664255696243:=()
def tw12166101298621771761:=()
def tw61440570889073334:=()
def tw5865854355383560035:=()
def tw17412970363424778457:=()
def tw15680275525935087739:=()
def tw11897877214592226013:=()
def tw14867732401476544122:=()
def tw15384513103368030023:=()
def tw6637412866532309854:=()
def tw10775590468353698202:=()
def tw1032807063025051157:=()
def tw18313112871908162819:=()
def tw10959860182681018279:=()
def tw9790526650713441376:=()
def tw844298090592702465:=()
def tw3160113133954308349:=()
def tw1267805930666997494:=()
def tw6369224738907003365:=()
def tw346295329267321687:=()
def tw14895712475002524414:=()
def tw2204653222182277395:=()
def tw7749647015808863550:=()
def tw15054973041021481854:=()
def tw1238121611585226453:=()
def tw1814002008690387093:=()
def tw7015763653036329157:=()
def tw2828566547391510526:=()
def tw13144908702761694744:=()
def tw3868939920649120599:=()
def tw11035553370484363568:=()
def tw3958601636841130496:=()
def tw16882742814747894209:=()
def tw6156509038883479887:=()
def tw3413294535483539971:=()
def tw15583220176550995533:=()
def tw6335027376279954177:=()
def tw16232316328096826988:=()
def tw12209441092229361433:=()
def tw12117671527000580777:=()
def tw13628328669449828187:=()
def tw181262655024317364:=()
def tw12109445402337211003:=()
def tw16884559628207305623:=()
def tw14894790032156685056:=()
def tw16271377104337724896:=()
def tw1801519548381242424:=()
def tw18444647024324562910:=()
def tw10720087016311915492:=()
def tw15045352243478973026:=()
def tw10572255673181656826:=()
def tw17955039534614734245:=()
def tw9861742851532603618:=()
def tw4821149059954805248:=()
def tw16950553119522169784:=()
def tw2491768367784831258:=()
def tw6962360040201475083:=()
def tw16867185815096958839:=()
def tw7030523530960892552:=()
def tw2251174408718443861:=()
def tw5433447284841712644:=()
def tw3267342910298183030:=()
def tw15072498165325993235:=()
def tw6695180984385879576:=()
def tw2856707343401053952:=()
def tw12249661575022784494:=()
def tw13008281458016720015:=()
def tw11374293159026500431:=()
def tw7148378086690650588:=()
def tw3301398651319098006:=()
def tw10961179388907017629:=()
def tw8778304811146523699:=()
def tw11012345792658721652:=()
def tw17452008746798776075:=()
def tw2141730744575316888:=()
def tw1877414901785451408:=()
def tw11143937826175854826:=()
def tw9444127973919427057:=()
def tw9844215686383676273:=()
def tw3712291701232032888:=()
def tw6961668029062359672:=()
def tw10565372349481383653:=()
def tw11411832756182015857:=()
def tw6645315697465261789:=()
def tw1565611621998070797:=()
def tw9396885226812836175:=()
def tw14591678572177426006:=()
def tw15143628196574394987:=()
def tw3268276297105021259:=()
def tw6633202211442724658:=()
def tw2842420469391055185:=()
def tw18027403247458567907:=()
def tw14135842536587562425:=()
def tw242825971552189736:=()
def tw8220750358575392038:=()
def tw10459525406798852131:=()
def tw7436174517790198933:=()
def tw18039081726801906121:=()
def tw17205735350448008121:=()
def tw16321339496751357520:=()
def tw3803773879935269207:=()
def tw581329531343072756:=()
def tw14639492386799924102:=()
def tw18259127944441483983:=()
def tw9504548515279989701:=()
def tw15550036710785356035:=()
def tw5734578471792014038:=()
def tw5169957803185397587:=()
def tw10688094133280424936:=()
def tw4432485946695514099:=()
def tw9592702571453590777:=()
def tw6709282792320893743:=()
def tw15027127677783414762:=()
def tw4473518508293551204:=()
def tw8341019552135615731:=()
def tw7224903907844510214:=()
def tw2677422229605891067:=()
def tw6948765678667541307:=()
def tw139063321051285392:=()
def tw1920827813728343760:=()
def tw6349279266156425667:=()
def tw697391378267200391:=()
def tw14093353529260718198:=()
def tw7937692285316853087:=()
def tw11000537343096097929:=()
def tw8906134824285848746:=()
def tw11798962844058168658:=()
def tw3247930433987729890:=()
def tw14844335671624048465:=()
def tw11929859970531903527:=()
def tw2681423483985250420:=()
def tw6470702408729848303:=()
def tw8784337932515061738:=()
def tw15625095968269558323:=()
def tw3479093693767119518:=()
def tw5061581792165073542:=()
def tw2392601982171258340:=()
def tw16248090122167779054:=()
def tw16194183231223167043:=()
end PySem.W.Fast
open PySem PySem.W PyProof.Rows
theorem PySem.Challenge.cw_gradecut_k34_not_laid_out_holds : PySem.Challenge.rw_gradecut_k34_not_laid_out.Holds := by
 w_on;o_law;k_head;(case hw=>w_witness2)
 k_fill
 refine IP.Pg.walk IP.Pg.math (l:=PySem.Challenge.rw_gradecut_k34_not_laid_out) rfl rfl (by first|rfl|decide +kernel) (fun w h Y=>PySem.W.km_in_of Y) ?noL ?goF
 case noL=>intro w;first|rfl|with_unfolding_all rfl|decide +kernel
 case goF=>
  intro w mg fa cz pt h KX G hmg hz
  refine' IP.Pg.all_mk KX G hmg hz ?jq0 ?jq1 ?jq2 ?jq3 ?jq4 ?jq5 ?jq6 ?jq7 ?jq8 ?jq9 ?jq10 ?jq11 ?jq12 ?jq13 ?jq14 ?jq15 ?jq16 ?jq17 ?jq18 ?jq19 ?jq20 ?jq21 ?jq22 ?jq23 ?jq24 ?jq25 ?jq26 ?jq27 ?jq28 ?jq29 ?jq30 ?jq31 ?jq32 ?jq33 ?jq34 ?jq35 ?jq36 ?jq37 ?jq38 ?jq39 ?jq40 ?jq41 ?jq42 ?jq43 ?jq44 ?jq45 ?jq46 ?jq47 ?jq48 ?jq49 ?jq50 ?jq51 ?jq52 ?jq53 ?jq54 ?jq55 ?jq56 ?jq57 ?jq58 ?jq59 ?jq60 ?jq61 ?jq62 ?jq63 ?jq64 ?jq65 ?jq66 ?jq67 ?jq68 ?jq69 ?jq70 ?jq71 ?jq72 ?jq73 ?jq74 ?jq75 ?jq76 ?jq77 ?jq78 ?jq79 ?jq80 ?jq81 ?jq82 ?jq83 ?jq84 ?jq85 ?jq86 ?jq87 ?jq88 ?jq89 ?jq90 ?jq91 ?jq92 ?jq93 ?jq94 ?jq95 ?jq96 ?jq97 ?jq98 ?jq99 ?jq100 ?jq101 ?jq102 ?jq103 ?jq104 ?jq105 ?jq106 ?jq107 ?jq108 ?jq109 ?jq110 ?jq111 ?jq112 ?jq113 ?jq114 ?jq115 ?jq116 ?jq117 ?jq118 ?jq119 ?jq120 ?jq121 ?jq122 ?jq123 ?jq124 ?jq125 ?jq126 ?jq127 ?jq128 ?jq129 ?jq130 ?jq131 ?jq132 ?jq133 ?jq134 ?jq135 ?jq136 ?jq137 ?jq138 ?jq139 ?jq140 ?jq141 ?jq142 ?jq143 ?jq144 ?jq145 ?jq146 ?jq147 ?jq148 ?jq149 ?jq150 ?jq151 ?jq152 ?jq153 ?jq154 ?jq155 ?jq156 ?jq157 ?jq158 ?jq159 ?jq160 ?jq161 ?jq162 ?jq163 ?jq164 ?jq165 ?jq166 ?jq167 ?jq168 ?jq169 ?jq170 ?jq171 ?jq172 ?jq173 ?jq174 ?jq175 ?jq176 ?jq177 ?jq178 ?jq179 ?jq180 ?jq181 ?jq182 ?jq183 ?jq184 ?jq185 ?jq186 ?jq187 ?jq188 ?jq189 ?jq190 ?jq191 ?jq192 ?jq193 ?jq194 ?jq195 ?jq196
  case jq0|jq1=>k_is
  case jq2=>k_exc
  case jq3=>k_is
  case jq4=>k_exc
  case jq5=>k_is
  case jq6=>k_exc
  case jq7=>k_is
  case jq8=>k_exc
  case jq9=>k_is
  case jq10=>k_exc
  case jq11=>k_is
  case jq12=>k_exc
  case jq13=>k_is
  case jq14=>k_exc
  case jq15|jq16|jq17|jq18|jq19|jq20|jq21|jq22|jq23|jq24|jq25|jq26|jq27|jq28|jq29|jq30|jq31|jq32|jq33|jq34|jq35|jq36|jq37|jq38|jq39|jq40|jq41|jq42|jq43|jq44|jq45|jq46|jq47|jq48|jq49|jq50|jq51|jq52|jq53|jq54|jq55|jq56|jq57|jq58|jq59|jq60|jq61|jq62|jq63|jq64=>k_is
  case jq65|jq66|jq67|jq68|jq69|jq70|jq71|jq72|jq73|jq74|jq75|jq76|jq77|jq78|jq79|jq80|jq81|jq82|jq83|jq84|jq85|jq86|jq87|jq88|jq89|jq90|jq91|jq92|jq93|jq94|jq95|jq96|jq97|jq98|jq99|jq100|jq101|jq102|jq103|jq104=>kit_is
  case jq105|jq106|jq107|jq108|jq109|jq110|jq111|jq112=>kts_exm
  case jq113|jq114|jq115|jq116|jq117|jq118|jq119|jq120|jq121|jq122|jq123=>k_is
  case jq124|jq125|jq126|jq127|jq128|jq129|jq130|jq131|jq132|jq133|jq134|jq135|jq136|jq137|jq138|jq139=>exact .of (by k_is) (by k_is) (by k_is) (by k_is)
  case jq140=>k_is
  case jq141|jq142|jq143|jq144|jq145|jq146|jq147|jq148=>exact .of (by k_is) (by k_is) (by k_is) (by k_is)
  case jq149|jq150=>exact .of (by k_is) (by k_is) (by k_is) (by k_is) (by k_is)
  case jq151=>k_is
  case jq152|jq153|jq154=>exact .of (by k_is) (by k_is) (by k_is) (by k_is) (by k_is)
  case jq155=>k_is
  case jq156=>exact .of (by k_is) (by k_is) (by k_is) (by k_is) (by k_is)
  case jq157=>k_is
  case jq158=>exact .of (by k_is) (by k_is) (by k_is) (by k_is) (by k_is)
  case jq159|jq160|jq161|jq162|jq163|jq164|jq165|jq166|jq167|jq168|jq169|jq170|jq171|jq172|jq173=>exact .of (by k_is) (by k_is) (by k_is) (by k_is)
  case jq174|jq175|jq176|jq177|jq178|jq179|jq180|jq181|jq182|jq183|jq184|jq185|jq186|jq187|jq188|jq189|jq190|jq191|jq192|jq193|jq194|jq195|jq196=>k_is
end
