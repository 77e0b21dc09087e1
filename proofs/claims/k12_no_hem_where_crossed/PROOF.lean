import PyProof.Rows.All
import Wide.All
import OpenK.AllK
import Wide.FinOn
import Lean
import PyProof.EqAt
import PyProof.EqKinds
import PyProof.TupleCall
import PyProof.NeKinds
import KE.KTryMore
import PyProof.EnumStmt
import PySem.Challenge.RW_gradecut_k12_no_hem_where_crossed
set_option Elab.async false
set_option linter.all false
set_option maxRecDepth 100000
set_option maxHeartbeats 0
section
namespace L2
open PySem PySem.Spec PyProof.Rows
noncomputable abbrev Key:=Sum Int Str
noncomputable def amS:Key→Value→Bool
 | .inl k,v=>Value.isInt k v
 | .inr x,v=>Value.isStrOf x v
noncomputable def avl(w:World):Key→Int
 | .inl k=>hashInt k
 | .inr x=>hashStr w x
theorem aaB:∀{k:Key}{v:Value},amS k v=true→(∃i t,k=Sum.inl i∧v=Value.int i t)∨(∃x t,k=Sum.inr x∧v=Value.str x t)
 | .inl i,v,h=>by
  obtain⟨t,e⟩:=Value.isInt_shape (k:=i) (v:=v) h
  exact .inl ⟨i,t,rfl,e⟩
 | .inr x,v,h=>by
  obtain⟨t,e⟩:=Value.isStrOf_shape (x:=x) (v:=v) h
  exact .inr ⟨x,t,rfl,e⟩
theorem anz(a b:Int):decide ((Sum.inl a:Key)=Sum.inl b)=(a==b):=by
 by_cases e:a=b
 ·subst e;simp
 ·have h:¬(Sum.inl a:Key)=Sum.inl b:=fun q=>e (Sum.inl.inj q)
  rw[decide_eq_false h]
  exact(beq_eq_false_iff_ne.mpr e).symm
theorem amL(a b:Str):decide ((Sum.inr a:Key)=Sum.inr b)=decide (a=b):=by
 by_cases e:a=b
 ·subst e;simp
 ·have h:¬(Sum.inr a:Key)=Sum.inr b:=fun q=>e (Sum.inr.inj q)
  rw[decide_eq_false h,decide_eq_false e]
theorem ams(a:Int)(b:Str):decide ((Sum.inl a:Key)=Sum.inr b)=false:=decide_eq_false (fun q=>nomatch q)
theorem al7(a:Str)(b:Int):decide ((Sum.inr a:Key)=Sum.inl b)=false:=decide_eq_false (fun q=>nomatch q)
noncomputable def aeI(prog:Program)(w:World):PySem.KeyKind prog w Key where
 is:=amS
 hash:=avl w
 inj:=fun v a b ha hb=>by
  rcases aaB ha with⟨i,t,rfl,rfl⟩|⟨x,t,rfl,rfl⟩
  ·rcases aaB hb with⟨j,u,rfl,e⟩|⟨y,u,rfl,e⟩
   ·injection e with e1 _;rw[e1]
   ·exact nomatch e
  ·rcases aaB hb with⟨j,u,rfl,e⟩|⟨y,u,rfl,e⟩
   ·exact nomatch e
   ·injection e with e1 _;rw[e1]
 byValue:=fun k v h=>by
  rcases aaB h with⟨i,t,rfl,rfl⟩|⟨x,t,rfl,rfl⟩<;>rfl
 pyHash:=fun hv h=>by
  rcases aaB hv with⟨i,t,rfl,rfl⟩|⟨x,t,rfl,rfl⟩
  ·exact wpAny_pyHash_int h
  ·exact wpAny_pyHash_str h
 eqBool:=fun hu hv h=>by
  rcases aaB hu with⟨i,t,rfl,rfl⟩|⟨x,t,rfl,rfl⟩
  ·rcases aaB hv with⟨j,u,rfl,rfl⟩|⟨y,u,rfl,rfl⟩
   ·rw[anz]at h;exact wpAny_eqBool_int h
   ·rw[ams]at h;exact SeqAt.EqAt.int_str i t y u _ _ _ _ h
  ·rcases aaB hv with⟨j,u,rfl,rfl⟩|⟨y,u,rfl,rfl⟩
   ·rw[al7]at h;exact SeqAt.EqAt.str_int x t j u _ _ _ _ h
   ·rw[amL]at h;exact wpAny_eqBool_str h
 «strs»:=fun k x t v h=>by
  rcases aaB h with⟨i,u,rfl,e⟩|⟨y,u,rfl,e⟩
  ·exact nomatch e
  ·injection e with e1 _
   subst e1
   cases v<;>rfl
end L2
namespace L2
open PySem PySem.Spec PyProof.Rows
inductive V where
 | non|bl (b:Bool)|int (i:Int)|str (x:Str)|byt (b:Array UInt8)|flt (b:UInt64)|ref (a:Addr)|ty (n:String)
 deriving DecidableEq
noncomputable def aaJ:V→Value→Prop
 | .non,u=>u=Value.none
 | .bl b,u=>u=Value.bool b
 | .int i,u=>∃t,u=Value.int i t
 | .str x,u=>∃t,u=Value.str x t
 | .byt b,u=>∃t,u=Value.bytes b t
 | .flt b,u=>∃t,u=Value.float b t
 | .ref a,u=>u=Value.ref a
 | .ty n,u=>u=Value.type n
noncomputable abbrev aa7:List V→List Value→Prop:=Paired aaJ
theorem aa7.length{xs:List V}{us:List Value}(r:aa7 xs us):xs.length=us.length:=Paired.length r
theorem aa7.get:∀{xs:List V}{us:List Value}{i:Nat}{x:V},aa7 xs us→xs[i]?=some x→∃u,us[i]?=some u∧aaJ x u
 | _,_,_,_,.nil,e=>by simp at e
 | _,_,0,_,.cons r _,e=>by simp at e;subst e;exact⟨_,rfl,r⟩
 | _,_,i+1,x,.cons _ t,e=>by
  obtain⟨u,h1,h2⟩:=aa7.get (i:=i) (x:=x) t (by simpa using e)
  exact⟨u,by simpa using h1,h2⟩
theorem aa7.set{x:V}{u:Value}(r:aaJ x u):∀{xs:List V}{us:List Value} (i:Nat),aa7 xs us→aa7 (xs.set i x) (us.set i u)
 | _,_,_,.nil=>.nil
 | _,_,0,.cons _ t=>.cons r t
 | _,_,i+1,.cons q t=>.cons q (aa7.set r i t)
theorem aa7.append:∀{xs ys:List V}{us ws:List Value},aa7 xs us→aa7 ys ws→aa7 (xs++ys) (us++ws)
 | _,_,_,_,.nil,s=>s
 | _,_,_,_,.cons r t,s=>.cons r (aa7.append t s)
theorem aa7.take:∀{xs:List V}{us:List Value} (n:Nat),aa7 xs us→aa7 (xs.take n) (us.take n)
 | _,_,0,_=>.nil
 | _,_,_+1,.nil=>.nil
 | _,_,n+1,.cons r t=>.cons r (aa7.take n t)
theorem aa7.drop:∀{xs:List V}{us:List Value} (n:Nat),aa7 xs us→aa7 (xs.drop n) (us.drop n)
 | _,_,0,r=>r
 | _,_,_+1,.nil=>.nil
 | _,_,n+1,.cons _ t=>aa7.drop n t
noncomputable def ary:Option V→Option Value→Prop
 | some v,some u=>aaJ v u
 | none,none=>True
 | _,_=>False
noncomputable def KV{κ:Type}:List (κ×V)→List (κ×Value)→Prop:=Paired fun(p:κ×V) (q:κ×Value)=>p.1=q.1∧aaJ p.2 q.2
noncomputable def kV:Key→V
 | .inl i=>.int i
 | .inr x=>.str x
inductive HO where
 | lst (xs:List V)
 | tup (xs:List V)
 | dK (kvs:List (Key×V))|dT (kvs:List (List Key×V))
 | set (S:Int→Bool) (n:Nat)
 | ins (C dx:Addr) (fs:List (Str×V))
 | own (x:Addr)
 | xd (fs:List (Str×V))
 | met (f x:Addr)
 | rng (lo hi:Int)
 | frz (o:Obj) (u:HO)
 | tbl (ps:Array Value)
 | ext (φ:Heap→Prop)
noncomputable abbrev Hp:=Addr→Option HO
noncomputable def upd(H:Hp)(a:Addr)(o:HO):Hp:=fun b=>if b=a then some o else H b
theorem aaD{H:Hp}{a:Addr}{o:HO}:upd H a o a=some o:=by unfold upd;rw[if_pos rfl]
theorem aas{H:Hp}{a b:Addr}{o:HO}(h:b≠a):upd H a o b=H b:=by unfold upd;rw[if_neg h]
theorem ajD{H:Hp}{a b:Addr}{o u:HO}(h:H a=some o)(h':H b=some u)(d:o≠u):a≠b:=by
 intro e;subst e;rw[h]at h';exact d (Option.some.inj h')
theorem abt{H:Hp}{a b:Addr}{o:HO}(h:H a=some o)(h':H b=none):a≠b:=by
 intro e;subst e;rw[h]at h';cases h'
section
variable(P:Program)(w:World)
noncomputable def abr(H:Hp)(h:Heap)(a:Addr):HO→Prop
 | .lst xs=>xs.length≤sizeLine∧∃(its:List Value) (n:Nat),aa7 xs its∧h.get? a=some { cls:=.type "list",data:=.seq its.toArray n }
 | .tup xs=>xs.length≤sizeLine∧∃its:List Value,aa7 xs its∧IsTup h a its.toArray
 | .dK kvs=>kvs.length≤sizeLine∧(a==sysModules)=false∧∃vs,KV kvs vs∧h.DictOf (aeI P w) a vs
 | .dT kvs=>kvs.length≤sizeLine∧(a==sysModules)=false∧∃xs:List (List Key×Addr×Value),
   Paired (fun(p:List Key×V) (q:List Key×Addr×Value)=>p.1=q.1∧H q.2.1=some (.tup (p.1.map kV))∧aaJ p.2 q.2.2) kvs xs∧
   ∃o es ep,h.get? a=some o∧o.ExactDict∧o.data=.dict es ep∧es.toList=xs.map (entryOfKey (tupleKind (aeI P w)))∧(xs.map (·.1)).Nodup
 | .set S n=>h.SetOf (intKind P w) a S n
 | .ins C dx fs=>H dx=some (.own a)∧fs.length≤1000∧dx≠a∧h.get? a=some (PySem.W.instObj C dx)∧
   ∃mA,h.Ns1 dx mA∧(∀f,ary (fs.lookup f) (mA f))∧PySem.Within mA (fs.map (·.1))
 | .own _=>∃o,h.get? a=some o
 | .xd fs=>∃mA,h.Ns1 a mA∧∀f,ary (fs.lookup f) (mA f)
 | .rng lo hi=>∃t u v,h.get? a=some { cls:=.type "range",data:=.fields #[.int lo t,.int hi u,.int 1 v] }
 | .frz o u=>h.get? a=some o∧abr H h a u
 | .tbl ps=>h.get? a=some { cls:=.none,data:=.fields ps }
 | .met f x=>h.get? a=some (PySem.W.methodObj (.ref f) (.ref x))
 | .ext φ=>φ h∧(∃o,h.get? a=some o)∧∀h1 h2:Heap,φ h1→(∀o,h1.get? a=some o→h2.get? a=some o)→φ h2
noncomputable def HOk(H:Hp)(h:Heap):Prop:=∀a o,H a=some o→abr P w H h a o
end
section
variable{P:Program}{w:World}{H H':Hp}{h h':Heap}{a:Addr}{o:HO}
theorem abr.lt(x:abr P w H h a o):a<h.objs.size:=by
 cases o with
 | lst xs=>obtain⟨_,_,_,_,e⟩:=x;exact Heap.lt_size e
 | tup xs=>obtain⟨_,_,_,p⟩:=x;exact p.lt
 | dK kvs=>obtain⟨_,_,_,_,o,_,_,e,_⟩:=x;exact Heap.lt_size e
 | dT kvs=>obtain⟨_,_,_,_,o,_,_,e,_⟩:=x;exact Heap.lt_size e
 | set S n=>obtain⟨o,_,_,_,e,_⟩:=x;exact Heap.lt_size e
 | ins C dx fs=>obtain⟨_,_,_,e,_⟩:=x;exact Heap.lt_size e
 | own y=>obtain⟨_,e⟩:=x;exact Heap.lt_size e
 | xd fs=>obtain⟨_,⟨_,_,_,e,_⟩,_⟩:=x;exact Heap.lt_size e
 | rng lo hi=>obtain⟨_,_,_,e⟩:=x;exact Heap.lt_size e
 | frz ob u=>obtain⟨e,_⟩:=x;exact Heap.lt_size e
 | tbl ps=>exact Heap.lt_size (show h.get? a=some _ from x)
 | met f y=>exact Heap.lt_size (show h.get? a=some _ from x)
 | ext φ=>obtain⟨_,⟨_,e⟩,_⟩:=x;exact Heap.lt_size e
theorem Paired.mapP{α β:Type}{F G:α→β→Prop}:∀{l₁:List α}{l₂:List β},Paired F l₁ l₂→(∀a b,F a b→G a b)→Paired G l₁ l₂
 | _,_,.nil,_=>.nil
 | _,_,.cons r t,f=>.cons (f _ _ r) (Paired.mapP t f)
theorem abr.stay(x:abr P w H h a o)(k:∀b u,(b=a∨H b=some (.own a))→h.get? b=some u→h'.get? b=some u)
  (ho:∀b,H b=some (.own a)→H' b=some (.own a)) (ht:∀b xs,H b=some (.tup xs)→H' b=some (.tup xs)):abr P w H' h' a o:=by
 induction o with
 | lst xs=>obtain⟨z,its,n,r,e⟩:=x;exact⟨z,its,n,r,k _ _ (.inl rfl) e⟩
 | tup xs=>obtain⟨z,its,r,ob,e,c⟩:=x;exact⟨z,its,r,ob,k _ _ (.inl rfl) e,c⟩
 | dK kvs=>obtain⟨z,y,vs,r,ob,es,ep,e,c⟩:=x;exact⟨z,y,vs,r,ob,es,ep,k _ _ (.inl rfl) e,c⟩
 | dT kvs=>
  obtain⟨z,y,xs,r,ob,es,ep,e,c⟩:=x
  exact⟨z,y,xs,Paired.mapP r fun p q z=>⟨z.1,ht _ _ z.2.1,z.2.2⟩,ob,es,ep,k _ _ (.inl rfl) e,c⟩
 | set S n=>obtain⟨ob,es,ep,t,e,c⟩:=x;exact⟨ob,es,ep,t,k _ _ (.inl rfl) e,c⟩
 | ins C dx fs=>
  obtain⟨d,z,ne,e,mA,⟨od,es,ep,e2,c⟩,r⟩:=x
  exact⟨ho _ d,z,ne,k _ _ (.inl rfl) e,mA,⟨od,es,ep,k _ _ (.inr d) e2,c⟩,r⟩
 | own y=>obtain⟨ob,e⟩:=x;exact⟨ob,k _ _ (.inl rfl) e⟩
 | xd fs=>obtain⟨mA,⟨od,es,ep,e,c⟩,r⟩:=x;exact⟨mA,⟨od,es,ep,k _ _ (.inl rfl) e,c⟩,r⟩
 | rng lo hi=>obtain⟨t,u,v,e⟩:=x;exact⟨t,u,v,k _ _ (.inl rfl) e⟩
 | frz ob u ih=>obtain⟨e,q⟩:=x;exact⟨k _ _ (.inl rfl) e,ih q⟩
 | tbl ps=>
  have e:h.get? a=some { cls:=.none,data:=.fields ps }:=x
  show h'.get? a=some { cls:=.none,data:=.fields ps }
  exact k a _ (.inl rfl) e
 | met f y=>
  have e:h.get? a=some (PySem.W.methodObj (.ref f) (.ref y)):=x
  show h'.get? a=some (PySem.W.methodObj (.ref f) (.ref y))
  exact k a _ (.inl rfl) e
 | ext φ=>obtain⟨p,⟨o,e⟩,st⟩:=x;exact⟨st _ _ p fun o q=>k _ _ (.inl rfl) q,⟨o,k _ _ (.inl rfl) e⟩,st⟩
theorem HOk.lt(x:HOk P w H h)(e:H a=some o):a<h.objs.size:=(x a o e).lt
theorem HOk.fresh(x:HOk P w H h)(e:h.objs.size≤a):H a=none:=by
 cases q:H a with
 | none=>rfl
 | some u=>exact absurd (Nat.lt_of_lt_of_le (x.lt q) e) (Nat.lt_irrefl _)
theorem HOk.kept(x:HOk P w H h)(k:∀b u,h.get? b=some u→h'.get? b=some u):HOk P w H h':=fun a o e=>
 (x a o e).stay (fun b u _ q=>k b u q) (fun _ q=>q) fun _ _ q=>q
theorem HOk.laid(x:HOk P w H h)(k:∀b u,h.get? b=some u→h'.get? b=some u)(hp:h.objs.size≤a)(new:abr P w (upd H a o) h' a o):HOk P w (upd H a o) h':=fun b u e=>by
 have hn:=x.fresh hp
 by_cases hb:b=a
 ·subst hb;rw[aaD]at e;cases e;exact new
 ·rw[aas hb]at e
  exact(x b u e).stay (fun c v _ q=>k c v q) (fun c q=>by rw[aas (abt q hn)];exact q) fun c xs q=>by rw[aas (abt q hn)];exact q
end
noncomputable def Rd(H:Hp)(a:Addr)(u:HO):Prop:=H a=some u∨∃o,H a=some (.frz o u)
theorem Rd.of{H:Hp}{a:Addr}{u:HO}(h:H a=some u):Rd H a u:=.inl h
theorem Rd.ok{P:Program}{w:World}{H:Hp}{h:Heap}{a:Addr}{u:HO}(r:Rd H a u)(x:HOk P w H h):abr P w H h a u:=by
 rcases r with r|⟨o,r⟩
 ·exact x a u r
 ·obtain⟨_,q⟩:=x a _ r
  exact q
noncomputable def Mut:Option HO→Prop
 | some (.lst _)=>True
 | some (.dK _)=>True
 | some (.dT _)=>True
 | some (.set _ _)=>True
 | some (.ins _ _ _)=>True
 | some (.ext _)=>True
 | _=>False
section
variable{P:Program}{w:World}{H:Hp}{h h':Heap}{x e:Addr}{o':HO}
theorem HOk.write(ok:HOk P w H h)(mu:Mut (H x))(he:e=x∨H e=some (.own x))(k:∀b u,b≠e→h.get? b=some u→h'.get? b=some u)(heo:∃u,h'.get? e=some u)
  (new:abr P w (upd H x o') h' x o'):HOk P w (upd H x o') h':=fun b u q=>by
 have nown:∀c y,H c=some (.own y)→c≠x:=fun c y r z=>by subst z;rw[r]at mu;exact mu
 have ntup:∀c xs,H c=some (.tup xs)→c≠x:=fun c xs r z=>by subst z;rw[r]at mu;exact mu
 by_cases hb:b=x
 ·subst hb;rw[aaD]at q;cases q;exact new
 ·rw[aas hb]at q
  by_cases hbe:b=e
  ·have q':H b=some (.own x):=by
    rcases he with z|z
    ·exact absurd (hbe.trans z) hb
    ·rw[hbe];exact z
   rw[q]at q';cases q'
   obtain⟨v,hv⟩:=heo
   exact⟨v,by rw[hbe];exact hv⟩
  ·refine(ok b u q).stay (fun c v hc r=>k c v ?_ r) (fun c r=>by rw[aas (nown c b r)];exact r) fun c xs r=>by rw[aas (ntup c xs r)];exact r
   rcases hc with rfl|hc
   ·exact hbe
   ·rintro rfl
    rcases he with z|z
    ·exact nown c b hc z
    ·rw[hc]at z;cases z;exact hb rfl
end
structure Un(fs ex:List Addr)(H H':Hp)(h h':Heap):Prop where
 keep:∀b o,h.get? b=some o→H b=none→b∉fs→b∉ex→h'.get? b=some o
 slot:∀b o,h.get? b=some o→H b=none→b∈fs→b∉ex→∃sl,h'.get? b=some { o with slots:=sl }
 free:∀b o,h.get? b=some o→H b=none→b∉ex→H' b=none
 there:∀b o,h.get? b=some o→b∉ex→∃o',h'.get? b=some o'
 tups:∀b xs,H b=some (.tup xs)→H' b=some (.tup xs)
 frzs:∀b o u,H b=some (.frz o u)→H' b=some (.frz o u)
 tbls:∀b ps,H b=some (.tbl ps)→∃more,H' b=some (.tbl (ps++more))
section
variable{fs fs' ex ex':List Addr}{H H1 H2:Hp}{h h1 h2 h':Heap}{a x e:Addr}{o:HO}
theorem Un.any(u:Un fs ex H H1 h h1){b:Addr}{ob:Obj}(q:h.get? b=some ob)(n:H b=none)(hx:b∉ex):∃sl,h1.get? b=some { ob with slots:=sl }:=by
 by_cases hb:b∈fs
 ·exact u.slot b ob q n hb hx
 ·exact⟨ob.slots,u.keep b ob q n hb hx⟩
theorem Un.trans(a:Un fs ex H H1 h h1)(b:Un fs ex H1 H2 h1 h2):Un fs ex H H2 h h2 where
 keep:=fun c ob q n hc hx=>b.keep c ob (a.keep c ob q n hc hx) (a.free c ob q n hx) hc hx
 slot:=fun c ob q n hc hx=>by
  obtain⟨sl,e1⟩:=a.slot c ob q n hc hx
  obtain⟨sl',e2⟩:=b.slot c _ e1 (a.free c ob q n hx) hc hx
  exact⟨sl',e2⟩
 free:=fun c ob q n hx=>by
  obtain⟨o',e1⟩:=a.there c ob q hx
  exact b.free c o' e1 (a.free c ob q n hx) hx
 there:=fun c ob q hx=>by
  obtain⟨o',e1⟩:=a.there c ob q hx
  exact b.there c o' e1 hx
 tups:=fun c xs q=>b.tups c xs (a.tups c xs q)
 frzs:=fun c ob xs q=>b.frzs c ob xs (a.frzs c ob xs q)
 tbls:=fun c ps q=>by
  obtain⟨m1,e1⟩:=a.tbls c ps q
  obtain⟨m2,e2⟩:=b.tbls c _ e1
  exact⟨m1++m2,by rw[e2,Array.append_assoc]⟩
theorem Un.kept(k:∀b u,h.get? b=some u→h'.get? b=some u):Un fs ex H H h h':=
 ⟨fun b ob q _ _ _=>k b ob q,fun b ob q _ _ _=>⟨ob.slots,k b ob q⟩,fun _ _ _ n _=>n,fun b ob q _=>⟨ob,k b ob q⟩,fun _ _ q=>q,fun _ _ _ q=>q,fun _ ps q=>⟨#[],by rw[q];simp⟩⟩
theorem Un.refl:Un fs ex H H h h:=Un.kept fun _ _ q=>q
theorem Un.laid(k:∀b u,h.get? b=some u→h'.get? b=some u)(hp:h.objs.size≤a)(hn:H a=none):Un fs ex H (upd H a o) h h' where
 keep:=fun b u q _ _ _=>k b u q
 slot:=fun b u q _ _ _=>⟨u.slots,k b u q⟩
 free:=fun b u q n _=>by rw[aas (Nat.ne_of_lt (Nat.lt_of_lt_of_le (Heap.lt_size q) hp))];exact n
 there:=fun b u q _=>⟨u,k b u q⟩
 tups:=fun b xs q=>by rw[aas (abt q hn)];exact q
 frzs:=fun b u xs q=>by rw[aas (abt q hn)];exact q
 tbls:=fun b ps q=>⟨#[],by rw[aas (abt q hn),q];simp⟩
theorem Un.write(mu:Mut (H x))(he:e=x∨H e=some (.own x))(k:∀b u,b≠e→h.get? b=some u→h'.get? b=some u)(heo:∃u,h'.get? e=some u):Un fs ex H (upd H x o) h h':=by
 have hx:∀b,H b=none→b≠x:=fun b n z=>by subst z;rw[n]at mu;exact mu
 have hb:∀b,H b=none→b≠e:=fun b n z=>by
  subst z
  rcases he with r|r
  ·exact hx b n r
  ·rw[n]at r;cases r
 have hm:∀b u,H b=some u→¬Mut (some u)→b≠x:=fun b u q nm z=>by subst z;rw[q]at mu;exact nm mu
 refine⟨fun b u q n _ _=>k b u (hb b n) q,fun b u q n _ _=>⟨u.slots,k b u (hb b n) q⟩,fun b u q n _=>by rw[aas (hx b n)];exact n,fun b u q _=>?_,
  fun b xs q=>by rw[aas (hm b _ q fun z=>z)];exact q,fun b u xs q=>by rw[aas (hm b _ q fun z=>z)];exact q,fun b ps q=>⟨#[],by rw[aas (hm b _ q fun z=>z),q];simp⟩⟩
 by_cases hbe:b=e
 ·subst hbe;exact heo
 ·exact⟨u,k b u hbe q⟩
theorem Un.mono(u:Un fs ex H H1 h h1)(hs:∀b∈fs,b∈fs')(hx:∀b∈ex,b∈ex'):Un fs' ex' H H1 h h1:=
 ⟨fun b ob q n hb he=>u.keep b ob q n (fun z=>hb (hs b z)) fun z=>he (hx b z),fun _ _ q n _ he=>u.any q n fun z=>he (hx _ z),fun b ob q n he=>u.free b ob q n fun z=>he (hx b z),fun b ob q he=>u.there b ob q fun z=>he (hx b z),u.tups,u.frzs,u.tbls⟩
end
noncomputable def trk(h:Heap)(H:Hp):List Addr:=(List.range h.objs.size).filter fun a=>(H a).isSome
noncomputable def aiz(h:Heap)(H:Hp):Heap:=PySem.W.hideAll h (trk h H)
theorem aho(h:Heap)(H:Hp):(aiz h H).objs.size=h.objs.size:=PySem.W.hideAll_size _ _
theorem aix{h:Heap}{H:Hp}{b:Addr}{o:Obj}(e:h.get? b=some o)(n:H b=none):(aiz h H).get? b=some o:=
 PySem.W.hideAll_get _ e fun hm=>by
  have q:(H b).isSome=true:=(List.mem_filter.mp hm).2
  rw[n]at q;simp at q
theorem akL{h:Heap}{H:Hp}{b:Addr}{o:Obj}(e:(aiz h H).get? b=some o):h.get? b=some o∧H b=none:=by
 have e':h.get? b=some o:=PySem.W.of_hideAll (trk h H) e
 refine⟨e',?_⟩
 cases q:H b with
 | none=>rfl
 | some x=>
  have hm:b∈trk h H:=List.mem_filter.mpr ⟨List.mem_range.mpr (Heap.lt_size e'),by simp[q]⟩
  have z:(aiz h H).get? b=none:=PySem.W.hideAll_none (trk h H) hm
  rw[z]at e;cases e
noncomputable def ak1(g h:Heap)(L:Addr):List (Addr×Obj):=(List.range h.objs.size).filterMap fun a=>if a=L∨(g.get? a).isSome=true then none else(h.get? a).map fun o=>(a,o)
noncomputable def rest(g h:Heap)(L d:Addr):List (Addr×Obj):=(ak1 g h L).filter fun p=>decide (p.1≠d)
end L2
namespace L2
open PySem PySem.Spec PyProof.Rows
structure Mod(K:PySem.W.Frag)(mg:Str→Option Value)(base:Heap):Prop where
 kin:K.In base
 glob:base.Ns mainGlobals mg
 blt:∃mb,base.Ns builtinsNs mb∧∀x:Str,x≠"__name__"→mb x=bootBuiltins x
 nolimit:base.NoLimit
structure Cx where
 prog:Program
 w:World
 K:PySem.W.Frag
 mg:Str→Option Value
 base:Heap
 A:Around
 N:List Str
 s₀:Shared
 H₀:Hp
 env:Env
 outer:List Env
 stack:List Env
 ex:List Addr
 fn:Str→Bool
 calm:Bool
 pn:List (Addr×Obj)
 xe:Value→Shared→Prop
noncomputable def frs(l:List Env):List Addr:=l.filterMap (·.frame)
noncomputable abbrev Cx.fs(X:Cx):List Addr:=frs X.outer
noncomputable def Vis(sc:Scope)(x:Str):Prop:=sc.names.lookup x=some .local∨sc.names.lookup x=some .cell∨sc.names.lookup x=some .free
noncomputable def Loc(sc:Scope)(x:Str):Prop:=sc.names.lookup x=some .local∨sc.names.lookup x=some .cell
noncomputable def atX(env:Env)(h:Heap)(m:Str→Option Value)(x:Str)(u:Value):Prop:=
 (env.kindOf x=some .local∧m x=some u)∨((env.kindOf x=some .cell∨env.kindOf x=some .free)∧∃c,env.cells.lookup x=some c∧h.IsCell c (some u))
structure Cx.Ok(X:Cx):Prop where
 mod:Mod X.K X.mg X.base
 kind:X.env.scope.kind=.function
 glob:X.env.globals=mainGlobals
 blt:X.env.builtins=builtinsNs
 above:X.s₀.heap.objs.size≤X.env.locals
 inj:∀x y c,X.env.cells.lookup x=some c→X.env.cells.lookup y=some c→x=y
 has:∀x,(X.env.kindOf x=some .cell∨X.env.kindOf x=some .free)→∃c,X.env.cells.lookup x=some c
 cab:∀x c,X.fn x=true→X.env.cells.lookup x=some c→X.s₀.heap.objs.size≤c
 hd:X.calm=true→X.A.handled=none
 frames:X.A.frames=some X.stack
 stk:X.stack=X.outer∨(X.stack=X.env::X.outer∧X.env.frame=some X.env.locals)
 exf:∀b∈X.ex,b≠X.env.locals∧∀x c,X.env.cells.lookup x=some c→c≠b
 bs:∀b o,X.base.get? b=some o→X.s₀.heap.get? b=some o∧X.H₀ b=none
 bsz:X.base.objs.size≤X.s₀.heap.objs.size
 noex:∀b o,X.base.get? b=some o→b∉X.ex
 exfs:∀b∈X.ex,b∉X.fs
 funs:X.s₀.heap.FunFrames X.base X.outer
 frf:∀b∈X.fs,X.H₀ b=none
structure Inv(X:Cx)(pins:List (Addr×Obj))(σ:List (Option V))(H:Hp)(s:Shared):Prop where
 ok:X.Ok
 os:s.os=X.s₀.os
 bare:AllBare s.gens
 base:Un X.fs X.ex X.H₀ H X.s₀.heap s.heap
 loc:∃m,s.heap.Ns X.env.locals m∧∀(i:Nat) (x:Str) (v:V),X.N[i]?=some x→σ[i]?=some (some v)→Vis X.env.scope x→∃u,aaJ v u∧atX X.env s.heap m x u
 cell:∀x c,X.env.cells.lookup x=some c→∃v,s.heap.IsCell c v
 free:H X.env.locals=none
 freeC:∀x c,X.env.cells.lookup x=some c→H c=none
 pin:∀p∈X.pn++pins,s.heap.get? p.1=some p.2∧H p.1=none∧p.1≠X.env.locals∧p.1∉X.fs∧∀v,p.2.data≠.cell v
 hok:HOk X.prog X.w H s.heap
 len:σ.length=X.N.length
section
variable{X:Cx}{pins:List (Addr×Obj)}{σ:List (Option V)}{H H':Hp}{s:Shared}{h':Heap}
theorem Cx.Ok.nofr(ok:X.Ok){b:Addr}{o:Obj}(e:X.base.get? b=some o):b∉X.fs:=fun hb=>by
 have:=(ok.funs.mem hb).1
 rw[e]at this;cases this
theorem Inv.bs(I:Inv X pins σ H s):∀b o,X.base.get? b=some o→s.heap.get? b=some o∧H b=none:=fun b o e=>
 ⟨I.base.keep b o (I.ok.bs b o e).1 (I.ok.bs b o e).2 (I.ok.nofr e) (I.ok.noex b o e),I.base.free b o (I.ok.bs b o e).1 (I.ok.bs b o e).2 (I.ok.noex b o e)⟩
theorem Inv.bk(I:Inv X pins σ H s):∀b o,X.base.get? b=some o→s.heap.get? b=some o:=fun b o e=>(I.bs b o e).1
theorem Inv.mod(I:Inv X pins σ H s):Mod X.K X.mg X.base:=I.ok.mod
theorem Inv.kIn(I:Inv X pins σ H s):X.K.In s.heap:=I.ok.mod.kin.keeps I.bk
theorem Inv.nolimit(I:Inv X pins σ H s):s.heap.NoLimit:=I.ok.mod.nolimit.keeps I.bk
theorem Inv.fr(I:Inv X pins σ H s):∃m,Fr X.base X.env.locals s.heap m:=
 let ⟨m,hn,_⟩:=I.loc
 ⟨m,hn,I.bk,Nat.le_trans I.ok.bsz I.ok.above⟩
theorem Inv.lt(I:Inv X pins σ H s):X.env.locals<s.heap.objs.size:=let ⟨_,hn,_⟩:=I.loc;hn.lt
theorem Inv.sz(I:Inv X pins σ H s):X.s₀.heap.objs.size≤s.heap.objs.size:=Nat.le_trans I.ok.above (Nat.le_of_lt I.lt)
theorem Inv.nofs(I:Inv X pins σ H s){a:Addr}(h:s.heap.objs.size≤a):a∉X.fs:=fun hb=>by
 obtain⟨_,o,ho,_⟩:=I.ok.funs.mem hb
 exact absurd (Nat.lt_of_lt_of_le (Heap.lt_size ho) (Nat.le_trans I.sz h)) (Nat.lt_irrefl _)
theorem Inv.cne(I:Inv X pins σ H s):∀x c,X.env.cells.lookup x=some c→c≠X.env.locals:=fun x c e z=>by
 obtain⟨v,o,ho,hd⟩:=I.cell x c e
 obtain⟨m,⟨o',es,ep,ho',hd',_⟩,_⟩:=I.loc
 rw[z,ho']at ho;cases ho;rw[hd']at hd;cases hd
theorem Inv.funs(I:Inv X pins σ H s):s.heap.FunFrames X.base X.outer:=by
 have all:∀(l:List Env),(∀b∈frs l,b∈X.fs)→X.s₀.heap.FunFrames X.base l→s.heap.FunFrames X.base l:=by
  intro l
  induction l with
  | nil=>intro _ _;trivial
  | cons env r ih=>
   intro hs hl
   obtain⟨hk,⟨L,o,hf,hn,ho,hd⟩,hr⟩:=hl
   have hL:L∈X.fs:=hs L (by unfold frs;rw[List.filterMap_cons,hf];exact List.mem_cons_self)
   obtain⟨sl,e⟩:=I.base.slot L o ho (I.ok.frf L hL) hL fun z=>I.ok.exfs L z hL
   exact⟨hk,⟨L,_,hf,hn,e,hd⟩,ih (fun b hb=>hs b (by unfold frs;rw[List.filterMap_cons,hf];exact List.mem_cons_of_mem _ hb)) hr⟩
 exact all X.outer (fun _ hb=>hb) I.ok.funs
theorem Inv.stack(I:Inv X pins σ H s):s.heap.FunFrames X.base X.stack:=by
 rcases I.ok.stk with e|⟨e,hf⟩
 ·rw[e];exact I.funs
 ·rw[e]
  obtain⟨m,hn,_⟩:=I.loc
  refine .cons (by rw[I.ok.kind];decide) hf hn ?_ I.funs
  exact Heap.get?_none_of_le (Nat.le_trans I.ok.bsz I.ok.above)
theorem Inv.stkSub(I:Inv X pins σ H s):∀b∈frs X.stack,b∈X.env.locals::X.fs:=fun b hb=>by
 rcases I.ok.stk with e|⟨e,hf⟩
 ·rw[e]at hb;exact List.mem_cons_of_mem _ hb
 ·rw[e]at hb
  unfold frs at hb
  rw[List.filterMap_cons,hf]at hb
  exact hb
theorem Inv.stkFree(I:Inv X pins σ H s):∀b∈frs X.stack,H b=none:=fun b hb=>by
 rcases List.mem_cons.mp (I.stkSub b hb)with e|hb
 ·rw[e];exact I.free
 ·obtain⟨_,o,ho,_⟩:=I.ok.funs.mem hb
  exact I.base.free b o ho (I.ok.frf b hb) fun z=>I.ok.exfs b z hb
theorem Inv.step{g':Array GenState}{t':Nat}{d':Drawn}{ch:List Addr}(I:Inv X pins σ H s)
  (hch:∀b∈ch,(b∈X.ex∨X.s₀.heap.objs.size≤b)∧b≠X.env.locals∧(∀x c,X.env.cells.lookup x=some c→c≠b)∧∀p∈X.pn++pins,p.1≠b)
  (keep:∀b o,b≠X.env.locals→b∉X.fs→b∉ch→s.heap.get? b=some o→H b=none→h'.get? b=some o)
  (slot:∀b o,b≠X.env.locals→b∈X.fs→b∉ch→s.heap.get? b=some o→H b=none→∃sl,h'.get? b=some { o with slots:=sl }) (free:∀b o,b∉ch→s.heap.get? b=some o→H b=none→H' b=none)
  (there:∀b o,b∉ch→s.heap.get? b=some o→∃o',h'.get? b=some o')
  (tups:∀b xs,H b=some (.tup xs)→H' b=some (.tup xs)) (frzs:∀b o u,H b=some (.frz o u)→H' b=some (.frz o u)) (tbls:∀b ps,H b=some (.tbl ps)→∃more,H' b=some (.tbl (ps++more)))
  (ns:∀m,s.heap.Ns X.env.locals m→h'.Ns X.env.locals m) (hok:HOk X.prog X.w H' h') (hg:AllBare g'):
  Inv X pins σ H' { s with heap:=h',gens:=g',drawn:=d',toks:=t' }:=by
 have neL:∀b o,X.s₀.heap.get? b=some o→b≠X.env.locals:=fun b o e=>Nat.ne_of_lt (Nat.lt_of_lt_of_le (Heap.lt_size e) I.ok.above)
 have neC:∀b o,X.s₀.heap.get? b=some o→b∉X.ex→b∉ch:=fun b o e hx hb=>by
  rcases(hch b hb).1 with z|z
  ·exact hx z
  ·exact absurd (Nat.lt_of_lt_of_le (Heap.lt_size e) z) (Nat.lt_irrefl _)
 have cellK:∀x c,X.env.cells.lookup x=some c→∀v,s.heap.IsCell c v→h'.IsCell c v:=fun x c e v ⟨o,ho,hd⟩=>by
  have nch:c∉ch:=fun z=>(hch c z).2.2.1 x c e rfl
  by_cases hc:c∈X.fs
  ·obtain⟨sl,q⟩:=slot c o (I.cne x c e) hc nch ho (I.freeC x c e)
   exact⟨_,q,hd⟩
  ·exact⟨o,keep c o (I.cne x c e) hc nch ho (I.freeC x c e),hd⟩
 refine⟨I.ok,I.os,hg,⟨fun b o e n hb hx=>?_,fun b o e n hb hx=>?_,fun b o e n hx=>?_,fun b o e hx=>?_,fun b xs e=>tups b xs (I.base.tups b xs e),fun b o xs e=>frzs b o xs (I.base.frzs b o xs e),fun b ps e=>?_⟩,?_,fun x c e=>?_,?_,fun x c e=>?_,fun p hp=>?_,hok,I.len⟩
 ·exact keep b o (neL b o e) hb (neC b o e hx) (I.base.keep b o e n hb hx) (I.base.free b o e n hx)
 ·obtain⟨sl,e1⟩:=I.base.slot b o e n hb hx
  obtain⟨sl',e2⟩:=slot b _ (neL b o e) hb (neC b o e hx) e1 (I.base.free b o e n hx)
  exact⟨sl',e2⟩
 ·obtain⟨o',e1⟩:=I.base.there b o e hx
  exact free b o' (neC b o e hx) e1 (I.base.free b o e n hx)
 ·obtain⟨o',e1⟩:=I.base.there b o e hx
  exact there b o' (neC b o e hx) e1
 ·obtain⟨m1,e1⟩:=I.base.tbls b ps e
  obtain⟨m2,e2⟩:=tbls b _ e1
  exact⟨m1++m2,by rw[e2,Array.append_assoc]⟩
 ·obtain⟨m,hn,hl⟩:=I.loc
  refine⟨m,ns m hn,fun i x v e1 e2 e3=>?_⟩
  obtain⟨u,r,l⟩:=hl i x v e1 e2 e3
  refine⟨u,r,?_⟩
  rcases l with l|⟨k,c,e,z⟩
  ·exact .inl l
  ·exact .inr ⟨k,c,e,cellK x c e _ z⟩
 ·obtain⟨v,z⟩:=I.cell x c e
  exact⟨v,cellK x c e v z⟩
 ·obtain⟨m,⟨o,_,_,ho,_⟩,_⟩:=I.loc
  exact free _ o (fun z=>(hch _ z).2.1 rfl) ho I.free
 ·obtain⟨v,o,ho,hd⟩:=I.cell x c e
  exact free c o (fun z=>(hch c z).2.2.1 x c e rfl) ho (I.freeC x c e)
 ·obtain⟨e,n,ne,nf,d⟩:=I.pin p hp
  have nch:p.1∉ch:=fun z=>(hch p.1 z).2.2.2 p hp rfl
  exact⟨keep p.1 p.2 ne nf nch e n,free p.1 p.2 nch e n,ne,nf,d⟩
theorem Inv.un{t':Nat}(I:Inv X pins σ H s)(u:Un X.fs [] H H' s.heap h')(hok:HOk X.prog X.w H' h'):Inv X pins σ H' { s with heap:=h',toks:=t' }:=by
 obtain⟨m,⟨o,es,ep,ho,r⟩,_⟩:=id I.loc
 obtain⟨sl,hL⟩:=u.any ho I.free (by simp)
 exact I.step (g':=s.gens) (d':=s.drawn) (ch:=[]) (fun _ z=>nomatch z) (fun b o _ hb _ e n=>u.keep b o e n hb (by simp)) (fun b o _ hb _ e n=>u.slot b o e n hb (by simp)) (fun b o _ e n=>u.free b o e n (by simp)) (fun b o _ e=>u.there b o e (by simp)) u.tups u.frzs u.tbls (fun m' hm=>by
  obtain⟨o',es',ep',ho',r'⟩:=hm
  rw[ho]at ho';cases ho'
  exact⟨_,es',ep',hL,r'⟩) hok I.bare
theorem Inv.call{g':Array GenState}{t':Nat}{d':Drawn}{ch:List Addr}(I:Inv X pins σ H s)(u:Un (frs X.stack) ch H H' s.heap h')(hok:HOk X.prog X.w H' h')(hg:AllBare g')
  (hch:∀b∈ch,(b∈X.ex∨X.s₀.heap.objs.size≤b)∧b≠X.env.locals∧(∀x c,X.env.cells.lookup x=some c→c≠b)∧∀p∈X.pn++pins,p.1≠b):
  Inv X pins σ H' { s with heap:=h',gens:=g',drawn:=d',toks:=t' }:=by
 obtain⟨m,⟨o,es,ep,ho,r⟩,_⟩:=id I.loc
 obtain⟨sl,hL⟩:=u.any ho I.free fun z=>(hch _ z).2.1 rfl
 exact I.step (ch:=ch) hch (fun b o hL hb hc e n=>u.keep b o e n (fun z=>(List.mem_cons.mp (I.stkSub b z)).elim hL hb) hc) (fun b o _ _ hc e n=>u.any e n hc) (fun b o hc e n=>u.free b o e n hc) (fun b o hc e=>u.there b o e hc) u.tups u.frzs u.tbls (fun m' hm=>by
  obtain⟨o',es',ep',ho',r'⟩:=hm
  rw[ho]at ho';cases ho'
  exact⟨_,es',ep',hL,r'⟩) hok hg
theorem Inv.turned{t':Nat}{it:Addr}(I:Inv X pins σ H s)(k:∀b o,b≠it→s.heap.get? b=some o→h'.get? b=some o)(hn:H it=none)(hL:it≠X.env.locals)
  (h1:it∈X.ex∨X.s₀.heap.objs.size≤it) (h2:∀x c,X.env.cells.lookup x=some c→c≠it) (h3:∀p∈X.pn++pins,p.1≠it):Inv X pins σ H { s with heap:=h',toks:=t' }:=by
 have nit:∀b u,H b=some u→b≠it:=fun b u e z=>by rw[z,hn]at e;cases e
 refine I.step (g':=s.gens) (d':=s.drawn) (ch:=[it]) (fun b hb=>?_) (fun b o _ _ hc e _=>k b o (fun z=>hc (by simp[z])) e) (fun b o _ _ hc e _=>⟨o.slots,k b o (fun z=>hc (by simp[z])) e⟩) (fun _ _ _ _ n=>n)
  (fun b o hc e=>⟨o,k b o (fun z=>hc (by simp[z])) e⟩) (fun _ _ e=>e) (fun _ _ _ e=>e) (fun b ps e=>⟨#[],by rw[e];simp⟩) (fun m hm=>?_) (fun b u e=>?_) I.bare
 ·have e:b=it:=by simpa using hb
  subst e
  exact⟨h1,hL,h2,h3⟩
 ·obtain⟨o,es,ep,ho,r⟩:=hm
  exact⟨o,es,ep,k _ o (Ne.symm hL) ho,r⟩
 ·refine(I.hok b u e).stay (fun c v hc q=>k c v ?_ q) (fun _ q=>q) fun _ _ q=>q
  rcases hc with z|z
  ·rw[z];exact nit b u e
  ·exact nit c _ z
theorem Inv.tok(I:Inv X pins σ H s)(t:Nat):Inv X pins σ H { s with toks:=t }:=I.un (h':=s.heap) (t':=t) Un.refl I.hok
theorem Inv.kept{t':Nat}(I:Inv X pins σ H s)(k:∀b u,s.heap.get? b=some u→h'.get? b=some u):Inv X pins σ H { s with heap:=h',toks:=t' }:=I.un (Un.kept k) (I.hok.kept k)
theorem Inv.laid{a:Addr}{o:HO}{t':Nat}(I:Inv X pins σ H s)(k:∀b u,s.heap.get? b=some u→h'.get? b=some u)(hp:s.heap.objs.size≤a)(new:abr X.prog X.w (upd H a o) h' a o):
  Inv X pins σ (upd H a o) { s with heap:=h',toks:=t' }:=I.un (Un.laid k hp (I.hok.fresh hp)) (I.hok.laid k hp new)
theorem Inv.write{x e:Addr}{o:HO}{t':Nat}(I:Inv X pins σ H s)(mu:Mut (H x))(he:e=x∨H e=some (.own x))(k:∀b u,b≠e→s.heap.get? b=some u→h'.get? b=some u)(heo:∃u,h'.get? e=some u)
  (new:abr X.prog X.w (upd H x o) h' x o):Inv X pins σ (upd H x o) { s with heap:=h',toks:=t' }:=I.un (Un.write mu he k heo) (I.hok.write mu he k heo new)
theorem Inv.weak{σ':List (Option V)}(I:Inv X pins σ H s)(hl:σ'.length=σ.length)(w:∀(i:Nat) v,σ'[i]?=some (some v)→σ[i]?=some (some v)):Inv X pins σ' H s:=
 ⟨I.ok,I.os,I.bare,I.base,let ⟨m,hn,hl'⟩:=I.loc;⟨m,hn,fun i x v e1 e2 e3=>hl' i x v e1 (w i v e2) e3⟩,I.cell,I.free,I.freeC,I.pin,I.hok,hl.trans I.len⟩
theorem Inv.pins_of{pins':List (Addr×Obj)}(I:Inv X pins σ H s)(h:∀p∈pins',s.heap.get? p.1=some p.2∧H p.1=none∧p.1≠X.env.locals∧p.1∉X.fs∧∀v,p.2.data≠.cell v):Inv X pins' σ H s:=
 ⟨I.ok,I.os,I.bare,I.base,I.loc,I.cell,I.free,I.freeC,fun p hp=>(List.mem_append.mp hp).elim (fun z=>I.pin p (List.mem_append_left _ z)) (h p),I.hok,I.len⟩
theorem ad3{N:List Str}(hN:N.Nodup){i j:Nat}{x:Str}(a:N[i]?=some x)(b:N[j]?=some x):i=j:=by
 obtain⟨h1,e1⟩:=List.getElem?_eq_some_iff.mp a
 obtain⟨h2,e2⟩:=List.getElem?_eq_some_iff.mp b
 exact(List.getElem_inj hN).mp (e1.trans e2.symm)
theorem aeq{M:Model}{A:Around}{E:Value→Shared→Prop}{i:Nat}{x:Str}{v:V}{u:Value}{Q:Unit→Shared→Prop}(I:Inv X pins σ H s)(hN:X.N.Nodup)(hi:X.N[i]?=some x)(hx:Loc X.env.scope x)(r:aaJ v u)
  (h:∀s',Inv X pins (σ.set i (some v)) H s'→(∃a,Heap.SameBut a s.heap s'.heap∧(a=X.env.locals∨X.env.cells.lookup x=some a))→Q () s') (hf:X.fn x=true∨X.env.scope.names.lookup x=some .local:=by first|exact .inl rfl|exact .inr rfl|assumption):wpAny M A (storeName X.env x u) Q E s:=by
 obtain⟨m,hn,hl⟩:=id I.loc
 have hcls:(X.env.scope.kind==.class||(X.env.scope.kind==.module&&X.env.locals != X.env.globals))=false:=by rw[I.ok.kind];rfl
 have hiσ:i<σ.length:=by rw[I.len];exact(List.getElem?_eq_some_iff.mp hi).1
 have cne:=I.cne
 have tracked:∀{a:Addr}{h':Heap},(∃o,s.heap.get? a=some o∧H a=none)→Heap.SameBut a s.heap h'→HOk X.prog X.w H h':=fun {a h'} ha hs b ob e=>by
  obtain⟨_,_,hfree⟩:=ha
  refine(I.hok b ob e).stay (fun c w' hc q=>(hs.2 c ?_).trans q) (fun _ q=>q) fun _ _ q=>q
  rintro rfl
  rcases hc with rfl|hc
  ·rw[hfree]at e;cases e
  ·rw[hfree]at hc;cases hc
 rcases hx with hk|hk
 ·refine wpAny_storeName_local hk hn (fun h' hn' hs=>?_) hcls
  obtain⟨oL,_,_,hoL,_⟩:=id hn
  refine h _ ⟨I.ok,I.os,I.bare,⟨fun b o e n hb hx=>?_,fun b o e n hb hx=>?_,I.base.free,fun b o e hx=>?_,I.base.tups,I.base.frzs,I.base.tbls⟩,⟨_,hn',fun j y v' e1 e2 e3=>?_⟩,fun y c e=>?_,I.free,I.freeC,fun p hp=>?_,tracked ⟨oL,hoL,I.free⟩ hs,by simpa using I.len⟩ ⟨_,hs,.inl rfl⟩
  ·exact(hs.2 b (Nat.ne_of_lt (Nat.lt_of_lt_of_le (Heap.lt_size e) I.ok.above))).trans (I.base.keep b o e n hb hx)
  ·obtain⟨sl,e1⟩:=I.base.slot b o e n hb hx
   exact⟨sl,(hs.2 b (Nat.ne_of_lt (Nat.lt_of_lt_of_le (Heap.lt_size e) I.ok.above))).trans e1⟩
  ·obtain⟨o',e1⟩:=I.base.there b o e hx
   exact⟨o',(hs.2 b (Nat.ne_of_lt (Nat.lt_of_lt_of_le (Heap.lt_size e) I.ok.above))).trans e1⟩
  ·by_cases hj:j=i
   ·subst hj
    rw[hi]at e1;cases e1
    rw[List.getElem?_set_self hiσ]at e2
    cases e2
    exact⟨u,r,.inl ⟨hk,by simp⟩⟩
   ·rw[List.getElem?_set_ne (Ne.symm hj)]at e2
    obtain⟨u',r',q⟩:=hl j y v' e1 e2 e3
    refine⟨u',r',?_⟩
    rcases q with⟨k,e⟩|⟨k,c,e,z⟩
    ·refine .inl ⟨k,?_⟩
     have:y≠x:=fun e=>hj (ad3 hN e1 (e▸hi))
     simp[this,e]
    ·exact .inr ⟨k,c,e,z.sameBut hs (cne y c e)⟩
  ·obtain⟨w',z⟩:=I.cell y c e
   exact⟨w',z.sameBut hs (cne y c e)⟩
  ·obtain⟨e,n,ne,nf,d⟩:=I.pin p hp
   exact⟨(hs.2 p.1 ne).trans e,n,ne,nf,d⟩
 ·have hfn:X.fn x=true:=by
   rcases hf with z|z
   ·exact z
   ·rw[z]at hk;cases hk
  obtain⟨c,hc⟩:=I.ok.has x (.inl hk)
  obtain⟨w',z⟩:=I.cell x c hc
  refine wpAny_storeName_cell I.ok.kind hk hc z (fun h' hc' hs=>?_)
  obtain⟨oc,hoc,hocd⟩:=id z
  refine h { s with heap:=h' } ⟨I.ok,I.os,I.bare,⟨fun b o e n hb hx=>?_,fun b o e n hb hx=>?_,I.base.free,fun b o e hx=>?_,I.base.tups,I.base.frzs,I.base.tbls⟩,⟨m,hn.sameBut hs (Ne.symm (cne x c hc)),fun j y v' e1 e2 e3=>?_⟩,fun y c' e=>?_,I.free,I.freeC,fun p hp=>?_,tracked ⟨oc,hoc,I.freeC x c hc⟩ hs,by simpa using I.len⟩ ⟨c,hs,.inr hc⟩
  ·exact(hs.2 b (Nat.ne_of_lt (Nat.lt_of_lt_of_le (Heap.lt_size e) (I.ok.cab x c hfn hc)))).trans (I.base.keep b o e n hb hx)
  ·obtain⟨sl,e1⟩:=I.base.slot b o e n hb hx
   exact⟨sl,(hs.2 b (Nat.ne_of_lt (Nat.lt_of_lt_of_le (Heap.lt_size e) (I.ok.cab x c hfn hc)))).trans e1⟩
  ·obtain⟨o',e1⟩:=I.base.there b o e hx
   exact⟨o',(hs.2 b (Nat.ne_of_lt (Nat.lt_of_lt_of_le (Heap.lt_size e) (I.ok.cab x c hfn hc)))).trans e1⟩
  ·by_cases hj:j=i
   ·subst hj
    rw[hi]at e1;cases e1
    rw[List.getElem?_set_self hiσ]at e2
    cases e2
    exact⟨u,r,.inr ⟨.inl hk,c,hc,hc'⟩⟩
   ·rw[List.getElem?_set_ne (Ne.symm hj)]at e2
    obtain⟨u',r',q⟩:=hl j y v' e1 e2 e3
    refine⟨u',r',?_⟩
    rcases q with q|⟨k,c',e,z'⟩
    ·exact .inl q
    ·refine .inr ⟨k,c',e,z'.sameBut hs ?_⟩
     rintro rfl
     exact hj (ad3 hN e1 (I.ok.inj _ _ _ e hc▸hi))
  ·by_cases hcc:c'=c
   ·subst hcc;exact⟨_,hc'⟩
   ·obtain⟨w2,z2⟩:=I.cell y c' e
    exact⟨w2,z2.sameBut hs hcc⟩
  ·obtain⟨e,n,ne,nf,d⟩:=I.pin p hp
   refine⟨(hs.2 p.1 ?_).trans e,n,ne,nf,d⟩
   intro q
   rw[q,hoc]at e
   have q':oc=p.2:=Option.some.inj e
   exact d w' (by rw[←q'];exact hocd)
theorem acB{M:Model}{A:Around}{E:Value→Shared→Prop}{i:Nat}{x:Str}{v:V}{u:Value}{Q:Unit→Shared→Prop}(I:Inv X pins σ H s)(hN:X.N.Nodup)(hi:X.N[i]?=some x)(hx:Loc X.env.scope x)(r:aaJ v u)
  (h:∀s',Inv X pins (σ.set i (some v)) H s'→Q () s') (hf:X.fn x=true∨X.env.scope.names.lookup x=some .local:=by first|exact .inl rfl|exact .inr rfl|assumption):wpAny M A (storeName X.env x u) Q E s:=
 aeq I hN hi hx r (fun s' I' _=>h s' I') hf
theorem Inv.call'{s':Shared}{ch:List Addr}(I:Inv X pins σ H s)(ho:s'.os=s.os)(u:Un (frs X.stack) ch H H' s.heap s'.heap)(hok:HOk X.prog X.w H' s'.heap)(hg:AllBare s'.gens)
  (hch:∀b∈ch,(b∈X.ex∨X.s₀.heap.objs.size≤b)∧b≠X.env.locals∧(∀x c,X.env.cells.lookup x=some c→c≠b)∧∀p∈X.pn++pins,p.1≠b):Inv X pins σ H' s':=by
 obtain⟨h',g',d',t',o'⟩:=s'
 have e:o'=s.os:=ho
 subst e
 exact I.call (g':=g') (t':=t') (d':=d') u hok hg hch
end
noncomputable abbrev XK:=Value→Option Addr→Hp→Prop
noncomputable abbrev St:=List (Option V)
noncomputable abbrev VK:=V→Hp→Prop
noncomputable abbrev TE:=St→Hp→VK→Prop
noncomputable abbrev TT:=St→Hp→(Bool→Hp→Prop)→Prop
noncomputable abbrev TA:=St→Hp→(List V→Hp→Prop)→Prop
structure Ends where
 nx:St→Hp→Prop
 rt:VK
 bk:St→Hp→Prop:=fun _ _=>False
 ct:St→Hp→Prop:=fun _ _=>False
noncomputable abbrev TS:=Ends→St→Hp→Prop
noncomputable def EP(X:Cx)(pins:List (Addr×Obj))(σ:St)(Q:VK)(u:Value)(s':Shared):Prop:=∃v H',Inv X pins σ H' s'∧aaJ v u∧Q v H'
noncomputable def TP(X:Cx)(pins:List (Addr×Obj))(σ:St)(Q:Bool→Hp→Prop)(b:Bool)(s':Shared):Prop:=∃H',Inv X pins σ H' s'∧Q b H'
noncomputable def AP(X:Cx)(pins:List (Addr×Obj))(σ:St)(Q:List V→Hp→Prop)(us:List Value)(s':Shared):Prop:=∃vs H',Inv X pins σ H' s'∧aa7 vs us∧Q vs H'
noncomputable def SP(X:Cx)(pins:List (Addr×Obj))(D:Ends)(f:Flow)(s':Shared):Prop:=
 match f with
 | .next=>∃σ' H',Inv X pins σ' H' s'∧D.nx σ' H'
 | .brk=>∃σ' H',Inv X pins σ' H' s'∧D.bk σ' H'
 | .cont=>∃σ' H',Inv X pins σ' H' s'∧D.ct σ' H'
 | .ret u=>∃v σ' H',Inv X pins σ' H' s'∧aaJ v u∧D.rt v H'
noncomputable def PE(X:Cx)(e:Expr)(t:TE):Prop:=
 ∀(pins:List (Addr×Obj)) (s:Shared) (σ:St) (H:Hp) (Q:VK),Inv X pins σ H s→t σ H Q→wpAny (model X.prog X.w) X.A (eval e X.env) (EP X pins σ Q) X.xe s
noncomputable def PT(X:Cx)(e:Expr)(t:TT):Prop:=
 ∀(pins:List (Addr×Obj)) (s:Shared) (σ:St) (H:Hp) (Q:Bool→Hp→Prop),Inv X pins σ H s→t σ H Q→wpAny (model X.prog X.w) X.A (isTrue e X.env (eval e X.env)) (TP X pins σ Q) X.xe s
noncomputable def PW(X:Cx)(e:Expr)(t:TT):Prop:=
 ∀(whole:Sem Value) (pins:List (Addr×Obj)) (s:Shared) (σ:St) (H:Hp) (Q:Bool→Hp→Prop),Inv X pins σ H s→t σ H Q→wpAny (model X.prog X.w) X.A (isTrue e X.env whole) (TP X pins σ Q) X.xe s
theorem PW.pt{X:Cx}{e:Expr}{t:TT}(h:PW X e t):PT X e t:=h _
noncomputable def PA(X:Cx)(es:List Expr)(t:TA):Prop:=
 ∀(pos:Pos) (pins:List (Addr×Obj)) (s:Shared) (σ:St) (H:Hp) (Q:List V→Hp→Prop),Inv X pins σ H s→t σ H Q→wpAny (model X.prog X.w) X.A (spliced (backTo pos (starEach es X.env))) (AP X pins σ Q) X.xe s
noncomputable def PS(X:Cx)(st:Stmt)(t:TS):Prop:=
 ∀(pins:List (Addr×Obj)) (s:Shared) (σ:St) (H:Hp) (D:Ends),Inv X pins σ H s→t D σ H→wpAny (model X.prog X.w) X.A (exec st X.env) (SP X pins D) X.xe s
noncomputable def PSs(X:Cx)(st:List Stmt)(t:TS):Prop:=
 ∀(pins:List (Addr×Obj)) (s:Shared) (σ:St) (H:Hp) (D:Ends),Inv X pins σ H s→t D σ H→wpAny (model X.prog X.w) X.A (execs st X.env) (SP X pins D) X.xe s
theorem thn{α:Type}{t:Sem α}{Q Q':α→Shared→Prop}{M:Model}{A:Around}{E:Value→Shared→Prop}{s:Shared}(h:wpAny M A t Q E s)(hQ:∀a s,Q a s→Q' a s):wpAny M A t Q' E s:=wpAny_mono h hQ fun _ _ x=>x
end L2
namespace L2
open PySem PySem.Spec PyProof.Rows
section
variable{X:Cx}
theorem bin{a b:Expr}{ta tb:TE}(ha:PE X a ta)(hb:PE X b tb){pins:List (Addr×Obj)}{s:Shared}{σ:St}{H:Hp}{R:V→V→Hp→Prop}(I:Inv X pins σ H s)(h:ta σ H fun x H1=>tb σ H1 fun y H2=>R x y H2)
  {α:Type}{Q:α→Shared→Prop}{f:Value→Value→Sem α}
  (hf:∀v u s2 x y H2,Inv X pins σ H2 s2→aaJ x v→aaJ y u→R x y H2→wpAny (model X.prog X.w) X.A (f v u) Q X.xe s2):
  wpAny (model X.prog X.w) X.A (eval a X.env) (fun v s₁=>wpAny (model X.prog X.w) X.A (eval b X.env) (fun u s₂=>wpAny (model X.prog X.w) X.A (f v u) Q X.xe s₂) X.xe s₁) X.xe s:=by
 refine thn (ha pins s σ H _ I h) fun v s1 ⟨x,H1,I1,r1,q1⟩=>?_
 refine thn (hb pins s1 σ H1 _ I1 q1) fun u s2 ⟨y,H2,I2,r2,q2⟩=>?_
 exact hf v u s2 x y H2 I2 r1 r2 q2
noncomputable def atd(i:Nat):TE:=fun σ H Q=>∃v,σ[i]?=some (some v)∧Q v H
noncomputable def tC(v:V):TE:=fun _ H Q=>Q v H
theorem aea{i:Nat}{x:Str}{pos:Pos}(hN:X.N[i]?=some x)(hv:Vis X.env.scope x)(hd:(x==("__debug__":Str))=false:=by decide)(hcd:(x==("__classdict__":Str))=false:=by decide):PE X (.Name x pos) (atd i):=by
 intro pins s σ H Q I h
 obtain⟨v,e,h⟩:=h
 obtain⟨m,hn,hl⟩:=I.loc
 obtain⟨u,r,l⟩:=hl i x v hN e hv
 have fin:EP X pins σ Q u s:=⟨v,H,I,r,h⟩
 rcases l with⟨hk,hm⟩|⟨hk,c,hc,ag6⟩
 ·exact wpAny_Name (wpAny_loadName_local I.ok.kind hk hn hm fin) hd
 ·rcases hk with hk|hk
  ·exact wpAny_Name (wpAny_loadName_cell I.ok.kind hk hc ag6 fin) hd
  ·exact wpAny_Name (wpAny_loadName_free I.ok.kind hk hc ag6 fin hcd) hd
theorem am7{i j pos}:PE X (.Constant (.int i) j pos) (tC (.int i)):=fun _ _ _ H _ I h=>wpAny_Constant_int ⟨.int i,H,I.tok _,⟨_,rfl⟩,h⟩
theorem ao6{b j pos}:PE X (.Constant (.bool b) j pos) (tC (.bl b)):=fun _ _ _ H _ I h=>Constant_bool ⟨.bl b,H,I,rfl,h⟩
theorem alN{j pos}:PE X (.Constant .none j pos) (tC .non):=fun _ _ _ H _ I h=>Constant_none ⟨.non,H,I,rfl,h⟩
theorem amu{x j pos}:PE X (.Constant (.str x) j pos) (tC (.str x)):=fun _ _ _ H _ I h=>Calls.Constant_str ⟨.str x,H,I.tok _,⟨_,rfl⟩,h⟩
noncomputable def Gl(X:Cx)(x:Str):Prop:=X.env.kindOf x=some .globalImplicit
theorem acU{E:Value→Shared→Prop}{pins:List (Addr×Obj)}{s:Shared}{σ:St}{H:Hp}{x:Str}{u:Value}{pos:Pos}{Q:Value→Shared→Prop}(I:Inv X pins σ H s)(hg:Gl X x)(hm:X.mg x=some u)(h:Q u s)
  (hd:(x==("__debug__":Str))=false:=by decide):wpAny (model X.prog X.w) X.A (eval (.Name x pos) X.env) Q E s:=
 Calls.Name_function_global I.ok.kind hg (Calls.loadGlobal_global (by rw[I.ok.glob];exact I.mod.glob.keeps I.bk) hm h) hd
theorem ado{E:Value→Shared→Prop}{pins:List (Addr×Obj)}{s:Shared}{σ:St}{H:Hp}{x:Str}{u:Value}{pos:Pos}{Q:Value→Shared→Prop}(I:Inv X pins σ H s)(hg:Gl X x)(hm:X.mg x=none)(hv:bootBuiltins x=some u)(h:Q u s)
  (hn:x≠"__name__":=by decide) (hd:(x==("__debug__":Str))=false:=by decide):wpAny (model X.prog X.w) X.A (eval (.Name x pos) X.env) Q E s:=by
 obtain⟨mb,h1,h2⟩:=I.mod.blt
 exact Calls.Name_function_global I.ok.kind hg (Calls.loadGlobal_builtin (by rw[I.ok.glob];exact I.mod.glob.keeps I.bk) hm (by rw[I.ok.blt];exact h1.keeps I.bk) ((h2 x hn).trans hv) h) hd
theorem akf{x:Str}{v:V}{u:Value}{pos:Pos}(hg:Gl X x)(hm:X.mg x=some u)(r:aaJ v u)(hd:(x==("__debug__":Str))=false:=by decide):PE X (.Name x pos) (tC v):=
 fun _ _ _ H _ I h=>acU I hg hm ⟨v,H,I,r,h⟩ hd
theorem ako{x:Str}{v:V}{u:Value}{pos:Pos}(hg:Gl X x)(hm:X.mg x=none)(hv:bootBuiltins x=some u)(r:aaJ v u)(hn:x≠"__name__":=by decide)(hd:(x==("__debug__":Str))=false:=by decide):PE X (.Name x pos) (tC v):=
 fun _ _ _ H _ I h=>ado I hg hm hv ⟨v,H,I,r,h⟩ hn hd
variable{a b:Expr}{ta tb:TE}{pos:Pos}
variable{tA tB':TT}{rest:List Expr}
noncomputable def atA(t u:TT):TT:=fun σ H Q=>t σ H fun c H1=>if c=true then u σ H1 Q else Q false H1
noncomputable def tOr(t u:TT):TT:=fun σ H Q=>t σ H fun c H1=>if c=true then Q true H1 else u σ H1 Q
noncomputable def auR(t:TT):TT:=fun σ H Q=>t σ H fun c H1=>Q (!c) H1
theorem akT(ha:PT X a tA):PW X (.BoolOp .And [a] pos) tA:=by
 intro wh pins s σ H Q I h
 refine isTrue_and (thn (ha pins s σ H Q I h) fun c s1 e=>?_)
 cases c with
 | true=>exact isTrue_and_nil e
 | false=>exact e
theorem alX(ha:PT X a tA):PW X (.BoolOp .Or [a] pos) tA:=by
 intro wh pins s σ H Q I h
 refine isTrue_or (thn (ha pins s σ H Q I h) fun c s1 e=>?_)
 cases c with
 | false=>exact isTrue_or_nil e
 | true=>exact e
theorem amc(ha:PT X a tA)(hb:PW X (.BoolOp .And (b::rest) pos) tB'):PW X (.BoolOp .And (a::b::rest) pos) (atA tA tB'):=by
 intro wh pins s σ H Q I h
 refine isTrue_and (thn (ha pins s σ H _ I h) fun c s1 ⟨H1,I1,q1⟩=>?_)
 cases c with
 | true=>exact hb wh pins s1 σ H1 Q I1 q1
 | false=>exact⟨H1,I1,q1⟩
theorem aqm(ha:PT X a tA)(hb:PW X (.BoolOp .Or (b::rest) pos) tB'):PW X (.BoolOp .Or (a::b::rest) pos) (tOr tA tB'):=by
 intro wh pins s σ H Q I h
 refine isTrue_or (thn (ha pins s σ H _ I h) fun c s1 ⟨H1,I1,q1⟩=>?_)
 cases c with
 | true=>exact⟨H1,I1,q1⟩
 | false=>exact hb wh pins s1 σ H1 Q I1 q1
theorem anG(ha:PT X a tA):PT X (.UnaryOp .Not a pos) (auR tA):=by
 intro pins s σ H Q I h
 exact isTrue_not (ha pins s σ H (fun c H1=>Q (!c) H1) I h)
noncomputable def apF(ta tb:TE):TE:=fun σ H Q=>ta σ H fun x H1=>∃c,x=.bl c∧if c=true then tb σ H1 Q else Q (.bl false) H1
theorem alY{op}{t:TE}(h:PE X a t):PE X (.BoolOp op [a] pos) t:=fun pins s σ H Q I hw=>BoolOp_one (h pins s σ H Q I hw)
theorem alT(ha:PE X a ta)(hb:PE X (.BoolOp .And (b::rest) pos) tb):PE X (.BoolOp .And (a::b::rest) pos) (apF ta tb):=by
 intro pins s σ H Q I h
 refine BoolOp_and (thn (ha pins s σ H _ I h) fun v s1 ⟨x,H1,I1,r1,q1⟩=>?_)
 obtain⟨c,rfl,q1⟩:=q1
 cases r1
 refine wpAny_truthy_bool ?_
 cases c with
 | true=>exact hb pins s1 σ H1 Q I1 q1
 | false=>exact⟨.bl false,H1,I1,rfl,q1⟩
noncomputable def tIf(t:TT)(ta tb:TE):TE:=fun σ H Q=>t σ H fun c H1=>if c=true then ta σ H1 Q else tb σ H1 Q
theorem ai5{c:Expr}(hc:PT X c tA)(ha:PE X a ta)(hb:PE X b tb):PE X (.IfExp c a b pos) (tIf tA ta tb):=by
 intro pins s σ H Q I h
 refine wpAny_IfExp (thn (hc pins s σ H _ I h) fun d s1 ⟨H1,I1,q1⟩=>?_)
 cases d with
 | true=>exact ha pins s1 σ H1 Q I1 q1
 | false=>exact hb pins s1 σ H1 Q I1 q1
end
end L2
namespace L2
open PySem PySem.Spec PyProof.Rows
noncomputable def SqL(K:PySem.W.Frag)(H:Hp)(a:Addr)(xs:List V):Prop:=
 Rd H a (.lst xs)∨
  ∃(o:Obj) (its:Array Value) (n:Nat),K.lookup a=some o∧o.cls=.type "list"∧o.dict=none∧o.data=.seq its n∧its.size≤sizeLine∧aa7 xs its.toList
noncomputable def SqT(K:PySem.W.Frag)(H:Hp)(a:Addr)(xs:List V):Prop:=
 Rd H a (.tup xs)∨
  ∃(o:Obj) (its:Array Value) (n:Nat),K.lookup a=some o∧o.cls=.type "tuple"∧o.data=.seq its n∧its.size≤sizeLine∧aa7 xs its.toList
noncomputable def auj:Value→Option V
 | .none=>some .non
 | .bool b=>some (.bl b)
 | .int i _=>some (.int i)
 | .str x _=>some (.str x)
 | .bytes b _=>some (.byt b)
 | .float b _=>some (.flt b)
 | .ref a=>some (.ref a)
 | .type n=>some (.ty n)
 | _=>none
theorem aaJ.abs{x:V}{u:Value}(r:aaJ x u):auj u=some x:=by
 cases x with
 | non=>cases r;rfl
 | bl _=>cases r;rfl
 | int _=>obtain⟨t,rfl⟩:=r;rfl
 | str _=>obtain⟨t,rfl⟩:=r;rfl
 | byt _=>obtain⟨t,rfl⟩:=r;rfl
 | flt _=>obtain⟨t,rfl⟩:=r;rfl
 | ref _=>cases r;rfl
 | ty _=>cases r;rfl
theorem aaJ.inj{x y:V}{u:Value}(r:aaJ x u)(q:aaJ y u):x=y:=Option.some.inj (r.abs.symm.trans q.abs)
theorem aa7.inj:∀{xs ys:List V}{us:List Value},aa7 xs us→aa7 ys us→xs=ys
 | _,_,_,.nil,.nil=>rfl
 | _,_,_,.cons r t,.cons r' t'=>by rw[r.inj r',aa7.inj t t']
section
variable{X:Cx}{pins:List (Addr×Obj)}{σ:St}{H:Hp}{s:Shared}{a:Addr}{xs ys:List V}
theorem SqL.of{K:PySem.W.Frag}(h:H a=some (.lst xs)):SqL K H a xs:=.inl (.inl h)
theorem SqT.of{K:PySem.W.Frag}(h:H a=some (.tup xs)):SqT K H a xs:=.inl (.inl h)
theorem Inv.list(I:Inv X pins σ H s)(h:SqL X.K H a xs):∃its:List Value,aa7 xs its∧PlainL s.heap a its.toArray∧xs.length≤sizeLine:=by
 rcases h with h|⟨o,its,n,hk,hc,hd,hs,hz,r⟩
 ·obtain⟨z,its,n,r,e⟩:=h.ok I.hok
  exact⟨its,r,⟨_,n,e,rfl,rfl,rfl⟩,z⟩
 ·refine⟨its.toList,r,⟨o,n,I.kIn a o hk,hc,hd,by simpa using hs⟩,?_⟩
  have e:=r.length
  simp only[Array.length_toList]at e
  omega
theorem Inv.tuple(I:Inv X pins σ H s)(h:SqT X.K H a xs):∃its:List Value,aa7 xs its∧IsTup s.heap a its.toArray∧xs.length≤sizeLine:=by
 rcases h with h|⟨o,its,n,hk,hc,hs,hz,r⟩
 ·obtain⟨z,its,r,p⟩:=h.ok I.hok
  exact⟨its,r,p,z⟩
 ·refine⟨its.toList,r,⟨o,I.kIn a o hk,hc,n,by simpa using hs⟩,?_⟩
  have e:=r.length
  simp only[Array.length_toList]at e
  omega
theorem Inv.list_inj(I:Inv X pins σ H s)(h:SqL X.K H a xs)(h':SqL X.K H a ys):xs=ys:=by
 obtain⟨its,r,⟨o,n,e,_,_,d⟩,_⟩:=I.list h
 obtain⟨its',r',⟨o',n',e',_,_,d'⟩,_⟩:=I.list h'
 rw[e]at e';cases e'
 rw[d]at d'
 injection d' with d1 _
 have:its=its':=by simpa using congrArg Array.toList d1
 subst this
 exact r.inj r'
theorem Inv.tuple_inj(I:Inv X pins σ H s)(h:SqT X.K H a xs)(h':SqT X.K H a ys):xs=ys:=by
 obtain⟨its,r,⟨o,e,_,n,d⟩,_⟩:=I.tuple h
 obtain⟨its',r',⟨o',e',_,n',d'⟩,_⟩:=I.tuple h'
 rw[e]at e';cases e'
 rw[d]at d'
 injection d' with d1 _
 have:its=its':=by simpa using congrArg Array.toList d1
 subst this
 exact r.inj r'
end
noncomputable abbrev Cx.wish(X:Cx)(E:Value→Shared→Prop):Cx:={ X with xe:=E }
noncomputable abbrev Cx.nox(X:Cx):Cx:=X.wish fun _ _=>False
theorem Cx.Ok.wish{X:Cx}(ok:X.Ok)(E:Value→Shared→Prop):(X.wish E).Ok:=
 ⟨ok.mod,ok.kind,ok.glob,ok.blt,ok.above,ok.inj,ok.has,ok.cab,ok.hd,ok.frames,ok.stk,ok.exf,ok.bs,ok.bsz,ok.noex,ok.exfs,ok.funs,ok.frf⟩
theorem Cx.Ok.unwish{X:Cx}{E:Value→Shared→Prop}(ok:(X.wish E).Ok):X.Ok:=
 ⟨ok.mod,ok.kind,ok.glob,ok.blt,ok.above,ok.inj,ok.has,ok.cab,ok.hd,ok.frames,ok.stk,ok.exf,ok.bs,ok.bsz,ok.noex,ok.exfs,ok.funs,ok.frf⟩
section
variable{X:Cx}{pins:List (Addr×Obj)}{σ:St}{H:Hp}{s:Shared}{E:Value→Shared→Prop}
theorem Inv.wish(I:Inv X pins σ H s)(E:Value→Shared→Prop):Inv (X.wish E) pins σ H s:=⟨I.ok.wish E,I.os,I.bare,I.base,I.loc,I.cell,I.free,I.freeC,I.pin,I.hok,I.len⟩
theorem Inv.unwish(I:Inv (X.wish E) pins σ H s):Inv X pins σ H s:=⟨I.ok.unwish,I.os,I.bare,I.base,I.loc,I.cell,I.free,I.freeC,I.pin,I.hok,I.len⟩
theorem SP.unwish{D:Ends}{f:Flow}{s':Shared}(h:SP (X.wish E) pins D f s'):SP X pins D f s':=by
 cases f with
 | next=>obtain⟨σ',H',I,q⟩:=h;exact⟨σ',H',I.unwish,q⟩
 | brk=>obtain⟨σ',H',I,q⟩:=h;exact⟨σ',H',I.unwish,q⟩
 | cont=>obtain⟨σ',H',I,q⟩:=h;exact⟨σ',H',I.unwish,q⟩
 | ret u=>obtain⟨v,σ',H',I,r,q⟩:=h;exact⟨v,σ',H',I.unwish,r,q⟩
theorem PE.nox{e:Expr}{t:TE}(h:PE X.nox e t):PE X e t:=fun pins s σ H Q I hw=>
 wpAny_mono (h pins s σ H Q (I.wish _) hw) (fun _ _ ⟨v,H',I',r,q⟩=>⟨v,H',I'.unwish,r,q⟩) fun _ _ z=>False.elim z
theorem PT.nox{e:Expr}{t:TT}(h:PT X.nox e t):PT X e t:=fun pins s σ H Q I hw=>
 wpAny_mono (h pins s σ H Q (I.wish _) hw) (fun _ _ ⟨H',I',q⟩=>⟨H',I'.unwish,q⟩) fun _ _ z=>False.elim z
theorem PSs.nox{st:List Stmt}{t:TS}(h:PSs X.nox st t):PSs X st t:=fun pins s σ H D I hw=>
 wpAny_mono (h pins s σ H D (I.wish _) hw) (fun _ _ q=>q.unwish) fun _ _ z=>False.elim z
end
section
variable{X:Cx}{st:Stmt}{rest:List Stmt}{t u:TS}{e:Expr}{te:TE}{pos:Pos}
noncomputable def arS:TS:=fun D σ H=>D.nx σ H
noncomputable def auQ(t u:TS):TS:=fun D σ H=>t { D with nx:=u D } σ H
theorem akN:PSs X [] arS:=fun _ _ σ H _ I h=>wpAny_execs_nil ⟨σ,H,I,h⟩
theorem aiW(h1:PS X st t)(h2:PSs X rest u):PSs X (st::rest) (auQ t u):=by
 intro pins s σ H D I h
 refine wpAny_execs_cons (thn (h1 pins s σ H { D with nx:=u D } I h) fun f s1 q=>?_)
 cases f with
 | next=>
  obtain⟨σ',H',I',q⟩:=q
  exact h2 pins s1 σ' H' D I' q
 | ret v=>exact q
 | brk=>exact q
 | cont=>exact q
theorem Inv.quiet{pins:List (Addr×Obj)}{σ:St}{H:Hp}{s:Shared}(I:Inv X pins σ H s):interactive X.env=false:=by simp[interactive,I.ok.kind]
noncomputable def arV(te:TE):TS:=fun D σ H=>te σ H fun _ H1=>D.nx σ H1
theorem alb(he:PE X e te)(hs:swapsWith e none pos.line X.env=pure false:=by rfl):PS X (.Expr e pos) (arV te):=by
 intro pins s σ H D I h
 exact wpAny_Expr_any (thn (he pins s σ H _ I h) fun v s1 ⟨x,H1,I1,r1,q1⟩=>⟨σ,H1,I1,q1⟩) I.quiet hs
noncomputable def auU(te:TE):TS:=fun D σ H=>te σ H D.rt
theorem ajq(he:PE X e te):PS X (.Return (some e) pos) (auU te):=by
 intro pins s σ H D I h
 exact wpAny_Return_some (thn (he pins s σ H _ I h) fun v s1 ⟨x,H1,I1,r1,q1⟩=>⟨x,σ,H1,I1,r1,q1⟩)
noncomputable def aum(c:TT)(t u:TS):TS:=fun D σ H=>c σ H fun b H1=>if b=true then t D σ H1 else u D σ H1
theorem arE{c:Expr}{a b:List Stmt}{tc:TT}(hc:PT X c tc)(ha:PSs X a t)(hb:PSs X b u):PS X (.If c a b pos) (aum tc t u):=by
 intro pins s σ H D I h
 refine wpAny_If (thn (hc pins s σ H _ I h) fun d s1 ⟨H1,I1,q1⟩=>?_)
 cases d with
 | true=>exact ha pins s1 σ H1 D I1 q1
 | false=>exact hb pins s1 σ H1 D I1 q1
end
noncomputable abbrev TG:=V→St→Hp→(St→Hp→Prop)→Prop
noncomputable abbrev TGs:=List V→St→Hp→(St→Hp→Prop)→Prop
noncomputable def PG(X:Cx)(target:Expr)(t:TG):Prop:=
 ∀(pins:List (Addr×Obj)) (s:Shared) (σ:St) (H:Hp) (v:V) (u:Value) (Q:St→Hp→Prop),Inv X pins σ H s→aaJ v u→t v σ H Q→
  wpAny (model X.prog X.w) X.A (assign target X.env u) (fun _ s'=>∃σ' H',Inv X pins σ' H' s'∧Q σ' H') X.xe s
noncomputable def PGs(X:Cx)(ts:List Expr)(t:TGs):Prop:=
 ∀(pins:List (Addr×Obj)) (s:Shared) (σ:St) (H:Hp) (vs:List V) (us:List Value) (Q:St→Hp→Prop),Inv X pins σ H s→aa7 vs us→t vs σ H Q→
  wpAny (model X.prog X.w) X.A (assignInOrder ((assignEach ts X.env).map (·.2)) us) (fun _ s'=>∃σ' H',Inv X pins σ' H' s'∧Q σ' H') X.xe s
noncomputable abbrev aq3:=V→V→V→Hp→(Hp→Prop)→Prop
noncomputable def atP(X:Cx)(t:aq3):Prop:=
 ∀(pins:List (Addr×Obj)) (s:Shared) (σ:St) (H:Hp) (o i v:V) (ov iv u:Value) (Q:Hp→Prop),Inv X pins σ H s→aaJ o ov→aaJ i iv→aaJ v u→t o i v H Q→
  wpAny (model X.prog X.w) X.A (setItem ov iv u) (fun _ s'=>∃H',Inv X pins σ H' s'∧Q H') X.xe s
section
variable{X:Cx}{pos:Pos}
noncomputable def am9(i:Nat):TG:=fun v σ H Q=>Q (σ.set i (some v)) H
theorem agJ{i:Nat}{x:Str}(hN:X.N.Nodup)(hi:X.N[i]?=some x)(hx:Loc X.env.scope x)(hf:X.fn x=true∨X.env.scope.names.lookup x=some .local:=by first|exact .inl rfl|exact .inr rfl|assumption):PG X (.Name x pos) (am9 i):=by
 intro pins s σ H v u Q I r h
 exact wpAny_assign_Name (acB I hN hi hx r (fun s' I'=>⟨_,H,I',h⟩) hf)
noncomputable def au9:TGs:=fun vs σ H Q=>vs=[]∧Q σ H
noncomputable def aqn(t:TG)(u:TGs):TGs:=fun vs σ H Q=>∃v r,vs=v::r∧t v σ H fun σ' H'=>u r σ' H' Q
theorem akB:PGs X [] au9:=by
 intro pins s σ H vs us Q I r h
 obtain⟨e,h⟩:=h
 subst e
 cases r
 exact assignInOrder_nil ⟨σ,H,I,h⟩
theorem aiN{e:Expr}{es:List Expr}{t:TG}{u:TGs}(h1:PG X e t)(h2:PGs X es u)
  (hs:(assignEach (e::es) X.env).map (·.2)=assign e X.env::(assignEach es X.env).map (·.2):=by rfl):PGs X (e::es) (aqn t u):=by
 intro pins s σ H vs us Q I r h
 obtain⟨v,vr,e1,h⟩:=h
 subst e1
 cases r with
 | cons r rr=>
  rw[hs]
  refine assignInOrder_cons (thn (h1 pins s σ H _ _ _ I r h) fun _ s1 ⟨σ1,H1,I1,q1⟩=>?_)
  exact h2 pins s1 σ1 H1 _ _ Q I1 rr q1
noncomputable def ava(K:PySem.W.Frag)(n:Nat)(t:TGs):TG:=fun v σ H Q=>∃a xs,v=.ref a∧SqT K H a xs∧xs.length=n∧t xs σ H Q
theorem amC{es:List Expr}{k:Nat}{t:TGs}{n:Nat}(hc:X.calm=true)(h:PGs X es t)
  (hn:(assignEach es X.env).length=n:=by rfl) (hst:(assignEach es X.env).findIdx? (·.1)=none:=by rfl):PG X (.Tuple es k pos) (ava X.K n t):=by
 intro pins s σ H v u Q I r hw
 obtain⟨a,xs,e1,hq,hl,hw⟩:=hw
 subst e1
 cases r
 obtain⟨its,rv,ht,hz⟩:=I.tuple hq
 refine assign_Tuple_tuple (I.ok.hd hc) ht (by simp[hn,←hl,rv.length]) hst fun h' hx=>?_
 have I1:Inv X pins σ H { s with heap:=h' }:=I.kept (t':=s.toks) fun b o e=>hx b o (Nat.ne_of_lt (Heap.lt_size e)) e
 exact h pins _ σ H xs _ Q I1 (by simpa using rv) hw
noncomputable def auw(to ti:TE)(t:aq3):TG:=fun v σ H Q=>to σ H fun o H1=>ti σ H1 fun i H2=>t o i v H2 fun H3=>Q σ H3
theorem alQ{o i:Expr}{to ti:TE}{t:aq3}(ho:PE X o to)(hi:PE X i ti)(hs:atP X t)
  (ha:∀v,assign (.Subscript o i pos) X.env v=(do
   let ov ←holding [v] (eval o X.env)
   let iv ←holding [v,ov] (eval i X.env)
   standAt pos
   holding [v,ov,iv] (setItem ov iv v)
   release [v,ov,iv] []):=by intro _;rfl):PG X (.Subscript o i pos) (auw to ti t):=by
 intro pins s σ H v u Q I r h
 rw[ha]
 refine wpAny_bind (wpAny_holding (thn (ho pins s σ H _ I h) fun ov s1 ⟨x,H1,I1,r1,q1⟩=>?_))
 refine wpAny_bind (wpAny_holding (thn (hi pins s1 σ H1 _ I1 q1) fun iv s2 ⟨y,H2,I2,r2,q2⟩=>?_))
 refine wpAny_bind (wpAny_standAt (wpAny_bind (wpAny_holding (thn (hs pins s2 σ H2 x y v ov iv u _ I2 r1 r2 r q2) fun _ s3 ⟨H3,I3,q3⟩=>?_))))
 exact wpAny_release ⟨σ,H3,I3,q3⟩
noncomputable def asQ(te:TE)(g:TG):TS:=fun D σ H=>te σ H fun x H1=>g x σ H1 D.nx
theorem aj5{tg e:Expr}{te:TE}{g:TG}(he:PE X e te)(hg:PG X tg g)(hs:swapsWithSole [tg] e pos.line X.env=pure false:=by rfl)(hw:swappedStores [tg] e X.env=pure none:=by rfl)
  (h1:(assignEach [tg] X.env).map (·.2)=[assign tg X.env]:=by rfl):PS X (.Assign [tg] e pos) (asQ te g):=by
 intro pins s σ H D I h
 refine wpAny_Assign_stores (thn (he pins s σ H _ I h) fun v s1 ⟨x,H1,I1,r1,q1⟩=>?_) hs hw
 rw[h1]
 exact thn (hg pins s1 σ H1 x v _ I1 r1 q1) fun _ s2 q=>q
theorem aj6{i:Nat}{x:Str}{e:Expr}{te:TE}{pos':Pos}(hN:X.N.Nodup)(hi:X.N[i]?=some x)(hx:Loc X.env.scope x)(he:PE X e te)(hs:swapsWith e (some (.Name x pos')) pos.line X.env=pure false:=by rfl)(hf:X.fn x=true∨X.env.scope.names.lookup x=some .local:=by first|exact .inl rfl|exact .inr rfl|assumption):
  PS X (.Assign [.Name x pos'] e pos) (asQ te (am9 i)):=by
 intro pins s σ H D I h
 refine wpAny_Assign_Name (thn (he pins s σ H _ I h) fun v s1 ⟨y,H1,I1,r1,q1⟩=>?_) hs
 exact acB I1 hN hi hx r1 (fun s2 I2=>⟨_,H1,I2,q1⟩) hf
end
section
variable{X:Cx}{pos:Pos}
noncomputable def anO(c:TT)(tb:TS):TS:=fun D σ H=>∃W:Nat→St→Hp→Prop,(∃m,W m σ H)∧∀m σ H,W m σ H→
 c σ H fun b H1=>if b=true then ∃N:St→Hp→Prop,(∀σ' H',N σ' H'→∃m',m'<m∧W m' σ' H')∧tb { D with nx:=N,ct:=N,bk:=D.nx } σ H1 else D.nx σ H1
theorem ahZ{c:Expr}{body:List Stmt}{tc:TT}{tb:TS}(hp:PassesOwn (model X.prog X.w) X.A X.env X.xe)(hc:PT X c tc)(hb:PSs X body tb):PS X (.While c body [] pos) (anO tc tb):=by
 intro pins s σ H D I h
 obtain⟨W,⟨m0,w0⟩,turn⟩:=h
 refine wpAny_While (codeAny_whileLoop (fun n s'=>∃σ' H',Inv X pins σ' H' s'∧W n σ' H') ?_ m0 ⟨σ,H,I,w0⟩)
 rintro n s1 ⟨σ1,H1,I1,w1⟩
 refine wpAny_passesOwn hp (thn (hc pins s1 σ1 H1 _ I1 (turn n σ1 H1 w1)) fun b s2 ⟨H2,I2,q2⟩=>?_)
 cases b with
 | true=>
  obtain⟨N,hN,q2⟩:=q2
  rw[if_pos rfl]
  refine wpAny_passesOwn hp (thn (hb pins s2 σ1 H2 _ I2 q2) fun f s3 q3=>?_)
  cases f with
  | next=>
   obtain⟨σ3,H3,I3,n3⟩:=q3
   obtain⟨m',hm,w3⟩:=hN σ3 H3 n3
   exact⟨m',hm,σ3,H3,I3,w3⟩
  | cont=>
   obtain⟨σ3,H3,I3,n3⟩:=q3
   obtain⟨m',hm,w3⟩:=hN σ3 H3 n3
   exact⟨m',hm,σ3,H3,I3,w3⟩
  | brk=>exact q3
  | ret v=>exact q3
 | false=>
  rw[if_neg Bool.false_ne_true]
  exact wpAny_execs_nil ⟨σ1,H2,I2,q2⟩
end
structure It where
 go:Nat→Hp→Prop
 yld:Nat→Hp→V→Hp→Prop
 stop:Nat→Hp→Prop
noncomputable def ad0(X:Cx)(pins:List (Addr×Obj))(H:Hp)(b:Addr):Prop:=
 H b=none∧b≠X.env.locals∧b∉X.fs∧(b∈X.ex∨X.s₀.heap.objs.size≤b)∧(∀x c,X.env.cells.lookup x=some c→c≠b)∧∀p∈X.pn++pins,p.1≠b
theorem Inv.fpOk{X:Cx}{pins:List (Addr×Obj)}{σ:St}{H H':Hp}{s:Shared}{b:Addr}(I:Inv X pins σ H s)(hb:s.heap.objs.size≤b)(hn:H' b=none):ad0 X pins H' b:=by
 refine⟨hn,Nat.ne_of_gt (Nat.lt_of_lt_of_le I.lt hb),I.nofs hb,.inr (Nat.le_trans I.sz hb),fun x c e z=>?_,fun p hp z=>?_⟩
 ·obtain⟨v,q⟩:=I.cell x c e
  exact absurd (Nat.lt_of_lt_of_le q.lt (by rw[z];exact hb)) (Nat.lt_irrefl _)
 ·exact absurd (Nat.lt_of_lt_of_le (Heap.lt_size (I.pin p hp).1) (by rw[z];exact hb)) (Nat.lt_irrefl _)
structure Turn(P:Program)(w:World)(K:PySem.W.Frag)(tg:Expr)(J:It)(fp:List Addr)(it:Addr)(tn:Nat→Heap→Prop):Prop where
 mem:it∈fp
 obj:∀i h,tn i h→∀b∈fp,∃o,h.get? b=some o∧∀v,o.data≠.cell v
 keep:∀i h h',tn i h→(∀b∈fp,∀o,h.get? b=some o→h'.get? b=some o)→tn i h'
 item:∀(X:Cx),X.prog=P→X.w=w→X.K=K→X.calm=true→∀(i:Nat) (pins:List (Addr×Obj)) (s:Shared) (σ:St) (H:Hp) (E:Value→Shared→Prop),Inv X pins σ H s→(∀b∈fp,ad0 X pins H b)→tn i s.heap→J.go i H→
  wpAny (model P w) X.A (pyNext (.ref it)) (fun r s1=>∃u,r=some u∧
   wpAny (model P w) X.A (letOwnedTupleGo tg (.ref it) u) (fun _ s2=>∃x H',Inv X pins σ H' s2∧aaJ x u∧J.yld i H x H'∧tn (i+1) s2.heap∧∀b∈fp,H' b=none) E s1) E s
 done:∀(X:Cx),X.prog=P→X.w=w→X.K=K→X.calm=true→∀(i:Nat) (pins:List (Addr×Obj)) (s:Shared) (σ:St) (H:Hp) (E:Value→Shared→Prop),Inv X pins σ H s→(∀b∈fp,ad0 X pins H b)→tn i s.heap→J.stop i H→
  wpAny (model P w) X.A (pyNext (.ref it)) (fun r s1=>r=none∧Inv X pins σ H s1) E s
 self:∀(A:Around) (i:Nat) (s:Shared) (Q:Value→Shared→Prop) (E:Value→Shared→Prop),tn i s.heap→Q (.ref it) s→wpAny (model P w) A (pyIter (.ref it)) Q E s
noncomputable abbrev TI:=St→Hp→(It→Hp→Prop)→Prop
noncomputable def PIE(X:Cx)(pins:List (Addr×Obj))(σ:St)(tg:Expr)(R:It→Hp→Prop)(itv:Value)(s2:Shared):Prop:=
 ∃(it:Addr) (fp:List Addr) (tn:Nat→Heap→Prop) (J:It) (H':Hp),itv=.ref it∧Inv X pins σ H' s2∧Turn X.prog X.w X.K tg J fp it tn∧tn 0 s2.heap∧(∀b∈fp,ad0 X pins H' b)∧R J H'
noncomputable def PI(X:Cx)(tg iter:Expr)(wi:TI):Prop:=
 ∀(pins:List (Addr×Obj)) (s:Shared) (σ:St) (H:Hp) (R:It→Hp→Prop),Inv X pins σ H s→wi σ H R→
  wpAny (model X.prog X.w) X.A (eval iter X.env) (fun v s1=>wpAny (model X.prog X.w) X.A (pyIter v) (PIE X pins σ tg R) X.xe s1) X.xe s
theorem akg{M:Model}{A:Around}{E:Value→Shared→Prop}{s:Shared}{tg:Expr}{it:Addr}{u:Value}{o:Obj}{n:String}{vs:Array Value}{Q:Unit→Shared→Prop}(ho:s.heap.get? it=some o)(hc:o.cls=.type n)(hd:o.data=.fields vs)
  (hn:["enumerate","zip","dict_itemiterator","dict_reverseitemiterator","odict_iterator","itertools.zip_longest","itertools.pairwise"].contains n=false) (hQ:Q () s):wpAny M A (letOwnedTupleGo tg (.ref it) u) Q E s:=by
 unfold letOwnedTupleGo
 cases tg<;>first
  | exact wpAny_pure hQ
  | (cases u<;>first
    | exact wpAny_pure hQ
    | (refine wpAny_bind (wpAny_load ho ?_)
       rw[hc,hd]
       show wpAny M A (if(["enumerate","zip","dict_itemiterator","dict_reverseitemiterator","odict_iterator","itertools.zip_longest","itertools.pairwise"].contains n&&vs[0]?==some (rawInt _))=true then _ else _) Q E s
       rw[if_neg (by intro h;rw[hn,Bool.false_and]at h;cases h)]
       exact wpAny_pure hQ))
noncomputable def Itl(K:PySem.W.Frag)(a:Addr):It:=
 ⟨fun i H=>∃xs x,SqL K H a xs∧xs[i]?=some x,fun i H x H'=>H'=H∧∀xs,SqL K H a xs→xs[i]?=some x,fun i H=>∃xs,SqL K H a xs∧xs.length≤i⟩
noncomputable def Itt(K:PySem.W.Frag)(a:Addr):It:=
 ⟨fun i H=>∃xs x,SqT K H a xs∧xs[i]?=some x,fun i H x H'=>H'=H∧∀xs,SqT K H a xs→xs[i]?=some x,fun i H=>∃xs,SqT K H a xs∧xs.length≤i⟩
noncomputable def Itr(lo:Int)(n:Nat):It:=⟨fun i _=>i<n,fun i H x H'=>H'=H∧x=.int (lo+i),fun i _=>n≤i⟩
theorem ahu{P:Program}{w:World}{K:PySem.W.Frag}{tg:Expr}(a it:Addr):Turn P w K tg (Itl K a) [it] it (fun i h=>h.IsListIter it a i)where
 mem:=by simp
 obj:=fun i h st b hb=>by
  have e:b=it:=by simpa using hb
  subst e
  obtain⟨o,e,c,d⟩:=st
  exact⟨o,e,fun v z=>by rw[d]at z;cases z⟩
 keep:=fun i h h' st k=>st.at fun o e=>k it (by simp) o e
 item:=by
  intro X hP hw hK hc i pins s σ H E I hf st hg
  subst hP hw hK
  obtain⟨xs,x,hq,hx⟩:=hg
  obtain⟨its,rv,p,hz⟩:=I.list hq
  obtain⟨u,hu,ru⟩:=rv.get hx
  obtain⟨f0,f1,f2,f3,f4,f5⟩:=hf it (by simp)
  refine wpAny_pyNext_list_item st p.isList (x:=u) (by simpa using hu) fun h' st' sb=>?_
  have I1:Inv X pins σ H { s with heap:=h' }:=I.turned (t':=s.toks) (fun b o hb e=>(sb.2 b hb).trans e) f0 f1 f3 f4 f5
  obtain⟨o,e,c,d⟩:=id st'
  exact⟨u,rfl,akg (s:={ s with heap:=h' }) e c d (by decide) ⟨x,H,I1,ru,⟨rfl,fun ys hy=>by rw[I.list_inj hy hq];exact hx⟩,st',fun b hb=>(hf b hb).1⟩⟩
 done:=by
  intro X hP hw hK hc i pins s σ H E I hf st hg
  subst hP hw hK
  obtain⟨xs,hq,hx⟩:=hg
  obtain⟨its,rv,p,hz⟩:=I.list hq
  obtain⟨f0,f1,f2,f3,f4,f5⟩:=hf it (by simp)
  have hl:=rv.length
  exact wpAny_pyNext_list_end (I.ok.hd hc) st p.isList (by simp;omega) fun h' eb=>⟨rfl,I.turned (t':=s.toks) (fun b o hb e=>eb b o hb e) f0 f1 f3 f4 f5⟩
 self:=fun _ _ _ _ _ st h=>wpAny_pyIter_listiter st h
theorem afD{P:Program}{w:World}{K:PySem.W.Frag}{tg:Expr}(a it:Addr):Turn P w K tg (Itt K a) [it] it (fun i h=>h.IsTupleIter it a i)where
 mem:=by simp
 obj:=fun i h st b hb=>by
  have e:b=it:=by simpa using hb
  subst e
  obtain⟨o,e,c,d⟩:=st
  exact⟨o,e,fun v z=>by rw[d]at z;cases z⟩
 keep:=fun i h h' st k=>st.at fun o e=>k it (by simp) o e
 item:=by
  intro X hP hw hK hc i pins s σ H E I hf st hg
  subst hP hw hK
  obtain⟨xs,x,hq,hx⟩:=hg
  obtain⟨its,rv,p,hz⟩:=I.tuple hq
  obtain⟨u,hu,ru⟩:=rv.get hx
  obtain⟨f0,f1,f2,f3,f4,f5⟩:=hf it (by simp)
  refine wpAny_pyNext_tuple_item st (show s.heap.IsTuple a its.toArray from p) (x:=u) (by simpa using hu) fun h' st' sb=>?_
  have I1:Inv X pins σ H { s with heap:=h' }:=I.turned (t':=s.toks) (fun b o hb e=>(sb.2 b hb).trans e) f0 f1 f3 f4 f5
  obtain⟨o,e,c,d⟩:=id st'
  exact⟨u,rfl,akg (s:={ s with heap:=h' }) e c d (by decide) ⟨x,H,I1,ru,⟨rfl,fun ys hy=>by rw[I.tuple_inj hy hq];exact hx⟩,st',fun b hb=>(hf b hb).1⟩⟩
 done:=by
  intro X hP hw hK hc i pins s σ H E I hf st hg
  subst hP hw hK
  obtain⟨xs,hq,hx⟩:=hg
  obtain⟨its,rv,p,hz⟩:=I.tuple hq
  obtain⟨f0,f1,f2,f3,f4,f5⟩:=hf it (by simp)
  have hl:=rv.length
  exact wpAny_pyNext_tuple_end (I.ok.hd hc) st (show s.heap.IsTuple a its.toArray from p) (by simp;omega) fun h' eb=>⟨rfl,I.turned (t':=s.toks) (fun b o hb e=>eb b o hb e) f0 f1 f3 f4 f5⟩
 self:=fun _ _ _ _ _ st h=>wpAny_pyIter_tupleiter st h
theorem afF{P:Program}{w:World}{K:PySem.W.Frag}{tg:Expr}(it:Addr)(lo:Int)(n:Nat):Turn P w K tg (Itr lo n) [it] it (fun i h=>IsRangeIter h it (lo+(i:Nat)*1) ((n:Int)-(i:Nat)) 1)where
 mem:=by simp
 obj:=fun i h st b hb=>by
  have e:b=it:=by simpa using hb
  subst e
  exact⟨_,st,fun v z=>by
   have z':Data.fields _=Data.cell v:=z
   cases z'⟩
 keep:=fun i h h' st k=>k it (by simp) _ st
 item:=by
  intro X hP hw hK hc i pins s σ H E I hf st hg
  subst hP hw hK
  obtain⟨f0,f1,f2,f3,f4,f5⟩:=hf it (by simp)
  have W:=Walks.range (prog:=X.prog) (w:=X.w) (I.ok.hd hc) it lo 1 n
  refine W.item i s _ _ hg st fun v h' tk hv st' kk=>?_
  obtain⟨t,rfl⟩:=hv
  have I1:Inv X pins σ H { s with heap:=h',toks:=tk }:=I.turned (fun b o hb e=>kk b o (by simpa using hb) e) f0 f1 f3 f4 f5
  refine⟨_,rfl,akg (s:={ s with heap:=h',toks:=tk }) (n:="range_iterator") st' rfl rfl (by decide) ⟨.int (lo+i),H,I1,⟨t,?_⟩,⟨rfl,rfl⟩,st',fun b hb=>(hf b hb).1⟩⟩
  rw[Int.mul_one]
 done:=by
  intro X hP hw hK hc i pins s σ H E I hf st hg
  subst hP hw hK
  obtain⟨f0,f1,f2,f3,f4,f5⟩:=hf it (by simp)
  exact wpAny_pyNext_range_end (I.ok.hd hc) st (by have:n≤i:=hg;omega) fun h' eb=>⟨rfl,I.turned (t':=s.toks) (fun b o hb e=>eb b o hb e) f0 f1 f3 f4 f5⟩
 self:=fun _ _ _ _ _ st h=>wpAny_pyIter_rangeiter st h
end L2
namespace L2
open PySem PySem.Spec PyProof.Rows
section
variable{X:Cx}{tg:Expr}
theorem afm{pins:List (Addr×Obj)}{σ:St}{H:Hp}{s:Shared}{R:It→Hp→Prop}{E:Value→Shared→Prop}{lo hi:Int}{t u v:Tok}{tk:Nat}(I:Inv X pins σ H s)(h1:-(2^62)≤lo)(h2:lo<2^62)(h3:-(2^62)≤hi)(h4:hi<2^62)
  (q:R (Itr lo (hi-lo).toNat) H):wpAny (model X.prog X.w) X.A (pyIter (.ref s.heap.objs.size)) (PIE X pins σ tg R) E { s with heap:=s.heap.push { cls:=.type "range",data:=.fields #[.int lo t,.int hi u,.int 1 v] },toks:=tk }:=by
 refine wpAny_pyIter_range (IsRange.new ..) (small_one h1 h2 h3 h4) ?_
 have I1:Inv X pins σ H { s with heap:=s.heap.push { cls:=.type "range",data:=.fields #[.int lo t,.int hi u,.int 1 v] },toks:=tk }:=I.kept fun b o e=>Heap.get?_push_of_some _ e
 refine⟨(s.heap.push { cls:=.type "range",data:=.fields #[.int lo t,.int hi u,.int 1 v] }).objs.size,[(s.heap.push { cls:=.type "range",data:=.fields #[.int lo t,.int hi u,.int 1 v] }).objs.size],_,_,H,rfl,
  I1.kept (t':=tk) fun b o e=>Heap.get?_push_of_some _ e,afF _ lo (hi-lo).toNat,?_,fun b hb=>?_,q⟩
 ·have e1:lo+((0:Nat):Int)*1=lo:=by simp
  have e2:(((hi-lo).toNat:Nat):Int)-((0:Nat):Int)=Builtin.Range.rangeSize lo hi 1:=by rw[rangeSize_one];split<;>omega
  show IsRangeIter _ _ (lo+((0:Nat):Int)*1) ((((hi-lo).toNat:Nat):Int)-((0:Nat):Int)) 1
  rw[e1,e2]
  exact Heap.get?_push_size _ rfl
 ·have e:b=(s.heap.push { cls:=.type "range",data:=.fields #[.int lo t,.int hi u,.int 1 v] }).objs.size:=by simpa using hb
  subst e
  exact I1.fpOk (Nat.le_refl _) (I1.hok.fresh (Nat.le_refl _))
noncomputable def arT(ta:TA):TI:=fun σ H R=>ta σ H fun vs H1=>∃j:Int,vs=[.int j]∧-(2^62)≤j∧j<2^62∧R (Itr 0 j.toNat) H1
noncomputable def ash(ta:TA):TI:=fun σ H R=>ta σ H fun vs H1=>∃i j:Int,vs=[.int i,.int j]∧(-(2^62)≤i∧i<2^62∧-(2^62)≤j∧j<2^62)∧R (Itr i (j-i).toNat) H1
theorem ahi{a:Expr}{ta:TA}{p pos:Pos}(hg:Gl X "range")(hm:X.mg "range"=none)(ha:PA X [a] ta)(hs:starEach [a] X.env=[(false,eval a X.env)]:=by rfl):PI X tg (.Call (.Name "range" p) [a] [] pos) (arT ta):=by
 intro pins s σ H R I h
 refine Call_ (ado I hg hm boot_range (PyProof.Rows.callWith_type1 (thn (ha pos pins s σ H _ I h) fun us s1 ⟨vs,H1,I1,r1,q1⟩=>?_) hs rfl))
 obtain⟨j,e,q1,q2,q⟩:=q1
 subst e
 cases r1 with
 | cons r rr=>
  cases rr
  obtain⟨t,rfl⟩:=r
  exact call_range_1 (afm I1 (by omega) (by omega) q1 q2 (by simpa using q))
theorem ahh{a b:Expr}{ta:TA}{p pos:Pos}(hg:Gl X "range")(hm:X.mg "range"=none)(ha:PA X [a,b] ta)(hs:starEach [a,b] X.env=[(false,eval a X.env),(false,eval b X.env)]:=by rfl)(hs2:starEach [b] X.env=[(false,eval b X.env)]:=by rfl):
  PI X tg (.Call (.Name "range" p) [a,b] [] pos) (ash ta):=by
 intro pins s σ H R I h
 refine Call_ (ado I hg hm boot_range (PyProof.Rows.callWith_type1 (thn (ha pos pins s σ H _ I h) fun us s1 ⟨vs,H1,I1,r1,q1⟩=>?_) (by rw[hs,hs2]) (by rw[hs2];rfl)))
 obtain⟨i,j,e,⟨q1,q2,q3,q4⟩,q⟩:=q1
 subst e
 cases r1 with
 | cons r rr=>
  cases rr with
  | cons r' rr=>
   cases rr
   obtain⟨t,rfl⟩:=r
   obtain⟨t',rfl⟩:=r'
   exact call_range_2 (afm I1 q1 q2 q3 q4 q)
noncomputable def au3(wi:TI)(g:TG)(tb:TS):TS:=fun D σ H=>wi σ H fun J H1=>∃W:Nat→Nat→St→Hp→Prop,(∃m,W 0 m σ H1)∧∀i m σ H,W i m σ H→
 (J.stop i H∧D.nx σ H)∨(J.go i H∧∃N:St→Hp→Prop,(∀σ' H',N σ' H'→∃m',m'<m∧W (i+1) m' σ' H')∧∀x H',J.yld i H x H'→g x σ H' fun σ2 H2=>tb { D with nx:=N,ct:=N,bk:=D.nx } σ2 H2)
noncomputable def adv(fp:List Addr)(h:Heap):List (Addr×Obj):=fp.filterMap fun b=>(h.get? b).map fun o=>(b,o)
theorem acl{fp:List Addr}{h:Heap}{b:Addr}{o:Obj}(hb:b∈fp)(e:h.get? b=some o):(b,o)∈adv fp h:=List.mem_filterMap.mpr ⟨b,hb,by rw[e];rfl⟩
theorem ah1{fp:List Addr}{h:Heap}{p:Addr×Obj}(hp:p∈adv fp h):p.1∈fp∧h.get? p.1=some p.2:=by
 obtain⟨b,hb,e⟩:=List.mem_filterMap.mp hp
 cases q:h.get? b with
 | none=>rw[q]at e;cases e
 | some o=>
  rw[q]at e
  have e':(b,o)=p:=Option.some.inj e
  subst e'
  exact⟨hb,q⟩
theorem Inv.pinned{pins:List (Addr×Obj)}{σ:St}{H:Hp}{s:Shared}{fp:List Addr}(I:Inv X pins σ H s)(hf:∀b∈fp,ad0 X pins H b)(ho:∀b∈fp,∃o,s.heap.get? b=some o∧∀v,o.data≠.cell v):Inv X (pins++adv fp s.heap) σ H s:=
 I.pins_of fun p hp=>(List.mem_append.mp hp).elim (fun z=>I.pin p (List.mem_append_right _ z)) fun z=>by
  obtain⟨hb,e⟩:=ah1 z
  obtain⟨f0,f1,f2,_⟩:=hf p.1 hb
  obtain⟨o,e',d⟩:=ho p.1 hb
  rw[e]at e';cases e'
  exact⟨e,f0,f1,f2,d⟩
theorem Inv.unpinned{pins pl:List (Addr×Obj)}{σ:St}{H:Hp}{s:Shared}(I:Inv X (pins++pl) σ H s):Inv X pins σ H s:=I.pins_of fun p hp=>I.pin p (List.mem_append_right _ (List.mem_append_left _ hp))
theorem agS{iter:Expr}{body:List Stmt}{wi:TI}{g:TG}{tb:TS}{pos:Pos}(hp:PassesOwn (model X.prog X.w) X.A X.env X.xe)(hc:X.calm=true)(hi:PI X tg iter wi)(hg:PG X tg g)(hb:PSs X body tb)
  (hs:∀x,foldedSetIterable iter X.env x=pure x:=by intro _;rfl):PS X (.For tg iter body [] pos) (au3 wi g tb):=by
 intro pins s σ H D I h
 refine wpAny_For (thn (hi pins s σ H _ I h) fun v s1 h1=>thn h1 fun itv s2 h2=>?_) hs
 obtain⟨it,fp,tn,J,H2,e,I2,T,st2,f2,W,⟨m0,w0⟩,turn⟩:=h2
 subst e
 have stat:∀{H':Hp},(∀b∈fp,H' b=none)→∀b∈fp,ad0 X pins H' b:=fun hn b hb=>⟨hn b hb,(f2 b hb).2⟩
 refine codeAny_forLoop_any (fun n s'=>∃i σ' H',Inv X pins σ' H' s'∧tn i s'.heap∧(∀b∈fp,H' b=none)∧W i n σ' H') ?_ m0 ⟨0,σ,H2,I2,st2,fun b hb=>(f2 b hb).1,w0⟩
 rintro n s3 ⟨i,σ3,H3,I3,st3,fr3,w3⟩
 rcases turn i n σ3 H3 w3 with⟨stop,qn⟩|⟨go,N,hN,step⟩
 ·refine wpAny_passesOwn hp (thn (T.done X rfl rfl rfl hc i pins s3 σ3 H3 X.xe I3 (stat fr3) st3 stop) fun r s4 ⟨hr,I4⟩=>?_)
  subst hr
  exact wpAny_execs_nil ⟨σ3,H3,I4,qn⟩
 ·refine wpAny_passesOwn hp (thn (T.item X rfl rfl rfl hc i pins s3 σ3 H3 X.xe I3 (stat fr3) st3 go) fun r s4 ⟨u,hr,h4⟩=>?_)
  subst hr
  refine wpAny_passesOwn hp (thn h4 fun _ s5 ⟨x,H5,I5,r5,y5,st5,fr5⟩=>?_)
  have I5':=I5.pinned (stat fr5) (T.obj _ _ st5)
  refine wpAny_passesOwn hp (thn (hg _ s5 σ3 H5 x u _ I5' r5 (step x H5 y5)) fun _ s6 ⟨σ6,H6,I6,q6⟩=>?_)
  refine wpAny_passesOwn hp (thn (hb _ s6 σ6 H6 _ I6 q6) fun f s7 q7=>?_)
  have again:∀{σ7:St}{H7:Hp},Inv X (pins++adv fp s5.heap) σ7 H7 s7→N σ7 H7→∃m,m<n∧∃i σ' H',Inv X pins σ' H' s7∧tn i s7.heap∧(∀b∈fp,H' b=none)∧W i m σ' H':=fun {σ7 H7} I7 n7=>by
   obtain⟨m',hm,w7⟩:=hN σ7 H7 n7
   refine⟨m',hm,i+1,σ7,H7,I7.unpinned,T.keep _ _ _ st5 fun b hb o e=>(I7.pin (b,o) (List.mem_append_right _ (List.mem_append_right _ (acl hb e)))).1,fun b hb=>?_,w7⟩
   obtain⟨o,e,d⟩:=T.obj _ _ st5 b hb
   exact(I7.pin (b,o) (List.mem_append_right _ (List.mem_append_right _ (acl hb e)))).2.1
  cases f with
  | next=>obtain⟨σ7,H7,I7,n7⟩:=q7;exact again I7 n7
  | cont=>obtain⟨σ7,H7,I7,n7⟩:=q7;exact again I7 n7
  | brk=>obtain⟨σ7,H7,I7,q7⟩:=q7;exact⟨σ7,H7,I7.unpinned,q7⟩
  | ret v=>obtain⟨x7,σ7,H7,I7,r7,q7⟩:=q7;exact⟨x7,σ7,H7,I7.unpinned,r7,q7⟩
end
end L2
namespace L2
open PySem PySem.Spec PyProof.Rows
noncomputable abbrev R2:=V→V→Hp→VK→Prop
noncomputable def OpR(X:Cx)(f:Value→Value→Sem Value)(r:R2):Prop:=
 ∀(pins:List (Addr×Obj)) (s:Shared) (σ:St) (H:Hp) (x y:V) (v u:Value) (Q:VK),Inv X pins σ H s→aaJ x v→aaJ y u→r x y H Q→
  wpAny (model X.prog X.w) X.A (f v u) (EP X pins σ Q) X.xe s
noncomputable def UnR(X:Cx)(f:Value→Sem Value)(r:V→Hp→VK→Prop):Prop:=
 ∀(pins:List (Addr×Obj)) (s:Shared) (σ:St) (H:Hp) (x:V) (v:Value) (Q:VK),Inv X pins σ H s→aaJ x v→r x H Q→
  wpAny (model X.prog X.w) X.A (f v) (EP X pins σ Q) X.xe s
noncomputable def aaM(X:Cx)(f:Value)(r:List V→Hp→VK→Prop):Prop:=
 ∀(pins:List (Addr×Obj)) (s:Shared) (σ:St) (H:Hp) (xs:List V) (us:List Value) (Q:VK),Inv X pins σ H s→aa7 xs us→r xs H Q→
  wpAny (model X.prog X.w) X.A (call f us) (EP X pins σ Q) X.xe s
noncomputable def auG(X:Cx)(r:V→Hp→(Bool→Hp→Prop)→Prop):Prop:=
 ∀(pins:List (Addr×Obj)) (s:Shared) (σ:St) (H:Hp) (x:V) (v:Value) (Q:Bool→Hp→Prop),Inv X pins σ H s→aaJ x v→r x H Q→
  wpAny (model X.prog X.w) X.A (truthy v) (TP X pins σ Q) X.xe s
noncomputable def tOp(r:R2)(ta tb:TE):TE:=fun σ H Q=>ta σ H fun x H1=>tb σ H1 fun y H2=>r x y H2 Q
noncomputable def tUn(r:V→Hp→VK→Prop)(ta:TE):TE:=fun σ H Q=>ta σ H fun x H1=>r x H1 Q
noncomputable def rI(C:Int→Int→Prop)(g:Int→Int→V):R2:=fun x y H Q=>∃i j,x=.int i∧y=.int j∧C i j∧Q (g i j) H
noncomputable def rI0(g:Int→Int→V):R2:=fun x y H Q=>∃i j,x=.int i∧y=.int j∧Q (g i j) H
noncomputable def rU(g:Int→V):V→Hp→VK→Prop:=fun x H Q=>∃i,x=.int i∧Q (g i) H
section
variable{X:Cx}{a b c:Expr}{ta tb tc:TE}{pos:Pos}
theorem apR(ha:PE X a ta)(hb:PE X b tb){pins:List (Addr×Obj)}{s:Shared}{σ:St}{H:Hp}{R:V→V→Hp→Prop}(I:Inv X pins σ H s)
  (h:ta σ H fun x H1=>tb σ H1 fun y H2=>R x y H2) {Q:Value→Shared→Prop}{f:Value→Value→Sem Value}
  (hf:∀v u s2 x y H2,Inv X pins σ H2 s2→aaJ x v→aaJ y u→R x y H2→wpAny (model X.prog X.w) X.A (f v u) Q X.xe s2):
  wpAny (model X.prog X.w) X.A (eval a X.env) (fun v s₁=>wpAny (model X.prog X.w) X.A (eval b X.env) (fun u s₂=>wpAny (model X.prog X.w) X.A (f v u) Q X.xe s₂) X.xe s₁) X.xe s:=by
 refine thn (ha pins s σ H _ I h) fun v s1 ⟨x,H1,I1,r1,q1⟩=>?_
 refine thn (hb pins s1 σ H1 _ I1 q1) fun u s2 ⟨y,H2,I2,r2,q2⟩=>?_
 exact hf v u s2 x y H2 I2 r1 r2 q2
theorem am2{op:Operator}{r:R2}(ho:OpR X (binaryOp op) r)(ha:PE X a ta)(hb:PE X b tb):PE X (.BinOp a op b pos) (tOp r ta tb):=by
 intro pins s σ H Q I h
 exact wpAny_BinOp (apR ha hb I h fun v u s2 x y H2 I2 rx ry q=>ho pins s2 σ H2 x y v u Q I2 rx ry q)
theorem aoS{op:UnaryOp}{r:V→Hp→VK→Prop}(ho:UnR X (unaryOp op) r)(ha:PE X a ta):PE X (.UnaryOp op a pos) (tUn r ta):=by
 intro pins s σ H Q I h
 exact UnaryOp_ (thn (ha pins s σ H _ I h) fun v s1 ⟨x,H1,I1,r1,q1⟩=>ho pins s1 σ H1 x v Q I1 r1 q1)
theorem opI{f:Value→Value→Sem Value}{C:Int→Int→Prop}{g:Int→Int→Int}
  (rule:∀(i j:Int) (t u:Tok) (s:Shared) (Q:Value→Shared→Prop) (E:Value→Shared→Prop),C i j→Q (.int (g i j) s.toks) { s with toks:=s.toks+1 }→wpAny (model X.prog X.w) X.A (f (.int i t) (.int j u)) Q E s):
  OpR X f (rI C fun i j=>.int (g i j)):=by
 intro pins s σ H x y v u Q I rx ry h
 obtain⟨i,j,rfl,rfl,hc,q⟩:=h
 obtain⟨t,rfl⟩:=rx
 obtain⟨t',rfl⟩:=ry
 exact rule i j t t' s _ _ hc ⟨.int (g i j),H,I.tok _,⟨_,rfl⟩,q⟩
theorem atu{f:Value→Value→Sem Value}{g:Int→Int→Int}
  (rule:∀(i j:Int) (t u:Tok) (s:Shared) (Q:Value→Shared→Prop) (E:Value→Shared→Prop),Q (.int (g i j) s.toks) { s with toks:=s.toks+1 }→wpAny (model X.prog X.w) X.A (f (.int i t) (.int j u)) Q E s):
  OpR X f (rI0 fun i j=>.int (g i j)):=by
 intro pins s σ H x y v u Q I rx ry h
 obtain⟨i,j,rfl,rfl,q⟩:=h
 obtain⟨t,rfl⟩:=rx
 obtain⟨t',rfl⟩:=ry
 exact rule i j t t' s _ _ ⟨.int (g i j),H,I.tok _,⟨_,rfl⟩,q⟩
theorem aon{f:Value→Value→Sem Value}{g:Int→Int→Bool}
  (rule:∀(i j:Int) (t u:Tok) (s:Shared) (Q:Value→Shared→Prop) (E:Value→Shared→Prop),Q (.bool (g i j)) s→wpAny (model X.prog X.w) X.A (f (.int i t) (.int j u)) Q E s):
  OpR X f (rI0 fun i j=>.bl (g i j)):=by
 intro pins s σ H x y v u Q I rx ry h
 obtain⟨i,j,rfl,rfl,q⟩:=h
 obtain⟨t,rfl⟩:=rx
 obtain⟨t',rfl⟩:=ry
 exact rule i j t t' s _ _ ⟨.bl (g i j),H,I,rfl,q⟩
noncomputable def avm(i j:Int):Prop:=0<j∧j<1073741824
noncomputable def asl(i j:Int):Prop:=(-(2^64)<i∧i<2^64)∨(-(2^64)<j∧j<2^64)
theorem asl.ok{i j:Int}(h:asl i j):IntMulOk i j:=by
 rcases h with⟨h1,h2⟩|⟨h1,h2⟩
 ·exact .of_left (intBits_le_64 h1 h2)
 ·exact .of_right (intBits_le_64 h1 h2)
theorem alL:OpR X (binaryOp .Add) (rI0 fun i j=>.int (i+j)):=atu fun _ _ _ _ _ _ _ q=>add_int q
theorem amW:OpR X (binaryOp .Sub) (rI0 fun i j=>.int (i-j)):=atu fun _ _ _ _ _ _ _ q=>sub_int q
theorem aao:OpR X (binaryOp .Mult) (rI asl fun i j=>.int (i*j)):=opI fun _ _ _ _ _ _ _ hc q=>mul_int q hc.ok
theorem abe:OpR X (binaryOp .FloorDiv) (rI avm fun i j=>.int (i / j)):=opI fun i j _ _ _ _ _ hc q=>by
 have h1:(0:Int)<j:=hc.1
 have h2:j<1073741824:=hc.2
 exact floordiv_int (by omega) (by rw[Int.fdiv_eq_ediv_of_nonneg i (by omega)];exact q) (.inl (PyProof.noPylong_small (by omega)))
theorem aaA:OpR X (binaryOp .Mod) (rI (fun _ j=>0<j) fun i j=>.int (i % j)):=opI fun i j _ _ _ _ _ hc q=>by
 have h1:(0:Int)<j:=hc
 exact mod_int' (by omega) (by rw[Int.fmod_eq_emod_of_nonneg i (by omega)];exact q)
theorem unI{f:Value→Sem Value}{g:Int→Int}
  (rule:∀(i:Int) (t:Tok) (s:Shared) (Q:Value→Shared→Prop) (E:Value→Shared→Prop),Q (.int (g i) s.toks) { s with toks:=s.toks+1 }→wpAny (model X.prog X.w) X.A (f (.int i t)) Q E s):
  UnR X f (rU fun i=>.int (g i)):=by
 intro pins s σ H x v Q I rx h
 obtain⟨i,rfl,q⟩:=h
 obtain⟨t,rfl⟩:=rx
 exact rule i t s _ _ ⟨.int (g i),H,I.tok _,⟨_,rfl⟩,q⟩
theorem am3:UnR X (unaryOp .USub) (rU fun i=>.int (-i)):=unI fun _ _ _ _ _ q=>neg_int q
end
section
variable{X:Cx}{a b c:Expr}{ta tb tc:TE}{pos:Pos}
theorem ajk{pins:List (Addr×Obj)}{σ:St}{H:Hp}{s:Shared}{Q:VK}{k k':Bool}(I:Inv X pins σ H s)(q:Q (.bl k) H)(e:k=k'):EP X pins σ Q (.bool k') s:=by
 subst e
 exact⟨.bl k,H,I,rfl,q⟩
theorem ao8:OpR X (compareOp .Lt) (rI0 fun i j=>.bl (decide (i<j))):=aon fun _ _ _ _ _ _ _ q=>lt_int q
theorem arR:OpR X (compareOp .LtE) (rI0 fun i j=>.bl (decide (i≤j))):=aon fun _ _ _ _ _ _ _ q=>le_int q
theorem aqt:OpR X (compareOp .Gt) (rI0 fun i j=>.bl (decide (j<i))):=aon fun _ _ _ _ _ _ _ q=>gt_int q
theorem aqE:OpR X (compareOp .GtE) (rI0 fun i j=>.bl (decide (j≤i))):=aon fun _ _ _ _ _ _ _ q=>ge_int q
theorem amY:OpR X (compareOp .Is) (fun x y H Q=>y=.non∧Q (.bl (decide (x=.non))) H):=by
 intro pins s σ H x y v u Q I rx ry h
 obtain⟨rfl,q⟩:=h
 cases ry
 refine is_none_gen (ajk I q ?_)
 cases x<;>first
  | (cases rx;rfl)
  | (obtain⟨t,rfl⟩:=rx;rfl)
theorem ak9:OpR X (compareOp .IsNot) (fun x y H Q=>y=.non∧Q (.bl (!decide (x=.non))) H):=by
 intro pins s σ H x y v u Q I rx ry h
 obtain⟨rfl,q⟩:=h
 cases ry
 refine isnot_none_gen (ajk I q ?_)
 cases x<;>first
  | (cases rx;rfl)
  | (obtain⟨t,rfl⟩:=rx;rfl)
noncomputable def aoE:HO→Bool
 | .lst _=>true
 | .ins _ _ _=>true
 | _=>false
theorem aem{pins:List (Addr×Obj)}{s:Shared}{σ:St}{H:Hp}{a:Addr}{o:HO}(I:Inv X pins σ H s)(h:H a=some o)(p:aoE o=true):∃ob,s.heap.get? a=some ob∧ob.cls≠.type "tuple":=by
 cases o with
 | lst xs=>
  obtain⟨_,its,n,_,e⟩:xs.length≤sizeLine∧∃(its:List Value) (n:Nat),aa7 xs its∧s.heap.get? a=some { cls:=.type "list",data:=.seq its.toArray n }:=I.hok a _ h
  exact⟨_,e,(by show Value.type "list"≠.type "tuple";decide +kernel)⟩
 | ins C dx fs=>
  have x:=I.hok a _ h
  obtain⟨_,_,_,e,_⟩:=x
  exact⟨_,e,(by show Value.ref C≠.type "tuple";exact fun z=>by cases z)⟩
 | _=>exact absurd (show false=true from p) Bool.false_ne_true
theorem OpR.or{f:Value→Value→Sem Value}{r r':R2}(h:OpR X f r)(h':OpR X f r'):OpR X f (fun x y H Q=>r x y H Q∨r' x y H Q):=by
 intro pins s σ H x y v u Q I rx ry q
 rcases q with q|q
 ·exact h pins s σ H x y v u Q I rx ry q
 ·exact h' pins s σ H x y v u Q I rx ry q
theorem asS(b:Expr){op:CmpOp}(h:op≠.In:=by decide)(h2:op≠.NotIn:=by decide):behindInMarks op b=false:=by
 have e1:(op==CmpOp.In)=false:=by cases op<;>first|rfl|exact absurd rfl h
 have e2:(op==CmpOp.NotIn)=false:=by cases op<;>first|rfl|exact absurd rfl h2
 cases b<;>simp[behindInMarks,e1,e2]
theorem akp{op:CmpOp}{r:R2}(ho:OpR X (compareOp op) r)(ha:PE X a ta)(hb:PE X b tb)(hm:behindInMarks op b=false):PE X (.Compare a [op] [b] pos) (tOp r ta tb):=by
 intro pins s σ H Q I h
 exact wpAny_Compare1 (apR ha hb I h fun v u s2 x y H2 I2 rx ry q=>ho pins s2 σ H2 x y v u Q I2 rx ry q) hm
noncomputable def ao4(t:TE):TT:=fun σ H Q=>t σ H fun x H'=>∃k,x=.bl k∧Q k H'
theorem akU{op:CmpOp}{r:R2}(ho:OpR X (compareOp op) r)(ha:PE X a ta)(hb:PE X b tb)(hm:behindInMarks op b=false):PT X (.Compare a [op] [b] pos) (ao4 (tOp r ta tb)):=by
 intro pins s σ H Q I h
 refine wpAny_isTrue_Compare1 (thn (ha pins s σ H _ I h) fun v s1 ⟨x,H1,I1,r1,q1⟩=>thn (hb pins s1 σ H1 _ I1 q1) fun u s2 ⟨y,H2,I2,r2,q2⟩=>
  thn (ho pins s2 σ H2 x y v u _ I2 r1 r2 q2) fun c s3 ⟨z,H3,I3,r3,k,e,q3⟩=>?_) hm
 subst e
 cases r3
 exact wpAny_truthy_bool ⟨H3,I3,q3⟩
noncomputable def apf(K:PySem.W.Frag)(x:V)(H:Hp)(k:Bool):Prop:=
 match x with
 | .non=>k=false
 | .bl b=>k=b
 | .int i=>k=(i != 0)
 | .str y=>y.length≤sizeLine∧k=((y.length:Int) != 0)
 | .byt y=>y.size≤sizeLine∧k=((y.size:Int) != 0)
 | .ref p=>(∃xs,SqL K H p xs∧k=!xs.isEmpty)∨(∃xs,SqT K H p xs∧k=!xs.isEmpty)∨∃kvs,H p=some (.dK kvs)∧k=!kvs.isEmpty
 | _=>False
theorem afW{κ:Type}{kvs:List (κ×V)}{vs:List (κ×Value)}(r:KV kvs vs):(!vs.isEmpty)=!kvs.isEmpty:=by
 cases r<;>rfl
theorem adw{xs:List V}{its:List Value}(r:aa7 xs its):(!its.toArray.isEmpty)=!xs.isEmpty:=by
 cases r<;>simp
theorem adq:(sizeLine:Nat)<2^63:=by rw[sizeLine_eq];decide
theorem ajv:auG X (fun x H Q=>∃k,apf X.K x H k∧Q k H):=by
 intro pins s σ H x v Q I rx h
 obtain⟨k,e,q⟩:=h
 have hl:=adq
 have hs:sizeLine=16777216:=sizeLine_eq
 cases x with
 | non=>
  cases rx
  have e':k=false:=e
  subst e'
  exact truthy_none ⟨H,I,q⟩
 | bl b=>
  cases rx
  have e':k=b:=e
  subst e'
  exact wpAny_truthy_bool ⟨H,I,q⟩
 | int i=>
  obtain⟨t,rfl⟩:=rx
  have e':k=(i != 0):=e
  subst e'
  exact PySem.P.truthy_int ⟨H,I,q⟩
 | str y=>
  obtain⟨t,rfl⟩:=rx
  obtain⟨hy,e'⟩:y.length≤sizeLine∧k=((y.length:Int) != 0):=e
  subst e'
  exact PySem.P.truthy_str (by omega) ⟨H,I.tok _,q⟩
 | byt y=>
  obtain⟨t,rfl⟩:=rx
  obtain⟨hy,e'⟩:y.size≤sizeLine∧k=((y.size:Int) != 0):=e
  subst e'
  exact PySem.W.truthy_bytes (by omega) ⟨H,I.tok _,q⟩
 | ref p=>
  cases rx
  have e':(∃xs,SqL X.K H p xs∧k=!xs.isEmpty)∨(∃xs,SqT X.K H p xs∧k=!xs.isEmpty)∨∃kvs,H p=some (.dK kvs)∧k=!kvs.isEmpty:=e
  rcases e' with⟨xs,hx,e'⟩|⟨xs,hx,e'⟩|⟨kvs,hx,e'⟩
  ·subst e'
   obtain⟨its,r,pl,hz⟩:=I.list hx
   have hlen:=r.length
   exact wpAny_truthy_list pl.isList (by simp only[List.size_toArray];omega) ⟨H,I.tok _,by rw[adw r];exact q⟩
  ·subst e'
   obtain⟨its,r,pl,hz⟩:=I.tuple hx
   have hlen:=r.length
   exact truthy_tuple pl (by simp only[List.size_toArray];omega) ⟨H,I.tok _,by rw[adw r];exact q⟩
  ·subst e'
   obtain⟨hz,hS,vs,r,m⟩:kvs.length≤sizeLine∧(p==sysModules)=false∧∃vs,KV kvs vs∧s.heap.DictOf (aeI X.prog X.w) p vs:=I.hok p _ hx
   have hlen:kvs.length=vs.length:=Paired.length r
   exact wpAny_truthy_dict hS m (by omega) ⟨H,I.tok _,by rw[afW r];exact q⟩
 | _=>exact(show False from e).elim
theorem aiw(ha:PE X a ta)(he:∀whole,isTrue a X.env whole=(do let v ←whole;standAt a.pos;holding [v] (truthy v))):
  PT X a (fun σ H Q=>ta σ H fun x H'=>∃k,apf X.K x H' k∧Q k H'):=by
 intro pins s σ H Q I h
 exact isTrue_plain (thn (ha pins s σ H _ I h) fun v s1 ⟨x,H1,I1,r1,q1⟩=>ajv pins s1 σ H1 x v Q I1 r1 q1) (he _)
theorem ak4{x:V}{us:List Value}(r:aa7 [x] us):∃u,us=[u]∧aaJ x u:=by
 cases r with
 | cons r1 r2=>cases r2;exact⟨_,rfl,r1⟩
theorem aqN{x y:V}{us:List Value}(r:aa7 [x,y] us):∃u w',us=[u,w']∧aaJ x u∧aaJ y w':=by
 cases r with
 | cons r1 r2=>
  cases r2 with
  | cons r3 r4=>cases r4;exact⟨_,_,rfl,r1,r3⟩
theorem ais:aaM X (.builtin "abs") (fun xs H Q=>∃i,xs=[.int i]∧Q (.int (if i<0 then -i else i)) H):=by
 intro pins s σ H xs us Q I r h
 obtain⟨i,rfl,q⟩:=h
 obtain⟨u,rfl,t,rfl⟩:=ak4 r
 exact call_abs_int fun u tk=>⟨.int (if i<0 then -i else i),H,I.tok _,⟨_,rfl⟩,q⟩
theorem ag1(hc:X.calm=true):aaM X (.builtin "max") (fun xs H Q=>∃i j,xs=[.int i,.int j]∧Q (.int (if j>i then j else i)) H):=by
 intro pins s σ H xs us Q I r h
 obtain⟨i,j,rfl,q⟩:=h
 obtain⟨u,w',rfl,⟨t,rfl⟩,⟨t',rfl⟩⟩:=aqN r
 refine max_two_ints (I.ok.hd hc) fun h' tk k=>⟨_,H,I.kept k,?_,q⟩
 by_cases hj:j>i
 ·rw[if_pos hj,if_pos hj];exact⟨_,rfl⟩
 ·rw[if_neg hj,if_neg hj];exact⟨_,rfl⟩
end
end L2
namespace L2
open PySem PySem.Spec PyProof.Rows
structure ObjM(h:Heap)(x dx C:Addr)(mA:Str→Option Value):Prop where
 obj:h.get? x=some (PySem.W.instObj C dx)
 ns:h.Ns1 dx mA
 ne:dx≠x
theorem agw{h:Heap}{dx:Addr}{mA:Str→Option Value}(n:h.Ns1 dx mA):∃od,h.get? dx=some od∧∀name,PySem.W.lookIn name od=some (mA name):=by
 obtain⟨o,es,ep,ho,hd,hk,_,hm⟩:=n
 refine⟨o,ho,fun name=>?_⟩
 have e:=hm name
 unfold nsFind findBy at e
 rw[←Array.find?_toList]at e
 unfold PySem.W.lookIn
 rw[hd]
 dsimp only
 split
 ·rename_i y q
  rw[q]at e
  exact congrArg some e
 ·rename_i q
  rw[q]at e
  have a:es.toList.any (·.refKey)=false:=by
   rw[List.any_eq_false]
   intro y hy
   obtain⟨z,t,hkey⟩:=hk y (Array.mem_toList_iff.mp hy)
   simp[DictEntry.refKey,hkey]
  have a':¬es.toList.any (·.refKey)=true:=by rw[a];exact Bool.false_ne_true
  rw[if_neg a']
  exact congrArg some e
theorem ObjM.look{h:Heap}{x dx C:Addr}{mA:Str→Option Value}(I:ObjM h x dx C mA):∃od,PySem.W.InstAt h x (PySem.W.instObj C dx) C (some od)∧∀name,PySem.W.lookIn name od=some (mA name):=
 let ⟨od,ho,hl⟩:=agw I.ns
 ⟨od,⟨I.obj,rfl,rfl,ho⟩,hl⟩
section
variable{prog:Program}{w:World}{A:Around}{E:Value→Shared→Prop}{s:Shared}{K:PySem.W.Frag}{x dx C f:Addr}{mA:Str→Option Value}{name:Str}{v:Value}
end
section
variable{P:Program}{w:World}{H H':Hp}{h h':Heap}{a C dx:Addr}{fs fs':List (Str×V)}
theorem akq(hok:HOk P w H h)(e:H a=some (.ins C dx fs)):∃mA,ObjM h a dx C mA∧(∀f,ary (fs.lookup f) (mA f))∧PySem.Within mA (fs.map (·.1))∧fs.length≤1000∧H dx=some (.own a):=by
 obtain⟨d,z,ne,ob,mA,n,r,q⟩:=(show abr P w H h a (.ins C dx fs)from hok a _ e)
 exact⟨mA,⟨ob,n,ne⟩,r,q,z,d⟩
end
structure Cls(K:PySem.W.Frag)(C:Addr):Prop where
 pg:PySem.W.plainGet K C Str.empty=true
 hd:PySem.W.hasDictIn K C=true
 po:PySem.W.plainOver K C=true
 sa:PySem.W.findIn K (.ref C) "__setattr__"=some (some (.builtin "object.__setattr__"))
theorem Cls.get{K:PySem.W.Frag}{C:Addr}(c:Cls K C)(f:Str):PySem.W.plainGet K C f=true:=c.pg
structure Con(K:PySem.W.Frag)(C:Addr)(f:Str)(v:V)(u:Value):Prop where
 at_:PySem.W.findIn K (.ref C) f=some (some u)
 rel:aaJ v u
 get:PySem.W.specialIn K u "__get__"=some none
 cp:PySem.W.copiedNames.contains f=false
structure Meth(K:PySem.W.Frag)(C:Addr)(m:Str)(f:Addr):Prop where
 at_:PySem.W.findIn K (.ref C) m=some (some (.ref f))
 fn:PySem.W.isFn K (.ref f)=true
 kp:PySem.W.keepIn K (.ref f)=true
section
variable{X:Cx}{pins:List (Addr×Obj)}{σ:St}{H:Hp}{s:Shared}{a C dx:Addr}{fs:List (Str×V)}{f:Str}{v:V}{A:Around}{E:Value→Shared→Prop}
theorem Inv.made(I:Inv X pins σ H s):Inv X pins σ (upd (upd H s.heap.objs.size (.own (s.heap.objs.size+1))) (s.heap.objs.size+1) (.ins C s.heap.objs.size []))
  { s with heap:=(s.heap.push PySem.W.emptyDict).push (PySem.W.instObj C s.heap.objs.size) }:=by
 have e1:(s.heap.push PySem.W.emptyDict).get? s.heap.objs.size=some PySem.W.emptyDict:=Heap.get?_push_size s.heap rfl
 have e2:((s.heap.push PySem.W.emptyDict).push (PySem.W.instObj C s.heap.objs.size)).get? (s.heap.objs.size+1)=some (PySem.W.instObj C s.heap.objs.size):=by
  have:=Heap.get?_push_size (s.heap.push PySem.W.emptyDict) (o:=PySem.W.instObj C s.heap.objs.size) rfl
  rwa [Heap.size_push]at this
 have e3:(s.heap.push PySem.W.emptyDict).Ns s.heap.objs.size (fun _=>none):=⟨PySem.W.emptyDict,#[],_,e1,rfl,(fun e he=>absurd he (by simp)),fun _=>rfl⟩
 have I1:=I.laid (a:=s.heap.objs.size) (o:=.own (s.heap.objs.size+1)) (h':=s.heap.push PySem.W.emptyDict) (t':=s.toks) (fun b u q=>Heap.get?_push_of_some _ q) (Nat.le_refl _) ⟨_,e1⟩
 refine I1.laid (a:=s.heap.objs.size+1) (o:=.ins C s.heap.objs.size []) (t':=s.toks) (fun b u q=>Heap.get?_push_of_some _ q) (Nat.le_of_eq (Heap.size_push _ _)) ?_
 have ne:s.heap.objs.size≠s.heap.objs.size+1:=Nat.ne_of_lt (Nat.lt_succ_self _)
 refine⟨by rw[aas ne,aaD],Nat.zero_le _,ne,e2,fun _=>none,(Heap.Ns1.of_empty e3).at fun o q=>Heap.get?_push_of_some _ q,fun _=>True.intro,fun y hy=>absurd rfl hy⟩
end
section
variable{X:Cx}{o e value:Expr}{f:Str}{pos pos' tpos:Pos}{ta tv:TE}
end
section
variable{X:Cx}{pins:List (Addr×Obj)}{σ:St}{H:Hp}{s:Shared}{A:Around}{E:Value→Shared→Prop}{Q:Value→Shared→Prop}{c:Value}{b:Bool}
inductive TyOf(K:PySem.W.Frag)(H:Hp):V→Value→Prop where
 | non:TyOf K H .non (.type "NoneType")
 | bl (x:Bool):TyOf K H (.bl x) (.type "bool")
 | int (i:Int):TyOf K H (.int i) (.type "int")
 | str (x:Str):TyOf K H (.str x) (.type "str")
 | flt (x:UInt64):TyOf K H (.flt x) (.type "float")
 | lst {a:Addr}{xs:List V} (e:H a=some (.lst xs)):TyOf K H (.ref a) (.type "list")
 | frz {a:Addr}{o:Obj}{xs:List V} (e:H a=some (.frz o (.lst xs))):TyOf K H (.ref a) (.type "list")
 | tup {a:Addr}{xs:List V} (e:H a=some (.tup xs)):TyOf K H (.ref a) (.type "tuple")
 | dK {a:Addr}{kvs:List (Key×V)} (e:H a=some (.dK kvs)):TyOf K H (.ref a) (.type "dict")
 | dT {a:Addr}{kvs:List (List Key×V)} (e:H a=some (.dT kvs)):TyOf K H (.ref a) (.type "dict")
 | ins {a C dx:Addr}{fs:List (Str×V)} (e:H a=some (.ins C dx fs)) (cl:Cls K C) (ha:PySem.W.findIn K (.ref C) "__class__"=some (some (.builtin "object.__class__")))
   (hn:PySem.W.specialIn K (.builtin "object.__class__") "__get__"=some (some (.builtin "getset_descriptor.__get__"))) (htk:PySem.W.takesIn K (.builtin "object.__class__")=some true)
   (hm:PySem.W.mroIn K C (.type "object")=some true):TyOf K H (.ref a) (.ref C)
theorem agC{x:V}{u t:Value}(I:Inv X pins σ H s)(rx:aaJ x u)(ty:TyOf X.K H x t)(e:PySem.W.kitOne X.K t c=some b)(h:∀tk,Q (.bool b) { s with toks:=tk }):
  wpAny (model X.prog X.w) A (call (.builtin "isinstance") [u,c]) Q E s:=by
 cases ty with
 | non=>cases(show u=Value.none from rx);exact PySem.W.kia_one PySem.W.kitx_none I.kIn True.intro e (fun z=>nomatch z) h
 | bl y=>cases(show u=Value.bool y from rx);exact PySem.W.kia_one PySem.W.kitx_bool I.kIn True.intro e (fun z=>nomatch z) h
 | int i=>obtain⟨t,q⟩:=(show ∃t,u=Value.int i t from rx);cases q;exact PySem.W.kia_one PySem.W.kitx_int I.kIn True.intro e (fun z=>nomatch z) h
 | str y=>obtain⟨t,q⟩:=(show ∃t,u=Value.str y t from rx);cases q;exact PySem.W.kia_one PySem.W.kitx_str I.kIn True.intro e (fun z=>nomatch z) h
 | flt y=>obtain⟨t,q⟩:=(show ∃t,u=Value.float y t from rx);cases q;exact PySem.W.kia_one PySem.W.kitx_float I.kIn True.intro e (fun z=>nomatch z) h
 | @lst a xs ea=>
  cases(show u=Value.ref a from rx)
  obtain⟨_,_,n,_,h1⟩:=(show abr X.prog X.w H s.heap a (.lst xs)from I.hok a _ ea)
  exact PySem.W.kia_one PySem.W.kitx_list I.kIn ⟨_,h1,rfl⟩ e (fun z=>nomatch z) h
 | @frz a ob xs ea=>
  cases(show u=Value.ref a from rx)
  obtain⟨_,_,_,n,_,h1⟩:=(show abr X.prog X.w H s.heap a (.frz ob (.lst xs))from I.hok a _ ea)
  exact PySem.W.kia_one PySem.W.kitx_list I.kIn ⟨_,h1,rfl⟩ e (fun z=>nomatch z) h
 | @tup a xs ea=>
  cases(show u=Value.ref a from rx)
  obtain⟨_,_,_,p⟩:=(show abr X.prog X.w H s.heap a (.tup xs)from I.hok a _ ea)
  obtain⟨o,h1,h2,_⟩:=p
  exact PySem.W.kia_one PySem.W.kitx_tuple I.kIn ⟨o,h1,h2⟩ e (fun z=>nomatch z) h
 | @dK a kvs ea=>
  cases(show u=Value.ref a from rx)
  obtain⟨_,_,vs,_,p⟩:=(show abr X.prog X.w H s.heap a (.dK kvs)from I.hok a _ ea)
  obtain⟨o,es,ep,h1,h2,_⟩:=p
  exact PySem.W.kia_one PySem.W.kitx_dict I.kIn ⟨o,h1,h2.1⟩ e (fun z=>nomatch z) h
 | @dT a kvs ea=>
  cases(show u=Value.ref a from rx)
  obtain⟨_,_,xs,_,o,es,ep,h1,h2,_⟩:=(show abr X.prog X.w H s.heap a (.dT kvs)from I.hok a _ ea)
  exact PySem.W.kia_one PySem.W.kitx_dict I.kIn ⟨o,h1,h2.1⟩ e (fun z=>nomatch z) h
 | @ins a C dx fs ea cl ha hn htk hm=>
  cases(show u=Value.ref a from rx)
  obtain⟨mA,O,_⟩:=akq I.hok ea
  obtain⟨od,J,_⟩:=O.look
  exact PySem.W.kia_one (PySem.W.kitx_own (cl.get _) cl.hd ha hn htk hm) I.kIn J e (fun z=>nomatch z) h
end
end L2
namespace L2
open PySem PySem.Spec PyProof.Rows
structure Room(k:Nat)(A:Around):Prop where
 hd:A.handled=none
 dp:A.depth+3*k+5<recursionLimit
 un:A.units+16*k+200<cLine
theorem Room.mono{j k:Nat}{A:Around}(r:Room k A)(h:j≤k):Room j A:=⟨r.hd,by have:=r.dp;omega,by have:=r.un;omega⟩
theorem Room.deeper{k:Nat}{A:Around}(r:Room (k+1) A)(env:Env):Room k (A.deeper env):=
 ⟨r.hd,by have:=r.dp;show A.depth+1+3*k+5<_;omega,by have:=r.un;show A.units+3+16*k+200<_;omega⟩
theorem Room.in1{k:Nat}{A:Around}(r:Room (k+1) A):Room k A.in1:=
 ⟨r.hd,by have:=r.dp;show A.depth+3*k+5<_;omega,by have:=r.un;show A.units+1+16*k+200<_;omega⟩
theorem Room.depth{k:Nat}{A:Around}(r:Room k A):A.depth<recursionLimit:=by have:=r.dp;omega
theorem Room.units{k:Nat}{A:Around}(r:Room k A):A.units+64<cLine:=by have:=r.un;omega
noncomputable def atR:TA:=fun _ H Q=>Q [] H
noncomputable def amX(ta:TE)(tr:TA):TA:=fun σ H Q=>ta σ H fun x H1=>tr σ H1 fun xs H2=>Q (x::xs) H2
section
variable{X:Cx}{e:Expr}{es:List Expr}{te:TE}{t:TA}{pos:Pos}
theorem abx:PA X [] atR:=fun _ _ _ _ H Q I h=>Calls.spliced_nil ⟨[],H,I,.nil,h⟩
theorem aaH(ha:PE X e te)(hr:PA X es t)(hs:starEach (e::es) X.env=(false,eval e X.env)::starEach es X.env:=by rfl):PA X (e::es) (amX te t):=by
 intro pos pins s σ H Q I h
 rw[hs]
 show wpAny _ _ (spliced ((false,eval e X.env)::backTo pos (starEach es X.env))) _ _ s
 refine Calls.spliced_cons (thn (ha pins s σ H _ I h) fun u s1 ⟨x,H1,I1,r1,q1⟩=>?_)
 exact thn (hr pos pins s1 σ H1 _ I1 q1) fun us s2 ⟨xs,H2,I2,r2,q2⟩=>⟨x::xs,H2,I2,.cons r1 r2,q2⟩
noncomputable def auM(t:TA):TE:=fun σ H Q=>t σ H fun xs H1=>xs.length≤sizeLine∧∀p,H1 p=none→Q (.ref p) (upd H1 p (.tup xs))
noncomputable def avp(t:TA):TE:=fun σ H Q=>t σ H fun xs H1=>xs.length≤sizeLine∧∀p,H1 p=none→Q (.ref p) (upd H1 p (.lst xs))
theorem anS{x1}(h:PA X es t):PE X (.Tuple es x1 pos) (auM t):=by
 intro pins s σ H Q I hq
 refine wpAny_Tuple_spliced (thn (h pos pins s σ H _ I hq) fun us s1 ⟨xs,H1,I1,r,z,q⟩=>⟨by rw[←r.length];exact z,?_⟩)
 have hf:H1 s1.heap.objs.size=none:=I1.hok.fresh (Nat.le_refl _)
 refine⟨.ref s1.heap.objs.size,upd H1 s1.heap.objs.size (.tup xs),I1.laid (t':=s1.toks) (fun b u e=>Heap.get?_push_of_some _ e) (Nat.le_refl _) ?_,rfl,q _ hf⟩
 exact⟨z,us,r,⟨_,Heap.get?_push_size _ rfl,rfl,_,rfl⟩⟩
theorem aju(h:PA X es t):PE X (.List es pos) (avp t):=by
 intro pins s σ H Q I hq
 refine wpAny_List_spliced (thn (h pos pins s σ H _ I hq) fun us s1 ⟨xs,H1,I1,r,z,q⟩=>⟨by rw[←r.length];exact z,?_⟩)
 have hf:H1 s1.heap.objs.size=none:=I1.hok.fresh (Nat.le_refl _)
 refine⟨.ref s1.heap.objs.size,upd H1 s1.heap.objs.size (.lst xs),I1.laid (t':=s1.toks) (fun b u e=>Heap.get?_push_of_some _ e) (Nat.le_refl _) ?_,rfl,q _ hf⟩
 exact⟨z,us,0,r,Heap.get?_push_size _ rfl⟩
end
noncomputable abbrev Sp:=List V→Hp→VK→XK→Prop
noncomputable abbrev CXT:=List Env→Hp→Shared→XK→Value→Shared→Prop
structure Env0(P:Program)(w:World)(K:PySem.W.Frag)(mg:Str→Option Value)(base:Heap)(A:Around)(outer:List Env)(s:Shared)(H:Hp):Prop where
 frames:A.frames=some outer
 mod:Mod K mg base
 bs:∀b o,base.get? b=some o→s.heap.get? b=some o∧H b=none
 bsz:base.objs.size≤s.heap.objs.size
 funs:s.heap.FunFrames base outer
 frf:∀b∈frs outer,H b=none
 hok:HOk P w H s.heap
 bare:AllBare s.gens
noncomputable def CE(outer:List Env)(P:Program)(w:World)(H:Hp)(s:Shared)(Q:VK)(u:Value)(s':Shared):Prop:=
 ∃v H',s'.os=s.os∧AllBare s'.gens∧Un (frs outer) [] H H' s.heap s'.heap∧HOk P w H' s'.heap∧aaJ v u∧Q v H'
noncomputable def CR(CX:CXT)(outer:List Env)(P:Program)(w:World)(H:Hp)(s:Shared)(Q:VK)(E:XK)(r:Result)(s':Shared):Prop:=
 match r with
 | .ok (.ret u)=>CE outer P w H s Q u s'
 | .ok _=>False
 | .error e=>CX outer H s E e s'
structure FnOk(P:Program)(w:World)(K:PySem.W.Frag)(mg:Str→Option Value)(base:Heap)(CX:CXT)(k:Nat)(f:Addr)(fd:FuncData)(ps:List Str)(sp:Sp):Prop where
 len:∀vs H Q E,sp vs H Q E→vs.length=ps.length
 run:∀(A:Around) (outer:List Env) (s:Shared) (H:Hp) (args:Args) (us:List Value) (vs:List V) (Q:VK) (E:XK),Room k A→Env0 P w K mg base A outer s H→BindsTo s fd args (ps.zip us)→aa7 vs us→sp vs H Q E→
  codeAny (model P w) A (.call (.ref f) args) (CR CX outer P w H s Q E) s
theorem FnOk.mono{P:Program}{w:World}{K:PySem.W.Frag}{mg:Str→Option Value}{base:Heap}{CX:CXT}{j k:Nat}{f:Addr}{fd:FuncData}{ps:List Str}{sp:Sp}(F:FnOk P w K mg base CX j f fd ps sp)(h:j≤k):
  FnOk P w K mg base CX k f fd ps sp:=⟨F.len,fun A outer s H args us vs Q E hr=>F.run A outer s H args us vs Q E (hr.mono h)⟩
theorem FnOk.imp{P:Program}{w:World}{K:PySem.W.Frag}{mg:Str→Option Value}{base:Heap}{CX:CXT}{k:Nat}{f:Addr}{fd:FuncData}{ps:List Str}{sp sp':Sp}(F:FnOk P w K mg base CX k f fd ps sp)
  (h:∀vs H Q E,sp' vs H Q E→sp vs H Q E):FnOk P w K mg base CX k f fd ps sp':=
 ⟨fun vs H Q E q=>F.len vs H Q E (h _ _ _ _ q),fun A outer s H args us vs Q E hr he hb hv hs=>F.run A outer s H args us vs Q E hr he hb hv (h _ _ _ _ hs)⟩
theorem Env0.in1{P:Program}{w:World}{K:PySem.W.Frag}{mg:Str→Option Value}{base:Heap}{A:Around}{outer:List Env}{s:Shared}{H:Hp}(e:Env0 P w K mg base A outer s H):
  Env0 P w K mg base A.in1 outer s H:=⟨e.frames,e.mod,e.bs,e.bsz,e.funs,e.frf,e.hok,e.bare⟩
section
variable{X:Cx}{pins:List (Addr×Obj)}{σ:St}{H:Hp}{s s':Shared}
theorem Inv.env0(I:Inv X pins σ H s):Env0 X.prog X.w X.K X.mg X.base X.A X.stack s H:=
 ⟨I.ok.frames,I.ok.mod,I.bs,Nat.le_trans I.ok.bsz I.sz,I.stack,I.stkFree,I.hok,I.bare⟩
theorem Inv.after{Q:VK}{u:Value}(I:Inv X pins σ H s)(h:CE X.stack X.prog X.w H s Q u s'):EP X pins σ Q u s':=by
 obtain⟨v,H',os,bare,un,hok,r,q⟩:=h
 obtain⟨hh,g,d,t,os'⟩:=s'
 obtain rfl:os'=s.os:=os
 exact⟨v,H',I.call (h':=hh) (g':=g) (d':=d) (t':=t) (ch:=[]) un hok bare (fun b z=>absurd z (by simp)),r,q⟩
end
noncomputable def adD(K:PySem.W.Frag)(fd:FuncData)(ps:List Str)(ds:List Value):Prop:=
 ∀(s:Shared) (us:List Value),K.In s.heap→(us++ds).length=ps.length→BindsTo s fd ⟨us,[]⟩ (ps.zip (us++ds))
theorem adD.all{K:PySem.W.Frag}{fd:FuncData}{ps:List Str}(h:∀us:List Value,us.length=ps.length→bindArgs fd ⟨us,[]⟩=pure (ps.zip us)):adD K fd ps []:=fun s us _ hl=>by
 rw[List.append_nil]at hl ⊢
 exact .of_eq (h us hl)
section
variable{X:Cx}{CX:CXT}{k:Nat}{f C:Addr}{fd:FuncData}{ps:List Str}{sp:Sp}{dvs:List V}{ds:List Value}{E:XK}{x m:Str}{p pos apos:Pos}{e o:Expr}{es:List Expr}{ta:TE}{t:TA}
structure Mk(K:PySem.W.Frag)(C f:Addr):Prop where
 makes:PySem.W.makesIn K C=true
 init:PySem.W.findIn K (.ref C) "__init__"=some (some (.ref f))
 fn:PySem.W.isFn K (.ref f)=true
 kp:PySem.W.keepIn K (.ref C)=true
end
section
variable{X:Cx}{CX:CXT}{k:Nat}{f C:Addr}{fd:FuncData}{ps ks:List Str}{sp:Sp}{E:XK}{x m:Str}{p pos apos kpos:Pos}{e o:Expr}{es:List Expr}{kws:List Keyword}{te ta:TE}{t tk:TA}{nm:Option Str}
structure KBinds(K:PySem.W.Frag)(fd:FuncData)(ps ks:List Str)(g:List Value→List Value→List Value)(gV:List V→List V→List V):Prop where
 to:∀(s:Shared) (us ws:List Value),K.In s.heap→(g us ws).length=ps.length→BindsTo s fd ⟨us,ks.zip ws⟩ (ps.zip (g us ws))
 rel:∀{vs:List V}{us:List Value}{zs:List V}{ws:List Value},aa7 vs us→aa7 zs ws→aa7 (gV vs zs) (g us ws)
variable{g:List Value→List Value→List Value}{gV:List V→List V→List V}
end
structure FnScope(N P:List Str)(sc:Scope):Prop where
 kind:sc.kind=.function
 co:sc.isCoroutine=false
 gen:sc.isGenerator=false
 nd:N.Nodup
 pre:N.take P.length=P
 par:∀x∈P,sc.names.lookup x=some .local∨sc.names.lookup x=some .cell
 nofree:∀y∈sc.names,y.2≠.free
theorem aej{kindOf:Str→Option NameKind}{x:Str}:∀{binds:List (Str×Value)}{m:Str→Option Value},(∀v,(x,v)∉binds)→bindL kindOf binds m x=m x
 | [],_,_=>rfl
 | (n,v)::r,m,h=>by
  unfold bindL
  rw[aej fun w hw=>h w (List.mem_cons_of_mem _ hw)]
  split
  ·have:x≠n:=by rintro rfl;exact h v List.mem_cons_self
   simp[this]
  ·rfl
theorem aey{kindOf:Str→Option NameKind}{x:Str}:∀{binds:List (Str×Value)}{m:Str→Option Value},(∀v,(x,v)∉binds)→bindC kindOf binds m x=m x
 | [],_,_=>rfl
 | (n,v)::r,m,h=>by
  unfold bindC
  rw[aey fun w hw=>h w (List.mem_cons_of_mem _ hw)]
  split
  ·rfl
  ·have:x≠n:=by rintro rfl;exact h v List.mem_cons_self
   simp[this]
theorem aed{kindOf:Str→Option NameKind}{x:Str}{v:Value}:∀{P:List Str}{vs:List Value}{i:Nat}{m:Str→Option Value},P.Nodup→P[i]?=some x→vs[i]?=some v→kindOf x=some .local→
  bindL kindOf (P.zip vs) m x=some v
 | [],_,_,_,_,h,_,_=>by simp at h
 | _::_,[],_,_,_,_,h,_=>by simp at h
 | p::P,w::vs,0,m,nd,h1,h2,hk=>by
  simp at h1 h2;subst h1;subst h2
  show bindL kindOf ((p,w)::P.zip vs) m p=_
  unfold bindL
  rw[aej fun v hv=>(List.nodup_cons.mp nd).1 (List.of_mem_zip hv).1,if_pos hk]
  simp
 | p::P,w::vs,i+1,m,nd,h1,h2,hk=>by
  show bindL kindOf ((p,w)::P.zip vs) m x=_
  unfold bindL
  exact aed (i:=i) (List.nodup_cons.mp nd).2 (by simpa using h1) (by simpa using h2) hk
theorem adZ{kindOf:Str→Option NameKind}{x:Str}{v:Value}:∀{P:List Str}{vs:List Value}{i:Nat}{m:Str→Option Value},P.Nodup→P[i]?=some x→vs[i]?=some v→kindOf x≠some .local→
  bindC kindOf (P.zip vs) m x=some v
 | [],_,_,_,_,h,_,_=>by simp at h
 | _::_,[],_,_,_,_,h,_=>by simp at h
 | p::P,w::vs,0,m,nd,h1,h2,hk=>by
  simp at h1 h2;subst h1;subst h2
  show bindC kindOf ((p,w)::P.zip vs) m p=_
  unfold bindC
  rw[aey fun v hv=>(List.nodup_cons.mp nd).1 (List.of_mem_zip hv).1,if_neg hk]
  simp
 | p::P,w::vs,i+1,m,nd,h1,h2,hk=>by
  show bindC kindOf ((p,w)::P.zip vs) m x=_
  unfold bindC
  exact adZ (i:=i) (List.nodup_cons.mp nd).2 (by simpa using h1) (by simpa using h2) hk
noncomputable def start(N:List Str)(vs:List V):St:=vs.map some++List.replicate (N.length-vs.length) none
noncomputable def adP(CX:CXT)(P:Program)(w:World)(K:PySem.W.Frag)(mg:Str→Option Value)(base:Heap)(N:List Str)(qual:Str)(scope:Scope)(f:Addr)(cd:Value)(A:Around)(outer:List Env)(s:Shared)(H:Hp)(E:XK):Cx where
 prog:=P
 w:=w
 K:=K
 mg:=mg
 base:=base
 A:=A.deeper (envOfC qual scope s.heap.objs.size f cd)
 N:=N
 s₀:=s
 H₀:=H
 env:=envOfC qual scope s.heap.objs.size f cd
 outer:=outer
 stack:=envOfC qual scope s.heap.objs.size f cd::outer
 ex:=[]
 calm:=true
 fn:=fun _=>true
 pn:=[]
 xe:=fun e s'=>wpAny (model P w) (A.deeper (envOfC qual scope s.heap.objs.size f cd)) (leaving (envOfC qual scope s.heap.objs.size f cd) e) (fun _ s''=>CX outer H s E e s'') (fun e' s''=>CX outer H s E e' s'') s'
theorem afw{sc:Scope}{n:Nat}{x:Str}(h:sc.names.lookup x=some .cell):∃c,(cellsFrom n sc.names []).lookup x=some c:=by
 have q:=PySem.W.cellsFrom_some sc.names n [] (.inl h)
 exact Option.isSome_iff_exists.mp q
theorem acR{CX:CXT}{P:Program}{w:World}{K:PySem.W.Frag}{mg:Str→Option Value}{base:Heap}{N ps:List Str}{qual:Str}{scope:Scope}{f:Addr}{cd:Value}{A:Around}{outer:List Env}{s s1:Shared}{H:Hp}{E:XK}{us:List Value}{vs:List V}
  (S:FnScope N ps scope) (hd:A.handled=none) (e0:Env0 P w K mg base A outer s H) (hl:vs.length=ps.length) (r:aa7 vs us)
  (x:InCallC s s.heap.objs.size (bindL (envOfC qual scope s.heap.objs.size f cd).kindOf (ps.zip us) fun _=>none) (cellsFrom (s.heap.objs.size+1) scope.names []) (bindC (envOfC qual scope s.heap.objs.size f cd).kindOf (ps.zip us) fun _=>none) s1):
  Inv (adP CX P w K mg base N qual scope f cd A outer s H E) [] (start N vs) H s1:=by
 have hpl:ps.length≤N.length:=by have:=congrArg List.length S.pre;rw[List.length_take]at this;omega
 obtain⟨h1,tk,rfl,hk⟩:=x.done
 have noA:∀b:Addr,b∉(adP CX P w K mg base N qual scope f cd A outer s H E).ex:=fun b z=>absurd (show b∈([]:List Addr)from z) (by simp)
 refine⟨⟨e0.mod,S.kind,rfl,rfl,Nat.le_refl _,fun y z c h1 h2=>?_,fun y hy=>?_,fun y c _ h=>?_,fun _=>hd,Around.frames_deeper e0.frames,.inr ⟨rfl,rfl⟩,fun b z=>absurd z (noA b),e0.bs,e0.bsz,fun b _ _=>noA b,fun b z=>absurd z (noA b),e0.funs,e0.frf⟩,
  rfl,e0.bare,Un.kept hk,⟨_,x.toInCall.ns,fun i y v h1 h2 h3=>?_⟩,fun y c h=>⟨_,x.cell y c h⟩,e0.hok.fresh (Nat.le_refl _),fun y c h=>?_,fun p hp=>absurd (show p∈([]:List (Addr×Obj))from hp) (by simp),e0.hok.kept hk,?_⟩
 ·exact name_of_addr x.apart (PySem.mem_of_lookup h1) (PySem.mem_of_lookup h2)
 ·have hy:scope.names.lookup y=some .cell∨scope.names.lookup y=some .free:=hy
  rcases hy with hy|hy
  ·exact afw hy
  ·exact absurd rfl (S.nofree _ (PySem.mem_of_lookup hy))
 ·exact Nat.le_of_lt (x.above y c (PySem.mem_of_lookup h))
 ·have hi:i<vs.length:=by
   unfold start at h2
   by_cases hi:i<vs.length
   ·exact hi
   ·rw[List.getElem?_append_right (by simpa using hi)]at h2
    rw[List.getElem?_replicate]at h2
    split at h2<;>cases h2
  have ha:vs[i]?=some v:=by
   unfold start at h2
   rw[List.getElem?_append_left (by simpa using hi),List.getElem?_map]at h2
   cases e:vs[i]? with
   | none=>rw[e]at h2;cases h2
   | some a=>rw[e]at h2;cases h2;rfl
  obtain⟨u,hu,rv⟩:=r.get ha
  have hp:ps[i]?=some y:=by
   rw[←S.pre,List.getElem?_take_of_lt (by omega)];exact h1
  have ndP:ps.Nodup:=by rw[←S.pre];exact S.nd.sublist (List.take_sublist _ _)
  refine⟨u,rv,?_⟩
  rcases S.par y (List.mem_of_getElem? hp)with k|k
  ·exact .inl ⟨k,aed ndP hp hu k⟩
  ·obtain⟨c,e⟩:=afw (n:=s.heap.objs.size+1) k
   refine .inr ⟨.inl k,c,e,?_⟩
   have q:=x.cell y c e
   rw[adZ ndP hp hu (by show scope.names.lookup y≠_;rw[k];decide)]at q
   exact q
 ·exact e0.hok.fresh (Nat.le_of_lt (x.above y c (PySem.mem_of_lookup h)))
 ·unfold start
  show _=N.length
  rw[List.length_append,List.length_map,List.length_replicate]
  omega
theorem an6{CX:CXT}{P:Program}{w:World}{K:PySem.W.Frag}{mg:Str→Option Value}{base:Heap}{k:Nat}{f:Addr}{name qual:Str}{params:Arguments}{body:List Stmt}{scope:Scope}{dV kV doc pm cdv ct oc:Value}{an od:Option Addr}
  {osl:Array (Option Value)}{N ps:List Str}{sp:Sp} (lk:K.lookup f=some ⟨oc,od,.func (PySem.W.fnOf name qual params body scope dV kV doc pm an cdv ct),osl⟩) (hcd:PySem.W.codeIn K cdv qual=true) (S:FnScope N ps scope)
  (len:∀vs H Q E,sp vs H Q E→vs.length=ps.length)
  (hbody:∀(A:Around) (outer:List Env) (s:Shared) (H:Hp) (vs:List V) (Q:VK) (E:XK),Room k (A.deeper (envOfC qual scope s.heap.objs.size f cdv))→sp vs H Q E→
   ∃t,PSs (adP CX P w K mg base N qual scope f cdv A outer s H E) body t∧t { nx:=fun _ H'=>Q .non H',rt:=Q } (start N vs) H):
  FnOk P w K mg base CX (k+1) f (PySem.W.fnOf name qual params body scope dV kV doc pm an cdv ct) ps sp:=by
 refine⟨len,fun A outer s H args us vs Q E hr e0 hb r hsp=>?_⟩
 have hl:=len _ _ _ _ hsp
 have KX:K.In s.heap:=e0.mod.kin.keeps fun b o e=>(e0.bs b o e).1
 have lim:s.heap.NoLimit:=e0.mod.nolimit.keeps fun b o e=>(e0.bs b o e).1
 have hkind:∀y∈ps.zip us,scope.names.lookup y.1=some .local∨(scope.names.lookup y.1=some .cell∧((cellsFrom (s.heap.objs.size+1) scope.names []).lookup y.1).isSome=true):=fun⟨n,v⟩ hy=>by
  rcases S.par n (List.of_mem_zip hy).1 with q|q
  ·exact .inl q
  ·exact .inr ⟨q,PySem.W.cellsFrom_some _ _ _ (.inl q)⟩
 refine codeAny_call_function hr.depth (KX _ _ lk) rfl S.co S.gen rfl (PySem.W.codeRec_of KX hcd) (hb _ _ _ _ ?_)
 refine wpAny_newFunctionEnv_cells S.kind hkind fun env he s1 x=>?_
 subst he
 refine⟨lim.keeps x.toInCall.keep,codeAny_func ?_⟩
 obtain⟨t,ht,hq⟩:=hbody A outer s H vs Q E (hr.deeper _) hsp
 have I:Inv (adP CX P w K mg base N qual scope f cdv A outer s H E) [] (start N vs) H s1:=acR S hr.hd e0 hl r x
 refine wpAny_mono (ht [] s1 (start N vs) H _ I hq) (fun fl s' hs=>?_) fun e s' hs=>hs
 have fin:∀{σ':St}{H':Hp}{v:V}{u:Value},Inv (adP CX P w K mg base N qual scope f cdv A outer s H E) [] σ' H' s'→aaJ v u→Q v H'→CE outer P w H s Q u s':=
  fun {σ' H' v u} J rv q=>⟨v,H',J.os,J.bare,J.base,J.hok,rv,q⟩
 cases fl with
 | ret u=>
  obtain⟨v,σ',H',J,rv,q⟩:=hs
  exact fin J rv q
 | next=>
  obtain⟨σ',H',J,q⟩:=hs
  exact fin (v:=V.non) (u:=Value.none) J rfl q
 | brk=>
  obtain⟨_,_,_,q⟩:=hs
  exact False.elim q
 | cont=>
  obtain⟨_,_,_,q⟩:=hs
  exact False.elim q
end L2
namespace L2
open PySem PySem.Spec PyProof.Rows
section
variable{X:Cx}{x:Str}{p pos:Pos}{e:Expr}{es:List Expr}{t:TA}{id T:String}{r:List V→Hp→VK→Prop}
noncomputable def tCB(r:List V→Hp→VK→Prop)(t:TA):TE:=fun σ H Q=>t σ H fun vs H1=>r vs H1 Q
theorem ac8(hc:aaM X (.builtin id) r)(hg:Gl X x)(hm:X.mg x=none)(hv:bootBuiltins x=some (.builtin id))(ha:PA X (e::es) t)(hn:x≠"__name__":=by decide)(hdb:(x==("__debug__":Str))=false:=by decide)
  (he:starEach (e::es) X.env=(false,eval e X.env)::starEach es X.env:=by rfl) (hpl:(backTo pos (starEach es X.env)).any (·.1)=false:=by rfl):PE X (.Call (.Name x p) (e::es) [] pos) (tCB r t):=by
 intro pins s σ H Q I h
 refine wpAny_Call_Name_kw (ado I hg hm hv ?_ hn hdb)
 exact PyProof.Rows.callWith_builtin1 (thn (ha pos pins s σ H _ I h) fun us s1 ⟨vs,H1,I1,r1,q1⟩=>hc pins s1 σ H1 vs us Q I1 r1 q1) he hpl
theorem ahD(hc:aaM X (.type T) r)(hg:Gl X x)(hm:X.mg x=none)(hv:bootBuiltins x=some (.type T))(ha:PA X (e::es) t)(hn:x≠"__name__":=by decide)(hdb:(x==("__debug__":Str))=false:=by decide)
  (he:starEach (e::es) X.env=(false,eval e X.env)::starEach es X.env:=by rfl) (hpl:(backTo pos (starEach es X.env)).any (·.1)=false:=by rfl):PE X (.Call (.Name x p) (e::es) [] pos) (tCB r t):=by
 intro pins s σ H Q I h
 refine wpAny_Call_Name_kw (ado I hg hm hv ?_ hn hdb)
 exact PyProof.Rows.callWith_type1 (thn (ha pos pins s σ H _ I h) fun us s1 ⟨vs,H1,I1,r1,q1⟩=>hc pins s1 σ H1 vs us Q I1 r1 q1) he hpl
end
end L2
namespace HT
open PySem PyProof.Rows
section
open PySem.SeqAt
open PySem.AutoSeq1 (wpAny_loadPart')
open PySem.MeetsSeq PySem.MeetsSeq2 PySem.MeetsSeq3
end
section
variable{prog:Program}{w:World}{A:Around}{E:Value→Shared→Prop}{s:Shared}
theorem cat_tup{t b:Addr}{vs ws:List Value}{Q:Value→Shared→Prop}(ht:IsTup s.heap t vs.toArray)(hb:IsTup s.heap b ws.toArray)(hv:vs≠[])
  (h1:ws=[]→Q (.ref t) s) (h2:ws≠[]→Q (.ref s.heap.objs.size) { s with heap:=s.heap.push { cls:=.type "tuple",data:=.seq (vs++ws).toArray } })
  (hsz:vs.length+ws.length≤sizeLine):wpAny (model prog w) A (binaryOp .Add (.ref t) (.ref b)) Q E s:=by
 obtain⟨⟨cls,dd,data,sl⟩,ho,hc,n,hd⟩:=id ht
 obtain⟨⟨cls2,dd2,data2,sl2⟩,ho2,hc2,n2,hd2⟩:=id hb
 simp only at hc hd hc2 hd2
 subst hc hd hc2 hd2
 have e:vs.toArray++ws.toArray=(vs++ws).toArray:=by simp
 by_cases hw:ws=[]
 ·exact concat_meets ⟨_,ho,rfl⟩ ⟨_,ho2,rfl⟩ noFill_tuple_add seq_tuple_add PySem.F.slot_tuple_add PySem.F.entry_tuple_add (PySem.F.args_tuple_add_2 _ _)
   (tuple_addW1 t b vs.toArray ws.toArray n n2 dd dd2 sl sl2 (by simpa using hv) (by simp[hw])) ⟨ho,ho2,h1 hw⟩
 ·refine concat_meets ⟨_,ho,rfl⟩ ⟨_,ho2,rfl⟩ noFill_tuple_add seq_tuple_add PySem.F.slot_tuple_add PySem.F.entry_tuple_add (PySem.F.args_tuple_add_2 _ _)
   (tuple_addW2 t b vs.toArray ws.toArray n n2 dd dd2 sl sl2 (by simpa using hv) (by simpa using hw) (by rw[List.size_toArray,List.size_toArray];exact hsz)) ⟨ho,ho2,?_⟩
  rw[e]
  exact h2 hw
noncomputable def sIx(n d:Nat):Option Int→Nat
 | none=>d
 | some v=>if v<0 then(v+(n:Int)).toNat else min v.toNat n
theorem sIx_nat(n d k:Nat):sIx n d (some (k:Int))=min k n:=by
 show(if(k:Int)<0 then((k:Int)+(n:Int)).toNat else min (k:Int).toNat n)=min k n
 rw[if_neg (by omega),Int.toNat_natCast]
theorem anw(n d:Nat)(hd:d≤n)(o:Option Int):sIx n d o≤n:=by
 cases o with
 | none=>exact hd
 | some v=>
  show(if v<0 then(v+(n:Int)).toNat else min v.toNat n)≤n
  by_cases hv:v<0
  ·rw[if_pos hv];omega
  ·rw[if_neg hv];exact Nat.min_le_right _ _
theorem ahr(v:Int)(n d:Nat):(if v<0 then max (v+(n:Int)) 0 else min v (n:Int))=((sIx n d (some v):Nat):Int):=by
 show(if v<0 then max (v+(n:Int)) 0 else min v (n:Int))=(((if v<0 then(v+(n:Int)).toNat else min v.toNat n):Nat):Int)
 by_cases hv:v<0
 ·simp only[if_pos hv];omega
 ·simp only[if_neg hv];omega
theorem agc(lo hi:Option Int)(n:Nat):Builtin.Slice.sliceAdjust lo hi 1 (n:Int)=(((sIx n 0 lo:Nat):Int),((sIx n n hi:Nat):Int)):=by
 have h1:¬((1:Int)<0):=by omega
 unfold Builtin.Slice.sliceAdjust
 simp only[h1,if_false]
 refine Prod.ext ?_ ?_
 ·cases lo with
  | none=>rfl
  | some v=>exact ahr v n 0
 ·cases hi with
  | none=>rfl
  | some v=>exact ahr v n n
theorem afO(i j:Nat):Builtin.Slice.slicePlaces (i:Int) (j:Int) 1=j-i:=by
 unfold Builtin.Slice.slicePlaces
 have h1:(1:Int)>0:=by omega
 simp only[h1,if_true,Int.ediv_one]
 split<;>omega
theorem adb{v:Value}{o:Option Int}{Q:Option Int→Shared→Prop}(p:IsPart v o)(h:Q o s):wpAny (model prog w) A (Builtin.Slice.slicePartIndex v) Q E s:=by
 cases p with
 | none=>exact slicePart_none h
 | int i t=>exact slicePart_int h
theorem ac1{sl:Addr}{vl vu:Value}{lo hi:Option Int}{n:Nat}{Q:Int×Int×Nat→Shared→Prop}(hs:s.heap.IsSliceOf sl vl vu .none)(pl:IsPart vl lo)(pu:IsPart vu hi)
  (h:Q (((sIx n 0 lo:Nat):Int),1,sIx n n hi-sIx n 0 lo) s):wpAny (model prog w) A (Builtin.Slice.sliceApplied (.ref sl) (pure (n:Int))) Q E s:=by
 obtain⟨os,hos,hcs,hds⟩:=id hs
 unfold Builtin.Slice.sliceApplied Builtin.Slice.sliceFields
 refine wpAny_bind (wpAny_bind (wpAny_field hos hds (x:=vl) rfl (wpAny_bind (wpAny_field hos hds (x:=vu) rfl (wpAny_bind (wpAny_field hos hds (x:=.none) rfl (wpAny_pure ?_)))))))
 refine wpAny_bind (slicePart_none ?_)
 show wpAny _ _ (if((1:Int)==0)=true then _ else _) _ _ s
 rw[if_neg (by decide)]
 refine wpAny_bind (adb pl (wpAny_bind (adb pu (wpAny_bind (wpAny_pure ?_)))))
 show wpAny _ _ (match Builtin.Slice.sliceAdjust lo hi 1 (n:Int)with|(lo,hi)=>pure (lo,(1:Int),Builtin.Slice.slicePlaces lo hi 1)) _ _ s
 rw[agc lo hi n]
 show wpAny _ _ (pure (((sIx n 0 lo:Nat):Int),(1:Int),Builtin.Slice.slicePlaces ((sIx n 0 lo:Nat):Int) ((sIx n n hi:Nat):Int) 1)) _ _ s
 rw[afO]
 exact wpAny_pure h
theorem aii(xs:Array Value)(i k:Nat):((List.range k).filterMap fun(m:Nat)=>xs[((i:Int)+(m:Int)*1).toNat]?).toArray=((xs.toList.drop i).take k).toArray:=by
 have e:(fun(m:Nat)=>xs[((i:Int)+(m:Int)*1).toNat]?)=fun m=>xs[i+m]?:=by
  funext m
  have:((i:Int)+(m:Int)*1).toNat=i+m:=by omega
  rw[this]
 rw[e]
 have:=pick_run xs i k
 rw[List.filterMap_map]at this
 have e2:((fun x=>xs[x]?)∘fun x=>i+x)=fun m=>xs[i+m]?:=rfl
 rw[e2]at this
 rw[this]
theorem getItem_tuple_cut{t sl:Addr}{items:Array Value}{vl vu:Value}{lo hi:Option Int}{Q:Value→Shared→Prop}(ht:IsTup s.heap t items)(hs:s.heap.IsSliceOf sl vl vu .none)(pl:IsPart vl lo)(pu:IsPart vu hi)
  (hw:¬(sIx items.size 0 lo=0∧sIx items.size items.size hi=items.size))
  (h:Q (.ref s.heap.objs.size) { s with heap:=s.heap.push { cls:=.type "tuple",data:=.seq ((items.toList.drop (sIx items.size 0 lo)).take (sIx items.size items.size hi-sIx items.size 0 lo)).toArray } })
  (hsz:items.size≤sizeLine):wpAny (model prog w) A (getItem (.ref t) (.ref sl)) Q E s:=by
 have htake:sizeOk (.seq ((items.toList.drop (sIx items.size 0 lo)).take (sIx items.size items.size hi-sIx items.size 0 lo)).toArray):=by
  show((items.toList.drop (sIx items.size 0 lo)).take (sIx items.size items.size hi-sIx items.size 0 lo)).toArray.size≤sizeLine
  rw[List.size_toArray,List.length_take,List.length_drop,Array.length_toList]
  omega
 have hj:sIx items.size items.size hi≤items.size:=anw _ _ (Nat.le_refl _) hi
 obtain⟨os,hos,hcs,hds⟩:=id hs
 have hTs:s.TypeIs (.ref sl) "slice":=⟨os,hos,hcs⟩
 unfold getItem
 try with_reducible refine wpAny_holding ?_
 first|refine wpAny_bind (wpAny_pure ?_)|skip
 refine wpAny_bind (wpAny_sequenceKey ht.typeIs (by decide) ?_)
 refine wpAny_bind (wpAny_callSpecial?_slot (name:=Str.ofString "__getitem__") ht.typeIs PyProof.Rows.slot_tuple_getitem
  (wpAny_call_entry PyProof.Rows.slot_tuple_getitem ht.typeIs entry_tuple_getitem ?_ (args_tuple_getitem _ _)))
 show wpAny _ _ (Builtin.Tuple.tupleItemsOf (.ref t) >>= _) _ _ s
 refine wpAny_bind (tupleItemsOf_ ht ?_)
 refine wpAny_bind (wpAny_typeOf hTs ?_)
 rw[if_pos (by decide)]
 refine wpAny_bind (ac1 hs pl pu ?_)
 have hno:¬((((sIx items.size 0 lo:Nat):Int)==0&&(1:Int)==1&&(sIx items.size items.size hi-sIx items.size 0 lo)==items.size)=true):=by
  intro q
  rw[Bool.and_eq_true,Bool.and_eq_true]at q
  have q1:((sIx items.size 0 lo:Nat):Int)=0:=eq_of_beq q.1.1
  have q2:sIx items.size items.size hi-sIx items.size 0 lo=items.size:=eq_of_beq q.2
  exact hw ⟨by omega,by omega⟩
 show wpAny _ _ (if(((sIx items.size 0 lo:Nat):Int)==0&&(1:Int)==1&&(sIx items.size items.size hi-sIx items.size 0 lo)==items.size)=true then _ else _) _ _ s
 rw[if_neg hno,aii]
 first
  | exact wpAny_bind (m:=Builtin.Tuple.tupleExact _) (wpAny_newObj_type (wpAny_pure ⟨_,rfl,wpAny_pure h⟩) htake)
  | exact wpAny_bind (m:=Builtin.Tuple.tupleExact _) (wpAny_newObj_type (wpAny_bind (wpAny_pure (wpAny_pure ⟨_,rfl,wpAny_pure h⟩))) htake)
  | exact wpAny_bind (wpAny_bind (m:=Builtin.Tuple.tupleExact _) (wpAny_newObj_type (wpAny_pure (wpAny_pure ⟨_,rfl,wpAny_pure h⟩)) htake))
  | exact wpAny_bind (wpAny_bind (m:=Builtin.Tuple.tupleExact _) (wpAny_newObj_type (wpAny_pure ⟨_,rfl,wpAny_pure h⟩) htake))
end
end HT
namespace L2
open PySem PySem.Spec PyProof.Rows
noncomputable abbrev TO:=St→Hp→(Option Int→Hp→Prop)→Prop
noncomputable def PO(X:Cx)(e:Option Expr)(t:TO):Prop:=
 ∀(pins:List (Addr×Obj)) (s:Shared) (σ:St) (H:Hp) (Q:Option Int→Hp→Prop),Inv X pins σ H s→t σ H Q→
  wpAny (model X.prog X.w) X.A (evalPart e X.env) (fun u s'=>∃o H',Inv X pins σ H' s'∧IsPart u o∧Q o H') X.xe s
noncomputable def alc:TO:=fun _ H Q=>Q none H
noncomputable def arf(t:TE):TO:=fun σ H Q=>t σ H fun x H1=>∃i,x=.int i∧Q (some i) H1
section
variable{X:Cx}{e:Expr}{te:TE}{lo hi:Option Expr}{tl th:TO}{pos p2:Pos}
theorem ad7:PO X none alc:=by
 intro pins s σ H Q I h
 rw[evalPart_none]
 exact wpAny_pure ⟨none,H,I,.none,h⟩
theorem aeZ(h:PE X e te):PO X (some e) (arf te):=by
 intro pins s σ H Q I hw
 rw[evalPart_some]
 refine thn (h pins s σ H _ I hw) fun u s1 ⟨x,H1,I1,r1,q1⟩=>?_
 obtain⟨i,rfl,q⟩:=q1
 obtain⟨t,rfl⟩:=r1
 exact⟨some i,H1,I1,.int i t,q⟩
noncomputable def SlR(X:Cx)(r:V→Option Int→Option Int→Hp→VK→Prop):Prop:=
 ∀(pins:List (Addr×Obj)) (s:Shared) (σ:St) (H:Hp) (x:V) (v vl vu:Value) (lo hi:Option Int) (sl:Addr) (Q:VK),Inv X pins σ H s→aaJ x v→s.heap.IsSliceOf sl vl vu .none→IsPart vl lo→IsPart vu hi→r x lo hi H Q→
  ∃T id,typeLookup (.type T) "__getitem__"=pure (some (.builtin id))∧s.TypeIs v T∧wpAny (model X.prog X.w) X.A (getItem v (.ref sl)) (EP X pins σ Q) X.xe s
theorem SlR.or{r r':V→Option Int→Option Int→Hp→VK→Prop}(h:SlR X r)(h':SlR X r'):SlR X (fun x lo hi H Q=>r x lo hi H Q∨r' x lo hi H Q):=by
 intro pins s σ H x v vl vu lo hi sl Q I rx hs pl pu q
 rcases q with q|q
 ·exact h pins s σ H x v vl vu lo hi sl Q I rx hs pl pu q
 ·exact h' pins s σ H x v vl vu lo hi sl Q I rx hs pl pu q
noncomputable def tSl(r:V→Option Int→Option Int→Hp→VK→Prop)(te:TE)(tl th:TO):TE:=fun σ H Q=>te σ H fun x H1=>tl σ H1 fun l H2=>th σ H2 fun u H3=>r x l u H3 Q
theorem af3{r:V→Option Int→Option Int→Hp→VK→Prop}(hr:SlR X r)(he:PE X e te)(hl:PO X lo tl)(hu:PO X hi th):PE X (.Subscript e (.Slice lo hi none p2) pos) (tSl r te tl th):=by
 intro pins s σ H Q I h
 refine Subscript_ (thn (he pins s σ H _ I h) fun v s1 ⟨x,H1,I1,r1,q1⟩=>?_)
 refine wpAny_Slice (thn (hl pins s1 σ H1 _ I1 q1) fun vl s2 ⟨l,H2,I2,pl,q2⟩=>thn (hu pins s2 σ H2 _ I2 q2) fun vu s3 ⟨u,H3,I3,pu,q3⟩=>?_)
 rw[evalPart_none]
 refine wpAny_pure ?_
 have I4:Inv X pins σ H3 { s3 with heap:=s3.heap.push { cls:=.type "slice",data:=.fields #[vl,vu,.none] } }:=I3.kept (t':=s3.toks) fun b ob q=>Heap.get?_push_of_some _ q
 obtain⟨T,id,hT,ht,hg⟩:=hr pins { s3 with heap:=s3.heap.push { cls:=.type "slice",data:=.fields #[vl,vu,.none] } } σ H3 x v vl vu l u s3.heap.objs.size Q I4 r1 (Heap.IsSliceOf.new ..) pl pu q3
 show wpAny (model X.prog X.w) X.A (subscriptTail e (.Slice lo hi none p2) v (.ref s3.heap.objs.size)) (EP X pins σ Q) X.xe { s3 with heap:=s3.heap.push { cls:=.type "slice",data:=.fields #[vl,vu,.none] } }
 exact tail_any (ops:=[.ref s3.heap.objs.size,v]) ht hT hg (by with_unfolding_all rfl)
noncomputable def ajr(xs:List V)(lo hi:Option Int):List V:=(xs.drop (HT.sIx xs.length 0 lo)).take (HT.sIx xs.length xs.length hi-HT.sIx xs.length 0 lo)
theorem acG(xs:List V)(lo hi:Option Int):(ajr xs lo hi).length≤xs.length:=by
 unfold ajr
 rw[List.length_take,List.length_drop]
 omega
noncomputable def auv(K:PySem.W.Frag):V→Option Int→Option Int→Hp→VK→Prop:=fun x lo hi H Q=>∃a xs,x=.ref a∧SqT K H a xs∧
 ¬(HT.sIx xs.length 0 lo=0∧HT.sIx xs.length xs.length hi=xs.length)∧∀p,H p=none→Q (.ref p) (upd H p (.tup (ajr xs lo hi)))
theorem anV:SlR X (auv X.K):=by
 intro pins s σ H x v vl vu lo hi sl Q I rx hs pl pu h
 obtain⟨a,xs,rfl,hx,hw,q⟩:=h
 cases rx
 obtain⟨its,r,ht,hz⟩:=I.tuple hx
 have hlen:its.toArray.size=xs.length:=by rw[List.size_toArray];exact r.length.symm
 refine⟨"tuple",_,PyProof.Rows.slot_tuple_getitem.lookup,ht.typeIs,?_⟩
 refine HT.getItem_tuple_cut ht hs pl pu (by rw[hlen];exact hw) ?_ (by rw[hlen];exact hz)
 rw[hlen]
 refine⟨.ref s.heap.objs.size,_,I.laid (t':=s.toks) (o:=.tup (ajr xs lo hi)) (fun b ob q=>Heap.get?_push_of_some _ q) (Nat.le_refl _) ?_,rfl,q _ (I.hok.fresh (Nat.le_refl _))⟩
 exact⟨Nat.le_trans (acG xs lo hi) hz,_,(r.drop (HT.sIx xs.length 0 lo)).take (HT.sIx xs.length xs.length hi-HT.sIx xs.length 0 lo),IsTup.new _ _⟩
noncomputable def asy(K:PySem.W.Frag):R2:=fun x y H Q=>∃a b xs ys,x=.ref a∧y=.ref b∧SqT K H a xs∧SqT K H b ys∧xs≠[]∧xs.length+ys.length≤sizeLine∧
 (ys=[]→Q (.ref a) H)∧(ys≠[]→∀p,H p=none→Q (.ref p) (upd H p (.tup (xs++ys))))
theorem aa7.nil_iff{xs:List V}{us:List Value}(r:aa7 xs us):us=[]↔xs=[]:=by
 cases r with
 | nil=>simp
 | cons _ _=>simp
theorem ajO:OpR X (binaryOp .Add) (asy X.K):=by
 intro pins s σ H x y v u Q I rx ry h
 obtain⟨a,b,xs,ys,rfl,rfl,ha,hb,hx,hz,q1,q2⟩:=h
 cases rx
 cases ry
 obtain⟨its,r1,p1,_⟩:=I.tuple ha
 obtain⟨its2,r2,p2,_⟩:=I.tuple hb
 refine HT.cat_tup p1 p2 (fun z=>hx (r1.nil_iff.mp z)) (fun z=>⟨.ref a,H,I,rfl,q1 (r2.nil_iff.mp z)⟩) (fun z=>?_) (by rw[←r1.length,←r2.length];exact hz)
 refine⟨.ref s.heap.objs.size,_,I.laid (t':=s.toks) (o:=.tup (xs++ys)) (fun b ob q=>Heap.get?_push_of_some _ q) (Nat.le_refl _) ?_,rfl,q2 (fun w=>z (r2.nil_iff.mpr w)) _ (I.hok.fresh (Nat.le_refl _))⟩
 exact⟨by rw[List.length_append];exact hz,_,r1.append r2,IsTup.new _ _⟩
end
end L2
namespace L2
open PySem PySem.Spec PyProof.Rows
noncomputable def ixN(n:Nat)(i:Int):Option Nat:=if 0≤i then(if i<n then some i.toNat else none)else if -(n:Int)≤i then some (i+n).toNat else none
noncomputable def atI{α:Type}(xs:List α)(i:Int):Option α:=(ixN xs.length i).bind fun j=>xs[j]?
theorem ahw{n:Nat}{i:Int}{j:Nat}(h:ixN n i=some j):seqIndex? i n=some j∧j<n∧-(n:Int)≤i∧i<n:=by
 unfold ixN at h
 by_cases h0:0≤i
 ·rw[if_pos h0]at h
  by_cases h1:i<n
  ·rw[if_pos h1]at h
   have e:i.toNat=j:=Option.some.inj h
   exact⟨by rw[seqIndex_of h0 h1,e],by omega,by omega,h1⟩
  ·rw[if_neg h1]at h;cases h
 ·rw[if_neg h0]at h
  by_cases h1:-(n:Int)≤i
  ·rw[if_pos h1]at h
   have e:(i+n).toNat=j:=Option.some.inj h
   exact⟨by rw[seqIndex_neg (by omega) h1,e],by omega,h1,by omega⟩
  ·rw[if_neg h1]at h;cases h
theorem aeW{α:Type}{xs:List α}{i:Int}{v:α}(h:atI xs i=some v):∃j,seqIndex? i xs.length=some j∧xs[j]?=some v∧j<xs.length∧-(xs.length:Int)≤i∧i<xs.length:=by
 unfold atI at h
 cases e:ixN xs.length i with
 | none=>rw[e]at h;cases h
 | some j=>
  rw[e]at h
  obtain⟨h1,h2,h3,h4⟩:=ahw e
  exact⟨j,h1,h,h2,h3,h4⟩
noncomputable def aeL(b:Expr):Prop:=∀o i,subscripted b false o i=operate [o,i] (getItem o i)
noncomputable def IxR(X:Cx)(r:R2):Prop:=
 ∀(value slice:Expr) (pins:List (Addr×Obj)) (s:Shared) (σ:St) (H:Hp) (x y:V) (v u:Value) (Q:VK),Inv X pins σ H s→aaJ x v→aaJ y u→r x y H Q→
  subscripted slice false v u=operate [v,u] (getItem v u)→wpAny (model X.prog X.w) X.A (subscriptTail value slice v u) (EP X pins σ Q) X.xe s
noncomputable def MtR(X:Cx)(id:String)(r:V→List V→Hp→VK→Prop):Prop:=
 ∀(pins:List (Addr×Obj)) (s:Shared) (σ:St) (H:Hp) (x:V) (xs:List V) (v:Value) (us:List Value) (Q:VK),Inv X pins σ H s→aaJ x v→aa7 xs us→r x xs H Q→
  wpAny (model X.prog X.w) X.A (call (.builtin id) (v::us)) (EP X pins σ Q) X.xe s
section
variable{X:Cx}{a b:Expr}{ta tb:TE}{pos:Pos}
theorem IxR.or{r r':R2}(h:IxR X r)(h':IxR X r'):IxR X (fun x y H Q=>r x y H Q∨r' x y H Q):=by
 intro value slice pins s σ H x y v u Q I rx ry q hs
 rcases q with q|q
 ·exact h value slice pins s σ H x y v u Q I rx ry q hs
 ·exact h' value slice pins s σ H x y v u Q I rx ry q hs
theorem MtR.or{id:String}{r r':V→List V→Hp→VK→Prop}(h:MtR X id r)(h':MtR X id r'):MtR X id (fun x xs H Q=>r x xs H Q∨r' x xs H Q):=by
 intro pins s σ H x xs v us Q I rx rs q
 rcases q with q|q
 ·exact h pins s σ H x xs v us Q I rx rs q
 ·exact h' pins s σ H x xs v us Q I rx rs q
theorem arx{r:R2}(hr:IxR X r)(ha:PE X a ta)(hb:PE X b tb)(hs:aeL b):PE X (.Subscript a b pos) (tOp r ta tb):=by
 intro pins s σ H Q I h
 exact Subscript_ (apR ha hb I h fun v u s2 x y H2 I2 rx ry q=>hr a b pins s2 σ H2 x y v u Q I2 rx ry q (hs _ _))
noncomputable def atB(K:PySem.W.Frag):R2:=fun x y H Q=>∃p xs i v,x=.ref p∧y=.int i∧SqL K H p xs∧atI xs i=some v∧Q v H
noncomputable def at0(K:PySem.W.Frag):R2:=fun x y H Q=>∃p xs i v,x=.ref p∧y=.int i∧SqT K H p xs∧atI xs i=some v∧Q v H
noncomputable def asV:R2:=fun x y H Q=>∃z i c,x=.str z∧y=.int i∧z.length≤sizeLine∧atI z.cps.toList i=some c∧Q (.str ⟨#[c]⟩) H
theorem akz:IxR X (atB X.K):=by
 intro value slice pins s σ H x y v u Q I rx ry h hs
 obtain⟨p,xs,i,z,rfl,rfl,hq,he,q⟩:=h
 cases rx
 obtain⟨t,rfl⟩:=ry
 obtain⟨its,r,pl,hz⟩:=I.list hq
 obtain⟨j,h1,h2,h3,h4,h5⟩:=aeW he
 obtain⟨w,ew,rw'⟩:=r.get h2
 have hl:=r.length
 have hn:=adq
 have fin:EP X pins σ Q w s:=⟨z,H,I,rw',q⟩
 by_cases h0:0≤i
 ·have hj:i.toNat=j:=by
   rw[seqIndex_of h0 h5]at h1
   exact Option.some.inj h1
  exact item_listR pl.isList h0 (by omega) (by rw[hj];simpa using ew) fin hs
 ·have hj:(i+(its.toArray.size:Int)).toNat=j:=by
   rw[seqIndex_neg (by omega) h4]at h1
   rw[List.size_toArray,←hl]
   exact Option.some.inj h1
  exact subscriptTail_builtinR (x:=w) pl.isList.typeIs slot_list_getitem.lookup
   (wpAny_getItem_list_neg (Q:=fun r s'=>r=w∧EP X pins σ Q r s') pl.isList (by omega) (by rw[List.size_toArray]<;>omega) (by omega) (by rw[hj];simpa using ew) ⟨rfl,fin⟩) hs
theorem anq:IxR X (at0 X.K):=by
 intro value slice pins s σ H x y v u Q I rx ry h hs
 obtain⟨p,xs,i,z,rfl,rfl,hq,he,q⟩:=h
 cases rx
 obtain⟨t,rfl⟩:=ry
 obtain⟨its,r,pl,hz⟩:=I.tuple hq
 obtain⟨j,h1,h2,h3,h4,h5⟩:=aeW he
 obtain⟨w,ew,rw'⟩:=r.get h2
 have hl:=r.length
 have hn:=adq
 have fin:EP X pins σ Q w s:=⟨z,H,I,rw',q⟩
 exact subscriptTail_builtinR (x:=w) pl.typeIs slot_tuple_getitem.lookup
  (getItem_tuple (j:=j) (Q:=fun r s'=>r=w∧EP X pins σ Q r s') pl (by omega) (by omega) (by rw[List.size_toArray,←hl];exact h1) (by simpa using ew) ⟨rfl,fin⟩) hs
theorem am4:IxR X asV:=by
 intro value slice pins s σ H x y v u Q I rx ry h hs
 obtain⟨z,i,c,rfl,rfl,hz,he,q⟩:=h
 obtain⟨t,rfl⟩:=rx
 obtain⟨t',rfl⟩:=ry
 obtain⟨j,h1,h2,h3,h4,h5⟩:=aeW he
 have hl:z.cps.toList.length=z.length:=by simp[Str.length]
 rw[hl]at h1 h4 h5
 have hn:=adq
 exact tail_any (typeIs_str s z t) slot_str_getitem.lookup (getItem_str (c:=c) (by
  have e1:decide (i < -(2^63:Int))=false:=decide_eq_false (by omega)
  have e2:decide (i≥2^63)=false:=decide_eq_false (by omega)
  rw[e1,e2,Bool.or_false]) (by rw[h1];simpa using h2) ⟨.str ⟨#[c]⟩,H,I.tok _,⟨_,rfl⟩,q⟩) hs
noncomputable def rIx(K:PySem.W.Frag):R2:=fun x y H Q=>atB K x y H Q∨at0 K x y H Q∨asV x y H Q
theorem an1:IxR X (rIx X.K):=akz.or (anq.or am4)
theorem afK(its:List Value)(n j:Nat)(u:Value):Obj.mapSeq (·.setIfInBounds j u) { cls:=.type "list",data:=.seq its.toArray n }={ cls:=.type "list",data:=.seq (its.set j u).toArray n }:=by
 simp[Obj.mapSeq]
theorem Inv.lst{pins:List (Addr×Obj)}{σ:St}{H:Hp}{s:Shared}{p:Addr}{xs:List V}(I:Inv X pins σ H s)(h:H p=some (.lst xs)):
  ∃(its:List Value) (n:Nat),aa7 xs its∧s.heap.get? p=some { cls:=.type "list",data:=.seq its.toArray n }∧xs.length≤sizeLine:=by
 obtain⟨z,its,n,r,e⟩:=I.hok p _ h
 exact⟨its,n,r,e,z⟩
theorem Inv.lstUpd{pins:List (Addr×Obj)}{σ:St}{H:Hp}{s:Shared}{p:Addr}{xs ys:List V}{its its':List Value}{n n':Nat}{f:Obj→Obj}(I:Inv X pins σ H s)(h:H p=some (.lst xs))
  (ho:s.heap.get? p=some { cls:=.type "list",data:=.seq its.toArray n }) (hf:f { cls:=.type "list",data:=.seq its.toArray n }={ cls:=.type "list",data:=.seq its'.toArray n' }) (r:aa7 ys its') (hz:ys.length≤sizeLine) (t:Nat):
  Inv X pins σ (upd H p (.lst ys)) { s with heap:=s.heap.update p f,toks:=t }:=by
 have e:(s.heap.update p f).get? p=some { cls:=.type "list",data:=.seq its'.toArray n' }:=by
  rw[Heap.get?_update_self f ho (by rw[hf]<;>rfl),hf]
 refine I.write (x:=p) (e:=p) (by rw[h];trivial) (.inl rfl) (fun b u hb q=>(Heap.get?_update_other _ _ (Ne.symm hb)).trans q) ⟨_,e⟩ ?_
 exact⟨hz,its',n',r,e⟩
noncomputable def ape:V→V→V→Hp→(Hp→Prop)→Prop:=fun o i v H Q=>∃p xs k j,o=.ref p∧i=.int k∧H p=some (.lst xs)∧ixN xs.length k=some j∧Q (upd H p (.lst (xs.set j v)))
theorem aiC:atP X ape:=by
 intro pins s σ H o i v ov iv u Q I ro ri rv h
 obtain⟨p,xs,k,j,rfl,rfl,hp,hj,q⟩:=h
 cases ro
 obtain⟨t,rfl⟩:=ri
 obtain⟨its,n,r,ho,hz⟩:=I.lst hp
 obtain⟨h1,h2,h3,h4⟩:=ahw hj
 have hl:=r.length
 have hn:=adq
 have I':Inv X pins σ (upd H p (.lst (xs.set j v))) { s with heap:=s.heap.update p (Obj.mapSeq (·.setIfInBounds j u)) }:=
  I.lstUpd hp ho (afK its n j u) (r.set rv j) (by rw[List.length_set];exact hz) s.toks
 by_cases h0:0≤k
 ·have hk:k.toNat=j:=by
   rw[seqIndex_of h0 h4]at h1
   exact Option.some.inj h1
  exact PySem.W.ki_setAt ho h0 (by omega) (by rw[List.size_toArray,←hl];exact h4) (by rw[hk];exact⟨_,I',q⟩)
 ·have hk:(k+(its.toArray.size:Int)).toNat=j:=by
   rw[seqIndex_neg (by omega) h3]at h1
   rw[List.size_toArray,←hl]
   exact Option.some.inj h1
  exact PySem.W.ki_setBack ho (by omega) (by rw[List.size_toArray,←hl];exact h3) (by omega) (by rw[hk];exact⟨_,I',q⟩)
theorem adY(lo hi:Option Int)(n:Nat):(sliceBounds lo hi none n).1=((HT.sIx n 0 lo:Nat):Int)∧(sliceBounds lo hi none n).2.1=((HT.sIx n n hi:Nat):Int)∧(sliceBounds lo hi none n).2.2=1:=by
 refine⟨?_,?_,rfl⟩
 ·cases lo with
  | none=>simp[sliceBounds,HT.sIx]
  | some i=>
   simp only[sliceBounds,HT.sIx,Option.getD_none,show(1:Int)>0 by decide,if_true]
   by_cases h:i<0
   ·simp only[h,if_true]<;>omega
   ·simp only[h,if_false]<;>omega
 ·cases hi with
  | none=>simp[sliceBounds,HT.sIx]
  | some i=>
   simp only[sliceBounds,HT.sIx,Option.getD_none,show(1:Int)>0 by decide,if_true]
   by_cases h:i<0
   ·simp only[h,if_true]<;>omega
   ·simp only[h,if_false]<;>omega
theorem adJ(its:List Value)(lo hi:Option Int):slicePick its.toArray lo hi none=((its.drop (HT.sIx its.length 0 lo)).take (HT.sIx its.length its.length hi-HT.sIx its.length 0 lo)).toArray:=by
 obtain⟨h1,h2,h3⟩:=adY lo hi its.toArray.size
 unfold slicePick
 rw[h1,h2,h3]
 simp only[sliceRange_one,pick_run,List.size_toArray]<;>rfl
noncomputable def auo(K:PySem.W.Frag):V→Option Int→Option Int→Hp→VK→Prop:=fun x lo hi H Q=>∃a xs,x=.ref a∧SqL K H a xs∧∀p,H p=none→Q (.ref p) (upd H p (.lst (ajr xs lo hi)))
theorem akV:SlR X (auo X.K):=by
 intro pins s σ H x v vl vu lo hi sl Q I rx hs pl pu h
 obtain⟨a,xs,rfl,hx,q⟩:=h
 cases rx
 obtain⟨its,r,ht,hz⟩:=I.list hx
 have hlen:=r.length
 refine⟨"list",_,slot_list_getitem.lookup,ht.isList.typeIs,?_⟩
 refine wpAny_getItem_list_slice ht.isList hs pl pu .none (by simp) ?_ (by rw[List.size_toArray]<;>omega)
 rw[adJ,←hlen]
 refine⟨.ref s.heap.objs.size,_,I.laid (t':=s.toks) (o:=.lst (ajr xs lo hi)) (fun b ob q=>Heap.get?_push_of_some _ q) (Nat.le_refl _) ?_,rfl,q _ (I.hok.fresh (Nat.le_refl _))⟩
 exact⟨Nat.le_trans (acG xs lo hi) hz,_,0,(r.drop (HT.sIx xs.length 0 lo)).take (HT.sIx xs.length xs.length hi-HT.sIx xs.length 0 lo),Heap.get?_push_size _ rfl⟩
theorem ael:aaM X (.builtin "len") (fun xs H Q=>∃p ys,xs=[.ref p]∧(SqL X.K H p ys∨SqT X.K H p ys)∧Q (.int ys.length) H):=by
 intro pins s σ H xs us Q I r h
 obtain⟨p,ys,rfl,hq,q⟩:=h
 obtain⟨u,rfl,rx⟩:=ak4 r
 cases rx
 have hn:=adq
 rcases hq with hq|hq
 ·obtain⟨its,r',pl,hz⟩:=I.list hq
  have hlen:=r'.length
  exact Calls.call_len_list pl.isList (by simp only[List.size_toArray]<;>omega) ⟨.int ys.length,H,I.tok _,⟨s.toks+1,by rw[List.size_toArray,hlen]⟩,q⟩
 ·obtain⟨its,r',pl,hz⟩:=I.tuple hq
  have hlen:=r'.length
  exact len_tuple pl (by simp only[List.size_toArray]<;>omega) ⟨.int ys.length,H,I.tok _,⟨s.toks+1,by rw[List.size_toArray,hlen]⟩,q⟩
theorem aaM.or{f:Value}{r r':List V→Hp→VK→Prop}(h:aaM X f r)(h':aaM X f r'):aaM X f (fun xs H Q=>r xs H Q∨r' xs H Q):=by
 intro pins s σ H xs us Q I rs q
 rcases q with q|q
 ·exact h pins s σ H xs us Q I rs q
 ·exact h' pins s σ H xs us Q I rs q
theorem aee:aaM X (.type "list") (fun xs H Q=>∃p ys,xs=[.ref p]∧(SqL X.K H p ys∨SqT X.K H p ys)∧∀l,H l=none→Q (.ref l) (upd H l (.lst ys))):=by
 intro pins s σ H xs us Q I r h
 obtain⟨p,ys,rfl,hq,q⟩:=h
 obtain⟨u,rfl,rx⟩:=ak4 r
 cases rx
 have fin:∀(its:List Value),aa7 ys its→ys.length≤sizeLine→∀(h':Heap) (c':Nat),(∀b o',s.heap.get? b=some o'→h'.get? b=some o')→
   h'.get? s.heap.objs.size=some { cls:=.type "list",dict:=none,data:=.seq its.toArray c',slots:=#[] }→EP X pins σ Q (.ref s.heap.objs.size) { s with heap:=h' }:=fun its r' hz h' c' kp e=>
  ⟨.ref s.heap.objs.size,_,I.laid (t':=s.toks) kp (Nat.le_refl _) (show abr X.prog X.w _ h' _ (.lst ys)from⟨hz,its,c',r',e⟩),rfl,q _ (I.hok.fresh (Nat.le_refl _))⟩
 rcases hq with hq|hq
 ·obtain⟨its,r',pl,hz⟩:=I.list hq
  have hlen:=r'.length
  obtain⟨o,ho,hc,n,hd⟩:=pl.isList
  exact call_list_seq p (.inl rfl) ho hc hd (fun h' c' kp e=>fin its r' hz h' c' kp e) (by simp only[List.size_toArray]<;>omega)
 ·obtain⟨its,r',pl,hz⟩:=I.tuple hq
  have hlen:=r'.length
  obtain⟨o,ho,hc,n,hd⟩:=pl
  exact call_list_seq p (.inr rfl) ho hc hd (fun h' c' kp e=>fin its r' hz h' c' kp e) (by simp only[List.size_toArray]<;>omega)
noncomputable def tyV(K:PySem.W.Frag)(T:String)(x:V)(H:Hp):Prop:=match x with
 | .str _=>T="str"
 | .int _=>T="int"
 | .ref p=>(T="list"∧∃xs,SqL K H p xs)∨(T="tuple"∧∃o,K.lookup p=some o∧o.cls=.type "tuple"∧o.dict=none)∨
   (T="dict"∧((∃kvs,H p=some (.dK kvs))∨∃kvs,H p=some (.dT kvs)))∨(T="set"∧∃S n,H p=some (.set S n))
 | _=>False
theorem alE{pins:List (Addr×Obj)}{σ:St}{H:Hp}{s:Shared}{T:String}{x:V}{v:Value}(I:Inv X pins σ H s)(r:aaJ x v)(ty:tyV X.K T x H):
  s.TypeIs v T∧∀a,v=.ref a→∃ob,s.heap.get? a=some ob∧ob.dict=none:=by
 cases x with
 | str z=>
  obtain⟨t,rfl⟩:=r
  cases(show T="str" from ty)
  exact⟨typeIs_str s z t,fun _ e=>nomatch e⟩
 | int i=>
  obtain⟨t,rfl⟩:=r
  cases(show T="int" from ty)
  exact⟨typeIs_int s i t,fun _ e=>nomatch e⟩
 | ref p=>
  cases r
  rcases ty with⟨rfl,xs,hq⟩|⟨rfl,o,hk,hc,hd⟩|⟨rfl,hk⟩|⟨rfl,S,n,hk⟩
  ·obtain⟨its,_,pl,_⟩:=I.list hq
   refine⟨pl.isList.typeIs,fun a e=>?_⟩
   cases e
   obtain⟨o,n,e,c,hd,_⟩:=pl
   exact⟨o,e,hd⟩
  ·refine⟨⟨o,I.kIn p o hk,hc⟩,fun a e=>?_⟩
   cases e
   exact⟨o,I.kIn _ o hk,hd⟩
  ·have z:∃o,s.heap.get? p=some o∧o.ExactDict:=by
    rcases hk with⟨kvs,hk⟩|⟨kvs,hk⟩
    ·obtain⟨_,_,_,_,o,_,_,e,ex,_⟩:=I.hok p _ hk
     exact⟨o,e,ex⟩
    ·obtain⟨_,_,_,_,o,_,_,e,ex,_⟩:=I.hok p _ hk
     exact⟨o,e,ex⟩
   obtain⟨o,e,ex⟩:=z
   refine⟨⟨o,e,ex.1⟩,fun a e2=>?_⟩
   cases e2
   exact⟨o,e,ex.2.1⟩
  ·obtain⟨o,_,_,_,e,ex,_⟩:=I.hok p _ hk
   refine⟨⟨o,e,ex.1⟩,fun a e2=>?_⟩
   cases e2
   exact⟨o,e,ex.2.1⟩
 | _=>exact False.elim ty
noncomputable def tBM(K:PySem.W.Frag)(T:String)(r:V→List V→Hp→VK→Prop)(to:TE)(t:TA):TE:=fun σ H Q=>to σ H fun x H1=>tyV K T x H1∧t σ H1 fun xs H2=>r x xs H2 Q
variable{o e:Expr}{es:List Expr}{to:TE}{t:TA}{name:Str}{apos cpos:Pos}{T id:String}{r:V→List V→Hp→VK→Prop}
theorem apV(pa:PlainAttrs T)(slot:Slot T name id)(hty:typeOf (.builtin id)=pure (.type "method_descriptor"))(hm:MtR X id r)(ho:PE X o to)(ha:PA X (e::es) t)
  (hbase:attributeBase o name X.env (eval o X.env)=eval o X.env:=by rfl)
  (hfew:((backTo cpos (starEach (e::es) X.env)).all (fun x=>!x.1)&&(backToKw cpos (keywordEach [] X.env)).all (fun x=>x.1.isSome)
   && decide ((e::es).length+([]:List Keyword).length+(if([]:List Keyword).isEmpty then 0 else 1)<30))=true:=by rfl)
  (hline:(apos.endLine==cpos.line)=true:=by rfl) (hs:starEach (e::es) X.env=(false,eval e X.env)::starEach es X.env:=by rfl) (hplain:(backTo cpos (starEach es X.env)).any (·.1)=false:=by rfl):
  PE X (.Call (.Attribute o name apos) (e::es) [] cpos) (tBM X.K T r to t):=by
 intro pins s σ H Q I h
 refine wpAny_Call_method_late hbase hfew hline rfl (thn (ho pins s σ H _ I h) fun v s1 ⟨x,H1,I1,r1,ty,q1⟩=>?_)
 obtain⟨h1,h2⟩:=alE I1 r1 ty
 refine⟨T,id,pa,slot,hty,h1,h2,?_⟩
 have hA:=ha cpos pins s1 σ H1 _ I1 q1
 rw[hs]at hA ⊢
 refine Calls.callWith_builtin (by show(false||(backTo cpos (starEach es X.env)).any (·.1))=false;rw[hplain]<;>rfl) (Calls.evalArgs_plain ?_)
 exact thn hA fun us s2 ⟨vs,H2,I2,r2,q2⟩=>hm pins s2 σ H2 x vs v us Q I2 r1 r2 q2
end
end L2
namespace L2
open PySem PySem.Spec PyProof.Rows
noncomputable def MtM(X:Cx)(id:String)(r:V→List V→Hp→VK→Prop):Prop:=
 ∀(pins:List (Addr×Obj)) (s:Shared) (σ:St) (H:Hp) (x:V) (xs:List V) (v:Value) (us:List Value) (Q:VK),Inv X pins σ H s→aaJ x v→aa7 xs us→r x xs H Q→
  wpAny (model X.prog X.w) X.A (call (.builtin id) (v::us)) (EP X pins σ Q) X.xe s
theorem aa7.one:∀{x:V}{us:List Value},aa7 [x] us→∃u,us=[u]∧aaJ x u
 | _,_,.cons r .nil=>⟨_,rfl,r⟩
theorem aa7.two:∀{x y:V}{us:List Value},aa7 [x,y] us→∃u v,us=[u,v]∧aaJ x u∧aaJ y v
 | _,_,_,.cons r (.cons q .nil)=>⟨_,_,rfl,r,q⟩
theorem aa7.zero:∀{us:List Value},aa7 [] us→us=[]
 | _,.nil=>rfl
theorem aa7.dropLast{xs:List V}{us:List Value}(h:aa7 xs us):aa7 xs.dropLast us.dropLast:=by
 induction h with
 | nil=>exact .nil
 | cons r t ih=>
  cases t with
  | nil=>exact .nil
  | cons q t'=>exact .cons r ih
theorem aa7.reverse{xs:List V}{us:List Value}(h:aa7 xs us):aa7 xs.reverse us.reverse:=by
 induction h with
 | nil=>exact .nil
 | cons r t ih=>rw[List.reverse_cons,List.reverse_cons];exact aa7.append ih (.cons r .nil)
section
variable{X:Cx}{pins:List (Addr×Obj)}{σ:St}{H:Hp}{s:Shared}{l b:Addr}{xs ys zs:List V}
theorem Inv.lset{its its':List Value}{n:Nat}{f:Array Value→Array Value}{t':Nat}(I:Inv X pins σ H s)(hH:H l=some (.lst xs))
  (e:s.heap.get? l=some { cls:=.type "list",data:=.seq its.toArray n }) (hf:f its.toArray=its'.toArray) (hv:aa7 ys its') (hz:ys.length≤sizeLine):
  Inv X pins σ (upd H l (.lst ys)) { s with heap:=s.heap.update l (Obj.mapSeq f),toks:=t' }:=by
 have q:=PySem.IsL.update e f
 rw[hf]at q
 refine I.write (x:=l) (e:=l) (by rw[hH];exact trivial) (.inl rfl) (fun b' u hb hu=>(Heap.get?_update_other s.heap (Obj.mapSeq f) (Ne.symm hb)).trans hu) ⟨_,q⟩ ?_
 exact⟨hz,its',_,hv,q⟩
theorem Inv.lnew{its:List Value}{t':Nat}(I:Inv X pins σ H s)(hv:aa7 ys its)(hz:ys.length≤sizeLine):
  Inv X pins σ (upd H s.heap.objs.size (.lst ys)) { s with heap:=s.heap.push { cls:=.type "list",data:=.seq its.toArray },toks:=t' }:=
 I.laid (fun _ _ q=>Heap.get?_push_of_some _ q) (Nat.le_refl _) ⟨hz,its,0,hv,Heap.get?_push_size _ rfl⟩
theorem Inv.fresh(I:Inv X pins σ H s):H s.heap.objs.size=none:=I.hok.fresh (Nat.le_refl _)
theorem Inv.lstM(I:Inv X pins σ H s)(hH:H l=some (.lst xs)):xs.length≤sizeLine∧∃(its:List Value) (n:Nat),aa7 xs its∧xs.length=its.length∧s.heap.get? l=some { cls:=.type "list",data:=.seq its.toArray n }:=by
 obtain⟨z,its,n,r,e⟩:=I.hok l _ hH
 exact⟨z,its,n,r,r.length,e⟩
end
section
variable{X:Cx}
noncomputable def alj:V→List V→Hp→VK→Prop:=fun x vs H Q=>∃l xs y,x=.ref l∧vs=[y]∧H l=some (.lst xs)∧xs.length<sizeLine∧Q .non (upd H l (.lst (xs++[y])))
theorem aew:MtM X "list.append" alj:=by
 intro pins s σ H x vs v us Q I rx rv h
 obtain⟨l,xs,y,rfl,rfl,hH,hz,q⟩:=h
 cases rx
 obtain⟨u,rfl,ru⟩:=rv.one
 obtain⟨z,its,n,r,hl,e⟩:=I.lstM hH
 refine call_meets F.slot_list_append ⟨_,e,rfl⟩ F.entry_list_append (F.args_list_append_2 _ _) (PySem.list_append l its.toArray n u (by rw[List.size_toArray];omega)) ⟨e,?_⟩
 refine⟨.non,_,I.lset (its':=its++[u]) hH e (by simp) (r.append (.cons ru .nil)) ?_,rfl,q⟩
 rw[List.length_append,List.length_singleton]
 omega
end
section
variable{prog:Program}{w:World}{A:Around}{E:Value→Shared→Prop}{s:Shared}
end
section
variable{X:Cx}
end
end L2
namespace Att
open PySem PySem.W PySem.Calls PyProof.Rows
theorem acN{P:Params}{h:Heap}:∀(ns:List Int) (vs:List Value),WellAll P h vs (ns.map WData.int)→IntsAre vs ns:=by
 intro ns
 induction ns with
 | nil=>
  intro vs w
  rw[List.map_nil]at w
  cases w
  exact .nil
 | cons n ns ih=>
  intro vs w
  rw[List.map_cons]at w
  cases w with
  | cons a b=>
   cases a
   exact .cons _ _ (ih _ b)
theorem ahg{l:OpenLaw}{n:Nat}(hn:l.most=some n){P:Params}{h:Heap}{args:List WData}{vals:List Value}
  (hpre:l.row.toRowW.claim.pre args=true) (hwl:WellAll P h vals args):
  ∃a vs ns,vals=[Value.ref a]∧args=[WData.list (ns.map WData.int)]∧h.get? a=some { cls:=.type "list",data:=.seq vs.toArray }∧IntsAre vs ns∧ns.length≤n:=by
 have hsh:WShape.hasAll [] args [.list .int]=true:=(pre_splitW hpre).1
 have hc:l.pre.holds [] { args:=args }=true:=(pre_splitW hpre).2
 obtain⟨d,r,rfl,h1,h2⟩:=hasAllW_cons hsh
 obtain rfl:=hasAllW_nil h2
 obtain⟨xs,rfl,h3⟩:=hasW_list h1
 obtain⟨ns,rfl⟩:=items_int h3
 have hlen:ns.length≤n:=by
  unfold OpenLaw.pre at hc
  have h4:(WTm.not (.lt (.lit (.int (n:Int))) (.len (.arg 0)))).holds [] { args:=[.list (ns.map .int)] }=true:=by
   have h4:=(holds_andW hc).1
   rw[hn]at h4
   exact h4
  have h5:=condW_of h4 (w_not (w_lt w_lit (w_len_list (w_arg rfl))))
  rw[List.length_map]at h5
  refine Nat.le_of_not_lt fun q=>?_
  have q':(n:Int)<((ns.length:Nat):Int):=by omega
  first
   | (rw[decide_eq_true q']at h5;exact absurd h5 (by decide))
   | (simp at h5;omega)
 cases hwl with
 | cons w1 w2=>
  cases w2
  cases w1 with
  | list ho hall=>exact⟨_,_,ns,rfl,rfl,ho,acN ns _ hall,hlen⟩
theorem agP(l:OpenLaw)(args:List WData):l.row.toRowW.claim.post args (.bool true) args=true:=
 postW_of (r:=l.row.toRowW) (X:=(true==true))
  (show WShape.has [] (.bool true) .bool=true by first|rfl|decide|simp[WShape.has,WShape.arms,WShape.armsAll])
  (show(WTm.eq .res (.lit (.bool true))).value [] { args:=args,res:=some (.bool true),after:=args }=some (.bool (true==true))from w_eq_bool (w_res rfl) w_lit) rfl
theorem attach_call{l:OpenLaw}{n:Nat}{q:Program}{loose:List Str}{XP:(Str→Option Value)→Heap→Prop}{YP:World→Heap→Prop}{d:DefRec}
  (hn:l.most=some n) (hdf:d.params.defaults=[])
  (call:∀(w:World) (s₀ s₁:Shared) (mg mb:Str→Option Value) (fa:Addr) (o:Obj) (pm cd doc:Value) (a:Addr) (vs:List Value) (ns:List Int),
   Ground q loose [] XP w s₀ mg mb s₁.heap→YP w s₁.heap→
   s₁.heap.get? fa=some o→o.data=.func (docDef d.name d.params d.body d.scope pm cd doc)→s₁.heap.CodeRec cd d.name→mg d.name=some (.ref fa)→
   s₁.heap.get? a=some { cls:=.type "list",data:=.seq vs.toArray }→IntsAre vs ns→ns.length≤n→s₁.gens=#[]→
   codeAny (model l.prog w) callerA (.call (.ref fa) ⟨[.ref a],[]⟩) (fun r s'=>r=.ok (.ret (.bool true))∧OldK s₁.heap s'.heap∧s'.os=s₁.os∧AllBare s'.gens) s₁):
  WalkO q loose XP YP l.row.toRowW d [] (fun f vs=>PySem.call f vs):=by
 intro w s₀ s₁ mg mb G Y fa o pm cd doc dV kV ho hd hcd hD hmg hg args vals as hpre hlay hrd hwl hlo
 obtain rfl:dV=.none:=Dflts.none hD hdf
 obtain rfl:kV=.none:=Dflts.noKw hD
 obtain⟨a,vs,ns,rfl,rfl,hobj,hints,hlen⟩:=ahg hn hpre hwl
 refine enter_call (codeAny_mono (call w s₀ s₁ mg mb fa o pm cd doc a vs ns G Y ho (fd_plain hd) hcd hmg hobj hints hlen hg) fun r s' hq=>?_)
 obtain⟨rfl,h2,h3,h4⟩:=hq
 exact⟨.inl ⟨.bool true,.bool true,[],rfl,fun _=>rfl,.bool true,agP l _,fun _=>⟨List.Pairwise.nil,fun _ hm=>(nomatch hm)⟩⟩,h2,h3,h4⟩
section
variable{prog:Program}{w:World}{A:Around}{E:Value→Shared→Prop}{s:Shared}{K:Frag}
noncomputable def asU(h:Heap)(L d:Addr):List (Addr×Obj):=(List.range h.objs.size).filterMap fun a=>if a=L∨a=d then none else(h.get? a).map fun o=>(a,o)
end
end Att
namespace L2
open PySem PySem.Spec PyProof.Rows
theorem aeo:∀{vs:List Value}{ns:List Int},IntsAre vs ns→aa7 (ns.map V.int) vs
 | _,_,.nil=>.nil
 | _,_,.cons n t h=>.cons ⟨t,rfl⟩ (aeo h)
noncomputable def api(H:Hp):Prop:=∀b,H b=none∨∃o xs,H b=some (.frz o (.lst xs))
theorem ahP{P:Program}{w:World}{K:PySem.W.Frag}{mg mb:Str→Option Value}{CX:CXT}{k:Nat}{fa a:Addr}{fd:FuncData}{x:Str}{sp:Sp}{s₁:Shared}{vs:List Value}{ns:List Int}
  (KX:K.In s₁.heap) (hns:s₁.heap.Ns mainGlobals mg) (hb:s₁.heap.Ns builtinsNs mb) (hbb:∀x:Str,x≠"__name__"→mb x=bootBuiltins x) (hlim:s₁.heap.NoLimit) (hg:s₁.gens=#[])
  (ha:s₁.heap.get? a=some { cls:=.type "list",data:=.seq vs.toArray }) (hi:IntsAre vs ns) (hl:ns.length≤sizeLine) (hr:Room k callerA)
  (F:∀base:Heap,K.In base→base.Ns mainGlobals mg→FnOk P w K mg base CX k fa fd [x] sp) (hbind:∀(s:Shared) (u:Value),BindsTo s fd ⟨[u],[]⟩ [(x,u)])
  (hsp:∀H:Hp,api H→SqL K H a (ns.map V.int)→sp [.ref a] H (fun v _=>v=.bl true) fun _ _ _=>False)
  (hCX:∀H e s',CX [] H s₁ (fun _ _ _=>False) e s'→False):
  codeAny (model P w) callerA (.call (.ref fa) ⟨[.ref a],[]⟩) (fun r s'=>r=.ok (.ret (.bool true))∧OldK s₁.heap s'.heap∧s'.os=s₁.os∧AllBare s'.gens) s₁:=by
 have rv:=aeo hi
 have lenV:=hi.length
 have core:∀H:Hp,api H→SqL K H a (ns.map V.int)→HOk P w H s₁.heap→(∀b,H b≠none→b=a)→(H a≠none→K.lookup a=none)→
   codeAny (model P w) callerA (.call (.ref fa) ⟨[.ref a],[]⟩) (fun r s'=>r=.ok (.ret (.bool true))∧OldK s₁.heap s'.heap∧s'.os=s₁.os∧AllBare s'.gens) s₁:=by
  intro H hO hS hok hA hK
  have base_of:∀{b:Addr}{o:Obj},s₁.heap.get? b=some o→H b=none→(aiz s₁.heap H).get? b=some o:=fun e n=>aix e n
  have noA:∀{b:Addr}{o:Obj}{es:Array DictEntry}{ep:Nat},s₁.heap.get? b=some o→o.data=.dict es ep→H b=none:=fun {b o es ep} e d=>by
   cases q:H b with
   | none=>rfl
   | some u=>
    have e':b=a:=hA b (by rw[q];simp)
    subst e'
    rw[ha]at e;cases e
    have d':Data.seq vs.toArray _=Data.dict es ep:=d
    cases d'
  have nsK:∀{b:Addr}{m:Str→Option Value},s₁.heap.Ns b m→(aiz s₁.heap H).Ns b m:=fun {b m} ⟨o,es,ep,e,d,r⟩=>⟨o,es,ep,base_of e (noA e d),d,r⟩
  have hKb:K.In (aiz s₁.heap H):=fun b o e=>base_of (KX b o e) (by
   cases q:H b with
   | none=>rfl
   | some u=>
    have e':b=a:=hA b (by rw[q];simp)
    subst e'
    rw[hK (by rw[q];simp)]at e;cases e)
  have hM:Mod K mg (aiz s₁.heap H):=⟨hKb,nsK hns,⟨mb,nsK hb,hbb⟩,let ⟨mc,h1,h2⟩:=hlim;⟨mc,nsK h1,h2⟩⟩
  have e0:Env0 P w K mg (aiz s₁.heap H) callerA [] s₁ H:=⟨rfl,hM,fun b o e=>akL e,Nat.le_of_eq (aho _ _),trivial,fun b hb=>absurd (show b∈([]:List Addr)from hb) (by simp),hok,.of_eq hg⟩
  refine codeAny_mono ((F _ hKb (nsK hns)).run callerA [] s₁ H ⟨[.ref a],[]⟩ [.ref a] [.ref a] _ _ hr e0 (hbind s₁ (.ref a)) (.cons rfl .nil) (hsp H hO hS)) fun r s' h=>?_
  cases r with
  | error e=>exact(hCX H e s' h).elim
  | ok fl=>
   cases fl with
   | next=>exact False.elim h
   | brk=>exact False.elim h
   | cont=>exact False.elim h
   | ret u=>
    obtain⟨v,H',os,bare,un,hok',r',q⟩:=h
    have q':v=.bl true:=q
    subst q'
    obtain rfl:u=Value.bool true:=r'
    refine⟨rfl,OldK.of_keep fun b o e=>?_,os,bare⟩
    cases q:H b with
    | none=>exact un.keep b o e q (by intro z;exact absurd (show b∈([]:List Addr)from z) (by simp)) (by simp)
    | some u=>
     rcases hO b with z|⟨ob,xs,z⟩
     ·rw[q]at z;cases z
     ·have z2:=un.frzs b ob _ z
      obtain⟨e1,_⟩:=hok b _ z
      obtain⟨e2,_⟩:=hok' b _ z2
      rw[e]at e1;cases e1
      exact e2
 cases hk:K.lookup a with
 | some o=>
  have e:=KX a o hk
  rw[ha]at e
  cases e
  refine core (fun _=>none) (fun _=>.inl rfl) (.inr ⟨_,vs.toArray,_,hk,rfl,rfl,rfl,by rw[List.size_toArray,lenV];exact hl,by simpa using rv⟩) (fun b u z=>by have z':(none:Option HO)=some u:=z;cases z') (fun b z=>absurd rfl z) fun z=>absurd rfl z
 | none=>
  refine core (fun b=>if b=a then some (.frz { cls:=.type "list",data:=.seq vs.toArray } (.lst (ns.map V.int)))else none) (fun b=>?_) (.inl (.inr ⟨{ cls:=.type "list",data:=.seq vs.toArray },if_pos rfl⟩)) (fun b u z=>?_) (fun b z=>?_) fun _=>hk
  ·by_cases hb:b=a
   ·exact .inr ⟨_,_,if_pos hb⟩
   ·exact .inl (if_neg hb)
  ·by_cases hb:b=a
   ·have z':=(if_pos hb).symm.trans z
    cases z'
    subst hb
    exact⟨ha,by rw[List.length_map];exact hl,vs,_,rv,ha⟩
   ·have z':=(if_neg hb).symm.trans z
    cases z'
  ·by_cases hb:b=a
   ·exact hb
   ·exact absurd (if_neg hb) z
end L2
namespace L2
open PySem PySem.Spec PyProof.Rows
noncomputable abbrev KOf{K:PySem.W.Frag}{h:Heap}(_:K.In h):PySem.W.Frag:=K
theorem walk_of{l:PySem.W.OpenLaw}{n k:Nat}{q:Program}{loose:List Str}{XP:(Str→Option Value)→Heap→Prop}{YP:World→Heap→Prop}{d:DefRec}{K:Params→PySem.W.Frag}{CX:World→CXT}{sp:World→Sp}{x:Str}
  (hn:l.most=some n) (hn2:n≤sizeLine) (hdf:d.params.defaults=[]) (hr:Room k callerA)
  (hY:∀(w:World) (h:Heap),YP w h→(K w.params).In h)
  (F:∀(w:World) (mg:Str→Option Value) (fa:Addr) (h:Heap),(K w.params).In h→h.Ns mainGlobals mg→mg d.name=some (.ref fa)→
   ∃fd:FuncData,(∀(s:Shared) (u:Value),BindsTo s fd ⟨[u],[]⟩ [(x,u)])∧
    ∀base:Heap,(K w.params).In base→base.Ns mainGlobals mg→FnOk l.prog w (K w.params) mg base (CX w) k fa fd [x] (sp w))
  (hsp:∀(w:World) (H:Hp) (a:Addr) (ns:List Int),ns.length≤n→api H→SqL (K w.params) H a (ns.map V.int)→sp w [.ref a] H (fun v _=>v=.bl true) fun _ _ _=>False)
  (hCX:∀(w:World) (H:Hp) (s:Shared) (e:Value) (s':Shared),CX w [] H s (fun _ _ _=>False) e s'→False):
  PySem.W.WalkO q loose XP YP l.row.toRowW d [] (fun f vs=>PySem.call f vs):=by
 refine Att.attach_call hn hdf fun w s₀ s₁ mg mb fa o pm cd doc a vs ns G Y ho hd hcd hmg hobj hints hlen hg=>?_
 have KX:=hY w _ Y
 obtain⟨fd,hb,hF⟩:=F w mg fa _ KX G.T.g hmg
 exact ahP KX G.T.g G.T.b G.T.builtins G.T.nolimit hg hobj hints (Nat.le_trans hlen hn2) hr hF hb (fun H hO hS=>hsp w H a ns hlen hO hS) fun H e s'=>hCX w H s₁ e s'
end L2
namespace L2
open PySem PySem.Spec PyProof.Rows
noncomputable def abn(s:Stmt):Arguments:=match s with
 | .FunctionDef _ a _ _ _ _ _ _ _ _=>a
 | _=>{ posonlyargs:=[],args:=[],vararg:=none,kwonlyargs:=[],kw_defaults:=[],kwarg:=none,defaults:=[] }
noncomputable def aaP(s:Stmt):List Stmt:=match s with
 | .FunctionDef _ _ b _ _ _ _ _ _ _=>b
 | _=>[]
noncomputable def aaf(s:Stmt):Scope:=match s with
 | .FunctionDef _ _ _ _ _ _ sc _ _ _=>sc
 | _=>{ kind:=.function,names:=[],isGenerator:=false,isCoroutine:=false }
noncomputable abbrev CX0:CXT:=fun _ _ _ _ _ _=>False
structure Fun(K:PySem.W.Frag)(x qual:Str)(st:Stmt)(f:Addr)(fd:FuncData):Prop where
 ex:∃(oc:Value) (od:Option Addr) (kV doc pm:Value) (an:Option Addr) (cdv ct:Value) (osl:Array (Option Value)),
  fd=PySem.W.fnOf x qual (abn st) (aaP st) (aaf st) .none kV doc pm an cdv ct∧K.lookup f=some ⟨oc,od,.func fd,osl⟩∧PySem.W.codeIn K cdv qual=true
 kp:PySem.W.keepIn K (.ref f)=true
section
variable{P:Program}{w:World}{K:PySem.W.Frag}{mg:Str→Option Value}{base:Heap}
theorem Fun.ok{x qual:Str}{st:Stmt}{f:Addr}{fd:FuncData}{N ps:List Str}{k:Nat}{sp:Sp}(F:Fun K x qual st f fd)(S:FnScope N ps (aaf st))(len:∀vs H Q E,sp vs H Q E→vs.length=ps.length)
  (hbody:∀(cdv:Value) (A:Around) (outer:List Env) (s:Shared) (H:Hp) (vs:List V) (Q:VK) (E:XK),Room k (A.deeper (envOfC qual (aaf st) s.heap.objs.size f cdv))→sp vs H Q E→
   ∃t,PSs (adP CX0 P w K mg base N qual (aaf st) f cdv A outer s H E).nox (aaP st) t∧t { nx:=fun _ H'=>Q .non H',rt:=Q } (start N vs) H):FnOk P w K mg base CX0 (k+1) f fd ps sp:=by
 obtain⟨oc,od,kV,doc,pm,an,cdv,ct,osl,rfl,lk,hcd⟩:=F.ex
 refine an6 lk hcd S len fun A outer s H vs Q E hr hsp=>?_
 obtain⟨t,h,q⟩:=hbody cdv A outer s H vs Q E hr hsp
 exact⟨t,h.nox,q⟩
theorem Fun.binds{x qual:Str}{st:Stmt}{f:Addr}{fd:FuncData}{ps:List Str}(F:Fun K x qual st f fd)
  (h:∀(kV doc pm:Value) (an:Option Addr) (cdv ct:Value) (us:List Value),us.length=ps.length→bindArgs (PySem.W.fnOf x qual (abn st) (aaP st) (aaf st) .none kV doc pm an cdv ct) ⟨us,[]⟩=pure (ps.zip us)):adD K fd ps []:=by
 obtain⟨oc,od,kV,doc,pm,an,cdv,ct,osl,rfl,lk,hcd⟩:=F.ex
 exact .all (h kV doc pm an cdv ct)
end
section
variable{X:Cx}
theorem pv(i:Nat){x:Str}{pos:Pos}(hN:X.N[i]?=some x:=by rfl)(hv:Vis X.env.scope x:=by first|exact Or.inl rfl|exact Or.inr (Or.inl rfl)|exact Or.inr (Or.inr rfl))(hd:(x==("__debug__":Str))=false:=by decide)
  (hcd:(x==("__classdict__":Str))=false:=by decide):PE X (.Name x pos) (atd i):=aea hN hv hd hcd
end
theorem al5{A B:Prop}(h:B):if false=true then A else B:=by
 rw[if_neg Bool.false_ne_true]
 exact h
theorem alo{A B:Prop}(h:A):if true=true then A else B:=by
 rw[if_pos rfl]
 exact h
noncomputable def ahH(H H':Hp):Prop:=∀b o,H b=some o→H' b=some o
theorem ahH.refl(H:Hp):ahH H H:=fun _ _ h=>h
theorem ahH.trans{H H1 H2:Hp}(a:ahH H H1)(b:ahH H1 H2):ahH H H2:=fun c o h=>b c o (a c o h)
theorem ahH.free{H H':Hp}(e:ahH H H'){l:Addr}(h:H' l=Option.none):H l=Option.none:=by
 cases q:H l with
 | none=>rfl
 | some o=>
  rw[e l o q]at h
  cases h
theorem ahH.seq{K:PySem.W.Frag}{H H':Hp}{a:Addr}{xs:List V}(e:ahH H H')(h:SqL K H a xs):SqL K H' a xs:=by
 rcases h with(h|⟨o,h⟩)|h
 ·exact .inl (.inl (e _ _ h))
 ·exact .inl (.inr ⟨o,e _ _ h⟩)
 ·exact .inr h
end L2
end
section
namespace IP
open PySem (Str)
inductive T where
 | non|bl (b:Bool)|int (i:Int)|str (x:Str)|tup (xs:List T)|lst (xs:List T)|loc (l:Nat)|exc (c:Nat)
 deriving Inhabited
inductive R where
 | val (t:T)|bor (ts:List T)
inductive B where
 | val (t:T)|own (ts:List T)|bor (ts:List T)|lck (ts:List T)
 deriving Inhabited
noncomputable abbrev Fr:=List (Option B)
inductive Cell where
 | lst (ts:List T)|ins (c:Nat) (fs:List (Option T))|tbl (k:Nat) (p:PySem.Pos) (q:PySem.Str)
noncomputable abbrev Sto:=List Cell
inductive Res(α:Type)where
 | stuck|ok (a:α) (s:Sto)|exc (c:Nat) (s:Sto)
noncomputable def Res.bind{α β:Type}(m:Res α)(k:α→Sto→Res β):Res β:=match m with
 | .stuck=>.stuck
 | .ok a s=>k a s
 | .exc c s=>.exc c s
@[simp] theorem Res.bind_ok {α β:Type} (a:α) (s:Sto) (k:α→Sto→Res β):(Res.ok a s).bind k=k a s:=rfl
@[simp] theorem Res.bind_exc {α β:Type} (c:Nat) (s:Sto) (k:α→Sto→Res β):(Res.exc c s:Res α).bind k=.exc c s:=rfl
@[simp] theorem Res.bind_stuck {α β:Type} (k:α→Sto→Res β):(Res.stuck:Res α).bind k=.stuck:=rfl
noncomputable def Res.of{α:Type}(o:Option α)(s:Sto):Res α:=match o with
 | none=>.stuck
 | some a=>.ok a s
@[simp] theorem Res.of_some {α:Type} (a:α) (s:Sto):Res.of (some a) s=.ok a s:=rfl
@[simp] theorem Res.of_none {α:Type} (s:Sto):Res.of (none:Option α) s=.stuck:=rfl
inductive Op where|add|sub|mul|fdiv|mod|pow
inductive Cm where|lt|le|gt|ge|eq|ne|isN|notN|mem|nmem
inductive Bi where|len|abs|int|list|tuple|any|all|min|max|sorted|str
inductive Ty where|int|bool|tuple|list|str|cls(c:Nat)
inductive Tg where|one(i:Nat)|many(is:List Nat)
inductive E where
 | var (i:Nat)
 | cst (t:T)
 | glb (x:Str) (i:Int)
 | bin (o:Op) (a b:E)
 | neg (a:E)
 | not (a:E)
 | cmp (c:Cm) (a b:E)
 | and (a b:E)|or (a b:E)
 | ife (c a b:E)
 | tup (es:List E)|lst (es:List E)
 | sub (a b:E)
 | cutL (a lo:E)|cutU (a hi:E)|cutLU (a lo hi:E)|rev (a:E)
 | b1 (f:Bi) (a:E)
 | mn2 (a b:E)|mx2 (a b:E)
 | mxd (a d:E)|mnd (a d:E)
 | mnk (a:E) (i j l k:Nat) (p:PySem.Pos) (q:Str)|sok (a:E) (i:Nat) (k:E)
 | isi (a:E) (c:Ty)
 | call (f:Nat) (es:List E) (ds:List T)
 | comp (elt:E) (tg:Tg) (it:E)
 | compIf (elt:E) (tg:Tg) (it c:E)
 | rng1 (a:E)|rng2 (a b:E)|enm (a:E)|zip (a b:E)
 | fld (a:E) (c f:Nat)|cell (a:E)|new (c f n:Nat) (es:List E) (ds:List T)|meth (a:E) (c f:Nat) (es:List E) (ds:List T)
 | compC (elt:E) (tg:Tg) (it:E)
 | cmpD (c:Cm) (a b:E)
 deriving Inhabited
inductive S where
 | asg (i:Nat) (e:E)
 | asgT (is:List Nat) (e:E)
 | mk (i:Nat) (e:E)
 | app (i:Nat) (e:E)
 | ext (i:Nat) (e:E)
 | put (i:Nat) (j e:E)
 | pop (k i:Nat)
 | frz (i:Nat)
 | ifs (c:E) (a b:List S)
 | whl (c:E) (b:List S)
 | for_ (tg:Tg) (it:E) (b:List S)
 | ret (e:E)
 | retO (e:E)
 | retV (i:Nat)
 | exp (e:E)
 | raise (c:Nat)
 | putL (a j e:E)|appL (a e:E)|setF (a:E) (c f:Nat) (e:E)|popL (a:E)|clrL (a:E)|forC (tg:Tg) (it:E) (b:List S)
 | try_ (b:List S) (c:Nat) (nm:Option Nat) (h:List S)
 | pass
 deriving Inhabited
noncomputable def eqL(f:T→T→Option Bool):List T→List T→Option Bool
 | [],[]=>some true
 | [],_::_=>some false
 | _::_,[]=>some false
 | a::r,b::q=>match f a b,eqL f r q with
  | some k,some k'=>some (k&&k')
  | _,_=>none
noncomputable def eqD:Nat→T→T→Option Bool
 | _,.non,.non=>some true
 | _,.bl a,.bl b=>some (a==b)
 | _,.int a,.int b=>some (a==b)
 | _,.str a,.str b=>some (a==b)
 | n+1,.tup a,.tup b=>eqL (eqD n) a b
 | n+1,.lst a,.lst b=>eqL (eqD n) a b
 | _,.non,.int _=>some false
 | _,.int _,.non=>some false
 | _+1,.non,.tup _=>some false
 | _+1,.tup _,.non=>some false
 | _,_,_=>none
noncomputable abbrev eqT:T→T→Option Bool:=eqD 8
noncomputable abbrev apb:List T→List T→Option Bool:=eqL (eqD 7)
noncomputable def big:Nat:=10^300
noncomputable def ahG(i j:Int):Bool:=decide (i.natAbs<2^64)||decide (j.natAbs<2^64)||(decide (i.natAbs<big)&&decide (j.natAbs<big))
noncomputable def lim:Nat:=1000000
noncomputable def R.seq:R→Option (List T)
 | .val (.lst ts)=>some ts
 | .bor ts=>some ts
 | _=>none
noncomputable def R.sq2:R→Option (List T)
 | .val (.lst ts)=>some ts
 | .val (.tup ts)=>some ts
 | .bor ts=>some ts
 | _=>none
noncomputable def R.dr(s:Sto):R→R
 | .val (.loc l)=>match s[l]? with
  | some (.lst ts)=>.bor ts
  | _=>.val (.loc l)
 | r=>r
noncomputable def opI:Op→Int→Int→Option Int
 | .add,i,j=>some (i+j)
 | .sub,i,j=>some (i-j)
 | .mul,i,j=>if ahG i j then some (i*j)else none
 | .fdiv,i,j=>if j≠0∧j.natAbs<big then some (Int.fdiv i j)else none
 | .mod,i,j=>if j≠0 then some (Int.fmod i j)else none
 | .pow,i,j=>if 0≤j∧j≤100∧i.natAbs<big then some (i^j.toNat)else none
noncomputable def opR(o:Op)(x y:R):Option R:=match o,x,y with
 | o,.val (.int i),.val (.int j)=>(opI o i j).map fun k=>.val (.int k)
 | .add,.val (.tup xs),.val (.tup ys)=>if xs≠[]∧ys≠[]∧xs.length+ys.length≤lim then some (.val (.tup (xs++ys)))else none
 | .add,x,y=>match x.seq,y.seq with
  | some xs,some ys=>if xs.length+ys.length≤lim then some (.val (.lst (xs++ys)))else none
  | _,_=>none
 | _,_,_=>none
noncomputable def aaX:List T→Option (List Int)
 | []=>some []
 | .int i::r=>(aaX r).map (i::·)
 | _=>none
noncomputable def aeT:List T→Option (List Bool)
 | []=>some []
 | .bl b::r=>(aeT r).map (b::·)
 | _=>none
noncomputable def R.int?:R→Option Int
 | .val (.int i)=>some i
 | _=>none
noncomputable def R.isNon:R→Bool
 | .val .non=>true
 | _=>false
noncomputable def R.tup?:R→Option (List T)
 | .val (.tup ts)=>some ts
 | .val (.lst ts)=>some ts
 | _=>none
noncomputable def R.val?:R→Option T
 | .val t=>some t
 | _=>none
noncomputable def tru:R→Option Bool
 | .val .non=>some false
 | .val (.bl b)=>some b
 | .val (.int i)=>some (i != 0)
 | .val (.lst ts)=>some (!ts.isEmpty)
 | .val (.tup ts)=>some (!ts.isEmpty)
 | .bor ts=>some (!ts.isEmpty)
 | _=>none
noncomputable def eqR:R→R→Option Bool
 | .val a,.val b=>eqT a b
 | .val (.lst a),.bor b=>apb a b
 | .bor a,.val (.lst b)=>apb a b
 | .bor a,.bor b=>apb a b
 | _,_=>none
noncomputable def ajl(x:T):List T→Option Bool
 | []=>some false
 | y::r=>match eqT y x,ajl x r with
  | some k,some k'=>some (k||k')
  | _,_=>none
noncomputable def adc(c:Cm)(x y:R):Option Bool:=match c with
 | .lt=>do let i ←x.int?;let j ←y.int?;some (decide (i<j))
 | .le=>do let i ←x.int?;let j ←y.int?;some (decide (i≤j))
 | .gt=>do let i ←x.int?;let j ←y.int?;some (decide (j<i))
 | .ge=>do let i ←x.int?;let j ←y.int?;some (decide (j≤i))
 | .eq=>eqR x y
 | .ne=>(eqR x y).map (!·)
 | .isN=>match y with
  | .val .non=>some x.isNon
  | _=>none
 | .notN=>match y with
  | .val .non=>some (!x.isNon)
  | _=>none
 | .mem=>do let t ←x.val?;let ts ←y.sq2;ajl t ts
 | .nmem=>do let t ←x.val?;let ts ←y.sq2;(ajl t ts).map (!·)
noncomputable def abE(x:R)(i:Int):Option T:=match x.sq2 with
 | some ts=>L2.atI ts i
 | none=>none
noncomputable def ajR(ts:List T)(lo hi:Option Int):List T:=(ts.drop (HT.sIx ts.length 0 lo)).take (HT.sIx ts.length ts.length hi-HT.sIx ts.length 0 lo)
noncomputable def aiv(x:R)(lo hi:Option Int):Option R:=match x with
 | .val (.tup ts)=>if HT.sIx ts.length 0 lo=0∧HT.sIx ts.length ts.length hi=ts.length then none else some (.val (.tup (ajR ts lo hi)))
 | .val (.lst ts)=>some (.val (.lst (ajR ts lo hi)))
 | .bor ts=>some (.val (.lst (ajR ts lo hi)))
 | _=>none
noncomputable def auz(i j:Nat):T→Option (Int×Int)
 | .tup ts=>match ts[i]?,ts[j]? with
  | some (.int x),some (.int y)=>some (x,y)
  | _,_=>none
 | _=>none
noncomputable def amw(i j:Nat):List T→Option (List (Int×Int))
 | []=>some []
 | t::r=>match auz i j t,amw i j r with
  | some x,some y=>some (x::y)
  | _,_=>none
noncomputable def lt2(a b:Int×Int):Bool:=decide (a.1<b.1)||(decide (a.1=b.1)&&decide (a.2<b.2))
noncomputable def ale:Int×Int→T→List ((Int×Int)×T)→T
 | _,t,[]=>t
 | k,t,(k',t')::r=>if lt2 k' k then ale k' t' r else ale k t r
noncomputable def asp(s:Sto)(l k:Nat)(p:PySem.Pos)(q:Str):Bool:=match s[l]? with
 | some (.tbl k' p' q')=>decide (k'=k)&&decide (p'=p)&&decide (q'=q)
 | _=>false
noncomputable def auX(i j:Nat)(ts:List T):Option T:=match amw i j ts,ts with
 | some (k::ks),t::r=>some (ale k t (ks.zip r))
 | _,_=>none
noncomputable def al2:List Int→Option Int
 | []=>none
 | a::r=>some (r.foldl (fun m x=>if x<m then x else m) a)
noncomputable def alx:List Int→Option Int
 | []=>none
 | a::r=>some (r.foldl (fun m x=>if x>m then x else m) a)
noncomputable def agq(x:Int):List Int→List Int
 | []=>[x]
 | y::r=>if x<y then x::y::r else y::agq x r
noncomputable def ad8(xs:List Int):List Int:=xs.foldl (fun acc x=>agq x acc) []
noncomputable def b1R(f:Bi)(x:R):Option R:=match f with
 | .len=>x.sq2.map fun ts=>.val (.int ts.length)
 | .abs=>x.int?.map fun i=>.val (.int (if i<0 then -i else i))
 | .int=>match x with | .val (.int i)=>some (.val (.int i)) | .val (.bl b)=>some (.val (.int (if b then 1 else 0))) | _=>none
 | .list=>x.sq2.map fun ts=>.val (.lst ts)
 | .tuple=>x.sq2.map fun ts=>.val (.tup ts)
 | .any=>do let ts ←x.seq;let bs ←aeT ts;some (.val (.bl (bs.any id)))
 | .all=>do let ts ←x.seq;let bs ←aeT ts;some (.val (.bl (bs.all id)))
 | .min=>do let ts ←x.seq;let is ←aaX ts;(al2 is).map fun i=>.val (.int i)
 | .max=>do let ts ←x.seq;let is ←aaX ts;(alx is).map fun i=>.val (.int i)
 | .sorted=>do let ts ←x.seq;let is ←aaX ts;if is.length<64 then some (.val (.lst ((ad8 is).map .int)))else none
 | .str=>none
noncomputable def amO(x:R)(c:Ty):Option Bool:=match x,c with
 | .val (.int _),.int=>some true | .val (.bl _),.int=>some true | .val (.tup _),.int=>some false | .val (.lst _),.int=>some false | .val .non,.int=>some false | .bor _,.int=>some false
 | .val (.int _),.bool=>some false | .val (.bl _),.bool=>some true | .val (.tup _),.bool=>some false | .val (.lst _),.bool=>some false | .val .non,.bool=>some false
 | .val (.tup _),.tuple=>some true | .val (.int _),.tuple=>some false | .val (.bl _),.tuple=>some false | .val (.lst _),.tuple=>some false | .val .non,.tuple=>some false
 | .val (.lst _),.list=>some true | .bor _,.list=>some true | .val (.tup _),.list=>some false | .val (.int _),.list=>some false | .val .non,.list=>some false
 | _,_=>none
noncomputable def adQ(sub:Nat→Nat→Bool)(x:R)(c:Ty):Option Bool:=match x,c with
 | .val (.exc d),.cls k=>some (sub d k)
 | x,c=>amO x c
noncomputable def enT:Nat→List T→List T
 | _,[]=>[]
 | n,t::ts=>.tup [.int n,t]::enT (n+1) ts
noncomputable def ziT:List T→List T→List T
 | a::as,b::bs=>.tup [a,b]::ziT as bs
 | _,_=>[]
noncomputable def avs(s:Sto)(x:R)(c f:Nat):Option T:=match x with
 | .val (.loc l)=>match s[l]? with
  | some (.ins d fs)=>if d=c then(fs[f]?).join else none
  | _=>none
 | _=>none
noncomputable def R.locL(s:Sto):R→Option (Nat×List T)
 | .val (.loc l)=>match s[l]? with
  | some (.lst ts)=>some (l,ts)
  | _=>none
 | _=>none
noncomputable def R.locI(s:Sto)(c:Nat):R→Option (Nat×List (Option T))
 | .val (.loc l)=>match s[l]? with
  | some (.ins d fs)=>if d=c then some (l,fs)else none
  | _=>none
 | _=>none
noncomputable def look(σ:Fr)(i:Nat):Option R:=match σ[i]? with
 | some (some (.val t))=>some (.val t)
 | some (some (.own ts))=>some (.bor ts)
 | some (some (.bor ts))=>some (.bor ts)
 | some (some (.lck ts))=>some (.bor ts)
 | _=>none
noncomputable def put(σ:Fr)(i:Nat)(t:T):Fr:=σ.set i (some (.val t))
noncomputable def puts(σ:Fr):List Nat→List T→Option Fr
 | [],[]=>some σ
 | i::is,t::ts=>puts (put σ i t) is ts
 | _,_=>none
noncomputable def aav(σ:Fr)(g:Tg)(t:T):Option Fr:=match g with
 | .one i=>some (put σ i t)
 | .many is=>match t with
  | .tup ts=>puts σ is ts
  | .lst ts=>puts σ is ts
  | _=>none
inductive SR where
 | stuck|next (σ:Fr) (s:Sto)|ret (r:R) (s:Sto)|retO (ts:List T) (s:Sto)|exc (c:Nat) (σ:Fr) (s:Sto)
structure Cf where
 cf:Nat→List R→Sto→Res R
 sub:Nat→Nat→Bool
 fr:Nat→Bool
 wl:(Fr→Sto→Res Bool)→(Fr→Sto→SR)→Fr→Sto→SR
noncomputable def afe:Option T→List T→List T
 | some x,q=>x::q
 | none,q=>q
@[simp] theorem aln (x:T) (q:List T):afe (some x) q=x::q:=rfl
@[simp] theorem agm (q:List T):afe none q=q:=rfl
noncomputable def aa6(f:T→Sto→Res (Option T)):List T→Sto→Res (List T)
 | [],s=>.ok [] s
 | t::ts,s=>(f t s).bind fun r s1=>(aa6 f ts s1).bind fun q s2=>.ok (afe r q) s2
noncomputable def aax(i j:Int):List T:=(List.range (j-i).toNat).map fun(k:Nat)=>T.int (i+k)
noncomputable def bnd(i:Int):Bool:=decide (-(2^62)≤i)&&decide (i<2^62)
inductive Md where|v|t|i|j
noncomputable def R.sq3:R→Option (List T)
 | .val (.lst ts)=>some ts
 | .val (.tup ts)=>some ts
 | _=>none
noncomputable def fin(m:Md)(r:Res R):Res R:=match m with
 | .v=>r
 | .t=>r.bind fun x s=>.of ((tru x).map fun k=>.val (.bl k)) s
 | .i=>r.bind fun x s=>.of (x.sq2.map fun ts=>.val (.lst ts)) s
 | .j=>r.bind fun x s=>.of (x.sq3.map fun ts=>.val (.lst ts)) s
@[simp] theorem aua (r:Res R):fin .v r=r:=rfl
@[simp] theorem avq (r:Res R):fin .t r=r.bind fun x s=>.of ((tru x).map fun k=>.val (.bl k)) s:=rfl
@[simp] theorem avc (r:Res R):fin .j r=r.bind fun x s=>.of (x.sq3.map fun ts=>.val (.lst ts)) s:=rfl
@[simp] theorem aup (r:Res R):fin .i r=r.bind fun x s=>.of (x.sq2.map fun ts=>.val (.lst ts)) s:=rfl
noncomputable def onB(x:R)(a b:Res R):Res R:=match x with
 | .val (.bl true)=>a
 | .val (.bl false)=>b
 | _=>.stuck
noncomputable def onI(x:R)(f:Int→Res R):Res R:=match x with
 | .val (.int i)=>f i
 | _=>.stuck
noncomputable def onL(x:R)(f:List T→Res R):Res R:=match x with
 | .val (.lst ts)=>f ts
 | _=>.stuck
noncomputable def onV(x:R)(f:T→Res (List T)):Res (List T):=match x with
 | .val t=>f t
 | _=>.stuck
noncomputable def one(m:Res R):Res (Option T):=match m with
 | .ok r s=>.of (r.val?.map some) s
 | .exc c s=>.exc c s
 | .stuck=>.stuck
noncomputable def onO{α β:Type}(o:Option α)(f:α→Res β):Res β:=match o with
 | some a=>f a
 | none=>.stuck
noncomputable def onN(x:R)(m:Res R):Res R:=match x with
 | .val .non=>m
 | _=>.stuck
open Classical in
noncomputable def arq{α:Type}(l:Nat)(ts:List T)(m:Res α):Res α:=match m with
 | .ok a s=>if s[l]?=some (.lst ts)then .ok a s else .stuck
 | r=>r
noncomputable def al4(m:Md)(r:Res R):Res R:=match m with | .i=>r | .j=>r | _=>.stuck
mutual
noncomputable def ev(C:Cf):E→Md→Fr→Sto→Res R
 | .var i,m,σ,s=>fin m (.of (look σ i) s)
 | .cst t,m,_,s=>fin m (.ok (.val t) s)
 | .glb _ i,m,_,s=>fin m (.ok (.val (.int i)) s)
 | .bin o a b,m,σ,s=>fin m ((ev C a .v σ s).bind fun x s1=>(ev C b .v σ s1).bind fun y s2=>.of (opR o x y) s2)
 | .neg a,m,σ,s=>fin m ((ev C a .v σ s).bind fun x s1=>.of (x.int?.map fun i=>.val (.int (-i))) s1)
 | .not a,.t,σ,s=>(ev C a .t σ s).bind fun x s1=>onB x (.ok (.val (.bl false)) s1) (.ok (.val (.bl true)) s1)
 | .not a,m,σ,s=>fin m ((ev C a .v σ s).bind fun x s1=>.of ((tru x).map fun k=>.val (.bl (!k))) s1)
 | .cmp c a b,m,σ,s=>fin m ((ev C a .v σ s).bind fun x s1=>(ev C b .v σ s1).bind fun y s2=>.of ((adc c x y).map fun k=>.val (.bl k)) s2)
 | .and a b,.t,σ,s=>(ev C a .t σ s).bind fun x s1=>onB x (ev C b .t σ s1) (.ok (.val (.bl false)) s1)
 | .or a b,.t,σ,s=>(ev C a .t σ s).bind fun x s1=>onB x (.ok (.val (.bl true)) s1) (ev C b .t σ s1)
 | .and a b,m,σ,s=>fin m ((ev C a .v σ s).bind fun x s1=>onB x (ev C b .v σ s1) (.ok (.val (.bl false)) s1))
 | .or a b,m,σ,s=>fin m ((ev C a .v σ s).bind fun x s1=>onB x (.ok (.val (.bl true)) s1) (ev C b .v σ s1))
 | .ife c a b,m,σ,s=>fin m ((ev C c .t σ s).bind fun x s1=>onB x (ev C a .v σ s1) (ev C b .v σ s1))
 | .tup es,m,σ,s=>fin m ((evs C es σ s).bind fun ts s1=>.ok (.val (.tup ts)) s1)
 | .lst es,m,σ,s=>fin m ((evs C es σ s).bind fun ts s1=>.ok (.val (.lst ts)) s1)
 | .sub a b,m,σ,s=>fin m ((ev C a .v σ s).bind fun x s1=>(ev C b .v σ s1).bind fun y s2=>onI y fun i=>.of ((abE (x.dr s2) i).map .val) s2)
 | .cutL a l,m,σ,s=>fin m ((ev C a .v σ s).bind fun x s1=>(ev C l .v σ s1).bind fun y s2=>onI y fun i=>.of (aiv (x.dr s2) (some i) none) s2)
 | .cutU a h,m,σ,s=>fin m ((ev C a .v σ s).bind fun x s1=>(ev C h .v σ s1).bind fun y s2=>onI y fun i=>.of (aiv (x.dr s2) none (some i)) s2)
 | .cutLU a l h,m,σ,s=>fin m ((ev C a .v σ s).bind fun x s1=>(ev C l .v σ s1).bind fun y s2=>onI y fun i=>(ev C h .v σ s2).bind fun z s3=>onI z fun j=>.of (aiv (x.dr s3) (some i) (some j)) s3)
 | .rev a,m,σ,s=>fin m ((ev C a .v σ s).bind fun x s1=>.of (x.seq.map fun ts=>.val (.lst ts.reverse)) s1)
 | .b1 f a,m,σ,s=>fin m ((ev C a .v σ s).bind fun x s1=>.of (b1R f (x.dr s1)) s1)
 | .mn2 a b,m,σ,s=>fin m ((ev C a .v σ s).bind fun x s1=>(ev C b .v σ s1).bind fun y s2=>.of (do let i ←x.int?;let j ←y.int?;some (.val (.int (if j<i then j else i)))) s2)
 | .mx2 a b,m,σ,s=>fin m ((ev C a .v σ s).bind fun x s1=>(ev C b .v σ s1).bind fun y s2=>.of (do let i ←x.int?;let j ←y.int?;some (.val (.int (if j>i then j else i)))) s2)
 | .mxd a d,m,σ,s=>fin m ((ev C a .v σ s).bind fun x s1=>(ev C d .v σ s1).bind fun y s2=>.of (do let ts ←x.seq;let is ←aaX ts;let d ←y.int?;some (.val (.int ((alx is).getD d)))) s2)
 | .mnd a d,m,σ,s=>fin m ((ev C a .v σ s).bind fun x s1=>(ev C d .v σ s1).bind fun y s2=>.of (do let ts ←x.seq;let is ←aaX ts;let d ←y.int?;some (.val (.int ((al2 is).getD d)))) s2)
 | .mnk a i j l k p q,m,σ,s=>fin m ((ev C a .v σ s).bind fun x s1=>.of (if asp s1 l k p q then x.seq.bind fun ts=>(auX i j ts).map .val else none) s1)
 | .sok _ _ _,_,_,_=>.stuck
 | .isi a c,m,σ,s=>fin m ((ev C a .v σ s).bind fun x s1=>.of ((adQ C.sub (x.dr s1) c).map fun k=>.val (.bl k)) s1)
 | .call f es ds,m,σ,s=>fin m ((evr C es σ s).bind fun rs s1=>C.cf f (rs++ds.map .val) s1)
 | .comp e g it,m,σ,s=>fin m ((ev C it .i σ s).bind fun x s1=>onL x fun ts=>(aa6 (fun t s=>onO (aav σ g t) fun σ'=>one (ev C e .v σ' s)) ts s1).bind fun q s2=>.ok (.val (.lst q)) s2)
 | .compIf e g it c,m,σ,s=>fin m ((ev C it .i σ s).bind fun x s1=>onL x fun ts=>(aa6 (fun t s=>onO (aav σ g t) fun σ'=>
   match ev C c .t σ' s with
   | .ok (.val (.bl true)) s2=>one (ev C e .v σ' s2)
   | .ok (.val (.bl false)) s2=>.ok none s2
   | .exc c s2=>.exc c s2
   | _=>.stuck) ts s1).bind fun q s2=>.ok (.val (.lst q)) s2)
 | .rng1 a,m,σ,s=>al4 m ((ev C a .v σ s).bind fun x s1=>onI x fun j=>if bnd j&&decide (j≤lim)then .ok (.val (.lst (aax 0 j))) s1 else .stuck)
 | .rng2 a b,m,σ,s=>al4 m ((ev C a .v σ s).bind fun x s1=>onI x fun i=>(ev C b .v σ s1).bind fun y s2=>onI y fun j=>if bnd i&&bnd j&&decide (j-i≤lim)then .ok (.val (.lst (aax i j))) s2 else .stuck)
 | .enm a,m,σ,s=>al4 m ((ev C a .v σ s).bind fun x s1=>onL x fun ts=>.ok (.val (.lst (enT 0 ts))) s1)
 | .zip a b,m,σ,s=>al4 m ((ev C a .v σ s).bind fun x s1=>(ev C b .v σ s1).bind fun y s2=>.of (do let ts ←x.sq3;let us ←y.sq3;some (.val (.lst (ziT ts us)))) s2)
 | .fld a c f,m,σ,s=>fin m ((ev C a .v σ s).bind fun x s1=>.of ((avs s1 x c f).map .val) s1)
 | .cell a,m,σ,s=>fin m ((ev C a .v σ s).bind fun x s1=>onL x fun ts=>.ok (.val (.loc s1.length)) (s1++[.lst ts]))
 | .new c f n es ds,m,σ,s=>fin m ((evr C es σ s).bind fun rs s1=>(C.cf f (.val (.loc s1.length)::rs++ds.map .val) (s1++[.ins c (List.replicate n none)])).bind fun r s2=>onN r (.ok (.val (.loc s1.length)) s2))
 | .meth a c f es ds,m,σ,s=>fin m ((ev C a .v σ s).bind fun x s1=>onO (x.locI s1 c) fun _=>(evr C es σ s1).bind fun rs s2=>C.cf f (x::rs++ds.map .val) s2)
 | .compC e g it,m,σ,s=>fin m ((ev C it .v σ s).bind fun x s1=>onO (x.locL s1) fun p=>(aa6 (fun t s=>onO (aav σ g t) fun σ'=>arq p.1 p.2 (one (ev C e .v σ' s))) p.2 s1).bind fun q s2=>.ok (.val (.lst q)) s2)
 | .cmpD c a b,m,σ,s=>fin m ((ev C a .v σ s).bind fun x s1=>(ev C b .v σ s1).bind fun y s2=>.of ((adc c (x.dr s2) (y.dr s2)).map fun k=>.val (.bl k)) s2)
noncomputable def evs(C:Cf):List E→Fr→Sto→Res (List T)
 | [],_,s=>.ok [] s
 | e::es,σ,s=>(ev C e .v σ s).bind fun x s1=>onV x fun t=>(evs C es σ s1).bind fun ts s2=>.ok (t::ts) s2
noncomputable def evr(C:Cf):List E→Fr→Sto→Res (List R)
 | [],_,s=>.ok [] s
 | e::es,σ,s=>(ev C e .v σ s).bind fun x s1=>(evr C es σ s1).bind fun xs s2=>.ok (x::xs) s2
end
noncomputable def frz(σ:Fr)(i:Nat):Fr:=match σ[i]? with
 | some (some (.own ts))=>σ.set i (some (.val (.lst ts)))
 | _=>σ
noncomputable def aa9(σ:Fr)(i:Nat)(ts:List T):Fr:=σ.set i (some (.own ts))
noncomputable def abQ(σ:Fr)(i:Nat):Option (List T):=match σ[i]? with
 | some (some (.own ts))=>some ts
 | _=>none
noncomputable def R.sto(r:R):Option T:=r.val?
noncomputable def Res.st(m:Res R)(σ:Fr)(k:R→Sto→SR):SR:=match m with
 | .stuck=>.stuck
 | .ok a s=>k a s
 | .exc c s=>.exc c σ s
@[simp] theorem Res.st_ok (a:R) (s:Sto) (σ:Fr) (k:R→Sto→SR):(Res.ok a s).st σ k=k a s:=rfl
@[simp] theorem Res.st_exc (c:Nat) (s:Sto) (σ:Fr) (k:R→Sto→SR):(Res.exc c s).st σ k=.exc c σ s:=rfl
noncomputable def SR.bind(m:SR)(k:Fr→Sto→SR):SR:=match m with
 | .next σ s=>k σ s
 | r=>r
@[simp] theorem SR.bind_next (σ:Fr) (s:Sto) (k:Fr→Sto→SR):(SR.next σ s).bind k=k σ s:=rfl
@[simp] theorem SR.bind_ret (r:R) (s:Sto) (k:Fr→Sto→SR):(SR.ret r s).bind k=.ret r s:=rfl
@[simp] theorem SR.bind_retO (ts:List T) (s:Sto) (k:Fr→Sto→SR):(SR.retO ts s).bind k=.retO ts s:=rfl
@[simp] theorem SR.bind_exc (c:Nat) (σ:Fr) (s:Sto) (k:Fr→Sto→SR):(SR.exc c σ s).bind k=.exc c σ s:=rfl
@[simp] theorem SR.bind_stuck (k:Fr→Sto→SR):SR.stuck.bind k=.stuck:=rfl
noncomputable def onS{α:Type}(o:Option α)(f:α→SR):SR:=match o with
 | some a=>f a
 | none=>.stuck
@[simp] theorem aow {α:Type} (a:α) (f:α→SR):onS (some a) f=f a:=rfl
@[simp] theorem aoo {α:Type} (f:α→SR):onS none f=.stuck:=rfl
noncomputable def apS(x:R)(a b:SR):SR:=match x with
 | .val (.bl true)=>a
 | .val (.bl false)=>b
 | _=>.stuck
noncomputable def R.lst?:R→Option (List T)
 | .val (.lst ts)=>some ts
 | _=>none
noncomputable def abp(g:Tg)(body:Fr→Sto→SR):List T→Fr→Sto→SR
 | [],σ,s=>.next σ s
 | t::ts,σ,s=>onS (aav σ g t) fun σ'=>(body σ' s).bind fun σ2 s2=>abp g body ts σ2 s2
open Classical in
noncomputable def forC(g:Tg)(body:Fr→Sto→SR)(l:Nat)(all:List T):List T→Fr→Sto→SR
 | [],σ,s=>if s[l]?=some (.lst all)then .next σ s else .stuck
 | t::ts,σ,s=>if s[l]?=some (.lst all)then onS (aav σ g t) fun σ'=>(body σ' s).bind fun σ2 s2=>forC g body l all ts σ2 s2 else .stuck
noncomputable def SR.nox(r:SR):SR:=match r with
 | .exc _ _ _=>.stuck
 | r=>r
noncomputable def lock(σ:Fr)(i:Nat):Fr:=match σ[i]? with
 | some (some (.own ts))=>σ.set i (some (.lck ts))
 | _=>σ
noncomputable def unlock(σ:Fr)(i:Nat):Fr:=match σ[i]? with
 | some (some (.lck ts))=>σ.set i (some (.own ts))
 | _=>σ
noncomputable def SR.unlock(r:SR)(i:Nat):SR:=match r with
 | .next σ s=>.next (IP.unlock σ i) s
 | .exc c σ s=>.exc c (IP.unlock σ i) s
 | r=>r
noncomputable def abJ(σ:Fr)(i:Nat):Bool:=match σ[i]? with
 | some (some (.own _))=>true
 | _=>false
noncomputable def acr(C:Cf):E→Bool
 | .lst _=>true | .comp _ _ _=>true | .compIf _ _ _ _=>true | .b1 .list _=>true | .rev _=>true | .bin .add _ _=>true | .call f _ _=>C.fr f | _=>false
mutual
noncomputable def ex(C:Cf):S→Fr→Sto→SR
 | .asg i e,σ,s=>(ev C e .v σ s).st σ fun x s1=>onS x.val? fun t=>.next (put σ i t) s1
 | .asgT is e,σ,s=>(ev C e .v σ s).st σ fun x s1=>onS x.tup? fun ts=>onS (puts σ is ts) fun σ'=>.next σ' s1
 | .mk i e,σ,s=>if acr C e then(ev C e .v σ s).st σ fun x s1=>onS x.lst? fun ts=>.next (aa9 σ i ts) s1 else .stuck
 | .app i e,σ,s=>onS (abQ σ i) fun ts=>(ev C e .v σ s).st σ fun x s1=>onS x.val? fun t=>if ts.length<lim then .next (aa9 σ i (ts++[t])) s1 else .stuck
 | .ext i e,σ,s=>onS (abQ σ i) fun ts=>(ev C e .v σ s).st σ fun x s1=>onS x.lst? fun us=>if ts.length+us.length≤lim then .next (aa9 σ i (ts++us)) s1 else .stuck
 | .put i j e,σ,s=>onS (abQ σ i) fun ts=>(ev C e .v σ s).st σ fun x s1=>onS x.val? fun t=>(ev C j .v σ s1).st σ fun y s2=>onS y.int? fun k=>onS (L2.ixN ts.length k) fun n=>.next (aa9 σ i (ts.set n t)) s2
 | .pop k i,σ,s=>onS (abQ σ i) fun ts=>onS ts.getLast? fun t=>.next (put (aa9 σ i ts.dropLast) k t) s
 | .frz i,σ,s=>.next (frz σ i) s
 | .ifs c a b,σ,s=>(ev C c .t σ s).st σ fun x s1=>apS x (exs C a σ s1) (exs C b σ s1)
 | .whl c b,σ,s=>C.wl (fun σ s=>(ev C c .t σ s).bind fun x s1=>.of (match x with | .val (.bl k)=>some k | _=>none) s1) (fun σ s=>exs C b σ s) σ s
 | .for_ g it b,σ,s=>match it with
  | .var i=>(ev C (.var i) .i σ s).st σ fun x s1=>onS x.lst? fun ts=>if abJ σ i then(abp g (fun σ s=>exs C b σ s) ts (lock σ i) s1).unlock i else abp g (fun σ s=>exs C b σ s) ts σ s1
  | it=>(ev C it .j σ s).st σ fun x s1=>onS x.lst? fun ts=>abp g (fun σ s=>exs C b σ s) ts σ s1
 | .ret e,σ,s=>(ev C e .v σ s).st σ fun x s1=>.ret x s1
 | .retO e,σ,s=>if acr C e then(ev C e .v σ s).st σ fun x s1=>onS x.lst? fun ts=>.retO ts s1 else .stuck
 | .retV i,σ,s=>onS (abQ σ i) fun ts=>.retO ts s
 | .exp e,σ,s=>(ev C e .v σ s).st σ fun _ s1=>.next σ s1
 | .raise c,σ,s=>.exc c σ s
 | .try_ b c nm h,σ,s=>match exs C b σ s with
  | .exc d σ1 s1=>if C.sub d c then(match nm with
    | none=>(exs C h σ1 s1).nox
    | some i=>(exs C h (put σ1 i (.exc d)) s1).nox.bind fun σ2 s2=>.next (σ2.set i none) s2)else .exc d σ1 s1
  | r=>r
 | .putL a j e,σ,s=>(ev C e .v σ s).st σ fun x s1=>onS x.val? fun t=>(ev C a .v σ s1).st σ fun y s2=>(ev C j .v σ s2).st σ fun z s3=>onS (y.locL s3) fun p=>onS z.int? fun k=>onS (L2.ixN p.2.length k) fun n=>.next σ (s3.set p.1 (.lst (p.2.set n t)))
 | .appL a e,σ,s=>(ev C a .v σ s).st σ fun y s1=>onS (y.locL s1) fun _=>(ev C e .v σ s1).st σ fun x s2=>onS x.val? fun t=>onS (y.locL s2) fun p=>if p.2.length<lim then .next σ (s2.set p.1 (.lst (p.2++[t])))else .stuck
 | .setF a c f e,σ,s=>(ev C e .v σ s).st σ fun x s1=>onS x.val? fun t=>(ev C a .v σ s1).st σ fun y s2=>onS (y.locI s2 c) fun p=>if f<p.2.length then .next σ (s2.set p.1 (.ins c (p.2.set f (some t))))else .stuck
 | .popL a,σ,s=>(ev C a .v σ s).st σ fun y s1=>onS (y.locL s1) fun p=>if p.2.isEmpty then .stuck else .next σ (s1.set p.1 (.lst p.2.dropLast))
 | .clrL a,σ,s=>(ev C a .v σ s).st σ fun y s1=>onS (y.locL s1) fun p=>.next σ (s1.set p.1 (.lst []))
 | .forC g it b,σ,s=>(ev C it .v σ s).st σ fun x s1=>onS (x.locL s1) fun p=>forC g (fun σ s=>exs C b σ s) p.1 p.2 p.2 σ s1
 | .pass,σ,s=>.next σ s
noncomputable def exs(C:Cf):List S→Fr→Sto→SR
 | [],σ,s=>.next σ s
 | a::r,σ,s=>(ex C a σ s).bind fun σ1 s1=>exs C r σ1 s1
end
structure Fn where
 pars:Nat
 size:Nat
 fr:Bool
 body:List S
noncomputable def ofR:R→B
 | .val t=>.val t
 | .bor ts=>.bor ts
noncomputable def aaR(F:Fn)(rs:List R):Fr:=rs.map (fun r=>some (ofR r))++List.replicate (F.size-rs.length) none
noncomputable def abm(x fr:Bool):SR→Res R
 | .ret r s=>if fr then .stuck else .ok r s
 | .retO ts s=>if fr then .ok (.val (.lst ts)) s else .stuck
 | .next _ s=>if fr then .stuck else .ok (.val .non) s
 | .exc c _ s=>if x then .exc c s else .stuck
 | .stuck=>.stuck
noncomputable def aaq(c:Fr→Sto→Res Bool)(b:Fr→Sto→SR):Nat→Fr→Sto→SR
 | 0,_,_=>.stuck
 | n+1,σ,s=>match c σ s with
  | .stuck=>.stuck
  | .exc d s1=>.exc d σ s1
  | .ok false s1=>.next σ s1
  | .ok true s1=>(b σ s1).bind fun σ2 s2=>aaq c b n σ2 s2
open Classical in
noncomputable def aai(c:Fr→Sto→Res Bool)(b:Fr→Sto→SR)(σ:Fr)(s:Sto):SR:=
 if h:∃n,aaq c b n σ s≠.stuck then aaq c b (choose h) σ s else .stuck
noncomputable def agr(fs:List Fn)(f:Nat):Bool:=match fs[f]? with
 | some F=>F.fr
 | none=>false
noncomputable def run(x:Bool)(fs:List Fn)(sub:Nat→Nat→Bool)(wl:(Fr→Sto→Res Bool)→(Fr→Sto→SR)→Fr→Sto→SR):Nat→Nat→List R→Sto→Res R
 | 0,_,_,_=>.stuck
 | k+1,f,rs,s=>match fs[f]? with
  | none=>.stuck
  | some F=>if rs.length=F.pars then abm x F.fr (exs ⟨run x fs sub wl k,sub,agr fs,wl⟩ F.body (aaR F rs) s)else .stuck
end IP
end
section
namespace IP
open PySem L2
structure Gx where
 K:PySem.W.Frag
 cA:Nat→Addr
 iA:Nat→Addr
 nm:Nat→List Str
structure Wo where
 n:Nat
 io:Nat→Addr
 Z:Addr→Prop
noncomputable def afG(a:Addr)(C:Addr):Heap→Prop:=fun h=>∃o,h.get? a=some o∧o.cls=.ref C
noncomputable def aoB(c:Addr)(q:Str):Heap→Prop:=fun h=>h.CodeRec (.ref c) q
section
variable(G:Gx)
mutual
noncomputable def Rep(w:Wo)(H:Hp):T→V→Prop
 | .non,v=>v=.non
 | .bl b,v=>v=.bl b
 | .int i,v=>v=.int i
 | .str x,v=>v=.str x
 | .tup ts,v=>∃a vs,v=.ref a∧H a=some (.tup vs)∧aat w H ts vs
 | .lst ts,v=>∃a vs,v=.ref a∧w.Z a∧Rd H a (.lst vs)∧aat w H ts vs
 | .loc l,v=>l<w.n∧v=.ref (w.io l)
 | .exc c,v=>∃a,v=.ref a∧H a=some (.ext (afG a (G.cA c)))
noncomputable def aat(w:Wo)(H:Hp):List T→List V→Prop
 | [],vs=>vs=[]
 | t::ts,vs=>∃v r,vs=v::r∧Rep w H t v∧aat w H ts r
end
end
noncomputable def notLoc(w:Wo)(a:Addr):Prop:=∀l,l<w.n→a≠w.io l
structure Le(w w':Wo)(H H':Hp):Prop where
 n:w.n≤w'.n
 io:∀l,l<w.n→w'.io l=w.io l
 Z:∀a,w.Z a→w'.Z a
 keep:∀a o,H a=some o→notLoc w a→H' a=some o
 newL:∀l,w.n≤l→l<w'.n→H (w'.io l)=none
 newZ:∀a,w'.Z a→w.Z a∨H a=none
 some_:∀a,H a≠none→H' a≠none
theorem Le.refl(w:Wo)(H:Hp):Le w w H H:=⟨Nat.le_refl _,fun _ _=>rfl,fun _ z=>z,fun _ _ e _=>e,fun l a b=>absurd (Nat.lt_of_lt_of_le b a) (Nat.lt_irrefl _),fun _ z=>.inl z,fun _ z=>z⟩
theorem Le.trans{w w1 w2:Wo}{H H1 H2:Hp}(a:Le w w1 H H1)(b:Le w1 w2 H1 H2):Le w w2 H H2 where
 n:=Nat.le_trans a.n b.n
 io:=fun l h=>(b.io l (Nat.lt_of_lt_of_le h a.n)).trans (a.io l h)
 Z:=fun x z=>b.Z x (a.Z x z)
 keep:=fun x o e nl=>b.keep x o (a.keep x o e nl) fun l hl q=>by
  by_cases h:l<w.n
  ·exact nl l h (q.trans (a.io l h))
  ·have:=a.newL l (Nat.le_of_not_lt h) hl
   rw[←q,e]at this
   cases this
 newL:=fun l h1 h2=>by
  by_cases h:l<w1.n
  ·rw[b.io l h]
   exact a.newL l h1 h
  ·have q:=b.newL l (Nat.le_of_not_lt h) h2
   cases e:H (w2.io l)with
   | none=>rfl
   | some o=>exact absurd q (a.some_ _ (by rw[e];intro z;cases z))
 newZ:=fun x z=>by
  rcases b.newZ x z with z|z
  ·exact a.newZ x z
  ·refine .inr ?_
   cases e:H x with
   | none=>rfl
   | some o=>exact absurd z (a.some_ x (by rw[e];intro q;cases q))
 some_:=fun x z=>b.some_ x (a.some_ x z)
section
variable{G:Gx}
noncomputable def au8(nm:List Str)(kvs:List (Str×V)):Prop:=(kvs.map (·.1)).Nodup∧∀x∈kvs.map (·.1),x∈nm
noncomputable def abK(G:Gx)(w:Wo)(H:Hp)(a:Addr):Cell→Prop
 | .lst ts=>∃vs,H a=some (.lst vs)∧aat G w H ts vs
 | .ins c fs=>∃dx kvs,H a=some (.ins (G.iA c) dx kvs)∧au8 (G.nm c) kvs∧∀(i:Nat) (x:Str) (t:T),(G.nm c)[i]?=some x→fs[i]?=some (some t)→∃v,kvs.lookup x=some v∧Rep G w H t v
 | .tbl k p q=>a=G.iA k∧∃ps:Array Value,H a=some (.tbl ps)∧TriplesOk ps.toList∧∀cv,codeAmong p ps.toList=some cv→∃c,cv=.ref c∧H c=some (.ext (aoB c q))
structure StoOk(G:Gx)(w:Wo)(H:Hp)(s:Sto):Prop where
 len:s.length=w.n
 inj:∀l m,l<w.n→m<w.n→w.io l=w.io m→l=m
 nz:∀l,l<w.n→¬w.Z (w.io l)
 cell:∀l c,s[l]?=some c→abK G w H (w.io l) c
 zt:∀a,w.Z a→∃vs,Rd H a (.lst vs)
theorem StoOk.loc{w:Wo}{H:Hp}{s:Sto}(S:StoOk G w H s){l:Nat}(h:l<w.n):(∃vs,H (w.io l)=some (.lst vs))∨(∃c dx kvs,H (w.io l)=some (.ins c dx kvs))∨∃ps,H (w.io l)=some (.tbl ps):=by
 have hl:l<s.length:=by rw[S.len];exact h
 have q:=S.cell l s[l] (List.getElem?_eq_getElem hl)
 cases e:s[l]with
 | lst ts=>rw[e]at q;obtain⟨vs,q,_⟩:=q;exact .inl ⟨vs,q⟩
 | ins c fs=>rw[e]at q;obtain⟨dx,kvs,q,_⟩:=q;exact .inr (.inl ⟨_,dx,kvs,q⟩)
 | tbl k p q'=>rw[e]at q;obtain⟨_,ps,q,_⟩:=q;exact .inr (.inr ⟨ps,q⟩)
theorem StoOk.notLoc{w:Wo}{H:Hp}{s:Sto}(S:StoOk G w H s){a:Addr}{o:HO}(e:H a=some o)(h1:∀vs,o≠.lst vs)(h2:∀c dx kvs,o≠.ins c dx kvs)(h3:∀ps,o≠.tbl ps:=by intro _ z;cases z):IP.notLoc w a:=fun l hl q=>by
 subst q
 rcases S.loc hl with⟨vs,z⟩|⟨c,dx,kvs,z⟩|⟨ps,z⟩
 ·rw[e]at z;exact h1 vs (Option.some.inj z)
 ·rw[e]at z;exact h2 c dx kvs (Option.some.inj z)
 ·rw[e]at z;exact h3 ps (Option.some.inj z)
theorem StoOk.zLoc{w:Wo}{H:Hp}{s:Sto}(S:StoOk G w H s){a:Addr}(z:w.Z a):IP.notLoc w a:=fun l hl q=>S.nz l hl (q▸z)
theorem StoOk.fresh{w:Wo}{H:Hp}{s:Sto}(S:StoOk G w H s){a:Addr}(h:H a=none):¬w.Z a∧IP.notLoc w a:=by
 refine⟨fun z=>?_,fun l hl q=>?_⟩
 ·obtain⟨vs,r|⟨o,r⟩⟩:=S.zt a z
  ·rw[h]at r;cases r
  ·rw[h]at r;cases r
 ·subst q
  rcases S.loc hl with⟨vs,z⟩|⟨c,dx,kvs,z⟩|⟨ps,z⟩<;>(rw[h]at z;cases z)
theorem Rd.keep{w w':Wo}{H H':Hp}{a:Addr}{u:HO}(L:Le w w' H H')(nl:IP.notLoc w a)(r:Rd H a u):Rd H' a u:=by
 rcases r with r|⟨o,r⟩
 ·exact .inl (L.keep _ _ r nl)
 ·exact .inr ⟨o,L.keep _ _ r nl⟩
mutual
theorem Rep.mono{w w':Wo}{H H':Hp}{s:Sto}(L:Le w w' H H')(S:StoOk G w H s):∀(t:T) (v:V),Rep G w H t v→Rep G w' H' t v
 | .non,v,h=>h
 | .bl b,v,h=>h
 | .int i,v,h=>h
 | .str x,v,h=>h
 | .tup ts,v,⟨a,vs,e,h,r⟩=>⟨a,vs,e,L.keep _ _ h (S.notLoc h (fun _ z=>by cases z) fun _ _ _ z=>by cases z),aat.mono L S ts vs r⟩
 | .lst ts,v,⟨a,vs,e,z,h,r⟩=>⟨a,vs,e,L.Z _ z,Rd.keep L (S.zLoc z) h,aat.mono L S ts vs r⟩
 | .loc l,v,⟨h,e⟩=>⟨Nat.lt_of_lt_of_le h L.n,by rw[L.io l h];exact e⟩
 | .exc c,v,⟨a,e,h⟩=>⟨a,e,L.keep _ _ h (S.notLoc h (fun _ z=>by cases z) fun _ _ _ z=>by cases z)⟩
theorem aat.mono{w w':Wo}{H H':Hp}{s:Sto}(L:Le w w' H H')(S:StoOk G w H s):∀(ts:List T) (vs:List V),aat G w H ts vs→aat G w' H' ts vs
 | [],vs,h=>h
 | t::ts,vs,⟨v,r,e,h,q⟩=>⟨v,r,e,Rep.mono L S t v h,aat.mono L S ts r q⟩
end
theorem aat.length{w:Wo}{H:Hp}:∀{ts:List T}{vs:List V},aat G w H ts vs→ts.length=vs.length
 | [],_,h=>by rw[h];rfl
 | t::ts,_,⟨v,r,e,_,q⟩=>by subst e;simp[aat.length q]
theorem aat.get{w:Wo}{H:Hp}:∀{ts:List T}{vs:List V}{i:Nat}{t:T},aat G w H ts vs→ts[i]?=some t→∃v,vs[i]?=some v∧Rep G w H t v
 | [],_,i,t,h,e=>by simp at e
 | t::ts,_,0,u,⟨v,r,e,h,q⟩,z=>by subst e;simp at z;subst z;exact⟨v,rfl,h⟩
 | t::ts,_,i+1,u,⟨v,r,e,h,q⟩,z=>by
  subst e
  obtain⟨x,h1,h2⟩:=aat.get q (i:=i) (t:=u) (by simpa using z)
  exact⟨x,by simpa using h1,h2⟩
theorem aat.get'{w:Wo}{H:Hp}{ts:List T}{vs:List V}{i:Nat}{v:V}(h:aat G w H ts vs)(e:vs[i]?=some v):∃t,ts[i]?=some t∧Rep G w H t v:=by
 have hi:i<ts.length:=by
  rw[h.length]
  exact(List.getElem?_eq_some_iff.mp e).1
 obtain⟨u,h1,h2⟩:=h.get (List.getElem?_eq_getElem hi)
 rw[e]at h1
 cases h1
 exact⟨_,List.getElem?_eq_getElem hi,h2⟩
theorem aat.append{w:Wo}{H:Hp}:∀{ts us:List T}{vs ws:List V},aat G w H ts vs→aat G w H us ws→aat G w H (ts++us) (vs++ws)
 | [],us,_,ws,h,q=>by rw[h];exact q
 | t::ts,us,_,ws,⟨v,r,e,h,k⟩,q=>by subst e;exact⟨v,r++ws,rfl,h,aat.append k q⟩
theorem aat.set{w:Wo}{H:Hp}{t:T}{v:V}(rv:Rep G w H t v):∀{ts:List T}{vs:List V} (i:Nat),aat G w H ts vs→aat G w H (ts.set i t) (vs.set i v)
 | [],_,i,h=>by rw[h];exact rfl
 | x::ts,_,0,⟨y,r,e,h,k⟩=>by subst e;exact⟨v,r,rfl,rv,k⟩
 | x::ts,_,i+1,⟨y,r,e,h,k⟩=>by subst e;exact⟨y,r.set i v,rfl,h,aat.set rv i k⟩
theorem aat.drop{w:Wo}{H:Hp}:∀{ts:List T}{vs:List V} (i:Nat),aat G w H ts vs→aat G w H (ts.drop i) (vs.drop i)
 | ts,vs,0,h=>h
 | [],_,i+1,h=>by rw[h];exact rfl
 | x::ts,_,i+1,⟨y,r,e,h,k⟩=>by subst e;exact aat.drop i k
theorem aat.take{w:Wo}{H:Hp}:∀{ts:List T}{vs:List V} (i:Nat),aat G w H ts vs→aat G w H (ts.take i) (vs.take i)
 | ts,vs,0,h=>by simp;exact rfl
 | [],_,i+1,h=>by rw[h];exact rfl
 | x::ts,_,i+1,⟨y,r,e,h,k⟩=>by subst e;exact⟨y,r.take i,rfl,h,aat.take i k⟩
theorem aat.reverse{w:Wo}{H:Hp}:∀{ts:List T}{vs:List V},aat G w H ts vs→aat G w H ts.reverse vs.reverse
 | [],_,h=>by rw[h];exact rfl
 | x::ts,_,⟨y,r,e,h,k⟩=>by
  subst e
  rw[List.reverse_cons,List.reverse_cons]
  exact aat.append (aat.reverse k) ⟨y,[],rfl,h,rfl⟩
theorem aat.cut{w:Wo}{H:Hp}{ts:List T}{vs:List V}(h:aat G w H ts vs)(lo hi:Option Int):aat G w H (ajR ts lo hi) (ajr vs lo hi):=by
 unfold ajR ajr
 rw[←h.length]
 exact(h.drop _).take _
noncomputable def abc(G:Gx)(w:Wo)(H:Hp):R→V→Prop
 | .val t,v=>Rep G w H t v
 | .bor ts,v=>∃a vs,v=.ref a∧H a=some (.lst vs)∧aat G w H ts vs∧notLoc w a
noncomputable def adu(G:Gx)(w:Wo)(H:Hp):R→V→Prop
 | .val t,v=>Rep G w H t v
 | .bor ts,v=>∃a vs,v=.ref a∧H a=some (.lst vs)∧aat G w H ts vs
theorem abc.d{w:Wo}{H:Hp}:∀{r:R}{v:V},abc G w H r v→adu G w H r v
 | .val t,v,h=>h
 | .bor ts,v,⟨a,vs,e,h,r,_⟩=>⟨a,vs,e,h,r⟩
theorem abc.dr{w:Wo}{H:Hp}{s:Sto}(S:StoOk G w H s){r:R}{v:V}(h:abc G w H r v):adu G w H (r.dr s) v:=by
 unfold R.dr
 split
 ·rename_i l
  obtain⟨hl,e⟩:=h
  split
  ·rename_i ts q
   obtain⟨vs,h1,h2⟩:=S.cell l _ q
   exact⟨w.io l,vs,e,h1,h2⟩
  ·exact⟨hl,e⟩
 ·exact h.d
theorem abc.mono{w w':Wo}{H H':Hp}{s:Sto}(L:Le w w' H H')(S:StoOk G w H s):∀{r:R}{v:V},abc G w H r v→abc G w' H' r v
 | .val t,v,h=>Rep.mono L S t v h
 | .bor ts,v,⟨a,vs,e,h,r,nl⟩=>⟨a,vs,e,L.keep _ _ h nl,aat.mono L S ts vs r,fun l hl q=>by
   by_cases k:l<w.n
   ·exact nl l k (q.trans (L.io l k))
   ·have:=L.newL l (Nat.le_of_not_lt k) hl
    rw[←q,h]at this
    cases this⟩
noncomputable def abg(G:Gx)(w:Wo)(H:Hp):List R→List V→Prop
 | [],vs=>vs=[]
 | t::ts,vs=>∃v r,vs=v::r∧abc G w H t v∧abg G w H ts r
theorem abg.mono{w w':Wo}{H H':Hp}{s:Sto}(L:Le w w' H H')(S:StoOk G w H s):∀{ts:List R}{vs:List V},abg G w H ts vs→abg G w' H' ts vs
 | [],vs,h=>h
 | t::ts,vs,⟨v,r,e,h,q⟩=>⟨v,r,e,abc.mono L S h,abg.mono L S q⟩
theorem abg.length{w:Wo}{H:Hp}:∀{ts:List R}{vs:List V},abg G w H ts vs→ts.length=vs.length
 | [],_,h=>by rw[h];rfl
 | t::ts,_,⟨v,r,e,_,q⟩=>by subst e;simp[abg.length q]
noncomputable def ah7:B→Option (List T)
 | .own ts=>some ts
 | .lck ts=>some ts
 | _=>none
structure FrOk(G:Gx)(w:Wo)(H H₀:Hp)(σ:Fr)(σV:St):Prop where
 len:σ.length=σV.length
 val:∀(i:Nat) (t:T),σ[i]?=some (some (.val t))→∃v,σV[i]?=some (some v)∧Rep G w H t v
 own:∀(i:Nat) (b:B) (ts:List T),σ[i]?=some (some b)→ah7 b=some ts→∃a vs,σV[i]?=some (some (.ref a))∧H a=some (.lst vs)∧aat G w H ts vs∧H₀ a=none∧¬w.Z a∧notLoc w a
 apart:∀(i j:Nat) (b c:B) (ts us:List T) (a:Addr),i≠j→σ[i]?=some (some b)→ah7 b=some ts→σ[j]?=some (some c)→ah7 c=some us→σV[i]?=some (some (.ref a))→σV[j]?=some (some (.ref a))→False
 bor:∀(i:Nat) (ts:List T),σ[i]?=some (some (.bor ts))→∃a vs,σV[i]?=some (some (.ref a))∧H a=some (.lst vs)∧aat G w H ts vs∧H₀ a≠none∧notLoc w a
theorem notLoc.mono{w w':Wo}{H H':Hp}(L:Le w w' H H'){a:Addr}(h:H a≠none)(nl:notLoc w a):notLoc w' a:=fun l hl q=>by
 by_cases k:l<w.n
 ·exact nl l k (q.trans (L.io l k))
 ·have:=L.newL l (Nat.le_of_not_lt k) hl
  rw[←q]at this
  exact h this
theorem FrOk.mono{w w':Wo}{H H' H₀:Hp}{s:Sto}{σ:Fr}{σV:St}(L:Le w w' H H')(S:StoOk G w H s)(F:FrOk G w H H₀ σ σV):FrOk G w' H' H₀ σ σV where
 len:=F.len
 val:=fun i t e=>let ⟨v,h1,h2⟩:=F.val i t e;⟨v,h1,Rep.mono L S t v h2⟩
 own:=fun i b ts e eb=>by
  obtain⟨a,vs,h1,h2,h3,h4,h5,h6⟩:=F.own i b ts e eb
  have hn:H a≠none:=by rw[h2];intro z;cases z
  refine⟨a,vs,h1,L.keep _ _ h2 h6,aat.mono L S ts vs h3,h4,fun z=>?_,notLoc.mono L hn h6⟩
  rcases L.newZ a z with z|z
  ·exact h5 z
  ·exact hn z
 apart:=F.apart
 bor:=fun i ts e=>by
  obtain⟨a,vs,h1,h2,h3,h4,h6⟩:=F.bor i ts e
  have hn:H a≠none:=by rw[h2];intro z;cases z
  exact⟨a,vs,h1,L.keep _ _ h2 h6,aat.mono L S ts vs h3,h4,notLoc.mono L hn h6⟩
structure Good(G:Gx)(w₀:Wo)(H₀:Hp)(w:Wo)(H:Hp)(σ:Fr)(s:Sto)(σV:St):Prop where
 sto:StoOk G w H s
 fr:FrOk G w H H₀ σ σV
 ent:Le w₀ w H₀ H
theorem Good.step{w₀ w w':Wo}{H₀ H H':Hp}{σ:Fr}{s s':Sto}{σV:St}(g:Good G w₀ H₀ w H σ s σV)(L:Le w w' H H')(S:StoOk G w' H' s'):Good G w₀ H₀ w' H' σ s' σV:=⟨S,g.fr.mono L g.sto,g.ent.trans L⟩
end
end IP
end
section
namespace IP
open PySem PySem.Spec L2
structure Flt(stack:List Env)(h B:Heap)(e:Addr)(sh:Heap):Prop where
 cov:∀b o,B.get? b=some o↔h.get? b=some o∧b∉frs stack
 keep:∀b o,h.get? b=some o→b∉frs stack→sh.get? b=some o
 slot:∀b o,h.get? b=some o→b∈frs stack→∃sl,sh.get? b=some { o with slots:=sl }
 new:h.get? e=none
noncomputable def an2(base:Heap)(l:List Env)(e:Addr)(cls a0 fl:Value)(h:Heap):Prop:=base.StaysIn h∧base.get? e=none∧h.FunFrames base l∧h.TracedAtW base e cls a0 fl
noncomputable def aaY(G:Gx)(X:Cx)(pins:List (Addr×Obj))(σV:St)(H:Hp)(c:Nat)(u:Value)(sh:Shared):Prop:=
 ∃(e:Addr) (h B:Heap),u=.ref e∧Inv X pins σV H { sh with heap:=h }∧Flt X.stack h B e sh.heap∧X.base.StaysIn B∧
  ((∃args,Heap.MadeExcOf h sh.heap e (.ref (G.cA c)) args)∨(∃t,Heap.FlyingW B X.stack e (.ref (G.cA c)) t sh.heap)∨
   ∃t fl,an2 B X.stack e (.ref (G.cA c)) t fl sh.heap)
noncomputable def aaQ(G:Gx)(X:Cx)(σV:St)(w:Wo)(H:Hp)(res:Res R)(Q:VK):Prop:=match res with
 | .stuck=>False
 | .ok r s'=>∀w' H' v,Le w w' H H'→StoOk G w' H' s'→abc G w' H' r v→Q v H'
 | .exc c s'=>∀w' H' pins u sh,Le w w' H H'→StoOk G w' H' s'→aaY G X pins σV H' c u sh→X.xe u sh
section
variable{G:Gx}{X:Cx}{σV:St}{w w₀:Wo}{H H₀:Hp}{Q Q':VK}
theorem aaQ.imp{res:Res R}(h:aaQ G X σV w H res Q)(q:∀v H',Q v H'→Q' v H'):aaQ G X σV w H res Q':=by
 cases res with
 | stuck=>exact h
 | ok r s=>exact fun w' H' v a b c=>q _ _ (h w' H' v a b c)
 | exc c s=>exact h
theorem aaQ.mono{res:Res R}{w1:Wo}{H1:Hp}(L:Le w w1 H H1)(h:aaQ G X σV w H res Q):aaQ G X σV w1 H1 res Q:=by
 cases res with
 | stuck=>exact h
 | ok r s=>exact fun w' H' v a b c=>h w' H' v (L.trans a) b c
 | exc c s=>exact fun w' H' pins u sh a b=>h w' H' pins u sh (L.trans a) b
theorem aaQ.bind{m:Res R}{k:R→Sto→Res R}(h:aaQ G X σV w H (m.bind k) Q):
  aaQ G X σV w H m fun v H1=>∃w1 r s1,Le w w1 H H1∧StoOk G w1 H1 s1∧abc G w1 H1 r v∧aaQ G X σV w1 H1 (k r s1) Q:=by
 cases m with
 | stuck=>exact h
 | ok r s=>exact fun w' H' v a b c=>⟨w',r,s,a,b,c,aaQ.mono a h⟩
 | exc c s=>exact h
theorem aaQ.of{o:Option R}{s:Sto}(h:aaQ G X σV w H (Res.of o s) Q):∃r,o=some r∧∀w' H' v,Le w w' H H'→StoOk G w' H' s→abc G w' H' r v→Q v H':=by
 cases o with
 | none=>exact h.elim
 | some r=>exact⟨r,rfl,h⟩
theorem PE.imp{e:Expr}{t t':TE}(h:PE X e t)(q:∀σ H Q,t' σ H Q→t σ H Q):PE X e t':=fun pins s σ H Q I z=>h pins s σ H Q I (q _ _ _ z)
theorem PT.imp{e:Expr}{t t':TT}(h:PT X e t)(q:∀σ H Q,t' σ H Q→t σ H Q):PT X e t':=fun pins s σ H Q I z=>h pins s σ H Q I (q _ _ _ z)
theorem PA.imp{e:List Expr}{t t':TA}(h:PA X e t)(q:∀σ H Q,t' σ H Q→t σ H Q):PA X e t':=fun pos pins s σ H Q I z=>h pos pins s σ H Q I (q _ _ _ z)
noncomputable def tV(G:Gx)(X:Cx)(C:Cf)(e:E):TE:=fun σV H Q=>∃w₀ H₀ w σ s,Good G w₀ H₀ w H σ s σV∧aaQ G X σV w H (ev C e .v σ s) Q
noncomputable def tT(G:Gx)(X:Cx)(C:Cf)(e:E):TT:=fun σV H Q=>∃w₀ H₀ w σ s,Good G w₀ H₀ w H σ s σV∧aaQ G X σV w H (ev C e .t σ s) fun v H'=>∃k,v=.bl k∧Q k H'
theorem acd{a p:Addr}{o:HO}(e:H a=some o)(hp:H p=none):a≠p:=fun q=>by rw[q,hp]at e;cases e
theorem Le.new{p:Addr}(hp:H p=none)(o:HO):Le w w H (upd H p o)where
 n:=Nat.le_refl _
 io:=fun _ _=>rfl
 Z:=fun _ z=>z
 keep:=fun a u e _=>by rw[aas (acd e hp)];exact e
 newL:=fun l a b=>absurd (Nat.lt_of_lt_of_le b a) (Nat.lt_irrefl _)
 newZ:=fun _ z=>.inl z
 some_:=fun a z=>by
  cases e:H a with
  | none=>exact absurd e z
  | some u=>rw[aas (acd e hp),e];intro q;cases q
noncomputable def Wo.addZ(w:Wo)(p:Addr):Wo:={ w with Z:=fun a=>w.Z a∨a=p }
theorem Le.newZ_{p:Addr}(hp:H p=none)(o:HO):Le w (w.addZ p) H (upd H p o)where
 n:=Nat.le_refl _
 io:=fun _ _=>rfl
 Z:=fun _ z=>.inl z
 keep:=(Le.new (w:=w) hp o).keep
 newL:=(Le.new (w:=w) hp o).newL
 newZ:=fun a z=>z.elim .inl fun q=>.inr (q▸hp)
 some_:=(Le.new (w:=w) hp o).some_
theorem abK.mono{w':Wo}{H':Hp}{s:Sto}(L:Le w w' H H')(S:StoOk G w H s){a:Addr}(e:H' a=H a):∀{c:Cell},abK G w H a c→abK G w' H' a c
 | .lst ts,⟨vs,h,r⟩=>⟨vs,e.trans h,aat.mono L S ts vs r⟩
 | .ins c fs,⟨dx,kvs,h,z,k⟩=>⟨dx,kvs,e.trans h,z,fun i x t h1 h2=>let ⟨v,q1,q2⟩:=k i x t h1 h2;⟨v,q1,Rep.mono L S t v q2⟩⟩
 | .tbl k p q,⟨ha,ps,h,z,f⟩=>⟨ha,ps,e.trans h,z,fun cv hcv=>let ⟨c,e1,e2⟩:=f cv hcv;⟨c,e1,L.keep _ _ e2 (S.notLoc e2 (fun _ z=>by cases z) fun _ _ _ z=>by cases z)⟩⟩
theorem StoOk.grow{w':Wo}{H':Hp}{s:Sto}(S:StoOk G w H s)(L:Le w w' H H')(hn:w'.n=w.n)(hl:∀l,l<w.n→H' (w.io l)=H (w.io l))(hz:∀a,w'.Z a→∃vs,Rd H' a (.lst vs)):StoOk G w' H' s where
 len:=S.len.trans hn.symm
 inj:=fun l m h1 h2 e=>by
  rw[hn]at h1 h2
  rw[L.io l h1,L.io m h2]at e
  exact S.inj l m h1 h2 e
 nz:=fun l h z=>by
  rw[hn]at h
  rw[L.io l h]at z
  rcases L.newZ _ z with q|q
  ·exact S.nz l h q
  ·rcases S.loc h with⟨vs,y⟩|⟨c,dx,kvs,y⟩|⟨ps,y⟩<;>(rw[q]at y;cases y)
 cell:=fun l c e=>by
  have h:l<w.n:=by rw[←S.len];exact(List.getElem?_eq_some_iff.mp e).1
  rw[L.io l h]
  exact abK.mono L S (hl l h) (S.cell l c e)
 zt:=hz
theorem Rd.upd{a p:Addr}{u o:HO}(hp:H p=none)(r:Rd H a u):Rd (upd H p o) a u:=by
 rcases r with r|⟨q,r⟩
 ·exact .inl (by rw[aas (acd r hp)];exact r)
 ·exact .inr ⟨q,by rw[aas (acd r hp)];exact r⟩
theorem StoOk.new{s:Sto}{p:Addr}(S:StoOk G w H s)(hp:H p=none)(o:HO):StoOk G w (L2.upd H p o) s:=
 S.grow (Le.new hp o) rfl (fun l h=>aas ((S.fresh hp).2 l h).symm) fun a z=>let ⟨vs,r⟩:=S.zt a z;⟨vs,Rd.upd hp r⟩
theorem StoOk.newZ{s:Sto}{p:Addr}(S:StoOk G w H s)(hp:H p=none)(vs:List V):StoOk G (w.addZ p) (L2.upd H p (.lst vs)) s:=
 S.grow (Le.newZ_ hp _) rfl (fun l h=>aas ((S.fresh hp).2 l h).symm) fun a z=>z.elim (fun z=>let ⟨vs,r⟩:=S.zt a z;⟨vs,Rd.upd hp r⟩) fun q=>⟨vs,.inl (by rw[q];exact aaD)⟩
theorem aeQ{s:Sto}{ts:List T}{vs:List V}(S:StoOk G w H s)(r:aat G w H ts vs)(h:∀w' H' v,Le w w' H H'→StoOk G w' H' s→abc G w' H' (.val (.tup ts)) v→Q v H')(p:Addr)(hp:H p=none):Q (.ref p) (L2.upd H p (.tup vs)):=
 h w _ _ (Le.new hp _) (S.new hp _) ⟨p,vs,rfl,aaD,aat.mono (Le.new hp _) S ts vs r⟩
theorem acj{s:Sto}{ts:List T}{vs:List V}(S:StoOk G w H s)(r:aat G w H ts vs)(h:∀w' H' v,Le w w' H H'→StoOk G w' H' s→abc G w' H' (.val (.lst ts)) v→Q v H')(p:Addr)(hp:H p=none):Q (.ref p) (L2.upd H p (.lst vs)):=
 h _ _ _ (Le.newZ_ hp _) (S.newZ hp vs) ⟨p,vs,rfl,.inr rfl,.inl aaD,aat.mono (Le.newZ_ hp _) S ts vs r⟩
noncomputable def aaN(G:Gx)(X:Cx)(σV:St)(w:Wo)(H:Hp)(res:Res R)(Q:VK):Prop:=match res with
 | .ok (.val (.lst ts)) s'=>∀w' H' a vs,Le w w' H H'→StoOk G w' H' s'→H' a=some (.lst vs)→aat G w' H' ts vs→H a=none→¬w'.Z a→notLoc w' a→Q (.ref a) H'
 | .exc c s'=>∀w' H' pins u sh,Le w w' H H'→StoOk G w' H' s'→aaY G X pins σV H' c u sh→X.xe u sh
 | _=>False
noncomputable def tO(G:Gx)(X:Cx)(C:Cf)(e:E):TE:=fun σV H Q=>∃w₀ H₀ w σ s,Good G w₀ H₀ w H σ s σV∧aaN G X σV w H (ev C e .v σ s) Q
theorem aeF{s:Sto}{ts:List T}{vs:List V}(S:StoOk G w H s)(r:aat G w H ts vs)(h:∀w' H' a vs,Le w w' H H'→StoOk G w' H' s→H' a=some (.lst vs)→aat G w' H' ts vs→H a=none→¬w'.Z a→notLoc w' a→Q (.ref a) H')(p:Addr)(hp:H p=none):Q (.ref p) (L2.upd H p (.lst vs)):=
 h w _ p vs (Le.new hp _) (S.new hp _) aaD (aat.mono (Le.new hp _) S ts vs r) hp (S.fresh hp).1 (S.fresh hp).2
theorem adu.seq{s:Sto}{x:R}{v:V}{ts:List T}(r:adu G w H x v)(e:x.seq=some ts):∃a vs,v=.ref a∧Rd H a (.lst vs)∧aat G w H ts vs:=by
 match x,e with
 | .val (.lst us),e=>obtain⟨a,vs,e1,_,h,q⟩:=r;cases e;exact⟨a,vs,e1,h,q⟩
 | .bor us,e=>obtain⟨a,vs,e1,h,q⟩:=r;cases e;exact⟨a,vs,e1,.inl h,q⟩
theorem abc.seq{s:Sto}{x:R}{v:V}{ts:List T}(r:abc G w H x v)(e:x.seq=some ts):∃a vs,v=.ref a∧Rd H a (.lst vs)∧aat G w H ts vs:=adu.seq (s:=s) r.d e
theorem adu.sq2{x:R}{v:V}{ts:List T}(r:adu G w H x v)(e:x.sq2=some ts):∃a vs,v=.ref a∧(Rd H a (.lst vs)∨H a=some (.tup vs))∧aat G w H ts vs:=by
 match x,e with
 | .val (.lst us),e=>obtain⟨a,vs,e1,_,h,q⟩:=r;cases e;exact⟨a,vs,e1,.inl h,q⟩
 | .val (.tup us),e=>obtain⟨a,vs,e1,h,q⟩:=r;cases e;exact⟨a,vs,e1,.inr h,q⟩
 | .bor us,e=>obtain⟨a,vs,e1,h,q⟩:=r;cases e;exact⟨a,vs,e1,.inl (.inl h),q⟩
theorem abc.sq2{x:R}{v:V}{ts:List T}(r:abc G w H x v)(e:x.sq2=some ts):∃a vs,v=.ref a∧(Rd H a (.lst vs)∨H a=some (.tup vs))∧aat G w H ts vs:=adu.sq2 r.d e
theorem abc.int{x:R}{v:V}{i:Int}(r:abc G w H x v)(e:x.int?=some i):v=.int i:=by
 match x,e with
 | .val (.int j),e=>cases e;exact r
theorem adu.int{x:R}{v:V}{i:Int}(r:adu G w H x v)(e:x.int?=some i):v=.int i:=by
 match x,e with
 | .val (.int j),e=>cases e;exact r
end
end IP
end
section
namespace IP
open PySem PySem.Spec L2
section
variable{G:Gx}{X:Cx}{C:Cf}{a b c:Expr}{a' b' c':E}{pos:Pos}
theorem Rd.lst{pins:List (Addr×Obj)}{σ:St}{H:Hp}{s:Shared}{p:Addr}{xs:List V}(I:Inv X pins σ H s)(h:Rd H p (.lst xs)):
  xs.length≤sizeLine∧∃(its:List Value) (n:Nat),aa7 xs its∧xs.length=its.length∧s.heap.get? p=some { cls:=.type "list",data:=.seq its.toArray n }:=by
 obtain⟨z,its,n,r,e⟩:=Rd.ok h I.hok
 exact⟨z,its,n,r,r.length,e⟩
theorem anW{i:Nat}{x:Str}(hN:X.N[i]?=some x)(hv:Vis X.env.scope x)(hd:(x==("__debug__":Str))=false)(hcd:(x==("__classdict__":Str))=false):PE X (.Name x pos) (tV G X C (.var i)):=by
 refine PE.imp (aea hN hv hd hcd) ?_
 rintro σV H Q ⟨w₀,H₀,w,σ,s,g,h⟩
 obtain⟨r,e,q⟩:=aaQ.of h
 unfold look at e
 split at e
 ·rename_i t ht
  cases e
  obtain⟨v,h1,h2⟩:=g.fr.val i t ht
  exact⟨v,h1,q w H v (Le.refl _ _) g.sto h2⟩
 ·rename_i ts ht
  cases e
  obtain⟨p,vs,h1,h2,h3,_,_,h6⟩:=g.fr.own i _ ts ht rfl
  exact⟨_,h1,q w H _ (Le.refl _ _) g.sto ⟨p,vs,rfl,h2,h3,h6⟩⟩
 ·rename_i ts ht
  cases e
  obtain⟨p,vs,h1,h2,h3,_,h6⟩:=g.fr.bor i ts ht
  exact⟨_,h1,q w H _ (Le.refl _ _) g.sto ⟨p,vs,rfl,h2,h3,h6⟩⟩
 ·rename_i ts ht
  cases e
  obtain⟨p,vs,h1,h2,h3,_,_,h6⟩:=g.fr.own i _ ts ht rfl
  exact⟨_,h1,q w H _ (Le.refl _ _) g.sto ⟨p,vs,rfl,h2,h3,h6⟩⟩
 ·cases e
theorem aka{t:T}{v:V}(r:∀w H,Rep G w H t v){σV:St}{H:Hp}{Q:VK}(h:tV G X C (.cst t) σV H Q):tC v σV H Q:=by
 obtain⟨w₀,H₀,w,σ,s,g,h⟩:=h
 exact h w H v (Le.refl _ _) g.sto (r w H)
theorem aab{i j}:PE X (.Constant (.int i) j pos) (tV G X C (.cst (.int i))):=PE.imp am7 fun _ _ _ h=>aka (t:=.int i) (v:=.int i) (fun _ _=>rfl) h
theorem abY{b j}:PE X (.Constant (.bool b) j pos) (tV G X C (.cst (.bl b))):=PE.imp ao6 fun _ _ _ h=>aka (t:=.bl b) (v:=.bl b) (fun _ _=>rfl) h
theorem af4{j}:PE X (.Constant .none j pos) (tV G X C (.cst .non)):=PE.imp alN fun _ _ _ h=>aka (t:=.non) (v:=.non) (fun _ _=>rfl) h
noncomputable def r2(G:Gx)(f:R→R→Option R):R2:=fun x y H Q=>∃w s rx ry r,StoOk G w H s∧abc G w H rx x∧abc G w H ry y∧f rx ry=some r∧∀w' H' v,Le w w' H H'→StoOk G w' H' s→abc G w' H' r v→Q v H'
theorem air{f:R→R→Option R}{σV:St}{H:Hp}{Q:VK}(h:∃w₀ H₀ w σ s,Good G w₀ H₀ w H σ s σV∧aaQ G X σV w H ((ev C a' .v σ s).bind fun x s1=>(ev C b' .v σ s1).bind fun y s2=>.of (f x y) s2) Q):
  tOp (r2 G f) (tV G X C a') (tV G X C b') σV H Q:=by
 obtain⟨w₀,H₀,w,σ,s,g,h⟩:=h
 refine⟨w₀,H₀,w,σ,s,g,(aaQ.bind h).imp ?_⟩
 rintro x H1 ⟨w1,r1,s1,L1,S1,R1,h1⟩
 refine⟨w₀,H₀,w1,σ,s1,g.step L1 S1,(aaQ.bind h1).imp ?_⟩
 rintro y H2 ⟨w2,r2,s2,L2,S2,R2,h2⟩
 obtain⟨r,e,q⟩:=aaQ.of h2
 exact⟨w2,s2,r1,r2,r,S2,R1.mono L2 S1,R2,e,q⟩
theorem s2{f:R→R→Option R}{op:Operator}(ho:OpR X (binaryOp op) (r2 G f))(ha:PE X a (tV G X C a'))(hb:PE X b (tV G X C b')){e:E}(he:∀σ s,ev C e .v σ s=(ev C a' .v σ s).bind fun x s1=>(ev C b' .v σ s1).bind fun y s2=>.of (f x y) s2):
  PE X (.BinOp a op b pos) (tV G X C e):=by
 refine PE.imp (am2 ho ha hb) fun σV H Q h=>?_
 obtain⟨w₀,H₀,w,σ,s,g,h⟩:=h
 rw[he]at h
 exact air ⟨w₀,H₀,w,σ,s,g,h⟩
theorem s2c{f:R→R→Option R}{op:CmpOp}(ho:OpR X (compareOp op) (r2 G f))(ha:PE X a (tV G X C a'))(hb:PE X b (tV G X C b'))(hm:behindInMarks op b=false){e:E}(he:∀σ s,ev C e .v σ s=(ev C a' .v σ s).bind fun x s1=>(ev C b' .v σ s1).bind fun y s2=>.of (f x y) s2):
  PE X (.Compare a [op] [b] pos) (tV G X C e):=by
 refine PE.imp (akp ho ha hb hm) fun σV H Q h=>?_
 obtain⟨w₀,H₀,w,σ,s,g,h⟩:=h
 rw[he]at h
 exact air ⟨w₀,H₀,w,σ,s,g,h⟩
theorem adf{j:Int}(h:j.natAbs<big):j.natAbs.log2<1000:=by
 rcases Nat.eq_zero_or_pos j.natAbs with h0|hp
 ·rw[h0];decide
 ·refine(Nat.log2_lt (Nat.ne_of_gt hp)).mpr (Nat.lt_trans h ?_)
  unfold big
  decide +kernel
theorem aeG{k:Int}(h:k.natAbs<big):Builtin.Int.intBits k≤1000:=by
 unfold Builtin.Int.intBits
 split
 ·exact Nat.zero_le _
 ·have:=adf h
  omega
theorem akK{i j:Int}(h:ahG i j=true):IntMulOk i j:=by
 unfold ahG at h
 rw[Bool.or_eq_true,Bool.or_eq_true,Bool.and_eq_true,decide_eq_true_iff,decide_eq_true_iff,decide_eq_true_iff,decide_eq_true_iff]at h
 rcases h with(h|h)|⟨h1,h2⟩
 ·exact IntMulOk.of_left (intBits_le_64 (by omega) (by omega))
 ·exact IntMulOk.of_right (intBits_le_64 (by omega) (by omega))
 ·exact PyProof.Rows.mulOk_of_bits (aeG h1) (aeG h2) (by decide)
noncomputable def ani:Op→Operator
 | .add=>.Add | .sub=>.Sub | .mul=>.Mult | .fdiv=>.FloorDiv | .mod=>.Mod | .pow=>.Pow
theorem ann(o:Op)(i j k:Int)(h:opI o i j=some k):∀(t u:Tok) (s:Shared) (Q:Value→Shared→Prop) (E:Value→Shared→Prop),Q (.int k s.toks) { s with toks:=s.toks+1 }→wpAny (model X.prog X.w) X.A (binaryOp (ani o) (.int i t) (.int j u)) Q E s:=by
 intro t u s Q E q
 cases o with
 | add=>cases h;exact PyProof.Rows.add_int q
 | sub=>cases h;exact PyProof.Rows.sub_int q
 | mul=>
  simp only[opI]at h
  split at h
  ·rename_i hm;cases h;exact PyProof.Rows.mul_int q (akK hm)
  ·cases h
 | fdiv=>
  simp only[opI]at h
  split at h
  ·rename_i hm;cases h;exact PyProof.Rows.floordiv_int hm.1 q (Or.inl (PyProof.noPylong_of_log2 (Nat.lt_trans (adf hm.2) (by decide))))
  ·cases h
 | mod=>
  simp only[opI]at h
  split at h
  ·rename_i hm;cases h;exact PyProof.Rows.mod_int hm q
  ·cases h
 | pow=>
  simp only[opI]at h
  split at h
  ·rename_i hm
   cases h
   refine PyProof.Rows.pow_int hm.1 ?_ q
   have h1:=aeG hm.2.2
   have h2:((Builtin.Int.intBits i:Nat):Int)*j≤1000*100:=by
    refine Int.mul_le_mul (by omega) hm.2.1 hm.1 (by omega)
   omega
  ·cases h
theorem ap7(o:Op):OpR X (binaryOp (ani o)) (r2 G (opR o)):=by
 intro pins s σ H x y v u Q I rx ry h
 obtain⟨w,st,x',y',r,S,Rx,Ry,e,q⟩:=h
 have intc:∀i j k,x'=.val (.int i)→y'=.val (.int j)→opI o i j=some k→r=.val (.int k)→wpAny (model X.prog X.w) X.A (binaryOp (ani o) v u) (EP X pins σ Q) X.xe s:=by
  rintro i j k rfl rfl ho rfl
  have hx:x=.int i:=Rx
  have hy:y=.int j:=Ry
  subst hx hy
  obtain⟨t,rfl⟩:=rx
  obtain⟨t2,rfl⟩:=ry
  exact ann o i j k ho t t2 s _ _ ⟨.int k,H,I.tok _,⟨_,rfl⟩,q w H _ (Le.refl _ _) S rfl⟩
 have lstc:∀xs ys,x'.seq=some xs→y'.seq=some ys→o=.add→xs.length+ys.length≤lim→r=.val (.lst (xs++ys))→wpAny (model X.prog X.w) X.A (binaryOp (ani o) v u) (EP X pins σ Q) X.xe s:=by
  rintro xs ys e1 e2 rfl hl rfl
  obtain⟨p,vs,rfl,hp,r1⟩:=abc.seq (s:=st) Rx e1
  obtain⟨p2,vs2,rfl,hp2,r2⟩:=abc.seq (s:=st) Ry e2
  cases rx
  cases ry
  obtain⟨z,its,n,q1,l1,g1⟩:=Rd.lst I hp
  obtain⟨z2,its2,n2,q2,l2,g2⟩:=Rd.lst I hp2
  have hz:its.length+its2.length≤sizeLine:=by
   rw[←l1,←l2,←r1.length,←r2.length]
   have:lim≤sizeLine:=by decide
   omega
  refine PySem.P.add_list g1 g2 ?_ (by rw[List.size_toArray,List.size_toArray];exact hz)
  have ea:its.toArray++its2.toArray=(its++its2).toArray:=by simp
  rw[ea]
  exact⟨.ref _,_,I.lnew (t':=s.toks) (q1.append q2) (by rw[List.length_append,l1,l2];exact hz),rfl,acj S (r1.append r2) q _ I.fresh⟩
 unfold opR at e
 split at e
 ·rename_i i j
  cases ho:opI o i j with
  | none=>rw[ho]at e;cases e
  | some k=>rw[ho]at e;cases e;exact intc i j k rfl rfl ho rfl
 ·rename_i xs ys
  split at e
  ·rename_i hc
   cases e
   obtain⟨p,vs,rfl,hp,r1⟩:=Rx
   obtain⟨p2,vs2,rfl,hp2,r2⟩:=Ry
   have n1:vs≠[]:=by
    intro z;subst z
    exact hc.1 (List.length_eq_zero_iff.mp r1.length)
   have n2:vs2≠[]:=by
    intro z;subst z
    exact hc.2.1 (List.length_eq_zero_iff.mp r2.length)
   refine ajO pins s σ H _ _ v u Q I rx ry ⟨p,p2,vs,vs2,rfl,rfl,SqT.of hp,SqT.of hp2,n1,?_,fun z=>absurd z n2,fun _=>aeQ S (r1.append r2) q⟩
   rw[←r1.length,←r2.length]
   have:lim≤sizeLine:=by decide
   omega
  ·cases e
 ·split at e
  ·rename_i xs ys e1 e2
   split at e
   ·rename_i hl
    cases e
    exact lstc xs ys e1 e2 rfl hl rfl
   ·cases e
  ·cases e
 ·cases e
theorem aac(o:Op)(ha:PE X a (tV G X C a'))(hb:PE X b (tV G X C b')):PE X (.BinOp a (ani o) b pos) (tV G X C (.bin o a' b')):=s2 (ap7 o) ha hb fun _ _=>rfl
end
end IP
end
section
namespace IP
open PySem PySem.Spec L2 PySem.SeqAt
section
variable{G:Gx}{X:Cx}{pins:List (Addr×Obj)}{σ:St}{H:Hp}{s:Shared}{w:Wo}{st:Sto}
theorem abd{a:Addr}{vs:List V}(I:Inv X pins σ H s)(h:H a=some (.tup vs)):∃its:List Value,aa7 vs its∧s.heap.IsTuple a its.toArray:=by
 obtain⟨its,r,q,_⟩:=I.tuple (SqT.of (K:=X.K) h)
 exact⟨its,r,q⟩
theorem aaO{a:Addr}{vs:List V}(I:Inv X pins σ H s)(h:Rd H a (.lst vs)):∃its:List Value,aa7 vs its∧s.heap.IsList a its.toArray:=by
 obtain⟨_,its,n,r,_,e⟩:=Rd.lst I h
 exact⟨its,r,_,e,rfl,n,rfl⟩
theorem adL{f:T→T→Option Bool}:∀(ts us:List T) (vs:List V),(∀t u v k,Rep G w H t v→Rep G w H u v→f t u=some k→k=true)→aat G w H ts vs→aat G w H us vs→∀k,eqL f ts us=some k→k=true
 | [],[],_,_,_,_,k,h=>by cases h;rfl
 | [],_::_,_,_,h1,h2,k,h=>by
  obtain⟨v,r,e,_⟩:=h2
  rw[h1]at e
  cases e
 | _::_,[],_,_,h1,h2,k,h=>by
  obtain⟨v,r,e,_⟩:=h1
  rw[h2]at e
  cases e
 | t::ts,u::us,_,hf,⟨v,r,e,h1,h2⟩,⟨v',r',e',h1',h2'⟩,k,h=>by
  subst e
  cases e'
  unfold eqL at h
  split at h
  ·rename_i k1 k2 q1 q2
   cases h
   rw[hf t u v k1 h1 h1' q1,adL ts us r hf h2 h2' k2 q2]
   rfl
  ·cases h
theorem ac5:∀(n:Nat) (t u:T) (v:V) (k:Bool),Rep G w H t v→Rep G w H u v→eqD n t u=some k→k=true
 | n,.non,u,v,k,h1,h2,h=>by
  cases h1
  cases u<;>simp only[Rep]at h2<;>first|(cases h2;done)|(simp[eqD]at h;exact h)|(obtain⟨a,vs,e,_⟩:=h2;cases e)|(obtain⟨e,e2⟩:=h2;cases e2;done)|(obtain⟨e,e2,_⟩:=h2;cases e2)
 | n,.bl b,u,v,k,h1,h2,h=>by
  cases h1
  cases u<;>simp only[Rep]at h2<;>first|(cases h2;done)|(cases h2;simp[eqD]at h;exact h)|(obtain⟨a,vs,e,_⟩:=h2;cases e)|(obtain⟨e,e2⟩:=h2;cases e2;done)|(obtain⟨e,e2,_⟩:=h2;cases e2)
 | n,.int i,u,v,k,h1,h2,h=>by
  cases h1
  cases u<;>simp only[Rep]at h2<;>first|(cases h2;done)|(cases h2;simp[eqD]at h;exact h)|(obtain⟨a,vs,e,_⟩:=h2;cases e)|(obtain⟨e,e2⟩:=h2;cases e2;done)|(obtain⟨e,e2,_⟩:=h2;cases e2)
 | n,.str x,u,v,k,h1,h2,h=>by
  cases h1
  cases u<;>simp only[Rep]at h2<;>first|(cases h2;done)|(cases h2;simp[eqD]at h;exact h)|(obtain⟨a,vs,e,_⟩:=h2;cases e)|(obtain⟨e,e2⟩:=h2;cases e2;done)|(obtain⟨e,e2,_⟩:=h2;cases e2)
 | 0,.tup ts,u,v,k,h1,h2,h=>by cases u<;>simp[eqD]at h
 | n+1,.tup ts,u,v,k,h1,h2,h=>by
  obtain⟨a,vs,e,q,r⟩:=h1
  subst e
  cases u with
  | tup us=>
   obtain⟨a',vs',e',q',r'⟩:=h2
   cases e'
   rw[q]at q'
   cases q'
   simp only[eqD]at h
   exact adL ts us vs (fun t u v k=>ac5 n t u v k) r r' k h
  | non=>cases h2
  | _=>simp[eqD]at h
 | 0,.lst ts,u,v,k,h1,h2,h=>by cases u<;>simp[eqD]at h
 | n+1,.lst ts,u,v,k,h1,h2,h=>by
  obtain⟨a,vs,e,z,q,r⟩:=h1
  subst e
  cases u with
  | lst us=>
   obtain⟨a',vs',e',z',q',r'⟩:=h2
   cases e'
   have ev:vs=vs':=by
    rcases q with q|⟨o,q⟩<;>rcases q' with q'|⟨o',q'⟩<;>(rw[q]at q';cases q';try rfl)
   subst ev
   simp only[eqD]at h
   exact adL ts us vs (fun t u v k=>ac5 n t u v k) r r' k h
  | _=>simp[eqD]at h
 | n,.loc l,u,v,k,h1,h2,h=>by cases u<;>simp[eqD]at h
 | n,.exc c,u,v,k,h1,h2,h=>by cases u<;>simp[eqD]at h
theorem acL{f:T→T→Option Bool}:∀(ts us:List T) (k:Bool),eqL f ts us=some k→∃e:Nat→Bool,(∀(j:Nat) t u,ts[j]?=some t→us[j]?=some u→f t u=some (e j))∧k=((List.range (min ts.length us.length)).all e&&ts.length==us.length)
 | [],[],k,h=>by cases h;exact⟨fun _=>true,fun j t u z=>by simp at z,rfl⟩
 | [],u::us,k,h=>by cases h;exact⟨fun _=>true,fun j t u z=>by simp at z,by simp⟩
 | t::ts,[],k,h=>by cases h;exact⟨fun _=>true,fun j t u _ z=>by simp at z,by simp⟩
 | t::ts,u::us,k,h=>by
  unfold eqL at h
  split at h
  ·rename_i k1 k2 q1 q2
   cases h
   obtain⟨e,h1,h2⟩:=acL ts us k2 q2
   refine⟨fun j=>match j with | 0=>k1|j+1=>e j,fun j t' u' z1 z2=>?_,?_⟩
   ·cases j with
    | zero=>simp at z1 z2;subst z1 z2;exact q1
    | succ j=>simp at z1 z2;exact h1 j t' u' z1 z2
   ·rw[h2]
    have em:min (t::ts).length (u::us).length=min ts.length us.length+1:=by simp[Nat.succ_min_succ]
    rw[em,List.range_succ_eq_map,List.all_cons,List.all_map]
    have el:((t::ts).length==(u::us).length)=(ts.length==us.length):=by simp
    rw[el,Bool.and_assoc]
    rfl
  ·cases h
theorem ad4{vs:List V}{its:List Value}(r:aa7 vs its){j:Nat}{u:Value}(e:its[j]?=some u):∃v,vs[j]?=some v∧aaJ v u:=by
 have hj:j<vs.length:=by rw[r.length];exact(List.getElem?_eq_some_iff.mp e).1
 obtain⟨u',h1,h2⟩:=r.get (List.getElem?_eq_getElem hj)
 rw[e]at h1
 cases h1
 exact⟨_,List.getElem?_eq_getElem hj,h2⟩
variable{A:Around}
theorem abA{n:Nat}{ts us:List T}{vs vs':List V}{its its':List Value}{e:Nat→Bool}(r:aat G w H ts vs)(r':aat G w H us vs')(q:aa7 vs its)(q':aa7 vs' its')
  (he:∀(j:Nat) t u,ts[j]?=some t→us[j]?=some u→eqD n t u=some (e j))
  (ih:∀(t u:T) (v v':V) (x y:Value) (k:Bool),Rep G w H t v→Rep G w H u v'→aaJ v x→aaJ v' y→eqD n t u=some k→EqAt A s x y k):
  ∀j (h1:j<its.toArray.size) (h2:j<its'.toArray.size),EqAt A s its.toArray[j] its'.toArray[j] (e j):=by
 intro j h1 h2
 have h1':j<its.length:=by simpa using h1
 have h2':j<its'.length:=by simpa using h2
 obtain⟨v,e1,rv⟩:=ad4 q (List.getElem?_eq_getElem h1')
 obtain⟨v',e2,rv'⟩:=ad4 q' (List.getElem?_eq_getElem h2')
 obtain⟨t,e3,rt⟩:=r.get' e1
 obtain⟨u,e4,ru⟩:=r'.get' e2
 have:=ih t u v v' its[j] its'[j] (e j) rt ru rv rv' (he j t u e3 e4)
 simpa using this
theorem ahx(I:Inv X pins σ H s):∀(n:Nat) (A:Around),A.units+n<cLine→∀(t u:T) (v v':V) (x y:Value) (k:Bool),Rep G w H t v→Rep G w H u v'→aaJ v x→aaJ v' y→eqD n t u=some k→EqAt A s x y k:=by
 intro n
 induction n with
 | zero=>
  intro A hu t u v v' x y k h1 h2 r1 r2 h
  cases t<;>cases u<;>simp only[eqD]at h<;>first|(cases h;done)|skip
  ·cases h;cases h1;cases h2;cases r1;cases r2;exact EqAt.same _
  ·cases h;cases h1;cases h2;cases r1;obtain⟨_,rfl⟩:=r2;exact EqAt.none_int _ _
  ·cases h;cases h1;cases h2;cases r1;cases r2;exact EqAt.bool_bool _ _
  ·cases h;cases h1;cases h2;obtain⟨_,rfl⟩:=r1;cases r2;exact EqAt.int_none _ _
  ·cases h;cases h1;cases h2;obtain⟨_,rfl⟩:=r1;obtain⟨_,rfl⟩:=r2;exact EqAt.int_int _ _ _ _
  ·cases h;cases h1;cases h2;obtain⟨_,rfl⟩:=r1;obtain⟨_,rfl⟩:=r2;exact EqAt.str_str _ _ _ _
 | succ n ih=>
  intro A hu t u v v' x y k h1 h2 r1 r2 h
  have hu0:A.units<cLine:=by omega
  have hin:A.in1.units+n<cLine:=by show A.units+1+n<cLine;omega
  cases t<;>cases u<;>simp only[eqD]at h<;>first|(cases h;done)|skip
  ·cases h;cases h1;cases h2;cases r1;cases r2;exact EqAt.same _
  ·cases h;cases h1;cases h2;cases r1;obtain⟨_,rfl⟩:=r2;exact EqAt.none_int _ _
  ·cases h
   obtain⟨a,vs,e,q,_⟩:=h2
   subst e
   cases h1;cases r1;cases r2
   obtain⟨its,_,hi⟩:=abd I q
   exact EqAt.none_tuple hi hu0
  ·cases h;cases h1;cases h2;cases r1;cases r2;exact EqAt.bool_bool _ _
  ·cases h;cases h1;cases h2;obtain⟨_,rfl⟩:=r1;cases r2;exact EqAt.int_none _ _
  ·cases h;cases h1;cases h2;obtain⟨_,rfl⟩:=r1;obtain⟨_,rfl⟩:=r2;exact EqAt.int_int _ _ _ _
  ·cases h;cases h1;cases h2;obtain⟨_,rfl⟩:=r1;obtain⟨_,rfl⟩:=r2;exact EqAt.str_str _ _ _ _
  ·cases h
   obtain⟨a,vs,e,q,_⟩:=h1
   subst e
   cases h2;cases r1;cases r2
   obtain⟨its,_,hi⟩:=abd I q
   exact EqAt.tuple_none hi hu0
  ·rename_i ts us
   have hs:=ac5 (G:=G) (w:=w) (H:=H) (n+1) (.tup ts) (.tup us)
   have h1':=h1
   have h2':=h2
   obtain⟨a,vs,e,q,r⟩:=h1
   obtain⟨a',vs',e',q',r'⟩:=h2
   subst e e'
   cases r1;cases r2
   by_cases ea:a=a'
   ·subst ea
    have hk:k=true:=hs (.ref a) k h1' h2' (by simp only[eqD];exact h)
    subst hk
    exact EqAt.same _
   ·obtain⟨its,q1,hi⟩:=abd I q
    obtain⟨its',q1',hi'⟩:=abd I q'
    obtain⟨e,he,hk⟩:=acL ts us k h
    have hz:=RcAt.tuples hi hi' hu0 (abA r r' q1 q1' he (ih A.in1 hin))
    rw[List.size_toArray,List.size_toArray,←q1.length,←q1'.length,←r.length,←r'.length,←hk]at hz
    exact EqAt.of_refs ea hz
  ·rename_i ts us
   have hs:=ac5 (G:=G) (w:=w) (H:=H) (n+1) (.lst ts) (.lst us)
   have h1':=h1
   have h2':=h2
   obtain⟨a,vs,e,_,q,r⟩:=h1
   obtain⟨a',vs',e',_,q',r'⟩:=h2
   subst e e'
   cases r1;cases r2
   by_cases ea:a=a'
   ·subst ea
    have hk:k=true:=hs (.ref a) k h1' h2' (by simp only[eqD];exact h)
    subst hk
    exact EqAt.same _
   ·obtain⟨its,q1,hi⟩:=aaO I q
    obtain⟨its',q1',hi'⟩:=aaO I q'
    obtain⟨e,he,hk⟩:=acL ts us k h
    have l1:its.toArray.size=ts.length:=by rw[List.size_toArray,←q1.length,←r.length]
    have l2:its'.toArray.size=us.length:=by rw[List.size_toArray,←q1'.length,←r'.length]
    by_cases el:ts.length=us.length
    ·have hz:=RcAt.lists hi hi' (by rw[l1,l2,el]) hu0 (abA r r' q1 q1' he (ih A.in1 hin))
     rw[l1]at hz
     rw[el,Nat.min_self]at hk
     have:k=(List.range us.length).all e:=by rw[hk];simp
     rw[el,←this]at hz
     exact EqAt.of_refs ea hz
    ·have hz:=RcAt.lists_lengths hi hi' (by rw[l1,l2];simpa using el) hu0
     have:k=false:=by rw[hk];simp[el]
     rw[this]
     exact EqAt.of_refs ea hz
end
end IP
end
section
namespace IP
open PySem PySem.Spec L2 PySem.SeqAt
section
variable{G:Gx}{X:Cx}{pins:List (Addr×Obj)}{σ:St}{H:Hp}{s:Shared}{w:Wo}{st:Sto}{A:Around}
theorem acC(I:Inv X pins σ H s)(hu:A.units+8<cLine){a b:Addr}{vs vs':List V}{ts us:List T}{k:Bool}(q:Rd H a (.lst vs))(q':Rd H b (.lst vs'))(r:aat G w H ts vs)(r':aat G w H us vs')(h:eqL (eqD 7) ts us=some k):
  RcAt A s (.ref a) (.ref b) k∧RcNeAt A s (.ref a) (.ref b) (!k):=by
 have hu0:A.units<cLine:=by omega
 have hin:A.in1.units+7<cLine:=by show A.units+1+7<cLine;omega
 obtain⟨its,q1,hi⟩:=aaO I q
 obtain⟨its',q1',hi'⟩:=aaO I q'
 obtain⟨e,he,hk⟩:=acL ts us k h
 have l1:its.toArray.size=ts.length:=by rw[List.size_toArray,←q1.length,←r.length]
 have l2:its'.toArray.size=us.length:=by rw[List.size_toArray,←q1'.length,←r'.length]
 have hp:=abA (s:=s) (A:=A.in1) r r' q1 q1' he (ahx I 7 A.in1 hin)
 by_cases el:ts.length=us.length
 ·have hz:=RcAt.lists hi hi' (by rw[l1,l2,el]) hu0 hp
  have hy:=RcNeAt.lists hi hi' (by rw[l1,l2,el]) hu0 hp
  rw[el,Nat.min_self]at hk
  have:k=(List.range us.length).all e:=by rw[hk];simp
  rw[l1,el,←this]at hz hy
  exact⟨hz,hy⟩
 ·have hz:=RcAt.lists_lengths hi hi' (by rw[l1,l2];simpa using el) hu0
  have hy:=RcNeAt.lists_lengths hi hi' (by rw[l1,l2];simpa using el) hu0
  have:k=false:=by rw[hk];simp[el]
  rw[this]
  exact⟨hz,hy⟩
theorem akx(I:Inv X pins σ H s)(hu:A.units+8<cLine){a b:Addr}{vs vs':List V}{ts us:List T}{k:Bool}(q:H a=some (.tup vs))(q':H b=some (.tup vs'))(r:aat G w H ts vs)(r':aat G w H us vs')(h:eqL (eqD 7) ts us=some k):
  RcAt A s (.ref a) (.ref b) k∧RcNeAt A s (.ref a) (.ref b) (!k):=by
 have hu0:A.units<cLine:=by omega
 have hin:A.in1.units+7<cLine:=by show A.units+1+7<cLine;omega
 obtain⟨its,q1,hi⟩:=abd I q
 obtain⟨its',q1',hi'⟩:=abd I q'
 obtain⟨e,he,hk⟩:=acL ts us k h
 have hp:=abA (s:=s) (A:=A.in1) r r' q1 q1' he (ahx I 7 A.in1 hin)
 have hz:=RcAt.tuples hi hi' hu0 hp
 have hy:=RcNeAt.tuples hi hi' hu0 hp
 rw[List.size_toArray,List.size_toArray,←q1.length,←q1'.length,←r.length,←r'.length,←hk]at hz hy
 exact⟨hz,hy⟩
theorem avk(I:Inv X pins σ H s)(hu:A.units+8<cLine){t u:T}{v v':V}{x y:Value}{k:Bool}(h1:Rep G w H t v)(h2:Rep G w H u v')(r1:aaJ v x)(r2:aaJ v' y)(h:eqD 8 t u=some k):
  RcAt A s x y k∧RcNeAt A s x y (!k):=by
 have hu0:A.units<cLine:=by omega
 cases t<;>cases u<;>simp only[eqD]at h<;>first|(cases h;done)|skip
 ·cases h;cases h1;cases h2;cases r1;cases r2;exact⟨RcAt.none_none,RcNeAt.none_none⟩
 ·cases h;cases h1;cases h2;cases r1;obtain⟨_,rfl⟩:=r2;exact⟨RcAt.none_int _ _,RcNeAt.none_int _ _⟩
 ·cases h
  obtain⟨a,vs,e,q,_⟩:=h2
  subst e
  cases h1;cases r1;cases r2
  obtain⟨its,_,hi⟩:=abd I q
  exact⟨RcAt.none_tuple hi hu0,RcNeAt.none_tuple hi hu0⟩
 ·cases h;cases h1;cases h2;cases r1;cases r2;exact⟨RcAt.bool_bool _ _,RcNeAt.bool_bool _ _⟩
 ·cases h;cases h1;cases h2;obtain⟨_,rfl⟩:=r1;cases r2;exact⟨RcAt.int_none _ _,RcNeAt.int_none _ _⟩
 ·cases h;cases h1;cases h2;obtain⟨_,rfl⟩:=r1;obtain⟨_,rfl⟩:=r2;exact⟨RcAt.int_int _ _ _ _,RcNeAt.int_int _ _ _ _⟩
 ·cases h;cases h1;cases h2;obtain⟨_,rfl⟩:=r1;obtain⟨_,rfl⟩:=r2;exact⟨RcAt.str_str _ _ _ _,RcNeAt.str_str _ _ _ _⟩
 ·cases h
  obtain⟨a,vs,e,q,_⟩:=h1
  subst e
  cases h2;cases r1;cases r2
  obtain⟨its,_,hi⟩:=abd I q
  exact⟨RcAt.tuple_none hi hu0,RcNeAt.tuple_none hi hu0⟩
 ·obtain⟨a,vs,e,q,r⟩:=h1
  obtain⟨a',vs',e',q',r'⟩:=h2
  subst e e'
  cases r1;cases r2
  exact akx I hu q q' r r' h
 ·obtain⟨a,vs,e,_,q,r⟩:=h1
  obtain⟨a',vs',e',_,q',r'⟩:=h2
  subst e e'
  cases r1;cases r2
  exact acC I hu q q' r r' h
theorem atH(I:Inv X pins σ H s)(hu:A.units+8<cLine){t u:R}{v v':V}{x y:Value}{k:Bool}(h1:abc G w H t v)(h2:abc G w H u v')(r1:aaJ v x)(r2:aaJ v' y)(h:eqR t u=some k):
  RcAt A s x y k∧RcNeAt A s x y (!k):=by
 unfold eqR at h
 split at h
 ·exact avk I hu h1 h2 r1 r2 h
 ·obtain⟨a,vs,e,_,q,r⟩:=h1
  obtain⟨a',vs',e',q',r',_⟩:=h2
  subst e e'
  cases r1;cases r2
  exact acC I hu q (.inl q') r r' h
 ·obtain⟨a,vs,e,q,r,_⟩:=h1
  obtain⟨a',vs',e',_,q',r'⟩:=h2
  subst e e'
  cases r1;cases r2
  exact acC I hu (.inl q) q' r r' h
 ·obtain⟨a,vs,e,q,r,_⟩:=h1
  obtain⟨a',vs',e',q',r',_⟩:=h2
  subst e e'
  cases r1;cases r2
  exact acC I hu (.inl q) (.inl q') r r' h
 ·cases h
end
section
variable{G:Gx}{X:Cx}{C:Cf}{a b c:Expr}{a' b' c':E}{pos:Pos}
noncomputable def aiO:Cm→CmpOp
 | .lt=>.Lt | .le=>.LtE | .gt=>.Gt | .ge=>.GtE | .eq=>.Eq | .ne=>.NotEq | .isN=>.Is | .notN=>.IsNot | .mem=>.In | .nmem=>.NotIn
noncomputable def ahF(c:Cm)(x y:R):Option R:=(adc c x y).map fun k=>.val (.bl k)
theorem abC{pins:List (Addr×Obj)}{σ:St}{H:Hp}{s:Shared}{w:Wo}{st:Sto}{Q:VK}{k:Bool}(I:Inv X pins σ H s)(S:StoOk G w H st)(q:∀w' H' v,Le w w' H H'→StoOk G w' H' st→abc G w' H' (.val (.bl k)) v→Q v H'):EP X pins σ Q (.bool k) s:=
 ⟨.bl k,H,I,rfl,q w H _ (Le.refl _ _) S rfl⟩
theorem adK{op:CmpOp}{f:Int→Int→Bool}{c:Cm}(hc:∀x y r,ahF c x y=some r→∃i j,x=.val (.int i)∧y=.val (.int j)∧r=.val (.bl (f i j)))
  (ho:OpR X (compareOp op) (rI0 fun i j=>.bl (f i j))):OpR X (compareOp op) (r2 G (ahF c)):=by
 intro pins s σ H x y v u Q I rx ry h
 obtain⟨w,st,x',y',r,S,Rx,Ry,e,q⟩:=h
 obtain⟨i,j,rfl,rfl,rfl⟩:=hc x' y' r e
 have hx:x=.int i:=Rx
 have hy:y=.int j:=Ry
 exact ho pins s σ H x y v u Q I rx ry ⟨i,j,hx,hy,q w H _ (Le.refl _ _) S rfl⟩
theorem aof{x y:R}{g:Int→Int→Bool}{r:R}(h:(do let i ←x.int?;let j ←y.int?;some (g i j)).map (fun k=>R.val (.bl k))=some r):∃i j,x=.val (.int i)∧y=.val (.int j)∧r=.val (.bl (g i j)):=by
 match x,y with
 | .val (.int i),.val (.int j)=>cases h;exact⟨i,j,rfl,rfl,rfl⟩
 | .val (.int i),.val .non=>cases h
 | .val (.int i),.val (.bl _)=>cases h
 | .val (.int i),.val (.str _)=>cases h
 | .val (.int i),.val (.tup _)=>cases h
 | .val (.int i),.val (.lst _)=>cases h
 | .val (.int i),.val (.loc _)=>cases h
 | .val (.int i),.val (.exc _)=>cases h
 | .val (.int i),.bor _=>cases h
 | .val .non,_=>cases h
 | .val (.bl _),_=>cases h
 | .val (.str _),_=>cases h
 | .val (.tup _),_=>cases h
 | .val (.lst _),_=>cases h
 | .val (.loc _),_=>cases h
 | .val (.exc _),_=>cases h
 | .bor _,_=>cases h
theorem adr{w:Wo}{H:Hp}{x:R}{v:V}(r:abc G w H x v):decide (v=.non)=x.isNon:=by
 match x,r with
 | .val .non,r=>cases r;rfl
 | .val (.bl _),r=>cases r;rfl
 | .val (.int _),r=>cases r;rfl
 | .val (.str _),r=>cases r;rfl
 | .val (.tup _),r=>obtain⟨_,_,e,_⟩:=r;subst e;rfl
 | .val (.lst _),r=>obtain⟨_,_,e,_⟩:=r;subst e;rfl
 | .val (.loc _),r=>obtain⟨_,e⟩:=r;subst e;rfl
 | .val (.exc _),r=>obtain⟨_,e,_⟩:=r;subst e;rfl
 | .bor _,r=>obtain⟨_,_,e,_⟩:=r;subst e;rfl
theorem acV{w:Wo}{H:Hp}{f:T→T→Option Bool}(hf:∀t t' u v k k',Rep G w H t v→Rep G w H t' v→f t u=some k→f t' u=some k'→k=k'):
  ∀(ts ts' us:List T) (vs:List V) (k k':Bool),aat G w H ts vs→aat G w H ts' vs→eqL f ts us=some k→eqL f ts' us=some k'→k=k'
 | [],[],us,vs,k,k',_,_,h,h'=>by rw[h]at h';cases h';rfl
 | [],_::_,us,vs,k,k',r,r',h,h'=>by obtain⟨v,q,e,_⟩:=r';rw[r]at e;cases e
 | _::_,[],us,vs,k,k',r,r',h,h'=>by obtain⟨v,q,e,_⟩:=r;rw[r']at e;cases e
 | t::ts,t'::ts',[],vs,k,k',r,r',h,h'=>by cases h;cases h';rfl
 | t::ts,t'::ts',u::us,vs,k,k',⟨v,q,e,h1,h2⟩,⟨v',q',e',h1',h2'⟩,h,h'=>by
  subst e
  cases e'
  unfold eqL at h h'
  split at h
  ·rename_i k1 k2 z1 z2
   split at h'
   ·rename_i k3 k4 z3 z4
    cases h
    cases h'
    rw[hf t t' u v k1 k3 h1 h1' z1 z3,acV hf ts ts' us q k2 k4 h2 h2' z2 z4]
   ·cases h'
  ·cases h
theorem ae0{w:Wo}{H:Hp}:∀(n:Nat) (t t' u:T) (v:V) (k k':Bool),Rep G w H t v→Rep G w H t' v→eqD n t u=some k→eqD n t' u=some k'→k=k':=by
 intro n
 induction n with
 | zero=>
  intro t t' u v k k' h1 h2 e1 e2
  cases t<;>cases t'<;>first
   | (cases h1;cases h2;rw[e1]at e2;cases e2;rfl)
   | (cases u<;>simp[eqD]at e1;done)
   | (cases u<;>simp[eqD]at e2;done)
   | (cases h1;cases h2;done)
 | succ n ih=>
  intro t t' u v k k' h1 h2 e1 e2
  cases t<;>cases t'<;>first
   | (cases h1;cases h2;rw[e1]at e2;cases e2;rfl)
   | (cases h1;cases h2;done)
   | (cases u<;>simp[eqD]at e1;done)
   | (cases u<;>simp[eqD]at e2;done)
   | (cases h1;obtain⟨_,_,z,_⟩:=h2;cases z;done)
   | (cases h2;obtain⟨_,_,z,_⟩:=h1;cases z;done)
   | skip
  ·rename_i ts ts'
   obtain⟨a,vs,e,q,r⟩:=h1
   obtain⟨a',vs',e',q',r'⟩:=h2
   subst e
   cases e'
   rw[q]at q'
   cases q'
   cases u<;>simp only[eqD]at e1 e2<;>first|(cases e1;done)|(cases e1;cases e2;rfl)|exact acV (ih ·  ·  ·  ·  ·  ·) ts ts' _ vs k k' r r' e1 e2
  ·obtain⟨a,vs,e,q,r⟩:=h1
   obtain⟨a',vs',e',_,q',r'⟩:=h2
   subst e
   cases e'
   rcases q' with q'|⟨_,q'⟩<;>(rw[q]at q';cases q')
  ·obtain⟨a,vs,e,_,q,r⟩:=h1
   obtain⟨a',vs',e',q',r'⟩:=h2
   subst e
   cases e'
   rcases q with q|⟨_,q⟩<;>(rw[q]at q';cases q')
  ·rename_i ts ts'
   obtain⟨a,vs,e,_,q,r⟩:=h1
   obtain⟨a',vs',e',_,q',r'⟩:=h2
   subst e
   cases e'
   have ev:vs=vs':=by
    rcases q with q|⟨o,q⟩<;>rcases q' with q'|⟨o',q'⟩<;>(rw[q]at q';cases q';try rfl)
   subst ev
   cases u<;>simp only[eqD]at e1 e2<;>first|(cases e1;done)|(cases e1;cases e2;rfl)|exact acV (ih ·  ·  ·  ·  ·  ·) ts ts' _ vs k k' r r' e1 e2
theorem afj{x:T}:∀(ts:List T) (k:Bool),ajl x ts=some k→(∀t∈ts,∃j,eqD 8 t x=some j)∧(k=true↔∃t∈ts,eqD 8 t x=some true)
 | [],k,h=>by cases h;exact⟨fun t z=>by simp at z,by simp⟩
 | t::ts,k,h=>by
  unfold ajl at h
  split at h
  ·rename_i k1 k2 z1 z2
   cases h
   obtain⟨h1,h2⟩:=afj ts k2 z2
   refine⟨fun u hu=>?_,?_⟩
   ·rcases List.mem_cons.mp hu with rfl|hu
    ·exact⟨k1,z1⟩
    ·exact h1 u hu
   ·constructor
    ·intro q
     rcases(Bool.or_eq_true _ _).mp q with q|q
     ·subst q;exact⟨t,List.mem_cons_self ..,z1⟩
     ·obtain⟨u,hu,e⟩:=h2.mp q
      exact⟨u,List.mem_cons_of_mem _ hu,e⟩
    ·rintro⟨u,hu,e⟩
     rcases List.mem_cons.mp hu with rfl|hu
     ·have:some k1=some true:=z1.symm.trans e
      cases this
      rfl
     ·rw[h2.mpr ⟨u,hu,e⟩,Bool.or_true]
  ·cases h
theorem afn{vs:List V}{its:List Value}(r:aa7 vs its){u:Value}(h:u∈its):∃v∈vs,aaJ v u:=by
 obtain⟨j,hj,e⟩:=List.mem_iff_getElem.mp h
 obtain⟨v,h1,h2⟩:=ad4 r (List.getElem?_eq_some_iff.mpr ⟨hj,e⟩)
 exact⟨v,List.mem_of_getElem? h1,h2⟩
theorem afi{w:Wo}{H:Hp}{ts:List T}{vs:List V}(r:aat G w H ts vs){v:V}(h:v∈vs):∃t∈ts,Rep G w H t v:=by
 obtain⟨j,hj,e⟩:=List.mem_iff_getElem.mp h
 obtain⟨t,h1,h2⟩:=r.get' (List.getElem?_eq_some_iff.mpr ⟨hj,e⟩)
 exact⟨t,List.mem_of_getElem? h1,h2⟩
theorem aiA{w:Wo}{H:Hp}{ts:List T}{vs:List V}(r:aat G w H ts vs){t:T}(h:t∈ts):∃v∈vs,Rep G w H t v:=by
 obtain⟨j,hj,e⟩:=List.mem_iff_getElem.mp h
 obtain⟨t,h1,h2⟩:=r.get (List.getElem?_eq_some_iff.mpr ⟨hj,e⟩)
 exact⟨t,List.mem_of_getElem? h1,h2⟩
theorem aiD{vs:List V}{its:List Value}(r:aa7 vs its){v:V}(h:v∈vs):∃u∈its,aaJ v u:=by
 obtain⟨j,hj,e⟩:=List.mem_iff_getElem.mp h
 obtain⟨u,h1,h2⟩:=r.get (List.getElem?_eq_some_iff.mpr ⟨hj,e⟩)
 exact⟨u,List.mem_of_getElem? h1,h2⟩
open Classical in
theorem adB{pins:List (Addr×Obj)}{σ:St}{H:Hp}{s:Shared}{w:Wo}{A:Around}(I:Inv X pins σ H s)(hu:A.units+8<cLine){tx:T}{vx:V}{x:Value}{ts:List T}{vs:List V}{its:List Value}{k:Bool}
  (Rx:Rep G w H tx vx) (rx:aaJ vx x) (r:aat G w H ts vs) (q:aa7 vs its) (h:ajl tx ts=some k):∃e:Value→Bool,(∀y,y∈its.toArray→EqAt A s y x (e y))∧its.toArray.any e=k:=by
 obtain⟨h1,h2⟩:=afj ts k h
 refine⟨fun u=>decide (∃v t,aaJ v u∧Rep G w H t v∧eqD 8 t tx=some true),fun y hy=>?_,?_⟩
 ·have hy':y∈its:=by simpa using hy
  obtain⟨v,hv,rv⟩:=afn q hy'
  obtain⟨t,ht,rt⟩:=afi r hv
  obtain⟨j,hj⟩:=h1 t ht
  have z:=ahx I 8 A hu t tx v vx y x j rt Rx rv rx hj
  have ej:decide (∃v t,aaJ v y∧Rep G w H t v∧eqD 8 t tx=some true)=j:=by
   cases j with
   | true=>exact decide_eq_true ⟨v,t,rv,rt,hj⟩
   | false=>
    refine decide_eq_false ?_
    rintro⟨v',t',rv',rt',e'⟩
    cases rv.inj rv'
    exact Bool.noConfusion (ae0 8 t t' tx v false true rt rt' hj e')
  dsimp only
  rw[ej]
  exact z
 ·rw[Bool.eq_iff_iff,h2,List.any_toArray,List.any_eq_true]
  constructor
  ·rintro⟨u,hu',e⟩
   obtain⟨v,t,rv,rt,e⟩:=of_decide_eq_true e
   obtain⟨v',hv',rv'⟩:=afn q hu'
   cases rv.inj rv'
   obtain⟨t',ht',rt'⟩:=afi r hv'
   obtain⟨j,hj⟩:=h1 t' ht'
   have:=ae0 8 t t' tx v true j rt rt' e hj
   subst this
   exact⟨t',ht',hj⟩
  ·rintro⟨t,ht,e⟩
   obtain⟨v,hv,rt⟩:=aiA r ht
   obtain⟨u,hu',rv⟩:=aiD q hv
   exact⟨u,hu',decide_eq_true ⟨v,t,rv,rt,e⟩⟩
theorem aiZ(hu:X.A.units+9<cLine)(c:Cm):OpR X (compareOp (aiO c)) (r2 G (ahF c)):=by
 cases c with
 | lt=>exact adK (fun x y r h=>aof h) ao8
 | le=>exact adK (fun x y r h=>aof h) arR
 | gt=>exact adK (fun x y r h=>aof h) aqt
 | ge=>exact adK (fun x y r h=>aof h) aqE
 | eq=>
  intro pins s σ H x y v u Q I rx ry h
  obtain⟨w,st,x',y',r,S,Rx,Ry,e,q⟩:=h
  unfold ahF adc at e
  cases he:eqR x' y' with
  | none=>simp[he]at e
  | some k=>
   simp only[he,Option.map_some,Option.some.injEq]at e
   subst e
   exact(atH I (by omega) Rx Ry rx ry he).1 _ _ _ _ (abC I S q)
 | ne=>
  intro pins s σ H x y v u Q I rx ry h
  obtain⟨w,st,x',y',r,S,Rx,Ry,e,q⟩:=h
  unfold ahF adc at e
  cases he:eqR x' y' with
  | none=>simp[he]at e
  | some k=>
   simp only[he,Option.map_some,Option.some.injEq]at e
   subst e
   exact(atH I (by omega) Rx Ry rx ry he).2 _ _ _ _ (abC I S q)
 | isN=>
  intro pins s σ H x y v u Q I rx ry h
  obtain⟨w,st,x',y',r,S,Rx,Ry,e,q⟩:=h
  unfold ahF adc at e
  dsimp only at e
  split at e
  ·have hy:y=.non:=Ry
   refine amY pins s σ H x y v u Q I rx ry ⟨hy,?_⟩
   rw[adr Rx]
   cases e
   exact q w H _ (Le.refl _ _) S rfl
  ·cases e
 | notN=>
  intro pins s σ H x y v u Q I rx ry h
  obtain⟨w,st,x',y',r,S,Rx,Ry,e,q⟩:=h
  unfold ahF adc at e
  dsimp only at e
  split at e
  ·have hy:y=.non:=Ry
   refine ak9 pins s σ H x y v u Q I rx ry ⟨hy,?_⟩
   rw[adr Rx]
   cases e
   exact q w H _ (Le.refl _ _) S rfl
  ·cases e
 | mem=>
  intro pins s σ H x y v u Q I rx ry h
  obtain⟨w,st,x',y',r,S,Rx,Ry,e,q⟩:=h
  unfold ahF adc at e
  dsimp only at e
  cases hx:x'.val? with
  | none=>simp[hx]at e
  | some tx=>
   cases hy:y'.sq2 with
   | none=>simp[hx,hy]at e
   | some ts=>
    cases hm:ajl tx ts with
    | none=>simp[hx,hy,hm]at e
    | some k=>
     simp[hx,hy,hm]at e
     subst e
     have Rx':Rep G w H tx x:=by
      cases x' with
      | val t=>cases hx;exact Rx
      | bor t=>cases hx
     obtain⟨p,vs,rfl,hp,rp⟩:=abc.sq2 Ry hy
     cases ry
     rcases hp with hp|hp
     ·obtain⟨its,r1,hi⟩:=aaO I hp
      obtain⟨e,h1,h2⟩:=adB (A:=X.A.in1) I (by show X.A.units+1+8<cLine;omega) Rx' rx rp r1 hm
      exact in_listAt e hi h1 (by rw[h2];exact abC I S q)
     ·obtain⟨its,r1,hi⟩:=abd I hp
      obtain⟨e,h1,h2⟩:=adB (A:=X.A.in1) I (by show X.A.units+1+8<cLine;omega) Rx' rx rp r1 hm
      exact in_tupleAt e hi h1 (by rw[h2];exact abC I S q)
 | nmem=>
  intro pins s σ H x y v u Q I rx ry h
  obtain⟨w,st,x',y',r,S,Rx,Ry,e,q⟩:=h
  unfold ahF adc at e
  dsimp only at e
  cases hx:x'.val? with
  | none=>simp[hx]at e
  | some tx=>
   cases hy:y'.sq2 with
   | none=>simp[hx,hy]at e
   | some ts=>
    cases hm:ajl tx ts with
    | none=>simp[hx,hy,hm]at e
    | some k=>
     simp[hx,hy,hm]at e
     subst e
     have Rx':Rep G w H tx x:=by
      cases x' with
      | val t=>cases hx;exact Rx
      | bor t=>cases hx
     obtain⟨p,vs,rfl,hp,rp⟩:=abc.sq2 Ry hy
     cases ry
     rcases hp with hp|hp
     ·obtain⟨its,r1,hi⟩:=aaO I hp
      obtain⟨e,h1,h2⟩:=adB (A:=X.A.in1) I (by show X.A.units+1+8<cLine;omega) Rx' rx rp r1 hm
      exact notIn_listAt e hi h1 (by rw[h2];exact abC I S q)
     ·obtain⟨its,r1,hi⟩:=abd I hp
      obtain⟨e,h1,h2⟩:=adB (A:=X.A.in1) I (by show X.A.units+1+8<cLine;omega) Rx' rx rp r1 hm
      exact notIn_tupleAt e hi h1 (by rw[h2];exact abC I S q)
theorem amA(hu:X.A.units+9<cLine)(c:Cm)(ha:PE X a (tV G X C a'))(hb:PE X b (tV G X C b'))(hm:behindInMarks (aiO c) b=false):PE X (.Compare a [aiO c] [b] pos) (tV G X C (.cmp c a' b')):=
 s2c (aiZ hu c) ha hb hm fun _ _=>rfl
end
end IP
end
section
namespace IP
open PySem PySem.Spec L2 PySem.SeqAt
section
variable{G:Gx}{X:Cx}{C:Cf}{a b c:Expr}{a' b' c' e':E}{pos:Pos}{rest:List Expr}
theorem anx{w:Wo}{H:Hp}{x:R}{v:V}{k:Bool}(r:adu G w H x v)(h:tru x=some k):apf X.K v H k:=by
 match x,h with
 | .val .non,h=>cases r;cases h;exact rfl
 | .val (.bl b),h=>cases r;cases h;exact rfl
 | .val (.int i),h=>cases r;cases h;exact rfl
 | .val (.lst ts),h=>
  cases h
  obtain⟨a,vs,e,_,q,r⟩:=r
  subst e
  refine .inl ⟨vs,.inl q,?_⟩
  cases ts with
  | nil=>cases r;rfl
  | cons t ts=>obtain⟨_,_,e,_⟩:=r;subst e;rfl
 | .val (.tup ts),h=>
  cases h
  obtain⟨a,vs,e,q,r⟩:=r
  subst e
  refine .inr (.inl ⟨vs,.inl (.inl q),?_⟩)
  cases ts with
  | nil=>cases r;rfl
  | cons t ts=>obtain⟨_,_,e,_⟩:=r;subst e;rfl
 | .bor ts,h=>
  cases h
  obtain⟨a,vs,e,q,r⟩:=r
  subst e
  refine .inl ⟨vs,.inl (.inl q),?_⟩
  cases ts with
  | nil=>cases r;rfl
  | cons t ts=>obtain⟨_,_,e,_⟩:=r;subst e;rfl
noncomputable def apM(x:R):Option R:=(tru x).map fun k=>.val (.bl k)
theorem ai6{e:Expr}(hE:PE X e (tV G X C e'))(he:∀whole,isTrue e X.env whole=(do let v ←whole;standAt e.pos;holding [v] (truthy v)))
  (hev:∀σ s,ev C e' .t σ s=(ev C e' .v σ s).bind fun x s=>.of (apM x) s):PT X e (tT G X C e'):=by
 refine PT.imp (aiw hE he) ?_
 rintro σV H Q ⟨w₀,H₀,w,σ,s,g,h⟩
 rw[hev]at h
 refine⟨w₀,H₀,w,σ,s,g,(aaQ.bind h).imp ?_⟩
 rintro v H1 ⟨w1,r,s1,L1,S1,R1,h1⟩
 obtain⟨r',e,q⟩:=aaQ.of h1
 unfold apM at e
 cases ht:tru r with
 | none=>rw[ht]at e;cases e
 | some k=>
  rw[ht]at e
  cases e
  obtain⟨k',e,q'⟩:=q w1 H1 (.bl k) (Le.refl _ _) S1 rfl
  cases e
  exact⟨k,anx R1.d ht,q'⟩
theorem ase(c:Cm)(σ:Fr)(s:Sto):ev C (.cmp c a' b') .t σ s=ev C (.cmp c a' b') .v σ s:=by
 show Res.bind (Res.bind (ev C a' .v σ s) _) _=Res.bind (ev C a' .v σ s) _
 cases ev C a' .v σ s with
 | stuck=>rfl
 | exc c s=>rfl
 | ok x s1=>
  show Res.bind (Res.bind (ev C b' .v σ s1) _) _=Res.bind (ev C b' .v σ s1) _
  cases ev C b' .v σ s1 with
  | stuck=>rfl
  | exc c s=>rfl
  | ok y s2=>
   show Res.bind (Res.of ((adc c x y).map _) s2) _=Res.of ((adc c x y).map _) s2
   cases adc c x y<;>rfl
theorem amG(hu:X.A.units+9<cLine)(c:Cm)(ha:PE X a (tV G X C a'))(hb:PE X b (tV G X C b'))(hm:behindInMarks (aiO c) b=false):PT X (.Compare a [aiO c] [b] pos) (tT G X C (.cmp c a' b')):=by
 refine PT.imp (akU (aiZ (G:=G) hu c) ha hb hm) ?_
 rintro σV H Q ⟨w₀,H₀,w,σ,s,g,h⟩
 rw[ase]at h
 exact air (f:=ahF c) ⟨w₀,H₀,w,σ,s,g,h⟩
noncomputable def r1(G:Gx)(f:R→Option R):V→Hp→VK→Prop:=fun x H Q=>∃w s rx r,StoOk G w H s∧adu G w H rx x∧f rx=some r∧∀w' H' v,Le w w' H H'→StoOk G w' H' s→abc G w' H' r v→Q v H'
theorem amh{f:R→Option R}{σV:St}{H:Hp}{Q:VK}(h:∃w₀ H₀ w σ s,Good G w₀ H₀ w H σ s σV∧aaQ G X σV w H ((ev C a' .v σ s).bind fun x s1=>.of (f x) s1) Q):
  tV G X C a' σV H fun x H1=>r1 G f x H1 Q:=by
 obtain⟨w₀,H₀,w,σ,s,g,h⟩:=h
 refine⟨w₀,H₀,w,σ,s,g,(aaQ.bind h).imp ?_⟩
 rintro x H1 ⟨w1,r1,s1,L1,S1,R1,h1⟩
 obtain⟨r,e,q⟩:=aaQ.of h1
 exact⟨w1,s1,r1,r,S1,R1.d,e,q⟩
theorem aiy{f:R→Option R}{σV:St}{H:Hp}{Q:VK}(h:∃w₀ H₀ w σ s,Good G w₀ H₀ w H σ s σV∧aaQ G X σV w H ((ev C a' .v σ s).bind fun x s1=>.of (f (x.dr s1)) s1) Q):
  tV G X C a' σV H fun x H1=>r1 G f x H1 Q:=by
 obtain⟨w₀,H₀,w,σ,s,g,h⟩:=h
 refine⟨w₀,H₀,w,σ,s,g,(aaQ.bind h).imp ?_⟩
 rintro x H1 ⟨w1,r1,s1,L1,S1,R1,h1⟩
 obtain⟨r,e,q⟩:=aaQ.of h1
 exact⟨w1,s1,_,r,S1,R1.dr S1,e,q⟩
theorem acf(ha:PE X a (tV G X C a')):PE X (.UnaryOp .USub a pos) (tV G X C (.neg a')):=by
 refine PE.imp (aoS am3 ha) ?_
 rintro σV H Q h
 have h:=amh (f:=fun x=>x.int?.map fun i=>R.val (.int (-i))) h
 refine(show tV G X C a' σV H _ from ?_)
 obtain⟨w₀,H₀,w,σ,s,g,h⟩:=h
 refine⟨w₀,H₀,w,σ,s,g,h.imp ?_⟩
 rintro x H1 ⟨w1,s1,rx,r,S1,R1,e,q⟩
 match rx,e with
 | .val (.int i),e=>cases e;cases R1;exact⟨i,rfl,q w1 H1 _ (Le.refl _ _) S1 rfl⟩
theorem afu(ha:PE X a (tV G X C a')):PE X (.UnaryOp .Not a pos) (tV G X C (.not a')):=by
 intro pins s σ H Q I h
 have h:=amh (f:=fun x=>(tru x).map fun k=>R.val (.bl (!k))) h
 refine PyProof.Rows.UnaryOp_ (thn (ha pins s σ H _ I h) fun v s1 ⟨x,H1,I1,r1,q1⟩=>?_)
 obtain⟨w1,st,rx,r,S1,R1,e,q⟩:=q1
 dsimp only at e
 cases ht:tru rx with
 | none=>rw[ht]at e;cases e
 | some k=>
  rw[ht]at e
  cases e
  exact PyProof.Rows.not_of (thn (ajv pins s1 σ H1 x v (fun c H2=>Q (.bl (!c)) H2) I1 r1 ⟨k,anx R1 ht,q w1 H1 _ (Le.refl _ _) S1 rfl⟩) fun c s2 ⟨H2,I2,z⟩=>⟨.bl (!c),H2,I2,rfl,z⟩)
theorem ahn{w:Wo}{H:Hp}{σV:St}{x:R}{v:V}{m n:Res R}{Q:VK}(r:abc G w H x v)(h:aaQ G X σV w H (onB x m n) Q):∃k,v=.bl k∧x=.val (.bl k)∧aaQ G X σV w H (if k=true then m else n) Q:=by
 match x,h with
 | .val (.bl true),h=>exact⟨true,r,rfl,h⟩
 | .val (.bl false),h=>exact⟨false,r,rfl,h⟩
 | .val .non,h=>exact h.elim
 | .val (.int _),h=>exact h.elim
 | .val (.str _),h=>exact h.elim
 | .val (.tup _),h=>exact h.elim
 | .val (.lst _),h=>exact h.elim
 | .val (.loc _),h=>exact h.elim
 | .val (.exc _),h=>exact h.elim
 | .bor _,h=>exact h.elim
theorem abz(ha:PT X a (tT G X C a')):PT X (.UnaryOp .Not a pos) (tT G X C (.not a')):=by
 refine PT.imp (anG ha) ?_
 rintro σV H Q ⟨w₀,H₀,w,σ,s,g,h⟩
 refine⟨w₀,H₀,w,σ,s,g,(aaQ.bind h).imp ?_⟩
 rintro v H1 ⟨w1,r,s1,L1,S1,R1,h1⟩
 obtain⟨k,rfl,rfl,h1⟩:=ahn R1 h1
 refine⟨k,rfl,?_⟩
 cases k with
 | true=>obtain⟨_,e,q⟩:=h1 w1 H1 (.bl false) (Le.refl _ _) S1 rfl;cases e;exact q
 | false=>obtain⟨_,e,q⟩:=h1 w1 H1 (.bl true) (Le.refl _ _) S1 rfl;cases e;exact q
theorem aml{σV:St}{H:Hp}{Q:Bool→Hp→Prop}(h:tT G X C (.and a' b') σV H Q):atA (tT G X C a') (tT G X C b') σV H Q:=by
 obtain⟨w₀,H₀,w,σ,s,g,h⟩:=h
 refine⟨w₀,H₀,w,σ,s,g,(aaQ.bind h).imp ?_⟩
 rintro v H1 ⟨w1,r,s1,L1,S1,R1,h1⟩
 obtain⟨k,rfl,rfl,h1⟩:=ahn R1 h1
 refine⟨k,rfl,?_⟩
 cases k with
 | true=>exact alo ⟨w₀,H₀,w1,σ,s1,g.step L1 S1,h1⟩
 | false=>obtain⟨_,e,q⟩:=h1 w1 H1 (.bl false) (Le.refl _ _) S1 rfl;cases e;exact al5 q
theorem aq5{σV:St}{H:Hp}{Q:Bool→Hp→Prop}(h:tT G X C (.or a' b') σV H Q):tOr (tT G X C a') (tT G X C b') σV H Q:=by
 obtain⟨w₀,H₀,w,σ,s,g,h⟩:=h
 refine⟨w₀,H₀,w,σ,s,g,(aaQ.bind h).imp ?_⟩
 rintro v H1 ⟨w1,r,s1,L1,S1,R1,h1⟩
 obtain⟨k,rfl,rfl,h1⟩:=ahn R1 h1
 refine⟨k,rfl,?_⟩
 cases k with
 | true=>obtain⟨_,e,q⟩:=h1 w1 H1 (.bl true) (Le.refl _ _) S1 rfl;cases e;exact alo q
 | false=>exact al5 ⟨w₀,H₀,w1,σ,s1,g.step L1 S1,h1⟩
theorem PW.imp{e:Expr}{t t':TT}(h:PW X e t)(q:∀σ H Q,t' σ H Q→t σ H Q):PW X e t':=fun wh pins s σ H Q I z=>h wh pins s σ H Q I (q _ _ _ z)
noncomputable def PTb(X:Cx)(op:BoolOp)(es:List Expr)(pos:Pos)(t:TT):Prop:=PW X (.BoolOp op es pos) t
theorem acF(h:PT X a (tT G X C a')):PTb X .And [a] pos (tT G X C a'):=akT h
theorem aaV(h:PT X a (tT G X C a')):PTb X .Or [a] pos (tT G X C a'):=alX h
theorem ahm(ha:PT X a (tT G X C a'))(hb:PTb X .And (b::rest) pos (tT G X C b')):PTb X .And (a::b::rest) pos (tT G X C (.and a' b')):=PW.imp (amc ha hb) fun _ _ _ h=>aml h
theorem acu(ha:PT X a (tT G X C a'))(hb:PTb X .Or (b::rest) pos (tT G X C b')):PTb X .Or (a::b::rest) pos (tT G X C (.or a' b')):=PW.imp (aqm ha hb) fun _ _ _ h=>aq5 h
theorem acv(ha:PE X a (tV G X C a'))(hb:PE X (.BoolOp .And (b::rest) pos) (tV G X C b')):PE X (.BoolOp .And (a::b::rest) pos) (tV G X C (.and a' b')):=by
 refine PE.imp (alT ha hb) ?_
 rintro σV H Q ⟨w₀,H₀,w,σ,s,g,h⟩
 refine⟨w₀,H₀,w,σ,s,g,(aaQ.bind h).imp ?_⟩
 rintro v H1 ⟨w1,r,s1,L1,S1,R1,h1⟩
 obtain⟨k,rfl,rfl,h1⟩:=ahn R1 h1
 refine⟨k,rfl,?_⟩
 cases k with
 | true=>exact alo ⟨w₀,H₀,w1,σ,s1,g.step L1 S1,h1⟩
 | false=>exact al5 (h1 w1 H1 (.bl false) (Le.refl _ _) S1 rfl)
theorem anr(hc:PT X c (tT G X C c'))(ha:PE X a (tV G X C a'))(hb:PE X b (tV G X C b')):PE X (.IfExp c a b pos) (tV G X C (.ife c' a' b')):=by
 refine PE.imp (ai5 hc ha hb) ?_
 rintro σV H Q ⟨w₀,H₀,w,σ,s,g,h⟩
 refine⟨w₀,H₀,w,σ,s,g,(aaQ.bind h).imp ?_⟩
 rintro v H1 ⟨w1,r,s1,L1,S1,R1,h1⟩
 obtain⟨k,rfl,rfl,h1⟩:=ahn R1 h1
 refine⟨k,rfl,?_⟩
 cases k with
 | true=>exact alo ⟨w₀,H₀,w1,σ,s1,g.step L1 S1,h1⟩
 | false=>exact al5 ⟨w₀,H₀,w1,σ,s1,g.step L1 S1,h1⟩
noncomputable def ajT(G:Gx)(X:Cx)(σV:St)(w:Wo)(H:Hp)(res:Res (List T))(Q:List V→Hp→Prop):Prop:=match res with
 | .stuck=>False
 | .ok ts s'=>∀w' H' vs,Le w w' H H'→StoOk G w' H' s'→aat G w' H' ts vs→Q vs H'
 | .exc c s'=>∀w' H' pins u sh,Le w w' H H'→StoOk G w' H' s'→aaY G X pins σV H' c u sh→X.xe u sh
noncomputable def ah9(G:Gx)(X:Cx)(σV:St)(w:Wo)(H:Hp)(res:Res (List R))(Q:List V→Hp→Prop):Prop:=match res with
 | .stuck=>False
 | .ok ts s'=>∀w' H' vs,Le w w' H H'→StoOk G w' H' s'→abg G w' H' ts vs→Q vs H'
 | .exc c s'=>∀w' H' pins u sh,Le w w' H H'→StoOk G w' H' s'→aaY G X pins σV H' c u sh→X.xe u sh
noncomputable def tA(G:Gx)(X:Cx)(C:Cf)(es:List E):TA:=fun σV H Q=>∃w₀ H₀ w σ s,Good G w₀ H₀ w H σ s σV∧ajT G X σV w H (evs C es σ s) Q
noncomputable def tR(G:Gx)(X:Cx)(C:Cf)(es:List E):TA:=fun σV H Q=>∃w₀ H₀ w σ s,Good G w₀ H₀ w H σ s σV∧ah9 G X σV w H (evr C es σ s) Q
theorem aa0:PA X [] (tA G X C []):=PA.imp abx fun σV H Q ⟨w₀,H₀,w,σ,s,g,h⟩=>h w H [] (Le.refl _ _) g.sto rfl
theorem aak:PA X [] (tR G X C []):=PA.imp abx fun σV H Q ⟨w₀,H₀,w,σ,s,g,h⟩=>h w H [] (Le.refl _ _) g.sto rfl
variable{es:List Expr}{es':List E}
theorem akd(ha:PE X a (tV G X C a'))(hr:PA X es (tA G X C es'))(hs:starEach (a::es) X.env=(false,eval a X.env)::starEach es X.env):PA X (a::es) (tA G X C (a'::es')):=by
 refine PA.imp (aaH ha hr hs) ?_
 rintro σV H Q ⟨w₀,H₀,w,σ,s,g,h⟩
 have h:ajT G X σV w H ((ev C a' .v σ s).bind fun x s1=>onV x fun t=>(evs C es' σ s1).bind fun ts s2=>.ok (t::ts) s2) Q:=h
 refine⟨w₀,H₀,w,σ,s,g,?_⟩
 cases he:ev C a' .v σ s with
 | stuck=>rw[he]at h;exact h
 | exc c s1=>rw[he]at h;exact h
 | ok x s1=>
  rw[he]at h
  intro w1 H1 v L1 S1 R1
  match x,h with
  | .bor _,h=>exact h.elim
  | .val t,h=>
   have h:ajT G X σV w H ((evs C es' σ s1).bind fun ts s2=>.ok (t::ts) s2) Q:=h
   refine⟨w₀,H₀,w1,σ,s1,g.step L1 S1,?_⟩
   cases hf:evs C es' σ s1 with
   | stuck=>rw[hf]at h;exact h
   | exc c s2=>rw[hf]at h;exact fun w2 H2 pins u sh L2=>h w2 H2 pins u sh (L1.trans L2)
   | ok ts s2=>
    rw[hf]at h
    intro w2 H2 vs L2 S2 R2
    exact h w2 H2 (v::vs) (L1.trans L2) S2 ⟨v,vs,rfl,Rep.mono L2 S1 t v R1,R2⟩
theorem akE(ha:PE X a (tV G X C a'))(hr:PA X es (tR G X C es'))(hs:starEach (a::es) X.env=(false,eval a X.env)::starEach es X.env):PA X (a::es) (tR G X C (a'::es')):=by
 refine PA.imp (aaH ha hr hs) ?_
 rintro σV H Q ⟨w₀,H₀,w,σ,s,g,h⟩
 have h:ah9 G X σV w H ((ev C a' .v σ s).bind fun x s1=>(evr C es' σ s1).bind fun ts s2=>.ok (x::ts) s2) Q:=h
 refine⟨w₀,H₀,w,σ,s,g,?_⟩
 cases he:ev C a' .v σ s with
 | stuck=>rw[he]at h;exact h
 | exc c s1=>rw[he]at h;exact h
 | ok x s1=>
  rw[he]at h
  intro w1 H1 v L1 S1 R1
  have h:ah9 G X σV w H ((evr C es' σ s1).bind fun ts s2=>.ok (x::ts) s2) Q:=h
  refine⟨w₀,H₀,w1,σ,s1,g.step L1 S1,?_⟩
  cases hf:evr C es' σ s1 with
  | stuck=>rw[hf]at h;exact h
  | exc c s2=>rw[hf]at h;exact fun w2 H2 pins u sh L2=>h w2 H2 pins u sh (L1.trans L2)
  | ok ts s2=>
   rw[hf]at h
   intro w2 H2 vs L2 S2 R2
   exact h w2 H2 (v::vs) (L1.trans L2) S2 ⟨v,vs,rfl,abc.mono L2 S1 R1,R2⟩
theorem adG(C:Cf):∀(es:List E) (σ:Fr) (s:Sto) (ts:List T) (s':Sto),evs C es σ s=.ok ts s'→ts.length=es.length
 | [],σ,s,ts,s',h=>by cases h;rfl
 | e::es,σ,s,ts,s',h=>by
  unfold evs at h
  cases he:ev C e .v σ s with
  | stuck=>rw[he]at h;cases h
  | exc c s1=>rw[he]at h;cases h
  | ok x s1=>
   rw[he]at h
   match x,h with
   | .bor _,h=>cases h
   | .val t,h=>
    have h:((evs C es σ s1).bind fun ts s2=>Res.ok (t::ts) s2)=.ok ts s':=h
    cases hf:evs C es σ s1 with
    | stuck=>rw[hf]at h;cases h
    | exc c s2=>rw[hf]at h;cases h
    | ok us s2=>
     rw[hf]at h
     cases h
     simp[adG C es σ s1 us _ hf]
theorem alH{k:Nat}(h:PA X es (tA G X C es'))(hz:es'.length≤sizeLine):PE X (.Tuple es k pos) (tV G X C (.tup es')):=by
 refine PE.imp (anS h) ?_
 rintro σV H Q ⟨w₀,H₀,w,σ,s,g,h⟩
 have h:aaQ G X σV w H ((evs C es' σ s).bind fun ts s1=>.ok (.val (.tup ts)) s1) Q:=h
 refine⟨w₀,H₀,w,σ,s,g,?_⟩
 cases hf:evs C es' σ s with
 | stuck=>rw[hf]at h;exact h
 | exc c s2=>rw[hf]at h;exact h
 | ok ts s2=>
  rw[hf]at h
  intro w2 H2 vs L2 S2 R2
  refine⟨by rw[←R2.length,adG C _ _ _ _ _ hf];exact hz,?_⟩
  exact aeQ S2 R2 fun w' H' v L S R=>h w' H' v (L2.trans L) S R
theorem alO(h:PA X es (tA G X C es'))(hz:es'.length≤sizeLine):PE X (.List es pos) (tV G X C (.lst es')):=by
 refine PE.imp (aju h) ?_
 rintro σV H Q ⟨w₀,H₀,w,σ,s,g,h⟩
 have h:aaQ G X σV w H ((evs C es' σ s).bind fun ts s1=>.ok (.val (.lst ts)) s1) Q:=h
 refine⟨w₀,H₀,w,σ,s,g,?_⟩
 cases hf:evs C es' σ s with
 | stuck=>rw[hf]at h;exact h
 | exc c s2=>rw[hf]at h;exact h
 | ok ts s2=>
  rw[hf]at h
  intro w2 H2 vs L2 S2 R2
  refine⟨by rw[←R2.length,adG C _ _ _ _ _ hf];exact hz,?_⟩
  exact acj S2 R2 fun w' H' v L S R=>h w' H' v (L2.trans L) S R
end
end IP
end
section
namespace IP
open PySem PySem.Spec L2 PySem.SeqAt
section
variable{G:Gx}{X:Cx}{w:Wo}{H:Hp}{σ:St}{pins:List (Addr×Obj)}{s:Shared}{A:Around}
end
section
variable{G:Gx}{X:Cx}{C:Cf}{a b:Expr}{a' b':E}{pos:Pos}
end
end IP
end
section
namespace IP
open PySem PySem.Spec L2 PySem.SeqAt
section
variable{G:Gx}{X:Cx}{C:Cf}{a b c:Expr}{a' b' c' e':E}{pos p:Pos}{rest:List Expr}
theorem aat.atI{w:Wo}{H:Hp}{ts:List T}{vs:List V}{i:Int}{t:T}(r:aat G w H ts vs)(h:L2.atI ts i=some t):∃v,L2.atI vs i=some v∧Rep G w H t v:=by
 unfold L2.atI at h ⊢
 rw[←r.length]
 cases e:ixN ts.length i with
 | none=>rw[e]at h;cases h
 | some j=>
  rw[e]at h
  exact r.get h
theorem amM(ha:PE X a (tV G X C a'))(hb:PE X b (tV G X C b'))(hs:aeL b):PE X (.Subscript a b pos) (tV G X C (.sub a' b')):=by
 refine PE.imp (arx an1 ha hb hs) ?_
 rintro σV H Q ⟨w₀,H₀,w,σ,s,g,h⟩
 refine⟨w₀,H₀,w,σ,s,g,(aaQ.bind h).imp ?_⟩
 rintro x H1 ⟨w1,r1,s1,L1,S1,R1,h1⟩
 refine⟨w₀,H₀,w1,σ,s1,g.step L1 S1,(aaQ.bind h1).imp ?_⟩
 rintro y H2 ⟨w2,r2,s2,M2,S2,R2,h2⟩
 have R1':=R1.mono M2 S1
 match r2,h2 with
 | .val (.int i),h2=>
  obtain⟨r,e,q⟩:=aaQ.of h2
  cases R2
  unfold abE at e
  cases hx:(r1.dr s2).sq2 with
  | none=>rw[hx]at e;cases e
  | some ts=>
   rw[hx]at e
   dsimp only at e
   cases ht:L2.atI ts i with
   | none=>rw[ht]at e;cases e
   | some t=>
    rw[ht]at e
    cases e
    obtain⟨pa,vs,rfl,hp,rp⟩:=adu.sq2 (R1'.dr S2) hx
    obtain⟨v,hv,rv⟩:=rp.atI ht
    rcases hp with hp|hp
    ·exact .inl ⟨pa,vs,i,v,rfl,rfl,.inl hp,hv,q w2 H2 v (Le.refl _ _) S2 rv⟩
    ·exact .inr (.inl ⟨pa,vs,i,v,rfl,rfl,SqT.of hp,hv,q w2 H2 v (Le.refl _ _) S2 rv⟩)
 | .val .non,h2=>exact h2.elim
 | .val (.bl _),h2=>exact h2.elim
 | .val (.str _),h2=>exact h2.elim
 | .val (.tup _),h2=>exact h2.elim
 | .val (.lst _),h2=>exact h2.elim
 | .val (.loc _),h2=>exact h2.elim
 | .val (.exc _),h2=>exact h2.elim
 | .bor _,h2=>exact h2.elim
noncomputable def rSl(G:Gx):V→Option Int→Option Int→Hp→VK→Prop:=fun x lo hi H Q=>∃w s rx r,StoOk G w H s∧adu G w H rx x∧aiv rx lo hi=some r∧∀w' H' v,Le w w' H H'→StoOk G w' H' s→abc G w' H' r v→Q v H'
theorem SlR.imp{r r':V→Option Int→Option Int→Hp→VK→Prop}(h:SlR X r)(q:∀x lo hi H Q,r' x lo hi H Q→r x lo hi H Q):SlR X r':=fun pins s σ H x v vl vu lo hi sl Q I rx hs pl pu z=>h pins s σ H x v vl vu lo hi sl Q I rx hs pl pu (q _ _ _ _ _ z)
theorem anE:SlR X (rSl G):=by
 refine SlR.imp (SlR.or anV akV) ?_
 rintro x lo hi H Q ⟨w,s,rx,r,S,R1,e,q⟩
 unfold aiv at e
 split at e
 ·rename_i ts
  split at e
  ·cases e
  ·rename_i hc
   cases e
   obtain⟨pa,vs,rfl,hp,rp⟩:=R1
   refine .inl ⟨pa,vs,rfl,SqT.of hp,by rw[←rp.length];exact hc,aeQ S (rp.cut lo hi) q⟩
 ·rename_i ts
  cases e
  obtain⟨pa,vs,rfl,_,hp,rp⟩:=R1
  exact .inr ⟨pa,vs,rfl,.inl hp,acj S (rp.cut lo hi) q⟩
 ·rename_i ts
  cases e
  obtain⟨pa,vs,rfl,hp,rp⟩:=R1
  exact .inr ⟨pa,vs,rfl,SqL.of hp,acj S (rp.cut lo hi) q⟩
 ·cases e
theorem anf{w:Wo}{H:Hp}{σV:St}{x:R}{v:V}{f:Int→Res R}{Q:VK}(r:abc G w H x v)(h:aaQ G X σV w H (onI x f) Q):∃i,v=.int i∧x=.val (.int i)∧aaQ G X σV w H (f i) Q:=by
 match x,h with
 | .val (.int i),h=>exact⟨i,r,rfl,h⟩
 | .val .non,h=>exact h.elim
 | .val (.bl _),h=>exact h.elim
 | .val (.str _),h=>exact h.elim
 | .val (.tup _),h=>exact h.elim
 | .val (.lst _),h=>exact h.elim
 | .val (.loc _),h=>exact h.elim
 | .val (.exc _),h=>exact h.elim
 | .bor _,h=>exact h.elim
theorem alf{p2:Pos}(ha:PE X a (tV G X C a'))(hb:PE X b (tV G X C b')):PE X (.Subscript a (.Slice (some b) none none p2) pos) (tV G X C (.cutL a' b')):=by
 refine PE.imp (af3 (anE (G:=G)) ha (aeZ hb) ad7) ?_
 rintro σV H Q ⟨w₀,H₀,w,σ,s,g,h⟩
 refine⟨w₀,H₀,w,σ,s,g,(aaQ.bind h).imp ?_⟩
 rintro x H1 ⟨w1,r1,s1,L1,S1,R1,h1⟩
 refine⟨w₀,H₀,w1,σ,s1,g.step L1 S1,(aaQ.bind h1).imp ?_⟩
 rintro y H2 ⟨w2,r2,s2,L2,S2,R2,h2⟩
 obtain⟨i,rfl,rfl,h2⟩:=anf R2 h2
 obtain⟨r,e,q⟩:=aaQ.of h2
 exact⟨i,rfl,w2,s2,_,r,S2,(R1.mono L2 S1).dr S2,e,q⟩
theorem ajY{p2:Pos}(ha:PE X a (tV G X C a'))(hb:PE X b (tV G X C b')):PE X (.Subscript a (.Slice none (some b) none p2) pos) (tV G X C (.cutU a' b')):=by
 refine PE.imp (af3 (anE (G:=G)) ha ad7 (aeZ hb)) ?_
 rintro σV H Q ⟨w₀,H₀,w,σ,s,g,h⟩
 refine⟨w₀,H₀,w,σ,s,g,(aaQ.bind h).imp ?_⟩
 rintro x H1 ⟨w1,r1,s1,L1,S1,R1,h1⟩
 refine⟨w₀,H₀,w1,σ,s1,g.step L1 S1,(aaQ.bind h1).imp ?_⟩
 rintro y H2 ⟨w2,r2,s2,L2,S2,R2,h2⟩
 obtain⟨i,rfl,rfl,h2⟩:=anf R2 h2
 obtain⟨r,e,q⟩:=aaQ.of h2
 exact⟨i,rfl,w2,s2,_,r,S2,(R1.mono L2 S1).dr S2,e,q⟩
noncomputable def rB1(G:Gx)(f:R→Option R):List V→Hp→VK→Prop:=fun xs H Q=>∃v,xs=[v]∧r1 G f v H Q
theorem aaM.imp{f:Value}{r r':List V→Hp→VK→Prop}(h:aaM X f r)(q:∀xs H Q,r' xs H Q→r xs H Q):aaM X f r':=fun pins s σ H xs us Q I rx z=>h pins s σ H xs us Q I rx (q _ _ _ z)
theorem sB1{f:R→Option R}{id:String}{x:Str}(hc:aaM X (.builtin id) (rB1 G f))(hg:Gl X x)(hm:X.mg x=none)(hv:bootBuiltins x=some (.builtin id))(hn:x≠"__name__")(hdb:(x==("__debug__":Str))=false)
  (ha:PE X a (tV G X C a')) (hs:starEach [a] X.env=[(false,eval a X.env)]) (hev:∀σ s,ev C e' .v σ s=(ev C a' .v σ s).bind fun x s1=>.of (f (x.dr s1)) s1):PE X (.Call (.Name x p) [a] [] pos) (tV G X C e'):=by
 refine PE.imp (ac8 hc hg hm hv (aaH ha abx hs) hn hdb hs rfl) ?_
 rintro σV H Q ⟨w₀,H₀,w,σ,s,g,h⟩
 rw[hev]at h
 obtain⟨w₀,H₀,w,σ,s,g,h⟩:=aiy ⟨w₀,H₀,w,σ,s,g,h⟩
 exact⟨w₀,H₀,w,σ,s,g,h.imp fun v H1 q=>⟨v,rfl,q⟩⟩
theorem atW{f:R→Option R}{T:String}{x:Str}(hc:aaM X (.type T) (rB1 G f))(hg:Gl X x)(hm:X.mg x=none)(hv:bootBuiltins x=some (.type T))(hn:x≠"__name__")(hdb:(x==("__debug__":Str))=false)
  (ha:PE X a (tV G X C a')) (hs:starEach [a] X.env=[(false,eval a X.env)]) (hev:∀σ s,ev C e' .v σ s=(ev C a' .v σ s).bind fun x s1=>.of (f (x.dr s1)) s1):PE X (.Call (.Name x p) [a] [] pos) (tV G X C e'):=by
 refine PE.imp (ahD hc hg hm hv (aaH ha abx hs) hn hdb hs rfl) ?_
 rintro σV H Q ⟨w₀,H₀,w,σ,s,g,h⟩
 rw[hev]at h
 obtain⟨w₀,H₀,w,σ,s,g,h⟩:=aiy ⟨w₀,H₀,w,σ,s,g,h⟩
 exact⟨w₀,H₀,w,σ,s,g,h.imp fun v H1 q=>⟨v,rfl,q⟩⟩
theorem map_some{α β:Type}{o:Option α}{f:α→β}{r:β}(h:o.map f=some r):∃a,o=some a∧r=f a:=by
 cases o with
 | none=>cases h
 | some a=>cases h;exact⟨a,rfl,rfl⟩
theorem aqU:aaM X (.builtin "len") (rB1 G (b1R .len)):=by
 refine aaM.imp ael ?_
 rintro xs H Q ⟨v,rfl,w,s,rx,r,S,R1,e,q⟩
 obtain⟨ts,ht,rfl⟩:=map_some e
 obtain⟨pa,vs,rfl,hp,rp⟩:=adu.sq2 R1 ht
 refine⟨pa,vs,rfl,hp.imp (fun h=>.inl h) (fun h=>SqT.of h),?_⟩
 rw[←rp.length]
 exact q w H _ (Le.refl _ _) S rfl
theorem apT:aaM X (.builtin "abs") (rB1 G (b1R .abs)):=by
 refine aaM.imp ais ?_
 rintro xs H Q ⟨v,rfl,w,s,rx,r,S,R1,e,q⟩
 obtain⟨i,hi,rfl⟩:=map_some e
 cases R1.int hi
 exact⟨i,rfl,q w H _ (Le.refl _ _) S rfl⟩
theorem amz:aaM X (.type "list") (rB1 G (b1R .list)):=by
 refine aaM.imp aee ?_
 rintro xs H Q ⟨v,rfl,w,s,rx,r,S,R1,e,q⟩
 obtain⟨ts,ht,rfl⟩:=map_some e
 obtain⟨pa,vs,rfl,hp,rp⟩:=adu.sq2 R1 ht
 exact⟨pa,vs,rfl,hp.imp (fun h=>.inl h) (fun h=>SqT.of h),acj S rp q⟩
noncomputable def rB2(G:Gx)(f:R→R→Option R):List V→Hp→VK→Prop:=fun xs H Q=>∃v u,xs=[v,u]∧r2 G f v u H Q
theorem sB2{f:R→R→Option R}{id:String}{x:Str}(hc:aaM X (.builtin id) (rB2 G f))(hg:Gl X x)(hm:X.mg x=none)(hv:bootBuiltins x=some (.builtin id))(hn:x≠"__name__")(hdb:(x==("__debug__":Str))=false)
  (ha:PE X a (tV G X C a')) (hb:PE X b (tV G X C b')) (hs:starEach [a,b] X.env=[(false,eval a X.env),(false,eval b X.env)]) (hs2:starEach [b] X.env=[(false,eval b X.env)])
  (hev:∀σ s,ev C e' .v σ s=(ev C a' .v σ s).bind fun x s1=>(ev C b' .v σ s1).bind fun y s2=>.of (f x y) s2):PE X (.Call (.Name x p) [a,b] [] pos) (tV G X C e'):=by
 refine PE.imp (ac8 hc hg hm hv (aaH ha (aaH hb abx hs2) (by rw[hs,hs2])) hn hdb (by rw[hs,hs2]) (by rw[hs2];rfl)) ?_
 rintro σV H Q ⟨w₀,H₀,w,σ,s,g,h⟩
 rw[hev]at h
 obtain⟨w₀,H₀,w,σ,s,g,h⟩:=air (f:=f) ⟨w₀,H₀,w,σ,s,g,h⟩
 refine⟨w₀,H₀,w,σ,s,g,h.imp ?_⟩
 rintro v H1 ⟨w₀,H₀,w,σ,s,g,h⟩
 exact⟨w₀,H₀,w,σ,s,g,h.imp fun u H2 q=>⟨v,u,rfl,q⟩⟩
noncomputable def auf(x y:R):Option R:=do let i ←x.int?;let j ←y.int?;some (.val (.int (if j>i then j else i)))
theorem ii2{x y r:R}{g:Int→Int→R}(h:(do let i ←x.int?;let j ←y.int?;some (g i j))=some r):∃i j,x.int?=some i∧y.int?=some j∧r=g i j:=by
 cases hx:x.int? with
 | none=>rw[hx]at h;cases h
 | some i=>
  cases hy:y.int? with
  | none=>rw[hx,hy]at h;cases h
  | some j=>rw[hx,hy]at h;cases h;exact⟨i,j,rfl,rfl,rfl⟩
theorem alA(hc:X.calm=true):aaM X (.builtin "max") (rB2 G auf):=by
 refine aaM.imp (ag1 hc) ?_
 rintro xs H Q ⟨v,u,rfl,w,s,rx,ry,r,S,R1,R2,e,q⟩
 obtain⟨i,j,hi,hj,rfl⟩:=ii2 e
 cases R1.int hi
 cases R2.int hj
 exact⟨i,j,rfl,q w H _ (Le.refl _ _) S rfl⟩
noncomputable def aoz:Ty→Option String
 | .int=>some "int" | .bool=>some "bool" | .tuple=>some "tuple" | .list=>some "list" | .str=>some "str" | .cls _=>none
theorem am5{w:Wo}{H:Hp}{st:Sto}{x:R}{v:V}{c:Ty}{k:Bool}{n:String}(S:StoOk G w H st)(r:adu G w H x v)(hn:aoz c=some n)(h:amO x c=some k):∃t,TyOf X.K H v t∧PySem.W.kitOne X.K t (.type n)=some k:=by
 have lst:∀{a:Addr}{vs:List V},Rd H a (.lst vs)→TyOf X.K H (.ref a) (.type "list"):=fun {a vs} q=>by
  rcases q with q|⟨o,q⟩
  ·exact .lst q
  ·exact .frz q
 unfold amO at h
 split at h<;>first
  | (cases h;done)
  | (cases h;cases hn;cases r;exact⟨_,.int _,by with_unfolding_all rfl⟩)
  | (cases h;cases hn;cases r;exact⟨_,.bl _,by with_unfolding_all rfl⟩)
  | (cases h;cases hn;cases r;exact⟨_,.non,by with_unfolding_all rfl⟩)
  | (cases h;cases hn;obtain⟨a,vs,rfl,q,_⟩:=r;exact⟨_,.tup q,by with_unfolding_all rfl⟩)
  | (cases h;cases hn;obtain⟨a,vs,rfl,_,q,_⟩:=r;exact⟨_,lst q,by with_unfolding_all rfl⟩)
  | (cases h;cases hn;obtain⟨a,vs,rfl,q,_⟩:=r;exact⟨_,.lst q,by with_unfolding_all rfl⟩)
theorem aks{sub:Nat→Nat→Bool}{x:R}{c:Ty}{n:String}(hn:aoz c=some n):adQ sub x c=amO x c:=by
 cases c<;>first|(cases hn;done)|(unfold adQ;split<;>first|rfl|(rename_i z;cases z))
theorem amK{c:Ty}{n:String}{y:Str}{py:Pos}(hn:aoz c=some n)(hg:Gl X "isinstance")(hm:X.mg "isinstance"=none)(hgy:Gl X y)(hmy:X.mg y=none)(hv:bootBuiltins y=some (.type n))(hy:y≠"__name__")(hdy:(y==("__debug__":Str))=false)
  (ha:PE X a (tV G X C a')) (hs:starEach [a,.Name y py] X.env=[(false,eval a X.env),(false,eval (.Name y py) X.env)]):PE X (.Call (.Name "isinstance" p) [a,.Name y py] [] pos) (tV G X C (.isi a' c)):=by
 have hc:aaM X (.builtin "isinstance") (fun xs H Q=>∃v,xs=[v,.ty n]∧r1 G (fun x=>(adQ C.sub x c).map fun k=>.val (.bl k)) v H Q):=by
  rintro pins s σ H xs us Q I rv ⟨v,rfl,w,st,rx,r,S,R1,e,q⟩
  obtain⟨u,u',rfl,r1,r2⟩:=rv.two
  cases r2
  obtain⟨k,hk,rfl⟩:=map_some e
  rw[aks hn]at hk
  obtain⟨t,ht,hk'⟩:=am5 (X:=X) S R1 hn hk
  exact agC I r1 ht hk' fun tk=>⟨.bl k,H,I.tok tk,rfl,q w H _ (Le.refl _ _) S rfl⟩
 refine PE.imp (ac8 hc hg hm (show bootBuiltins "isinstance"=some (.builtin "isinstance")by decide +kernel) (aaH ha (aaH (ako (v:=.ty n) hgy hmy hv rfl hy hdy) abx rfl) (by rw[hs];rfl)) (by decide) (by decide) (by rw[hs];rfl) rfl) ?_
 rintro σV H Q ⟨w₀,H₀,w,σ,s,g,h⟩
 obtain⟨w₀,H₀,w,σ,s,g,h⟩:=aiy (f:=fun x=>(adQ C.sub x c).map fun k=>.val (.bl k)) ⟨w₀,H₀,w,σ,s,g,h⟩
 exact⟨w₀,H₀,w,σ,s,g,h.imp fun v H1 q=>⟨v,rfl,q⟩⟩
end
end IP
end
section
namespace IP
open PySem PySem.Spec L2 PySem.SeqAt PyProof.Rows.LSm
section
variable{G:Gx}{X:Cx}
theorem abH{w:Wo}{H:Hp}:∀{ts:List T}{is:List Int}{vs:List V}{its:List Value},aaX ts=some is→aat G w H ts vs→aa7 vs its→PyProof.Rows.IntsAre its is
 | [],is,vs,its,h,r,q=>by
  cases h
  cases r
  rw[aa7.zero q]
  exact .nil
 | .int i::ts,is,vs,its,h,⟨v,r,e,h1,h2⟩,q=>by
  unfold aaX at h
  obtain⟨js,hj,rfl⟩:=map_some h
  subst e
  cases h1
  cases q with
  | cons q1 q2=>
   obtain⟨t,rfl⟩:=q1
   exact .cons i t (abH hj h2 q2)
 | .non::ts,is,vs,its,h,r,q=>by simp[aaX]at h
 | .bl _::ts,is,vs,its,h,r,q=>by simp[aaX]at h
 | .str _::ts,is,vs,its,h,r,q=>by simp[aaX]at h
 | .tup _::ts,is,vs,its,h,r,q=>by simp[aaX]at h
 | .lst _::ts,is,vs,its,h,r,q=>by simp[aaX]at h
 | .loc _::ts,is,vs,its,h,r,q=>by simp[aaX]at h
 | .exc _::ts,is,vs,its,h,r,q=>by simp[aaX]at h
theorem alB{α β γ:Type}{o:Option α}{p:α→Option β}{f:α→β→Option γ}{r:γ}(h:(do let a ←o;let b ←p a;f a b)=some r):∃a b,o=some a∧p a=some b∧f a b=some r:=by
 cases ho:o with
 | none=>rw[ho]at h;cases h
 | some a=>
  rw[ho]at h
  cases hp:p a with
  | none=>simp[hp]at h
  | some b=>simp[hp]at h;exact⟨a,b,rfl,hp,h⟩
theorem ah5:∀(is:List Int) (m:Int),al2 is=some m→m∈is∧∀x∈is,m≤x:=by
 have go:∀(r:List Int) (a:Int),(r.foldl (fun m x=>if x<m then x else m) a∈a::r)∧(∀x∈a::r,r.foldl (fun m x=>if x<m then x else m) a≤x):=by
  intro r
  induction r with
  | nil=>intro a;exact⟨List.mem_cons_self ..,fun x hx=>by simp at hx;subst hx;exact Int.le_refl _⟩
  | cons b r ih=>
   intro a
   rw[List.foldl_cons]
   obtain⟨h1,h2⟩:=ih (if b<a then b else a)
   refine⟨?_,fun x hx=>?_⟩
   ·rcases List.mem_cons.mp h1 with e|e
    ·rw[e];split<;>simp
    ·exact List.mem_cons_of_mem _ (List.mem_cons_of_mem _ e)
   ·have h3:=h2 _ (List.mem_cons_self ..)
    rcases List.mem_cons.mp hx with e|e
    ·subst e;exact Int.le_trans h3 (by split<;>omega)
    ·rcases List.mem_cons.mp e with e|e
     ·subst e;exact Int.le_trans h3 (by split<;>omega)
     ·exact h2 x (List.mem_cons_of_mem _ e)
 intro is m h
 cases is with
 | nil=>cases h
 | cons a r=>cases h;exact go r a
theorem ah3:∀(is:List Int) (m:Int),alx is=some m→m∈is∧∀x∈is,x≤m:=by
 have go:∀(r:List Int) (a:Int),(r.foldl (fun m x=>if x>m then x else m) a∈a::r)∧(∀x∈a::r,x≤r.foldl (fun m x=>if x>m then x else m) a):=by
  intro r
  induction r with
  | nil=>intro a;exact⟨List.mem_cons_self ..,fun x hx=>by simp at hx;subst hx;exact Int.le_refl _⟩
  | cons b r ih=>
   intro a
   rw[List.foldl_cons]
   obtain⟨h1,h2⟩:=ih (if b>a then b else a)
   refine⟨?_,fun x hx=>?_⟩
   ·rcases List.mem_cons.mp h1 with e|e
    ·rw[e];split<;>simp
    ·exact List.mem_cons_of_mem _ (List.mem_cons_of_mem _ e)
   ·have h3:=h2 _ (List.mem_cons_self ..)
    rcases List.mem_cons.mp hx with e|e
    ·subst e;exact Int.le_trans (by split<;>omega) h3
    ·rcases List.mem_cons.mp e with e|e
     ·subst e;exact Int.le_trans (by split<;>omega) h3
     ·exact h2 x (List.mem_cons_of_mem _ e)
 intro is m h
 cases is with
 | nil=>cases h
 | cons a r=>cases h;exact go r a
theorem akY{is:List Int}{m:Int}(h:al2 is=some m):0<is.length:=by cases is with|nil=>cases h|cons a r=>simp
theorem akM{is:List Int}{m:Int}(h:alx is=some m):0<is.length:=by cases is with|nil=>cases h|cons a r=>simp
theorem aqd{pins:List (Addr×Obj)}{σ:St}{H:Hp}{s:Shared}{pa:Addr}{its:List Value}{is:List Int}{m:Int}{Q:VK}(hc:X.calm=true)(I:Inv X pins σ H s)(hl:s.heap.IsList pa its.toArray)(hi:PyProof.Rows.IntsAre its is)(hm:al2 is=some m)(q:Q (.int m) H):
  wpAny (model X.prog X.w) X.A (call (.builtin "min") [.ref pa]) (EP X pins σ Q) X.xe s:=by
 obtain⟨xs,e⟩:=hi.allInts.items
 have hns:is=xs.toList.map (·.1):=by rw[←hi.numsOf,←nums_intItems,←e]
 have hne:=akY hm
 have hsz:0<xs.size:=by rw[hns,List.length_map,Array.length_toList]at hne;exact hne
 rw[e]at hl
 refine min_intList (I.ok.hd hc) hl hsz fun v h' tk hv hk=>?_
 obtain⟨t,rfl⟩:=intItems_at hv
 obtain⟨h1,h2⟩:=argBest_lt (numAt xs) (xs.size-1)
 obtain⟨g1,g2⟩:=ah5 is m hm
 have em:numAt xs (argBest (fun i j=>decide (numAt xs i<numAt xs j)) (xs.size-1))=m:=by
  apply Int.le_antisymm
  ·rw[hns]at g1
   obtain⟨j,hj,ej⟩:=List.getElem_of_mem g1
   rw[List.length_map,Array.length_toList]at hj
   have:=h2 j (by omega)
   rw[numAt_eq xs j]at this
   have e2:(xs.toList.map (·.1)).getD j 0=m:=by rw[←ej];simp[hj]
   omega
  ·refine g2 _ ?_
   rw[hns,numAt_eq]
   have hlt:argBest (fun i j=>decide (numAt xs i<numAt xs j)) (xs.size-1)<(xs.toList.map (·.1)).length:=by rw[List.length_map,Array.length_toList];omega
   rw[List.getD_eq_getElem?_getD,List.getElem?_eq_getElem hlt]
   exact List.getElem_mem _
 rw[em]
 exact⟨.int m,H,I.kept hk,⟨_,rfl⟩,q⟩
theorem asw{pins:List (Addr×Obj)}{σ:St}{H:Hp}{s:Shared}{pa:Addr}{its:List Value}{is:List Int}{m:Int}{Q:VK}(hc:X.calm=true)(I:Inv X pins σ H s)(hl:s.heap.IsList pa its.toArray)(hi:PyProof.Rows.IntsAre its is)(hm:alx is=some m)(q:Q (.int m) H):
  wpAny (model X.prog X.w) X.A (call (.builtin "max") [.ref pa]) (EP X pins σ Q) X.xe s:=by
 obtain⟨xs,e⟩:=hi.allInts.items
 have hns:is=xs.toList.map (·.1):=by rw[←hi.numsOf,←nums_intItems,←e]
 have hne:=akM hm
 have hsz:0<xs.size:=by rw[hns,List.length_map,Array.length_toList]at hne;exact hne
 rw[e]at hl
 refine max_intList (I.ok.hd hc) hl hsz fun v h' tk hv hk=>?_
 obtain⟨t,rfl⟩:=intItems_at hv
 obtain⟨h1,h2⟩:=argBest_gt (numAt xs) (xs.size-1)
 obtain⟨g1,g2⟩:=ah3 is m hm
 have em:numAt xs (argBest (fun i j=>decide (numAt xs i>numAt xs j)) (xs.size-1))=m:=by
  apply Int.le_antisymm
  ·refine g2 _ ?_
   rw[hns,numAt_eq]
   have hlt:argBest (fun i j=>decide (numAt xs i>numAt xs j)) (xs.size-1)<(xs.toList.map (·.1)).length:=by rw[List.length_map,Array.length_toList];omega
   rw[List.getD_eq_getElem?_getD,List.getElem?_eq_getElem hlt]
   exact List.getElem_mem _
  ·rw[hns]at g1
   obtain⟨j,hj,ej⟩:=List.getElem_of_mem g1
   rw[List.length_map,Array.length_toList]at hj
   have:=h2 j (by omega)
   rw[numAt_eq xs j]at this
   have e2:(xs.toList.map (·.1)).getD j 0=m:=by rw[←ej];simp[hj]
   omega
 rw[em]
 exact⟨.int m,H,I.kept hk,⟨_,rfl⟩,q⟩
theorem alR{α β γ:Type}{o:Option α}{p:α→Option β}{f:β→Option γ}{g:γ→R}{r:R}(h:(do let a ←o;let b ←p a;(f b).map g)=some r):∃a b c,o=some a∧p a=some b∧f b=some c∧r=g c:=by
 obtain⟨a,b,h1,h2,h3⟩:=alB h
 obtain⟨c,h4,h5⟩:=map_some h3
 exact⟨a,b,c,h1,h2,h4,h5⟩
theorem aqW(hc:X.calm=true):aaM X (.builtin "min") (rB1 G (b1R .min)):=by
 rintro pins s σ H xs us Q I rv ⟨v,rfl,w,st,rx,r,S,R1,e,q⟩
 obtain⟨ts,is,m,ht,hb,hm,rfl⟩:=alR (f:=al2) (g:=fun i=>R.val (.int i)) e
 obtain⟨pa,vs,rfl,hp,rp⟩:=adu.seq (s:=st) R1 ht
 obtain⟨u,rfl,ru⟩:=rv.one
 cases ru
 obtain⟨its,q1,hl⟩:=aaO I hp
 exact aqd hc I hl (abH hb rp q1) hm (q w H _ (Le.refl _ _) S rfl)
theorem ar6(hc:X.calm=true):aaM X (.builtin "max") (rB1 G (b1R .max)):=by
 rintro pins s σ H xs us Q I rv ⟨v,rfl,w,st,rx,r,S,R1,e,q⟩
 obtain⟨ts,is,m,ht,hb,hm,rfl⟩:=alR (f:=alx) (g:=fun i=>R.val (.int i)) e
 obtain⟨pa,vs,rfl,hp,rp⟩:=adu.seq (s:=st) R1 ht
 obtain⟨u,rfl,ru⟩:=rv.one
 cases ru
 obtain⟨its,q1,hl⟩:=aaO I hp
 exact asw hc I hl (abH hb rp q1) hm (q w H _ (Le.refl _ _) S rfl)
theorem acM(x:Int):∀l:List Int,(agq x l).Perm (x::l)
 | []=>.refl _
 | y::r=>by
  unfold agq
  split
  ·exact .refl _
  ·exact((acM x r).cons y).trans (.swap x y r)
theorem agy(x:Int):∀l:List Int,l.Pairwise (·≤·)→(agq x l).Pairwise (·≤·)
 | [],_=>by simp[agq]
 | y::r,h=>by
  unfold agq
  obtain⟨h1,h2⟩:=List.pairwise_cons.mp h
  split
  ·rename_i hlt
   refine List.pairwise_cons.mpr ⟨fun z hz=>?_,h⟩
   rcases List.mem_cons.mp hz with e|e
   ·omega
   ·have:=h1 z e;omega
  ·rename_i hlt
   refine List.pairwise_cons.mpr ⟨fun z hz=>?_,agy x r h2⟩
   rcases List.mem_cons.mp ((acM x r).mem_iff.mp hz)with e|e
   ·omega
   ·exact h1 z e
theorem afB(is:List Int):(ad8 is).Perm is∧(ad8 is).Pairwise (·≤·):=by
 have go:∀(l acc:List Int),acc.Pairwise (·≤·)→(l.foldl (fun acc x=>agq x acc) acc).Perm (l++acc)∧(l.foldl (fun acc x=>agq x acc) acc).Pairwise (·≤·):=by
  intro l
  induction l with
  | nil=>intro acc h;exact⟨.refl _,h⟩
  | cons x l ih=>
   intro acc h
   obtain⟨h1,h2⟩:=ih (agq x acc) (agy x acc h)
   refine⟨h1.trans ?_,h2⟩
   exact((acM x acc).append_left l).trans List.perm_middle
 have:=go is [] List.Pairwise.nil
 rw[List.append_nil]at this
 exact this
theorem acq:∀{its:List Value}{ns:List Int},PyProof.Rows.IntsAre its ns→aa7 (ns.map V.int) its
 | _,_,.nil=>.nil
 | _,_,.cons n t r=>.cons ⟨t,rfl⟩ (acq r)
theorem ab7(w:Wo)(H:Hp):∀ns:List Int,aat G w H (ns.map T.int) (ns.map V.int)
 | []=>rfl
 | n::r=>⟨_,_,rfl,rfl,ab7 w H r⟩
theorem aiS:aaM X (.builtin "sorted") (rB1 G (b1R .sorted)):=by
 rintro pins s σ H xs us Q I rv ⟨v,rfl,w,st,rx,r,S,R1,e,q⟩
 obtain⟨ts,is,ht,hb,he⟩:=alB (f:=fun(_:List T) (is:List Int)=>if is.length<64 then some (R.val (.lst ((ad8 is).map .int)))else none) e
 split at he
 ·rename_i h64
  cases he
  obtain⟨pa,vs,rfl,hp,rp⟩:=adu.seq (s:=st) R1 ht
  obtain⟨u,rfl,ru⟩:=rv.one
  cases ru
  obtain⟨its,q1,hl⟩:=aaO I hp
  have hI:=abH hb rp q1
  have hlen:=hI.length
  refine PyProof.Rows.sorted_ints hl hI (by omega) fun out ns' a1 a2 a3=>?_
  obtain⟨s1,s2⟩:=afB is
  have en:ns'=ad8 is:=PySem.W.ksm_same (a2.trans s1.symm) a3 s2
  subst en
  obtain⟨ee,he⟩:=PyProof.Rows.sortedAll_at s.heap its out
  have hf:H (s.heap.objs.size+1)=none:=I.hok.fresh (Nat.le_succ _)
  have hlen2:(ad8 is).length≤sizeLine:=by
   rw[s1.length_eq]
   have:(64:Nat)≤sizeLine:=by decide
   omega
  refine⟨.ref (s.heap.objs.size+1),upd H (s.heap.objs.size+1) (.lst ((ad8 is).map V.int)),I.laid (t':=s.toks) (fun b u e=>PyProof.Rows.sortedAll_old e) (Nat.le_succ _) ?_,rfl,acj S (ab7 w H _) q _ hf⟩
  refine⟨by rw[List.length_map];exact hlen2,out.toList,ee,acq a1,?_⟩
  rw[he]
 ·cases he
end
end IP
end
section
namespace IP
open PySem PySem.Spec L2
noncomputable def CXE(G:Gx)(P:Program)(w:World)(base:Heap):CXT:=fun outer H s E e s'=>
 ∃(a:Addr) (cls t:Value) (H':Hp) (h B:Heap),e=.ref a∧s'.os=s.os∧PyProof.Rows.AllBare s'.gens∧Un (frs outer) [] H H' s.heap h∧HOk P w H' h∧Flt outer h B a s'.heap∧base.StaysIn B∧Heap.FlyingW B outer a cls t s'.heap∧E cls none H'
section
variable{G:Gx}{X:Cx}{C:Cf}{k:Nat}{f fa:Addr}{fd:FuncData}{ps:List Str}{sp:Sp}{dvs:List V}{ds:List Value}{E:XK}
theorem Inv.after'{pins:List (Addr×Obj)}{σ:St}{H H':Hp}{s s':Shared}(I:Inv X pins σ H s)(os:s'.os=s.os)(bare:PyProof.Rows.AllBare s'.gens)(un:Un (frs X.stack) [] H H' s.heap s'.heap)(hok:HOk X.prog X.w H' s'.heap):Inv X pins σ H' s':=by
 obtain⟨hh,g,d,t,os'⟩:=s'
 obtain rfl:os'=s.os:=os
 exact I.call (h':=hh) (g':=g) (d':=d) (t':=t) (ch:=[]) un hok bare (fun b z=>absurd z (by simp))
theorem afz{CX:CXT}{pins:List (Addr×Obj)}{σ:St}{H:Hp}{s:Shared}{Q:VK}{us:List Value}{vs:List V}(F:FnOk X.prog X.w X.K X.mg X.base CX k f fd ps sp)(hr:Room k X.A)(hb:adD X.K fd ps ds)(hd:aa7 dvs ds)
  (I:Inv X pins σ H s) (r:aa7 vs us) (h:sp (vs++dvs) H Q E) (hx:∀e s',CX X.stack H s E e s'→X.xe e s'):wpAny (model X.prog X.w) X.A (call (.ref f) us) (EP X pins σ Q) X.xe s:=by
 have r2:aa7 (vs++dvs) (us++ds):=r.append hd
 have hl:(us++ds).length=ps.length:=by rw[←r2.length];exact F.len _ _ _ _ h
 refine wpAny_call (codeAny_mono (F.run X.A X.stack s H ⟨us,[]⟩ (us++ds) (vs++dvs) Q E hr I.env0 (hb s us I.kIn hl) r2 h) fun r s' hq=>?_)
 cases r with
 | error e=>exact hx e s' hq
 | ok fl=>
  cases fl with
  | ret u=>exact I.after hq
  | next=>exact False.elim hq
  | brk=>exact False.elim hq
  | cont=>exact False.elim hq
noncomputable def EX(G:Gx)(X:Cx)(σV:St):XK:=fun cls _ H'=>∀pins u sh h B a t,u=.ref a→Inv X pins σV H' { sh with heap:=h }→Flt X.stack h B a sh.heap→X.base.StaysIn B→Heap.FlyingW B X.stack a cls t sh.heap→X.xe u sh
theorem aei{pins:List (Addr×Obj)}{σ:St}{H:Hp}{s:Shared}(I:Inv X pins σ H s)(e:Value)(s':Shared)(h:CXE G X.prog X.w X.base X.stack H s (EX G X σ) e s'):X.xe e s':=by
 obtain⟨a,cls,t,H',hh,B,rfl,os,bare,un,hok,fl,sb,fly,q⟩:=h
 exact q pins (.ref a) s' hh B a t rfl (Inv.after' (s':={ s' with heap:=hh }) I os bare un hok) fl sb fly
theorem ab2{w:Wo}{H:Hp}:∀{rs qs:List R}{vs us:List V},abg G w H rs vs→abg G w H qs us→abg G w H (rs++qs) (vs++us)
 | [],qs,_,us,h,q=>by rw[h];exact q
 | t::ts,qs,_,us,⟨v,r,e,h,k⟩,q=>by subst e;exact⟨v,r++us,rfl,h,ab2 k q⟩
noncomputable def ajZ:T→Option V
 | .non=>some .non | .bl b=>some (.bl b) | .int i=>some (.int i) | .str x=>some (.str x) | _=>none
theorem acH{w:Wo}{H:Hp}:∀{ts:List T}{vs:List V},ts.mapM ajZ=some vs→abg G w H (ts.map R.val) vs
 | [],vs,h=>by cases h;exact rfl
 | t::ts,vs,h=>by
  rw[List.mapM_cons]at h
  cases e:ajZ t with
  | none=>simp[e]at h
  | some v=>
   cases e2:ts.mapM ajZ with
   | none=>simp[e,e2]at h
   | some us=>
    simp[e,e2]at h
    subst h
    refine⟨v,us,rfl,?_,acH e2⟩
    cases t<;>cases e<;>exact rfl
variable{es:List Expr}{es':List IP.E}{e₀:Expr}{fi:Nat}{x:Str}{p pos:Pos}{dts:List T}
theorem afU{w:Wo}{H:Hp}{σV:St}{m:Res (List R)}{k:List R→Sto→Res R}{Q:VK}(h:aaQ G X σV w H (m.bind k) Q):ah9 G X σV w H m fun vs H1=>∃w1 rs s1,Le w w1 H H1∧StoOk G w1 H1 s1∧abg G w1 H1 rs vs∧aaQ G X σV w H (k rs s1) Q:=by
 cases m with
 | stuck=>exact h
 | ok rs s=>exact fun w' H' vs a b c=>⟨w',rs,s,a,b,c,h⟩
 | exc c s=>exact h
end
end IP
end
section
namespace IP
open PySem PySem.Spec L2
noncomputable def clo(cells:List (Str×Addr)):List (Str×NameKind)→List (Str×Addr)→List (Str×Addr)
 | [],acc=>acc
 | (n,k)::r,acc=>clo cells r (if k==.free then(match cells.lookup n with|some c=>(n,c)::acc|none=>acc)else acc)
theorem afY(scope:Scope)(env:Env)(h:∀x∈scope.names,x.2=.free→∃c,env.cells.lookup x.1=some c):closureFor scope env=pure (clo env.cells scope.names []):=by
 unfold closureFor
 generalize ([]:List (Str×Addr))=acc
 obtain⟨k,names,a,b,c⟩:=scope
 simp only at h ⊢
 induction names generalizing acc with
 | nil=>rfl
 | cons x r ih=>
  obtain⟨n,k⟩:=x
  have ih:=fun acc=>ih acc (fun y hy=>h y (List.mem_cons_of_mem _ hy))
  simp only[List.forIn_cons,clo]
  by_cases hk:(k==NameKind.free)=true
  ·have hk':k=.free:=by simpa using hk
   obtain⟨c,hc⟩:=h (n,k) (List.mem_cons_self ..) hk'
   have hc:List.lookup n env.cells=some c:=hc
   simp only[hk,if_true,cellOf,hc,pure_bind]
   exact ih _
  ·simp only[Bool.not_eq_true]at hk
   simp only[hk,Bool.false_eq_true,if_false,pure_bind]
   exact ih _
theorem ae7(cells:List (Str×Addr)):∀(names:List (Str×NameKind)) (acc:List (Str×Addr)),(∀x c,acc.lookup x=some c→cells.lookup x=some c)→∀x c,(clo cells names acc).lookup x=some c→cells.lookup x=some c
 | [],acc,h,x,c,e=>h x c e
 | (n,k)::r,acc,h,x,c,e=>by
  refine ae7 cells r _ (fun y d q=>?_) x c e
  split at q
  ·split at q
   ·rename_i d' hd
    rw[List.lookup_cons]at q
    split at q
    ·rename_i hyn
     have:y=n:=by simpa using hyn
     subst this
     cases q
     exact hd
    ·exact h y d q
   ·exact h y d q
  ·exact h y d q
theorem afp(cells:List (Str×Addr)):∀(names:List (Str×NameKind)) (acc:List (Str×Addr)) (x:Str),(∃c,acc.lookup x=some c)→∃c,(clo cells names acc).lookup x=some c
 | [],acc,x,h=>h
 | (n,k)::r,acc,x,h=>by
  refine afp cells r _ x ?_
  split
  ·split
   ·rename_i d' hd
    rw[List.lookup_cons]
    split
    ·exact⟨_,rfl⟩
    ·exact h
   ·exact h
  ·exact h
theorem aeK(cells:List (Str×Addr)):∀(names:List (Str×NameKind)) (acc:List (Str×Addr)) (x:Str),(x,NameKind.free)∈names→(∃c,cells.lookup x=some c)→∃c,(clo cells names acc).lookup x=some c
 | [],acc,x,h,_=>by simp at h
 | (n,k)::r,acc,x,h,hc=>by
  rcases List.mem_cons.mp h with e|e
  ·cases e
   obtain⟨c,hc⟩:=hc
   refine afp cells r _ _ ?_
   simp[hc]
  ·exact aeK cells r _ x e hc
theorem adk{α:Type}:∀{l:List (Str×α)}{x:Str}{a:α},l.lookup x=some a→(x,a)∈l
 | [],x,a,h=>by simp at h
 | (y,b)::r,x,a,h=>by
  rw[List.lookup_cons]at h
  split at h
  ·rename_i e
   have:x=y:=by simpa using e
   subst this
   cases h
   exact List.mem_cons_self ..
  ·exact List.mem_cons_of_mem _ (adk h)
theorem acz(scope:Scope)(env:Env)(x:Str)(k:NameKind)(h:(relabel scope env).names.lookup x=some k):∃k',(x,k')∈scope.names∧((k=.cell∨k=.free)→k'=.cell∨k'=.free)∧(k=.local→k'=.local):=by
 have h:=adk h
 unfold relabel at h
 obtain⟨⟨n,k'⟩,hm,e⟩:=List.mem_map.mp h
 dsimp only at e
 split at e
 ·rename_i hc
  cases e
  have:k'=.free:=by
   have:=(Bool.and_eq_true _ _).mp hc
   have:=(Bool.and_eq_true _ _).mp this.1
   simpa using this.1
  exact⟨k',hm,fun _=>.inr this,fun z=>by cases z⟩
 ·cases e
  exact⟨_,hm,fun z=>z,fun z=>z⟩
section
variable{X:Cx}
noncomputable def cxC(X:Cx)(N':List Str)(scope:Scope)(C:Addr)(fp:List Addr)(s2:Shared)(H2:Hp)(xe:Value→Shared→Prop):Cx:=
 { X with N:=N',s₀:=s2,H₀:=H2,env:=compEnvC scope (clo X.env.cells scope.names []) C X.env,outer:=X.stack,ex:=fp,fn:=fun _=>false,pn:=[],xe:=xe }
structure CompN(X:Cx)(scope:Scope)(N':List Str)(js:List Nat):Prop where
 kind:scope.kind=.function
 nocell:∀x∈scope.names,x.2≠.cell
 free:∀x∈scope.names,x.2=.free→X.env.kindOf x.1=some .cell∨X.env.kindOf x.1=some .free
 len:N'.length=X.N.length
 nd:N'.Nodup
 same:∀(i:Nat) (x:Str),N'[i]?=some x→i∉js→Vis (relabel scope X.env) x→X.N[i]?=some x∧(x,NameKind.free)∈scope.names∧((relabel scope X.env).names.lookup x=some .cell∨(relabel scope X.env).names.lookup x=some .free)
 locs:∀x∈scope.names,x.2=.local→scope.names.lookup x.1=some .local
noncomputable def clr(σ:St)(js:List Nat):St:=js.foldl (fun σ j=>σ.set j none) σ
theorem agE(js:List Nat):∀σ:St,(clr σ js).length=σ.length:=by
 induction js with
 | nil=>intro σ;rfl
 | cons j js ih=>intro σ;show(clr (σ.set j none) js).length=_;rw[ih];simp
theorem agX(js:List Nat):∀(σ:St) (i:Nat) (v:V),(clr σ js)[i]?=some (some v)→σ[i]?=some (some v)∧i∉js:=by
 induction js with
 | nil=>intro σ i v h;exact⟨h,by simp⟩
 | cons j js ih=>
  intro σ i v h
  obtain⟨h1,h2⟩:=ih (σ.set j none) i v h
  by_cases e:j=i
  ·subst e
   rw[List.getElem?_set_self']at h1
   cases hq:σ[j]? with
   | none=>rw[hq]at h1;cases h1
   | some q=>rw[hq]at h1;cases h1
  ·rw[List.getElem?_set_ne e]at h1
   exact⟨h1,by simp[h2];exact fun z=>e z.symm⟩
theorem ak5{pins:List (Addr×Obj)}{σ:St}{H:Hp}{s:Shared}{scope:Scope}{N':List Str}{js:List Nat}{fp:List Addr}{h4:Heap}{tk:Nat}{xe:Value→Shared→Prop}(hN:CompN X scope N' js)(I:Inv X pins σ H s)(hfp:∀b∈fp,ad0 X pins H b)(hfo:∀b∈fp,∃o,s.heap.get? b=some o)
  (hns:h4.Ns s.heap.objs.size (fun _=>none)) (hk:∀b o,s.heap.get? b=some o→h4.get? b=some o):
  Inv (cxC X N' scope s.heap.objs.size fp s H xe) [] (clr σ js) H { s with heap:=h4,toks:=tk }:=by
 have hlt:∀{b:Addr}{o:Obj},s.heap.get? b=some o→b≠s.heap.objs.size:=fun e=>Nat.ne_of_lt (Heap.lt_size e)
 have hsubc:=ae7 X.env.cells scope.names [] (fun x c z=>by simp at z)
 have clt:∀x c,(clo X.env.cells scope.names []).lookup x=some c→c≠s.heap.objs.size:=fun x c e=>by
  obtain⟨v,hv⟩:=I.cell x c (hsubc x c e)
  obtain⟨o,ho,_⟩:=hv
  exact hlt ho
 have hkin:∀x:Str,(relabel scope X.env).names.lookup x=some .cell∨(relabel scope X.env).names.lookup x=some .free→(x,NameKind.free)∈scope.names:=fun x hx=>by
  have:∃k',(x,k')∈scope.names∧(k'=.cell∨k'=.free):=by
   rcases hx with hx|hx
   ·obtain⟨k',h1,h2,_⟩:=acz _ _ _ _ hx;exact⟨k',h1,h2 (.inl rfl)⟩
   ·obtain⟨k',h1,h2,_⟩:=acz _ _ _ _ hx;exact⟨k',h1,h2 (.inr rfl)⟩
  obtain⟨k',h1,h2⟩:=this
  rcases h2 with rfl|rfl
  ·exact absurd rfl (hN.nocell _ h1)
  ·exact h1
 have ag6:∀x:Str,(x,NameKind.free)∈scope.names→∃c,X.env.cells.lookup x=some c:=fun x hx=>I.ok.has x (hN.free (x,.free) hx rfl)
 have hstk:∀b∈frs X.stack,b∈X.env.locals::X.fs:=I.stkSub
 refine⟨⟨I.ok.mod,hN.kind,I.ok.glob,I.ok.blt,Nat.le_refl _,fun x y c h1 h2=>I.ok.inj x y c (hsubc _ _ h1) (hsubc _ _ h2),fun x hx=>?_,fun x c h _=>(Bool.noConfusion (show false=true from h)),I.ok.hd,I.ok.frames,.inl rfl,fun b hb=>?_,I.bs,Nat.le_trans I.ok.bsz I.sz,fun b o e hb=>?_,fun b hb hf=>?_,I.stack,I.stkFree⟩,
  rfl,I.bare,Un.kept hk,⟨_,hns,fun i x v h1 h2 h3=>?_⟩,fun x c h=>?_,I.hok.fresh (Nat.le_refl _),fun x c h=>I.freeC x c (hsubc _ _ h),fun p hp=>absurd (show p∈([]:List (Addr×Obj))from hp) (by simp),I.hok.kept hk,?_⟩
 ·exact aeK X.env.cells scope.names [] x (hkin x hx) (ag6 x (hkin x hx))
 ·obtain⟨f0,f1,f2,f3,f4,f5⟩:=hfp b hb
  refine⟨fun z=>?_,fun x c e z=>f4 x c (hsubc _ _ e) z⟩
  obtain⟨o,ho⟩:=hfo b hb
  exact hlt ho z
 ·have:=I.bs b o e
  obtain⟨f0,f1,f2,f3,f4,f5⟩:=hfp b hb
  rcases f3 with f3|f3
  ·exact I.ok.noex b o e f3
  ·exact absurd (Nat.lt_of_lt_of_le (Heap.lt_size (I.ok.bs b o e).1) f3) (Nat.lt_irrefl _)
 ·obtain⟨f0,f1,f2,f3,f4,f5⟩:=hfp b hb
  rcases List.mem_cons.mp (hstk b hf)with z|z
  ·exact f1 z
  ·exact f2 z
 ·obtain⟨h2',hj⟩:=agX js σ i v h2
  obtain⟨q1,q2,q3⟩:=hN.same i x h1 hj h3
  obtain⟨m,hm,hl⟩:=I.loc
  have hkx:=hN.free (x,.free) q2 rfl
  obtain⟨u,ru,lk⟩:=hl i x v q1 h2' (.inr hkx)
  refine⟨u,ru,.inr ⟨q3,?_⟩⟩
  ·rcases lk with⟨k1,_⟩|⟨_,c,hc,ic⟩
   ·rcases hkx with z|z<;>(rw[z]at k1;cases k1)
   ·obtain⟨c',hc'⟩:=aeK X.env.cells scope.names [] x q2 ⟨c,hc⟩
    have:=hsubc _ _ hc'
    rw[hc]at this
    cases this
    exact⟨c,hc',ic.keeps hk⟩
 ·obtain⟨v,hv⟩:=I.cell x c (hsubc x c h)
  exact⟨v,hv.keeps hk⟩
 ·rw[agE,I.len]
  exact hN.len.symm
end
end IP
end
section
namespace IP
open PySem PySem.Spec L2
section
variable{G:Gx}{w:Wo}{H H₀:Hp}
mutual
theorem Rep.upd{a:Addr}{xs ys:List V}(ha:H a=some (.lst xs))(hz:¬w.Z a):∀(t:T) (v:V),Rep G w H t v→Rep G w (L2.upd H a (.lst ys)) t v
 | .non,v,h=>h
 | .bl b,v,h=>h
 | .int i,v,h=>h
 | .str x,v,h=>h
 | .tup ts,v,⟨p,vs,e,h,r⟩=>⟨p,vs,e,by rw[aas (ajD h ha (by intro z;cases z))];exact h,aat.upd ha hz ts vs r⟩
 | .lst ts,v,⟨p,vs,e,z,h,r⟩=>by
  have ne:p≠a:=fun q=>hz (q▸z)
  refine⟨p,vs,e,z,?_,aat.upd ha hz ts vs r⟩
  rcases h with h|⟨o,h⟩
  ·exact .inl (by rw[aas ne];exact h)
  ·exact .inr ⟨o,by rw[aas ne];exact h⟩
 | .loc l,v,h=>h
 | .exc c,v,⟨p,e,h⟩=>⟨p,e,by rw[aas (ajD h ha (by intro z;cases z))];exact h⟩
theorem aat.upd{a:Addr}{xs ys:List V}(ha:H a=some (.lst xs))(hz:¬w.Z a):∀(ts:List T) (vs:List V),aat G w H ts vs→aat G w (L2.upd H a (.lst ys)) ts vs
 | [],vs,h=>h
 | t::ts,vs,⟨v,r,e,h,q⟩=>⟨v,r,e,Rep.upd ha hz t v h,aat.upd ha hz ts r q⟩
end
mutual
theorem Rep.zmono{w':Wo}(hn:w'.n=w.n)(hio:w'.io=w.io)(hz:∀a,w.Z a→w'.Z a):∀(t:T) (v:V),Rep G w H t v→Rep G w' H t v
 | .non,v,h=>h
 | .bl b,v,h=>h
 | .int i,v,h=>h
 | .str x,v,h=>h
 | .tup ts,v,⟨p,vs,e,h,r⟩=>⟨p,vs,e,h,aat.zmono hn hio hz ts vs r⟩
 | .lst ts,v,⟨p,vs,e,z,h,r⟩=>⟨p,vs,e,hz _ z,h,aat.zmono hn hio hz ts vs r⟩
 | .loc l,v,⟨h,e⟩=>⟨by rw[hn];exact h,by rw[hio];exact e⟩
 | .exc c,v,h=>h
theorem aat.zmono{w':Wo}(hn:w'.n=w.n)(hio:w'.io=w.io)(hz:∀a,w.Z a→w'.Z a):∀(ts:List T) (vs:List V),aat G w H ts vs→aat G w' H ts vs
 | [],vs,h=>h
 | t::ts,vs,⟨v,r,e,h,q⟩=>⟨v,r,e,Rep.zmono hn hio hz t v h,aat.zmono hn hio hz ts r q⟩
end
theorem StoOk.upd{s:Sto}{a:Addr}{xs ys:List V}(S:StoOk G w H s)(ha:H a=some (.lst xs))(hz:¬w.Z a)(hl:IP.notLoc w a):StoOk G w (L2.upd H a (.lst ys)) s where
 len:=S.len
 inj:=S.inj
 nz:=S.nz
 cell:=fun l c e=>by
  have h:l<w.n:=by rw[←S.len];exact(List.getElem?_eq_some_iff.mp e).1
  have q:=S.cell l c e
  have ne:w.io l≠a:=fun z=>hl l h z.symm
  cases c with
  | lst ts=>obtain⟨vs,q1,q2⟩:=q;exact⟨vs,by rw[aas ne];exact q1,aat.upd ha hz ts vs q2⟩
  | ins c fs=>obtain⟨dx,kvs,q1,q2,q3⟩:=q;exact⟨dx,kvs,by rw[aas ne];exact q1,q2,fun i x t h1 h2=>let ⟨v,z1,z2⟩:=q3 i x t h1 h2;⟨v,z1,Rep.upd ha hz t v z2⟩⟩
  | tbl k p q'=>obtain⟨q0,ps,q1,q2,q3⟩:=q;exact⟨q0,ps,by rw[aas ne];exact q1,q2,fun cv hcv=>let ⟨c,e1,e2⟩:=q3 cv hcv;⟨c,e1,by rw[aas (ajD e2 ha (by intro z;cases z))];exact e2⟩⟩
 zt:=fun p z=>by
  obtain⟨vs,r⟩:=S.zt p z
  have ne:p≠a:=fun q=>hz (q▸z)
  rcases r with r|⟨o,r⟩
  ·exact⟨vs,.inl (by rw[aas ne];exact r)⟩
  ·exact⟨vs,.inr ⟨o,by rw[aas ne];exact r⟩⟩
theorem StoOk.addZ{s:Sto}{a:Addr}{xs:List V}(S:StoOk G w H s)(ha:H a=some (.lst xs))(hl:IP.notLoc w a):StoOk G (w.addZ a) H s where
 len:=S.len
 inj:=S.inj
 nz:=fun l h z=>z.elim (S.nz l h) fun q=>hl l h q.symm
 cell:=fun l c e=>by
  have q:=S.cell l c e
  cases c with
  | lst ts=>obtain⟨vs,q1,q2⟩:=q;exact⟨vs,q1,aat.zmono (w:=w) (w':=w.addZ a) rfl rfl (fun _ z=>.inl z) ts vs q2⟩
  | ins c fs=>obtain⟨dx,kvs,q1,q2,q3⟩:=q;exact⟨dx,kvs,q1,q2,fun i x t h1 h2=>let ⟨v,z1,z2⟩:=q3 i x t h1 h2;⟨v,z1,Rep.zmono (w:=w) (w':=w.addZ a) rfl rfl (fun _ z=>.inl z) t v z2⟩⟩
  | tbl k p q'=>exact q
 zt:=fun p z=>z.elim (S.zt p) fun q=>⟨xs,.inl (by rw[q];exact ha)⟩
theorem Le.updNew{w':Wo}{H':Hp}{a:Addr}{o:HO}(L:Le w w' H H')(ha:H a=none)(hs:H' a≠none):Le w w' H (L2.upd H' a o)where
 n:=L.n
 io:=L.io
 Z:=L.Z
 keep:=fun p q e nl=>by rw[aas (acd e ha)];exact L.keep p q e nl
 newL:=L.newL
 newZ:=L.newZ
 some_:=fun p z=>by
  by_cases e:p=a
  ·subst e;exact absurd ha z
  ·rw[aas e];exact L.some_ p z
theorem Le.addZ{w':Wo}{H':Hp}{a:Addr}(L:Le w w' H H')(ha:H a=none):Le w (w'.addZ a) H H' where
 n:=L.n
 io:=L.io
 Z:=fun p z=>.inl (L.Z p z)
 keep:=L.keep
 newL:=L.newL
 newZ:=fun p z=>z.elim (L.newZ p) fun q=>.inr (q▸ha)
 some_:=L.some_
theorem aj1{X:Cx}{σV:St}{res:Res R}{Q:VK}(hv:∀r s,res=.ok r s→∃ts,r=.val (.lst ts))(h:aaQ G X σV w H res Q):aaN G X σV w H res Q:=by
 cases res with
 | stuck=>exact h
 | exc c s=>exact h
 | ok r s=>
  obtain⟨ts,rfl⟩:=hv r s rfl
  intro w' H' a vs L S ha r hn nz nl
  exact h (w'.addZ a) H' (.ref a) (L.addZ hn) (S.addZ ha nl) ⟨a,vs,rfl,.inr rfl,.inl ha,aat.zmono (w:=w') (w':=w'.addZ a) rfl rfl (fun _ z=>.inl z) ts vs r⟩
theorem FrOk.put{σ:Fr}{σV:St}{i:Nat}{t:T}{v:V}(F:FrOk G w H H₀ σ σV)(r:Rep G w H t v):FrOk G w H H₀ (put σ i t) (σV.set i (some v))where
 len:=by unfold IP.put;simp[F.len]
 val:=fun j u e=>by
  unfold IP.put at e
  by_cases hj:i=j
  ·subst hj
   have hlt:i<σ.length:=by
    have:=(List.getElem?_eq_some_iff.mp e).1
    simpa using this
   rw[List.getElem?_set_self hlt]at e
   cases e
   exact⟨v,by rw[List.getElem?_set_self (by rw[←F.len];exact hlt)],r⟩
  ·rw[List.getElem?_set_ne hj]at e
   obtain⟨x,h1,h2⟩:=F.val j u e
   exact⟨x,by rw[List.getElem?_set_ne hj];exact h1,h2⟩
 own:=fun j b ts e eb=>by
  unfold IP.put at e
  by_cases hj:i=j
  ·subst hj
   have hlt:i<σ.length:=by
    have:=(List.getElem?_eq_some_iff.mp e).1
    simpa using this
   rw[List.getElem?_set_self hlt]at e
   cases e
   cases eb
  ·rw[List.getElem?_set_ne hj]at e
   obtain⟨a,vs,h1,h2⟩:=F.own j b ts e eb
   exact⟨a,vs,by rw[List.getElem?_set_ne hj];exact h1,h2⟩
 apart:=fun j k b c ts us a hjk e1 eb e2 ec e3 e4=>by
  unfold IP.put at e1 e2
  have nj:i≠j:=fun q=>by
   subst q
   have hlt:i<σ.length:=by
    have:=(List.getElem?_eq_some_iff.mp e1).1
    simpa using this
   rw[List.getElem?_set_self hlt]at e1
   cases e1
   cases eb
  have nk:i≠k:=fun q=>by
   subst q
   have hlt:i<σ.length:=by
    have:=(List.getElem?_eq_some_iff.mp e2).1
    simpa using this
   rw[List.getElem?_set_self hlt]at e2
   cases e2
   cases ec
  rw[List.getElem?_set_ne nj]at e1 e3
  rw[List.getElem?_set_ne nk]at e2 e4
  exact F.apart j k b c ts us a hjk e1 eb e2 ec e3 e4
 bor:=fun j ts e=>by
  unfold IP.put at e
  by_cases hj:i=j
  ·subst hj
   have hlt:i<σ.length:=by
    have:=(List.getElem?_eq_some_iff.mp e).1
    simpa using this
   rw[List.getElem?_set_self hlt]at e
   cases e
  ·rw[List.getElem?_set_ne hj]at e
   obtain⟨a,vs,h1,h2⟩:=F.bor j ts e
   exact⟨a,vs,by rw[List.getElem?_set_ne hj];exact h1,h2⟩
noncomputable def abh(σV:St):List Nat→List V→St
 | [],_=>σV
 | _,[]=>σV
 | i::is,v::vs=>abh (σV.set i (some v)) is vs
theorem aef:∀(is:List Nat) (vs:List V) (σV:St),(abh σV is vs).length=σV.length
 | [],_,σV=>rfl
 | i::is,[],σV=>rfl
 | i::is,v::vs,σV=>by show(abh (σV.set i (some v)) is vs).length=_;rw[aef is vs];simp
theorem FrOk.puts:∀{is:List Nat}{ts:List T}{vs:List V}{σ σ':Fr}{σV:St},FrOk G w H H₀ σ σV→aat G w H ts vs→IP.puts σ is ts=some σ'→FrOk G w H H₀ σ' (abh σV is vs)
 | [],[],vs,σ,σ',σV,F,r,h=>by cases h;exact F
 | [],_::_,vs,σ,σ',σV,F,r,h=>by cases h
 | _::_,[],vs,σ,σ',σV,F,r,h=>by cases h
 | i::is,t::ts,_,σ,σ',σV,F,⟨v,r,e,h1,h2⟩,h=>by
  subst e
  have z:=FrOk.puts (is:=is) (ts:=ts) (vs:=r) (σ':=σ') (F.put (i:=i) h1) h2 h
  exact z
theorem ahb{σV:St}{i j:Nat}{x y:Option V}(h:i≠j):(σV.set i x).set j y=(σV.set j y).set i x:=List.set_comm x y h
theorem aeJ{σV:St}{j:Nat}{x:Option V}:∀{js:List Nat},j∉js→clr (σV.set j x) js=(clr σV js).set j x
 | [],_=>rfl
 | k::js,h=>by
  show clr ((σV.set j x).set k none) js=(clr (σV.set k none) js).set j x
  rw[ahb (fun q=>h (by simp[q]))]
  exact aeJ (σV:=σV.set k none) fun q=>h (List.mem_cons_of_mem _ q)
theorem aeu:∀{js:List Nat}{vs:List V}{σV:St},js.Nodup→js.length=vs.length→abh (clr σV js) js vs=abh σV js vs
 | [],[],σV,_,_=>rfl
 | j::js,v::vs,σV,hn,hl=>by
  obtain⟨h1,h2⟩:=List.nodup_cons.mp hn
  show abh ((clr (σV.set j none) js).set j (some v)) js vs=abh (σV.set j (some v)) js vs
  rw[aeJ h1,List.set_set,←aeJ h1]
  exact aeu h2 (by simpa using hl)
 | j::js,[],σV,hn,hl=>by simp at hl
 | [],_::_,σV,hn,hl=>by simp at hl
end
end IP
end
section
namespace IP
open PySem PySem.Spec L2
section
variable{prog:Program}{w:World}{A:Around}{E:Value→Shared→Prop}{s:Shared}
theorem af2{it l:Addr}{items:Array Value}(hne:l≠it):∀(n i:Nat) (s:Shared) (Q:List Value→Shared→Prop),s.heap.IsListIter it l i→s.heap.IsList l items→i+n≤items.size→
  (∀h',h'.IsListIter it l (i+n)→Heap.SameBut it s.heap h'→Q ((items.toList.drop i).take n) { s with heap:=h' })→wpAny (model prog w) A (draw (.ref it) n) Q E s
 | 0,i,s,Q,hit,_,_,hQ=>by
  show wpAny _ _ (pure []) Q E s
  exact wpAny_pure (by simpa using hQ s.heap hit (Heap.SameBut.refl ..))
 | n+1,i,s,Q,hit,ht,hle,hQ=>by
  have hlt:i<items.size:=by omega
  show wpAny _ _ (pyNext (.ref it) >>= _) Q E s
  refine wpAny_bind (wpAny_pyNext_list_item hit ht (x:=items[i]) (by simp[hlt]) fun h₁ hit₁ hs₁=>?_)
  refine wpAny_bind (wpAny_holding (af2 hne n (i+1) _ _ hit₁ (ht.extBut hs₁.extBut hne) (by omega) fun h₂ hit₂ hs₂=>wpAny_pure ?_))
  have hd:items.toList.drop i=items[i]::items.toList.drop (i+1):=by simp[List.drop_eq_getElem_cons,hlt]
  have:=hQ h₂ (by rw[show i+(n+1)=i+1+n by omega];exact hit₂) (hs₁.trans hs₂)
  rw[hd,List.take_succ_cons]at this
  exact this
theorem acT{l:Addr}{items:Array Value}{Q:List Value→Shared→Prop}(hh:A.handled=none)(ht:s.heap.IsList l items)
  (hQ:∀h',Heap.ExtBut s.heap.objs.size s.heap h'→Q items.toList { s with heap:=h' }):wpAny (model prog w) A (unpackItems (.ref l) items.size none) Q E s:=by
 have hlt:l≠s.heap.objs.size:=by obtain⟨o,ho,_⟩:=ht;exact Nat.ne_of_lt (Heap.lt_size ho)
 unfold unpackItems
 refine wpAny_bind ?_
 ·unfold notIterableAtAll
  refine wpAny_bind (wpAny_specialOf ht.typeIs slot_list_iter.lookup ?_)
  refine wpAny_pure ?_
  simp only[Bool.false_eq_true,if_false]
  refine wpAny_bind (wpAny_holding (wpAny_pyIter_list ht ?_))
  have ht0:(s.heap.push { cls:=.type "list_iterator",data:=.fields #[.ref l,.int 0 0] }).IsList l items:=ht.extBut (b:=s.heap.objs.size) (fun b o _ e=>Heap.get?_push_of_some _ e) hlt
  refine wpAny_bind (wpAny_holding (af2 hlt items.size 0 _ _ ⟨_,Heap.get?_push_size _ rfl,rfl,rfl⟩ ht0 (by omega) fun h₁ hit₁ hs₁=>?_))
  have hall:List.take items.size (List.drop 0 items.toList)=items.toList:=by
   rw[List.drop_zero];exact List.take_of_length_le (by simp)
  rw[hall]
  rw[if_neg (by simp)]
  have ht₁:h₁.IsList l items:=ht0.extBut hs₁.extBut hlt
  refine wpAny_bind (wpAny_holding (wpAny_pyNext_list_end hh hit₁ ht₁ (by simp) fun h₂ he₂=>?_))
  simp only[Option.isSome_none,Bool.false_eq_true,if_false]
  refine wpAny_pure (hQ h₂ fun b o hb e=>he₂ b o hb (hs₁.extBut b o hb (Heap.get?_push_of_some _ e)))
theorem ac3{env:Env}{elts:List Expr}{x1}{pos:Pos}{l:Addr}{items:Array Value}{Q:Unit→Shared→Prop}(hh:A.handled=none)(ht:s.heap.IsList l items)
  (hn:(assignEach elts env).length=items.size) (hstar:(assignEach elts env).findIdx? (·.1)=none)
  (h:∀h',Heap.ExtBut s.heap.objs.size s.heap h'→wpAny (model prog w) A (assignInOrder ((assignEach elts env).map (·.2)) items.toList) Q E { s with heap:=h' }):
  wpAny (model prog w) A (assign (.Tuple elts x1 pos) env (.ref l)) Q E s:=by
 rw[PyProof.Rows.assign_Tuple]
 refine wpAny_bind (wpAny_standAt ?_)
 unfold unpack
 rw[hn,hstar]
 exact wpAny_bind (wpAny_holding (acT hh ht h))
end
section
variable{X:Cx}
theorem amP{es:List Expr}{k:Nat}{t:TGs}{n:Nat}{pos:Pos}(hc:X.calm=true)(h:PGs X es t)(hn:(assignEach es X.env).length=n)(hst:(assignEach es X.env).findIdx? (·.1)=none):
  PG X (.Tuple es k pos) (fun v σ H Q=>∃a xs,v=.ref a∧Rd H a (.lst xs)∧xs.length=n∧t xs σ H Q):=by
 intro pins s σ H v u Q I r hw
 obtain⟨a,xs,e1,hq,hl,hw⟩:=hw
 subst e1
 cases r
 obtain⟨its,rv,p⟩:=aaO I hq
 refine ac3 (I.ok.hd hc) p (by simp[hn,←hl,rv.length]) hst fun h' hx=>?_
 have I1:Inv X pins σ H { s with heap:=h' }:=I.kept (t':=s.toks) fun b o e=>hx b o (Nat.ne_of_lt (Heap.lt_size e)) e
 exact h pins _ σ H xs _ Q I1 (by simpa using rv) hw
end
end IP
end
section
namespace IP
open PySem PySem.Spec L2
inductive Src where
 | l (a:Addr) (vs:List V)|t (a:Addr) (vs:List V)|r (lo:Int) (n:Nat)
noncomputable def agO(K:PySem.W.Frag):Src→It
 | .l a _=>Itl K a
 | .t a _=>Itt K a
 | .r lo n=>Itr lo n
noncomputable def abf(G:Gx)(w:Wo)(H:Hp)(z:Bool):Src→List T→Prop
 | .l a vs,ts=>Rd H a (.lst vs)∧aat G w H ts vs∧notLoc w a∧(z=true→w.Z a)
 | .t a vs,ts=>H a=some (.tup vs)∧aat G w H ts vs
 | .r lo n,ts=>ts=(List.range n).map (fun(k:Nat)=>T.int (lo+k))∧n≤sizeLine
section
variable{G:Gx}{X:Cx}{C:Cf}{w w':Wo}{H H':Hp}
theorem Rd.some{a:Addr}{u:HO}(r:Rd H a u):H a≠none:=by
 rcases r with r|⟨o,r⟩<;>(rw[r];intro z;cases z)
theorem abf.mono{z:Bool}{s:Sto}(L:Le w w' H H')(S:StoOk G w H s):∀{src:Src}{ts:List T},abf G w H z src ts→abf G w' H' z src ts
 | .l a vs,ts,⟨h1,h2,h3,h4⟩=>⟨Rd.keep L h3 h1,aat.mono L S ts vs h2,notLoc.mono L (Rd.some h1) h3,fun q=>L.Z a (h4 q)⟩
 | .t a vs,ts,⟨h1,h2⟩=>⟨L.keep _ _ h1 (S.notLoc h1 (fun _ z=>by cases z) fun _ _ _ z=>by cases z),aat.mono L S ts vs h2⟩
 | .r lo n,ts,h=>h
noncomputable def ach(G:Gx)(w:Wo)(H:Hp):Src→List T→Prop
 | .l a _,ts=>∃vs,Rd H a (.lst vs)∧aat G w H ts vs
 | .t a vs,ts=>H a=some (.tup vs)∧aat G w H ts vs
 | .r lo n,ts=>ts=(List.range n).map (fun(k:Nat)=>T.int (lo+k))∧n≤sizeLine
theorem abf.now{z:Bool}:∀{src:Src}{ts:List T},abf G w H z src ts→ach G w H src ts
 | .l _ vs,_,h=>⟨vs,h.1,h.2.1⟩
 | .t _ _,_,h=>h
 | .r _ _,_,h=>h
theorem ach.go:∀{src:Src}{ts:List T}{K:PySem.W.Frag}{i:Nat}{t:T},ach G w H src ts→ts[i]?=some t→(agO K src).go i H∧∀x H',(agO K src).yld i H x H'→H'=H∧Rep G w H t x
 | .l a _,ts,K,i,t,⟨vs,h1,h2⟩,e=>by
  obtain⟨v,e1,r⟩:=h2.get e
  refine⟨⟨vs,v,.inl h1,e1⟩,fun x H' ⟨q1,q2⟩=>⟨q1,?_⟩⟩
  have:=q2 vs (.inl h1)
  rw[e1]at this
  cases this
  exact r
 | .t a vs,ts,K,i,t,⟨h1,h2⟩,e=>by
  obtain⟨v,e1,r⟩:=h2.get e
  refine⟨⟨vs,v,SqT.of h1,e1⟩,fun x H' ⟨q1,q2⟩=>⟨q1,?_⟩⟩
  have:=q2 vs (SqT.of h1)
  rw[e1]at this
  cases this
  exact r
 | .r lo n,ts,K,i,t,⟨h1,_⟩,e=>by
  subst h1
  rw[List.getElem?_map]at e
  obtain⟨k,hk,rfl⟩:=map_some e
  obtain⟨hi,hk⟩:=List.getElem?_eq_some_iff.mp hk
  simp at hi hk
  subst hk
  refine⟨hi,fun x H' ⟨q1,q2⟩=>⟨q1,?_⟩⟩
  rw[q2]
  exact rfl
theorem ach.stop:∀{src:Src}{ts:List T}{K:PySem.W.Frag},ach G w H src ts→(agO K src).stop ts.length H
 | .l a _,ts,K,⟨vs,h1,h2⟩=>⟨vs,.inl h1,by rw[h2.length];exact Nat.le_refl _⟩
 | .t a vs,ts,K,⟨h1,h2⟩=>⟨vs,SqT.of h1,by rw[h2.length];exact Nat.le_refl _⟩
 | .r lo n,ts,K,⟨h1,_⟩=>by subst h1;show n≤_;simp
theorem ach.small{pins:List (Addr×Obj)}{σ:St}{s:Shared}(I:Inv X pins σ H s):∀{src:Src}{ts:List T},ach G w H src ts→ts.length≤sizeLine
 | .l a _,ts,⟨vs,h1,h2⟩=>by rw[h2.length];exact(Rd.lst I h1).1
 | .t a vs,ts,⟨h1,h2⟩=>by
  rw[h2.length]
  exact(I.hok a _ h1).1
 | .r lo n,ts,⟨h1,h2⟩=>by subst h1;simpa using h2
theorem abf.go{z:Bool}{src:Src}{ts:List T}{K:PySem.W.Frag}{i:Nat}{t:T}(h:abf G w H z src ts)(e:ts[i]?=some t):(agO K src).go i H∧∀x H',(agO K src).yld i H x H'→H'=H∧Rep G w H t x:=h.now.go e
theorem abf.stop{z:Bool}{src:Src}{ts:List T}{K:PySem.W.Frag}(h:abf G w H z src ts):(agO K src).stop ts.length H:=h.now.stop
theorem abf.small{z:Bool}{pins:List (Addr×Obj)}{σ:St}{s:Shared}(I:Inv X pins σ H s){src:Src}{ts:List T}(h:abf G w H z src ts):ts.length≤sizeLine:=h.now.small I
noncomputable def afM(G:Gx)(X:Cx)(σV:St)(w:Wo)(H:Hp)(z:Bool)(res:Res R)(Q:It→Hp→Prop):Prop:=match res with
 | .ok (.val (.lst ts)) s'=>∀w' H' src,Le w w' H H'→StoOk G w' H' s'→abf G w' H' z src ts→Q (agO X.K src) H'
 | .exc c s'=>∀w' H' pins u sh,Le w w' H H'→StoOk G w' H' s'→aaY G X pins σV H' c u sh→X.xe u sh
 | _=>False
noncomputable def tI(G:Gx)(X:Cx)(C:Cf)(e:E)(m:Md)(z:Bool):TI:=fun σV H R=>∃w₀ H₀ w σ s,Good G w₀ H₀ w H σ s σV∧afM G X σV w H z (ev C e m σ s) R
theorem PI.imp{tg e:Expr}{t t':TI}(h:PI X tg e t)(q:∀σ H R,t' σ H R→t σ H R):PI X tg e t':=fun pins s σ H R I z=>h pins s σ H R I (q _ _ _ z)
theorem ajx{tg l:Expr}{tl:TE}(hl:PE X l tl):PI X tg l (fun σ H R=>tl σ H fun x H1=>∃a,x=.ref a∧((∃xs,Rd H1 a (.lst xs)∧R (Itl X.K a) H1)∨∃xs,H1 a=some (.tup xs)∧R (Itt X.K a) H1)):=by
 intro pins s σ H R I h
 refine thn (hl pins s σ H _ I h) fun v s1 ⟨x,H1,I1,r1,q1⟩=>?_
 obtain⟨a,e,q⟩:=q1
 subst e
 cases r1
 have hf:∀b∈[s1.heap.objs.size],ad0 X pins H1 b:=fun b hb=>by
  have e:b=s1.heap.objs.size:=by simpa using hb
  subst e
  exact I1.fpOk (Nat.le_refl _) (I1.hok.fresh (Nat.le_refl _))
 rcases q with⟨xs,hq,q⟩|⟨xs,hq,q⟩
 ·obtain⟨its,rv,p⟩:=aaO I1 hq
  refine wpAny_pyIter_list p ?_
  exact⟨s1.heap.objs.size,[s1.heap.objs.size],_,_,H1,rfl,I1.kept (t':=s1.toks) fun b o e=>Heap.get?_push_of_some _ e,ahu a _,⟨_,Heap.get?_push_size _ rfl,rfl,rfl⟩,hf,q⟩
 ·obtain⟨its,rv,p⟩:=abd I1 hq
  refine wpAny_pyIter_tuple p ?_
  exact⟨s1.heap.objs.size,[s1.heap.objs.size],_,_,H1,rfl,I1.kept (t':=s1.toks) fun b o e=>Heap.get?_push_of_some _ e,afD a _,⟨_,Heap.get?_push_size _ rfl,rfl,rfl⟩,hf,q⟩
theorem aft{tg e:Expr}{e':E}{m:Md}{z:Bool}(hE:PE X e (tV G X C e'))(hm:m=.i∧z=false∨m=.j∧z=true)
  (hev:∀σ s,ev C e' m σ s=fin m (ev C e' .v σ s)):PI X tg e (tI G X C e' m z):=by
 refine PI.imp (ajx hE) ?_
 rintro σV H R ⟨w₀,H₀,w,σ,s,g,h⟩
 rw[hev]at h
 refine⟨w₀,H₀,w,σ,s,g,?_⟩
 cases he:ev C e' .v σ s with
 | stuck=>rw[he]at h;rcases hm with⟨rfl,rfl⟩|⟨rfl,rfl⟩<;>exact h
 | exc c s1=>rw[he]at h;rcases hm with⟨rfl,rfl⟩|⟨rfl,rfl⟩<;>exact h
 | ok x s1=>
  rw[he]at h
  intro w1 H1 v L1 S1 R1
  match x,R1 with
  | .val (.lst ts),⟨a,vs,e,hz,hr,rp⟩=>
   subst e
   refine⟨a,rfl,.inl ⟨vs,hr,?_⟩⟩
   rcases hm with⟨rfl,rfl⟩|⟨rfl,rfl⟩<;>exact h w1 H1 (.l a vs) L1 S1 ⟨hr,rp,S1.zLoc hz,fun _=>hz⟩
  | .val (.tup ts),⟨a,vs,e,hr,rp⟩=>
   subst e
   refine⟨a,rfl,.inr ⟨vs,hr,?_⟩⟩
   rcases hm with⟨rfl,rfl⟩|⟨rfl,rfl⟩<;>exact h w1 H1 (.t a vs) L1 S1 ⟨hr,rp⟩
  | .bor ts,⟨a,vs,e,hr,rp,nl⟩=>
   subst e
   rcases hm with⟨rfl,rfl⟩|⟨rfl,rfl⟩
   ·exact⟨a,rfl,.inl ⟨vs,.inl hr,h w1 H1 (.l a vs) L1 S1 ⟨.inl hr,rp,nl,fun z=>by cases z⟩⟩⟩
   ·exact h.elim
  | .val .non,_=>rcases hm with⟨rfl,rfl⟩|⟨rfl,rfl⟩<;>exact h.elim
  | .val (.bl _),_=>rcases hm with⟨rfl,rfl⟩|⟨rfl,rfl⟩<;>exact h.elim
  | .val (.int _),_=>rcases hm with⟨rfl,rfl⟩|⟨rfl,rfl⟩<;>exact h.elim
  | .val (.str _),_=>rcases hm with⟨rfl,rfl⟩|⟨rfl,rfl⟩<;>exact h.elim
  | .val (.loc _),_=>rcases hm with⟨rfl,rfl⟩|⟨rfl,rfl⟩<;>exact h.elim
  | .val (.exc _),_=>rcases hm with⟨rfl,rfl⟩|⟨rfl,rfl⟩<;>exact h.elim
theorem adn{i:Int}(h:bnd i=true):-(2^62)≤i∧i<2^62:=by
 unfold bnd at h
 rw[Bool.and_eq_true,decide_eq_true_iff,decide_eq_true_iff]at h
 exact h
theorem agM:lim≤sizeLine:=by decide
theorem akh{tg a:Expr}{a':E}{p pos:Pos}{m:Md}{z:Bool}(hm:m=.i∨m=.j)(hg:Gl X "range")(hmg:X.mg "range"=none)(ha:PE X a (tV G X C a'))(hs:starEach [a] X.env=[(false,eval a X.env)]):PI X tg (.Call (.Name "range" p) [a] [] pos) (tI G X C (.rng1 a') m z):=by
 refine PI.imp (ahi hg hmg (aaH ha abx hs) hs) ?_
 rintro σV H R ⟨w₀,H₀,w,σ,s,g,h⟩
 have h:afM G X σV w H z ((ev C a' .v σ s).bind fun x s1=>onI x fun j=>if bnd j&&decide (j≤lim)then .ok (.val (.lst (aax 0 j))) s1 else .stuck) R:=by rcases hm with rfl|rfl<;>exact h
 refine⟨w₀,H₀,w,σ,s,g,?_⟩
 cases he:ev C a' .v σ s with
 | stuck=>rw[he]at h;exact h
 | exc c s1=>rw[he]at h;exact h
 | ok x s1=>
  rw[he]at h
  intro w1 H1 v L1 S1 R1
  match x,R1,h with
  | .val (.int j),R1,h=>
   cases R1
   have h:afM G X σV w H z (if bnd j&&decide (j≤lim)then .ok (.val (.lst (aax 0 j))) s1 else .stuck) R:=h
   split at h
   ·rename_i hb
    rw[Bool.and_eq_true,decide_eq_true_iff]at hb
    refine⟨j,rfl,(adn hb.1).1,(adn hb.1).2,?_⟩
    refine h w1 H1 (.r 0 j.toNat) L1 S1 ⟨?_,?_⟩
    ·unfold aax;simp
    ·have:=agM;omega
   ·exact h.elim
  | .val .non,_,h=>exact h.elim
  | .val (.bl _),_,h=>exact h.elim
  | .val (.str _),_,h=>exact h.elim
  | .val (.tup _),_,h=>exact h.elim
  | .val (.lst _),_,h=>exact h.elim
  | .val (.loc _),_,h=>exact h.elim
  | .val (.exc _),_,h=>exact h.elim
  | .bor _,_,h=>exact h.elim
theorem ajJ{tg a b:Expr}{a' b':E}{p pos:Pos}{m:Md}{z:Bool}(hm:m=.i∨m=.j)(hg:Gl X "range")(hmg:X.mg "range"=none)(ha:PE X a (tV G X C a'))(hb:PE X b (tV G X C b'))(hs:starEach [a,b] X.env=[(false,eval a X.env),(false,eval b X.env)])(hs2:starEach [b] X.env=[(false,eval b X.env)]):PI X tg (.Call (.Name "range" p) [a,b] [] pos) (tI G X C (.rng2 a' b') m z):=by
 refine PI.imp (ahh hg hmg (aaH ha (aaH hb abx hs2) (by rw[hs,hs2])) hs hs2) ?_
 rintro σV H R ⟨w₀,H₀,w,σ,s,g,h⟩
 have h:afM G X σV w H z ((ev C a' .v σ s).bind fun x s1=>onI x fun i=>(ev C b' .v σ s1).bind fun y s2=>onI y fun j=>if bnd i&&bnd j&&decide (j-i≤lim)then .ok (.val (.lst (aax i j))) s2 else .stuck) R:=by rcases hm with rfl|rfl<;>exact h
 refine⟨w₀,H₀,w,σ,s,g,?_⟩
 cases he:ev C a' .v σ s with
 | stuck=>rw[he]at h;exact h
 | exc c s1=>rw[he]at h;exact h
 | ok x s1=>
  rw[he]at h
  intro w1 H1 v L1 S1 R1
  match x,R1,h with
  | .val (.int i),R1,h=>
   cases R1
   refine⟨w₀,H₀,w1,σ,s1,g.step L1 S1,?_⟩
   have h:afM G X σV w H z ((ev C b' .v σ s1).bind fun y s2=>onI y fun j=>if bnd i&&bnd j&&decide (j-i≤lim)then .ok (.val (.lst (aax i j))) s2 else .stuck) R:=h
   cases hf:ev C b' .v σ s1 with
   | stuck=>rw[hf]at h;exact h
   | exc c s2=>rw[hf]at h;exact fun w2 H2 pins u sh L2=>h w2 H2 pins u sh (L1.trans L2)
   | ok y s2=>
    rw[hf]at h
    intro w2 H2 v2 M2 S2 R2
    match y,R2,h with
    | .val (.int j),R2,h=>
     cases R2
     have h:afM G X σV w H z (if bnd i&&bnd j&&decide (j-i≤lim)then .ok (.val (.lst (aax i j))) s2 else .stuck) R:=h
     split at h
     ·rename_i hb
      rw[Bool.and_eq_true,Bool.and_eq_true,decide_eq_true_iff]at hb
      refine⟨i,j,rfl,⟨(adn hb.1.1).1,(adn hb.1.1).2,(adn hb.1.2).1,(adn hb.1.2).2⟩,?_⟩
      refine h w2 H2 (.r i (j-i).toNat) (L1.trans M2) S2 ⟨rfl,?_⟩
      have:=agM
      omega
     ·exact h.elim
    | .val .non,_,h=>exact h.elim
    | .val (.bl _),_,h=>exact h.elim
    | .val (.str _),_,h=>exact h.elim
    | .val (.tup _),_,h=>exact h.elim
    | .val (.lst _),_,h=>exact h.elim
    | .val (.loc _),_,h=>exact h.elim
    | .val (.exc _),_,h=>exact h.elim
    | .bor _,_,h=>exact h.elim
  | .val .non,_,h=>exact h.elim
  | .val (.bl _),_,h=>exact h.elim
  | .val (.str _),_,h=>exact h.elim
  | .val (.tup _),_,h=>exact h.elim
  | .val (.lst _),_,h=>exact h.elim
  | .val (.loc _),_,h=>exact h.elim
  | .val (.exc _),_,h=>exact h.elim
  | .bor _,_,h=>exact h.elim
noncomputable def slots:Tg→List Nat
 | .one i=>[i]
 | .many is=>is
noncomputable def gTg(G:Gx)(g:Tg):TG:=fun v σV H Q=>∃w s t σ σ',StoOk G w H s∧Rep G w H t v∧aav σ g t=some σ'∧∀vs,(∀H₀ σV',FrOk G w H H₀ σ σV'→FrOk G w H H₀ σ' (abh σV' (slots g) vs))→vs.length=(slots g).length→Q (abh σV (slots g) vs) H
theorem PG.imp{tg:Expr}{t t':TG}(h:PG X tg t)(q:∀v σ H Q,t' v σ H Q→t v σ H Q):PG X tg t':=fun pins s σ H v u Q I r z=>h pins s σ H v u Q I r (q _ _ _ _ z)
theorem ami{i:Nat}{x:Str}{pos:Pos}(hN:X.N.Nodup)(hi:X.N[i]?=some x)(hx:Loc X.env.scope x)(hf:X.fn x=true∨X.env.scope.names.lookup x=some .local):PG X (.Name x pos) (gTg G (.one i)):=by
 refine PG.imp (agJ hN hi hx hf) ?_
 rintro v σV H Q ⟨w,s,t,σ,σ',S,r,e,q⟩
 cases e
 exact q [v] (fun H₀ σV' F=>F.put r) rfl
noncomputable def adC(js:List Nat):TGs:=fun vs σ H Q=>vs.length=js.length∧Q (abh σ js vs) H
theorem PGs.imp{ts:List Expr}{t t':TGs}(h:PGs X ts t)(q:∀v σ H Q,t' v σ H Q→t v σ H Q):PGs X ts t':=fun pins s σ H v u Q I r z=>h pins s σ H v u Q I r (q _ _ _ _ z)
theorem ab3:PGs X [] (adC []):=PGs.imp akB fun vs σ H Q ⟨h,q⟩=>by
 have:vs=[]:=List.length_eq_zero_iff.mp h
 subst this
 exact⟨rfl,q⟩
theorem ajK{i:Nat}{js:List Nat}{x:Str}{pos:Pos}{es:List Expr}(hN:X.N.Nodup)(hi:X.N[i]?=some x)(hx:Loc X.env.scope x)(hf:X.fn x=true∨X.env.scope.names.lookup x=some .local)(h2:PGs X es (adC js)):PGs X (.Name x pos::es) (adC (i::js)):=by
 refine PGs.imp (aiN (agJ hN hi hx hf) h2 rfl) ?_
 rintro vs σ H Q ⟨h,q⟩
 match vs,h,q with
 | v::r,h,q=>exact⟨v,r,rfl,by simpa using h,q⟩
theorem ad5:∀{is:List Nat}{ts:List T}{σ σ':Fr},puts σ is ts=some σ'→is.length=ts.length
 | [],[],_,_,_=>rfl
 | [],_::_,_,_,h=>by cases h
 | _::_,[],_,_,h=>by cases h
 | i::is,t::ts,σ,σ',h=>by simp[ad5 (is:=is) (ts:=ts) (σ:=put σ i t) h]
theorem agF{js:List Nat}{es:List Expr}{k:Nat}{pos:Pos}(hc:X.calm=true)(h:PGs X es (adC js))(hn:(assignEach es X.env).length=js.length)(hst:(assignEach es X.env).findIdx? (·.1)=none):PG X (.Tuple es k pos) (gTg G (.many js)):=by
 rintro pins s0 σV H v u Q I ru ⟨w,s,t,σ,σ',S,r,e,q⟩
 match t,r,e with
 | .tup ts,⟨a,vs,e1,hp,rp⟩,e=>
  have e:puts σ js ts=some σ':=e
  have hl:=ad5 e
  refine amC hc h hn hst pins s0 σV H v u Q I ru ⟨a,vs,e1,SqT.of hp,by rw[←rp.length,hl],by rw[←rp.length,hl],?_⟩
  exact q vs (fun H₀ σV' F=>FrOk.puts F rp e) (by rw[←rp.length];exact hl.symm)
 | .lst ts,⟨a,vs,e1,_,hp,rp⟩,e=>
  have e:puts σ js ts=some σ':=e
  have hl:=ad5 e
  refine amP hc h hn hst pins s0 σV H v u Q I ru ⟨a,vs,e1,hp,by rw[←rp.length,hl],by rw[←rp.length,hl],?_⟩
  exact q vs (fun H₀ σV' F=>FrOk.puts F rp e) (by rw[←rp.length];exact hl.symm)
 | .non,_,e=>cases e
 | .bl _,_,e=>cases e
 | .int _,_,e=>cases e
 | .str _,_,e=>cases e
 | .loc _,_,e=>cases e
 | .exc _,_,e=>cases e
end
end IP
end
section
namespace IP
open PySem PySem.Spec L2
theorem aa1{h:Heap}{as:List Addr}{b:Addr}{o:Obj}:(PySem.W.hideAll h as).get? b=some o↔h.get? b=some o∧b∉as:=by
 refine⟨fun e=>⟨PySem.W.of_hideAll as e,fun z=>?_⟩,fun⟨e,n⟩=>PySem.W.hideAll_get as e n⟩
 rw[PySem.W.hideAll_none as z]at e
 cases e
section
variable{G:Gx}{X:Cx}{pins:List (Addr×Obj)}{σV:St}{H:Hp}{c:Nat}{u:Value}{sh:Shared}
theorem ag2{base h B:Heap}{as:List Addr}(hc:∀b o,B.get? b=some o→b∉as):∀{l:List Env},h.FunFrames base l→(∀b∈frs l,b∈as)→h.FunFrames B l
 | [],_,_=>trivial
 | env::l,⟨hk,⟨L,o,hf,_,ho,hd⟩,hr⟩,hin=>by
  have hL:L∈as:=hin L (by unfold frs;rw[List.filterMap_cons,hf];exact List.mem_cons_self)
  refine⟨hk,⟨L,o,hf,?_,ho,hd⟩,ag2 hc hr fun b hb=>hin b ?_⟩
  ·cases q:B.get? L with
   | none=>rfl
   | some z=>exact absurd hL (hc L z q)
  ·unfold frs
   rw[List.filterMap_cons,hf]
   exact List.mem_cons_of_mem _ hb
theorem Flt.next{stack:List Env}{base h B h1 h2:Heap}{e:Addr}(F:Flt stack h B e h1)(hf:h.FunFrames base stack)(st:B.StaysIn h2)(sm:h1.UpToSlots h2):Flt stack h B e h2 where
 cov:=F.cov
 keep:=fun b o q n=>st b o ((F.cov b o).mpr ⟨q,n⟩)
 slot:=fun b o q n=>by
  obtain⟨sl,e1⟩:=F.slot b o q n
  obtain⟨_,o',ho',hd⟩:=hf.mem n
  rw[q]at ho'
  cases ho'
  obtain⟨sl',e2⟩:=sm b _ e1 hd
  exact⟨sl',e2⟩
 new:=F.new
theorem ahA{M:Model}{A:Around}{E:Value→Shared→Prop}{s:Shared}{B h:Heap}{env:Env}{outer:List Env}{L e:Addr}{cls:Value}{args:List Value}{Q:Unit→Shared→Prop}
  (hfr:A.frames=some (env::outer)) (hf:env.frame=some L) (hkb:B.StaysIn h) (hl:h.FunFrames B (env::outer)) (hx:Heap.MadeExcOf h s.heap e cls args)
  (hQ:∀h' t,Heap.HeldW B (env::outer) e cls t L h'→s.heap.UpToSlots h'→Q () { s with heap:=h' }):wpAny M A (noteFrame (.ref e) env) Q E s:=by
 obtain⟨t,he,htn,ht⟩:=hx.there
 have hen:B.get? e=none:=by
  cases hq:B.get? e with
  | none=>rfl
  | some o'=>have:=hkb e o' hq;rw[hx.new]at this;cases this
 unfold noteFrame
 simp only[hf]
 refine wpAny_bind (wpAny_field (x:=.none) he rfl rfl ?_)
 rw[if_neg (by decide)]
 refine wpAny_entryW (a0:=.ref t) hfr (hl.of_keeps fun b o hb _=>⟨o,hx.keeps b o hb,rfl⟩) hf he (fun b o hb=>hx.keeps b o (hkb b o hb)) hen rfl (by simp) rfl fun h' hN=>?_
 obtain⟨k1,k2,k3,k4⟩:=hN
 exact hQ h' (.ref t) ⟨k1,hen,k2,k3⟩ k4
noncomputable def afV(X:Cx):Prop:=∃env0 outer0 L,X.stack=env0::outer0∧env0.frame=some L∧X.env.frame=some L
theorem aes{e:Value}{env env':Env}(h:env.frame=env'.frame):noteFrame e env=noteFrame e env':=by
 unfold noteFrame frameOf
 rw[h]
theorem aib{M:Model}{A:Around}{E:Value→Shared→Prop}{s:Shared}{base:Heap}{env:Env}{outer:List Env}{L e:Addr}{cls a0 fl:Value}{Q:Unit→Shared→Prop}
  (hfr:A.frames=some (env::outer)) (hf:env.frame=some L) (hh:an2 base (env::outer) e cls a0 fl s.heap)
  (hQ:∀h',Heap.HeldW base (env::outer) e cls a0 L h'→s.heap.UpToSlots h'→Q () { s with heap:=h' }):wpAny M A (noteFrame (.ref e) env) Q E s:=by
 obtain⟨hkb,hen,hl,oe,vs,T,oT,ts,he,⟨hcls,h0⟩,hd,h1,hnT,hTe,hT,hdT,h3⟩:=hh
 by_cases hq:fl=rawInt L
 ·subst hq
  exact wpAny_noteFrame_againW hf ⟨oe,vs,T,oT,ts,he,⟨hcls,h0⟩,hd,h1,hnT,hTe,hT,hdT,h3⟩ (hQ s.heap ⟨hkb,hen,hl,oe,vs,T,oT,ts,he,⟨hcls,h0⟩,hd,h1,hnT,hTe,hT,hdT,h3⟩ (.refl _))
 ·have other:∀b,b≠T→(s.heap.update T (Obj.mapFields (·.setIfInBounds 3 Value.none))).get? b=s.heap.get? b:=fun b hb=>Heap.get?_update_other _ _ (Ne.symm hb)
  have nor:∀b o,s.heap.get? b=some o→(∀vs,o.data≠.fields vs)→b≠T:=fun b o hb hnf q=>by
   rw[q,hT]at hb;cases hb;exact hnf ts hdT
  subst hcls
  unfold noteFrame
  simp only[hf]
  refine wpAny_bind (wpAny_field he hd h1 ?_)
  rw[if_pos (show(Value.ref T != Value.none)=true from by simp)]
  refine wpAny_bind (wpAny_field hT hdT h3 ?_)
  rw[if_neg (show ¬((fl==rawInt L)=true)from fun z=>hq (by simpa using z))]
  refine wpAny_bind (wpAny_setField hT hdT (Array.getElem?_eq_some_iff.mp h3).1 ?_)
  refine wpAny_entryW hfr (hl.of_keeps fun b o hb hnf=>⟨o,(other b (nor b o hb hnf)).trans hb,rfl⟩) hf ((other e (Ne.symm hTe)).trans he)
   (fun b o hbo=>(other b fun q=>by rw[q,hnT]at hbo;cases hbo).trans (hkb b o hbo)) hen hd (Array.getElem?_eq_some_iff.mp h1).1 h0
   fun h' ⟨x1,x2,x3,x4⟩=>hQ h' ⟨x1,hen,x2,x3⟩ fun b o hb hnf=>x4 b o ((other b (nor b o hb hnf)).trans hb) hnf
theorem acw{E:Value→Shared→Prop}{Q:Unit→Shared→Prop}(hst:afV X)(T:aaY G X pins σV H c u sh)
  (hQ:∀e h B h' t L,u=.ref e→Inv X pins σV H { sh with heap:=h }→Flt X.stack h B e h'→X.base.StaysIn B→Heap.HeldW B X.stack e (.ref (G.cA c)) t L h'→Q () { sh with heap:=h' }):
  wpAny (model X.prog X.w) X.A (noteFrame u X.env) Q E sh:=by
 obtain⟨env0,outer0,L,e1,e2,e3⟩:=hst
 rw[aes (e3.trans e2.symm)]
 obtain⟨e,h,B,rfl,I,F,sb,T⟩:=T
 have hff:h.FunFrames X.base X.stack:=I.stack
 have hfr:X.A.frames=some (env0::outer0):=by rw[I.ok.frames,e1]
 have fB:h.FunFrames B X.stack:=ag2 (fun b o q=>((F.cov b o).mp q).2) hff fun _ z=>z
 have land:∀(h1:Heap) (t:Value),Heap.HeldW B (env0::outer0) e (.ref (G.cA c)) t L h1→sh.heap.UpToSlots h1→Q () { sh with heap:=h1 }:=fun h1 t hh sm=>by
  rw[←e1]at hh
  exact hQ e h B h1 t L rfl I (F.next hff hh.1 sm) sb hh
 rw[e1]at T fB
 rcases T with⟨args,hm⟩|⟨t,hf⟩|⟨t,fl,hh⟩
 ·exact ahA hfr e2 (fun b o q=>((F.cov b o).mp q).1) fB hm fun h1 t hh sm=>land h1 t hh sm
 ·exact wpAny_looks_onW hfr e2 hf fun h1 hh sm=>land h1 t hh sm
 ·exact aib hfr e2 hh fun h1 hh sm=>land h1 t hh sm
theorem afq{base h B h2:Heap}{as:List Addr}(hc:∀b o,B.get? b=some o→b∉as)(hm:∀b∈as,∀o,h.get? b=some o→(∀vs,o.data≠.fields vs)→h2.get? b=some o):
  ∀{l:List Env},h.FunFrames base l→(∀b∈frs l,b∈as)→h2.FunFrames B l
 | [],_,_=>trivial
 | env::l,⟨hk,⟨L,o,hf,_,ho,hd⟩,hr⟩,hin=>by
  have hL:L∈as:=hin L (by unfold frs;rw[List.filterMap_cons,hf];exact List.mem_cons_self)
  refine⟨hk,⟨L,o,hf,?_,hm L hL o ho hd,hd⟩,afq hc hm hr fun b hb=>hin b ?_⟩
  ·cases q:B.get? L with
   | none=>rfl
   | some z=>exact absurd hL (hc L z q)
  ·unfold frs
   rw[List.filterMap_cons,hf]
   exact List.mem_cons_of_mem _ hb
theorem aeO{E:Value→Shared→Prop}{X:Cx}{pins:List (Addr×Obj)}{σV:St}{e A L:Addr}{h B h1 h':Heap}{t:Value}{what:String}{cenv:Env}(I:Inv X pins σV H { sh with heap:=h })(fA:ad0 X pins H A)(hA:∀o,X.base.get? A≠some o)(F:Flt X.stack h B e h1)(sb:X.base.StaysIn B)
  (hh:Heap.HeldW B X.stack e (.ref (G.cA c)) t L h1) (nsA:∃o,h1.get? A=some o∧∀vs,o.data≠.fields vs) (hs:Heap.SameBut A h1 h') (hx:∀sh',aaY G X pins σV H c (.ref e) sh'→E (.ref e) sh'):
  wpAny (model X.prog X.w) X.A (passOn what (.ref e) cenv:Sem Value) (fun _ _=>False) E { sh with heap:=h' }:=by
 obtain⟨hkb,hen,hl,oe,vs,T,oT,ts,he,⟨hcls,h0⟩,hd,h1',hnT,hTe,hT,hdT,h3⟩:=hh
 obtain⟨oA,hoA,hAd⟩:=nsA
 have eA:e≠A:=fun z=>by rw[z,hoA]at he;cases he;exact hAd _ hd
 have TA:T≠A:=fun z=>by rw[z,hoA]at hT;cases hT;exact hAd _ hdT
 have Afr:A∉frs X.stack:=fun z=>by
  rcases List.mem_cons.mp (I.stkSub A z)with z|z
  ·exact fA.2.1 z
  ·exact fA.2.2.1 z
 have he':h'.get? e=some oe:=(hs.2 e eA).trans he
 have hT':h'.get? T=some oT:=(hs.2 T TA).trans hT
 have hsz3:3<ts.size:=(Array.getElem?_eq_some_iff.mp h3).1
 unfold passOn
 refine wpAny_bind (wpAny_field he' hd h1' ?_)
 rw[if_neg (show ¬((Value.ref T==Value.none)=true)from by simp)]
 refine wpAny_bind ?_
 unfold setFlight
 refine wpAny_bind (wpAny_field he' hd h1' ?_)
 rw[if_pos (show(Value.ref T != Value.none)=true from by simp)]
 generalize (cenv.frame.elim Value.none fun f=>rawInt f)=fl
 refine wpAny_setField hT' hdT hsz3 (wpAny_throw (hx _ ?_))
 have other:∀b,b≠T→(h'.update T (Obj.mapFields (·.setIfInBounds 3 fl))).get? b=h'.get? b:=fun b hb=>Heap.get?_update_other _ _ (Ne.symm hb)
 have bT:∀b o,B.get? b=some o→b≠T:=fun b o q z=>by rw[z,hnT]at q;cases q
 have fT:∀b∈frs X.stack,b≠T:=fun b hb z=>by
  obtain⟨_,o,ho,hnf⟩:=hl.mem hb
  rw[z,hT]at ho;cases ho;exact hnf _ hdT
 refine⟨e,PySem.W.hideAll h [A],PySem.W.hideAll B [A],rfl,?_,⟨fun b o=>?_,fun b o q n=>?_,fun b o q n=>?_,?_⟩,fun b o q=>aa1.mpr ⟨sb b o q,fun z=>?_⟩,.inr (.inr ⟨t,fl,fun b o q=>?_,?_,?_,?_⟩)⟩
 ·exact I.turned (t':=sh.toks) (fun b o ne q=>aa1.mpr ⟨q,by simpa using ne⟩) fA.1 fA.2.1 fA.2.2.2.1 fA.2.2.2.2.1 fA.2.2.2.2.2
 ·rw[aa1,aa1,F.cov b o]
  exact⟨fun⟨⟨a,y⟩,z⟩=>⟨⟨a,z⟩,y⟩,fun⟨⟨a,z⟩,y⟩=>⟨⟨a,y⟩,z⟩⟩
 ·obtain⟨a,y⟩:=aa1.mp q
  have y:b≠A:=by simpa using y
  exact(other b (bT b o ((F.cov b o).mpr ⟨a,n⟩))).trans ((hs.2 b y).trans (F.keep b o a n))
 ·obtain⟨a,y⟩:=aa1.mp q
  have y:b≠A:=by simpa using y
  obtain⟨sl,z⟩:=F.slot b o a n
  exact⟨sl,(other b (fT b n)).trans ((hs.2 b y).trans z)⟩
 ·cases q:(PySem.W.hideAll h [A]).get? e with
  | none=>rfl
  | some o=>have:=(aa1.mp q).1;rw[F.new]at this;cases this
 ·have z:b=A:=by simpa using z
  subst z
  exact hA o q
 ·obtain⟨a,y⟩:=aa1.mp q
  have y:b≠A:=by simpa using y
  exact(other b (bT b o a)).trans ((hs.2 b y).trans (hkb b o a))
 ·cases q:(PySem.W.hideAll B [A]).get? e with
  | none=>rfl
  | some o=>have:=(aa1.mp q).1;rw[hen]at this;cases this
 ·refine afq (as:=frs X.stack) (fun b o q=>((F.cov b o).mp (aa1.mp q).1).2) (fun b hb o q _=>(other b (fT b hb)).trans ((hs.2 b fun z=>Afr (z▸hb)).trans q)) hl fun _ z=>z
 ·refine⟨oe,vs,T,_,_,(other e (Ne.symm hTe)).trans he',⟨hcls,h0⟩,hd,h1',?_,hTe,Heap.get?_update_self _ hT' (Obj.isFreed_of_fields (Obj.data_mapFields hdT _)),Obj.data_mapFields hdT _,by simp[hsz3]⟩
  cases q:(PySem.W.hideAll B [A]).get? T with
  | none=>rfl
  | some o=>have:=(aa1.mp q).1;rw[hnT]at this;cases this
end
end IP
end
section
namespace IP
open PySem PySem.Spec L2
section
variable{G:Gx}{X:Cx}{C:Cf}
noncomputable def atS(G:Gx)(w:Wo)(H:Hp):Option T→Option V→Prop
 | some t,some v=>Rep G w H t v
 | none,none=>True
 | _,_=>False
noncomputable def ar1(G:Gx)(X:Cx)(σV:St)(w:Wo)(H:Hp)(r:Res (Option T))(Q:Option V→Hp→Prop):Prop:=match r with
 | .stuck=>False
 | .ok o s'=>∀w1 H1 vo,Le w w1 H H1→StoOk G w1 H1 s'→atS G w1 H1 o vo→Q vo H1
 | .exc c s'=>∀w' H' pins u sh,Le w w' H H'→StoOk G w' H' s'→aaY G X pins σV H' c u sh→X.xe u sh
noncomputable def adt(G:Gx)(X:Cx)(ifs:List Expr)(elt:Expr)(f:Fr→Sto→Res (Option T)):Prop:=
 ∀(pins:List (Addr×Obj)) (s:Shared) (σV:St) (H:Hp) (w₀:Wo) (H₀:Hp) (w:Wo) (σ:Fr) (st:Sto) (Q:Option V→Hp→Prop),Inv X pins σV H s→Good G w₀ H₀ w H σ st σV→ar1 G X σV w H (f σ st) Q→
  wpAny (model X.prog X.w) X.A (forIn ifs true fun c r=>if r=true then do let ok ←isTrue c X.env (eval c X.env);pure (ForInStep.yield ok)else pure (ForInStep.yield r))
   (fun ok s3=>if ok=true then wpAny (model X.prog X.w) X.A (eval elt X.env) (fun u s4=>∃v H4,Inv X pins σV H4 s4∧aaJ v u∧Q (some v) H4) X.xe s3 else ∃H3,Inv X pins σV H3 s3∧Q none H3) X.xe s
noncomputable def acX(G:Gx)(X:Cx)(σV:St)(w:Wo)(H:Hp)(Q:VK)(acc:List T)(r:Res (List T)):Prop:=match r with
 | .ok rest st'=>∀w' H' a vs,Le w w' H H'→StoOk G w' H' st'→H' a=some (.lst vs)→aat G w' H' (acc++rest) vs→H a=none→¬w'.Z a→notLoc w' a→Q (.ref a) H'
 | .exc c st'=>∀w' H' pins u sh,Le w w' H H'→StoOk G w' H' st'→aaY G X pins σV H' c u sh→X.xe u sh
 | .stuck=>False
theorem abF{σV:St}{w:Wo}{H:Hp}{Q:VK}{acc:List T}{f:T→Sto→Res (Option T)}{t:T}{ts:List T}{s:Sto}(h:acX G X σV w H Q acc (aa6 f (t::ts) s)):
  (∃o s1,f t s=.ok o s1∧acX G X σV w H Q (acc++afe o []) (aa6 f ts s1))∨∃c s1,f t s=.exc c s1∧∀w' H' pins u sh,Le w w' H H'→StoOk G w' H' s1→aaY G X pins σV H' c u sh→X.xe u sh:=by
 unfold aa6 at h
 cases hf:f t s with
 | stuck=>rw[hf]at h;exact h.elim
 | exc c s1=>rw[hf]at h;exact .inr ⟨c,s1,rfl,h⟩
 | ok o s1=>
  rw[hf]at h
  refine .inl ⟨o,s1,rfl,?_⟩
  have h:acX G X σV w H Q acc ((aa6 f ts s1).bind fun q s2=>Res.ok (afe o q) s2):=h
  cases hm:aa6 f ts s1 with
  | stuck=>rw[hm]at h;exact h
  | exc c s2=>rw[hm]at h;exact h
  | ok r s2=>
   rw[hm]at h
   intro w' H' a vs h1 h2 h3 h4
   refine h w' H' a vs h1 h2 h3 ?_
   cases o<;>simpa [afe]using h4
theorem abZ{α β:Type}{o:Option α}{f:α→Res β}{c:Nat}{s:Sto}(h:onO o f=.exc c s):∃a,o=some a∧f a=.exc c s:=by
 cases o with
 | none=>cases h
 | some a=>exact⟨a,rfl,h⟩
theorem af7{α β:Type}{o:Option α}{f:α→Res β}{b:β}{s:Sto}(h:onO o f=.ok b s):∃a,o=some a∧f a=.ok b s:=by
 cases o with
 | none=>cases h
 | some a=>exact⟨a,rfl,h⟩
variable{elt iter tg:Expr}{ifs:List Expr}{scope:Scope}{pos:Pos}{it' ce:E}{g:Tg}{N':List Str}{f:Fr→Sto→Res (Option T)}
theorem ait{pins:List (Addr×Obj)}{σ:St}{H:Hp}{s:Shared}{D:Addr}{xs:List V}{v:V}{u:Value}{Y:Cx}{E:Value→Shared→Prop}{Q:Shared→Prop}(I:Inv Y pins σ H s)(r:aaJ v u)(hD:H D=some (.lst xs))(hl:xs.length<sizeLine)
  (q:∀s',Inv Y pins σ (upd H D (.lst (xs++[v]))) s'→Q s'):wpAny (model Y.prog Y.w) Y.A (call (.builtin "list.append") [.ref D,u]) (fun _ s'=>Q s') E s:=by
 have z:=aew (X:=Y.wish E) pins s σ H (.ref D) [v] (.ref D) [u] (fun _ H'=>H'=upd H D (.lst (xs++[v]))) (I.wish E) rfl (.cons r .nil) ⟨D,xs,v,rfl,rfl,hD,hl,rfl⟩
 refine thn z fun u' s' ⟨_,H',I',_,e⟩=>?_
 subst e
 exact q s' I'.unwish
theorem ae2:∀{js:List Nat}{vs:List V}{σV:St}{i:Nat},i∉js→(abh σV js vs)[i]?=σV[i]?
 | [],vs,σV,i,_=>by cases vs<;>rfl
 | j::js,[],σV,i,_=>rfl
 | j::js,v::vs,σV,i,h=>by
  show(abh (σV.set j (some v)) js vs)[i]?=_
  rw[ae2 fun q=>h (List.mem_cons_of_mem _ q),List.getElem?_set_ne fun q=>h (by simp[q])]
noncomputable def aiF(G:Gx)(X:Cx)(g:Tg)(f:Fr→Sto→Res (Option T))(σ:Fr)(σV:St)(w:Wo)(H:Hp)(Q:VK)(J:It)(H2:Hp):Prop:=
 ∃(w2:Wo) (src:Src) (ts:List T) (st2:Sto) (K:Sto→Prop) (kp:Res (Option T)→Res (Option T)),Le w w2 H H2∧StoOk G w2 H2 st2∧J=agO X.K src∧(∀w' H' s',Le w2 w' H2 H'→StoOk G w' H' s'→K s'→ach G w' H' src ts)∧K st2∧(∀r,(∀o s',kp r=.ok o s'→r=.ok o s'∧K s')∧∀c s',kp r=.exc c s'→r=.exc c s')∧
  acX G X σV w H Q [] (aa6 (fun t s=>onO (aav σ g t) fun σ'=>kp (f σ' s)) ts st2)
theorem afE(hfr:afV X)(hc:X.calm=true)(hN:CompN X scope N' (slots g))(hnd:(slots g).Nodup){tx:TI}(hI:PI X tg iter tx)
  (hG:∀A fp s2 H2 xe,PG (cxC X N' scope A fp s2 H2 xe) tg (gTg G g)) (hE:∀A fp s2 H2 xe,adt G (cxC X N' scope A fp s2 H2 xe) ifs elt f) (hs:∀x,foldedSetIterable iter X.env x=pure x)
  {pins:List (Addr×Obj)}{s:Shared}{σV:St}{H:Hp}{w₀ w:Wo}{H₀:Hp}{σ:Fr}{st:Sto}{Q:VK} (I:Inv X pins σV H s) (gd:Good G w₀ H₀ w H σ st σV)
  (hsrc:tx σV H (aiF G X g f σ σV w H Q))
  {use:Option (Value→Sem Unit)}{Q':Value→Shared→Prop}
  (hfin:∀(s':Shared) (Hc:Hp) (A D:Addr),Inv X pins σV Hc s'→ad0 X pins Hc A→(∃m,s'.heap.Ns A m)→Q (.ref D) Hc→compPost (model X.prog X.w) X.A X.xe use Q' (.ref D) A (.ok .next) s'):
  wpAny (model X.prog X.w) X.A (comprehension (.ListComp elt [⟨tg,iter,ifs,0⟩] scope pos) scope X.env (firstIterPos [⟨tg,iter,ifs,0⟩] pos) (newList []) false (eval iter X.env) use) Q' X.xe s:=by
 have hfree:∀x∈scope.names,x.2=.free→∃c,X.env.cells.lookup x.1=some c:=fun x hx hf=>I.ok.has x.1 (hN.free x hx hf)
 refine wpAny_comprehension_free (use:=use) rfl hs (afY scope X.env hfree) hN.kind hN.locs (thn (hI pins s σV H _ I hsrc) fun xv s1 h1=>thn h1 fun itv s2 h2=>?_)
 obtain⟨it,fp,tn,J,H2,rfl,I2,T,st2,f2,w2,src,ts,stc,KK,kp,L2,S2,rfl,now,hK,hkp,hm⟩:=h2
 have ho2:∀b∈fp,∃o,s2.heap.get? b=some o:=fun b hb=>let ⟨o,e,_⟩:=T.obj _ _ st2 b hb;⟨o,e⟩
 refine wpAny_newObj_type (wpAny_newFunctionEnv hN.nocell (by intro y hy;simp at hy) (fun h₁ hns₁ hsb₁=>?_) hN.kind)
 have hns₁:h₁.Ns (s2.heap.push { cls:=.type "list",data:=.seq ([]:List Value).toArray }).objs.size (fun _=>none):=hns₁
 have hfD:H2 s2.heap.objs.size=none:=I2.hok.fresh (Nat.le_refl _)
 generalize hD:s2.heap.objs.size=D at hfD
 have I3:Inv X pins σV (upd H2 D (.lst [])) { s2 with heap:=s2.heap.push { cls:=.type "list",data:=.seq ([]:List Value).toArray } }:=by
  rw[←hD]
  exact I2.lnew (its:=[]) (t':=s2.toks) .nil (Nat.zero_le _)
 generalize hs3:({ s2 with heap:=s2.heap.push { cls:=.type "list",data:=.seq ([]:List Value).toArray } }:Shared)=s3 at I3
 have k3:∀b o,s2.heap.get? b=some o→s3.heap.get? b=some o:=fun b o e=>by rw[←hs3];exact Heap.get?_push_of_some _ e
 have fpD:∀b∈fp,b≠D:=fun b hb=>by
  obtain⟨o,e⟩:=ho2 b hb
  rw[←hD]
  exact Nat.ne_of_lt (Heap.lt_size e)
 have f3:∀b∈fp,ad0 X pins (upd H2 D (.lst [])) b:=fun b hb=>⟨by rw[aas (fpD b hb)];exact(f2 b hb).1,(f2 b hb).2⟩
 have ho3:∀b∈fp,∃o,s3.heap.get? b=some o:=fun b hb=>let ⟨o,e⟩:=ho2 b hb;⟨o,k3 b o e⟩
 have e3:(s2.heap.push { cls:=.type "list",data:=.seq ([]:List Value).toArray })=s3.heap:=by rw[←hs3]
 rw[e3]at hns₁ hsb₁
 have k4:∀b o,s3.heap.get? b=some o→h₁.get? b=some o:=fun b o e=>hsb₁.extBut b o (Nat.ne_of_lt (Heap.lt_size e)) (Heap.get?_push_of_some _ e)
 obtain⟨XE,hXE⟩:∃XE:Addr→Value→Shared→Prop,XE=fun A=>notedBy (model X.prog X.w) X.A (compEnvC scope (clo X.env.cells scope.names []) A X.env) fun e s'=>compPost (model X.prog X.w) X.A X.xe use Q' (.ref D) A (.error e) s':=⟨_,rfl⟩
 have I4:Inv (cxC X N' scope s3.heap.objs.size fp s3 (upd H2 D (.lst [])) (XE s3.heap.objs.size)) [] (clr σV (slots g)) (upd H2 D (.lst [])) { s3 with heap:=h₁,toks:=s3.toks+([]:List (Str×Value)).length }:=ak5 hN I3 f3 ho3 hns₁ k4
 have tn4:tn 0 h₁:=T.keep _ _ _ st2 fun b hb o e=>k4 b o (k3 b o e)
 generalize hA:s3.heap.objs.size=A at I4 hns₁ hsb₁
 have hAD:D≠A:=by
  rw[←hA,←hs3]
  show D≠(s2.heap.push _).objs.size
  rw[Heap.size_push,hD]
  exact Nat.ne_of_lt (Nat.lt_succ_self _)
 generalize hY:cxC X N' scope A fp s3 (upd H2 D (.lst [])) (XE A)=Y at I4
 have eP:Y.prog=X.prog:=by rw[←hY];rfl
 have eW:Y.w=X.w:=by rw[←hY];rfl
 have eK:Y.K=X.K:=by rw[←hY];rfl
 have eA:Y.A=X.A:=by rw[←hY];rfl
 have eC:Y.calm=true:=by rw[←hY];exact hc
 have eL:Y.env.locals=A:=by rw[←hY];rfl
 have eS:Y.stack=X.stack:=by rw[←hY];rfl
 have eB:Y.base=X.base:=by rw[←hY];rfl
 have eF:Y.env.frame=X.env.frame:=by rw[←hY];rfl
 have eN:Y.env=compEnvC scope (clo X.env.cells scope.names []) A X.env:=by rw[←hY];rfl
 have stat:∀{H':Hp},(∀b∈fp,H' b=none)→∀b∈fp,ad0 Y [] H' b:=fun {H'} hn b hb=>by
  obtain⟨f0,f1,fx,fy,fz,fw⟩:=f2 b hb
  subst hY
  refine⟨hn b hb,?_,?_,.inl hb,fun x c e=>fz x c (ae7 X.env.cells scope.names [] (fun x c z=>by simp at z) x c e),fun p hp=>absurd (show p∈([]:List (Addr×Obj))from hp) (by simp)⟩
  ·show b≠A
   obtain⟨o,e⟩:=ho3 b hb
   rw[←hA]
   exact Nat.ne_of_lt (Heap.lt_size e)
  ·intro hm
   rcases List.mem_cons.mp (I2.stkSub b hm)with z|z
   ·exact f1 z
   ·exact fx z
 have eX:Y.xe=notedBy (model X.prog X.w) X.A Y.env fun e s'=>compPost (model X.prog X.w) X.A X.xe use Q' (.ref D) A (.error e) s':=by rw[eN,←hY];show XE A=_;rw[hXE]
 have hGY:PG Y tg (gTg G g):=by rw[←hY];exact hG A fp s3 _ _
 have hEY:adt G Y ifs elt f:=by rw[←hY];exact hE A fp s3 _ _
 have back:∀{pins':List (Addr×Obj)}{σ':St}{Hc:Hp}{s':Shared},Inv Y pins' σ' Hc s'→Inv X pins σV Hc s'∧ad0 X pins Hc A:=fun {pins' σ' Hc s'} Ic=>by
  have un:Un (frs X.stack) fp (upd H2 D (.lst [])) Hc s3.heap s'.heap:=by
   have:=Ic.base
   subst hY
   exact this
  have hcA:Hc A=none:=by have:=Ic.free;rw[eL]at this;exact this
  have hok:HOk X.prog X.w Hc s'.heap:=by rw[←eP,←eW];exact Ic.hok
  have os:s'.os=s3.os:=by have:=Ic.os;subst hY;exact this
  exact⟨I3.call' (s':=s') (ch:=fp) os un hok Ic.bare fun b hb=>⟨(f2 b hb).2.2.2.1,(f2 b hb).2.1,(f2 b hb).2.2.2.2.1,(f2 b hb).2.2.2.2.2⟩,
   by rw[←hA];exact I3.fpOk (Nat.le_refl _) (by rw[hA];exact hcA)⟩
 have hHD:H D=none:=by
  cases e:H D with
  | none=>rfl
  | some o=>exact absurd hfD (L2.some_ D (by rw[e];intro z;cases z))
 have abm:∀{pins':List (Addr×Obj)}{σ':St}{Hc:Hp}{c:Nat}{u:Value}{sh:Shared},aaY G Y pins' σ' Hc c u sh→(∀sh',aaY G X pins σV Hc c u sh'→X.xe u sh')→Y.xe u sh:=fun {pins' σ' Hc c u sh} Th hx=>by
  rw[eX]
  obtain⟨env0,outer0,L0,q1,q2,q3⟩:=hfr
  have z:=acw (X:=Y) (E:=fun e s'=>compPost (model X.prog X.w) X.A X.xe use Q' (.ref D) A (.error e) s') (Q:=fun _ s''=>compPost (model X.prog X.w) X.A X.xe use Q' (.ref D) A (.error u) s'') ⟨env0,outer0,L0,eS.trans q1,q2,eF.trans q3⟩ Th fun e h B h1 t L eu I F sb hh=>?_
  ·rw[eP,eW,eA]at z
   exact z
  ·subst eu
   rw[eS]at F hh
   rw[eB]at sb
   obtain⟨IX,fA⟩:=back I
   obtain⟨m,⟨o,es,ep,ho,hd,r⟩,_⟩:=I.loc
   rw[eL]at ho
   have Afr:A∉frs X.stack:=fun z=>by
    rcases List.mem_cons.mp (IX.stkSub A z)with z|z
    ·exact fA.2.1 z
    ·exact fA.2.2.1 z
   have hA1:=F.keep A o ho Afr
   have hAb:∀o,X.base.get? A≠some o:=fun o q=>by
    have:=Heap.lt_size (I3.bk A o q)
    rw[hA]at this
    exact absurd this (Nat.lt_irrefl _)
   have hns:h1.Ns A m:=⟨o,es,ep,hA1,hd,r⟩
   have fin:∀h',Heap.SameBut A h1 h'→∀cenv:Env,cenv.locals=A→wpAny (model X.prog X.w) X.A (passOn "comprehension.variables-let-go" (.ref e) cenv:Sem Value) (fun _ _=>False) X.xe { sh with heap:=h' }:=fun h' hs cenv _=>
    aeO IX fA hAb F sb hh ⟨o,hA1,fun vs q=>by rw[hd]at q;cases q⟩ hs hx
   cases use<;>exact⟨m,hns,fin⟩
 have loop:∀s4:Shared,s4={ s3 with heap:=h₁,toks:=s3.toks+([]:List (Str×Value)).length }→
   codeAny (model X.prog X.w) X.A (.compLoop (.ListComp elt [⟨tg,iter,ifs,0⟩] scope pos) 0 (.ref it) (.ref D) Y.env) (compPost (model X.prog X.w) X.A X.xe use Q' (.ref D) A) s4:=by
  rintro s4 rfl
  refine codeAny_loop rfl (fun n s'=>∃(i:Nat) (Hc:Hp) (wc:Wo) (stc':Sto) (accT:List IP.T) (accV:List V),n=ts.length-i∧i≤ts.length∧Inv Y [] (clr σV (slots g)) Hc s'∧tn i s'.heap∧(∀b∈fp,Hc b=none)∧
    Le w2 wc H2 Hc∧StoOk G wc Hc stc'∧Hc D=some (.lst accV)∧aat G wc Hc accT accV∧¬wc.Z D∧notLoc wc D∧accT.length≤i∧
    KK stc'∧acX G X σV w H Q accT (aa6 (fun t s=>onO (aav σ g t) fun σ'=>kp (f σ' s)) (ts.drop i) stc')) ?_ ts.length
   ⟨0,upd H2 D (.lst []),w2,stc,[],[],rfl,Nat.zero_le _,I4,tn4,fun b hb=>by rw[aas (fpD b hb)];exact(f2 b hb).1,Le.new hfD _,S2.new hfD _,aaD,rfl,(S2.fresh hfD).1,(S2.fresh hfD).2,Nat.le_refl _,hK,hm⟩
  rintro n s' ⟨i,Hc,wc,stc',accT,accV,hn,hi,Ic,tc,fc,Lc,Sc,hDc,rc,nz,nl,hal,hKc,hmr⟩
  have SOc:ach G wc Hc src ts:=now wc Hc stc' Lc Sc hKc
  show wpAny _ X.A ((compTurn (.ListComp elt [⟨tg,iter,ifs,0⟩] scope pos) 0 (.ref it) (.ref D) Y.env).onRaise (fun x=>do noteFrame x Y.env;theTreesLotGoes x)) _ _ s'
  refine wpAny_noted ?_
  rw[compTurn_list]
  refine wpAny_bind (wpAny_standAt (wpAny_bind ?_))
  by_cases hlt:i<ts.length
  ·have et:ts[i]?=some ts[i]:=List.getElem?_eq_getElem hlt
   have ed:ts.drop i=ts[i]::ts.drop (i+1):=List.drop_eq_getElem_cons hlt
   rw[ed]at hmr
   obtain⟨σ',hb⟩:∃σ',aav σ g ts[i]=some σ':=by
    rcases abF hmr with⟨o,s1,q,_⟩|⟨c,s1,q,_⟩
    ·obtain⟨a,q,_⟩:=af7 q;exact⟨a,q⟩
    ·obtain⟨a,q,_⟩:=abZ q;exact⟨a,q⟩
   obtain⟨go,yld⟩:=SOc.go (K:=X.K) et
   have z:=T.item Y eP eW eK eC i [] s' (clr σV (slots g)) Hc (notedBy (model X.prog X.w) X.A Y.env fun e s'=>compPost (model X.prog X.w) X.A X.xe use Q' (.ref D) A (.error e) s') Ic (stat fc) tc go
   rw[eA]at z
   refine thn z fun r s5 ⟨u,hr,h5⟩=>?_
   subst hr
   refine wpAny_bind (thn h5 fun _ s6 ⟨x,H6,I6,r6,y6,t6,f6⟩=>?_)
   have rx:=(yld x H6 y6).2
   obtain rfl:Hc=H6:=(yld x H6 y6).1.symm
   have I6':=I6.pinned (stat f6) (T.obj _ _ t6)
   have hgd:Good G w₀ H₀ wc Hc σ stc' σV:=(gd.step L2 S2).step Lc Sc
   have zg:=hGY _ s6 (clr σV (slots g)) Hc x u (fun σ7 H7=>H7=Hc∧∃vs,σ7=abh σV (slots g) vs∧FrOk G wc Hc H₀ σ' (abh σV (slots g) vs)) I6' r6
    ⟨wc,stc',ts[i],σ,σ',Sc,rx,hb,fun vs hfr hl=>⟨rfl,vs,aeu hnd hl.symm,hfr H₀ σV hgd.fr⟩⟩
   rw[eP,eW,eA]at zg
   rw[eX]at zg
   refine wpAny_bind (thn zg fun _ s7 ⟨σ7,H7,I7,eH7,vs,e7,F7⟩=>?_)
   obtain rfl:Hc=H7:=eH7.symm
   subst e7
   have okc:∀o st1,f σ' stc'=.ok o st1→KK st1∧acX G X σV w H Q (accT++afe o []) (aa6 (fun t s=>onO (aav σ g t) fun σ'=>kp (f σ' s)) (ts.drop (i+1)) st1):=fun o st1 e=>by
    rcases abF hmr with⟨o2,s2,q,h⟩|⟨c,s2,q,_⟩
    ·obtain⟨a,q1,q2⟩:=af7 q
     rw[hb]at q1;cases q1
     obtain⟨q3,q4⟩:=(hkp _).1 _ _ q2
     rw[e]at q3;cases q3
     exact⟨q4,h⟩
    ·obtain⟨a,q1,q2⟩:=abZ q
     rw[hb]at q1;cases q1
     have q3:=(hkp _).2 _ _ q2
     rw[e]at q3;cases q3
   have zt:=hEY _ s7 _ Hc w₀ H₀ wc σ' stc' (fun vo H8=>∃w8 o st1,f σ' stc'=.ok o st1∧Le wc w8 Hc H8∧StoOk G w8 H8 st1∧atS G w8 H8 o vo) I7 ⟨Sc,F7,hgd.ent⟩ (by
    cases hf:f σ' stc' with
    | ok o st1=>exact fun w8 H8 vo L8 S8 R8=>⟨w8,o,st1,rfl,L8,S8,R8⟩
    | stuck=>
     rcases abF hmr with⟨o2,s2,q,h⟩|⟨c,s2,q,_⟩
     ·obtain⟨a,q1,q2⟩:=af7 q
      rw[hb]at q1;cases q1
      have:=((hkp _).1 _ _ q2).1
      rw[hf]at this;cases this
     ·obtain⟨a,q1,q2⟩:=abZ q
      rw[hb]at q1;cases q1
      have:=(hkp _).2 _ _ q2
      rw[hf]at this;cases this
    | exc c s1=>
     rcases abF hmr with⟨o2,s2,q,h⟩|⟨c,s2,q,h⟩
     ·obtain⟨a,q1,q2⟩:=af7 q
      rw[hb]at q1;cases q1
      have:=((hkp _).1 _ _ q2).1
      rw[hf]at this;cases this
     ·obtain⟨a,q1,q2⟩:=abZ q
      rw[hb]at q1;cases q1
      have:=(hkp _).2 _ _ q2
      rw[hf]at this;cases this
      exact fun w8 H8 pins8 u8 sh8 L8 S8 T8=>abm T8 fun sh'=>h w8 H8 pins u8 sh' (L2.trans (Lc.trans L8)) S8)
   rw[eP,eW,eA,eX]at zt
   have next:∀(st1:Sto) (s8:Shared) (H8:Hp) (w8:Wo) (accT':List IP.T) (accV':List V),KK st1→Inv Y ([]++adv fp s6.heap) (abh σV (slots g) vs) H8 s8→Le w2 w8 H2 H8→StoOk G w8 H8 st1→H8 D=some (.lst accV')→aat G w8 H8 accT' accV'→¬w8.Z D→notLoc w8 D→accT'.length≤i+1→acX G X σV w H Q accT' (aa6 (fun t s=>onO (aav σ g t) fun σ'=>kp (f σ' s)) (ts.drop (i+1)) st1)→
     ∃m,m<n∧∃(i:Nat) (Hc:Hp) (wc:Wo) (stc':Sto) (accT:List IP.T) (accV:List V),m=ts.length-i∧i≤ts.length∧Inv Y [] (clr σV (slots g)) Hc s8∧tn i s8.heap∧(∀b∈fp,Hc b=none)∧
      Le w2 wc H2 Hc∧StoOk G wc Hc stc'∧Hc D=some (.lst accV)∧aat G wc Hc accT accV∧¬wc.Z D∧notLoc wc D∧accT.length≤i∧
      KK stc'∧acX G X σV w H Q accT (aa6 (fun t s=>onO (aav σ g t) fun σ'=>kp (f σ' s)) (ts.drop i) stc'):=by
    intro st1 s8 H8 w8 accT' accV' hK1 I8 L8 S8 hD8 r8 nz8 nl8 hl8 hq8
    have hpin:∀b∈fp,∀o,s6.heap.get? b=some o→s8.heap.get? b=some o∧H8 b=none:=fun b hb o e=>by
     have:=I8.pin (b,o) (List.mem_append_right _ (List.mem_append_right _ (acl hb e)))
     exact⟨this.1,this.2.1⟩
    refine⟨ts.length-(i+1),by omega,i+1,H8,w8,st1,accT',accV',rfl,hlt,?_,T.keep _ _ _ t6 fun b hb o e=>(hpin b hb o e).1,fun b hb=>?_,L8,S8,hD8,r8,nz8,nl8,hl8,hK1,hq8⟩
    ·refine Inv.unpinned (pins:=[]) (pl:=adv fp s6.heap) (I8.weak ?_ fun j v e=>?_)
     ·rw[agE,aef]
     ·obtain⟨e1,e2⟩:=agX _ _ _ _ e
      rw[ae2 e2]
      exact e1
    ·obtain⟨o,e,_⟩:=T.obj _ _ t6 b hb
     exact(hpin b hb o e).2
   refine wpAny_bind (thn zt fun ok s8 h8=>?_)
   have nzD:∀{w8:Wo}{H8:Hp},Le wc w8 Hc H8→¬w8.Z D:=fun L8 z=>by
    rcases L8.newZ D z with z|z
    ·exact nz z
    ·rw[hDc]at z;cases z
   have nlD:∀{w8:Wo}{H8:Hp},Le wc w8 Hc H8→notLoc w8 D:=fun L8=>notLoc.mono L8 (by rw[hDc];intro z;cases z) nl
   cases ok with
   | false=>
    simp only[Bool.false_eq_true,if_false]at h8 ⊢
    obtain⟨H8,I8,w8,o,st1,hfo,L8,S8,R8⟩:=h8
    obtain⟨hK1,hm1⟩:=okc o st1 hfo
    have eo:o=none:=by cases o with|none=>rfl|some t=>exact R8.elim
    subst eo
    rw[agm,List.append_nil]at hm1
    exact wpAny_pure ⟨rfl,next st1 s8 H8 w8 accT accV hK1 I8 (Lc.trans L8) S8 (L8.keep D _ hDc nl) (aat.mono L8 Sc _ _ rc) (nzD L8) (nlD L8) (by omega) hm1⟩
   | true=>
    simp only[if_true]at h8 ⊢
    refine wpAny_bind (wpAny_bind (thn h8 fun u9 s9 ⟨v9,H9,I9,r9,w9,o,st1,hfo,L9,S9,R9⟩=>?_))
    obtain⟨hK1,hm1⟩:=okc o st1 hfo
    have eo:∃t9,o=some t9:=by cases o with|none=>exact R9.elim|some t=>exact⟨t,rfl⟩
    obtain⟨t9,rfl⟩:=eo
    have R9:Rep G w9 H9 t9 v9:=R9
    have hD9:=L9.keep D _ hDc nl
    have hlen:accV.length<sizeLine:=by
     rw[←rc.length]
     have:=SOc.small Ic
     omega
    have za:=ait (E:=notedBy (model X.prog X.w) X.A Y.env fun e s'=>compPost (model X.prog X.w) X.A X.xe use Q' (.ref D) A (.error e) s') I9 r9 hD9 hlen fun s10 I10=>
     next st1 s10 _ w9 (accT++[t9]) (accV++[v9]) hK1 I10 ((Lc.trans L9).updNew hfD (by rw[hD9];intro z;cases z)) (S9.upd hD9 (nzD L9) (nlD L9)) aaD
      (aat.upd hD9 (nzD L9) _ _ ((aat.mono L9 Sc _ _ rc).append ⟨v9,[],rfl,R9,rfl⟩)) (nzD L9) (nlD L9) (by rw[List.length_append,List.length_singleton];omega) hm1
    rw[eP,eW,eA]at za
    exact wpAny_bind (thn za fun _ s10 h10=>wpAny_pure (wpAny_pure ⟨rfl,h10⟩))
  ·have ei:i=ts.length:=by omega
   subst ei
   rw[List.drop_length]at hmr
   have hmr:∀w' H' a vs,Le w w' H H'→StoOk G w' H' stc'→H' a=some (.lst vs)→aat G w' H' (accT++[]) vs→H a=none→¬w'.Z a→notLoc w' a→Q (.ref a) H':=hmr
   rw[List.append_nil]at hmr
   have z:=T.done Y eP eW eK eC ts.length [] s' (clr σV (slots g)) Hc (notedBy (model X.prog X.w) X.A Y.env fun e s'=>compPost (model X.prog X.w) X.A X.xe use Q' (.ref D) A (.error e) s') Ic (stat fc) tc SOc.stop
   rw[eA]at z
   refine thn z fun r s5 ⟨hr,I5⟩=>?_
   subst hr
   obtain⟨m5,hm5,_⟩:=I5.loc
   rw[eL]at hm5
   exact wpAny_pure (hfin s5 Hc A D (back I5).1 (back I5).2 ⟨m5,hm5⟩ (hmr wc Hc D accV (L2.trans Lc) Sc hDc rc hHD nz nl))
 show codeAny (model X.prog X.w) X.A (.compStart (.ListComp elt [⟨tg,iter,ifs,0⟩] scope pos) 0 (.ref it) (.ref D) (compEnvC scope (clo X.env.cells scope.names []) A X.env)) (compPost (model X.prog X.w) X.A X.xe use Q' (.ref D) A) _
 rw[←eN]
 exact codeAny_compStart_list (loop _ rfl) (T.self _ 0 _ _ _ tn4 (loop _ rfl))
theorem adS(hfr:afV X)(hc:X.calm=true)(hN:CompN X scope N' (slots g))(hnd:(slots g).Nodup)(hI:PI X tg iter (tI G X C it' .i false))
  (hG:∀A fp s2 H2 xe,PG (cxC X N' scope A fp s2 H2 xe) tg (gTg G g)) (hE:∀A fp s2 H2 xe,adt G (cxC X N' scope A fp s2 H2 xe) ifs elt f) (hs:∀x,foldedSetIterable iter X.env x=pure x)
  {pins:List (Addr×Obj)}{s:Shared}{σV:St}{H:Hp}{w₀ w:Wo}{H₀:Hp}{σ:Fr}{st:Sto}{Q:VK} (I:Inv X pins σV H s) (gd:Good G w₀ H₀ w H σ st σV)
  (h:aaN G X σV w H ((ev C it' .i σ st).bind fun x s1=>onL x fun ts=>(aa6 (fun t s=>onO (aav σ g t) fun σ'=>f σ' s) ts s1).bind fun q s2=>.ok (.val (.lst q)) s2) Q)
  {use:Option (Value→Sem Unit)}{Q':Value→Shared→Prop}
  (hfin:∀(s':Shared) (Hc:Hp) (A D:Addr),Inv X pins σV Hc s'→ad0 X pins Hc A→(∃m,s'.heap.Ns A m)→Q (.ref D) Hc→compPost (model X.prog X.w) X.A X.xe use Q' (.ref D) A (.ok .next) s'):
  wpAny (model X.prog X.w) X.A (comprehension (.ListComp elt [⟨tg,iter,ifs,0⟩] scope pos) scope X.env (firstIterPos [⟨tg,iter,ifs,0⟩] pos) (newList []) false (eval iter X.env) use) Q' X.xe s:=by
 refine afE hfr hc hN hnd hI hG hE hs I gd ?_ hfin
 refine⟨w₀,H₀,w,σ,st,gd,?_⟩
 cases he:ev C it' .i σ st with
 | stuck=>rw[he]at h;exact h
 | exc c s1=>rw[he]at h;exact h
 | ok x s1=>
  rw[he]at h
  match x,h with
  | .val (.lst ts),h=>
   intro w2 H2 src L S SO
   have h:aaN G X σV w H ((aa6 (fun t s=>onO (aav σ g t) fun σ'=>f σ' s) ts s1).bind fun q s2=>.ok (.val (.lst q)) s2) Q:=h
   refine⟨w2,src,ts,s1,fun _=>True,id,L,S,rfl,fun w' H' s' L' _ _=>(SO.mono L' S).now,trivial,fun r=>⟨fun o s' e=>⟨e,trivial⟩,fun c s' e=>e⟩,?_⟩
   cases hm:aa6 (fun t s=>onO (aav σ g t) fun σ'=>f σ' s) ts s1 with
   | stuck=>rw[hm]at h;exact h.elim
   | exc c s2=>rw[hm]at h;show acX G X σV w H Q [] (aa6 (fun t s=>onO (aav σ g t) fun σ'=>f σ' s) ts s1);rw[hm];exact h
   | ok q st'=>rw[hm]at h;show acX G X σV w H Q [] (aa6 (fun t s=>onO (aav σ g t) fun σ'=>f σ' s) ts s1);rw[hm];exact h
  | .val .non,h=>exact h.elim
  | .val (.bl _),h=>exact h.elim
  | .val (.int _),h=>exact h.elim
  | .val (.str _),h=>exact h.elim
  | .val (.tup _),h=>exact h.elim
  | .val (.loc _),h=>exact h.elim
  | .val (.exc _),h=>exact h.elim
  | .bor _,h=>exact h.elim
theorem atL{pins:List (Addr×Obj)}{s:Shared}{σV:St}{H:Hp}{A:Addr}{h':Heap}(I:Inv X pins σV H s)(fA:ad0 X pins H A)(sb:Heap.SameBut A s.heap h'):Inv X pins σV H { s with heap:=h' }:=
 I.turned (t':=s.toks) (fun b o ne e=>(sb.2 b ne).trans e) fA.1 fA.2.1 fA.2.2.2.1 fA.2.2.2.2.1 fA.2.2.2.2.2
theorem abX(hc:X.calm=true)(hN:CompN X scope N' (slots g))(hnd:(slots g).Nodup)(hI:PI X tg iter (tI G X C it' .i false))
  (hG:∀A fp s2 H2 xe,PG (cxC X N' scope A fp s2 H2 xe) tg (gTg G g)) (hE:∀A fp s2 H2 xe,adt G (cxC X N' scope A fp s2 H2 xe) ifs elt f) (hs:∀x,foldedSetIterable iter X.env x=pure x)
  (hev:∀σ s,ev C ce .v σ s=(ev C it' .i σ s).bind fun x s1=>onL x fun ts=>(aa6 (fun t s=>onO (aav σ g t) fun σ'=>f σ' s) ts s1).bind fun q s2=>.ok (.val (.lst q)) s2) (hfr:afV X:=by exact⟨_,_,_,rfl,rfl,rfl⟩):
  PE X (.ListComp elt [⟨tg,iter,ifs,0⟩] scope pos) (tO G X C ce):=by
 rintro pins s σV H Q I ⟨w₀,H₀,w,σ,st,gd,h⟩
 rw[hev]at h
 rw[eval_ListComp]
 refine adS hfr hc hN hnd hI hG hE hs I gd h (use:=none) fun s' Hc A D I' fA ⟨m,hm⟩ q=>?_
 exact⟨m,hm,fun h' sb=>⟨.ref D,Hc,atL I' fA sb,rfl,q⟩⟩
theorem ad2{y:Str}{py spos:Pos}{i:Nat}(hc:X.calm=true)(hN:CompN X scope N' (slots g))(hnd:(slots g).Nodup)(hI:PI X tg iter (tI G X C it' .i false))
  (hG:∀A fp s2 H2 xe,PG (cxC X N' scope A fp s2 H2 xe) tg (gTg G g)) (hE:∀A fp s2 H2 xe,adt G (cxC X N' scope A fp s2 H2 xe) ifs elt f) (hs:∀x,foldedSetIterable iter X.env x=pure x)
  (hev:∀σ s,ev C ce .v σ s=(ev C it' .i σ s).bind fun x s1=>onL x fun ts=>(aa6 (fun t s=>onO (aav σ g t) fun σ'=>f σ' s) ts s1).bind fun q s2=>.ok (.val (.lst q)) s2)
  (hsw:swapsWith (.ListComp elt [⟨tg,iter,ifs,0⟩] scope pos) (some (.Name y py)) spos.line X.env=pure true) (hXN:X.N.Nodup) (hi:X.N[i]?=some y) (hy:X.env.scope.names.lookup y=some .local) (hfr:afV X:=by exact⟨_,_,_,rfl,rfl,rfl⟩):
  PS X (.Assign [.Name y py] (.ListComp elt [⟨tg,iter,ifs,0⟩] scope pos) spos) (fun D σV H=>tO G X C ce σV H fun v H1=>D.nx (σV.set i (some v)) H1):=by
 rintro pins s σV H DD I ⟨w₀,H₀,w,σ,st,gd,h⟩
 rw[hev]at h
 rw[exec_Assign_Name_used _ _ _ _ hsw]
 refine wpAny_bind (wpAny_standAt (wpAny_bind ?_))
 show wpAny _ X.A (do let _ ←comprehension (.ListComp elt [⟨tg,iter,ifs,0⟩] scope pos) scope X.env _ (newList []) false (eval iter X.env) (some (assign (.Name y py) X.env))) _ _ s
 refine wpAny_bind (thn (adS (pos:=pos) hfr hc hN hnd hI hG hE hs I gd h (use:=some (assign (.Name y py) X.env)) (Q':=fun _ s'=>SP X pins DD .next s') fun s' Hc A D I' fA ⟨m,hm⟩ q=>?_) fun _ s' hq=>wpAny_pure (wpAny_pure hq))
 refine wpAny_assign_Name (aeq (v:=.ref D) I' hXN hi (.inl hy) rfl (fun s'' I'' ⟨a,sb,ha⟩=>?_) (.inr hy))
 have neA:A≠a:=fun z=>by
  subst z
  rcases ha with ha|ha
  ·exact fA.2.1 ha
  ·exact fA.2.2.2.2.1 y _ ha rfl
 refine⟨m,?_,fun h' sb'=>?_⟩
 ·obtain⟨o,es,ep,e,r⟩:=hm
  exact⟨o,es,ep,(sb.2 A neA).trans e,r⟩
 ·exact⟨_,Hc,atL I'' fA sb',q⟩
theorem ab8{Y:Cx}{elt:Expr}{e':E}(hE:PE Y elt (tV G Y C e')):adt G Y [] elt (fun σ st=>one (ev C e' .v σ st)):=by
 intro pins s σV H w₀ H₀ w σ st Q I gd hf
 refine wpAny_tests_nil ?_
 rw[if_pos rfl]
 dsimp only at hf
 refine hE pins s σV H (fun v H'=>Q (some v) H') I ⟨w₀,H₀,w,σ,st,gd,?_⟩
 cases he:ev C e' .v σ st with
 | stuck=>rw[he]at hf;exact hf
 | exc c s1=>rw[he]at hf;exact hf
 | ok r s1=>
  rw[he]at hf
  match r,hf with
  | .val t,hf=>exact fun w' H' v L S R=>hf w' H' (some v) L S R
  | .bor ts,hf=>exact hf.elim
end
end IP
end
section
namespace IP
open PySem PySem.Spec L2
noncomputable def Own(σ:Fr)(σV:St)(a:Addr):Prop:=∃(i:Nat) (ts:List T),σ[i]?=some (some (.own ts))∧σV[i]?=some (some (.ref a))
structure LeS(w w':Wo)(H H':Hp)(σ σ':Fr)(σV σV':St):Prop where
 n:w.n≤w'.n
 io:∀l,l<w.n→w'.io l=w.io l
 Z:∀a,w.Z a→w'.Z a
 keep:∀a o,H a=some o→notLoc w a→¬Own σ σV a→H' a=some o
 newL:∀l,w.n≤l→l<w'.n→H (w'.io l)=none
 some_:∀a,H a≠none→H' a≠none
 own:∀a,Own σ' σV' a→Own σ σV a∨H a=none
 lk:∀(i:Nat) (ts:List T),σ'[i]?=some (some (.lck ts))→(∃us,σ[i]?=some (some (.lck us)))∧σV'[i]?=σV[i]?
section
variable{G:Gx}{X:Cx}{C:Cf}{w w' w₀:Wo}{H H' H₀:Hp}{σ σ':Fr}{σV σV':St}
theorem LeS.refl:LeS w w H H σ σ σV σV:=⟨Nat.le_refl _,fun _ _=>rfl,fun _ z=>z,fun _ _ e _ _=>e,fun l a b=>absurd (Nat.lt_of_lt_of_le b a) (Nat.lt_irrefl _),fun _ z=>z,fun _ z=>.inl z,fun i ts e=>⟨⟨ts,e⟩,rfl⟩⟩
theorem LeS.notLoc(L:LeS w w' H H' σ σ' σV σV'){a:Addr}(h:H a≠none)(nl:IP.notLoc w a):IP.notLoc w' a:=fun l hl q=>by
 by_cases k:l<w.n
 ·exact nl l k (q.trans (L.io l k))
 ·have:=L.newL l (Nat.le_of_not_lt k) hl
  rw[←q]at this
  exact h this
theorem LeS.trans{w2:Wo}{H2:Hp}{σ2:Fr}{σV2:St}(a:LeS w w' H H' σ σ' σV σV')(b:LeS w' w2 H' H2 σ' σ2 σV' σV2):LeS w w2 H H2 σ σ2 σV σV2 where
 n:=Nat.le_trans a.n b.n
 io:=fun l h=>(b.io l (Nat.lt_of_lt_of_le h a.n)).trans (a.io l h)
 Z:=fun x z=>b.Z x (a.Z x z)
 keep:=fun x o e nl no=>by
  have hn:H x≠none:=by rw[e];intro z;cases z
  refine b.keep x o (a.keep x o e nl no) (a.notLoc hn nl) fun z=>?_
  rcases a.own x z with z|z
  ·exact no z
  ·exact hn z
 newL:=fun l h1 h2=>by
  by_cases h:l<w'.n
  ·rw[b.io l h]
   exact a.newL l h1 h
  ·have q:=b.newL l (Nat.le_of_not_lt h) h2
   cases e:H (w2.io l)with
   | none=>rfl
   | some o=>exact absurd q (a.some_ _ (by rw[e];intro z;cases z))
 some_:=fun x z=>b.some_ x (a.some_ x z)
 own:=fun x z=>by
  rcases b.own x z with z|z
  ·exact a.own x z
  ·refine .inr ?_
   cases e:H x with
   | none=>rfl
   | some o=>exact absurd z (a.some_ x (by rw[e];intro q;cases q))
 lk:=fun i ts e=>by
  obtain⟨⟨us,h1⟩,h2⟩:=b.lk i ts e
  obtain⟨h3,h4⟩:=a.lk i us h1
  exact⟨h3,h2.trans h4⟩
theorem LeS.of(L:Le w w' H H'):LeS w w' H H' σ σ σV σV:=⟨L.n,L.io,L.Z,fun a o e nl _=>L.keep a o e nl,L.newL,L.some_,fun _ z=>.inl z,fun i ts e=>⟨⟨ts,e⟩,rfl⟩⟩
structure Kp(w w':Wo)(H H':Hp):Prop where
 n:w.n≤w'.n
 io:∀l,l<w.n→w'.io l=w.io l
 Z:∀a,w.Z a→w'.Z a
 z:∀a u,w.Z a→Rd H a u→Rd H' a u
 t:∀a vs,H a=some (.tup vs)→H' a=some (.tup vs)
 x:∀a φ,H a=some (.ext φ)→H' a=some (.ext φ)
mutual
theorem Rep.kp(L:Kp w w' H H'):∀(t:T) (v:V),Rep G w H t v→Rep G w' H' t v
 | .non,v,h=>h
 | .bl b,v,h=>h
 | .int i,v,h=>h
 | .str x,v,h=>h
 | .tup ts,v,⟨a,vs,e,h,r⟩=>⟨a,vs,e,L.t _ _ h,aat.kp L ts vs r⟩
 | .lst ts,v,⟨a,vs,e,z,h,r⟩=>⟨a,vs,e,L.Z _ z,L.z _ _ z h,aat.kp L ts vs r⟩
 | .loc l,v,⟨h,e⟩=>⟨Nat.lt_of_lt_of_le h L.n,by rw[L.io l h];exact e⟩
 | .exc c,v,⟨a,e,h⟩=>⟨a,e,L.x _ _ h⟩
theorem aat.kp(L:Kp w w' H H'):∀(ts:List T) (vs:List V),aat G w H ts vs→aat G w' H' ts vs
 | [],vs,h=>h
 | t::ts,vs,⟨v,r,e,h,q⟩=>⟨v,r,e,Rep.kp L t v h,aat.kp L ts r q⟩
end
theorem FrOk.notOwnZ(F:FrOk G w H H₀ σ σV){a:Addr}(z:w.Z a):¬Own σ σV a:=fun⟨i,ts,e1,e2⟩=>by
 obtain⟨b,vs,h1,_,_,_,h5,_⟩:=F.own i _ ts e1 rfl
 rw[e2]at h1
 cases h1
 exact h5 z
theorem FrOk.notOwnT(F:FrOk G w H H₀ σ σV){a:Addr}{o:HO}(e:H a=some o)(h:∀vs,o≠.lst vs):¬Own σ σV a:=fun⟨i,ts,e1,e2⟩=>by
 obtain⟨b,vs,h1,h2,_⟩:=F.own i _ ts e1 rfl
 rw[e2]at h1
 cases h1
 rw[e]at h2
 exact h vs (Option.some.inj h2)
theorem LeS.kp{s:Sto}(L:LeS w w' H H' σ σ' σV σV')(S:StoOk G w H s)(F:FrOk G w H H₀ σ σV):Kp w w' H H' where
 n:=L.n
 io:=L.io
 Z:=L.Z
 z:=fun a u z r=>by
  have no:=F.notOwnZ z
  rcases r with r|⟨o,r⟩
  ·exact .inl (L.keep _ _ r (S.zLoc z) no)
  ·exact .inr ⟨o,L.keep _ _ r (S.zLoc z) no⟩
 t:=fun a vs e=>L.keep _ _ e (S.notLoc e (fun _ z=>by cases z) fun _ _ _ z=>by cases z) (F.notOwnT e fun _ z=>by cases z)
 x:=fun a φ e=>L.keep _ _ e (S.notLoc e (fun _ z=>by cases z) fun _ _ _ z=>by cases z) (F.notOwnT e fun _ z=>by cases z)
noncomputable def aay(G:Gx)(X:Cx)(w₀:Wo)(H₀:Hp)(w:Wo)(H:Hp)(σ:Fr)(σV:St)(res:SR)(D:Ends):Prop:=match res with
 | .stuck=>False
 | .next σ' s'=>∀w' H' σV',Good G w₀ H₀ w' H' σ' s' σV'→LeS w w' H H' σ σ' σV σV'→D.nx σV' H'
 | .ret r s'=>∀w' H' v,StoOk G w' H' s'→abc G w' H' r v→Le w₀ w' H₀ H'→D.rt v H'
 | .retO ts s'=>∀w' H' a vs,StoOk G w' H' s'→H' a=some (.lst vs)→aat G w' H' ts vs→H₀ a=none→¬w'.Z a→notLoc w' a→Le w₀ w' H₀ H'→D.rt (.ref a) H'
 | .exc c σ' s'=>∀w' H' σV' pins u sh,Good G w₀ H₀ w' H' σ' s' σV'→LeS w w' H H' σ σ' σV σV'→aaY G X pins σV' H' c u sh→X.xe u sh
noncomputable def tS(G:Gx)(X:Cx)(C:Cf)(a:S):TS:=fun D σV H=>∃w₀ H₀ w σ s,Good G w₀ H₀ w H σ s σV∧aay G X w₀ H₀ w H σ σV (ex C a σ s) D
noncomputable def tSs(G:Gx)(X:Cx)(C:Cf)(a:List S):TS:=fun D σV H=>∃w₀ H₀ w σ s,Good G w₀ H₀ w H σ s σV∧aay G X w₀ H₀ w H σ σV (exs C a σ s) D
theorem PS.imp{st:Stmt}{t t':TS}(h:PS X st t)(q:∀D σ H,t' D σ H→t D σ H):PS X st t':=fun pins s σ H D I z=>h pins s σ H D I (q _ _ _ z)
theorem PSs.imp{st:List Stmt}{t t':TS}(h:PSs X st t)(q:∀D σ H,t' D σ H→t D σ H):PSs X st t':=fun pins s σ H D I z=>h pins s σ H D I (q _ _ _ z)
theorem aay.mono{res:SR}{D:Ends}(L:LeS w w' H H' σ σ' σV σV')(h:aay G X w₀ H₀ w H σ σV res D):aay G X w₀ H₀ w' H' σ' σV' res D:=by
 cases res with
 | stuck=>exact h
 | next σ2 s2=>exact fun w2 H2 σV2 g M=>h w2 H2 σV2 g (L.trans M)
 | ret r s2=>exact h
 | retO ts s2=>exact h
 | exc c σ2 s2=>exact fun w2 H2 σV2 pins u sh g M=>h w2 H2 σV2 pins u sh g (L.trans M)
theorem aay.bind{m:SR}{k:Fr→Sto→SR}{D:Ends}{u:TS}(h:aay G X w₀ H₀ w H σ σV (m.bind k) D)
  (hu:∀w1 H1 σ1 s1 σV1,Good G w₀ H₀ w1 H1 σ1 s1 σV1→aay G X w₀ H₀ w1 H1 σ1 σV1 (k σ1 s1) D→u D σV1 H1):aay G X w₀ H₀ w H σ σV m { D with nx:=u D }:=by
 cases m with
 | stuck=>exact h
 | next σ2 s2=>exact fun w2 H2 σV2 g L=>hu w2 H2 σ2 s2 σV2 g (aay.mono L h)
 | ret r s2=>exact h
 | retO ts s2=>exact h
 | exc c σ2 s2=>exact h
theorem aad:PSs X [] (tSs G X C []):=PSs.imp akN fun D σV H ⟨w₀,H₀,w,σ,s,g,h⟩=>h w H σV g LeS.refl
theorem aaa{st:Stmt}{rest:List Stmt}{a:S}{as:List S}(h1:PS X st (tS G X C a))(h2:PSs X rest (tSs G X C as)):PSs X (st::rest) (tSs G X C (a::as)):=by
 refine PSs.imp (aiW h1 h2) ?_
 rintro D σV H ⟨w₀,H₀,w,σ,s,g,h⟩
 refine⟨w₀,H₀,w,σ,s,g,aay.bind h fun w1 H1 σ1 s1 σV1 g1 h1=>?_⟩
 exact⟨w₀,H₀,w1,σ1,s1,g1,h1⟩
theorem aeb{m:Res R}{k:R→Sto→SR}{D:Ends}{s:Sto}(g:Good G w₀ H₀ w H σ s σV)(h:aay G X w₀ H₀ w H σ σV (m.st σ k) D):
  aaQ G X σV w H m fun v H1=>∃w1 r s1,Le w w1 H H1∧StoOk G w1 H1 s1∧abc G w1 H1 r v∧Good G w₀ H₀ w1 H1 σ s1 σV∧aay G X w₀ H₀ w1 H1 σ σV (k r s1) D:=by
 cases m with
 | stuck=>exact h
 | ok r s1=>exact fun w1 H1 v L S R=>⟨w1,r,s1,L,S,R,g.step L S,aay.mono (LeS.of L) h⟩
 | exc c s1=>exact fun w1 H1 pins u sh L S T=>h w1 H1 σV pins u sh (g.step L S) (LeS.of L) T
theorem abR{α:Type}{o:Option α}{f:α→SR}{D:Ends}(h:aay G X w₀ H₀ w H σ σV (onS o f) D):∃a,o=some a∧aay G X w₀ H₀ w H σ σV (f a) D:=by
 cases o with
 | none=>exact h.elim
 | some a=>exact⟨a,rfl,h⟩
theorem af5{r:R}{t:T}(h:r.val?=some t):r=.val t:=by
 cases r with
 | val u=>cases h;rfl
 | bor u=>cases h
theorem ala{i:Nat}{b:Option B}{x:Option V}(hb:∀ts,b≠some (.own ts)){a:Addr}(h:Own (σ.set i b) (σV.set i x) a):Own σ σV a:=by
 obtain⟨j,ts,e1,e2⟩:=h
 by_cases hj:i=j
 ·subst hj
  have hlt:i<σ.length:=by
   have:=(List.getElem?_eq_some_iff.mp e1).1
   simpa using this
  rw[List.getElem?_set_self hlt]at e1
  exact absurd (Option.some.inj e1) (hb ts)
 ·rw[List.getElem?_set_ne hj]at e1 e2
  exact⟨j,ts,e1,e2⟩
theorem ama{i:Nat}{b:Option B}{x:Option V}(hb:∀ts,b≠some (.lck ts))(j:Nat)(ts:List T)(e:(σ.set i b)[j]?=some (some (.lck ts))):(∃us,σ[j]?=some (some (.lck us)))∧(σV.set i x)[j]?=σV[j]?:=by
 by_cases hj:i=j
 ·subst hj
  have hlt:i<σ.length:=by
   have:=(List.getElem?_eq_some_iff.mp e).1
   simpa using this
  rw[List.getElem?_set_self hlt]at e
  exact absurd (Option.some.inj e) (hb ts)
 ·rw[List.getElem?_set_ne hj]at e ⊢
  exact⟨⟨ts,e⟩,rfl⟩
theorem LeS.set{i:Nat}{b:Option B}{x:Option V}(hb:∀ts,b≠some (.own ts))(hb':∀ts,b≠some (.lck ts)):LeS w w H H σ (σ.set i b) σV (σV.set i x):=
 ⟨Nat.le_refl _,fun _ _=>rfl,fun _ z=>z,fun _ _ e _ _=>e,fun l a b=>absurd (Nat.lt_of_lt_of_le b a) (Nat.lt_irrefl _),fun _ z=>z,fun a z=>.inl (ala hb z),ama hb'⟩
theorem LeS.put{i:Nat}{t:T}{v:V}:LeS w w H H σ (IP.put σ i t) σV (σV.set i (some v)):=LeS.set (by intro ts z;cases z) (by intro ts z;cases z)
theorem Good.put{s:Sto}{i:Nat}{t:T}{v:V}(g:Good G w₀ H₀ w H σ s σV)(r:Rep G w H t v):Good G w₀ H₀ w H (IP.put σ i t) s (σV.set i (some v)):=⟨g.sto,g.fr.put r,g.ent⟩
variable{e:Expr}{e':E}{x:Str}{pos pos':Pos}{i:Nat}
theorem amp(hN:X.N.Nodup)(hi:X.N[i]?=some x)(hx:Loc X.env.scope x)(he:PE X e (tV G X C e'))(hs:swapsWith e (some (.Name x pos')) pos.line X.env=pure false)(hf:X.fn x=true∨X.env.scope.names.lookup x=some .local):
  PS X (.Assign [.Name x pos'] e pos) (tS G X C (.asg i e')):=by
 refine PS.imp (aj6 hN hi hx he hs hf) ?_
 rintro D σV H ⟨w₀,H₀,w,σ,s,g,h⟩
 refine⟨w₀,H₀,w,σ,s,g,(aeb g h).imp ?_⟩
 rintro v H1 ⟨w1,r,s1,L1,S1,R1,g1,h1⟩
 obtain⟨t,ht,h1⟩:=abR h1
 cases af5 ht
 exact h1 w1 H1 _ (g1.put R1) LeS.put
theorem aal(he:PE X e (tV G X C e')):PS X (.Return (some e) pos) (tS G X C (.ret e')):=by
 refine PS.imp (ajq he) ?_
 rintro D σV H ⟨w₀,H₀,w,σ,s,g,h⟩
 refine⟨w₀,H₀,w,σ,s,g,(aeb g h).imp ?_⟩
 rintro v H1 ⟨w1,r,s1,L1,S1,R1,g1,h1⟩
 exact h1 w1 H1 v S1 R1 g1.ent
theorem an7{x:R}{v:V}{m n:SR}{D:Ends}(r:abc G w H x v)(h:aay G X w₀ H₀ w H σ σV (apS x m n) D):∃k,v=.bl k∧aay G X w₀ H₀ w H σ σV (if k=true then m else n) D:=by
 match x,h with
 | .val (.bl true),h=>exact⟨true,r,h⟩
 | .val (.bl false),h=>exact⟨false,r,h⟩
 | .val .non,h=>exact h.elim
 | .val (.int _),h=>exact h.elim
 | .val (.str _),h=>exact h.elim
 | .val (.tup _),h=>exact h.elim
 | .val (.lst _),h=>exact h.elim
 | .val (.loc _),h=>exact h.elim
 | .val (.exc _),h=>exact h.elim
 | .bor _,h=>exact h.elim
theorem aa5{c:Expr}{c':E}{a b:List Stmt}{a' b':List S}(hc:PT X c (tT G X C c'))(ha:PSs X a (tSs G X C a'))(hb:PSs X b (tSs G X C b')):PS X (.If c a b pos) (tS G X C (.ifs c' a' b')):=by
 refine PS.imp (arE hc ha hb) ?_
 rintro D σV H ⟨w₀,H₀,w,σ,s,g,h⟩
 refine⟨w₀,H₀,w,σ,s,g,(aeb g h).imp ?_⟩
 rintro v H1 ⟨w1,r,s1,L1,S1,R1,g1,h1⟩
 obtain⟨k,rfl,h1⟩:=an7 R1 h1
 refine⟨k,rfl,?_⟩
 cases k with
 | true=>exact alo ⟨w₀,H₀,w1,σ,s1,g1,h1⟩
 | false=>exact al5 ⟨w₀,H₀,w1,σ,s1,g1,h1⟩
end
end IP
end
section
namespace IP
open PySem PySem.Spec L2
section
variable{G:Gx}{X:Cx}{C:Cf}{w w' w₀:Wo}{H H' H₀:Hp}{σ σ':Fr}{σV σV':St}
theorem aaz{α:Type}{l:List (Option α)}{i j:Nat}{b:Option α}{c:α}(h:(l.set i b)[j]?=some (some c)):(i=j∧b=some c∧i<l.length)∨(i≠j∧l[j]?=some (some c)):=by
 by_cases hj:i=j
 ·subst hj
  have hlt:i<l.length:=by
   have:=(List.getElem?_eq_some_iff.mp h).1
   simpa using this
  rw[List.getElem?_set_self hlt]at h
  exact .inl ⟨rfl,Option.some.inj h,hlt⟩
 ·rw[List.getElem?_set_ne hj]at h
  exact .inr ⟨hj,h⟩
theorem FrOk.mkO{i:Nat}{ts:List T}{a:Addr}{vs:List V}(F:FrOk G w H H₀ σ σV)(ha:H a=some (.lst vs))(r:aat G w H ts vs)(h0:H₀ a=none)(hz:¬w.Z a)(hl:notLoc w a)
  (hap:∀(j:Nat) (b:B) (us:List T),σ[j]?=some (some b)→ah7 b=some us→σV[j]?≠some (some (.ref a))):FrOk G w H H₀ (aa9 σ i ts) (σV.set i (some (.ref a)))where
 len:=by unfold aa9;simp[F.len]
 val:=fun j t e=>by
  rcases aaz e with⟨_,z,_⟩|⟨ne,z⟩
  ·cases z
  ·obtain⟨v,h1,h2⟩:=F.val j t z
   exact⟨v,by rw[List.getElem?_set_ne ne];exact h1,h2⟩
 own:=fun j b us e eb=>by
  rcases aaz e with⟨rfl,z,hlt⟩|⟨ne,z⟩
  ·cases z
   cases eb
   exact⟨a,vs,by rw[List.getElem?_set_self (by rw[←F.len];exact hlt)],ha,r,h0,hz,hl⟩
  ·obtain⟨p,us',h1,h2⟩:=F.own j b us z eb
   exact⟨p,us',by rw[List.getElem?_set_ne ne];exact h1,h2⟩
 apart:=fun j k b c us us' p hjk e1 eb e2 ec e3 e4=>by
  rcases aaz e1 with⟨rfl,z,hlt⟩|⟨ne,z⟩
  ·rcases aaz e2 with⟨rfl,_,_⟩|⟨ne',z'⟩
   ·exact hjk rfl
   ·rw[List.getElem?_set_self (by rw[←F.len];exact hlt)]at e3
    cases e3
    rw[List.getElem?_set_ne ne']at e4
    exact hap k c us' z' ec e4
  ·rcases aaz e2 with⟨rfl,z',hlt⟩|⟨ne',z'⟩
   ·rw[List.getElem?_set_self (by rw[←F.len];exact hlt)]at e4
    cases e4
    rw[List.getElem?_set_ne ne]at e3
    exact hap j b us z eb e3
   ·rw[List.getElem?_set_ne ne]at e3
    rw[List.getElem?_set_ne ne']at e4
    exact F.apart j k b c us us' p hjk z eb z' ec e3 e4
 bor:=fun j us e=>by
  rcases aaz e with⟨_,z,_⟩|⟨ne,z⟩
  ·cases z
  ·obtain⟨p,us',h1,h2⟩:=F.bor j us z
   exact⟨p,us',by rw[List.getElem?_set_ne ne];exact h1,h2⟩
theorem FrOk.chg{i:Nat}{ts us:List T}{a:Addr}{xs ys:List V}(F:FrOk G w H H₀ σ σV)(hi:σ[i]?=some (some (.own ts)))(hv:σV[i]?=some (some (.ref a)))(ha:H a=some (.lst xs))(r:aat G w H us ys):
  FrOk G w (upd H a (.lst ys)) H₀ (aa9 σ i us) σV:=by
 obtain⟨a',xs',h1,h2,h3,h4,h5,h6⟩:=F.own i _ ts hi rfl
 rw[hv]at h1
 cases h1
 have hlt:i<σ.length:=(List.getElem?_eq_some_iff.mp hi).1
 exact {
  len:=by unfold aa9;simp[F.len]
  val:=fun j t e=>by
   rcases aaz e with⟨_,z,_⟩|⟨ne,z⟩
   ·cases z
   ·obtain⟨v,q1,q2⟩:=F.val j t z
    exact⟨v,q1,Rep.upd ha h5 t v q2⟩
  own:=fun j b vs e eb=>by
   rcases aaz e with⟨rfl,z,hlt⟩|⟨ne,z⟩
   ·cases z
    cases eb
    exact⟨a,ys,hv,aaD,aat.upd ha h5 us ys r,h4,h5,h6⟩
   ·obtain⟨p,us',q1,q2,q3,q4⟩:=F.own j b vs z eb
    have np:p≠a:=fun y=>by
     subst y
     exact F.apart i j _ b ts vs p ne hi rfl z eb hv q1
    exact⟨p,us',q1,by rw[aas np];exact q2,aat.upd ha h5 _ _ q3,q4⟩
  apart:=fun j k b c us1 us2 p hjk e1 eb e2 ec e3 e4=>by
   have old:∀{j:Nat}{b:B}{us1:List T},(aa9 σ i us)[j]?=some (some b)→ah7 b=some us1→∃b' us',σ[j]?=some (some b')∧ah7 b'=some us':=fun {j b us1} e eb=>by
    rcases aaz e with⟨rfl,z,_⟩|⟨ne,z⟩
    ·exact⟨_,ts,hi,rfl⟩
    ·exact⟨b,us1,z,eb⟩
   obtain⟨b',u1,z1,y1⟩:=old e1 eb
   obtain⟨c',u2,z2,y2⟩:=old e2 ec
   exact F.apart j k b' c' u1 u2 p hjk z1 y1 z2 y2 e3 e4
  bor:=fun j vs e=>by
   rcases aaz e with⟨_,z,_⟩|⟨ne,z⟩
   ·cases z
   ·obtain⟨p,us',q1,q2,q3,q4,q5⟩:=F.bor j vs z
    have np:p≠a:=fun y=>by subst y;exact q4 h4
    exact⟨p,us',q1,by rw[aas np];exact q2,aat.upd ha h5 _ _ q3,q4,q5⟩ }
theorem aex{i:Nat}{ts:List T}(h:abQ σ i=some ts):σ[i]?=some (some (.own ts)):=by
 unfold abQ at h
 split at h
 ·rename_i us e
  cases h
  exact e
 ·cases h
theorem Good.chg{s:Sto}{i:Nat}{ts us:List T}{a:Addr}{xs ys:List V}(g:Good G w₀ H₀ w H σ s σV)(hi:σ[i]?=some (some (.own ts)))(hv:σV[i]?=some (some (.ref a)))(ha:H a=some (.lst xs))(r:aat G w H us ys):
  Good G w₀ H₀ w (upd H a (.lst ys)) (aa9 σ i us) s σV∧LeS w w H (upd H a (.lst ys)) σ (aa9 σ i us) σV σV:=by
 obtain⟨a',xs',h1,h2,h3,h4,h5,h6⟩:=g.fr.own i _ ts hi rfl
 rw[hv]at h1
 cases h1
 have hlt:i<σ.length:=(List.getElem?_eq_some_iff.mp hi).1
 refine⟨⟨g.sto.upd ha h5 h6,g.fr.chg hi hv ha r,g.ent.updNew h4 (by rw[ha];intro z;cases z)⟩,Nat.le_refl _,fun _ _=>rfl,fun _ z=>z,fun p o e nl no=>?_,fun l a b=>absurd (Nat.lt_of_lt_of_le b a) (Nat.lt_irrefl _),fun p z=>?_,fun p z=>.inl ?_,fun j vs e=>?_⟩
 ·have np:p≠a:=fun y=>by subst y;exact no ⟨i,ts,hi,hv⟩
  rw[aas np]
  exact e
 ·by_cases e:p=a
  ·subst e;rw[aaD];intro z;cases z
  ·rw[aas e];exact z
 ·obtain⟨j,vs,e1,e2⟩:=z
  rcases aaz e1 with⟨rfl,_,_⟩|⟨ne,z⟩
  ·exact⟨i,ts,hi,e2⟩
  ·exact⟨j,vs,z,e2⟩
 ·rcases aaz e with⟨rfl,z,_⟩|⟨ne,z⟩
  ·cases z
  ·exact⟨⟨vs,z⟩,rfl⟩
variable{e j:Expr}{e' j':E}{x:Str}{pos pos' p1 p2:Pos}{i:Nat}
theorem aro{D:Ends}{s:Sto}(g:Good G w₀ H₀ w H σ s σV)(h:aay G X w₀ H₀ w H σ σV (ex C (.mk i e') σ s) D):aaN G X σV w H (ev C e' .v σ s) fun v H1=>D.nx (σV.set i (some v)) H1:=by
 unfold ex at h
 split at h
 ·cases hv:ev C e' .v σ s with
  | stuck=>rw[hv]at h;exact h
  | exc c s1=>rw[hv]at h;exact fun w1 H1 pins u sh L S T=>h w1 H1 σV pins u sh (g.step L S) (LeS.of L) T
  | ok r s1=>
   rw[hv]at h
   obtain⟨ts,ht,h⟩:=abR (show aay G X w₀ H₀ w H σ σV (onS r.lst? fun ts=>.next (aa9 σ i ts) s1) D from h)
   have er:r=.val (.lst ts):=by
    match r,ht with
    | .val (.lst us),ht=>cases ht;rfl
   subst er
   intro w1 H1 a vs L S ha r hn nz nl
   have h0:H₀ a=none:=by
    cases q:H₀ a with
    | none=>rfl
    | some o=>exact absurd hn (g.ent.some_ a (by rw[q];intro z;cases z))
   have g1:=g.step L S
   have hap:∀(j:Nat) (b:B) (us:List T),σ[j]?=some (some b)→ah7 b=some us→σV[j]?≠some (some (.ref a)):=fun j b us e eb q=>by
    obtain⟨a',xs',h1,h2,_⟩:=g.fr.own j b us e eb
    rw[q]at h1
    cases h1
    rw[hn]at h2
    cases h2
   refine h w1 H1 _ ⟨g1.sto,g1.fr.mkO ha r h0 nz nl hap,g1.ent⟩ ⟨L.n,L.io,L.Z,fun p o e nl _=>L.keep p o e nl,L.newL,L.some_,fun p z=>?_,fun k us e=>?_⟩
   ·obtain⟨k,us,e1,e2⟩:=z
    rcases aaz e1 with⟨rfl,_,hlt⟩|⟨ne,z⟩
    ·rw[List.getElem?_set_self (by rw[←g.fr.len];exact hlt)]at e2
     cases e2
     exact .inr hn
    ·rw[List.getElem?_set_ne ne]at e2
     exact .inl ⟨k,us,z,e2⟩
   ·rcases aaz e with⟨_,z,_⟩|⟨ne,z⟩
    ·cases z
    ·exact⟨⟨us,z⟩,by rw[List.getElem?_set_ne ne]⟩
 ·exact h.elim
theorem aoO(hN:X.N.Nodup)(hi:X.N[i]?=some x)(hx:Loc X.env.scope x)(he:PE X e (tO G X C e'))(hs:swapsWith e (some (.Name x pos')) pos.line X.env=pure false)(hf:X.fn x=true∨X.env.scope.names.lookup x=some .local):
  PS X (.Assign [.Name x pos'] e pos) (tS G X C (.mk i e')):=by
 refine PS.imp (aj6 hN hi hx he hs hf) ?_
 rintro D σV H ⟨w₀,H₀,w,σ,s,g,h⟩
 exact⟨w₀,H₀,w,σ,s,g,aro g h⟩
theorem abP(hfr:∀σ s r s1,ev C e' .v σ s=.ok r s1→∃ts,r=.val (.lst ts))(he:PS X (.Assign [.Name x pos'] e pos) (fun D σV H=>tO G X C e' σV H fun v H1=>D.nx (σV.set i (some v)) H1)):PS X (.Assign [.Name x pos'] e pos) (tS G X C (.asg i e')):=by
 refine PS.imp he ?_
 rintro D σV H ⟨w₀,H₀,w,σ,s,g,h⟩
 refine⟨w₀,H₀,w,σ,s,g,aj1 (hfr σ s) ((aeb g h).imp ?_)⟩
 rintro v H1 ⟨w1,r,s1,L1,S1,R1,g1,h1⟩
 obtain⟨t,ht,h1⟩:=abR h1
 cases af5 ht
 exact h1 w1 H1 _ (g1.put R1) LeS.put
theorem alW{cpos:Pos}(hN:X.N[i]?=some x)(hv:Vis X.env.scope x)(hd:(x==("__debug__":Str))=false)(hcd:(x==("__classdict__":Str))=false)(he:PE X e (tV G X C e'))(hst:starEach [e] X.env=[(false,eval e X.env)])
  (hline:(p2.endLine==cpos.line)=true) (hbase:attributeBase (.Name x p1) "append" X.env (eval (.Name x p1) X.env)=eval (.Name x p1) X.env)
  (hfew:((backTo cpos (starEach [e] X.env)).all (fun x=>!x.1)&&(backToKw cpos (keywordEach [] X.env)).all (fun x=>x.1.isSome)&&decide ([e].length+([]:List Keyword).length+(if([]:List Keyword).isEmpty then 0 else 1)<30))=true)
  (hs:swapsWith (.Call (.Attribute (.Name x p1) "append" p2) [e] [] cpos) none pos.line X.env=pure false):
  PS X (.Expr (.Call (.Attribute (.Name x p1) "append" p2) [e] [] cpos) pos) (tS G X C (.app i e')):=by
 refine PS.imp (alb (apV PySem.F.plainAttrs_list PySem.F.slot_list_append PySem.F.type_list_append aew (aea hN hv hd hcd) (aaH he abx hst) hbase hfew hline hst rfl) hs) ?_
 rintro D σV H ⟨w₀,H₀,w,σ,s,g,h⟩
 obtain⟨ts,ho,h⟩:=abR (show aay G X w₀ H₀ w H σ σV (onS (abQ σ i) fun ts=>(ev C e' .v σ s).st σ fun x s1=>onS x.val? fun t=>if ts.length<lim then .next (aa9 σ i (ts++[t])) s1 else .stuck) D from h)
 have hi:=aex ho
 obtain⟨a,vs,h1,h2,h3,h4,h5,h6⟩:=g.fr.own i _ ts hi rfl
 refine⟨.ref a,h1,.inl ⟨rfl,vs,SqL.of h2⟩,w₀,H₀,w,σ,s,g,(aeb g h).imp ?_⟩
 rintro v H1 ⟨w1,r,s1,L1,S1,R1,g1,q1⟩
 obtain⟨t,ht,q1⟩:=abR q1
 cases af5 ht
 split at q1
 ·rename_i hlim
  have ha1:=L1.keep a _ h2 h6
  have r1:=aat.mono L1 g.sto ts vs h3
  refine⟨a,vs,v,rfl,rfl,ha1,by rw[←h3.length];have:=agM;omega,?_⟩
  obtain⟨g2,l2⟩:=g1.chg hi h1 ha1 (r1.append (show aat G w1 H1 [t] [v]from⟨v,[],rfl,R1,rfl⟩))
  exact q1 w1 _ σV g2 l2
 ·exact q1.elim
theorem anA(hN:X.N[i]?=some x)(hv:Vis X.env.scope x)(hd:(x==("__debug__":Str))=false)(hcd:(x==("__classdict__":Str))=false)(he:PE X e (tV G X C e'))(hj:PE X j (tV G X C j'))
  (hs:swapsWithSole [.Subscript (.Name x p1) j p2] e pos.line X.env=pure false) (hw:swappedStores [.Subscript (.Name x p1) j p2] e X.env=pure none) (h1:(assignEach [.Subscript (.Name x p1) j p2] X.env).map (·.2)=[assign (.Subscript (.Name x p1) j p2) X.env])
  (ha:∀v,assign (.Subscript (.Name x p1) j p2) X.env v=(do
   let ov ←holding [v] (eval (.Name x p1) X.env)
   let iv ←holding [v,ov] (eval j X.env)
   standAt p2
   holding [v,ov,iv] (setItem ov iv v)
   release [v,ov,iv] [])):
  PS X (.Assign [.Subscript (.Name x p1) j p2] e pos) (tS G X C (.put i j' e')):=by
 refine PS.imp (aj5 he (alQ (aea hN hv hd hcd) hj aiC ha) hs hw h1) ?_
 rintro D σV H ⟨w₀,H₀,w,σ,s,g,h⟩
 obtain⟨ts,ho,h⟩:=abR (show aay G X w₀ H₀ w H σ σV (onS (abQ σ i) fun ts=>(ev C e' .v σ s).st σ fun x s1=>onS x.val? fun t=>(ev C j' .v σ s1).st σ fun y s2=>onS y.int? fun k=>onS (L2.ixN ts.length k) fun n=>.next (aa9 σ i (ts.set n t)) s2) D from h)
 have hi:=aex ho
 obtain⟨a,vs,h1,h2,h3,h4,h5,h6⟩:=g.fr.own i _ ts hi rfl
 refine⟨w₀,H₀,w,σ,s,g,(aeb g h).imp ?_⟩
 rintro v H1 ⟨w1,r,s1,L1,S1,R1,g1,q1⟩
 obtain⟨t,ht,q1⟩:=abR q1
 cases af5 ht
 have ha1:=L1.keep a _ h2 h6
 have r1:=aat.mono L1 g.sto ts vs h3
 have hl1:=notLoc.mono L1 (by rw[h2];intro z;cases z) h6
 refine⟨.ref a,h1,w₀,H₀,w1,σ,s1,g1,(aeb g1 q1).imp ?_⟩
 rintro y H2 ⟨w2,r2,s2,L2,S2,R2,g2,q2⟩
 obtain⟨k,hk,q2⟩:=abR q2
 obtain⟨n,hn,q2⟩:=abR q2
 cases R2.int hk
 have ha2:=L2.keep a _ ha1 hl1
 have r2:=aat.mono L2 S1 ts vs r1
 refine⟨a,vs,k,n,rfl,rfl,ha2,by rw[←h3.length];exact hn,?_⟩
 obtain⟨g3,l3⟩:=g2.chg hi h1 ha2 (r2.set (Rep.mono L2 S1 t v R1) n)
 exact q2 w2 _ σV g3 l3
theorem Good.frz{s:Sto}(g:Good G w₀ H₀ w H σ s σV)(i:Nat):∃w',Good G w₀ H₀ w' H (frz σ i) s σV∧LeS w w' H H σ (frz σ i) σV σV:=by
 unfold IP.frz
 split
 ·rename_i ts hi
  obtain⟨a,vs,h1,h2,h3,h4,h5,h6⟩:=g.fr.own i _ ts hi rfl
  have zm:=fun(t:T) (v:V) (h:Rep G w H t v)=>Rep.zmono (w:=w) (w':=w.addZ a) rfl rfl (fun _ z=>.inl z) t v h
  have zms:=fun(t:List T) (v:List V) (h:aat G w H t v)=>aat.zmono (w:=w) (w':=w.addZ a) rfl rfl (fun _ z=>.inl z) t v h
  refine⟨w.addZ a,⟨g.sto.addZ h2 h6,⟨by simp[g.fr.len],fun j t e=>?_,fun j b us e eb=>?_,fun j k b c us us' p hjk e1 eb e2 ec=>?_,fun j us e=>?_⟩,g.ent.addZ h4⟩,Nat.le_refl _,fun _ _=>rfl,fun _ z=>.inl z,fun _ _ e _ _=>e,fun l a b=>absurd (Nat.lt_of_lt_of_le b a) (Nat.lt_irrefl _),fun _ z=>z,fun p z=>.inl ?_,fun j us e=>?_⟩
  ·rcases aaz e with⟨rfl,z,_⟩|⟨ne,z⟩
   ·cases z
    exact⟨.ref a,h1,a,vs,rfl,.inr rfl,.inl h2,zms _ _ h3⟩
   ·obtain⟨v,q1,q2⟩:=g.fr.val j t z
    exact⟨v,q1,zm t v q2⟩
  ·rcases aaz e with⟨_,z,_⟩|⟨ne,z⟩
   ·cases z;cases eb
   ·obtain⟨p,us',q1,q2,q3,q4,q5,q6⟩:=g.fr.own j b us z eb
    refine⟨p,us',q1,q2,zms _ _ q3,q4,fun y=>y.elim q5 fun y=>?_,q6⟩
    subst y
    exact g.fr.apart i j _ b ts us p ne hi rfl z eb h1 q1
  ·rcases aaz e1 with⟨_,z,_⟩|⟨ne,z⟩
   ·cases z;cases eb
   ·rcases aaz e2 with⟨_,z',_⟩|⟨ne',z'⟩
    ·cases z';cases ec
    ·exact g.fr.apart j k b c us us' p hjk z eb z' ec
  ·rcases aaz e with⟨_,z,_⟩|⟨ne,z⟩
   ·cases z
   ·obtain⟨p,us',q1,q2,q3,q4⟩:=g.fr.bor j us z
    exact⟨p,us',q1,q2,zms _ _ q3,q4⟩
  ·obtain⟨j,us,e1,e2⟩:=z
   rcases aaz e1 with⟨_,z,_⟩|⟨ne,z⟩
   ·cases z
   ·exact⟨j,us,z,e2⟩
  ·rcases aaz e with⟨_,z,_⟩|⟨ne,z⟩
   ·cases z
   ·exact⟨⟨us,z⟩,rfl⟩
 ·exact⟨w,g,LeS.refl⟩
theorem ad9{rest:List Stmt}{as:List S}(h:PSs X rest (tSs G X C as)):PSs X rest (tSs G X C (.frz i::as)):=by
 refine PSs.imp h ?_
 rintro D σV H ⟨w₀,H₀,w,σ,s,g,h⟩
 obtain⟨w',g',l'⟩:=g.frz i
 exact⟨w₀,H₀,w',IP.frz σ i,s,g',aay.mono l' h⟩
end
end IP
end
section
namespace IP
open PySem PySem.Spec L2
theorem ahj{c:Fr→Sto→Res Bool}{b:Fr→Sto→SR}:∀(n:Nat) (σ:Fr) (s:Sto),aaq c b n σ s≠.stuck→aaq c b (n+1) σ s=aaq c b n σ s:=by
 intro n
 induction n with
 | zero=>intro σ s h;exact absurd rfl h
 | succ n ih=>
  intro σ s h
  have h':=h
  unfold aaq at h
  show aaq c b (n+1+1) σ s=_
  conv=>lhs;unfold aaq
  conv=>rhs;unfold aaq
  cases hc:c σ s with
  | stuck=>rfl
  | exc d s1=>rfl
  | ok k s1=>
   cases k with
   | false=>rfl
   | true=>
    rw[hc]at h
    have h:((b σ s1).bind fun σ2 s2=>aaq c b n σ2 s2)≠.stuck:=h
    show((b σ s1).bind fun σ2 s2=>aaq c b (n+1) σ2 s2)=((b σ s1).bind fun σ2 s2=>aaq c b n σ2 s2)
    cases hb:b σ s1 with
    | stuck=>rfl
    | ret r s2=>rfl
    | retO ts s2=>rfl
    | exc d σ2 s2=>rfl
    | next σ2 s2=>
     rw[hb]at h
     exact ih σ2 s2 h
theorem acI{c:Fr→Sto→Res Bool}{b:Fr→Sto→SR}{n:Nat}{σ:Fr}{s:Sto}(h:aaq c b n σ s≠.stuck):∀k,aaq c b (n+k) σ s=aaq c b n σ s
 | 0=>rfl
 | k+1=>by
  have ih:=acI h k
  rw[←Nat.add_assoc,ahj (n+k) σ s (by rw[ih];exact h),ih]
theorem aeg{c:Fr→Sto→Res Bool}{b:Fr→Sto→SR}{n:Nat}{σ:Fr}{s:Sto}(h:aaq c b n σ s≠.stuck):aai c b σ s=aaq c b n σ s:=by
 have hx:∃n,aaq c b n σ s≠.stuck:=⟨n,h⟩
 unfold aai
 rw[dif_pos hx]
 have hm:=Classical.choose_spec hx
 generalize Classical.choose hx=m at hm
 rcases Nat.le_total n m with q|q
 ·obtain⟨k,rfl⟩:=Nat.exists_eq_add_of_le q
  exact acI h k
 ·obtain⟨k,rfl⟩:=Nat.exists_eq_add_of_le q
  exact(acI hm k).symm
theorem age{c:Fr→Sto→Res Bool}{b:Fr→Sto→SR}{σ:Fr}{s:Sto}(h:aai c b σ s≠.stuck):∃n,aai c b σ s=aaq c b n σ s:=by
 unfold aai at h ⊢
 split at h
 ·rename_i hx
  rw[dif_pos hx]
  exact⟨_,rfl⟩
 ·exact absurd rfl h
theorem acQ(c:Fr→Sto→Res Bool)(b:Fr→Sto→SR)(σ:Fr)(s:Sto):aai c b σ s=match c σ s with
  | .stuck=>.stuck
  | .exc d s1=>.exc d σ s1
  | .ok false s1=>.next σ s1
  | .ok true s1=>(b σ s1).bind fun σ2 s2=>aai c b σ2 s2:=by
 by_cases h:∃n,aaq c b n σ s≠.stuck
 ·obtain⟨n,hn⟩:=h
  cases n with
  | zero=>exact absurd rfl hn
  | succ n=>
   rw[aeg hn]
   unfold aaq at hn ⊢
   cases hc:c σ s with
   | stuck=>rfl
   | exc d s1=>rfl
   | ok k s1=>
    cases k with
    | false=>rfl
    | true=>
     rw[hc]at hn
     have hn:((b σ s1).bind fun σ2 s2=>aaq c b n σ2 s2)≠.stuck:=hn
     show((b σ s1).bind fun σ2 s2=>aaq c b n σ2 s2)=((b σ s1).bind fun σ2 s2=>aai c b σ2 s2)
     cases hb:b σ s1 with
     | stuck=>rfl
     | ret r s2=>rfl
     | retO ts s2=>rfl
     | exc d σ2 s2=>rfl
     | next σ2 s2=>
      rw[hb]at hn
      exact(aeg hn).symm
 ·have e:aai c b σ s=.stuck:=by unfold aai;rw[dif_neg h]
  rw[e]
  have h:∀n,aaq c b n σ s=.stuck:=fun n=>Classical.byContradiction fun q=>h ⟨n,q⟩
  have h1:=h 1
  unfold aaq at h1
  cases hc:c σ s with
  | stuck=>rfl
  | exc d s1=>rw[hc]at h1;cases h1
  | ok k s1=>
   cases k with
   | false=>rw[hc]at h1;cases h1
   | true=>
    show SR.stuck=((b σ s1).bind fun σ2 s2=>aai c b σ2 s2)
    cases hb:b σ s1 with
    | stuck=>rfl
    | ret r s2=>rw[hc]at h1;simp[hb,aaq]at h1
    | retO ts s2=>rw[hc]at h1;simp[hb,aaq]at h1
    | exc d σ2 s2=>rw[hc]at h1;simp[hb,aaq]at h1
    | next σ2 s2=>
     show SR.stuck=aai c b σ2 s2
     unfold aai
     rw[dif_neg]
     rintro⟨n,hn⟩
     have:=h (n+1)
     unfold aaq at this
     rw[hc]at this
     simp only[hb,SR.bind_next]at this
     exact hn this
section
variable{G:Gx}{X:Cx}{C:Cf}{w w' w₀:Wo}{H H' H₀:Hp}{σ σ':Fr}{σV σV':St}{pos:Pos}
noncomputable def asB(x:R):Option Bool:=match x with | .val (.bl k)=>some k | _=>none
theorem am0{c:Expr}{c':E}{b:List Stmt}{b':List S}(hwl:C.wl=aai)(hp:PassesOwn (model X.prog X.w) X.A X.env X.xe)(hc:PT X c (tT G X C c'))(hb:PSs X b (tSs G X C b')):PS X (.While c b [] pos) (tS G X C (.whl c' b')):=by
 refine PS.imp (ahZ hp hc hb) ?_
 rintro D σV H ⟨w₀,H₀,w,σ,s,g,h⟩
 have h:aay G X w₀ H₀ w H σ σV (C.wl (fun σ s=>(ev C c' .t σ s).bind fun x s1=>.of (match x with | .val (.bl k)=>some k | _=>none) s1) (fun σ s=>exs C b' σ s) σ s) D:=h
 rw[hwl]at h
 generalize hcf:(fun σ s=>(ev C c' .t σ s).bind fun x s1=>Res.of (match x with | .val (.bl k)=>some k | _=>none) s1)=cf at h
 generalize hbf:(fun σ s=>exs C b' σ s)=bf at h
 refine⟨fun m σV1 H1=>∃w1 σ1 s1,Good G w₀ H₀ w1 H1 σ1 s1 σV1∧aaq cf bf m σ1 s1≠.stuck∧aay G X w₀ H₀ w1 H1 σ1 σV1 (aaq cf bf m σ1 s1) D,?_,?_⟩
 ·have hn:aai cf bf σ s≠.stuck:=fun z=>by rw[z]at h;exact h
  obtain⟨n,hn'⟩:=age hn
  rw[hn']at hn h
  exact⟨n,w,σ,s,g,hn,h⟩
 ·rintro m σV1 H1 ⟨w1,σ1,s1,g1,hn1,h1⟩
  cases m with
  | zero=>exact absurd rfl hn1
  | succ n=>
   unfold aaq at hn1 h1
   refine⟨w₀,H₀,w1,σ1,s1,g1,?_⟩
   have ec:cf σ1 s1=(ev C c' .t σ1 s1).bind fun x s1=>Res.of (match x with | .val (.bl k)=>some k | _=>none) s1:=by rw[←hcf]
   rw[ec]at hn1 h1
   cases he:ev C c' .t σ1 s1 with
   | stuck=>rw[he]at hn1;exact absurd rfl hn1
   | exc d s2=>rw[he]at h1;exact fun w2 H2 pins u sh L S T=>h1 w2 H2 σV1 pins u sh (g1.step L S) (LeS.of L) T
   | ok x s2=>
    rw[he]at hn1 h1
    intro w2 H2 v L2 S2 R2
    match x,R2,hn1,h1 with
    | .val (.bl true),R2,hn1,h1=>
     cases R2
     refine⟨true,rfl,alo ?_⟩
     have hn1:((bf σ1 s2).bind fun σ2 s2=>aaq cf bf n σ2 s2)≠.stuck:=hn1
     have h1:aay G X w₀ H₀ w1 H1 σ1 σV1 ((bf σ1 s2).bind fun σ2 s2=>aaq cf bf n σ2 s2) D:=h1
     refine⟨fun σV3 H3=>∃w3 σ3 s3,Good G w₀ H₀ w3 H3 σ3 s3 σV3∧aaq cf bf n σ3 s3≠.stuck∧aay G X w₀ H₀ w3 H3 σ3 σV3 (aaq cf bf n σ3 s3) D,fun σV3 H3 q=>⟨n,Nat.lt_succ_self _,q⟩,?_⟩
     refine⟨w₀,H₀,w2,σ1,s2,g1.step L2 S2,?_⟩
     have eb:bf σ1 s2=exs C b' σ1 s2:=by rw[←hbf]
     rw[eb]at hn1 h1
     cases hx:exs C b' σ1 s2 with
     | stuck=>rw[hx]at h1;exact h1
     | ret r s3=>rw[hx]at h1;exact h1
     | retO ts s3=>rw[hx]at h1;exact h1
     | exc d σ3 s3=>rw[hx]at h1;exact fun w3 H3 σV3 pins u sh g3 L3 T=>h1 w3 H3 σV3 pins u sh g3 ((LeS.of L2).trans L3) T
     | next σ3 s3=>
      rw[hx]at h1 hn1
      intro w3 H3 σV3 g3 L3
      exact⟨w3,σ3,s3,g3,hn1,aay.mono ((LeS.of L2).trans L3) h1⟩
    | .val (.bl false),R2,hn1,h1=>
     cases R2
     exact⟨false,rfl,al5 (h1 w2 H2 σV1 (g1.step L2 S2) (LeS.of L2))⟩
    | .val .non,_,hn1,h1=>exact h1.elim
    | .val (.int _),_,hn1,h1=>exact h1.elim
    | .val (.str _),_,hn1,h1=>exact h1.elim
    | .val (.tup _),_,hn1,h1=>exact h1.elim
    | .val (.lst _),_,hn1,h1=>exact h1.elim
    | .val (.loc _),_,hn1,h1=>exact h1.elim
    | .val (.exc _),_,hn1,h1=>exact h1.elim
    | .bor _,_,hn1,h1=>exact h1.elim
noncomputable def acS(σ:Fr)(σV:St):Src→Prop
 | .l a _=>¬Own σ σV a
 | _=>True
theorem abf.monoS{z:Bool}{s:Sto}(L:LeS w w' H H' σ σ' σV σV')(S:StoOk G w H s)(F:FrOk G w H H₀ σ σV):∀{src:Src}{ts:List T},acS σ σV src→abf G w H z src ts→abf G w' H' z src ts∧acS σ' σV' src
 | .l a vs,ts,nf,⟨h1,h2,h3,h4⟩=>by
  have hs:=Rd.some h1
  refine⟨⟨?_,aat.kp (L.kp S F) ts vs h2,L.notLoc hs h3,fun q=>L.Z a (h4 q)⟩,fun z=>?_⟩
  ·rcases h1 with h1|⟨o,h1⟩
   ·exact .inl (L.keep _ _ h1 h3 nf)
   ·exact .inr ⟨o,L.keep _ _ h1 h3 nf⟩
  ·rcases L.own a z with z|z
   ·exact nf z
   ·exact hs z
 | .t a vs,ts,_,⟨h1,h2⟩=>⟨⟨(L.kp S F).t _ _ h1,aat.kp (L.kp S F) ts vs h2⟩,True.intro⟩
 | .r lo n,ts,_,h=>⟨h,True.intro⟩
theorem abG{tg:Expr}{g:Tg}{b:List Stmt}{b':List S}{D:Ends}{src:Src}{ts:List T}{s:Sto}{K:PySem.W.Frag}{z:Bool}(gd:Good G w₀ H₀ w H σ s σV)(SO:abf G w H z src ts)(SF:acS σ σV src)
  (h:aay G X w₀ H₀ w H σ σV (abp g (fun σ s=>exs C b' σ s) ts σ s) D):
  ∃W:Nat→Nat→St→Hp→Prop,(∃m,W 0 m σV H)∧∀i m σV H,W i m σV H→
   ((agO K src).stop i H∧D.nx σV H)∨((agO K src).go i H∧∃N:St→Hp→Prop,(∀σ' H',N σ' H'→∃m',m'<m∧W (i+1) m' σ' H')∧∀x H',(agO K src).yld i H x H'→gTg G g x σV H' fun σ2 H2=>tSs G X C b' { D with nx:=N,ct:=N,bk:=D.nx } σ2 H2):=by
 refine⟨fun i m σV1 H1=>∃w1 σ1 s1,m=ts.length-i∧i≤ts.length∧Good G w₀ H₀ w1 H1 σ1 s1 σV1∧abf G w1 H1 z src ts∧acS σ1 σV1 src∧aay G X w₀ H₀ w1 H1 σ1 σV1 (abp g (fun σ s=>exs C b' σ s) (ts.drop i) σ1 s1) D,
  ⟨ts.length,w,σ,s,rfl,Nat.zero_le _,gd,SO,SF,h⟩,?_⟩
 rintro i m σV1 H1 ⟨w1,σ1,s1,hm,hi,g1,SO1,SF1,h1⟩
 by_cases hlt:i<ts.length
 ·refine .inr ?_
  have et:ts[i]?=some ts[i]:=List.getElem?_eq_getElem hlt
  have ed:ts.drop i=ts[i]::ts.drop (i+1):=List.drop_eq_getElem_cons hlt
  rw[ed]at h1
  obtain⟨σ2,hb,h1⟩:=abR (show aay G X w₀ H₀ w1 H1 σ1 σV1 (onS (aav σ1 g ts[i]) fun σ'=>(exs C b' σ' s1).bind fun σ2 s2=>abp g (fun σ s=>exs C b' σ s) (ts.drop (i+1)) σ2 s2) D from h1)
  obtain⟨go,yld⟩:=SO1.go (K:=K) et
  refine⟨go,fun σV3 H3=>∃w3 σ3 s3,Good G w₀ H₀ w3 H3 σ3 s3 σV3∧abf G w3 H3 z src ts∧acS σ3 σV3 src∧aay G X w₀ H₀ w3 H3 σ3 σV3 (abp g (fun σ s=>exs C b' σ s) (ts.drop (i+1)) σ3 s3) D,fun σV3 H3 ⟨w3,σ3,s3,q1,q2,q3,q4⟩=>⟨ts.length-(i+1),by omega,w3,σ3,s3,rfl,hlt,q1,q2,q3,q4⟩,fun x H' hy=>?_⟩
  have rx:=(yld x H' hy).2
  obtain rfl:H1=H':=(yld x H' hy).1.symm
  refine⟨w1,s1,ts[i],σ1,σ2,g1.sto,rx,hb,fun vs hfr hl=>?_⟩
  have g2:Good G w₀ H₀ w1 H1 σ2 s1 (abh σV1 (slots g) vs):=⟨g1.sto,hfr H₀ σV1 g1.fr,g1.ent⟩
  have l2:LeS w1 w1 H1 H1 σ1 σ2 σV1 (abh σV1 (slots g) vs):=by
   cases g with
   | one k=>
    cases hb
    match vs,hl with
    | [v],_=>exact LeS.put
   | many ks=>
    have hb':∃us,puts σ1 ks us=some σ2:=by
     match hts:ts[i],hb with
     | .tup us,hb=>exact⟨us,hb⟩
     | .lst us,hb=>exact⟨us,hb⟩
     | .non,hb=>cases hb
     | .bl _,hb=>cases hb
     | .int _,hb=>cases hb
     | .str _,hb=>cases hb
     | .loc _,hb=>cases hb
     | .exc _,hb=>cases hb
    obtain⟨us,hb⟩:=hb'
    have go:∀(ks:List Nat) (us:List T) (vs:List V) (σ1:Fr) (σV1:St),puts σ1 ks us=some σ2→vs.length=ks.length→LeS w1 w1 H1 H1 σ1 σ2 σV1 (abh σV1 ks vs):=by
     intro ks
     induction ks with
     | nil=>
      intro us vs σ1 σV1 hp hl
      cases us with
      | nil=>cases hp;cases vs<;>exact LeS.refl
      | cons u us=>cases hp
     | cons k ks ih=>
      intro us vs σ1 σV1 hp hl
      cases us with
      | nil=>cases hp
      | cons u us=>
       cases vs with
       | nil=>simp at hl
       | cons v vs=>exact LeS.trans (LeS.put (v:=v)) (ih us vs (put σ1 k u) (σV1.set k (some v)) hp (by simpa using hl))
    exact go ks us vs σ1 σV1 hb hl
  obtain⟨SO2,SF2⟩:=SO1.monoS l2 g1.sto g1.fr SF1
  refine⟨w₀,H₀,w1,σ2,s1,g2,?_⟩
  cases hx:exs C b' σ2 s1 with
  | stuck=>rw[hx]at h1;exact h1
  | ret r s3=>rw[hx]at h1;exact h1
  | retO ts s3=>rw[hx]at h1;exact h1
  | exc d σ3 s3=>rw[hx]at h1;exact fun w3 H3 σV3 pins u sh g3 L3 T=>h1 w3 H3 σV3 pins u sh g3 (l2.trans L3) T
  | next σ3 s3=>
   rw[hx]at h1
   intro w3 H3 σV3 g3 L3
   obtain⟨SO3,SF3⟩:=SO2.monoS L3 g2.sto g2.fr SF2
   exact⟨w3,σ3,s3,g3,SO3,SF3,aay.mono (l2.trans L3) h1⟩
 ·have ei:i=ts.length:=by omega
  subst ei
  rw[List.drop_length]at h1
  exact .inl ⟨SO1.stop,h1 w1 H1 σV1 g1 LeS.refl⟩
theorem abT{i j:Nat}{b:B}(h:(lock σ i)[j]?=some (some b)):(σ[j]?=some (some b)∧(i=j→∀ts,b≠.own ts))∨(i=j∧∃ts,b=.lck ts∧σ[i]?=some (some (.own ts))):=by
 unfold lock at h
 split at h
 ·rename_i ts e
  rcases aaz h with⟨rfl,z,_⟩|⟨ne,z⟩
  ·exact .inr ⟨rfl,ts,by cases z;rfl,e⟩
  ·exact .inl ⟨z,fun q=>absurd q ne⟩
 ·rename_i hn
  refine .inl ⟨h,fun q ts z=>?_⟩
  subst q z
  exact hn ts h
theorem acp{i j:Nat}{b:B}(h:(unlock σ i)[j]?=some (some b)):σ[j]?=some (some b)∨(i=j∧∃ts,b=.own ts∧σ[i]?=some (some (.lck ts))):=by
 unfold unlock at h
 split at h
 ·rename_i ts e
  rcases aaz h with⟨rfl,z,_⟩|⟨ne,z⟩
  ·exact .inr ⟨rfl,ts,by cases z;rfl,e⟩
  ·exact .inl z
 ·exact .inl h
theorem aiR(σ:Fr)(i:Nat):(lock σ i).length=σ.length:=by unfold lock;split<;>simp
theorem afH(σ:Fr)(i:Nat):(unlock σ i).length=σ.length:=by unfold unlock;split<;>simp
theorem FrOk.relock(F:FrOk G w H H₀ σ σV)(hl:σ'.length=σ.length)(hr:∀(j:Nat) (b:B),σ'[j]?=some (some b)→σ[j]?=some (some b)∨∃b' ts,σ[j]?=some (some b')∧ah7 b=some ts∧ah7 b'=some ts):FrOk G w H H₀ σ' σV where
 len:=hl.trans F.len
 val:=fun j t e=>by
  rcases hr j _ e with z|⟨b',ts,_,z,_⟩
  ·exact F.val j t z
  ·cases z
 own:=fun j b ts e eb=>by
  rcases hr j _ e with z|⟨b',us,z1,z2,z3⟩
  ·exact F.own j b ts z eb
  ·rw[eb]at z2
   cases z2
   exact F.own j b' ts z1 z3
 apart:=fun j k b c ts us a hjk e1 eb e2 ec e3 e4=>by
  have old:∀{j:Nat}{b:B}{ts:List T},σ'[j]?=some (some b)→ah7 b=some ts→∃b',σ[j]?=some (some b')∧ah7 b'=some ts:=fun {j b ts} e eb=>by
   rcases hr j _ e with z|⟨b',us,z1,z2,z3⟩
   ·exact⟨b,z,eb⟩
   ·rw[eb]at z2
    cases z2
    exact⟨b',z1,z3⟩
  obtain⟨b',y1,y2⟩:=old e1 eb
  obtain⟨c',y3,y4⟩:=old e2 ec
  exact F.apart j k b' c' ts us a hjk y1 y2 y3 y4 e3 e4
 bor:=fun j ts e=>by
  rcases hr j _ e with z|⟨b',us,_,z,_⟩
  ·exact F.bor j ts z
  ·cases z
theorem Good.lock{s:Sto}(g:Good G w₀ H₀ w H σ s σV)(i:Nat):Good G w₀ H₀ w H (lock σ i) s σV:=⟨g.sto,g.fr.relock (aiR σ i) fun j b e=>by
 rcases abT e with⟨z,_⟩|⟨rfl,ts,rfl,z⟩
 ·exact .inl z
 ·exact .inr ⟨_,ts,z,rfl,rfl⟩,g.ent⟩
theorem Good.unlock{s:Sto}(g:Good G w₀ H₀ w H σ s σV)(i:Nat):Good G w₀ H₀ w H (unlock σ i) s σV:=⟨g.sto,g.fr.relock (afH σ i) fun j b e=>by
 rcases acp e with z|⟨rfl,ts,rfl,z⟩
 ·exact .inl z
 ·exact .inr ⟨_,ts,z,rfl,rfl⟩,g.ent⟩
theorem LeS.unlock{i:Nat}(hi:abJ σ i=true)(L:LeS w w' H H' (lock σ i) σ' σV σV'):LeS w w' H H' σ (unlock σ' i) σV σV' where
 n:=L.n
 io:=L.io
 Z:=L.Z
 keep:=fun a o e nl no=>L.keep a o e nl fun⟨j,ts,e1,e2⟩=>by
  rcases abT e1 with⟨z,_⟩|⟨_,us,z,_⟩
  ·exact no ⟨j,ts,z,e2⟩
  ·cases z
 newL:=L.newL
 some_:=L.some_
 own:=fun a ⟨j,ts,e1,e2⟩=>by
  rcases acp e1 with z|⟨rfl,us,z1,z2⟩
  ·rcases L.own a ⟨j,ts,z,e2⟩with⟨k,us,y1,y2⟩|y
   ·rcases abT y1 with⟨z,_⟩|⟨_,vs,z,_⟩
    ·exact .inl ⟨k,us,z,y2⟩
    ·cases z
   ·exact .inr y
  ·obtain⟨⟨vs,y1⟩,y2⟩:=L.lk i us z2
   unfold abJ at hi
   split at hi
   ·rename_i xs ex
    rw[e2]at y2
    exact .inl ⟨i,xs,ex,y2.symm⟩
   ·cases hi
 lk:=fun j ts e=>by
  rcases acp e with z|⟨_,us,z,_⟩
  ·obtain⟨⟨us,y1⟩,y2⟩:=L.lk j ts z
   rcases abT y1 with⟨y,_⟩|⟨rfl,vs,_,y⟩
   ·exact⟨⟨us,y⟩,y2⟩
   ·exfalso
    unfold IP.unlock at e
    split at e
    ·rename_i q
     rcases aaz e with⟨_,q2,_⟩|⟨ne,_⟩
     ·cases q2
     ·exact ne rfl
    ·rename_i q
     exact q ts e
  ·cases z
theorem aay.unlock{i:Nat}{r:SR}{D:Ends}(hi:abJ σ i=true)(h:aay G X w₀ H₀ w H σ σV (r.unlock i) D):aay G X w₀ H₀ w H (lock σ i) σV r D:=by
 cases r with
 | stuck=>exact h
 | ret r s=>exact h
 | retO ts s=>exact h
 | next σ1 s1=>exact fun w' H' σV' g L=>h w' H' σV' (g.unlock i) (L.unlock hi)
 | exc c σ1 s1=>exact fun w' H' σV' pins u sh g L T=>h w' H' σV' pins u sh (g.unlock i) (L.unlock hi) T
theorem aj7{x:R}{ts:List T}(h:x.lst?=some ts):x=.val (.lst ts):=by
 match x,h with
 | .val (.lst us),h=>cases h;rfl
theorem anZ{tg iter:Expr}{it':E}{g:Tg}{b:List Stmt}{b':List S}(hp:PassesOwn (model X.prog X.w) X.A X.env X.xe)(hc:X.calm=true)(hI:PI X tg iter (tI G X C it' .j true))(hg:PG X tg (gTg G g))(hb:PSs X b (tSs G X C b'))
  (hs:∀x,foldedSetIterable iter X.env x=pure x) (hit:∀i,it'≠.var i):PS X (.For tg iter b [] pos) (tS G X C (.for_ g it' b')):=by
 refine PS.imp (agS hp hc hI hg hb hs) ?_
 rintro D σV H ⟨w₀,H₀,w,σ,s,gd,h⟩
 have h:aay G X w₀ H₀ w H σ σV ((ev C it' .j σ s).st σ fun x s1=>onS x.lst? fun ts=>abp g (fun σ s=>exs C b' σ s) ts σ s1) D:=by
  cases it'<;>first|exact h|exact absurd rfl (hit _)
 refine⟨w₀,H₀,w,σ,s,gd,?_⟩
 cases he:ev C it' .j σ s with
 | stuck=>rw[he]at h;exact h.elim
 | exc c s1=>rw[he]at h;exact fun w1 H1 pins u sh L S T=>h w1 H1 σV pins u sh (gd.step L S) (LeS.of L) T
 | ok x s1=>
  rw[he]at h
  obtain⟨ts,ht,h⟩:=abR (show aay G X w₀ H₀ w H σ σV (onS x.lst? fun ts=>abp g (fun σ s=>exs C b' σ s) ts σ s1) D from h)
  cases aj7 ht
  intro w1 H1 src L S SO
  have g1:=gd.step L S
  refine abG (X:=X) (tg:=tg) (b:=b) (z:=true) (K:=X.K) g1 SO ?_ (aay.mono (LeS.of L) h)
  cases src with
  | l a vs=>exact g1.fr.notOwnZ (SO.2.2.2 rfl)
  | t a vs=>exact True.intro
  | r lo n=>exact True.intro
theorem ajE{tg:Expr}{x:Str}{xp:Pos}{i:Nat}{g:Tg}{b:List Stmt}{b':List S}(hp:PassesOwn (model X.prog X.w) X.A X.env X.xe)(hc:X.calm=true)(hN:X.N[i]?=some x)(hv:Vis X.env.scope x)(hd:(x==("__debug__":Str))=false)(hcd:(x==("__classdict__":Str))=false)
  (hg:PG X tg (gTg G g)) (hb:PSs X b (tSs G X C b')) (hs:∀y,foldedSetIterable (.Name x xp) X.env y=pure y):PS X (.For tg (.Name x xp) b [] pos) (tS G X C (.for_ g (.var i) b')):=by
 refine PS.imp (agS hp hc (ajx (aea hN hv hd hcd)) hg hb hs) ?_
 rintro D σV H ⟨w₀,H₀,w,σ,s,gd,h⟩
 have h:aay G X w₀ H₀ w H σ σV ((ev C (.var i) .i σ s).st σ fun x s1=>onS x.lst? fun ts=>if abJ σ i then(abp g (fun σ s=>exs C b' σ s) ts (lock σ i) s1).unlock i else abp g (fun σ s=>exs C b' σ s) ts σ s1) D:=h
 have hev:ev C (.var i) .i σ s=(Res.of (look σ i) s).bind fun x s=>.of (x.sq2.map fun ts=>.val (.lst ts)) s:=rfl
 rw[hev]at h
 cases hl:look σ i with
 | none=>rw[hl]at h;exact h.elim
 | some r=>
  rw[hl]at h
  have h:aay G X w₀ H₀ w H σ σV ((Res.of (r.sq2.map fun ts=>.val (.lst ts)) s).st σ fun x s1=>onS x.lst? fun ts=>if abJ σ i then(abp g (fun σ s=>exs C b' σ s) ts (lock σ i) s1).unlock i else abp g (fun σ s=>exs C b' σ s) ts σ s1) D:=h
  cases hq:r.sq2 with
  | none=>rw[hq]at h;exact h.elim
  | some ts=>
   rw[hq]at h
   have h:aay G X w₀ H₀ w H σ σV (if abJ σ i then(abp g (fun σ s=>exs C b' σ s) ts (lock σ i) s).unlock i else abp g (fun σ s=>exs C b' σ s) ts σ s) D:=h
   unfold look at hl
   split at hl
   ·rename_i t et
    cases hl
    obtain⟨v,e1,e2⟩:=gd.fr.val i t et
    have no:abJ σ i=false:=by unfold abJ;rw[et]
    rw[no]at h
    match t,hq,e2 with
    | .lst us,hq,⟨a,vs,ev,hz,hr,rp⟩=>
     cases hq
     subst ev
     exact⟨_,e1,a,rfl,.inl ⟨vs,hr,abG (X:=X) (tg:=tg) (b:=b) (z:=false) (src:=.l a vs) (K:=X.K) gd ⟨hr,rp,gd.sto.zLoc hz,fun z=>by cases z⟩ (gd.fr.notOwnZ hz) h⟩⟩
    | .tup us,hq,⟨a,vs,ev,hr,rp⟩=>
     cases hq
     subst ev
     exact⟨_,e1,a,rfl,.inr ⟨vs,hr,abG (X:=X) (tg:=tg) (b:=b) (z:=false) (src:=.t a vs) (K:=X.K) gd ⟨hr,rp⟩ True.intro h⟩⟩
   ·rename_i us et
    cases hl
    cases hq
    obtain⟨a,vs,e1,e2,e3,e4,e5,e6⟩:=gd.fr.own i _ ts et rfl
    have ho:abJ σ i=true:=by unfold abJ;rw[et]
    rw[ho]at h
    have h:aay G X w₀ H₀ w H σ σV ((abp g (fun σ s=>exs C b' σ s) ts (lock σ i) s).unlock i) D:=h
    refine⟨_,e1,a,rfl,.inl ⟨vs,.inl e2,abG (X:=X) (tg:=tg) (b:=b) (z:=false) (src:=.l a vs) (K:=X.K) (gd.lock i) ⟨.inl e2,e3,e6,fun z=>by cases z⟩ (fun⟨j,qs,y1,y2⟩=>?_) (aay.unlock ho h)⟩⟩
    rcases abT y1 with⟨z,z'⟩|⟨_,xs,z,_⟩
    ·by_cases hij:i=j
     ·exact z' hij qs rfl
     ·exact gd.fr.apart i j _ _ ts qs a hij et rfl z rfl e1 y2
    ·cases z
   ·rename_i us et
    cases hl
    cases hq
    obtain⟨a,vs,e1,e2,e3,e4,e6⟩:=gd.fr.bor i ts et
    have no:abJ σ i=false:=by unfold abJ;rw[et]
    rw[no]at h
    refine⟨_,e1,a,rfl,.inl ⟨vs,.inl e2,abG (X:=X) (tg:=tg) (b:=b) (z:=false) (src:=.l a vs) (K:=X.K) gd ⟨.inl e2,e3,e6,fun z=>by cases z⟩ (fun⟨j,qs,y1,y2⟩=>?_) h⟩⟩
    obtain⟨a',xs,q1,_,_,q4,_⟩:=gd.fr.own j _ qs y1 rfl
    rw[y2]at q1
    cases q1
    exact e4 q4
   ·rename_i us et
    cases hl
    cases hq
    obtain⟨a,vs,e1,e2,e3,e4,e5,e6⟩:=gd.fr.own i _ ts et rfl
    have no:abJ σ i=false:=by unfold abJ;rw[et]
    rw[no]at h
    refine⟨_,e1,a,rfl,.inl ⟨vs,.inl e2,abG (X:=X) (tg:=tg) (b:=b) (z:=false) (src:=.l a vs) (K:=X.K) gd ⟨.inl e2,e3,e6,fun z=>by cases z⟩ (fun⟨j,qs,y1,y2⟩=>?_) h⟩⟩
    by_cases hij:i=j
    ·subst hij;rw[et]at y1;cases y1
    ·exact gd.fr.apart i j _ _ ts qs a hij et rfl y1 rfl e1 y2
   ·cases hl
end
end IP
end
section
namespace IP
open PySem PySem.Spec L2
open PyProof.Rows (subscriptTail)
section
variable{G:Gx}{X:Cx}{C:Cf}{w w' w₀:Wo}{H H' H₀:Hp}{σ σ':Fr}{σV σV':St}{a b e:Expr}{a' b' e':E}{pos p p2:Pos}{Q:VK}{i:Nat}{x:Str}
theorem aaN.mono{res:Res R}{w1:Wo}{H1:Hp}(L:Le w w1 H H1)(h:aaN G X σV w H res Q):aaN G X σV w1 H1 res Q:=by
 match res,h with
 | .stuck,h=>exact h
 | .exc c s,h=>exact fun w' H' pins u sh a b=>h w' H' pins u sh (L.trans a) b
 | .ok (.val (.lst ts)) s,h=>
  intro w' H' a vs L' S ha r hn nz nl
  refine h w' H' a vs (L.trans L') S ha r ?_ nz nl
  cases q:H a with
  | none=>rfl
  | some o=>exact absurd hn (L.some_ a (by rw[q];intro z;cases z))
 | .ok (.val .non) s,h=>exact h
 | .ok (.val (.bl _)) s,h=>exact h
 | .ok (.val (.int _)) s,h=>exact h
 | .ok (.val (.str _)) s,h=>exact h
 | .ok (.val (.tup _)) s,h=>exact h
 | .ok (.val (.loc _)) s,h=>exact h
 | .ok (.val (.exc _)) s,h=>exact h
 | .ok (.bor _) s,h=>exact h
theorem aaN.bind{m:Res R}{k:R→Sto→Res R}(h:aaN G X σV w H (m.bind k) Q):
  aaQ G X σV w H m fun v H1=>∃w1 r s1,Le w w1 H H1∧StoOk G w1 H1 s1∧abc G w1 H1 r v∧aaN G X σV w1 H1 (k r s1) Q:=by
 cases m with
 | stuck=>exact h
 | ok r s=>exact fun w' H' v a b c=>⟨w',r,s,a,b,c,aaN.mono a h⟩
 | exc c s=>exact h
theorem aaN.of{o:Option R}{s:Sto}(h:aaN G X σV w H (Res.of o s) Q):∃ts,o=some (.val (.lst ts))∧∀w' H' a vs,Le w w' H H'→StoOk G w' H' s→H' a=some (.lst vs)→aat G w' H' ts vs→H a=none→¬w'.Z a→notLoc w' a→Q (.ref a) H':=by
 match o,h with
 | none,h=>exact h.elim
 | some (.val (.lst ts)),h=>exact⟨ts,rfl,h⟩
 | some (.val .non),h=>exact h.elim
 | some (.val (.bl _)),h=>exact h.elim
 | some (.val (.int _)),h=>exact h.elim
 | some (.val (.str _)),h=>exact h.elim
 | some (.val (.tup _)),h=>exact h.elim
 | some (.val (.loc _)),h=>exact h.elim
 | some (.val (.exc _)),h=>exact h.elim
 | some (.bor _),h=>exact h.elim
theorem agl(hE:PE X e (tO G X C e'))(hfr:∀σ s r s1,ev C e' .v σ s=.ok r s1→∃ts,r=.val (.lst ts)):PE X e (tV G X C e'):=
 PE.imp hE fun σV H Q ⟨w₀,H₀,w,σ,s,g,h⟩=>⟨w₀,H₀,w,σ,s,g,aj1 (hfr σ s) h⟩
theorem amo{es:List Expr}{es':List E}(h:PA X es (tA G X C es'))(hz:es'.length≤sizeLine):PE X (.List es pos) (tO G X C (.lst es')):=by
 refine PE.imp (aju h) ?_
 rintro σV H Q ⟨w₀,H₀,w,σ,s,g,h⟩
 have h:aaN G X σV w H ((evs C es' σ s).bind fun ts s1=>.ok (.val (.lst ts)) s1) Q:=h
 refine⟨w₀,H₀,w,σ,s,g,?_⟩
 cases hf:evs C es' σ s with
 | stuck=>rw[hf]at h;exact h
 | exc c s2=>rw[hf]at h;exact h
 | ok ts s2=>
  rw[hf]at h
  intro w2 H2 vs L2 S2 R2
  refine⟨by rw[←R2.length,adG C _ _ _ _ _ hf];exact hz,?_⟩
  exact aeF S2 R2 (aaN.mono L2 h)
noncomputable def r2O(G:Gx)(f:R→R→Option R):V→V→Hp→VK→Prop:=fun x y H Q=>∃w s rx ry ts,StoOk G w H s∧abc G w H rx x∧abc G w H ry y∧f rx ry=some (.val (.lst ts))∧∀w' H' a vs,Le w w' H H'→StoOk G w' H' s→H' a=some (.lst vs)→aat G w' H' ts vs→H a=none→¬w'.Z a→notLoc w' a→Q (.ref a) H'
theorem aia{x' y':R}{ts:List T}(e:opR .add x' y'=some (.val (.lst ts))):∃xs ys,x'.seq=some xs∧y'.seq=some ys∧xs.length+ys.length≤lim∧ts=xs++ys:=by
 unfold opR at e
 split at e
 ·rename_i i j
  cases ho:opI .add i j with
  | none=>rw[ho]at e;cases e
  | some k=>rw[ho]at e;cases e
 ·split at e<;>cases e
 ·split at e
  ·rename_i xs ys e1 e2
   split at e
   ·rename_i hl
    cases e
    exact⟨xs,ys,e1,e2,hl,rfl⟩
   ·cases e
  ·cases e
 ·cases e
theorem akr:OpR X (binaryOp .Add) (r2O G (opR .add)):=by
 intro pins s σ H x y v u Q I rx ry h
 obtain⟨w,st,x',y',ts,S,Rx,Ry,e,q⟩:=h
 obtain⟨xs,ys,e1,e2,hl,rfl⟩:=aia e
 obtain⟨p,vs,rfl,hp,r1⟩:=abc.seq (s:=st) Rx e1
 obtain⟨p2,vs2,rfl,hp2,r2⟩:=abc.seq (s:=st) Ry e2
 cases rx
 cases ry
 obtain⟨z,its,n,q1,l1,g1⟩:=Rd.lst I hp
 obtain⟨z2,its2,n2,q2,l2,g2⟩:=Rd.lst I hp2
 have hz:its.length+its2.length≤sizeLine:=by
  rw[←l1,←l2,←r1.length,←r2.length]
  have:lim≤sizeLine:=by decide
  omega
 refine PySem.P.add_list g1 g2 ?_ (by rw[List.size_toArray,List.size_toArray];exact hz)
 have ea:its.toArray++its2.toArray=(its++its2).toArray:=by simp
 rw[ea]
 exact⟨.ref _,_,I.lnew (t':=s.toks) (q1.append q2) (by rw[List.length_append,l1,l2];exact hz),rfl,aeF S (r1.append r2) q _ I.fresh⟩
theorem ant(ha:PE X a (tV G X C a'))(hb:PE X b (tV G X C b')):PE X (.BinOp a .Add b pos) (tO G X C (.bin .add a' b')):=by
 refine PE.imp (am2 (akr (G:=G)) ha hb) ?_
 rintro σV H Q ⟨w₀,H₀,w,σ,s,g,h⟩
 have h:aaN G X σV w H ((ev C a' .v σ s).bind fun x s1=>(ev C b' .v σ s1).bind fun y s2=>.of (opR .add x y) s2) Q:=h
 refine⟨w₀,H₀,w,σ,s,g,(aaN.bind h).imp ?_⟩
 rintro x H1 ⟨w1,r1,s1,L1,S1,R1,h1⟩
 refine⟨w₀,H₀,w1,σ,s1,g.step L1 S1,(aaN.bind h1).imp ?_⟩
 rintro y H2 ⟨w2,r2,s2,L2,S2,R2,h2⟩
 obtain⟨ts,e,q⟩:=aaN.of h2
 exact⟨w2,s2,r1,r2,ts,S2,R1.mono L2 S1,R2,e,q⟩
theorem an9{k1:Nat}{pu pn ps:Pos}(ha:PE X a (tV G X C a')):PE X (.Subscript a (.Slice none none (some (.UnaryOp .USub (.Constant (.int 1) k1 pn) pu)) ps) pos) (tO G X C (.rev a')):=by
 intro pins s σV H Q I h
 obtain⟨w₀,H₀,w,σ,st,g,h⟩:=h
 have h:aaN G X σV w H ((ev C a' .v σ st).bind fun x s1=>.of (x.seq.map fun ts=>.val (.lst ts.reverse)) s1) Q:=h
 refine PyProof.Rows.Subscript_ (thn (ha pins s σV H _ I ⟨w₀,H₀,w,σ,st,g,aaN.bind h⟩) fun v s1 ⟨x,H1,I1,r1,q1⟩=>?_)
 obtain⟨w1,rr,st1,L1,S1,R1,h1⟩:=q1
 obtain⟨ts,e,q⟩:=aaN.of h1
 obtain⟨us,hs,er⟩:=map_some e
 cases er
 obtain⟨pa,vs,rfl,hp,rp⟩:=abc.seq (s:=st1) R1 hs
 cases r1
 have hneg:PE X (.UnaryOp .USub (.Constant (.int 1) k1 pn) pu) (tV G X C (.neg (.cst (.int 1)))):=acf aab
 refine wpAny_Slice (thn (ad7 pins s1 σV H1 (fun o H2=>o=none∧H2=H1) I1 ⟨rfl,rfl⟩) fun vl s2 ⟨l,H2,I2,pl,e2,e2'⟩=>thn (ad7 pins s2 σV H2 (fun o H3=>o=none∧H3=H1) I2 ⟨rfl,e2'⟩) fun vu s3 ⟨u,H3,I3,pu,e3,e3'⟩=>?_)
 subst e2' e3' e2 e3
 refine thn (aeZ hneg pins s3 σV H3 (fun o H4=>o=some (-1)∧∃w4,Le w1 w4 H3 H4∧StoOk G w4 H4 st1) I3 ⟨w₀,H₀,w1,σ,st1,g.step L1 S1,fun w4 H4 v L4 S4 R4=>⟨-1,R4,rfl,w4,L4,S4⟩⟩) fun vk s4 ⟨o,H4,I4,pk,e4,w4,L4,S4⟩=>?_
 subst e4
 cases pl
 cases pu
 have nl:Rd H3 pa (.lst vs):=hp
 have R4:abc G w4 H4 rr (.ref pa):=R1.mono L4 S1
 obtain⟨pa',vs',ee,hp',rp'⟩:=abc.seq (s:=st1) R4 hs
 cases ee
 have I5:Inv X pins σV H4 { s4 with heap:=s4.heap.push { cls:=.type "slice",data:=.fields #[.none,.none,vk] } }:=I4.kept (t':=s4.toks) fun b ob q=>Heap.get?_push_of_some _ q
 obtain⟨z,its,n,q1,l1,g1⟩:=Rd.lst I5 hp'
 show wpAny (model X.prog X.w) X.A (subscriptTail a (.Slice none none (some (.UnaryOp .USub (.Constant (.int 1) k1 pn) pu)) ps) (.ref pa) (.ref s4.heap.objs.size)) (EP X pins σV Q) X.xe { s4 with heap:=s4.heap.push { cls:=.type "slice",data:=.fields #[.none,.none,vk] } }
 have il:({ s4 with heap:=s4.heap.push { cls:=.type "slice",data:=.fields #[.none,.none,vk] } }:Shared).heap.IsList pa its.toArray:=⟨_,g1,rfl,_,rfl⟩
 refine PyProof.Rows.tail_any (ops:=[.ref pa,.ref s4.heap.objs.size]) il.typeIs slot_list_getitem.lookup ?_ (by with_unfolding_all rfl)
 refine wpAny_getItem_list_slice il (Heap.IsSliceOf.new ..) .none .none pk (by simp) ?_ (by rw[List.size_toArray,←l1];exact z)
 rw[PySem.W.krv_pick]
 refine⟨.ref _,_,I5.lnew (t':=s4.toks) (ys:=vs'.reverse) (its:=its.reverse) ?_ (by rw[List.length_reverse];exact z),rfl,?_⟩
 ·exact q1.reverse
 ·exact aeF S4 rp'.reverse (fun w' H' a vs L S ha r hn=>q w' H' a vs (L4.trans L) S ha r (by
   cases qq:H3 a with
   | none=>rfl
   | some o=>exact absurd hn (L4.some_ a (by rw[qq];intro z;cases z)))) _ I5.fresh
end
end IP
end
section
namespace IP
open PySem PySem.Spec L2
section
variable{G:Gx}{X:Cx}{C:Cf}{w w' w₀:Wo}{H H' H₀:Hp}{σ σ':Fr}{σV σV':St}{a b e:Expr}{a' b' e':IP.E}{pos p p2:Pos}{Q:VK}{i:Nat}{x:Str}
theorem aik{s:Sto}(g:Good G w₀ H₀ w H σ s σV){a:Addr}(hn:H a=none):H₀ a=none:=by
 cases q:H₀ a with
 | none=>rfl
 | some o=>exact absurd hn (g.ent.some_ a (by rw[q];intro z;cases z))
theorem akW(he:PE X e (tO G X C e')):PS X (.Return (some e) pos) (tS G X C (.retO e')):=by
 refine PS.imp (ajq he) ?_
 rintro D σV H ⟨w₀,H₀,w,σ,s,g,h⟩
 refine⟨w₀,H₀,w,σ,s,g,?_⟩
 unfold ex at h
 split at h
 ·cases hv:ev C e' .v σ s with
  | stuck=>rw[hv]at h;exact h
  | exc c s1=>rw[hv]at h;exact fun w1 H1 pins u sh L S T=>h w1 H1 σV pins u sh (g.step L S) (LeS.of L) T
  | ok r s1=>
   rw[hv]at h
   obtain⟨ts,ht,h⟩:=abR (show aay G X w₀ H₀ w H σ σV (onS r.lst? fun ts=>.retO ts s1) D from h)
   cases aj7 ht
   exact fun w1 H1 a vs L S ha r hn nz nl=>h w1 H1 a vs S ha r (aik g hn) nz nl (g.ent.trans L)
 ·exact h.elim
noncomputable def spG(G:Gx)(cf:Nat→List R→Sto→Res R)(fr:Nat→Bool)(f:Nat):Sp:=fun vs H Q E=>∃w s rs,StoOk G w H s∧abg G w H rs vs∧match cf f rs s with
 | .stuck=>False
 | .ok r s'=>(fr f=false→∀w' H' v,Le w w' H H'→StoOk G w' H' s'→abc G w' H' r v→Q v H')∧
   (fr f=true→∃ts,r=.val (.lst ts)∧∀w' H' a vs,Le w w' H H'→StoOk G w' H' s'→H' a=some (.lst vs)→aat G w' H' ts vs→H a=none→¬w'.Z a→notLoc w' a→Q (.ref a) H')
 | .exc c s'=>∀w' H',Le w w' H H'→StoOk G w' H' s'→E (.ref (G.cA c)) none H'
variable{k fi:Nat}{fa:Addr}{fd:FuncData}{ps:List Str}{e₀:Expr}{es:List Expr}{es':List IP.E}{rs:List R}{vs:List V}
theorem aeS{w:Wo}{H:Hp}{σV:St}{m:Res (List R)}{k:List R→Sto→Res R}{Q:VK}(h:aaN G X σV w H (m.bind k) Q):ah9 G X σV w H m fun vs H1=>∃w1 rs s1,Le w w1 H H1∧StoOk G w1 H1 s1∧abg G w1 H1 rs vs∧aaN G X σV w H (k rs s1) Q:=by
 cases m with
 | stuck=>exact h
 | ok rs s=>exact fun w' H' vs a b c=>⟨w',rs,s,a,b,c,h⟩
 | exc c s=>exact h
end
section
variable{fs:List Fn}{sub:Nat→Nat→Bool}{k fi:Nat}
variable{G:Gx}{P:Program}{w:World}{K:PySem.W.Frag}{mg:Str→Option Value}{base:Heap}
theorem abU{F:Fn}{rs:List R}{i:Nat}{b:B}(h:(aaR F rs)[i]?=some (some b)):∃r,rs[i]?=some r∧ofR r=b:=by
 unfold aaR at h
 by_cases hi:i<rs.length
 ·rw[List.getElem?_append_left (by simpa using hi),List.getElem?_map]at h
  cases q:rs[i]? with
  | none=>rw[q]at h;cases h
  | some r=>rw[q]at h;cases h;exact⟨r,rfl,rfl⟩
 ·rw[List.getElem?_append_right (by simpa using hi),List.getElem?_replicate]at h
  split at h<;>cases h
theorem abg.get{wo:Wo}{H:Hp}:∀{rs:List R}{vs:List V}{i:Nat}{r:R},abg G wo H rs vs→rs[i]?=some r→∃v,vs[i]?=some v∧abc G wo H r v
 | [],_,i,t,h,e=>by simp at e
 | t::ts,_,0,u,⟨v,r,e,h,q⟩,z=>by subst e;simp at z;subst z;exact⟨v,rfl,h⟩
 | t::ts,_,i+1,u,⟨v,r,e,h,q⟩,z=>by
  subst e
  obtain⟨x,h1,h2⟩:=abg.get q (i:=i) (r:=u) (by simpa using z)
  exact⟨x,by simpa using h1,h2⟩
theorem adV{N:List Str}{vs:List V}{i:Nat}{v:V}(h:vs[i]?=some v):(L2.start N vs)[i]?=some (some v):=by
 unfold L2.start
 have hi:=(List.getElem?_eq_some_iff.mp h).1
 rw[List.getElem?_append_left (by simpa using hi),List.getElem?_map,h]
 rfl
theorem aga{wo:Wo}{H:Hp}{s:Sto}{F:Fn}{rs:List R}{vs:List V}{N:List Str}(S:StoOk G wo H s)(R1:abg G wo H rs vs)(hs:F.size=N.length):Good G wo H wo H (aaR F rs) s (L2.start N vs):=by
 refine⟨S,⟨?_,fun i t e=>?_,fun i b ts e eb=>?_,fun i j b c ts us a ne e eb=>?_,fun i ts e=>?_⟩,Le.refl _ _⟩
 ·unfold aaR L2.start
  rw[List.length_append,List.length_append,List.length_map,List.length_map,List.length_replicate,List.length_replicate,hs,R1.length]
 ·obtain⟨r,hr,q⟩:=abU e
  obtain⟨v,hv,rv⟩:=R1.get hr
  cases r with
  | val u=>cases q;exact⟨v,adV hv,rv⟩
  | bor u=>cases q
 ·obtain⟨r,hr,q⟩:=abU e
  cases r<;>subst q<;>cases eb
 ·obtain⟨r,hr,q⟩:=abU e
  cases r<;>subst q<;>cases eb
 ·obtain⟨r,hr,q⟩:=abU e
  obtain⟨v,hv,rv⟩:=R1.get hr
  cases r with
  | val u=>cases q
  | bor u=>
   cases q
   obtain⟨a,xs,e1,e2,e3,e4⟩:=rv
   subst e1
   exact⟨a,xs,adV hv,e2,e3,(by rw[e2];intro z;cases z),e4⟩
end
end IP
end
section
namespace IP
open PySem PySem.Spec L2
section
variable{G:Gx}{X:Cx}{pins:List (Addr×Obj)}{σV:St}{H:Hp}{c:Nat}{u:Value}{sh:Shared}
theorem agb{s:Shared}(I:Inv X pins σV H s):X.base.StaysIn (PySem.W.hideAll s.heap (frs X.stack)):=fun b o e=>
 aa1.mpr ⟨I.bk b o e,fun z=>by have:=(I.stack.mem z).1;rw[e]at this;cases this⟩
theorem aeP{s:Shared}(I:Inv X pins σV H s){h':Heap}{e:Addr}{args:List Value}(hm:Heap.MadeExcOf s.heap h' e (.ref (G.cA c)) args):aaY G X pins σV H c (.ref e) { s with heap:=h' }:=
 ⟨e,s.heap,PySem.W.hideAll s.heap (frs X.stack),rfl,I,⟨fun _ _=>aa1,fun b o q _=>hm.keeps b o q,fun b o q _=>⟨o.slots,hm.keeps b o q⟩,hm.new⟩,agb I,.inl ⟨args,hm⟩⟩
theorem act{E E':Value→Shared→Prop}{Q:Unit→Shared→Prop}(hst:afV X)(T:aaY G X pins σV H c u sh)
  (hQ:∀e h B h' t,u=.ref e→Inv X pins σV H { sh with heap:=h }→Flt X.stack h B e h'→X.base.StaysIn B→Heap.FlyingW B X.stack e (.ref (G.cA c)) t h'→Q () { sh with heap:=h' }):
  wpAny (model X.prog X.w) X.A (noteFrame u X.env) (fun _ s2=>wpAny (model X.prog X.w) X.A (setFlight u none) Q E s2) E' sh:=by
 refine acw hst T fun e h B h1 t L eu I F sb hh=>?_
 subst eu
 refine wpAny_landsW (s:={ sh with heap:=h1 }) hh fun h2 hfl sm2=>?_
 exact hQ e h B h2 t rfl I (F.next I.stack hfl.1 sm2) sb hfl
theorem adg{M:Model}{A:Around}{E:Value→Shared→Prop}{s:Shared}{env:Env}{u:Value}{Q:Unit→Shared→Prop}(h:wpAny M A (noteFrame u env) (fun _ s2=>wpAny M A (setFlight u none) Q E s2) E s):wpAny M A (leaving env u) Q E s:=by
 unfold leaving
 exact wpAny_bind h
theorem adm{h B h':Heap}{e:Addr}(I:Inv X pins σV H { sh with heap:=h })(F:Flt X.stack h B e h'):Inv X pins σV H { sh with heap:=h' }:=by
 have nfr:∀b,H b≠none→b∉frs X.stack:=fun b n z=>n (I.stkFree b z)
 have upsl:∀b o,h.get? b=some o→∃sl,h'.get? b=some { o with slots:=sl }:=fun b o q=>by
  by_cases z:b∈frs X.stack
  ·exact F.slot b o q z
  ·exact⟨o.slots,F.keep b o q z⟩
 have ncell:∀{b:Addr}{v:Option Value},h.IsCell b v→h'.IsCell b v:=fun {b v} ⟨o,q,d⟩=>by
  obtain⟨sl,e⟩:=upsl b o q
  exact⟨_,e,d⟩
 have old:∀b o,X.s₀.heap.get? b=some o→b∉X.fs→b∉frs X.stack:=fun b o q n z=>by
  rcases List.mem_cons.mp (I.stkSub b z)with r|r
  ·rw[r]at q
   exact absurd (Heap.lt_size q) (Nat.not_lt.mpr I.ok.above)
  ·exact n r
 refine⟨I.ok,I.os,I.bare,⟨fun b o q n hb hx=>?_,fun b o q n hb hx=>?_,I.base.free,fun b o q hx=>?_,I.base.tups,I.base.frzs,I.base.tbls⟩,?_,fun x c q=>?_,I.free,I.freeC,fun p hp=>?_,fun a o q=>?_,I.len⟩
 ·exact F.keep b o (I.base.keep b o q n hb hx) (old b o q hb)
 ·obtain⟨sl,e1⟩:=I.base.slot b o q n hb hx
  obtain⟨sl',e2⟩:=upsl b _ e1
  exact⟨sl',e2⟩
 ·obtain⟨o',e1⟩:=I.base.there b o q hx
  obtain⟨sl',e2⟩:=upsl b _ e1
  exact⟨_,e2⟩
 ·obtain⟨m,⟨o,es,ep,ho,hd,r⟩,hl⟩:=I.loc
  obtain⟨sl,e1⟩:=upsl _ o ho
  refine⟨m,⟨_,es,ep,e1,hd,r⟩,fun i x v h1 h2 h3=>?_⟩
  obtain⟨w,rv,lk⟩:=hl i x v h1 h2 h3
  refine⟨w,rv,?_⟩
  rcases lk with lk|⟨lk,cc,lc,ic⟩
  ·exact .inl lk
  ·exact .inr ⟨lk,cc,lc,ncell ic⟩
 ·obtain⟨v,ic⟩:=I.cell x c q
  exact⟨v,ncell ic⟩
 ·obtain⟨p1,p2,p3,p4,p5⟩:=I.pin p hp
  refine⟨F.keep p.1 p.2 p1 fun z=>?_,p2,p3,p4,p5⟩
  rcases List.mem_cons.mp (I.stkSub _ z)with r|r
  ·exact p3 r
  ·exact p4 r
 ·refine(I.hok a o q).stay (fun b v hb r=>F.keep b v r (nfr b ?_)) (fun _ r=>r) fun _ _ r=>r
  rcases hb with rfl|hb
  ·rw[q];intro z;cases z
  ·rw[hb];intro z;cases z
end
end IP
end
section
namespace IP
open PySem PySem.Spec L2
section
variable{G:Gx}{X:Cx}{C:Cf}{pins:List (Addr×Obj)}{σV:St}{H:Hp}{c:Nat}{u:Value}{sh:Shared}
theorem ahO{P:Program}{w:World}{h:Heap}{L:Addr}(k:HOk P w H h)(n:H L=none):HOk P w H (PySem.W.hideAll h [L]):=fun a o q=>by
 refine(k a o q).stay (fun b v hb r=>aa1.mpr ⟨r,fun z=>?_⟩) (fun _ r=>r) fun _ _ r=>r
 have z:b=L:=by simpa using z
 subst z
 rcases hb with rfl|hb
 ·rw[n]at q;cases q
 ·rw[n]at hb;cases hb
theorem afA{P:Program}{w:World}{K:PySem.W.Frag}{mg:Str→Option Value}{base:Heap}{N:List Str}{qual:Str}{scope:Scope}{f:Addr}{cd:Value}{A:Around}{outer:List Env}{s:Shared}{H₁:Hp}{E:XK}
  (T:aaY G (adP (CXE G P w base) P w K mg base N qual scope f cd A outer s H₁ E) pins σV H c u sh) (hE:E (.ref (G.cA c)) none H):(adP (CXE G P w base) P w K mg base N qual scope f cd A outer s H₁ E).xe u sh:=by
 refine adg (act (X:=adP (CXE G P w base) P w K mg base N qual scope f cd A outer s H₁ E) ⟨_,_,_,rfl,rfl,rfl⟩ T fun e h B h' t eu I F sb fly=>?_)
 have hL:H s.heap.objs.size=none:=I.free
 have un:=I.base
 obtain⟨f1,f2,⟨_,_,f3⟩,f4⟩:=fly
 have hne:∀b,b<s.heap.objs.size→b∉[s.heap.objs.size]:=fun b hb z=>by
  have:b=s.heap.objs.size:=by simpa using z
  omega
 refine⟨e,_,t,H,PySem.W.hideAll h [s.heap.objs.size],B,eu,I.os,I.bare,⟨fun b o q n hb hx=>?_,fun b o q n hb hx=>?_,un.free,fun b o q hx=>?_,un.tups,un.frzs,un.tbls⟩,ahO I.hok hL,⟨fun b o=>?_,fun b o q n=>?_,fun b o q n=>?_,?_⟩,sb,⟨f1,f2,f3,f4⟩,hE⟩
 ·exact aa1.mpr ⟨un.keep b o q n hb hx,hne b (Heap.lt_size q)⟩
 ·obtain⟨sl,z⟩:=un.slot b o q n hb hx
  exact⟨sl,aa1.mpr ⟨z,hne b (Heap.lt_size q)⟩⟩
 ·obtain⟨o',z⟩:=un.there b o q hx
  exact⟨o',aa1.mpr ⟨z,hne b (Heap.lt_size q)⟩⟩
 ·rw[F.cov b o,aa1]
  have efs:b∈frs (adP (CXE G P w base) P w K mg base N qual scope f cd A outer s H₁ E).stack↔b∈[s.heap.objs.size]∨b∈frs outer:=by
   show b∈s.heap.objs.size::frs outer↔_
   simp
  rw[efs]
  exact⟨fun⟨a,z⟩=>⟨⟨a,fun y=>z (.inl y)⟩,fun y=>z (.inr y)⟩,fun⟨⟨a,y⟩,z⟩=>⟨a,fun y'=>y'.elim y z⟩⟩
 ·obtain⟨a,y⟩:=aa1.mp q
  refine F.keep b o a fun z=>?_
  rcases List.mem_cons.mp (show b∈s.heap.objs.size::frs outer from z)with r|r
  ·exact y (by simp[r])
  ·exact n r
 ·obtain⟨a,y⟩:=aa1.mp q
  exact F.slot b o a (List.mem_cons_of_mem _ n)
 ·cases q:(PySem.W.hideAll h [s.heap.objs.size]).get? e with
  | none=>rfl
  | some o=>have:=(aa1.mp q).1;rw[F.new]at this;cases this
theorem acy{Q:Value→Unit→Shared→Prop}{E₁:Value→Value→Shared→Prop}(hx:X.xe=fun e s=>wpAny (model X.prog X.w) X.A (leaving X.env e) (Q e) (E₁ e) s):PassesOwn (model X.prog X.w) X.A X.env X.xe:=by
 intro e s' h
 rw[hx]at h
 have h2:=wpAny_leaving_again (A':=X.A) (A'':=X.A) (SameStack.refl X.A) (what:="frame.own-activation:exception-without-traceback") (E₂:=X.xe) (E₃:=cameBackBy (model X.prog X.w) X.A X.env X.xe) h
 refine wpAny_mono h2 (fun _ s1 q=>?_) fun _ _ z=>z
 refine wpAny_mono q (fun _ s2 z=>?_) fun _ _ z=>z
 show X.xe e s2
 rw[hx]
 exact z
end
end IP
end
section
namespace IP
open PySem PySem.Spec L2
section
variable{G:Gx}{X:Cx}{C:Cf}{w w' w₀:Wo}{H H' H₀:Hp}{σ σ':Fr}{σV σV':St}{a b e:Expr}{a' b' e':IP.E}{pos p p2:Pos}{Q:VK}{i:Nat}{x:Str}
variable{k fi:Nat}{fa:Addr}{fd:FuncData}{ps:List Str}{e₀:Expr}{es:List Expr}{es':List IP.E}{rs:List R}{vs dvs:List V}{ds:List Value}{dts:List T}
theorem amm{H1:Hp}{w1:Wo}{s1:Sto}(hf:C.fr fi=false)(L1:Le w w1 H H1)(S1:StoOk G w1 H1 s1)(R1:abg G w1 H1 rs vs)(h:aaQ G X σV w H (C.cf fi rs s1) Q):spG G C.cf C.fr fi vs H1 Q (EX G X σV):=by
 refine⟨w1,s1,rs,S1,R1,?_⟩
 have h:=aaQ.mono L1 h
 cases hc:C.cf fi rs s1 with
 | stuck=>rw[hc]at h;exact h
 | ok r s'=>rw[hc]at h;exact⟨fun _=>h,fun z=>by rw[hf]at z;cases z⟩
 | exc c s'=>
  rw[hc]at h
  intro w' H' L S pins u sh hh B a t e I fl sb fly
  exact h w' H' pins u sh L S ⟨a,hh,B,e,I,fl,sb,.inr (.inl ⟨t,fly⟩)⟩
theorem an3{H1:Hp}{w1:Wo}{s1:Sto}(hf:C.fr fi=true)(L1:Le w w1 H H1)(S1:StoOk G w1 H1 s1)(R1:abg G w1 H1 rs vs)(h:aaN G X σV w H (C.cf fi rs s1) Q):spG G C.cf C.fr fi vs H1 Q (EX G X σV):=by
 refine⟨w1,s1,rs,S1,R1,?_⟩
 have h:=aaN.mono L1 h
 cases hc:C.cf fi rs s1 with
 | stuck=>rw[hc]at h;exact h
 | ok r s'=>
  rw[hc]at h
  obtain⟨ts,er,q⟩:=aaN.of (o:=some r) (s:=s') h
  cases er
  exact⟨fun z=>(by rw[hf]at z;cases z),fun _=>⟨ts,rfl,q⟩⟩
 | exc c s'=>
  rw[hc]at h
  intro w' H' L S pins u sh hh B a t e I fl sb fly
  exact h w' H' pins u sh L S ⟨a,hh,B,e,I,fl,sb,.inr (.inl ⟨t,fly⟩)⟩
theorem ai9(hf:C.fr fi=false)(F:FnOk X.prog X.w X.K X.mg X.base (CXE G X.prog X.w X.base) k fa fd ps (spG G C.cf C.fr fi))(hr:Room k X.A)(hg:Gl X x)(hm:X.mg x=some (.ref fa))(hk:PySem.W.keepIn X.K (.ref fa)=true)(hb:adD X.K fd ps ds)(hd:aa7 dvs ds)
  (hdt:dts.mapM ajZ=some dvs) (ha:PA X (e₀::es) (tR G X C es')) (hdb:(x==("__debug__":Str))=false) (he:starEach (e₀::es) X.env=(false,eval e₀ X.env)::starEach es X.env) (hpl:(backTo pos (starEach es X.env)).any (·.1)=false):
  PE X (.Call (.Name x p) (e₀::es) [] pos) (tV G X C (.call fi es' dts)):=by
 rintro pins s σV H Q I ⟨w₀,H₀,w,σ,st,g,h⟩
 have h:aaQ G X σV w H ((evr C es' σ st).bind fun rs s1=>C.cf fi (rs++dts.map .val) s1) Q:=h
 refine wpAny_Call_Name_kw (acU I hg hm ?_ hdb)
 refine PySem.W.callWith_K (h₀:=X.base) I.ok.mod.kin hk (thn (ha pos pins s σV H _ I ⟨w₀,H₀,w,σ,st,g,afU h⟩) fun us s1 ⟨vs,H1,I1,r,q⟩=>⟨I1.kIn,?_⟩) he hpl
 obtain⟨w1,rs,st1,L1,S1,R1,h1⟩:=q
 exact afz F hr hb hd I1 r (amm hf L1 S1 (ab2 R1 (acH hdt)) h1) (aei I1)
theorem aiH(hf:C.fr fi=true)(F:FnOk X.prog X.w X.K X.mg X.base (CXE G X.prog X.w X.base) k fa fd ps (spG G C.cf C.fr fi))(hr:Room k X.A)(hg:Gl X x)(hm:X.mg x=some (.ref fa))(hk:PySem.W.keepIn X.K (.ref fa)=true)(hb:adD X.K fd ps ds)(hd:aa7 dvs ds)
  (hdt:dts.mapM ajZ=some dvs) (ha:PA X (e₀::es) (tR G X C es')) (hdb:(x==("__debug__":Str))=false) (he:starEach (e₀::es) X.env=(false,eval e₀ X.env)::starEach es X.env) (hpl:(backTo pos (starEach es X.env)).any (·.1)=false):
  PE X (.Call (.Name x p) (e₀::es) [] pos) (tO G X C (.call fi es' dts)):=by
 rintro pins s σV H Q I ⟨w₀,H₀,w,σ,st,g,h⟩
 have h:aaN G X σV w H ((evr C es' σ st).bind fun rs s1=>C.cf fi (rs++dts.map .val) s1) Q:=h
 refine wpAny_Call_Name_kw (acU I hg hm ?_ hdb)
 refine PySem.W.callWith_K (h₀:=X.base) I.ok.mod.kin hk (thn (ha pos pins s σV H _ I ⟨w₀,H₀,w,σ,st,g,aeS h⟩) fun us s1 ⟨vs,H1,I1,r,q⟩=>⟨I1.kIn,?_⟩) he hpl
 obtain⟨w1,rs,st1,L1,S1,R1,h1⟩:=q
 exact afz F hr hb hd I1 r (an3 hf L1 S1 (ab2 R1 (acH hdt)) h1) (aei I1)
end
structure FunD(K:PySem.W.Frag)(x qual:Str)(st:Stmt)(f:Addr)(fd:FuncData):Prop where
 ex:∃(oc:Value) (od:Option Addr) (dV kV doc pm:Value) (an:Option Addr) (cdv ct:Value) (osl:Array (Option Value)),
  fd=PySem.W.fnOf x qual (abn st) (aaP st) (aaf st) dV kV doc pm an cdv ct∧K.lookup f=some ⟨oc,od,.func fd,osl⟩∧PySem.W.codeIn K cdv qual=true
 kp:PySem.W.keepIn K (.ref f)=true
theorem aap{K:PySem.W.Frag}{x qual:Str}{st:Stmt}{f:Addr}{oc:Value}{od an:Option Addr}{osl:Array (Option Value)}{dV kV doc pm cdv ct:Value}(l:K.lookup f=some ⟨oc,od,.func (PySem.W.fnOf x qual (abn st) (aaP st) (aaf st) dV kV doc pm an cdv ct),osl⟩)
  (c:PySem.W.codeIn K cdv qual=true) (k:PySem.W.keepIn K (.ref f)=true):FunD K x qual st f (PySem.W.fnOf x qual (abn st) (aaP st) (aaf st) dV kV doc pm an cdv ct):=⟨⟨oc,od,dV,kV,doc,pm,an,cdv,ct,osl,rfl,l,c⟩,k⟩
section
variable{fs:List Fn}{sub:Nat→Nat→Bool}{k fi:Nat}
variable{G:Gx}{P:Program}{w:World}{K:PySem.W.Frag}{mg:Str→Option Value}{base:Heap}
theorem aag{CX:CXT}{f:Addr}{fd:FuncData}{ps:List Str}{k:Nat}:FnOk P w K mg base CX k f fd ps (spG G (run true fs sub aai 0) (agr fs) fi):=
 ⟨fun vs H Q E ⟨_,_,_,_,_,z⟩=>z.elim,fun A outer s H args us vs Q E hr e0 hb hv ⟨_,_,_,_,_,z⟩=>z.elim⟩
@[reducible] noncomputable def cfX (fs:List Fn) (sub:Nat→Nat→Bool) (k:Nat):Cf:=⟨run true fs sub aai k,sub,agr fs,aai⟩
theorem al9{x qual:Str}{st:Stmt}{f:Addr}{fd:FuncData}{N ps:List Str}{F:Fn}(Fu:FunD K x qual st f fd)(S:FnScope N ps (aaf st))(hF:fs[fi]?=some F)(hp:F.pars=ps.length)(hs:F.size=N.length)
  (hbody:∀(cdv:Value) (A:Around) (outer:List Env) (s:Shared) (H:Hp) (E:XK),fd.code=cdv→Room (2*k+1) (A.deeper (PyProof.Rows.envOfC qual (aaf st) s.heap.objs.size f cdv))→
   PSs (adP (CXE G P w base) P w K mg base N qual (aaf st) f cdv A outer s H E) (aaP st) (tSs G (adP (CXE G P w base) P w K mg base N qual (aaf st) f cdv A outer s H E) (cfX fs sub k) F.body)):
  FnOk P w K mg base (CXE G P w base) (2*(k+1)) f fd ps (spG G (run true fs sub aai (k+1)) (agr fs) fi):=by
 have hrun:∀rs s,run true fs sub aai (k+1) fi rs s=if rs.length=F.pars then abm true F.fr (exs (cfX fs sub k) F.body (aaR F rs) s)else .stuck:=fun rs s=>by
  conv=>lhs;unfold run
  rw[hF]
 have hfr:agr fs fi=F.fr:=by unfold agr;rw[hF]
 obtain⟨oc,od,dV,kV,doc,pm,an,cdv,ct,osl,rfl,lk,hcd⟩:=Fu.ex
 refine an6 (k:=2*k+1) lk hcd S (fun vs H Q E h=>?_) fun A outer s H vs Q E hr h=>⟨_,hbody cdv A outer s H E rfl hr,?_⟩
 ·obtain⟨wo,st,rs,S1,R1,h⟩:=h
  rw[hrun]at h
  by_cases hl:rs.length=F.pars
  ·exact R1.length.symm.trans (hl.trans hp)
  ·rw[if_neg hl]at h;exact h.elim
 ·obtain⟨wo,st,rs,S1,R1,h⟩:=h
  rw[hrun]at h
  by_cases hl:rs.length=F.pars
  ·rw[if_pos hl]at h
   refine⟨wo,H,wo,aaR F rs,st,aga S1 R1 hs,?_⟩
   rw[hfr]at h
   cases hx:exs (cfX fs sub k) F.body (aaR F rs) st with
   | stuck=>rw[hx]at h;exact h.elim
   | next σ' s'=>
    rw[hx]at h
    cases hb:F.fr with
    | true=>rw[hb]at h;exact h.elim
    | false=>rw[hb]at h;exact fun w' H' σV' g L=>h.1 rfl w' H' .non g.ent g.sto rfl
   | ret r s'=>
    rw[hx]at h
    cases hb:F.fr with
    | true=>rw[hb]at h;exact h.elim
    | false=>rw[hb]at h;exact fun w' H' v S R L=>h.1 rfl w' H' v L S R
   | retO ts s'=>
    rw[hx]at h
    cases hb:F.fr with
    | false=>rw[hb]at h;exact h.elim
    | true=>
     rw[hb]at h
     obtain⟨us,e,q⟩:=h.2 rfl
     cases e
     exact fun w' H' a vs S ha r hn nz nl L=>q w' H' a vs L S ha r hn nz nl
   | exc c σ' s'=>
    rw[hx]at h
    exact fun w' H' σV' pins u sh g L T=>afA T (h w' H' g.ent g.sto)
  ·rw[if_neg hl]at h;exact h.elim
theorem alP{x qual:Str}{st:Stmt}{f:Addr}{fd:FuncData}{N ps:List Str}{F:Fn}(Fu:FunD K x qual st f fd)(S:FnScope N ps (aaf st))(hF:fs[fi]?=some F)(hp:F.pars=ps.length)(hs:F.size=N.length)
  (hbody:∀(cdv:Value) (A:Around) (outer:List Env) (s:Shared) (H:Hp) (E:XK),Room (2*k+1) (A.deeper (PyProof.Rows.envOfC qual (aaf st) s.heap.objs.size f cdv))→
   PSs (adP (CXE G P w base) P w K mg base N qual (aaf st) f cdv A outer s H E) (aaP st) (tSs G (adP (CXE G P w base) P w K mg base N qual (aaf st) f cdv A outer s H E) (cfX fs sub k) F.body)):
  FnOk P w K mg base (CXE G P w base) (2*(k+1)) f fd ps (spG G (run true fs sub aai (k+1)) (agr fs) fi):=
 al9 Fu S hF hp hs fun cdv A outer s H E _ hr=>hbody cdv A outer s H E hr
end
end IP
end
section
namespace IP
open PySem PySem.Spec L2
theorem ak3{K:PySem.W.Frag}{h:Heap}{Ca:Addr}{bB:List Value}{nid:String}(hK:K.In h)(q:PySem.W.excIn K Ca bB nid=true):
  ∃bm N nm qn bs hdct sn sub ab col dd k0 k1 k2 k3 k5 mN,h.get? Ca=some (excClassObj nm qn Ca N bs bm hdct sn sub ab col dd k0 k1 k2 k3 k5 nid)∧h.Ns N mN∧mN "__init__"=none∧OwnTail h bB bm:=by
 unfold PySem.W.excIn at q
 split at q
 ·rename_i d1 cl sl ho
  split at q
  ·rename_i Cb tl u0 u1 u2 u3 nn u5 em es
   simp only[Bool.and_eq_true,beq_iff_eq,Bool.not_eq_true']at q
   obtain⟨⟨⟨⟨⟨q1,q2⟩,q3⟩,q4⟩,q5⟩,q6⟩:=q
   subst q1 q2
   obtain⟨nm0,bs0,mro0,ns0,qn0,hd0,sn0,aar,ab0,col0,del0⟩:=cl
   dsimp only at em q3 q5 q6
   subst em q3
   have hg:=hK _ _ ho
   have esl:sl=#[u0,u1,u2,u3,some (.builtin nn),u5]:=by
    apply Array.toList_inj.mp
    rw[es]
   subst esl
   exact⟨tl,ns0,nm0,qn0,bs0,hd0,sn0,aar,ab0,col0,d1,u0,u1,u2,u3,u5,_,hg,.of_isNs (PySem.W.isNs_of_in hK q5),PySem.W.nsMap_none_of_in hK q5 q6,PySem.W.tail_of_in hK q4⟩
  ·cases q
 ·cases q
section
variable{G:Gx}{X:Cx}{C:Cf}{w w' w₀:Wo}{H H' H₀:Hp}{σ σ':Fr}{σV σV':St}{c:Nat}{x:Str}{np cpos pos mp:Pos}{m:Str}{j:Nat}
theorem aiq{bB:List Value}{B nid iid:String}(hc:X.calm=true)(hg:Gl X x)(hm:X.mg x=some (.ref (G.cA c)))(hq:PySem.W.excIn X.K (G.cA c) bB nid=true)(FB:ExcBaseFacts B nid iid bB)(hdb:(x==("__debug__":Str))=false)
  (he:starEach [.Constant (.str m) j mp] X.env=[(false,eval (.Constant (.str m) j mp) X.env)]):PS X (.Raise (some (.Call (.Name x np) [.Constant (.str m) j mp] [] cpos)) none pos) (tS G X C (.raise c)):=by
 rintro pins s σV H D I ⟨w₀,H₀,w,σ,st,g,h⟩
 have hx:∀u sh,aaY G X pins σV H c u sh→X.xe u sh:=fun u sh T=>h w H σV pins u sh g LeS.refl T
 obtain⟨tl,N,nm,qn,bs,hdct,sn,sub,ab,col,dd,k0,k1,k2,k3,k5,mN,hC,hN,hni,T⟩:=ak3 (I.ok.mod.kin) hq
 refine wpAny_Raise_call_subT (C:=G.cA c) (nm:=nm) (q:=qn) (N:=N) (bs:=bs) (bm:=tl) (hdct:=hdct) (sn:=sn) (sub:=sub) (ab:=ab) (col:=col) (dd:=dd) (k0:=k0) (k1:=k1) (k2:=k2) (k3:=k3) (k5:=k5)
  FB (mN:=mN) (T.hasType FB.hasBase) (I.ok.hd hc) (by rw[he];rfl) hni (acU I hg hm ⟨rfl,?_⟩ hdb)
 have ha:PA X [.Constant (.str m) j mp] (amX (tC (.str m)) atR):=aaH amu abx (by rw[he];rfl)
 have z:=ha cpos pins s σV H (fun vs H1=>vs=[.str m]∧H1=H) I ⟨rfl,rfl⟩
 rw[he]at z ⊢
 refine PySem.Calls.evalArgs_plain (wpAny_mono z (fun vs s₂ h₂=>?_) fun _ _ y=>y)
 obtain⟨ws,H1,I1,rv,rfl,rfl⟩:=h₂
 have hl:=rv.length
 refine⟨rfl,?_,I1.bk _ _ hC,hN.keeps I1.bk,T.keeps I1.bk,fun h' e hmd=>hx _ _ (aeP I1 hmd)⟩
 show vs.length≤sizeLine
 rw[←hl]
 show 1≤sizeLine
 decide
end
section
variable{M:Model}{A:Around}{E:Value→Shared→Prop}{s:Shared}{env:Env}
theorem ag7{body orelse:Sem Flow}{h₀:ExceptHandler}{hs:List ExceptHandler}{Q:Flow→Shared→Prop}
  (h:wpAny M A body (fun f s₁=>match f with | .next=>wpAny M A orelse Q E s₁|f=>Q f s₁)
   (fun e s₁=>wpAny M A (leaving env e) (fun _ s₃=>wpAny M A (handleBy e env (h₀::hs)) Q E s₃) E s₁) s):
  wpAny M A (tryStmt false body (h₀::hs) orelse [] env) Q E s:=by
 have e0:tryStmt false body (h₀::hs) orelse [] env=(body.attempt >>= fun r=>match r with
   | .ok .next=>orelse
   | .ok f=>pure f
   | .error e=>leaving env e >>= fun _=>handleBy e env (h₀::hs)):=by
  unfold tryStmt
  simp only[List.isEmpty_nil,if_true,List.isEmpty_cons,Bool.false_and,Bool.false_eq_true,if_false,bind_pure]
  congr 1
  funext r
  cases r with
  | error e=>unfold leaving;simp only[bind_assoc,pure_bind]
  | ok f=>cases f<;>rfl
 rw[e0]
 refine wpAny_bind (wpAny_attempt (wpAny_mono h (fun f s₁ h₁=>?_) fun e s₁ h₁=>?_))
 ·cases f<;>first|exact h₁|exact wpAny_pure h₁
 ·exact wpAny_bind h₁
end
end IP
end
section
namespace IP
open PySem PySem.Spec L2
noncomputable def Wo.addL(w:Wo)(a:Addr):Wo:={ n:=w.n+1,io:=fun k=>if k=w.n then a else w.io k,Z:=w.Z }
theorem abb{w:Wo}{a:Addr}{l:Nat}(h:l<w.n):(w.addL a).io l=w.io l:=by
 show(if l=w.n then a else w.io l)=w.io l
 rw[if_neg (Nat.ne_of_lt h)]
theorem abI{w:Wo}{a:Addr}:(w.addL a).io w.n=a:=by
 show(if w.n=w.n then a else w.io w.n)=a
 rw[if_pos rfl]
section
variable{G:Gx}{X:Cx}{C:Cf}{w w' w₀:Wo}{H H' H₀:Hp}{σ σ':Fr}{σV σV':St}{s:Sto}{a:Addr}{l:Nat}
theorem aeD:Kp w (w.addL a) H H:=⟨Nat.le_succ _,fun l h=>abb h,fun _ z=>z,fun _ _ _ r=>r,fun _ _ e=>e,fun _ _ e=>e⟩
theorem abK.addL{b:Addr}:∀{c:Cell},abK G w H b c→abK G (w.addL a) H b c
 | .lst ts,⟨vs,h,r⟩=>⟨vs,h,aat.kp aeD ts vs r⟩
 | .ins c fs,⟨dx,kvs,h,z,k⟩=>⟨dx,kvs,h,z,fun i x t h1 h2=>let ⟨v,q1,q2⟩:=k i x t h1 h2;⟨v,q1,Rep.kp aeD t v q2⟩⟩
 | .tbl k p q,h=>h
theorem StoOk.addL{c:Cell}(S:StoOk G w H s)(hc:abK G (w.addL a) H a c)(nz:¬w.Z a)(nl:IP.notLoc w a):StoOk G (w.addL a) H (s++[c])where
 len:=by rw[List.length_append,S.len];rfl
 inj:=fun i j hi hj e=>by
  have hi:i<w.n+1:=hi
  have hj:j<w.n+1:=hj
  by_cases h1:i<w.n
  ·by_cases h2:j<w.n
   ·rw[abb h1,abb h2]at e
    exact S.inj i j h1 h2 e
   ·have:j=w.n:=by omega
    subst this
    rw[abb h1,abI]at e
    exact absurd e.symm (nl i h1)
  ·have:i=w.n:=by omega
   subst this
   by_cases h2:j<w.n
   ·rw[abb h2,abI]at e
    exact absurd e (nl j h2)
   ·omega
 nz:=fun i hi z=>by
  have hi:i<w.n+1:=hi
  by_cases h1:i<w.n
  ·rw[abb h1]at z
   exact S.nz i h1 z
  ·have:i=w.n:=by omega
   subst this
   rw[abI]at z
   exact nz z
 cell:=fun i d e=>by
  by_cases h1:i<w.n
  ·rw[List.getElem?_append_left (by rw[S.len];exact h1)]at e
   rw[abb h1]
   exact abK.addL (S.cell i d e)
  ·have hl:=(List.getElem?_eq_some_iff.mp e).1
   rw[List.length_append,S.len]at hl
   have:i=w.n:=by simp at hl;omega
   subst this
   rw[List.getElem?_append_right (by rw[S.len];exact Nat.le_refl _),S.len,Nat.sub_self]at e
   cases e
   rw[abI]
   exact hc
 zt:=S.zt
theorem Le.addL(L:Le w w' H H')(ha:H a=none):Le w (w'.addL a) H H' where
 n:=Nat.le_trans L.n (Nat.le_succ _)
 io:=fun i h=>(abb (Nat.lt_of_lt_of_le h L.n)).trans (L.io i h)
 Z:=L.Z
 keep:=L.keep
 newL:=fun i h1 h2=>by
  have h2:i<w'.n+1:=h2
  by_cases h:i<w'.n
  ·rw[abb h]
   exact L.newL i h1 h
  ·have:i=w'.n:=by omega
   subst this
   rw[abI]
   exact ha
 newZ:=L.newZ
 some_:=L.some_
end
end IP
end
section
namespace IP
open PySem PySem.Spec L2
section
variable{G:Gx}{X:Cx}{C:Cf}{w w' w₀:Wo}{H H' H₀:Hp}{σ σ':Fr}{σV σV':St}{a b e j o:Expr}{a' b' e' j':IP.E}{pos pos' p p1 p2 apos:Pos}{Q:VK}{i c f:Nat}{x m:Str}
variable{k fi:Nat}{fa:Addr}{fd:FuncData}{ps:List Str}{e₀:Expr}{es:List Expr}{es':List IP.E}{rs:List R}{vs dvs:List V}{ds:List Value}{dts:List T}
theorem ajH(ha:PE X a (tO G X C a')):PE X a (tV G X C (.cell a')):=by
 refine PE.imp ha ?_
 rintro σV H Q ⟨w₀,H₀,w,σ,s,g,h⟩
 have h:aaQ G X σV w H ((ev C a' .v σ s).bind fun x s1=>onL x fun ts=>.ok (.val (.loc s1.length)) (s1++[.lst ts])) Q:=h
 refine⟨w₀,H₀,w,σ,s,g,?_⟩
 cases he:ev C a' .v σ s with
 | stuck=>rw[he]at h;exact h
 | exc c s1=>rw[he]at h;exact h
 | ok r s1=>
  rw[he]at h
  match r,h with
  | .val (.lst ts),h=>
   intro w1 H1 p vs L S ha r hn nz nl
   refine h (w1.addL p) H1 (.ref p) (L.addL hn) (S.addL ⟨vs,ha,aat.kp aeD ts vs r⟩ nz nl) ⟨?_,?_⟩
   ·rw[S.len];exact Nat.lt_succ_self _
   ·rw[S.len,abI]
  | .val .non,h=>exact h.elim
  | .val (.bl _),h=>exact h.elim
  | .val (.int _),h=>exact h.elim
  | .val (.str _),h=>exact h.elim
  | .val (.tup _),h=>exact h.elim
  | .val (.loc _),h=>exact h.elim
  | .val (.exc _),h=>exact h.elim
  | .bor _,h=>exact h.elim
end
end IP
end
section
namespace IP
open PySem PySem.Spec L2
noncomputable abbrev hnd(X:Cx)(e:Addr):Cx:={ X with A:=X.A.mark (some (.ref e)),calm:=false,xe:=fun _ _=>False }
section
variable{G:Gx}{X:Cx}{C:Cf}{pins:List (Addr×Obj)}{σV:St}{H:Hp}{c:Nat}{u:Value}{sh s:Shared}{e:Addr}
theorem anI(ok:X.Ok):(hnd X e).Ok:=
 ⟨ok.mod,ok.kind,ok.glob,ok.blt,ok.above,ok.inj,ok.has,ok.cab,fun z=>(by cases z),ok.frames,ok.stk,ok.exf,ok.bs,ok.bsz,ok.noex,ok.exfs,ok.funs,ok.frf⟩
theorem agD(I:Inv X pins σV H s):Inv (hnd X e) pins σV H s:=⟨anI I.ok,I.os,I.bare,I.base,I.loc,I.cell,I.free,I.freeC,I.pin,I.hok,I.len⟩
theorem aca(ok:X.Ok)(I:Inv (hnd X e) pins σV H s):Inv X pins σV H s:=⟨ok,I.os,I.bare,I.base,I.loc,I.cell,I.free,I.freeC,I.pin,I.hok,I.len⟩
theorem aem{P:Program}{w:World}{h:Heap}{a:Addr}{o:HO}(x:abr P w H h a o):∃q,h.get? a=some q:=by
 cases o with
 | lst xs=>obtain⟨_,_,_,_,e⟩:=x;exact⟨_,e⟩
 | tup xs=>obtain⟨_,_,_,ob,e,_⟩:=x;exact⟨_,e⟩
 | dK kvs=>obtain⟨_,_,_,_,o,_,_,e,_⟩:=x;exact⟨_,e⟩
 | dT kvs=>obtain⟨_,_,_,_,o,_,_,e,_⟩:=x;exact⟨_,e⟩
 | set S n=>obtain⟨o,_,_,_,e,_⟩:=x;exact⟨_,e⟩
 | ins C dx fs=>obtain⟨_,_,_,e,_⟩:=x;exact⟨_,e⟩
 | own y=>obtain⟨_,e⟩:=x;exact⟨_,e⟩
 | xd fs=>obtain⟨_,⟨_,_,_,e,_⟩,_⟩:=x;exact⟨_,e⟩
 | rng lo hi=>obtain⟨_,_,_,e⟩:=x;exact⟨_,e⟩
 | frz ob v=>obtain⟨e,_⟩:=x;exact⟨_,e⟩
 | tbl ps=>exact⟨_,(show h.get? a=some _ from x)⟩
 | met f y=>exact⟨_,(show h.get? a=some _ from x)⟩
 | ext φ=>obtain⟨_,⟨_,e⟩,_⟩:=x;exact⟨_,e⟩
theorem agg{h B h':Heap}{Ca:Addr}{oe:Obj}(hex:X.ex=[])(I:Inv X pins σV H { sh with heap:=h })(F:Flt X.stack h B e h')(ho:h'.get? e=some oe)(hc:oe.cls=.ref Ca):
  H e=none∧Inv X pins σV (upd H e (.ext (afG e Ca))) { sh with heap:=h' }:=by
 have hn:H e=none:=by
  cases q:H e with
  | none=>rfl
  | some o=>obtain⟨z,hz⟩:=aem (I.hok e o q);rw[F.new]at hz;cases hz
 have J:=adm I F
 have new:∀b o,h.get? b=some o→b≠e:=fun b o q z=>by rw[z,F.new]at q;cases q
 have newc:∀{b:Addr}{v:Option Value},h.IsCell b v→b≠e:=fun {b v} ⟨o,q,_⟩=>new b o q
 refine⟨hn,J.ok,J.os,J.bare,⟨J.base.keep,J.base.slot,fun b o q n hx=>?_,J.base.there,fun b xs q=>?_,fun b o v q=>?_,fun b ps q=>?_⟩,J.loc,J.cell,?_,fun x cc q=>?_,fun p hp=>?_,fun a o q=>?_,J.len⟩
 ·obtain⟨o',z⟩:=I.base.there b o q hx
  rw[aas (new b o' z)]
  exact J.base.free b o q n hx
 ·have z:=J.base.tups b xs q
  rw[aas (fun y=>by rw[y,hn]at z;cases z)]
  exact z
 ·have z:=J.base.frzs b o v q
  rw[aas (fun y=>by rw[y,hn]at z;cases z)]
  exact z
 ·obtain⟨m,z⟩:=J.base.tbls b ps q
  exact⟨m,by rw[aas (fun y=>by rw[y,hn]at z;cases z)];exact z⟩
 ·obtain⟨m,⟨o,es,ep,q,_⟩,_⟩:=I.loc
  rw[aas (new _ o q)]
  exact J.free
 ·obtain⟨v,ic⟩:=I.cell x cc q
  rw[aas (newc ic)]
  exact J.freeC x cc q
 ·obtain⟨p1,p2,p3,p4,p5⟩:=J.pin p hp
  refine⟨p1,?_,p3,p4,p5⟩
  rw[aas (new _ _ (I.pin p hp).1)]
  exact p2
 ·by_cases ha:a=e
  ·subst ha
   rw[aaD]at q
   cases q
   exact⟨⟨oe,ho,hc⟩,⟨oe,ho⟩,fun h1 h2 ⟨o,q1,q2⟩ k=>⟨o,k o q1,q2⟩⟩
  ·rw[aas ha]at q
   refine(J.hok a o q).stay (fun _ _ _ r=>r) (fun b r=>?_) fun b xs r=>?_
   ·rw[aas (fun y=>by rw[y,hn]at r;cases r)];exact r
   ·rw[aas (fun y=>by rw[y,hn]at r;cases r)];exact r
theorem ahB{M:Model}{A:Around}{E:Value→Shared→Prop}{i:Nat}{x:Str}{v:V}{Q:Unit→Shared→Prop}(I:Inv X pins σV H s)(hN:X.N.Nodup)(hi:X.N[i]?=some x)(hx:X.env.scope.names.lookup x=some .local)(hv:σV[i]?=some (some v))
  (h:∀s',Inv X pins (σV.set i none) H s'→Q () s'):wpAny M A (unbindName X.env x) Q E s:=by
 obtain⟨m,hn,hl⟩:=id I.loc
 have hcls:(X.env.scope.kind==.class||(X.env.scope.kind==.module&&X.env.locals != X.env.globals))=false:=by rw[I.ok.kind];rfl
 obtain⟨w,rw',lk⟩:=hl i x v hi hv (.inl hx)
 have hm:m x=some w:=by
  rcases lk with⟨_,z⟩|⟨z,_⟩
  ·exact z
  ·have z:X.env.scope.names.lookup x=some .cell∨X.env.scope.names.lookup x=some .free:=z
   rw[hx]at z
   rcases z with z|z<;>cases z
 obtain⟨oL,_,_,hoL,_⟩:=id hn
 have hne:∀{b:Addr}{o:Obj},X.s₀.heap.get? b=some o→b≠X.env.locals:=fun q z=>by
  rw[z]at q
  exact absurd (Heap.lt_size q) (Nat.not_lt.mpr I.ok.above)
 refine wpAny_unbindName_local hx hn hm hcls fun h' u' hn' hs=>?_
 refine h _ ⟨I.ok,I.os,I.bare,⟨fun b o q n hb hx=>?_,fun b o q n hb hx=>?_,I.base.free,fun b o q hx=>?_,I.base.tups,I.base.frzs,I.base.tbls⟩,⟨_,hn',fun j y z e1 e2 e3=>?_⟩,fun y cc q=>?_,I.free,I.freeC,fun p hp=>?_,fun a o q=>?_,?_⟩
 ·exact(hs.2 b (hne q)).trans (I.base.keep b o q n hb hx)
 ·obtain⟨sl,z⟩:=I.base.slot b o q n hb hx
  exact⟨sl,(hs.2 b (hne q)).trans z⟩
 ·obtain⟨o',z⟩:=I.base.there b o q hx
  exact⟨o',(hs.2 b (hne q)).trans z⟩
 ·by_cases hj:i=j
  ·subst hj
   have hlt:i<σV.length:=(List.getElem?_eq_some_iff.mp hv).1
   rw[List.getElem?_set_self hlt]at e2
   cases e2
  ·rw[List.getElem?_set_ne hj]at e2
   obtain⟨w2,r2,q⟩:=hl j y z e1 e2 e3
   refine⟨w2,r2,?_⟩
   have ny:y≠x:=fun e=>hj (ad3 hN hi (e▸e1))
   rcases q with⟨k,q⟩|⟨k,cc,q,ic⟩
   ·exact .inl ⟨k,(if_neg ny).trans q⟩
   ·exact .inr ⟨k,cc,q,ic.sameBut hs (I.cne y cc q)⟩
 ·obtain⟨w2,ic⟩:=I.cell y cc q
  exact⟨w2,ic.sameBut hs (I.cne y cc q)⟩
 ·obtain⟨p1,p2,p3,p4,p5⟩:=I.pin p hp
  exact⟨(hs.2 p.1 p3).trans p1,p2,p3,p4,p5⟩
 ·refine(I.hok a o q).stay (fun b r hb k=>(hs.2 b ?_).trans k) (fun _ r=>r) fun _ _ r=>r
  rintro rfl
  rcases hb with rfl|hb
  ·rw[I.free]at q;cases q
  ·rw[I.free]at hb;cases hb
 ·rw[List.length_set];exact I.len
end
end IP
end
section
namespace IP
open PySem PySem.Spec L2
noncomputable abbrev afJ(X:Cx)(E:Value→Shared→Prop)(pn:List (Addr×Obj)):Cx:={ X with xe:=E,pn:=pn }
section
variable{G:Gx}{X:Cx}{C:Cf}{pins pins':List (Addr×Obj)}{w w' w₀:Wo}{H H' H₀:Hp}{σ σ':Fr}{σV σV':St}{c:Nat}{u:Value}{sh s:Shared}{e:Addr}{E:Value→Shared→Prop}
theorem alJ{pn:List (Addr×Obj)}(ok:X.Ok):(afJ X E pn).Ok:=
 ⟨ok.mod,ok.kind,ok.glob,ok.blt,ok.above,ok.inj,ok.has,ok.cab,ok.hd,ok.frames,ok.stk,ok.exf,ok.bs,ok.bsz,ok.noex,ok.exfs,ok.funs,ok.frf⟩
theorem ahY{pn:List (Addr×Obj)}(ok:(afJ X E pn).Ok):X.Ok:=
 ⟨ok.mod,ok.kind,ok.glob,ok.blt,ok.above,ok.inj,ok.has,ok.cab,ok.hd,ok.frames,ok.stk,ok.exf,ok.bs,ok.bsz,ok.noex,ok.exfs,ok.funs,ok.frf⟩
theorem ajF(I:Inv X pins σV H s):Inv (afJ X E (X.pn++pins)) [] σV H s:=
 ⟨alJ I.ok,I.os,I.bare,I.base,I.loc,I.cell,I.free,I.freeC,fun p hp=>I.pin p (by simpa using hp),I.hok,I.len⟩
theorem ab4(I:Inv (afJ X E (X.pn++pins)) pins' σV H s):Inv X pins σV H s:=
 ⟨ahY I.ok,I.os,I.bare,I.base,I.loc,I.cell,I.free,I.freeC,fun p hp=>I.pin p (List.mem_append_left _ hp),I.hok,I.len⟩
theorem ahV{D:Ends}{f:Flow}{s':Shared}(h:SP (afJ X E (X.pn++pins)) [] D f s'):SP X pins D f s':=by
 cases f with
 | next=>obtain⟨σ',H',I,q⟩:=h;exact⟨σ',H',ab4 I,q⟩
 | brk=>obtain⟨σ',H',I,q⟩:=h;exact⟨σ',H',ab4 I,q⟩
 | cont=>obtain⟨σ',H',I,q⟩:=h;exact⟨σ',H',ab4 I,q⟩
 | ret u=>obtain⟨v,σ',H',I,r,q⟩:=h;exact⟨v,σ',H',ab4 I,r,q⟩
theorem ai2{D:Ends}{f:Flow}{s':Shared}(ok:X.Ok)(h:SP (hnd X e) pins D f s'):SP X pins D f s':=by
 cases f with
 | next=>obtain⟨σ',H',I,q⟩:=h;exact⟨σ',H',aca ok I,q⟩
 | brk=>obtain⟨σ',H',I,q⟩:=h;exact⟨σ',H',aca ok I,q⟩
 | cont=>obtain⟨σ',H',I,q⟩:=h;exact⟨σ',H',aca ok I,q⟩
 | ret u=>obtain⟨v,σ',H',I,r,q⟩:=h;exact⟨v,σ',H',aca ok I,r,q⟩
theorem ahz{r:SR}{D:Ends}(h:aay G X w₀ H₀ w H σ σV r.nox D):aay G (hnd X e) w₀ H₀ w H σ σV r D:=by
 cases r with
 | stuck=>exact h
 | next σ1 s1=>exact h
 | ret r s1=>exact h
 | retO ts s1=>exact h
 | exc c σ1 s1=>exact h.elim
theorem FrOk.unset{i:Nat}(F:FrOk G w H H₀ σ σV):FrOk G w H H₀ (σ.set i none) (σV.set i none)where
 len:=by simp[F.len]
 val:=fun j t e=>by
  rcases aaz e with⟨_,z,_⟩|⟨ne,z⟩
  ·cases z
  ·obtain⟨v,h1,h2⟩:=F.val j t z
   exact⟨v,by rw[List.getElem?_set_ne ne];exact h1,h2⟩
 own:=fun j b ts e eb=>by
  rcases aaz e with⟨_,z,_⟩|⟨ne,z⟩
  ·cases z
  ·obtain⟨a,vs,h1,h2⟩:=F.own j b ts z eb
   exact⟨a,vs,by rw[List.getElem?_set_ne ne];exact h1,h2⟩
 apart:=fun j k b c ts us a hjk e1 eb e2 ec e3 e4=>by
  rcases aaz e1 with⟨_,z,_⟩|⟨ne,z⟩
  ·cases z
  ·rcases aaz e2 with⟨_,z',_⟩|⟨ne',z'⟩
   ·cases z'
   ·rw[List.getElem?_set_ne ne]at e3
    rw[List.getElem?_set_ne ne']at e4
    exact F.apart j k b c ts us a hjk z eb z' ec e3 e4
 bor:=fun j ts e=>by
  rcases aaz e with⟨_,z,_⟩|⟨ne,z⟩
  ·cases z
  ·obtain⟨a,vs,h1,h2⟩:=F.bor j ts z
   exact⟨a,vs,by rw[List.getElem?_set_ne ne];exact h1,h2⟩
theorem ans{body suite:List Stmt}{b':List S}{y:Str}{yp hpos pos:Pos}{nm:Option Str}{b₀:Stmt}(hst:X.stack=X.env::X.outer∧X.env.frame=some X.env.locals)(hg:Gl X y)(hm:X.mg y=some (.ref (G.cA c)))(hdb:(y==("__debug__":Str))=false)
  (hmt:∀d,PySem.W.exmOne X.K (.ref (G.cA d)) (.ref (G.cA c))=some (C.sub d c))
  (hbody:∀(E:Value→Shared→Prop) (pn:List (Addr×Obj)),PassesOwn (model X.prog X.w) X.A X.env E→PSs (afJ X E pn) body (tSs G (afJ X E pn) C b')) {st:Sto}{D:Ends}{k:Nat→Fr→Sto→SR}
  (I:Inv X pins σV H s) (g:Good G w₀ H₀ w H σ st σV)
  (h:aay G X w₀ H₀ w H σ σV (match exs C b' σ st with | .exc d σ1 s1=>if C.sub d c then k d σ1 s1 else .exc d σ1 s1|r=>r) D)
  (hk:∀(d:Nat) (σ1:Fr) (s1:Sto) (w1:Wo) (H1:Hp) (σV1:St) (e:Addr) (h B h1:Heap) (t:Value) (sh:Shared),Good G w₀ H₀ w1 H1 σ1 s1 σV1→aay G X w₀ H₀ w1 H1 σ1 σV1 (k d σ1 s1) D→Inv X pins σV1 H1 { sh with heap:=h }→Flt X.stack h B e h1→X.base.StaysIn B→Heap.FlyingW B X.stack e (.ref (G.cA d)) t h1→
   codeAny (model X.prog X.w) (X.A.mark (some (.ref e))) (.handlers (.ref e) [.ExceptHandler none nm (b₀::suite) hpos] X.env) (fun r s₂=>match r with
     | .ok f=>(match nm with
      | none=>SP X pins D f s₂
      | some n=>wpAny (model X.prog X.w) X.A (do bindName X.env n .none;unbindBehindTheSuite X.env n hpos) (fun _ s₃=>SP X pins D f s₃) X.xe s₂)
     | .error x=>cameBackBy (model X.prog X.w) X.A X.env X.xe x s₂) { sh with heap:=h1 }):
  wpAny (model X.prog X.w) X.A (exec (.Try body [.ExceptHandler (some (.Name y yp)) nm (b₀::suite) hpos] [] [] pos) X.env) (SP X pins D) X.xe s:=by
 rw[arm_exec_Try]
 refine wpAny_bind (wpAny_standAt (ag7 ?_))
 generalize hE2:(fun(u:Value) (s₁:Shared)=>wpAny (model X.prog X.w) X.A (leaving X.env u) (fun _ s₃=>wpAny (model X.prog X.w) X.A (handleBy u X.env [.ExceptHandler (some (.Name y yp)) nm (b₀::suite) hpos]) (SP X pins D) X.xe s₃) X.xe s₁)=E2
 have hp:PassesOwn (model X.prog X.w) X.A X.env E2:=acy (X:=afJ X E2 []) (Q:=fun u _ s₃=>wpAny (model X.prog X.w) X.A (handleBy u X.env [.ExceptHandler (some (.Name y yp)) nm (b₀::suite) hpos]) (SP X pins D) X.xe s₃) (E₁:=fun _=>X.xe) hE2.symm
 refine wpAny_mono (hbody E2 (X.pn++pins) hp [] s σV H D (ajF I) ⟨w₀,H₀,w,σ,st,g,?_⟩) (fun f s₁ q=>?_) fun u s₁ q=>?_
 ·cases hx:exs C b' σ st with
  | stuck=>rw[hx]at h;exact h
  | next σ1 s1=>rw[hx]at h;exact h
  | ret r s1=>rw[hx]at h;exact h
  | retO ts s1=>rw[hx]at h;exact h
  | exc d σ1 s1=>
   rw[hx]at h
   intro w1 H1 σV1 pins' u sh g1 L1 T
   show E2 u sh
   rw[←hE2]
   refine adg (act (X:=afJ X E2 (X.pn++pins)) ⟨_,_,_,hst.1,hst.2,hst.2⟩ T fun e hh B h1 t eu I1 F sb fly=>?_)
   subst eu
   have J:=ab4 I1
   have JL:Inv X pins σV1 H1 { sh with heap:=h1 }:=adm J F
   obtain⟨ob,hob,hoc⟩:=fly.there
   have LT:PySem.W.Looks (model X.prog X.w) h1 (typeOf (.ref e)) (.ref (G.cA d)):=hoc▸(PySem.W.Looks.ld hob).andThen .now
   refine wpAny_handleBy_cons (codeAny_handlers_test (A:=X.A.mark (some (.ref e))) (acU (X:=hnd X e) (agD JL) hg hm ?_ hdb)) (by intro q;cases q)
   refine(PySem.W.exm_one (M:=model X.prog X.w) JL.kIn LT (hmt d)).at ?_
   cases hsb:C.sub d c with
   | true=>
    dsimp only at h
    rw[hsb]at h
    exact hk d σ1 s1 w1 H1 σV1 e hh B h1 t sh g1 (aay.mono L1 h) J F sb fly
   | false=>
    dsimp only at h
    rw[hsb]at h
    have h:aay G X w₀ H₀ w H σ σV (.exc d σ1 s1) D:=h
    show wpAny _ _ (handleBy (.ref e) X.env []) _ _ _
    refine wpAny_handleBy_nil ?_
    obtain⟨f1,f2,f3,oe,vs,Tb,oT,ts,he,hcl,hd,hv,hnT,hTe,hT,hdT,h3⟩:=id fly
    unfold passOn
    refine wpAny_bind (wpAny_field he hd hv ?_)
    rw[if_neg (show ¬((Value.ref Tb==Value.none)=true)from by simp)]
    have step:wpAny (model X.prog X.w) X.A (setFlight (.ref e) X.env.frame >>= fun _=>(throw (Value.ref e):Sem Flow)) (SP X pins D) X.xe { sh with heap:=h1 }:=by
     rw[hst.2]
     refine wpAny_bind (PySem.W.setFlight_onW (s:={ sh with heap:=h1 }) fly fun h2 hh2 sm=>?_)
     refine wpAny_throw ?_
     have F2:Flt X.stack hh B e h2:=F.next J.stack hh2.1 sm
     exact h w1 H1 σV1 pins (.ref e) { sh with heap:=h2 } g1 L1 ⟨e,hh,B,rfl,J,F2,sb,.inr (.inr ⟨t,_,hh2⟩)⟩
    first
     | exact wpAny_bind (wpAny_pure step)
     | exact step
 ·have q:=ahV q
  cases f with
  | next=>exact wpAny_execs_nil q
  | brk=>exact q
  | cont=>exact q
  | ret v=>exact q
 ·exact q
end
end IP
end
section
namespace IP
open PySem PySem.Spec L2
section
variable{G:Gx}{X:Cx}{C:Cf}{pins pins':List (Addr×Obj)}{w w' w₀:Wo}{H H' H₀:Hp}{σ σ':Fr}{σV σV':St}{c i:Nat}{u:Value}{sh s:Shared}{e:Addr}{E:Value→Shared→Prop}
variable{body suite:List Stmt}{b' h':List S}{y n:Str}{yp hpos pos:Pos}{b₀:Stmt}
theorem akA(hst:X.stack=X.env::X.outer∧X.env.frame=some X.env.locals)(hex:X.ex=[])(hN:X.N.Nodup)(hi:X.N[i]?=some n)(hl:X.env.scope.names.lookup n=some .local)(hg:Gl X y)(hm:X.mg y=some (.ref (G.cA c)))(hdb:(y==("__debug__":Str))=false)
  (hmt:∀d,PySem.W.exmOne X.K (.ref (G.cA d)) (.ref (G.cA c))=some (C.sub d c))
  (hbody:∀(E:Value→Shared→Prop) (pn:List (Addr×Obj)),PassesOwn (model X.prog X.w) X.A X.env E→PSs (afJ X E pn) body (tSs G (afJ X E pn) C b'))
  (hsuite:∀e,PSs (hnd X e) (b₀::suite) (tSs G (hnd X e) C h')):PS X (.Try body [.ExceptHandler (some (.Name y yp)) (some n) (b₀::suite) hpos] [] [] pos) (tS G X C (.try_ b' c (some i) h')):=by
 rintro pins s σV H D I ⟨w₀,H₀,w,σ,st,g,h⟩
 refine ans (C:=C) (c:=c) (k:=fun d σ1 s1=>(exs C h' (put σ1 i (.exc d)) s1).nox.bind fun σ2 s2=>.next (σ2.set i none) s2) hst hg hm hdb hmt hbody I g h fun d σ1 s1 w1 H1 σV1 e hh B h1 t sh g1 q J F sb fly=>?_
 refine codeAny_handlers_suite_as (PyProof.Rows.lands_againW (s:={ sh with heap:=h1 }) fly fun h2 fly2 sm=>?_)
 obtain⟨ob,hob,hoc⟩:=fly2.there
 obtain⟨hne,J2⟩:=agg hex J (F.next J.stack fly2.1 sm) hob hoc
 have L2:Le w1 w1 H1 (upd H1 e (.ext (afG e (G.cA d)))):=Le.new hne _
 have S2:=g1.sto.new hne (.ext (afG e (G.cA d)))
 have g2:Good G w₀ H₀ w1 (upd H1 e (.ext (afG e (G.cA d)))) (put σ1 i (.exc d)) s1 (σV1.set i (some (.ref e))):=(g1.step L2 S2).put ⟨e,rfl,aaD⟩
 have l2:LeS w1 w1 H1 (upd H1 e (.ext (afG e (G.cA d)))) σ1 (put σ1 i (.exc d)) σV1 (σV1.set i (some (.ref e))):=(LeS.of L2).trans LeS.put
 have hiσ:i<σV1.length:=by rw[J.len];exact(List.getElem?_eq_some_iff.mp hi).1
 refine acB (v:=.ref e) J2 hN hi (.inl hl) rfl (fun s3 J3=>?_) (.inr hl)
 refine wpAny_mono (hsuite e pins s3 (σV1.set i (some (.ref e))) _ { D with nx:=fun σ2 H2=>D.nx (σ2.set i none) H2,rt:=D.rt,bk:=fun _ _=>False,ct:=fun _ _=>False } (agD J3) ⟨w₀,H₀,w1,put σ1 i (.exc d),s1,g2,?_⟩) (fun f s₂ z=>?_) fun _ _ z=>z.elim
 ·refine ahz ?_
  have q:=aay.mono l2 q
  generalize hr:(exs C h' (put σ1 i (.exc d)) s1).nox=r at q
  cases r with
  | stuck=>exact q
  | next σ2 s2=>exact fun w3 H3 σV3 g3 l3=>q w3 H3 (σV3.set i none) ⟨g3.sto,g3.fr.unset,g3.ent⟩ (l3.trans (LeS.set (by intro ts z;cases z) (by intro ts z;cases z)))
  | ret r s2=>exact q
  | retO ts s2=>exact q
  | exc cc σ2 s2=>exact q
 ·have z:=ai2 J2.ok z
  have go:∀(σ2:St) (H2:Hp),Inv X pins σ2 H2 s₂→∀Q:Shared→Prop,(∀s4,Inv X pins (σ2.set i none) H2 s4→Q s4)→wpAny (model X.prog X.w) X.A (do bindName X.env n .none;unbindBehindTheSuite X.env n hpos) (fun _ s₃=>Q s₃) X.xe s₂:=fun σ2 H2 K Q hQ=>by
   have hi2:i<σ2.length:=by rw[K.len];exact(List.getElem?_eq_some_iff.mp hi).1
   refine wpAny_bind (PySem.wpAny_bindName (acB (v:=.non) K hN hi (.inl hl) rfl (fun s4 K4=>?_) (.inr hl)))
   unfold unbindBehindTheSuite
   refine wpAny_onRaise (ahB (v:=.non) K4 hN hi hl (List.getElem?_set_self hi2) fun s5 K5=>?_)
   rw[List.set_set]at K5
   exact hQ s5 K5
  cases f with
  | next=>
   obtain⟨σ2,H2,K,z⟩:=z
   exact go σ2 H2 K _ fun s4 K4=>⟨σ2.set i none,H2,K4,z⟩
  | brk=>obtain⟨σ2,H2,K,z⟩:=z;exact z.elim
  | cont=>obtain⟨σ2,H2,K,z⟩:=z;exact z.elim
  | ret v=>
   obtain⟨x,σ2,H2,K,r,z⟩:=z
   exact go σ2 H2 K _ fun s4 K4=>⟨x,σ2.set i none,H2,K4,r,z⟩
end
end IP
end
section
namespace IP
open PySem PySem.W PySem.Spec PySem.Calls PyProof.Rows Builtin Builtin.ObjectAttr Builtin.Getset_descriptor
noncomputable def Err(x D:Addr)(hp:Heap):Prop:=∃ob,hp.get? x=some ob∧ob.cls=.ref D
section
variable{KK:Frag}{x D:Addr}
theorem ajn(M:Model)(hp:Heap)(p:Err x D hp):Looks M hp (typeOf (.ref x)) (.ref D):=by
 obtain⟨ob,k1,k2⟩:=p
 exact k2▸(Looks.ld k1).andThen .now
end
end IP
namespace IP
open PySem PySem.W PySem.Spec PySem.Calls PyProof.Rows Builtin Builtin.ObjectAttr Builtin.Getset_descriptor
section
variable{KK:Frag}{x D:Addr}{prog:Program}{w:World}{A:Around}{E:Value→Shared→Prop}
theorem agU{Q:Option Value→Shared→Prop}{s:Shared}
  (hga:findIn KK (.ref D) "__getattribute__"=some (some (.builtin "BaseException.__getattribute__")))
  (hgn:findIn KK (.ref D) "__getattr__"=some none)
  (ha:findIn KK (.ref D) "__class__"=some (some (.builtin "object.__class__")))
  (hn:specialIn KK (.builtin "object.__class__") "__get__"=some (some (.builtin "getset_descriptor.__get__")))
  (htk:takesIn KK (.builtin "object.__class__")=some true)
  (hm:mroIn KK D (.type "object")=some true) (hb:mroIn KK D (.type "BaseException")=some true)
  (X:KK.In s.heap) (p:Err x D s.heap) (k:Q (some (.ref D)) { s with toks:=s.toks+1 }):
  wpAny (model prog w) A (getAttr? (.ref x) "__class__") Q E s:=by
 obtain⟨hp,gg,dd,tt,oo⟩:=s
 have T0:=ajn (model prog w) hp p
 have T1:=looks_findIn (M:=model prog w) X hga
 have T2:=looks_findIn (M:=model prog w) X hgn
 have TF:Looks (model prog w) hp (find (.ref x) (.ref D) "__class__") (.bind (.builtin "getset_descriptor.__get__") (.builtin "object.__class__")):=by
  have a1:=looks_findIn (M:=model prog w) X ha
  have a2:=looks_specialIn (M:=model prog w) X hn
  have a3:=looks_takesIn (M:=model prog w) X htk
  refine a1.andThen ?_
  refine Looks.andThen (show Looks (model prog w) hp (getOf (some (.builtin "object.__class__"))) (some (.builtin "getset_descriptor.__get__"))from a2) ?_
  refine Looks.andThen (show Looks (model prog w) hp (dataDescriptor? (some (.builtin "object.__class__")) (some (.builtin "getset_descriptor.__get__"))) (some (.builtin "getset_descriptor.__get__",.builtin "object.__class__"))from a3.andThen .now) ?_
  exact Looks.tag .now
 have T3:=looks_mroIn (M:=model prog w) X hm
 have T4:=looks_mroIn (M:=model prog w) X hb
 have TI:Looks (model prog w) hp (isInstance (.ref x) (.type "BaseException")) true:=T0.andThen T4
 have f3:=F.excAttr_ValueError.ga.bind (.ref x)
 unfold getAttr? getAttrBy? getAttrBy
 refine wpAny_bind (wpAny_mkText ?_)
 refine wpAny_bind (wpAny_attempt ?_)
 refine wpAny_holding ?_
 refine wpAny_bind (T0.at ?_)
 refine wpAny_bind (T1.at ?_)
 have c0:(onTheHeap (Value.ref D)&&Value.builtin "BaseException.__getattribute__"==Value.builtin "object.__getattribute__")=false:=by
  have:(Value.builtin "BaseException.__getattribute__"==Value.builtin "object.__getattribute__")=false:=by decide +kernel
  rw[this];rfl
 dsimp only
 rw[c0]
 simp only[Bool.false_eq_true,if_false]
 unfold getAttrByItsOwn
 refine wpAny_bind (Looks.at (show Looks (model prog w) hp (hookBefore (.ref D)) none from T2) ?_)
 refine wpAny_bind (wpAny_attempt ?_)
 refine wpAny_holding ?_
 unfold callGetattribute boundAndCalled
 simp only[Bool.false_and,Bool.false_eq_true,if_false]
 rw[f3]
 refine wpAny_bind (wpAny_pure ?_)
 refine wpAny_call ?_
 refine codeAny_call_builtin F.excAttr_ValueError.ga.plain F.entry_bexc_ga ?_
 have hk:builtinKind "BaseException.__getattribute__"=some .slot:=by decide +kernel
 have hsplit:splitId "BaseException.__getattribute__"=some ("BaseException","__getattribute__"):=by decide +kernel
 have hargs:=F.args_bexc_ga (.ref x) (.str "__class__" tt)
 show wpAny _ _ (checkBuiltinCall "BaseException.__getattribute__" ⟨[.ref x,.str "__class__" tt],[]⟩) _ _ _
 simp only[checkBuiltinCall,hk,hsplit]
 refine wpAny_bind ?_
 refine TI.at ?_
 repeat (first|exact hargs|wp_step)
 obtain⟨ob,k1,k2⟩:=p
 refine wpAny_loadPart k1 ?_
 refine wpAny_pure ?_
 rw[k2]
 refine wpAny_bind (TF.at ?_)
 show wpAny _ _ (bindTo (.builtin "getset_descriptor.__get__") (.builtin "object.__class__") (.ref x) (.ref D)) _ _ _
 show wpAny _ _ (holding [Value.builtin "object.__class__"] (call (.builtin "getset_descriptor.__get__") [Value.builtin "object.__class__",.ref x,.ref D]) >>= ret) _ _ _
 refine wpAny_bind (wpAny_holding ?_)
 refine wpAny_call ?_
 refine codeAny_call_builtin KF.slot_gs.plain KF.entry_gs (KF.slot_gs.check _ _ _ _ _ _ _ _ KF.type_class (KF.args_gs _ _ _) ?_)
 unfold Builtin.«getset_descriptor.__get__» descrGet
 rw[dga_obj]
 refine wpAny_bind (wpAny_pure ?_)
 unfold descrGetter descrCheckInstance descrNameAndClass isInstance
 simp only[KF.owner_class]
 repeat lk
 refine⟨Code.quiet_builtin _ (by decide +kernel),?_⟩
 refine codeAny_builtin KF.entry_class ?_
 unfold Builtin.«object.__class__» shownTypeOf
 repeat lk
 exact k
theorem akn(hga:findIn KK (.ref D) "__getattribute__"=some (some (.builtin "BaseException.__getattribute__")))
  (hgn:findIn KK (.ref D) "__getattr__"=some none) (hdct:hasDictIn KK D=true)
  (ha:findIn KK (.ref D) "__class__"=some (some (.builtin "object.__class__")))
  (hn:specialIn KK (.builtin "object.__class__") "__get__"=some (some (.builtin "getset_descriptor.__get__")))
  (htk:takesIn KK (.builtin "object.__class__")=some true) (hm:mroIn KK D (.type "object")=some true)
  (hb:mroIn KK D (.type "BaseException")=some true):
  KitX KK (.ref x) (.ref D) (Err x D)where
 ty:=fun M hp _ p=>ajn M hp p
 it:=fun _ _ X _=>by
  obtain⟨cdD,hcD,_⟩:=any_some hdct
  unfold clsIn at hcD
  split at hcD
  ·rename_i ho
   intro A' Q' E' s' kk q
   unfold isType loadHead
   refine wpAny_bind ?_
   exact wpAny_loadPart (kk _ _ (X _ _ ho)) (wpAny_pure q)
  ·cases hcD
 ne:=fun hp tp dd its n sl X htp=>by
  obtain⟨cdD,hcD,_⟩:=any_some hdct
  refine Bool.eq_false_iff.mpr fun q=>?_
  have e:D=tp:=Value.ref.inj (beq_iff_eq.mp q)
  subst e
  unfold clsIn at hcD
  split at hcD
  ·rename_i ho
   cases(X _ _ ho).symm.trans htp
  ·cases hcD
 ca:=fun X p k=>agU hga hgn ha hn htk hm hb X p k
end
end IP
namespace IP
open PySem PySem.Spec L2
structure ExcK(K:PySem.W.Frag)(D:Addr):Prop where
 ga:PySem.W.findIn K (.ref D) "__getattribute__"=some (some (.builtin "BaseException.__getattribute__"))
 gn:PySem.W.findIn K (.ref D) "__getattr__"=some none
 dct:PySem.W.hasDictIn K D=true
 ca:PySem.W.findIn K (.ref D) "__class__"=some (some (.builtin "object.__class__"))
 sp:PySem.W.specialIn K (.builtin "object.__class__") "__get__"=some (some (.builtin "getset_descriptor.__get__"))
 tk:PySem.W.takesIn K (.builtin "object.__class__")=some true
 mo:PySem.W.mroIn K D (.type "object")=some true
 mb:PySem.W.mroIn K D (.type "BaseException")=some true
section
variable{G:Gx}{X:Cx}{C:Cf}{a:Expr}{a':IP.E}{pos p py:Pos}{y:Str}{k:Nat}
theorem ahN{sub:Nat→Nat→Bool}{x:R}{b:Bool}(h:adQ sub x (.cls k)=some b):∃d,x=.val (.exc d)∧b=sub d k:=by
 unfold adQ at h
 split at h
 ·rename_i d kk hk
  cases hk
  cases h
  exact⟨d,rfl,rfl⟩
 ·unfold amO at h
  split at h<;>first|(cases h;done)|(rename_i z;cases z;done)|(rename_i z _;cases z;done)|simp_all
theorem amD(hkit:∀d,ExcK X.K (G.cA d))(hone:∀d,PySem.W.kitOne X.K (.ref (G.cA d)) (.ref (G.cA k))=some (C.sub d k))(hg:Gl X "isinstance")(hm:X.mg "isinstance"=none)(hgy:Gl X y)(hmy:X.mg y=some (.ref (G.cA k)))(hdy:(y==("__debug__":Str))=false)
  (ha:PE X a (tV G X C a')) (hs:starEach [a,.Name y py] X.env=[(false,eval a X.env),(false,eval (.Name y py) X.env)]):PE X (.Call (.Name "isinstance" p) [a,.Name y py] [] pos) (tV G X C (.isi a' (.cls k))):=by
 have hc:aaM X (.builtin "isinstance") (fun xs H Q=>∃v,xs=[v,.ref (G.cA k)]∧r1 G (fun x=>(adQ C.sub x (.cls k)).map fun b=>.val (.bl b)) v H Q):=by
  rintro pins s σ H xs us Q I rv ⟨v,rfl,w,st,rx,r,S,R1,e,q⟩
  obtain⟨u,u',rfl,r1,r2⟩:=rv.two
  cases r2
  obtain⟨b,hb,rfl⟩:=map_some e
  obtain⟨d,rfl,rfl⟩:=ahN hb
  obtain⟨ad,rfl,hH⟩:=R1
  cases r1
  obtain⟨hφ,_⟩:=I.hok ad _ hH
  have z:=hkit d
  exact PySem.W.kia_one (akn z.ga z.gn z.dct z.ca z.sp z.tk z.mo z.mb) I.kIn hφ (hone d) (by intro z;cases z) fun tk=>⟨.bl _,H,I.tok tk,rfl,q w H _ (Le.refl _ _) S rfl⟩
 refine PE.imp (ac8 hc hg hm (show bootBuiltins "isinstance"=some (.builtin "isinstance")by decide +kernel) (aaH ha (aaH (akf (v:=.ref (G.cA k)) hgy hmy rfl hdy) abx rfl) (by rw[hs];rfl)) (by decide) (by decide) (by rw[hs];rfl) rfl) ?_
 rintro σV H Q ⟨w₀,H₀,w,σ,s,g,h⟩
 obtain⟨w₀,H₀,w,σ,s,g,h⟩:=aiy (f:=fun x=>(adQ C.sub x (.cls k)).map fun b=>.val (.bl b)) ⟨w₀,H₀,w,σ,s,g,h⟩
 exact⟨w₀,H₀,w,σ,s,g,h.imp fun v H1 q=>⟨v,rfl,q⟩⟩
end
end IP
end
section
namespace IP
open PySem PySem.Spec L2
section
variable{G:Gx}{X:Cx}{C:Cf}{w w' w₀:Wo}{H H' H₀:Hp}{σ σ':Fr}{σV σV':St}{a b e:Expr}{a' b' e':IP.E}{pos p p2:Pos}{Q:VK}
theorem LeS.puts:∀{ks:List Nat}{us:List T}{vs:List V}{σ:Fr}{σV:St},IP.puts σ ks us=some σ'→vs.length=ks.length→LeS w w H H σ σ' σV (abh σV ks vs)
 | [],[],vs,σ,σV,hp,hl=>by cases hp;cases vs<;>exact LeS.refl
 | [],_::_,vs,σ,σV,hp,hl=>by cases hp
 | _::_,[],vs,σ,σV,hp,hl=>by cases hp
 | k::ks,u::us,[],σ,σV,hp,hl=>by simp at hl
 | k::ks,u::us,v::vs,σ,σV,hp,hl=>LeS.trans (LeS.put (v:=v)) (LeS.puts (ks:=ks) (us:=us) (vs:=vs) (σ:=IP.put σ k u) (σV:=σV.set k (some v)) hp (by simpa using hl))
theorem ana{x:R}{ts:List T}(h:x.tup?=some ts):x=.val (.tup ts)∨x=.val (.lst ts):=by
 unfold R.tup? at h
 split at h
 ·cases h;exact .inl rfl
 ·cases h;exact .inr rfl
 ·cases h
theorem akJ{js:List Nat}{es:List Expr}{k:Nat}(hc:X.calm=true)(he:PE X e (tV G X C e'))(h:PGs X es (adC js))(hn:(assignEach es X.env).length=js.length)(hst:(assignEach es X.env).findIdx? (·.1)=none)
  (hs:swapsWithSole [.Tuple es k p] e pos.line X.env=pure false) (hw:swappedStores [.Tuple es k p] e X.env=pure none) (h1:(assignEach [.Tuple es k p] X.env).map (·.2)=[assign (.Tuple es k p) X.env]):
  PS X (.Assign [.Tuple es k p] e pos) (tS G X C (.asgT js e')):=by
 refine PS.imp (aj5 he (agF (G:=G) hc h hn hst) hs hw h1) ?_
 rintro D σV H ⟨w₀,H₀,w,σ,s,g,h⟩
 refine⟨w₀,H₀,w,σ,s,g,(aeb g h).imp ?_⟩
 rintro v H1 ⟨w1,r,s1,L1,S1,R1,g1,q1⟩
 obtain⟨ts,ht,qa⟩:=abR q1
 obtain⟨σ2,hp,qb⟩:=abR qa
 rcases ana ht with rfl|rfl
 ·exact⟨w1,s1,.tup ts,σ,σ2,S1,R1,hp,fun vs hf hl=>qb w1 H1 _ ⟨S1,hf H₀ σV g1.fr,g1.ent⟩ (LeS.puts hp hl)⟩
 ·exact⟨w1,s1,.lst ts,σ,σ2,S1,R1,hp,fun vs hf hl=>qb w1 H1 _ ⟨S1,hf H₀ σV g1.fr,g1.ent⟩ (LeS.puts hp hl)⟩
end
end IP
end
section
namespace IP
open PySem PySem.Spec L2
section
variable{G:Gx}{X:Cx}{C:Cf}
variable{elt iter tg:Expr}{ifs:List Expr}{scope:Scope}{pos:Pos}{it' ce:E}{g:Tg}{N':List Str}{f:Fr→Sto→Res (Option T)}
end
end IP
end
section
namespace IP
open PySem PySem.Spec L2
section
variable{G:Gx}{X:Cx}{C:Cf}
end
end IP
end
section
namespace IP
open PySem PySem.Spec L2
noncomputable def Ite(a:Addr):It:=
 ⟨fun i H=>∃vs v,Rd H a (.lst vs)∧vs[i]?=some v,
  fun i H x H'=>∃T v,x=.ref T∧H T=none∧H'=upd H T (.tup [.int i,v])∧∀vs,Rd H a (.lst vs)→vs[i]?=some v,
  fun i H=>∃vs,Rd H a (.lst vs)∧vs.length≤i⟩
section
variable{G:Gx}{X:Cx}{C:Cf}{w w' w₀:Wo}{H H' H₀:Hp}{σ σ':Fr}{σV σV':St}{pos:Pos}
theorem aeV{pins:List (Addr×Obj)}{σ:St}{H:Hp}{s:Shared}{h':Heap}{t':Nat}{e it:Addr}(I:Inv X pins σ H s)(k:∀b o,b≠e→b≠it→s.heap.get? b=some o→h'.get? b=some o)(f1:ad0 X pins H e)(f2:ad0 X pins H it):
  Inv X pins σ H { s with heap:=h',toks:=t' }:=by
 have hf:∀b∈[e,it],ad0 X pins H b:=fun b hb=>by
  rcases List.mem_cons.mp hb with rfl|hb
  ·exact f1
  ·have:b=it:=by simpa using hb
   subst this
   exact f2
 have k':∀b o,b∉[e,it]→s.heap.get? b=some o→h'.get? b=some o:=fun b o hb q=>k b o (fun z=>hb (by simp[z])) (fun z=>hb (by simp[z])) q
 have nit:∀b u,H b=some u→b∉[e,it]:=fun b u q z=>by rw[(hf b z).1]at q;cases q
 refine I.step (g':=s.gens) (d':=s.drawn) (ch:=[e,it]) (fun b hb=>?_) (fun b o _ _ hc e _=>k' b o hc e) (fun b o _ _ hc e _=>⟨o.slots,k' b o hc e⟩) (fun _ _ _ _ n=>n)
  (fun b o hc e=>⟨o,k' b o hc e⟩) (fun _ _ e=>e) (fun _ _ _ e=>e) (fun b ps e=>⟨#[],by rw[e];simp⟩) (fun m hm=>?_) (fun b u e=>?_) I.bare
 ·obtain⟨_,g1,g2,g3,g4,g5⟩:=hf b hb
  exact⟨g3,g1,g4,g5⟩
 ·obtain⟨o,es,ep,ho,r⟩:=hm
  exact⟨o,es,ep,k' _ o (fun z=>(hf _ z).2.1 rfl) ho,r⟩
 ·refine(I.hok b u e).stay (fun c v hc q=>k' c v ?_ q) (fun _ q=>q) fun _ _ q=>q
  rcases hc with z|z
  ·rw[z];exact nit b u e
  ·exact nit c _ z
theorem agZ{P:Program}{w:World}{K:PySem.W.Frag}{es:List Expr}{k:Nat}{p:Pos}(a e it:Addr)(hei:e≠it):Turn P w K (.Tuple es k p) (Ite a) [e,it] e (fun i h=>(∃old,IsEnum h e it i old)∧h.IsListIter it a i)where
 mem:=by simp
 obj:=fun i h ⟨⟨old,he⟩,hit⟩ b hb=>by
  rcases List.mem_cons.mp hb with rfl|hb
  ·exact⟨_,he,fun v z=>by cases z⟩
  ·have:b=it:=by simpa using hb
   subst this
   obtain⟨o,e1,c,d⟩:=hit
   exact⟨o,e1,fun v z=>by rw[d]at z;cases z⟩
 keep:=fun i h h' ⟨⟨old,he⟩,hit⟩ k=>⟨⟨old,k e (by simp) _ he⟩,hit.at fun o x=>k it (by simp) o x⟩
 item:=by
  intro X hP hw hK hc i pins s σ H E I hf ⟨⟨old,he⟩,hit⟩ ⟨vs,v,hr,hx⟩
  subst hP hw hK
  obtain⟨its,rv,p⟩:=aaO I hr
  obtain⟨u,hu,ru⟩:=rv.get hx
  have f1:=hf e (by simp)
  have f2:=hf it (by simp)
  have le:e<s.heap.objs.size:=Heap.lt_size he
  have li:it<s.heap.objs.size:=by obtain⟨o,q,_⟩:=hit;exact Heap.lt_size q
  refine wpAny_pyNext_enum_item he hit p (x:=u) (by simpa using hu) hei fun h1 ho hit1 hT hsz hk=>⟨_,rfl,?_⟩
  refine wpAny_letOwnedTupleGo_enum ho fun h2 he2 hs2=>?_
  have hn:H s.heap.objs.size=none:=I.hok.fresh (Nat.le_refl _)
  have I1:Inv X pins σ (upd H s.heap.objs.size (.tup [.int i,v])) { s with heap:=s.heap.push { cls:=.type "tuple",data:=.seq #[.int i s.toks,u] },toks:=s.toks+1 }:=by
   refine I.laid (fun b o q=>Heap.get?_push_of_some _ q) (Nat.le_refl _) ⟨show 2≤sizeLine by decide,[.int i s.toks,u],.cons ⟨_,rfl⟩ (.cons ru .nil),?_⟩
   exact⟨_,Heap.get?_push_size _ rfl,rfl,_,rfl⟩
  have fp:∀b∈[e,it],ad0 X pins (upd H s.heap.objs.size (.tup [.int i,v])) b:=fun b hb=>by
   refine⟨?_,(hf b hb).2⟩
   have:b≠s.heap.objs.size:=by
    rcases List.mem_cons.mp hb with rfl|hb
    ·exact Nat.ne_of_lt le
    ·have:b=it:=by simpa using hb
     subst this
     exact Nat.ne_of_lt li
   rw[aas this]
   exact(hf b hb).1
  have I2:Inv X pins σ (upd H s.heap.objs.size (.tup [.int i,v])) { s with heap:=h2,toks:=s.toks+1 }:=by
   refine aeV (s:={ s with heap:=s.heap.push { cls:=.type "tuple",data:=.seq #[.int i s.toks,u] },toks:=s.toks+1 }) I1 (fun b o n1 n2 q=>?_) (fp e (by simp)) (fp it (by simp))
   rcases Heap.get?_push_cases q with⟨rfl,rfl⟩|q
   ·exact(hs2.2 _ (Nat.ne_of_gt le)).trans hT
   ·exact(hs2.2 b n1).trans (hk b o n1 n2 q)
  refine⟨.ref s.heap.objs.size,_,I2,rfl,⟨_,v,rfl,hn,rfl,fun ws hw=>?_⟩,⟨⟨u,by simpa using he2⟩,hit1.at fun o q=>(hs2.2 it hei.symm).trans q⟩,fun b hb=>(fp b hb).1⟩
  have:ws=vs:=by
   obtain⟨its2,rv2,p2⟩:=aaO I hw
   obtain⟨o1,e1,_,n1,d1⟩:=p
   obtain⟨o2,e2,_,n2,d2⟩:=p2
   rw[e1]at e2
   cases e2
   rw[d1]at d2
   injection d2 with d3 _
   have:its=its2:=by simpa using congrArg Array.toList d3
   subst this
   exact rv2.inj rv
  rw[this];exact hx
 done:=by
  intro X hP hw hK hc i pins s σ H E I hf ⟨⟨old,he⟩,hit⟩ ⟨vs,hr,hx⟩
  subst hP hw hK
  obtain⟨its,rv,p⟩:=aaO I hr
  have hl:=rv.length
  obtain⟨f0,f1,f2,f3,f4,f5⟩:=hf it (by simp)
  exact wpAny_pyNext_enum_end (I.ok.hd hc) he hit p (by simp;omega) fun h' eb=>⟨rfl,I.turned (t':=s.toks) (fun b o hb q=>eb b o hb q) f0 f1 f3 f4 f5⟩
 self:=fun _ _ _ _ _ ⟨⟨old,he⟩,_⟩ h=>wpAny_pyIter_enum he h
theorem acY:bootBuiltins "enumerate"=some (.type "enumerate"):=by decide +kernel
theorem ajM{es:List Expr}{k:Nat}{p1:Pos}{a:Expr}{ta:TA}{p pos:Pos}(hg:Gl X "enumerate")(hm:X.mg "enumerate"=none)(ha:PA X [a] ta)(hs:starEach [a] X.env=[(false,eval a X.env)]):
  PI X (.Tuple es k p1) (.Call (.Name "enumerate" p) [a] [] pos) (fun σ H R=>ta σ H fun vs H1=>∃b,vs=[.ref b]∧(∃xs,Rd H1 b (.lst xs))∧R (Ite b) H1):=by
 intro pins s σ H R I h
 refine PyProof.Rows.Call_ (ado I hg hm acY (PyProof.Rows.callWith_type1 (thn (ha pos pins s σ H _ I h) fun us s1 ⟨vs,H1,I1,r1,q1⟩=>?_) hs rfl))
 obtain⟨b,e,⟨xs,hr⟩,q⟩:=q1
 subst e
 cases r1 with
 | cons r rr=>
  cases rr
  cases r
  obtain⟨_,its,n,rv,_,e⟩:=Rd.lst I1 hr
  refine call_enumerate_1 e fun h' he hit hsz hk=>wpAny_pyIter_enum he ?_
  have I2:Inv X pins σ H1 { s1 with heap:=h' }:=I1.kept (t':=s1.toks) hk
  refine⟨_,[s1.heap.objs.size+1,s1.heap.objs.size],_,_,H1,rfl,I2,agZ b _ _ (Nat.succ_ne_self _),⟨⟨_,he⟩,hit⟩,fun c hc=>?_,q⟩
  have:s1.heap.objs.size≤c:=by
   rcases List.mem_cons.mp hc with rfl|hc
   ·exact Nat.le_succ _
   ·have:c=s1.heap.objs.size:=by simpa using hc
    exact Nat.le_of_eq this.symm
  exact I1.fpOk this (I1.hok.fresh this)
end
end IP
end
section
namespace IP
open PySem PySem.Spec L2
theorem afb:∀(ts:List T) (n i:Nat),(enT n ts)[i]?=ts[i]?.map fun t=>T.tup [.int ((n+i:Nat):Int),t]
 | [],n,i=>by simp[enT]
 | t::ts,n,0=>by simp[enT]
 | t::ts,n,i+1=>by
  have:=afb ts (n+1) i
  simp only[enT,List.getElem?_cons_succ,this]
  congr 1
  funext u
  have:n+1+i=n+(i+1):=by omega
  rw[this]
theorem adE:∀(ts:List T) (n:Nat),(enT n ts).length=ts.length
 | [],_=>rfl
 | t::ts,n=>by simp[enT,adE ts]
section
variable{G:Gx}{X:Cx}{C:Cf}{w w' w₀:Wo}{H H' H₀:Hp}{σ σ':Fr}{σV σV':St}{pos:Pos}
theorem ahI{js:List Nat}{b':List S}{D:Ends}{a:Addr}{vs:List V}{ts:List T}{s:Sto}(gd:Good G w₀ H₀ w H σ s σV)(SO:abf G w H true (.l a vs) ts)
  (h:aay G X w₀ H₀ w H σ σV (abp (.many js) (fun σ s=>exs C b' σ s) (enT 0 ts) σ s) D):
  ∃W:Nat→Nat→St→Hp→Prop,(∃m,W 0 m σV H)∧∀i m σV H,W i m σV H→
   ((Ite a).stop i H∧D.nx σV H)∨((Ite a).go i H∧∃N:St→Hp→Prop,(∀σ' H',N σ' H'→∃m',m'<m∧W (i+1) m' σ' H')∧∀x H',(Ite a).yld i H x H'→gTg G (.many js) x σV H' fun σ2 H2=>tSs G X C b' { D with nx:=N,ct:=N,bk:=D.nx } σ2 H2):=by
 refine⟨fun i m σV1 H1=>∃w1 σ1 s1,m=ts.length-i∧i≤ts.length∧Good G w₀ H₀ w1 H1 σ1 s1 σV1∧abf G w1 H1 true (.l a vs) ts∧aay G X w₀ H₀ w1 H1 σ1 σV1 (abp (.many js) (fun σ s=>exs C b' σ s) ((enT 0 ts).drop i) σ1 s1) D,
  ⟨ts.length,w,σ,s,rfl,Nat.zero_le _,gd,SO,h⟩,?_⟩
 rintro i m σV1 H1 ⟨w1,σ1,s1,hm,hi,g1,SO1,h1⟩
 by_cases hlt:i<ts.length
 ·refine .inr ?_
  have et:ts[i]?=some ts[i]:=List.getElem?_eq_getElem hlt
  have hl2:i<(enT 0 ts).length:=by rw[adE];exact hlt
  have ed:(enT 0 ts).drop i=T.tup [.int (i:Int),ts[i]]::(enT 0 ts).drop (i+1):=by
   rw[List.drop_eq_getElem_cons hl2]
   congr 1
   have:=afb ts 0 i
   rw[et,List.getElem?_eq_getElem hl2]at this
   simpa using this
  rw[ed]at h1
  obtain⟨σ2,hb,h1⟩:=abR (show aay G X w₀ H₀ w1 H1 σ1 σV1 (onS (aav σ1 (.many js) (T.tup [.int (i:Int),ts[i]])) fun σ'=>(exs C b' σ' s1).bind fun σ2 s2=>abp (.many js) (fun σ s=>exs C b' σ s) ((enT 0 ts).drop (i+1)) σ2 s2) D from h1)
  obtain⟨r1,r2,r3,r4⟩:=id SO1
  obtain⟨v,ev,rv⟩:=r2.get et
  refine⟨⟨vs,v,r1,ev⟩,fun σV3 H3=>∃w3 σ3 s3,Good G w₀ H₀ w3 H3 σ3 s3 σV3∧abf G w3 H3 true (.l a vs) ts∧aay G X w₀ H₀ w3 H3 σ3 σV3 (abp (.many js) (fun σ s=>exs C b' σ s) ((enT 0 ts).drop (i+1)) σ3 s3) D,fun σV3 H3 ⟨w3,σ3,s3,q1,q2,q3⟩=>⟨ts.length-(i+1),by omega,w3,σ3,s3,rfl,hlt,q1,q2,q3⟩,fun x H' hy=>?_⟩
  obtain⟨T₁,v',ex,hn,rfl,hv⟩:=hy
  subst ex
  have:v'=v:=by
   have:=hv vs r1
   rw[ev]at this
   exact(Option.some.inj this).symm
  subst this
  have L1:Le w1 w1 H1 (L2.upd H1 T₁ (.tup [.int i,v'])):=Le.new hn _
  have S1:=g1.sto.new hn (.tup [.int i,v'])
  have g1':=g1.step L1 S1
  have rT:Rep G w1 (L2.upd H1 T₁ (.tup [.int i,v'])) (T.tup [.int (i:Int),ts[i]]) (.ref T₁):=⟨T₁,_,rfl,aaD,⟨_,_,rfl,rfl,_,_,rfl,Rep.mono L1 g1.sto _ _ rv,rfl⟩⟩
  refine⟨w1,s1,_,σ1,σ2,S1,rT,hb,fun us hfr hl=>?_⟩
  have g2:Good G w₀ H₀ w1 (L2.upd H1 T₁ (.tup [.int i,v'])) σ2 s1 (abh σV1 js us):=⟨S1,hfr H₀ σV1 g1'.fr,g1'.ent⟩
  have l2:LeS w1 w1 H1 (L2.upd H1 T₁ (.tup [.int i,v'])) σ1 σ2 σV1 (abh σV1 js us):=(LeS.of L1).trans (LeS.puts (show puts σ1 js [.int (i:Int),ts[i]]=some σ2 from hb) hl)
  obtain⟨SO2,SF2⟩:=abf.monoS (src:=.l a vs) l2 g1.sto g1.fr (g1.fr.notOwnZ (r4 rfl)) SO1
  refine⟨w₀,H₀,w1,σ2,s1,g2,?_⟩
  cases hx:exs C b' σ2 s1 with
  | stuck=>rw[hx]at h1;exact h1
  | ret r s3=>rw[hx]at h1;exact h1
  | retO ts s3=>rw[hx]at h1;exact h1
  | exc d σ3 s3=>rw[hx]at h1;exact fun w3 H3 σV3 pins u sh g3 L3 T=>h1 w3 H3 σV3 pins u sh g3 (l2.trans L3) T
  | next σ3 s3=>
   rw[hx]at h1
   intro w3 H3 σV3 g3 L3
   obtain⟨SO3,SF3⟩:=abf.monoS (src:=.l a vs) L3 g2.sto g2.fr SF2 SO2
   exact⟨w3,σ3,s3,g3,SO3,aay.mono (l2.trans L3) h1⟩
 ·have ei:i=ts.length:=by omega
  subst ei
  have:(enT 0 ts).drop ts.length=[]:=List.drop_of_length_le (Nat.le_of_eq (adE ts 0))
  rw[this]at h1
  obtain⟨r1,r2,r3,r4⟩:=SO1
  exact .inl ⟨⟨vs,r1,by rw[r2.length];exact Nat.le_refl _⟩,h1 w1 H1 σV1 g1 LeS.refl⟩
theorem anP{es:List Expr}{k:Nat}{p p1 p2:Pos}{a:Expr}{a':E}{js:List Nat}{b:List Stmt}{b':List S}(hp:PassesOwn (model X.prog X.w) X.A X.env X.xe)(hc:X.calm=true)(hgl:Gl X "enumerate")(hmg:X.mg "enumerate"=none)(ha:PE X a (tV G X C a'))
  (hst:starEach [a] X.env=[(false,eval a X.env)]) (hg:PG X (.Tuple es k p1) (gTg G (.many js))) (hb:PSs X b (tSs G X C b')) (hs:∀x,foldedSetIterable (.Call (.Name "enumerate" p) [a] [] p2) X.env x=pure x):
  PS X (.For (.Tuple es k p1) (.Call (.Name "enumerate" p) [a] [] p2) b [] pos) (tS G X C (.for_ (.many js) (.enm a') b')):=by
 refine PS.imp (agS hp hc (ajM hgl hmg (aaH ha abx hst) hst) hg hb hs) ?_
 rintro D σV H ⟨w₀,H₀,w,σ,s,gd,h⟩
 have h:aay G X w₀ H₀ w H σ σV (((ev C a' .v σ s).bind fun x s1=>onL x fun ts=>.ok (.val (.lst (enT 0 ts))) s1).st σ fun x s1=>onS x.lst? fun ts=>abp (.many js) (fun σ s=>exs C b' σ s) ts σ s1) D:=h
 refine⟨w₀,H₀,w,σ,s,gd,?_⟩
 cases he:ev C a' .v σ s with
 | stuck=>rw[he]at h;exact h.elim
 | exc c s1=>rw[he]at h;exact fun w1 H1 pins u sh L S T=>h w1 H1 σV pins u sh (gd.step L S) (LeS.of L) T
 | ok x s1=>
  rw[he]at h
  intro w1 H1 v L S R1
  match x,R1,h with
  | .val (.lst ts),⟨a,vs,e,z,r,q⟩,h=>
   subst e
   have h:aay G X w₀ H₀ w H σ σV (abp (.many js) (fun σ s=>exs C b' σ s) (enT 0 ts) σ s1) D:=h
   exact⟨a,rfl,⟨vs,r⟩,ahI (gd.step L S) ⟨r,q,S.zLoc z,fun _=>z⟩ (aay.mono (LeS.of L) h)⟩
  | .val .non,_,h=>exact h.elim
  | .val (.bl _),_,h=>exact h.elim
  | .val (.str _),_,h=>exact h.elim
  | .val (.tup _),_,h=>exact h.elim
  | .val (.int _),_,h=>exact h.elim
  | .val (.loc _),_,h=>exact h.elim
  | .val (.exc _),_,h=>exact h.elim
  | .bor _,_,h=>exact h.elim
end
end IP
end
section
namespace IP
open PySem PySem.Spec L2
section
variable{G:Gx}{X:Cx}{C:Cf}{a b e:Expr}{a' b' e':IP.E}{pos p p2:Pos}
noncomputable def al0(sc names:List (Str×NameKind)):List (Str×NameKind):=names.map fun(n,k)=>if(k==.free&&sc.lookup n==some .cell)then(n,.cell)else(n,k)
noncomputable def aoF(names:List (Str×NameKind))(x:Str):Bool:=names.lookup x==some .local||names.lookup x==some .cell||names.lookup x==some .free
noncomputable def ajw(sc names:List (Str×NameKind))(N N':List Str)(js:List Nat):Bool:=
 names.all (fun x=>x.2 != .cell)&&names.all (fun x=>x.2 != .free||sc.lookup x.1==some .cell||sc.lookup x.1==some .free)&&decide (N'.length=N.length)&&decide N'.Nodup &&
 names.all (fun x=>x.2 != .local||names.lookup x.1==some .local) &&
 (List.range N'.length).all fun i=>js.contains i||match N'[i]? with
  | none=>true
  | some x=>!aoF (al0 sc names) x||(N[i]?==some x&&names.contains (x,NameKind.free)&&((al0 sc names).lookup x==some .cell||(al0 sc names).lookup x==some .free))
theorem amk{scope:Scope}{sc:List (Str×NameKind)}(hsc:X.env.scope.names=sc)(hk:X.env.scope.kind=.function):(relabel scope X.env).names=al0 sc scope.names:=by
 subst hsc
 unfold relabel al0 Env.kindOf
 rw[hk]
 simp
theorem abk{scope:Scope}{sc:List (Str×NameKind)}{N N':List Str}{js:List Nat}(hsc:X.env.scope.names=sc)(hk:X.env.scope.kind=.function)(hN:X.N=N)(hks:scope.kind=.function)(h:ajw sc scope.names N N' js=true):CompN X scope N' js:=by
 unfold ajw at h
 simp only[Bool.and_eq_true,List.all_eq_true,Bool.or_eq_true,bne_iff_ne,ne_eq,beq_iff_eq,decide_eq_true_eq]at h
 obtain⟨⟨⟨⟨⟨h1,h2⟩,h3⟩,h4⟩,h5⟩,h6⟩:=h
 refine⟨hks,h1,fun x hx e=>?_,by rw[hN];exact h3,h4,fun i x hi hj hv=>?_,fun x hx e=>?_⟩
 ·rcases h2 x hx with(q|q)|q
  ·exact absurd e q
  ·exact .inl (by unfold Env.kindOf;rw[hsc];exact q)
  ·exact .inr (by unfold Env.kindOf;rw[hsc];exact q)
 ·have hil:i<N'.length:=(List.getElem?_eq_some_iff.mp hi).1
  have q:=h6 i (List.mem_range.mpr hil)
  rw[hi]at q
  unfold Vis at hv
  rw[amk hsc hk]at hv ⊢
  rcases q with q|q
  ·exact absurd (List.contains_iff_mem.mp q) hj
  ·have hv':aoF (al0 sc scope.names) x=true:=by
    unfold aoF
    rcases hv with z|z|z<;>rw[z]<;>rfl
   simp only[hv',Bool.not_true,Bool.false_eq_true,false_or,Bool.and_eq_true,Bool.or_eq_true,beq_iff_eq]at q
   obtain⟨⟨q1,q2⟩,q3⟩:=q
   exact⟨by rw[hN];exact q1,List.contains_iff_mem.mp q2,q3⟩
 ·rcases h5 x hx with q|q
  ·exact absurd e q
  ·exact q
theorem ajV{f:T→Sto→Res (Option T)}{m:Res R}{r:R}{s1:Sto}(h:(m.bind fun x s1=>onL x fun ts=>(aa6 f ts s1).bind fun q s2=>.ok (.val (.lst q)) s2)=.ok r s1):∃ts,r=.val (.lst ts):=by
 cases m with
 | stuck=>cases h
 | exc c s=>cases h
 | ok x s=>
  replace h:(onL x fun ts=>(aa6 f ts s).bind fun q s2=>.ok (.val (.lst q)) s2)=.ok r s1:=h
  unfold onL at h
  split at h
  ·rename_i ts
   replace h:((aa6 f ts s).bind fun q s2=>.ok (.val (.lst q)) s2)=.ok r s1:=h
   cases hm:aa6 f ts s with
   | stuck=>rw[hm]at h;cases h
   | exc c s=>rw[hm]at h;cases h
   | ok q s2=>rw[hm]at h;cases h;exact⟨q,rfl⟩
  ·cases h
theorem ab1{elt it:IP.E}{g:Tg}{σ:Fr}{s:Sto}{r:R}{s1:Sto}(h:ev C (.comp elt g it) .v σ s=.ok r s1):∃ts,r=.val (.lst ts):=ajV h
theorem amZ{σ:Fr}{s:Sto}{r:R}{s1:Sto}(h:ev C (.rev a') .v σ s=.ok r s1):∃ts,r=.val (.lst ts):=by
 have h:(ev C a' .v σ s).bind (fun x s1=>.of (x.seq.map fun ts=>.val (.lst ts.reverse)) s1)=.ok r s1:=h
 cases hq:ev C a' .v σ s with
 | stuck=>rw[hq]at h;cases h
 | exc c s2=>rw[hq]at h;cases h
 | ok rs s2=>
  rw[hq]at h
  have h:Res.of (rs.seq.map fun ts=>.val (.lst ts.reverse)) s2=.ok r s1:=h
  cases hs:rs.seq with
  | none=>rw[hs]at h;cases h
  | some ts=>rw[hs]at h;cases h;exact⟨_,rfl⟩
theorem wv(i:Nat){x:Str}(hN:X.N[i]?=some x:=by rfl)(hv:Vis X.env.scope x:=by first|exact Or.inl rfl|exact Or.inr (Or.inl rfl)|exact Or.inr (Or.inr rfl))(hd:(x==("__debug__":Str))=false:=by decide)(hcd:(x==("__classdict__":Str))=false:=by decide):PE X (.Name x pos) (tV G X C (.var i)):=anW hN hv hd hcd
theorem wtr{e:Expr}(hE:PE X e (tV G X C e'))(he:∀whole,isTrue e X.env whole=(do let v ←whole;standAt e.pos;holding [v] (truthy v)):=by intro _;rfl)
  (hev:∀σ s,ev C e' .t σ s=(ev C e' .v σ s).bind fun x s=>.of (apM x) s:=by intro _ _;rfl):PT X e (tT G X C e'):=ai6 hE he hev
theorem wcv(hu:X.A.units+9<cLine)(c:Cm)(ha:PE X a (tV G X C a'))(hb:PE X b (tV G X C b'))(hm:behindInMarks (aiO c) b=false:=by rfl):PE X (.Compare a [aiO c] [b] pos) (tV G X C (.cmp c a' b')):=amA hu c ha hb hm
theorem wct(hu:X.A.units+9<cLine)(c:Cm)(ha:PE X a (tV G X C a'))(hb:PE X b (tV G X C b'))(hm:behindInMarks (aiO c) b=false:=by rfl):PT X (.Compare a [aiO c] [b] pos) (tT G X C (.cmp c a' b')):=amG hu c ha hb hm
theorem ajs{op}(h:PE X a (tV G X C a')):PE X (.BoolOp op [a] pos) (tV G X C a'):=alY h
theorem aam(ha:PE X a (tV G X C a'))(hb:PE X b (tV G X C b'))(hs:aeL b:=by intro _ _;rfl):PE X (.Subscript a b pos) (tV G X C (.sub a' b')):=amM ha hb hs
theorem wac{es:List Expr}{es':List IP.E}(ha:PE X a (tV G X C a'))(hr:PA X es (tA G X C es'))(hs:starEach (a::es) X.env=(false,eval a X.env)::starEach es X.env:=by rfl):PA X (a::es) (tA G X C (a'::es')):=akd ha hr hs
theorem wrc{es:List Expr}{es':List IP.E}(ha:PE X a (tV G X C a'))(hr:PA X es (tR G X C es'))(hs:starEach (a::es) X.env=(false,eval a X.env)::starEach es X.env:=by rfl):PA X (a::es) (tR G X C (a'::es')):=akE ha hr hs
theorem acK{es:List Expr}{es':List IP.E}{k:Nat}(h:PA X es (tA G X C es'))(hz:es'.length≤1000:=by decide):PE X (.Tuple es k pos) (tV G X C (.tup es')):=alH h (Nat.le_trans hz (by decide))
theorem aiB{es:List Expr}{es':List IP.E}(h:PA X es (tA G X C es'))(hz:es'.length≤1000:=by decide):PE X (.List es pos) (tV G X C (.lst es')):=alO h (Nat.le_trans hz (by decide))
theorem aih{es:List Expr}{es':List IP.E}(h:PA X es (tA G X C es'))(hz:es'.length≤1000:=by decide):PE X (.List es pos) (tO G X C (.lst es')):=amo h (Nat.le_trans hz (by decide))
theorem acZ(hm:X.mg "len"=none)(ha:PE X a (tV G X C a'))(hg:Gl X "len":=by rfl)(hs:starEach [a] X.env=[(false,eval a X.env)]:=by rfl):PE X (.Call (.Name "len" p) [a] [] pos) (tV G X C (.b1 .len a')):=sB1 aqU hg hm (by rfl) (by decide) (by decide) ha hs fun _ _=>rfl
theorem anT(hm:X.mg "abs"=none)(ha:PE X a (tV G X C a'))(hg:Gl X "abs":=by rfl)(hs:starEach [a] X.env=[(false,eval a X.env)]:=by rfl):PE X (.Call (.Name "abs" p) [a] [] pos) (tV G X C (.b1 .abs a')):=sB1 apT hg hm (by rfl) (by decide) (by decide) ha hs fun _ _=>rfl
theorem apU(hm:X.mg "list"=none)(ha:PE X a (tV G X C a'))(hg:Gl X "list":=by rfl)(hs:starEach [a] X.env=[(false,eval a X.env)]:=by rfl):PE X (.Call (.Name "list" p) [a] [] pos) (tV G X C (.b1 .list a')):=atW amz hg hm (by rfl) (by decide) (by decide) ha hs fun _ _=>rfl
theorem asK(hm:X.mg "min"=none)(ha:PE X a (tV G X C a'))(hg:Gl X "min":=by rfl)(hs:starEach [a] X.env=[(false,eval a X.env)]:=by rfl)(hc:X.calm=true:=by rfl):PE X (.Call (.Name "min" p) [a] [] pos) (tV G X C (.b1 .min a')):=sB1 (aqW hc) hg hm (by rfl) (by decide) (by decide) ha hs fun _ _=>rfl
theorem atf(hm:X.mg "max"=none)(ha:PE X a (tV G X C a'))(hg:Gl X "max":=by rfl)(hs:starEach [a] X.env=[(false,eval a X.env)]:=by rfl)(hc:X.calm=true:=by rfl):PE X (.Call (.Name "max" p) [a] [] pos) (tV G X C (.b1 .max a')):=sB1 (ar6 hc) hg hm (by rfl) (by decide) (by decide) ha hs fun _ _=>rfl
theorem ag9(hm:X.mg "sorted"=none)(ha:PE X a (tV G X C a'))(hg:Gl X "sorted":=by rfl)(hs:starEach [a] X.env=[(false,eval a X.env)]:=by rfl):PE X (.Call (.Name "sorted" p) [a] [] pos) (tV G X C (.b1 .sorted a')):=sB1 aiS hg hm (by rfl) (by decide) (by decide) ha hs fun _ _=>rfl
theorem anK(hm:X.mg "max"=none)(ha:PE X a (tV G X C a'))(hb:PE X b (tV G X C b'))(hg:Gl X "max":=by rfl)(hs:starEach [a,b] X.env=[(false,eval a X.env),(false,eval b X.env)]:=by rfl)(hs2:starEach [b] X.env=[(false,eval b X.env)]:=by rfl)(hc:X.calm=true:=by rfl):PE X (.Call (.Name "max" p) [a,b] [] pos) (tV G X C (.mx2 a' b')):=sB2 (alA hc) hg hm (by rfl) (by decide) (by decide) ha hb hs hs2 fun _ _=>rfl
theorem alK(c:Ty){n:String}{y:Str}{py:Pos}(hm:X.mg "isinstance"=none)(hmy:X.mg y=none)(ha:PE X a (tV G X C a'))(hn:aoz c=some n:=by rfl)(hg:Gl X "isinstance":=by rfl)(hgy:Gl X y:=by rfl)(hv:bootBuiltins y=some (.type n):=by rfl)(hy:y≠"__name__":=by decide)(hdy:(y==("__debug__":Str))=false:=by decide)
  (hs:starEach [a,.Name y py] X.env=[(false,eval a X.env),(false,eval (.Name y py) X.env)]:=by rfl):PE X (.Call (.Name "isinstance" p) [a,.Name y py] [] pos) (tV G X C (.isi a' c)):=amK hn hg hm hgy hmy hv hy hdy ha hs
theorem wpl{tg e:Expr}(hE:PE X e (tV G X C e'))(hev:∀σ s,ev C e' .i σ s=fin .i (ev C e' .v σ s):=by intro _ _;rfl):PI X tg e (tI G X C e' .i false):=aft hE (.inl ⟨rfl,rfl⟩) hev
theorem wpj{tg e:Expr}(hE:PE X e (tV G X C e'))(hev:∀σ s,ev C e' .j σ s=fin .j (ev C e' .v σ s):=by intro _ _;rfl):PI X tg e (tI G X C e' .j true):=aft hE (.inr ⟨rfl,rfl⟩) hev
theorem wr1{tg:Expr}{m:Md}{z:Bool}(hmg:X.mg "range"=none)(ha:PE X a (tV G X C a'))(hm:m=.i∨m=.j:=by first|exact .inl rfl|exact .inr rfl)(hg:Gl X "range":=by rfl)(hs:starEach [a] X.env=[(false,eval a X.env)]:=by rfl):PI X tg (.Call (.Name "range" p) [a] [] pos) (tI G X C (.rng1 a') m z):=akh hm hg hmg ha hs
theorem wr2{tg:Expr}{m:Md}{z:Bool}(hmg:X.mg "range"=none)(ha:PE X a (tV G X C a'))(hb:PE X b (tV G X C b'))(hm:m=.i∨m=.j:=by first|exact .inl rfl|exact .inr rfl)(hg:Gl X "range":=by rfl)(hs:starEach [a,b] X.env=[(false,eval a X.env),(false,eval b X.env)]:=by rfl)(hs2:starEach [b] X.env=[(false,eval b X.env)]:=by rfl):PI X tg (.Call (.Name "range" p) [a,b] [] pos) (tI G X C (.rng2 a' b') m z):=ajJ hm hg hmg ha hb hs hs2
theorem wg1{i:Nat}{x:Str}(hN:X.N.Nodup)(hi:X.N[i]?=some x:=by rfl)(hx:Loc X.env.scope x:=by first|exact Or.inl rfl|exact Or.inr rfl)(hf:X.fn x=true∨X.env.scope.names.lookup x=some .local:=by first|exact Or.inl rfl|exact Or.inr rfl):PG X (.Name x pos) (gTg G (.one i)):=ami hN hi hx hf
theorem wgc{i:Nat}{js:List Nat}{x:Str}{es:List Expr}(hN:X.N.Nodup)(h2:PGs X es (adC js))(hi:X.N[i]?=some x:=by rfl)(hx:Loc X.env.scope x:=by first|exact Or.inl rfl|exact Or.inr rfl)(hf:X.fn x=true∨X.env.scope.names.lookup x=some .local:=by first|exact Or.inl rfl|exact Or.inr rfl):PGs X (.Name x pos::es) (adC (i::js)):=ajK hN hi hx hf h2
theorem wgm{js:List Nat}{es:List Expr}{k:Nat}(h:PGs X es (adC js))(hc:X.calm=true:=by rfl)(hn:(assignEach es X.env).length=js.length:=by rfl)(hst:(assignEach es X.env).findIdx? (·.1)=none:=by rfl):PG X (.Tuple es k pos) (gTg G (.many js)):=agF hc h hn hst
variable{i:Nat}{x:Str}{pos':Pos}
theorem aa4(hN:X.N.Nodup)(he:PE X e (tV G X C e'))(hi:X.N[i]?=some x:=by rfl)(hx:Loc X.env.scope x:=by first|exact Or.inl rfl|exact Or.inr rfl)(hs:swapsWith e (some (.Name x pos')) pos.line X.env=pure false:=by rfl)(hf:X.fn x=true∨X.env.scope.names.lookup x=some .local:=by exact Or.inl rfl):PS X (.Assign [.Name x pos'] e pos) (tS G X C (.asg i e')):=amp hN hi hx he hs hf
theorem qmk(hN:X.N.Nodup)(he:PE X e (tO G X C e'))(hi:X.N[i]?=some x:=by rfl)(hx:Loc X.env.scope x:=by first|exact Or.inl rfl|exact Or.inr rfl)(hs:swapsWith e (some (.Name x pos')) pos.line X.env=pure false:=by rfl)(hf:X.fn x=true∨X.env.scope.names.lookup x=some .local:=by exact Or.inl rfl):PS X (.Assign [.Name x pos'] e pos) (tS G X C (.mk i e')):=aoO hN hi hx he hs hf
theorem aly{p1 cpos:Pos}(he:PE X e (tV G X C e'))(hN:X.N[i]?=some x:=by rfl)(hv:Vis X.env.scope x:=by first|exact Or.inl rfl|exact Or.inr (Or.inl rfl))(hd:(x==("__debug__":Str))=false:=by decide)(hcd:(x==("__classdict__":Str))=false:=by decide)(hst:starEach [e] X.env=[(false,eval e X.env)]:=by rfl)
  (hline:(p2.endLine==cpos.line)=true:=by rfl) (hbase:attributeBase (.Name x p1) "append" X.env (eval (.Name x p1) X.env)=eval (.Name x p1) X.env:=by rfl)
  (hfew:((backTo cpos (starEach [e] X.env)).all (fun x=>!x.1)&&(backToKw cpos (keywordEach [] X.env)).all (fun x=>x.1.isSome)&&decide ([e].length+([]:List Keyword).length+(if([]:List Keyword).isEmpty then 0 else 1)<30))=true:=by rfl)
  (hs:swapsWith (.Call (.Attribute (.Name x p1) "append" p2) [e] [] cpos) none pos.line X.env=pure false:=by rfl):
  PS X (.Expr (.Call (.Attribute (.Name x p1) "append" p2) [e] [] cpos) pos) (tS G X C (.app i e')):=alW hN hv hd hcd he hst hline hbase hfew hs
theorem avu{j:Expr}{j':IP.E}{p1:Pos}(hj:PE X j (tV G X C j'))(he:PE X e (tV G X C e'))(hN:X.N[i]?=some x:=by rfl)(hv:Vis X.env.scope x:=by first|exact Or.inl rfl|exact Or.inr (Or.inl rfl))(hd:(x==("__debug__":Str))=false:=by decide)(hcd:(x==("__classdict__":Str))=false:=by decide)
  (hs:swapsWithSole [.Subscript (.Name x p1) j p2] e pos.line X.env=pure false:=by rfl) (hw:swappedStores [.Subscript (.Name x p1) j p2] e X.env=pure none:=by rfl) (h1:(assignEach [.Subscript (.Name x p1) j p2] X.env).map (·.2)=[assign (.Subscript (.Name x p1) j p2) X.env]:=by rfl)
  (ha:∀v,assign (.Subscript (.Name x p1) j p2) X.env v=(do
   let ov ←holding [v] (eval (.Name x p1) X.env)
   let iv ←holding [v,ov] (eval j X.env)
   standAt p2
   holding [v,ov,iv] (setItem ov iv v)
   release [v,ov,iv] []):=by intro _;rfl):
  PS X (.Assign [.Subscript (.Name x p1) j p2] e pos) (tS G X C (.put i j' e')):=anA hN hv hd hcd he hj hs hw h1 ha
end
section
variable{G:Gx}{X:Cx}{fs:List Fn}{sub:Nat→Nat→Bool}{k fi:Nat}{fa:Addr}{fd:FuncData}{ps:List Str}{e₀:Expr}{es:List Expr}{es':List IP.E}{x:Str}{p pos:Pos}
end
end IP
end
section
namespace IP
open PySem PySem.Spec L2
noncomputable def nth{α:Type}:List α→α→Nat→α
 | [],z,_=>z
 | a::_,_,0=>a
 | _::r,z,n+1=>nth r z n
theorem ano{G:Gx}{P:Program}{w:World}{K:PySem.W.Frag}{mg:Str→Option Value}{base:Heap}{k:Nat}{f:Addr}{fd:FuncData}{ps:List Str}{sp:Sp}(F:FnOk P w K mg base (CXE G P w base) k f fd ps sp):FnOk P w K mg base CX0 k f fd ps (fun vs H Q _=>sp vs H Q fun _ _ _=>False):=by
 refine⟨fun vs H Q E h=>F.len vs H Q _ h,fun A outer s H args us vs Q E hr e0 hb hv h=>codeAny_mono (F.run A outer s H args us vs Q (fun _ _ _=>False) hr e0 hb hv h) fun r s' q=>?_⟩
 cases r with
 | ok fl=>
  cases fl with
  | ret u=>exact q
  | next=>exact q
  | brk=>exact q
  | cont=>exact q
 | error e=>
  obtain⟨a,cls,t,H',h,B,_,_,_,_,_,_,_,_,z⟩:=q
  exact z
section
variable{G:Gx}{X:Cx}{fs:List Fn}{sub:Nat→Nat→Bool}{k fi:Nat}{fa:Addr}{fd:FuncData}{ps:List Str}{a b e j o e₀:Expr}{es:List Expr}{a' b' e' j':IP.E}{es':List IP.E}{x m y n:Str}{p p1 p2 pos pos' apos cpos:Pos}{ds:List Value}{dvs:List V}{dts:List T}{c f i:Nat}
theorem aau(F:FnOk X.prog X.w X.K X.mg X.base (CXE G X.prog X.w X.base) (2*k) fa fd ps (spG G (cfX fs sub k).cf (cfX fs sub k).fr fi))(hr:Room (2*k+1) X.A)(hm:X.mg x=some (.ref fa))(hk:PySem.W.keepIn X.K (.ref fa)=true)(hb:adD X.K fd ps ds)(hd:aa7 dvs ds)(hdt:dts.mapM ajZ=some dvs)(ha:PA X (e₀::es) (tR G X (cfX fs sub k) es'))
  (hf:agr fs fi=false:=by rfl) (hg:Gl X x:=by rfl) (hdb:(x==("__debug__":Str))=false:=by decide) (he:starEach (e₀::es) X.env=(false,eval e₀ X.env)::starEach es X.env:=by rfl) (hpl:(backTo pos (starEach es X.env)).any (·.1)=false:=by rfl):
  PE X (.Call (.Name x p) (e₀::es) [] pos) (tV G X (cfX fs sub k) (.call fi es' dts)):=ai9 hf F (hr.mono (Nat.le_succ _)) hg hm hk hb hd hdt ha hdb he hpl
theorem alC(F:FnOk X.prog X.w X.K X.mg X.base (CXE G X.prog X.w X.base) (2*k) fa fd ps (spG G (cfX fs sub k).cf (cfX fs sub k).fr fi))(hr:Room (2*k+1) X.A)(hm:X.mg x=some (.ref fa))(hk:PySem.W.keepIn X.K (.ref fa)=true)(hb:adD X.K fd ps ds)(hd:aa7 dvs ds)(hdt:dts.mapM ajZ=some dvs)(ha:PA X (e₀::es) (tR G X (cfX fs sub k) es'))
  (hf:agr fs fi=true:=by rfl) (hg:Gl X x:=by rfl) (hdb:(x==("__debug__":Str))=false:=by decide) (he:starEach (e₀::es) X.env=(false,eval e₀ X.env)::starEach es X.env:=by rfl) (hpl:(backTo pos (starEach es X.env)).any (·.1)=false:=by rfl):
  PE X (.Call (.Name x p) (e₀::es) [] pos) (tO G X (cfX fs sub k) (.call fi es' dts)):=aiH hf F (hr.mono (Nat.le_succ _)) hg hm hk hb hd hdt ha hdb he hpl
end
section
variable{G:Gx}{X:Cx}{C:Cf}{a b e j o e₀:Expr}{es:List Expr}{a' b' e' j':IP.E}{es':List IP.E}{x m y n:Str}{p p1 p2 pos pos' apos cpos np mp yp hpos:Pos}{c f i:Nat}
theorem asJ{k:Nat}(hkit:∀d,ExcK X.K (G.cA d))(hone:∀d,PySem.W.kitOne X.K (.ref (G.cA d)) (.ref (G.cA k))=some (C.sub d k))(hm:X.mg "isinstance"=none)(hmy:X.mg y=some (.ref (G.cA k)))(ha:PE X a (tV G X C a'))(hg:Gl X "isinstance":=by rfl)(hgy:Gl X y:=by rfl)(hdy:(y==("__debug__":Str))=false:=by decide)
  (hs:starEach [a,.Name y yp] X.env=[(false,eval a X.env),(false,eval (.Name y yp) X.env)]:=by rfl):PE X (.Call (.Name "isinstance" p) [a,.Name y yp] [] pos) (tV G X C (.isi a' (.cls k))):=amD hkit hone hg hm hgy hmy hdy ha hs
theorem anh{ms:Str}{jj:Nat}(hm:X.mg x=some (.ref (G.cA c)))(hq:PySem.W.excIn X.K (G.cA c) [.type "ValueError",.type "Exception",.type "BaseException",.type "object"] "ValueError.__new__"=true)(hc:X.calm=true:=by rfl)(hg:Gl X x:=by rfl)(hdb:(x==("__debug__":Str))=false:=by decide)
  (he:starEach [.Constant (.str ms) jj mp] X.env=[(false,eval (.Constant (.str ms) jj mp) X.env)]:=by rfl):PS X (.Raise (some (.Call (.Name x np) [.Constant (.str ms) jj mp] [] cpos)) none pos) (tS G X C (.raise c)):=aiq hc hg hm hq PySem.F.excBase_ValueError hdb he
theorem aqY{body suite:List Stmt}{b' h':List S}{b₀:Stmt}(hN:X.N.Nodup)(hm:X.mg y=some (.ref (G.cA c)))(hmt:∀d,PySem.W.exmOne X.K (.ref (G.cA d)) (.ref (G.cA c))=some (C.sub d c))
  (hbody:∀(E:Value→Shared→Prop) (pn:List (Addr×Obj)),PassesOwn (model X.prog X.w) X.A X.env E→PSs (afJ X E pn) body (tSs G (afJ X E pn) C b')) (hsuite:∀e,PSs (hnd X e) (b₀::suite) (tSs G (hnd X e) C h'))
  (hst:X.stack=X.env::X.outer∧X.env.frame=some X.env.locals:=by exact⟨rfl,rfl⟩) (hex:X.ex=[]:=by rfl) (hi:X.N[i]?=some n:=by rfl) (hl:X.env.scope.names.lookup n=some .local:=by rfl) (hg:Gl X y:=by rfl) (hdb:(y==("__debug__":Str))=false:=by decide):
  PS X (.Try body [.ExceptHandler (some (.Name y yp)) (some n) (b₀::suite) hpos] [] [] pos) (tS G X C (.try_ b' c (some i) h')):=akA hst hex hN hi hl hg hm hdb hmt hbody hsuite
theorem aij{js:List Nat}{kk:Nat}(he:PE X e (tV G X C e'))(h:PGs X es (adC js))(hc:X.calm=true:=by rfl)(hn:(assignEach es X.env).length=js.length:=by rfl)(hst:(assignEach es X.env).findIdx? (·.1)=none:=by rfl)
  (hs:swapsWithSole [.Tuple es kk p] e pos.line X.env=pure false:=by rfl) (hw:swappedStores [.Tuple es kk p] e X.env=pure none:=by rfl) (h1:(assignEach [.Tuple es kk p] X.env).map (·.2)=[assign (.Tuple es kk p) X.env]:=by rfl):PS X (.Assign [.Tuple es kk p] e pos) (tS G X C (.asgT js e')):=akJ hc he h hn hst hs hw h1
theorem alF{cc:Expr}{c':IP.E}{bb:List Stmt}{b':List S}(hp:PassesOwn (model X.prog X.w) X.A X.env X.xe)(hc:PT X cc (tT G X C c'))(hb:PSs X bb (tSs G X C b'))(hwl:C.wl=aai:=by rfl):PS X (.While cc bb [] pos) (tS G X C (.whl c' b')):=am0 hwl hp hc hb
theorem agY{tg iter:Expr}{it':IP.E}{g:Tg}{bb:List Stmt}{b':List S}(hp:PassesOwn (model X.prog X.w) X.A X.env X.xe)(hI:PI X tg iter (tI G X C it' .j true))(hg:PG X tg (gTg G g))(hb:PSs X bb (tSs G X C b'))(hc:X.calm=true:=by rfl)
  (hs:∀x,foldedSetIterable iter X.env x=pure x:=by intro _;rfl) (hit:∀i,it'≠.var i:=by intro _ h;cases h):PS X (.For tg iter bb [] pos) (tS G X C (.for_ g it' b')):=anZ hp hc hI hg hb hs hit
theorem aqF{tg:Expr}{xp:Pos}{g:Tg}{bb:List Stmt}{b':List S}(hp:PassesOwn (model X.prog X.w) X.A X.env X.xe)(hg:PG X tg (gTg G g))(hb:PSs X bb (tSs G X C b'))(hc:X.calm=true:=by rfl)(hN:X.N[i]?=some x:=by rfl)(hv:Vis X.env.scope x:=by first|exact Or.inl rfl|exact Or.inr (Or.inl rfl))(hd:(x==("__debug__":Str))=false:=by decide)(hcd:(x==("__classdict__":Str))=false:=by decide)
  (hs:∀y,foldedSetIterable (.Name x xp) X.env y=pure y:=by intro _;rfl):PS X (.For tg (.Name x xp) bb [] pos) (tS G X C (.for_ g (.var i) b')):=ajE hp hc hN hv hd hcd hg hb hs
theorem au2{es:List Expr}{kk:Nat}{p1:Pos}{js:List Nat}{bb:List Stmt}{b':List S}(hp:PassesOwn (model X.prog X.w) X.A X.env X.xe)(hmg:X.mg "enumerate"=none)(ha:PE X a (tV G X C a'))(hg:PG X (.Tuple es kk p1) (gTg G (.many js)))(hb:PSs X bb (tSs G X C b'))(hc:X.calm=true:=by rfl)(hgl:Gl X "enumerate":=by rfl)
  (hst:starEach [a] X.env=[(false,eval a X.env)]:=by rfl) (hs:∀x,foldedSetIterable (.Call (.Name "enumerate" p) [a] [] p2) X.env x=pure x:=by intro _;rfl):PS X (.For (.Tuple es kk p1) (.Call (.Name "enumerate" p) [a] [] p2) bb [] pos) (tS G X C (.for_ (.many js) (.enm a') b')):=anP hp hc hgl hmg ha hst hg hb hs
end
section
variable{G:Gx}{X:Cx}{C:Cf}
@[irreducible] def HE (X:Cx) (e:Expr) (t:TE):Prop:=PE X e t
theorem ag6{a:Expr}{a':IP.E}(ha:HE X a (tO G X C a')):HE X a (tV G X C (.cell a')):=by
 unfold HE at *
 exact ajH ha
end
end IP
end
section
namespace IP
open PySem PySem.Spec L2
theorem aaw{G:Gx}{P:Program}{w:World}{K:PySem.W.Frag}{mg:Str→Option Value}{base:Heap}{fs:List Fn}{sub:Nat→Nat→Bool}{k fi:Nat}{x qual:Str}{st:Stmt}{f:Addr}{fd:FuncData}{N ps:List Str}{F:Fn}(Fu:FunD K x qual st f fd)(S:FnScope N ps (aaf st))(hF:fs[fi]?=some F)(hp:F.pars=ps.length)(hs:F.size=N.length)
  (hbody:∀(cdv:Value) (A:Around) (outer:List Env) (s:Shared) (H:Hp) (E:XK),Room (2*k+1) (A.deeper (PyProof.Rows.envOfC qual (aaf st) s.heap.objs.size f cdv))→(A.deeper (PyProof.Rows.envOfC qual (aaf st) s.heap.objs.size f cdv)).units+9<cLine→
   PassesOwn (model P w) (A.deeper (PyProof.Rows.envOfC qual (aaf st) s.heap.objs.size f cdv)) (PyProof.Rows.envOfC qual (aaf st) s.heap.objs.size f cdv) (adP (CXE G P w base) P w K mg base N qual (aaf st) f cdv A outer s H E).xe→
   PSs (adP (CXE G P w base) P w K mg base N qual (aaf st) f cdv A outer s H E) (aaP st) (tSs G (adP (CXE G P w base) P w K mg base N qual (aaf st) f cdv A outer s H E) (cfX fs sub k) F.body)):
  FnOk P w K mg base (CXE G P w base) (2*(k+1)) f fd ps (spG G (run true fs sub aai (k+1)) (agr fs) fi):=
 alP Fu S hF hp hs fun cdv A outer s H E hr=>hbody cdv A outer s H E hr (Nat.lt_of_le_of_lt (Nat.add_le_add_left (by decide:9≤64) _) hr.units) (acy (X:=adP (CXE G P w base) P w K mg base N qual (aaf st) f cdv A outer s H E) rfl)
noncomputable def ata:Nat→(List Value→Prop)→Prop
 | 0,p=>p []
 | n+1,p=>∀a,ata n fun us=>p (a::us)
theorem abo:∀(n:Nat) {p:List Value→Prop},ata n p→∀us,us.length=n→p us
 | 0,p,h,us,hl=>by rw[List.length_eq_zero_iff.mp hl];exact h
 | n+1,p,h,us,hl=>by
  cases us with
  | nil=>cases hl
  | cons a us=>exact abo n (h a) us (Nat.succ.inj hl)
structure PV where
 (oc:Value) (od:Option Addr) (kV dc pm:Value) (an:Option Addr) (cd ct:Value) (sl:Array (Option Value))
structure FH(K:PySem.W.Frag)(x q:Str)(st:Stmt)(dv:Value)(f:Addr)(v:PV):Prop where
 a:PySem.W.nsIn K mainGlobals x=some (some (.ref f))
 l:K.lookup f=some ⟨v.oc,v.od,.func (PySem.W.fnOf x q (abn st) (aaP st) (aaf st) dv v.kV v.dc v.pm v.an v.cd v.ct),v.sl⟩
 c:PySem.W.codeIn K v.cd q=true
 k:PySem.W.keepIn K (.ref f)=true
structure FM(K:PySem.W.Frag)(C:Addr)(x q:Str)(st:Stmt)(dv:Value)(f:Addr)(v:PV):Prop where
 a:PySem.W.findIn K (.ref C) x=some (some (.ref f))
 i:PySem.W.isFn K (.ref f)=true
 l:K.lookup f=some ⟨v.oc,v.od,.func (PySem.W.fnOf x q (abn st) (aaP st) (aaf st) dv v.kV v.dc v.pm v.an v.cd v.ct),v.sl⟩
 c:PySem.W.codeIn K v.cd q=true
 k:PySem.W.keepIn K (.ref f)=true
theorem FH.of{K:PySem.W.Frag}{x q:Str}{st:Stmt}{dv:Value}{f:Addr}{oc:Value}{od:Option Addr}{kV dc pm:Value}{an:Option Addr}{cd ct:Value}{sl:Array (Option Value)}(a:PySem.W.nsIn K mainGlobals x=some (some (.ref f)))
  (l:K.lookup f=some ⟨oc,od,.func (PySem.W.fnOf x q (abn st) (aaP st) (aaf st) dv kV dc pm an cd ct),sl⟩) (c:PySem.W.codeIn K cd q=true) (k:PySem.W.keepIn K (.ref f)=true):FH K x q st dv f ⟨oc,od,kV,dc,pm,an,cd,ct,sl⟩:=⟨a,l,c,k⟩
theorem FM.of{K:PySem.W.Frag}{C:Addr}{x q:Str}{st:Stmt}{dv:Value}{f:Addr}{oc:Value}{od:Option Addr}{kV dc pm:Value}{an:Option Addr}{cd ct:Value}{sl:Array (Option Value)}(a:PySem.W.findIn K (.ref C) x=some (some (.ref f)))(i:PySem.W.isFn K (.ref f)=true)
  (l:K.lookup f=some ⟨oc,od,.func (PySem.W.fnOf x q (abn st) (aaP st) (aaf st) dv kV dc pm an cd ct),sl⟩) (c:PySem.W.codeIn K cd q=true) (k:PySem.W.keepIn K (.ref f)=true):FM K C x q st dv f ⟨oc,od,kV,dc,pm,an,cd,ct,sl⟩:=⟨a,i,l,c,k⟩
structure FD(K:PySem.W.Frag)(x q:Str)(st:Stmt)(ps:List Str)(E:Addr→Prop)where
 f:Addr
 d:FuncData
 t:FunD K x q st f d
 b:adD K d ps []
 e:E f
noncomputable abbrev FT(K:PySem.W.Frag)(mg:Str→Option Value)(x q:Str)(st:Stmt)(ps:List Str):=FD K x q st ps fun f=>mg x=some (.ref f)∧PySem.W.keepIn K (.ref f)=true
end IP
end
section
namespace IP
open PySem PySem.Spec L2
namespace Pg
noncomputable def top(i:Nat):Stmt:=PySem.Challenge.pw_gradecut_k12_no_hem_where_crossed.main.body.getD i (.Pass ⟨0,0,0,0⟩)
noncomputable abbrev aqG:Stmt:=top 1
noncomputable abbrev au1:Nat:=0
noncomputable def anY:List Str:=["corners","i","j"]
theorem akt:(anY).Nodup:=by decide +kernel
noncomputable abbrev akP:List S:=[(.ifs (.call 1 [(.var 0),(.var 1),(.var 2)] []) [(.ret (.tup [(.var 1),(.var 2)]))] [])]
noncomputable abbrev aku:List S:=[(.for_ (.one 2) (.rng2 (.var 1) (.b1 .len (.var 0))) akP)]
noncomputable def atD:List S:=[(.for_ (.one 1) (.rng1 (.b1 .len (.var 0))) aku),
 (.ret (.cst .non))]
theorem aoZ:FnScope anY ["corners"] (aaf aqG):=⟨rfl,rfl,rfl,akt,rfl,by decide +kernel,by decide +kernel⟩
noncomputable abbrev as3:Stmt:=top 2
noncomputable abbrev atF:Nat:=1
noncomputable def alU:List Str:=["corners","i","j","one","two"]
theorem ajX:(alU).Nodup:=by decide +kernel
noncomputable def ap8:List S:=[(.asg 3 (.call 2 [(.var 0),(.var 1)] [])),
 (.asg 4 (.call 2 [(.var 0),(.var 2)] [])),
 (.ifs (.cmp .eq (.var 1) (.var 2)) [(.ret (.cmp .eq (.sub (.var 3) (.cst (.int 0))) (.sub (.var 3) (.cst (.int 1)))))] []),
 (.ifs (.cmp .eq (.var 2) (.bin .add (.var 1) (.cst (.int 1)))) [(.ret (.call 3 [(.sub (.var 3) (.cst (.int 1))),(.sub (.var 3) (.cst (.int 0))),(.sub (.var 4) (.cst (.int 1)))] []))] []),
 (.ifs (.and (.cmp .eq (.bin .add (.var 2) (.cst (.int 1))) (.b1 .len (.var 0))) (.cmp .eq (.var 1) (.cst (.int 0)))) [(.ret (.call 3 [(.sub (.var 3) (.cst (.int 0))),(.sub (.var 3) (.cst (.int 1))),(.sub (.var 4) (.cst (.int 0)))] []))] []),
 (.ret (.call 4 [(.var 3),(.var 4)] []))]
theorem apu:FnScope alU ["corners","i","j"] (aaf as3):=⟨rfl,rfl,rfl,ajX,rfl,by decide +kernel,by decide +kernel⟩
noncomputable abbrev apg:Stmt:=top 3
noncomputable abbrev auS:Nat:=2
noncomputable def am6:List Str:=["corners","k"]
theorem apZ:(am6).Nodup:=by decide +kernel
noncomputable def apY:List S:=[(.ret (.tup [(.sub (.var 0) (.var 1)),(.sub (.var 0) (.bin .mod (.bin .add (.var 1) (.cst (.int 1))) (.b1 .len (.var 0))))]))]
theorem apk:FnScope am6 ["corners","k"] (aaf apg):=⟨rfl,rfl,rfl,apZ,rfl,by decide +kernel,by decide +kernel⟩
noncomputable abbrev arj:Stmt:=top 4
noncomputable abbrev avv:Nat:=3
noncomputable def anX:List Str:=["corner","one","two"]
theorem apK:(anX).Nodup:=by decide +kernel
noncomputable def aoN:List S:=[(.ret (.and (.cmp .eq (.call 7 [(.var 0),(.var 1),(.var 2)] []) (.cst (.int 0))) (.cmp .gt (.call 8 [(.var 0),(.var 1),(.var 2)] []) (.cst (.int 0)))))]
theorem asv:FnScope anX ["corner","one","two"] (aaf arj):=⟨rfl,rfl,rfl,apK,rfl,by decide +kernel,by decide +kernel⟩
noncomputable abbrev apl:Stmt:=top 5
noncomputable abbrev aut:Nat:=4
noncomputable def amx:List Str:=["one","two"]
theorem aqb:(amx).Nodup:=by decide +kernel
noncomputable def arA:List S:=[(.ifs (.or (.not (.call 5 [(.var 0),(.var 1),(.cst (.int 0))] [])) (.not (.call 5 [(.var 0),(.var 1),(.cst (.int 1))] []))) [(.ret (.cst (.bl false)))] []),
 (.ret (.and (.call 6 [(.var 0),(.var 1)] []) (.call 6 [(.var 1),(.var 0)] [])))]
theorem ara:FnScope amx ["one","two"] (aaf apl):=⟨rfl,rfl,rfl,aqb,rfl,by decide +kernel,by decide +kernel⟩
noncomputable abbrev apd:Stmt:=top 6
noncomputable abbrev atJ:Nat:=5
noncomputable def anC:List Str:=["one","two","axis","one_span","two_span"]
theorem ak2:(anC).Nodup:=by decide +kernel
noncomputable def anQ:List S:=[(.asg 3 (.b1 .sorted (.lst [(.sub (.sub (.var 0) (.cst (.int 0))) (.var 2)),(.sub (.sub (.var 0) (.cst (.int 1))) (.var 2))]))),
 (.asg 4 (.b1 .sorted (.lst [(.sub (.sub (.var 1) (.cst (.int 0))) (.var 2)),(.sub (.sub (.var 1) (.cst (.int 1))) (.var 2))]))),
 (.ret (.and (.cmp .le (.sub (.var 3) (.cst (.int 0))) (.sub (.var 4) (.cst (.int 1)))) (.cmp .le (.sub (.var 4) (.cst (.int 0))) (.sub (.var 3) (.cst (.int 1))))))]
theorem ar2:FnScope anC ["one","two","axis"] (aaf apd):=⟨rfl,rfl,rfl,ak2,rfl,by decide +kernel,by decide +kernel⟩
noncomputable abbrev arr:Stmt:=top 7
noncomputable abbrev aud:Nat:=6
noncomputable def aob:List Str:=["side","line"]
theorem ao5:(aob).Nodup:=by decide +kernel
noncomputable def arW:List S:=[(.ret (.cmp .le (.bin .mul (.call 7 [(.sub (.var 1) (.cst (.int 0))),(.sub (.var 1) (.cst (.int 1))),(.sub (.var 0) (.cst (.int 0)))] []) (.call 7 [(.sub (.var 1) (.cst (.int 0))),(.sub (.var 1) (.cst (.int 1))),(.sub (.var 0) (.cst (.int 1)))] [])) (.cst (.int 0))))]
theorem asc:FnScope aob ["side","line"] (aaf arr):=⟨rfl,rfl,rfl,ao5,rfl,by decide +kernel,by decide +kernel⟩
noncomputable abbrev ao3:Stmt:=top 8
noncomputable abbrev avz:Nat:=7
noncomputable def an5:List Str:=["start","one","two"]
theorem apA:(an5).Nodup:=by decide +kernel
noncomputable def ap4:List S:=[(.ret (.bin .sub (.bin .mul (.bin .sub (.sub (.var 1) (.cst (.int 0))) (.sub (.var 0) (.cst (.int 0)))) (.bin .sub (.sub (.var 2) (.cst (.int 1))) (.sub (.var 0) (.cst (.int 1))))) (.bin .mul (.bin .sub (.sub (.var 1) (.cst (.int 1))) (.sub (.var 0) (.cst (.int 1)))) (.bin .sub (.sub (.var 2) (.cst (.int 0))) (.sub (.var 0) (.cst (.int 0)))))))]
theorem ar4:FnScope an5 ["start","one","two"] (aaf ao3):=⟨rfl,rfl,rfl,apA,rfl,by decide +kernel,by decide +kernel⟩
noncomputable abbrev apj:Stmt:=top 9
noncomputable abbrev atZ:Nat:=8
noncomputable def anl:List Str:=["start","one","two"]
theorem aqk:(anl).Nodup:=by decide +kernel
noncomputable def aqi:List S:=[(.ret (.bin .add (.bin .mul (.bin .sub (.sub (.var 1) (.cst (.int 0))) (.sub (.var 0) (.cst (.int 0)))) (.bin .sub (.sub (.var 2) (.cst (.int 0))) (.sub (.var 0) (.cst (.int 0))))) (.bin .mul (.bin .sub (.sub (.var 1) (.cst (.int 1))) (.sub (.var 0) (.cst (.int 1)))) (.bin .sub (.sub (.var 2) (.cst (.int 1))) (.sub (.var 0) (.cst (.int 1)))))))]
theorem as2:FnScope anl ["start","one","two"] (aaf apj):=⟨rfl,rfl,rfl,aqk,rfl,by decide +kernel,by decide +kernel⟩
noncomputable abbrev arQ:Stmt:=top 15
noncomputable def amQ:List Str:=["one","two"]
theorem aqx:(amQ).Nodup:=by decide +kernel
noncomputable def arn:List S:=[(.ret (.bin .add (.bin .pow (.bin .sub (.sub (.var 1) (.cst (.int 0))) (.sub (.var 0) (.cst (.int 0)))) (.cst (.int 2))) (.bin .pow (.bin .sub (.sub (.var 1) (.cst (.int 1))) (.sub (.var 0) (.cst (.int 1)))) (.cst (.int 2)))))]
noncomputable abbrev avf:Fn:=⟨2,2,false,arn⟩
theorem aoC:FnScope amQ ["one","two"] (aaf arQ):=⟨rfl,rfl,rfl,aqx,rfl,by decide +kernel,by decide +kernel⟩
noncomputable abbrev arI:Stmt:=top 16
noncomputable abbrev ave:Nat:=10
noncomputable def amd:List Str:=["number","root","nearer"]
theorem ag5:(amd).Nodup:=by decide +kernel
noncomputable abbrev ag3:List S:=[(.asg 1 (.var 2)),
 (.asg 2 (.bin .fdiv (.bin .add (.var 1) (.bin .fdiv (.var 0) (.var 1))) (.cst (.int 2))))]
noncomputable def ao7:List S:=[(.asg 1 (.var 0)),
 (.asg 2 (.bin .fdiv (.bin .add (.var 0) (.cst (.int 1))) (.cst (.int 2)))),
 (.whl (.cmp .lt (.var 2) (.var 1)) ag3),
 (.ret (.var 1))]
noncomputable abbrev atq:Fn:=⟨1,3,false,ao7⟩
theorem apX:FnScope amd ["number"] (aaf arI):=⟨rfl,rfl,rfl,ag5,rfl,by decide +kernel,by decide +kernel⟩
noncomputable abbrev aqO:Stmt:=top 18
noncomputable abbrev auZ:Nat:=11
noncomputable def anc:List Str:=["part","whole","divisor"]
theorem an8:(anc).Nodup:=by decide +kernel
noncomputable def aq1:List S:=[(.asg 2 (.call 12 [(.b1 .abs (.var 0)),(.var 1)] [])),
 (.ret (.tup [(.bin .fdiv (.var 0) (.var 2)),(.bin .fdiv (.var 1) (.var 2))]))]
noncomputable abbrev av2:Fn:=⟨2,3,false,aq1⟩
theorem apn:FnScope anc ["part","whole"] (aaf aqO):=⟨rfl,rfl,rfl,an8,rfl,by decide +kernel,by decide +kernel⟩
noncomputable abbrev aqJ:Stmt:=top 19
noncomputable abbrev aph:Nat:=12
noncomputable def ank:List Str:=["one","two","rest"]
theorem aiP:(ank).Nodup:=by decide +kernel
noncomputable abbrev adO:List S:=[(.asg 2 (.bin .mod (.var 0) (.var 1))),
 (.asg 0 (.var 1)),
 (.asg 1 (.var 2))]
noncomputable def apr:List S:=[(.whl (.cmp .ne (.var 1) (.cst (.int 0))) adO),
 (.ret (.var 0))]
noncomputable abbrev aty:Fn:=⟨2,3,false,apr⟩
theorem ark:FnScope ank ["one","two"] (aaf aqJ):=⟨rfl,rfl,rfl,aiP,rfl,by decide +kernel,by decide +kernel⟩
noncomputable abbrev alk:Stmt:=top 21
noncomputable def agL:List Str:=["corners","breadth","leftward","outward","?4","?5"]
theorem aim:(agL).Nodup:=by decide +kernel
noncomputable def adA:List Str:=["corners","breadth","leftward","outward","k","!5"]
theorem aff:(adA).Nodup:=by decide +kernel
noncomputable def afx:List Str:=["corners","breadth","leftward","outward","!4","k"]
theorem aiT:(afx).Nodup:=by decide +kernel
noncomputable abbrev adN:E:=(.call 15 [(.var 0),(.var 4),(.var 2)] [])
noncomputable abbrev aeA:E:=(.call 16 [(.sub (.var 0) (.var 5)),(.sub (.var 3) (.bin .sub (.var 5) (.cst (.int 1)))),(.sub (.var 3) (.var 5)),(.var 1)] [])
noncomputable def anD:List S:=[(.ifs (.cmp .notN (.call 0 [(.var 0)] []) (.cst .non)) [(.raise 2)] []),
 (.asg 2 (.call 14 [(.var 0)] [])),
 (.asg 3 (.comp adN (.one 4) (.rng1 (.b1 .len (.var 0))))),
 (.ret (.comp aeA (.one 5) (.rng1 (.b1 .len (.var 0)))))]
noncomputable abbrev aqM:Fn:=⟨2,6,false,anD⟩
theorem aoV:FnScope agL ["corners","breadth"] (aaf alk):=⟨rfl,rfl,rfl,aim,rfl,by decide +kernel,by decide +kernel⟩
noncomputable abbrev ar0:Stmt:=top 22
noncomputable def an4:List Str:=["corners","doubled","k","corner","before"]
theorem afI:(an4).Nodup:=by decide +kernel
noncomputable abbrev ag8:List S:=[(.asg 4 (.sub (.var 0) (.bin .sub (.var 2) (.cst (.int 1))))),
 (.asg 1 (.bin .sub (.bin .add (.var 1) (.bin .mul (.sub (.var 4) (.cst (.int 0))) (.sub (.var 3) (.cst (.int 1))))) (.bin .mul (.sub (.var 4) (.cst (.int 1))) (.sub (.var 3) (.cst (.int 0))))))]
noncomputable def apy:List S:=[(.asg 1 (.cst (.int 0))),
 (.for_ (.many [2,3]) (.enm (.var 0)) ag8),
 (.ret (.cmp .gt (.var 1) (.cst (.int 0))))]
noncomputable abbrev atl:Fn:=⟨1,5,false,apy⟩
theorem asj:FnScope an4 ["corners"] (aaf ar0):=⟨rfl,rfl,rfl,afI,rfl,by decide +kernel,by decide +kernel⟩
noncomputable abbrev aqT:Stmt:=top 23
noncomputable def anb:List Str:=["corners","k","leftward","ends","across","up","divisor","p","q"]
theorem afd:(anb).Nodup:=by decide +kernel
noncomputable def ao2:List S:=[(.asg 3 (.call 2 [(.var 0),(.var 1)] [])),
 (.asg 4 (.bin .sub (.sub (.sub (.var 3) (.cst (.int 1))) (.cst (.int 0))) (.sub (.sub (.var 3) (.cst (.int 0))) (.cst (.int 0))))),
 (.asg 5 (.bin .sub (.sub (.sub (.var 3) (.cst (.int 1))) (.cst (.int 1))) (.sub (.sub (.var 3) (.cst (.int 0))) (.cst (.int 1))))),
 (.asg 6 (.call 12 [(.b1 .abs (.var 4)),(.b1 .abs (.var 5))] [])),
 (.asg 7 (.bin .fdiv (.var 4) (.var 6))),
 (.asg 8 (.bin .fdiv (.var 5) (.var 6))),
 (.ret (.ife (.var 2) (.tup [(.var 8),(.neg (.var 7))]) (.tup [(.neg (.var 8)),(.var 7)])))]
noncomputable abbrev auB:Fn:=⟨3,9,false,ao2⟩
theorem ar8:FnScope anb ["corners","k","leftward"] (aaf aqT):=⟨rfl,rfl,rfl,afd,rfl,by decide +kernel,by decide +kernel⟩
noncomputable abbrev as1:Stmt:=top 24
noncomputable def amN:List Str:=["corner","before","after","breadth","cut"]
theorem amb:(amN).Nodup:=by decide +kernel
noncomputable def aos:List S:=[(.asg 4 (.bin .sub (.bin .mul (.sub (.var 1) (.cst (.int 0))) (.sub (.var 2) (.cst (.int 1)))) (.bin .mul (.sub (.var 1) (.cst (.int 1))) (.sub (.var 2) (.cst (.int 0)))))),
 (.ifs (.cmp .eq (.var 4) (.cst (.int 0))) [(.ret (.call 17 [(.var 0),(.var 2),(.var 3)] []))] []),
 (.ret (.call 18 [(.var 0),(.var 1),(.var 2),(.var 4),(.var 3)] []))]
noncomputable abbrev avr:Fn:=⟨4,5,false,aos⟩
theorem as5:FnScope amN ["corner","before","after","breadth"] (aaf as1):=⟨rfl,rfl,rfl,amb,rfl,by decide +kernel,by decide +kernel⟩
noncomputable abbrev apO:Stmt:=top 25
noncomputable def amJ:List Str:=["corner","vector","breadth","root","across","up"]
theorem aiX:(amJ).Nodup:=by decide +kernel
noncomputable def arC:List S:=[(.asg 3 (.call 20 [(.var 1)] [])),
 (.asg 4 (.bin .mul (.bin .mul (.cst (.int 1000)) (.var 2)) (.sub (.var 1) (.cst (.int 0))))),
 (.asg 5 (.bin .mul (.bin .mul (.cst (.int 1000)) (.var 2)) (.sub (.var 1) (.cst (.int 1))))),
 (.ret (.tup [(.call 21 [(.sub (.var 0) (.cst (.int 0))),(.var 4),(.var 3)] []),(.call 21 [(.sub (.var 0) (.cst (.int 1))),(.var 5),(.var 3)] [])]))]
noncomputable abbrev avg:Fn:=⟨3,6,false,arC⟩
theorem aoD:FnScope amJ ["corner","vector","breadth"] (aaf apO):=⟨rfl,rfl,rfl,aiX,rfl,by decide +kernel,by decide +kernel⟩
noncomputable abbrev aqq:Stmt:=top 26
noncomputable def alI:List Str:=["corner","before","after","cut","breadth","before_root","after_root","before_product","after_product","across","up","whole"]
theorem adT:(alI).Nodup:=by decide +kernel
noncomputable def aor:List S:=[(.asg 5 (.call 20 [(.var 1)] [])),
 (.asg 6 (.call 20 [(.var 2)] [])),
 (.asg 7 (.bin .mul (.bin .mul (.bin .mul (.cst (.int 1000)) (.var 4)) (.call 19 [(.var 1)] [])) (.var 6))),
 (.asg 8 (.bin .mul (.bin .mul (.bin .mul (.cst (.int 1000)) (.var 4)) (.call 19 [(.var 2)] [])) (.var 5))),
 (.asg 9 (.bin .sub (.bin .mul (.var 7) (.sub (.var 2) (.cst (.int 1)))) (.bin .mul (.var 8) (.sub (.var 1) (.cst (.int 1)))))),
 (.asg 10 (.bin .sub (.bin .mul (.var 8) (.sub (.var 1) (.cst (.int 0)))) (.bin .mul (.var 7) (.sub (.var 2) (.cst (.int 0)))))),
 (.asg 11 (.bin .mul (.bin .mul (.var 3) (.var 5)) (.var 6))),
 (.ret (.tup [(.call 21 [(.sub (.var 0) (.cst (.int 0))),(.var 9),(.var 11)] []),(.call 21 [(.sub (.var 0) (.cst (.int 1))),(.var 10),(.var 11)] [])]))]
noncomputable abbrev asD:Fn:=⟨5,12,false,aor⟩
theorem arG:FnScope alI ["corner","before","after","cut","breadth"] (aaf aqq):=⟨rfl,rfl,rfl,adT,rfl,by decide +kernel,by decide +kernel⟩
noncomputable abbrev apq:Stmt:=top 27
noncomputable def anJ:List Str:=["vector"]
theorem apt:(anJ).Nodup:=by decide +kernel
noncomputable def arc:List S:=[(.ret (.call 9 [(.tup [(.cst (.int 0)),(.cst (.int 0))]),(.var 0)] []))]
noncomputable abbrev aui:Fn:=⟨1,1,false,arc⟩
theorem aqQ:FnScope anJ ["vector"] (aaf apq):=⟨rfl,rfl,rfl,apt,rfl,by decide +kernel,by decide +kernel⟩
noncomputable abbrev apH:Stmt:=top 28
noncomputable def an0:List Str:=["vector"]
theorem aqg:(an0).Nodup:=by decide +kernel
noncomputable def aqP:List S:=[(.ret (.call 10 [(.bin .mul (.cst (.int 1000000)) (.call 19 [(.var 0)] []))] []))]
noncomputable abbrev auu:Fn:=⟨1,1,false,aqP⟩
theorem arh:FnScope an0 ["vector"] (aaf apH):=⟨rfl,rfl,rfl,aqg,rfl,by decide +kernel,by decide +kernel⟩
noncomputable abbrev asx:Stmt:=top 29
noncomputable def anM:List Str:=["number","part","whole"]
theorem aqz:(anM).Nodup:=by decide +kernel
noncomputable def ao1:List S:=[(.ifs (.cmp .lt (.var 2) (.cst (.int 0))) [(.ret (.call 21 [(.var 0),(.neg (.var 1)),(.neg (.var 2))] []))] []),
 (.ret (.call 11 [(.bin .add (.bin .mul (.var 0) (.var 2)) (.var 1)),(.var 2)] []))]
noncomputable abbrev atK:Fn:=⟨3,3,false,ao1⟩
theorem aq9:FnScope anM ["number","part","whole"] (aaf asx):=⟨rfl,rfl,rfl,aqz,rfl,by decide +kernel,by decide +kernel⟩
noncomputable abbrev aqA:Stmt:=top 31
noncomputable abbrev auI:Nat:=22
noncomputable def amH:List Str:=["_law_found"]
theorem aq4:(amH).Nodup:=by decide +kernel
noncomputable def arZ:List S:=[(.ret (.and (.isi (.var 0) .int) (.not (.isi (.var 0) .bool))))]
noncomputable abbrev aub:Fn:=⟨1,1,false,arZ⟩
theorem apw:FnScope amH ["_law_found"] (aaf aqA):=⟨rfl,rfl,rfl,aq4,rfl,by decide +kernel,by decide +kernel⟩
noncomputable abbrev sz3:Stmt:=top 32
noncomputable abbrev iz3:Nat:=23
noncomputable def at5:List Str:=["_law_script","_law_k"]
theorem auF:(at5).Nodup:=by decide +kernel
noncomputable def bz3:List S:=[(.ifs (.cmp .lt (.var 1) (.b1 .len (.var 0))) [(.ret (.sub (.var 0) (.var 1)))] []),
 (.ret (.cst (.int 0)))]
noncomputable abbrev Fz3:Fn:=⟨2,2,false,bz3⟩
theorem au6:FnScope at5 ["_law_script","_law_k"] (aaf sz3):=⟨rfl,rfl,rfl,auF,rfl,by decide +kernel,by decide +kernel⟩
noncomputable abbrev ap6:Stmt:=top 33
noncomputable abbrev av0:Nat:=24
noncomputable def amg:List Str:=["_law_script","_law_many","_law_state","_law_row","_law_k"]
theorem agx:(amg).Nodup:=by decide +kernel
noncomputable abbrev aha:List S:=[(.asg 2 (.bin .mod (.bin .add (.bin .add (.bin .mul (.var 2) (.cst (.int 48271))) (.call 23 [(.var 0),(.var 4)] [])) (.cst (.int 11))) (.cst (.int 2147483647)))),
 (.app 3 (.var 2))]
noncomputable def aqV:List S:=[(.asg 2 (.cst (.int 7))),
 (.mk 3 (.lst [])),
 (.for_ (.one 4) (.rng1 (.var 1)) aha),
 (.frz 3),
 (.ret (.var 3))]
noncomputable abbrev atQ:Fn:=⟨2,5,false,aqV⟩
theorem aqr:FnScope amg ["_law_script","_law_many"] (aaf ap6):=⟨rfl,rfl,rfl,agx,rfl,by decide +kernel,by decide +kernel⟩
noncomputable abbrev sz7:Stmt:=top 34
noncomputable abbrev iz7:Nat:=25
noncomputable def atb:List Str:=["_law_one","_law_two","_law_big","_law_less","_law_rest"]
theorem al6:(atb).Nodup:=by decide +kernel
noncomputable abbrev afr:List S:=[(.asg 4 (.bin .mod (.var 2) (.var 3))),
 (.asg 2 (.var 3)),
 (.asg 3 (.var 4))]
noncomputable def bz7:List S:=[(.asg 2 (.b1 .abs (.var 0))),
 (.asg 3 (.b1 .abs (.var 1))),
 (.whl (.cmp .gt (.var 3) (.cst (.int 0))) afr),
 (.ret (.var 2))]
noncomputable abbrev Fz7:Fn:=⟨2,5,false,bz7⟩
theorem aun:FnScope atb ["_law_one","_law_two"] (aaf sz7):=⟨rfl,rfl,rfl,al6,rfl,by decide +kernel,by decide +kernel⟩
noncomputable abbrev aq6:Stmt:=top 35
noncomputable abbrev atG:Nat:=26
noncomputable def ame:List Str:=["_law_row","_law_at_here","_law_many","_law_far","_law_k"]
theorem ajP:(ame).Nodup:=by decide +kernel
noncomputable abbrev alg:List S:=[(.app 3 (.bin .add (.bin .add (.sub (.var 3) (.neg (.cst (.int 1)))) (.cst (.int 1))) (.bin .mod (.sub (.var 0) (.bin .add (.var 1) (.var 4))) (.cst (.int 4)))))]
noncomputable def aoi:List S:=[(.mk 3 (.lst [(.cst (.int 0))])),
 (.for_ (.one 4) (.rng1 (.bin .sub (.var 2) (.cst (.int 1)))) alg),
 (.frz 3),
 (.ret (.var 3))]
theorem aqD:FnScope ame ["_law_row","_law_at_here","_law_many"] (aaf aq6):=⟨rfl,rfl,rfl,ajP,rfl,by decide +kernel,by decide +kernel⟩
noncomputable abbrev as8:Stmt:=top 36
noncomputable abbrev avt:Nat:=27
noncomputable def amR:List Str:=["_law_row","_law_many","_law_low","_law_high","_law_tall","_law_bottom","_law_top","_law_line_here","_law_k"]
theorem ada:(amR).Nodup:=by decide +kernel
noncomputable abbrev ak6:List S:=[(.app 7 (.tup [(.bin .mul (.sub (.var 5) (.var 8)) (.mx2 (.cst (.int 1)) (.sub (.var 6) (.neg (.cst (.int 1)))))),(.bin .sub (.neg (.cst (.int 1))) (.bin .mod (.sub (.var 0) (.bin .add (.cst (.int 26)) (.var 8))) (.var 4)))]))]
noncomputable abbrev aky:List S:=[(.app 7 (.tup [(.bin .mul (.sub (.var 6) (.bin .sub (.bin .sub (.var 3) (.cst (.int 1))) (.var 8))) (.sub (.var 5) (.neg (.cst (.int 1))))),(.bin .add (.cst (.int 1)) (.bin .mod (.sub (.var 0) (.bin .add (.bin .add (.cst (.int 26)) (.var 2)) (.var 8))) (.var 4)))]))]
noncomputable def aot:List S:=[(.asg 2 (.cst (.int 2))),
 (.ifs (.cmp .gt (.var 1) (.cst (.int 3))) [(.asg 2 (.bin .add (.cst (.int 2)) (.bin .mod (.sub (.var 0) (.cst (.int 0))) (.bin .sub (.var 1) (.cst (.int 3))))))] []),
 (.asg 3 (.bin .sub (.var 1) (.var 2))),
 (.asg 4 (.sub (.lst [(.cst (.int 1)),(.cst (.int 3)),(.cst (.int 50)),(.cst (.int 900))]) (.bin .mod (.sub (.var 0) (.cst (.int 1))) (.cst (.int 4))))),
 (.asg 5 (.call 26 [(.var 0),(.cst (.int 2)),(.var 2)] [])),
 (.asg 6 (.call 26 [(.var 0),(.bin .add (.cst (.int 2)) (.var 2)),(.var 3)] [])),
 (.mk 7 (.lst [])),
 (.for_ (.one 8) (.rng1 (.var 2)) ak6),
 (.for_ (.one 8) (.rng1 (.var 3)) aky),
 (.frz 7),
 (.ret (.var 7))]
theorem aqj:FnScope amR ["_law_row","_law_many"] (aaf as8):=⟨rfl,rfl,rfl,ada,rfl,by decide +kernel,by decide +kernel⟩
noncomputable abbrev akZ:Stmt:=top 37
noncomputable abbrev au0:Nat:=28
noncomputable def afQ:List Str:=["_law_line_here","_law_cell","_law_lean","_law_told","_law_by","?5","?6","?7","?8"]
theorem aet:(afQ).Nodup:=by decide +kernel
noncomputable def ad6:List Str:=["_law_line_here","_law_cell","_law_lean","_law_told","_law_by","_law_x","_law_y","!7","!8"]
theorem acE:(ad6).Nodup:=by decide +kernel
noncomputable def adH:List Str:=["_law_line_here","_law_cell","_law_lean","_law_told","_law_by","!5","!6","_law_x","_law_y"]
theorem acD:(adH).Nodup:=by decide +kernel
noncomputable abbrev aeH:E:=(.tup [(.bin .add (.var 5) (.bin .mul (.var 2) (.var 6))),(.var 6)])
noncomputable abbrev aeY:E:=(.tup [(.bin .sub (.cst (.int 0)) (.var 8)),(.var 7)])
noncomputable def aol:List S:=[(.asg 2 (.bin .sub (.bin .mod (.var 1) (.cst (.int 5))) (.cst (.int 2)))),
 (.asg 3 (.comp aeH (.many [5,6]) (.var 0))),
 (.ifs (.cmp .eq (.bin .mod (.bin .fdiv (.var 1) (.cst (.int 5))) (.cst (.int 2))) (.cst (.int 1))) [(.asg 3 (.comp aeY (.many [7,8]) (.var 3)))] []),
 (.ifs (.cmp .eq (.bin .mod (.bin .fdiv (.var 1) (.cst (.int 10))) (.cst (.int 2))) (.cst (.int 1))) [(.asg 3 (.rev (.var 3)))] []),
 (.asg 4 (.bin .mod (.bin .fdiv (.var 1) (.cst (.int 20))) (.b1 .len (.var 3)))),
 (.retO (.bin .add (.cutL (.var 3) (.var 4)) (.cutU (.var 3) (.var 4))))]
theorem as6:FnScope afQ ["_law_line_here","_law_cell"] (aaf akZ):=⟨rfl,rfl,rfl,aet,rfl,by decide +kernel,by decide +kernel⟩
noncomputable abbrev apz:Stmt:=top 38
noncomputable abbrev avy:Nat:=29
noncomputable def amV:List Str:=["_law_a","_law_b","_law_c","_law_d","_law_ways","_law_one","_law_two","_law_x","_law_y","_law_near","_law_far"]
theorem ae1:(amV).Nodup:=by decide +kernel
noncomputable abbrev ajN:List S:=[(.app 4 (.tup [(.bin .sub (.sub (.var 6) (.cst (.int 0))) (.sub (.var 5) (.cst (.int 0)))),(.bin .sub (.sub (.var 6) (.cst (.int 1))) (.sub (.var 5) (.cst (.int 1))))])),
 (.app 4 (.tup [(.bin .sub (.sub (.var 5) (.cst (.int 1))) (.sub (.var 6) (.cst (.int 1)))),(.bin .sub (.sub (.var 6) (.cst (.int 0))) (.sub (.var 5) (.cst (.int 0))))]))]
noncomputable abbrev abw:List S:=[(.asg 9 (.lst [(.bin .add (.bin .mul (.sub (.var 0) (.cst (.int 0))) (.var 7)) (.bin .mul (.sub (.var 0) (.cst (.int 1))) (.var 8))),(.bin .add (.bin .mul (.sub (.var 1) (.cst (.int 0))) (.var 7)) (.bin .mul (.sub (.var 1) (.cst (.int 1))) (.var 8)))])),
 (.asg 10 (.lst [(.bin .add (.bin .mul (.sub (.var 2) (.cst (.int 0))) (.var 7)) (.bin .mul (.sub (.var 2) (.cst (.int 1))) (.var 8))),(.bin .add (.bin .mul (.sub (.var 3) (.cst (.int 0))) (.var 7)) (.bin .mul (.sub (.var 3) (.cst (.int 1))) (.var 8)))])),
 (.ifs (.or (.cmp .lt (.b1 .max (.var 9)) (.b1 .min (.var 10))) (.cmp .lt (.b1 .max (.var 10)) (.b1 .min (.var 9)))) [(.ret (.cst (.bl true)))] [])]
noncomputable def aox:List S:=[(.mk 4 (.lst [(.tup [(.cst (.int 1)),(.cst (.int 0))]),(.tup [(.cst (.int 0)),(.cst (.int 1))])])),
 (.for_ (.many [5,6]) (.lst [(.tup [(.var 0),(.var 1)]),(.tup [(.var 2),(.var 3)])]) ajN),
 (.for_ (.many [7,8]) (.var 4) abw),
 (.ret (.cst (.bl false)))]
theorem aqR:FnScope amV ["_law_a","_law_b","_law_c","_law_d"] (aaf apz):=⟨rfl,rfl,rfl,ae1,rfl,by decide +kernel,by decide +kernel⟩
noncomputable abbrev apL:Stmt:=top 39
noncomputable abbrev auC:Nat:=30
noncomputable def alV:List Str:=["_law_one","_law_two","_law_x","_law_y","_law_by"]
theorem aic:(alV).Nodup:=by decide +kernel
noncomputable def aqu:List S:=[(.asg 2 (.bin .sub (.sub (.var 1) (.cst (.int 0))) (.sub (.var 0) (.cst (.int 0))))),
 (.asg 3 (.bin .sub (.sub (.var 1) (.cst (.int 1))) (.sub (.var 0) (.cst (.int 1))))),
 (.asg 4 (.mx2 (.cst (.int 1)) (.call 25 [(.var 2),(.var 3)] []))),
 (.ret (.tup [(.bin .fdiv (.var 2) (.var 4)),(.bin .fdiv (.var 3) (.var 4))]))]
theorem apB:FnScope alV ["_law_one","_law_two"] (aaf apL):=⟨rfl,rfl,rfl,aic,rfl,by decide +kernel,by decide +kernel⟩
noncomputable abbrev sz4:Stmt:=top 40
noncomputable abbrev iz4:Nat:=31
noncomputable def asX:List Str:=["_law_line_here","_law_i","_law_j","_law_many","_law_a","_law_b","_law_c","_law_d"]
theorem alv:(asX).Nodup:=by decide +kernel
noncomputable def bz4:List S:=[(.asg 3 (.b1 .len (.var 0))),
 (.asg 4 (.sub (.var 0) (.var 1))),
 (.asg 5 (.sub (.var 0) (.bin .mod (.bin .add (.var 1) (.cst (.int 1))) (.var 3)))),
 (.asg 6 (.sub (.var 0) (.var 2))),
 (.asg 7 (.sub (.var 0) (.bin .mod (.bin .add (.var 2) (.cst (.int 1))) (.var 3)))),
 (.ifs (.cmp .eq (.var 1) (.var 2)) [(.ret (.cmp .eq (.var 4) (.var 5)))] []),
 (.ifs (.cmp .eq (.var 2) (.bin .add (.var 1) (.cst (.int 1)))) [(.ret (.and (.cmp .ne (.var 4) (.var 5)) (.cmp .eq (.call 30 [(.var 5),(.var 4)] []) (.call 30 [(.var 5),(.var 7)] []))))] []),
 (.ifs (.and (.cmp .eq (.var 1) (.cst (.int 0))) (.cmp .eq (.var 2) (.bin .sub (.var 3) (.cst (.int 1))))) [(.ret (.and (.cmp .ne (.var 4) (.var 5)) (.cmp .eq (.call 30 [(.var 4),(.var 5)] []) (.call 30 [(.var 4),(.var 6)] []))))] []),
 (.ret (.not (.call 29 [(.var 4),(.var 5),(.var 6),(.var 7)] [])))]
theorem avb:FnScope asX ["_law_line_here","_law_i","_law_j"] (aaf sz4):=⟨rfl,rfl,rfl,alv,rfl,by decide +kernel,by decide +kernel⟩
noncomputable abbrev sz5:Stmt:=top 41
noncomputable abbrev iz5:Nat:=32
noncomputable def at3:List Str:=["_law_line_here","_law_i","_law_j"]
theorem ap9:(at3).Nodup:=by decide +kernel
noncomputable abbrev anL:List S:=[(.ifs (.call 31 [(.var 0),(.var 1),(.var 2)] []) [(.ret (.tup [(.var 1),(.var 2)]))] [])]
noncomputable abbrev amf:List S:=[(.for_ (.one 2) (.rng2 (.var 1) (.b1 .len (.var 0))) anL)]
noncomputable def bz5:List S:=[(.for_ (.one 1) (.rng1 (.b1 .len (.var 0))) amf),
 (.ret (.cst .non))]
theorem auN:FnScope at3 ["_law_line_here"] (aaf sz5):=⟨rfl,rfl,rfl,ap9,rfl,by decide +kernel,by decide +kernel⟩
noncomputable abbrev arm:Stmt:=top 42
noncomputable def anu:List Str:=["_law_number","_law_told","_law_bit"]
theorem agd:(anu).Nodup:=by decide +kernel
noncomputable abbrev ahd:List S:=[(.asg 2 (.bin .mul (.var 2) (.cst (.int 2))))]
noncomputable abbrev ahp:List S:=[(.ifs (.cmp .le (.bin .mul (.bin .add (.var 1) (.var 2)) (.bin .add (.var 1) (.var 2))) (.var 0)) [(.asg 1 (.bin .add (.var 1) (.var 2)))] []),
 (.asg 2 (.bin .fdiv (.var 2) (.cst (.int 2))))]
noncomputable def asa:List S:=[(.asg 1 (.cst (.int 0))),
 (.asg 2 (.cst (.int 1))),
 (.whl (.cmp .le (.bin .mul (.var 2) (.var 2)) (.var 0)) ahd),
 (.whl (.cmp .gt (.var 2) (.cst (.int 0))) ahp),
 (.ret (.var 1))]
noncomputable abbrev avh:Fn:=⟨1,3,false,asa⟩
theorem aqa:FnScope anu ["_law_number"] (aaf arm):=⟨rfl,rfl,rfl,agd,rfl,by decide +kernel,by decide +kernel⟩
noncomputable abbrev ap3:Stmt:=top 43
noncomputable def amI:List Str:=["_law_line_here","_law_twice_here","_law_k","_law_one","_law_two"]
theorem afR:(amI).Nodup:=by decide +kernel
noncomputable abbrev agQ:List S:=[(.asg 3 (.sub (.var 0) (.bin .sub (.var 2) (.cst (.int 1))))),
 (.asg 4 (.sub (.var 0) (.var 2))),
 (.asg 1 (.bin .sub (.bin .add (.var 1) (.bin .mul (.sub (.var 3) (.cst (.int 0))) (.sub (.var 4) (.cst (.int 1))))) (.bin .mul (.sub (.var 3) (.cst (.int 1))) (.sub (.var 4) (.cst (.int 0))))))]
noncomputable def apo:List S:=[(.asg 1 (.cst (.int 0))),
 (.for_ (.one 2) (.rng1 (.b1 .len (.var 0))) agQ),
 (.ret (.var 1))]
noncomputable abbrev asC:Fn:=⟨1,5,false,apo⟩
theorem asb:FnScope amI ["_law_line_here"] (aaf ap3):=⟨rfl,rfl,rfl,afR,rfl,by decide +kernel,by decide +kernel⟩
noncomputable abbrev sz6:Stmt:=top 44
noncomputable def ate:List Str:=["_law_found"]
theorem auW:(ate).Nodup:=by decide +kernel
noncomputable def bz6:List S:=[(.ifs (.or (.not (.isi (.var 0) .tuple)) (.cmp .ne (.b1 .len (.var 0)) (.cst (.int 2)))) [(.ret (.cst (.bl false)))] []),
 (.ifs (.or (.not (.call 22 [(.sub (.var 0) (.cst (.int 0)))] [])) (.or (.not (.call 22 [(.sub (.var 0) (.cst (.int 1)))] [])) (.cmp .lt (.sub (.var 0) (.cst (.int 1))) (.cst (.int 1))))) [(.ret (.cst (.bl false)))] []),
 (.ret (.cmp .eq (.call 25 [(.sub (.var 0) (.cst (.int 0))),(.sub (.var 0) (.cst (.int 1)))] []) (.cst (.int 1))))]
noncomputable abbrev Fz6:Fn:=⟨1,1,false,bz6⟩
theorem avd:FnScope ate ["_law_found"] (aaf sz6):=⟨rfl,rfl,rfl,auW,rfl,by decide +kernel,by decide +kernel⟩
noncomputable abbrev arJ:Stmt:=top 45
noncomputable def anR:List Str:=["_law_line_here","_law_k","_law_side","_law_point","_law_breadth","_law_one","_law_two","_law_by","_law_p","_law_q","_law_n","_law_a","_law_b","_law_c","_law_d","_law_across","_law_up","_law_out"]
theorem abN:(anR).Nodup:=by decide +kernel
noncomputable def aqw:List S:=[(.asg 5 (.sub (.var 0) (.var 2))),
 (.asg 6 (.sub (.var 0) (.bin .mod (.bin .add (.var 2) (.cst (.int 1))) (.b1 .len (.var 0))))),
 (.asg 7 (.call 25 [(.bin .sub (.sub (.var 6) (.cst (.int 0))) (.sub (.var 5) (.cst (.int 0)))),(.bin .sub (.sub (.var 6) (.cst (.int 1))) (.sub (.var 5) (.cst (.int 1))))] [])),
 (.asg 8 (.bin .fdiv (.bin .sub (.sub (.var 6) (.cst (.int 0))) (.sub (.var 5) (.cst (.int 0)))) (.var 7))),
 (.asg 9 (.bin .fdiv (.bin .sub (.sub (.var 6) (.cst (.int 1))) (.sub (.var 5) (.cst (.int 1)))) (.var 7))),
 (.asg 10 (.bin .add (.bin .mul (.var 8) (.var 8)) (.bin .mul (.var 9) (.var 9)))),
 (.asgT [11,12] (.sub (.var 3) (.cst (.int 0)))),
 (.asgT [13,14] (.sub (.var 3) (.cst (.int 1)))),
 (.asg 15 (.bin .mul (.bin .sub (.var 11) (.bin .mul (.sub (.sub (.var 0) (.var 1)) (.cst (.int 0))) (.var 12))) (.var 14))),
 (.asg 16 (.bin .mul (.bin .sub (.var 13) (.bin .mul (.sub (.sub (.var 0) (.var 1)) (.cst (.int 1))) (.var 14))) (.var 12))),
 (.asg 17 (.bin .sub (.bin .mul (.var 9) (.var 15)) (.bin .mul (.var 8) (.var 16)))),
 (.ifs (.cmp .lt (.call 34 [(.var 0)] []) (.cst (.int 0))) [(.asg 17 (.bin .sub (.cst (.int 0)) (.var 17)))] []),
 (.ret (.cmp .eq (.bin .mul (.var 17) (.call 33 [(.bin .mul (.cst (.int 1000000)) (.var 10))] [])) (.bin .mul (.bin .mul (.bin .mul (.bin .mul (.cst (.int 1000)) (.var 4)) (.var 10)) (.var 12)) (.var 14))))]
noncomputable abbrev auD:Fn:=⟨5,18,false,aqw⟩
theorem ap5:FnScope anR ["_law_line_here","_law_k","_law_side","_law_point","_law_breadth"] (aaf arJ):=⟨rfl,rfl,rfl,abN,rfl,by decide +kernel,by decide +kernel⟩
noncomputable abbrev asf:Stmt:=top 46
noncomputable def alZ:List Str:=["_law_line_here","_law_k","_law_point","_law_one","_law_at_here","_law_two","_law_bent","_law_a","_law_b","_law_c","_law_d","_law_across","_law_up"]
theorem ac2:(alZ).Nodup:=by decide +kernel
noncomputable def arU:List S:=[(.asg 3 (.sub (.var 0) (.bin .sub (.var 1) (.cst (.int 1))))),
 (.asg 4 (.sub (.var 0) (.var 1))),
 (.asg 5 (.sub (.var 0) (.bin .mod (.bin .add (.var 1) (.cst (.int 1))) (.b1 .len (.var 0))))),
 (.asg 6 (.bin .mul (.bin .sub (.sub (.var 4) (.cst (.int 0))) (.sub (.var 3) (.cst (.int 0)))) (.bin .sub (.sub (.var 5) (.cst (.int 1))) (.sub (.var 4) (.cst (.int 1)))))),
 (.asg 6 (.bin .sub (.var 6) (.bin .mul (.bin .sub (.sub (.var 4) (.cst (.int 1))) (.sub (.var 3) (.cst (.int 1)))) (.bin .sub (.sub (.var 5) (.cst (.int 0))) (.sub (.var 4) (.cst (.int 0))))))),
 (.ifs (.cmp .ne (.var 6) (.cst (.int 0))) [(.ret (.cst (.bl true)))] []),
 (.asgT [7,8] (.sub (.var 2) (.cst (.int 0)))),
 (.asgT [9,10] (.sub (.var 2) (.cst (.int 1)))),
 (.asg 11 (.bin .mul (.bin .mul (.bin .sub (.var 7) (.bin .mul (.sub (.var 4) (.cst (.int 0))) (.var 8))) (.var 10)) (.bin .sub (.sub (.var 5) (.cst (.int 0))) (.sub (.var 4) (.cst (.int 0)))))),
 (.asg 12 (.bin .mul (.bin .mul (.bin .sub (.var 9) (.bin .mul (.sub (.var 4) (.cst (.int 1))) (.var 10))) (.var 8)) (.bin .sub (.sub (.var 5) (.cst (.int 1))) (.sub (.var 4) (.cst (.int 1)))))),
 (.ret (.cmp .eq (.bin .add (.var 11) (.var 12)) (.cst (.int 0))))]
noncomputable abbrev auL:Fn:=⟨3,13,false,arU⟩
theorem as7:FnScope alZ ["_law_line_here","_law_k","_law_point"] (aaf asf):=⟨rfl,rfl,rfl,ac2,rfl,by decide +kernel,by decide +kernel⟩
noncomputable abbrev sz8:Stmt:=top 47
noncomputable def at9:List Str:=["_law_line_here","_law_found","_law_breadth","_law_k","_law_before"]
theorem ari:(at9).Nodup:=by decide +kernel
noncomputable abbrev aj0:List S:=[(.ifs (.or (.not (.isi (.sub (.var 1) (.var 3)) .tuple)) (.cmp .ne (.b1 .len (.sub (.var 1) (.var 3))) (.cst (.int 2)))) [(.ret (.cst (.bl false)))] []),
 (.ifs (.or (.not (.call 35 [(.sub (.sub (.var 1) (.var 3)) (.cst (.int 0)))] [])) (.not (.call 35 [(.sub (.sub (.var 1) (.var 3)) (.cst (.int 1)))] []))) [(.ret (.cst (.bl false)))] []),
 (.asg 4 (.bin .mod (.bin .sub (.var 3) (.cst (.int 1))) (.b1 .len (.var 0)))),
 (.ifs (.not (.call 36 [(.var 0),(.var 3),(.var 4),(.sub (.var 1) (.var 3)),(.var 2)] [])) [(.ret (.cst (.bl false)))] []),
 (.ifs (.not (.call 36 [(.var 0),(.var 3),(.var 3),(.sub (.var 1) (.var 3)),(.var 2)] [])) [(.ret (.cst (.bl false)))] []),
 (.ifs (.not (.call 37 [(.var 0),(.var 3),(.sub (.var 1) (.var 3))] [])) [(.ret (.cst (.bl false)))] [])]
noncomputable def bz8:List S:=[(.ifs (.or (.not (.isi (.var 1) .list)) (.cmp .ne (.b1 .len (.var 1)) (.b1 .len (.var 0)))) [(.ret (.cst (.bl false)))] []),
 (.for_ (.one 3) (.rng1 (.b1 .len (.var 0))) aj0),
 (.ret (.cst (.bl true)))]
noncomputable abbrev Fz8:Fn:=⟨3,5,false,bz8⟩
theorem avx:FnScope at9 ["_law_line_here","_law_found","_law_breadth"] (aaf sz8):=⟨rfl,rfl,rfl,ari,rfl,by decide +kernel,by decide +kernel⟩
noncomputable abbrev sz9:Stmt:=top 48
noncomputable def ass:List Str:=["_law_row","_law_many","_law_most","_law_less","_law_line_here","_law_at_here","?6"]
theorem akR:(ass).Nodup:=by decide +kernel
noncomputable def agu:List Str:=["_law_row","_law_many","_law_most","_law_less","_law_line_here","_law_at_here","_law_k"]
theorem akI:(agu).Nodup:=by decide +kernel
noncomputable abbrev afl:E:=(.tup [(.bin .sub (.bin .mod (.sub (.var 0) (.bin .add (.cst (.int 2)) (.bin .mul (.cst (.int 2)) (.var 6)))) (.var 2)) (.var 3)),(.bin .sub (.bin .mod (.sub (.var 0) (.bin .add (.cst (.int 3)) (.bin .mul (.cst (.int 2)) (.var 6)))) (.var 2)) (.var 3))])
noncomputable def bz9:List S:=[(.asg 1 (.bin .add (.cst (.int 3)) (.bin .mod (.sub (.var 0) (.cst (.int 57))) (.cst (.int 4))))),
 (.ifs (.cmp .eq (.bin .mod (.sub (.var 0) (.cst (.int 56))) (.cst (.int 2))) (.cst (.int 0))) [(.asg 2 (.sub (.lst [(.cst (.int 2)),(.cst (.int 3)),(.cst (.int 5)),(.cst (.int 60001))]) (.bin .mod (.sub (.var 0) (.cst (.int 1))) (.cst (.int 4))))),
 (.asg 3 (.sub (.lst [(.cst (.int 0)),(.cst (.int 0)),(.cst (.int 0)),(.cst (.int 30000))]) (.bin .mod (.sub (.var 0) (.cst (.int 1))) (.cst (.int 4))))),
 (.ret (.comp afl (.one 6) (.rng1 (.var 1))))] []),
 (.asg 1 (.bin .add (.cst (.int 4)) (.bin .mod (.sub (.var 0) (.cst (.int 57))) (.cst (.int 21))))),
 (.mk 4 (.call 28 [(.call 27 [(.var 0),(.var 1)] []),(.sub (.var 0) (.cst (.int 52)))] [])),
 (.ifs (.cmp .eq (.bin .mod (.bin .fdiv (.sub (.var 0) (.cst (.int 56))) (.cst (.int 2))) (.cst (.int 2))) (.cst (.int 0))) [(.asg 5 (.bin .mod (.sub (.var 0) (.cst (.int 55))) (.var 1))),
 (.put 4 (.var 5) (.sub (.var 4) (.bin .mod (.bin .add (.bin .add (.var 5) (.cst (.int 1))) (.bin .mod (.sub (.var 0) (.cst (.int 54))) (.bin .sub (.var 1) (.cst (.int 1))))) (.var 1))))] []),
 (.frz 4),
 (.ret (.var 4))]
noncomputable abbrev Fz9:Fn:=⟨1,7,false,bz9⟩
theorem aue:FnScope ass ["_law_row"] (aaf sz9):=⟨rfl,rfl,rfl,akR,rfl,by decide +kernel,by decide +kernel⟩
noncomputable abbrev agi:Stmt:=top 49
noncomputable def ajg:List Str:=["_law_script","_law_row","_law_line_here","_law_breadth","_law_refused","_law_found","e"]
theorem acb:(ajg).Nodup:=by decide +kernel
noncomputable abbrev ai7:List S:=[(.asg 5 (.call 13 [(.b1 .list (.var 2)),(.var 3)] []))]
noncomputable abbrev ahL:List S:=[(.asg 4 (.and (.isi (.var 6) (.cls 2)) (.not (.isi (.var 6) (.cls 1)))))]
noncomputable def akv:List S:=[(.asg 1 (.call 24 [(.var 0),(.cst (.int 58))] [])),
 (.asg 2 (.call 39 [(.var 1)] [])),
 (.asg 3 (.bin .mod (.sub (.var 1) (.cst (.int 53))) (.cst (.int 1001)))),
 (.asg 4 (.cst (.bl false))),
 (.asg 5 (.lst [])),
 (.try_ ai7 0 (some 6) ahL),
 (.ifs (.cmp .notN (.call 32 [(.var 2)] []) (.cst .non)) [(.ret (.var 4))] []),
 (.ret (.and (.not (.var 4)) (.call 38 [(.var 2),(.var 5),(.var 3)] [])))]
noncomputable abbrev am8:Fn:=⟨1,7,false,akv⟩
theorem al8:FnScope ajg ["_law_script"] (aaf agi):=⟨rfl,rfl,rfl,acb,rfl,by decide +kernel,by decide +kernel⟩
noncomputable def fns:List Fn:=[⟨1,3,false,atD⟩,
 ⟨3,5,false,ap8⟩,
 ⟨2,2,false,apY⟩,
 ⟨3,3,false,aoN⟩,
 ⟨2,2,false,arA⟩,
 ⟨3,5,false,anQ⟩,
 ⟨2,2,false,arW⟩,
 ⟨3,3,false,ap4⟩,
 ⟨3,3,false,aqi⟩,
 ⟨2,2,false,arn⟩,
 ⟨1,3,false,ao7⟩,
 ⟨2,3,false,aq1⟩,
 ⟨2,3,false,apr⟩,
 ⟨2,6,false,anD⟩,
 ⟨1,5,false,apy⟩,
 ⟨3,9,false,ao2⟩,
 ⟨4,5,false,aos⟩,
 ⟨3,6,false,arC⟩,
 ⟨5,12,false,aor⟩,
 ⟨1,1,false,arc⟩,
 ⟨1,1,false,aqP⟩,
 ⟨3,3,false,ao1⟩,
 ⟨1,1,false,arZ⟩,
 ⟨2,2,false,bz3⟩,
 ⟨2,5,false,aqV⟩,
 ⟨2,5,false,bz7⟩,
 ⟨3,5,false,aoi⟩,
 ⟨2,9,false,aot⟩,
 ⟨2,9,true,aol⟩,
 ⟨4,11,false,aox⟩,
 ⟨2,5,false,aqu⟩,
 ⟨3,8,false,bz4⟩,
 ⟨1,3,false,bz5⟩,
 ⟨1,3,false,asa⟩,
 ⟨1,5,false,apo⟩,
 ⟨1,1,false,bz6⟩,
 ⟨5,18,false,aqw⟩,
 ⟨3,13,false,arU⟩,
 ⟨3,5,false,bz8⟩,
 ⟨1,7,false,bz9⟩,
 ⟨1,7,false,akv⟩]
noncomputable abbrev xz1:Nat:=0
noncomputable abbrev xz2:Nat:=1
noncomputable abbrev xz0:Nat:=2
noncomputable def aar(d c:Nat):Bool:=nth (nth [[true,false,false],[true,true,false],[true,false,true]] [true,false,false] d) false c
set_option genInjectivity false in
set_option genSizeOf false in
structure Txt(K:W.Frag)(mg:Str→Option Value)where
 ez1:Addr
 awO:mg "GradeError"=some (.ref ez1)
 ez2:Addr
 awQ:mg "NoSuch"=some (.ref ez2)
 ez0:Addr
 awD:mg "Crossed"=some (.ref ez0)
 qz0:W.excIn K ez0 [.type "ValueError",.type "Exception",.type "BaseException",.type "object"] "ValueError.__new__"=true
 xz1:ExcK K ez1
 xz2:ExcK K ez2
 xz0:ExcK K ez0
 avA:W.kitOne K (.ref ez1) (.ref ez2)=some false
 avO:W.kitOne K (.ref ez2) (.ref ez2)=some true
 avN:W.kitOne K (.ref ez0) (.ref ez2)=some false
 avC:W.kitOne K (.ref ez1) (.ref ez0)=some false
 avP:W.kitOne K (.ref ez2) (.ref ez0)=some false
 avK:W.kitOne K (.ref ez0) (.ref ez0)=some true
 avB:W.exmOne K (.ref ez1) (.ref ez1)=some true
 avL:W.exmOne K (.ref ez2) (.ref ez1)=some true
 avI:W.exmOne K (.ref ez0) (.ref ez1)=some true
 awq:FT K mg "crossing" "crossing" aqG ["corners"]
 awn:FT K mg "sides_cross" "sides_cross" as3 ["corners","i","j"]
 avG:FT K mg "side_ends" "side_ends" apg ["corners","k"]
 avT:FT K mg "run_together" "run_together" arj ["corner","one","two"]
 awj:FT K mg "have_common_point" "have_common_point" apl ["one","two"]
 avR:FT K mg "spans_meet" "spans_meet" apd ["one","two","axis"]
 avW:FT K mg "reaches_across" "reaches_across" arr ["side","line"]
 avE:FT K mg "turn" "turn" ao3 ["start","one","two"]
 awl:FT K mg "along" "along" apj ["start","one","two"]
 awi:FT K mg "square" "square" arQ ["one","two"]
 awc:FT K mg "whole_root" "whole_root" arI ["number"]
 awr:FT K mg "lowest_terms" "lowest_terms" aqO ["part","whole"]
 avS:FT K mg "greatest_divisor" "greatest_divisor" aqJ ["one","two"]
 awb:FT K mg "outline" "outline" alk ["corners","breadth"]
 awe:FT K mg "runs_leftward" "runs_leftward" ar0 ["corners"]
 avU:FT K mg "outward_vector" "outward_vector" aqT ["corners","k","leftward"]
 awo:FT K mg "hem_corner" "hem_corner" as1 ["corner","before","after","breadth"]
 aws:FT K mg "beside" "beside" apO ["corner","vector","breadth"]
 awk:FT K mg "where_they_cut" "where_they_cut" aqq ["corner","before","after","cut","breadth"]
 avF:FT K mg "square_of" "square_of" apq ["vector"]
 avH:FT K mg "thousandfold_length" "thousandfold_length" apH ["vector"]
 av7:FT K mg "moved_number" "moved_number" asx ["number","part","whole"]
 avX:FT K mg "_law_whole" "_law_whole" aqA ["_law_found"]
 uz3:FT K mg "_law_at" "_law_at" sz3 ["_law_script","_law_k"]
 awd:FT K mg "_law_stir" "_law_stir" ap6 ["_law_script","_law_many"]
 uz7:FT K mg "_law_gcd" "_law_gcd" sz7 ["_law_one","_law_two"]
 avQ:FT K mg "_law_strides" "_law_strides" aq6 ["_law_row","_law_at_here","_law_many"]
 awt:FT K mg "_law_simple" "_law_simple" as8 ["_law_row","_law_many"]
 awh:FT K mg "_law_swung" "_law_swung" akZ ["_law_line_here","_law_cell"]
 awf:FT K mg "_law_parted" "_law_parted" apz ["_law_a","_law_b","_law_c","_law_d"]
 av8:FT K mg "_law_way" "_law_way" apL ["_law_one","_law_two"]
 uz4:FT K mg "_law_crossed" "_law_crossed" sz4 ["_law_line_here","_law_i","_law_j"]
 uz5:FT K mg "_law_first" "_law_first" sz5 ["_law_line_here"]
 awm:FT K mg "_law_root" "_law_root" arm ["_law_number"]
 awg:FT K mg "_law_twice" "_law_twice" ap3 ["_law_line_here"]
 uz6:FT K mg "_law_fraction" "_law_fraction" sz6 ["_law_found"]
 avV:FT K mg "_law_on_hem" "_law_on_hem" arJ ["_law_line_here","_law_k","_law_side","_law_point","_law_breadth"]
 awp:FT K mg "_law_straight" "_law_straight" asf ["_law_line_here","_law_k","_law_point"]
 uz8:FT K mg "_law_hems" "_law_hems" sz8 ["_law_line_here","_law_found","_law_breadth"]
 uz9:FT K mg "_law_line" "_law_line" sz9 ["_law_row"]
 awa:FT K mg "law" "law" agi ["_law_script"]
 avM:mg "abs"=none
 awv:mg "bool"=none
 av9:mg "enumerate"=none
 aw2:mg "int"=none
 av4:mg "isinstance"=none
 av6:mg "len"=none
 avZ:mg "list"=none
 avY:mg "max"=none
 aww:mg "min"=none
 av5:mg "range"=none
 avD:mg "sorted"=none
 avJ:mg "tuple"=none
section
variable{K:W.Frag}{mg:Str→Option Value}
noncomputable def Gof(T:Txt K mg):Gx:=⟨K,nth [T.ez1,T.ez2,T.ez0] (T.ez1),nth [] (0),nth [] []⟩
theorem auk(T:Txt K mg):mg "GradeError"=some (.ref ((Gof T).cA 0)):=T.awO
theorem auJ(T:Txt K mg):∀d,W.exmOne K (.ref ((Gof T).cA d)) (.ref ((Gof T).cA 0))=some (aar d 0):=fun d=>match d with | 0=>T.avB | 1=>T.avL | 2=>T.avI | _+3=>T.avB
theorem auK(T:Txt K mg):mg "NoSuch"=some (.ref ((Gof T).cA 1)):=T.awQ
theorem aur(T:Txt K mg):∀d,W.kitOne K (.ref ((Gof T).cA d)) (.ref ((Gof T).cA 1))=some (aar d 1):=fun d=>match d with | 0=>T.avA | 1=>T.avO | 2=>T.avN | _+3=>T.avA
theorem asL(T:Txt K mg):mg "Crossed"=some (.ref ((Gof T).cA 2)):=T.awD
theorem au5(T:Txt K mg):W.excIn K ((Gof T).cA 2) [.type "ValueError",.type "Exception",.type "BaseException",.type "object"] "ValueError.__new__"=true:=T.qz0
theorem auE(T:Txt K mg):∀d,W.kitOne K (.ref ((Gof T).cA d)) (.ref ((Gof T).cA 2))=some (aar d 2):=fun d=>match d with | 0=>T.avC | 1=>T.avP | 2=>T.avK | _+3=>T.avC
theorem aja(T:Txt K mg):∀d,ExcK K ((Gof T).cA d):=fun d=>match d with | 0=>T.xz1 | 1=>T.xz2 | 2=>T.xz0 | _+3=>T.xz1
end
section
variable{P:Program}{w:World}{K:W.Frag}{mg:Str→Option Value}{base:Heap}{k:Nat}
noncomputable abbrev OF(P:Program)(w:World){K:W.Frag}{mg:Str→Option Value}(base:Heap)(T:Txt K mg)(k:Nat){x q:Str}{st:Stmt}{ps:List Str}{E:Addr→Prop}(u:FD K x q st ps E)(i:Nat):Prop:=FnOk P w K mg base (CXE (Gof T) P w base) (2*k) u.f u.d ps (spG (Gof T) (cfX fns aar k).cf (cfX fns aar k).fr i)
noncomputable abbrev OG(P:Program)(w:World){K:W.Frag}{mg:Str→Option Value}(base:Heap)(T:Txt K mg)(k:Nat){x q:Str}{st:Stmt}{ps:List Str}{E:Addr→Prop}(u:FD K x q st ps E)(i:Nat):Prop:=FnOk P w K mg base (CXE (Gof T) P w base) (2*(k+1)) u.f u.d ps (spG (Gof T) (run true fns aar aai (k+1)) (agr fns) i)
set_option genInjectivity false in
set_option genSizeOf false in
structure Ok(P:Program)(w:World){K:W.Frag}{mg:Str→Option Value}(base:Heap)(T:Txt K mg)(k:Nat):Prop where
 awE:OF P w base T k T.awq 0
 awB:OF P w base T k T.awn 1
 aw1:OF P w base T k T.avG 2
 aw5:OF P w base T k T.avT 3
 awP:OF P w base T k T.awj 4
 aw6:OF P w base T k T.avR 5
 aw9:OF P w base T k T.avW 6
 awz:OF P w base T k T.avE 7
 awL:OF P w base T k T.awl 8
 awM:OF P w base T k T.awi 9
 awJ:OF P w base T k T.awc 10
 awU:OF P w base T k T.awr 11
 aw8:OF P w base T k T.avS 12
 awK:OF P w base T k T.awb 13
 awS:OF P w base T k T.awe 14
 aw3:OF P w base T k T.avU 15
 awH:OF P w base T k T.awo 16
 awW:OF P w base T k T.aws 17
 awN:OF P w base T k T.awk 18
 aw0:OF P w base T k T.avF 19
 awy:OF P w base T k T.avH 20
 awu:OF P w base T k T.av7 21
 aw7:OF P w base T k T.avX 22
 oz3:OF P w base T k T.uz3 23
 awI:OF P w base T k T.awd 24
 oz7:OF P w base T k T.uz7 25
 awA:OF P w base T k T.avQ 26
 awF:OF P w base T k T.awt 27
 awT:OF P w base T k T.awh 28
 awC:OF P w base T k T.awf 29
 awx:OF P w base T k T.av8 30
 oz4:OF P w base T k T.uz4 31
 oz5:OF P w base T k T.uz5 32
 awV:OF P w base T k T.awm 33
 awG:OF P w base T k T.awg 34
 oz6:OF P w base T k T.uz6 35
 aw4:OF P w base T k T.avV 36
 awR:OF P w base T k T.awp 37
 oz8:OF P w base T k T.uz8 38
 oz9:OF P w base T k T.uz9 39
 o_law:OF P w base T k T.awa 40
theorem apa(T:Txt K mg)(ih:Ok P w base T k):OG P w base T k T.awq 0:=
 aaw T.awq.t aoZ rfl rfl rfl fun _ _ _ _ _ _ hr hu hp=>(aaa (agY hp (wr1 (T.av5) (acZ (T.av6) (wv 0))) (wg1 akt) (aaa (agY hp (wr2 (T.av5) (wv 1) (acZ (T.av6) (wv 0))) (wg1 akt) (aaa (aa5 (wtr (aau ih.awB hr T.awn.e.1 T.awn.e.2 T.awn.b .nil rfl (wrc (wv 0) (wrc (wv 1) (wrc (wv 2) aak))))) (aaa (aal (acK (wac (wv 1) (wac (wv 2) aa0))))
 aad) aad)
 aad))
 aad))
 (aaa (aal af4)
 aad))
theorem apD(T:Txt K mg)(ih:Ok P w base T k):OG P w base T k T.awn 1:=
 aaw T.awn.t apu rfl rfl rfl fun _ _ _ _ _ _ hr hu hp=>(aaa (aa4 ajX (aau ih.aw1 hr T.avG.e.1 T.avG.e.2 T.avG.b .nil rfl (wrc (wv 0) (wrc (wv 1) aak))))
 (aaa (aa4 ajX (aau ih.aw1 hr T.avG.e.1 T.avG.e.2 T.avG.b .nil rfl (wrc (wv 0) (wrc (wv 2) aak))))
 (aaa (aa5 (wct hu .eq (wv 1) (wv 2)) (aaa (aal (wcv hu .eq (aam (wv 3) aab) (aam (wv 3) aab)))
 aad) aad)
 (aaa (aa5 (wct hu .eq (wv 2) (aac .add (wv 1) aab)) (aaa (aal (aau ih.aw5 hr T.avT.e.1 T.avT.e.2 T.avT.b .nil rfl (wrc (aam (wv 3) aab) (wrc (aam (wv 3) aab) (wrc (aam (wv 4) aab) aak)))))
 aad) aad)
 (aaa (aa5 (PW.pt (ahm (wct hu .eq (aac .add (wv 2) aab) (acZ (T.av6) (wv 0))) (acF (wct hu .eq (wv 1) aab)))) (aaa (aal (aau ih.aw5 hr T.avT.e.1 T.avT.e.2 T.avT.b .nil rfl (wrc (aam (wv 3) aab) (wrc (aam (wv 3) aab) (wrc (aam (wv 4) aab) aak)))))
 aad) aad)
 (aaa (aal (aau ih.awP hr T.awj.e.1 T.awj.e.2 T.awj.b .nil rfl (wrc (wv 3) (wrc (wv 4) aak))))
 aad))))))
theorem aqh(T:Txt K mg)(ih:Ok P w base T k):OG P w base T k T.avG 2:=
 aaw T.avG.t apk rfl rfl rfl fun _ _ _ _ _ _ hr hu hp=>(aaa (aal (acK (wac (aam (wv 0) (wv 1)) (wac (aam (wv 0) (aac .mod (aac .add (wv 1) aab) (acZ (T.av6) (wv 0)))) aa0))))
 aad)
theorem ap0(T:Txt K mg)(ih:Ok P w base T k):OG P w base T k T.avT 3:=
 aaw T.avT.t asv rfl rfl rfl fun _ _ _ _ _ _ hr hu hp=>(aaa (aal (acv (wcv hu .eq (aau ih.awz hr T.avE.e.1 T.avE.e.2 T.avE.b .nil rfl (wrc (wv 0) (wrc (wv 1) (wrc (wv 2) aak)))) aab) (ajs (wcv hu .gt (aau ih.awL hr T.awl.e.1 T.awl.e.2 T.awl.b .nil rfl (wrc (wv 0) (wrc (wv 1) (wrc (wv 2) aak)))) aab))))
 aad)
theorem apm(T:Txt K mg)(ih:Ok P w base T k):OG P w base T k T.awj 4:=
 aaw T.awj.t ara rfl rfl rfl fun _ _ _ _ _ _ hr hu hp=>(aaa (aa5 (PW.pt (acu (abz (wtr (aau ih.aw6 hr T.avR.e.1 T.avR.e.2 T.avR.b .nil rfl (wrc (wv 0) (wrc (wv 1) (wrc aab aak)))))) (aaV (abz (wtr (aau ih.aw6 hr T.avR.e.1 T.avR.e.2 T.avR.b .nil rfl (wrc (wv 0) (wrc (wv 1) (wrc aab aak))))))))) (aaa (aal abY)
 aad) aad)
 (aaa (aal (acv (aau ih.aw9 hr T.avW.e.1 T.avW.e.2 T.avW.b .nil rfl (wrc (wv 0) (wrc (wv 1) aak))) (ajs (aau ih.aw9 hr T.avW.e.1 T.avW.e.2 T.avW.b .nil rfl (wrc (wv 1) (wrc (wv 0) aak))))))
 aad))
theorem arl(T:Txt K mg)(ih:Ok P w base T k):OG P w base T k T.avR 5:=
 aaw T.avR.t ar2 rfl rfl rfl fun _ _ _ _ _ _ hr hu hp=>(aaa (aa4 ak2 (ag9 (T.avD) (aiB (wac (aam (aam (wv 0) aab) (wv 2)) (wac (aam (aam (wv 0) aab) (wv 2)) aa0)))))
 (aaa (aa4 ak2 (ag9 (T.avD) (aiB (wac (aam (aam (wv 1) aab) (wv 2)) (wac (aam (aam (wv 1) aab) (wv 2)) aa0)))))
 (aaa (aal (acv (wcv hu .le (aam (wv 3) aab) (aam (wv 4) aab)) (ajs (wcv hu .le (aam (wv 4) aab) (aam (wv 3) aab)))))
 aad)))
theorem asA(T:Txt K mg)(ih:Ok P w base T k):OG P w base T k T.avW 6:=
 aaw T.avW.t asc rfl rfl rfl fun _ _ _ _ _ _ hr hu hp=>(aaa (aal (wcv hu .le (aac .mul (aau ih.awz hr T.avE.e.1 T.avE.e.2 T.avE.b .nil rfl (wrc (aam (wv 1) aab) (wrc (aam (wv 1) aab) (wrc (aam (wv 0) aab) aak)))) (aau ih.awz hr T.avE.e.1 T.avE.e.2 T.avE.b .nil rfl (wrc (aam (wv 1) aab) (wrc (aam (wv 1) aab) (wrc (aam (wv 0) aab) aak))))) aab))
 aad)
theorem aq7(T:Txt K mg)(ih:Ok P w base T k):OG P w base T k T.avE 7:=
 aaw T.avE.t ar4 rfl rfl rfl fun _ _ _ _ _ _ hr hu hp=>(aaa (aal (aac .sub (aac .mul (aac .sub (aam (wv 1) aab) (aam (wv 0) aab)) (aac .sub (aam (wv 2) aab) (aam (wv 0) aab))) (aac .mul (aac .sub (aam (wv 1) aab) (aam (wv 0) aab)) (aac .sub (aam (wv 2) aab) (aam (wv 0) aab)))))
 aad)
theorem aq0(T:Txt K mg)(ih:Ok P w base T k):OG P w base T k T.awl 8:=
 aaw T.awl.t as2 rfl rfl rfl fun _ _ _ _ _ _ hr hu hp=>(aaa (aal (aac .add (aac .mul (aac .sub (aam (wv 1) aab) (aam (wv 0) aab)) (aac .sub (aam (wv 2) aab) (aam (wv 0) aab))) (aac .mul (aac .sub (aam (wv 1) aab) (aam (wv 0) aab)) (aac .sub (aam (wv 2) aab) (aam (wv 0) aab)))))
 aad)
theorem apN(T:Txt K mg)(ih:Ok P w base T k):OG P w base T k T.awi 9:=
 aaw T.awi.t aoC rfl rfl rfl fun _ _ _ _ _ _ hr hu hp=>(aaa (aal (aac .add (aac .pow (aac .sub (aam (wv 1) aab) (aam (wv 0) aab)) aab) (aac .pow (aac .sub (aam (wv 1) aab) (aam (wv 0) aab)) aab)))
 aad)
theorem aoU(T:Txt K mg)(ih:Ok P w base T k):OG P w base T k T.awc 10:=
 aaw T.awc.t apX rfl rfl rfl fun _ _ _ _ _ _ hr hu hp=>(aaa (aa4 ag5 (wv 0))
 (aaa (aa4 ag5 (aac .fdiv (aac .add (wv 0) aab) aab))
 (aaa (alF hp (wct hu .lt (wv 2) (wv 1)) (aaa (aa4 ag5 (wv 2))
 (aaa (aa4 ag5 (aac .fdiv (aac .add (wv 1) (aac .fdiv (wv 0) (wv 1))) aab))
 aad)))
 (aaa (aal (wv 1))
 aad))))
theorem apQ(T:Txt K mg)(ih:Ok P w base T k):OG P w base T k T.awr 11:=
 aaw T.awr.t apn rfl rfl rfl fun _ _ _ _ _ _ hr hu hp=>(aaa (aa4 an8 (aau ih.aw8 hr T.avS.e.1 T.avS.e.2 T.avS.b .nil rfl (wrc (anT (T.avM) (wv 0)) (wrc (wv 1) aak))))
 (aaa (aal (acK (wac (aac .fdiv (wv 0) (wv 2)) (wac (aac .fdiv (wv 1) (wv 2)) aa0))))
 aad))
theorem arK(T:Txt K mg)(ih:Ok P w base T k):OG P w base T k T.avS 12:=
 aaw T.avS.t ark rfl rfl rfl fun _ _ _ _ _ _ hr hu hp=>(aaa (alF hp (wct hu .ne (wv 1) aab) (aaa (aa4 aiP (aac .mod (wv 0) (wv 1)))
 (aaa (aa4 aiP (wv 1))
 (aaa (aa4 aiP (wv 2))
 aad))))
 (aaa (aal (wv 0))
 aad))
theorem apE(T:Txt K mg)(ih:Ok P w base T k):OG P w base T k T.awb 13:=
 aaw T.awb.t aoV rfl rfl rfl fun _ _ _ _ _ _ hr hu hp=>(aaa (aa5 (wct hu .notN (aau ih.awE hr T.awq.e.1 T.awq.e.2 T.awq.b .nil rfl (wrc (wv 0) aak)) af4) (aaa (anh (asL T) (au5 T))
 aad) aad)
 (aaa (aa4 aim (aau ih.awS hr T.awe.e.1 T.awe.e.2 T.awe.b .nil rfl (wrc (wv 0) aak)))
 (aaa (by first|exact abP (fun _ _ _ _ h=>ab1 h) (ad2 (f:=fun σ st=>one (ev (cfX fns aar k) adN .v σ st)) rfl (abk (sc:=(aaf alk).names) (N:=agL) (N':=adA) rfl rfl rfl rfl (by decide +kernel)) (by decide) (wr1 (T.av5) (acZ (T.av6) (wv 0))) (fun _ _ _ _ _=>(wg1 aff)) (fun _ _ _ _ _=>ab8 (aau ih.aw3 hr T.avU.e.1 T.avU.e.2 T.avU.b .nil rfl (wrc (wv 0) (wrc (wv 4) (wrc (wv 2) aak))))) (fun _=>rfl) (fun _ _=>rfl) rfl aim rfl rfl)|exact aa4 aim (agl (abX (f:=fun σ st=>one (ev (cfX fns aar k) adN .v σ st)) rfl (abk (sc:=(aaf alk).names) (N:=agL) (N':=adA) rfl rfl rfl rfl (by decide +kernel)) (by decide) (wr1 (T.av5) (acZ (T.av6) (wv 0))) (fun _ _ _ _ _=>(wg1 aff)) (fun _ _ _ _ _=>ab8 (aau ih.aw3 hr T.avU.e.1 T.avU.e.2 T.avU.b .nil rfl (wrc (wv 0) (wrc (wv 4) (wrc (wv 2) aak))))) (fun _=>rfl) (fun _ _=>rfl)) fun _ _ _ _ h=>ab1 h))
 (aaa (aal (agl (abX (f:=fun σ st=>one (ev (cfX fns aar k) aeA .v σ st)) rfl (abk (sc:=(aaf alk).names) (N:=agL) (N':=afx) rfl rfl rfl rfl (by decide +kernel)) (by decide) (wr1 (T.av5) (acZ (T.av6) (wv 0))) (fun _ _ _ _ _=>(wg1 aiT)) (fun _ _ _ _ _=>ab8 (aau ih.awH hr T.awo.e.1 T.awo.e.2 T.awo.b .nil rfl (wrc (aam (wv 0) (wv 5)) (wrc (aam (wv 3) (aac .sub (wv 5) aab)) (wrc (aam (wv 3) (wv 5)) (wrc (wv 1) aak)))))) (fun _=>rfl) (fun _ _=>rfl)) fun _ _ _ _ h=>ab1 h))
 aad))))
theorem arO(T:Txt K mg)(ih:Ok P w base T k):OG P w base T k T.awe 14:=
 aaw T.awe.t asj rfl rfl rfl fun _ _ _ _ _ _ hr hu hp=>(aaa (aa4 afI aab)
 (aaa (au2 hp (T.av9) (wv 0) (wgm (wgc afI (wgc afI ab3))) (aaa (aa4 afI (aam (wv 0) (aac .sub (wv 2) aab)))
 (aaa (aa4 afI (aac .sub (aac .add (wv 1) (aac .mul (aam (wv 4) aab) (aam (wv 3) aab))) (aac .mul (aam (wv 4) aab) (aam (wv 3) aab))))
 aad)))
 (aaa (aal (wcv hu .gt (wv 1) aab))
 aad)))
theorem aqp(T:Txt K mg)(ih:Ok P w base T k):OG P w base T k T.avU 15:=
 aaw T.avU.t ar8 rfl rfl rfl fun _ _ _ _ _ _ hr hu hp=>(aaa (aa4 afd (aau ih.aw1 hr T.avG.e.1 T.avG.e.2 T.avG.b .nil rfl (wrc (wv 0) (wrc (wv 1) aak))))
 (aaa (aa4 afd (aac .sub (aam (aam (wv 3) aab) aab) (aam (aam (wv 3) aab) aab)))
 (aaa (aa4 afd (aac .sub (aam (aam (wv 3) aab) aab) (aam (aam (wv 3) aab) aab)))
 (aaa (aa4 afd (aau ih.aw8 hr T.avS.e.1 T.avS.e.2 T.avS.b .nil rfl (wrc (anT (T.avM) (wv 4)) (wrc (anT (T.avM) (wv 5)) aak))))
 (aaa (aa4 afd (aac .fdiv (wv 4) (wv 6)))
 (aaa (aa4 afd (aac .fdiv (wv 5) (wv 6)))
 (aaa (aal (anr (wtr (wv 2)) (acK (wac (wv 8) (wac (acf (wv 7)) aa0))) (acK (wac (acf (wv 8)) (wac (wv 7) aa0)))))
 aad)))))))
theorem arD(T:Txt K mg)(ih:Ok P w base T k):OG P w base T k T.awo 16:=
 aaw T.awo.t as5 rfl rfl rfl fun _ _ _ _ _ _ hr hu hp=>(aaa (aa4 amb (aac .sub (aac .mul (aam (wv 1) aab) (aam (wv 2) aab)) (aac .mul (aam (wv 1) aab) (aam (wv 2) aab))))
 (aaa (aa5 (wct hu .eq (wv 4) aab) (aaa (aal (aau ih.awW hr T.aws.e.1 T.aws.e.2 T.aws.b .nil rfl (wrc (wv 0) (wrc (wv 2) (wrc (wv 3) aak)))))
 aad) aad)
 (aaa (aal (aau ih.awN hr T.awk.e.1 T.awk.e.2 T.awk.b .nil rfl (wrc (wv 0) (wrc (wv 1) (wrc (wv 2) (wrc (wv 4) (wrc (wv 3) aak)))))))
 aad)))
theorem asd(T:Txt K mg)(ih:Ok P w base T k):OG P w base T k T.aws 17:=
 aaw T.aws.t aoD rfl rfl rfl fun _ _ _ _ _ _ hr hu hp=>(aaa (aa4 aiX (aau ih.awy hr T.avH.e.1 T.avH.e.2 T.avH.b .nil rfl (wrc (wv 1) aak)))
 (aaa (aa4 aiX (aac .mul (aac .mul aab (wv 2)) (aam (wv 1) aab)))
 (aaa (aa4 aiX (aac .mul (aac .mul aab (wv 2)) (aam (wv 1) aab)))
 (aaa (aal (acK (wac (aau ih.awu hr T.av7.e.1 T.av7.e.2 T.av7.b .nil rfl (wrc (aam (wv 0) aab) (wrc (wv 4) (wrc (wv 3) aak)))) (wac (aau ih.awu hr T.av7.e.1 T.av7.e.2 T.av7.b .nil rfl (wrc (aam (wv 0) aab) (wrc (wv 5) (wrc (wv 3) aak)))) aa0))))
 aad))))
theorem aqs(T:Txt K mg)(ih:Ok P w base T k):OG P w base T k T.awk 18:=
 aaw T.awk.t arG rfl rfl rfl fun _ _ _ _ _ _ hr hu hp=>(aaa (aa4 adT (aau ih.awy hr T.avH.e.1 T.avH.e.2 T.avH.b .nil rfl (wrc (wv 1) aak)))
 (aaa (aa4 adT (aau ih.awy hr T.avH.e.1 T.avH.e.2 T.avH.b .nil rfl (wrc (wv 2) aak)))
 (aaa (aa4 adT (aac .mul (aac .mul (aac .mul aab (wv 4)) (aau ih.aw0 hr T.avF.e.1 T.avF.e.2 T.avF.b .nil rfl (wrc (wv 1) aak))) (wv 6)))
 (aaa (aa4 adT (aac .mul (aac .mul (aac .mul aab (wv 4)) (aau ih.aw0 hr T.avF.e.1 T.avF.e.2 T.avF.b .nil rfl (wrc (wv 2) aak))) (wv 5)))
 (aaa (aa4 adT (aac .sub (aac .mul (wv 7) (aam (wv 2) aab)) (aac .mul (wv 8) (aam (wv 1) aab))))
 (aaa (aa4 adT (aac .sub (aac .mul (wv 8) (aam (wv 1) aab)) (aac .mul (wv 7) (aam (wv 2) aab))))
 (aaa (aa4 adT (aac .mul (aac .mul (wv 3) (wv 5)) (wv 6)))
 (aaa (aal (acK (wac (aau ih.awu hr T.av7.e.1 T.av7.e.2 T.av7.b .nil rfl (wrc (aam (wv 0) aab) (wrc (wv 9) (wrc (wv 11) aak)))) (wac (aau ih.awu hr T.av7.e.1 T.av7.e.2 T.av7.b .nil rfl (wrc (aam (wv 0) aab) (wrc (wv 10) (wrc (wv 11) aak)))) aa0))))
 aad))))))))
theorem asr(T:Txt K mg)(ih:Ok P w base T k):OG P w base T k T.avF 19:=
 aaw T.avF.t aqQ rfl rfl rfl fun _ _ _ _ _ _ hr hu hp=>(aaa (aal (aau ih.awM hr T.awi.e.1 T.awi.e.2 T.awi.b .nil rfl (wrc (acK (wac aab (wac aab aa0))) (wrc (wv 0) aak))))
 aad)
theorem arM(T:Txt K mg)(ih:Ok P w base T k):OG P w base T k T.avH 20:=
 aaw T.avH.t arh rfl rfl rfl fun _ _ _ _ _ _ hr hu hp=>(aaa (aal (aau ih.awJ hr T.awc.e.1 T.awc.e.2 T.awc.b .nil rfl (wrc (aac .mul aab (aau ih.aw0 hr T.avF.e.1 T.avF.e.2 T.avF.b .nil rfl (wrc (wv 0) aak))) aak)))
 aad)
theorem asi(T:Txt K mg)(ih:Ok P w base T k):OG P w base T k T.av7 21:=
 aaw T.av7.t aq9 rfl rfl rfl fun _ _ _ _ _ _ hr hu hp=>(aaa (aa5 (wct hu .lt (wv 2) aab) (aaa (aal (aau ih.awu hr T.av7.e.1 T.av7.e.2 T.av7.b .nil rfl (wrc (wv 0) (wrc (acf (wv 1)) (wrc (acf (wv 2)) aak)))))
 aad) aad)
 (aaa (aal (aau ih.awU hr T.awr.e.1 T.awr.e.2 T.awr.b .nil rfl (wrc (aac .add (aac .mul (wv 0) (wv 2)) (wv 1)) (wrc (wv 2) aak))))
 aad))
theorem ask(T:Txt K mg)(ih:Ok P w base T k):OG P w base T k T.avX 22:=
 aaw T.avX.t apw rfl rfl rfl fun _ _ _ _ _ _ hr hu hp=>(aaa (aal (acv (alK .int (T.av4) (T.aw2) (wv 0)) (ajs (afu (alK .bool (T.av4) (T.awv) (wv 0))))))
 aad)
theorem auP(T:Txt K mg)(ih:Ok P w base T k):OG P w base T k T.uz3 23:=
 aaw T.uz3.t au6 rfl rfl rfl fun _ _ _ _ _ _ hr hu hp=>(aaa (aa5 (wct hu .lt (wv 1) (acZ (T.av6) (wv 0))) (aaa (aal (aam (wv 0) (wv 1)))
 aad) aad)
 (aaa (aal aab)
 aad))
theorem are(T:Txt K mg)(ih:Ok P w base T k):OG P w base T k T.awd 24:=
 aaw T.awd.t aqr rfl rfl rfl fun _ _ _ _ _ _ hr hu hp=>(aaa (aa4 agx aab)
 (aaa (qmk agx (aih aa0))
 (aaa (agY hp (wr1 (T.av5) (wv 1)) (wg1 agx) (aaa (aa4 agx (aac .mod (aac .add (aac .add (aac .mul (wv 2) aab) (aau ih.oz3 hr T.uz3.e.1 T.uz3.e.2 T.uz3.b .nil rfl (wrc (wv 0) (wrc (wv 4) aak)))) aab) aab))
 (aaa (aly (i:=3) (wv 2))
 aad)))
 (ad9 (aaa (aal (wv 3))
 aad)))))
theorem av1(T:Txt K mg)(ih:Ok P w base T k):OG P w base T k T.uz7 25:=
 aaw T.uz7.t aun rfl rfl rfl fun _ _ _ _ _ _ hr hu hp=>(aaa (aa4 al6 (anT (T.avM) (wv 0)))
 (aaa (aa4 al6 (anT (T.avM) (wv 1)))
 (aaa (alF hp (wct hu .gt (wv 3) aab) (aaa (aa4 al6 (aac .mod (wv 2) (wv 3)))
 (aaa (aa4 al6 (wv 3))
 (aaa (aa4 al6 (wv 4))
 aad))))
 (aaa (aal (wv 2))
 aad))))
theorem aoW(T:Txt K mg)(ih:Ok P w base T k):OG P w base T k T.avQ 26:=
 aaw T.avQ.t aqD rfl rfl rfl fun _ _ _ _ _ _ hr hu hp=>(aaa (qmk ajP (aih (wac aab aa0)))
 (aaa (agY hp (wr1 (T.av5) (aac .sub (wv 2) aab)) (wg1 ajP) (aaa (aly (i:=3) (aac .add (aac .add (aam (wv 3) (acf aab)) aab) (aac .mod (aam (wv 0) (aac .add (wv 1) (wv 4))) aab)))
 aad))
 (ad9 (aaa (aal (wv 3))
 aad))))
theorem aqH(T:Txt K mg)(ih:Ok P w base T k):OG P w base T k T.awt 27:=
 aaw T.awt.t aqj rfl rfl rfl fun _ _ _ _ _ _ hr hu hp=>(aaa (aa4 ada aab)
 (aaa (aa5 (wct hu .gt (wv 1) aab) (aaa (aa4 ada (aac .add aab (aac .mod (aam (wv 0) aab) (aac .sub (wv 1) aab))))
 aad) aad)
 (aaa (aa4 ada (aac .sub (wv 1) (wv 2)))
 (aaa (aa4 ada (aam (aiB (wac aab (wac aab (wac aab (wac aab aa0))))) (aac .mod (aam (wv 0) aab) aab)))
 (aaa (aa4 ada (aau ih.awA hr T.avQ.e.1 T.avQ.e.2 T.avQ.b .nil rfl (wrc (wv 0) (wrc aab (wrc (wv 2) aak)))))
 (aaa (aa4 ada (aau ih.awA hr T.avQ.e.1 T.avQ.e.2 T.avQ.b .nil rfl (wrc (wv 0) (wrc (aac .add aab (wv 2)) (wrc (wv 3) aak)))))
 (aaa (qmk ada (aih aa0))
 (aaa (agY hp (wr1 (T.av5) (wv 2)) (wg1 ada) (aaa (aly (i:=7) (acK (wac (aac .mul (aam (wv 5) (wv 8)) (anK (T.avY) aab (aam (wv 6) (acf aab)))) (wac (aac .sub (acf aab) (aac .mod (aam (wv 0) (aac .add aab (wv 8))) (wv 4))) aa0))))
 aad))
 (aaa (agY hp (wr1 (T.av5) (wv 3)) (wg1 ada) (aaa (aly (i:=7) (acK (wac (aac .mul (aam (wv 6) (aac .sub (aac .sub (wv 3) aab) (wv 8))) (aam (wv 5) (acf aab))) (wac (aac .add aab (aac .mod (aam (wv 0) (aac .add (aac .add aab (wv 2)) (wv 8))) (wv 4))) aa0))))
 aad))
 (ad9 (aaa (aal (wv 7))
 aad)))))))))))
theorem aps(T:Txt K mg)(ih:Ok P w base T k):OG P w base T k T.awh 28:=
 aaw T.awh.t as6 rfl rfl rfl fun _ _ _ _ _ _ hr hu hp=>(aaa (aa4 aet (aac .sub (aac .mod (wv 1) aab) aab))
 (aaa (by first|exact abP (fun _ _ _ _ h=>ab1 h) (ad2 (f:=fun σ st=>one (ev (cfX fns aar k) aeH .v σ st)) rfl (abk (sc:=(aaf akZ).names) (N:=afQ) (N':=ad6) rfl rfl rfl rfl (by decide +kernel)) (by decide) (wpl (wv 0)) (fun _ _ _ _ _=>(wgm (wgc acE (wgc acE ab3)))) (fun _ _ _ _ _=>ab8 (acK (wac (aac .add (wv 5) (aac .mul (wv 2) (wv 6))) (wac (wv 6) aa0)))) (fun _=>rfl) (fun _ _=>rfl) rfl aet rfl rfl)|exact aa4 aet (agl (abX (f:=fun σ st=>one (ev (cfX fns aar k) aeH .v σ st)) rfl (abk (sc:=(aaf akZ).names) (N:=afQ) (N':=ad6) rfl rfl rfl rfl (by decide +kernel)) (by decide) (wpl (wv 0)) (fun _ _ _ _ _=>(wgm (wgc acE (wgc acE ab3)))) (fun _ _ _ _ _=>ab8 (acK (wac (aac .add (wv 5) (aac .mul (wv 2) (wv 6))) (wac (wv 6) aa0)))) (fun _=>rfl) (fun _ _=>rfl)) fun _ _ _ _ h=>ab1 h))
 (aaa (aa5 (wct hu .eq (aac .mod (aac .fdiv (wv 1) aab) aab) aab) (aaa (by first|exact abP (fun _ _ _ _ h=>ab1 h) (ad2 (f:=fun σ st=>one (ev (cfX fns aar k) aeY .v σ st)) rfl (abk (sc:=(aaf akZ).names) (N:=afQ) (N':=adH) rfl rfl rfl rfl (by decide +kernel)) (by decide) (wpl (wv 3)) (fun _ _ _ _ _=>(wgm (wgc acD (wgc acD ab3)))) (fun _ _ _ _ _=>ab8 (acK (wac (aac .sub aab (wv 8)) (wac (wv 7) aa0)))) (fun _=>rfl) (fun _ _=>rfl) rfl aet rfl rfl)|exact aa4 aet (agl (abX (f:=fun σ st=>one (ev (cfX fns aar k) aeY .v σ st)) rfl (abk (sc:=(aaf akZ).names) (N:=afQ) (N':=adH) rfl rfl rfl rfl (by decide +kernel)) (by decide) (wpl (wv 3)) (fun _ _ _ _ _=>(wgm (wgc acD (wgc acD ab3)))) (fun _ _ _ _ _=>ab8 (acK (wac (aac .sub aab (wv 8)) (wac (wv 7) aa0)))) (fun _=>rfl) (fun _ _=>rfl)) fun _ _ _ _ h=>ab1 h))
 aad) aad)
 (aaa (aa5 (wct hu .eq (aac .mod (aac .fdiv (wv 1) aab) aab) aab) (aaa (aa4 aet (agl (an9 (wv 3)) fun _ _ _ _ h=>amZ h))
 aad) aad)
 (aaa (aa4 aet (aac .mod (aac .fdiv (wv 1) aab) (acZ (T.av6) (wv 3))))
 (aaa (akW (ant (alf (wv 3) (wv 4)) (ajY (wv 3) (wv 4))))
 aad))))))
theorem asn(T:Txt K mg)(ih:Ok P w base T k):OG P w base T k T.awf 29:=
 aaw T.awf.t aqR rfl rfl rfl fun _ _ _ _ _ _ hr hu hp=>(aaa (qmk ae1 (aih (wac (acK (wac aab (wac aab aa0))) (wac (acK (wac aab (wac aab aa0))) aa0))))
 (aaa (agY hp (wpj (aiB (wac (acK (wac (wv 0) (wac (wv 1) aa0))) (wac (acK (wac (wv 2) (wac (wv 3) aa0))) aa0)))) (wgm (wgc ae1 (wgc ae1 ab3))) (aaa (aly (i:=4) (acK (wac (aac .sub (aam (wv 6) aab) (aam (wv 5) aab)) (wac (aac .sub (aam (wv 6) aab) (aam (wv 5) aab)) aa0))))
 (aaa (aly (i:=4) (acK (wac (aac .sub (aam (wv 5) aab) (aam (wv 6) aab)) (wac (aac .sub (aam (wv 6) aab) (aam (wv 5) aab)) aa0))))
 aad)))
 (aaa (aqF (i:=4) hp (wgm (wgc ae1 (wgc ae1 ab3))) (aaa (aa4 ae1 (aiB (wac (aac .add (aac .mul (aam (wv 0) aab) (wv 7)) (aac .mul (aam (wv 0) aab) (wv 8))) (wac (aac .add (aac .mul (aam (wv 1) aab) (wv 7)) (aac .mul (aam (wv 1) aab) (wv 8))) aa0))))
 (aaa (aa4 ae1 (aiB (wac (aac .add (aac .mul (aam (wv 2) aab) (wv 7)) (aac .mul (aam (wv 2) aab) (wv 8))) (wac (aac .add (aac .mul (aam (wv 3) aab) (wv 7)) (aac .mul (aam (wv 3) aab) (wv 8))) aa0))))
 (aaa (aa5 (PW.pt (acu (wct hu .lt (atf (T.avY) (wv 9)) (asK (T.aww) (wv 10))) (aaV (wct hu .lt (atf (T.avY) (wv 10)) (asK (T.aww) (wv 9)))))) (aaa (aal abY)
 aad) aad)
 aad))))
 (aaa (aal abY)
 aad))))
theorem aoI(T:Txt K mg)(ih:Ok P w base T k):OG P w base T k T.av8 30:=
 aaw T.av8.t apB rfl rfl rfl fun _ _ _ _ _ _ hr hu hp=>(aaa (aa4 aic (aac .sub (aam (wv 1) aab) (aam (wv 0) aab)))
 (aaa (aa4 aic (aac .sub (aam (wv 1) aab) (aam (wv 0) aab)))
 (aaa (aa4 aic (anK (T.avY) aab (aau ih.oz7 hr T.uz7.e.1 T.uz7.e.2 T.uz7.b .nil rfl (wrc (wv 2) (wrc (wv 3) aak)))))
 (aaa (aal (acK (wac (aac .fdiv (wv 2) (wv 4)) (wac (aac .fdiv (wv 3) (wv 4)) aa0))))
 aad))))
theorem auO(T:Txt K mg)(ih:Ok P w base T k):OG P w base T k T.uz4 31:=
 aaw T.uz4.t avb rfl rfl rfl fun _ _ _ _ _ _ hr hu hp=>(aaa (aa4 alv (acZ (T.av6) (wv 0)))
 (aaa (aa4 alv (aam (wv 0) (wv 1)))
 (aaa (aa4 alv (aam (wv 0) (aac .mod (aac .add (wv 1) aab) (wv 3))))
 (aaa (aa4 alv (aam (wv 0) (wv 2)))
 (aaa (aa4 alv (aam (wv 0) (aac .mod (aac .add (wv 2) aab) (wv 3))))
 (aaa (aa5 (wct hu .eq (wv 1) (wv 2)) (aaa (aal (wcv hu .eq (wv 4) (wv 5)))
 aad) aad)
 (aaa (aa5 (wct hu .eq (wv 2) (aac .add (wv 1) aab)) (aaa (aal (acv (wcv hu .ne (wv 4) (wv 5)) (ajs (wcv hu .eq (aau ih.awx hr T.av8.e.1 T.av8.e.2 T.av8.b .nil rfl (wrc (wv 5) (wrc (wv 4) aak))) (aau ih.awx hr T.av8.e.1 T.av8.e.2 T.av8.b .nil rfl (wrc (wv 5) (wrc (wv 7) aak)))))))
 aad) aad)
 (aaa (aa5 (PW.pt (ahm (wct hu .eq (wv 1) aab) (acF (wct hu .eq (wv 2) (aac .sub (wv 3) aab))))) (aaa (aal (acv (wcv hu .ne (wv 4) (wv 5)) (ajs (wcv hu .eq (aau ih.awx hr T.av8.e.1 T.av8.e.2 T.av8.b .nil rfl (wrc (wv 4) (wrc (wv 5) aak))) (aau ih.awx hr T.av8.e.1 T.av8.e.2 T.av8.b .nil rfl (wrc (wv 4) (wrc (wv 6) aak)))))))
 aad) aad)
 (aaa (aal (afu (aau ih.awC hr T.awf.e.1 T.awf.e.2 T.awf.b .nil rfl (wrc (wv 4) (wrc (wv 5) (wrc (wv 6) (wrc (wv 7) aak)))))))
 aad)))))))))
theorem aus(T:Txt K mg)(ih:Ok P w base T k):OG P w base T k T.uz5 32:=
 aaw T.uz5.t auN rfl rfl rfl fun _ _ _ _ _ _ hr hu hp=>(aaa (agY hp (wr1 (T.av5) (acZ (T.av6) (wv 0))) (wg1 ap9) (aaa (agY hp (wr2 (T.av5) (wv 1) (acZ (T.av6) (wv 0))) (wg1 ap9) (aaa (aa5 (wtr (aau ih.oz4 hr T.uz4.e.1 T.uz4.e.2 T.uz4.b .nil rfl (wrc (wv 0) (wrc (wv 1) (wrc (wv 2) aak))))) (aaa (aal (acK (wac (wv 1) (wac (wv 2) aa0))))
 aad) aad)
 aad))
 aad))
 (aaa (aal af4)
 aad))
theorem aqB(T:Txt K mg)(ih:Ok P w base T k):OG P w base T k T.awm 33:=
 aaw T.awm.t aqa rfl rfl rfl fun _ _ _ _ _ _ hr hu hp=>(aaa (aa4 agd aab)
 (aaa (aa4 agd aab)
 (aaa (alF hp (wct hu .le (aac .mul (wv 2) (wv 2)) (wv 0)) (aaa (aa4 agd (aac .mul (wv 2) aab))
 aad))
 (aaa (alF hp (wct hu .gt (wv 2) aab) (aaa (aa5 (wct hu .le (aac .mul (aac .add (wv 1) (wv 2)) (aac .add (wv 1) (wv 2))) (wv 0)) (aaa (aa4 agd (aac .add (wv 1) (wv 2)))
 aad) aad)
 (aaa (aa4 agd (aac .fdiv (wv 2) aab))
 aad)))
 (aaa (aal (wv 1))
 aad)))))
theorem arX(T:Txt K mg)(ih:Ok P w base T k):OG P w base T k T.awg 34:=
 aaw T.awg.t asb rfl rfl rfl fun _ _ _ _ _ _ hr hu hp=>(aaa (aa4 afR aab)
 (aaa (agY hp (wr1 (T.av5) (acZ (T.av6) (wv 0))) (wg1 afR) (aaa (aa4 afR (aam (wv 0) (aac .sub (wv 2) aab)))
 (aaa (aa4 afR (aam (wv 0) (wv 2)))
 (aaa (aa4 afR (aac .sub (aac .add (wv 1) (aac .mul (aam (wv 3) aab) (aam (wv 4) aab))) (aac .mul (aam (wv 3) aab) (aam (wv 4) aab))))
 aad))))
 (aaa (aal (wv 1))
 aad)))
theorem auy(T:Txt K mg)(ih:Ok P w base T k):OG P w base T k T.uz6 35:=
 aaw T.uz6.t avd rfl rfl rfl fun _ _ _ _ _ _ hr hu hp=>(aaa (aa5 (PW.pt (acu (abz (wtr (alK .tuple (T.av4) (T.avJ) (wv 0)))) (aaV (wct hu .ne (acZ (T.av6) (wv 0)) aab)))) (aaa (aal abY)
 aad) aad)
 (aaa (aa5 (PW.pt (acu (abz (wtr (aau ih.aw7 hr T.avX.e.1 T.avX.e.2 T.avX.b .nil rfl (wrc (aam (wv 0) aab) aak)))) (acu (abz (wtr (aau ih.aw7 hr T.avX.e.1 T.avX.e.2 T.avX.b .nil rfl (wrc (aam (wv 0) aab) aak)))) (aaV (wct hu .lt (aam (wv 0) aab) aab))))) (aaa (aal abY)
 aad) aad)
 (aaa (aal (wcv hu .eq (aau ih.oz7 hr T.uz7.e.1 T.uz7.e.2 T.uz7.b .nil rfl (wrc (aam (wv 0) aab) (wrc (aam (wv 0) aab) aak))) aab))
 aad)))
theorem aoK(T:Txt K mg)(ih:Ok P w base T k):OG P w base T k T.avV 36:=
 aaw T.avV.t ap5 rfl rfl rfl fun _ _ _ _ _ _ hr hu hp=>(aaa (aa4 abN (aam (wv 0) (wv 2)))
 (aaa (aa4 abN (aam (wv 0) (aac .mod (aac .add (wv 2) aab) (acZ (T.av6) (wv 0)))))
 (aaa (aa4 abN (aau ih.oz7 hr T.uz7.e.1 T.uz7.e.2 T.uz7.b .nil rfl (wrc (aac .sub (aam (wv 6) aab) (aam (wv 5) aab)) (wrc (aac .sub (aam (wv 6) aab) (aam (wv 5) aab)) aak))))
 (aaa (aa4 abN (aac .fdiv (aac .sub (aam (wv 6) aab) (aam (wv 5) aab)) (wv 7)))
 (aaa (aa4 abN (aac .fdiv (aac .sub (aam (wv 6) aab) (aam (wv 5) aab)) (wv 7)))
 (aaa (aa4 abN (aac .add (aac .mul (wv 8) (wv 8)) (aac .mul (wv 9) (wv 9))))
 (aaa (aij (aam (wv 3) aab) (wgc abN (wgc abN ab3)))
 (aaa (aij (aam (wv 3) aab) (wgc abN (wgc abN ab3)))
 (aaa (aa4 abN (aac .mul (aac .sub (wv 11) (aac .mul (aam (aam (wv 0) (wv 1)) aab) (wv 12))) (wv 14)))
 (aaa (aa4 abN (aac .mul (aac .sub (wv 13) (aac .mul (aam (aam (wv 0) (wv 1)) aab) (wv 14))) (wv 12)))
 (aaa (aa4 abN (aac .sub (aac .mul (wv 9) (wv 15)) (aac .mul (wv 8) (wv 16))))
 (aaa (aa5 (wct hu .lt (aau ih.awG hr T.awg.e.1 T.awg.e.2 T.awg.b .nil rfl (wrc (wv 0) aak)) aab) (aaa (aa4 abN (aac .sub aab (wv 17)))
 aad) aad)
 (aaa (aal (wcv hu .eq (aac .mul (wv 17) (aau ih.awV hr T.awm.e.1 T.awm.e.2 T.awm.b .nil rfl (wrc (aac .mul aab (wv 10)) aak))) (aac .mul (aac .mul (aac .mul (aac .mul aab (wv 4)) (wv 10)) (wv 12)) (wv 14))))
 aad)))))))))))))
theorem aqZ(T:Txt K mg)(ih:Ok P w base T k):OG P w base T k T.awp 37:=
 aaw T.awp.t as7 rfl rfl rfl fun _ _ _ _ _ _ hr hu hp=>(aaa (aa4 ac2 (aam (wv 0) (aac .sub (wv 1) aab)))
 (aaa (aa4 ac2 (aam (wv 0) (wv 1)))
 (aaa (aa4 ac2 (aam (wv 0) (aac .mod (aac .add (wv 1) aab) (acZ (T.av6) (wv 0)))))
 (aaa (aa4 ac2 (aac .mul (aac .sub (aam (wv 4) aab) (aam (wv 3) aab)) (aac .sub (aam (wv 5) aab) (aam (wv 4) aab))))
 (aaa (aa4 ac2 (aac .sub (wv 6) (aac .mul (aac .sub (aam (wv 4) aab) (aam (wv 3) aab)) (aac .sub (aam (wv 5) aab) (aam (wv 4) aab)))))
 (aaa (aa5 (wct hu .ne (wv 6) aab) (aaa (aal abY)
 aad) aad)
 (aaa (aij (aam (wv 2) aab) (wgc ac2 (wgc ac2 ab3)))
 (aaa (aij (aam (wv 2) aab) (wgc ac2 (wgc ac2 ab3)))
 (aaa (aa4 ac2 (aac .mul (aac .mul (aac .sub (wv 7) (aac .mul (aam (wv 4) aab) (wv 8))) (wv 10)) (aac .sub (aam (wv 5) aab) (aam (wv 4) aab))))
 (aaa (aa4 ac2 (aac .mul (aac .mul (aac .sub (wv 9) (aac .mul (aam (wv 4) aab) (wv 10))) (wv 8)) (aac .sub (aam (wv 5) aab) (aam (wv 4) aab))))
 (aaa (aal (wcv hu .eq (aac .add (wv 11) (wv 12)) aab))
 aad)))))))))))
theorem auq(T:Txt K mg)(ih:Ok P w base T k):OG P w base T k T.uz8 38:=
 aaw T.uz8.t avx rfl rfl rfl fun _ _ _ _ _ _ hr hu hp=>(aaa (aa5 (PW.pt (acu (abz (wtr (alK .list (T.av4) (T.avZ) (wv 1)))) (aaV (wct hu .ne (acZ (T.av6) (wv 1)) (acZ (T.av6) (wv 0)))))) (aaa (aal abY)
 aad) aad)
 (aaa (agY hp (wr1 (T.av5) (acZ (T.av6) (wv 0))) (wg1 ari) (aaa (aa5 (PW.pt (acu (abz (wtr (alK .tuple (T.av4) (T.avJ) (aam (wv 1) (wv 3))))) (aaV (wct hu .ne (acZ (T.av6) (aam (wv 1) (wv 3))) aab)))) (aaa (aal abY)
 aad) aad)
 (aaa (aa5 (PW.pt (acu (abz (wtr (aau ih.oz6 hr T.uz6.e.1 T.uz6.e.2 T.uz6.b .nil rfl (wrc (aam (aam (wv 1) (wv 3)) aab) aak)))) (aaV (abz (wtr (aau ih.oz6 hr T.uz6.e.1 T.uz6.e.2 T.uz6.b .nil rfl (wrc (aam (aam (wv 1) (wv 3)) aab) aak))))))) (aaa (aal abY)
 aad) aad)
 (aaa (aa4 ari (aac .mod (aac .sub (wv 3) aab) (acZ (T.av6) (wv 0))))
 (aaa (aa5 (abz (wtr (aau ih.aw4 hr T.avV.e.1 T.avV.e.2 T.avV.b .nil rfl (wrc (wv 0) (wrc (wv 3) (wrc (wv 4) (wrc (aam (wv 1) (wv 3)) (wrc (wv 2) aak)))))))) (aaa (aal abY)
 aad) aad)
 (aaa (aa5 (abz (wtr (aau ih.aw4 hr T.avV.e.1 T.avV.e.2 T.avV.b .nil rfl (wrc (wv 0) (wrc (wv 3) (wrc (wv 3) (wrc (aam (wv 1) (wv 3)) (wrc (wv 2) aak)))))))) (aaa (aal abY)
 aad) aad)
 (aaa (aa5 (abz (wtr (aau ih.awR hr T.awp.e.1 T.awp.e.2 T.awp.b .nil rfl (wrc (wv 0) (wrc (wv 3) (wrc (aam (wv 1) (wv 3)) aak)))))) (aaa (aal abY)
 aad) aad)
 aad)))))))
 (aaa (aal abY)
 aad)))
theorem aul(T:Txt K mg)(ih:Ok P w base T k):OG P w base T k T.uz9 39:=
 aaw T.uz9.t aue rfl rfl rfl fun _ _ _ _ _ _ hr hu hp=>(aaa (aa4 akR (aac .add aab (aac .mod (aam (wv 0) aab) aab)))
 (aaa (aa5 (wct hu .eq (aac .mod (aam (wv 0) aab) aab) aab) (aaa (aa4 akR (aam (aiB (wac aab (wac aab (wac aab (wac aab aa0))))) (aac .mod (aam (wv 0) aab) aab)))
 (aaa (aa4 akR (aam (aiB (wac aab (wac aab (wac aab (wac aab aa0))))) (aac .mod (aam (wv 0) aab) aab)))
 (aaa (aal (agl (abX (f:=fun σ st=>one (ev (cfX fns aar k) afl .v σ st)) rfl (abk (sc:=(aaf sz9).names) (N:=ass) (N':=agu) rfl rfl rfl rfl (by decide +kernel)) (by decide) (wr1 (T.av5) (wv 1)) (fun _ _ _ _ _=>(wg1 akI)) (fun _ _ _ _ _=>ab8 (acK (wac (aac .sub (aac .mod (aam (wv 0) (aac .add aab (aac .mul aab (wv 6)))) (wv 2)) (wv 3)) (wac (aac .sub (aac .mod (aam (wv 0) (aac .add aab (aac .mul aab (wv 6)))) (wv 2)) (wv 3)) aa0)))) (fun _=>rfl) (fun _ _=>rfl)) fun _ _ _ _ h=>ab1 h))
 aad))) aad)
 (aaa (aa4 akR (aac .add aab (aac .mod (aam (wv 0) aab) aab)))
 (aaa (qmk akR (alC ih.awT hr T.awh.e.1 T.awh.e.2 T.awh.b .nil rfl (wrc (aau ih.awF hr T.awt.e.1 T.awt.e.2 T.awt.b .nil rfl (wrc (wv 0) (wrc (wv 1) aak))) (wrc (aam (wv 0) aab) aak))))
 (aaa (aa5 (wct hu .eq (aac .mod (aac .fdiv (aam (wv 0) aab) aab) aab) aab) (aaa (aa4 akR (aac .mod (aam (wv 0) aab) (wv 1)))
 (aaa (avu (i:=4) (wv 5) (aam (wv 4) (aac .mod (aac .add (aac .add (wv 5) aab) (aac .mod (aam (wv 0) aab) (aac .sub (wv 1) aab))) (wv 1))))
 aad)) aad)
 (ad9 (aaa (aal (wv 4))
 aad)))))))
theorem amr(T:Txt K mg)(ih:Ok P w base T k):OG P w base T k T.awa 40:=
 aaw T.awa.t al8 rfl rfl rfl fun _ _ _ _ _ _ hr hu hp=>(aaa (aa4 acb (aau ih.awI hr T.awd.e.1 T.awd.e.2 T.awd.b .nil rfl (wrc (wv 0) (wrc aab aak))))
 (aaa (aa4 acb (aau ih.oz9 hr T.uz9.e.1 T.uz9.e.2 T.uz9.b .nil rfl (wrc (wv 1) aak)))
 (aaa (aa4 acb (aac .mod (aam (wv 1) aab) aab))
 (aaa (aa4 acb abY)
 (aaa (aa4 acb (aiB aa0))
 (aaa (aqY acb (auk T) (auJ T) (fun E pn hp=>(aaa (aa4 acb (aau ih.awK hr T.awb.e.1 T.awb.e.2 T.awb.b .nil rfl (wrc (apU (T.avZ) (wv 2)) (wrc (wv 3) aak))))
 aad)) (fun e=>(aaa (aa4 acb (acv (asJ (aja T) (auE T) (T.av4) (asL T) (wv 6)) (ajs (afu (asJ (aja T) (aur T) (T.av4) (auK T) (wv 6))))))
 aad)))
 (aaa (aa5 (wct hu .notN (aau ih.oz5 hr T.uz5.e.1 T.uz5.e.2 T.uz5.b .nil rfl (wrc (wv 2) aak)) af4) (aaa (aal (wv 4))
 aad) aad)
 (aaa (aal (acv (afu (wv 4)) (ajs (aau ih.oz8 hr T.uz8.e.1 T.uz8.e.2 T.uz8.b .nil rfl (wrc (wv 2) (wrc (wv 5) (wrc (wv 3) aak)))))))
 aad))))))))
theorem all(T:Txt K mg):∀k,Ok P w base T k
 | 0=>⟨aag (sub:=aar),aag (sub:=aar),aag (sub:=aar),aag (sub:=aar),aag (sub:=aar),aag (sub:=aar),aag (sub:=aar),aag (sub:=aar),aag (sub:=aar),aag (sub:=aar),aag (sub:=aar),aag (sub:=aar),aag (sub:=aar),aag (sub:=aar),aag (sub:=aar),aag (sub:=aar),aag (sub:=aar),aag (sub:=aar),aag (sub:=aar),aag (sub:=aar),aag (sub:=aar),aag (sub:=aar),aag (sub:=aar),aag (sub:=aar),aag (sub:=aar),aag (sub:=aar),aag (sub:=aar),aag (sub:=aar),aag (sub:=aar),aag (sub:=aar),aag (sub:=aar),aag (sub:=aar),aag (sub:=aar),aag (sub:=aar),aag (sub:=aar),aag (sub:=aar),aag (sub:=aar),aag (sub:=aar),aag (sub:=aar),aag (sub:=aar),aag (sub:=aar)⟩
 | k+1=>⟨apa T (all T k),apD T (all T k),aqh T (all T k),ap0 T (all T k),apm T (all T k),arl T (all T k),asA T (all T k),aq7 T (all T k),aq0 T (all T k),apN T (all T k),aoU T (all T k),apQ T (all T k),arK T (all T k),apE T (all T k),arO T (all T k),aqp T (all T k),arD T (all T k),asd T (all T k),aqs T (all T k),asr T (all T k),arM T (all T k),asi T (all T k),ask T (all T k),auP T (all T k),are T (all T k),av1 T (all T k),aoW T (all T k),aqH T (all T k),aps T (all T k),asn T (all T k),aoI T (all T k),auO T (all T k),aus T (all T k),aqB T (all T k),arX T (all T k),auy T (all T k),aoK T (all T k),aqZ T (all T k),auq T (all T k),aul T (all T k),amr T (all T k)⟩
end
end Pg
end IP
end
section
namespace IP
open PySem PySem.Spec L2
namespace Pg
noncomputable def asO:Prop:=∀ns:List Int,ns.length≤63→∃s,run true fns aar aai 16 40 [.val (.lst (ns.map .int))] []=.ok (.val (.bl true)) s
noncomputable abbrev amj(G:Gx):Sp:=fun vs H Q _=>spG G (run true fns aar aai 16) (agr fns) 40 vs H Q fun _ _ _=>False
theorem all_mk{l:W.OpenLaw}{w:World}{K:W.Frag}{h:Heap}{mg:Str→Option Value}{fa:Addr}(X:K.In h)(Gn:h.Ns mainGlobals mg)(hfa:mg "law"=some (.ref fa))
  (aez1:W.nsIn K mainGlobals "GradeError"=some (some (.ref ez1)))
  (aez2:W.nsIn K mainGlobals "NoSuch"=some (some (.ref ez2)))
  (aez0:W.nsIn K mainGlobals "Crossed"=some (some (.ref ez0)))
  (qez0:W.excIn K ez0 [.type "ValueError",.type "Exception",.type "BaseException",.type "object"] "ValueError.__new__"=true)
  (hsp:W.specialIn K (.builtin "object.__class__") "__get__"=some (some (.builtin "getset_descriptor.__get__")))
  (htk:W.takesIn K (.builtin "object.__class__")=some true)
  (gaz1:W.findIn K (.ref ez1) "__getattribute__"=some (some (.builtin "BaseException.__getattribute__")))
  (gnz1:W.findIn K (.ref ez1) "__getattr__"=some none)
  (dcz1:W.hasDictIn K ez1=true)
  (caz1:W.findIn K (.ref ez1) "__class__"=some (some (.builtin "object.__class__")))
  (moz1:W.mroIn K ez1 (.type "object")=some true)
  (mbz1:W.mroIn K ez1 (.type "BaseException")=some true)
  (gaz2:W.findIn K (.ref ez2) "__getattribute__"=some (some (.builtin "BaseException.__getattribute__")))
  (gnz2:W.findIn K (.ref ez2) "__getattr__"=some none)
  (dcz2:W.hasDictIn K ez2=true)
  (caz2:W.findIn K (.ref ez2) "__class__"=some (some (.builtin "object.__class__")))
  (moz2:W.mroIn K ez2 (.type "object")=some true)
  (mbz2:W.mroIn K ez2 (.type "BaseException")=some true)
  (gaz0:W.findIn K (.ref ez0) "__getattribute__"=some (some (.builtin "BaseException.__getattribute__")))
  (gnz0:W.findIn K (.ref ez0) "__getattr__"=some none)
  (dcz0:W.hasDictIn K ez0=true)
  (caz0:W.findIn K (.ref ez0) "__class__"=some (some (.builtin "object.__class__")))
  (moz0:W.mroIn K ez0 (.type "object")=some true)
  (mbz0:W.mroIn K ez0 (.type "BaseException")=some true)
  (avA:W.kitOne K (.ref ez1) (.ref ez2)=some false)
  (avO:W.kitOne K (.ref ez2) (.ref ez2)=some true)
  (avN:W.kitOne K (.ref ez0) (.ref ez2)=some false)
  (avC:W.kitOne K (.ref ez1) (.ref ez0)=some false)
  (avP:W.kitOne K (.ref ez2) (.ref ez0)=some false)
  (avK:W.kitOne K (.ref ez0) (.ref ez0)=some true)
  (avB:W.exmOne K (.ref ez1) (.ref ez1)=some true)
  (avL:W.exmOne K (.ref ez2) (.ref ez1)=some true)
  (avI:W.exmOne K (.ref ez0) (.ref ez1)=some true)
  (jz23:FH K "crossing" "crossing" aqG .none fz23 vz23)
  (jz35:FH K "sides_cross" "sides_cross" as3 .none fz35 vz35)
  (jz34:FH K "side_ends" "side_ends" apg .none fz34 vz34)
  (jz32:FH K "run_together" "run_together" arj .none fz32 vz32)
  (jz25:FH K "have_common_point" "have_common_point" apl .none fz25 vz25)
  (jz36:FH K "spans_meet" "spans_meet" apd .none fz36 vz36)
  (jz31:FH K "reaches_across" "reaches_across" arr .none fz31 vz31)
  (jz40:FH K "turn" "turn" ao3 .none fz40 vz40)
  (jz21:FH K "along" "along" apj .none fz21 vz21)
  (jz37:FH K "square" "square" arQ .none fz37 vz37)
  (jz42:FH K "whole_root" "whole_root" arI .none fz42 vz42)
  (jz27:FH K "lowest_terms" "lowest_terms" aqO .none fz27 vz27)
  (jz24:FH K "greatest_divisor" "greatest_divisor" aqJ .none fz24 vz24)
  (jz29:FH K "outline" "outline" alk .none fz29 vz29)
  (jz33:FH K "runs_leftward" "runs_leftward" ar0 .none fz33 vz33)
  (jz30:FH K "outward_vector" "outward_vector" aqT .none fz30 vz30)
  (jz26:FH K "hem_corner" "hem_corner" as1 .none fz26 vz26)
  (jz22:FH K "beside" "beside" apO .none fz22 vz22)
  (jz41:FH K "where_they_cut" "where_they_cut" aqq .none fz41 vz41)
  (jz38:FH K "square_of" "square_of" apq .none fz38 vz38)
  (jz39:FH K "thousandfold_length" "thousandfold_length" apH .none fz39 vz39)
  (jz28:FH K "moved_number" "moved_number" asx .none fz28 vz28)
  (jz20:FH K "_law_whole" "_law_whole" aqA .none fz20 vz20)
  (jz3:FH K "_law_at" "_law_at" sz3 .none fz3 vz3)
  (jz14:FH K "_law_stir" "_law_stir" ap6 .none fz14 vz14)
  (jz7:FH K "_law_gcd" "_law_gcd" sz7 .none fz7 vz7)
  (jz16:FH K "_law_strides" "_law_strides" aq6 .none fz16 vz16)
  (jz13:FH K "_law_simple" "_law_simple" as8 .none fz13 vz13)
  (jz17:FH K "_law_swung" "_law_swung" akZ .none fz17 vz17)
  (jz11:FH K "_law_parted" "_law_parted" apz .none fz11 vz11)
  (jz19:FH K "_law_way" "_law_way" apL .none fz19 vz19)
  (jz4:FH K "_law_crossed" "_law_crossed" sz4 .none fz4 vz4)
  (jz5:FH K "_law_first" "_law_first" sz5 .none fz5 vz5)
  (jz12:FH K "_law_root" "_law_root" arm .none fz12 vz12)
  (jz18:FH K "_law_twice" "_law_twice" ap3 .none fz18 vz18)
  (jz6:FH K "_law_fraction" "_law_fraction" sz6 .none fz6 vz6)
  (jz10:FH K "_law_on_hem" "_law_on_hem" arJ .none fz10 vz10)
  (jz15:FH K "_law_straight" "_law_straight" asf .none fz15 vz15)
  (jz8:FH K "_law_hems" "_law_hems" sz8 .none fz8 vz8)
  (jz9:FH K "_law_line" "_law_line" sz9 .none fz9 vz9)
  (j_law:FH K "law" "law" agi .none f_law v_law)
  (z_abs:W.nsIn K mainGlobals "abs"=some none)
  (z_bool:W.nsIn K mainGlobals "bool"=some none)
  (z_enumerate:W.nsIn K mainGlobals "enumerate"=some none)
  (z_int:W.nsIn K mainGlobals "int"=some none)
  (z_isinstance:W.nsIn K mainGlobals "isinstance"=some none)
  (z_len:W.nsIn K mainGlobals "len"=some none)
  (z_list:W.nsIn K mainGlobals "list"=some none)
  (z_max:W.nsIn K mainGlobals "max"=some none)
  (z_min:W.nsIn K mainGlobals "min"=some none)
  (z_range:W.nsIn K mainGlobals "range"=some none)
  (z_sorted:W.nsIn K mainGlobals "sorted"=some none)
  (z_tuple:W.nsIn K mainGlobals "tuple"=some none):
  ∃(fd:FuncData) (G:Gx),(∀(s:Shared) (v:Value),BindsTo s fd ⟨[v],[]⟩ [("_law_script",v)])∧∀base:Heap,K.In base→base.Ns mainGlobals mg→FnOk l.prog w K mg base CX0 32 fa fd ["_law_script"] (amj G):=by
 have e:=hfa.symm.trans (W.mg_of X Gn j_law.a)
 cases e
 let T:Txt K mg:=⟨ez1,W.mg_of X Gn aez1,ez2,W.mg_of X Gn aez2,ez0,W.mg_of X Gn aez0,qez0,⟨gaz1,gnz1,dcz1,caz1,hsp,htk,moz1,mbz1⟩,⟨gaz2,gnz2,dcz2,caz2,hsp,htk,moz2,mbz2⟩,⟨gaz0,gnz0,dcz0,caz0,hsp,htk,moz0,mbz0⟩,avA,avO,avN,avC,avP,avK,avB,avL,avI,⟨fz23,_,aap jz23.l jz23.c jz23.k,.all (abo 1 (fun _=>rfl)),⟨W.mg_of X Gn jz23.a,jz23.k⟩⟩,⟨fz35,_,aap jz35.l jz35.c jz35.k,.all (abo 3 (fun _ _ _=>rfl)),⟨W.mg_of X Gn jz35.a,jz35.k⟩⟩,⟨fz34,_,aap jz34.l jz34.c jz34.k,.all (abo 2 (fun _ _=>rfl)),⟨W.mg_of X Gn jz34.a,jz34.k⟩⟩,⟨fz32,_,aap jz32.l jz32.c jz32.k,.all (abo 3 (fun _ _ _=>rfl)),⟨W.mg_of X Gn jz32.a,jz32.k⟩⟩,⟨fz25,_,aap jz25.l jz25.c jz25.k,.all (abo 2 (fun _ _=>rfl)),⟨W.mg_of X Gn jz25.a,jz25.k⟩⟩,⟨fz36,_,aap jz36.l jz36.c jz36.k,.all (abo 3 (fun _ _ _=>rfl)),⟨W.mg_of X Gn jz36.a,jz36.k⟩⟩,⟨fz31,_,aap jz31.l jz31.c jz31.k,.all (abo 2 (fun _ _=>rfl)),⟨W.mg_of X Gn jz31.a,jz31.k⟩⟩,⟨fz40,_,aap jz40.l jz40.c jz40.k,.all (abo 3 (fun _ _ _=>rfl)),⟨W.mg_of X Gn jz40.a,jz40.k⟩⟩,⟨fz21,_,aap jz21.l jz21.c jz21.k,.all (abo 3 (fun _ _ _=>rfl)),⟨W.mg_of X Gn jz21.a,jz21.k⟩⟩,⟨fz37,_,aap jz37.l jz37.c jz37.k,.all (abo 2 (fun _ _=>rfl)),⟨W.mg_of X Gn jz37.a,jz37.k⟩⟩,⟨fz42,_,aap jz42.l jz42.c jz42.k,.all (abo 1 (fun _=>rfl)),⟨W.mg_of X Gn jz42.a,jz42.k⟩⟩,⟨fz27,_,aap jz27.l jz27.c jz27.k,.all (abo 2 (fun _ _=>rfl)),⟨W.mg_of X Gn jz27.a,jz27.k⟩⟩,⟨fz24,_,aap jz24.l jz24.c jz24.k,.all (abo 2 (fun _ _=>rfl)),⟨W.mg_of X Gn jz24.a,jz24.k⟩⟩,⟨fz29,_,aap jz29.l jz29.c jz29.k,.all (abo 2 (fun _ _=>rfl)),⟨W.mg_of X Gn jz29.a,jz29.k⟩⟩,⟨fz33,_,aap jz33.l jz33.c jz33.k,.all (abo 1 (fun _=>rfl)),⟨W.mg_of X Gn jz33.a,jz33.k⟩⟩,⟨fz30,_,aap jz30.l jz30.c jz30.k,.all (abo 3 (fun _ _ _=>rfl)),⟨W.mg_of X Gn jz30.a,jz30.k⟩⟩,⟨fz26,_,aap jz26.l jz26.c jz26.k,.all (abo 4 (fun _ _ _ _=>rfl)),⟨W.mg_of X Gn jz26.a,jz26.k⟩⟩,⟨fz22,_,aap jz22.l jz22.c jz22.k,.all (abo 3 (fun _ _ _=>rfl)),⟨W.mg_of X Gn jz22.a,jz22.k⟩⟩,⟨fz41,_,aap jz41.l jz41.c jz41.k,.all (abo 5 (fun _ _ _ _ _=>rfl)),⟨W.mg_of X Gn jz41.a,jz41.k⟩⟩,⟨fz38,_,aap jz38.l jz38.c jz38.k,.all (abo 1 (fun _=>rfl)),⟨W.mg_of X Gn jz38.a,jz38.k⟩⟩,⟨fz39,_,aap jz39.l jz39.c jz39.k,.all (abo 1 (fun _=>rfl)),⟨W.mg_of X Gn jz39.a,jz39.k⟩⟩,⟨fz28,_,aap jz28.l jz28.c jz28.k,.all (abo 3 (fun _ _ _=>rfl)),⟨W.mg_of X Gn jz28.a,jz28.k⟩⟩,⟨fz20,_,aap jz20.l jz20.c jz20.k,.all (abo 1 (fun _=>rfl)),⟨W.mg_of X Gn jz20.a,jz20.k⟩⟩,⟨fz3,_,aap jz3.l jz3.c jz3.k,.all (abo 2 (fun _ _=>rfl)),⟨W.mg_of X Gn jz3.a,jz3.k⟩⟩,⟨fz14,_,aap jz14.l jz14.c jz14.k,.all (abo 2 (fun _ _=>rfl)),⟨W.mg_of X Gn jz14.a,jz14.k⟩⟩,⟨fz7,_,aap jz7.l jz7.c jz7.k,.all (abo 2 (fun _ _=>rfl)),⟨W.mg_of X Gn jz7.a,jz7.k⟩⟩,⟨fz16,_,aap jz16.l jz16.c jz16.k,.all (abo 3 (fun _ _ _=>rfl)),⟨W.mg_of X Gn jz16.a,jz16.k⟩⟩,⟨fz13,_,aap jz13.l jz13.c jz13.k,.all (abo 2 (fun _ _=>rfl)),⟨W.mg_of X Gn jz13.a,jz13.k⟩⟩,⟨fz17,_,aap jz17.l jz17.c jz17.k,.all (abo 2 (fun _ _=>rfl)),⟨W.mg_of X Gn jz17.a,jz17.k⟩⟩,⟨fz11,_,aap jz11.l jz11.c jz11.k,.all (abo 4 (fun _ _ _ _=>rfl)),⟨W.mg_of X Gn jz11.a,jz11.k⟩⟩,⟨fz19,_,aap jz19.l jz19.c jz19.k,.all (abo 2 (fun _ _=>rfl)),⟨W.mg_of X Gn jz19.a,jz19.k⟩⟩,⟨fz4,_,aap jz4.l jz4.c jz4.k,.all (abo 3 (fun _ _ _=>rfl)),⟨W.mg_of X Gn jz4.a,jz4.k⟩⟩,⟨fz5,_,aap jz5.l jz5.c jz5.k,.all (abo 1 (fun _=>rfl)),⟨W.mg_of X Gn jz5.a,jz5.k⟩⟩,⟨fz12,_,aap jz12.l jz12.c jz12.k,.all (abo 1 (fun _=>rfl)),⟨W.mg_of X Gn jz12.a,jz12.k⟩⟩,⟨fz18,_,aap jz18.l jz18.c jz18.k,.all (abo 1 (fun _=>rfl)),⟨W.mg_of X Gn jz18.a,jz18.k⟩⟩,⟨fz6,_,aap jz6.l jz6.c jz6.k,.all (abo 1 (fun _=>rfl)),⟨W.mg_of X Gn jz6.a,jz6.k⟩⟩,⟨fz10,_,aap jz10.l jz10.c jz10.k,.all (abo 5 (fun _ _ _ _ _=>rfl)),⟨W.mg_of X Gn jz10.a,jz10.k⟩⟩,⟨fz15,_,aap jz15.l jz15.c jz15.k,.all (abo 3 (fun _ _ _=>rfl)),⟨W.mg_of X Gn jz15.a,jz15.k⟩⟩,⟨fz8,_,aap jz8.l jz8.c jz8.k,.all (abo 3 (fun _ _ _=>rfl)),⟨W.mg_of X Gn jz8.a,jz8.k⟩⟩,⟨fz9,_,aap jz9.l jz9.c jz9.k,.all (abo 1 (fun _=>rfl)),⟨W.mg_of X Gn jz9.a,jz9.k⟩⟩,⟨f_law,_,aap j_law.l j_law.c j_law.k,.all (abo 1 (fun _=>rfl)),⟨W.mg_of X Gn j_law.a,j_law.k⟩⟩,W.mg_none_of X Gn z_abs,W.mg_none_of X Gn z_bool,W.mg_none_of X Gn z_enumerate,W.mg_none_of X Gn z_int,W.mg_none_of X Gn z_isinstance,W.mg_none_of X Gn z_len,W.mg_none_of X Gn z_list,W.mg_none_of X Gn z_max,W.mg_none_of X Gn z_min,W.mg_none_of X Gn z_range,W.mg_none_of X Gn z_sorted,W.mg_none_of X Gn z_tuple⟩
 exact⟨W.fnOf "law" "law" (abn agi) (aaP agi) (aaf agi) .none v_law.kV v_law.dc v_law.pm v_law.an v_law.cd v_law.ct,Gof T,fun s v=>.of_eq rfl,fun base _ _=>ano (all (base:=base) (P:=l.prog) (w:=w) T 16).o_law⟩
theorem afv:∀{K:List (Addr×Obj)}{a:Addr}{o:Obj},K.lookup a=some o→(a,o)∈K
 | [],a,o,h=>by cases h
 | (b,u)::r,a,o,h=>by
  rw[List.lookup_cons]at h
  split at h
  ·rename_i hb
   cases h
   rw[beq_iff_eq.mp hb]
   exact List.mem_cons_self
  ·exact List.mem_cons_of_mem _ (afv h)
noncomputable def amt(K:W.Frag):Bool:=K.all fun p=>match p.2.cls with | .type n=>n != "list" | _=>true
theorem ai4{K:W.Frag}(h:amt K=true){a:Addr}{o:Obj}(e:K.lookup a=some o)(hc:o.cls=.type "list"):False:=by
 have hm:=afv e
 have q:=List.all_eq_true.mp h _ hm
 rw[show(a,o).2.cls=.type "list" from hc]at q
 simp at q
theorem ab7{G:Gx}{w:Wo}{H:Hp}:∀ns:List Int,aat G w H (ns.map T.int) (ns.map V.int)
 | []=>rfl
 | n::r=>⟨.int n,_,rfl,rfl,ab7 r⟩
theorem walk(M:asO){l:W.OpenLaw}{q:Program}{loose:List Str}{XP:(Str→Option Value)→Heap→Prop}{YP:World→Heap→Prop}{d:DefRec}{K:Params→W.Frag}(hn:l.most=some 63)(hdf:d.params.defaults=[])
  (hY:∀(w:World) (h:Heap),YP w h→(K w.params).In h) (hK:∀w:World,amt (K w.params)=true)
  (F:∀(w:World) (mg:Str→Option Value) (fa:Addr) (h:Heap),(K w.params).In h→h.Ns mainGlobals mg→mg d.name=some (.ref fa)→
   ∃(fd:FuncData) (G:Gx),(∀(s:Shared) (u:Value),BindsTo s fd ⟨[u],[]⟩ [("_law_script",u)])∧∀base:Heap,(K w.params).In base→base.Ns mainGlobals mg→FnOk l.prog w (K w.params) mg base CX0 32 fa fd ["_law_script"] (amj G)):
  W.WalkO q loose XP YP l.row.toRowW d [] (fun f vs=>PySem.call f vs):=by
 refine L2.walk_of (n:=63) (k:=32) (x:="_law_script") (CX:=fun _=>CX0) (sp:=fun w=>fun vs H Q E=>∃(a:Addr) (ns:List Int),vs=[.ref a]∧ns.length≤63∧Rd H a (.lst (ns.map V.int))∧∀H',Q (.bl true) H') hn (by decide) hdf ⟨rfl,by decide,by decide⟩ hY (fun w mg fa h a b c=>?_) (fun w H a ns hl hO hS=>?_) fun _ _ _ _ _ z=>z
 ·obtain⟨fd,G,hb,hF⟩:=F w mg fa h a b c
  refine⟨fd,hb,fun base kb nb=>?_⟩
  have hf:=hF base kb nb
  refine⟨fun vs H Q E ⟨a,ns,e,_⟩=>by subst e;rfl,fun A outer s H args us vs Q E hr e0 hb hv ⟨a,ns,e,hl,hR,hq⟩=>hf.run A outer s H args us vs Q E hr e0 hb hv ?_⟩
  subst e
  obtain⟨st,e⟩:=M ns hl
  refine⟨⟨0,fun _=>0,fun b=>b=a⟩,[],[.val (.lst (ns.map .int))],⟨rfl,fun l m h=>absurd h (Nat.not_lt_zero _),fun l h=>absurd h (Nat.not_lt_zero _),fun l c h=>by simp at h,fun b hb=>⟨ns.map V.int,by have hb:b=a:=hb;subst hb;exact hR⟩⟩,⟨.ref a,[],rfl,⟨a,_,rfl,rfl,hR,ab7 ns⟩,rfl⟩,?_⟩
  rw[e]
  exact⟨fun _ w' H' v _ _ r=>by cases r;exact hq _,fun z=>by cases z⟩
 ·have hR:Rd H a (.lst (ns.map V.int)):=hS.elim id fun⟨o,_,_,e,hc,_⟩=>(ai4 (hK w) e hc).elim
  exact⟨a,ns,rfl,hl,hR,fun _=>rfl⟩
end Pg
end IP
end
section
namespace IP
open L2
theorem aah{i j:Int}(h:i.natAbs<2^64):ahG i j=true:=by
 unfold ahG
 simp[h]
theorem ab5{i j:Int}(h:j.natAbs<2^64):ahG i j=true:=by
 unfold ahG
 simp[h]
section
variable{x f:Bool}{σ:Fr}{s:Sto}{i j:Int}{ts us:List T}{t a b c d:T}{r:R}
@[simp] theorem amE:abm x false (.ret r s)=.ok r s:=rfl
@[simp] theorem al3:abm x true (.retO ts s)=.ok (.val (.lst ts)) s:=rfl
@[simp] theorem alu:abm x false (.next σ s)=.ok (.val .non) s:=rfl
@[simp] theorem at2 (b:Bool) (m n:Res R):onB (.val (.bl b)) m n=if b=true then m else n:=by cases b<;>rfl
@[simp] theorem asu (b:Bool) (m n:SR):apS (.val (.bl b)) m n=if b=true then m else n:=by cases b<;>rfl
@[simp] theorem aso (g:Int→Res R):onI (.val (.int i)) g=g i:=rfl
@[simp] theorem as4 (g:T→Res (List T)):onV (.val t) g=g t:=rfl
@[simp] theorem aqe (g:List T→Res R):onL (.val (.lst ts)) g=g ts:=rfl
@[simp] theorem aom {α β:Type} (v:α) (g:α→Res β):onO (some v) g=g v:=rfl
@[simp] theorem int_int:(R.val (.int i)).int?=some i:=rfl
@[simp] theorem arw:(R.val t).val?=some t:=rfl
@[simp] theorem arz:(R.bor ts).val?=none:=rfl
@[simp] theorem aoY:(R.val (.lst ts)).lst?=some ts:=rfl
@[simp] theorem apJ:(R.val (.lst ts)).seq=some ts:=rfl
@[simp] theorem aru:(R.bor ts).seq=some ts:=rfl
@[simp] theorem aqo:(R.val (.lst ts)).sq2=some ts:=rfl
@[simp] theorem aql:(R.val (.tup ts)).sq2=some ts:=rfl
@[simp] theorem asm:(R.bor ts).sq2=some ts:=rfl
@[simp] theorem apC:(R.val (.lst ts)).sq3=some ts:=rfl
@[simp] theorem arb:(R.val (.tup ts)).sq3=some ts:=rfl
@[simp] theorem asE (b:Bool):tru (.val (.bl b))=some b:=rfl
@[simp] theorem ar7:tru (.val (.int i))=some (i != 0):=rfl
@[simp] theorem atv:one (.ok (.val t) s)=.ok (some t) s:=rfl
@[simp] theorem asH {p:Prop} [Decidable p] (m n:Res R) (k:R→Sto→SR):(if p then m else n).st σ k=if p then m.st σ k else n.st σ k:=by split<;>rfl
@[simp] theorem aoe {α β:Type}{p:Prop} [Decidable p] (m n:Res α) (k:α→Sto→Res β):(if p then m else n).bind k=if p then m.bind k else n.bind k:=by split<;>rfl
@[simp] theorem amU {p:Prop} [Decidable p] (m n:SR):abm x f (if p then m else n)=if p then abm x f m else abm x f n:=by split<;>rfl
@[simp] theorem alM {p:Prop} [Decidable p] (m n:SR) (k:Fr→Sto→SR):(if p then m else n).bind k=if p then m.bind k else n.bind k:=by split<;>rfl
@[simp] theorem alm {p:Prop} [Decidable p] (m n:SR) (i:Nat):(if p then m else n).unlock i=if p then m.unlock i else n.unlock i:=by split<;>rfl
@[simp] theorem alp (v:R) (i:Nat):(SR.ret v s).unlock i=.ret v s:=rfl
@[simp] theorem ajQ (i:Nat):(SR.next σ s).unlock i=.next (IP.unlock σ i) s:=rfl
@[simp] theorem alL:opR .add (.val (.int i)) (.val (.int j))=some (.val (.int (i+j))):=rfl
@[simp] theorem amW:opR .sub (.val (.int i)) (.val (.int j))=some (.val (.int (i-j))):=rfl
theorem aao(h:ahG i j=true):opR .mul (.val (.int i)) (.val (.int j))=some (.val (.int (i*j))):=by simp[opR,opI,h]
theorem aaA(h:0<j):opR .mod (.val (.int i)) (.val (.int j))=some (.val (.int (Int.fmod i j))):=by simp[opR,opI,show j≠0 by omega]
theorem aj9:(2:Nat)^64<big:=by unfold big;decide +kernel
theorem abe(h:0<j)(hb:j<2^64):opR .fdiv (.val (.int i)) (.val (.int j))=some (.val (.int (Int.fdiv i j))):=by
 have:j.natAbs<big:=Nat.lt_trans (by omega) aj9
 simp[opR,opI,show j≠0 by omega,this]
@[simp] theorem avo:adc .lt (.val (.int i)) (.val (.int j))=some (decide (i<j)):=rfl
@[simp] theorem au7:adc .le (.val (.int i)) (.val (.int j))=some (decide (i≤j)):=rfl
@[simp] theorem auT:adc .gt (.val (.int i)) (.val (.int j))=some (decide (j<i)):=rfl
@[simp] theorem au4:adc .ge (.val (.int i)) (.val (.int j))=some (decide (j≤i)):=rfl
@[simp] theorem auH:adc .eq (.val a) (.val b)=eqD 8 a b:=rfl
@[simp] theorem avj:adc .ne (.val a) (.val b)=(eqD 8 a b).map (!·):=rfl
@[simp] theorem atN:adc .isN r (.val .non)=some r.isNon:=rfl
@[simp] theorem arv:adc .notN r (.val .non)=some (!r.isNon):=rfl
@[simp] theorem asM:eqD 8 (.int i) (.int j)=some (i==j):=by simp[eqD]
@[simp] theorem asY:abE (.val (.tup [a,b])) 0=some a:=rfl
@[simp] theorem at1:abE (.val (.tup [a,b])) 1=some b:=rfl
theorem aba{n:Nat}(h:ts[n]?=some t):abE (.val (.lst ts)) (n:Int)=some t:=by
 have hl:=(List.getElem?_eq_some_iff.mp h).1
 have h2:=(List.getElem?_eq_some_iff.mp h).2
 simp[abE,L2.atI,L2.ixN,hl,h2]
theorem akb{n:Nat}(h:ts[n]?=some t):abE (.bor ts) (n:Int)=some t:=by
 have hl:=(List.getElem?_eq_some_iff.mp h).1
 have h2:=(List.getElem?_eq_some_iff.mp h).2
 simp[abE,L2.atI,L2.ixN,hl,h2]
@[simp] theorem alw:b1R .len (.val (.lst ts))=some (.val (.int ts.length)):=rfl
@[simp] theorem alz:b1R .len (.val (.tup ts))=some (.val (.int ts.length)):=rfl
@[simp] theorem als:b1R .len (.bor ts)=some (.val (.int ts.length)):=rfl
@[simp] theorem asZ:b1R .abs (.val (.int i))=some (.val (.int (if i<0 then -i else i))):=rfl
@[simp] theorem asz:b1R .list (.val (.lst ts))=some (.val (.lst ts)):=rfl
@[simp] theorem alq:b1R .sorted (.val (.lst [.int i,.int j]))=some (.val (.lst [.int (min i j),.int (max i j)])):=by
 by_cases h:j<i
 ·simp[b1R,aaX,ad8,agq,h,show min i j=j by omega,show max i j=i by omega]
 ·simp[b1R,aaX,ad8,agq,h,show min i j=i by omega,show max i j=j by omega]
@[simp] theorem arP:b1R .max (.val (.lst [.int i,.int j]))=some (.val (.int (max i j))):=by
 have h:b1R .max (.val (.lst [.int i,.int j]))=some (.val (.int (if j>i then j else i))):=rfl
 rw[h,show(if j>i then j else i)=max i j by split<;>omega]
@[simp] theorem art:b1R .min (.val (.lst [.int i,.int j]))=some (.val (.int (min i j))):=by
 have h:b1R .min (.val (.lst [.int i,.int j]))=some (.val (.int (if j<i then j else i))):=rfl
 rw[h,show(if j<i then j else i)=min i j by split<;>omega]
@[simp] theorem apG:abE (.val (.lst [a,b])) 0=some a:=rfl
@[simp] theorem arN:abE (.val (.lst [a,b])) 1=some b:=rfl
end
theorem aci{C:Cf}{g:Tg}{it:E}{b:List S}{σ:Fr}{s s1:Sto}{ts:List T}(h:ev C it .j σ s=.ok (.val (.lst ts)) s1)(hit:∀i,it≠.var i):ex C (.for_ g it b) σ s=abp g (fun σ s=>exs C b σ s) ts σ s1:=by
 have e:ex C (.for_ g it b) σ s=(ev C it .j σ s).st σ fun x s1=>onS x.lst? fun ts=>abp g (fun σ s=>exs C b σ s) ts σ s1:=by
  cases it<;>first|rfl|exact absurd rfl (hit _)
 rw[e,h]
 rfl
theorem adp:1000≤lim:=by decide
theorem akl:(1000:Int)≤(lim:Int):=Int.ofNat_le.mpr adp
theorem ajC{j:Int}(h:j≤1000):decide (j≤(lim:Int))=true:=decide_eq_true (Int.le_trans h akl)
theorem aiJ{n:Nat}(h:n≤1000):bnd (n:Int)=true:=by
 unfold bnd
 simp
 omega
theorem ahS{C:Cf}{a:E}{σ:Fr}{s s1:Sto}{j:Int}(h:ev C a .v σ s=.ok (.val (.int j)) s1):ev C (.rng1 a) .j σ s=if bnd j&&decide (j≤lim)then .ok (.val (.lst (aax 0 j))) s1 else .stuck:=by
 unfold ev
 rw[h]
 rfl
theorem ahT{C:Cf}{a b:E}{σ:Fr}{s s1 s2:Sto}{i j:Int}(h:ev C a .v σ s=.ok (.val (.int i)) s1)(h':ev C b .v σ s1=.ok (.val (.int j)) s2):ev C (.rng2 a b) .j σ s=if bnd i&&bnd j&&decide (j-i≤lim)then .ok (.val (.lst (aax i j))) s2 else .stuck:=by
 unfold ev
 rw[h]
 show(ev C b .v σ s1).bind _=_
 rw[h']
 rfl
theorem akQ{α:Type}{b:Bool}{x y:α}(h:b=true):(if b then x else y)=x:=by rw[h];rfl
theorem ail{a b:Bool}(h:a=true)(h':b=true):(a&&b)=true:=by rw[h,h'];rfl
theorem abM{C:Cf}{a:E}{σ:Fr}{s s1:Sto}{n:Nat}(h:ev C a .v σ s=.ok (.val (.int (n:Int))) s1)(hn:n≤1000):ev C (.rng1 a) .j σ s=.ok (.val (.lst (aax 0 n))) s1:=
 (ahS h).trans (akQ (ail (aiJ hn) (ajC (Int.ofNat_le.mpr hn))))
theorem aki{C:Cf}{a b:E}{σ:Fr}{s s1 s2:Sto}{m n:Nat}(h:ev C a .v σ s=.ok (.val (.int (m:Int))) s1)(h':ev C b .v σ s1=.ok (.val (.int (n:Int))) s2)(hm:m≤1000)(hn:n≤1000):ev C (.rng2 a b) .j σ s=.ok (.val (.lst (aax m n))) s2:=
 (ahT h h').trans (akQ (ail (ail (aiJ hm) (aiJ hn)) (ajC (by omega))))
theorem agN{C:Cf}{a:E}{σ:Fr}{s s1:Sto}{j:Int}(h:ev C a .v σ s=.ok (.val (.int j)) s1):ev C (.rng1 a) .i σ s=if bnd j&&decide (j≤lim)then .ok (.val (.lst (aax 0 j))) s1 else .stuck:=by
 unfold ev
 rw[h]
 rfl
theorem afy{C:Cf}{a:E}{σ:Fr}{s s1:Sto}{n:Nat}(h:ev C a .v σ s=.ok (.val (.int (n:Int))) s1)(hn:n≤1000):ev C (.rng1 a) .i σ s=.ok (.val (.lst (aax 0 n))) s1:=
 (agN h).trans (akQ (ail (aiJ hn) (ajC (Int.ofNat_le.mpr hn))))
theorem aj4{C:Cf}{e:E}{σ:Fr}{s s1:Sto}{r:R}(h:ev C e .v σ s=.ok r s1):ex C (.ret e) σ s=.ret r s1:=by unfold ex;rw[h];rfl
theorem agV{C:Cf}{e:E}{i:Nat}{σ:Fr}{s s1:Sto}{t:T}(h:ev C e .v σ s=.ok (.val t) s1):ex C (.asg i e) σ s=.next (put σ i t) s1:=by unfold ex;rw[h];rfl
theorem acP{F:T→Sto→Res (Option T)}{s:Sto}{α:Type}(f:α→T)(P:α→Prop):∀ts:List T,(∀(m:Nat) (t:T),ts[m]?=some t→∃x,P x∧F t s=.ok (some (f x)) s)→∃xs:List α,xs.length=ts.length∧(∀x∈xs,P x)∧aa6 F ts s=.ok (xs.map f) s
 | [],_=>⟨[],rfl,by simp,rfl⟩
 | t::ts,h=>by
  obtain⟨x,hx,e⟩:=h 0 t rfl
  obtain⟨xs,h1,h2,h3⟩:=acP f P ts fun m u hm=>h (m+1) u (by simpa using hm)
  refine⟨x::xs,by simp[h1],fun y hy=>?_,?_⟩
  ·rcases List.mem_cons.mp hy with rfl|z
   ·exact hx
   ·exact h2 y z
  ·unfold aa6
   rw[e]
   simp[h3]
theorem aeN{C:Cf}{e it:E}{g:Tg}{σ:Fr}{s s1 s2:Sto}{ts q:List T}(h:ev C it .i σ s=.ok (.val (.lst ts)) s1)(h2:aa6 (fun t s=>onO (aav σ g t) fun σ'=>one (ev C e .v σ' s)) ts s1=.ok q s2):ev C (.comp e g it) .v σ s=.ok (.val (.lst q)) s2:=by
 unfold ev
 rw[h]
 show(aa6 (fun t s=>onO (aav σ g t) fun σ'=>one (ev C e .v σ' s)) ts s1).bind _=_
 rw[h2]
 rfl
theorem adM{C:Cf}{a:S}{r:List S}{σ:Fr}{s:Sto}:exs C (a::r) σ s=(ex C a σ s).bind fun σ1 s1=>exs C r σ1 s1:=by simp only[exs]
theorem aae{C:Cf}{a:S}{r:List S}{σ σ1:Fr}{s s1:Sto}(h:ex C a σ s=.next σ1 s1):exs C (a::r) σ s=exs C r σ1 s1:=by rw[adM,h];rfl
theorem abO{C:Cf}{a:S}{r:List S}{σ:Fr}{s s1:Sto}{v:R}(h:ex C a σ s=.ret v s1):exs C (a::r) σ s=.ret v s1:=by rw[adM,h];rfl
@[simp] theorem atO (m:Res R):al4 .j m=m:=rfl
@[simp] theorem atM (m:Res R):al4 .i m=m:=rfl
section
variable{g:Tg}{body:Fr→Sto→SR}{s:Sto}
theorem abj(I:Nat→Fr→Prop):∀(ts:List T) (n:Nat) (σ:Fr),I n σ→(∀(m:Nat) (t:T) (σ:Fr),ts[m]?=some t→I (n+m) σ→∃σ1 σ2,aav σ g t=some σ1∧body σ1 s=.next σ2 s∧I (n+m+1) σ2)→
  ∃σ',abp g body ts σ s=.next σ' s∧I (n+ts.length) σ'
 | [],n,σ,h,_=>⟨σ,rfl,h⟩
 | t::ts,n,σ,h,st=>by
  obtain⟨σ1,σ2,e1,e2,e3⟩:=st 0 t σ rfl h
  obtain⟨σ',e4,e5⟩:=abj I ts (n+1) σ2 e3 fun m u σ em hm=>by
   obtain⟨a,b,c1,c2,c3⟩:=st (m+1) u σ (by simpa using em) (by rw[show n+(m+1)=n+1+m by omega];exact hm)
   exact⟨a,b,c1,c2,by rw[show n+1+m+1=n+(m+1)+1 by omega];exact c3⟩
  refine⟨σ',?_,by rw[List.length_cons,show n+(ts.length+1)=n+1+ts.length by omega];exact e5⟩
  show onS (aav σ g t) _=_
  rw[e1]
  show(body σ1 s).bind _=_
  rw[e2]
  exact e4
noncomputable def aaZ{α:Type}(q:Nat→Option α):Nat→Nat→Option α
 | _,0=>none
 | n,m+1=>match q n with
  | some v=>some v
  | none=>aaZ q (n+1) m
theorem aco(I:Nat→Fr→Prop)(q:Nat→Option R):∀(ts:List T) (n:Nat) (σ:Fr),I n σ→
  (∀(m:Nat) (t:T) (σ:Fr),ts[m]?=some t→I (n+m) σ→∃σ1,aav σ g t=some σ1∧match q (n+m)with
   | some r=>body σ1 s=.ret r s
   | none=>∃σ2,body σ1 s=.next σ2 s∧I (n+m+1) σ2)→
  match aaZ q n ts.length with
  | some r=>abp g body ts σ s=.ret r s
  | none=>∃σ',abp g body ts σ s=.next σ' s∧I (n+ts.length) σ'
 | [],n,σ,h,_=>⟨σ,rfl,h⟩
 | t::ts,n,σ,h,st=>by
  obtain⟨σ1,e1,e2⟩:=st 0 t σ rfl h
  rw[List.length_cons]
  unfold aaZ
  cases hq:q n with
  | some r=>
   rw[show n+0=n from rfl,hq]at e2
   show onS (aav σ g t) _=_
   rw[e1]
   show(body σ1 s).bind _=_
   rw[show body σ1 s=_ from e2]
   rfl
  | none=>
   rw[show n+0=n from rfl,hq]at e2
   obtain⟨σ2,e2,e3⟩:=e2
   have ih:=aco I q ts (n+1) σ2 e3 fun m u σ em hm=>by
    obtain⟨a,c1,c2⟩:=st (m+1) u σ (by simpa using em) (by rw[show n+(m+1)=n+1+m by omega];exact hm)
    refine⟨a,c1,?_⟩
    rw[show n+(m+1)=n+1+m by omega]at c2
    exact c2
   have e0:abp g body (t::ts) σ s=abp g body ts σ2 s:=by
    show onS (aav σ g t) _=_
    rw[e1]
    show(body σ1 s).bind _=_
    rw[e2]
    rfl
   rw[e0]
   show(match aaZ q (n+1) ts.length with|some r=>_|none=>_)
   cases hf:aaZ q (n+1) ts.length with
   | some r=>rw[hf]at ih;exact ih
   | none=>
    rw[hf]at ih
    obtain⟨σ',e4,e5⟩:=ih
    exact⟨σ',e4,by rw[show n+(ts.length+1)=n+1+ts.length by omega];exact e5⟩
theorem aaG{i j:Int}{n:Nat}{t:T}(h:(aax i j)[n]?=some t):t=.int (i+n)∧n<(j-i).toNat:=by
 unfold aax at h
 rw[List.getElem?_map]at h
 cases e:(List.range (j-i).toNat)[n]? with
 | none=>rw[e]at h;cases h
 | some m=>
  rw[e]at h
  have hn:=(List.getElem?_eq_some_iff.mp e).1
  have:=(List.getElem?_eq_some_iff.mp e).2
  simp at this hn
  subst this
  simp at h
  exact⟨h.symm,by omega⟩
theorem aaF(i j:Int):(aax i j).length=(j-i).toNat:=by unfold aax;simp
end
end IP
end
section
namespace IP
@[simp] theorem apW:type_of% @exs.eq_1:=@exs.eq_1
@[simp] theorem aoA:type_of% @exs.eq_2:=@exs.eq_2
@[simp] theorem asT:type_of% @ex.eq_1:=@ex.eq_1
@[simp] theorem asN:type_of% @ex.eq_2:=@ex.eq_2
@[simp] theorem at6:type_of% @ex.eq_3:=@ex.eq_3
@[simp] theorem atg:type_of% @ex.eq_4:=@ex.eq_4
@[simp] theorem asF:type_of% @ex.eq_6:=@ex.eq_6
@[simp] theorem asG:type_of% @ex.eq_8:=@ex.eq_8
@[simp] theorem asI:type_of% @ex.eq_9:=@ex.eq_9
@[simp] theorem aoP:type_of% @ex.eq_12:=@ex.eq_12
@[simp] theorem ap2:type_of% @ex.eq_13:=@ex.eq_13
@[simp] theorem ast:type_of% @ex.eq_14:=@ex.eq_14
@[simp] theorem apP:type_of% @ex.eq_17:=@ex.eq_17
@[simp] theorem aq8:type_of% @ex.eq_18:=@ex.eq_18
@[simp] theorem asW:type_of% @ev.eq_1:=@ev.eq_1
@[simp] theorem atE:type_of% @ev.eq_2:=@ev.eq_2
@[simp] theorem ath:type_of% @ev.eq_4:=@ev.eq_4
@[simp] theorem atm:type_of% @ev.eq_5:=@ev.eq_5
@[simp] theorem atT:type_of% @ev.eq_6:=@ev.eq_6
@[simp] theorem atx:type_of% @ev.eq_7:=@ev.eq_7
@[simp] theorem atw:type_of% @ev.eq_8:=@ev.eq_8
@[simp] theorem atk:type_of% @ev.eq_9:=@ev.eq_9
@[simp] theorem arB:type_of% @ev.eq_10:=@ev.eq_10
@[simp] theorem ap1:type_of% @ev.eq_11:=@ev.eq_11
@[simp] theorem aqI:type_of% @ev.eq_13:=@ev.eq_13
@[simp] theorem ard:type_of% @ev.eq_14:=@ev.eq_14
@[simp] theorem aqC:type_of% @ev.eq_15:=@ev.eq_15
@[simp] theorem arp:type_of% @ev.eq_16:=@ev.eq_16
@[simp] theorem aqf:type_of% @ev.eq_17:=@ev.eq_17
@[simp] theorem aqK:type_of% @ev.eq_18:=@ev.eq_18
@[simp] theorem aqX:type_of% @ev.eq_20:=@ev.eq_20
@[simp] theorem as9:type_of% @ev.eq_21:=@ev.eq_21
@[simp] theorem aoG:type_of% @ev.eq_23:=@ev.eq_23
@[simp] theorem apI:type_of% @ev.eq_28:=@ev.eq_28
@[simp] theorem aq2:type_of% @ev.eq_29:=@ev.eq_29
@[simp] theorem arH:type_of% @ev.eq_30:=@ev.eq_30
@[simp] theorem aoR:type_of% @ev.eq_32:=@ev.eq_32
@[simp] theorem aoQ:type_of% @ev.eq_34:=@ev.eq_34
@[simp] theorem apc:type_of% @evs.eq_1:=@evs.eq_1
@[simp] theorem asq:type_of% @evs.eq_2:=@evs.eq_2
@[simp] theorem aoJ:type_of% @evr.eq_1:=@evr.eq_1
@[simp] theorem aoT:type_of% @evr.eq_2:=@evr.eq_2
@[simp] theorem amq:type_of% @aaR.eq_1:=@aaR.eq_1
@[simp] theorem arL:type_of% @ofR.eq_1:=@ofR.eq_1
@[simp] theorem aqy:type_of% @ofR.eq_2:=@ofR.eq_2
@[simp] theorem aop:type_of% @look.eq_1:=@look.eq_1
@[simp] theorem aoM:type_of% @put.eq_1:=@put.eq_1
section
variable{x f:Bool}{σ:Fr}{s:Sto}{i j:Int}{ts us:List T}{t a b c:T}{r:R}{l d k:Nat}{sub:Nat→Nat→Bool}{fs:List (Option T)}
@[simp] theorem atp:(R.val .non).dr s=.val .non:=rfl
@[simp] theorem avn (b:Bool):(R.val (.bl b)).dr s=.val (.bl b):=rfl
@[simp] theorem atC:(R.val (.int i)).dr s=.val (.int i):=rfl
@[simp] theorem ato:(R.val (.tup ts)).dr s=.val (.tup ts):=rfl
@[simp] theorem atc:(R.val (.lst ts)).dr s=.val (.lst ts):=rfl
@[simp] theorem at8:(R.val (.exc d)).dr s=.val (.exc d):=rfl
@[simp] theorem atn:(R.bor ts).dr s=.bor ts:=rfl
@[simp] theorem as0:adQ sub (.val (.exc d)) (.cls k)=some (sub d k):=rfl
@[simp] theorem ald:adQ sub (.val (.int i)) .int=some true:=rfl
@[simp] theorem aj8:adQ sub (.val (.int i)) .bool=some false:=rfl
@[simp] theorem akw:adQ sub (.val (.tup ts)) .tuple=some true:=rfl
@[simp] theorem akS:adQ sub (.val (.lst ts)) .list=some true:=rfl
@[simp] theorem ajI:adQ sub (.bor ts) .list=some true:=rfl
@[simp] theorem al1:abm true f (.exc d σ s)=.exc d s:=rfl
@[simp] theorem aoh:(SR.next σ s).nox=.next σ s:=rfl
@[simp] theorem ars:(SR.ret r s).nox=.ret r s:=rfl
@[simp] theorem aqS (m:Res R):onN (.val .non) m=m:=rfl
@[simp] theorem aqv:(R.val (.tup ts)).tup?=some ts:=rfl
@[simp] theorem amF (b:Bool):b1R .int (.val (.bl b))=some (.val (.int (if b then 1 else 0))):=rfl
@[simp] theorem alr:b1R .int (.val (.int i))=some (.val (.int i)):=rfl
@[simp] theorem akC:b1R .list (.bor ts)=some (.val (.lst ts)):=rfl
@[simp] theorem ajt:b1R .tuple (.bor ts)=some (.val (.tup ts)):=rfl
@[simp] theorem ajc:b1R .tuple (.val (.lst ts))=some (.val (.tup ts)):=rfl
theorem adW{C:Cf}{e it:E}{i:Nat}{α:Type}(xs:List α)(g:α→T)(f:α→T)(ha:ev C it .i σ s=.ok (.val (.lst (xs.map g))) s)
  (h:∀x∈xs,ev C e .v (put σ i (g x)) s=.ok (.val (f x)) s):ev C (.comp e (.one i) it) .v σ s=.ok (.val (.lst (xs.map f))) s:=by
 refine aeN ha ?_
 clear ha
 induction xs with
 | nil=>rfl
 | cons x xs ih=>
  have h0:=h x (by simp)
  have h1:=ih fun y hy=>h y (by simp[hy])
  rw[List.map_cons,List.map_cons]
  unfold aa6
  rw[show onO (aav σ (.one i) (g x)) (fun σ'=>one (ev C e .v σ' s))=.ok (some (f x)) s by show one (ev C e .v (put σ i (g x)) s)=_;rw[h0];rfl]
  simp only[Res.bind_ok]
  rw[h1]
  rfl
end
@[simp] theorem auc (a b:Bool):eqD 8 (.bl a) (.bl b)=some (a==b):=by simp[eqD]
theorem ao9{a b c d:Int}{z:Int}(h0:0≤z)(h1:z<4):∃v,(v=a∨v=b∨v=c∨v=d)∧abE (.val (.lst [.int a,.int b,.int c,.int d])) z=some (.int v):=by
 have:z=0∨z=1∨z=2∨z=3:=by omega
 rcases this with rfl|rfl|rfl|rfl
 ·exact⟨a,by simp,rfl⟩
 ·exact⟨b,by simp,rfl⟩
 ·exact⟨c,by simp,rfl⟩
 ·exact⟨d,by simp,rfl⟩
theorem af6{C:Cf}{c:E}{a b:List S}{σ:Fr}{s s1:Sto}(h:ev C c .t σ s=.ok (.val (.bl true)) s1):ex C (.ifs c a b) σ s=exs C a σ s1:=by
 rw[ex.eq_9,h]
 rfl
theorem aan{fs:List Fn}{sub:Nat→Nat→Bool}{k f:Nat}{F:Fn}{rs:List R}{s:Sto}(hF:fs[f]?=some F)(hl:rs.length=F.pars):run true fs sub aai (k+1) f rs s=abm true F.fr (exs (cfX fs sub k) F.body (aaR F rs) s):=by
 conv=>lhs;unfold run
 rw[hF]
 exact if_pos hl
theorem ah4{C:Cf}{a:S}{r:List S}{σ σ1:Fr}{s s1:Sto}{d:Nat}(h:ex C a σ s=.exc d σ1 s1):exs C (a::r) σ s=.exc d σ1 s1:=by rw[adM,h];rfl
theorem ahC{C:Cf}{b h:List S}{c:Nat}{nm:Option Nat}{σ σ1:Fr}{s s1:Sto}(e:exs C b σ s=.next σ1 s1):ex C (.try_ b c nm h) σ s=.next σ1 s1:=by simp[e]
theorem agf{C:Cf}{b h:List S}{c d i:Nat}{σ σ1 σ2:Fr}{s s1 s2:Sto}(e:exs C b σ s=.exc d σ1 s1)(hs:C.sub d c=true)(e2:exs C h (put σ1 i (.exc d)) s1=.next σ2 s2):ex C (.try_ b c (some i) h) σ s=.next (σ2.set i none) s2:=by
 rw[show ex C (.try_ b c (some i) h) σ s=_ from ex.eq_18 ..]
 rw[e]
 simp only[hs,if_true]
 rw[e2]
 rfl
end IP
end
section
namespace IP
namespace Pg
open L2
variable{k:Nat}{s:Sto}
noncomputable abbrev iL(xs:List Int):List T:=xs.map .int
noncomputable abbrev tI(xs:List Int):T:=.tup (iL xs)
theorem ag0(i:Int):run true fns aar aai (k+1) auI [.val (.int i)] s=.ok (.val (.bl true)) s:=by
 rw[aan (F:=aub) rfl rfl]
 simp[arZ]
theorem auV(ns:List Int)(m:Nat):∃v,run true fns aar aai (k+1) iz3 [.val (.lst (iL ns)),.val (.int m)] s=.ok (.val (.int v)) s:=by
 rw[aan (F:=Fz3) rfl rfl]
 by_cases h:m<ns.length
 ·have hg:(ns.map T.int)[m]?=some (.int ns[m]):=by simp[h]
  have h1:=aba hg
  exact⟨ns[m],by simp[bz3,h,h1]⟩
 ·exact⟨0,by simp[bz3,h]⟩
noncomputable def aaS(v:Int):Prop:=0≤v∧v≤2147483646
theorem aa8(i:Int){j:Int}(h:0<j):0≤Int.fmod i j∧Int.fmod i j<j:=by
 rw[Int.fmod_eq_emod_of_nonneg _ (by omega)]
 exact⟨Int.emod_nonneg _ (by omega),Int.emod_lt_of_pos _ h⟩
theorem ae9(i:Int):aaS (Int.fmod i 2147483647):=by
 have:=aa8 i (j:=2147483647) (by decide)
 unfold aaS
 omega
theorem amB(ns:List Int)(n:Nat)(hn:n≤1000):∃row:List Int,row.length=n∧(∀v∈row,aaS v)∧run true fns aar aai (k+2) av0 [.val (.lst (iL ns)),.val (.int n)] s=.ok (.val (.lst (iL row))) s:=by
 obtain⟨σ',e,st,row,c,rfl,h1,h2,h3⟩:=abj (g:=.one 4) (body:=fun σ s=>exs (cfX fns aar (k+1)) aha σ s) (s:=s)
  (fun m σ=>∃(st:Int) (row:List Int) (c:Option B),σ=[some (.val (.lst (iL ns))),some (.val (.int n)),some (.val (.int st)),some (.own (iL row)),c]∧aaS st∧row.length=m∧∀v∈row,aaS v) (aax 0 n) 0 [some (.val (.lst (iL ns))),some (.val (.int n)),some (.val (.int 7)),some (.own []),none] ⟨7,[],none,rfl,⟨by decide,by decide⟩,rfl,by simp⟩ (by
   rintro m t σ hm ⟨st,row,c,rfl,h1,h2,h3⟩
   obtain⟨rfl,hlt⟩:=aaG hm
   obtain⟨v,hv⟩:=auV (k:=k) (s:=s) ns m
   have hmul:=aao (i:=st) (j:=48271) (aah (by have:=h1.1;have:=h1.2;omega))
   have hmod:=aaA (i:=st*48271+v+11) (j:=2147483647) (by decide)
   have hz:=ae9 (st*48271+v+11)
   have hlim:row.length<lim:=Nat.lt_of_lt_of_le (show row.length<1000 by omega) adp
   refine⟨[some (.val (.lst (iL ns))),some (.val (.int n)),some (.val (.int st)),some (.own (iL row)),some (.val (.int m))],[some (.val (.lst (iL ns))),some (.val (.int n)),some (.val (.int (Int.fmod (st*48271+v+11) 2147483647))),some (.own (iL (row++[Int.fmod (st*48271+v+11) 2147483647]))),some (.val (.int m))],by simp[aav],by simp[hv,hmul,hmod,abQ,aa9,hlim],Int.fmod (st*48271+v+11) 2147483647,row++[Int.fmod (st*48271+v+11) 2147483647],some (.val (.int m)),rfl,hz,by simp[h2],?_⟩
   intro x hx
   rcases List.mem_append.mp hx with z|z
   ·exact h3 x z
   ·rw[List.mem_singleton.mp z];exact hz)
 refine⟨row,?_,h3,?_⟩
 ·rw[h2,aaF];omega
 ·rw[aan (F:=atQ) rfl rfl]
  have hx:exs (cfX fns aar (k+1)) aqV (aaR atQ [.val (.lst (iL ns)),.val (.int n)]) s=.ret (.val (.lst (iL row))) s:=by
   refine(aae (σ1:=[some (.val (.lst (iL ns))),some (.val (.int n)),some (.val (.int 7)),none,none]) (s1:=s) (by simp)).trans ?_
   refine(aae (σ1:=[some (.val (.lst (iL ns))),some (.val (.int n)),some (.val (.int 7)),some (.own []),none]) (s1:=s) (by simp[acr,aa9])).trans ?_
   refine(aae ((aci (ts:=aax 0 n) (s1:=s) (abM (n:=n) (by simp) hn) (by intro _ h;cases h)).trans e)).trans ?_
   simp[frz]
  rw[hx]
  rfl
theorem abl{row:List Int}(hr:∀v∈row,aaS v){m:Nat}(h:m<row.length):∃v,aaS v∧abE (.val (.lst (iL row))) (m:Int)=some (.int v)∧row[m]?=some v:=by
 refine⟨row[m],hr _ (List.getElem_mem h),aba (by simp[h]),by simp[h]⟩
end Pg
end IP
end
section
namespace IP
namespace Pg
open L2
noncomputable def pt(p:Int×Int):T:=.tup [.int p.1,.int p.2]
noncomputable abbrev PT(p:Int×Int):R:=.val (pt p)
@[simp] theorem aug (p:Int×Int) (s:Sto):(R.val (pt p)).dr s=.val (pt p):=rfl
@[simp] theorem atr (p q:Int×Int):eqD 8 (pt p) (pt q)=some (p==q):=by
 obtain⟨a,b⟩:=p;obtain⟨c,d⟩:=q
 simp[pt,eqD,eqL]
 rfl
@[simp] theorem aok (p:Int×Int):abE (.val (pt p)) 0=some (.int p.1):=rfl
@[simp] theorem aod (p:Int×Int):abE (.val (pt p)) 1=some (.int p.2):=rfl
noncomputable def sml(p:Int×Int):Prop:=p.1.natAbs≤2^20∧p.2.natAbs≤2^20
noncomputable def abi(p q r:Int×Int):Int:=(q.1-p.1)*(r.2-p.2)-(q.2-p.2)*(r.1-p.1)
noncomputable def abu(p q r:Int×Int):Int:=(q.1-p.1)*(r.1-p.1)+(q.2-p.2)*(r.2-p.2)
theorem abq{a b:Int}(ha:a.natAbs≤2^20)(hb:b.natAbs≤2^20):(a-b).natAbs≤2^21:=by omega
theorem mul_sub{a b j:Int}(ha:a.natAbs≤2^20)(hb:b.natAbs≤2^20):opR .mul (.val (.int (a-b))) (.val (.int j))=some (.val (.int ((a-b)*j))):=aao (aah (by omega))
variable{k:Nat}{s:Sto}{p q r u:Int×Int}
theorem ahq(hp:sml p)(hq:sml q):run true fns aar aai (k+1) avz [PT p,PT q,PT r] s=.ok (.val (.int (abi p q r))) s:=by
 rw[aan (F:=⟨3,3,false,ap4⟩) rfl rfl]
 simp[ap4,mul_sub hq.1 hp.1,mul_sub hq.2 hp.2,abi]
theorem akG(hp:sml p)(hq:sml q):run true fns aar aai (k+1) atZ [PT p,PT q,PT r] s=.ok (.val (.int (abu p q r))) s:=by
 rw[aan (F:=⟨3,3,false,aqi⟩) rfl rfl]
 simp[aqi,mul_sub hq.1 hp.1,mul_sub hq.2 hp.2,abu]
theorem aaj{a b:Int}{m n:Nat}(ha:a.natAbs≤m)(hb:b.natAbs≤n):(a*b).natAbs≤m*n:=by
 rw[Int.natAbs_mul]
 exact Nat.mul_le_mul ha hb
theorem agh(hp:sml p)(hq:sml q)(hr:sml r):(abi p q r).natAbs<2^64:=by
 have h1:=aaj (abq hq.1 hp.1) (abq hr.2 hp.2)
 have h2:=aaj (abq hq.2 hp.2) (abq hr.1 hp.1)
 unfold abi
 omega
noncomputable def aa3(p q r:Int×Int):Bool:=decide (abi p q r=0)&&decide (0<abu p q r)
theorem adj(hp:sml p)(hq:sml q):run true fns aar aai (k+2) avv [PT p,PT q,PT r] s=.ok (.val (.bl (aa3 p q r))) s:=by
 rw[aan (F:=⟨3,3,false,aoN⟩) rfl rfl]
 have h1:=ahq (k:=k) (s:=s) (r:=r) hp hq
 have h2:=akG (k:=k) (s:=s) (r:=r) hp hq
 simp[aoN,h1,h2,aa3]
 split<;>simp[*]
theorem aeh(hr:sml r)(hu:sml u)(hp:sml p):run true fns aar aai (k+2) aud [.val (.tup [pt p,pt q]),.val (.tup [pt r,pt u])] s=.ok (.val (.bl (decide (abi r u p*abi r u q≤0)))) s:=by
 rw[aan (F:=⟨2,2,false,arW⟩) rfl rfl]
 have h1:=ahq (k:=k) (s:=s) (r:=p) hr hu
 have h2:=ahq (k:=k) (s:=s) (r:=q) hr hu
 have h3:=aao (i:=abi r u p) (j:=abi r u q) (aah (agh hr hu hp))
 simp[arW,h1,h2,h3]
noncomputable def ax(b:Bool)(p:Int×Int):Int:=if b then p.2 else p.1
noncomputable def ab6(b:Bool)(p q r u:Int×Int):Bool:=decide (min (ax b p) (ax b q)≤max (ax b r) (ax b u))&&decide (min (ax b r) (ax b u)≤max (ax b p) (ax b q))
theorem aiY:run true fns aar aai (k+1) atJ [.val (.tup [pt p,pt q]),.val (.tup [pt r,pt u]),.val (.int 0)] s=.ok (.val (.bl (ab6 false p q r u))) s:=by
 rw[aan (F:=⟨3,5,false,anQ⟩) rfl rfl]
 simp[anQ,ab6,ax]
 split<;>simp[*]
theorem aid:run true fns aar aai (k+1) atJ [.val (.tup [pt p,pt q]),.val (.tup [pt r,pt u]),.val (.int 1)] s=.ok (.val (.bl (ab6 true p q r u))) s:=by
 rw[aan (F:=⟨3,5,false,anQ⟩) rfl rfl]
 simp[anQ,ab6,ax]
 split<;>simp[*]
noncomputable def aaU(p q r u:Int×Int):Bool:=ab6 false p q r u&&ab6 true p q r u&&decide (abi r u p*abi r u q≤0)&&decide (abi p q r*abi p q u≤0)
theorem aiM(hp:sml p)(hq:sml q)(hr:sml r)(hu:sml u):run true fns aar aai (k+3) aut [.val (.tup [pt p,pt q]),.val (.tup [pt r,pt u])] s=.ok (.val (.bl (aaU p q r u))) s:=by
 rw[aan (F:=⟨2,2,false,arA⟩) rfl rfl]
 have h1:=aiY (k:=k+1) (s:=s) (p:=p) (q:=q) (r:=r) (u:=u)
 have h2:=aid (k:=k+1) (s:=s) (p:=p) (q:=q) (r:=r) (u:=u)
 have h3:=aeh (k:=k) (s:=s) (p:=p) (q:=q) hr hu hp
 have h4:=aeh (k:=k) (s:=s) (p:=r) (q:=u) (r:=p) (u:=q) hp hq hr
 simp[arA,h1,h2,h3,h4,aaU]
 cases ab6 false p q r u<;>cases ab6 true p q r u<;>simp
 split<;>simp[*]
variable{l:List (Int×Int)}
noncomputable abbrev LN(l:List (Int×Int)):R:=.val (.lst (l.map pt))
noncomputable def cor(l:List (Int×Int))(i:Nat):Int×Int:=l.getD (i % l.length) (0,0)
theorem aaT(h:0<l.length)(i:Nat):(l.map pt)[i % l.length]?=some (pt (cor l i)):=by
 have:=Nat.mod_lt i h
 simp[cor,List.getElem?_map,this]
theorem abW(i n:Nat):Int.fmod (i:Int) (n:Int)=((i % n:Nat):Int):=by
 rw[Int.fmod_eq_emod_of_nonneg _ (Int.natCast_nonneg n)]
 simp
theorem abV(i:Nat)(n:Nat)(h:0<n):opR .mod (.val (.int ((i:Int)+1))) (.val (.int (n:Int)))=some (.val (.int (((i+1) % n:Nat):Int))):=by
 have h3:=aaA (i:=(i:Int)+1) (j:=(n:Int)) (by omega)
 rw[h3,show((i:Int)+1)=((i+1:Nat):Int)by omega,abW]
theorem agW{i:Nat}(hi:i<l.length):run true fns aar aai (k+1) auS [LN l,.val (.int i)] s=.ok (.val (.tup [pt (cor l i),pt (cor l (i+1))])) s:=by
 rw[aan (F:=⟨2,2,false,apY⟩) rfl rfl]
 have h0:0<l.length:=by omega
 have h1:=aba (aaT h0 i)
 have h2:=aba (aaT h0 (i+1))
 rw[Nat.mod_eq_of_lt hi]at h1
 have h3:=abV i l.length h0
 generalize (i+1) % l.length=m at h2 h3
 simp[apY,h1,h2,h3]
theorem aa2(hl:∀p∈l,sml p)(i:Nat):sml (cor l i):=by
 unfold cor
 rw[List.getD_eq_getElem?_getD]
 cases e:l[i % l.length]? with
 | none=>exact⟨by decide,by decide⟩
 | some p=>exact hl p (List.mem_of_getElem? e)
noncomputable def aaE(l:List (Int×Int))(i j:Nat):Bool:=
 if i=j then cor l i==cor l (i+1)
 else if j=i+1 then aa3 (cor l (i+1)) (cor l i) (cor l (j+1))
 else if j+1=l.length∧i=0 then aa3 (cor l i) (cor l (i+1)) (cor l j)
 else aaU (cor l i) (cor l (i+1)) (cor l j) (cor l (j+1))
theorem akm{i j:Nat}(hl:∀p∈l,sml p)(hij:i≤j)(hj:j<l.length):run true fns aar aai (k+4) atF [LN l,.val (.int i),.val (.int j)] s=.ok (.val (.bl (aaE l i j))) s:=by
 rw[aan (F:=⟨3,5,false,ap8⟩) rfl rfl]
 have h1:=agW (k:=k+2) (s:=s) (l:=l) (i:=i) (by omega)
 have h2:=agW (k:=k+2) (s:=s) (l:=l) (i:=j) hj
 have h3:=adj (k:=k+1) (s:=s) (p:=cor l (i+1)) (q:=cor l i) (r:=cor l (j+1)) (aa2 hl _) (aa2 hl _)
 have h4:=adj (k:=k+1) (s:=s) (p:=cor l i) (q:=cor l (i+1)) (r:=cor l j) (aa2 hl _) (aa2 hl _)
 have h5:=aiM (k:=k) (s:=s) (p:=cor l i) (q:=cor l (i+1)) (r:=cor l j) (u:=cor l (j+1)) (aa2 hl _) (aa2 hl _) (aa2 hl _) (aa2 hl _)
 simp[ap8,h1,h2,h3,h4,h5]
 unfold aaE
 by_cases c1:i=j
 ·simp[c1]
 ·by_cases c2:j=i+1
  ·rw[if_neg (by omega),if_pos (by omega),if_neg c1,if_pos c2]
  ·rw[if_neg (by omega),if_neg (by omega),if_neg c1,if_neg c2]
   by_cases c3:j+1=l.length
   ·rw[if_pos (by omega)]
    by_cases c4:i=0
    ·rw[if_pos c4,if_pos ⟨c3,c4⟩]
    ·rw[if_neg c4,if_neg (fun z=>c4 z.2)]
   ·rw[if_neg (by omega),if_neg (fun z=>c3 z.1)]
noncomputable def ahW(f:Nat):List S:=[.for_ (.one 1) (.rng1 (.b1 .len (.var 0))) [.for_ (.one 2) (.rng2 (.var 1) (.b1 .len (.var 0))) [.ifs (.call f [.var 0,.var 1,.var 2] []) [.ret (.tup [.var 1,.var 2])] []]],.ret (.cst .non)]
noncomputable def qj(p:Nat→Nat→Bool)(i j:Nat):Option R:=if p i j then some (.val (.tup [.int i,.int j]))else none
noncomputable def qi(p:Nat→Nat→Bool)(n i:Nat):Option R:=aaZ (qj p i) i (n-i)
noncomputable def fp(p:Nat→Nat→Bool)(n:Nat):R:=(aaZ (qi p n) 0 n).getD (.val .non)
theorem aeU{C:Cf}{f:Nat}{p:Nat→Nat→Bool}{i:Nat}(hp:∀j,i≤j→j<l.length→C.cf f [LN l,.val (.int i),.val (.int j)] s=.ok (.val (.bl (p i j))) s)(hi:i<l.length)(c:Option B):
  match qi p l.length i with
  | some r=>abp (.one 2) (fun σ s=>exs C [.ifs (.call f [.var 0,.var 1,.var 2] []) [.ret (.tup [.var 1,.var 2])] []] σ s) (aax i l.length) [some (.val (.lst (l.map pt))),some (.val (.int i)),c] s=.ret r s
  | none=>∃c',abp (.one 2) (fun σ s=>exs C [.ifs (.call f [.var 0,.var 1,.var 2] []) [.ret (.tup [.var 1,.var 2])] []] σ s) (aax i l.length) [some (.val (.lst (l.map pt))),some (.val (.int i)),c] s=.next [some (.val (.lst (l.map pt))),some (.val (.int i)),c'] s:=by
 have h:=aco (g:=.one 2) (body:=fun σ s=>exs C [.ifs (.call f [.var 0,.var 1,.var 2] []) [.ret (.tup [.var 1,.var 2])] []] σ s) (s:=s) (fun _ σ=>∃c,σ=[some (.val (.lst (l.map pt))),some (.val (.int i)),c]) (qj p i) (aax i l.length) i [some (.val (.lst (l.map pt))),some (.val (.int i)),c] ⟨c,rfl⟩ ?_
 ·rw[aaF,show((l.length:Int)-(i:Int)).toNat=l.length-i by omega]at h
  unfold qi
  cases hq:aaZ (qj p i) i (l.length-i)with
  | some r=>rw[hq]at h;exact h
  | none=>
   rw[hq]at h
   obtain⟨σ',e,c',rfl⟩:=h
   exact⟨c',e⟩
 ·rintro m t σ hm ⟨c,rfl⟩
  obtain⟨rfl,hlt⟩:=aaG hm
  have hq:=hp (i+m) (by omega) (by omega)
  rw[show((i+m:Nat):Int)=(i:Int)+(m:Int)by omega]at hq
  refine⟨[some (.val (.lst (l.map pt))),some (.val (.int i)),some (.val (.int (i+m)))],by simp[aav,put],?_⟩
  unfold qj
  cases hb:p i (i+m)with
  | true=>rw[hb]at hq;simp[hq]
  | false=>rw[hb]at hq;simp[hq]
theorem aer{C:Cf}{f:Nat}{p:Nat→Nat→Bool}(hl:l.length≤1000)(hp:∀i j,i≤j→j<l.length→C.cf f [LN l,.val (.int i),.val (.int j)] s=.ok (.val (.bl (p i j))) s):
  exs C (ahW f) [some (.val (.lst (l.map pt))),none,none] s=.ret (fp p l.length) s:=by
 have h:=aco (g:=.one 1) (body:=fun σ s=>exs C [.for_ (.one 2) (.rng2 (.var 1) (.b1 .len (.var 0))) [.ifs (.call f [.var 0,.var 1,.var 2] []) [.ret (.tup [.var 1,.var 2])] []]] σ s) (s:=s) (fun _ σ=>∃b c,σ=[some (.val (.lst (l.map pt))),b,c]) (qi p l.length) (aax 0 l.length) 0 [some (.val (.lst (l.map pt))),none,none] ⟨none,none,rfl⟩ ?_
 ·rw[aaF,show((l.length:Int)-0).toNat=l.length by omega]at h
  unfold fp
  have e1:ex C (.for_ (.one 1) (.rng1 (.b1 .len (.var 0))) [.for_ (.one 2) (.rng2 (.var 1) (.b1 .len (.var 0))) [.ifs (.call f [.var 0,.var 1,.var 2] []) [.ret (.tup [.var 1,.var 2])] []]]) [some (.val (.lst (l.map pt))),none,none] s=_:=aci (ts:=aax 0 l.length) (s1:=s) (abM (by simp) hl) (by intro i h;cases h)
  cases hq:aaZ (qi p l.length) 0 l.length with
  | some r=>
   rw[hq]at h
   exact abO (e1.trans h)
  | none=>
   rw[hq]at h
   obtain⟨σ',e,b,c,rfl⟩:=h
   refine(aae (e1.trans e)).trans ?_
   simp
 ·rintro m t σ hm ⟨b,c,rfl⟩
  obtain⟨rfl,hlt⟩:=aaG hm
  have hlt:m<l.length:=by omega
  have hin:=aeU (C:=C) (f:=f) (p:=p) (i:=m) (fun j h1 h2=>hp m j h1 h2) hlt c
  refine⟨[some (.val (.lst (l.map pt))),some (.val (.int m)),c],by simp[aav,put],?_⟩
  rw[show 0+m=m by omega]
  have e1:ex C (.for_ (.one 2) (.rng2 (.var 1) (.b1 .len (.var 0))) [.ifs (.call f [.var 0,.var 1,.var 2] []) [.ret (.tup [.var 1,.var 2])] []]) [some (.val (.lst (l.map pt))),some (.val (.int m)),c] s=_:=aci (ts:=aax m l.length) (s1:=s) (aki (s1:=s) (by simp) (by simp) (by omega) hl) (by intro i h;cases h)
  cases hq:qi p l.length m with
  | some r=>
   rw[hq]at hin
   exact abO (e1.trans hin)
  | none=>
   rw[hq]at hin
   obtain⟨c',e⟩:=hin
   exact⟨_,(aae (e1.trans e)).trans (by simp only[exs]),some (.val (.int m)),c',rfl⟩
theorem adh(hl:∀p∈l,sml p)(hn:l.length≤1000):run true fns aar aai (k+5) au1 [LN l] s=.ok (fp (aaE l) l.length) s:=by
 rw[aan (F:=⟨1,3,false,atD⟩) rfl rfl]
 have h:=aer (C:=cfX fns aar (k+4)) (f:=atF) (s:=s) (l:=l) (p:=aaE l) hn (fun i j h1 h2=>akm (k:=k) hl h1 h2)
 exact congrArg (abm true false) h
end Pg
end IP
end
section
namespace SegM
noncomputable def turn(sx sy ox oy tx ty:Int):Int:=(ox-sx)*(ty-sy)-(oy-sy)*(tx-sx)
noncomputable def Below(fa fb fc fd:Int):Prop:=fa<fc∧fa<fd∧fb<fc∧fb<fd
theorem anm{p q r s fa fb fc fd:Int}(hp:0≤p)(hq:0≤q)(hr:0≤r)(hs:0≤s)(hk:0<p+q)(hrs:r+s=p+q)
  (e:p*fb+q*fa=r*fd+s*fc):¬Below fa fb fc fd:=by
 rintro⟨h1,h2,h3,h4⟩
 have M:∃M,fa≤M∧fb≤M∧M+1≤fc∧M+1≤fd:=⟨max fa fb,by omega,by omega,by omega,by omega⟩
 obtain⟨M,a1,a2,a3,a4⟩:=M
 have b1:=Int.mul_le_mul_of_nonneg_left a2 hp
 have b2:=Int.mul_le_mul_of_nonneg_left a1 hq
 have b3:=Int.mul_le_mul_of_nonneg_left a4 hr
 have b4:=Int.mul_le_mul_of_nonneg_left a3 hs
 have e1:p*M+q*M=(p+q)*M:=by grind
 have e2:r*(M+1)+s*(M+1)=(r+s)*M+(r+s):=by grind
 rw[hrs]at e2
 omega
section
variable(ax ay bx by' cx cy dx dy:Int)
theorem auA(u v:Int):
  turn cx cy dx dy ax ay*(bx*u+by'*v)-turn cx cy dx dy bx by'*(ax*u+ay*v) +
   turn ax ay bx by' cx cy*(dx*u+dy*v)-turn ax ay bx by' dx dy*(cx*u+cy*v)=0:=by
 unfold turn
 grind
theorem atU:turn cx cy dx dy ax ay-turn cx cy dx dy bx by'+turn ax ay bx by' cx cy-turn ax ay bx by' dx dy=0:=by
 unfold turn
 grind
end
theorem aiG{a b:Int}(h:a*b≤0):(0≤a∧b≤0)∨(a≤0∧0≤b):=by
 by_cases ha:0<a
 ·left
  refine⟨by omega,?_⟩
  apply Classical.byContradiction
  intro hb
  have:=Int.mul_pos ha (show 0<b by omega)
  omega
 ·by_cases ha0:a=0
  ·by_cases hb:0≤b
   ·right;omega
   ·left;omega
  ·right
   refine⟨by omega,?_⟩
   apply Classical.byContradiction
   intro hb
   have:=Int.mul_pos (show 0 < -a by omega) (show 0 < -b by omega)
   have e:-a*-b=a*b:=by grind
   omega
theorem across{ax ay bx by' cx cy dx dy u v:Int}
  (h1:turn cx cy dx dy ax ay*turn cx cy dx dy bx by'≤0) (h2:turn ax ay bx by' cx cy*turn ax ay bx by' dx dy≤0)
  (hk:turn cx cy dx dy ax ay≠turn cx cy dx dy bx by'):
  ¬Below (ax*u+ay*v) (bx*u+by'*v) (cx*u+cy*v) (dx*u+dy*v):=by
 have e:=auA ax ay bx by' cx cy dx dy u v
 have k:=atU ax ay bx by' cx cy dx dy
 generalize turn cx cy dx dy ax ay=A at *
 generalize turn cx cy dx dy bx by'=B at *
 generalize turn ax ay bx by' cx cy=C at *
 generalize turn ax ay bx by' dx dy=D at *
 generalize ax*u+ay*v=fa at *
 generalize bx*u+by'*v=fb at *
 generalize cx*u+cy*v=fc at *
 generalize dx*u+dy*v=fd at *
 rcases aiG h1 with⟨a1,a2⟩|⟨a1,a2⟩
 ·have hC:C≤0∧0≤D:=by
   rcases aiG h2 with⟨c1,c2⟩|⟨c1,c2⟩<;>omega
  refine anm (p:=A) (q:=-B) (r:=-C) (s:=D) a1 (by omega) (by omega) hC.2 (by omega) (by omega) ?_
  grind
 ·have hC:0≤C∧D≤0:=by
   rcases aiG h2 with⟨c1,c2⟩|⟨c1,c2⟩<;>omega
  refine anm (p:=-A) (q:=B) (r:=C) (s:=-D) (by omega) a2 hC.1 (by omega) (by omega) (by omega) ?_
  grind
theorem agv{px py qx qy rx ry u v:Int}(hc:turn px py qx qy rx ry=0)(h1:px≤rx)(h2:rx≤qx)(hne:px<qx):
  ∃s t:Int,0≤s∧0≤t∧0<s+t∧(s+t)*(rx*u+ry*v)=s*(px*u+py*v)+t*(qx*u+qy*v):=by
 refine⟨qx-rx,rx-px,by omega,by omega,by omega,?_⟩
 unfold turn at hc
 grind
theorem af8{s t fr fp fq:Int}(hs:0≤s)(ht:0≤t)(hk:0<s+t)(e:(s+t)*fr=s*fp+t*fq):
  (fp≤fr∨fq≤fr)∧(fr≤fp∨fr≤fq):=by
 constructor
 ·apply Classical.byContradiction
  intro h
  have b1:=Int.mul_le_mul_of_nonneg_left (show fr+1≤fp by omega) hs
  have b2:=Int.mul_le_mul_of_nonneg_left (show fr+1≤fq by omega) ht
  have e1:s*(fr+1)+t*(fr+1)=(s+t)*fr+(s+t):=by grind
  omega
 ·apply Classical.byContradiction
  intro h
  have b1:=Int.mul_le_mul_of_nonneg_left (show fp≤fr-1 by omega) hs
  have b2:=Int.mul_le_mul_of_nonneg_left (show fq≤fr-1 by omega) ht
  have e1:s*(fr-1)+t*(fr-1)=(s+t)*fr-(s+t):=by grind
  omega
noncomputable def W(p q r:Int):Prop:=(p≤r∨q≤r)∧(r≤p∨r≤q)
theorem W_l(p q:Int):W p q p:=by unfold W;omega
theorem W_r(p q:Int):W p q q:=by unfold W;omega
theorem acW{fa fb fc fd r:Int}(h1:W fa fb r)(h2:W fc fd r):¬Below fa fb fc fd:=by
 unfold W at h1 h2
 unfold Below
 omega
theorem ahc(sx sy ox oy tx ty:Int):turn ox oy sx sy tx ty=-turn sx sy ox oy tx ty:=by
 unfold turn
 grind
theorem afL{cx cy dx dy px py:Int}(hc:turn cx cy dx dy px py=0)(h1:min cx dx≤px)(h2:px≤max cx dx)(hne:cx≠dx)(u v:Int):
  W (cx*u+cy*v) (dx*u+dy*v) (px*u+py*v):=by
 by_cases hlt:cx<dx
 ·obtain⟨s,t,hs,ht,hk,e⟩:=agv (u:=u) (v:=v) hc (show cx≤px by omega) (by omega) hlt
  exact af8 hs ht hk e
 ·have hc':turn dx dy cx cy px py=0:=by rw[ahc,hc];rfl
  obtain⟨s,t,hs,ht,hk,e⟩:=agv (u:=u) (v:=v) hc' (show dx≤px by omega) (by omega) (by omega)
  have:=af8 hs ht hk e
  unfold W
  omega
theorem afk{x cy dy py u v:Int}(h1:min cy dy≤py)(h2:py≤max cy dy):W (x*u+cy*v) (x*u+dy*v) (x*u+py*v):=by
 by_cases hlt:cy<dy
 ·exact af8 (s:=dy-py) (t:=py-cy) (by omega) (by omega) (by omega) (by grind)
 ·by_cases he:cy=dy
  ·have:py=cy:=by omega
   subst this
   exact W_l _ _
  ·have:=af8 (s:=cy-py) (t:=py-dy) (fr:=x*u+py*v) (fp:=x*u+dy*v) (fq:=x*u+cy*v) (by omega) (by omega) (by omega) (by grind)
   unfold W
   omega
theorem ane{a b c d:Int}(x1:min a b≤max c d)(x2:min c d≤max a b):(min c d≤a∧a≤max c d)∨(min c d≤b∧b≤max c d)∨(min a b≤c∧c≤max a b)∨(min a b≤d∧d≤max a b):=by
 omega
theorem ak8{ax ay bx by' cx cy dx dy:Int}(hA:turn cx cy dx dy ax ay=0)(hB:turn cx cy dx dy bx by'=0)(hC:turn ax ay bx by' cx cy=0)(hD:turn ax ay bx by' dx dy=0)
  (x1:min ax bx≤max cx dx) (x2:min cx dx≤max ax bx) (y1:min ay by'≤max cy dy) (y2:min cy dy≤max ay by') (u v:Int):
  ¬Below (ax*u+ay*v) (bx*u+by'*v) (cx*u+cy*v) (dx*u+dy*v):=by
 by_cases e1:ax=bx
 ·by_cases e2:cx=dx
  ·have e3:ax=cx:=by omega
   subst e1;subst e2;subst e3
   rcases ane y1 y2 with h|h|h|h
   ·exact acW (W_l _ _) (afk h.1 h.2)
   ·exact acW (W_r _ _) (afk h.1 h.2)
   ·exact acW (afk h.1 h.2) (W_l _ _)
   ·exact acW (afk h.1 h.2) (W_r _ _)
  ·subst e1
   exact acW (W_l _ _) (afL hA (by omega) (by omega) e2 u v)
 ·by_cases e2:cx=dx
  ·subst e2
   exact acW (afL hC (by omega) (by omega) e1 u v) (W_l _ _)
  ·rcases ane x1 x2 with h|h|h|h
   ·exact acW (W_l _ _) (afL hA h.1 h.2 e2 u v)
   ·exact acW (W_r _ _) (afL hB h.1 h.2 e2 u v)
   ·exact acW (afL hC h.1 h.2 e1 u v) (W_l _ _)
   ·exact acW (afL hD h.1 h.2 e1 u v) (W_r _ _)
noncomputable def Common(ax ay bx by' cx cy dx dy:Int):Prop:=
 (min ax bx≤max cx dx∧min cx dx≤max ax bx)∧(min ay by'≤max cy dy∧min cy dy≤max ay by')∧
  turn cx cy dx dy ax ay*turn cx cy dx dy bx by'≤0∧turn ax ay bx by' cx cy*turn ax ay bx by' dx dy≤0
theorem agz{a:Int}(h:a*a≤0):a=0:=by
 rcases aiG h with⟨h1,h2⟩|⟨h1,h2⟩<;>omega
theorem acs{ax ay bx by' cx cy dx dy:Int}(h:Common ax ay bx by' cx cy dx dy)(u v:Int):
  ¬Below (ax*u+ay*v) (bx*u+by'*v) (cx*u+cy*v) (dx*u+dy*v):=by
 obtain⟨⟨x1,x2⟩,⟨y1,y2⟩,h1,h2⟩:=h
 by_cases hk:turn cx cy dx dy ax ay=turn cx cy dx dy bx by'
 ·have k:=atU ax ay bx by' cx cy dx dy
  have k2:turn ax ay bx by' cx cy=turn ax ay bx by' dx dy:=by omega
  rw[←hk]at h1
  rw[←k2]at h2
  have a0:=agz h1
  have c0:=agz h2
  exact ak8 a0 (by omega) c0 (by omega) x1 x2 y1 y2 u v
 ·exact across h1 h2 hk
theorem aeX{ax ay bx by' cx cy dx dy:Int}(h:Common ax ay bx by' cx cy dx dy):Common cx cy dx dy ax ay bx by':=by
 obtain⟨⟨x1,x2⟩,⟨y1,y2⟩,h1,h2⟩:=h
 exact⟨⟨x2,x1⟩,⟨y2,y1⟩,h2,h1⟩
noncomputable def PartBy(ax ay bx by' cx cy dx dy u v:Int):Prop:=
 Below (ax*u+ay*v) (bx*u+by'*v) (cx*u+cy*v) (dx*u+dy*v)∨Below (cx*u+cy*v) (dx*u+dy*v) (ax*u+ay*v) (bx*u+by'*v)
theorem common_not{ax ay bx by' cx cy dx dy:Int}(h:Common ax ay bx by' cx cy dx dy)(u v:Int):¬PartBy ax ay bx by' cx cy dx dy u v:=by
 rintro(q|q)
 ·exact acs h u v q
 ·exact acs (aeX h) u v q
theorem adR{a b:Int}(h:¬a*b≤0):(0<a∧0<b)∨(a<0∧b<0):=by
 by_cases ha:0<a
 ·left
  refine⟨ha,?_⟩
  apply Classical.byContradiction
  intro hb
  have:=Int.mul_le_mul_of_nonneg_left (show b≤0 by omega) (show 0≤a by omega)
  omega
 ·right
  have ha0:a≠0:=by
   intro h0
   subst h0
   omega
  refine⟨by omega,?_⟩
  apply Classical.byContradiction
  intro hb
  have:=Int.mul_le_mul_of_nonneg_left (show 0≤b by omega) (show 0≤-a by omega)
  have e:-a*b=-(a*b):=by grind
  omega
theorem apart{a b c d:Int}(h:¬(min a b≤max c d∧min c d≤max a b)):Below a b c d∨Below c d a b:=by
 unfold Below
 rw[Int.min_def,Int.max_def,Int.min_def,Int.max_def]at h
 split at h<;>split at h<;>omega
theorem adx{P Q p q:Int}(h:(0<P∧0<Q)∨(P<0∧Q<0)){a b c d:Int}(e1:P=a-c)(e2:Q=b-c)(e3:c=d):Below a b c d∨Below c d a b:=by
 unfold Below
 omega
theorem not_common{ax ay bx by' cx cy dx dy:Int}(h:¬Common ax ay bx by' cx cy dx dy):
  PartBy ax ay bx by' cx cy dx dy 1 0∨PartBy ax ay bx by' cx cy dx dy 0 1∨PartBy ax ay bx by' cx cy dx dy (ay-by') (bx-ax)∨PartBy ax ay bx by' cx cy dx dy (cy-dy) (dx-cx):=by
 by_cases hx:min ax bx≤max cx dx∧min cx dx≤max ax bx
 ·by_cases hy:min ay by'≤max cy dy∧min cy dy≤max ay by'
  ·right;right
   by_cases h2:turn ax ay bx by' cx cy*turn ax ay bx by' dx dy≤0
   ·right
    have h1:¬turn cx cy dx dy ax ay*turn cx cy dx dy bx by'≤0:=fun q=>h ⟨hx,hy,q,h2⟩
    exact adx (p:=0) (q:=0) (adR h1) (by unfold turn;grind) (by unfold turn;grind) (by grind)
   ·left
    exact(adx (p:=0) (q:=0) (adR h2) (by unfold turn;grind) (by unfold turn;grind) (by grind)).symm
  ·right;left
   have:=apart hy
   unfold PartBy
   simp only[Int.mul_zero,Int.mul_one,Int.zero_add]
   exact this
 ·left
  have:=apart hx
  unfold PartBy
  simp only[Int.mul_zero,Int.mul_one,Int.add_zero]
  exact this
end SegM
end
section
namespace WayM
theorem aji{a b:Int}(h:a.natAbs=b.natAbs):a=b∨a=-b:=by omega
theorem sq_pos_of{a b:Int}(h:¬(a=0∧b=0)):0<a*a+b*b:=by
 have h1:0≤a*a:=by
  rcases Int.le_total 0 a with q|q
  ·exact Int.mul_nonneg q q
  ·have:=Int.mul_nonneg (show 0≤-a by omega) (show 0≤-a by omega)
   have e:-a*-a=a*a:=by grind
   omega
 have h2:0≤b*b:=by
  rcases Int.le_total 0 b with q|q
  ·exact Int.mul_nonneg q q
  ·have:=Int.mul_nonneg (show 0≤-b by omega) (show 0≤-b by omega)
   have e:-b*-b=b*b:=by grind
   omega
 by_cases ha:a=0
 ·have hb:b≠0:=fun q=>h ⟨ha,q⟩
  have:b*b≠0:=fun q=>by rcases Int.mul_eq_zero.mp q with q|q<;>omega
  omega
 ·have:a*a≠0:=fun q=>by rcases Int.mul_eq_zero.mp q with q|q<;>omega
  omega
theorem prim{i j k l:Int}(h1:Nat.Coprime i.natAbs j.natAbs)(h2:Nat.Coprime k.natAbs l.natAbs)(ht:i*l=j*k)(ha:0<i*k+j*l):i=k∧j=l:=by
 have e:i.natAbs*l.natAbs=j.natAbs*k.natAbs:=by
  rw[←Int.natAbs_mul,←Int.natAbs_mul,ht]
 have d1:i.natAbs ∣ k.natAbs:=h1.dvd_of_dvd_mul_left (e▸Nat.dvd_mul_right _ _)
 have d2:k.natAbs ∣ i.natAbs:=h2.dvd_of_dvd_mul_right (e▸Nat.dvd_mul_left _ _)
 have d3:j.natAbs ∣ l.natAbs:=h1.symm.dvd_of_dvd_mul_left (e▸Nat.dvd_mul_right _ _)
 have d4:l.natAbs ∣ j.natAbs:=h2.symm.dvd_of_dvd_mul_right (e▸Nat.dvd_mul_left _ _)
 have e1:=aji (Nat.dvd_antisymm d1 d2)
 have e2:=aji (Nat.dvd_antisymm d3 d4)
 rcases e1 with rfl|rfl
 ·rcases e2 with rfl|rfl
  ·exact⟨rfl,rfl⟩
  ·have z:i*l=0:=by grind
   rcases Int.mul_eq_zero.mp z with z|z
   ·subst z
    by_cases hl:l=0
    ·subst hl;omega
    ·have:=sq_pos_of (a:=l) (b:=0) (by omega)
     grind
   ·subst z;exact⟨rfl,by omega⟩
 ·rcases e2 with rfl|rfl
  ·have z:k*j=0:=by grind
   rcases Int.mul_eq_zero.mp z with z|z
   ·subst z;exact⟨by omega,rfl⟩
   ·subst z
    by_cases hk:k=0
    ·subst hk;omega
    ·have:=sq_pos_of (a:=k) (b:=0) (by omega)
     grind
  ·by_cases hk:k=0∧l=0
   ·obtain⟨rfl,rfl⟩:=hk
    omega
   ·have:=sq_pos_of hk
    grind
theorem low{p q g:Int}(hg:g=(Nat.gcd p.natAbs q.natAbs:Nat))(h0:0<g):
  ∃i j,p=g*i∧q=g*j∧Nat.Coprime i.natAbs j.natAbs:=by
 have dp:g ∣ p:=by
  rw[hg];exact Int.natAbs_dvd_natAbs.mp (by simpa using Nat.gcd_dvd_left _ _)
 have dq:g ∣ q:=by
  rw[hg];exact Int.natAbs_dvd_natAbs.mp (by simpa using Nat.gcd_dvd_right _ _)
 obtain⟨i,hi⟩:=dp
 obtain⟨j,hj⟩:=dq
 refine⟨i,j,hi,hj,?_⟩
 have e1:p.natAbs=g.natAbs*i.natAbs:=by rw[hi,Int.natAbs_mul]
 have e2:q.natAbs=g.natAbs*j.natAbs:=by rw[hj,Int.natAbs_mul]
 have e3:g.natAbs=Nat.gcd p.natAbs q.natAbs:=by omega
 rw[e1,e2,Nat.gcd_mul_left]at e3
 unfold Nat.Coprime
 have:0<g.natAbs:=by omega
 exact Nat.eq_of_mul_eq_mul_left this (by omega)
theorem same_way{p q r s g h:Int}(hg:g=(Nat.gcd p.natAbs q.natAbs:Nat))(hh:h=(Nat.gcd r.natAbs s.natAbs:Nat))(hpq:¬(p=0∧q=0))(hrs:¬(r=0∧s=0)):
  (p*s-q*r=0∧0<p*r+q*s)↔(Int.fdiv p g=Int.fdiv r h∧Int.fdiv q g=Int.fdiv s h):=by
 have g0:0<g:=by
  have:Nat.gcd p.natAbs q.natAbs≠0:=fun z=>by
   have:=Nat.gcd_eq_zero_iff.mp z
   omega
  omega
 have h0:0<h:=by
  have:Nat.gcd r.natAbs s.natAbs≠0:=fun z=>by
   have:=Nat.gcd_eq_zero_iff.mp z
   omega
  omega
 obtain⟨i,j,e1,e2,c1⟩:=low hg g0
 obtain⟨k,l,e3,e4,c2⟩:=low hh h0
 clear hg hh
 subst e1;subst e2;subst e3;subst e4
 rw[Int.mul_fdiv_cancel_left i (by omega),Int.mul_fdiv_cancel_left j (by omega),Int.mul_fdiv_cancel_left k (by omega),Int.mul_fdiv_cancel_left l (by omega)]
 have gh:0<g*h:=Int.mul_pos g0 h0
 constructor
 ·rintro⟨t,a⟩
  have t':g*h*(i*l-j*k)=0:=by grind
  have a':0<g*h*(i*k+j*l):=by
   have e:g*h*(i*k+j*l)=g*i*(h*k)+g*j*(h*l):=by grind
   omega
  have t2:i*l=j*k:=by
   rcases Int.mul_eq_zero.mp t' with z|z<;>omega
  have a2:0<i*k+j*l:=Int.pos_of_mul_pos_left (show 0<(i*k+j*l)*(g*h)by rw[Int.mul_comm];exact a') gh
  exact prim c1 c2 t2 a2
 ·rintro⟨rfl,rfl⟩
  constructor
  ·grind
  ·have hz:¬(i=0∧j=0):=by
    rintro⟨rfl,rfl⟩
    exact hpq ⟨by omega,by omega⟩
   have:=Int.mul_pos gh (sq_pos_of hz)
   have e:g*i*(h*i)+g*j*(h*j)=g*h*(i*i+j*j):=by grind
   omega
end WayM
end
section
namespace IP
namespace Pg
open L2
variable{k:Nat}{s:Sto}{p q r u:Int×Int}{l:List (Int×Int)}
@[simp] theorem ati (b:Bool):asB (.val (.bl b))=some b:=rfl
theorem aev{C:Cf}{c:E}{b:List S}{σ:Fr}{s:Sto}(hw:C.wl=aai):ex C (.whl c b) σ s=aai (fun σ s=>(ev C c .t σ s).bind fun x s1=>.of (asB x) s1) (fun σ s=>exs C b σ s) σ s:=by
 conv=>lhs;unfold ex
 rw[hw]
 rfl
theorem ai3(C:Cf)(a b:T):∀(n m:Nat) (c:Option B),∃c',aai (fun σ s=>(ev C (.cmp .gt (.var 3) (.cst (.int 0))) .t σ s).bind fun x s1=>.of (asB x) s1) (fun σ s=>exs C [(.asg 4 (.bin .mod (.var 2) (.var 3))),(.asg 2 (.var 3)),(.asg 3 (.var 4))] σ s)
   [some (.val a),some (.val b),some (.val (.int m)),some (.val (.int n)),c] s=.next [some (.val a),some (.val b),some (.val (.int (Nat.gcd m n))),some (.val (.int 0)),c'] s:=by
 intro n
 induction n using Nat.strongRecOn with
 | _ n ih=>
  intro m c
  rw[acQ]
  by_cases h:n=0
  ·subst h
   exact⟨c,by simp⟩
  ·have hn:0<n:=by omega
   have hd:=aaA (i:=(m:Int)) (j:=(n:Int)) (by omega)
   rw[abW]at hd
   obtain⟨c',e⟩:=ih (m % n) (Nat.mod_lt _ hn) n (some (.val (.int ((m % n:Nat):Int))))
   refine⟨c',?_⟩
   rw[show Nat.gcd m n=Nat.gcd n (m % n)by rw[Nat.gcd_comm m n,Nat.gcd_rec n m,Nat.gcd_comm]]
   rw[←e]
   generalize hg:((m % n:Nat):Int)=z at hd ⊢
   simp[hd,hn]
theorem arY(a b:Int):run true fns aar aai (k+1) iz7 [.val (.int a),.val (.int b)] s=.ok (.val (.int (Nat.gcd a.natAbs b.natAbs))) s:=by
 rw[aan (F:=⟨2,5,false,bz7⟩) rfl rfl]
 obtain⟨c',e⟩:=ai3 (s:=s) (cfX fns aar k) (.int a) (.int b) b.natAbs a.natAbs none
 have e1:(if a<0 then -a else a)=(a.natAbs:Int):=by split<;>omega
 have e2:(if b<0 then -b else b)=(b.natAbs:Int):=by split<;>omega
 have hx:exs (cfX fns aar k) bz7 (aaR ⟨2,5,false,bz7⟩ [.val (.int a),.val (.int b)]) s=.ret (.val (.int (Nat.gcd a.natAbs b.natAbs))) s:=by
  refine(aae (σ1:=[some (.val (.int a)),some (.val (.int b)),some (.val (.int a.natAbs)),none,none]) (s1:=s) (by simp[e1])).trans ?_
  refine(aae (σ1:=[some (.val (.int a)),some (.val (.int b)),some (.val (.int a.natAbs)),some (.val (.int b.natAbs)),none]) (s1:=s) (by simp[e2])).trans ?_
  refine(aae ((aev rfl).trans e)).trans ?_
  simp
 rw[hx]
 rfl
noncomputable def afc(p q:Int×Int):Int:=max 1 (Nat.gcd (q.1-p.1).natAbs (q.2-p.2).natAbs:Nat)
noncomputable def agp(p q:Int×Int):Int×Int:=(Int.fdiv (q.1-p.1) (afc p q),Int.fdiv (q.2-p.2) (afc p q))
theorem afX{a b:Int}(h:a.natAbs≤2^21)(h':b.natAbs≤2^21):Nat.gcd a.natAbs b.natAbs≤2^21:=by
 by_cases h0:a.natAbs=0
 ·rw[h0,Nat.gcd_zero_left];exact h'
 ·exact Nat.le_trans (Nat.gcd_le_left _ (by omega)) h
theorem aig(hp:sml p)(hq:sml q):run true fns aar aai (k+2) auC [PT p,PT q] s=.ok (PT (agp p q)) s:=by
 rw[aan (F:=⟨2,5,false,aqu⟩) rfl rfl]
 have h1:=arY (k:=k) (s:=s) (q.1-p.1) (q.2-p.2)
 have hg:=afX (abq hq.1 hp.1) (abq hq.2 hp.2)
 have hm:(if((Nat.gcd (q.1-p.1).natAbs (q.2-p.2).natAbs:Nat):Int)>1 then((Nat.gcd (q.1-p.1).natAbs (q.2-p.2).natAbs:Nat):Int)else 1)=afc p q:=by
  unfold afc
  split<;>omega
 have hw1:0<afc p q:=by unfold afc;omega
 have hw2:afc p q<2^64:=by unfold afc;omega
 have h2:=abe (i:=q.1-p.1) hw1 hw2
 have h3:=abe (i:=q.2-p.2) hw1 hw2
 generalize hG:((Nat.gcd (q.1-p.1).natAbs (q.2-p.2).natAbs:Nat):Int)=g at h1 hm
 simp only[gt_iff_lt]at hm
 simp[aqu,h1,hm,h2,h3,agp,pt]
noncomputable def acJ(p q r u d:Int×Int):Bool:=decide (max (p.1*d.1+p.2*d.2) (q.1*d.1+q.2*d.2)<min (r.1*d.1+r.2*d.2) (u.1*d.1+u.2*d.2))||decide (max (r.1*d.1+r.2*d.2) (u.1*d.1+u.2*d.2)<min (p.1*d.1+p.2*d.2) (q.1*d.1+q.2*d.2))
noncomputable def ae4(p q r u:Int×Int):List (Int×Int):=[(1,0),(0,1),(q.1-p.1,q.2-p.2),(p.2-q.2,q.1-p.1),(u.1-r.1,u.2-r.2),(r.2-u.2,u.1-r.1)]
theorem adU{a j:Int}(ha:a.natAbs≤2^20):opR .mul (.val (.int a)) (.val (.int j))=some (.val (.int (a*j))):=aao (aah (by omega))
theorem akH{C:Cf}{g:Tg}{i:Nat}{b:List S}{σ:Fr}:ex C (.for_ g (.var i) b) σ s=(ev C (.var i) .i σ s).st σ fun x s1=>onS x.lst? fun ts=>if abJ σ i then(abp g (fun σ s=>exs C b σ s) ts (lock σ i) s1).unlock i else abp g (fun σ s=>exs C b σ s) ts σ s1:=by unfold ex;rfl
theorem ang{α:Type}(c d:Prop)[Decidable c][Decidable d](x y:α):(if c then x else if d then x else y)=if c∨d then x else y:=by
 by_cases h:c
 ·rw[if_pos h,if_pos (.inl h)]
 ·rw[if_neg h]
  by_cases h2:d
  ·rw[if_pos h2,if_pos (.inr h2)]
  ·rw[if_neg h2,if_neg (fun z=>z.elim h h2)]
theorem ah2{C:Cf}{w a b c d e f:Option B}{ts:List T}(g:Int×Int)(hp:sml p)(hq:sml q)(hr:sml r)(hu:sml u):
  ∃c' d',abp (.many [7,8]) (fun σ s=>exs C abw σ s) (pt g::ts) [some (.val (pt p)),some (.val (pt q)),some (.val (pt r)),some (.val (pt u)),w,a,b,c,d,e,f] s=
   if acJ p q r u g then .ret (.val (.bl true)) s else abp (.many [7,8]) (fun σ s=>exs C abw σ s) ts [some (.val (pt p)),some (.val (pt q)),some (.val (pt r)),some (.val (pt u)),w,a,b,some (.val (.int g.1)),some (.val (.int g.2)),c',d'] s:=by
 refine⟨some (.val (.lst [.int (p.1*g.1+p.2*g.2),.int (q.1*g.1+q.2*g.2)])),some (.val (.lst [.int (r.1*g.1+r.2*g.2),.int (u.1*g.1+u.2*g.2)])),?_⟩
 have m1:=adU hp.1 (j:=g.1)
 have m2:=adU hp.2 (j:=g.2)
 have m3:=adU hq.1 (j:=g.1)
 have m4:=adU hq.2 (j:=g.2)
 have m5:=adU hr.1 (j:=g.1)
 have m6:=adU hr.2 (j:=g.2)
 have m7:=adU hu.1 (j:=g.1)
 have m8:=adU hu.2 (j:=g.2)
 unfold acJ
 simp only[pt,abp]at *
 generalize hF:abp (.many [7,8]) (fun σ s=>exs C abw σ s) ts=F
 clear hF hp hq hr hu
 simp only[abw,aav,IP.puts]
 generalize p.1*g.1=x1 at *
 generalize p.2*g.2=x2 at *
 generalize q.1*g.1=x3 at *
 generalize q.2*g.2=x4 at *
 generalize r.1*g.1=x5 at *
 generalize r.2*g.2=x6 at *
 generalize u.1*g.1=x7 at *
 generalize u.2*g.2=x8 at *
 simp[m1,m2,m3,m4,m5,m6,m7,m8]
 exact ang _ _ _ _
theorem aep{C:Cf}{w e f:Option B}(hp:sml p)(hq:sml q)(hr:sml r)(hu:sml u):∀(ds:List (Int×Int)) (a b c d:Option B),
  match ds.any (acJ p q r u)with
  | true=>abp (.many [7,8]) (fun σ s=>exs C abw σ s) (ds.map pt) [some (.val (pt p)),some (.val (pt q)),some (.val (pt r)),some (.val (pt u)),w,e,f,a,b,c,d] s=.ret (.val (.bl true)) s
  | false=>∃a' b' c' d',abp (.many [7,8]) (fun σ s=>exs C abw σ s) (ds.map pt) [some (.val (pt p)),some (.val (pt q)),some (.val (pt r)),some (.val (pt u)),w,e,f,a,b,c,d] s=.next [some (.val (pt p)),some (.val (pt q)),some (.val (pt r)),some (.val (pt u)),w,e,f,a',b',c',d'] s
 | [],a,b,c,d=>⟨a,b,c,d,rfl⟩
 | g::ds,a,b,c,d=>by
  obtain⟨c',d',h⟩:=ah2 (C:=C) (s:=s) (w:=w) (a:=e) (b:=f) (c:=a) (d:=b) (e:=c) (f:=d) (ts:=ds.map pt) g hp hq hr hu
  rw[List.any_cons,List.map_cons,h]
  cases acJ p q r u g with
  | true=>rfl
  | false=>exact aep hp hq hr hu ds _ _ c' d'
theorem ahX(hp:sml p)(hq:sml q)(hr:sml r)(hu:sml u):run true fns aar aai (k+1) avy [PT p,PT q,PT r,PT u] s=.ok (.val (.bl ((ae4 p q r u).any (acJ p q r u)))) s:=by
 rw[aan (F:=⟨4,11,false,aox⟩) rfl rfl]
 have hx:exs (cfX fns aar k) aox (aaR ⟨4,11,false,aox⟩ [PT p,PT q,PT r,PT u]) s=.ret (.val (.bl ((ae4 p q r u).any (acJ p q r u)))) s:=by
  refine(aae (σ1:=[some (.val (pt p)),some (.val (pt q)),some (.val (pt r)),some (.val (pt u)),some (.own [.tup [.int 1,.int 0],.tup [.int 0,.int 1]]),none,none,none,none,none,none]) (s1:=s) (by simp[aa9,acr,aaR,pt])).trans ?_
  refine(aae (σ1:=[some (.val (pt p)),some (.val (pt q)),some (.val (pt r)),some (.val (pt u)),some (.own ((ae4 p q r u).map pt)),some (.val (pt r)),some (.val (pt u)),none,none,none,none]) (s1:=s) (by simp[abp,aav,IP.puts,abQ,aa9,pt,ae4,lim])).trans ?_
  have h:=aep (C:=cfX fns aar k) (s:=s) (w:=some (.lck ((ae4 p q r u).map pt))) (e:=some (.val (pt r))) (f:=some (.val (pt u))) hp hq hr hu (ae4 p q r u) none none none none
  have e0:ex (cfX fns aar k) (.for_ (.many [7,8]) (.var 4) abw) [some (.val (pt p)),some (.val (pt q)),some (.val (pt r)),some (.val (pt u)),some (.own ((ae4 p q r u).map pt)),some (.val (pt r)),some (.val (pt u)),none,none,none,none] s=
    (abp (.many [7,8]) (fun σ s=>exs (cfX fns aar k) abw σ s) ((ae4 p q r u).map pt) [some (.val (pt p)),some (.val (pt q)),some (.val (pt r)),some (.val (pt u)),some (.lck ((ae4 p q r u).map pt)),some (.val (pt r)),some (.val (pt u)),none,none,none,none] s).unlock 4:=by
   rw[akH]
   rfl
  cases hb:(ae4 p q r u).any (acJ p q r u)with
  | true=>
   rw[hb]at h
   exact abO (e0.trans (congrArg (SR.unlock · 4) h))
  | false=>
   rw[hb]at h
   obtain⟨a',b',c',d',h⟩:=h
   refine(aae (e0.trans (congrArg (SR.unlock · 4) h))).trans ?_
   simp
 rw[hx]
 rfl
theorem aht:abi p q r=SegM.turn p.1 p.2 q.1 q.2 r.1 r.2:=rfl
theorem ade:aaU p q r u=true↔SegM.Common p.1 p.2 q.1 q.2 r.1 r.2 u.1 u.2:=by
 simp only[aaU,ab6,ax,Bool.and_eq_true,decide_eq_true_eq,SegM.Common,aht,if_true,Bool.false_eq_true,if_false]
 constructor
 ·rintro⟨⟨⟨a,b⟩,c⟩,d⟩;exact⟨a,b,of_decide_eq_true c,of_decide_eq_true d⟩
 ·rintro⟨a,b,c,d⟩;exact⟨⟨⟨a,b⟩,decide_eq_true c⟩,decide_eq_true d⟩
theorem mlm{a b c d:Int}:max a b<min c d↔a<c∧a<d∧b<c∧b<d:=by
 rw[Int.max_lt,Int.lt_min,Int.lt_min,and_assoc]
theorem ace(d:Int×Int):acJ p q r u d=true↔SegM.PartBy p.1 p.2 q.1 q.2 r.1 r.2 u.1 u.2 d.1 d.2:=by
 simp only[acJ,SegM.PartBy,SegM.Below,Bool.or_eq_true,decide_eq_true_eq,mlm]
theorem afN:(ae4 p q r u).any (acJ p q r u)=!(aaU p q r u):=by
 cases hc:aaU p q r u with
 | true=>
  have h:=ade.mp hc
  rw[Bool.not_true,List.any_eq_false]
  intro d _ z
  exact SegM.common_not h d.1 d.2 ((ace d).mp z)
 | false=>
  have h:¬SegM.Common p.1 p.2 q.1 q.2 r.1 r.2 u.1 u.2:=fun z=>by rw[ade.mpr z]at hc;cases hc
  rw[Bool.not_false,List.any_eq_true]
  rcases SegM.not_common h with z|z|z|z
  ·exact⟨(1,0),by simp[ae4],(ace _).mpr z⟩
  ·exact⟨(0,1),by simp[ae4],(ace _).mpr z⟩
  ·exact⟨(p.2-q.2,q.1-p.1),by simp[ae4],(ace _).mpr z⟩
  ·exact⟨(r.2-u.2,u.1-r.1),by simp[ae4],(ace _).mpr z⟩
noncomputable def afh(l:List (Int×Int))(i j:Nat):Bool:=
 if i=j then cor l i==cor l (i+1)
 else if j=i+1 then cor l i != cor l (i+1)&&agp (cor l (i+1)) (cor l i)==agp (cor l (i+1)) (cor l (j+1))
 else if i=0∧j+1=l.length then cor l i != cor l (i+1)&&agp (cor l i) (cor l (i+1))==agp (cor l i) (cor l j)
 else !((ae4 (cor l i) (cor l (i+1)) (cor l j) (cor l (j+1))).any (acJ (cor l i) (cor l (i+1)) (cor l j) (cor l (j+1))))
theorem ahy{i j:Nat}(hl:∀p∈l,sml p)(hij:i≤j)(hj:j<l.length):run true fns aar aai (k+3) iz4 [LN l,.val (.int i),.val (.int j)] s=.ok (.val (.bl (afh l i j))) s:=by
 rw[aan (F:=⟨3,8,false,bz4⟩) rfl rfl]
 have h0:0<l.length:=by omega
 have a1:=aba (aaT h0 i)
 have a2:=aba (aaT h0 (i+1))
 have a3:=aba (aaT h0 j)
 have a4:=aba (aaT h0 (j+1))
 rw[Nat.mod_eq_of_lt (by omega)]at a1 a3
 have m1:=abV i l.length h0
 have m2:=abV j l.length h0
 generalize (i+1) % l.length=i' at a2 m1
 generalize (j+1) % l.length=j' at a4 m2
 have w1:=aig (k:=k) (s:=s) (p:=cor l (i+1)) (q:=cor l i) (aa2 hl _) (aa2 hl _)
 have w2:=aig (k:=k) (s:=s) (p:=cor l (i+1)) (q:=cor l (j+1)) (aa2 hl _) (aa2 hl _)
 have w3:=aig (k:=k) (s:=s) (p:=cor l i) (q:=cor l (i+1)) (aa2 hl _) (aa2 hl _)
 have w4:=aig (k:=k) (s:=s) (p:=cor l i) (q:=cor l j) (aa2 hl _) (aa2 hl _)
 have pa:=ahX (k:=k+1) (s:=s) (p:=cor l i) (q:=cor l (i+1)) (r:=cor l j) (u:=cor l (j+1)) (aa2 hl _) (aa2 hl _) (aa2 hl _) (aa2 hl _)
 simp[bz4,a1,a2,a3,a4,m1,m2,w1,w2,w3,w4,pa]
 unfold afh
 by_cases c1:i=j
 ·simp[c1]
 ·by_cases c2:j=i+1
  ·rw[if_neg (by omega),if_pos (by omega),if_neg c1,if_pos c2]
   by_cases c5:cor l i=cor l (i+1)
   ·simp[c5]
   ·rw[if_neg c5];simp[c5]
  ·rw[if_neg (by omega),if_neg (by omega),if_neg c1,if_neg c2]
   by_cases c4:i=0
   ·rw[if_pos c4]
    by_cases c3:j+1=l.length
    ·have t3:(j:Int)=(l.length:Int)-1:=by omega
     rw[if_pos t3,if_pos (c:=i=0∧j+1=l.length) ⟨c4,c3⟩]
     by_cases c5:cor l i=cor l (i+1)
     ·simp[c5]
     ·rw[if_neg c5];simp[c5]
    ·have t3:¬(j:Int)=(l.length:Int)-1:=by omega
     rw[if_neg t3,if_neg (c:=i=0∧j+1=l.length) (fun z=>c3 z.2)]
   ·rw[if_neg c4,if_neg (fun z=>c4 z.1)]
theorem aif:agp p p=(0,0):=by
 simp[agp,afc]
theorem ads{a b:Int}(h:¬(a=0∧b=0)):0<Nat.gcd a.natAbs b.natAbs:=by
 refine Nat.pos_of_ne_zero fun z=>h ?_
 have:=Nat.gcd_eq_zero_iff.mp z
 omega
theorem afg(hq:q≠p):aa3 p q r=(agp p q==agp p r):=by
 have hq0:¬(q.1-p.1=0∧q.2-p.2=0):=fun z=>hq (by ext<;>omega)
 have gq:=ads hq0
 by_cases hr:r=p
 ·subst hr
  have e1:aa3 r q r=false:=by
   simp[aa3,abu]
  rw[e1,aif]
  symm
  rw[beq_eq_false_iff_ne]
  intro z
  have hw:afc r q=((Nat.gcd (q.1-r.1).natAbs (q.2-r.2).natAbs:Nat):Int):=by unfold afc;omega
  have z1:=congrArg Prod.fst z
  have z2:=congrArg Prod.snd z
  simp only[agp]at z1 z2
  have g0:(0:Int)<((Nat.gcd (q.1-r.1).natAbs (q.2-r.2).natAbs:Nat):Int):=by omega
  generalize hg:((Nat.gcd (q.1-r.1).natAbs (q.2-r.2).natAbs:Nat):Int)=g at hw g0
  obtain⟨i,j,e1,e2,_⟩:=WayM.low hg.symm g0
  rw[hw,e1,Int.mul_fdiv_cancel_left _ (by omega)]at z1
  rw[hw,e2,Int.mul_fdiv_cancel_left _ (by omega)]at z2
  subst z1 z2
  exact hq0 ⟨by omega,by omega⟩
 ·have hr0:¬(r.1-p.1=0∧r.2-p.2=0):=fun z=>hr (by ext<;>omega)
  have gr:=ads hr0
  have h:=WayM.same_way (p:=q.1-p.1) (q:=q.2-p.2) (r:=r.1-p.1) (s:=r.2-p.2) rfl rfl hq0 hr0
  have hw:afc p q=((Nat.gcd (q.1-p.1).natAbs (q.2-p.2).natAbs:Nat):Int):=by unfold afc;omega
  have hw2:afc p r=((Nat.gcd (r.1-p.1).natAbs (r.2-p.2).natAbs:Nat):Int):=by unfold afc;omega
  rw[Bool.eq_iff_iff,beq_iff_eq]
  simp only[aa3,abi,abu,Bool.and_eq_true,decide_eq_true_eq,agp,hw,hw2,Prod.mk.injEq]
  rw[←h]
  exact⟨fun z=>⟨of_decide_eq_true z.1,of_decide_eq_true z.2⟩,fun z=>⟨decide_eq_true z.1,decide_eq_true z.2⟩⟩
theorem auY(l:List (Int×Int))(i j:Nat):aaE l i j=afh l i j:=by
 unfold aaE afh
 by_cases c1:i=j
 ·rw[if_pos c1,if_pos c1]
 ·rw[if_neg c1,if_neg c1]
  by_cases c2:j=i+1
  ·rw[if_pos c2,if_pos c2]
   by_cases e:cor l i=cor l (i+1)
   ·simp[e,aa3,abu]
   ·rw[afg e];simp[e]
  ·rw[if_neg c2,if_neg c2]
   by_cases c3:j+1=l.length∧i=0
   ·rw[if_pos c3,if_pos ⟨c3.2,c3.1⟩]
    by_cases e:cor l i=cor l (i+1)
    ·simp[e,aa3,abu]
    ·rw[afg (Ne.symm e)];simp[e]
   ·rw[if_neg c3,if_neg (fun z=>c3 ⟨z.2,z.1⟩),afN,Bool.not_not]
theorem ali(hl:∀p∈l,sml p)(hn:l.length≤1000):run true fns aar aai (k+4) iz5 [LN l] s=.ok (fp (aaE l) l.length) s:=by
 rw[aan (F:=⟨1,3,false,bz5⟩) rfl rfl]
 have h:=aer (C:=cfX fns aar (k+3)) (f:=iz4) (s:=s) (l:=l) (p:=aaE l) hn (fun i j h1 h2=>by rw[auY];exact ahy (k:=k) hl h1 h2)
 exact congrArg (abm true false) h
end Pg
end IP
end
section
namespace IP
namespace Pg
open L2
variable{k:Nat}{s:Sto}{p q r u:Int×Int}{l:List (Int×Int)}{row:List Int}
theorem ah0{ts:List T}{m:Nat}{t:T}(hl:ts.length=m+1)(h:ts[m]?=some t):abE (.bor ts) (-1)=some t:=by
 simp[abE,L2.atI,L2.ixN,hl]
 rw[if_pos (by omega)]
 have:((-1:Int)+((m:Int)+1)).toNat=m:=by omega
 simp[this,h]
theorem aez{ts:List T}{m:Nat}{t:T}(hl:ts.length=m+1)(h:ts[m]?=some t):abE (.val (.lst ts)) (-1)=some t:=by
 simp[abE,L2.atI,L2.ixN,hl]
 rw[if_pos (by omega)]
 have:((-1:Int)+((m:Int)+1)).toNat=m:=by omega
 simp[this,h]
theorem aen(hr:∀v∈row,aaS v)(hl:50≤row.length){a n:Nat}(h1:1≤n)(hn:n≤24)(ha:a+n≤40):∃far:List Int,far.length=n∧(∀v∈far,0≤v∧v≤100)∧run true fns aar aai (k+1) atG [.val (.lst (row.map .int)),.val (.int a),.val (.int n)] s=.ok (.val (.lst (far.map .int))) s:=by
 obtain⟨σ',e,far,c,rfl,h2,h3⟩:=abj (g:=.one 4) (body:=fun σ s=>exs (cfX fns aar k) [(.app 3 (.bin .add (.bin .add (.sub (.var 3) (.neg (.cst (.int 1)))) (.cst (.int 1))) (.bin .mod (.sub (.var 0) (.bin .add (.var 1) (.var 4))) (.cst (.int 4)))))] σ s) (s:=s)
  (fun m σ=>∃(far:List Int) (c:Option B),σ=[some (.val (.lst (row.map .int))),some (.val (.int a)),some (.val (.int n)),some (.own (far.map .int)),c]∧far.length=m+1∧∀v∈far,0≤v∧v≤4*m) (aax 0 ((n-1:Nat):Int)) 0 [some (.val (.lst (row.map .int))),some (.val (.int a)),some (.val (.int n)),some (.own [.int 0]),none] ⟨[0],none,rfl,rfl,by simp⟩ (by
   rintro m t σ hm ⟨far,c,rfl,h2,h3⟩
   obtain⟨rfl,hlt⟩:=aaG hm
   obtain⟨x,_,f1,_⟩:=abl hr (m:=a+m) (by omega)
   rw[show((a+m:Nat):Int)=(a:Int)+(m:Int)by omega]at f1
   have hf:m<far.length:=by omega
   have g1:=ah0 (ts:=far.map T.int) (m:=m) (t:=.int far[m]) (by simp[h2]) (by simp[hf])
   have g2:=h3 _ (List.getElem_mem hf)
   have g3:=aaA (i:=x) (j:=4) (by decide)
   have g4:=aa8 x (j:=4) (by decide)
   have hlim:far.length<lim:=Nat.lt_of_lt_of_le (show far.length<1000 by omega) adp
   refine⟨[some (.val (.lst (row.map .int))),some (.val (.int a)),some (.val (.int n)),some (.own (far.map .int)),some (.val (.int m))],[some (.val (.lst (row.map .int))),some (.val (.int a)),some (.val (.int n)),some (.own ((far++[far[m]+1+Int.fmod x 4]).map .int)),some (.val (.int m))],by simp[aav],by simp[f1,g1,g3,abQ,aa9,hlim],far++[far[m]+1+Int.fmod x 4],some (.val (.int m)),rfl,by simp[h2],?_⟩
   intro v hv
   rcases List.mem_append.mp hv with z|z
   ·have:=h3 v z;omega
   ·rw[List.mem_singleton.mp z];omega)
 refine⟨far,?_,fun v hv=>?_,?_⟩
 ·rw[h2,aaF];omega
 ·have:=h3 v hv
  rw[aaF]at this
  omega
 ·rw[aan (F:=⟨3,5,false,aoi⟩) rfl rfl]
  have en:(n:Int)-1=((n-1:Nat):Int):=by omega
  have hx:exs (cfX fns aar k) aoi (aaR ⟨3,5,false,aoi⟩ [.val (.lst (row.map .int)),.val (.int a),.val (.int n)]) s=.ret (.val (.lst (far.map .int))) s:=by
   refine(aae (σ1:=[some (.val (.lst (row.map .int))),some (.val (.int a)),some (.val (.int n)),some (.own [.int 0]),none]) (s1:=s) (by simp[acr,aa9])).trans ?_
   refine(aae ((aci (ts:=aax 0 ((n-1:Nat):Int)) (s1:=s) (abM (n:=n-1) (by simp[en]) (by omega)) (by intro _ h;cases h)).trans e)).trans ?_
   simp[frz]
  rw[hx]
  rfl
noncomputable def ajS(A B:Nat)(p:Int×Int):Prop:=p.1.natAbs≤A∧p.2.natAbs≤B
noncomputable def smn(B:Nat)(p:Int×Int):Prop:=p.1.natAbs≤B∧p.2.natAbs≤B
theorem afs{C:Cf}{e:E}{i j:Nat}{x:Nat}{σ:Fr}{P Q:Int×Int→Prop}(hx:ev C (.var x) .i σ s=.ok (LN l) s)(hl:∀p∈l,P p)
  (h:∀p,P p→∃q,Q q∧ev C e .v (put (put σ i (.int p.1)) j (.int p.2)) s=.ok (PT q) s):∃l':List (Int×Int),l'.length=l.length∧(∀q∈l',Q q)∧ev C (.comp e (.many [i,j]) (.var x)) .v σ s=.ok (LN l') s:=by
 obtain⟨xs,h1,h2,h3⟩:=acP (F:=fun t s=>onO (aav σ (.many [i,j]) t) fun σ'=>one (ev C e .v σ' s)) (s:=s) pt Q (l.map pt) (fun m t hm=>by
  rw[List.getElem?_map]at hm
  cases hp:l[m]? with
  | none=>rw[hp]at hm;cases hm
  | some p=>
   rw[hp]at hm
   cases hm
   obtain⟨q,hq,e⟩:=h p (hl p (List.mem_of_getElem? hp))
   refine⟨q,hq,?_⟩
   show one (ev C _ .v (put (put σ i (.int p.1)) j (.int p.2)) s)=_
   rw[e]
   rfl)
 refine⟨xs,by rw[h1];simp,h2,aeN (ts:=l.map pt) (s1:=s) hx h3⟩
end Pg
end IP
end
section
namespace IP
namespace Pg
open L2
variable{k:Nat}{s:Sto}{p q r u:Int×Int}{l:List (Int×Int)}{row:List Int}
theorem ajU{ts:List T}{m:Nat}(h:m≤ts.length):aiv (.val (.lst ts)) (some (m:Int)) none=some (.val (.lst (ts.drop m))):=by
 have e:HT.sIx ts.length 0 (some (m:Int))=m:=by rw[HT.sIx_nat];omega
 have e2:HT.sIx ts.length ts.length none=ts.length:=rfl
 simp[aiv,ajR,e,e2,←List.length_drop,List.take_length]
theorem alD{ts:List T}{m:Nat}(h:m≤ts.length):aiv (.val (.lst ts)) none (some (m:Int))=some (.val (.lst (ts.take m))):=by
 have e:HT.sIx ts.length ts.length (some (m:Int))=m:=by rw[HT.sIx_nat];omega
 have e2:HT.sIx ts.length 0 none=0:=rfl
 simp[aiv,ajR,e,e2]
theorem adi{C:Cf}{c:E}{a b:List S}{σ:Fr}{d:Bool}(h:ev C c .t σ s=.ok (.val (.bl d)) s):ex C (.ifs c a b) σ s=if d=true then exs C a σ s else exs C b σ s:=by
 unfold ex
 rw[h]
 simp
theorem akF{A B:Nat}(hl:∀p∈l,ajS A B p)(hn:0<l.length)(hn2:l.length≤500){c:Int}{ra:R}(hra:ra=LN l∨ra=.bor (l.map pt)):∃l':List (Int×Int),l'.length=l.length∧(∀q∈l',smn (A+2*B) q)∧run true fns aar aai (k+1) au0 [ra,.val (.int c)] s=.ok (LN l') s:=by
 have m5:=aaA (i:=c) (j:=5) (by decide)
 have b5:=aa8 c (j:=5) (by decide)
 generalize Int.fmod c 5=z5 at m5 b5
 have d5:=abe (i:=c) (j:=5) (by decide) (by decide)
 have d10:=abe (i:=c) (j:=10) (by decide) (by decide)
 have d20:=abe (i:=c) (j:=20) (by decide) (by decide)
 generalize Int.fdiv c 5=f5 at d5
 generalize Int.fdiv c 10=f10 at d10
 generalize Int.fdiv c 20=f20 at d20
 have n5:=aaA (i:=f5) (j:=2) (by decide)
 have n10:=aaA (i:=f10) (j:=2) (by decide)
 generalize Int.fmod f5 2=g5 at n5
 generalize Int.fmod f10 2=g10 at n10
 have n20:=aaA (i:=f20) (j:=(l.length:Int)) (by omega)
 have b20:=aa8 f20 (j:=(l.length:Int)) (by omega)
 generalize Int.fmod f20 (l.length:Int)=by' at n20 b20
 obtain⟨l1,a1,a2,a3⟩:=afs (C:=cfX fns aar k) (s:=s) (l:=l) (e:=.tup [(.bin .add (.var 5) (.bin .mul (.var 2) (.var 6))),(.var 6)]) (i:=5) (j:=6) (x:=0) (P:=ajS A B) (Q:=smn (A+2*B))
  (σ:=[some (ofR ra),some (.val (.int c)),some (.val (.int (z5-2))),none,none,none,none,none,none]) (by rcases hra with rfl|rfl<;>simp[ofR]) hl (fun p hp=>by
   have mm:=aao (i:=z5-2) (j:=p.2) (aah (by omega))
   have hb:((z5-2)*p.2).natAbs≤2*B:=aaj (by omega) hp.2
   have:=hp.1
   have:=hp.2
   refine⟨(p.1+(z5-2)*p.2,p.2),⟨by show(p.1+(z5-2)*p.2).natAbs≤A+2*B;omega,by show p.2.natAbs≤A+2*B;omega⟩,by simp[mm,pt]⟩)
 obtain⟨l2,c1,c2,c3⟩:∃l2:List (Int×Int),l2.length=l.length∧(∀q∈l2,smn (A+2*B) q)∧ex (cfX fns aar k) (.ifs (.cmp .eq (.bin .mod (.bin .fdiv (.var 1) (.cst (.int 5))) (.cst (.int 2))) (.cst (.int 1))) [(.asg 3 (.comp (.tup [(.bin .sub (.cst (.int 0)) (.var 8)),(.var 7)]) (.many [7,8]) (.var 3)))] []) [some (ofR ra),some (.val (.int c)),some (.val (.int (z5-2))),some (.val (.lst (l1.map pt))),none,none,none,none,none] s=.next [some (ofR ra),some (.val (.int c)),some (.val (.int (z5-2))),some (.val (.lst (l2.map pt))),none,none,none,none,none] s:=by
  by_cases hg:g5=1
  ·obtain⟨l2,e1,e2,e3⟩:=afs (C:=cfX fns aar k) (s:=s) (l:=l1) (e:=.tup [(.bin .sub (.cst (.int 0)) (.var 8)),(.var 7)]) (i:=7) (j:=8) (x:=3) (P:=smn (A+2*B)) (Q:=smn (A+2*B))
    (σ:=[some (ofR ra),some (.val (.int c)),some (.val (.int (z5-2))),some (.val (.lst (l1.map pt))),none,none,none,none,none]) (by simp) a2 (fun p hp=>by
     have:=hp.1
     have:=hp.2
     refine⟨(0-p.2,p.1),⟨by show(0-p.2).natAbs≤A+2*B;omega,hp.1⟩,by simp[pt]⟩)
   refine⟨l2,by omega,e2,?_⟩
   rw[adi (d:=true) (by simp[d5,n5,hg])]
   exact(aae (agV e3)).trans (by simp)
  ·refine⟨l1,a1,a2,?_⟩
   rw[adi (d:=false) (by simp[d5,n5,hg])]
   simp
 obtain⟨l3,f1,f2,f3⟩:∃l3:List (Int×Int),l3.length=l.length∧(∀q∈l3,smn (A+2*B) q)∧ex (cfX fns aar k) (.ifs (.cmp .eq (.bin .mod (.bin .fdiv (.var 1) (.cst (.int 10))) (.cst (.int 2))) (.cst (.int 1))) [(.asg 3 (.rev (.var 3)))] []) [some (ofR ra),some (.val (.int c)),some (.val (.int (z5-2))),some (.val (.lst (l2.map pt))),none,none,none,none,none] s=.next [some (ofR ra),some (.val (.int c)),some (.val (.int (z5-2))),some (.val (.lst (l3.map pt))),none,none,none,none,none] s:=by
  by_cases hg:g10=1
  ·refine⟨l2.reverse,by simp[c1],fun q hq=>c2 q (List.mem_reverse.mp hq),?_⟩
   rw[adi (d:=true) (by simp[d10,n10,hg])]
   simp
  ·refine⟨l2,c1,c2,?_⟩
   rw[adi (d:=false) (by simp[d10,n10,hg])]
   simp
 obtain⟨m,rfl⟩:∃m:Nat,by'=(m:Int):=⟨by'.toNat,by omega⟩
 have u1:=ajU (ts:=l3.map pt) (m:=m) (by simp;omega)
 have u2:=alD (ts:=l3.map pt) (m:=m) (by simp;omega)
 refine⟨l3.drop m++l3.take m,by simp;omega,fun q hq=>?_,?_⟩
 ·rcases List.mem_append.mp hq with z|z
  ·exact f2 q (List.mem_of_mem_drop z)
  ·exact f2 q (List.mem_of_mem_take z)
 ·rw[aan (F:=⟨2,9,true,aol⟩) rfl rfl]
  have hadd:opR .add (.val (.lst ((l3.map pt).drop m))) (.val (.lst ((l3.map pt).take m)))=some (.val (.lst ((l3.map pt).drop m++(l3.map pt).take m))):=by
   have hlim:((l3.map pt).drop m).length+((l3.map pt).take m).length≤lim:=Nat.le_trans (by simp;omega) adp
   show(if((l3.map pt).drop m).length+((l3.map pt).take m).length≤lim then _ else _)=_
   rw[if_pos hlim]
  have hx:exs (cfX fns aar k) aol (aaR ⟨2,9,true,aol⟩ [ra,.val (.int c)]) s=.retO ((l3.drop m++l3.take m).map pt) s:=by
   refine(aae (σ1:=[some (ofR ra),some (.val (.int c)),some (.val (.int (z5-2))),none,none,none,none,none,none]) (s1:=s) (by simp[aaR,m5])).trans ?_
   refine(aae (agV a3)).trans ?_
   refine(aae c3).trans ?_
   refine(aae f3).trans ?_
   refine(aae (σ1:=[some (ofR ra),some (.val (.int c)),some (.val (.int (z5-2))),some (.val (.lst (l3.map pt))),some (.val (.int m)),none,none,none,none]) (s1:=s) (by simp[d20,f1,n20])).trans ?_
   simp[acr,u1,u2,hadd]
  rw[hx]
  rfl
end Pg
end IP
end
section
namespace IP
namespace Pg
open L2
variable{k:Nat}{s:Sto}{p q r u:Int×Int}{l:List (Int×Int)}{row:List Int}
theorem agR{xs:List Int}{m:Nat}(h:m<xs.length):abE (.val (.lst (xs.map .int))) (m:Int)=some (.int xs[m]):=aba (by simp[h])
theorem agt{a b:Int}(ha:0≤a∧a≤100)(hb:0≤b∧b≤100):(a*b).natAbs≤10000:=aaj (m:=100) (n:=100) (by omega) (by omega)
theorem aie(hr:∀v∈row,aaS v)(hl:50≤row.length){n:Nat}(h3:3≤n)(hn:n≤24):∃l:List (Int×Int),l.length=n∧(∀p∈l,ajS 10000 901 p)∧run true fns aar aai (k+2) avt [.val (.lst (row.map .int)),.val (.int n)] s=.ok (LN l) s:=by
 obtain⟨v0,_,r0,_⟩:=abl hr (m:=0) (by omega)
 obtain⟨v1,_,r1,_⟩:=abl hr (m:=1) (by omega)
 have r0':abE (.val (.lst (row.map .int))) 0=some (.int v0):=r0
 have r1':abE (.val (.lst (row.map .int))) 1=some (.int v1):=r1
 have hm:=aaA (i:=v1) (j:=4) (by decide)
 have hz:=aa8 v1 (j:=4) (by decide)
 generalize Int.fmod v1 4=z at hm hz
 obtain⟨tall,ht,e2⟩:=ao9 (a:=1) (b:=3) (c:=50) (d:=900) hz.1 hz.2
 have ht0:0<tall:=by omega
 have ht1:tall≤900:=by omega
 obtain⟨low,lo1,lo2,lo3⟩:∃low:Nat,2≤low∧low+1≤n∧ex (cfX fns aar (k+1)) (.ifs (.cmp .gt (.var 1) (.cst (.int 3))) [(.asg 2 (.bin .add (.cst (.int 2)) (.bin .mod (.sub (.var 0) (.cst (.int 0))) (.bin .sub (.var 1) (.cst (.int 3))))))] []) [some (.val (.lst (row.map .int))),some (.val (.int n)),some (.val (.int 2)),none,none,none,none,none,none] s=.next [some (.val (.lst (row.map .int))),some (.val (.int n)),some (.val (.int low)),none,none,none,none,none,none] s:=by
  by_cases h:3<n
  ·have g1:=aaA (i:=v0) (j:=(n:Int)-3) (by omega)
   have g2:=aa8 v0 (j:=(n:Int)-3) (by omega)
   generalize Int.fmod v0 ((n:Int)-3)=y at g1 g2
   refine⟨2+y.toNat,by omega,by omega,?_⟩
   rw[adi (d:=true) (by simp;omega)]
   rw[show((2+y.toNat:Nat):Int)=2+y by omega]
   simp[r0',g1]
  ·refine⟨2,by omega,by omega,?_⟩
   rw[adi (d:=false) (by simp;omega)]
   simp
 obtain⟨high,hi⟩:∃high:Nat,n=low+high:=⟨n-low,by omega⟩
 obtain⟨bot,b1,b2,b3⟩:=aen (k:=k) (s:=s) hr hl (a:=2) (n:=low) (by omega) (by omega) (by omega)
 obtain⟨tp,t1,t2,t3⟩:=aen (k:=k) (s:=s) hr hl (a:=2+low) (n:=high) (by omega) (by omega) (by omega)
 rw[show((2+low:Nat):Int)=2+(low:Int)by omega]at t3
 have tl:high-1<tp.length:=by omega
 have bl:low-1<bot.length:=by omega
 have tlast:=aez (ts:=tp.map T.int) (m:=high-1) (t:=.int tp[high-1]) (by simp;omega) (by simp[tl])
 have blast:=aez (ts:=bot.map T.int) (m:=low-1) (t:=.int bot[low-1]) (by simp;omega) (by simp[bl])
 have tv:=t2 _ (List.getElem_mem tl)
 have bv:=b2 _ (List.getElem_mem bl)
 generalize tp[high-1]=tz at tlast tv
 generalize bot[low-1]=bz at blast bv
 obtain⟨σ',e,l1,c,rfl,x1,x2⟩:=abj (g:=.one 8) (body:=fun σ s=>exs (cfX fns aar (k+1)) [(.app 7 (.tup [(.bin .mul (.sub (.var 5) (.var 8)) (.mx2 (.cst (.int 1)) (.sub (.var 6) (.neg (.cst (.int 1)))))),(.bin .sub (.neg (.cst (.int 1))) (.bin .mod (.sub (.var 0) (.bin .add (.cst (.int 26)) (.var 8))) (.var 4)))]))] σ s) (s:=s)
  (fun m σ=>∃(l:List (Int×Int)) (c:Option B),σ=[some (.val (.lst (row.map .int))),some (.val (.int n)),some (.val (.int low)),some (.val (.int high)),some (.val (.int tall)),some (.val (.lst (bot.map .int))),some (.val (.lst (tp.map .int))),some (.own (l.map pt)),c]∧l.length=m∧∀p∈l,ajS 10000 901 p) (aax 0 low) 0 [some (.val (.lst (row.map .int))),some (.val (.int n)),some (.val (.int low)),some (.val (.int high)),some (.val (.int tall)),some (.val (.lst (bot.map .int))),some (.val (.lst (tp.map .int))),some (.own []),none] ⟨[],none,rfl,rfl,by simp⟩ (by
   rintro m t σ hm ⟨l,c,rfl,h2,h3⟩
   obtain⟨rfl,hlt⟩:=aaG hm
   obtain⟨x,_,f1,_⟩:=abl hr (m:=26+m) (by omega)
   rw[show((26+m:Nat):Int)=26+(m:Int)by omega]at f1
   have hb:m<bot.length:=by omega
   have f2:=agR hb
   have hbv:=b2 _ (List.getElem_mem hb)
   have g1:=aaA (i:=x) ht0
   have g2:=aa8 x ht0
   have g3:=aao (i:=bot[m]) (j:=if 1<tz then tz else 1) (aah (by omega))
   have g4:=agt (a:=bot[m]) (b:=if 1<tz then tz else 1) hbv (by split<;>omega)
   have hlim:l.length<lim:=Nat.lt_of_lt_of_le (show l.length<1000 by omega) adp
   refine⟨[some (.val (.lst (row.map .int))),some (.val (.int n)),some (.val (.int low)),some (.val (.int high)),some (.val (.int tall)),some (.val (.lst (bot.map .int))),some (.val (.lst (tp.map .int))),some (.own (l.map pt)),some (.val (.int m))],[some (.val (.lst (row.map .int))),some (.val (.int n)),some (.val (.int low)),some (.val (.int high)),some (.val (.int tall)),some (.val (.lst (bot.map .int))),some (.val (.lst (tp.map .int))),some (.own ((l++[(bot[m]*(if 1<tz then tz else 1),-1-Int.fmod x tall)]).map pt)),some (.val (.int m))],by simp[aav],by simp[f1,f2,g1,g3,tlast,abQ,aa9,hlim,pt],l++[(bot[m]*(if 1<tz then tz else 1),-1-Int.fmod x tall)],some (.val (.int m)),rfl,by simp[h2],?_⟩
   intro v hv
   rcases List.mem_append.mp hv with z|z
   ·exact h3 v z
   ·rw[List.mem_singleton.mp z];exact⟨g4,by show(-1-Int.fmod x tall).natAbs≤901;omega⟩)
 rw[aaF]at x1
 obtain⟨σ',e',l2,c',rfl,y1,y2⟩:=abj (g:=.one 8) (body:=fun σ s=>exs (cfX fns aar (k+1)) [(.app 7 (.tup [(.bin .mul (.sub (.var 6) (.bin .sub (.bin .sub (.var 3) (.cst (.int 1))) (.var 8))) (.sub (.var 5) (.neg (.cst (.int 1))))),(.bin .add (.cst (.int 1)) (.bin .mod (.sub (.var 0) (.bin .add (.bin .add (.cst (.int 26)) (.var 2)) (.var 8))) (.var 4)))]))] σ s) (s:=s)
  (fun m σ=>∃(l:List (Int×Int)) (c:Option B),σ=[some (.val (.lst (row.map .int))),some (.val (.int n)),some (.val (.int low)),some (.val (.int high)),some (.val (.int tall)),some (.val (.lst (bot.map .int))),some (.val (.lst (tp.map .int))),some (.own (l.map pt)),c]∧l.length=low+m∧∀p∈l,ajS 10000 901 p) (aax 0 high) 0 [some (.val (.lst (row.map .int))),some (.val (.int n)),some (.val (.int low)),some (.val (.int high)),some (.val (.int tall)),some (.val (.lst (bot.map .int))),some (.val (.lst (tp.map .int))),some (.own (l1.map pt)),c] ⟨l1,c,rfl,by omega,x2⟩ (by
   rintro m t σ hm ⟨l,c,rfl,h2,h3⟩
   obtain⟨rfl,hlt⟩:=aaG hm
   obtain⟨x,_,f1,_⟩:=abl hr (m:=26+low+m) (by omega)
   rw[show((26+low+m:Nat):Int)=26+(low:Int)+(m:Int)by omega]at f1
   have hb:high-1-m<tp.length:=by omega
   have f2:=agR hb
   rw[show((high-1-m:Nat):Int)=(high:Int)-1-(m:Int)by omega]at f2
   have hbv:=t2 _ (List.getElem_mem hb)
   generalize tp[high-1-m]=tw at f2 hbv
   have g1:=aaA (i:=x) ht0
   have g2:=aa8 x ht0
   have g3:=aao (i:=tw) (j:=bz) (aah (by omega))
   have g4:=agt (a:=tw) (b:=bz) hbv bv
   have hlim:l.length<lim:=Nat.lt_of_lt_of_le (show l.length<1000 by omega) adp
   refine⟨[some (.val (.lst (row.map .int))),some (.val (.int n)),some (.val (.int low)),some (.val (.int high)),some (.val (.int tall)),some (.val (.lst (bot.map .int))),some (.val (.lst (tp.map .int))),some (.own (l.map pt)),some (.val (.int m))],[some (.val (.lst (row.map .int))),some (.val (.int n)),some (.val (.int low)),some (.val (.int high)),some (.val (.int tall)),some (.val (.lst (bot.map .int))),some (.val (.lst (tp.map .int))),some (.own ((l++[(tw*bz,1+Int.fmod x tall)]).map pt)),some (.val (.int m))],by simp[aav],by simp[f1,f2,g1,g3,blast,abQ,aa9,hlim,pt],l++[(tw*bz,1+Int.fmod x tall)],some (.val (.int m)),rfl,by simp[h2];omega,?_⟩
   intro v hv
   rcases List.mem_append.mp hv with z|z
   ·exact h3 v z
   ·rw[List.mem_singleton.mp z];exact⟨g4,by show(1+Int.fmod x tall).natAbs≤901;omega⟩)
 rw[aaF]at y1
 refine⟨l2,by omega,y2,?_⟩
 rw[aan (F:=⟨2,9,false,aot⟩) rfl rfl]
 have ehi:(n:Int)-(low:Int)=(high:Int):=by omega
 have b3':run true fns aar aai (k+1) atG [.val (.lst (row.map .int)),.val (.int 2),.val (.int low)] s=.ok (.val (.lst (bot.map .int))) s:=b3
 have hx:exs (cfX fns aar (k+1)) aot (aaR ⟨2,9,false,aot⟩ [.val (.lst (row.map .int)),.val (.int n)]) s=.ret (LN l2) s:=by
  refine(aae (σ1:=[some (.val (.lst (row.map .int))),some (.val (.int n)),some (.val (.int 2)),none,none,none,none,none,none]) (s1:=s) (by simp)).trans ?_
  refine(aae lo3).trans ?_
  refine(aae (σ1:=[some (.val (.lst (row.map .int))),some (.val (.int n)),some (.val (.int low)),some (.val (.int high)),none,none,none,none,none]) (s1:=s) (by simp[ehi])).trans ?_
  refine(aae (σ1:=[some (.val (.lst (row.map .int))),some (.val (.int n)),some (.val (.int low)),some (.val (.int high)),some (.val (.int tall)),none,none,none,none]) (s1:=s) (by simp[r1',hm,e2])).trans ?_
  refine(aae (σ1:=[some (.val (.lst (row.map .int))),some (.val (.int n)),some (.val (.int low)),some (.val (.int high)),some (.val (.int tall)),some (.val (.lst (bot.map .int))),none,none,none]) (s1:=s) (by simp[b3'])).trans ?_
  refine(aae (σ1:=[some (.val (.lst (row.map .int))),some (.val (.int n)),some (.val (.int low)),some (.val (.int high)),some (.val (.int tall)),some (.val (.lst (bot.map .int))),some (.val (.lst (tp.map .int))),none,none]) (s1:=s) (by simp[t3])).trans ?_
  refine(aae (σ1:=[some (.val (.lst (row.map .int))),some (.val (.int n)),some (.val (.int low)),some (.val (.int high)),some (.val (.int tall)),some (.val (.lst (bot.map .int))),some (.val (.lst (tp.map .int))),some (.own []),none]) (s1:=s) (by simp[acr,aa9])).trans ?_
  refine(aae ((aci (ts:=aax 0 low) (s1:=s) (abM (n:=low) (by simp) (by omega)) (by intro _ h;cases h)).trans e)).trans ?_
  refine(aae ((aci (ts:=aax 0 high) (s1:=s) (abM (n:=high) (by simp) (by omega)) (by intro _ h;cases h)).trans e')).trans ?_
  simp[frz]
 rw[hx]
 rfl
end Pg
end IP
end
section
namespace M3
noncomputable def aaW:Nat→Nat
 | 0=>0
 | n+1=>if(aaW n+1)*(aaW n+1)≤n+1 then aaW n+1 else aaW n
theorem ack:∀n,aaW n*aaW n≤n∧n<(aaW n+1)*(aaW n+1)
 | 0=>by decide
 | n+1=>by
  have ih:=ack n
  unfold aaW
  split
  ·rename_i h
   refine⟨h,?_⟩
   have:(aaW n+1+1)*(aaW n+1+1)=(aaW n+1)*(aaW n+1)+2*aaW n+3:=by grind
   omega
  ·omega
noncomputable def aaC(n:Int):Int:=(aaW n.toNat:Nat)
theorem aaL(n:Int):0≤aaC n:=Int.natCast_nonneg _
theorem ac7(n:Int)(h:0≤n):aaC n*aaC n≤n:=by
 have:=(ack n.toNat).1
 show((aaW n.toNat:Nat):Int)*((aaW n.toNat:Nat):Int)≤n
 have e:((aaW n.toNat:Nat):Int)*((aaW n.toNat:Nat):Int)=((aaW n.toNat*aaW n.toNat:Nat):Int):=by simp
 rw[e];omega
theorem ac6(n:Int)(h:0≤n):n<(aaC n+1)*(aaC n+1):=by
 have:=(ack n.toNat).2
 show n<((aaW n.toNat:Nat)+1:Int)*((aaW n.toNat:Nat)+1:Int)
 have e:((aaW n.toNat:Nat)+1:Int)*((aaW n.toNat:Nat)+1:Int)=(((aaW n.toNat+1)*(aaW n.toNat+1):Nat):Int):=by simp
 rw[e];omega
theorem aiK{a b:Int}(ha:0≤a)(h:a*a<b*b)(hb:0≤b):a<b:=by
 apply Int.lt_of_not_ge
 intro hc
 have:=Int.mul_le_mul hc hc hb ha
 omega
theorem abS{n r:Int}(h0:0≤r)(h1:r*r≤n)(h2:n<(r+1)*(r+1))(hn:0≤n):aaC n=r:=by
 have a:=ac7 n hn
 have b:=ac6 n hn
 have c:=aaL n
 have x:aaC n<r+1:=aiK c (by omega) (by omega)
 have y:r<aaC n+1:=aiK h0 (by omega) (by omega)
 omega
theorem anH{n r q:Int}(hn:0≤n)(hr:0<r)(hq:q=n / r):aaC n≤(r+q) / 2:=by
 have a:=ac7 n hn
 have c:=aaL n
 generalize hs:aaC n=s at *
 have h1:n<r*(q+1):=by
  have:=Int.lt_ediv_add_one_mul_self n hr
  rw[hq];rw[Int.mul_comm];exact this
 have h2:0≤(s-r)*(s-r):=by
  rcases Int.le_total s r with h|h
  ·have:0≤(r-s)*(r-s):=Int.mul_nonneg (by omega) (by omega)
   grind
  ·exact Int.mul_nonneg (by omega) (by omega)
 have h3:r*(2*s)<r*(q+1+r):=by grind
 have h4:2*s<q+1+r:=Int.lt_of_mul_lt_mul_left h3 (by omega)
 omega
structure Inv(n r m:Int):Prop where
 r0:0≤r
 rn:r≤n
 sr:aaC n≤r
 sm:aaC n≤m
 e:r≤m→r=aaC n
theorem afo{n:Int}(h:0<n):1≤aaC n:=by
 have b:=ac6 n (by omega)
 have c:=aaL n
 rcases(by omega:aaC n=0∨1≤aaC n)with z|z
 ·rw[z]at b;omega
 ·exact z
theorem acR{n:Int}(h:0≤n):Inv n n (Int.fdiv (n+1) 2):=by
 rw[Int.fdiv_eq_ediv_of_nonneg _ (by decide)]
 have a:=ac7 n h
 have b:=ac6 n h
 have c:=aaL n
 have d:0≤(aaC n-1)*(aaC n-1):=by
  rcases(by omega:aaC n=0∨1≤aaC n)with z|z
  ·rw[z];decide
  ·exact Int.mul_nonneg (by omega) (by omega)
 have d2:(aaC n-1)*(aaC n-1)=aaC n*aaC n-2*aaC n+1:=by grind
 refine⟨h,Int.le_refl _,?_,by omega,?_⟩
 ·rcases(by omega:aaC n=0∨1≤aaC n)with z|z
  ·omega
  ·have:=Int.mul_le_mul_of_nonneg_left z c
   omega
 ·intro hc
  have:n=0∨n=1:=by omega
  rcases this with z|z
  ·exact(abS (by omega) (by subst z;decide) (by subst z;decide) h).symm
  ·exact(abS (by omega) (by subst z;decide) (by subst z;decide) h).symm
theorem ahE{n r m:Int}(h:Inv n r m)(hlt:m<r):0<m:=by
 have:=h.sm
 have:=afo (n:=n) (by have:=h.rn;have:=h.sm;have:=aaL n;omega)
 omega
theorem aiu{n r m:Int}(h:Inv n r m)(hlt:m<r):Inv n m (Int.fdiv (m+Int.fdiv n m) 2):=by
 have mp:=ahE h hlt
 have n0:0≤n:=by have:=h.rn;have:=h.r0;omega
 rw[Int.fdiv_eq_ediv_of_nonneg _ (by decide),Int.fdiv_eq_ediv_of_nonneg n (by omega:0≤m)]
 have nw:=anH n0 mp rfl
 refine⟨by omega,by have:=h.rn;omega,h.sm,nw,?_⟩
 intro hc
 have h2:m≤n / m:=by omega
 have h3:m*m≤n:=by
  have e1:n / m*m≤n:=Int.ediv_mul_le n (by omega)
  have e2:m*m≤n / m*m:=Int.mul_le_mul_of_nonneg_right h2 (by omega)
  omega
 have b:=ac6 n n0
 have:m<aaC n+1:=aiK (by omega) (by omega) (by have:=aaL n;omega)
 have:=h.sm
 omega
theorem akX{n r m:Int}(h:Inv n r m)(hlt:¬m<r):r=aaC n:=h.e (by omega)
theorem nn{a:Int}:0≤a*a:=by
 rcases Int.le_total 0 a with h|h
 ·exact Int.mul_nonneg h h
 ·have:0≤(-a)*(-a):=Int.mul_nonneg (by omega) (by omega)
  grind
end M3
end
section
namespace IP
theorem agG{c:Fr→Sto→Res Bool}{b:Fr→Sto→SR}:∀(n:Nat) (σ:Fr) (s:Sto),aaq c b n σ s≠.stuck→aaq c b (n+1) σ s=aaq c b n σ s
 | 0,σ,s,h=>absurd rfl h
 | n+1,σ,s,h=>by
  rw[aaq]
  conv=>rhs;rw[aaq]
  rw[aaq]at h
  cases hc:c σ s with
  | stuck=>rfl
  | exc d s1=>rfl
  | ok v s1=>
   cases v with
   | false=>rfl
   | true=>
    rw[hc]at h
    simp only at h ⊢
    cases hb:b σ s1 with
    | next σ2 s2=>
     rw[hb]at h
     simp only[SR.bind_next]at h ⊢
     exact agG n σ2 s2 h
    | _=>rfl
theorem aoa{c:Fr→Sto→Res Bool}{b:Fr→Sto→SR}{σ:Fr}{s:Sto}{n m:Nat}(h:aaq c b n σ s≠.stuck)(hm:n≤m):aaq c b m σ s=aaq c b n σ s:=by
 induction hm with
 | refl=>rfl
 | step _ ih=>rw[agG _ _ _ (by rw[ih];exact h),ih]
theorem aqc{c:Fr→Sto→Res Bool}{b:Fr→Sto→SR}{σ:Fr}{s:Sto}{n:Nat}{r:SR}(h:aaq c b n σ s=r)(hr:r≠.stuck):aai c b σ s=r:=by
 have hex:∃n,aaq c b n σ s≠.stuck:=⟨n,by rw[h];exact hr⟩
 unfold aai
 rw[dif_pos hex]
 have h2:=Classical.choose_spec hex
 generalize Classical.choose hex=m at h2
 rcases Nat.le_total n m with z|z
 ·rw[aoa (by rw[h];exact hr) z,h]
 ·rw[←aoa h2 z,h]
theorem acm{c:Fr→Sto→Res Bool}{b:Fr→Sto→SR}{s:Sto}(I:Fr→Prop)(μ:Fr→Nat)(hc:∀σ,I σ→(c σ s=.ok false s)∨(c σ s=.ok true s∧∃σ2,b σ s=.next σ2 s∧I σ2∧μ σ2<μ σ))(σ:Fr)(h:I σ):∃σ',aai c b σ s=.next σ' s∧I σ'∧c σ' s=.ok false s:=by
 have key:∀(m:Nat) (σ:Fr),μ σ≤m→I σ→∃n σ',aaq c b n σ s=.next σ' s∧I σ'∧c σ' s=.ok false s:=by
  intro m
  induction m with
  | zero=>
   intro σ hm hI
   rcases hc σ hI with e|⟨_,σ2,_,_,e⟩
   ·exact⟨1,σ,by rw[aaq,e],hI,e⟩
   ·omega
  | succ m ih=>
   intro σ hm hI
   rcases hc σ hI with e|⟨e,σ2,e2,h2,e3⟩
   ·exact⟨1,σ,by rw[aaq,e],hI,e⟩
   ·obtain⟨n,σ',q1,q2,q3⟩:=ih σ2 (by omega) h2
    exact⟨n+1,σ',by rw[aaq,e];simp only[e2,SR.bind_next,q1],q2,q3⟩
 obtain⟨n,σ',q1,q2,q3⟩:=key _ σ (Nat.le_refl _) h
 exact⟨σ',aqc q1 (by intro h;cases h),q2,q3⟩
namespace Pg
open L2 M3
variable{k:Nat}{s:Sto}
theorem ae3{n:Int}(h0:0≤n)(hn:n<2^60):run true fns aar aai (k+1) ave [.val (.int n)] s=.ok (.val (.int (aaC n))) s:=by
 rw[aan (F:=atq) rfl rfl]
 obtain⟨σ',e,⟨r,m,rfl,hI⟩,hout⟩:=acm (s:=s) (c:=fun σ s=>(ev (cfX fns aar k) (.cmp .lt (.var 2) (.var 1)) .t σ s).bind fun x s1=>.of (match x with | .val (.bl k)=>some k | _=>none) s1) (b:=fun σ s=>exs (cfX fns aar k) ag3 σ s)
  (fun σ=>∃r m:Int,σ=[some (.val (.int n)),some (.val (.int r)),some (.val (.int m))]∧Inv n r m) (fun σ=>match σ with | [_,some (.val (.int r)),_]=>r.toNat | _=>0) (by
   rintro σ ⟨r,m,rfl,hI⟩
   by_cases hlt:m<r
   ·refine .inr ⟨by simp[hlt],?_⟩
    have hp:=ahE hI hlt
    have hr:=hI.rn
    have hd:=abe (i:=n) (j:=m) hp (by omega)
    exact⟨[some (.val (.int n)),some (.val (.int m)),some (.val (.int (Int.fdiv (m+Int.fdiv n m) 2)))],by simp[hd,abe],⟨m,_,rfl,aiu hI hlt⟩,by simp;omega⟩
   ·exact .inl (by simp[hlt])) [some (.val (.int n)),some (.val (.int n)),some (.val (.int (Int.fdiv (n+1) 2)))] ⟨n,_,rfl,acR h0⟩
 have hle:¬m<r:=by
  intro hlt
  simp[hlt]at hout
 have hx:exs (cfX fns aar k) ao7 (aaR atq [.val (.int n)]) s=.ret (.val (.int (aaC n))) s:=by
  refine(aae (σ1:=[some (.val (.int n)),some (.val (.int n)),none]) (s1:=s) (by simp)).trans ?_
  refine(aae (σ1:=[some (.val (.int n)),some (.val (.int n)),some (.val (.int (Int.fdiv (n+1) 2)))]) (s1:=s) (by simp[abe])).trans ?_
  refine(aae (σ1:=[some (.val (.int n)),some (.val (.int r)),some (.val (.int m))]) (s1:=s) ?_).trans ?_
  ·rw[ex]
   exact e
  rw[←akX hI hle]
  simp
 rw[hx]
 rfl
end Pg
end IP
end
section
namespace IP
namespace Pg
open L2 SegM
noncomputable def fu(u v:Int)(p:Int×Int):Int:=p.1*u+p.2*v
noncomputable def agn(p q r:Int×Int):Prop:=∃u v,(fu u v p≤fu u v q∧fu u v q<fu u v r)∨(fu u v r≤fu u v q∧fu u v q<fu u v p)
noncomputable def ae5(p q r t:Int×Int):Prop:=∃u v,Below (fu u v p) (fu u v q) (fu u v r) (fu u v t)
theorem agn.symm{p q r:Int×Int}(h:agn p q r):agn r q p:=by
 obtain⟨u,v,h⟩:=h
 exact⟨u,v,h.symm⟩
theorem acx(u v:Int)(p:Int×Int):fu (-u) (-v) p=-fu u v p:=by unfold fu;grind
theorem ae5.swap{p q r t:Int×Int}(h:ae5 p q r t):ae5 r t p q:=by
 obtain⟨u,v,h⟩:=h
 refine⟨-u,-v,?_⟩
 simp only[acx]
 unfold Below at h ⊢
 omega
theorem ae5.flip{p q r t:Int×Int}(h:ae5 p q r t):ae5 q p t r:=by
 obtain⟨u,v,h⟩:=h
 refine⟨u,v,?_⟩
 unfold Below at h ⊢
 omega
theorem alG{p q r t:Int×Int}(h:ae5 p q r t):aaU p q r t=false:=by
 obtain⟨u,v,h⟩:=h
 cases hb:aaU p q r t with
 | false=>rfl
 | true=>
  exfalso
  simp only[aaU,ab6,ax,Bool.and_eq_true,decide_eq_true_eq,Bool.false_eq_true,if_false,if_true]at hb
  obtain⟨⟨⟨⟨a1,a2⟩,a3,a4⟩,a5⟩,a6⟩:=hb
  have hc:Common p.1 p.2 q.1 q.2 r.1 r.2 t.1 t.2:=⟨⟨a1,a2⟩,⟨a3,a4⟩,a5,a6⟩
  exact common_not hc u v (.inl h)
theorem ahl{p q r:Int×Int}(h:agn p q r):aa3 q p r=false:=by
 obtain⟨u,v,h⟩:=h
 cases hb:aa3 q p r with
 | false=>rfl
 | true=>
  exfalso
  simp only[aa3,Bool.and_eq_true,decide_eq_true_eq]at hb
  obtain⟨h1,h2⟩:=hb
  unfold abi at h1
  unfold abu at h2
  unfold fu at h
  generalize ea:p.1-q.1=a at *
  generalize eb:p.2-q.2=b at *
  generalize ec:r.1-q.1=c at *
  generalize ed:r.2-q.2=d at *
  have hp:p.1*u+p.2*v=q.1*u+q.2*v+(a*u+b*v):=by grind
  have hr:r.1*u+r.2*v=q.1*u+q.2*v+(c*u+d*v):=by grind
  rw[hp,hr]at h
  have e1:(a*c+b*d)*(a*u+b*v)=(a*a+b*b)*(c*u+d*v):=by grind
  have na:0<a*a+b*b:=by
   apply WayM.sq_pos_of
   rintro⟨rfl,rfl⟩
   omega
  rcases h with⟨x,y⟩|⟨x,y⟩
  ·have z1:=Int.mul_pos na (show 0<c*u+d*v by omega)
   have z2:=Int.mul_nonneg (show 0≤a*c+b*d by omega) (show 0≤-(a*u+b*v)by omega)
   have z3:(a*c+b*d)*-(a*u+b*v)=-((a*c+b*d)*(a*u+b*v)):=by grind
   omega
  ·have z1:=Int.mul_pos h2 (show 0<a*u+b*v by omega)
   have z2:=Int.mul_nonneg (show 0≤a*a+b*b by omega) (show 0≤-(c*u+d*v)by omega)
   have z3:(a*a+b*b)*-(c*u+d*v)=-((a*a+b*b)*(c*u+d*v)):=by grind
   omega
noncomputable def sm(f:Nat→Int):Nat→Int
 | 0=>0
 | m+1=>sm f m+f m
theorem abD{f g:Nat→Int}:∀m,(∀i,i<m→f i=g i)→sm f m=sm g m
 | 0,_=>rfl
 | m+1,h=>by
  unfold sm
  rw[abD m fun i hi=>h i (by omega),h m (by omega)]
theorem aeC(f:Nat→Int):∀m,sm f (m+1)=f 0+sm (fun i=>f (i+1)) m
 | 0=>by simp[sm]
 | m+1=>by
  have:=aeC f m
  have e1:sm f (m+1+1)=sm f (m+1)+f (m+1):=rfl
  have e2:sm (fun i=>f (i+1)) (m+1)=sm (fun i=>f (i+1)) m+f (m+1):=rfl
  omega
theorem ajb(f:Nat→Int):∀m,sm (fun i=>f (m-1-i)) m=sm f m
 | 0=>rfl
 | m+1=>by
  rw[aeC]
  have e:=ajb f m
  have e2:sm (fun i=>f (m+1-1-(i+1))) m=sm (fun i=>f (m-1-i)) m:=abD m fun i hi=>by
   show f (m+1-1-(i+1))=f (m-1-i)
   rw[show m+1-1-(i+1)=m-1-i by omega]
  rw[e2,e]
  show f (m+1-1-0)+sm f m=sm f m+f m
  rw[show m+1-1-0=m by omega]
  omega
theorem ajm(f:Nat→Int):∀m,sm (fun i=>-f i) m=-sm f m
 | 0=>rfl
 | m+1=>by
  have:=ajm f m
  show sm (fun i=>-f i) m+-f m=-(sm f m+f m)
  omega
theorem agK{f:Nat→Int}{n:Nat}(hp:∀i,f (i+n)=f i):sm (fun i=>f (i+1)) n=sm f n:=by
 have h:=aeC f n
 have h2:sm f (n+1)=sm f n+f n:=rfl
 have h3:=hp 0
 rw[Nat.zero_add]at h3
 omega
theorem ad1{f:Nat→Int}{n:Nat}(hp:∀i,f (i+n)=f i):∀m,sm (fun i=>f (i+m)) n=sm f n
 | 0=>rfl
 | m+1=>by
  have h:=agK (f:=fun i=>f (i+m)) (n:=n) (fun i=>by
   show f (i+n+m)=f (i+m)
   rw[show i+n+m=i+m+n by omega,hp])
  rw[←ad1 hp m,←h]
  exact abD n fun i _=>by
   show f (i+(m+1))=f (i+1+m)
   rw[show i+(m+1)=i+1+m by omega]
noncomputable def crs(p q:Int×Int):Int:=p.1*q.2-p.2*q.1
theorem ak7(p q:Int×Int):crs q p=-crs p q:=by unfold crs;grind
noncomputable def ae8(Q:Nat→Int×Int)(n:Nat):Int:=sm (fun i=>crs (Q i) (Q (i+1))) n
structure NC(n:Nat)(Q:Nat→Int×Int):Prop where
 n3:3≤n
 per:∀i,Q (i+n)=Q i
 c0:∀i,Q i≠Q (i+1)
 c1:∀i,agn (Q i) (Q (i+1)) (Q (i+2))
 c2:∀i j,i+1<j→j+1<i+n→ae5 (Q i) (Q (i+1)) (Q j) (Q (j+1))
 ar:ae8 Q n≠0
section
variable{n:Nat}{Q:Nat→Int×Int}(N:NC n Q)
include N
theorem NC.perm(d i:Nat):Q (i+d*n)=Q i:=by
 induction d with
 | zero=>simp
 | succ d ih=>rw[show i+(d+1)*n=i+d*n+n by rw[Nat.add_mul];omega,N.per,ih]
theorem NC.rot(m:Nat):NC n (fun i=>Q (i+m)):=by
 refine⟨N.n3,fun i=>?_,fun i=>?_,fun i=>?_,fun i j h1 h2=>?_,?_⟩
 ·show Q (i+n+m)=Q (i+m)
  rw[show i+n+m=i+m+n by omega,N.per]
 ·have:=N.c0 (i+m)
  show Q (i+m)≠Q (i+1+m)
  rw[show i+1+m=i+m+1 by omega];exact this
 ·have:=N.c1 (i+m)
  show agn (Q (i+m)) (Q (i+1+m)) (Q (i+2+m))
  rw[show i+1+m=i+m+1 by omega,show i+2+m=i+m+2 by omega];exact this
 ·have:=N.c2 (i+m) (j+m) (by omega) (by omega)
  show ae5 (Q (i+m)) (Q (i+1+m)) (Q (j+m)) (Q (j+1+m))
  rw[show i+1+m=i+m+1 by omega,show j+1+m=j+m+1 by omega];exact this
 ·have h:=ad1 (f:=fun i=>crs (Q i) (Q (i+1))) (n:=n) (fun i=>by
   show crs (Q (i+n)) (Q (i+n+1))=crs (Q i) (Q (i+1))
   rw[N.per,show i+n+1=i+1+n by omega,N.per]) m
  have e:ae8 (fun i=>Q (i+m)) n=ae8 Q n:=by
   unfold ae8
   rw[←h]
   exact abD n fun i _=>by
    show crs (Q (i+m)) (Q (i+1+m))=crs (Q (i+m)) (Q (i+m+1))
    rw[show i+1+m=i+m+1 by omega]
  rw[e];exact N.ar
theorem NC.rev_at{i a t:Nat}(h:a+i+1=t*n):Q (n-1-i % n)=Q a:=by
 have n3:=N.n3
 have hi:=Nat.mod_lt i (show 0<n by omega)
 have e:=Nat.mod_add_div i n
 have e2:a+i % n+1+n*(i / n)=t*n:=by omega
 have ha:a=n-1-i % n+(t-1-i / n)*n:=by
  have h1:i / n+1≤t:=by
   apply Nat.lt_of_not_le
   intro h
   have:=Nat.mul_le_mul_right n h
   rw[Nat.mul_comm (i / n) n]at this
   omega
  have h2:t*n=(t-1-i / n)*n+n+n*(i / n):=by
   have:t=(t-1-i / n)+1+i / n:=by omega
   conv=>lhs;rw[this]
   rw[Nat.add_mul,Nat.add_mul,Nat.one_mul,Nat.mul_comm (i / n) n]
  omega
 rw[ha,N.perm]
theorem NC.rev:NC n (fun i=>Q (n-1-i % n)):=by
 have n3:=N.n3
 have mm:∀t,t*(n-1)+t=t*n:=fun t=>by
  have:n=n-1+1:=by omega
  conv=>rhs;rw[this]
  rw[Nat.mul_add,Nat.mul_one]
 refine⟨n3,fun i=>?_,fun i=>?_,fun i=>?_,fun i j h1 h2=>?_,?_⟩
 ·show Q (n-1-(i+n) % n)=Q (n-1-i % n)
  rw[Nat.add_mod_right]
 ·have m:=mm (i+2)
  show Q (n-1-i % n)≠Q (n-1-(i+1) % n)
  rw[N.rev_at (i:=i+1) (a:=(i+2)*(n-1)) (t:=i+2) (by omega),N.rev_at (i:=i) (a:=(i+2)*(n-1)+1) (t:=i+2) (by omega)]
  exact fun h=>N.c0 _ h.symm
 ·have m:=mm (i+3)
  show agn (Q (n-1-i % n)) (Q (n-1-(i+1) % n)) (Q (n-1-(i+2) % n))
  rw[N.rev_at (i:=i+2) (a:=(i+3)*(n-1)) (t:=i+3) (by omega),N.rev_at (i:=i+1) (a:=(i+3)*(n-1)+1) (t:=i+3) (by omega),N.rev_at (i:=i) (a:=(i+3)*(n-1)+2) (t:=i+3) (by omega)]
  exact(N.c1 _).symm
 ·have m:=mm (j+2)
  show ae5 (Q (n-1-i % n)) (Q (n-1-(i+1) % n)) (Q (n-1-j % n)) (Q (n-1-(j+1) % n))
  rw[N.rev_at (i:=j+1) (a:=(j+2)*(n-1)) (t:=j+2) (by omega),N.rev_at (i:=j) (a:=(j+2)*(n-1)+1) (t:=j+2) (by omega),N.rev_at (i:=i+1) (a:=(j+2)*(n-1)+(j-i)) (t:=j+2) (by omega),N.rev_at (i:=i) (a:=(j+2)*(n-1)+(j-i)+1) (t:=j+2) (by omega)]
  exact(N.c2 _ _ (by omega) (by omega)).swap.flip
 ·have hp:∀i,crs (Q (i+n)) (Q (i+n+1))=crs (Q i) (Q (i+1)):=fun i=>by
   rw[N.per,show i+n+1=i+1+n by omega,N.per]
  have h1:=ajb (fun i=>crs (Q (i+(n-1))) (Q (i+(n-1)+1))) n
  have h2:=ad1 (f:=fun i=>crs (Q i) (Q (i+1))) (n:=n) hp (n-1)
  have e:ae8 (fun i=>Q (n-1-i % n)) n=-ae8 Q n:=by
   unfold ae8
   rw[←h2]
   show _=-sm (fun i=>crs (Q (i+(n-1))) (Q (i+(n-1)+1))) n
   rw[←h1,←ajm]
   refine abD n fun i hi=>?_
   show crs (Q (n-1-i % n)) (Q (n-1-(i+1) % n))=-crs (Q (n-1-i+(n-1))) (Q (n-1-i+(n-1)+1))
   rw[←ak7,N.rev_at (i:=i) (a:=n-1-i+(n-1)+1) (t:=2) (by omega),N.rev_at (i:=i+1) (a:=n-1-i+(n-1)) (t:=2) (by omega)]
  rw[e]
  have:=N.ar
  omega
end
end Pg
end IP
end
section
namespace IP
namespace Pg
open L2 SegM
variable{k:Nat}{s:Sto}{l:List (Int×Int)}
structure Keeps(g:Int×Int→Int×Int):Prop where
 f:∀u v:Int,∃u' v' c:Int,∀p,fu u' v' (g p)=fu u v p+c
theorem Keeps.cor{g:Int×Int→Int×Int}(K:Keeps g){p q r:Int×Int}(h:agn p q r):agn (g p) (g q) (g r):=by
 obtain⟨u,v,h⟩:=h
 obtain⟨u',v',c,e⟩:=K.f u v
 refine⟨u',v',?_⟩
 rw[e,e,e]
 omega
theorem Keeps.sep{g:Int×Int→Int×Int}(K:Keeps g){p q r t:Int×Int}(h:ae5 p q r t):ae5 (g p) (g q) (g r) (g t):=by
 obtain⟨u,v,h⟩:=h
 obtain⟨u',v',c,e⟩:=K.f u v
 refine⟨u',v',?_⟩
 rw[e,e,e,e]
 unfold Below at h ⊢
 omega
theorem Keeps.inj{g:Int×Int→Int×Int}(K:Keeps g){p q:Int×Int}(h:g p=g q):p=q:=by
 obtain⟨u',v',c,e⟩:=K.f 1 0
 obtain⟨u2,v2,c2,e2⟩:=K.f 0 1
 have a:=e p
 have b:=e q
 have a2:=e2 p
 have b2:=e2 q
 rw[h]at a a2
 simp only[fu,Int.mul_one,Int.mul_zero,Int.add_zero,Int.zero_add]at a b a2 b2
 exact Prod.ext (by omega) (by omega)
theorem NC.map{n:Nat}{Q:Nat→Int×Int}(N:NC n Q){g:Int×Int→Int×Int}(K:Keeps g)(ha:ae8 (fun i=>g (Q i)) n=ae8 Q n):NC n (fun i=>g (Q i)):=by
 refine⟨N.n3,fun i=>?_,fun i h=>N.c0 i (K.inj h),fun i=>K.cor (N.c1 i),fun i j h1 h2=>K.sep (N.c2 i j h1 h2),by rw[ha];exact N.ar⟩
 show g (Q (i+n))=g (Q i)
 rw[N.per]
noncomputable def lean(L:Int)(p:Int×Int):Int×Int:=(p.1+L*p.2,p.2)
theorem afC(L:Int):Keeps (lean L):=⟨fun u v=>⟨u,v-L*u,0,fun p=>by unfold fu lean;dsimp only;grind⟩⟩
section
variable{n:Nat}{Q:Nat→Int×Int}(N:NC n Q)
include N
theorem NC.lean(L:Int):NC n (fun i=>lean L (Q i)):=N.map (afC L) (abD n fun i _=>by
 show crs (Pg.lean L (Q i)) (Pg.lean L (Q (i+1)))=_
 unfold crs Pg.lean;dsimp only;grind)
end
theorem NC.free{n:Nat}(N:NC n (cor l))(hn:l.length=n){i j:Nat}(hij:i≤j)(hj:j<n):aaE l i j=false:=by
 have n3:=N.n3
 unfold aaE
 by_cases c1:i=j
 ·rw[if_pos c1]
  have:=N.c0 i
  simp[this]
 ·rw[if_neg c1]
  by_cases c2:j=i+1
  ·rw[if_pos c2]
   subst c2
   exact ahl (N.c1 i)
  ·rw[if_neg c2]
   by_cases c3:j+1=l.length∧i=0
   ·rw[if_pos c3]
    obtain⟨c3,rfl⟩:=c3
    have h:=N.c1 j
    have e0:cor l (j+1)=cor l 0:=by have:=N.per 0;rw[show 0+n=j+1 by omega]at this;exact this
    have e1:cor l (j+2)=cor l (0+1):=by have:=N.per 1;rw[show 1+n=j+2 by omega]at this;exact this
    rw[e0,e1]at h
    exact ahl h.symm
   ·rw[if_neg c3]
    exact alG (N.c2 i j (by omega) (by omega))
theorem ac9{m:Nat}(h:m<l.length):abE (LN l) ((m:Int)-1)=some (pt (cor l (m+l.length-1))):=by
 have hg:=aaT (l:=l) (by omega) (m+l.length-1)
 cases m with
 | zero=>
  have e:(0+l.length-1) % l.length=l.length-1:=by rw[Nat.zero_add];exact Nat.mod_eq_of_lt (by omega)
  rw[e]at hg
  show L2.atI (l.map pt) ((0:Int)-1)=_
  unfold L2.atI L2.ixN
  simp only[List.length_map]
  rw[if_neg (by omega),if_pos (by omega)]
  rw[show((0:Int)-1+(l.length:Int)).toNat=l.length-1 by omega]
  exact hg
 | succ m=>
  have e:(m+1+l.length-1) % l.length=m:=by
   rw[show m+1+l.length-1=m+l.length by omega,Nat.add_mod_right]
   exact Nat.mod_eq_of_lt (by omega)
  rw[e]at hg
  rw[show(((m+1:Nat):Int)-1)=(m:Int)by omega]
  exact aba hg
noncomputable def dsum(l:List (Int×Int)):Nat→Int
 | 0=>0
 | m+1=>dsum l m+(cor l (m+l.length-1)).1*(cor l m).2-(cor l (m+l.length-1)).2*(cor l m).1
theorem NC.dsum{n:Nat}(N:NC n (cor l))(hn:l.length=n):dsum l l.length≠0:=by
 have n3:=N.n3
 have h:=(N.rot (n-1)).ar
 have e:∀m,Pg.dsum l m=ae8 (fun i=>cor l (i+(n-1))) m:=fun m=>by
  induction m with
  | zero=>rfl
  | succ m ih=>
   have e1:ae8 (fun i=>cor l (i+(n-1))) (m+1)=ae8 (fun i=>cor l (i+(n-1))) m+crs (cor l (m+(n-1))) (cor l (m+1+(n-1))):=rfl
   rw[e1,←ih,show m+1+(n-1)=m+n by omega,N.per]
   show Pg.dsum l m+(cor l (m+l.length-1)).1*(cor l m).2-(cor l (m+l.length-1)).2*(cor l m).1=_
   rw[show m+l.length-1=m+(n-1)by omega]
   unfold crs
   omega
 rw[hn,e];exact h
theorem anU:∀(ts:List T) (n i:Nat),(enT n ts)[i]?=ts[i]?.map fun t=>T.tup [.int ((n+i:Nat):Int),t]:=afb
theorem agk(hl:∀p∈l,sml p)(h0:0<l.length):run true fns aar aai (k+1) 14 [LN l] s=.ok (.val (.bl (decide (0<dsum l l.length)))) s:=by
 rw[aan (F:=atl) rfl rfl]
 obtain⟨σ',e,c2,c3,c4,rfl⟩:=abj (g:=.many [2,3]) (body:=fun σ s=>exs (cfX fns aar k) ag8 σ s) (s:=s) (fun m σ=>∃c2 c3 c4,σ=[some (.val (.lst (l.map pt))),some (.val (.int (dsum l m))),c2,c3,c4]) (enT 0 (l.map pt)) 0 [some (.val (.lst (l.map pt))),some (.val (.int 0)),none,none,none] ⟨_,_,_,rfl⟩ (by
   rintro m t σ hm ⟨c2,c3,c4,rfl⟩
   rw[anU,Nat.zero_add]at hm
   have hlt:m<l.length:=by
    cases e:(l.map pt)[m]? with
    | none=>rw[e]at hm;cases hm
    | some u=>have:=(List.getElem?_eq_some_iff.mp e).1;simpa using this
   have hg:=aaT (l:=l) h0 m
   rw[Nat.mod_eq_of_lt hlt]at hg
   rw[hg]at hm
   cases hm
   have hp:=ac9 hlt
   have sp:=aa2 hl (m+l.length-1)
   have m1:=aao (i:=(cor l (m+l.length-1)).1) (j:=(cor l m).2) (aah (by have:=sp.1;omega))
   have m2:=aao (i:=(cor l (m+l.length-1)).2) (j:=(cor l m).1) (aah (by have:=sp.2;omega))
   refine⟨[some (.val (.lst (l.map pt))),some (.val (.int (dsum l m))),some (.val (.int m)),some (.val (pt (cor l m))),c4],[some (.val (.lst (l.map pt))),some (.val (.int (dsum l (m+1)))),some (.val (.int m)),some (.val (pt (cor l m))),some (.val (pt (cor l (m+l.length-1))))],?_,?_,_,_,_,by rw[Nat.zero_add]⟩
   ·simp[aav,puts]
   ·simp[hp,m1,m2,dsum])
 rw[adE,List.length_map,Nat.zero_add]at e
 have hx:exs (cfX fns aar k) apy (aaR atl [LN l]) s=.ret (.val (.bl (decide (0<dsum l l.length)))) s:=by
  refine(aae (σ1:=[some (.val (.lst (l.map pt))),some (.val (.int 0)),none,none,none]) (s1:=s) (by simp)).trans ?_
  refine(aae ((aci (ts:=enT 0 (l.map pt)) (s1:=s) (by simp) (by intro _ h;cases h)).trans e)).trans ?_
  simp
 rw[hx]
 rfl
end Pg
end IP
end
section
namespace IP
namespace Pg
open L2 M3
variable{k:Nat}{s:Sto}{l:List (Int×Int)}
theorem ajG(C:Cf):∀(n m:Nat) (c:Option B),∃c',aai (fun σ s=>(ev C (.cmp .ne (.var 1) (.cst (.int 0))) .t σ s).bind fun x s1=>.of (asB x) s1) (fun σ s=>exs C adO σ s)
   [some (.val (.int m)),some (.val (.int n)),c] s=.next [some (.val (.int (Nat.gcd m n))),some (.val (.int 0)),c'] s:=by
 intro n
 induction n using Nat.strongRecOn with
 | _ n ih=>
  intro m c
  rw[acQ]
  by_cases h:n=0
  ·subst h
   exact⟨c,by simp⟩
  ·have hn:0<n:=by omega
   have hd:=aaA (i:=(m:Int)) (j:=(n:Int)) (by omega)
   rw[abW]at hd
   obtain⟨c',e⟩:=ih (m % n) (Nat.mod_lt _ hn) n (some (.val (.int ((m % n:Nat):Int))))
   refine⟨c',?_⟩
   rw[show Nat.gcd m n=Nat.gcd n (m % n)by rw[Nat.gcd_comm m n,Nat.gcd_rec n m,Nat.gcd_comm]]
   have h0:((n:Int)==0)=false:=by simp;omega
   have hc:(ev C (.cmp .ne (.var 1) (.cst (.int 0))) .t [some (.val (.int m)),some (.val (.int n)),c] s).bind (fun x s1=>Res.of (asB x) s1)=.ok true s:=by simp[h0]
   have hb:exs C adO [some (.val (.int m)),some (.val (.int n)),c] s=.next [some (.val (.int n)),some (.val (.int ((m % n:Nat):Int))),some (.val (.int ((m % n:Nat):Int)))] s:=by
    generalize ((m % n:Nat):Int)=z at hd ⊢
    simp[hd]
   rw[hc]
   show(exs C adO [some (.val (.int m)),some (.val (.int n)),c] s).bind _=_
   rw[hb]
   exact e
theorem at7(m n:Nat):run true fns aar aai (k+1) aph [.val (.int m),.val (.int n)] s=.ok (.val (.int (Nat.gcd m n))) s:=by
 rw[aan (F:=aty) rfl rfl]
 obtain⟨c',e⟩:=ajG (s:=s) (cfX fns aar k) n m none
 have hx:exs (cfX fns aar k) apr (aaR aty [.val (.int m),.val (.int n)]) s=.ret (.val (.int (Nat.gcd m n))) s:=by
  refine(aae ((aev rfl).trans e)).trans ?_
  simp
 rw[hx]
 rfl
theorem ab(a:Int):(if a<0 then -a else a)=(a.natAbs:Int):=by split<;>omega
theorem acO{α:Type}{q:Nat→Option α}:∀(m n:Nat),(∀i,n≤i→i<n+m→q i=none)→aaZ q n m=none
 | 0,_,_=>rfl
 | m+1,n,h=>by
  unfold aaZ
  rw[h n (Nat.le_refl _) (by omega)]
  exact acO m (n+1) fun i h1 h2=>h i (by omega) (by omega)
theorem apx{p:Nat→Nat→Bool}{n:Nat}(h:∀i j,i≤j→j<n→p i j=false):fp p n=.val .non:=by
 unfold fp
 rw[acO n 0 fun i _ hi=>?_]
 ·rfl
 unfold qi
 refine acO _ _ fun j h1 h2=>?_
 unfold qj
 rw[h i j h1 (by omega)]
 rfl
theorem afP(n:Nat):aax 0 (n:Int)=(List.range n).map fun k:Nat=>T.int k:=by
 unfold aax
 simp
theorem agI{f:Nat→Int×Int}{n:Nat}(h:0<n)(i:Nat):cor ((List.range n).map f) i=f (i % n):=by
 have:=Nat.mod_lt i h
 unfold cor
 simp[this]
theorem abv{m n f:Nat}{rs:List R}{s:Sto}{r:Res R}(h:run true fns aar aai n f rs s=r)(e:n=m):(cfX fns aar m).cf f rs s=r:=by
 subst e
 exact h
noncomputable abbrev LN'(l:List (Int×Int)):B:=.val (.lst (l.map pt))
theorem aeE{C:Cf}{n:Nat}(h0:0<n)(hn:l.length=n)(h1000:n≤1000){b:Int}{lw:Bool}{v:Nat→Int×Int}{d:Nat→T}(e1:C.cf 0 [LN l] s=.ok (.val .non) s)(e2:C.cf 14 [LN l] s=.ok (.val (.bl lw)) s)
  (e3:∀i:Nat,i<n→C.cf 15 [LN l,.val (.int i),.val (.bl lw)] s=.ok (PT (v i)) s) (e4:∀i:Nat,i<n→C.cf 16 [PT (cor l i),PT (v ((i+n-1) % n)),PT (v i),.val (.int b)] s=.ok (.val (d i)) s):
  exs C anD [some (.val (.lst (l.map pt))),some (.val (.int b)),none,none,none,none] s=.ret (.val (.lst ((List.range n).map d))) s:=by
 have hlen:∀σ:Fr,σ[0]?=some (some (.val (.lst (l.map pt))))→ev C (.rng1 (.b1 .len (.var 0))) .i σ s=.ok (.val (.lst ((List.range n).map fun k:Nat=>T.int k))) s:=fun σ h0=>by
  rw[←afP]
  exact afy (n:=n) (by simp[look,h0,hn]) h1000
 have c0:ev C (.comp adN (.one 4) (.rng1 (.b1 .len (.var 0)))) .v [some (.val (.lst (l.map pt))),some (.val (.int b)),some (.val (.bl lw)),none,none,none] s=.ok (.val (.lst ((List.range n).map fun i=>pt (v i)))) s:=by
  refine adW (i:=4) (List.range n) (fun k:Nat=>T.int k) (fun i=>pt (v i)) (hlen _ rfl) (fun i hi=>?_)
  have e:=e3 i (List.mem_range.mp hi)
  simp[e]
 have c1:ev C (.comp aeA (.one 5) (.rng1 (.b1 .len (.var 0)))) .v [some (.val (.lst (l.map pt))),some (.val (.int b)),some (.val (.bl lw)),some (LN' ((List.range n).map v)),none,none] s=.ok (.val (.lst ((List.range n).map d))) s:=by
  refine adW (i:=5) (List.range n) (fun k:Nat=>T.int k) d (hlen _ rfl) (fun i hi=>?_)
  have hi:=List.mem_range.mp hi
  have g1:=aba (aaT (l:=l) (by omega) i)
  rw[hn,Nat.mod_eq_of_lt hi]at g1
  have g2:=ac9 (l:=(List.range n).map v) (m:=i) (by simp;exact hi)
  have g3:=aba (aaT (l:=(List.range n).map v) (by simp;omega) i)
  simp only[List.length_map,List.length_range]at g2 g3
  rw[agI h0]at g2 g3
  rw[Nat.mod_eq_of_lt hi]at g3
  have e:=e4 i hi
  generalize (List.range n).map v=L at g2 g3 ⊢
  simp[g1,g2,g3,e,LN']
 refine(aae (σ1:=[some (.val (.lst (l.map pt))),some (.val (.int b)),none,none,none,none]) (s1:=s) (by simp[e1,R.isNon])).trans ?_
 refine(aae (σ1:=[some (.val (.lst (l.map pt))),some (.val (.int b)),some (.val (.bl lw)),none,none,none]) (s1:=s) (by simp[e2])).trans ?_
 refine(aae (σ1:=[some (.val (.lst (l.map pt))),some (.val (.int b)),some (.val (.bl lw)),some (LN' ((List.range n).map v)),none,none]) (s1:=s) ((agV c0).trans (by simp[LN',Function.comp_def]))).trans ?_
 exact abO (aj4 c1)
theorem aeM:(2:Nat)^400<big:=by unfold big;decide +kernel
theorem abB{i j:Int}(h:0<j)(hb:j.natAbs<2^400):opR .fdiv (.val (.int i)) (.val (.int j))=some (.val (.int (Int.fdiv i j))):=by
 have:j.natAbs<big:=Nat.lt_trans hb aeM
 simp[opR,opI,show j≠0 by omega,this]
noncomputable def gdZ(a b:Int):Int:=(Nat.gcd a.natAbs b.natAbs:Nat)
noncomputable def loP(A W:Int):Int×Int:=(Int.fdiv A (gdZ A W),Int.fdiv W (gdZ A W))
theorem ahe{A W:Int}(h:W≠0):0<gdZ A W:=by
 unfold gdZ
 have:Nat.gcd A.natAbs W.natAbs≠0:=fun z=>by
  have:=Nat.gcd_eq_zero_iff.mp z
  omega
 omega
theorem anv{A W:Int}(h:0<W):gdZ A W≤W:=by
 unfold gdZ
 have:=Nat.gcd_le_right A.natAbs (show 0<W.natAbs by omega)
 omega
structure Lo(A W:Int)(q:Int×Int):Prop where
 pos:0<q.2
 cop:Nat.gcd q.1.natAbs q.2.natAbs=1
 e:q.1*W=A*q.2
theorem anN{A W:Int}(h:0<W):Lo A W (loP A W)∧(loP A W).2≤W:=by
 have g0:=ahe (A:=A) (W:=W) (by omega)
 obtain⟨i,j,e1,e2,c⟩:=WayM.low (p:=A) (q:=W) (g:=gdZ A W) rfl g0
 unfold loP
 generalize gdZ A W=g at *
 subst e1;subst e2
 have hj:0<j:=Int.pos_of_mul_pos_left (show 0<j*g by rw[Int.mul_comm];exact h) g0
 rw[Int.mul_fdiv_cancel_left i (by omega),Int.mul_fdiv_cancel_left j (by omega)]
 refine⟨⟨hj,c,?_⟩,?_⟩
 ·show i*(g*j)=g*i*j
  grind
 ·show j≤g*j
  have:=Int.mul_le_mul_of_nonneg_right (show 1≤g by omega) (show 0≤j by omega)
  omega
theorem ahR{A W:Int}(h:0<W)(hw:W.natAbs<2^400):run true fns aar aai (k+2) auZ [.val (.int A),.val (.int W)] s=.ok (PT (loP A W)) s:=by
 rw[aan (F:=av2) rfl rfl]
 have e:=at7 (k:=k) (s:=s) A.natAbs W.natAbs
 rw[show((W.natAbs:Nat):Int)=W by omega]at e
 have g0:=ahe (A:=A) (W:=W) (by omega)
 have g1:=anv (A:=A) h
 have q1:=abB (i:=A) (j:=gdZ A W) g0 (by omega)
 have q2:=abB (i:=W) (j:=gdZ A W) g0 (by omega)
 have e':run true fns aar aai (k+1) aph [.val (.int (A.natAbs:Int)),.val (.int W)] s=.ok (.val (.int (gdZ A W))) s:=e
 unfold loP
 generalize gdZ A W=g at *
 simp[aq1,ab,e',q1,q2,pt]
noncomputable def mvP(c part W:Int):Int×Int:=if W<0 then loP (c*(-W)+(-part)) (-W)else loP (c*W+part) W
theorem adI{c part W:Int}(hc:c.natAbs<2^64)(h:W≠0)(hw:W.natAbs<2^400):run true fns aar aai (k+4) 21 [.val (.int c),.val (.int part),.val (.int W)] s=.ok (PT (mvP c part W)) s:=by
 have pos:∀(k:Nat) (part W:Int),0<W→W.natAbs<2^400→run true fns aar aai (k+3) 21 [.val (.int c),.val (.int part),.val (.int W)] s=.ok (PT (loP (c*W+part) W)) s:=fun k part W h hw=>by
  rw[aan (F:=atK) rfl rfl]
  have e:=ahR (k:=k) (s:=s) (A:=c*W+part) (W:=W) h hw
  have q:=aao (i:=c) (j:=W) (aah hc)
  generalize loP (c*W+part) W=P at *
  generalize c*W=Z at *
  simp[ao1,show ¬W<0 by omega,q,e]
 unfold mvP
 by_cases h0:W<0
 ·rw[if_pos h0,aan (F:=atK) rfl rfl]
  have e:=pos k (-part) (-W) (by omega) (by omega)
  generalize loP (c*-W+-part) (-W)=P at *
  simp[ao1,h0,e]
 ·rw[if_neg h0]
  exact pos (k+1) part W (by omega) hw
noncomputable def vs(v:Int×Int):Prop:=(v.1.natAbs≤2^17∧v.2.natAbs≤2^17)∧¬(v.1=0∧v.2=0)
noncomputable def nN(v:Int×Int):Int:=v.1*v.1+v.2*v.2
noncomputable def rN(v:Int×Int):Int:=aaC (1000000*nN v)
theorem ajh{a:Int}(h:a.natAbs≤2^17):(a*a).natAbs≤2^34:=aaj (m:=2^17) (n:=2^17) h h
theorem aiI{v:Int×Int}(h:vs v):0<nN v∧nN v≤2^35:=by
 refine⟨WayM.sq_pos_of h.2,?_⟩
 have h1:=ajh h.1.1
 have h2:=ajh h.1.2
 unfold nN
 omega
theorem ac0{v:Int×Int}(h:vs v):0<rN v∧rN v<2^28:=by
 have b:=aiI h
 unfold rN
 generalize nN v=n at *
 have h1:=afo (n:=1000000*n) (by omega)
 refine⟨by omega,?_⟩
 have h2:=ac7 (1000000*n) (by omega)
 exact aiK (by omega) (show aaC (1000000*n)*aaC (1000000*n)<2^28*2^28 by omega) (by decide)
theorem ahk{v:Int×Int}(h:vs v):run true fns aar aai (k+2) 19 [PT v] s=.ok (.val (.int (nN v))) s:=by
 rw[aan (F:=aui) rfl rfl]
 have hb:∀x:Int,x.natAbs≤2^17→opR .pow (.val (.int x)) (.val (.int 2))=some (.val (.int (x*x))):=fun x hx=>by
  have hb:x.natAbs<big:=Nat.lt_trans (show x.natAbs<2^64 by omega) aj9
  have e:x^2=x*x:=by rw[Int.pow_succ,Int.pow_succ,Int.pow_zero,Int.one_mul]
  simp[opR,opI,hb,e]
 have e:run true fns aar aai (k+1) 9 [.val (.tup [.int 0,.int 0]),PT v] s=.ok (.val (.int (nN v))) s:=by
  rw[aan (F:=avf) rfl rfl]
  have h1:=hb v.1 h.1.1
  have h2:=hb v.2 h.1.2
  simp[arn,h1,h2,nN]
 simp[arc,e]
theorem ah6{v:Int×Int}(h:vs v):run true fns aar aai (k+3) 20 [PT v] s=.ok (.val (.int (rN v))) s:=by
 rw[aan (F:=auu) rfl rfl]
 have b:=aiI h
 have e1:=ahk (k:=k) (s:=s) h
 have e2:=ae3 (k:=k+1) (s:=s) (n:=1000000*nN v) (by omega) (by omega)
 have m:=aao (i:=1000000) (j:=nN v) (aah (by decide))
 unfold rN
 generalize nN v=n at *
 generalize 1000000*n=z at *
 simp[aqP,e1,m,e2]
noncomputable def aoy(c v:Int×Int)(b:Int):T:=.tup [pt (mvP c.1 (1000*b*v.1) (rN v)),pt (mvP c.2 (1000*b*v.2) (rN v))]
theorem aiV{c v:Int×Int}{b:Int}(hc:sml c)(h:vs v)(hb:0≤b∧b≤1000):run true fns aar aai (k+5) 17 [PT c,PT v,.val (.int b)] s=.ok (.val (aoy c v b)) s:=by
 rw[aan (F:=avg) rfl rfl]
 have e1:=ah6 (k:=k+1) (s:=s) h
 have u:=h.1
 have r:=ac0 h
 have q1:=aao (i:=1000) (j:=b) (aah (by decide))
 have q2:=aao (i:=1000*b) (j:=v.1) (aah (by omega))
 have q3:=aao (i:=1000*b) (j:=v.2) (aah (by omega))
 have e2:=adI (k:=k) (s:=s) (c:=c.1) (part:=1000*b*v.1) (W:=rN v) (by have:=hc.1;omega) (by omega) (by omega)
 have e3:=adI (k:=k) (s:=s) (c:=c.2) (part:=1000*b*v.2) (W:=rN v) (by have:=hc.2;omega) (by omega) (by omega)
 unfold aoy
 generalize mvP c.1 (1000*b*v.1) (rN v)=P at *
 generalize mvP c.2 (1000*b*v.2) (rN v)=P2 at *
 generalize 1000*b*v.1=z1 at *
 generalize 1000*b*v.2=z2 at *
 generalize 1000*b=z at *
 generalize rN v=w at *
 simp[arC,e1,q1,q2,q3,e2,e3]
noncomputable def aaK(p v:Int×Int):Int:=p.1*v.2-p.2*v.1
noncomputable def mb(p v:Int×Int)(b:Int):Int:=1000*b*nN p*rN v
noncomputable def agT(c p v:Int×Int)(z b:Int):T:=.tup [pt (mvP c.1 (mb p v b*v.2-mb v p b*p.2) (z*rN p*rN v)),pt (mvP c.2 (mb v p b*p.1-mb p v b*v.1) (z*rN p*rN v))]
theorem ajA{p v:Int×Int}(hp:vs p)(h:vs v):(aaK p v).natAbs≤2^35:=by
 have h1:=aaj hp.1.1 h.1.2
 have h2:=aaj hp.1.2 h.1.1
 unfold aaK
 omega
theorem att{p v:Int×Int}(hp:vs p)(h:vs v)(hz:aaK p v≠0):aaK p v*rN p*rN v≠0∧(aaK p v*rN p*rN v).natAbs<2^400:=by
 have r:=ac0 h
 have r':=ac0 hp
 have z:=ajA hp h
 refine⟨Int.mul_ne_zero (Int.mul_ne_zero hz (by omega)) (by omega),?_⟩
 have h1:=aaj (a:=aaK p v) (b:=rN p) (m:=2^35) (n:=2^28) z (by omega)
 have h2:=aaj (a:=aaK p v*rN p) (b:=rN v) (m:=2^35*2^28) (n:=2^28) h1 (by omega)
 omega
theorem arF{c p v:Int×Int}{b:Int}(hc:sml c)(hp:vs p)(h:vs v)(hb:0≤b∧b≤1000)(hz:aaK p v≠0):run true fns aar aai (k+5) 18 [PT c,PT p,PT v,.val (.int (aaK p v)),.val (.int b)] s=.ok (.val (agT c p v (aaK p v) b)) s:=by
 rw[aan (F:=asD) rfl rfl]
 have e1:=ah6 (k:=k+1) (s:=s) h
 have e1':=ah6 (k:=k+1) (s:=s) hp
 have e4:=ahk (k:=k+2) (s:=s) h
 have e4':=ahk (k:=k+2) (s:=s) hp
 have r:=ac0 h
 have r':=ac0 hp
 have hW:=att hp h hz
 have u:=h.1
 have u':=hp.1
 have q1:=aao (i:=1000) (j:=b) (aah (by decide))
 have q2:=aao (i:=1000*b) (j:=nN p) (aah (by omega))
 have q2':=aao (i:=1000*b) (j:=nN v) (aah (by omega))
 have q3:=aao (i:=1000*b*nN p) (j:=rN v) (ab5 (by omega))
 have q3':=aao (i:=1000*b*nN v) (j:=rN p) (ab5 (by omega))
 have y1:=aao (i:=mb p v b) (j:=v.2) (ab5 (by omega))
 have y2:=aao (i:=mb v p b) (j:=p.2) (ab5 (by omega))
 have y3:=aao (i:=mb v p b) (j:=p.1) (ab5 (by omega))
 have y4:=aao (i:=mb p v b) (j:=v.1) (ab5 (by omega))
 have q5:=aao (i:=aaK p v) (j:=rN p) (ab5 (by omega))
 have q6:=aao (i:=aaK p v*rN p) (j:=rN v) (ab5 (by omega))
 have e2:=adI (k:=k) (s:=s) (c:=c.1) (part:=mb p v b*v.2-mb v p b*p.2) (W:=aaK p v*rN p*rN v) (by have:=hc.1;omega) hW.1 hW.2
 have e3:=adI (k:=k) (s:=s) (c:=c.2) (part:=mb v p b*p.1-mb p v b*v.1) (W:=aaK p v*rN p*rN v) (by have:=hc.2;omega) hW.1 hW.2
 have hx:exs (cfX fns aar (k+4)) aor (aaR asD [PT c,PT p,PT v,.val (.int (aaK p v)),.val (.int b)]) s=.ret (.val (agT c p v (aaK p v) b)) s:=by
  unfold agT
  clear hW hz u u' r r'
  have m1:1000*b*nN p*rN v=mb p v b:=rfl
  have m2:1000*b*nN v*rN p=mb v p b:=rfl
  rw[m1]at q3
  rw[m2]at q3'
  clear m1 m2
  generalize mvP c.1 (mb p v b*v.2-mb v p b*p.2) (aaK p v*rN p*rN v)=P1 at *
  generalize mvP c.2 (mb v p b*p.1-mb p v b*v.1) (aaK p v*rN p*rN v)=P2 at *
  generalize aaK p v*rN p*rN v=W at *
  generalize aaK p v*rN p=W1 at *
  generalize aaK p v=Z at *
  generalize mb p v b*v.2=t1 at *
  generalize mb v p b*p.2=t2 at *
  generalize mb v p b*p.1=t3 at *
  generalize mb p v b*v.1=t4 at *
  generalize mb p v b=M1 at *
  generalize mb v p b=M2 at *
  generalize 1000*b*nN p=N1 at *
  generalize 1000*b*nN v=N2 at *
  generalize 1000*b=K at *
  generalize nN p=n1 at *
  generalize nN v=n2 at *
  generalize rN p=r1 at *
  generalize rN v=r2 at *
  simp[aor,e1,e1',e4,e4',q1,q2,q2',q3,q3',y1,y2,y3,y4,q5,q6,e2,e3]
 rw[hx]
 rfl
noncomputable def ajj(c p v:Int×Int)(b:Int):T:=if aaK p v=0 then aoy c v b else agT c p v (aaK p v) b
theorem ar5{c p v:Int×Int}{b:Int}(hc:sml c)(hp:vs p)(h:vs v)(hb:0≤b∧b≤1000):run true fns aar aai (k+6) 16 [PT c,PT p,PT v,.val (.int b)] s=.ok (.val (ajj c p v b)) s:=by
 rw[aan (F:=avr) rfl rfl]
 have u':=hp.1
 have q1:=aao (i:=p.1) (j:=v.2) (aah (by omega))
 have q2:=aao (i:=p.2) (j:=v.1) (aah (by omega))
 have ec:p.1*v.2-p.2*v.1=aaK p v:=rfl
 unfold ajj
 by_cases h0:aaK p v=0
 ·rw[if_pos h0]
  have e:=aiV (k:=k) (s:=s) (c:=c) hc h hb
  rw[h0]at ec
  generalize p.1*v.2=z1 at *
  generalize p.2*v.1=z2 at *
  simp[aos,q1,q2,ec,e]
 ·rw[if_neg h0]
  have e:=arF (k:=k) (s:=s) (c:=c) (b:=b) hc hp h hb h0
  generalize p.1*v.2=z1 at *
  generalize p.2*v.1=z2 at *
  generalize aaK p v=Z at *
  simp[aos,q1,q2,ec,e,h0]
end Pg
end IP
end
section
namespace Geo
noncomputable abbrev Pt:=Int×Int
noncomputable def pr:List Pt→List (Pt×Pt)
 | []=>[]
 | [_]=>[]
 | a::b::r=>(a,b)::pr (b::r)
theorem pr_app:∀(A:List Pt) (m:Pt) (B:List Pt),pr (A++m::B)=pr (A++[m])++pr (m::B)
 | [],m,B=>by simp[pr]
 | [a],m,B=>by simp[pr]
 | a::b::A,m,B=>by
  have h:=pr_app (b::A) m B
  show(a,b)::pr (b::A++m::B)=(a,b)::pr (b::A++[m])++pr (m::B)
  rw[h]
  rfl
noncomputable def E:List Pt→List (Pt×Pt)
 | []=>[]
 | p::t=>pr (p::(t++[p]))
theorem acn(v:Pt)(A:List Pt)(z:Pt)(B:List Pt):E (v::(A++z::B))=pr (v::(A++[z]))++pr (z::(B++[v])):=by
 have h:=pr_app (v::A) z (B++[v])
 show pr (v::(A++z::B++[v]))=_
 simpa using h
theorem aec(v w:Pt)(M:List Pt)(u:Pt):E (v::w::(M++[u]))=(v,w)::(pr (w::(M++[u]))++[(u,v)]):=by
 have h:=pr_app (w::M) u [v]
 show pr (v::(w::(M++[u])++[v]))=_
 simp only[List.cons_append,List.append_assoc,List.nil_append,pr]at h ⊢
 rw[h]
theorem abL:∀{L:List Pt}{h x y:Pt},(x,y)∈pr (h::L)→y∈L
 | [],h,x,y,H=>by simp[pr]at H
 | b::r,h,x,y,H=>by
  rcases List.mem_cons.mp H with z|z
  ·cases z;simp
  ·exact List.mem_cons_of_mem _ (abL z)
theorem aby:∀{L:List Pt}{u x y:Pt},(x,y)∈pr (L++[u])→x∈L
 | [],u,x,y,H=>by simp[pr]at H
 | [a],u,x,y,H=>by simp[pr]at H;simp[H.1]
 | a::b::r,u,x,y,H=>by
  rcases List.mem_cons.mp (show(x,y)∈(a,b)::pr (b::r++[u])from H)with z|z
  ·cases z;simp
  ·exact List.mem_cons_of_mem _ (aby (L:=b::r) z)
noncomputable def ar:List (Pt×Pt)→Int
 | []=>0
 | e::r=>(e.1.1*e.2.2-e.1.2*e.2.1)+ar r
theorem ar_app:∀A B,ar (A++B)=ar A+ar B
 | [],B=>by simp[ar]
 | e::A,B=>by
  have:=ar_app A B
  show(e.1.1*e.2.2-e.1.2*e.2.1)+ar (A++B)=(e.1.1*e.2.2-e.1.2*e.2.1)+ar A+ar B
  omega
noncomputable def ori(a b c:Pt):Int:=(b.1-a.1)*(c.2-a.2)-(b.2-a.2)*(c.1-a.1)
noncomputable def On(K:Int)(X a b:Pt):Prop:=∃s t,0≤s∧0≤t∧s+t=K∧X.1=s*a.1+t*b.1∧X.2=s*a.2+t*b.2
noncomputable def Ok(e f:Pt×Pt):Prop:=∀K X,0<K→On K X e.1 e.2→On K X f.1 f.2→∃p,(p=e.1∨p=e.2)∧(p=f.1∨p=f.2)∧X.1=K*p.1∧X.2=K*p.2
theorem On.swap{K X a b}(h:On K X a b):On K X b a:=by
 obtain⟨s,t,a1,a2,a3,a4,a5⟩:=h
 exact⟨t,s,a2,a1,by omega,by omega,by omega⟩
theorem Ok.symm{e f}(h:Ok e f):Ok f e:=fun K X hK h1 h2=>by
 obtain⟨p,a,b,c⟩:=h K X hK h2 h1
 exact⟨p,b,a,c⟩
theorem Ok.swap{a b f}(h:Ok (a,b) f):Ok (b,a) f:=fun K X hK h1 h2=>by
 obtain⟨p,a,b,c⟩:=h K X hK h1.swap h2
 exact⟨p,a.symm,b,c⟩
theorem On.scale{K X a b}(h:On K X a b){n:Int}(hn:0≤n):On (n*K) (n*X.1,n*X.2) a b:=by
 obtain⟨s,t,a1,a2,a3,a4,a5⟩:=h
 refine⟨n*s,n*t,Int.mul_nonneg hn a1,Int.mul_nonneg hn a2,by rw[←a3,Int.mul_add],?_,?_⟩
 ·show n*X.1=_;rw[a4];grind
 ·show n*X.2=_;rw[a5];grind
theorem On.end1{K:Int}(hK:0≤K)(a b:Pt):On K (K*a.1,K*a.2) a b:=⟨K,0,hK,Int.le_refl _,by omega,by simp,by simp⟩
theorem can{K:Int}(hK:0<K){p q:Pt}(h1:K*p.1=K*q.1)(h2:K*p.2=K*q.2):p=q:=
 Prod.ext (Int.eq_of_mul_eq_mul_left (by omega) h1) (Int.eq_of_mul_eq_mul_left (by omega) h2)
theorem anB:∀{P:List Pt}{x y:Pt},(x,y)∈E P→x∈P∧y∈P
 | p::t,x,y,h=>by
  have h1:=aby (L:=p::t) h
  have h2:=abL h
  refine⟨h1,?_⟩
  rcases List.mem_append.mp h2 with z|z
  ·exact List.mem_cons_of_mem _ z
  ·rw[List.mem_singleton.mp z];simp
structure Sim(P:List Pt):Prop where
 n3:3≤P.length
 nd:P.Nodup
 ok:∀e∈E P,∀f∈E P,e≠f→Ok e f
noncomputable def Ext(P:List Pt)(a:Pt):Prop:=a∈P∧∃p q:Int,∀b∈P,b≠a→p*a.1+q*a.2<p*b.1+q*b.2
noncomputable def C(P:List Pt):Prop:=∃σ:Int,(σ=1∨σ=-1)∧0<σ*ar (E P)∧∀a x y,Ext P a→(x,a)∈E P→(a,y)∈E P→0<σ*ori x a y
structure Eqv(P R:List Pt):Prop where
 e:∀x,x∈E P↔x∈E R
 a:ar (E P)=ar (E R)
 p:P.Perm R
theorem Eqv.sim{P R}(h:Eqv P R)(S:Sim P):Sim R:=⟨by rw[←h.p.length_eq];exact S.n3,h.p.nodup_iff.mp S.nd,fun e he f hf=>S.ok e ((h.e e).mpr he) f ((h.e f).mpr hf)⟩
theorem Eqv.ext{P R}(h:Eqv P R){a}(H:Ext P a):Ext R a:=⟨h.p.mem_iff.mp H.1,by
 obtain⟨p,q,hh⟩:=H.2
 exact⟨p,q,fun b hb=>hh b (h.p.mem_iff.mpr hb)⟩⟩
theorem Eqv.symm{P R}(h:Eqv P R):Eqv R P:=⟨fun x=>(h.e x).symm,h.a.symm,h.p.symm⟩
theorem Eqv.c{P R}(h:Eqv P R)(H:C R):C P:=by
 obtain⟨σ,h1,h2,h3⟩:=H
 exact⟨σ,h1,by rw[h.a];exact h2,fun a x y ha hx hy=>h3 a x y (h.ext ha) ((h.e _).mp hx) ((h.e _).mp hy)⟩
theorem turned{P:List Pt}(h3:3≤P.length){v:Pt}(hv:v∈P):∃w M u,Eqv P (v::w::(M++[u])):=by
 obtain⟨X,Y,rfl⟩:=List.append_of_mem hv
 have key:Eqv (X++v::Y) (v::(Y++X)):=by
  cases X with
  | nil=>simp;exact⟨fun _=>Iff.rfl,rfl,.refl _⟩
  | cons h X=>
   have e1:E (h::X++v::Y)=pr (h::(X++[v]))++pr (v::(Y++[h])):=acn h X v Y
   have e2:=acn v Y h X
   refine⟨fun x=>?_,?_,List.perm_append_comm⟩
   ·rw[e1,e2,List.mem_append,List.mem_append];exact Or.comm
   ·rw[e1,e2,ar_app,ar_app];omega
 have hl:2≤(Y++X).length:=by simp at h3 ⊢;omega
 generalize Y++X=Z at *
 match Z,hl with
 | w::a::Z,_=>
  rcases List.eq_nil_or_concat (a::Z)with h|⟨M,u,h⟩
  ·cases h
  ·rw[h]at key
   exact⟨w,M,u,by simpa using key⟩
theorem ac4{P:List Pt}(h3:3≤P.length){v:Pt}(hv:v∈P):∃x y,(x,v)∈E P∧(v,y)∈E P:=by
 obtain⟨w,M,u,h⟩:=turned h3 hv
 refine⟨u,w,(h.e _).mpr ?_,(h.e _).mpr ?_⟩
 ·rw[aec];simp
 ·rw[aec];simp
noncomputable def co(s:Int)(p q:Pt)(K:Int)(X:Pt):Int:=s*(X.1*(p.2-q.2)+X.2*(q.1-p.1)+K*(p.1*q.2-p.2*q.1))
theorem aaI{s:Int}{p q:Pt}{K:Int}{X a b:Pt}{m n:Int}(hK:m+n=K)(h1:X.1=m*a.1+n*b.1)(h2:X.2=m*a.2+n*b.2):co s p q K X=m*co s p q 1 a+n*co s p q 1 b:=by
 subst hK;unfold co;rw[h1,h2];grind
theorem aeR{s:Int}{p q:Pt}{K:Int}{X b:Pt}{r t:Int}:co s p q (r*K+t) (r*X.1+t*b.1,r*X.2+t*b.2)=r*co s p q K X+t*co s p q 1 b:=by
 unfold co;grind
theorem aoL{s:Int}{p q:Pt}{K:Int}{X:Pt}{n:Int}:co s p q (n*K) (n*X.1,n*X.2)=n*co s p q K X:=by
 unfold co;grind
theorem ar3{s:Int}{p q:Pt}{K:Int}{X a:Pt}(h1:X.1=K*a.1)(h2:X.2=K*a.2):co s p q K X=K*co s p q 1 a:=by
 unfold co;rw[h1,h2];grind
theorem ags{s:Int}{p q:Pt}:co s p q 1 p=0:=by unfold co;grind
theorem ago{s:Int}{p q:Pt}:co s p q 1 q=0:=by unfold co;grind
section
variable{s:Int}{u v w:Pt}
theorem akj(K:Int)(X:Pt):co s v w K X+co s w u K X+co s u v K X=K*(s*ori u v w):=by unfold co ori;grind
theorem aog(K:Int)(X:Pt):co s v w K X*u.1+co s w u K X*v.1+co s u v K X*w.1=(s*ori u v w)*X.1:=by unfold co ori;grind
theorem aoj(K:Int)(X:Pt):co s v w K X*u.2+co s w u K X*v.2+co s u v K X*w.2=(s*ori u v w)*X.2:=by unfold co ori;grind
theorem asP:co s v w 1 u=s*ori u v w:=by unfold co ori;grind
theorem atY:co s w u 1 v=s*ori u v w:=by unfold co ori;grind
theorem atj:co s u v 1 w=s*ori u v w:=by unfold co ori;grind
theorem ai0{K:Int}{X:Pt}(h0:co s u v K X=0)(h1:0≤co s v w K X)(h2:0≤co s w u K X):On ((s*ori u v w)*K) ((s*ori u v w)*X.1,(s*ori u v w)*X.2) u v:=by
 have b:=akj (s:=s) (u:=u) (v:=v) (w:=w) K X
 have v1:=aog (s:=s) (u:=u) (v:=v) (w:=w) K X
 have v2:=aoj (s:=s) (u:=u) (v:=v) (w:=w) K X
 rw[h0]at b v1 v2
 refine⟨_,_,h1,h2,?_,?_,?_⟩
 ·rw[Int.mul_comm];omega
 ·show(s*ori u v w)*X.1=_;rw[←v1];simp
 ·show(s*ori u v w)*X.2=_;rw[←v2];simp
theorem ain{K:Int}{X:Pt}(h0:co s v w K X=0)(h1:0≤co s w u K X)(h2:0≤co s u v K X):On ((s*ori u v w)*K) ((s*ori u v w)*X.1,(s*ori u v w)*X.2) v w:=by
 have b:=akj (s:=s) (u:=u) (v:=v) (w:=w) K X
 have v1:=aog (s:=s) (u:=u) (v:=v) (w:=w) K X
 have v2:=aoj (s:=s) (u:=u) (v:=v) (w:=w) K X
 rw[h0]at b v1 v2
 refine⟨_,_,h1,h2,?_,?_,?_⟩
 ·rw[Int.mul_comm];omega
 ·show(s*ori u v w)*X.1=_;rw[←v1];simp
 ·show(s*ori u v w)*X.2=_;rw[←v2];simp
end
theorem aoH{A C a c:Int}(hA:0≤A)(hC:0≤C)(h:a<0∨c<0):∃r t,0<r∧(t=A∨t=C)∧((r*A+t*a=0∧0≤r*C+t*c)∨(r*C+t*c=0∧0≤r*A+t*a)):=by
 have e1:-a*A+A*a=0:=by grind
 have e2:-c*C+C*c=0:=by grind
 have e3:-c*A+C*a=-(-a*C+A*c):=by grind
 by_cases ha:a<0
 ·by_cases q:0≤-a*C+A*c
  ·exact⟨-a,A,by omega,.inl rfl,.inl ⟨e1,q⟩⟩
  ·have hc:c<0:=by
    apply Classical.byContradiction
    intro hc
    have x1:=Int.mul_nonneg (show 0≤-a by omega) hC
    have x2:=Int.mul_nonneg hA (show 0≤c by omega)
    omega
   exact⟨-c,C,by omega,.inr rfl,.inr ⟨e2,by omega⟩⟩
 ·have hc:c<0:=by omega
  have x1:=Int.mul_nonneg (show 0≤-c by omega) hA
  have x2:=Int.mul_nonneg hC (show 0≤a by omega)
  exact⟨-c,C,by omega,.inr rfl,.inr ⟨e2,by omega⟩⟩
section
variable{s:Int}{u v w:Pt}
theorem ah8(hN:0<s*ori u v w){a b:Pt}(o1:Ok (a,b) (u,v))(o2:Ok (a,b) (v,w))(va:v≠a)(vb:v≠b){K:Int}{X:Pt}{m n:Int}(hK:0<K)(hm:0≤m)(hn:0≤n)(hmn:m+n=K)(h1:X.1=m*a.1+n*b.1)(h2:X.2=m*a.2+n*b.2)
  (A0:0≤co s v w K X) (B0:0≤co s w u K X) (C0:0≤co s u v K X) (bb:0≤co s w u 1 b) (pos:0<co s w u K X∨(0<co s v w K X∧0<co s u v K X∧0<co s w u 1 b)) (out:co s v w 1 b<0∨co s u v 1 b<0):False:=by
 obtain⟨r,t,hr,ht,H⟩:=aoH A0 C0 out
 have ht0:0≤t:=by rcases ht with rfl|rfl<;>assumption
 have eA:=aeR (s:=s) (p:=v) (q:=w) (K:=K) (X:=X) (b:=b) (r:=r) (t:=t)
 have eB:=aeR (s:=s) (p:=w) (q:=u) (K:=K) (X:=X) (b:=b) (r:=r) (t:=t)
 have eC:=aeR (s:=s) (p:=u) (q:=v) (K:=K) (X:=X) (b:=b) (r:=r) (t:=t)
 have hB:0<r*co s w u K X+t*co s w u 1 b:=by
  rcases pos with p|⟨p1,p2,p3⟩
  ·have x1:=Int.mul_pos hr p
   have x2:=Int.mul_nonneg ht0 bb
   omega
  ·have x1:=Int.mul_nonneg (show 0≤r by omega) B0
   have ht1:0<t:=by rcases ht with rfl|rfl<;>assumption
   have x2:=Int.mul_pos ht1 p3
   omega
 have hab:On (r*K+t) (r*X.1+t*b.1,r*X.2+t*b.2) a b:=by
  refine⟨r*m,r*n+t,Int.mul_nonneg (by omega) hm,?_,?_,?_,?_⟩
  ·have:=Int.mul_nonneg (show 0≤r by omega) hn;omega
  ·rw[←hmn];grind
  ·show r*X.1+t*b.1=_;rw[h1];grind
  ·show r*X.2+t*b.2=_;rw[h2];grind
 have hL:0<r*K+t:=by have:=Int.mul_pos hr hK;omega
 generalize hY:(r*X.1+t*b.1,r*X.2+t*b.2)=Y at *
 generalize r*K+t=L at *
 have hNL:0<(s*ori u v w)*L:=Int.mul_pos hN hL
 have habN:=hab.scale (n:=s*ori u v w) (by omega)
 have fin:∀p,(p=u∨p=w)→(s*ori u v w)*Y.1=(s*ori u v w)*L*p.1→(s*ori u v w)*Y.2=(s*ori u v w)*L*p.2→False:=fun p hp q1 q2=>by
  have c1:=ar3 (s:=s) (p:=w) (q:=u) (K:=(s*ori u v w)*L) (X:=((s*ori u v w)*Y.1,(s*ori u v w)*Y.2)) (a:=p) q1 q2
  rw[aoL,eB]at c1
  have z:co s w u 1 p=0:=by
   rcases hp with rfl|rfl
   ·exact ago
   ·exact ags
  rw[z,Int.mul_zero]at c1
  have:=Int.mul_pos hN hB
  omega
 rcases H with⟨z,q⟩|⟨z,q⟩
 ·rw[←eA]at z
  rw[←eC]at q
  obtain⟨p,pa,pv,q1,q2⟩:=o2 _ _ hNL habN (ain z (by rw[eB];omega) q)
  rcases pv with rfl|rfl
  ·rcases pa with e|e
   ·exact va e
   ·exact vb e
  ·exact fin _ (.inr rfl) q1 q2
 ·rw[←eC]at z
  rw[←eA]at q
  obtain⟨p,pa,pv,q1,q2⟩:=o1 _ _ hNL habN (ai0 z q (by rw[eB];omega))
  rcases pv with rfl|rfl
  ·exact fin _ (.inl rfl) q1 q2
  ·rcases pa with e|e
   ·exact va e
   ·exact vb e
noncomputable def InT(s:Int)(u v w b:Pt):Prop:=0≤co s v w 1 b∧0≤co s w u 1 b∧0≤co s u v 1 b
end
end Geo
end
section
namespace Geo
section
variable{s:Int}{u v w:Pt}{M:List Pt}(S:Sim (v::w::(M++[u])))
include S
theorem agj:v≠w∧v≠u∧w≠u∧v∉M∧w∉M∧u∉M:=by
 have h:=S.nd
 simp only[List.nodup_cons,List.mem_cons,List.mem_append,List.not_mem_nil,or_false,not_or,List.nodup_append]at h
 obtain⟨⟨a,b,c⟩,⟨d,e⟩,f,_,g⟩:=h
 exact⟨a,c,e,b,d,fun q=>g u q u rfl rfl⟩
theorem aoq:(v,w)∈E (v::w::(M++[u])):=by rw[aec];simp
theorem aou:(u,v)∈E (v::w::(M++[u])):=by rw[aec];simp
theorem ahf{e:Pt×Pt}(h:e∈E (v::w::(M++[u]))):e=(v,w)∨e=(u,v)∨e∈pr (w::(M++[u])):=by
 rw[aec]at h
 rcases List.mem_cons.mp h with z|z
 ·exact .inl z
 ·rcases List.mem_append.mp z with z|z
  ·exact .inr (.inr z)
  ·exact .inr (.inl (List.mem_singleton.mp z))
theorem afS{a b:Pt}(h:(a,b)∈pr (w::(M++[u]))):v≠a∧v≠b:=by
 have h1:=aby (L:=w::M) h
 have h2:=abL h
 obtain⟨n1,n2,_,n3,_⟩:=agj S
 refine⟨?_,?_⟩
 ·rintro rfl
  rcases List.mem_cons.mp h1 with z|z
  ·exact n1 z
  ·exact n3 z
 ·rintro rfl
  rcases List.mem_append.mp h2 with z|z
  ·exact n3 z
  ·exact n2 (List.mem_singleton.mp z)
theorem ao0{e:Pt×Pt}(h:e∈pr (w::(M++[u]))):e∈E (v::w::(M++[u])):=by rw[aec];simp[h]
theorem oks{a b:Pt}(h:(a,b)∈pr (w::(M++[u]))):Ok (a,b) (u,v)∧Ok (a,b) (v,w):=by
 have nv:=afS S h
 refine⟨S.ok _ (ao0 S h) _ (aou S) fun q=>?_,S.ok _ (ao0 S h) _ (aoq S) fun q=>?_⟩
 ·exact nv.2 (congrArg Prod.snd q).symm
 ·exact nv.1 (congrArg Prod.fst q).symm
theorem aje{a b:Pt}(h:(a,b)∈pr (w::(M++[u]))):(a=w∨a=u∨a∈M)∧(b=w∨b=u∨b∈M):=by
 have h1:=aby (L:=w::M) h
 have h2:=abL h
 refine⟨?_,?_⟩
 ·rcases List.mem_cons.mp h1 with z|z
  ·exact .inl z
  ·exact .inr (.inr z)
 ·rcases List.mem_append.mp h2 with z|z
  ·exact .inr (.inr z)
  ·exact .inr (.inl (List.mem_singleton.mp z))
theorem ahs{z:Pt}(hz:z∈M):∃y,(z,y)∈E (v::w::(M++[u])):=by
 obtain⟨_,y,_,h⟩:=ac4 S.n3 (show z∈v::w::(M++[u])by simp[hz])
 exact⟨y,h⟩
theorem aoX(hN:0<s*ori u v w){z:Pt}(hz:z∈M)(Tz:InT s u v w z)(mx:∀b∈M,InT s u v w b→co s w u 1 b≤co s w u 1 z):∀e∈E (v::w::(M++[u])),Ok (v,z) e:=by
 obtain⟨n1,n2,n3,n4,n5,n6⟩:=agj S
 have zv:z≠v:=fun e=>n4 (e▸hz)
 have zw:z≠w:=fun e=>n5 (e▸hz)
 have zu:z≠u:=fun e=>n6 (e▸hz)
 obtain⟨T1,T2,T3⟩:=Tz
 obtain⟨z',hz'⟩:=ahs S hz
 have atz:∀{f:Pt×Pt},f∈E (v::w::(M++[u]))→z≠f.1→z≠f.2→∀{K:Int},0<K→On K (K*z.1,K*z.2) f.1 f.2→False:=fun {f} hf h1 h2 {K} hK ho=>by
  obtain⟨p,_,pf,q1,q2⟩:=S.ok _ hz' f hf (fun e=>h1 (congrArg Prod.fst e)) K _ hK (On.end1 (by omega) z z') ho
  have:=can hK q1 q2
  subst this
  rcases pf with e|e
  ·exact h1 e
  ·exact h2 e
 have b:=akj (s:=s) (u:=u) (v:=v) (w:=w) 1 z
 rw[Int.one_mul]at b
 have v1:=aog (s:=s) (u:=u) (v:=v) (w:=w) 1 z
 have v2:=aoj (s:=s) (u:=u) (v:=v) (w:=w) 1 z
 have gz:co s u v 1 z≠0:=fun h0=>atz (aou S) zu zv hN (by
  have:=ai0 (s:=s) (u:=u) (v:=v) (w:=w) (K:=1) (X:=z) h0 T1 T2
  rw[Int.mul_one]at this;exact this)
 have az:co s v w 1 z≠0:=fun h0=>atz (aoq S) zv zw hN (by
  have:=ain (s:=s) (u:=u) (v:=v) (w:=w) (K:=1) (X:=z) h0 T2 T3
  rw[Int.mul_one]at this;exact this)
 rintro⟨a,c⟩ he K X hK ⟨k1,k2,hk1,hk2,hk,x1,x2⟩ hX
 have A:=aaI (s:=s) (p:=v) (q:=w) hk x1 x2
 have B:=aaI (s:=s) (p:=w) (q:=u) hk x1 x2
 have G:=aaI (s:=s) (p:=u) (q:=v) hk x1 x2
 rw[ags,Int.mul_zero,Int.zero_add]at A
 rw[ago,Int.mul_zero,Int.zero_add]at G
 rw[atY]at B
 dsimp only at A B G
 by_cases hk20:k2=0
 ·subst hk20
  have hk1K:k1=K:=by omega
  subst hk1K
  dsimp only at x1 x2
  rw[Int.zero_mul,Int.add_zero]at x1 x2
  have key:v=a∨v=c:=by
   rcases ahf S he with e|e|e
   ·cases e;exact .inl rfl
   ·cases e;exact .inr rfl
   ·exfalso
    have nv:=afS S e
    obtain⟨p,hp,pv,q1,q2⟩:=(oks S e).1 _ X hK hX ⟨0,k1,Int.le_refl _,hk1,by omega,by dsimp only;omega,by dsimp only;omega⟩
    have:=can hK (x1.symm.trans q1) (x2.symm.trans q2)
    subst this
    rcases hp with h|h
    ·exact nv.1 h
    ·exact nv.2 h
  exact⟨v,.inl rfl,key,x1,x2⟩
 have hk2p:0<k2:=by omega
 have Ap:0<co s v w K X:=by rw[A];exact Int.mul_pos hk2p (by omega)
 have Gp:0<co s u v K X:=by rw[G];exact Int.mul_pos hk2p (by omega)
 rcases ahf S he with e|e|e
 ·cases e
  obtain⟨m1,m2,_,_,hm,y1,y2⟩:=hX
  have:=aaI (s:=s) (p:=v) (q:=w) hm y1 y2
  rw[ags,ago]at this
  omega
 ·cases e
  obtain⟨m1,m2,_,_,hm,y1,y2⟩:=hX
  have:=aaI (s:=s) (p:=u) (q:=v) hm y1 y2
  rw[ags,ago]at this
  omega
 ·have nv:=afS S e
  have ok:=oks S e
  have vt:=aje S e
  by_cases hk10:k1=0
  ·subst hk10
   have hk2K:k2=K:=by omega
   subst hk2K
   dsimp only at x1 x2
   rw[Int.zero_mul,Int.zero_add]at x1 x2
   have:z=a∨z=c:=by
    apply Classical.byContradiction
    intro h
    rw[not_or]at h
    exact atz he h.1 h.2 hK (by rw[←x1,←x2];exact hX)
   exact⟨z,.inr rfl,this,x1,x2⟩
  ·exfalso
   have hBz:co s w u 1 z<s*ori u v w:=by omega
   have hB:K*co s w u 1 z<co s w u K X:=by
    rw[B,←hk,Int.add_mul]
    have:=Int.mul_lt_mul_of_pos_left hBz (show 0<k1 by omega)
    omega
   have main:∀a c:Pt,Ok (a,c) (u,v)→Ok (a,c) (v,w)→v≠a→v≠c→(c=w∨c=u∨c∈M)→On K X a c→co s w u 1 a≤co s w u 1 c→False:=fun a c o1 o2 va vc hc ⟨m,n,hm,hn,hmn,y1,y2⟩ hle=>by
    have eB:=aaI (s:=s) (p:=w) (q:=u) hmn y1 y2
    have h1:=Int.mul_nonneg hm (show 0≤co s w u 1 c-co s w u 1 a by omega)
    rw[Int.mul_sub]at h1
    have h2:K*co s w u 1 c=m*co s w u 1 c+n*co s w u 1 c:=by rw[←hmn,Int.add_mul]
    have h3:co s w u 1 z<co s w u 1 c:=Int.lt_of_mul_lt_mul_left (show K*co s w u 1 z<K*co s w u 1 c by omega) (by omega)
    have hz0:=T2
    have hBX:0<co s w u K X:=by
     have:=Int.mul_nonneg (show 0≤K by omega) T2
     omega
    refine ah8 hN o1 o2 va vc hK hm hn hmn y1 y2 (by omega) (by omega) (by omega) (by omega) (.inl hBX) ?_
    apply Classical.byContradiction
    intro hout
    rw[not_or]at hout
    rcases hc with rfl|rfl|hc
    ·rw[ags]at h3;omega
    ·rw[ago]at h3;omega
    ·have:=mx c hc ⟨by omega,by omega,by omega⟩
     omega
   rcases Int.le_total (co s w u 1 a) (co s w u 1 c)with h|h
   ·exact main a c ok.1 ok.2 nv.1 nv.2 vt.2 hX h
   ·exact main c a ok.1.swap ok.2.swap nv.2 nv.1 vt.1 hX.swap h
theorem auh(hN:0<s*ori u v w)(hM:M≠[])(emp:∀b∈M,¬InT s u v w b):∀e∈pr (w::(M++[u])),Ok (u,w) e:=by
 obtain⟨n1,n2,n3,n4,n5,n6⟩:=agj S
 rintro⟨a,c⟩ he K X hK ⟨k1,k2,hk1,hk2,hk,x1,x2⟩ hX
 have nv:=afS S he
 have ok:=oks S he
 have vt:=aje S he
 have A:=aaI (s:=s) (p:=v) (q:=w) hk x1 x2
 have B:=aaI (s:=s) (p:=w) (q:=u) hk x1 x2
 have G:=aaI (s:=s) (p:=u) (q:=v) hk x1 x2
 rw[asP,ago,Int.mul_zero,Int.add_zero]at A
 rw[ags,ago,Int.mul_zero,Int.mul_zero,Int.add_zero]at B
 rw[ags,atj,Int.mul_zero,Int.zero_add]at G
 dsimp only at x1 x2
 by_cases hk20:k2=0
 ·subst hk20
  have hk1K:k1=K:=by omega
  subst hk1K
  rw[Int.zero_mul,Int.add_zero]at x1 x2
  obtain⟨p,hp,pv,q1,q2⟩:=ok.1 _ X hK hX ⟨k1,0,hk1,Int.le_refl _,by omega,by dsimp only;omega,by dsimp only;omega⟩
  have:=can hK (x1.symm.trans q1) (x2.symm.trans q2)
  subst this
  exact⟨u,.inl rfl,hp,x1,x2⟩
 by_cases hk10:k1=0
 ·subst hk10
  have hk2K:k2=K:=by omega
  subst hk2K
  rw[Int.zero_mul,Int.zero_add]at x1 x2
  obtain⟨p,hp,pv,q1,q2⟩:=ok.2 _ X hK hX ⟨0,k2,Int.le_refl _,hk2,by omega,by dsimp only;omega,by dsimp only;omega⟩
  have:=can hK (x1.symm.trans q1) (x2.symm.trans q2)
  subst this
  exact⟨w,.inr rfl,hp,x1,x2⟩
 exfalso
 have Ap:0<co s v w K X:=by rw[A];exact Int.mul_pos (by omega) hN
 have Gp:0<co s u v K X:=by rw[G];exact Int.mul_pos (by omega) hN
 have noT:∀c:Pt,(c=w∨c=u∨c∈M)→0<co s v w 1 c→0<co s u v 1 c→0≤co s w u 1 c→False:=fun c hc h1 h2 h3=>by
  rcases hc with rfl|rfl|hc
  ·rw[ago]at h1;omega
  ·rw[ags]at h2;omega
  ·exact emp c hc ⟨by omega,h3,by omega⟩
 have up:∀a c:Pt,Ok (a,c) (u,v)→Ok (a,c) (v,w)→v≠a→v≠c→(c=w∨c=u∨c∈M)→On K X a c→0<co s w u 1 c→False:=fun a c o1 o2 va vc hc ⟨m,n,hm,hn,hmn,y1,y2⟩ hpos=>by
  refine ah8 hN o1 o2 va vc hK hm hn hmn y1 y2 (by omega) (by omega) (by omega) (by omega) (.inr ⟨Ap,Gp,hpos⟩) ?_
  apply Classical.byContradiction
  intro hout
  rw[not_or]at hout
  rcases hc with rfl|rfl|hc
  ·rw[ags]at hpos;omega
  ·rw[ago]at hpos;omega
  ·exact emp c hc ⟨by omega,by omega,by omega⟩
 have ha:co s w u 1 a≤0:=by
  apply Classical.byContradiction
  intro h
  exact up c a ok.1.swap ok.2.swap nv.2 nv.1 vt.1 hX.swap (by omega)
 have hc:co s w u 1 c≤0:=by
  apply Classical.byContradiction
  intro h
  exact up a c ok.1 ok.2 nv.1 nv.2 vt.2 hX (by omega)
 obtain⟨m,n,hm,hn,hmn,y1,y2⟩:=hX
 have eA:=aaI (s:=s) (p:=v) (q:=w) hmn y1 y2
 have eB:=aaI (s:=s) (p:=w) (q:=u) hmn y1 y2
 have eG:=aaI (s:=s) (p:=u) (q:=v) hmn y1 y2
 dsimp only at eA eB eG y1 y2
 have t1:=Int.mul_nonneg hm (show 0≤-co s w u 1 a by omega)
 have t2:=Int.mul_nonneg hn (show 0≤-co s w u 1 c by omega)
 rw[Int.mul_neg]at t1 t2
 have z1:m*co s w u 1 a=0:=by omega
 have z2:n*co s w u 1 c=0:=by omega
 by_cases hm0:m=0
 ·subst hm0
  have hn0:0<n:=by omega
  rw[Int.zero_mul,Int.zero_add]at eA eG
  refine noT c vt.2 (Int.pos_of_mul_pos_left (a:=co s v w 1 c) (b:=n) ?_ hn0) (Int.pos_of_mul_pos_left (a:=co s u v 1 c) (b:=n) ?_ hn0) ?_
  ·rw[Int.mul_comm];omega
  ·rw[Int.mul_comm];omega
  ·rcases Int.mul_eq_zero.mp z2 with h|h<;>omega
 by_cases hn0:n=0
 ·subst hn0
  have hm0:0<m:=by omega
  rw[Int.zero_mul,Int.add_zero]at eA eG
  refine noT a vt.1 (Int.pos_of_mul_pos_left (a:=co s v w 1 a) (b:=m) ?_ hm0) (Int.pos_of_mul_pos_left (a:=co s u v 1 a) (b:=m) ?_ hm0) ?_
  ·rw[Int.mul_comm];omega
  ·rw[Int.mul_comm];omega
  ·rcases Int.mul_eq_zero.mp z1 with h|h<;>omega
 have Ba:co s w u 1 a=0:=by rcases Int.mul_eq_zero.mp z1 with h|h<;>omega
 have Bc:co s w u 1 c=0:=by rcases Int.mul_eq_zero.mp z2 with h|h<;>omega
 have last:∀(a c:Pt) (m n:Int),0<m→0<n→Ok (a,c) (u,v)→Ok (a,c) (v,w)→v≠a→v≠c→(a=w∨a=u∨a∈M)→(c=w∨c=u∨c∈M)→co s w u 1 a=0→co s w u 1 c=0→0<m*co s v w 1 a+n*co s v w 1 c→0<m*co s u v 1 a+n*co s u v 1 c→co s u v 1 a≤co s u v 1 c→a=u∧c=w:=fun a c m n hm hn o1 o2 va vc ha hc Ba Bc pA pG hle=>by
  have ba:=akj (s:=s) (u:=u) (v:=v) (w:=w) 1 a
  have bc:=akj (s:=s) (u:=u) (v:=v) (w:=w) 1 c
  rw[Int.one_mul]at ba bc
  have gc:0<co s u v 1 c:=by
   apply Classical.byContradiction
   intro h
   have q1:=Int.mul_nonneg (show 0≤m by omega) (show 0≤-co s u v 1 a by omega)
   have q2:=Int.mul_nonneg (show 0≤n by omega) (show 0≤-co s u v 1 c by omega)
   rw[Int.mul_neg]at q1 q2
   omega
  have aa:0<co s v w 1 a:=by
   apply Classical.byContradiction
   intro h
   have q1:=Int.mul_nonneg (show 0≤m by omega) (show 0≤-co s v w 1 a by omega)
   have q2:=Int.mul_nonneg (show 0≤n by omega) (show 0≤-co s v w 1 c by omega)
   rw[Int.mul_neg]at q1 q2
   omega
  have ga:co s u v 1 a≤0:=by
   apply Classical.byContradiction
   intro h
   exact noT a ha aa (by omega) (by omega)
  have ac:co s v w 1 c≤0:=by
   apply Classical.byContradiction
   intro h
   exact noT c hc (by omega) gc (by omega)
  have meet:∀(x y:Int),0≤x→0≤y→0<x+y→(x*co s u v 1 a+y*co s u v 1 c=0→u=a∨u=c)∧(x*co s v w 1 a+y*co s v w 1 c=0→w=a∨w=c):=fun x y hx hy hxy=>by
   have hab:On (x+y) (x*a.1+y*c.1,x*a.2+y*c.2) a c:=⟨x,y,hx,hy,rfl,rfl,rfl⟩
   have lA:=aaI (s:=s) (p:=v) (q:=w) (K:=x+y) (X:=(x*a.1+y*c.1,x*a.2+y*c.2)) (a:=a) (b:=c) (m:=x) (n:=y) rfl rfl rfl
   have lB:=aaI (s:=s) (p:=w) (q:=u) (K:=x+y) (X:=(x*a.1+y*c.1,x*a.2+y*c.2)) (a:=a) (b:=c) (m:=x) (n:=y) rfl rfl rfl
   have lG:=aaI (s:=s) (p:=u) (q:=v) (K:=x+y) (X:=(x*a.1+y*c.1,x*a.2+y*c.2)) (a:=a) (b:=c) (m:=x) (n:=y) rfl rfl rfl
   rw[Ba,Bc,Int.mul_zero,Int.mul_zero,Int.add_zero]at lB
   have bb:=akj (s:=s) (u:=u) (v:=v) (w:=w) (x+y) (x*a.1+y*c.1,x*a.2+y*c.2)
   generalize (x*a.1+y*c.1,x*a.2+y*c.2)=Y at *
   generalize x+y=L at *
   have habN:=hab.scale (n:=s*ori u v w) (by omega)
   have hNL:0<(s*ori u v w)*L:=Int.mul_pos hN hxy
   have hLN:0<L*(s*ori u v w):=Int.mul_pos hxy hN
   refine⟨fun h0=>?_,fun h0=>?_⟩
   ·obtain⟨p,pa,pv,q1,q2⟩:=o1 _ _ hNL habN (ai0 (by omega) (by omega) (by omega))
    rcases pv with rfl|rfl
    ·exact pa
    ·rcases pa with e|e
     ·exact absurd e va
     ·exact absurd e vc
   ·obtain⟨p,pa,pv,q1,q2⟩:=o2 _ _ hNL habN (ain (by omega) (by omega) (by omega))
    rcases pv with rfl|rfl
    ·rcases pa with e|e
     ·exact absurd e va
     ·exact absurd e vc
    ·exact pa
  have hu:=(meet (co s u v 1 c) (-co s u v 1 a) (by omega) (by omega) (by omega)).1 (by grind)
  have hw:=(meet (-co s v w 1 c) (co s v w 1 a) (by omega) (by omega) (by omega)).2 (by grind)
  have e1:a=u:=by
   rcases hu with e|e
   ·exact e.symm
   ·rw[←e,ags]at gc;omega
  have e2:c=w:=by
   rcases hw with e|e
   ·rw[←e,ago]at aa;omega
   ·exact e.symm
  exact⟨e1,e2⟩
 have r1:¬(a=u∧c=w):=by
  rintro⟨rfl,rfl⟩
  rcases List.mem_append.mp (abL he)with z|z
  ·exact n5 z
  ·exact n3 (List.mem_singleton.mp z)
 have r2:¬(c=u∧a=w):=by
  rintro⟨rfl,rfl⟩
  cases M with
  | nil=>exact hM rfl
  | cons x M=>
   rcases List.mem_cons.mp (show(a,c)∈(a,x)::pr (x::M++[c])from he)with z|z
   ·cases z;exact n6 (by simp)
   ·exact n5 (aby (L:=x::M) z)
 rcases Int.le_total (co s u v 1 a) (co s u v 1 c)with h|h
 ·exact r1 (last a c m n (by omega) (by omega) ok.1 ok.2 nv.1 nv.2 vt.1 vt.2 Ba Bc (by omega) (by omega) h)
 ·exact r2 (last c a n m (by omega) (by omega) ok.1.swap ok.2.swap nv.2 nv.1 vt.2 vt.1 Bc Ba (by omega) (by omega) h)
end
end Geo
end
section
namespace Geo
theorem sgn{x:Int}(h:x≠0):∃s:Int,(s=1∨s=-1)∧0<s*x:=by
 by_cases hx:0<x
 ·exact⟨1,.inl rfl,by omega⟩
 ·exact⟨-1,.inr rfl,by omega⟩
theorem aek{s t x:Int}(hs:s=1∨s=-1)(ht:t=1∨t=-1)(h1:0<s*x)(h2:0<t*x):s=t:=by
 rcases hs with rfl|rfl<;>rcases ht with rfl|rfl<;>omega
theorem ahv{α:Type}(f:α→Int):∀(L:List α),L≠[]→∃m∈L,∀b∈L,f b≤f m
 | [a],_=>⟨a,by simp,by simp⟩
 | a::c::L,_=>by
  obtain⟨m,hm,h⟩:=ahv f (c::L) (by simp)
  by_cases q:f m≤f a
  ·refine⟨a,by simp,fun b hb=>?_⟩
   rcases List.mem_cons.mp hb with rfl|z
   ·exact Int.le_refl _
   ·have:=h b z;omega
  ·refine⟨m,List.mem_cons_of_mem _ hm,fun b hb=>?_⟩
   rcases List.mem_cons.mp hb with rfl|z
   ·omega
   ·exact h b z
theorem par{u v w:Pt}{p q:Int}(h0:ori u v w=0):(p*w.1+q*w.2-(p*v.1+q*v.2))*(u.1-v.1)=(p*u.1+q*u.2-(p*v.1+q*v.2))*(w.1-v.1)∧(p*w.1+q*w.2-(p*v.1+q*v.2))*(u.2-v.2)=(p*u.1+q*u.2-(p*v.1+q*v.2))*(w.2-v.2):=by
 unfold ori at h0
 exact⟨by grind,by grind⟩
theorem mix{g1 g2 a b c:Int}(k:g2*(a-b)=g1*(c-b)):g2*a=(g2-g1)*b+g1*c∧g1*c=g2*a+(g1-g2)*b:=⟨by grind,by grind⟩
section
variable{v w u:Pt}{M:List Pt}(S:Sim (v::w::(M++[u])))
include S
theorem aov{x:Pt}(h:(x,v)∈E (v::w::(M++[u]))):x=u:=by
 rcases ahf S h with e|e|e
 ·exact absurd (congrArg Prod.snd e) (agj S).1
 ·exact congrArg Prod.fst e
 ·exact absurd rfl (afS S e).2
theorem aiE{y:Pt}(h:(v,y)∈E (v::w::(M++[u]))):y=w:=by
 rcases ahf S h with e|e|e
 ·exact congrArg Prod.snd e
 ·exact absurd (congrArg Prod.fst e) (agj S).2.1
 ·exact absurd rfl (afS S e).1
theorem at4{x:Pt}(h:(x,w)∈E (v::w::(M++[u]))):x=v:=by
 obtain⟨n1,n2,n3,n4,n5,n6⟩:=agj S
 rcases ahf S h with e|e|e
 ·exact congrArg Prod.fst e
 ·exact absurd (congrArg Prod.snd e).symm n1
 ·rcases List.mem_append.mp (abL e)with z|z
  ·exact absurd z n5
  ·exact absurd (List.mem_singleton.mp z) n3
theorem anj{y:Pt}(h:(u,y)∈E (v::w::(M++[u]))):y=v:=by
 obtain⟨n1,n2,n3,n4,n5,n6⟩:=agj S
 rcases ahf S h with e|e|e
 ·exact absurd (congrArg Prod.fst e).symm n2
 ·exact congrArg Prod.snd e
 ·rcases List.mem_cons.mp (aby (L:=w::M) e)with z|z
  ·exact absurd z.symm n3
  ·exact absurd z n6
theorem akO(hx:Ext (v::w::(M++[u])) v):ori u v w≠0:=by
 obtain⟨n1,n2,n3,n4,n5,n6⟩:=agj S
 obtain⟨_,p,q,hf⟩:=hx
 have fw:=hf w (by simp) (Ne.symm n1)
 have fu:=hf u (by simp) (Ne.symm n2)
 intro h0
 have ok:=S.ok _ (aou S) _ (aoq S) (fun e=>n2 (congrArg Prod.fst e).symm)
 generalize hg1:p*u.1+q*u.2-(p*v.1+q*v.2)=g1
 generalize hg2:p*w.1+q*w.2-(p*v.1+q*v.2)=g2
 obtain⟨k1,k2⟩:=par (p:=p) (q:=q) h0
 rw[hg1,hg2]at k1 k2
 have g10:0<g1:=by omega
 have g20:0<g2:=by omega
 clear hg1 hg2 fw fu
 by_cases hle:g1≤g2
 ·obtain⟨t,ht,hv,e1,e2⟩:=ok g2 (g2*u.1,g2*u.2) (by omega) (On.end1 (by omega) u v) ⟨g2-g1,g1,by omega,by omega,by omega,(mix k1).1,(mix k2).1⟩
  have:=can (by omega) e1 e2
  subst this
  rcases hv with h|h
  ·exact n2 h.symm
  ·exact n3 h.symm
 ·obtain⟨t,ht,hv,e1,e2⟩:=ok g1 (g1*w.1,g1*w.2) (by omega) ⟨g2,g1-g2,by omega,by omega,by omega,(mix k1).2,(mix k2).2⟩ (On.end1 (by omega) w v).swap
  have:=can (by omega) e1 e2
  subst this
  rcases ht with h|h
  ·exact n3 h
  ·exact n1 h.symm
end
theorem atV{s:Int}{c a b y:Pt}{p q:Int}(hs:s=1∨s=-1)(ha:p*c.1+q*c.2<p*a.1+q*a.2)(hb:p*c.1+q*c.2<p*b.1+q*b.2)(hy:p*c.1+q*c.2<p*y.1+q*y.2)
  (h1:0<s*ori a c y) (h2:0 < -s*ori b c y):∃s',(s'=1∨s'=-1)∧0<s'*ori a b c∧0<co s' b c 1 y∧0<co s' c a 1 y:=by
 have id:ori a b c*(p*(y.1-c.1)+q*(y.2-c.2))=ori b c y*(p*(a.1-c.1)+q*(a.2-c.2))-ori a c y*(p*(b.1-c.1)+q*(b.2-c.2)):=by unfold ori;grind
 have fa:0<p*(a.1-c.1)+q*(a.2-c.2):=by rw[Int.mul_sub,Int.mul_sub];omega
 have fb:0<p*(b.1-c.1)+q*(b.2-c.2):=by rw[Int.mul_sub,Int.mul_sub];omega
 have fy:0<p*(y.1-c.1)+q*(y.2-c.2):=by rw[Int.mul_sub,Int.mul_sub];omega
 have e1:∀s',co s' b c 1 y=s'*ori b c y:=fun s'=>by unfold co ori;grind
 have e2:∀s',co s' c a 1 y=-s'*ori a c y:=fun s'=>by unfold co ori;grind
 generalize p*(a.1-c.1)+q*(a.2-c.2)=A at *
 generalize p*(b.1-c.1)+q*(b.2-c.2)=B at *
 generalize p*(y.1-c.1)+q*(y.2-c.2)=Y at *
 generalize ori a c y=o1 at *
 generalize ori b c y=o2 at *
 generalize ori a b c=o at *
 have y1:=Int.mul_pos h1 fb
 have y2:=Int.mul_pos h2 fa
 have id2:-s*o*Y=-s*o2*A+s*o1*B:=by rw[Int.mul_assoc,id];grind
 have:0 < -s*o:=Int.pos_of_mul_pos_left (show 0 < -s*o*Y by omega) fy
 refine⟨-s,by omega,this,?_,?_⟩
 ·rw[e1];exact h2
 ·rw[e2];rw[Int.neg_neg];exact h1
end Geo
end
section
namespace Geo
theorem agA{P:List Pt}(S:Sim P){a x y:Pt}(ha:Ext P a)(hx:(x,a)∈E P)(hy:(a,y)∈E P):ori x a y≠0:=by
 obtain⟨w,M,u,h⟩:=turned S.n3 ha.1
 have S':=h.sim S
 have e1:=aov S' ((h.e _).mp hx)
 have e2:=aiE S' ((h.e _).mp hy)
 subst e1 e2
 exact akO S' (h.ext ha)
noncomputable def Ear(P:List Pt)(v:Pt):Prop:=∃τ t:Int,(τ=1∨τ=-1)∧0<τ*(ar (E P)-t)∧(∀x y,(x,v)∈E P→(v,y)∈E P→ori x v y=t)∧∀a x y,Ext P a→a≠v→(x,a)∈E P→(a,y)∈E P→0<τ*ori x a y
theorem Eqv.ear{P R v}(h:Eqv P R)(H:Ear R v):Ear P v:=by
 obtain⟨τ,t,h1,h2,h3,h4⟩:=H
 exact⟨τ,t,h1,by rw[h.a];exact h2,fun x y hx hy=>h3 x y ((h.e _).mp hx) ((h.e _).mp hy),fun a x y ha hv hx hy=>h4 a x y (h.ext ha) hv ((h.e _).mp hx) ((h.e _).mp hy)⟩
theorem Ext.sub{P R:List Pt}{a:Pt}(h:Ext P a)(ha:a∈R)(hs:∀b∈R,b∈P):Ext R a:=by
 obtain⟨_,p,q,hf⟩:=h
 exact⟨ha,p,q,fun b hb=>hf b (hs b hb)⟩
section
variable{v w u:Pt}{M:List Pt}(S:Sim (v::w::(M++[u])))
include S
theorem amT{s:Int}(hN:0<s*ori u v w){y:Pt}(hy:y∈M)(he:(w,y)∈E (v::w::(M++[u])))(h1:0<co s v w 1 y)(h2:0<co s w u 1 y)(emp:¬InT s u v w y):False:=by
 obtain⟨n1,n2,n3,n4,n5,n6⟩:=agj S
 have h3:co s u v 1 y<0:=by
  apply Classical.byContradiction
  intro h
  exact emp ⟨by omega,by omega,by omega⟩
 have ok:=S.ok _ he _ (aou S) (fun e=>n3 (congrArg Prod.fst e))
 generalize hg:co s u v 1 y=g at *
 have lA:=aaI (s:=s) (p:=v) (q:=w) (K:=-g+s*ori u v w) (X:=(-g*w.1+s*ori u v w*y.1,-g*w.2+s*ori u v w*y.2)) (a:=w) (b:=y) rfl rfl rfl
 have lB:=aaI (s:=s) (p:=w) (q:=u) (K:=-g+s*ori u v w) (X:=(-g*w.1+s*ori u v w*y.1,-g*w.2+s*ori u v w*y.2)) (a:=w) (b:=y) rfl rfl rfl
 have lG:=aaI (s:=s) (p:=u) (q:=v) (K:=-g+s*ori u v w) (X:=(-g*w.1+s*ori u v w*y.1,-g*w.2+s*ori u v w*y.2)) (a:=w) (b:=y) rfl rfl rfl
 rw[ago,Int.mul_zero,Int.zero_add]at lA
 rw[ags,Int.mul_zero,Int.zero_add]at lB
 rw[atj,hg]at lG
 have z:-g*(s*ori u v w)+s*ori u v w*g=0:=by grind
 have pA:=Int.mul_pos hN h1
 have pB:=Int.mul_pos hN h2
 have hab:On (-g+s*ori u v w) (-g*w.1+s*ori u v w*y.1,-g*w.2+s*ori u v w*y.2) w y:=⟨_,_,by omega,by omega,rfl,rfl,rfl⟩
 obtain⟨p,hp,hq,_,_⟩:=ok _ _ (Int.mul_pos hN (by omega)) (hab.scale (by omega)) (ai0 (by omega) (by omega) (by omega))
 dsimp only at hp hq
 rcases hq with rfl|rfl
 ·rcases hp with e|e
  ·exact n3 e.symm
  ·exact n6 (by rw[e];exact hy)
 ·rcases hp with e|e
  ·exact n1 e
  ·exact n4 (by rw[e];exact hy)
theorem aoc{s:Int}(hN:0<s*ori u v w){y:Pt}(hy:y∈M)(he:(y,u)∈E (v::w::(M++[u])))(h1:0<co s w u 1 y)(h2:0<co s u v 1 y)(emp:¬InT s u v w y):False:=by
 obtain⟨n1,n2,n3,n4,n5,n6⟩:=agj S
 have h3:co s v w 1 y<0:=by
  apply Classical.byContradiction
  intro h
  exact emp ⟨by omega,by omega,by omega⟩
 have ok:=(S.ok _ he _ (aoq S) (fun e=>n3 (congrArg Prod.snd e).symm)).swap
 generalize hg:co s v w 1 y=g at *
 have lA:=aaI (s:=s) (p:=v) (q:=w) (K:=-g+s*ori u v w) (X:=(-g*u.1+s*ori u v w*y.1,-g*u.2+s*ori u v w*y.2)) (a:=u) (b:=y) rfl rfl rfl
 have lB:=aaI (s:=s) (p:=w) (q:=u) (K:=-g+s*ori u v w) (X:=(-g*u.1+s*ori u v w*y.1,-g*u.2+s*ori u v w*y.2)) (a:=u) (b:=y) rfl rfl rfl
 have lG:=aaI (s:=s) (p:=u) (q:=v) (K:=-g+s*ori u v w) (X:=(-g*u.1+s*ori u v w*y.1,-g*u.2+s*ori u v w*y.2)) (a:=u) (b:=y) rfl rfl rfl
 rw[asP,hg]at lA
 rw[ago,Int.mul_zero,Int.zero_add]at lB
 rw[ags,Int.mul_zero,Int.zero_add]at lG
 have z:-g*(s*ori u v w)+s*ori u v w*g=0:=by grind
 have pA:=Int.mul_pos hN h1
 have pB:=Int.mul_pos hN h2
 have hab:On (-g+s*ori u v w) (-g*u.1+s*ori u v w*y.1,-g*u.2+s*ori u v w*y.2) u y:=⟨_,_,by omega,by omega,rfl,rfl,rfl⟩
 obtain⟨p,hp,hq,_,_⟩:=ok _ _ (Int.mul_pos hN (by omega)) (hab.scale (by omega)) (ain (by omega) (by omega) (by omega))
 dsimp only at hp hq
 rcases hq with rfl|rfl
 ·rcases hp with e|e
  ·exact n2 e
  ·exact n4 (by rw[e];exact hy)
 ·rcases hp with e|e
  ·exact n3 e
  ·exact n5 (by rw[e];exact hy)
theorem aqL(hM:M=[])(hx:Ext (v::w::(M++[u])) v):C (v::w::(M++[u])):=by
 obtain⟨s,hs,hN⟩:=sgn (akO S hx)
 obtain⟨n1,n2,n3,_⟩:=agj S
 refine⟨s,hs,?_,fun a x y ha hxa hay=>?_⟩
 ·rw[aec,hM]
  have:ar ((v,w)::(pr (w::([]++[u]))++[(u,v)]))=ori u v w:=by simp only[List.nil_append,pr,List.cons_append,ar];unfold ori;grind
  rw[this];exact hN
 ·have c1:ori v w u=ori u v w:=by unfold ori;grind
  have c2:ori w u v=ori u v w:=by unfold ori;grind
  have hm:=ha.1
  rw[hM]at hm
  simp only[List.nil_append,List.mem_cons,List.not_mem_nil,or_false]at hm
  rcases hm with rfl|rfl|rfl
  ·rw[aov S hxa,aiE S hay];exact hN
  ·have e:=at4 S hxa
   have e2:y=u:=by
    rcases ahf S hay with q|q|q
    ·exact absurd (congrArg Prod.fst q) (Ne.symm n1)
    ·exact absurd (congrArg Prod.fst q) n3
    ·rw[hM]at q;simpa using abL q
   rw[e,e2,c1];exact hN
  ·have e:=anj S hay
   have e2:x=w:=by
    rcases ahf S hxa with q|q|q
    ·exact absurd (congrArg Prod.snd q) (Ne.symm n3)
    ·exact absurd (congrArg Prod.snd q) (Ne.symm n2)
    ·rw[hM]at q;simpa using aby (L:=[w]) q
   rw[e,e2,c2];exact hN
theorem amy{s:Int}(hN:0<s*ori u v w){z:Pt}(hz:z∈M)(T:InT s u v w z):¬Ext (v::w::(M++[u])) z:=by
 obtain⟨n1,n2,n3,n4,n5,n6⟩:=agj S
 rintro⟨_,p,q,hf⟩
 have fv:=hf v (by simp) (fun e=>n4 (by rw[e];exact hz))
 have fw:=hf w (by simp) (fun e=>n5 (by rw[e];exact hz))
 have fu:=hf u (by simp) (fun e=>n6 (by rw[e];exact hz))
 have b:=akj (s:=s) (u:=u) (v:=v) (w:=w) 1 z
 have v1:=aog (s:=s) (u:=u) (v:=v) (w:=w) 1 z
 have v2:=aoj (s:=s) (u:=u) (v:=v) (w:=w) 1 z
 rw[Int.one_mul]at b
 obtain⟨T1,T2,T3⟩:=T
 generalize co s v w 1 z=A at *
 generalize co s w u 1 z=B at *
 generalize co s u v 1 z=G at *
 generalize s*ori u v w=N at *
 have e:A*(p*u.1+q*u.2-(p*z.1+q*z.2))+B*(p*v.1+q*v.2-(p*z.1+q*z.2))+G*(p*w.1+q*w.2-(p*z.1+q*z.2))=0:=by
  subst b
  grind
 have y1:0<p*u.1+q*u.2-(p*z.1+q*z.2):=by omega
 have y2:0<p*v.1+q*v.2-(p*z.1+q*z.2):=by omega
 have y3:0<p*w.1+q*w.2-(p*z.1+q*z.2):=by omega
 generalize p*u.1+q*u.2-(p*z.1+q*z.2)=x1 at *
 generalize p*v.1+q*v.2-(p*z.1+q*z.2)=x2 at *
 generalize p*w.1+q*w.2-(p*z.1+q*z.2)=x3 at *
 have m1:=Int.mul_nonneg T1 (show 0≤x1 by omega)
 have m2:=Int.mul_nonneg T2 (show 0≤x2 by omega)
 have m3:=Int.mul_nonneg T3 (show 0≤x3 by omega)
 have k1:A*x1=0:=by omega
 have k2:B*x2=0:=by omega
 have k3:G*x3=0:=by omega
 rcases Int.mul_eq_zero.mp k1 with h|h<;>rcases Int.mul_eq_zero.mp k2 with h'|h'<;>rcases Int.mul_eq_zero.mp k3 with h2|h2<;>omega
end
end Geo
end
section
namespace Geo
section
variable{v w u:Pt}{M:List Pt}(S:Sim (v::w::(M++[u])))
include S
theorem af9:E (w::(M++[u]))=pr (w::(M++[u]))++[(u,w)]:=by
 have h:=acn w M u []
 rw[h]
 rfl
theorem aip(IH:∀P,P.length<(v::w::(M++[u])).length→Sim P→C P)(hM:M≠[])(hx:Ext (v::w::(M++[u])) v){s:Int}(hs:s=1∨s=-1)(hN:0<s*ori u v w)(emp:∀b∈M,¬InT s u v w b):Ear (v::w::(M++[u])) v:=by
 obtain⟨n1,n2,n3,n4,n5,n6⟩:=agj S
 have D:=auh S hN hM emp
 have hlen:1≤M.length:=by
  cases M with
  | nil=>exact absurd rfl hM
  | cons a r=>simp
 have S':Sim (w::(M++[u])):=by
  refine⟨by simp;omega,(List.nodup_cons.mp S.nd).2,fun e he f hf hef=>?_⟩
  rw[af9 S]at he hf
  rcases List.mem_append.mp he with h1|h1<;>rcases List.mem_append.mp hf with h2|h2
  ·exact S.ok e (ao0 S h1) f (ao0 S h2) hef
  ·rw[List.mem_singleton.mp h2];exact(D e h1).symm
  ·rw[List.mem_singleton.mp h1];exact D f h2
  ·exact absurd ((List.mem_singleton.mp h1).trans (List.mem_singleton.mp h2).symm) hef
 obtain⟨τ,h1,h2,h3⟩:=IH _ (by simp) S'
 have hsub:∀b∈w::(M++[u]),b∈v::w::(M++[u]):=fun b hb=>List.mem_cons_of_mem _ hb
 have toR:∀e,e∈E (v::w::(M++[u]))→e≠(v,w)→e≠(u,v)→e∈E (w::(M++[u])):=fun e he a b=>by
  rw[af9 S]
  rcases ahf S he with q|q|q
  ·exact absurd q a
  ·exact absurd q b
  ·exact List.mem_append_left _ q
 have euw:(u,w)∈E (w::(M++[u])):=by rw[af9 S];simp
 refine⟨τ,ori u v w,h1,?_,fun x y hxv hvy=>?_,fun a x y ha hav hxa hay=>?_⟩
 ·have e1:ar (E (v::w::(M++[u])))-ori u v w=ar (E (w::(M++[u]))):=by
   rw[aec,af9 S]
   simp only[ar,ar_app]
   generalize ar (pr (w::(M++[u])))=z
   unfold ori
   grind
  rw[e1];exact h2
 ·rw[aov S hxv,aiE S hvy]
 ·have hm:a∈w::(M++[u]):=by
   rcases List.mem_cons.mp ha.1 with z|z
   ·exact absurd z hav
   ·exact z
  have ha':=ha.sub hm hsub
  by_cases haw:a=w
  ·subst haw
   have e:=at4 S hxa
   subst e
   have hay':=toR _ hay (fun e=>n1 (congrArg Prod.fst e).symm) (fun e=>n3 (congrArg Prod.fst e))
   have k1:=h3 a u y ha' euw hay'
   have k2:=agA S ha hxa hay
   apply Classical.byContradiction
   intro hno
   have k3:0 < -τ*ori x a y:=by rcases h1 with rfl|rfl<;>omega
   obtain⟨_,p,q,hf⟩:=ha
   have yM:y∈M:=by
    rcases ahf S hay with q|q|q
    ·exact absurd (congrArg Prod.fst q) (Ne.symm n1)
    ·exact absurd (congrArg Prod.fst q) n3
    ·rcases List.mem_append.mp (abL q)with z|z
     ·exact z
     ·exfalso
      have yu:=List.mem_singleton.mp z
      subst yu
      cases M with
      | nil=>exact hM rfl
      | cons m M=>
       rcases List.mem_cons.mp (show(a,y)∈(a,m)::pr (m::M++[y])from q)with z|z
       ·cases z;exact n6 (by simp)
       ·exact n5 (aby (L:=m::M) z)
   obtain⟨s',hs',q1,q2,q3⟩:=atV (a:=u) (b:=x) (c:=a) (y:=y) (p:=p) (q:=q) h1 (hf u (by simp) (Ne.symm n3)) (hf x (by simp) n1) (hf y (by simp[yM]) (fun e=>n5 (by rw[←e];exact yM))) k1 k3
   have c0:ori u x a=ori u x a:=rfl
   have:=aek hs' hs q1 hN
   subst this
   exact amT S hN yM hay q2 q3 (emp y yM)
  ·by_cases hau:a=u
   ·subst hau
    have e:=anj S hay
    subst e
    have hxa':=toR _ hxa (fun e=>n3 (congrArg Prod.snd e).symm) (fun e=>n2 (congrArg Prod.snd e).symm)
    have k1:=h3 a x w ha' hxa' euw
    have k2:=agA S ha hxa hay
    apply Classical.byContradiction
    intro hno
    have r1:ori w a x=-ori x a w:=by unfold ori;grind
    have r2:ori y a x=-ori x a y:=by unfold ori;grind
    have k3:0<τ*ori y a x:=by rw[r2];rcases h1 with rfl|rfl<;>omega
    have k4:0 < -τ*ori w a x:=by rw[r1];rcases h1 with rfl|rfl<;>omega
    obtain⟨_,p,q,hf⟩:=ha
    have xM:x∈M:=by
     rcases ahf S hxa with q|q|q
     ·exact absurd (congrArg Prod.snd q) (Ne.symm n3)
     ·exact absurd (congrArg Prod.snd q) (Ne.symm n2)
     ·rcases List.mem_cons.mp (aby (L:=w::M) q)with z|z
      ·exfalso
       subst z
       cases M with
       | nil=>exact hM rfl
       | cons m M=>
        rcases List.mem_cons.mp (show(x,a)∈(x,m)::pr (m::M++[a])from q)with z|z
        ·cases z;exact n6 (by simp)
        ·exact n5 (aby (L:=m::M) z)
      ·exact z
    obtain⟨s',hs',q1,q2,q3⟩:=atV (a:=y) (b:=w) (c:=a) (y:=x) (p:=p) (q:=q) h1 (hf y (by simp) n2) (hf w (by simp) n3) (hf x (by simp[xM]) (fun e=>n6 (by rw[←e];exact xM))) k3 k4
    have c0:ori y w a=ori a y w:=by unfold ori;grind
    rw[c0]at q1
    have:=aek hs' hs q1 hN
    subst this
    exact aoc S hN xM hxa q2 q3 (emp x xM)
   ·exact h3 a x y ha' (toR _ hxa (fun e=>haw (congrArg Prod.snd e)) (fun e=>hav (congrArg Prod.snd e))) (toR _ hay (fun e=>hav (congrArg Prod.fst e)) (fun e=>hau (congrArg Prod.fst e)))
end
theorem ahQ{v w u z:Pt}{A B:List Pt}(S:Sim (v::w::((A++z::B)++[u])))(IH:∀P,P.length<(v::w::((A++z::B)++[u])).length→Sim P→C P)(hx:Ext (v::w::((A++z::B)++[u])) v){s:Int}(hs:s=1∨s=-1)(hN:0<s*ori u v w)(T:InT s u v w z)(mx:∀b∈A++z::B,InT s u v w b→co s w u 1 b≤co s w u 1 z):C (v::w::((A++z::B)++[u])):=by
 have hz:z∈A++z::B:=by simp
 have D:=aoX S hN hz T mx
 have nx:=amy S hN hz T
 have ie:=fun {x}=>aov S (x:=x)
 have oe:=fun {y}=>aiE S (y:=y)
 have eR:E (v::w::((A++z::B)++[u]))=pr (v::(w::A++[z]))++pr (z::((B++[u])++[v])):=by
  have:=acn v (w::A) z (B++[u])
  simpa using this
 have e1:E (v::(w::A++[z]))=pr (v::(w::A++[z]))++[(z,v)]:=by
  rw[acn v (w::A) z []];rfl
 have e2:E (z::((B++[u])++[v]))=pr (z::((B++[u])++[v]))++[(v,z)]:=by
  rw[acn z (B++[u]) v []];rfl
 have hR:v::w::((A++z::B)++[u])=(v::(w::A++[z]))++(B++[u]):=by simp
 have nd:=S.nd
 have mR:∀b,b∈v::w::((A++z::B)++[u])↔(b=v∨b∈w::A∨b=z∨b∈B++[u]):=fun b=>by
  simp only[List.mem_cons,List.mem_append,List.not_mem_nil,or_false]
  constructor
  ·rintro(h|h|(h|h|h)|h)<;>simp[h]
  ·rintro(h|(h|h)|h|h|h)<;>simp[h]
 have nd2:(z::((B++[u])++[v])).Nodup:=by
  have p:(v::w::((A++z::B)++[u])).Perm ((z::((B++[u])++[v]))++(w::A)):=by
   have q:v::w::((A++z::B)++[u])=((v::[])++(w::A))++(z::(B++[u])):=by simp
   rw[q]
   refine List.perm_append_comm.trans ?_
   have q2:z::((B++[u])++[v])++w::A=(z::(B++[u]))++((v::[])++(w::A)):=by simp
   rw[q2]
  exact(List.nodup_append.mp (p.nodup_iff.mp nd)).1
 have nd1:(v::(w::A++[z])).Nodup:=by rw[hR]at nd;exact(List.nodup_append.mp nd).1
 have dis:∀b,b∈v::w::A→b∈B++[u]→False:=fun b h1 h2=>by
  rw[hR]at nd
  exact(List.nodup_append.mp nd).2.2 b (by
   rcases List.mem_cons.mp h1 with q|q
   ·simp[q]
   ·simp only[List.mem_cons,List.mem_append]at q ⊢
    rcases q with q|q<;>simp[q]) b h2 rfl
 have sim:∀(L:List (Pt×Pt)) (P:List Pt) (d:Pt×Pt),3≤P.length→P.Nodup→E P=L++[d]→(∀e∈L,e∈E (v::w::((A++z::B)++[u])))→(∀e∈E (v::w::((A++z::B)++[u])),Ok d e)→Sim P:=fun L P d h3 hn hE hL hd=>by
  refine⟨h3,hn,fun e he f hf hef=>?_⟩
  rw[hE]at he hf
  rcases List.mem_append.mp he with h1|h1<;>rcases List.mem_append.mp hf with h2|h2
  ·exact S.ok e (hL e h1) f (hL f h2) hef
  ·rw[List.mem_singleton.mp h2];exact(hd e (hL e h1)).symm
  ·rw[List.mem_singleton.mp h1];exact hd f (hL f h2)
  ·exact absurd ((List.mem_singleton.mp h1).trans (List.mem_singleton.mp h2).symm) hef
 have S1:=sim _ _ _ (by simp) nd1 e1 (fun e he=>by rw[eR];exact List.mem_append_left _ he) (fun e he=>(D e he).swap)
 have S2:=sim _ _ _ (by simp) nd2 e2 (fun e he=>by rw[eR];exact List.mem_append_right _ he) D
 obtain⟨σ1,a1,a2,a3⟩:=IH _ (by simp) S1
 obtain⟨σ2,b1,b2,b3⟩:=IH _ (by simp;omega) S2
 have sub1:∀b∈v::(w::A++[z]),b∈v::w::((A++z::B)++[u]):=fun b hb=>by
  rw[hR];exact List.mem_append_left _ hb
 have sub2:∀b∈z::((B++[u])++[v]),b∈v::w::((A++z::B)++[u]):=fun b hb=>by
  rw[mR]
  rcases List.mem_cons.mp hb with q|q
  ·exact .inr (.inr (.inl q))
  ·rcases List.mem_append.mp q with q|q
   ·exact .inr (.inr (.inr q))
   ·exact .inl (List.mem_singleton.mp q)
 have x1:=hx.sub (R:=v::(w::A++[z])) (by simp) sub1
 have x2:=hx.sub (R:=z::((B++[u])++[v])) (by simp) sub2
 have k1:=a3 v z w x1 (by rw[e1];simp) (by rw[e1];simp[pr])
 have euv:(u,v)∈pr (z::((B++[u])++[v])):=by
  have:=pr_app (z::B) u [v]
  simp only[List.cons_append,List.append_assoc,List.nil_append]at this ⊢
  rw[this]
  simp[pr]
 have k2:=b3 v u z x2 (by rw[e2];exact List.mem_append_left _ euv) (by rw[e2];simp)
 have t1:co s v w 1 z=s*ori z v w:=by unfold co ori;grind
 have t2:co s u v 1 z=s*ori u v z:=by unfold co ori;grind
 obtain⟨T1,_,T3⟩:=T
 rw[t1]at T1
 rw[t2]at T3
 have g1:σ1=s:=aek a1 hs k1 (by rcases a1 with rfl|rfl<;>rcases hs with rfl|rfl<;>omega)
 have g2:σ2=s:=aek b1 hs k2 (by rcases b1 with rfl|rfl<;>rcases hs with rfl|rfl<;>omega)
 subst g1
 subst g2
 refine⟨σ2,hs,?_,fun a x y ha hxa hay=>?_⟩
 ·have:ar (E (v::w::((A++z::B)++[u])))=ar (E (v::(w::A++[z])))+ar (E (z::((B++[u])++[v]))):=by
   rw[eR,e1,e2]
   simp only[ar_app,ar]
   grind
  rw[this,Int.mul_add]
  omega
 ·by_cases hav:a=v
  ·subst hav
   rw[ie hxa,oe hay];exact hN
  ·have haz:a≠z:=fun e=>nx (e▸ha)
   have L1s:∀{x:Pt},(x,a)∈pr (v::(w::A++[z]))→a∈w::A:=fun {x} h=>by
    rcases List.mem_append.mp (abL h)with q|q
    ·exact q
    ·exact absurd (List.mem_singleton.mp q) haz
   have L1f:∀{y:Pt},(a,y)∈pr (v::(w::A++[z]))→a∈w::A:=fun {y} h=>by
    rcases List.mem_cons.mp (aby (L:=v::w::A) h)with q|q
    ·exact absurd q hav
    ·exact q
   have L2s:∀{x:Pt},(x,a)∈pr (z::((B++[u])++[v]))→a∈B++[u]:=fun {x} h=>by
    rcases List.mem_append.mp (abL h)with q|q
    ·exact q
    ·exact absurd (List.mem_singleton.mp q) hav
   have L2f:∀{y:Pt},(a,y)∈pr (z::((B++[u])++[v]))→a∈B++[u]:=fun {y} h=>by
    rcases List.mem_cons.mp (aby (L:=z::(B++[u])) h)with q|q
    ·exact absurd q haz
    ·exact q
   rw[eR]at hxa hay
   rcases List.mem_append.mp hxa with h1|h1<;>rcases List.mem_append.mp hay with h2|h2
   ·exact a3 a x y (ha.sub (by have:=L1s h1;simp only[List.mem_cons,List.mem_append]at this ⊢;rcases this with q|q<;>simp[q]) sub1) (by rw[e1];exact List.mem_append_left _ h1) (by rw[e1];exact List.mem_append_left _ h2)
   ·exact(dis a (List.mem_cons_of_mem _ (L1s h1)) (L2f h2)).elim
   ·exact(dis a (List.mem_cons_of_mem _ (L1f h2)) (L2s h1)).elim
   ·exact b3 a x y (ha.sub (List.mem_cons_of_mem _ (List.mem_append_left _ (L2s h1))) sub2) (by rw[e2];exact List.mem_append_left _ h1) (by rw[e2];exact List.mem_append_left _ h2)
theorem step{v w u:Pt}{M:List Pt}(S:Sim (v::w::(M++[u])))(IH:∀P,P.length<(v::w::(M++[u])).length→Sim P→C P)(hx:Ext (v::w::(M++[u])) v):C (v::w::(M++[u]))∨Ear (v::w::(M++[u])) v:=by
 by_cases hM:M=[]
 ·exact .inl (aqL S hM hx)
 ·obtain⟨s,hs,hN⟩:=sgn (akO S hx)
  by_cases hz:∃b∈M,InT s u v w b
  ·have dec:∀b,Decidable (InT s u v w b):=fun b=>by unfold InT;infer_instance
   have hL:M.filter (fun b=>@decide _ (dec b))≠[]:=by
    obtain⟨b,hb,ht⟩:=hz
    exact List.ne_nil_of_mem (List.mem_filter.mpr ⟨hb,@decide_eq_true _ (dec b) ht⟩)
   obtain⟨z,hzm,hmx⟩:=ahv (fun b=>co s w u 1 b) _ hL
   obtain⟨h1,h2⟩:=List.mem_filter.mp hzm
   have h2:=@of_decide_eq_true _ (dec z) h2
   have mx:∀b∈M,InT s u v w b→co s w u 1 b≤co s w u 1 z:=fun b hb ht=>hmx b (List.mem_filter.mpr ⟨hb,@decide_eq_true _ (dec b) ht⟩)
   obtain⟨A,B,rfl⟩:=List.append_of_mem h1
   exact .inl (ahQ S IH hx hs hN h2 mx)
  ·exact .inr (aip S IH hM hx hs hN fun b hb ht=>hz ⟨b,hb,ht⟩)
theorem anp:∀L:List Pt,∃B:Int,0≤B∧∀p∈L,(-B≤p.1∧p.1≤B)∧(-B≤p.2∧p.2≤B)
 | []=>⟨0,by omega,by simp⟩
 | p::L=>by
  obtain⟨B,h0,h⟩:=anp L
  refine⟨B+p.1.natAbs+p.2.natAbs,by omega,fun q hq=>?_⟩
  rcases List.mem_cons.mp hq with rfl|z
  ·omega
  ·have:=h q z;omega
theorem ajL{P:List Pt}(hP:P≠[])(f:Pt→Int)(p q:Int)(hf:∀a,f a=p*a.1+q*a.2)(inj:∀a∈P,∀b∈P,f a=f b→a=b):∃m,Ext P m∧∀b∈P,f m≤f b:=by
 obtain⟨m,hm,h⟩:=ahv (fun a=>-f a) P hP
 refine⟨m,⟨hm,p,q,fun b hb hne=>?_⟩,fun b hb=>by have:=h b hb;omega⟩
 have h1:=h b hb
 have h2:f m≠f b:=fun e=>hne (inj m hm b hb e).symm
 rw[←hf,←hf]
 omega
theorem aux{P:List Pt}(S:Sim P):∃a b c,Ext P a∧Ext P b∧Ext P c∧a≠b∧a≠c∧b≠c:=by
 have hP:P≠[]:=fun e=>by have:=S.n3;rw[e]at this;simp at this
 obtain⟨B,hB0,hB⟩:=anp P
 have inj:∀(a b:Pt),a∈P→b∈P→(2*B+1)*a.1+a.2=(2*B+1)*b.1+b.2→a=b:=fun a b ha hb e=>by
  have h1:=hB a ha
  have h2:=hB b hb
  have e2:(2*B+1)*(a.1-b.1)=b.2-a.2:=by rw[Int.mul_sub];omega
  have e3:a.1-b.1=0:=by
   apply Classical.byContradiction
   intro hne
   by_cases q:0<a.1-b.1
   ·have:=Int.mul_le_mul_of_nonneg_left (show 1≤a.1-b.1 by omega) (show 0≤2*B+1 by omega)
    omega
   ·have:=Int.mul_le_mul_of_nonneg_left (show a.1-b.1≤-1 by omega) (show 0≤2*B+1 by omega)
    omega
  rw[e3,Int.mul_zero]at e2
  exact Prod.ext (by omega) (by omega)
 obtain⟨a,ha,la⟩:=ajL hP (fun a=>(2*B+1)*a.1+a.2) (2*B+1) 1 (fun a=>by simp) (fun a ha b hb e=>inj a b ha hb e)
 obtain⟨b,hb,lb⟩:=ajL hP (fun a=>-((2*B+1)*a.1+a.2)) (-(2*B+1)) (-1) (fun a=>by grind) (fun a ha b hb e=>inj a b ha hb (by omega))
 have tw:∀x∈P,x≠a→(2*B+1)*a.1+a.2<(2*B+1)*x.1+x.2:=fun x hx hne=>by
  have h1:=la x hx
  have h2:(2*B+1)*a.1+a.2≠(2*B+1)*x.1+x.2:=fun e=>hne (inj a x ha.1 hx e).symm
  omega
 obtain⟨x,y,hxa,hay⟩:=ac4 S.n3 ha.1
 have hx:=(anB hxa).1
 have hy:=(anB hay).2
 have tz:=agA S ha hxa hay
 have ab:a≠b:=by
  rintro rfl
  obtain⟨c,hc,hne⟩:∃c∈P,c≠a:=by
   apply Classical.byContradiction
   intro h
   have h:∀c∈P,c=a:=fun c hc=>Classical.byContradiction fun q=>h ⟨c,hc,q⟩
   rw[h x hx,h y hy]at tz
   exact tz (by unfold ori;grind)
  have h1:=tw c hc hne
  have h2:=lb c hc
  omega
 obtain⟨c,hc,hg⟩:∃c∈P,ori a b c≠0:=by
  apply Classical.byContradiction
  intro h
  have h:∀c∈P,ori a b c=0:=fun c hc=>Classical.byContradiction fun q=>h ⟨c,hc,q⟩
  have g1:=h x hx
  have g2:=h y hy
  apply tz
  have d:(b.1-a.1≠0)∨(b.2-a.2≠0):=by
   apply Classical.byContradiction
   intro q
   rw[not_or]at q
   exact ab (Prod.ext (by omega) (by omega))
  have i1:(b.1-a.1)*ori x a y=0:=by
   have:(b.1-a.1)*ori x a y=(y.1-a.1)*ori a b x-(x.1-a.1)*ori a b y:=by unfold ori;grind
   rw[this,g1,g2];simp
  have i2:(b.2-a.2)*ori x a y=0:=by
   have:(b.2-a.2)*ori x a y=(y.2-a.2)*ori a b x-(x.2-a.2)*ori a b y:=by unfold ori;grind
   rw[this,g1,g2];simp
  rcases d with d|d
  ·rcases Int.mul_eq_zero.mp i1 with q|q
   ·exact absurd q d
   ·exact q
  ·rcases Int.mul_eq_zero.mp i2 with q|q
   ·exact absurd q d
   ·exact q
 obtain⟨s,hs,hsg⟩:=sgn hg
 obtain⟨F,hF0,hF⟩:∃F:Int,0≤F∧∀p∈P,-F≤(2*B+1)*p.1+p.2∧(2*B+1)*p.1+p.2≤F:=by
  refine⟨(2*B+1)*B+B,?_,fun p hp=>?_⟩
  ·have:=Int.mul_nonneg (show 0≤2*B+1 by omega) hB0;omega
  ·have h:=hB p hp
   have h1:=Int.mul_le_mul_of_nonneg_left h.1.2 (show 0≤2*B+1 by omega)
   have h2:=Int.mul_le_mul_of_nonneg_left h.1.1 (show 0≤2*B+1 by omega)
   rw[Int.mul_neg]at h2
   omega
 have hfun:∀t:Pt,-(2*F+1)*(s*(ori a b t))+((2*B+1)*t.1+t.2)=(-(2*F+1)*(s*-(b.2-a.2))+(2*B+1))*t.1+(-(2*F+1)*(s*(b.1-a.1))+1)*t.2+(-(2*F+1)*(s*((b.2-a.2)*a.1-(b.1-a.1)*a.2))):=fun t=>by unfold ori;grind
 have close:∀p∈P,∀q∈P,-(2*F+1)*(s*ori a b p)+((2*B+1)*p.1+p.2)≤-(2*F+1)*(s*ori a b q)+((2*B+1)*q.1+q.2)→s*ori a b q≤s*ori a b p:=fun p hp q hq h=>by
  have h1:=hF p hp
  have h2:=hF q hq
  apply Classical.byContradiction
  intro hn
  have:=Int.mul_le_mul_of_nonneg_left (show 1≤s*ori a b q-s*ori a b p by omega) (show 0≤2*F+1 by omega)
  rw[Int.mul_sub]at this
  rw[Int.neg_mul,Int.neg_mul]at h
  omega
 obtain⟨m,hm,lm⟩:=ajL hP (fun t=>(-(2*F+1)*(s*-(b.2-a.2))+(2*B+1))*t.1+(-(2*F+1)*(s*(b.1-a.1))+1)*t.2) _ _ (fun t=>rfl) (fun p hp q hq e=>by
  have f1:=hfun p
  have f2:=hfun q
  have c1:=close p hp q hq (by omega)
  have c2:=close q hq p hp (by omega)
  have:s*ori a b p=s*ori a b q:=by omega
  rw[this]at f1
  exact inj p q hp hq (by omega))
 have hmg:0<s*ori a b m:=by
  have h1:=lm c hc
  have f1:=hfun m
  have f2:=hfun c
  have:=close m hm.1 c hc (by omega)
  omega
 refine⟨a,b,m,ha,hb,hm,ab,?_,?_⟩
 ·rintro rfl
  have:ori a b a=0:=by unfold ori;grind
  rw[this]at hmg;omega
 ·rintro rfl
  have:ori a b b=0:=by unfold ori;grind
  rw[this]at hmg;omega
theorem main:∀(n:Nat) (P:List Pt),P.length=n→Sim P→C P:=by
 intro n
 induction n using Nat.strongRecOn with
 | _ n ih=>
  intro P hn S
  have IH:∀Q:List Pt,Q.length<P.length→Sim Q→C Q:=fun Q hQ SQ=>ih Q.length (by omega) Q rfl SQ
  obtain⟨a,b,c,ha,hb,hc,ab,ac,bc⟩:=aux S
  have alt:∀v,Ext P v→C P∨Ear P v:=fun v hv=>by
   obtain⟨w,M,u,h⟩:=turned S.n3 hv.1
   rcases step (h.sim S) (fun Q hQ=>IH Q (by rw[h.p.length_eq];exact hQ)) (h.ext hv)with q|q
   ·exact .inl (h.c q)
   ·exact .inr (h.ear q)
  rcases alt a ha with q|⟨τ,t,t1,t2,t3,t4⟩
  ·exact q
  rcases alt b hb with q|⟨υ,t',u1,u2,u3,u4⟩
  ·exact q
  obtain⟨x,y,hx,hy⟩:=ac4 S.n3 hc.1
  have e:=aek t1 u1 (t4 c x y hc (Ne.symm ac) hx hy) (u4 c x y hc (Ne.symm bc) hx hy)
  subst e
  obtain⟨x,y,hx,hy⟩:=ac4 S.n3 ha.1
  have k:=u4 a x y ha ab hx hy
  rw[t3 x y hx hy]at k
  refine⟨τ,t1,?_,fun d x' y' hd hx' hy'=>?_⟩
  ·rw[Int.mul_sub]at t2;omega
  ·by_cases hda:d=a
   ·subst hda
    exact u4 d x' y' hd ab hx' hy'
   ·exact t4 d x' y' hd hda hx' hy'
theorem area_ne{P:List Pt}(S:Sim P):ar (E P)≠0:=by
 obtain⟨σ,_,h,_⟩:=main _ P rfl S
 intro h0
 rw[h0,Int.mul_zero]at h
 omega
end Geo
end
section
namespace IP
namespace Pg
open SegM
variable{l:List (Int×Int)}
theorem ag4{p q r:Int×Int}(hr:r≠q)(h:aa3 q p r=false):agn p q r:=by
 by_cases t:abi q p r=0
 ·have ha:¬0<abu q p r:=fun z=>by
   unfold aa3 at h
   rw[decide_eq_true t,decide_eq_true z]at h
   cases h
  have hd:0<(r.1-q.1)*(r.1-q.1)+(r.2-q.2)*(r.2-q.2):=WayM.sq_pos_of (fun z=>hr (Prod.ext (by omega) (by omega)))
  refine⟨r.1-q.1,r.2-q.2,.inl ?_⟩
  have e1:fu (r.1-q.1) (r.2-q.2) p-fu (r.1-q.1) (r.2-q.2) q=abu q p r:=by unfold fu abu;grind
  have e2:fu (r.1-q.1) (r.2-q.2) r-fu (r.1-q.1) (r.2-q.2) q=(r.1-q.1)*(r.1-q.1)+(r.2-q.2)*(r.2-q.2):=by unfold fu;grind
  omega
 ·have e1:fu (-(p.2-q.2)) (p.1-q.1) p=fu (-(p.2-q.2)) (p.1-q.1) q:=by unfold fu;grind
  have e2:fu (-(p.2-q.2)) (p.1-q.1) r-fu (-(p.2-q.2)) (p.1-q.1) q=abi q p r:=by unfold fu abi;grind
  by_cases h0:0<abi q p r
  ·exact⟨-(p.2-q.2),p.1-q.1,.inl (by omega)⟩
  ·refine⟨-(-(p.2-q.2)),-(p.1-q.1),.inl ?_⟩
   rw[acx,acx,acx]
   omega
theorem ake{p q r t:Int×Int}(h:aaU p q r t=false):ae5 p q r t:=by
 have hc:¬Common p.1 p.2 q.1 q.2 r.1 r.2 t.1 t.2:=fun z=>by
  obtain⟨a,b,c,d⟩:=z
  have:aaU p q r t=true:=by
   simp only[aaU,ab6,ax,Bool.and_eq_true,decide_eq_true_eq,if_true,Bool.false_eq_true,if_false]
   exact⟨⟨⟨a,b⟩,c⟩,d⟩
  rw[this]at h
  cases h
 have fin:∀u v,PartBy p.1 p.2 q.1 q.2 r.1 r.2 t.1 t.2 u v→ae5 p q r t:=fun u v z=>by
  rcases z with z|z
  ·exact⟨u,v,z⟩
  ·refine⟨-u,-v,?_⟩
   rw[acx,acx,acx,acx]
   unfold Below at z ⊢
   unfold fu
   omega
 rcases not_common hc with z|z|z|z
 ·exact fin _ _ z
 ·exact fin _ _ z
 ·exact fin _ _ z
 ·exact fin _ _ z
theorem ab9(i:Nat):cor l (i+l.length)=cor l i:=by unfold cor;rw[Nat.add_mod_right]
theorem agH{i:Nat}(h:i<l.length):cor l i=l[i]:=by
 unfold cor
 rw[Nat.mod_eq_of_lt h,List.getD_eq_getElem?_getD,List.getElem?_eq_getElem h]
 rfl
section
variable(h3:3≤l.length)(hf:∀i j,i≤j→j<l.length→aaE l i j=false)
include h3 hf
theorem fr0{i:Nat}(hi:i<l.length):cor l i≠cor l (i+1):=by
 have h:=hf i i (Nat.le_refl _) hi
 unfold aaE at h
 rw[if_pos rfl]at h
 exact fun z=>by rw[z]at h;simp at h
theorem frN(i:Nat):cor l i≠cor l (i+1):=by
 have e:∀d,cor l (i+d)=cor l (i % l.length+d):=fun d=>by unfold cor;rw[Nat.mod_add_mod]
 have h:=fr0 h3 hf (Nat.mod_lt i (show 0<l.length by omega))
 have e0:=e 0
 rw[Nat.add_zero,Nat.add_zero]at e0
 rw[e0,e 1]
 exact h
theorem fr1{i:Nat}(hi:i<l.length):agn (cor l i) (cor l (i+1)) (cor l (i+2)):=by
 by_cases h:i+1<l.length
 ·have q:=hf i (i+1) (by omega) h
  unfold aaE at q
  rw[if_neg (by omega),if_pos rfl]at q
  exact ag4 (fun e=>fr0 h3 hf h e.symm) q
 ·have hn:i+1=l.length:=by omega
  have q:=hf 0 i (by omega) hi
  unfold aaE at q
  rw[if_neg (by omega),if_neg (by omega),if_pos ⟨hn,rfl⟩]at q
  have e1:cor l (i+1)=cor l 0:=by rw[hn];have:=ab9 (l:=l) 0;rwa [Nat.zero_add]at this
  have e2:cor l (i+2)=cor l (0+1):=by rw[show i+2=0+1+l.length by omega,ab9]
  rw[e1,e2]
  refine(ag4 ?_ q).symm
  have:=fr0 h3 hf hi
  rwa [e1]at this
theorem fr2{i j:Nat}(h1:i+1<j)(hj:j<l.length)(hn:¬(i=0∧j+1=l.length)):ae5 (cor l i) (cor l (i+1)) (cor l j) (cor l (j+1)):=by
 have q:=hf i j (by omega) hj
 unfold aaE at q
 rw[if_neg (by omega),if_neg (by omega),if_neg (by omega)]at q
 exact ake q
theorem alS{i j:Nat}(hij:i<j)(hj:j<l.length):cor l i≠cor l j:=by
 by_cases h:j=i+1
 ·subst h;exact fr0 h3 hf (by omega)
 ·by_cases h0:i=0∧j+1=l.length
  ·have:=fr0 h3 hf hj
   have e1:cor l (j+1)=cor l i:=by rw[h0.2,h0.1];have:=ab9 (l:=l) 0;rwa [Nat.zero_add]at this
   rw[e1]at this
   exact this.symm
  ·obtain⟨u,v,b⟩:=fr2 h3 hf (by omega) hj h0
   intro e
   rw[e]at b
   unfold Below at b
   omega
end
theorem acA(f:Nat→Int×Int)(m:Nat):(List.range (m+1)).map f=(List.range m).map f++[f m]:=by rw[List.range_succ];simp
theorem ajp(f:Nat→Int×Int):∀m,Geo.pr ((List.range (m+1)).map f)=(List.range m).map fun i=>(f i,f (i+1))
 | 0=>rfl
 | m+1=>by
  have ih:=ajp f m
  rw[acA]at ih
  rw[acA,acA,List.append_assoc,List.singleton_append,Geo.pr_app,ih,List.range_succ,List.map_append]
  rfl
theorem ar9(h:0<l.length):Geo.E l=(List.range l.length).map fun i=>(cor l i,cor l (i+1)):=by
 rw[←ajp (cor l) l.length,acA]
 have e:(List.range l.length).map (cor l)=l:=by
  apply List.ext_getElem
  ·simp
  ·intro i h1 h2
   simp only[List.getElem_map,List.getElem_range]
   exact agH h2
 rw[e]
 cases l with
 | nil=>simp at h
 | cons a r=>
  have:cor (a::r) (a::r).length=a:=by unfold cor;rw[Nat.mod_self];rfl
  rw[this]
  rfl
theorem ajd(f:Nat→Int×Int):∀m,Geo.ar ((List.range m).map fun i=>(f i,f (i+1)))=ae8 f m
 | 0=>rfl
 | m+1=>by
  rw[List.range_succ,List.map_append,Geo.ar_app,ajd f m]
  show ae8 f m+(crs (f m) (f (m+1))+0)=ae8 f m+crs (f m) (f (m+1))
  omega
theorem aiU{K:Int}{X a b:Int×Int}(h:Geo.On K X a b)(u v:Int):∃s t,0≤s∧0≤t∧s+t=K∧fu u v X=s*fu u v a+t*fu u v b∧X.1=s*a.1+t*b.1∧X.2=s*a.2+t*b.2:=by
 obtain⟨s,t,h1,h2,h3,h4,h5⟩:=h
 refine⟨s,t,h1,h2,h3,?_,h4,h5⟩
 unfold fu
 rw[h4,h5]
 grind
theorem wt{s t K a b z:Int}(hs:0≤s)(ht:0≤t)(hK:s+t=K)(ha:a≤z)(hb:b≤z):s*a+t*b≤K*z:=by
 have h1:=Int.mul_le_mul_of_nonneg_left ha hs
 have h2:=Int.mul_le_mul_of_nonneg_left hb ht
 rw[←hK,Int.add_mul]
 omega
theorem ajf{p q r:Int×Int}(h:agn p q r):Geo.Ok (p,q) (q,r):=fun K X hK h1 h2=>by
 obtain⟨u,v,h⟩:=h
 obtain⟨s,t,a1,a2,a3,a4,a5,a6⟩:=aiU h1 u v
 obtain⟨s',t',b1,b2,b3,b4,b5,b6⟩:=aiU h2 u v
 dsimp only at a4 a5 a6 b4 b5 b6
 have hK2:K*fu u v q=s'*fu u v q+t'*fu u v q:=by rw[←b3,Int.add_mul]
 have hK1:K*fu u v q=s*fu u v q+t*fu u v q:=by rw[←a3,Int.add_mul]
 refine⟨q,.inr rfl,.inl rfl,?_⟩
 rcases h with⟨c1,c2⟩|⟨c1,c2⟩
 ·have m1:=Int.mul_le_mul_of_nonneg_left c1 a1
  have:t'*(fu u v r-fu u v q)≤0:=by rw[Int.mul_sub];omega
  have t0:t'=0:=by
   apply Classical.byContradiction
   intro hn
   have:=Int.mul_pos (show 0<t' by omega) (show 0<fu u v r-fu u v q by omega)
   omega
  subst t0
  rw[Int.zero_mul,Int.add_zero]at b5 b6
  rw[show s'=K by omega]at b5 b6
  exact⟨b5,b6⟩
 ·have m1:=Int.mul_le_mul_of_nonneg_left c1 b2
  have:s*(fu u v p-fu u v q)≤0:=by rw[Int.mul_sub];omega
  have t0:s=0:=by
   apply Classical.byContradiction
   intro hn
   have:=Int.mul_pos (show 0<s by omega) (show 0<fu u v p-fu u v q by omega)
   omega
  subst t0
  rw[Int.zero_mul,Int.zero_add]at a5 a6
  rw[show t=K by omega]at a5 a6
  exact⟨a5,a6⟩
theorem am1{p q r t:Int×Int}(h:ae5 p q r t):Geo.Ok (p,q) (r,t):=fun K X hK h1 h2=>by
 exfalso
 obtain⟨u,v,h⟩:=h
 obtain⟨s,s',a1,a2,a3,a4,_⟩:=aiU h1 u v
 obtain⟨m,m',b1,b2,b3,b4,_⟩:=aiU h2 u v
 dsimp only at a4 b4
 unfold Below at h
 have x1:=wt (a:=fu u v p) (b:=fu u v q) (z:=max (fu u v p) (fu u v q)) a1 a2 a3 (by omega) (by omega)
 have x2:=wt (a:=-fu u v r) (b:=-fu u v t) (z:=-(max (fu u v p) (fu u v q)+1)) b1 b2 b3 (by omega) (by omega)
 rw[Int.mul_neg,Int.mul_neg,Int.mul_neg,Int.mul_add,Int.mul_one]at x2
 omega
theorem ak0(h3:3≤l.length)(hf:∀i j,i≤j→j<l.length→aaE l i j=false):NC l.length (cor l):=by
 have pd:∀i d,cor l (i+d)=cor l (i % l.length+d):=fun i d=>by unfold cor;rw[Nat.mod_add_mod]
 have p0:∀i,cor l i=cor l (i % l.length):=fun i=>by unfold cor;rw[Nat.mod_mod]
 have lt:∀i,i % l.length<l.length:=fun i=>Nat.mod_lt _ (by omega)
 have hE:=ar9 (l:=l) (by omega)
 have S:Geo.Sim l:=by
  refine⟨h3,?_,fun e he f hf' hef=>?_⟩
  ·rw[List.nodup_iff_pairwise_ne,List.pairwise_iff_getElem]
   intro i j hi hj hij
   rw[←agH hi,←agH hj]
   exact alS h3 hf hij hj
  ·rw[hE]at he hf'
   obtain⟨i,hi,rfl⟩:=List.mem_map.mp he
   obtain⟨j,hj,rfl⟩:=List.mem_map.mp hf'
   have hi:=List.mem_range.mp hi
   have hj:=List.mem_range.mp hj
   have key:∀i j,i<j→j<l.length→Geo.Ok (cor l i,cor l (i+1)) (cor l j,cor l (j+1)):=fun i j hij hj=>by
    by_cases h1:j=i+1
    ·subst h1;exact ajf (fr1 h3 hf (by omega))
    ·by_cases h0:i=0∧j+1=l.length
     ·have e1:cor l (j+1)=cor l i:=by rw[h0.2,h0.1];have:=ab9 (l:=l) 0;rwa [Nat.zero_add]at this
      have e2:cor l (j+2)=cor l (i+1):=by rw[h0.1,show j+2=0+1+l.length by omega,ab9]
      have:=ajf (fr1 h3 hf hj)
      rw[e1,e2]at this
      rw[e1]
      exact this.symm
     ·exact am1 (fr2 h3 hf (by omega) hj h0)
   rcases Nat.lt_trichotomy i j with h|h|h
   ·exact key i j h hj
   ·subst h;exact absurd rfl hef
   ·exact(key j i h hi).symm
 refine⟨h3,ab9,frN h3 hf,fun i=>?_,fun i j h1 h2=>?_,?_⟩
 ·rw[p0 i,pd i 1,pd i 2];exact fr1 h3 hf (lt i)
 ·have e1:cor l j=cor l (i % l.length+(j-i)):=by rw[←pd i (j-i),show i+(j-i)=j by omega]
  have e2:cor l (j+1)=cor l (i % l.length+(j-i)+1):=by rw[show i % l.length+(j-i)+1=i % l.length+(j-i+1)by omega,←pd i (j-i+1),show i+(j-i+1)=j+1 by omega]
  rw[p0 i,pd i 1,e1,e2]
  have ha:=lt i
  generalize i % l.length=a at *
  obtain⟨d,hd⟩:∃d,j-i=d:=⟨_,rfl⟩
  rw[hd]
  by_cases c:a+d<l.length
  ·exact fr2 h3 hf (by omega) c (by omega)
  ·have q1:cor l (a+d)=cor l (a+d-l.length):=by rw[←ab9 (a+d-l.length),show a+d-l.length+l.length=a+d by omega]
   have q2:cor l (a+d+1)=cor l (a+d-l.length+1):=by rw[←ab9 (a+d-l.length+1),show a+d-l.length+1+l.length=a+d+1 by omega]
   rw[q1,q2]
   exact(fr2 h3 hf (i:=a+d-l.length) (j:=a) (by omega) ha (by omega)).swap
 ·have:=Geo.area_ne S
  rwa [hE,ajd]at this
theorem akc{p:Nat→Nat→Bool}{n:Nat}(h:fp p n=.val .non):∀i j,i≤j→j<n→p i j=false:=by
 have f1:∀(q:Nat→Option R) (m j:Nat),aaZ q j m=none→∀i,j≤i→i<j+m→q i=none:=by
  intro q m
  induction m with
  | zero=>intro j _ i h1 h2;omega
  | succ m ih=>
   intro j h i h1 h2
   unfold aaZ at h
   cases hq:q j with
   | some v=>rw[hq]at h;cases h
   | none=>
    rw[hq]at h
    by_cases e:i=j
    ·rw[e];exact hq
    ·exact ih (j+1) h i (by omega) (by omega)
 have f2:∀(q:Nat→Option R) (m j:Nat),(∀i r,q i=some r→r≠.val .non)→∀r,aaZ q j m=some r→r≠.val .non:=by
  intro q m
  induction m with
  | zero=>intro j _ r h;cases h
  | succ m ih=>
   intro j hq r h
   unfold aaZ at h
   cases hj:q j with
   | some v=>rw[hj]at h;cases h;exact hq j r hj
   | none=>rw[hj]at h;exact ih (j+1) hq r h
 have nq:∀i r,qi p n i=some r→r≠.val .non:=fun i r hr=>f2 _ _ _ (fun j r hj=>by
  unfold qj at hj
  split at hj
  ·cases hj;intro z;cases z
  ·cases hj) r hr
 intro i j hij hj
 have h1:aaZ (qi p n) 0 n=none:=by
  cases hq:aaZ (qi p n) 0 n with
  | none=>rfl
  | some r=>
   unfold fp at h
   rw[hq]at h
   exact absurd h (f2 _ _ _ nq r hq)
 have h2:=f1 _ _ _ h1 i (by omega) (by omega)
 have h3:=f1 _ _ _ h2 j hij (by omega)
 unfold qj at h3
 cases hp:p i j with
 | false=>rfl
 | true=>rw[hp]at h3;cases h3
end Pg
end IP
end
section
namespace IP
namespace Pg
open L2 M3
variable{k:Nat}{s:Sto}{l:List (Int×Int)}
noncomputable def sm3(p:Int×Int):Prop:=p.1.natAbs≤2^16∧p.2.natAbs≤2^16
structure Fine(l:List (Int×Int)):Prop where
 n1000:l.length≤1000
 nc:NC l.length (cor l)
 sl:∀p∈l,sm3 p
theorem Fine.sml(F:Fine l):∀p∈l,sml p:=fun p hp=>by
 have:=F.sl p hp
 exact⟨by have:=this.1;omega,by have:=this.2;omega⟩
theorem Fine.s3(F:Fine l)(i:Nat):sm3 (cor l i):=by
 unfold cor
 rw[List.getD_eq_getElem?_getD]
 cases e:l[i % l.length]? with
 | none=>exact⟨by decide,by decide⟩
 | some p=>exact F.sl p (List.mem_of_getElem? e)
noncomputable def dv(l:List (Int×Int))(i:Nat):Int×Int:=((cor l (i+1)).1-(cor l i).1,(cor l (i+1)).2-(cor l i).2)
noncomputable def gv(l:List (Int×Int))(i:Nat):Int:=gdZ (dv l i).1 (dv l i).2
noncomputable def pq(l:List (Int×Int))(i:Nat):Int×Int:=(Int.fdiv (dv l i).1 (gv l i),Int.fdiv (dv l i).2 (gv l i))
noncomputable def ovL(lw:Bool)(v:Int×Int):Int×Int:=if lw then(v.2,-v.1)else(-v.2,v.1)
noncomputable def lwB(l:List (Int×Int)):Bool:=decide (0<dsum l l.length)
noncomputable def ov(l:List (Int×Int))(i:Nat):Int×Int:=ovL (lwB l) (pq l i)
theorem adl{g i:Int}(h:0<g):i.natAbs≤(g*i).natAbs:=by
 rw[Int.natAbs_mul]
 have:1*i.natAbs≤g.natAbs*i.natAbs:=Nat.mul_le_mul_right _ (by omega)
 omega
section
variable(F:Fine l)
include F
theorem Fine.dv0(i:Nat):¬((dv l i).1=0∧(dv l i).2=0):=by
 rintro⟨h1,h2⟩
 apply F.nc.c0 i
 unfold dv at h1 h2
 exact Prod.ext (by omega) (by omega)
theorem Fine.gv0(i:Nat):0<gv l i:=by
 have h:=F.dv0 i
 unfold gv gdZ
 have:Nat.gcd (dv l i).1.natAbs (dv l i).2.natAbs≠0:=fun z=>by
  have:=Nat.gcd_eq_zero_iff.mp z
  omega
 omega
theorem Fine.pqs(i:Nat):(dv l i).1=gv l i*(pq l i).1∧(dv l i).2=gv l i*(pq l i).2∧Nat.Coprime (pq l i).1.natAbs (pq l i).2.natAbs:=by
 have g0:=F.gv0 i
 obtain⟨a,b,e1,e2,c⟩:=WayM.low (p:=(dv l i).1) (q:=(dv l i).2) (g:=gv l i) rfl g0
 unfold pq
 rw[e1,e2,Int.mul_fdiv_cancel_left a (by omega),Int.mul_fdiv_cancel_left b (by omega)]
 exact⟨rfl,rfl,c⟩
theorem Fine.dvs(i:Nat):(dv l i).1.natAbs≤2^17∧(dv l i).2.natAbs≤2^17:=by
 have h1:=F.s3 i
 have h2:=F.s3 (i+1)
 unfold sm3 at h1 h2
 unfold dv
 dsimp only
 omega
theorem Fine.gvs(i:Nat):(gv l i).natAbs<2^400:=by
 have h:=F.dvs i
 have h0:=F.dv0 i
 unfold gv gdZ
 by_cases h1:(dv l i).1=0
 ·have:=Nat.gcd_le_right (dv l i).1.natAbs (show 0<(dv l i).2.natAbs by omega)
  omega
 ·have:=Nat.gcd_le_left (dv l i).2.natAbs (show 0<(dv l i).1.natAbs by omega)
  omega
theorem Fine.vpq(i:Nat):vs (pq l i):=by
 obtain⟨e1,e2,c⟩:=F.pqs i
 have g0:=F.gv0 i
 have h:=F.dvs i
 have h0:=F.dv0 i
 have a1:=adl (i:=(pq l i).1) g0
 have a2:=adl (i:=(pq l i).2) g0
 rw[←e1]at a1
 rw[←e2]at a2
 refine⟨⟨by omega,by omega⟩,?_⟩
 rintro⟨z1,z2⟩
 rw[z1,Int.mul_zero]at e1
 rw[z2,Int.mul_zero]at e2
 exact h0 ⟨e1,e2⟩
theorem amn{lw:Bool}{v:Int×Int}(h:vs v):vs (ovL lw v):=by
 obtain⟨⟨h1,h2⟩,h3⟩:=h
 unfold ovL vs
 cases lw
 ·simp only[Bool.false_eq_true,if_false]
  omega
 ·simp only[if_true]
  omega
theorem Fine.vov(i:Nat):vs (ov l i):=amn F (F.vpq i)
theorem Fine.outward{i:Nat}(hi:i<l.length){lw:Bool}:run true fns aar aai (k+2) 15 [LN l,.val (.int i),.val (.bl lw)] s=.ok (PT (ovL lw (pq l i))) s:=by
 rw[aan (F:=auB) rfl rfl]
 have e1:=agW (k:=k) (s:=s) hi
 have e2:=at7 (k:=k) (s:=s) (dv l i).1.natAbs (dv l i).2.natAbs
 have e2':run true fns aar aai (k+1) aph [.val (.int ((dv l i).1.natAbs:Int)),.val (.int ((dv l i).2.natAbs:Int))] s=.ok (.val (.int (gv l i))) s:=e2
 have q1:=abB (i:=(dv l i).1) (j:=gv l i) (F.gv0 i) (F.gvs i)
 have q2:=abB (i:=(dv l i).2) (j:=gv l i) (F.gv0 i) (F.gvs i)
 have h1:(cor l (i+1)).1-(cor l i).1=(dv l i).1:=rfl
 have h2:(cor l (i+1)).2-(cor l i).2=(dv l i).2:=rfl
 unfold pq
 generalize cor l i=a at *
 generalize cor l (i+1)=b at *
 generalize gv l i=g at *
 generalize (dv l i).1=A at *
 generalize (dv l i).2=Z at *
 clear F e2
 unfold ovL
 cases lw
 ·simp[ao2,e1,h1,h2,ab,e2',q1,q2,pt]
 ·simp[ao2,e1,h1,h2,ab,e2',q1,q2,pt]
theorem agB{lw:Bool}{a b:Int×Int}:aaK (ovL lw a) (ovL lw b)=aaK a b:=by
 unfold aaK ovL
 cases lw
 ·simp only[Bool.false_eq_true,if_false];grind
 ·simp only[if_true];grind
theorem Fine.same(i:Nat)(h:aaK (ov l i) (ov l (i+1))=0):pq l i=pq l (i+1):=by
 unfold ov at h
 rw[agB F]at h
 obtain⟨a1,a2,a3⟩:=F.pqs i
 obtain⟨b1,b2,b3⟩:=F.pqs (i+1)
 have g1:=F.gv0 i
 have g2:=F.gv0 (i+1)
 have t:=ahl (F.nc.c1 i)
 have hv:=(F.vpq i).2
 have hw:=(F.vpq (i+1)).2
 unfold aaK at h
 have tz:abi (cor l (i+1)) (cor l i) (cor l (i+2))=0:=by
  unfold dv at a1 a2 b1 b2
  dsimp only at a1 a2 b1 b2
  rw[show i+1+1=i+2 by omega]at b1 b2
  unfold abi
  generalize pq l i=p at *
  generalize pq l (i+1)=q at *
  grind
 have az:abu (cor l (i+1)) (cor l i) (cor l (i+2))=-(gv l i*gv l (i+1)*((pq l i).1*(pq l (i+1)).1+(pq l i).2*(pq l (i+1)).2)):=by
  unfold dv at a1 a2 b1 b2
  dsimp only at a1 a2 b1 b2
  rw[show i+1+1=i+2 by omega]at b1 b2
  unfold abu
  generalize pq l i=p at *
  generalize pq l (i+1)=q at *
  grind
 unfold aa3 at t
 rw[tz,az]at t
 simp only[decide_true,Bool.true_and,decide_eq_false_iff_not]at t
 have gg:=Int.mul_pos g1 g2
 generalize pq l i=p at *
 generalize pq l (i+1)=q at *
 generalize gv l i*gv l (i+1)=G at *
 have hd:0≤p.1*q.1+p.2*q.2:=by
  apply Classical.byContradiction
  intro hn
  have:=Int.mul_pos gg (show 0 < -(p.1*q.1+p.2*q.2)by omega)
  rw[Int.mul_neg]at this
  omega
 have hne:p.1*q.1+p.2*q.2≠0:=by
  intro hz
  have s1:=WayM.sq_pos_of hv
  have s2:=WayM.sq_pos_of hw
  have:=Int.mul_pos s1 s2
  have e:(p.1*p.1+p.2*p.2)*(q.1*q.1+q.2*q.2)=(p.1*q.1+p.2*q.2)*(p.1*q.1+p.2*q.2)+(p.1*q.2-p.2*q.1)*(p.1*q.2-p.2*q.1):=by grind
  rw[hz,h]at e
  omega
 have:=WayM.prim a3 b3 (by omega) (show 0<p.1*q.1+p.2*q.2 by omega)
 exact Prod.ext this.1 this.2
end
structure Mv(c part W:Int)(q:Int×Int):Prop where
 pos:0<q.2
 cop:Nat.gcd q.1.natAbs q.2.natAbs=1
 e:(q.1-c*q.2)*W=part*q.2
 le:q.2≤(W.natAbs:Int)
theorem adz{c part W:Int}(h:W≠0):Mv c part W (mvP c part W):=by
 unfold mvP
 by_cases h0:W<0
 ·rw[if_pos h0]
  obtain⟨⟨a,b,e⟩,d⟩:=anN (A:=c*(-W)+(-part)) (W:=-W) (by omega)
  refine⟨a,b,?_,by omega⟩
  generalize loP (c*(-W)+(-part)) (-W)=q at *
  grind
 ·rw[if_neg h0]
  obtain⟨⟨a,b,e⟩,d⟩:=anN (A:=c*W+part) (W:=W) (by omega)
  refine⟨a,b,?_,by omega⟩
  generalize loP (c*W+part) W=q at *
  grind
theorem Mv.small{c part W:Int}{q:Int×Int}(M:Mv c part W q)(hW:W≠0)(hc:c.natAbs≤2^20)(hp:part.natAbs≤2^110)(hw:W.natAbs≤2^92):q.1.natAbs≤2^210∧q.2.natAbs≤2^92:=by
 have q2:q.2.natAbs≤2^92:=by
  have:=M.le
  have:=M.pos
  omega
 refine⟨?_,q2⟩
 have h1:=aaj hp q2
 rw[←M.e,Int.natAbs_mul]at h1
 have h2:(q.1-c*q.2).natAbs*1≤(q.1-c*q.2).natAbs*W.natAbs:=Nat.mul_le_mul_left _ (by omega)
 have h3:=aaj hc q2
 generalize c*q.2=z at *
 omega
structure CoOk(c p v:Int×Int)(b:Int)(X Y:Int×Int):Prop where
 p1:0<X.2
 p2:0<Y.2
 c1:Nat.gcd X.1.natAbs X.2.natAbs=1
 c2:Nat.gcd Y.1.natAbs Y.2.natAbs=1
 s1:X.1.natAbs≤2^210∧X.2.natAbs≤2^92
 s2:Y.1.natAbs≤2^210∧Y.2.natAbs≤2^92
 o1:(p.1*((X.1-c.1*X.2)*Y.2)+p.2*((Y.1-c.2*Y.2)*X.2))*rN p=1000*b*nN p*X.2*Y.2
 o2:(v.1*((X.1-c.1*X.2)*Y.2)+v.2*((Y.1-c.2*Y.2)*X.2))*rN v=1000*b*nN v*X.2*Y.2
 st:aaK p v=0→(X.1-c.1*X.2)*Y.2*v.2-(Y.1-c.2*Y.2)*X.2*v.1=0
noncomputable abbrev fT2(X Y:Int×Int):T:=.tup [pt X,pt Y]
theorem aeB{a b w:Int}(h:w≠0)(e:a*w=b*w):a=b:=Int.eq_of_mul_eq_mul_right h e
theorem ai1{c v:Int×Int}{b:Int}(hc:sml c)(h:vs v)(hb:0≤b∧b≤1000):∃X Y,aoy c v b=fT2 X Y∧CoOk c v v b X Y:=by
 have r:=ac0 h
 have u:=h.1
 have b1:=aaj (a:=1000*b) (b:=v.1) (m:=1000000) (n:=2^17) (by omega) u.1
 have b2:=aaj (a:=1000*b) (b:=v.2) (m:=1000000) (n:=2^17) (by omega) u.2
 have m1:=adz (c:=c.1) (part:=1000*b*v.1) (W:=rN v) (by omega)
 have m2:=adz (c:=c.2) (part:=1000*b*v.2) (W:=rN v) (by omega)
 refine⟨_,_,rfl,?_⟩
 generalize mvP c.1 (1000*b*v.1) (rN v)=X at *
 generalize mvP c.2 (1000*b*v.2) (rN v)=Y at *
 have s1:=m1.small (by omega) hc.1 (by omega) (by omega)
 have s2:=m2.small (by omega) hc.2 (by omega) (by omega)
 have e1:=m1.e
 have e2:=m2.e
 have o:(v.1*((X.1-c.1*X.2)*Y.2)+v.2*((Y.1-c.2*Y.2)*X.2))*rN v=1000*b*nN v*X.2*Y.2:=by
  unfold nN
  generalize X.1-c.1*X.2=A at *
  generalize Y.1-c.2*Y.2=U at *
  generalize rN v=w at *
  grind
 refine⟨m1.pos,m2.pos,m1.cop,m2.cop,s1,s2,o,o,fun _=>?_⟩
 apply aeB (w:=rN v) (by omega)
 rw[Int.zero_mul]
 generalize X.1-c.1*X.2=A at *
 generalize Y.1-c.2*Y.2=U at *
 generalize rN v=w at *
 grind
theorem ahM{p v:Int×Int}{b:Int}(hp:vs p)(h:vs v)(hb:0≤b∧b≤1000){x:Int}(hx:x.natAbs≤2^17):(mb p v b*x).natAbs≤2^101:=by
 have r:=ac0 h
 have n:=aiI hp
 unfold mb
 have h1:=aaj (a:=1000*b) (b:=nN p) (m:=2^20) (n:=2^35) (by omega) (by omega)
 have h2:=aaj (a:=1000*b*nN p) (b:=rN v) (m:=2^20*2^35) (n:=2^28) h1 (by omega)
 have h3:=aaj (a:=1000*b*nN p*rN v) (b:=x) (m:=2^20*2^35*2^28) (n:=2^17) h2 hx
 generalize 1000*b*nN p*rN v*x=z at *
 omega
theorem av3{p v:Int×Int}(hp:vs p)(h:vs v):(aaK p v*rN p*rN v).natAbs≤2^92:=by
 have r:=ac0 h
 have r':=ac0 hp
 have z:=ajA hp h
 have h1:=aaj (a:=aaK p v) (b:=rN p) (m:=2^35) (n:=2^28) z (by omega)
 have h2:=aaj (a:=aaK p v*rN p) (b:=rN v) (m:=2^35*2^28) (n:=2^28) h1 (by omega)
 generalize aaK p v*rN p*rN v=z at *
 omega
theorem ahJ{c p v:Int×Int}{b:Int}(hc:sml c)(hp:vs p)(h:vs v)(hb:0≤b∧b≤1000)(hz:aaK p v≠0):∃X Y,agT c p v (aaK p v) b=fT2 X Y∧CoOk c p v b X Y:=by
 have r:=ac0 h
 have r':=ac0 hp
 have hW:=(att hp h hz).1
 have w92:=av3 hp h
 have u:=h.1
 have u':=hp.1
 have t1:=ahM hp h hb u.2
 have t2:=ahM h hp hb u'.2
 have t3:=ahM h hp hb u'.1
 have t4:=ahM hp h hb u.1
 have m1:=adz (c:=c.1) (part:=mb p v b*v.2-mb v p b*p.2) (W:=aaK p v*rN p*rN v) hW
 have m2:=adz (c:=c.2) (part:=mb v p b*p.1-mb p v b*v.1) (W:=aaK p v*rN p*rN v) hW
 refine⟨_,_,rfl,?_⟩
 generalize mvP c.1 (mb p v b*v.2-mb v p b*p.2) (aaK p v*rN p*rN v)=X at *
 generalize mvP c.2 (mb v p b*p.1-mb p v b*v.1) (aaK p v*rN p*rN v)=Y at *
 have s1:=m1.small hW hc.1 (by clear m1 m2 w92 hW;omega) w92
 have s2:=m2.small hW hc.2 (by clear m1 m2 w92 hW;omega) w92
 have e1:=m1.e
 have e2:=m2.e
 refine⟨m1.pos,m2.pos,m1.cop,m2.cop,s1,s2,?_,?_,fun q=>absurd q hz⟩
 ·apply aeB (w:=aaK p v*rN v) (Int.mul_ne_zero hz (by omega))
  clear m1 m2 s1 s2 t1 t2 t3 t4 w92 hW
  have ez:mb p v b=1000*b*nN p*rN v:=rfl
  rw[ez]at e1 e2
  have a1:p.1*((X.1-c.1*X.2)*Y.2)*(aaK p v*rN p*rN v)=p.1*Y.2*((1000*b*nN p*rN v*v.2-mb v p b*p.2)*X.2):=by rw[←e1];grind
  have a2:p.2*((Y.1-c.2*Y.2)*X.2)*(aaK p v*rN p*rN v)=p.2*X.2*((mb v p b*p.1-1000*b*nN p*rN v*v.1)*Y.2):=by rw[←e2];grind
  have a3:(p.1*((X.1-c.1*X.2)*Y.2)+p.2*((Y.1-c.2*Y.2)*X.2))*rN p*(aaK p v*rN v)=p.1*((X.1-c.1*X.2)*Y.2)*(aaK p v*rN p*rN v)+p.2*((Y.1-c.2*Y.2)*X.2)*(aaK p v*rN p*rN v):=by grind
  rw[a3,a1,a2]
  unfold aaK
  generalize nN p=n at *
  generalize rN v=w at *
  generalize mb v p b=m at *
  clear a1 a2 a3 e1 e2
  grind
 ·apply aeB (w:=aaK p v*rN p) (Int.mul_ne_zero hz (by omega))
  clear m1 m2 s1 s2 t1 t2 t3 t4 w92 hW
  have ez:mb v p b=1000*b*nN v*rN p:=rfl
  rw[ez]at e1 e2
  have a1:v.1*((X.1-c.1*X.2)*Y.2)*(aaK p v*rN p*rN v)=v.1*Y.2*((mb p v b*v.2-1000*b*nN v*rN p*p.2)*X.2):=by rw[←e1];grind
  have a2:v.2*((Y.1-c.2*Y.2)*X.2)*(aaK p v*rN p*rN v)=v.2*X.2*((1000*b*nN v*rN p*p.1-mb p v b*v.1)*Y.2):=by rw[←e2];grind
  have a3:(v.1*((X.1-c.1*X.2)*Y.2)+v.2*((Y.1-c.2*Y.2)*X.2))*rN v*(aaK p v*rN p)=v.1*((X.1-c.1*X.2)*Y.2)*(aaK p v*rN p*rN v)+v.2*((Y.1-c.2*Y.2)*X.2)*(aaK p v*rN p*rN v):=by grind
  rw[a3,a1,a2]
  unfold aaK
  generalize nN v=n at *
  generalize rN p=w at *
  generalize mb p v b=m at *
  clear a1 a2 a3 e1 e2
  grind
theorem aiL{c p v:Int×Int}{b:Int}(hc:sml c)(hp:vs p)(h:vs v)(hb:0≤b∧b≤1000)(hs:aaK p v=0→p=v):∃X Y,ajj c p v b=fT2 X Y∧CoOk c p v b X Y:=by
 unfold ajj
 by_cases h0:aaK p v=0
 ·rw[if_pos h0]
  have e:=hs h0
  subst e
  exact ai1 hc h hb
 ·rw[if_neg h0]
  exact ahJ hc hp h hb h0
end Pg
end IP
end
section
namespace IP
namespace Pg
open L2 M3
variable{k:Nat}{s:Sto}{l:List (Int×Int)}
theorem ajW(i:Nat):cor l (i % l.length)=cor l i:=by unfold cor;rw[Nat.mod_mod]
theorem aio(i:Nat):cor l (i % l.length+1)=cor l (i+1):=by unfold cor;rw[Nat.mod_add_mod]
theorem af1(i:Nat):ov l (i % l.length)=ov l i:=by
 unfold ov pq gv dv
 rw[ajW,aio]
theorem ajo(i:Nat):ov l (i+l.length)=ov l i:=by rw[←af1,Nat.add_mod_right,af1]
section
variable(F:Fine l)
include F
theorem Fine.corner{b:Int}(hb:0≤b∧b≤1000)(i:Nat):∃X Y,ajj (cor l i) (ov l (i+l.length-1)) (ov l i) b=fT2 X Y∧CoOk (cor l i) (ov l (i+l.length-1)) (ov l i) b X Y:=by
 have n3:=F.nc.n3
 refine aiL (aa2 F.sml i) (F.vov _) (F.vov _) hb fun h=>?_
 have e:ov l (i+l.length-1+1)=ov l i:=by rw[show i+l.length-1+1=i+l.length by omega,ajo]
 rw[←e]at h ⊢
 unfold ov
 rw[F.same _ h]
theorem Fine.outline{b:Int}(hb:0≤b∧b≤1000):run true fns aar aai (k+7) 13 [LN l,.val (.int b)] s=.ok (.val (.lst ((List.range l.length).map fun i=>ajj (cor l i) (ov l (i+l.length-1)) (ov l i) b))) s:=by
 have n3:=F.nc.n3
 rw[aan (F:=aqM) rfl rfl]
 have e1:=adh (k:=k+1) (s:=s) F.sml F.n1000
 rw[apx fun i j h1 h2=>F.nc.free rfl h1 h2]at e1
 have e2:=agk (k:=k+5) (s:=s) F.sml (by omega)
 have key:=aeE (C:=cfX fns aar (k+6)) (s:=s) (l:=l) (n:=l.length) (by omega) rfl F.n1000 (b:=b) (lw:=lwB l) (v:=ov l) (d:=fun i=>ajj (cor l i) (ov l (i+l.length-1)) (ov l i) b) (abv e1 rfl) (abv e2 rfl) (fun i hi=>abv (F.outward (k:=k+4) (s:=s) hi) rfl) (fun i hi=>by
  rw[af1]
  exact abv (ar5 (k:=k) (s:=s) (aa2 F.sml i) (F.vov _) (F.vov _) hb) rfl)
 have hx:exs (cfX fns aar (k+6)) anD (aaR aqM [LN l,.val (.int b)]) s=_:=key
 rw[hx]
 rfl
end
theorem akD(C:Cf){A0 A1:Option B}:∀(n m:Nat) (c:Option B),∃c',aai (fun σ s=>(ev C (.cmp .gt (.var 3) (.cst (.int 0))) .t σ s).bind fun x s1=>.of (asB x) s1) (fun σ s=>exs C afr σ s)
   [A0,A1,some (.val (.int m)),some (.val (.int n)),c] s=.next [A0,A1,some (.val (.int (Nat.gcd m n))),some (.val (.int 0)),c'] s:=by
 intro n
 induction n using Nat.strongRecOn with
 | _ n ih=>
  intro m c
  rw[acQ]
  by_cases h:n=0
  ·subst h
   exact⟨c,by simp⟩
  ·have hn:0<n:=by omega
   have hd:=aaA (i:=(m:Int)) (j:=(n:Int)) (by omega)
   rw[abW]at hd
   obtain⟨c',e⟩:=ih (m % n) (Nat.mod_lt _ hn) n (some (.val (.int ((m % n:Nat):Int))))
   refine⟨c',?_⟩
   rw[show Nat.gcd m n=Nat.gcd n (m % n)by rw[Nat.gcd_comm m n,Nat.gcd_rec n m,Nat.gcd_comm]]
   have hc:(ev C (.cmp .gt (.var 3) (.cst (.int 0))) .t [A0,A1,some (.val (.int m)),some (.val (.int n)),c] s).bind (fun x s1=>Res.of (asB x) s1)=.ok true s:=by simp[hn]
   have hb:exs C afr [A0,A1,some (.val (.int m)),some (.val (.int n)),c] s=.next [A0,A1,some (.val (.int n)),some (.val (.int ((m % n:Nat):Int))),some (.val (.int ((m % n:Nat):Int)))] s:=by
    generalize ((m % n:Nat):Int)=z at hd ⊢
    simp[hd]
   rw[hc]
   show(exs C afr [A0,A1,some (.val (.int m)),some (.val (.int n)),c] s).bind _=_
   rw[hb]
   exact e
theorem ajz(a b:Int):run true fns aar aai (k+1) 25 [.val (.int a),.val (.int b)] s=.ok (.val (.int (gdZ a b))) s:=by
 rw[aan (F:=Fz7) rfl rfl]
 obtain⟨c',e⟩:=akD (s:=s) (cfX fns aar k) (A0:=some (.val (.int a))) (A1:=some (.val (.int b))) b.natAbs a.natAbs none
 have hx:exs (cfX fns aar k) bz7 (aaR Fz7 [.val (.int a),.val (.int b)]) s=.ret (.val (.int (gdZ a b))) s:=by
  refine(aae (σ1:=[some (.val (.int a)),some (.val (.int b)),some (.val (.int (a.natAbs:Int))),none,none]) (s1:=s) (by simp[ab])).trans ?_
  refine(aae (σ1:=[some (.val (.int a)),some (.val (.int b)),some (.val (.int (a.natAbs:Int))),some (.val (.int (b.natAbs:Int))),none]) (s1:=s) (by simp[ab])).trans ?_
  refine(aae ((aev rfl).trans e)).trans ?_
  simp[gdZ]
 rw[hx]
 rfl
theorem ahU{C:Cf}(hw:C.wl=aai){N:Int}(h0:0≤N)(hN:N<2^60):exs C asa [some (.val (.int N)),none,none] s=.ret (.val (.int (aaC N))) s:=by
 obtain⟨σ',e,⟨m,rfl,hI⟩,hout⟩:=acm (s:=s) (c:=fun σ s=>(ev C (.cmp .le (.bin .mul (.var 2) (.var 2)) (.var 0)) .t σ s).bind fun x s1=>.of (asB x) s1) (b:=fun σ s=>exs C ahd σ s)
  (fun σ=>∃m:Nat,σ=[some (.val (.int N)),some (.val (.int 0)),some (.val (.int ((2^m:Nat):Int)))]∧((2^m:Nat):Int)≤2*N+1) (fun σ=>match σ with | [_,_,some (.val (.int b))]=>(2*N+2-b).toNat | _=>0) (by
   rintro σ ⟨m,rfl,hI⟩
   have hp:0<(2^m:Nat):=Nat.two_pow_pos m
   have e2:((2^(m+1):Nat):Int)=((2^m:Nat):Int)*2:=by rw[Nat.pow_succ];omega
   generalize hb:((2^m:Nat):Int)=b at *
   have hb1:1≤b:=by omega
   have q1:=aao (i:=b) (j:=b) (aah (by omega))
   have q2:=aao (i:=b) (j:=2) (aah (by omega))
   by_cases hlt:b*b≤N
   ·have hbn:b≤N:=by
     have:=Int.mul_le_mul_of_nonneg_left hb1 (show 0≤b by omega)
     omega
    refine .inr ⟨by generalize b*b=z at *;simp[q1,hlt],[some (.val (.int N)),some (.val (.int 0)),some (.val (.int (b*2)))],by generalize b*2=z at *;simp[q2],⟨m+1,by rw[e2],by omega⟩,?_⟩
    show(2*N+2-b*2).toNat<(2*N+2-b).toNat
    omega
   ·exact .inl (by generalize b*b=z at *;simp[q1,hlt])) [some (.val (.int N)),some (.val (.int 0)),some (.val (.int 1))] ⟨0,rfl,by simp;omega⟩
 have hb1:0<(2^m:Nat):=Nat.two_pow_pos m
 have hlt:N<((2^m:Nat):Int)*((2^m:Nat):Int):=by
  have q1:=aao (i:=((2^m:Nat):Int)) (j:=((2^m:Nat):Int)) (aah (by omega))
  generalize ((2^m:Nat):Int)=b at *
  apply Classical.byContradiction
  intro hn
  generalize b*b=z at *
  simp[q1,show z≤N by omega]at hout
 obtain⟨σ2,e',⟨t,b,rfl,hJ⟩,hout2⟩:=acm (s:=s) (c:=fun σ s=>(ev C (.cmp .gt (.var 2) (.cst (.int 0))) .t σ s).bind fun x s1=>.of (asB x) s1) (b:=fun σ s=>exs C ahp σ s)
  (fun σ=>∃t b:Int,σ=[some (.val (.int N)),some (.val (.int t)),some (.val (.int b))]∧(0≤t∧t≤N∧t*t≤N)∧((∃m:Nat,b=((2^m:Nat):Int)∧b≤2*N+1∧N<(t+2*b)*(t+2*b))∨(b=0∧N<(t+1)*(t+1)))) (fun σ=>match σ with | [_,_,some (.val (.int b))]=>b.toNat | _=>0) (by
   rintro σ ⟨t,b,rfl,⟨t0,t1,t2⟩,hJ⟩
   rcases hJ with⟨m,hm,hb2,hN2⟩|⟨rfl,hN2⟩
   ·have hp:0<(2^m:Nat):=Nat.two_pow_pos m
    have hb1:1≤b:=by omega
    have q1:=aao (i:=t+b) (j:=t+b) (aah (by omega))
    have q2:=abe (i:=b) (j:=2) (by decide) (by decide)
    have hf:(m=0∧b=1∧Int.fdiv b 2=0)∨(∃m',Int.fdiv b 2=((2^m':Nat):Int)∧b=2*Int.fdiv b 2):=by
     cases m with
     | zero=>left;refine⟨rfl,by simpa using hm,?_⟩;rw[show b=1 by simpa using hm];decide
     | succ m'=>
      right
      have e2:((2^(m'+1):Nat):Int)=2*((2^m':Nat):Int):=by rw[Nat.pow_succ];omega
      have e3:Int.fdiv b 2=((2^m':Nat):Int):=by
       rw[hm,e2];exact Int.mul_fdiv_cancel_left _ (by decide)
      exact⟨m',e3,by rw[e3,hm,e2]⟩
    have hlt2:Int.fdiv b 2<b:=by rcases hf with⟨_,h1,h2⟩|⟨m',h1,h2⟩<;>omega
    generalize hfb:Int.fdiv b 2=f at *
    have hfn:0≤f:=by rcases hf with⟨_,h1,h2⟩|⟨m',h1,h2⟩<;>omega
    right
    refine⟨by simp;omega,?_⟩
    by_cases hc:(t+b)*(t+b)≤N
    ·refine⟨[some (.val (.int N)),some (.val (.int (t+b))),some (.val (.int f))],by generalize (t+b)*(t+b)=z at *;simp[q1,q2,hc],⟨t+b,f,rfl,⟨by omega,?_,hc⟩,?_⟩,by show f.toNat<b.toNat;omega⟩
     ·have:=Int.mul_le_mul_of_nonneg_left (show 1≤t+b by omega) (show 0≤t+b by omega)
      omega
     ·rcases hf with⟨_,h1,h2⟩|⟨m',h1,h2⟩
      ·right
       refine⟨h2,?_⟩
       rw[show t+b+1=t+2*b by omega];exact hN2
      ·left
       refine⟨m',h1,by omega,?_⟩
       rw[show t+b+2*f=t+2*b by omega];exact hN2
    ·refine⟨[some (.val (.int N)),some (.val (.int t)),some (.val (.int f))],by generalize (t+b)*(t+b)=z at *;simp[q1,q2,hc],⟨t,f,rfl,⟨t0,t1,t2⟩,?_⟩,by show f.toNat<b.toNat;omega⟩
     rcases hf with⟨_,h1,h2⟩|⟨m',h1,h2⟩
     ·right
      refine⟨h2,?_⟩
      rw[h1]at hc;omega
     ·left
      refine⟨m',h1,by omega,?_⟩
      rw[show t+2*f=t+b by omega];omega
   ·exact .inl (by simp)) [some (.val (.int N)),some (.val (.int 0)),some (.val (.int ((2^m:Nat):Int)))] ⟨0,_,rfl,⟨by omega,h0,by omega⟩,.inl ⟨m,rfl,hI,by
    have hp':0<((2^m:Nat):Int):=Int.natCast_pos.mpr hb1
    generalize ((2^m:Nat):Int)=b at *
    have e1:(0+2*b)*(0+2*b)=4*(b*b):=by grind
    have:=Int.mul_nonneg (show 0≤b by omega) (show 0≤b by omega)
    omega⟩⟩
 have hr:t=aaC N:=by
  obtain⟨⟨t0,t1,t2⟩,hJ⟩:=hJ
  have hb0:¬0<b:=by
   intro hp
   simp[hp]at hout2
  rcases hJ with⟨m,hm,_⟩|⟨_,hN2⟩
  ·have hp:0<(2^m:Nat):=Nat.two_pow_pos m
   omega
  ·exact(abS t0 t2 hN2 h0).symm
 refine(aae (σ1:=[some (.val (.int N)),some (.val (.int 0)),none]) (s1:=s) (by simp)).trans ?_
 refine(aae (σ1:=[some (.val (.int N)),some (.val (.int 0)),some (.val (.int 1))]) (s1:=s) (by simp)).trans ?_
 refine(aae ((aev hw).trans e)).trans ?_
 refine(aae ((aev hw).trans e')).trans ?_
 rw[hr]
 simp
theorem akk{N:Int}(h0:0≤N)(hN:N<2^60):run true fns aar aai (k+1) 33 [.val (.int N)] s=.ok (.val (.int (aaC N))) s:=
 (aan (F:=avh) rfl rfl).trans (congrArg (abm true false) (ahU (C:=cfX fns aar k) rfl h0 hN))
theorem ajB(hl:∀p∈l,sml p)(h0:0<l.length)(hn:l.length≤1000):run true fns aar aai (k+1) 34 [LN l] s=.ok (.val (.int (dsum l l.length))) s:=by
 rw[aan (F:=asC) rfl rfl]
 obtain⟨σ',e,c2,c3,c4,rfl⟩:=abj (g:=.one 2) (body:=fun σ s=>exs (cfX fns aar k) agQ σ s) (s:=s) (fun m σ=>∃c2 c3 c4,σ=[some (.val (.lst (l.map pt))),some (.val (.int (dsum l m))),c2,c3,c4]) (aax 0 l.length) 0 [some (.val (.lst (l.map pt))),some (.val (.int 0)),none,none,none] ⟨_,_,_,rfl⟩ (by
   rintro m t σ hm ⟨c2,c3,c4,rfl⟩
   obtain⟨rfl,hlt⟩:=aaG hm
   have hlt:m<l.length:=by omega
   have hg:=aba (aaT (l:=l) h0 m)
   rw[Nat.mod_eq_of_lt hlt]at hg
   have hp:=ac9 hlt
   have sp:=aa2 hl (m+l.length-1)
   have m1:=aao (i:=(cor l (m+l.length-1)).1) (j:=(cor l m).2) (aah (by have:=sp.1;omega))
   have m2:=aao (i:=(cor l (m+l.length-1)).2) (j:=(cor l m).1) (aah (by have:=sp.2;omega))
   refine⟨[some (.val (.lst (l.map pt))),some (.val (.int (dsum l m))),some (.val (.int m)),c3,c4],[some (.val (.lst (l.map pt))),some (.val (.int (dsum l (m+1)))),some (.val (.int m)),some (.val (pt (cor l (m+l.length-1)))),some (.val (pt (cor l m)))],?_,?_,_,_,_,by rw[Nat.zero_add]⟩
   ·simp[aav]
   ·simp[hp,hg,m1,m2,dsum])
 rw[aaF,show((l.length:Int)-0).toNat=l.length by omega,Nat.zero_add]at e
 have hx:exs (cfX fns aar k) apo (aaR asC [LN l]) s=.ret (.val (.int (dsum l l.length))) s:=by
  refine(aae (σ1:=[some (.val (.lst (l.map pt))),some (.val (.int 0)),none,none,none]) (s1:=s) (by simp)).trans ?_
  refine(aae ((aci (ts:=aax 0 l.length) (s1:=s) (abM (n:=l.length) (by simp) hn) (by intro _ h;cases h)).trans e)).trans ?_
  simp
 rw[hx]
 rfl
theorem afT{q:Int×Int}(h:0<q.2)(hc:Nat.gcd q.1.natAbs q.2.natAbs=1):run true fns aar aai (k+2) 35 [PT q] s=.ok (.val (.bl true)) s:=by
 rw[aan (F:=Fz6) rfl rfl]
 have w1:=ag0 (k:=k) (s:=s) q.1
 have w2:=ag0 (k:=k) (s:=s) q.2
 have g:=ajz (k:=k) (s:=s) q.1 q.2
 have e:gdZ q.1 q.2=1:=by unfold gdZ;omega
 rw[e]at g
 have t1:adQ aar (.val (pt q)) .tuple=some true:=rfl
 have t2:b1R .len (.val (pt q))=some (.val (.int 2)):=rfl
 have t1':adQ (cfX fns aar (k+1)).sub (.val (pt q)) .tuple=some true:=rfl
 simp[bz6,t1,t1',t2,w1,w2,g,show ¬q.2<1 by omega]
end Pg
end IP
end
section
namespace IP
namespace Pg
open L2 M3
variable{k:Nat}{s:Sto}{l:List (Int×Int)}
theorem acg{i j:Int}(hi:i.natAbs<2^400)(hj:j.natAbs<2^400):ahG i j=true:=by
 have h1:=Nat.lt_trans hi aeM
 have h2:=Nat.lt_trans hj aeM
 unfold ahG
 simp[h1,h2]
theorem ae6{i:Nat}(hi:i<l.length):abE (LN l) (i:Int)=some (pt (cor l i)):=by
 have h:=aba (aaT (l:=l) (by omega) i)
 rw[Nat.mod_eq_of_lt hi]at h
 exact h
theorem af0{i:Nat}(hi:i<l.length):abE (LN l) (((i+1) % l.length:Nat):Int)=some (pt (cor l (i+1))):=aba (aaT (l:=l) (by omega) (i+1))
theorem aj2(lw:Bool)(v:Int×Int):nN (ovL lw v)=nN v:=by
 unfold nN ovL
 cases lw
 ·simp only[Bool.false_eq_true,if_false];grind
 ·simp only[if_true];grind
noncomputable def smX(X:Int×Int):Prop:=X.1.natAbs≤2^210∧X.2.natAbs≤2^92
noncomputable abbrev iV(i:Int):Option B:=some (.val (.int i))
noncomputable abbrev g32(l:List (Int×Int))(i j:Nat)(X Y:Int×Int)(b:Int)(v5 v6 v7 v8 v9 v10 v11 v12 v13 v14 v15 v16 v17:Option B):Fr:=[some (.val (.lst (l.map pt))),iV i,iV j,some (.val (fT2 X Y)),iV b,v5,v6,v7,v8,v9,v10,v11,v12,v13,v14,v15,v16,v17]
@[simp] theorem ats (p:Int×Int):(R.val (pt p)).tup?=some [.int p.1,.int p.2]:=rfl
noncomputable def onH(c v X Y:Int×Int)(b:Int):Prop:=(v.1*((X.1-c.1*X.2)*Y.2)+v.2*((Y.1-c.2*Y.2)*X.2))*rN v=1000*b*nN v*X.2*Y.2
theorem adF{c:Int}{X Y:Int×Int}(hc:c.natAbs≤2^20)(hX:smX X)(hY:smX Y):(X.1-c*X.2).natAbs<2^400:=by
 have h1:=aaj hc hX.2
 have h2:=hX.1
 generalize c*X.2=z at *
 omega
theorem afZ{C:Cf}(F:Fine l){i j:Nat}(hi:i<l.length)(hj:j<l.length){X Y:Int×Int}{b:Int}(hb:0≤b∧b≤1000)(hX:smX X)(hY:smX Y)
  (h25:∀a b:Int,C.cf 25 [.val (.int a),.val (.int b)] s=.ok (.val (.int (gdZ a b))) s) (h29:∀N:Int,0≤N→N<2^60→C.cf 33 [.val (.int N)] s=.ok (.val (.int (aaC N))) s)
  (h30:C.cf 34 [LN l] s=.ok (.val (.int (dsum l l.length))) s) (heq:onH (cor l i) (ov l j) X Y b):
  exs C aqw (g32 l i j X Y b none none none none none none none none none none none none none) s=.ret (.val (.bl true)) s:=by
 have c1:=ae6 hj
 have c2:=af0 hj
 have c3:=ae6 hi
 have md:=abV j l.length (by omega)
 have e25:=h25 (dv l j).1 (dv l j).2
 have eg:gdZ (dv l j).1 (dv l j).2=gv l j:=rfl
 rw[eg]at e25
 have q1:=abB (i:=(dv l j).1) (j:=gv l j) (F.gv0 j) (F.gvs j)
 have q2:=abB (i:=(dv l j).2) (j:=gv l j) (F.gv0 j) (F.gvs j)
 have ep:Int.fdiv (dv l j).1 (gv l j)=(pq l j).1:=rfl
 have eq':Int.fdiv (dv l j).2 (gv l j)=(pq l j).2:=rfl
 rw[ep]at q1
 rw[eq']at q2
 have hv:=F.vpq j
 have nb:=aiI hv
 have e29:=h29 (1000000*nN (pq l j)) (by omega) (by omega)
 have hr:aaC (1000000*nN (pq l j))=rN (pq l j):=rfl
 rw[hr]at e29
 have rb:=ac0 hv
 have m1:=aao (i:=(pq l j).1) (j:=(pq l j).1) (aah (by have:=hv.1;omega))
 have m2:=aao (i:=(pq l j).2) (j:=(pq l j).2) (aah (by have:=hv.1;omega))
 have en:(pq l j).1*(pq l j).1+(pq l j).2*(pq l j).2=nN (pq l j):=rfl
 have sc:=aa2 F.sml i
 have x1:=adF sc.1 hX hY
 have x2:=adF sc.2 hY hX
 have m3:=aao (i:=(cor l i).1) (j:=X.2) (aah (by have:=sc.1;omega))
 have m4:=aao (i:=(cor l i).2) (j:=Y.2) (aah (by have:=sc.2;omega))
 have m5:=aao (i:=X.1-(cor l i).1*X.2) (j:=Y.2) (acg x1 (by have:=hY.2;omega))
 have m6:=aao (i:=Y.1-(cor l i).2*Y.2) (j:=X.2) (acg x2 (by have:=hX.2;omega))
 have m7:=aao (i:=(pq l j).2) (j:=(X.1-(cor l i).1*X.2)*Y.2) (aah (by have:=hv.1;omega))
 have m8:=aao (i:=(pq l j).1) (j:=(Y.1-(cor l i).2*Y.2)*X.2) (aah (by have:=hv.1;omega))
 have m9:∀z:Int,opR .mul (.val (.int z)) (.val (.int (rN (pq l j))))=some (.val (.int (z*rN (pq l j)))):=fun z=>aao (ab5 (by omega))
 have m10:=aao (i:=1000000) (j:=nN (pq l j)) (aah (by decide))
 have m11:=aao (i:=1000) (j:=b) (aah (by decide))
 have m12:=aao (i:=1000*b) (j:=nN (pq l j)) (aah (by omega))
 have b12:=aaj (a:=1000*b) (b:=nN (pq l j)) (m:=2^20) (n:=2^35) (by omega) (by omega)
 have m13:=aao (i:=1000*b*nN (pq l j)) (j:=X.2) (aah (by omega))
 have b13:=aaj (a:=1000*b*nN (pq l j)) (b:=X.2) (m:=2^20*2^35) (n:=2^92) b12 hX.2
 have m14:=aao (i:=1000*b*nN (pq l j)*X.2) (j:=Y.2) (acg (by omega) (by have:=hY.2;omega))
 have hd:=F.nc.dsum rfl
 have hout:(if dsum l l.length<0 then 0-((pq l j).2*((X.1-(cor l i).1*X.2)*Y.2)-(pq l j).1*((Y.1-(cor l i).2*Y.2)*X.2))else(pq l j).2*((X.1-(cor l i).1*X.2)*Y.2)-(pq l j).1*((Y.1-(cor l i).2*Y.2)*X.2))*rN (pq l j)=1000*b*nN (pq l j)*X.2*Y.2:=by
  unfold onH at heq
  have r1:rN (ov l j)=rN (pq l j):=by unfold rN ov;rw[aj2]
  have r2:nN (ov l j)=nN (pq l j):=by unfold ov;rw[aj2]
  rw[r1,r2]at heq
  rw[←heq]
  congr 1
  unfold ov ovL lwB
  by_cases hn:dsum l l.length<0
  ·rw[if_pos hn,decide_eq_false (by omega)]
   simp only[Bool.false_eq_true,if_false]
   generalize (X.1-(cor l i).1*X.2)*Y.2=A
   generalize (Y.1-(cor l i).2*Y.2)*X.2=U
   grind
  ·rw[if_neg hn,decide_eq_true (by omega)]
   simp only[if_true]
   generalize (X.1-(cor l i).1*X.2)*Y.2=A
   generalize (Y.1-(cor l i).2*Y.2)*X.2=U
   grind
 have d1:(cor l (j+1)).1-(cor l j).1=(dv l j).1:=rfl
 have d2:(cor l (j+1)).2-(cor l j).2=(dv l j).2:=rfl
 clear heq F nb rb b12 b13 x1 x2 sc h25 h29 hX hY hv hi hj eg ep eq' hr
 generalize ((j+1) % l.length:Nat)=jn at *
 generalize cor l j=cj at *
 generalize cor l (j+1)=cj1 at *
 generalize cor l i=ci at *
 generalize dv l j=D at *
 generalize gv l j=g at *
 generalize pq l j=P at *
 generalize nN P=n at *
 generalize rN P=r at *
 generalize 1000000*n=n6 at *
 generalize 1000*b*n*X.2*Y.2=z14 at *
 generalize 1000*b*n*X.2=z13 at *
 generalize 1000*b*n=z12 at *
 generalize 1000*b=z11 at *
 generalize P.2*((X.1-ci.1*X.2)*Y.2)=z7 at *
 generalize P.1*((Y.1-ci.2*Y.2)*X.2)=z8 at *
 generalize (X.1-ci.1*X.2)*Y.2=z5 at *
 generalize (Y.1-ci.2*Y.2)*X.2=z6 at *
 generalize ci.1*X.2=z3 at *
 generalize ci.2*Y.2=z4 at *
 generalize P.1*P.1=z1 at *
 generalize P.2*P.2=z2 at *
 refine(aae (σ1:=g32 l i j X Y b (some (.val (pt cj))) none none none none none none none none none none none none) (s1:=s) (by simp[c1])).trans ?_
 refine(aae (σ1:=g32 l i j X Y b (some (.val (pt cj))) (some (.val (pt cj1))) none none none none none none none none none none none) (s1:=s) (by simp[md,c2])).trans ?_
 refine(aae (σ1:=g32 l i j X Y b (some (.val (pt cj))) (some (.val (pt cj1))) (iV g) none none none none none none none none none none) (s1:=s) (by simp[d1,d2,e25])).trans ?_
 refine(aae (σ1:=g32 l i j X Y b (some (.val (pt cj))) (some (.val (pt cj1))) (iV g) (iV P.1) none none none none none none none none none) (s1:=s) (by simp[d1,q1])).trans ?_
 refine(aae (σ1:=g32 l i j X Y b (some (.val (pt cj))) (some (.val (pt cj1))) (iV g) (iV P.1) (iV P.2) none none none none none none none none) (s1:=s) (by simp[d2,q2])).trans ?_
 refine(aae (σ1:=g32 l i j X Y b (some (.val (pt cj))) (some (.val (pt cj1))) (iV g) (iV P.1) (iV P.2) (iV n) none none none none none none none) (s1:=s) (by simp[m1,m2,en])).trans ?_
 refine(aae (σ1:=g32 l i j X Y b (some (.val (pt cj))) (some (.val (pt cj1))) (iV g) (iV P.1) (iV P.2) (iV n) (iV X.1) (iV X.2) none none none none none) (s1:=s) (by simp[puts])).trans ?_
 refine(aae (σ1:=g32 l i j X Y b (some (.val (pt cj))) (some (.val (pt cj1))) (iV g) (iV P.1) (iV P.2) (iV n) (iV X.1) (iV X.2) (iV Y.1) (iV Y.2) none none none) (s1:=s) (by simp[puts])).trans ?_
 refine(aae (σ1:=g32 l i j X Y b (some (.val (pt cj))) (some (.val (pt cj1))) (iV g) (iV P.1) (iV P.2) (iV n) (iV X.1) (iV X.2) (iV Y.1) (iV Y.2) (iV z5) none none) (s1:=s) (by simp[c3,m3,m5])).trans ?_
 refine(aae (σ1:=g32 l i j X Y b (some (.val (pt cj))) (some (.val (pt cj1))) (iV g) (iV P.1) (iV P.2) (iV n) (iV X.1) (iV X.2) (iV Y.1) (iV Y.2) (iV z5) (iV z6) none) (s1:=s) (by simp[c3,m4,m6])).trans ?_
 refine(aae (σ1:=g32 l i j X Y b (some (.val (pt cj))) (some (.val (pt cj1))) (iV g) (iV P.1) (iV P.2) (iV n) (iV X.1) (iV X.2) (iV Y.1) (iV Y.2) (iV z5) (iV z6) (iV (z7-z8))) (s1:=s) (by simp[m7,m8])).trans ?_
 refine(aae (σ1:=g32 l i j X Y b (some (.val (pt cj))) (some (.val (pt cj1))) (iV g) (iV P.1) (iV P.2) (iV n) (iV X.1) (iV X.2) (iV Y.1) (iV Y.2) (iV z5) (iV z6) (iV (if dsum l l.length<0 then 0-(z7-z8)else z7-z8))) (s1:=s) (by
  by_cases hn:dsum l l.length<0
  ·simp[h30,hn]
  ·simp[h30,hn])).trans ?_
 generalize (if dsum l l.length<0 then 0-(z7-z8)else z7-z8)=out at *
 have m9':=m9 out
 rw[hout]at m9'
 simp[m10,e29,m9',m11,m12,m13,m14]
noncomputable abbrev g33(l:List (Int×Int))(i:Nat)(X Y:Int×Int)(v3 v4 v5 v6 v7 v8 v9 v10 v11 v12:Option B):Fr:=[some (.val (.lst (l.map pt))),iV i,some (.val (fT2 X Y)),v3,v4,v5,v6,v7,v8,v9,v10,v11,v12]
noncomputable def stH(c v X Y:Int×Int):Prop:=(X.1-c.1*X.2)*Y.2*v.2-(Y.1-c.2*Y.2)*X.2*v.1=0
theorem Fine.bent(F:Fine l)(i:Nat)(h:(dv l i).1*(dv l (i+1)).2-(dv l i).2*(dv l (i+1)).1=0):aaK (ov l i) (ov l (i+1))=0:=by
 obtain⟨a1,a2,a3⟩:=F.pqs i
 obtain⟨b1,b2,b3⟩:=F.pqs (i+1)
 have g1:=F.gv0 i
 have g2:=F.gv0 (i+1)
 unfold ov
 rw[agB F]
 rw[a1,a2,b1,b2]at h
 unfold aaK
 have e:gv l i*gv l (i+1)*((pq l i).1*(pq l (i+1)).2-(pq l i).2*(pq l (i+1)).1)=0:=by
  generalize pq l i=p at *
  generalize pq l (i+1)=q at *
  grind
 have gg:=Int.mul_pos g1 g2
 rcases Int.mul_eq_zero.mp e with z|z
 ·omega
 ·exact z
theorem adX{C:Cf}(F:Fine l){i:Nat}(hi:i<l.length){X Y:Int×Int}(hX:smX X)(hY:smX Y)(hst:aaK (ov l (i+l.length-1)) (ov l i)=0→stH (cor l i) (ov l i) X Y):
  exs C arU (g33 l i X Y none none none none none none none none none none) s=.ret (.val (.bl true)) s:=by
 have n3:=F.nc.n3
 have c1:=ac9 hi
 have c2:=ae6 hi
 have c3:=af0 hi
 have md:=abV i l.length (by omega)
 have e0:cor l (i+l.length-1+1)=cor l i:=by rw[show i+l.length-1+1=i+l.length by omega];exact F.nc.per i
 have eo:ov l (i+l.length-1+1)=ov l i:=by rw[show i+l.length-1+1=i+l.length by omega,ajo]
 have d1:(cor l i).1-(cor l (i+l.length-1)).1=(dv l (i+l.length-1)).1:=by unfold dv;rw[e0]
 have d2:(cor l i).2-(cor l (i+l.length-1)).2=(dv l (i+l.length-1)).2:=by unfold dv;rw[e0]
 have d3:(cor l (i+1)).1-(cor l i).1=(dv l i).1:=rfl
 have d4:(cor l (i+1)).2-(cor l i).2=(dv l i).2:=rfl
 have s1:=F.dvs (i+l.length-1)
 have s2:=F.dvs i
 have m1:=aao (i:=(dv l (i+l.length-1)).1) (j:=(dv l i).2) (aah (by omega))
 have m2:=aao (i:=(dv l (i+l.length-1)).2) (j:=(dv l i).1) (aah (by omega))
 have sc:=aa2 F.sml i
 have x1:=adF sc.1 hX hY
 have x2:=adF sc.2 hY hX
 have m3:=aao (i:=(cor l i).1) (j:=X.2) (aah (by have:=sc.1;omega))
 have m4:=aao (i:=(cor l i).2) (j:=Y.2) (aah (by have:=sc.2;omega))
 have m5:=aao (i:=X.1-(cor l i).1*X.2) (j:=Y.2) (acg x1 (by have:=hY.2;omega))
 have m6:=aao (i:=Y.1-(cor l i).2*Y.2) (j:=X.2) (acg x2 (by have:=hX.2;omega))
 have m7:=aao (i:=(X.1-(cor l i).1*X.2)*Y.2) (j:=(dv l i).1) (ab5 (by omega))
 have m8:=aao (i:=(Y.1-(cor l i).2*Y.2)*X.2) (j:=(dv l i).2) (ab5 (by omega))
 have hsum:(dv l (i+l.length-1)).1*(dv l i).2-(dv l (i+l.length-1)).2*(dv l i).1=0→(X.1-(cor l i).1*X.2)*Y.2*(dv l i).1+(Y.1-(cor l i).2*Y.2)*X.2*(dv l i).2=0:=fun h=>by
  have hb:=F.bent (i+l.length-1) (by
   have:dv l (i+l.length-1+1)=dv l i:=by
    unfold dv
    rw[e0,show i+l.length-1+1+1=i+1+l.length by omega,F.nc.per]
   rw[this];exact h)
  rw[eo]at hb
  have hs:=hst hb
  unfold stH ov ovL at hs
  obtain⟨a1,a2,_⟩:=F.pqs i
  rw[a1,a2]
  generalize (X.1-(cor l i).1*X.2)*Y.2=A at *
  generalize (Y.1-(cor l i).2*Y.2)*X.2=U at *
  generalize pq l i=P at *
  generalize gv l i=g at *
  cases hl:lwB l
  ·rw[hl]at hs
   simp only[Bool.false_eq_true,if_false]at hs
   clear hst m1 m2 m5 m6 m7 m8
   grind
  ·rw[hl]at hs
   simp only[if_true]at hs
   clear hst m1 m2 m5 m6 m7 m8
   grind
 clear hst F s1 s2 x1 x2 sc hX hY hi e0 eo n3
 generalize ((i+1) % l.length:Nat)=jn at *
 generalize cor l (i+l.length-1)=cp at *
 generalize cor l (i+1)=cn at *
 generalize cor l i=ci at *
 generalize dv l (i+l.length-1)=Dp at *
 generalize dv l i=D at *
 generalize (X.1-ci.1*X.2)*Y.2*D.1=z7 at *
 generalize (Y.1-ci.2*Y.2)*X.2*D.2=z8 at *
 generalize (X.1-ci.1*X.2)*Y.2=z5 at *
 generalize (Y.1-ci.2*Y.2)*X.2=z6 at *
 generalize ci.1*X.2=z3 at *
 generalize ci.2*Y.2=z4 at *
 generalize Dp.1*D.2=z1 at *
 generalize Dp.2*D.1=z2 at *
 refine(aae (σ1:=g33 l i X Y (some (.val (pt cp))) none none none none none none none none none) (s1:=s) (by simp[c1])).trans ?_
 refine(aae (σ1:=g33 l i X Y (some (.val (pt cp))) (some (.val (pt ci))) none none none none none none none none) (s1:=s) (by simp[c2])).trans ?_
 refine(aae (σ1:=g33 l i X Y (some (.val (pt cp))) (some (.val (pt ci))) (some (.val (pt cn))) none none none none none none none) (s1:=s) (by simp[md,c3])).trans ?_
 refine(aae (σ1:=g33 l i X Y (some (.val (pt cp))) (some (.val (pt ci))) (some (.val (pt cn))) (iV z1) none none none none none none) (s1:=s) (by simp[d1,d4,m1])).trans ?_
 refine(aae (σ1:=g33 l i X Y (some (.val (pt cp))) (some (.val (pt ci))) (some (.val (pt cn))) (iV (z1-z2)) none none none none none none) (s1:=s) (by simp[d2,d3,m2])).trans ?_
 by_cases hz:z1-z2=0
 ·have hs:=hsum hz
  refine(aae (σ1:=g33 l i X Y (some (.val (pt cp))) (some (.val (pt ci))) (some (.val (pt cn))) (iV (z1-z2)) none none none none none none) (s1:=s) (by simp[hz])).trans ?_
  refine(aae (σ1:=g33 l i X Y (some (.val (pt cp))) (some (.val (pt ci))) (some (.val (pt cn))) (iV (z1-z2)) (iV X.1) (iV X.2) none none none none) (s1:=s) (by simp[puts])).trans ?_
  refine(aae (σ1:=g33 l i X Y (some (.val (pt cp))) (some (.val (pt ci))) (some (.val (pt cn))) (iV (z1-z2)) (iV X.1) (iV X.2) (iV Y.1) (iV Y.2) none none) (s1:=s) (by simp[puts])).trans ?_
  refine(aae (σ1:=g33 l i X Y (some (.val (pt cp))) (some (.val (pt ci))) (some (.val (pt cn))) (iV (z1-z2)) (iV X.1) (iV X.2) (iV Y.1) (iV Y.2) (iV z7) none) (s1:=s) (by simp[m3,m5,d3,m7])).trans ?_
  refine(aae (σ1:=g33 l i X Y (some (.val (pt cp))) (some (.val (pt ci))) (some (.val (pt cn))) (iV (z1-z2)) (iV X.1) (iV X.2) (iV Y.1) (iV Y.2) (iV z7) (iV z8)) (s1:=s) (by simp[m4,m6,d4,m8])).trans ?_
  simp[hs]
 ·refine abO ?_
  simp[hz]
end Pg
end IP
end
section
namespace IP
namespace Pg
open L2 M3
variable{k:Nat}{s:Sto}{l:List (Int×Int)}
theorem aiQ{i n:Nat}(hi:i<n):opR .mod (.val (.int ((i:Int)-1))) (.val (.int (n:Int)))=some (.val (.int (((i+n-1) % n:Nat):Int))):=by
 rw[aaA (by omega)]
 have e:Int.fmod ((i:Int)-1) (n:Int)=(((i+n-1) % n:Nat):Int):=by
  rw[←abW,show(((i+n-1:Nat)):Int)=((i:Int)-1)+(n:Int)by omega,Int.fmod_eq_emod_of_nonneg _ (by omega),Int.fmod_eq_emod_of_nonneg _ (by omega),Int.add_emod_right]
 rw[e]
structure HasL(C:Cf)(l:List (Int×Int))(b:Int)(s:Sto):Prop where
 h31:∀q:Int×Int,0<q.2→Nat.gcd q.1.natAbs q.2.natAbs=1→C.cf 35 [PT q] s=.ok (.val (.bl true)) s
 h32:∀(i j:Nat) (X Y:Int×Int),i<l.length→j<l.length→smX X→smX Y→onH (cor l i) (ov l j) X Y b→C.cf 36 [LN l,.val (.int i),.val (.int j),.val (fT2 X Y),.val (.int b)] s=.ok (.val (.bl true)) s
 h33:∀(i:Nat) (X Y:Int×Int),i<l.length→smX X→smX Y→(aaK (ov l (i+l.length-1)) (ov l i)=0→stH (cor l i) (ov l i) X Y)→C.cf 37 [LN l,.val (.int i),.val (fT2 X Y)] s=.ok (.val (.bl true)) s
theorem avi(k:Nat)(F:Fine l){b:Int}(hb:0≤b∧b≤1000):HasL (cfX fns aar (k+3)) l b s where
 h31:=fun q h1 h2=>abv (afT (k:=k+1) h1 h2) rfl
 h32:=fun i j X Y hi hj hX hY ho=>by
  have n3:=F.nc.n3
  have e:=afZ (C:=cfX fns aar (k+2)) (s:=s) F hi hj hb hX hY (fun a b=>abv (ajz (k:=k+1) a b) rfl) (fun N h0 h1=>abv (akk (k:=k+1) h0 h1) rfl) (abv (ajB (k:=k+1) F.sml (by omega) F.n1000) rfl) ho
  exact abv ((aan (F:=auD) rfl rfl).trans (congrArg (abm true false) e)) rfl
 h33:=fun i X Y hi hX hY hs=>by
  have e:=adX (C:=cfX fns aar (k+2)) (s:=s) F hi hX hY hs
  exact abv ((aan (F:=auL) rfl rfl).trans (congrArg (abm true false) e)) rfl
noncomputable abbrev g34(l:List (Int×Int))(D:List T)(b:Int)(v3 v4:Option B):Fr:=[some (.val (.lst (l.map pt))),some (.val (.lst D)),iV b,v3,v4]
@[simp] theorem asR (sub:Nat→Nat→Bool) (p:Int×Int):adQ sub (.val (pt p)) .tuple=some true:=rfl
theorem ahK{C:Cf}{b:Int}(hC:HasL C l b s)(hn:l.length≤1000){d:Nat→T}(hd:∀i,i<l.length→∃X Y,d i=fT2 X Y∧CoOk (cor l i) (ov l (i+l.length-1)) (ov l i) b X Y):
  exs C bz8 (g34 l ((List.range l.length).map d) b none none) s=.ret (.val (.bl true)) s:=by
 have hlen:((List.range l.length).map d).length=l.length:=by simp
 obtain⟨σ',e,c3,c4,rfl⟩:=abj (g:=.one 3) (body:=fun σ s=>exs C aj0 σ s) (s:=s) (fun _ σ=>∃c3 c4,σ=g34 l ((List.range l.length).map d) b c3 c4) (aax 0 l.length) 0 _ ⟨none,none,rfl⟩ (by
  rintro i t σ hi' ⟨c3,c4,rfl⟩
  obtain⟨rfl,hlt⟩:=aaG hi'
  have hi:i<l.length:=by omega
  rw[Int.zero_add]
  obtain⟨X,Y,ed,K⟩:=hd i hi
  have g1:abE (.val (.lst ((List.range l.length).map d))) (i:Int)=some (fT2 X Y):=by rw[←ed];exact aba (by simp[hi])
  have f1:=hC.h31 X K.p1 K.c1
  have f2:=hC.h31 Y K.p2 K.c2
  have mp:=aiQ hi
  have o1:=hC.h32 i ((i+l.length-1) % l.length) X Y hi (Nat.mod_lt _ (by omega)) K.s1 K.s2 (by rw[af1];exact K.o1)
  have o2:=hC.h32 i i X Y hi hi K.s1 K.s2 K.o2
  have o3:=hC.h33 i X Y hi K.s1 K.s2 K.st
  clear K hd ed
  refine⟨g34 l ((List.range l.length).map d) b (iV i) c4,g34 l ((List.range l.length).map d) b (iV i) (iV (((i+l.length-1) % l.length:Nat):Int)),rfl,?_,_,_,rfl⟩
  clear hlen
  generalize (List.range l.length).map d=D at *
  generalize ((i+l.length-1) % l.length:Nat)=ip at *
  refine(aae (σ1:=g34 l D b (iV i) c4) (s1:=s) (by simp[g1])).trans ?_
  refine(aae (σ1:=g34 l D b (iV i) c4) (s1:=s) (by simp[g1,f1,f2])).trans ?_
  refine(aae (σ1:=g34 l D b (iV i) (iV ip)) (s1:=s) (by simp[mp])).trans ?_
  refine(aae (σ1:=g34 l D b (iV i) (iV ip)) (s1:=s) (by simp[g1,o1])).trans ?_
  refine(aae (σ1:=g34 l D b (iV i) (iV ip)) (s1:=s) (by simp[g1,o2])).trans ?_
  refine(aae (σ1:=g34 l D b (iV i) (iV ip)) (s1:=s) (by simp[g1,o3])).trans ?_
  simp)
 generalize (List.range l.length).map d=D at *
 refine(aae (σ1:=g34 l D b none none) (s1:=s) (by simp[hlen])).trans ?_
 refine(aae ((aci (ts:=aax 0 l.length) (s1:=s) (abM (n:=l.length) (by simp) hn) (by intro _ h;cases h)).trans e)).trans ?_
 simp
theorem anF(F:Fine l){b:Int}(hb:0≤b∧b≤1000):run true fns aar aai (k+4) 38 [LN l,.val (.lst ((List.range l.length).map fun i=>ajj (cor l i) (ov l (i+l.length-1)) (ov l i) b)),.val (.int b)] s=.ok (.val (.bl true)) s:=
 (aan (F:=Fz8) rfl rfl).trans (congrArg (abm true false) (ahK (avi k F hb) F.n1000 fun i _=>F.corner hb i))
end Pg
end IP
end
section
namespace IP
namespace Pg
open L2
variable{k:Nat}{s:Sto}{l:List (Int×Int)}{row:List Int}
noncomputable abbrev lV(l:List (Int×Int)):Option B:=some (.val (.lst (l.map pt)))
theorem aj3(x:Int){n:Nat}(h:0<n):∃i:Nat,i<n∧Int.fmod x (n:Int)=(i:Int)∧opR .mod (.val (.int x)) (.val (.int (n:Int)))=some (.val (.int (i:Int))):=by
 have e:=aaA (i:=x) (j:=(n:Int)) (by omega)
 have p:=aa8 x (j:=(n:Int)) (by omega)
 obtain⟨i,hi⟩:∃i:Nat,Int.fmod x (n:Int)=(i:Int):=⟨(Int.fmod x (n:Int)).toNat,by omega⟩
 rw[hi]at e p
 exact⟨i,by omega,hi,e⟩
theorem amv{z:Int}(h:0≤z∧z<4):∃a b:Int,(1≤a∧a≤60001)∧(0≤b∧b≤30000)∧abE (.val (.lst [.int 2,.int 3,.int 5,.int 60001])) z=some (.int a)∧abE (.val (.lst [.int 0,.int 0,.int 0,.int 30000])) z=some (.int b)∧(a-1-b≤30000):=by
 have:z=0∨z=1∨z=2∨z=3:=by omega
 rcases this with rfl|rfl|rfl|rfl
 ·exact⟨2,0,by decide,by decide,rfl,rfl,by decide⟩
 ·exact⟨3,0,by decide,by decide,rfl,rfl,by decide⟩
 ·exact⟨5,0,by decide,by decide,rfl,rfl,by decide⟩
 ·exact⟨60001,30000,by decide,by decide,rfl,rfl,by decide⟩
structure HasR(C:Cf)(row:List Int)(s:Sto):Prop where
 simple:∀n,3≤n→n≤24→∃l:List (Int×Int),l.length=n∧(∀p∈l,ajS 10000 901 p)∧C.cf 27 [.val (.lst (iL row)),.val (.int (n:Nat))] s=.ok (LN l) s
 swung:∀(l:List (Int×Int)) (c:Int),(∀p∈l,ajS 10000 901 p)→0<l.length→l.length≤500→∃l':List (Int×Int),l'.length=l.length∧(∀q∈l',smn 11802 q)∧C.cf 28 [LN l,.val (.int c)] s=.ok (LN l') s
 fr:C.fr 28=true
noncomputable abbrev g39(row:List Int)(v1 v2 v3 v4 v5:Option B):Fr:=[some (.val (.lst (iL row))),v1,v2,v3,v4,v5,none]
theorem ai8{C:Cf}(hC:HasR C row s)(hr:∀v∈row,aaS v)(hl:row.length=58):∃l:List (Int×Int),(3≤l.length∧l.length≤24)∧(∀p∈l,smn 30000 p)∧exs C bz9 (g39 row none none none none none) s=.ret (LN l) s:=by
 obtain⟨v1,_,r1,_⟩:=abl hr (m:=1) (by omega)
 obtain⟨v52,_,r52,_⟩:=abl hr (m:=52) (by omega)
 obtain⟨v54,_,r54,_⟩:=abl hr (m:=54) (by omega)
 obtain⟨v55,_,r55,_⟩:=abl hr (m:=55) (by omega)
 obtain⟨v56,_,r56,_⟩:=abl hr (m:=56) (by omega)
 obtain⟨v57,_,r57,_⟩:=abl hr (m:=57) (by omega)
 have r1:abE (.val (.lst (iL row))) 1=some (.int v1):=r1
 have r52:abE (.val (.lst (iL row))) 52=some (.int v52):=r52
 have r54:abE (.val (.lst (iL row))) 54=some (.int v54):=r54
 have r55:abE (.val (.lst (iL row))) 55=some (.int v55):=r55
 have r56:abE (.val (.lst (iL row))) 56=some (.int v56):=r56
 have r57:abE (.val (.lst (iL row))) 57=some (.int v57):=r57
 have m4:=aaA (i:=v57) (j:=4) (by decide)
 have b4:=aa8 v57 (j:=4) (by decide)
 have m21:=aaA (i:=v57) (j:=21) (by decide)
 have b21:=aa8 v57 (j:=21) (by decide)
 have m2:=aaA (i:=v56) (j:=2) (by decide)
 have d2:=abe (i:=v56) (j:=2) (by decide) (by decide)
 have m22:=aaA (i:=Int.fdiv v56 2) (j:=2) (by decide)
 have n4:=aaA (i:=v1) (j:=4) (by decide)
 have c4:=aa8 v1 (j:=4) (by decide)
 obtain⟨n,hn⟩:∃n:Nat,3+Int.fmod v57 4=(n:Int):=⟨(3+Int.fmod v57 4).toNat,by omega⟩
 obtain⟨n',hn'⟩:∃n:Nat,4+Int.fmod v57 21=(n:Int):=⟨(4+Int.fmod v57 21).toNat,by omega⟩
 generalize Int.fmod v57 4=z4 at *
 generalize Int.fmod v57 21=z21 at *
 generalize Int.fmod (Int.fdiv v56 2) 2=y2 at *
 generalize Int.fdiv v56 2=f2 at *
 generalize Int.fmod v56 2=z2 at *
 generalize Int.fmod v1 4=w4 at *
 by_cases h2:z2=0
 ·obtain⟨a,b,ha,hb,ea,eb,hab⟩:=amv c4
  obtain⟨xs,h1,h3,h4⟩:=acP (F:=fun t s=>onO (aav (g39 row (iV n) (iV a) (iV b) none none) (.one 6) t) fun σ'=>one (ev C afl .v σ' s)) (s:=s) pt (smn 30000) (aax 0 n) (fun m t hm=>by
   obtain⟨rfl,hlt⟩:=aaG hm
   obtain⟨x,_,f1,_⟩:=abl hr (m:=2+2*m) (by omega)
   obtain⟨y,_,g1,_⟩:=abl hr (m:=3+2*m) (by omega)
   rw[show((2+2*m:Nat):Int)=2+2*(m:Int)by omega]at f1
   rw[show((3+2*m:Nat):Int)=3+2*(m:Int)by omega]at g1
   have u:=aao (i:=2) (j:=(m:Int)) (aah (by decide))
   have p1:=aaA (i:=x) (j:=a) (by omega)
   have p2:=aaA (i:=y) (j:=a) (by omega)
   have q1:=aa8 x (j:=a) (by omega)
   have q2:=aa8 y (j:=a) (by omega)
   generalize Int.fmod x a=X at *
   generalize Int.fmod y a=Y at *
   refine⟨(X-b,Y-b),⟨by show(X-b).natAbs≤30000;omega,by show(Y-b).natAbs≤30000;omega⟩,?_⟩
   simp[aav,u,f1,g1,p1,p2,pt])
  refine⟨xs,by rw[h1,aaF];omega,h3,?_⟩
  refine(aae (σ1:=g39 row (iV n) none none none none) (s1:=s) (by simp[r57,m4,hn])).trans ?_
  refine abO ((af6 (s1:=s) (by simp[r56,m2,h2])).trans ?_)
  refine(aae (σ1:=g39 row (iV n) (iV a) none none none) (s1:=s) (by simp[r1,n4,ea])).trans ?_
  refine(aae (σ1:=g39 row (iV n) (iV a) (iV b) none none) (s1:=s) (by simp[r1,n4,eb])).trans ?_
  exact abO (aj4 (aeN (ts:=aax 0 n) (s1:=s) (afy (n:=n) (by simp) (by omega)) h4))
 ·obtain⟨l0,q1,q2,q3⟩:=hC.simple n' (by omega) (by omega)
  obtain⟨l1,p1,p2,p3⟩:=hC.swung l0 v52 q2 (by omega) (by omega)
  have big:∀p:Int×Int,smn 11802 p→smn 30000 p:=fun p h=>⟨Nat.le_trans h.1 (by decide),Nat.le_trans h.2 (by decide)⟩
  have head:∀r,exs C ((.asg 1 (.bin .add (.cst (.int 3)) (.bin .mod (.sub (.var 0) (.cst (.int 57))) (.cst (.int 4)))))::(.ifs (.cmp .eq (.bin .mod (.sub (.var 0) (.cst (.int 56))) (.cst (.int 2))) (.cst (.int 0))) [(.asg 2 (.sub (.lst [(.cst (.int 2)),(.cst (.int 3)),(.cst (.int 5)),(.cst (.int 60001))]) (.bin .mod (.sub (.var 0) (.cst (.int 1))) (.cst (.int 4))))),
 (.asg 3 (.sub (.lst [(.cst (.int 0)),(.cst (.int 0)),(.cst (.int 0)),(.cst (.int 30000))]) (.bin .mod (.sub (.var 0) (.cst (.int 1))) (.cst (.int 4))))),
 (.ret (.comp afl (.one 6) (.rng1 (.var 1))))] [])::(.asg 1 (.bin .add (.cst (.int 4)) (.bin .mod (.sub (.var 0) (.cst (.int 57))) (.cst (.int 21)))))::(.mk 4 (.call 28 [(.call 27 [(.var 0),(.var 1)] []),(.sub (.var 0) (.cst (.int 52)))] []))::r) (g39 row none none none none none) s=exs C r (g39 row (iV n') none none (some (.own (l1.map pt))) none) s:=fun r=>by
   refine(aae (σ1:=g39 row (iV n) none none none none) (s1:=s) (by simp[r57,m4,hn])).trans ?_
   refine(aae (σ1:=g39 row (iV n) none none none none) (s1:=s) (by simp[r56,m2,h2])).trans ?_
   refine(aae (σ1:=g39 row (iV n') none none none none) (s1:=s) (by simp[r57,m21,hn'])).trans ?_
   exact aae (σ1:=g39 row (iV n') none none (some (.own (l1.map pt))) none) (s1:=s) (by simp[acr,hC.fr,q3,r52,p3,aa9])
  by_cases hy:y2=0
  ·obtain⟨i,hi,_,mi⟩:=aj3 v55 (n:=n') (by omega)
   have mn:=aaA (i:=v54) (j:=(n':Int)-1) (by omega)
   have bn:=aa8 v54 (j:=(n':Int)-1) (by omega)
   obtain⟨j,hj,_,mj⟩:=aj3 ((i:Int)+1+Int.fmod v54 ((n':Int)-1)) (n:=n') (by omega)
   generalize Int.fmod v54 ((n':Int)-1)=t at *
   have hjl:j<l1.length:=by omega
   have gj:=akb (ts:=l1.map pt) (n:=j) (t:=pt l1[j]) (by simp[hjl])
   have hix:L2.ixN l1.length (i:Int)=some i:=by simp[L2.ixN];omega
   refine⟨l1.set i l1[j],by simp;omega,fun p hp=>?_,(head _).trans ?_⟩
   ·rcases List.mem_or_eq_of_mem_set hp with z|z
    ·exact big p (p2 p z)
    ·rw[z];exact big _ (p2 _ (List.getElem_mem _))
   ·generalize l1[j]=P at *
    refine(aae (σ1:=g39 row (iV n') none none (some (.own ((l1.set i P).map pt))) (iV i)) (s1:=s) ?_).trans ?_
    ·refine(af6 (s1:=s) (by simp[r56,d2,m22,hy])).trans ?_
     refine(aae (σ1:=g39 row (iV n') none none (some (.own (l1.map pt))) (iV i)) (s1:=s) (by simp[r55,mi])).trans ?_
     refine(aae (σ1:=g39 row (iV n') none none (some (.own ((l1.set i P).map pt))) (iV i)) (s1:=s) (by simp[abQ,aa9,r54,mn,mj,gj,hix,List.map_set])).trans ?_
     simp
    ·simp[frz]
  ·refine⟨l1,by omega,fun p hp=>big p (p2 p hp),(head _).trans ?_⟩
   refine(aae (σ1:=g39 row (iV n') none none (some (.own (l1.map pt))) none) (s1:=s) (by simp[r56,d2,m22,hy])).trans ?_
   simp[frz]
theorem afa{C:Cf}{r:R}(e:C.cf 0 [LN l] s=.ok r s)(hN:r.isNon=false)(b:Int):exs C anD [some (.val (.lst (l.map pt))),some (.val (.int b)),none,none,none,none] s=.exc 2 [some (.val (.lst (l.map pt))),some (.val (.int b)),none,none,none,none] s:=
 ah4 (by simp[e,hN])
theorem ajy(h:fp (aaE l) l.length≠.val .non):(fp (aaE l) l.length).isNon=false:=by
 cases hr:fp (aaE l) l.length with
 | val t=>cases t<;>first|rfl|exact absurd hr h
 | bor ts=>rfl
theorem ady(hl:∀p∈l,sml p)(hn:l.length≤1000)(h:fp (aaE l) l.length≠.val .non){b:Int}:run true fns aar aai (k+6) 13 [LN l,.val (.int b)] s=.exc xz0 s:=
 (aan (F:=aqM) rfl rfl).trans (congrArg (abm true false) (afa (C:=cfX fns aar (k+5)) (abv (adh (k:=k) (s:=s) hl hn) rfl) (ajy h) b))
structure HasW(C:Cf)(ns:List Int):Prop where
 stir:∃row:List Int,row.length=58∧(∀v∈row,aaS v)∧C.cf 24 [.val (.lst (iL ns)),.val (.int 58)] []=.ok (.val (.lst (iL row))) []
 line:∀row:List Int,(∀v∈row,aaS v)→row.length=58→∃l:List (Int×Int),(3≤l.length∧l.length≤24)∧(∀p∈l,smn 30000 p)∧C.cf 39 [.val (.lst (iL row))] []=.ok (LN l) []
 first:∀l:List (Int×Int),(∀p∈l,sml p)→l.length≤1000→C.cf 32 [LN l] []=.ok (fp (aaE l) l.length) []
 bad:∀(l:List (Int×Int)) (b:Int),(∀p∈l,sml p)→l.length≤1000→fp (aaE l) l.length≠.val .non→C.cf 13 [LN l,.val (.int b)] []=.exc xz0 []
 out:∀(l:List (Int×Int)) (b:Int),Fine l→(0≤b∧b≤1000)→∃D,C.cf 13 [LN l,.val (.int b)] []=.ok (.val (.lst D)) []∧C.cf 38 [LN l,.val (.lst D),.val (.int b)] []=.ok (.val (.bl true)) []
 sub:C.sub=aar
theorem avw(k:Nat)(s:Sto){row:List Int}(hr:∀v∈row,aaS v)(hl:row.length=58):HasR (cfX fns aar (k+2)) row s where
 simple:=fun n h1 h2=>by
  obtain⟨l,a,b,c⟩:=aie (k:=k) (s:=s) hr (by omega) h1 h2
  exact⟨l,a,b,abv c rfl⟩
 swung:=fun l c h0 h1 h2=>by
  obtain⟨l',a,b,e⟩:=akF (k:=k+1) (s:=s) h0 h1 h2 (c:=c) (ra:=LN l) (.inl rfl)
  exact⟨l',a,b,abv e rfl⟩
 fr:=rfl
theorem has(k:Nat)(ns:List Int):HasW (cfX fns aar (k+7)) ns where
 stir:=by
  obtain⟨row,h1,h2,h3⟩:=amB (k:=k+5) (s:=[]) ns 58 (by decide)
  exact⟨row,h1,h2,abv h3 rfl⟩
 line:=fun row hr hl=>by
  obtain⟨l,a,b,e⟩:=ai8 (avw (k+4) [] hr hl) hr hl
  exact⟨l,a,b,abv ((aan (F:=Fz9) rfl rfl).trans (congrArg (abm true false) e)) rfl⟩
 first:=fun l h1 h2=>abv (ali (k:=k+3) (s:=[]) h1 h2) rfl
 bad:=fun l b h1 h2 h3=>abv (ady (k:=k+1) (s:=[]) h1 h2 h3) rfl
 out:=fun l b F hb=>⟨_,abv (F.outline (k:=k) (s:=[]) hb) rfl,abv (anF (k:=k+3) (s:=[]) F hb) rfl⟩
 sub:=rfl
noncomputable abbrev g40(ns row:List Int)(v2 v3 v4 v5 v6:Option B):Fr:=[some (.val (.lst (iL ns))),some (.val (.lst (iL row))),v2,v3,v4,v5,v6]
theorem alh{C:Cf}{ns:List Int}(hC:HasW C ns):exs C akv (aaR am8 [.val (.lst (iL ns))]) []=.ret (.val (.bl true)) []:=by
 obtain⟨row,rl,hr,e1⟩:=hC.stir
 obtain⟨l,hl,hb,e2⟩:=hC.line row hr rl
 obtain⟨v53,_,r53,_⟩:=abl hr (m:=53) (by omega)
 have r53:abE (.val (.lst (iL row))) 53=some (.int v53):=r53
 have m53:=aaA (i:=v53) (j:=1001) (by decide)
 have b53:=aa8 v53 (j:=1001) (by decide)
 generalize Int.fmod v53 1001=b at *
 have sl:∀p∈l,sml p:=fun p hp=>⟨Nat.le_trans (hb p hp).1 (by decide),Nat.le_trans (hb p hp).2 (by decide)⟩
 have e3:=hC.first l sl (by omega)
 refine(aae (σ1:=g40 ns row none none none none none) (s1:=[]) (by simp[e1])).trans ?_
 refine(aae (σ1:=g40 ns row (lV l) none none none none) (s1:=[]) (by simp[e2])).trans ?_
 refine(aae (σ1:=g40 ns row (lV l) (iV b) none none none) (s1:=[]) (by simp[r53,m53])).trans ?_
 refine(aae (σ1:=g40 ns row (lV l) (iV b) (some (.val (.bl false))) none none) (s1:=[]) (by simp)).trans ?_
 refine(aae (σ1:=g40 ns row (lV l) (iV b) (some (.val (.bl false))) (some (.val (.lst []))) none) (s1:=[]) (by simp)).trans ?_
 by_cases hfp:fp (aaE l) l.length=.val .non
 ·have F:Fine l:=⟨by omega,ak0 hl.1 (akc hfp),fun p hp=>⟨Nat.le_trans (hb p hp).1 (by decide),Nat.le_trans (hb p hp).2 (by decide)⟩⟩
  obtain⟨D,o1,o2⟩:=hC.out l b F (by omega)
  rw[hfp]at e3
  refine(aae (σ1:=g40 ns row (lV l) (iV b) (some (.val (.bl false))) (some (.val (.lst D))) none) (s1:=[]) (ahC ?_)).trans ?_
  ·refine(aae (σ1:=g40 ns row (lV l) (iV b) (some (.val (.bl false))) (some (.val (.lst D))) none) (s1:=[]) (by simp[o1])).trans ?_
   simp
  ·refine(aae (σ1:=g40 ns row (lV l) (iV b) (some (.val (.bl false))) (some (.val (.lst D))) none) (s1:=[]) (by simp[e3,R.isNon])).trans ?_
   simp[o2]
 ·have hN:=ajy hfp
  have bad:=hC.bad l b sl (by omega) hfp
  refine(aae (σ1:=g40 ns row (lV l) (iV b) (some (.val (.bl true))) (some (.val (.lst []))) none) (s1:=[]) ((agf (d:=2) (i:=6) (σ1:=g40 ns row (lV l) (iV b) (some (.val (.bl false))) (some (.val (.lst []))) none) (s1:=[]) (σ2:=g40 ns row (lV l) (iV b) (some (.val (.bl true))) (some (.val (.lst []))) (some (.val (.exc 2)))) (s2:=[]) ?_ (by rw[hC.sub];rfl) ?_).trans rfl)).trans ?_
  ·exact ah4 (by simp[bad])
  ·have q1:aar 2 2=true:=rfl
   have q2:aar 2 1=false:=rfl
   refine(aae (σ1:=g40 ns row (lV l) (iV b) (some (.val (.bl true))) (some (.val (.lst []))) (some (.val (.exc 2)))) (s1:=[]) (by simp[hC.sub,q1,q2])).trans ?_
   simp
  ·generalize fp (aaE l) l.length=r at *
   simp[e3,hN]
theorem apv(k:Nat)(ns:List Int):∃s,run true fns aar aai (k+8) 40 [.val (.lst (ns.map .int))] []=.ok (.val (.bl true)) s:=
 ⟨[],(aan (F:=am8) rfl rfl).trans (congrArg (abm true false) (alh (has k ns)))⟩
theorem math:asO:=fun ns _=>apv 8 ns
end Pg
end IP
end
section
namespace PySem.W.Fast
def tw15661523052808955783:=()
def tw6817030927182320424:=()
def tw8351281375011715013:=()
def tw6199562933507754577:=()
def tw8956103872790853055:=()
def tw9564441332517140991:=()
def tw1247940510514432512:=()
def tw9151467045571749278:=()
def tw16262152360205712238:=()
def tw3545614212282014359:=()
def tw4710903644938650351:=()
def tw18237411131617467287:=()
def tw17882633449232113317:=()
def tw16500654806366642497:=()
def tw8852375866392168400:=()
def tw16184286506061754060:=()
def tw2611596710638148562:=()
def tw2161537118851364543:=()
def tw7429043898572220608:=()
def tw12421632134433804562:=()
def tw2303796869447687023:=()
def tw15093221866629124022:=()
def tw3427416943173969989:=()
def tw7914047772083753137:=()
def tw17531146655203690066:=()
def tw11031332747336930659:=()
def tw16644833718989764355:=()
def tw14429676995812076657:=()
def tw5596217657663503420:=()
def tw10627820855949850039:=()
def tw15403437087461156020:=()
def tw9728022741601361670:=()
def tw5543842720237355834:=()
def tw15763818492288240384:=()
def tw10426369796590421678:=()
def tw2486359893194659994:=()
def tw16119517818211814021:=()
def tw5741141207608123727:=()
def tw17424686476295554191:=()
def tw9792487952547469523:=()
def tw2512664313629863673:=()
def tw15557417031826751482:=()
def tw6811512619370355353:=()
def tw10902273884383127547:=()
def tw7560356276995990940:=()
def tw3604796035378448015:=()
def tw3593629896772050446:=()
def tw12306633708703182926:=()
def tw3128447952056254647:=()
def tw9921815631031141184:=()
def tw17429964968346360199:=()
def tw13478499259986812212:=()
def tw3884631343237248154:=()
def tw18092561907362416745:=()
def tw6898804516534467247:=()
def tw10960051231285684147:=()
def tw15158544633622871758:=()
def tw13002332823230396218:=()
def tw3303720486757082668:=()
def tw6976036823660383759:=()
def tw7117827288407700279:=()
def tw6837601647123637937:=()
def tw6575839497395844956:=()
def tw6361734011401962249:=()
def tw12972175590814809007:=()
def tw13283149281334969737:=()
def tw13452930304692929425:=()
def tw15552918919534005748:=()
def tw5435824655208462320:=()
def tw8748175211669862464:=()
def tw2821549349908568253:=()
def tw6951293437754683994:=()
def tw2377651214300918771:=()
def tw5196493843825511807:=()
def tw13995429895118376163:=()
def tw14855315815601076021:=()
def tw13560469083657281003:=()
def tw12285711224276397075:=()
def tw804349767470093128:=()
def tw7853786606507799520:=()
def tw7893761553152004494:=()
def tw7378377986281008292:=()
def tw14235364530662319665:=()
def tw12825870851543179195:=()
def tw15282738767792652074:=()
def tw405798466765824419:=()
def tw15006242235329592536:=()
def tw8083888505142788904:=()
def tw3299515074215064184:=()
def tw5426312359952239373:=()
def tw15713225792047531:=()
def tw10455495626226608671:=()
def tw17461244043736933198:=()
def tw6056203435725127723:=()
def tw44344826375262814:=()
def tw7416971052011674181:=()
def tw12894092314064086582:=()
def tw10185481770519722368:=()
def tw3938539650190701120:=()
def tw5427051492104787870:=()
def tw14522329474068783184:=()
def tw13393170043684371495:=()
def tw16221753493824208637:=()
def tw2430202407923548431:=()
def tw8099011655179949346:=()
def tw11139315257940340211:=()
def tw9911518770689392485:=()
def tw15914400969336820438:=()
def tw9022081229963691289:=()
def tw5169381565521981786:=()
def tw6708559789718691761:=()
def tw14469625066158179446:=()
def tw5853633223709295040:=()
def tw9419739648030597163:=()
def tw7041118162945289651:=()
def tw6712240435659827614:=()
def tw6322090211833420590:=()
def tw16858959905713718076:=()
def tw15890330165346363226:=()
def tw12357834230995226920:=()
def tw17364870787964542333:=()
def tw3869930703965044392:=()
def tw16852974282856997997:=()
def tw3366267956881998322:=()
def tw8868788876695813639:=()
def tw17712543394287878476:=()
def tw12935120830333863930:=()
def tw2598913140217535636:=()
def tw9657446327231257616:=()
def tw18399060711748380833:=()
def tw10914161340962166354:=()
def tw2017889616947157667:=()
def tw8971118596610886958:=()
def tw12101853164775708435:=()
def tw8780200676144390211:=()
def tw14889145039415478119:=()
def tw4445623330866845761:=()
def tw379997198856645274:=()
def tw3794649086658682022:=()
def tw14845001887765420467:=()
def tw16383009259779328432:=()
def tw7388419941019286586:=()
def tw12205357060379208305:=()
def tw15751357934639290316:=()
def tw7194154562249439576:=()
def tw6998075092341147188:=()
def tw8086410455760502970:=()
def tw14668569415913566959:=()
def tw16109694599117650271:=()
def tw7473048222873505174:=()
def tw13752782421149460222:=()
def tw5171820680562372647:=()
def tw3006292150231213363:=()
def tw4765649269673815188:=()
def tw979377800203779687:=()
def tw10962139997941608896:=()
def tw8740853792462570410:=()
def tw12881404671483490271:=()
def tw13059816030085095979:=()
def tw17874594105393877795:=()
def tw9297069598798258588:=()
def tw5399683522672366:=()
def tw16023771560461508296:=()
def tw18278401891190650757:=()
def tw13984984102698112988:=()
def tw15353382085740310350:=()
def tw17470571011874079063:=()
def tw7771484115913624490:=()
def tw5944091239819473020:=()
def tw3261958515168340543:=()
def tw14776063663003019982:=()
def tw13981805013835974952:=()
def tw6787246950820817045:=()
def tw12199114812673554006:=()
def tw12133648230270555320:=()
def tw14460726110050573197:=()
def tw16303347541109016291:=()
def tw9804211618770515913:=()
def tw17272917826893045206:=()
def tw5704896589295851319:=()
def tw7612710094508531424:=()
def tw7029218266076395355:=()
def tw7862161240019614652:=()
def tw6601659702589001980:=()
def tw10949747516250688698:=()
def tw10026536747728623218:=()
def tw226126902348277707:=()
def tw12257116873577039227:=()
def tw12161584212686379073:=()
def tw10014543489427594150:=()
def tw1355673975799140553:=()
def tw17271786926427088348:=()
def tw13835715959001658489:=()
def tw14265199282099713493:=()
def tw1883023576554558807:=()
def tw18102814815251112563:=()
def tw9733784839872024944:=()
def tw496961007728163917:=()
def tw5967586141283084991:=()
def tw14935580163773922784:=()
def tw16956673795737286727:=()
def tw17087208320503293075:=()
def tw14792880515533911651:=()
def tw11400640102871706541:=()
def tw14635129459037637098:=()
def tw3717433477727376340:=()
def tw9402709194621918595:=()
def tw3990962463024122699:=()
def tw11606508005599811146:=()
def tw15920200642604527589:=()
def tw2395165612211367280:=()
def tw13985610970242893390:=()
def tw5715407877686436125:=()
def tw12447972024039792215:=()
def tw3633478144522247942:=()
def tw4950589592766288440:=()
def tw10148133145456185327:=()
def tw3153142078146549195:=()
def tw10456447165110717397:=()
def tw3901696721886531638:=()
def tw16559689710167036079:=()
def tw11688222482635081735:=()
def tw8463974330644183287:=()
def tw7395765070809727935:=()
def tw14467801647436035325:=()
def tw17077245137582476343:=()
def tw17011565319517666395:=()
def tw10374600560318287506:=()
def tw2763017747084435493:=()
def tw6852850210586747050:=()
def tw10545008158631761289:=()
def tw8048489304332384750:=()
def tw4694402959442296917:=()
def tw5169297421794513222:=()
def tw15412264958037173038:=()
def tw9227642128469799845:=()
def tw7857480754960010405:=()
def tw12329883634131393888:=()
def tw15674718478347527168:=()
def tw16630857338837675120:=()
def tw4645601883398480229:=()
def tw2423056713040208186:=()
def tw4627000451872158648:=()
def tw11506885484139285870:=()
def tw10834492471002659269:=()
def tw12916458918030760153:=()
def tw993654738398406249:=()
def tw12428591420363237650:=()
def tw13514543479633782465:=()
def tw13872020547574253319:=()
def tw7417127849539456077:=()
def tw16291664942875642198:=()
def tw3860111304188044134:=()
def tw7718038493558837365:=()
def tw12914888276685918182:=()
def tw15309582284611228535:=()
def tw14332466343078010281:=()
def tw14242591158746985991:=()
def tw1522739816995390329:=()
def tw15597749555312622057:=()
def tw18273148438558660133:=()
def tw13091307748366012509:=()
def tw4532179084079281768:=()
def tw14712476533377533824:=()
def tw10553622235735363194:=()
def tw3627072321518460767:=()
def tw16748917643493492691:=()
def tw700377987366619974:=()
def tw11185984166299226941:=()
def tw11919793841419305199:=()
def tw11455968338420327895:=()
def tw6341855951608350124:=()
def tw10789397409835875264:=()
def tw12033685257009184570:=()
def tw8921524975010870620:=()
def tw4892184303039006910:=()
def tw2890268320026639221:=()
def tw10826508605870295913:=()
def tw1061804804702571119:=()
def tw2474167282053377201:=()
def tw17908673695790265531:=()
def tw11685340394801141950:=()
def tw9156370204716788062:=()
def tw708351877496646294:=()
def tw10928733989224124973:=()
def tw5268124154004227760:=()
def tw9795284556698131072:=()
def tw11696852371939250732:=()
def tw12423506789770937849:=()
def tw12929890433279035340:=()
def tw2349845386173456515:=()
def tw13973124002962633800:=()
def tw4959187738945203556:=()
def tw13635271138724026329:=()
def tw6701132479305215022:=()
def tw12859811334746150076:=()
def tw9951802015643466235:=()
def tw10455524752319677188:=()
def tw3713549519553786844:=()
def tw16573941527236712951:=()
def tw5650382778141772147:=()
def tw1097175581579478830:=()
def tw10183842781322364294:=()
def tw15456900096308921129:=()
end PySem.W.Fast
open PySem PySem.W PyProof.Rows
theorem PySem.Challenge.cw_gradecut_k12_no_hem_where_crossed_holds : PySem.Challenge.rw_gradecut_k12_no_hem_where_crossed.Holds := by
 w_on;o_law;k_head;(case hw=>w_witness2)
 k_fill
 refine IP.Pg.walk IP.Pg.math (l:=PySem.Challenge.rw_gradecut_k12_no_hem_where_crossed) rfl rfl (fun w h Y=>PySem.W.kIn_of Y) ?noL ?goF
 case noL=>intro w;first|rfl|with_unfolding_all rfl|decide +kernel
 case goF=>
  intro w mg fa h KX G hmg
  refine' IP.Pg.all_mk KX G hmg ?jq0 ?jq1 ?jq2 ?jq3 ?jq4 ?jq5 ?jq6 ?jq7 ?jq8 ?jq9 ?jq10 ?jq11 ?jq12 ?jq13 ?jq14 ?jq15 ?jq16 ?jq17 ?jq18 ?jq19 ?jq20 ?jq21 ?jq22 ?jq23 ?jq24 ?jq25 ?jq26 ?jq27 ?jq28 ?jq29 ?jq30 ?jq31 ?jq32 ?jq33 ?jq34 ?jq35 ?jq36 ?jq37 ?jq38 ?jq39 ?jq40 ?jq41 ?jq42 ?jq43 ?jq44 ?jq45 ?jq46 ?jq47 ?jq48 ?jq49 ?jq50 ?jq51 ?jq52 ?jq53 ?jq54 ?jq55 ?jq56 ?jq57 ?jq58 ?jq59 ?jq60 ?jq61 ?jq62 ?jq63 ?jq64 ?jq65 ?jq66 ?jq67 ?jq68 ?jq69 ?jq70 ?jq71 ?jq72 ?jq73 ?jq74 ?jq75 ?jq76 ?jq77 ?jq78 ?jq79 ?jq80 ?jq81 ?jq82 ?jq83 ?jq84 ?jq85
  case jq0|jq1|jq2=>k_is
  case jq3=>k_exc
  case jq4|jq5|jq6|jq7|jq8|jq9|jq10|jq11|jq12|jq13|jq14|jq15|jq16|jq17|jq18|jq19|jq20|jq21|jq22|jq23=>k_is
  case jq24|jq25|jq26|jq27|jq28|jq29=>kit_is
  case jq30|jq31|jq32=>kts_exm
  case jq33|jq34|jq35|jq36|jq37|jq38|jq39|jq40|jq41|jq42|jq43|jq44|jq45|jq46|jq47|jq48|jq49|jq50|jq51|jq52|jq53|jq54|jq55|jq56|jq57|jq58|jq59|jq60|jq61|jq62|jq63|jq64|jq65|jq66|jq67|jq68|jq69|jq70|jq71|jq72|jq73=>exact .of (by k_is) (by k_is) (by k_is) (by k_is)
  case jq74|jq75|jq76|jq77|jq78|jq79|jq80|jq81|jq82|jq83|jq84|jq85=>k_is
end
