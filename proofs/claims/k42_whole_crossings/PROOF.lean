import PyProof.Rows.All
import Wide.All
import OpenK.AllK
import Wide.FinOn
import Lean
import PyProof.EqAt
import PyProof.EqKinds
import PyProof.TupleCall
import PyProof.NeKinds
import KE.KTryMore
import PyProof.EnumStmt
import PySem.Challenge.RW_gradecut_k42_whole_crossings
section
set_option Elab.async false
set_option linter.all false
set_option maxRecDepth 100000
namespace L2
open PySem PySem.Spec PyProof.Rows
abbrev Key:=Sum Int Str
def keyIs:Key→Value→Bool
 | .inl k,v=>Value.isInt k v
 | .inr x,v=>Value.isStrOf x v
def keyH(w:World):Key→Int
 | .inl k=>hashInt k
 | .inr x=>hashStr w x
theorem zaat:∀{k:Key}{v:Value},keyIs k v=true→(∃i t,k=Sum.inl i∧v=Value.int i t)∨(∃x t,k=Sum.inr x∧v=Value.str x t)
 | .inl i,v,h=>by
  obtain⟨t,e⟩:=Value.isInt_shape (k:=i) (v:=v) h
  exact .inl ⟨i,t,rfl,e⟩
 | .inr x,v,h=>by
  obtain⟨t,e⟩:=Value.isStrOf_shape (x:=x) (v:=v) h
  exact .inr ⟨x,t,rfl,e⟩
theorem key_ll(a b:Int):decide ((Sum.inl a:Key)=Sum.inl b)=(a==b):=by
 by_cases e:a=b
 ·subst e;simp
 ·have h:¬(Sum.inl a:Key)=Sum.inl b:=fun q=>e (Sum.inl.inj q)
  rw[decide_eq_false h]
  exact(beq_eq_false_iff_ne.mpr e).symm
theorem key_rr(a b:Str):decide ((Sum.inr a:Key)=Sum.inr b)=decide (a=b):=by
 by_cases e:a=b
 ·subst e;simp
 ·have h:¬(Sum.inr a:Key)=Sum.inr b:=fun q=>e (Sum.inr.inj q)
  rw[decide_eq_false h,decide_eq_false e]
theorem key_lr(a:Int)(b:Str):decide ((Sum.inl a:Key)=Sum.inr b)=false:=decide_eq_false (fun q=>nomatch q)
theorem key_rl(a:Str)(b:Int):decide ((Sum.inr a:Key)=Sum.inl b)=false:=decide_eq_false (fun q=>nomatch q)
def zaia(prog:Program)(w:World):PySem.KeyKind prog w Key where
 is:=keyIs
 hash:=keyH w
 inj:=fun v a b ha hb=>by
  rcases zaat ha with⟨i,t,rfl,rfl⟩|⟨x,t,rfl,rfl⟩
  ·rcases zaat hb with⟨j,u,rfl,e⟩|⟨y,u,rfl,e⟩
   ·injection e with e1 _;rw[e1]
   ·exact nomatch e
  ·rcases zaat hb with⟨j,u,rfl,e⟩|⟨y,u,rfl,e⟩
   ·exact nomatch e
   ·injection e with e1 _;rw[e1]
 byValue:=fun k v h=>by
  rcases zaat h with⟨i,t,rfl,rfl⟩|⟨x,t,rfl,rfl⟩<;>rfl
 pyHash:=fun hv h=>by
  rcases zaat hv with⟨i,t,rfl,rfl⟩|⟨x,t,rfl,rfl⟩
  ·exact wpAny_pyHash_int h
  ·exact wpAny_pyHash_str h
 eqBool:=fun hu hv h=>by
  rcases zaat hu with⟨i,t,rfl,rfl⟩|⟨x,t,rfl,rfl⟩
  ·rcases zaat hv with⟨j,u,rfl,rfl⟩|⟨y,u,rfl,rfl⟩
   ·rw[key_ll]at h;exact wpAny_eqBool_int h
   ·rw[key_lr]at h;exact SeqAt.EqAt.int_str i t y u _ _ _ _ h
  ·rcases zaat hv with⟨j,u,rfl,rfl⟩|⟨y,u,rfl,rfl⟩
   ·rw[key_rl]at h;exact SeqAt.EqAt.str_int x t j u _ _ _ _ h
   ·rw[key_rr]at h;exact wpAny_eqBool_str h
 «strs»:=fun k x t v h=>by
  rcases zaat h with⟨i,u,rfl,e⟩|⟨y,u,rfl,e⟩
  ·exact nomatch e
  ·injection e with e1 _
   subst e1
   cases v<;>rfl
end L2
namespace L2
open PySem PySem.Spec PyProof.Rows
inductive V where
 | non|bl (b:Bool)|int (i:Int)|str (x:Str)|byt (b:Array UInt8)|flt (b:UInt64)|ref (a:Addr)|ty (n:String)
 deriving DecidableEq
def RelV:V→Value→Prop
 | .non,u=>u=Value.none
 | .bl b,u=>u=Value.bool b
 | .int i,u=>∃t,u=Value.int i t
 | .str x,u=>∃t,u=Value.str x t
 | .byt b,u=>∃t,u=Value.bytes b t
 | .flt b,u=>∃t,u=Value.float b t
 | .ref a,u=>u=Value.ref a
 | .ty n,u=>u=Value.type n
abbrev Vals:List V→List Value→Prop:=Paired RelV
theorem Vals.length{xs:List V}{us:List Value}(r:Vals xs us):xs.length=us.length:=Paired.length r
theorem Vals.get:∀{xs:List V}{us:List Value}{i:Nat}{x:V},Vals xs us→xs[i]?=some x→∃u,us[i]?=some u∧RelV x u
 | _,_,_,_,.nil,e=>by simp at e
 | _,_,0,_,.cons r _,e=>by simp at e;subst e;exact⟨_,rfl,r⟩
 | _,_,i+1,x,.cons _ t,e=>by
  obtain⟨u,h1,h2⟩:=Vals.get (i:=i) (x:=x) t (by simpa using e)
  exact⟨u,by simpa using h1,h2⟩
theorem Vals.set{x:V}{u:Value}(r:RelV x u):∀{xs:List V}{us:List Value} (i:Nat),Vals xs us→Vals (xs.set i x) (us.set i u)
 | _,_,_,.nil=>.nil
 | _,_,0,.cons _ t=>.cons r t
 | _,_,i+1,.cons q t=>.cons q (Vals.set r i t)
theorem Vals.append:∀{xs ys:List V}{us ws:List Value},Vals xs us→Vals ys ws→Vals (xs++ys) (us++ws)
 | _,_,_,_,.nil,s=>s
 | _,_,_,_,.cons r t,s=>.cons r (Vals.append t s)
theorem Vals.take:∀{xs:List V}{us:List Value} (n:Nat),Vals xs us→Vals (xs.take n) (us.take n)
 | _,_,0,_=>.nil
 | _,_,_+1,.nil=>.nil
 | _,_,n+1,.cons r t=>.cons r (Vals.take n t)
theorem Vals.drop:∀{xs:List V}{us:List Value} (n:Nat),Vals xs us→Vals (xs.drop n) (us.drop n)
 | _,_,0,r=>r
 | _,_,_+1,.nil=>.nil
 | _,_,n+1,.cons _ t=>Vals.drop n t
theorem Vals.none_of:∀{xs:List V}{us:List Value}{i:Nat},Vals xs us→xs[i]?=none→us[i]?=none:=fun {xs us i} r e=>by
 have h1:=r.length
 have h2:xs.length≤i:=List.getElem?_eq_none_iff.mp e
 exact List.getElem?_eq_none_iff.mpr (by omega)
def RelO:Option V→Option Value→Prop
 | some v,some u=>RelV v u
 | none,none=>True
 | _,_=>False
def KV{κ:Type}:List (κ×V)→List (κ×Value)→Prop:=Paired fun(p:κ×V) (q:κ×Value)=>p.1=q.1∧RelV p.2 q.2
def kV:Key→V
 | .inl i=>.int i
 | .inr x=>.str x
inductive HO where
 | lst (xs:List V)
 | tup (xs:List V)
 | dK (kvs:List (Key×V))|dT (kvs:List (List Key×V))
 | set (S:Int→Bool) (n:Nat)
 | ins (C dx:Addr) (fs:List (Str×V))
 | own (x:Addr)
 | xd (fs:List (Str×V))
 | met (f x:Addr)
 | rng (lo hi:Int)
 | frz (o:Obj) (u:HO)
 | tbl (ps:Array Value)
 | ext (φ:Heap→Prop)
abbrev Hp:=Addr→Option HO
def upd(H:Hp)(a:Addr)(o:HO):Hp:=fun b=>if b=a then some o else H b
theorem zaau{H:Hp}{a:Addr}{o:HO}:upd H a o a=some o:=by unfold upd;rw[if_pos rfl]
theorem upd_ne{H:Hp}{a b:Addr}{o:HO}(h:b≠a):upd H a o b=H b:=by unfold upd;rw[if_neg h]
theorem ne_of{H:Hp}{a b:Addr}{o u:HO}(h:H a=some o)(h':H b=some u)(d:o≠u):a≠b:=by
 intro e;subst e;rw[h]at h';exact d (Option.some.inj h')
theorem zabe{H:Hp}{a b:Addr}{o:HO}(h:H a=some o)(h':H b=none):a≠b:=by
 intro e;subst e;rw[h]at h';cases h'
section
variable(P:Program)(w:World)
def ObjOk(H:Hp)(h:Heap)(a:Addr):HO→Prop
 | .lst xs=>xs.length≤sizeLine∧∃(its:List Value) (n:Nat),Vals xs its∧h.get? a=some { cls:=.type "list",data:=.seq its.toArray n }
 | .tup xs=>xs.length≤sizeLine∧∃its:List Value,Vals xs its∧IsTup h a its.toArray
 | .dK kvs=>kvs.length≤sizeLine∧(a==sysModules)=false∧∃vs,KV kvs vs∧h.DictOf (zaia P w) a vs
 | .dT kvs=>kvs.length≤sizeLine∧(a==sysModules)=false∧∃xs:List (List Key×Addr×Value),
   Paired (fun(p:List Key×V) (q:List Key×Addr×Value)=>p.1=q.1∧H q.2.1=some (.tup (p.1.map kV))∧RelV p.2 q.2.2) kvs xs∧
   ∃o es ep,h.get? a=some o∧o.ExactDict∧o.data=.dict es ep∧es.toList=xs.map (entryOfKey (tupleKind (zaia P w)))∧(xs.map (·.1)).Nodup
 | .set S n=>h.SetOf (intKind P w) a S n
 | .ins C dx fs=>H dx=some (.own a)∧fs.length≤1000∧dx≠a∧h.get? a=some (PySem.W.instObj C dx)∧
   ∃mA,h.Ns1 dx mA∧(∀f,RelO (fs.lookup f) (mA f))∧PySem.Within mA (fs.map (·.1))
 | .own _=>∃o,h.get? a=some o
 | .xd fs=>∃mA,h.Ns1 a mA∧∀f,RelO (fs.lookup f) (mA f)
 | .rng lo hi=>∃t u v,h.get? a=some { cls:=.type "range",data:=.fields #[.int lo t,.int hi u,.int 1 v] }
 | .frz o u=>h.get? a=some o∧ObjOk H h a u
 | .tbl ps=>h.get? a=some { cls:=.none,data:=.fields ps }
 | .met f x=>h.get? a=some (PySem.W.methodObj (.ref f) (.ref x))
 | .ext φ=>φ h∧(∃o,h.get? a=some o)∧∀h1 h2:Heap,φ h1→(∀o,h1.get? a=some o→h2.get? a=some o)→φ h2
def HOk(H:Hp)(h:Heap):Prop:=∀a o,H a=some o→ObjOk P w H h a o
end
section
variable{P:Program}{w:World}{H H':Hp}{h h':Heap}{a:Addr}{o:HO}
theorem ObjOk.lt(x:ObjOk P w H h a o):a<h.objs.size:=by
 cases o with
 | lst xs=>obtain⟨_,_,_,_,e⟩:=x;exact Heap.lt_size e
 | tup xs=>obtain⟨_,_,_,p⟩:=x;exact p.lt
 | dK kvs=>obtain⟨_,_,_,_,o,_,_,e,_⟩:=x;exact Heap.lt_size e
 | dT kvs=>obtain⟨_,_,_,_,o,_,_,e,_⟩:=x;exact Heap.lt_size e
 | set S n=>obtain⟨o,_,_,_,e,_⟩:=x;exact Heap.lt_size e
 | ins C dx fs=>obtain⟨_,_,_,e,_⟩:=x;exact Heap.lt_size e
 | own y=>obtain⟨_,e⟩:=x;exact Heap.lt_size e
 | xd fs=>obtain⟨_,⟨_,_,_,e,_⟩,_⟩:=x;exact Heap.lt_size e
 | rng lo hi=>obtain⟨_,_,_,e⟩:=x;exact Heap.lt_size e
 | frz ob u=>obtain⟨e,_⟩:=x;exact Heap.lt_size e
 | tbl ps=>exact Heap.lt_size (show h.get? a=some _ from x)
 | met f y=>exact Heap.lt_size (show h.get? a=some _ from x)
 | ext φ=>obtain⟨_,⟨_,e⟩,_⟩:=x;exact Heap.lt_size e
theorem Paired.mapP{α β:Type}{F G:α→β→Prop}:∀{l₁:List α}{l₂:List β},Paired F l₁ l₂→(∀a b,F a b→G a b)→Paired G l₁ l₂
 | _,_,.nil,_=>.nil
 | _,_,.cons r t,f=>.cons (f _ _ r) (Paired.mapP t f)
theorem ObjOk.stay(x:ObjOk P w H h a o)(k:∀b u,(b=a∨H b=some (.own a))→h.get? b=some u→h'.get? b=some u)
  (ho:∀b,H b=some (.own a)→H' b=some (.own a)) (ht:∀b xs,H b=some (.tup xs)→H' b=some (.tup xs)):ObjOk P w H' h' a o:=by
 induction o with
 | lst xs=>obtain⟨z,its,n,r,e⟩:=x;exact⟨z,its,n,r,k _ _ (.inl rfl) e⟩
 | tup xs=>obtain⟨z,its,r,ob,e,c⟩:=x;exact⟨z,its,r,ob,k _ _ (.inl rfl) e,c⟩
 | dK kvs=>obtain⟨z,y,vs,r,ob,es,ep,e,c⟩:=x;exact⟨z,y,vs,r,ob,es,ep,k _ _ (.inl rfl) e,c⟩
 | dT kvs=>
  obtain⟨z,y,xs,r,ob,es,ep,e,c⟩:=x
  exact⟨z,y,xs,Paired.mapP r fun p q z=>⟨z.1,ht _ _ z.2.1,z.2.2⟩,ob,es,ep,k _ _ (.inl rfl) e,c⟩
 | set S n=>obtain⟨ob,es,ep,t,e,c⟩:=x;exact⟨ob,es,ep,t,k _ _ (.inl rfl) e,c⟩
 | ins C dx fs=>
  obtain⟨d,z,ne,e,mA,⟨od,es,ep,e2,c⟩,r⟩:=x
  exact⟨ho _ d,z,ne,k _ _ (.inl rfl) e,mA,⟨od,es,ep,k _ _ (.inr d) e2,c⟩,r⟩
 | own y=>obtain⟨ob,e⟩:=x;exact⟨ob,k _ _ (.inl rfl) e⟩
 | xd fs=>obtain⟨mA,⟨od,es,ep,e,c⟩,r⟩:=x;exact⟨mA,⟨od,es,ep,k _ _ (.inl rfl) e,c⟩,r⟩
 | rng lo hi=>obtain⟨t,u,v,e⟩:=x;exact⟨t,u,v,k _ _ (.inl rfl) e⟩
 | frz ob u ih=>obtain⟨e,q⟩:=x;exact⟨k _ _ (.inl rfl) e,ih q⟩
 | tbl ps=>
  have e:h.get? a=some { cls:=.none,data:=.fields ps }:=x
  show h'.get? a=some { cls:=.none,data:=.fields ps }
  exact k a _ (.inl rfl) e
 | met f y=>
  have e:h.get? a=some (PySem.W.methodObj (.ref f) (.ref y)):=x
  show h'.get? a=some (PySem.W.methodObj (.ref f) (.ref y))
  exact k a _ (.inl rfl) e
 | ext φ=>obtain⟨p,⟨o,e⟩,st⟩:=x;exact⟨st _ _ p fun o q=>k _ _ (.inl rfl) q,⟨o,k _ _ (.inl rfl) e⟩,st⟩
theorem HOk.lt(x:HOk P w H h)(e:H a=some o):a<h.objs.size:=(x a o e).lt
theorem HOk.fresh(x:HOk P w H h)(e:h.objs.size≤a):H a=none:=by
 cases q:H a with
 | none=>rfl
 | some u=>exact absurd (Nat.lt_of_lt_of_le (x.lt q) e) (Nat.lt_irrefl _)
theorem HOk.kept(x:HOk P w H h)(k:∀b u,h.get? b=some u→h'.get? b=some u):HOk P w H h':=fun a o e=>
 (x a o e).stay (fun b u _ q=>k b u q) (fun _ q=>q) fun _ _ q=>q
theorem HOk.laid(x:HOk P w H h)(k:∀b u,h.get? b=some u→h'.get? b=some u)(hp:h.objs.size≤a)(new:ObjOk P w (upd H a o) h' a o):HOk P w (upd H a o) h':=fun b u e=>by
 have hn:=x.fresh hp
 by_cases hb:b=a
 ·subst hb;rw[zaau]at e;cases e;exact new
 ·rw[upd_ne hb]at e
  exact(x b u e).stay (fun c v _ q=>k c v q) (fun c q=>by rw[upd_ne (zabe q hn)];exact q) fun c xs q=>by rw[upd_ne (zabe q hn)];exact q
end
def Rd(H:Hp)(a:Addr)(u:HO):Prop:=H a=some u∨∃o,H a=some (.frz o u)
theorem Rd.of{H:Hp}{a:Addr}{u:HO}(h:H a=some u):Rd H a u:=.inl h
theorem Rd.ok{P:Program}{w:World}{H:Hp}{h:Heap}{a:Addr}{u:HO}(r:Rd H a u)(x:HOk P w H h):ObjOk P w H h a u:=by
 rcases r with r|⟨o,r⟩
 ·exact x a u r
 ·obtain⟨_,q⟩:=x a _ r
  exact q
def Mut:Option HO→Prop
 | some (.lst _)=>True
 | some (.dK _)=>True
 | some (.dT _)=>True
 | some (.set _ _)=>True
 | some (.ins _ _ _)=>True
 | some (.ext _)=>True
 | _=>False
section
variable{P:Program}{w:World}{H:Hp}{h h':Heap}{x e:Addr}{o':HO}
theorem HOk.write(ok:HOk P w H h)(mu:Mut (H x))(he:e=x∨H e=some (.own x))(k:∀b u,b≠e→h.get? b=some u→h'.get? b=some u)(heo:∃u,h'.get? e=some u)
  (new:ObjOk P w (upd H x o') h' x o'):HOk P w (upd H x o') h':=fun b u q=>by
 have nown:∀c y,H c=some (.own y)→c≠x:=fun c y r z=>by subst z;rw[r]at mu;exact mu
 have ntup:∀c xs,H c=some (.tup xs)→c≠x:=fun c xs r z=>by subst z;rw[r]at mu;exact mu
 by_cases hb:b=x
 ·subst hb;rw[zaau]at q;cases q;exact new
 ·rw[upd_ne hb]at q
  by_cases hbe:b=e
  ·have q':H b=some (.own x):=by
    rcases he with z|z
    ·exact absurd (hbe.trans z) hb
    ·rw[hbe];exact z
   rw[q]at q';cases q'
   obtain⟨v,hv⟩:=heo
   exact⟨v,by rw[hbe];exact hv⟩
  ·refine(ok b u q).stay (fun c v hc r=>k c v ?_ r) (fun c r=>by rw[upd_ne (nown c b r)];exact r) fun c xs r=>by rw[upd_ne (ntup c xs r)];exact r
   rcases hc with rfl|hc
   ·exact hbe
   ·rintro rfl
    rcases he with z|z
    ·exact nown c b hc z
    ·rw[hc]at z;cases z;exact hb rfl
end
structure Un(fs ex:List Addr)(H H':Hp)(h h':Heap):Prop where
 keep:∀b o,h.get? b=some o→H b=none→b∉fs→b∉ex→h'.get? b=some o
 slot:∀b o,h.get? b=some o→H b=none→b∈fs→b∉ex→∃sl,h'.get? b=some { o with slots:=sl }
 free:∀b o,h.get? b=some o→H b=none→b∉ex→H' b=none
 there:∀b o,h.get? b=some o→b∉ex→∃o',h'.get? b=some o'
 tups:∀b xs,H b=some (.tup xs)→H' b=some (.tup xs)
 frzs:∀b o u,H b=some (.frz o u)→H' b=some (.frz o u)
 tbls:∀b ps,H b=some (.tbl ps)→∃more,H' b=some (.tbl (ps++more))
section
variable{fs fs' ex ex':List Addr}{H H1 H2:Hp}{h h1 h2 h':Heap}{a x e:Addr}{o:HO}
theorem Un.any(u:Un fs ex H H1 h h1){b:Addr}{ob:Obj}(q:h.get? b=some ob)(n:H b=none)(hx:b∉ex):∃sl,h1.get? b=some { ob with slots:=sl }:=by
 by_cases hb:b∈fs
 ·exact u.slot b ob q n hb hx
 ·exact⟨ob.slots,u.keep b ob q n hb hx⟩
theorem Un.trans(a:Un fs ex H H1 h h1)(b:Un fs ex H1 H2 h1 h2):Un fs ex H H2 h h2 where
 keep:=fun c ob q n hc hx=>b.keep c ob (a.keep c ob q n hc hx) (a.free c ob q n hx) hc hx
 slot:=fun c ob q n hc hx=>by
  obtain⟨sl,e1⟩:=a.slot c ob q n hc hx
  obtain⟨sl',e2⟩:=b.slot c _ e1 (a.free c ob q n hx) hc hx
  exact⟨sl',e2⟩
 free:=fun c ob q n hx=>by
  obtain⟨o',e1⟩:=a.there c ob q hx
  exact b.free c o' e1 (a.free c ob q n hx) hx
 there:=fun c ob q hx=>by
  obtain⟨o',e1⟩:=a.there c ob q hx
  exact b.there c o' e1 hx
 tups:=fun c xs q=>b.tups c xs (a.tups c xs q)
 frzs:=fun c ob xs q=>b.frzs c ob xs (a.frzs c ob xs q)
 tbls:=fun c ps q=>by
  obtain⟨m1,e1⟩:=a.tbls c ps q
  obtain⟨m2,e2⟩:=b.tbls c _ e1
  exact⟨m1++m2,by rw[e2,Array.append_assoc]⟩
theorem Un.kept(k:∀b u,h.get? b=some u→h'.get? b=some u):Un fs ex H H h h':=
 ⟨fun b ob q _ _ _=>k b ob q,fun b ob q _ _ _=>⟨ob.slots,k b ob q⟩,fun _ _ _ n _=>n,fun b ob q _=>⟨ob,k b ob q⟩,fun _ _ q=>q,fun _ _ _ q=>q,fun _ ps q=>⟨#[],by rw[q];simp⟩⟩
theorem Un.refl:Un fs ex H H h h:=Un.kept fun _ _ q=>q
theorem Un.laid(k:∀b u,h.get? b=some u→h'.get? b=some u)(hp:h.objs.size≤a)(hn:H a=none):Un fs ex H (upd H a o) h h' where
 keep:=fun b u q _ _ _=>k b u q
 slot:=fun b u q _ _ _=>⟨u.slots,k b u q⟩
 free:=fun b u q n _=>by rw[upd_ne (Nat.ne_of_lt (Nat.lt_of_lt_of_le (Heap.lt_size q) hp))];exact n
 there:=fun b u q _=>⟨u,k b u q⟩
 tups:=fun b xs q=>by rw[upd_ne (zabe q hn)];exact q
 frzs:=fun b u xs q=>by rw[upd_ne (zabe q hn)];exact q
 tbls:=fun b ps q=>⟨#[],by rw[upd_ne (zabe q hn),q];simp⟩
theorem Un.write(mu:Mut (H x))(he:e=x∨H e=some (.own x))(k:∀b u,b≠e→h.get? b=some u→h'.get? b=some u)(heo:∃u,h'.get? e=some u):Un fs ex H (upd H x o) h h':=by
 have hx:∀b,H b=none→b≠x:=fun b n z=>by subst z;rw[n]at mu;exact mu
 have hb:∀b,H b=none→b≠e:=fun b n z=>by
  subst z
  rcases he with r|r
  ·exact hx b n r
  ·rw[n]at r;cases r
 have hm:∀b u,H b=some u→¬Mut (some u)→b≠x:=fun b u q nm z=>by subst z;rw[q]at mu;exact nm mu
 refine⟨fun b u q n _ _=>k b u (hb b n) q,fun b u q n _ _=>⟨u.slots,k b u (hb b n) q⟩,fun b u q n _=>by rw[upd_ne (hx b n)];exact n,fun b u q _=>?_,
  fun b xs q=>by rw[upd_ne (hm b _ q fun z=>z)];exact q,fun b u xs q=>by rw[upd_ne (hm b _ q fun z=>z)];exact q,fun b ps q=>⟨#[],by rw[upd_ne (hm b _ q fun z=>z),q];simp⟩⟩
 by_cases hbe:b=e
 ·subst hbe;exact heo
 ·exact⟨u,k b u hbe q⟩
theorem Un.mono(u:Un fs ex H H1 h h1)(hs:∀b∈fs,b∈fs')(hx:∀b∈ex,b∈ex'):Un fs' ex' H H1 h h1:=
 ⟨fun b ob q n hb he=>u.keep b ob q n (fun z=>hb (hs b z)) fun z=>he (hx b z),fun _ _ q n _ he=>u.any q n fun z=>he (hx _ z),fun b ob q n he=>u.free b ob q n fun z=>he (hx b z),fun b ob q he=>u.there b ob q fun z=>he (hx b z),u.tups,u.frzs,u.tbls⟩
end
def trk(h:Heap)(H:Hp):List Addr:=(List.range h.objs.size).filter fun a=>(H a).isSome
def hidT(h:Heap)(H:Hp):Heap:=PySem.W.hideAll h (trk h H)
theorem hidT_size(h:Heap)(H:Hp):(hidT h H).objs.size=h.objs.size:=PySem.W.hideAll_size _ _
theorem hidT_get{h:Heap}{H:Hp}{b:Addr}{o:Obj}(e:h.get? b=some o)(n:H b=none):(hidT h H).get? b=some o:=
 PySem.W.hideAll_get _ e fun hm=>by
  have q:(H b).isSome=true:=(List.mem_filter.mp hm).2
  rw[n]at q;simp at q
theorem of_hidT{h:Heap}{H:Hp}{b:Addr}{o:Obj}(e:(hidT h H).get? b=some o):h.get? b=some o∧H b=none:=by
 have e':h.get? b=some o:=PySem.W.of_hideAll (trk h H) e
 refine⟨e',?_⟩
 cases q:H b with
 | none=>rfl
 | some x=>
  have hm:b∈trk h H:=List.mem_filter.mpr ⟨List.mem_range.mpr (Heap.lt_size e'),by simp[q]⟩
  have z:(hidT h H).get? b=none:=PySem.W.hideAll_none (trk h H) hm
  rw[z]at e;cases e
def allNews(g h:Heap)(L:Addr):List (Addr×Obj):=(List.range h.objs.size).filterMap fun a=>if a=L∨(g.get? a).isSome=true then none else(h.get? a).map fun o=>(a,o)
def rest(g h:Heap)(L d:Addr):List (Addr×Obj):=(allNews g h L).filter fun p=>decide (p.1≠d)
end L2
namespace L2
open PySem PySem.Spec PyProof.Rows
structure Mod(K:PySem.W.Frag)(mg:Str→Option Value)(base:Heap):Prop where
 kin:K.In base
 glob:base.Ns mainGlobals mg
 blt:∃mb,base.Ns builtinsNs mb∧∀x:Str,x≠"__name__"→mb x=bootBuiltins x
 nolimit:base.NoLimit
structure Cx where
 prog:Program
 w:World
 K:PySem.W.Frag
 mg:Str→Option Value
 base:Heap
 A:Around
 N:List Str
 s₀:Shared
 H₀:Hp
 env:Env
 outer:List Env
 stack:List Env
 ex:List Addr
 fn:Str→Bool
 calm:Bool
 pn:List (Addr×Obj)
 xe:Value→Shared→Prop
def frs(l:List Env):List Addr:=l.filterMap (·.frame)
abbrev Cx.fs(X:Cx):List Addr:=frs X.outer
def Vis(sc:Scope)(x:Str):Prop:=sc.names.lookup x=some .local∨sc.names.lookup x=some .cell∨sc.names.lookup x=some .free
def Loc(sc:Scope)(x:Str):Prop:=sc.names.lookup x=some .local∨sc.names.lookup x=some .cell
def Look(env:Env)(h:Heap)(m:Str→Option Value)(x:Str)(u:Value):Prop:=
 (env.kindOf x=some .local∧m x=some u)∨((env.kindOf x=some .cell∨env.kindOf x=some .free)∧∃c,env.cells.lookup x=some c∧h.IsCell c (some u))
structure Cx.Ok(X:Cx):Prop where
 mod:Mod X.K X.mg X.base
 kind:X.env.scope.kind=.function
 glob:X.env.globals=mainGlobals
 blt:X.env.builtins=builtinsNs
 above:X.s₀.heap.objs.size≤X.env.locals
 inj:∀x y c,X.env.cells.lookup x=some c→X.env.cells.lookup y=some c→x=y
 has:∀x,(X.env.kindOf x=some .cell∨X.env.kindOf x=some .free)→∃c,X.env.cells.lookup x=some c
 cab:∀x c,X.fn x=true→X.env.cells.lookup x=some c→X.s₀.heap.objs.size≤c
 hd:X.calm=true→X.A.handled=none
 frames:X.A.frames=some X.stack
 stk:X.stack=X.outer∨(X.stack=X.env::X.outer∧X.env.frame=some X.env.locals)
 exf:∀b∈X.ex,b≠X.env.locals∧∀x c,X.env.cells.lookup x=some c→c≠b
 bs:∀b o,X.base.get? b=some o→X.s₀.heap.get? b=some o∧X.H₀ b=none
 bsz:X.base.objs.size≤X.s₀.heap.objs.size
 noex:∀b o,X.base.get? b=some o→b∉X.ex
 exfs:∀b∈X.ex,b∉X.fs
 funs:X.s₀.heap.FunFrames X.base X.outer
 frf:∀b∈X.fs,X.H₀ b=none
structure Inv(X:Cx)(pins:List (Addr×Obj))(σ:List (Option V))(H:Hp)(s:Shared):Prop where
 ok:X.Ok
 os:s.os=X.s₀.os
 bare:AllBare s.gens
 base:Un X.fs X.ex X.H₀ H X.s₀.heap s.heap
 loc:∃m,s.heap.Ns X.env.locals m∧∀(i:Nat) (x:Str) (v:V),X.N[i]?=some x→σ[i]?=some (some v)→Vis X.env.scope x→∃u,RelV v u∧Look X.env s.heap m x u
 cell:∀x c,X.env.cells.lookup x=some c→∃v,s.heap.IsCell c v
 free:H X.env.locals=none
 freeC:∀x c,X.env.cells.lookup x=some c→H c=none
 pin:∀p∈X.pn++pins,s.heap.get? p.1=some p.2∧H p.1=none∧p.1≠X.env.locals∧p.1∉X.fs∧∀v,p.2.data≠.cell v
 hok:HOk X.prog X.w H s.heap
 len:σ.length=X.N.length
section
variable{X:Cx}{pins:List (Addr×Obj)}{σ:List (Option V)}{H H':Hp}{s:Shared}{h':Heap}
theorem Cx.Ok.nofr(ok:X.Ok){b:Addr}{o:Obj}(e:X.base.get? b=some o):b∉X.fs:=fun hb=>by
 have:=(ok.funs.mem hb).1
 rw[e]at this;cases this
theorem Inv.bs(I:Inv X pins σ H s):∀b o,X.base.get? b=some o→s.heap.get? b=some o∧H b=none:=fun b o e=>
 ⟨I.base.keep b o (I.ok.bs b o e).1 (I.ok.bs b o e).2 (I.ok.nofr e) (I.ok.noex b o e),I.base.free b o (I.ok.bs b o e).1 (I.ok.bs b o e).2 (I.ok.noex b o e)⟩
theorem Inv.bk(I:Inv X pins σ H s):∀b o,X.base.get? b=some o→s.heap.get? b=some o:=fun b o e=>(I.bs b o e).1
theorem Inv.mod(I:Inv X pins σ H s):Mod X.K X.mg X.base:=I.ok.mod
theorem Inv.kIn(I:Inv X pins σ H s):X.K.In s.heap:=I.ok.mod.kin.keeps I.bk
theorem Inv.nolimit(I:Inv X pins σ H s):s.heap.NoLimit:=I.ok.mod.nolimit.keeps I.bk
theorem Inv.fr(I:Inv X pins σ H s):∃m,Fr X.base X.env.locals s.heap m:=
 let ⟨m,hn,_⟩:=I.loc
 ⟨m,hn,I.bk,Nat.le_trans I.ok.bsz I.ok.above⟩
theorem Inv.lt(I:Inv X pins σ H s):X.env.locals<s.heap.objs.size:=let ⟨_,hn,_⟩:=I.loc;hn.lt
theorem Inv.sz(I:Inv X pins σ H s):X.s₀.heap.objs.size≤s.heap.objs.size:=Nat.le_trans I.ok.above (Nat.le_of_lt I.lt)
theorem Inv.nofs(I:Inv X pins σ H s){a:Addr}(h:s.heap.objs.size≤a):a∉X.fs:=fun hb=>by
 obtain⟨_,o,ho,_⟩:=I.ok.funs.mem hb
 exact absurd (Nat.lt_of_lt_of_le (Heap.lt_size ho) (Nat.le_trans I.sz h)) (Nat.lt_irrefl _)
theorem Inv.cne(I:Inv X pins σ H s):∀x c,X.env.cells.lookup x=some c→c≠X.env.locals:=fun x c e z=>by
 obtain⟨v,o,ho,hd⟩:=I.cell x c e
 obtain⟨m,⟨o',es,ep,ho',hd',_⟩,_⟩:=I.loc
 rw[z,ho']at ho;cases ho;rw[hd']at hd;cases hd
theorem Inv.funs(I:Inv X pins σ H s):s.heap.FunFrames X.base X.outer:=by
 have all:∀(l:List Env),(∀b∈frs l,b∈X.fs)→X.s₀.heap.FunFrames X.base l→s.heap.FunFrames X.base l:=by
  intro l
  induction l with
  | nil=>intro _ _;trivial
  | cons env r ih=>
   intro hs hl
   obtain⟨hk,⟨L,o,hf,hn,ho,hd⟩,hr⟩:=hl
   have hL:L∈X.fs:=hs L (by unfold frs;rw[List.filterMap_cons,hf];exact List.mem_cons_self)
   obtain⟨sl,e⟩:=I.base.slot L o ho (I.ok.frf L hL) hL fun z=>I.ok.exfs L z hL
   exact⟨hk,⟨L,_,hf,hn,e,hd⟩,ih (fun b hb=>hs b (by unfold frs;rw[List.filterMap_cons,hf];exact List.mem_cons_of_mem _ hb)) hr⟩
 exact all X.outer (fun _ hb=>hb) I.ok.funs
theorem Inv.stack(I:Inv X pins σ H s):s.heap.FunFrames X.base X.stack:=by
 rcases I.ok.stk with e|⟨e,hf⟩
 ·rw[e];exact I.funs
 ·rw[e]
  obtain⟨m,hn,_⟩:=I.loc
  refine .cons (by rw[I.ok.kind];decide) hf hn ?_ I.funs
  exact Heap.get?_none_of_le (Nat.le_trans I.ok.bsz I.ok.above)
theorem Inv.stkSub(I:Inv X pins σ H s):∀b∈frs X.stack,b∈X.env.locals::X.fs:=fun b hb=>by
 rcases I.ok.stk with e|⟨e,hf⟩
 ·rw[e]at hb;exact List.mem_cons_of_mem _ hb
 ·rw[e]at hb
  unfold frs at hb
  rw[List.filterMap_cons,hf]at hb
  exact hb
theorem Inv.stkFree(I:Inv X pins σ H s):∀b∈frs X.stack,H b=none:=fun b hb=>by
 rcases List.mem_cons.mp (I.stkSub b hb)with e|hb
 ·rw[e];exact I.free
 ·obtain⟨_,o,ho,_⟩:=I.ok.funs.mem hb
  exact I.base.free b o ho (I.ok.frf b hb) fun z=>I.ok.exfs b z hb
theorem Inv.step{g':Array GenState}{t':Nat}{d':Drawn}{ch:List Addr}(I:Inv X pins σ H s)
  (hch:∀b∈ch,(b∈X.ex∨X.s₀.heap.objs.size≤b)∧b≠X.env.locals∧(∀x c,X.env.cells.lookup x=some c→c≠b)∧∀p∈X.pn++pins,p.1≠b)
  (keep:∀b o,b≠X.env.locals→b∉X.fs→b∉ch→s.heap.get? b=some o→H b=none→h'.get? b=some o)
  (slot:∀b o,b≠X.env.locals→b∈X.fs→b∉ch→s.heap.get? b=some o→H b=none→∃sl,h'.get? b=some { o with slots:=sl }) (free:∀b o,b∉ch→s.heap.get? b=some o→H b=none→H' b=none)
  (there:∀b o,b∉ch→s.heap.get? b=some o→∃o',h'.get? b=some o')
  (tups:∀b xs,H b=some (.tup xs)→H' b=some (.tup xs)) (frzs:∀b o u,H b=some (.frz o u)→H' b=some (.frz o u)) (tbls:∀b ps,H b=some (.tbl ps)→∃more,H' b=some (.tbl (ps++more)))
  (ns:∀m,s.heap.Ns X.env.locals m→h'.Ns X.env.locals m) (hok:HOk X.prog X.w H' h') (hg:AllBare g'):
  Inv X pins σ H' { s with heap:=h',gens:=g',drawn:=d',toks:=t' }:=by
 have neL:∀b o,X.s₀.heap.get? b=some o→b≠X.env.locals:=fun b o e=>Nat.ne_of_lt (Nat.lt_of_lt_of_le (Heap.lt_size e) I.ok.above)
 have neC:∀b o,X.s₀.heap.get? b=some o→b∉X.ex→b∉ch:=fun b o e hx hb=>by
  rcases(hch b hb).1 with z|z
  ·exact hx z
  ·exact absurd (Nat.lt_of_lt_of_le (Heap.lt_size e) z) (Nat.lt_irrefl _)
 have cellK:∀x c,X.env.cells.lookup x=some c→∀v,s.heap.IsCell c v→h'.IsCell c v:=fun x c e v ⟨o,ho,hd⟩=>by
  have nch:c∉ch:=fun z=>(hch c z).2.2.1 x c e rfl
  by_cases hc:c∈X.fs
  ·obtain⟨sl,q⟩:=slot c o (I.cne x c e) hc nch ho (I.freeC x c e)
   exact⟨_,q,hd⟩
  ·exact⟨o,keep c o (I.cne x c e) hc nch ho (I.freeC x c e),hd⟩
 refine⟨I.ok,I.os,hg,⟨fun b o e n hb hx=>?_,fun b o e n hb hx=>?_,fun b o e n hx=>?_,fun b o e hx=>?_,fun b xs e=>tups b xs (I.base.tups b xs e),fun b o xs e=>frzs b o xs (I.base.frzs b o xs e),fun b ps e=>?_⟩,?_,fun x c e=>?_,?_,fun x c e=>?_,fun p hp=>?_,hok,I.len⟩
 ·exact keep b o (neL b o e) hb (neC b o e hx) (I.base.keep b o e n hb hx) (I.base.free b o e n hx)
 ·obtain⟨sl,e1⟩:=I.base.slot b o e n hb hx
  obtain⟨sl',e2⟩:=slot b _ (neL b o e) hb (neC b o e hx) e1 (I.base.free b o e n hx)
  exact⟨sl',e2⟩
 ·obtain⟨o',e1⟩:=I.base.there b o e hx
  exact free b o' (neC b o e hx) e1 (I.base.free b o e n hx)
 ·obtain⟨o',e1⟩:=I.base.there b o e hx
  exact there b o' (neC b o e hx) e1
 ·obtain⟨m1,e1⟩:=I.base.tbls b ps e
  obtain⟨m2,e2⟩:=tbls b _ e1
  exact⟨m1++m2,by rw[e2,Array.append_assoc]⟩
 ·obtain⟨m,hn,hl⟩:=I.loc
  refine⟨m,ns m hn,fun i x v e1 e2 e3=>?_⟩
  obtain⟨u,r,l⟩:=hl i x v e1 e2 e3
  refine⟨u,r,?_⟩
  rcases l with l|⟨k,c,e,z⟩
  ·exact .inl l
  ·exact .inr ⟨k,c,e,cellK x c e _ z⟩
 ·obtain⟨v,z⟩:=I.cell x c e
  exact⟨v,cellK x c e v z⟩
 ·obtain⟨m,⟨o,_,_,ho,_⟩,_⟩:=I.loc
  exact free _ o (fun z=>(hch _ z).2.1 rfl) ho I.free
 ·obtain⟨v,o,ho,hd⟩:=I.cell x c e
  exact free c o (fun z=>(hch c z).2.2.1 x c e rfl) ho (I.freeC x c e)
 ·obtain⟨e,n,ne,nf,d⟩:=I.pin p hp
  have nch:p.1∉ch:=fun z=>(hch p.1 z).2.2.2 p hp rfl
  exact⟨keep p.1 p.2 ne nf nch e n,free p.1 p.2 nch e n,ne,nf,d⟩
theorem Inv.un{t':Nat}(I:Inv X pins σ H s)(u:Un X.fs [] H H' s.heap h')(hok:HOk X.prog X.w H' h'):Inv X pins σ H' { s with heap:=h',toks:=t' }:=by
 obtain⟨m,⟨o,es,ep,ho,r⟩,_⟩:=id I.loc
 obtain⟨sl,hL⟩:=u.any ho I.free (by simp)
 exact I.step (g':=s.gens) (d':=s.drawn) (ch:=[]) (fun _ z=>nomatch z) (fun b o _ hb _ e n=>u.keep b o e n hb (by simp)) (fun b o _ hb _ e n=>u.slot b o e n hb (by simp)) (fun b o _ e n=>u.free b o e n (by simp)) (fun b o _ e=>u.there b o e (by simp)) u.tups u.frzs u.tbls (fun m' hm=>by
  obtain⟨o',es',ep',ho',r'⟩:=hm
  rw[ho]at ho';cases ho'
  exact⟨_,es',ep',hL,r'⟩) hok I.bare
theorem Inv.call{g':Array GenState}{t':Nat}{d':Drawn}{ch:List Addr}(I:Inv X pins σ H s)(u:Un (frs X.stack) ch H H' s.heap h')(hok:HOk X.prog X.w H' h')(hg:AllBare g')
  (hch:∀b∈ch,(b∈X.ex∨X.s₀.heap.objs.size≤b)∧b≠X.env.locals∧(∀x c,X.env.cells.lookup x=some c→c≠b)∧∀p∈X.pn++pins,p.1≠b):
  Inv X pins σ H' { s with heap:=h',gens:=g',drawn:=d',toks:=t' }:=by
 obtain⟨m,⟨o,es,ep,ho,r⟩,_⟩:=id I.loc
 obtain⟨sl,hL⟩:=u.any ho I.free fun z=>(hch _ z).2.1 rfl
 exact I.step (ch:=ch) hch (fun b o hL hb hc e n=>u.keep b o e n (fun z=>(List.mem_cons.mp (I.stkSub b z)).elim hL hb) hc) (fun b o _ _ hc e n=>u.any e n hc) (fun b o hc e n=>u.free b o e n hc) (fun b o hc e=>u.there b o e hc) u.tups u.frzs u.tbls (fun m' hm=>by
  obtain⟨o',es',ep',ho',r'⟩:=hm
  rw[ho]at ho';cases ho'
  exact⟨_,es',ep',hL,r'⟩) hok hg
theorem Inv.turned{t':Nat}{it:Addr}(I:Inv X pins σ H s)(k:∀b o,b≠it→s.heap.get? b=some o→h'.get? b=some o)(hn:H it=none)(hL:it≠X.env.locals)
  (h1:it∈X.ex∨X.s₀.heap.objs.size≤it) (h2:∀x c,X.env.cells.lookup x=some c→c≠it) (h3:∀p∈X.pn++pins,p.1≠it):Inv X pins σ H { s with heap:=h',toks:=t' }:=by
 have nit:∀b u,H b=some u→b≠it:=fun b u e z=>by rw[z,hn]at e;cases e
 refine I.step (g':=s.gens) (d':=s.drawn) (ch:=[it]) (fun b hb=>?_) (fun b o _ _ hc e _=>k b o (fun z=>hc (by simp[z])) e) (fun b o _ _ hc e _=>⟨o.slots,k b o (fun z=>hc (by simp[z])) e⟩) (fun _ _ _ _ n=>n)
  (fun b o hc e=>⟨o,k b o (fun z=>hc (by simp[z])) e⟩) (fun _ _ e=>e) (fun _ _ _ e=>e) (fun b ps e=>⟨#[],by rw[e];simp⟩) (fun m hm=>?_) (fun b u e=>?_) I.bare
 ·have e:b=it:=by simpa using hb
  subst e
  exact⟨h1,hL,h2,h3⟩
 ·obtain⟨o,es,ep,ho,r⟩:=hm
  exact⟨o,es,ep,k _ o (Ne.symm hL) ho,r⟩
 ·refine(I.hok b u e).stay (fun c v hc q=>k c v ?_ q) (fun _ q=>q) fun _ _ q=>q
  rcases hc with z|z
  ·rw[z];exact nit b u e
  ·exact nit c _ z
theorem Inv.tok(I:Inv X pins σ H s)(t:Nat):Inv X pins σ H { s with toks:=t }:=I.un (h':=s.heap) (t':=t) Un.refl I.hok
theorem Inv.kept{t':Nat}(I:Inv X pins σ H s)(k:∀b u,s.heap.get? b=some u→h'.get? b=some u):Inv X pins σ H { s with heap:=h',toks:=t' }:=I.un (Un.kept k) (I.hok.kept k)
theorem Inv.laid{a:Addr}{o:HO}{t':Nat}(I:Inv X pins σ H s)(k:∀b u,s.heap.get? b=some u→h'.get? b=some u)(hp:s.heap.objs.size≤a)(new:ObjOk X.prog X.w (upd H a o) h' a o):
  Inv X pins σ (upd H a o) { s with heap:=h',toks:=t' }:=I.un (Un.laid k hp (I.hok.fresh hp)) (I.hok.laid k hp new)
theorem Inv.write{x e:Addr}{o:HO}{t':Nat}(I:Inv X pins σ H s)(mu:Mut (H x))(he:e=x∨H e=some (.own x))(k:∀b u,b≠e→s.heap.get? b=some u→h'.get? b=some u)(heo:∃u,h'.get? e=some u)
  (new:ObjOk X.prog X.w (upd H x o) h' x o):Inv X pins σ (upd H x o) { s with heap:=h',toks:=t' }:=I.un (Un.write mu he k heo) (I.hok.write mu he k heo new)
theorem Inv.weak{σ':List (Option V)}(I:Inv X pins σ H s)(hl:σ'.length=σ.length)(w:∀(i:Nat) v,σ'[i]?=some (some v)→σ[i]?=some (some v)):Inv X pins σ' H s:=
 ⟨I.ok,I.os,I.bare,I.base,let ⟨m,hn,hl'⟩:=I.loc;⟨m,hn,fun i x v e1 e2 e3=>hl' i x v e1 (w i v e2) e3⟩,I.cell,I.free,I.freeC,I.pin,I.hok,hl.trans I.len⟩
theorem Inv.pins_of{pins':List (Addr×Obj)}(I:Inv X pins σ H s)(h:∀p∈pins',s.heap.get? p.1=some p.2∧H p.1=none∧p.1≠X.env.locals∧p.1∉X.fs∧∀v,p.2.data≠.cell v):Inv X pins' σ H s:=
 ⟨I.ok,I.os,I.bare,I.base,I.loc,I.cell,I.free,I.freeC,fun p hp=>(List.mem_append.mp hp).elim (fun z=>I.pin p (List.mem_append_left _ z)) (h p),I.hok,I.len⟩
theorem zaef{N:List Str}(hN:N.Nodup){i j:Nat}{x:Str}(a:N[i]?=some x)(b:N[j]?=some x):i=j:=by
 obtain⟨h1,e1⟩:=List.getElem?_eq_some_iff.mp a
 obtain⟨h2,e2⟩:=List.getElem?_eq_some_iff.mp b
 exact(List.getElem_inj hN).mp (e1.trans e2.symm)
theorem zafe{M:Model}{A:Around}{E:Value→Shared→Prop}{i:Nat}{x:Str}{v:V}{u:Value}{Q:Unit→Shared→Prop}(I:Inv X pins σ H s)(hN:X.N.Nodup)(hi:X.N[i]?=some x)(hx:Loc X.env.scope x)(r:RelV v u)
  (h:∀s',Inv X pins (σ.set i (some v)) H s'→(∃a,Heap.SameBut a s.heap s'.heap∧(a=X.env.locals∨X.env.cells.lookup x=some a))→Q () s') (hf:X.fn x=true∨X.env.scope.names.lookup x=some .local:=by first|exact .inl rfl|exact .inr rfl|assumption):wpAny M A (storeName X.env x u) Q E s:=by
 obtain⟨m,hn,hl⟩:=id I.loc
 have hcls:(X.env.scope.kind==.class||(X.env.scope.kind==.module&&X.env.locals != X.env.globals))=false:=by rw[I.ok.kind];rfl
 have hiσ:i<σ.length:=by rw[I.len];exact(List.getElem?_eq_some_iff.mp hi).1
 have cne:=I.cne
 have tracked:∀{a:Addr}{h':Heap},(∃o,s.heap.get? a=some o∧H a=none)→Heap.SameBut a s.heap h'→HOk X.prog X.w H h':=fun {a h'} ha hs b ob e=>by
  obtain⟨_,_,hfree⟩:=ha
  refine(I.hok b ob e).stay (fun c w' hc q=>(hs.2 c ?_).trans q) (fun _ q=>q) fun _ _ q=>q
  rintro rfl
  rcases hc with rfl|hc
  ·rw[hfree]at e;cases e
  ·rw[hfree]at hc;cases hc
 rcases hx with hk|hk
 ·refine wpAny_storeName_local hk hn (fun h' hn' hs=>?_) hcls
  obtain⟨oL,_,_,hoL,_⟩:=id hn
  refine h _ ⟨I.ok,I.os,I.bare,⟨fun b o e n hb hx=>?_,fun b o e n hb hx=>?_,I.base.free,fun b o e hx=>?_,I.base.tups,I.base.frzs,I.base.tbls⟩,⟨_,hn',fun j y v' e1 e2 e3=>?_⟩,fun y c e=>?_,I.free,I.freeC,fun p hp=>?_,tracked ⟨oL,hoL,I.free⟩ hs,by simpa using I.len⟩ ⟨_,hs,.inl rfl⟩
  ·exact(hs.2 b (Nat.ne_of_lt (Nat.lt_of_lt_of_le (Heap.lt_size e) I.ok.above))).trans (I.base.keep b o e n hb hx)
  ·obtain⟨sl,e1⟩:=I.base.slot b o e n hb hx
   exact⟨sl,(hs.2 b (Nat.ne_of_lt (Nat.lt_of_lt_of_le (Heap.lt_size e) I.ok.above))).trans e1⟩
  ·obtain⟨o',e1⟩:=I.base.there b o e hx
   exact⟨o',(hs.2 b (Nat.ne_of_lt (Nat.lt_of_lt_of_le (Heap.lt_size e) I.ok.above))).trans e1⟩
  ·by_cases hj:j=i
   ·subst hj
    rw[hi]at e1;cases e1
    rw[List.getElem?_set_self hiσ]at e2
    cases e2
    exact⟨u,r,.inl ⟨hk,by simp⟩⟩
   ·rw[List.getElem?_set_ne (Ne.symm hj)]at e2
    obtain⟨u',r',q⟩:=hl j y v' e1 e2 e3
    refine⟨u',r',?_⟩
    rcases q with⟨k,e⟩|⟨k,c,e,z⟩
    ·refine .inl ⟨k,?_⟩
     have:y≠x:=fun e=>hj (zaef hN e1 (e▸hi))
     simp[this,e]
    ·exact .inr ⟨k,c,e,z.sameBut hs (cne y c e)⟩
  ·obtain⟨w',z⟩:=I.cell y c e
   exact⟨w',z.sameBut hs (cne y c e)⟩
  ·obtain⟨e,n,ne,nf,d⟩:=I.pin p hp
   exact⟨(hs.2 p.1 ne).trans e,n,ne,nf,d⟩
 ·have hfn:X.fn x=true:=by
   rcases hf with z|z
   ·exact z
   ·rw[z]at hk;cases hk
  obtain⟨c,hc⟩:=I.ok.has x (.inl hk)
  obtain⟨w',z⟩:=I.cell x c hc
  refine wpAny_storeName_cell I.ok.kind hk hc z (fun h' hc' hs=>?_)
  obtain⟨oc,hoc,hocd⟩:=id z
  refine h { s with heap:=h' } ⟨I.ok,I.os,I.bare,⟨fun b o e n hb hx=>?_,fun b o e n hb hx=>?_,I.base.free,fun b o e hx=>?_,I.base.tups,I.base.frzs,I.base.tbls⟩,⟨m,hn.sameBut hs (Ne.symm (cne x c hc)),fun j y v' e1 e2 e3=>?_⟩,fun y c' e=>?_,I.free,I.freeC,fun p hp=>?_,tracked ⟨oc,hoc,I.freeC x c hc⟩ hs,by simpa using I.len⟩ ⟨c,hs,.inr hc⟩
  ·exact(hs.2 b (Nat.ne_of_lt (Nat.lt_of_lt_of_le (Heap.lt_size e) (I.ok.cab x c hfn hc)))).trans (I.base.keep b o e n hb hx)
  ·obtain⟨sl,e1⟩:=I.base.slot b o e n hb hx
   exact⟨sl,(hs.2 b (Nat.ne_of_lt (Nat.lt_of_lt_of_le (Heap.lt_size e) (I.ok.cab x c hfn hc)))).trans e1⟩
  ·obtain⟨o',e1⟩:=I.base.there b o e hx
   exact⟨o',(hs.2 b (Nat.ne_of_lt (Nat.lt_of_lt_of_le (Heap.lt_size e) (I.ok.cab x c hfn hc)))).trans e1⟩
  ·by_cases hj:j=i
   ·subst hj
    rw[hi]at e1;cases e1
    rw[List.getElem?_set_self hiσ]at e2
    cases e2
    exact⟨u,r,.inr ⟨.inl hk,c,hc,hc'⟩⟩
   ·rw[List.getElem?_set_ne (Ne.symm hj)]at e2
    obtain⟨u',r',q⟩:=hl j y v' e1 e2 e3
    refine⟨u',r',?_⟩
    rcases q with q|⟨k,c',e,z'⟩
    ·exact .inl q
    ·refine .inr ⟨k,c',e,z'.sameBut hs ?_⟩
     rintro rfl
     exact hj (zaef hN e1 (I.ok.inj _ _ _ e hc▸hi))
  ·by_cases hcc:c'=c
   ·subst hcc;exact⟨_,hc'⟩
   ·obtain⟨w2,z2⟩:=I.cell y c' e
    exact⟨w2,z2.sameBut hs hcc⟩
  ·obtain⟨e,n,ne,nf,d⟩:=I.pin p hp
   refine⟨(hs.2 p.1 ?_).trans e,n,ne,nf,d⟩
   intro q
   rw[q,hoc]at e
   have q':oc=p.2:=Option.some.inj e
   exact d w' (by rw[←q'];exact hocd)
theorem zaf9{M:Model}{A:Around}{E:Value→Shared→Prop}{i:Nat}{x:Str}{v:V}{u:Value}{Q:Unit→Shared→Prop}(I:Inv X pins σ H s)(hN:X.N.Nodup)(hi:X.N[i]?=some x)(hx:Loc X.env.scope x)(r:RelV v u)
  (h:∀s',Inv X pins (σ.set i (some v)) H s'→Q () s') (hf:X.fn x=true∨X.env.scope.names.lookup x=some .local:=by first|exact .inl rfl|exact .inr rfl|assumption):wpAny M A (storeName X.env x u) Q E s:=
 zafe I hN hi hx r (fun s' I' _=>h s' I') hf
theorem Inv.call'{s':Shared}{ch:List Addr}(I:Inv X pins σ H s)(ho:s'.os=s.os)(u:Un (frs X.stack) ch H H' s.heap s'.heap)(hok:HOk X.prog X.w H' s'.heap)(hg:AllBare s'.gens)
  (hch:∀b∈ch,(b∈X.ex∨X.s₀.heap.objs.size≤b)∧b≠X.env.locals∧(∀x c,X.env.cells.lookup x=some c→c≠b)∧∀p∈X.pn++pins,p.1≠b):Inv X pins σ H' s':=by
 obtain⟨h',g',d',t',o'⟩:=s'
 have e:o'=s.os:=ho
 subst e
 exact I.call (g':=g') (t':=t') (d':=d') u hok hg hch
end
abbrev XK:=Value→Option Addr→Hp→Prop
abbrev St:=List (Option V)
abbrev VK:=V→Hp→Prop
abbrev TE:=St→Hp→VK→Prop
abbrev TT:=St→Hp→(Bool→Hp→Prop)→Prop
abbrev TA:=St→Hp→(List V→Hp→Prop)→Prop
structure Ends where
 nx:St→Hp→Prop
 rt:VK
 bk:St→Hp→Prop:=fun _ _=>False
 ct:St→Hp→Prop:=fun _ _=>False
abbrev TS:=Ends→St→Hp→Prop
def EP(X:Cx)(pins:List (Addr×Obj))(σ:St)(Q:VK)(u:Value)(s':Shared):Prop:=∃v H',Inv X pins σ H' s'∧RelV v u∧Q v H'
def TP(X:Cx)(pins:List (Addr×Obj))(σ:St)(Q:Bool→Hp→Prop)(b:Bool)(s':Shared):Prop:=∃H',Inv X pins σ H' s'∧Q b H'
def AP(X:Cx)(pins:List (Addr×Obj))(σ:St)(Q:List V→Hp→Prop)(us:List Value)(s':Shared):Prop:=∃vs H',Inv X pins σ H' s'∧Vals vs us∧Q vs H'
def SP(X:Cx)(pins:List (Addr×Obj))(D:Ends)(f:Flow)(s':Shared):Prop:=
 match f with
 | .next=>∃σ' H',Inv X pins σ' H' s'∧D.nx σ' H'
 | .brk=>∃σ' H',Inv X pins σ' H' s'∧D.bk σ' H'
 | .cont=>∃σ' H',Inv X pins σ' H' s'∧D.ct σ' H'
 | .ret u=>∃v σ' H',Inv X pins σ' H' s'∧RelV v u∧D.rt v H'
def PE(X:Cx)(e:Expr)(t:TE):Prop:=
 ∀(pins:List (Addr×Obj)) (s:Shared) (σ:St) (H:Hp) (Q:VK),Inv X pins σ H s→t σ H Q→wpAny (model X.prog X.w) X.A (eval e X.env) (EP X pins σ Q) X.xe s
def PT(X:Cx)(e:Expr)(t:TT):Prop:=
 ∀(pins:List (Addr×Obj)) (s:Shared) (σ:St) (H:Hp) (Q:Bool→Hp→Prop),Inv X pins σ H s→t σ H Q→wpAny (model X.prog X.w) X.A (isTrue e X.env (eval e X.env)) (TP X pins σ Q) X.xe s
def PW(X:Cx)(e:Expr)(t:TT):Prop:=
 ∀(whole:Sem Value) (pins:List (Addr×Obj)) (s:Shared) (σ:St) (H:Hp) (Q:Bool→Hp→Prop),Inv X pins σ H s→t σ H Q→wpAny (model X.prog X.w) X.A (isTrue e X.env whole) (TP X pins σ Q) X.xe s
theorem PW.pt{X:Cx}{e:Expr}{t:TT}(h:PW X e t):PT X e t:=h _
def PA(X:Cx)(es:List Expr)(t:TA):Prop:=
 ∀(pos:Pos) (pins:List (Addr×Obj)) (s:Shared) (σ:St) (H:Hp) (Q:List V→Hp→Prop),Inv X pins σ H s→t σ H Q→wpAny (model X.prog X.w) X.A (spliced (backTo pos (starEach es X.env))) (AP X pins σ Q) X.xe s
def PS(X:Cx)(st:Stmt)(t:TS):Prop:=
 ∀(pins:List (Addr×Obj)) (s:Shared) (σ:St) (H:Hp) (D:Ends),Inv X pins σ H s→t D σ H→wpAny (model X.prog X.w) X.A (exec st X.env) (SP X pins D) X.xe s
def PSs(X:Cx)(st:List Stmt)(t:TS):Prop:=
 ∀(pins:List (Addr×Obj)) (s:Shared) (σ:St) (H:Hp) (D:Ends),Inv X pins σ H s→t D σ H→wpAny (model X.prog X.w) X.A (execs st X.env) (SP X pins D) X.xe s
theorem thn{α:Type}{t:Sem α}{Q Q':α→Shared→Prop}{M:Model}{A:Around}{E:Value→Shared→Prop}{s:Shared}(h:wpAny M A t Q E s)(hQ:∀a s,Q a s→Q' a s):wpAny M A t Q' E s:=wpAny_mono h hQ fun _ _ x=>x
end L2
namespace L2
open PySem PySem.Spec PyProof.Rows
section
variable{X:Cx}
theorem bin{a b:Expr}{ta tb:TE}(ha:PE X a ta)(hb:PE X b tb){pins:List (Addr×Obj)}{s:Shared}{σ:St}{H:Hp}{R:V→V→Hp→Prop}(I:Inv X pins σ H s)(h:ta σ H fun x H1=>tb σ H1 fun y H2=>R x y H2)
  {α:Type}{Q:α→Shared→Prop}{f:Value→Value→Sem α}
  (hf:∀v u s2 x y H2,Inv X pins σ H2 s2→RelV x v→RelV y u→R x y H2→wpAny (model X.prog X.w) X.A (f v u) Q X.xe s2):
  wpAny (model X.prog X.w) X.A (eval a X.env) (fun v s₁=>wpAny (model X.prog X.w) X.A (eval b X.env) (fun u s₂=>wpAny (model X.prog X.w) X.A (f v u) Q X.xe s₂) X.xe s₁) X.xe s:=by
 refine thn (ha pins s σ H _ I h) fun v s1 ⟨x,H1,I1,r1,q1⟩=>?_
 refine thn (hb pins s1 σ H1 _ I1 q1) fun u s2 ⟨y,H2,I2,r2,q2⟩=>?_
 exact hf v u s2 x y H2 I2 r1 r2 q2
def tVar(i:Nat):TE:=fun σ H Q=>∃v,σ[i]?=some (some v)∧Q v H
def tC(v:V):TE:=fun _ H Q=>Q v H
theorem pe_var{i:Nat}{x:Str}{pos:Pos}(hN:X.N[i]?=some x)(hv:Vis X.env.scope x)(hd:(x==("__debug__":Str))=false:=by decide)(hcd:(x==("__classdict__":Str))=false:=by decide):PE X (.Name x pos) (tVar i):=by
 intro pins s σ H Q I h
 obtain⟨v,e,h⟩:=h
 obtain⟨m,hn,hl⟩:=I.loc
 obtain⟨u,r,l⟩:=hl i x v hN e hv
 have fin:EP X pins σ Q u s:=⟨v,H,I,r,h⟩
 rcases l with⟨hk,hm⟩|⟨hk,c,hc,hcell⟩
 ·exact wpAny_Name (wpAny_loadName_local I.ok.kind hk hn hm fin) hd
 ·rcases hk with hk|hk
  ·exact wpAny_Name (wpAny_loadName_cell I.ok.kind hk hc hcell fin) hd
  ·exact wpAny_Name (wpAny_loadName_free I.ok.kind hk hc hcell fin hcd) hd
theorem pe_int{i j pos}:PE X (.Constant (.int i) j pos) (tC (.int i)):=fun _ _ _ H _ I h=>wpAny_Constant_int ⟨.int i,H,I.tok _,⟨_,rfl⟩,h⟩
theorem pe_bl{b j pos}:PE X (.Constant (.bool b) j pos) (tC (.bl b)):=fun _ _ _ H _ I h=>Constant_bool ⟨.bl b,H,I,rfl,h⟩
theorem pe_non{j pos}:PE X (.Constant .none j pos) (tC .non):=fun _ _ _ H _ I h=>Constant_none ⟨.non,H,I,rfl,h⟩
theorem pe_str{x j pos}:PE X (.Constant (.str x) j pos) (tC (.str x)):=fun _ _ _ H _ I h=>Calls.Constant_str ⟨.str x,H,I.tok _,⟨_,rfl⟩,h⟩
def Gl(X:Cx)(x:Str):Prop:=X.env.kindOf x=some .globalImplicit
theorem zadi{E:Value→Shared→Prop}{pins:List (Addr×Obj)}{s:Shared}{σ:St}{H:Hp}{x:Str}{u:Value}{pos:Pos}{Q:Value→Shared→Prop}(I:Inv X pins σ H s)(hg:Gl X x)(hm:X.mg x=some u)(h:Q u s)
  (hd:(x==("__debug__":Str))=false:=by decide):wpAny (model X.prog X.w) X.A (eval (.Name x pos) X.env) Q E s:=
 Calls.Name_function_global I.ok.kind hg (Calls.loadGlobal_global (by rw[I.ok.glob];exact I.mod.glob.keeps I.bk) hm h) hd
theorem ld_blt{E:Value→Shared→Prop}{pins:List (Addr×Obj)}{s:Shared}{σ:St}{H:Hp}{x:Str}{u:Value}{pos:Pos}{Q:Value→Shared→Prop}(I:Inv X pins σ H s)(hg:Gl X x)(hm:X.mg x=none)(hv:bootBuiltins x=some u)(h:Q u s)
  (hn:x≠"__name__":=by decide) (hd:(x==("__debug__":Str))=false:=by decide):wpAny (model X.prog X.w) X.A (eval (.Name x pos) X.env) Q E s:=by
 obtain⟨mb,h1,h2⟩:=I.mod.blt
 exact Calls.Name_function_global I.ok.kind hg (Calls.loadGlobal_builtin (by rw[I.ok.glob];exact I.mod.glob.keeps I.bk) hm (by rw[I.ok.blt];exact h1.keeps I.bk) ((h2 x hn).trans hv) h) hd
theorem pe_glob{x:Str}{v:V}{u:Value}{pos:Pos}(hg:Gl X x)(hm:X.mg x=some u)(r:RelV v u)(hd:(x==("__debug__":Str))=false:=by decide):PE X (.Name x pos) (tC v):=
 fun _ _ _ H _ I h=>zadi I hg hm ⟨v,H,I,r,h⟩ hd
theorem pe_bltn{x:Str}{v:V}{u:Value}{pos:Pos}(hg:Gl X x)(hm:X.mg x=none)(hv:bootBuiltins x=some u)(r:RelV v u)(hn:x≠"__name__":=by decide)(hd:(x==("__debug__":Str))=false:=by decide):PE X (.Name x pos) (tC v):=
 fun _ _ _ H _ I h=>ld_blt I hg hm hv ⟨v,H,I,r,h⟩ hn hd
variable{a b:Expr}{ta tb:TE}{pos:Pos}
variable{tA tB':TT}{rest:List Expr}
def tAnd(t u:TT):TT:=fun σ H Q=>t σ H fun c H1=>if c=true then u σ H1 Q else Q false H1
def tOr(t u:TT):TT:=fun σ H Q=>t σ H fun c H1=>if c=true then Q true H1 else u σ H1 Q
def tNot(t:TT):TT:=fun σ H Q=>t σ H fun c H1=>Q (!c) H1
theorem pw_and1(ha:PT X a tA):PW X (.BoolOp .And [a] pos) tA:=by
 intro wh pins s σ H Q I h
 refine isTrue_and (thn (ha pins s σ H Q I h) fun c s1 e=>?_)
 cases c with
 | true=>exact isTrue_and_nil e
 | false=>exact e
theorem pw_or1(ha:PT X a tA):PW X (.BoolOp .Or [a] pos) tA:=by
 intro wh pins s σ H Q I h
 refine isTrue_or (thn (ha pins s σ H Q I h) fun c s1 e=>?_)
 cases c with
 | false=>exact isTrue_or_nil e
 | true=>exact e
theorem pw_and(ha:PT X a tA)(hb:PW X (.BoolOp .And (b::rest) pos) tB'):PW X (.BoolOp .And (a::b::rest) pos) (tAnd tA tB'):=by
 intro wh pins s σ H Q I h
 refine isTrue_and (thn (ha pins s σ H _ I h) fun c s1 ⟨H1,I1,q1⟩=>?_)
 cases c with
 | true=>exact hb wh pins s1 σ H1 Q I1 q1
 | false=>exact⟨H1,I1,q1⟩
theorem pw_or(ha:PT X a tA)(hb:PW X (.BoolOp .Or (b::rest) pos) tB'):PW X (.BoolOp .Or (a::b::rest) pos) (tOr tA tB'):=by
 intro wh pins s σ H Q I h
 refine isTrue_or (thn (ha pins s σ H _ I h) fun c s1 ⟨H1,I1,q1⟩=>?_)
 cases c with
 | true=>exact⟨H1,I1,q1⟩
 | false=>exact hb wh pins s1 σ H1 Q I1 q1
theorem pt_not(ha:PT X a tA):PT X (.UnaryOp .Not a pos) (tNot tA):=by
 intro pins s σ H Q I h
 exact isTrue_not (ha pins s σ H (fun c H1=>Q (!c) H1) I h)
def tAndV(ta tb:TE):TE:=fun σ H Q=>ta σ H fun x H1=>∃c,x=.bl c∧if c=true then tb σ H1 Q else Q (.bl false) H1
theorem pe_one{op}{t:TE}(h:PE X a t):PE X (.BoolOp op [a] pos) t:=fun pins s σ H Q I hw=>BoolOp_one (h pins s σ H Q I hw)
theorem pe_and(ha:PE X a ta)(hb:PE X (.BoolOp .And (b::rest) pos) tb):PE X (.BoolOp .And (a::b::rest) pos) (tAndV ta tb):=by
 intro pins s σ H Q I h
 refine BoolOp_and (thn (ha pins s σ H _ I h) fun v s1 ⟨x,H1,I1,r1,q1⟩=>?_)
 obtain⟨c,rfl,q1⟩:=q1
 cases r1
 refine wpAny_truthy_bool ?_
 cases c with
 | true=>exact hb pins s1 σ H1 Q I1 q1
 | false=>exact⟨.bl false,H1,I1,rfl,q1⟩
def tIf(t:TT)(ta tb:TE):TE:=fun σ H Q=>t σ H fun c H1=>if c=true then ta σ H1 Q else tb σ H1 Q
theorem pe_ifExp{c:Expr}(hc:PT X c tA)(ha:PE X a ta)(hb:PE X b tb):PE X (.IfExp c a b pos) (tIf tA ta tb):=by
 intro pins s σ H Q I h
 refine wpAny_IfExp (thn (hc pins s σ H _ I h) fun d s1 ⟨H1,I1,q1⟩=>?_)
 cases d with
 | true=>exact ha pins s1 σ H1 Q I1 q1
 | false=>exact hb pins s1 σ H1 Q I1 q1
end
end L2
namespace L2
open PySem PySem.Spec PyProof.Rows
def SqL(K:PySem.W.Frag)(H:Hp)(a:Addr)(xs:List V):Prop:=
 Rd H a (.lst xs)∨
  ∃(o:Obj) (its:Array Value) (n:Nat),K.lookup a=some o∧o.cls=.type "list"∧o.dict=none∧o.data=.seq its n∧its.size≤sizeLine∧Vals xs its.toList
def SqT(K:PySem.W.Frag)(H:Hp)(a:Addr)(xs:List V):Prop:=
 Rd H a (.tup xs)∨
  ∃(o:Obj) (its:Array Value) (n:Nat),K.lookup a=some o∧o.cls=.type "tuple"∧o.data=.seq its n∧its.size≤sizeLine∧Vals xs its.toList
def absV:Value→Option V
 | .none=>some .non
 | .bool b=>some (.bl b)
 | .int i _=>some (.int i)
 | .str x _=>some (.str x)
 | .bytes b _=>some (.byt b)
 | .float b _=>some (.flt b)
 | .ref a=>some (.ref a)
 | .type n=>some (.ty n)
 | _=>none
theorem RelV.abs{x:V}{u:Value}(r:RelV x u):absV u=some x:=by
 cases x with
 | non=>cases r;rfl
 | bl _=>cases r;rfl
 | int _=>obtain⟨t,rfl⟩:=r;rfl
 | str _=>obtain⟨t,rfl⟩:=r;rfl
 | byt _=>obtain⟨t,rfl⟩:=r;rfl
 | flt _=>obtain⟨t,rfl⟩:=r;rfl
 | ref _=>cases r;rfl
 | ty _=>cases r;rfl
theorem RelV.inj{x y:V}{u:Value}(r:RelV x u)(q:RelV y u):x=y:=Option.some.inj (r.abs.symm.trans q.abs)
theorem Vals.inj:∀{xs ys:List V}{us:List Value},Vals xs us→Vals ys us→xs=ys
 | _,_,_,.nil,.nil=>rfl
 | _,_,_,.cons r t,.cons r' t'=>by rw[r.inj r',Vals.inj t t']
section
variable{X:Cx}{pins:List (Addr×Obj)}{σ:St}{H:Hp}{s:Shared}{a:Addr}{xs ys:List V}
theorem SqL.of{K:PySem.W.Frag}(h:H a=some (.lst xs)):SqL K H a xs:=.inl (.inl h)
theorem SqT.of{K:PySem.W.Frag}(h:H a=some (.tup xs)):SqT K H a xs:=.inl (.inl h)
theorem Inv.list(I:Inv X pins σ H s)(h:SqL X.K H a xs):∃its:List Value,Vals xs its∧PlainL s.heap a its.toArray∧xs.length≤sizeLine:=by
 rcases h with h|⟨o,its,n,hk,hc,hd,hs,hz,r⟩
 ·obtain⟨z,its,n,r,e⟩:=h.ok I.hok
  exact⟨its,r,⟨_,n,e,rfl,rfl,rfl⟩,z⟩
 ·refine⟨its.toList,r,⟨o,n,I.kIn a o hk,hc,hd,by simpa using hs⟩,?_⟩
  have e:=r.length
  simp only[Array.length_toList]at e
  omega
theorem Inv.tuple(I:Inv X pins σ H s)(h:SqT X.K H a xs):∃its:List Value,Vals xs its∧IsTup s.heap a its.toArray∧xs.length≤sizeLine:=by
 rcases h with h|⟨o,its,n,hk,hc,hs,hz,r⟩
 ·obtain⟨z,its,r,p⟩:=h.ok I.hok
  exact⟨its,r,p,z⟩
 ·refine⟨its.toList,r,⟨o,I.kIn a o hk,hc,n,by simpa using hs⟩,?_⟩
  have e:=r.length
  simp only[Array.length_toList]at e
  omega
theorem Inv.list_inj(I:Inv X pins σ H s)(h:SqL X.K H a xs)(h':SqL X.K H a ys):xs=ys:=by
 obtain⟨its,r,⟨o,n,e,_,_,d⟩,_⟩:=I.list h
 obtain⟨its',r',⟨o',n',e',_,_,d'⟩,_⟩:=I.list h'
 rw[e]at e';cases e'
 rw[d]at d'
 injection d' with d1 _
 have:its=its':=by simpa using congrArg Array.toList d1
 subst this
 exact r.inj r'
theorem Inv.tuple_inj(I:Inv X pins σ H s)(h:SqT X.K H a xs)(h':SqT X.K H a ys):xs=ys:=by
 obtain⟨its,r,⟨o,e,_,n,d⟩,_⟩:=I.tuple h
 obtain⟨its',r',⟨o',e',_,n',d'⟩,_⟩:=I.tuple h'
 rw[e]at e';cases e'
 rw[d]at d'
 injection d' with d1 _
 have:its=its':=by simpa using congrArg Array.toList d1
 subst this
 exact r.inj r'
end
abbrev Cx.wish(X:Cx)(E:Value→Shared→Prop):Cx:={ X with xe:=E }
abbrev Cx.nox(X:Cx):Cx:=X.wish fun _ _=>False
theorem Cx.Ok.wish{X:Cx}(ok:X.Ok)(E:Value→Shared→Prop):(X.wish E).Ok:=
 ⟨ok.mod,ok.kind,ok.glob,ok.blt,ok.above,ok.inj,ok.has,ok.cab,ok.hd,ok.frames,ok.stk,ok.exf,ok.bs,ok.bsz,ok.noex,ok.exfs,ok.funs,ok.frf⟩
theorem Cx.Ok.unwish{X:Cx}{E:Value→Shared→Prop}(ok:(X.wish E).Ok):X.Ok:=
 ⟨ok.mod,ok.kind,ok.glob,ok.blt,ok.above,ok.inj,ok.has,ok.cab,ok.hd,ok.frames,ok.stk,ok.exf,ok.bs,ok.bsz,ok.noex,ok.exfs,ok.funs,ok.frf⟩
section
variable{X:Cx}{pins:List (Addr×Obj)}{σ:St}{H:Hp}{s:Shared}{E:Value→Shared→Prop}
theorem Inv.wish(I:Inv X pins σ H s)(E:Value→Shared→Prop):Inv (X.wish E) pins σ H s:=⟨I.ok.wish E,I.os,I.bare,I.base,I.loc,I.cell,I.free,I.freeC,I.pin,I.hok,I.len⟩
theorem Inv.unwish(I:Inv (X.wish E) pins σ H s):Inv X pins σ H s:=⟨I.ok.unwish,I.os,I.bare,I.base,I.loc,I.cell,I.free,I.freeC,I.pin,I.hok,I.len⟩
theorem SP.unwish{D:Ends}{f:Flow}{s':Shared}(h:SP (X.wish E) pins D f s'):SP X pins D f s':=by
 cases f with
 | next=>obtain⟨σ',H',I,q⟩:=h;exact⟨σ',H',I.unwish,q⟩
 | brk=>obtain⟨σ',H',I,q⟩:=h;exact⟨σ',H',I.unwish,q⟩
 | cont=>obtain⟨σ',H',I,q⟩:=h;exact⟨σ',H',I.unwish,q⟩
 | ret u=>obtain⟨v,σ',H',I,r,q⟩:=h;exact⟨v,σ',H',I.unwish,r,q⟩
theorem PE.nox{e:Expr}{t:TE}(h:PE X.nox e t):PE X e t:=fun pins s σ H Q I hw=>
 wpAny_mono (h pins s σ H Q (I.wish _) hw) (fun _ _ ⟨v,H',I',r,q⟩=>⟨v,H',I'.unwish,r,q⟩) fun _ _ z=>False.elim z
theorem PT.nox{e:Expr}{t:TT}(h:PT X.nox e t):PT X e t:=fun pins s σ H Q I hw=>
 wpAny_mono (h pins s σ H Q (I.wish _) hw) (fun _ _ ⟨H',I',q⟩=>⟨H',I'.unwish,q⟩) fun _ _ z=>False.elim z
theorem PSs.nox{st:List Stmt}{t:TS}(h:PSs X.nox st t):PSs X st t:=fun pins s σ H D I hw=>
 wpAny_mono (h pins s σ H D (I.wish _) hw) (fun _ _ q=>q.unwish) fun _ _ z=>False.elim z
end
section
variable{X:Cx}{st:Stmt}{rest:List Stmt}{t u:TS}{e:Expr}{te:TE}{pos:Pos}
def tNext:TS:=fun D σ H=>D.nx σ H
def tSeq(t u:TS):TS:=fun D σ H=>t { D with nx:=u D } σ H
theorem pss_nil:PSs X [] tNext:=fun _ _ σ H _ I h=>wpAny_execs_nil ⟨σ,H,I,h⟩
theorem pss_cons(h1:PS X st t)(h2:PSs X rest u):PSs X (st::rest) (tSeq t u):=by
 intro pins s σ H D I h
 refine wpAny_execs_cons (thn (h1 pins s σ H { D with nx:=u D } I h) fun f s1 q=>?_)
 cases f with
 | next=>
  obtain⟨σ',H',I',q⟩:=q
  exact h2 pins s1 σ' H' D I' q
 | ret v=>exact q
 | brk=>exact q
 | cont=>exact q
theorem Inv.quiet{pins:List (Addr×Obj)}{σ:St}{H:Hp}{s:Shared}(I:Inv X pins σ H s):interactive X.env=false:=by simp[interactive,I.ok.kind]
def tDrop(te:TE):TS:=fun D σ H=>te σ H fun _ H1=>D.nx σ H1
theorem zahn(he:PE X e te)(hs:swapsWith e none pos.line X.env=pure false:=by rfl):PS X (.Expr e pos) (tDrop te):=by
 intro pins s σ H D I h
 exact wpAny_Expr_any (thn (he pins s σ H _ I h) fun v s1 ⟨x,H1,I1,r1,q1⟩=>⟨σ,H1,I1,q1⟩) I.quiet hs
def tRet(te:TE):TS:=fun D σ H=>te σ H D.rt
theorem ps_ret(he:PE X e te):PS X (.Return (some e) pos) (tRet te):=by
 intro pins s σ H D I h
 exact wpAny_Return_some (thn (he pins s σ H _ I h) fun v s1 ⟨x,H1,I1,r1,q1⟩=>⟨x,σ,H1,I1,r1,q1⟩)
def tIfS(c:TT)(t u:TS):TS:=fun D σ H=>c σ H fun b H1=>if b=true then t D σ H1 else u D σ H1
theorem ps_if{c:Expr}{a b:List Stmt}{tc:TT}(hc:PT X c tc)(ha:PSs X a t)(hb:PSs X b u):PS X (.If c a b pos) (tIfS tc t u):=by
 intro pins s σ H D I h
 refine wpAny_If (thn (hc pins s σ H _ I h) fun d s1 ⟨H1,I1,q1⟩=>?_)
 cases d with
 | true=>exact ha pins s1 σ H1 D I1 q1
 | false=>exact hb pins s1 σ H1 D I1 q1
end
abbrev TG:=V→St→Hp→(St→Hp→Prop)→Prop
abbrev TGs:=List V→St→Hp→(St→Hp→Prop)→Prop
def PG(X:Cx)(target:Expr)(t:TG):Prop:=
 ∀(pins:List (Addr×Obj)) (s:Shared) (σ:St) (H:Hp) (v:V) (u:Value) (Q:St→Hp→Prop),Inv X pins σ H s→RelV v u→t v σ H Q→
  wpAny (model X.prog X.w) X.A (assign target X.env u) (fun _ s'=>∃σ' H',Inv X pins σ' H' s'∧Q σ' H') X.xe s
def PGs(X:Cx)(ts:List Expr)(t:TGs):Prop:=
 ∀(pins:List (Addr×Obj)) (s:Shared) (σ:St) (H:Hp) (vs:List V) (us:List Value) (Q:St→Hp→Prop),Inv X pins σ H s→Vals vs us→t vs σ H Q→
  wpAny (model X.prog X.w) X.A (assignInOrder ((assignEach ts X.env).map (·.2)) us) (fun _ s'=>∃σ' H',Inv X pins σ' H' s'∧Q σ' H') X.xe s
abbrev TSet:=V→V→V→Hp→(Hp→Prop)→Prop
def PSet(X:Cx)(t:TSet):Prop:=
 ∀(pins:List (Addr×Obj)) (s:Shared) (σ:St) (H:Hp) (o i v:V) (ov iv u:Value) (Q:Hp→Prop),Inv X pins σ H s→RelV o ov→RelV i iv→RelV v u→t o i v H Q→
  wpAny (model X.prog X.w) X.A (setItem ov iv u) (fun _ s'=>∃H',Inv X pins σ H' s'∧Q H') X.xe s
section
variable{X:Cx}{pos:Pos}
def gName(i:Nat):TG:=fun v σ H Q=>Q (σ.set i (some v)) H
theorem pg_name{i:Nat}{x:Str}(hN:X.N.Nodup)(hi:X.N[i]?=some x)(hx:Loc X.env.scope x)(hf:X.fn x=true∨X.env.scope.names.lookup x=some .local:=by first|exact .inl rfl|exact .inr rfl|assumption):PG X (.Name x pos) (gName i):=by
 intro pins s σ H v u Q I r h
 exact wpAny_assign_Name (zaf9 I hN hi hx r (fun s' I'=>⟨_,H,I',h⟩) hf)
def gNil:TGs:=fun vs σ H Q=>vs=[]∧Q σ H
def gCons(t:TG)(u:TGs):TGs:=fun vs σ H Q=>∃v r,vs=v::r∧t v σ H fun σ' H'=>u r σ' H' Q
theorem pgs_nil:PGs X [] gNil:=by
 intro pins s σ H vs us Q I r h
 obtain⟨e,h⟩:=h
 subst e
 cases r
 exact assignInOrder_nil ⟨σ,H,I,h⟩
theorem pgs_cons{e:Expr}{es:List Expr}{t:TG}{u:TGs}(h1:PG X e t)(h2:PGs X es u)
  (hs:(assignEach (e::es) X.env).map (·.2)=assign e X.env::(assignEach es X.env).map (·.2):=by rfl):PGs X (e::es) (gCons t u):=by
 intro pins s σ H vs us Q I r h
 obtain⟨v,vr,e1,h⟩:=h
 subst e1
 cases r with
 | cons r rr=>
  rw[hs]
  refine assignInOrder_cons (thn (h1 pins s σ H _ _ _ I r h) fun _ s1 ⟨σ1,H1,I1,q1⟩=>?_)
  exact h2 pins s1 σ1 H1 _ _ Q I1 rr q1
def gTup(K:PySem.W.Frag)(n:Nat)(t:TGs):TG:=fun v σ H Q=>∃a xs,v=.ref a∧SqT K H a xs∧xs.length=n∧t xs σ H Q
theorem pg_tup{es:List Expr}{k:Nat}{t:TGs}{n:Nat}(hc:X.calm=true)(h:PGs X es t)
  (hn:(assignEach es X.env).length=n:=by rfl) (hst:(assignEach es X.env).findIdx? (·.1)=none:=by rfl):PG X (.Tuple es k pos) (gTup X.K n t):=by
 intro pins s σ H v u Q I r hw
 obtain⟨a,xs,e1,hq,hl,hw⟩:=hw
 subst e1
 cases r
 obtain⟨its,rv,ht,hz⟩:=I.tuple hq
 refine assign_Tuple_tuple (I.ok.hd hc) ht (by simp[hn,←hl,rv.length]) hst fun h' hx=>?_
 have I1:Inv X pins σ H { s with heap:=h' }:=I.kept (t':=s.toks) fun b o e=>hx b o (Nat.ne_of_lt (Heap.lt_size e)) e
 exact h pins _ σ H xs _ Q I1 (by simpa using rv) hw
def gSub(to ti:TE)(t:TSet):TG:=fun v σ H Q=>to σ H fun o H1=>ti σ H1 fun i H2=>t o i v H2 fun H3=>Q σ H3
theorem pg_sub{o i:Expr}{to ti:TE}{t:TSet}(ho:PE X o to)(hi:PE X i ti)(hs:PSet X t)
  (ha:∀v,assign (.Subscript o i pos) X.env v=(do
   let ov ←holding [v] (eval o X.env)
   let iv ←holding [v,ov] (eval i X.env)
   standAt pos
   holding [v,ov,iv] (setItem ov iv v)
   release [v,ov,iv] []):=by intro _;rfl):PG X (.Subscript o i pos) (gSub to ti t):=by
 intro pins s σ H v u Q I r h
 rw[ha]
 refine wpAny_bind (wpAny_holding (thn (ho pins s σ H _ I h) fun ov s1 ⟨x,H1,I1,r1,q1⟩=>?_))
 refine wpAny_bind (wpAny_holding (thn (hi pins s1 σ H1 _ I1 q1) fun iv s2 ⟨y,H2,I2,r2,q2⟩=>?_))
 refine wpAny_bind (wpAny_standAt (wpAny_bind (wpAny_holding (thn (hs pins s2 σ H2 x y v ov iv u _ I2 r1 r2 r q2) fun _ s3 ⟨H3,I3,q3⟩=>?_))))
 exact wpAny_release ⟨σ,H3,I3,q3⟩
def tAsg(te:TE)(g:TG):TS:=fun D σ H=>te σ H fun x H1=>g x σ H1 D.nx
theorem ps_asg{tg e:Expr}{te:TE}{g:TG}(he:PE X e te)(hg:PG X tg g)(hs:swapsWithSole [tg] e pos.line X.env=pure false:=by rfl)(hw:swappedStores [tg] e X.env=pure none:=by rfl)
  (h1:(assignEach [tg] X.env).map (·.2)=[assign tg X.env]:=by rfl):PS X (.Assign [tg] e pos) (tAsg te g):=by
 intro pins s σ H D I h
 refine wpAny_Assign_stores (thn (he pins s σ H _ I h) fun v s1 ⟨x,H1,I1,r1,q1⟩=>?_) hs hw
 rw[h1]
 exact thn (hg pins s1 σ H1 x v _ I1 r1 q1) fun _ s2 q=>q
theorem ps_set{i:Nat}{x:Str}{e:Expr}{te:TE}{pos':Pos}(hN:X.N.Nodup)(hi:X.N[i]?=some x)(hx:Loc X.env.scope x)(he:PE X e te)(hs:swapsWith e (some (.Name x pos')) pos.line X.env=pure false:=by rfl)(hf:X.fn x=true∨X.env.scope.names.lookup x=some .local:=by first|exact .inl rfl|exact .inr rfl|assumption):
  PS X (.Assign [.Name x pos'] e pos) (tAsg te (gName i)):=by
 intro pins s σ H D I h
 refine wpAny_Assign_Name (thn (he pins s σ H _ I h) fun v s1 ⟨y,H1,I1,r1,q1⟩=>?_) hs
 exact zaf9 I1 hN hi hx r1 (fun s2 I2=>⟨_,H1,I2,q1⟩) hf
end
section
variable{X:Cx}{pos:Pos}
def tWhile(c:TT)(tb:TS):TS:=fun D σ H=>∃W:Nat→St→Hp→Prop,(∃m,W m σ H)∧∀m σ H,W m σ H→
 c σ H fun b H1=>if b=true then ∃N:St→Hp→Prop,(∀σ' H',N σ' H'→∃m',m'<m∧W m' σ' H')∧tb { D with nx:=N,ct:=N,bk:=D.nx } σ H1 else D.nx σ H1
theorem ps_while{c:Expr}{body:List Stmt}{tc:TT}{tb:TS}(hp:PassesOwn (model X.prog X.w) X.A X.env X.xe)(hc:PT X c tc)(hb:PSs X body tb):PS X (.While c body [] pos) (tWhile tc tb):=by
 intro pins s σ H D I h
 obtain⟨W,⟨m0,w0⟩,turn⟩:=h
 refine wpAny_While (codeAny_whileLoop (fun n s'=>∃σ' H',Inv X pins σ' H' s'∧W n σ' H') ?_ m0 ⟨σ,H,I,w0⟩)
 rintro n s1 ⟨σ1,H1,I1,w1⟩
 refine wpAny_passesOwn hp (thn (hc pins s1 σ1 H1 _ I1 (turn n σ1 H1 w1)) fun b s2 ⟨H2,I2,q2⟩=>?_)
 cases b with
 | true=>
  obtain⟨N,hN,q2⟩:=q2
  rw[if_pos rfl]
  refine wpAny_passesOwn hp (thn (hb pins s2 σ1 H2 _ I2 q2) fun f s3 q3=>?_)
  cases f with
  | next=>
   obtain⟨σ3,H3,I3,n3⟩:=q3
   obtain⟨m',hm,w3⟩:=hN σ3 H3 n3
   exact⟨m',hm,σ3,H3,I3,w3⟩
  | cont=>
   obtain⟨σ3,H3,I3,n3⟩:=q3
   obtain⟨m',hm,w3⟩:=hN σ3 H3 n3
   exact⟨m',hm,σ3,H3,I3,w3⟩
  | brk=>exact q3
  | ret v=>exact q3
 | false=>
  rw[if_neg Bool.false_ne_true]
  exact wpAny_execs_nil ⟨σ1,H2,I2,q2⟩
end
structure It where
 go:Nat→Hp→Prop
 yld:Nat→Hp→V→Hp→Prop
 stop:Nat→Hp→Prop
def FpOk(X:Cx)(pins:List (Addr×Obj))(H:Hp)(b:Addr):Prop:=
 H b=none∧b≠X.env.locals∧b∉X.fs∧(b∈X.ex∨X.s₀.heap.objs.size≤b)∧(∀x c,X.env.cells.lookup x=some c→c≠b)∧∀p∈X.pn++pins,p.1≠b
theorem Inv.fpOk{X:Cx}{pins:List (Addr×Obj)}{σ:St}{H H':Hp}{s:Shared}{b:Addr}(I:Inv X pins σ H s)(hb:s.heap.objs.size≤b)(hn:H' b=none):FpOk X pins H' b:=by
 refine⟨hn,Nat.ne_of_gt (Nat.lt_of_lt_of_le I.lt hb),I.nofs hb,.inr (Nat.le_trans I.sz hb),fun x c e z=>?_,fun p hp z=>?_⟩
 ·obtain⟨v,q⟩:=I.cell x c e
  exact absurd (Nat.lt_of_lt_of_le q.lt (by rw[z];exact hb)) (Nat.lt_irrefl _)
 ·exact absurd (Nat.lt_of_lt_of_le (Heap.lt_size (I.pin p hp).1) (by rw[z];exact hb)) (Nat.lt_irrefl _)
structure Turn(P:Program)(w:World)(K:PySem.W.Frag)(tg:Expr)(J:It)(fp:List Addr)(it:Addr)(tn:Nat→Heap→Prop):Prop where
 mem:it∈fp
 obj:∀i h,tn i h→∀b∈fp,∃o,h.get? b=some o∧∀v,o.data≠.cell v
 keep:∀i h h',tn i h→(∀b∈fp,∀o,h.get? b=some o→h'.get? b=some o)→tn i h'
 item:∀(X:Cx),X.prog=P→X.w=w→X.K=K→X.calm=true→∀(i:Nat) (pins:List (Addr×Obj)) (s:Shared) (σ:St) (H:Hp) (E:Value→Shared→Prop),Inv X pins σ H s→(∀b∈fp,FpOk X pins H b)→tn i s.heap→J.go i H→
  wpAny (model P w) X.A (pyNext (.ref it)) (fun r s1=>∃u,r=some u∧
   wpAny (model P w) X.A (letOwnedTupleGo tg (.ref it) u) (fun _ s2=>∃x H',Inv X pins σ H' s2∧RelV x u∧J.yld i H x H'∧tn (i+1) s2.heap∧∀b∈fp,H' b=none) E s1) E s
 done:∀(X:Cx),X.prog=P→X.w=w→X.K=K→X.calm=true→∀(i:Nat) (pins:List (Addr×Obj)) (s:Shared) (σ:St) (H:Hp) (E:Value→Shared→Prop),Inv X pins σ H s→(∀b∈fp,FpOk X pins H b)→tn i s.heap→J.stop i H→
  wpAny (model P w) X.A (pyNext (.ref it)) (fun r s1=>r=none∧Inv X pins σ H s1) E s
 self:∀(A:Around) (i:Nat) (s:Shared) (Q:Value→Shared→Prop) (E:Value→Shared→Prop),tn i s.heap→Q (.ref it) s→wpAny (model P w) A (pyIter (.ref it)) Q E s
abbrev TI:=St→Hp→(It→Hp→Prop)→Prop
def PIE(X:Cx)(pins:List (Addr×Obj))(σ:St)(tg:Expr)(R:It→Hp→Prop)(itv:Value)(s2:Shared):Prop:=
 ∃(it:Addr) (fp:List Addr) (tn:Nat→Heap→Prop) (J:It) (H':Hp),itv=.ref it∧Inv X pins σ H' s2∧Turn X.prog X.w X.K tg J fp it tn∧tn 0 s2.heap∧(∀b∈fp,FpOk X pins H' b)∧R J H'
def PI(X:Cx)(tg iter:Expr)(wi:TI):Prop:=
 ∀(pins:List (Addr×Obj)) (s:Shared) (σ:St) (H:Hp) (R:It→Hp→Prop),Inv X pins σ H s→wi σ H R→
  wpAny (model X.prog X.w) X.A (eval iter X.env) (fun v s1=>wpAny (model X.prog X.w) X.A (pyIter v) (PIE X pins σ tg R) X.xe s1) X.xe s
theorem go_of{M:Model}{A:Around}{E:Value→Shared→Prop}{s:Shared}{tg:Expr}{it:Addr}{u:Value}{o:Obj}{n:String}{vs:Array Value}{Q:Unit→Shared→Prop}(ho:s.heap.get? it=some o)(hc:o.cls=.type n)(hd:o.data=.fields vs)
  (hn:["enumerate","zip","dict_itemiterator","dict_reverseitemiterator","odict_iterator","itertools.zip_longest","itertools.pairwise"].contains n=false) (hQ:Q () s):wpAny M A (letOwnedTupleGo tg (.ref it) u) Q E s:=by
 unfold letOwnedTupleGo
 cases tg<;>first
  | exact wpAny_pure hQ
  | (cases u<;>first
    | exact wpAny_pure hQ
    | (refine wpAny_bind (wpAny_load ho ?_)
       rw[hc,hd]
       show wpAny M A (if(["enumerate","zip","dict_itemiterator","dict_reverseitemiterator","odict_iterator","itertools.zip_longest","itertools.pairwise"].contains n&&vs[0]?==some (rawInt _))=true then _ else _) Q E s
       rw[if_neg (by intro h;rw[hn,Bool.false_and]at h;cases h)]
       exact wpAny_pure hQ))
def Itl(K:PySem.W.Frag)(a:Addr):It:=
 ⟨fun i H=>∃xs x,SqL K H a xs∧xs[i]?=some x,fun i H x H'=>H'=H∧∀xs,SqL K H a xs→xs[i]?=some x,fun i H=>∃xs,SqL K H a xs∧xs.length≤i⟩
def Itt(K:PySem.W.Frag)(a:Addr):It:=
 ⟨fun i H=>∃xs x,SqT K H a xs∧xs[i]?=some x,fun i H x H'=>H'=H∧∀xs,SqT K H a xs→xs[i]?=some x,fun i H=>∃xs,SqT K H a xs∧xs.length≤i⟩
def Itr(lo:Int)(n:Nat):It:=⟨fun i _=>i<n,fun i H x H'=>H'=H∧x=.int (lo+i),fun i _=>n≤i⟩
theorem turn_list{P:Program}{w:World}{K:PySem.W.Frag}{tg:Expr}(a it:Addr):Turn P w K tg (Itl K a) [it] it (fun i h=>h.IsListIter it a i)where
 mem:=by simp
 obj:=fun i h st b hb=>by
  have e:b=it:=by simpa using hb
  subst e
  obtain⟨o,e,c,d⟩:=st
  exact⟨o,e,fun v z=>by rw[d]at z;cases z⟩
 keep:=fun i h h' st k=>st.at fun o e=>k it (by simp) o e
 item:=by
  intro X hP hw hK hc i pins s σ H E I hf st hg
  subst hP hw hK
  obtain⟨xs,x,hq,hx⟩:=hg
  obtain⟨its,rv,p,hz⟩:=I.list hq
  obtain⟨u,hu,ru⟩:=rv.get hx
  obtain⟨f0,f1,f2,f3,f4,f5⟩:=hf it (by simp)
  refine wpAny_pyNext_list_item st p.isList (x:=u) (by simpa using hu) fun h' st' sb=>?_
  have I1:Inv X pins σ H { s with heap:=h' }:=I.turned (t':=s.toks) (fun b o hb e=>(sb.2 b hb).trans e) f0 f1 f3 f4 f5
  obtain⟨o,e,c,d⟩:=id st'
  exact⟨u,rfl,go_of (s:={ s with heap:=h' }) e c d (by decide) ⟨x,H,I1,ru,⟨rfl,fun ys hy=>by rw[I.list_inj hy hq];exact hx⟩,st',fun b hb=>(hf b hb).1⟩⟩
 done:=by
  intro X hP hw hK hc i pins s σ H E I hf st hg
  subst hP hw hK
  obtain⟨xs,hq,hx⟩:=hg
  obtain⟨its,rv,p,hz⟩:=I.list hq
  obtain⟨f0,f1,f2,f3,f4,f5⟩:=hf it (by simp)
  have hl:=rv.length
  exact wpAny_pyNext_list_end (I.ok.hd hc) st p.isList (by simp;omega) fun h' eb=>⟨rfl,I.turned (t':=s.toks) (fun b o hb e=>eb b o hb e) f0 f1 f3 f4 f5⟩
 self:=fun _ _ _ _ _ st h=>wpAny_pyIter_listiter st h
theorem zaf0{P:Program}{w:World}{K:PySem.W.Frag}{tg:Expr}(a it:Addr):Turn P w K tg (Itt K a) [it] it (fun i h=>h.IsTupleIter it a i)where
 mem:=by simp
 obj:=fun i h st b hb=>by
  have e:b=it:=by simpa using hb
  subst e
  obtain⟨o,e,c,d⟩:=st
  exact⟨o,e,fun v z=>by rw[d]at z;cases z⟩
 keep:=fun i h h' st k=>st.at fun o e=>k it (by simp) o e
 item:=by
  intro X hP hw hK hc i pins s σ H E I hf st hg
  subst hP hw hK
  obtain⟨xs,x,hq,hx⟩:=hg
  obtain⟨its,rv,p,hz⟩:=I.tuple hq
  obtain⟨u,hu,ru⟩:=rv.get hx
  obtain⟨f0,f1,f2,f3,f4,f5⟩:=hf it (by simp)
  refine wpAny_pyNext_tuple_item st (show s.heap.IsTuple a its.toArray from p) (x:=u) (by simpa using hu) fun h' st' sb=>?_
  have I1:Inv X pins σ H { s with heap:=h' }:=I.turned (t':=s.toks) (fun b o hb e=>(sb.2 b hb).trans e) f0 f1 f3 f4 f5
  obtain⟨o,e,c,d⟩:=id st'
  exact⟨u,rfl,go_of (s:={ s with heap:=h' }) e c d (by decide) ⟨x,H,I1,ru,⟨rfl,fun ys hy=>by rw[I.tuple_inj hy hq];exact hx⟩,st',fun b hb=>(hf b hb).1⟩⟩
 done:=by
  intro X hP hw hK hc i pins s σ H E I hf st hg
  subst hP hw hK
  obtain⟨xs,hq,hx⟩:=hg
  obtain⟨its,rv,p,hz⟩:=I.tuple hq
  obtain⟨f0,f1,f2,f3,f4,f5⟩:=hf it (by simp)
  have hl:=rv.length
  exact wpAny_pyNext_tuple_end (I.ok.hd hc) st (show s.heap.IsTuple a its.toArray from p) (by simp;omega) fun h' eb=>⟨rfl,I.turned (t':=s.toks) (fun b o hb e=>eb b o hb e) f0 f1 f3 f4 f5⟩
 self:=fun _ _ _ _ _ st h=>wpAny_pyIter_tupleiter st h
theorem zahc{P:Program}{w:World}{K:PySem.W.Frag}{tg:Expr}(it:Addr)(lo:Int)(n:Nat):Turn P w K tg (Itr lo n) [it] it (fun i h=>IsRangeIter h it (lo+(i:Nat)*1) ((n:Int)-(i:Nat)) 1)where
 mem:=by simp
 obj:=fun i h st b hb=>by
  have e:b=it:=by simpa using hb
  subst e
  exact⟨_,st,fun v z=>by
   have z':Data.fields _=Data.cell v:=z
   cases z'⟩
 keep:=fun i h h' st k=>k it (by simp) _ st
 item:=by
  intro X hP hw hK hc i pins s σ H E I hf st hg
  subst hP hw hK
  obtain⟨f0,f1,f2,f3,f4,f5⟩:=hf it (by simp)
  have W:=Walks.range (prog:=X.prog) (w:=X.w) (I.ok.hd hc) it lo 1 n
  refine W.item i s _ _ hg st fun v h' tk hv st' kk=>?_
  obtain⟨t,rfl⟩:=hv
  have I1:Inv X pins σ H { s with heap:=h',toks:=tk }:=I.turned (fun b o hb e=>kk b o (by simpa using hb) e) f0 f1 f3 f4 f5
  refine⟨_,rfl,go_of (s:={ s with heap:=h',toks:=tk }) (n:="range_iterator") st' rfl rfl (by decide) ⟨.int (lo+i),H,I1,⟨t,?_⟩,⟨rfl,rfl⟩,st',fun b hb=>(hf b hb).1⟩⟩
  rw[Int.mul_one]
 done:=by
  intro X hP hw hK hc i pins s σ H E I hf st hg
  subst hP hw hK
  obtain⟨f0,f1,f2,f3,f4,f5⟩:=hf it (by simp)
  exact wpAny_pyNext_range_end (I.ok.hd hc) st (by have:n≤i:=hg;omega) fun h' eb=>⟨rfl,I.turned (t':=s.toks) (fun b o hb e=>eb b o hb e) f0 f1 f3 f4 f5⟩
 self:=fun _ _ _ _ _ st h=>wpAny_pyIter_rangeiter st h
end L2
namespace L2
open PySem PySem.Spec PyProof.Rows
section
variable{X:Cx}{tg:Expr}
theorem zagx{pins:List (Addr×Obj)}{σ:St}{H:Hp}{s:Shared}{R:It→Hp→Prop}{E:Value→Shared→Prop}{lo hi:Int}{t u v:Tok}{tk:Nat}(I:Inv X pins σ H s)(h1:-(2^62)≤lo)(h2:lo<2^62)(h3:-(2^62)≤hi)(h4:hi<2^62)
  (q:R (Itr lo (hi-lo).toNat) H):wpAny (model X.prog X.w) X.A (pyIter (.ref s.heap.objs.size)) (PIE X pins σ tg R) E { s with heap:=s.heap.push { cls:=.type "range",data:=.fields #[.int lo t,.int hi u,.int 1 v] },toks:=tk }:=by
 refine wpAny_pyIter_range (IsRange.new ..) (small_one h1 h2 h3 h4) ?_
 have I1:Inv X pins σ H { s with heap:=s.heap.push { cls:=.type "range",data:=.fields #[.int lo t,.int hi u,.int 1 v] },toks:=tk }:=I.kept fun b o e=>Heap.get?_push_of_some _ e
 refine⟨(s.heap.push { cls:=.type "range",data:=.fields #[.int lo t,.int hi u,.int 1 v] }).objs.size,[(s.heap.push { cls:=.type "range",data:=.fields #[.int lo t,.int hi u,.int 1 v] }).objs.size],_,_,H,rfl,
  I1.kept (t':=tk) fun b o e=>Heap.get?_push_of_some _ e,zahc _ lo (hi-lo).toNat,?_,fun b hb=>?_,q⟩
 ·have e1:lo+((0:Nat):Int)*1=lo:=by simp
  have e2:(((hi-lo).toNat:Nat):Int)-((0:Nat):Int)=Builtin.Range.rangeSize lo hi 1:=by rw[rangeSize_one];split<;>omega
  show IsRangeIter _ _ (lo+((0:Nat):Int)*1) ((((hi-lo).toNat:Nat):Int)-((0:Nat):Int)) 1
  rw[e1,e2]
  exact Heap.get?_push_size _ rfl
 ·have e:b=(s.heap.push { cls:=.type "range",data:=.fields #[.int lo t,.int hi u,.int 1 v] }).objs.size:=by simpa using hb
  subst e
  exact I1.fpOk (Nat.le_refl _) (I1.hok.fresh (Nat.le_refl _))
def iRng1(ta:TA):TI:=fun σ H R=>ta σ H fun vs H1=>∃j:Int,vs=[.int j]∧-(2^62)≤j∧j<2^62∧R (Itr 0 j.toNat) H1
def iRng2(ta:TA):TI:=fun σ H R=>ta σ H fun vs H1=>∃i j:Int,vs=[.int i,.int j]∧(-(2^62)≤i∧i<2^62∧-(2^62)≤j∧j<2^62)∧R (Itr i (j-i).toNat) H1
theorem pi_range1{a:Expr}{ta:TA}{p pos:Pos}(hg:Gl X "range")(hm:X.mg "range"=none)(ha:PA X [a] ta)(hs:starEach [a] X.env=[(false,eval a X.env)]:=by rfl):PI X tg (.Call (.Name "range" p) [a] [] pos) (iRng1 ta):=by
 intro pins s σ H R I h
 refine Call_ (ld_blt I hg hm boot_range (PyProof.Rows.callWith_type1 (thn (ha pos pins s σ H _ I h) fun us s1 ⟨vs,H1,I1,r1,q1⟩=>?_) hs rfl))
 obtain⟨j,e,q1,q2,q⟩:=q1
 subst e
 cases r1 with
 | cons r rr=>
  cases rr
  obtain⟨t,rfl⟩:=r
  exact call_range_1 (zagx I1 (by omega) (by omega) q1 q2 (by simpa using q))
theorem pi_range2{a b:Expr}{ta:TA}{p pos:Pos}(hg:Gl X "range")(hm:X.mg "range"=none)(ha:PA X [a,b] ta)(hs:starEach [a,b] X.env=[(false,eval a X.env),(false,eval b X.env)]:=by rfl)(hs2:starEach [b] X.env=[(false,eval b X.env)]:=by rfl):
  PI X tg (.Call (.Name "range" p) [a,b] [] pos) (iRng2 ta):=by
 intro pins s σ H R I h
 refine Call_ (ld_blt I hg hm boot_range (PyProof.Rows.callWith_type1 (thn (ha pos pins s σ H _ I h) fun us s1 ⟨vs,H1,I1,r1,q1⟩=>?_) (by rw[hs,hs2]) (by rw[hs2];rfl)))
 obtain⟨i,j,e,⟨q1,q2,q3,q4⟩,q⟩:=q1
 subst e
 cases r1 with
 | cons r rr=>
  cases rr with
  | cons r' rr=>
   cases rr
   obtain⟨t,rfl⟩:=r
   obtain⟨t',rfl⟩:=r'
   exact call_range_2 (zagx I1 q1 q2 q3 q4 q)
def tFor(wi:TI)(g:TG)(tb:TS):TS:=fun D σ H=>wi σ H fun J H1=>∃W:Nat→Nat→St→Hp→Prop,(∃m,W 0 m σ H1)∧∀i m σ H,W i m σ H→
 (J.stop i H∧D.nx σ H)∨(J.go i H∧∃N:St→Hp→Prop,(∀σ' H',N σ' H'→∃m',m'<m∧W (i+1) m' σ' H')∧∀x H',J.yld i H x H'→g x σ H' fun σ2 H2=>tb { D with nx:=N,ct:=N,bk:=D.nx } σ2 H2)
def pinsAt(fp:List Addr)(h:Heap):List (Addr×Obj):=fp.filterMap fun b=>(h.get? b).map fun o=>(b,o)
theorem zaco{fp:List Addr}{h:Heap}{b:Addr}{o:Obj}(hb:b∈fp)(e:h.get? b=some o):(b,o)∈pinsAt fp h:=List.mem_filterMap.mpr ⟨b,hb,by rw[e];rfl⟩
theorem of_pinsAt{fp:List Addr}{h:Heap}{p:Addr×Obj}(hp:p∈pinsAt fp h):p.1∈fp∧h.get? p.1=some p.2:=by
 obtain⟨b,hb,e⟩:=List.mem_filterMap.mp hp
 cases q:h.get? b with
 | none=>rw[q]at e;cases e
 | some o=>
  rw[q]at e
  have e':(b,o)=p:=Option.some.inj e
  subst e'
  exact⟨hb,q⟩
theorem Inv.pinned{pins:List (Addr×Obj)}{σ:St}{H:Hp}{s:Shared}{fp:List Addr}(I:Inv X pins σ H s)(hf:∀b∈fp,FpOk X pins H b)(ho:∀b∈fp,∃o,s.heap.get? b=some o∧∀v,o.data≠.cell v):Inv X (pins++pinsAt fp s.heap) σ H s:=
 I.pins_of fun p hp=>(List.mem_append.mp hp).elim (fun z=>I.pin p (List.mem_append_right _ z)) fun z=>by
  obtain⟨hb,e⟩:=of_pinsAt z
  obtain⟨f0,f1,f2,_⟩:=hf p.1 hb
  obtain⟨o,e',d⟩:=ho p.1 hb
  rw[e]at e';cases e'
  exact⟨e,f0,f1,f2,d⟩
theorem Inv.unpinned{pins pl:List (Addr×Obj)}{σ:St}{H:Hp}{s:Shared}(I:Inv X (pins++pl) σ H s):Inv X pins σ H s:=I.pins_of fun p hp=>I.pin p (List.mem_append_right _ (List.mem_append_left _ hp))
theorem ps_for{iter:Expr}{body:List Stmt}{wi:TI}{g:TG}{tb:TS}{pos:Pos}(hp:PassesOwn (model X.prog X.w) X.A X.env X.xe)(hc:X.calm=true)(hi:PI X tg iter wi)(hg:PG X tg g)(hb:PSs X body tb)
  (hs:∀x,foldedSetIterable iter X.env x=pure x:=by intro _;rfl):PS X (.For tg iter body [] pos) (tFor wi g tb):=by
 intro pins s σ H D I h
 refine wpAny_For (thn (hi pins s σ H _ I h) fun v s1 h1=>thn h1 fun itv s2 h2=>?_) hs
 obtain⟨it,fp,tn,J,H2,e,I2,T,st2,f2,W,⟨m0,w0⟩,turn⟩:=h2
 subst e
 have stat:∀{H':Hp},(∀b∈fp,H' b=none)→∀b∈fp,FpOk X pins H' b:=fun hn b hb=>⟨hn b hb,(f2 b hb).2⟩
 refine codeAny_forLoop_any (fun n s'=>∃i σ' H',Inv X pins σ' H' s'∧tn i s'.heap∧(∀b∈fp,H' b=none)∧W i n σ' H') ?_ m0 ⟨0,σ,H2,I2,st2,fun b hb=>(f2 b hb).1,w0⟩
 rintro n s3 ⟨i,σ3,H3,I3,st3,fr3,w3⟩
 rcases turn i n σ3 H3 w3 with⟨stop,qn⟩|⟨go,N,hN,step⟩
 ·refine wpAny_passesOwn hp (thn (T.done X rfl rfl rfl hc i pins s3 σ3 H3 X.xe I3 (stat fr3) st3 stop) fun r s4 ⟨hr,I4⟩=>?_)
  subst hr
  exact wpAny_execs_nil ⟨σ3,H3,I4,qn⟩
 ·refine wpAny_passesOwn hp (thn (T.item X rfl rfl rfl hc i pins s3 σ3 H3 X.xe I3 (stat fr3) st3 go) fun r s4 ⟨u,hr,h4⟩=>?_)
  subst hr
  refine wpAny_passesOwn hp (thn h4 fun _ s5 ⟨x,H5,I5,r5,y5,st5,fr5⟩=>?_)
  have I5':=I5.pinned (stat fr5) (T.obj _ _ st5)
  refine wpAny_passesOwn hp (thn (hg _ s5 σ3 H5 x u _ I5' r5 (step x H5 y5)) fun _ s6 ⟨σ6,H6,I6,q6⟩=>?_)
  refine wpAny_passesOwn hp (thn (hb _ s6 σ6 H6 _ I6 q6) fun f s7 q7=>?_)
  have again:∀{σ7:St}{H7:Hp},Inv X (pins++pinsAt fp s5.heap) σ7 H7 s7→N σ7 H7→∃m,m<n∧∃i σ' H',Inv X pins σ' H' s7∧tn i s7.heap∧(∀b∈fp,H' b=none)∧W i m σ' H':=fun {σ7 H7} I7 n7=>by
   obtain⟨m',hm,w7⟩:=hN σ7 H7 n7
   refine⟨m',hm,i+1,σ7,H7,I7.unpinned,T.keep _ _ _ st5 fun b hb o e=>(I7.pin (b,o) (List.mem_append_right _ (List.mem_append_right _ (zaco hb e)))).1,fun b hb=>?_,w7⟩
   obtain⟨o,e,d⟩:=T.obj _ _ st5 b hb
   exact(I7.pin (b,o) (List.mem_append_right _ (List.mem_append_right _ (zaco hb e)))).2.1
  cases f with
  | next=>obtain⟨σ7,H7,I7,n7⟩:=q7;exact again I7 n7
  | cont=>obtain⟨σ7,H7,I7,n7⟩:=q7;exact again I7 n7
  | brk=>obtain⟨σ7,H7,I7,q7⟩:=q7;exact⟨σ7,H7,I7.unpinned,q7⟩
  | ret v=>obtain⟨x7,σ7,H7,I7,r7,q7⟩:=q7;exact⟨x7,σ7,H7,I7.unpinned,r7,q7⟩
end
end L2
namespace L2
open PySem PySem.Spec PyProof.Rows
abbrev R2:=V→V→Hp→VK→Prop
def OpR(X:Cx)(f:Value→Value→Sem Value)(r:R2):Prop:=
 ∀(pins:List (Addr×Obj)) (s:Shared) (σ:St) (H:Hp) (x y:V) (v u:Value) (Q:VK),Inv X pins σ H s→RelV x v→RelV y u→r x y H Q→
  wpAny (model X.prog X.w) X.A (f v u) (EP X pins σ Q) X.xe s
def UnR(X:Cx)(f:Value→Sem Value)(r:V→Hp→VK→Prop):Prop:=
 ∀(pins:List (Addr×Obj)) (s:Shared) (σ:St) (H:Hp) (x:V) (v:Value) (Q:VK),Inv X pins σ H s→RelV x v→r x H Q→
  wpAny (model X.prog X.w) X.A (f v) (EP X pins σ Q) X.xe s
def CallR(X:Cx)(f:Value)(r:List V→Hp→VK→Prop):Prop:=
 ∀(pins:List (Addr×Obj)) (s:Shared) (σ:St) (H:Hp) (xs:List V) (us:List Value) (Q:VK),Inv X pins σ H s→Vals xs us→r xs H Q→
  wpAny (model X.prog X.w) X.A (call f us) (EP X pins σ Q) X.xe s
def TruR(X:Cx)(r:V→Hp→(Bool→Hp→Prop)→Prop):Prop:=
 ∀(pins:List (Addr×Obj)) (s:Shared) (σ:St) (H:Hp) (x:V) (v:Value) (Q:Bool→Hp→Prop),Inv X pins σ H s→RelV x v→r x H Q→
  wpAny (model X.prog X.w) X.A (truthy v) (TP X pins σ Q) X.xe s
def tOp(r:R2)(ta tb:TE):TE:=fun σ H Q=>ta σ H fun x H1=>tb σ H1 fun y H2=>r x y H2 Q
def tUn(r:V→Hp→VK→Prop)(ta:TE):TE:=fun σ H Q=>ta σ H fun x H1=>r x H1 Q
def rI(C:Int→Int→Prop)(g:Int→Int→V):R2:=fun x y H Q=>∃i j,x=.int i∧y=.int j∧C i j∧Q (g i j) H
def rI0(g:Int→Int→V):R2:=fun x y H Q=>∃i j,x=.int i∧y=.int j∧Q (g i j) H
def rU(g:Int→V):V→Hp→VK→Prop:=fun x H Q=>∃i,x=.int i∧Q (g i) H
section
variable{X:Cx}{a b c:Expr}{ta tb tc:TE}{pos:Pos}
theorem binT(ha:PE X a ta)(hb:PE X b tb){pins:List (Addr×Obj)}{s:Shared}{σ:St}{H:Hp}{R:V→V→Hp→Prop}(I:Inv X pins σ H s)
  (h:ta σ H fun x H1=>tb σ H1 fun y H2=>R x y H2) {Q:Value→Shared→Prop}{f:Value→Value→Sem Value}
  (hf:∀v u s2 x y H2,Inv X pins σ H2 s2→RelV x v→RelV y u→R x y H2→wpAny (model X.prog X.w) X.A (f v u) Q X.xe s2):
  wpAny (model X.prog X.w) X.A (eval a X.env) (fun v s₁=>wpAny (model X.prog X.w) X.A (eval b X.env) (fun u s₂=>wpAny (model X.prog X.w) X.A (f v u) Q X.xe s₂) X.xe s₁) X.xe s:=by
 refine thn (ha pins s σ H _ I h) fun v s1 ⟨x,H1,I1,r1,q1⟩=>?_
 refine thn (hb pins s1 σ H1 _ I1 q1) fun u s2 ⟨y,H2,I2,r2,q2⟩=>?_
 exact hf v u s2 x y H2 I2 r1 r2 q2
theorem pe_op{op:Operator}{r:R2}(ho:OpR X (binaryOp op) r)(ha:PE X a ta)(hb:PE X b tb):PE X (.BinOp a op b pos) (tOp r ta tb):=by
 intro pins s σ H Q I h
 exact wpAny_BinOp (binT ha hb I h fun v u s2 x y H2 I2 rx ry q=>ho pins s2 σ H2 x y v u Q I2 rx ry q)
theorem pe_un{op:UnaryOp}{r:V→Hp→VK→Prop}(ho:UnR X (unaryOp op) r)(ha:PE X a ta):PE X (.UnaryOp op a pos) (tUn r ta):=by
 intro pins s σ H Q I h
 exact UnaryOp_ (thn (ha pins s σ H _ I h) fun v s1 ⟨x,H1,I1,r1,q1⟩=>ho pins s1 σ H1 x v Q I1 r1 q1)
theorem opI{f:Value→Value→Sem Value}{C:Int→Int→Prop}{g:Int→Int→Int}
  (rule:∀(i j:Int) (t u:Tok) (s:Shared) (Q:Value→Shared→Prop) (E:Value→Shared→Prop),C i j→Q (.int (g i j) s.toks) { s with toks:=s.toks+1 }→wpAny (model X.prog X.w) X.A (f (.int i t) (.int j u)) Q E s):
  OpR X f (rI C fun i j=>.int (g i j)):=by
 intro pins s σ H x y v u Q I rx ry h
 obtain⟨i,j,rfl,rfl,hc,q⟩:=h
 obtain⟨t,rfl⟩:=rx
 obtain⟨t',rfl⟩:=ry
 exact rule i j t t' s _ _ hc ⟨.int (g i j),H,I.tok _,⟨_,rfl⟩,q⟩
theorem opI0{f:Value→Value→Sem Value}{g:Int→Int→Int}
  (rule:∀(i j:Int) (t u:Tok) (s:Shared) (Q:Value→Shared→Prop) (E:Value→Shared→Prop),Q (.int (g i j) s.toks) { s with toks:=s.toks+1 }→wpAny (model X.prog X.w) X.A (f (.int i t) (.int j u)) Q E s):
  OpR X f (rI0 fun i j=>.int (g i j)):=by
 intro pins s σ H x y v u Q I rx ry h
 obtain⟨i,j,rfl,rfl,q⟩:=h
 obtain⟨t,rfl⟩:=rx
 obtain⟨t',rfl⟩:=ry
 exact rule i j t t' s _ _ ⟨.int (g i j),H,I.tok _,⟨_,rfl⟩,q⟩
theorem opB0{f:Value→Value→Sem Value}{g:Int→Int→Bool}
  (rule:∀(i j:Int) (t u:Tok) (s:Shared) (Q:Value→Shared→Prop) (E:Value→Shared→Prop),Q (.bool (g i j)) s→wpAny (model X.prog X.w) X.A (f (.int i t) (.int j u)) Q E s):
  OpR X f (rI0 fun i j=>.bl (g i j)):=by
 intro pins s σ H x y v u Q I rx ry h
 obtain⟨i,j,rfl,rfl,q⟩:=h
 obtain⟨t,rfl⟩:=rx
 obtain⟨t',rfl⟩:=ry
 exact rule i j t t' s _ _ ⟨.bl (g i j),H,I,rfl,q⟩
def CDiv(i j:Int):Prop:=0<j∧j<1073741824
def CMul(i j:Int):Prop:=(-(2^64)<i∧i<2^64)∨(-(2^64)<j∧j<2^64)
theorem CMul.ok{i j:Int}(h:CMul i j):IntMulOk i j:=by
 rcases h with⟨h1,h2⟩|⟨h1,h2⟩
 ·exact .of_left (intBits_le_64 h1 h2)
 ·exact .of_right (intBits_le_64 h1 h2)
theorem op_add:OpR X (binaryOp .Add) (rI0 fun i j=>.int (i+j)):=opI0 fun _ _ _ _ _ _ _ q=>add_int q
theorem op_sub:OpR X (binaryOp .Sub) (rI0 fun i j=>.int (i-j)):=opI0 fun _ _ _ _ _ _ _ q=>sub_int q
theorem op_mul:OpR X (binaryOp .Mult) (rI CMul fun i j=>.int (i*j)):=opI fun _ _ _ _ _ _ _ hc q=>mul_int q hc.ok
theorem zaaw:OpR X (binaryOp .FloorDiv) (rI CDiv fun i j=>.int (i / j)):=opI fun i j _ _ _ _ _ hc q=>by
 have h1:(0:Int)<j:=hc.1
 have h2:j<1073741824:=hc.2
 exact floordiv_int (by omega) (by rw[Int.fdiv_eq_ediv_of_nonneg i (by omega)];exact q) (.inl (PyProof.noPylong_small (by omega)))
theorem op_mod:OpR X (binaryOp .Mod) (rI (fun _ j=>0<j) fun i j=>.int (i % j)):=opI fun i j _ _ _ _ _ hc q=>by
 have h1:(0:Int)<j:=hc
 exact mod_int' (by omega) (by rw[Int.fmod_eq_emod_of_nonneg i (by omega)];exact q)
theorem unI{f:Value→Sem Value}{g:Int→Int}
  (rule:∀(i:Int) (t:Tok) (s:Shared) (Q:Value→Shared→Prop) (E:Value→Shared→Prop),Q (.int (g i) s.toks) { s with toks:=s.toks+1 }→wpAny (model X.prog X.w) X.A (f (.int i t)) Q E s):
  UnR X f (rU fun i=>.int (g i)):=by
 intro pins s σ H x v Q I rx h
 obtain⟨i,rfl,q⟩:=h
 obtain⟨t,rfl⟩:=rx
 exact rule i t s _ _ ⟨.int (g i),H,I.tok _,⟨_,rfl⟩,q⟩
theorem un_neg:UnR X (unaryOp .USub) (rU fun i=>.int (-i)):=unI fun _ _ _ _ _ q=>neg_int q
end
section
variable{X:Cx}{a b c:Expr}{ta tb tc:TE}{pos:Pos}
theorem fin_bl{pins:List (Addr×Obj)}{σ:St}{H:Hp}{s:Shared}{Q:VK}{k k':Bool}(I:Inv X pins σ H s)(q:Q (.bl k) H)(e:k=k'):EP X pins σ Q (.bool k') s:=by
 subst e
 exact⟨.bl k,H,I,rfl,q⟩
theorem op_lt:OpR X (compareOp .Lt) (rI0 fun i j=>.bl (decide (i<j))):=opB0 fun _ _ _ _ _ _ _ q=>lt_int q
theorem op_le:OpR X (compareOp .LtE) (rI0 fun i j=>.bl (decide (i≤j))):=opB0 fun _ _ _ _ _ _ _ q=>le_int q
theorem op_gt:OpR X (compareOp .Gt) (rI0 fun i j=>.bl (decide (j<i))):=opB0 fun _ _ _ _ _ _ _ q=>gt_int q
theorem op_ge:OpR X (compareOp .GtE) (rI0 fun i j=>.bl (decide (j≤i))):=opB0 fun _ _ _ _ _ _ _ q=>ge_int q
theorem op_isN:OpR X (compareOp .Is) (fun x y H Q=>y=.non∧Q (.bl (decide (x=.non))) H):=by
 intro pins s σ H x y v u Q I rx ry h
 obtain⟨rfl,q⟩:=h
 cases ry
 refine is_none_gen (fin_bl I q ?_)
 cases x<;>first
  | (cases rx;rfl)
  | (obtain⟨t,rfl⟩:=rx;rfl)
theorem op_notN:OpR X (compareOp .IsNot) (fun x y H Q=>y=.non∧Q (.bl (!decide (x=.non))) H):=by
 intro pins s σ H x y v u Q I rx ry h
 obtain⟨rfl,q⟩:=h
 cases ry
 refine isnot_none_gen (fin_bl I q ?_)
 cases x<;>first
  | (cases rx;rfl)
  | (obtain⟨t,rfl⟩:=rx;rfl)
theorem OpR.or{f:Value→Value→Sem Value}{r r':R2}(h:OpR X f r)(h':OpR X f r'):OpR X f (fun x y H Q=>r x y H Q∨r' x y H Q):=by
 intro pins s σ H x y v u Q I rx ry q
 rcases q with q|q
 ·exact h pins s σ H x y v u Q I rx ry q
 ·exact h' pins s σ H x y v u Q I rx ry q
theorem nomark(b:Expr){op:CmpOp}(h:op≠.In:=by decide)(h2:op≠.NotIn:=by decide):behindInMarks op b=false:=by
 have e1:(op==CmpOp.In)=false:=by cases op<;>first|rfl|exact absurd rfl h
 have e2:(op==CmpOp.NotIn)=false:=by cases op<;>first|rfl|exact absurd rfl h2
 cases b<;>simp[behindInMarks,e1,e2]
theorem pe_cmpR{op:CmpOp}{r:R2}(ho:OpR X (compareOp op) r)(ha:PE X a ta)(hb:PE X b tb)(hm:behindInMarks op b=false):PE X (.Compare a [op] [b] pos) (tOp r ta tb):=by
 intro pins s σ H Q I h
 exact wpAny_Compare1 (binT ha hb I h fun v u s2 x y H2 I2 rx ry q=>ho pins s2 σ H2 x y v u Q I2 rx ry q) hm
def tTest(t:TE):TT:=fun σ H Q=>t σ H fun x H'=>∃k,x=.bl k∧Q k H'
theorem pt_cmpR{op:CmpOp}{r:R2}(ho:OpR X (compareOp op) r)(ha:PE X a ta)(hb:PE X b tb)(hm:behindInMarks op b=false):PT X (.Compare a [op] [b] pos) (tTest (tOp r ta tb)):=by
 intro pins s σ H Q I h
 refine wpAny_isTrue_Compare1 (thn (ha pins s σ H _ I h) fun v s1 ⟨x,H1,I1,r1,q1⟩=>thn (hb pins s1 σ H1 _ I1 q1) fun u s2 ⟨y,H2,I2,r2,q2⟩=>
  thn (ho pins s2 σ H2 x y v u _ I2 r1 r2 q2) fun c s3 ⟨z,H3,I3,r3,k,e,q3⟩=>?_) hm
 subst e
 cases r3
 exact wpAny_truthy_bool ⟨H3,I3,q3⟩
def TruV(K:PySem.W.Frag)(x:V)(H:Hp)(k:Bool):Prop:=
 match x with
 | .non=>k=false
 | .bl b=>k=b
 | .int i=>k=(i != 0)
 | .str y=>y.length≤sizeLine∧k=((y.length:Int) != 0)
 | .byt y=>y.size≤sizeLine∧k=((y.size:Int) != 0)
 | .ref p=>(∃xs,SqL K H p xs∧k=!xs.isEmpty)∨(∃xs,SqT K H p xs∧k=!xs.isEmpty)∨∃kvs,H p=some (.dK kvs)∧k=!kvs.isEmpty
 | _=>False
theorem zaht{κ:Type}{kvs:List (κ×V)}{vs:List (κ×Value)}(r:KV kvs vs):(!vs.isEmpty)=!kvs.isEmpty:=by
 cases r<;>rfl
theorem zadj{xs:List V}{its:List Value}(r:Vals xs its):(!its.toArray.isEmpty)=!xs.isEmpty:=by
 cases r<;>simp
theorem line63:(sizeLine:Nat)<2^63:=by rw[sizeLine_eq];decide
theorem tru_ok:TruR X (fun x H Q=>∃k,TruV X.K x H k∧Q k H):=by
 intro pins s σ H x v Q I rx h
 obtain⟨k,e,q⟩:=h
 have hl:=line63
 have hs:sizeLine=16777216:=sizeLine_eq
 cases x with
 | non=>
  cases rx
  have e':k=false:=e
  subst e'
  exact truthy_none ⟨H,I,q⟩
 | bl b=>
  cases rx
  have e':k=b:=e
  subst e'
  exact wpAny_truthy_bool ⟨H,I,q⟩
 | int i=>
  obtain⟨t,rfl⟩:=rx
  have e':k=(i != 0):=e
  subst e'
  exact PySem.P.truthy_int ⟨H,I,q⟩
 | str y=>
  obtain⟨t,rfl⟩:=rx
  obtain⟨hy,e'⟩:y.length≤sizeLine∧k=((y.length:Int) != 0):=e
  subst e'
  exact PySem.P.truthy_str (by omega) ⟨H,I.tok _,q⟩
 | byt y=>
  obtain⟨t,rfl⟩:=rx
  obtain⟨hy,e'⟩:y.size≤sizeLine∧k=((y.size:Int) != 0):=e
  subst e'
  exact PySem.W.truthy_bytes (by omega) ⟨H,I.tok _,q⟩
 | ref p=>
  cases rx
  have e':(∃xs,SqL X.K H p xs∧k=!xs.isEmpty)∨(∃xs,SqT X.K H p xs∧k=!xs.isEmpty)∨∃kvs,H p=some (.dK kvs)∧k=!kvs.isEmpty:=e
  rcases e' with⟨xs,hx,e'⟩|⟨xs,hx,e'⟩|⟨kvs,hx,e'⟩
  ·subst e'
   obtain⟨its,r,pl,hz⟩:=I.list hx
   have hlen:=r.length
   exact wpAny_truthy_list pl.isList (by simp only[List.size_toArray];omega) ⟨H,I.tok _,by rw[zadj r];exact q⟩
  ·subst e'
   obtain⟨its,r,pl,hz⟩:=I.tuple hx
   have hlen:=r.length
   exact truthy_tuple pl (by simp only[List.size_toArray];omega) ⟨H,I.tok _,by rw[zadj r];exact q⟩
  ·subst e'
   obtain⟨hz,hS,vs,r,m⟩:kvs.length≤sizeLine∧(p==sysModules)=false∧∃vs,KV kvs vs∧s.heap.DictOf (zaia X.prog X.w) p vs:=I.hok p _ hx
   have hlen:kvs.length=vs.length:=Paired.length r
   exact wpAny_truthy_dict hS m (by omega) ⟨H,I.tok _,by rw[zaht r];exact q⟩
 | _=>exact(show False from e).elim
theorem pt_truth(ha:PE X a ta)(he:∀whole,isTrue a X.env whole=(do let v ←whole;standAt a.pos;holding [v] (truthy v))):
  PT X a (fun σ H Q=>ta σ H fun x H'=>∃k,TruV X.K x H' k∧Q k H'):=by
 intro pins s σ H Q I h
 exact isTrue_plain (thn (ha pins s σ H _ I h) fun v s1 ⟨x,H1,I1,r1,q1⟩=>tru_ok pins s1 σ H1 x v Q I1 r1 q1) (he _)
theorem vals1{x:V}{us:List Value}(r:Vals [x] us):∃u,us=[u]∧RelV x u:=by
 cases r with
 | cons r1 r2=>cases r2;exact⟨_,rfl,r1⟩
theorem vals2{x y:V}{us:List Value}(r:Vals [x,y] us):∃u w',us=[u,w']∧RelV x u∧RelV y w':=by
 cases r with
 | cons r1 r2=>
  cases r2 with
  | cons r3 r4=>cases r4;exact⟨_,_,rfl,r1,r3⟩
theorem call_abs:CallR X (.builtin "abs") (fun xs H Q=>∃i,xs=[.int i]∧Q (.int (if i<0 then -i else i)) H):=by
 intro pins s σ H xs us Q I r h
 obtain⟨i,rfl,q⟩:=h
 obtain⟨u,rfl,t,rfl⟩:=vals1 r
 exact call_abs_int fun u tk=>⟨.int (if i<0 then -i else i),H,I.tok _,⟨_,rfl⟩,q⟩
theorem call_max2(hc:X.calm=true):CallR X (.builtin "max") (fun xs H Q=>∃i j,xs=[.int i,.int j]∧Q (.int (if j>i then j else i)) H):=by
 intro pins s σ H xs us Q I r h
 obtain⟨i,j,rfl,q⟩:=h
 obtain⟨u,w',rfl,⟨t,rfl⟩,⟨t',rfl⟩⟩:=vals2 r
 refine max_two_ints (I.ok.hd hc) fun h' tk k=>⟨_,H,I.kept k,?_,q⟩
 by_cases hj:j>i
 ·rw[if_pos hj,if_pos hj];exact⟨_,rfl⟩
 ·rw[if_neg hj,if_neg hj];exact⟨_,rfl⟩
theorem call_int1:CallR X (.type "int") (fun xs H Q=>(∃i,xs=[.int i]∧Q (.int i) H)∨∃k,xs=[.bl k]∧Q (.int (if k then 1 else 0)) H):=by
 intro pins s σ H xs us Q I r h
 rcases h with⟨i,rfl,q⟩|⟨k,rfl,q⟩
 ·obtain⟨u,rfl,t,rfl⟩:=vals1 r
  exact call_int_int ⟨.int i,H,I,⟨_,rfl⟩,q⟩
 ·obtain⟨u,rfl,r1⟩:=vals1 r
  cases r1
  exact call_int_bool ⟨.int (if k then 1 else 0),H,I.tok _,⟨_,rfl⟩,q⟩
end
end L2
namespace L2
open PySem PySem.Spec PyProof.Rows
structure ObjM(h:Heap)(x dx C:Addr)(mA:Str→Option Value):Prop where
 obj:h.get? x=some (PySem.W.instObj C dx)
 ns:h.Ns1 dx mA
 ne:dx≠x
theorem lookIn_ns{h:Heap}{dx:Addr}{mA:Str→Option Value}(n:h.Ns1 dx mA):∃od,h.get? dx=some od∧∀name,PySem.W.lookIn name od=some (mA name):=by
 obtain⟨o,es,ep,ho,hd,hk,_,hm⟩:=n
 refine⟨o,ho,fun name=>?_⟩
 have e:=hm name
 unfold nsFind findBy at e
 rw[←Array.find?_toList]at e
 unfold PySem.W.lookIn
 rw[hd]
 dsimp only
 split
 ·rename_i y q
  rw[q]at e
  exact congrArg some e
 ·rename_i q
  rw[q]at e
  have a:es.toList.any (·.refKey)=false:=by
   rw[List.any_eq_false]
   intro y hy
   obtain⟨z,t,hkey⟩:=hk y (Array.mem_toList_iff.mp hy)
   simp[DictEntry.refKey,hkey]
  have a':¬es.toList.any (·.refKey)=true:=by rw[a];exact Bool.false_ne_true
  rw[if_neg a']
  exact congrArg some e
theorem ObjM.look{h:Heap}{x dx C:Addr}{mA:Str→Option Value}(I:ObjM h x dx C mA):∃od,PySem.W.InstAt h x (PySem.W.instObj C dx) C (some od)∧∀name,PySem.W.lookIn name od=some (mA name):=
 let ⟨od,ho,hl⟩:=lookIn_ns I.ns
 ⟨od,⟨I.obj,rfl,rfl,ho⟩,hl⟩
section
variable{prog:Program}{w:World}{A:Around}{E:Value→Shared→Prop}{s:Shared}{K:PySem.W.Frag}{x dx C f:Addr}{mA:Str→Option Value}{name:Str}{v:Value}
theorem get_map{expr:Bool}{Q:Value→Shared→Prop}(X:K.In s.heap)(I:ObjM s.heap x dx C mA)(hg:PySem.W.plainGet K C name=true)(hh:PySem.W.hasDictIn K C=true)
  (ha:PySem.W.findIn K (.ref C) name=some none) (hv:mA name=some v) (hv':PySem.W.handedIn v=true) (h:Q v { s with toks:=s.toks+1 }):
  wpAny (model prog w) A (getAttr (.ref x) name expr) Q E s:=by
 obtain⟨od,J,hl⟩:=I.look
 exact PySem.W.get_value X J (PySem.W.plainGet_of hg).1 (PySem.W.findObj_own hh ha rfl (by rw[hl,hv])) hv' h
theorem get_meth{pl:Sem Bool}{Q:Value×List Value→Shared→Prop}(X:K.In s.heap)(I:ObjM s.heap x dx C mA)(hg:PySem.W.plainGet K C name=true)
  (hf:PySem.W.findIn K (.ref C) name=some (some (.ref f))) (ht:PySem.W.isFn K (.ref f)=true) (hv:mA name=none) (h:Q (.ref f,[.ref x]) s):
  wpAny (model prog w) A (getMethod (.ref x) name pl) Q E s:=by
 obtain⟨od,J,hl⟩:=I.look
 exact PySem.W.method_fn X J (PySem.W.plainGet_of hg).1 (PySem.W.plainGet_of hg).2 hf (beq_iff_eq.mp ht) (by show(PySem.W.lookIn name od).map (·.isSome)=some false;rw[hl,hv];rfl) h
theorem set_map{ns:List Str}{Q:Unit→Shared→Prop}(X:K.In s.heap)(I:ObjM s.heap x dx C mA)
  (hs:PySem.W.findIn K (.ref C) "__setattr__"=some (some (.builtin "object.__setattr__"))) (hp:PySem.W.plainOver K C=true) (ht:PySem.W.takerIn K C name=some none) (hh:PySem.W.hasDictIn K C=true)
  (hw:PySem.Within mA ns) (hsz:ns.length≤sizeLine)
  (h:∀h',ObjM h' x dx C (fun y=>if y=name then some v else mA y)→Heap.SameBut dx s.heap h'→Q () { s with heap:=h',toks:=s.toks+2 }):
  wpAny (model prog w) A (setAttr (.ref x) name v) Q E s:=by
 obtain⟨od,J,hl⟩:=I.look
 refine PySem.W.set_plain X J hs (PySem.W.osa_open (s:={ s with toks:=s.toks+1 }) (r:=none) X J hp ht fun b=>?_)
 obtain⟨cd,hc,hd'⟩:=PySem.W.any_some hh
 have hx:s.heap.get? x=some ⟨.ref C,some dx,.plain,#[]⟩:=I.obj
 refine wpAny_bind (wpAny_pure (wpAny_bind (wpAny_bind (wpAny_loadPart hx (wpAny_bind (PySem.W.Looks.here (s:={ s with toks:=s.toks+1 }) (PySem.W.looks_clsIn X hc) ?_))))))
 rw[hd']
 refine wpAny_pure (a:=some dx) (wpAny_bind (wpAny_pure (wpAny_bind ?_)))
 refine wpAny_nsSet1 (s:={ s with toks:=s.toks+1 }) I.ns fun h' hn2 hs2=>?_
 obtain⟨oD,esD,epD,hoD,hdD,hcD⟩:=hn2.count (PySem.Within.cons name v hw)
 refine wpAny_bind (wpAny_lookBehind hoD (by rw[hdD];exact pastItsLine_dict (Nat.le_trans hcD (by rw[List.length_cons];omega))) ?_)
 exact wpAny_pure (h _ ⟨(hs2.2 _ (Ne.symm I.ne)).trans I.obj,hn2,I.ne⟩ hs2)
theorem make_map{R:Result→Shared→Prop}{vs:List Value}{kw:List (Str×Value)}(X:K.In s.heap)(hm:PySem.W.makesIn K C=true)
  (hi:PySem.W.findIn K (.ref C) "__init__"=some (some (.ref f))) (hf:PySem.W.typeIn K (.ref f)=some (.type "function"))
  (h:codeAny (model prog w) (A.under (.builtin "type.__call__" ⟨.ref C::vs,kw⟩)) (.call (.ref f) ⟨.ref (s.heap.objs.size+1)::vs,kw⟩) (PySem.W.InitBack (s.heap.objs.size+1) R)
   { s with heap:=(s.heap.push PySem.W.emptyDict).push (PySem.W.instObj C s.heap.objs.size) }):
  codeAny (model prog w) A (.call (.ref C) ⟨vs,kw⟩) R s:=by
 obtain⟨hh,g,d,t,os⟩:=s
 exact PySem.W.make_core (PySem.W.makes_of X hm) (PySem.W.looks_findIn X hi) (fun self=>PySem.W.bind_fn X self hf) (.inl rfl) h
end
def putF(f:Str)(v:V):List (Str×V)→List (Str×V)
 | []=>[(f,v)]
 | (g,x)::r=>if g=f then(g,v)::r else(g,x)::putF f v r
theorem zab3(f g:Str)(v:V):∀fs:List (Str×V),(putF f v fs).lookup g=if g=f then some v else fs.lookup g
 | []=>by
  show List.lookup g [(f,v)]=_
  by_cases h:g=f
  ·have hb:(g==f)=true:=beq_iff_eq.mpr h
   simp only[List.lookup,hb,if_pos h]
  ·have hb:(g==f)=false:=beq_eq_false_iff_ne.mpr h
   simp only[List.lookup,hb,if_neg h]
 | (k,x)::r=>by
  have ih:=zab3 f g v r
  rw[show putF f v ((k,x)::r)=(if k=f then(k,v)::r else(k,x)::putF f v r)from rfl]
  by_cases hk:k=f
  ·rw[if_pos hk]
   by_cases h:g=k
   ·have hb:(g==k)=true:=beq_iff_eq.mpr h
    simp only[List.lookup,hb,if_pos (h.trans hk)]
   ·have hb:(g==k)=false:=beq_eq_false_iff_ne.mpr h
    simp only[List.lookup,hb,if_neg (fun e:g=f=>h (e.trans hk.symm))]
  ·rw[if_neg hk]
   by_cases h:g=k
   ·have hb:(g==k)=true:=beq_iff_eq.mpr h
    simp only[List.lookup,hb,if_neg (fun e:g=f=>hk (h.symm.trans e))]
   ·have hb:(g==k)=false:=beq_eq_false_iff_ne.mpr h
    simp only[List.lookup,hb]
    exact ih
theorem zadb(f:Str)(v:V):∀fs:List (Str×V),f∈(putF f v fs).map (·.1)∧∀g,g∈fs.map (·.1)→g∈(putF f v fs).map (·.1)
 | []=>⟨by simp[putF],fun g h=>by simp at h⟩
 | (k,x)::r=>by
  obtain⟨i1,i2⟩:=zadb f v r
  rw[show putF f v ((k,x)::r)=(if k=f then(k,v)::r else(k,x)::putF f v r)from rfl]
  by_cases hk:k=f
  ·rw[if_pos hk]
   subst hk
   exact⟨by simp,fun g h=>by simpa using h⟩
  ·rw[if_neg hk]
   refine⟨?_,fun g h=>?_⟩
   ·rw[List.map_cons]
    exact List.mem_cons_of_mem _ i1
   ·rw[List.map_cons]at h ⊢
    rcases List.mem_cons.mp h with e|e
    ·exact List.mem_cons.mpr (.inl e)
    ·exact List.mem_cons_of_mem _ (i2 g e)
theorem zacx(f:Str)(v:V):∀fs:List (Str×V),(putF f v fs).length≤fs.length+1
 | []=>by simp[putF]
 | (k,x)::r=>by
  have ih:=zacx f v r
  rw[show putF f v ((k,x)::r)=(if k=f then(k,v)::r else(k,x)::putF f v r)from rfl]
  by_cases hk:k=f
  ·rw[if_pos hk,List.length_cons,List.length_cons];omega
  ·rw[if_neg hk,List.length_cons,List.length_cons];omega
theorem RelO.some_of{v:V}{o:Option Value}(r:RelO (some v) o):∃u,o=some u∧RelV v u:=by
 cases o with
 | none=>exact(show False from r).elim
 | some u=>exact⟨u,rfl,r⟩
theorem RelO.none_of{o:Option Value}(r:RelO none o):o=none:=by
 cases o with
 | none=>rfl
 | some u=>exact(show False from r).elim
theorem handed_of{v:V}{u:Value}(r:RelV v u):PySem.W.handedIn u=true:=by
 cases v with
 | non=>cases(show u=Value.none from r);rfl
 | bl b=>cases(show u=Value.bool b from r);rfl
 | int i=>obtain⟨t,e⟩:=(show ∃t,u=Value.int i t from r);cases e;rfl
 | str x=>obtain⟨t,e⟩:=(show ∃t,u=Value.str x t from r);cases e;rfl
 | byt b=>obtain⟨t,e⟩:=(show ∃t,u=Value.bytes b t from r);cases e;rfl
 | flt b=>obtain⟨t,e⟩:=(show ∃t,u=Value.float b t from r);cases e;rfl
 | ref a=>cases(show u=Value.ref a from r);rfl
 | ty n=>cases(show u=Value.type n from r);rfl
section
variable{P:Program}{w:World}{H H':Hp}{h h':Heap}{a C dx:Addr}{fs fs':List (Str×V)}
theorem zaey(hok:HOk P w H h)(e:H a=some (.ins C dx fs)):∃mA,ObjM h a dx C mA∧(∀f,RelO (fs.lookup f) (mA f))∧PySem.Within mA (fs.map (·.1))∧fs.length≤1000∧H dx=some (.own a):=by
 obtain⟨d,z,ne,ob,mA,n,r,q⟩:=(show ObjOk P w H h a (.ins C dx fs)from hok a _ e)
 exact⟨mA,⟨ob,n,ne⟩,r,q,z,d⟩
end
structure Cls(K:PySem.W.Frag)(C:Addr):Prop where
 pg:PySem.W.plainGet K C Str.empty=true
 hd:PySem.W.hasDictIn K C=true
 po:PySem.W.plainOver K C=true
 sa:PySem.W.findIn K (.ref C) "__setattr__"=some (some (.builtin "object.__setattr__"))
theorem Cls.get{K:PySem.W.Frag}{C:Addr}(c:Cls K C)(f:Str):PySem.W.plainGet K C f=true:=c.pg
def NoAttr(K:PySem.W.Frag)(C:Addr)(f:Str):Prop:=PySem.W.findIn K (.ref C) f=some none
theorem NoAttr.taker{K:PySem.W.Frag}{C:Addr}{f:Str}(n:NoAttr K C f):PySem.W.takerIn K C f=some none:=by
 unfold PySem.W.takerIn
 rw[show PySem.W.findIn K (.ref C) f=some none from n]
 rfl
structure Con(K:PySem.W.Frag)(C:Addr)(f:Str)(v:V)(u:Value):Prop where
 at_:PySem.W.findIn K (.ref C) f=some (some u)
 rel:RelV v u
 get:PySem.W.specialIn K u "__get__"=some none
 cp:PySem.W.copiedNames.contains f=false
structure Meth(K:PySem.W.Frag)(C:Addr)(m:Str)(f:Addr):Prop where
 at_:PySem.W.findIn K (.ref C) m=some (some (.ref f))
 fn:PySem.W.isFn K (.ref f)=true
 kp:PySem.W.keepIn K (.ref f)=true
section
variable{X:Cx}{pins:List (Addr×Obj)}{σ:St}{H:Hp}{s:Shared}{a C dx:Addr}{fs:List (Str×V)}{f:Str}{v:V}{A:Around}{E:Value→Shared→Prop}
theorem zag9{b:Bool}{Q:Value→Shared→Prop}(I:Inv X pins σ H s)(e:H a=some (.ins C dx fs))(c:Cls X.K C)(n:NoAttr X.K C f)(l:fs.lookup f=some v)
  (h:∀u s',Inv X pins σ H s'→RelV v u→Q u s'):wpAny (model X.prog X.w) A (getAttr (.ref a) f b) Q E s:=by
 obtain⟨mA,O,r,_,_,_⟩:=zaey I.hok e
 obtain⟨u,hu,ru⟩:=RelO.some_of (v:=v) (o:=mA f) (by rw[←l];exact r f)
 exact get_map I.kIn O (c.get f) c.hd n hu (handed_of ru) (h u _ (I.tok _) ru)
theorem zadu{m:Str}{g:Addr}{pl:Sem Bool}{Q:Value×List Value→Shared→Prop}(I:Inv X pins σ H s)(e:H a=some (.ins C dx fs))(c:Cls X.K C)(k:Meth X.K C m g)(l:fs.lookup m=none)
  (h:Q (.ref g,[.ref a]) s):wpAny (model X.prog X.w) A (getMethod (.ref a) m pl) Q E s:=by
 obtain⟨mA,O,r,_,_,_⟩:=zaey I.hok e
 have hn:mA m=none:=RelO.none_of (by rw[←l];exact r m)
 exact get_meth I.kIn O (c.get m) k.at_ k.fn hn h
theorem zagt{y:V}{u:Value}{Q:Unit→Shared→Prop}(I:Inv X pins σ H s)(e:H a=some (.ins C dx fs))(c:Cls X.K C)(n:NoAttr X.K C f)(hl:fs.length<1000)(ry:RelV y u)
  (h:∀s',Inv X pins σ (upd H a (.ins C dx (putF f y fs))) s'→Q () s'):wpAny (model X.prog X.w) A (setAttr (.ref a) f u) Q E s:=by
 obtain⟨mA,O,r,wi,_,ho⟩:=zaey I.hok e
 have hz:(fs.map (·.1)).length≤sizeLine:=by rw[List.length_map,sizeLine_eq];omega
 refine set_map I.kIn O c.sa c.po n.taker c.hd wi hz fun h' O' sb=>h _ ?_
 have hd:∃o,h'.get? dx=some o:=let ⟨o,_,_,e',_⟩:=O'.ns;⟨o,e'⟩
 refine I.write (x:=a) (e:=dx) (by rw[e];exact True.intro) (.inr ho) (fun b q hb z=>(sb.2 b hb).trans z) hd ?_
 refine⟨by rw[upd_ne O.ne];exact ho,?_,O.ne,O'.obj,_,O'.ns,fun g=>?_,fun g hg=>?_⟩
 ·have:=zacx f y fs;omega
 ·show RelO ((putF f y fs).lookup g) (if g=f then some u else mA g)
  rw[zab3]
  by_cases q:g=f
  ·rw[if_pos q,if_pos q];exact ry
  ·rw[if_neg q,if_neg q];exact r g
 ·by_cases q:g=f
  ·rw[q];exact(zadb f y fs).1
  ·refine(zadb f y fs).2 g (wi g fun z=>hg ?_)
   show(if g=f then some u else mA g)=none
   rw[if_neg q];exact z
theorem Inv.made(I:Inv X pins σ H s):Inv X pins σ (upd (upd H s.heap.objs.size (.own (s.heap.objs.size+1))) (s.heap.objs.size+1) (.ins C s.heap.objs.size []))
  { s with heap:=(s.heap.push PySem.W.emptyDict).push (PySem.W.instObj C s.heap.objs.size) }:=by
 have e1:(s.heap.push PySem.W.emptyDict).get? s.heap.objs.size=some PySem.W.emptyDict:=Heap.get?_push_size s.heap rfl
 have e2:((s.heap.push PySem.W.emptyDict).push (PySem.W.instObj C s.heap.objs.size)).get? (s.heap.objs.size+1)=some (PySem.W.instObj C s.heap.objs.size):=by
  have:=Heap.get?_push_size (s.heap.push PySem.W.emptyDict) (o:=PySem.W.instObj C s.heap.objs.size) rfl
  rwa [Heap.size_push]at this
 have e3:(s.heap.push PySem.W.emptyDict).Ns s.heap.objs.size (fun _=>none):=⟨PySem.W.emptyDict,#[],_,e1,rfl,(fun e he=>absurd he (by simp)),fun _=>rfl⟩
 have I1:=I.laid (a:=s.heap.objs.size) (o:=.own (s.heap.objs.size+1)) (h':=s.heap.push PySem.W.emptyDict) (t':=s.toks) (fun b u q=>Heap.get?_push_of_some _ q) (Nat.le_refl _) ⟨_,e1⟩
 refine I1.laid (a:=s.heap.objs.size+1) (o:=.ins C s.heap.objs.size []) (t':=s.toks) (fun b u q=>Heap.get?_push_of_some _ q) (Nat.le_of_eq (Heap.size_push _ _)) ?_
 have ne:s.heap.objs.size≠s.heap.objs.size+1:=Nat.ne_of_lt (Nat.lt_succ_self _)
 refine⟨by rw[upd_ne ne,zaau],Nat.zero_le _,ne,e2,fun _=>none,(Heap.Ns1.of_empty e3).at fun o q=>Heap.get?_push_of_some _ q,fun _=>True.intro,fun y hy=>absurd rfl hy⟩
theorem attr_of{prog:Program}{w:World}{env:Env}{e:Expr}{f:Str}{pos:Pos}{s:Shared}{Q:Value→Shared→Prop}(hb:attributeBase e f env (eval e env)=eval e env)
  (h:wpAny (model prog w) A (eval e env) (fun o s₁=>wpAny (model prog w) A (getAttr o f true) Q E s₁) E s):wpAny (model prog w) A (eval (.Attribute e f pos) env) Q E s:=
 Attribute_any_ h (by rw[arm_eval_Attribute,hb])
end
def tFld(K:PySem.W.Frag)(ta:TE)(f:Str):TE:=fun σ H Q=>ta σ H fun x H1=>∃a C dx fs v,x=.ref a∧H1 a=some (.ins C dx fs)∧Cls K C∧NoAttr K C f∧fs.lookup f=some v∧Q v H1
def sFld(K:PySem.W.Frag)(ta tv:TE)(f:Str):TS:=fun D σ H=>tv σ H fun y H1=>ta σ H1 fun x H2=>∃a C dx fs,x=.ref a∧H2 a=some (.ins C dx fs)∧Cls K C∧NoAttr K C f∧fs.length<1000∧
 D.nx σ (upd H2 a (.ins C dx (putF f y fs)))
section
variable{X:Cx}{o e value:Expr}{f:Str}{pos pos' tpos:Pos}{ta tv:TE}
theorem pe_fld(he:PE X e ta)(hb:attributeBase e f X.env (eval e X.env)=eval e X.env):PE X (.Attribute e f pos) (tFld X.K ta f):=by
 intro pins s σ H Q I h
 refine attr_of hb (thn (he pins s σ H _ I h) fun u s1 ⟨x,H1,I1,rx,a,C,dx,fs,v,ex,ea,c,n,l,q⟩=>?_)
 subst ex
 obtain rfl:u=Value.ref a:=rx
 exact zag9 I1 ea c n l fun u' s2 I2 ru=>⟨v,H1,I2,ru,q⟩
theorem ps_fld(ha:PE X o ta)(hv:PE X value tv)(hs:swapsWith value (some (.Attribute o f pos')) pos.line X.env=pure false):PS X (.Assign [.Attribute o f pos'] value pos) (sFld X.K ta tv f):=by
 intro pins s σ H D I h
 refine plainObj_wpAny_Assign_Attribute (thn (hv pins s σ H _ I h) fun u s1 ⟨y,H1,I1,ry,q⟩=>thn (ha pins s1 σ H1 _ I1 q) fun ov s2 ⟨x,H2,I2,rx,a,C,dx,fs,ex,ea,c,n,l,q2⟩=>?_) hs
 subst ex
 obtain rfl:ov=Value.ref a:=rx
 exact zagt I2 ea c n l ry fun s3 I3=>⟨σ,_,I3,q2⟩
end
section
variable{X:Cx}{pins:List (Addr×Obj)}{σ:St}{H:Hp}{s:Shared}{A:Around}{E:Value→Shared→Prop}{Q:Value→Shared→Prop}{c:Value}{b:Bool}
inductive TyOf(K:PySem.W.Frag)(H:Hp):V→Value→Prop where
 | non:TyOf K H .non (.type "NoneType")
 | bl (x:Bool):TyOf K H (.bl x) (.type "bool")
 | int (i:Int):TyOf K H (.int i) (.type "int")
 | str (x:Str):TyOf K H (.str x) (.type "str")
 | flt (x:UInt64):TyOf K H (.flt x) (.type "float")
 | lst {a:Addr}{xs:List V} (e:H a=some (.lst xs)):TyOf K H (.ref a) (.type "list")
 | frz {a:Addr}{o:Obj}{xs:List V} (e:H a=some (.frz o (.lst xs))):TyOf K H (.ref a) (.type "list")
 | tup {a:Addr}{xs:List V} (e:H a=some (.tup xs)):TyOf K H (.ref a) (.type "tuple")
 | dK {a:Addr}{kvs:List (Key×V)} (e:H a=some (.dK kvs)):TyOf K H (.ref a) (.type "dict")
 | dT {a:Addr}{kvs:List (List Key×V)} (e:H a=some (.dT kvs)):TyOf K H (.ref a) (.type "dict")
 | ins {a C dx:Addr}{fs:List (Str×V)} (e:H a=some (.ins C dx fs)) (cl:Cls K C) (ha:PySem.W.findIn K (.ref C) "__class__"=some (some (.builtin "object.__class__")))
   (hn:PySem.W.specialIn K (.builtin "object.__class__") "__get__"=some (some (.builtin "getset_descriptor.__get__"))) (htk:PySem.W.takesIn K (.builtin "object.__class__")=some true)
   (hm:PySem.W.mroIn K C (.type "object")=some true):TyOf K H (.ref a) (.ref C)
theorem isinst_ok{x:V}{u t:Value}(I:Inv X pins σ H s)(rx:RelV x u)(ty:TyOf X.K H x t)(e:PySem.W.kitOne X.K t c=some b)(h:∀tk,Q (.bool b) { s with toks:=tk }):
  wpAny (model X.prog X.w) A (call (.builtin "isinstance") [u,c]) Q E s:=by
 cases ty with
 | non=>cases(show u=Value.none from rx);exact PySem.W.kia_one PySem.W.kitx_none I.kIn True.intro e (fun z=>nomatch z) h
 | bl y=>cases(show u=Value.bool y from rx);exact PySem.W.kia_one PySem.W.kitx_bool I.kIn True.intro e (fun z=>nomatch z) h
 | int i=>obtain⟨t,q⟩:=(show ∃t,u=Value.int i t from rx);cases q;exact PySem.W.kia_one PySem.W.kitx_int I.kIn True.intro e (fun z=>nomatch z) h
 | str y=>obtain⟨t,q⟩:=(show ∃t,u=Value.str y t from rx);cases q;exact PySem.W.kia_one PySem.W.kitx_str I.kIn True.intro e (fun z=>nomatch z) h
 | flt y=>obtain⟨t,q⟩:=(show ∃t,u=Value.float y t from rx);cases q;exact PySem.W.kia_one PySem.W.kitx_float I.kIn True.intro e (fun z=>nomatch z) h
 | @lst a xs ea=>
  cases(show u=Value.ref a from rx)
  obtain⟨_,_,n,_,h1⟩:=(show ObjOk X.prog X.w H s.heap a (.lst xs)from I.hok a _ ea)
  exact PySem.W.kia_one PySem.W.kitx_list I.kIn ⟨_,h1,rfl⟩ e (fun z=>nomatch z) h
 | @frz a ob xs ea=>
  cases(show u=Value.ref a from rx)
  obtain⟨_,_,_,n,_,h1⟩:=(show ObjOk X.prog X.w H s.heap a (.frz ob (.lst xs))from I.hok a _ ea)
  exact PySem.W.kia_one PySem.W.kitx_list I.kIn ⟨_,h1,rfl⟩ e (fun z=>nomatch z) h
 | @tup a xs ea=>
  cases(show u=Value.ref a from rx)
  obtain⟨_,_,_,p⟩:=(show ObjOk X.prog X.w H s.heap a (.tup xs)from I.hok a _ ea)
  obtain⟨o,h1,h2,_⟩:=p
  exact PySem.W.kia_one PySem.W.kitx_tuple I.kIn ⟨o,h1,h2⟩ e (fun z=>nomatch z) h
 | @dK a kvs ea=>
  cases(show u=Value.ref a from rx)
  obtain⟨_,_,vs,_,p⟩:=(show ObjOk X.prog X.w H s.heap a (.dK kvs)from I.hok a _ ea)
  obtain⟨o,es,ep,h1,h2,_⟩:=p
  exact PySem.W.kia_one PySem.W.kitx_dict I.kIn ⟨o,h1,h2.1⟩ e (fun z=>nomatch z) h
 | @dT a kvs ea=>
  cases(show u=Value.ref a from rx)
  obtain⟨_,_,xs,_,o,es,ep,h1,h2,_⟩:=(show ObjOk X.prog X.w H s.heap a (.dT kvs)from I.hok a _ ea)
  exact PySem.W.kia_one PySem.W.kitx_dict I.kIn ⟨o,h1,h2.1⟩ e (fun z=>nomatch z) h
 | @ins a C dx fs ea cl ha hn htk hm=>
  cases(show u=Value.ref a from rx)
  obtain⟨mA,O,_⟩:=zaey I.hok ea
  obtain⟨od,J,_⟩:=O.look
  exact PySem.W.kia_one (PySem.W.kitx_own (cl.get _) cl.hd ha hn htk hm) I.kIn J e (fun z=>nomatch z) h
end
end L2
namespace L2
open PySem PySem.Spec PyProof.Rows
structure Room(k:Nat)(A:Around):Prop where
 hd:A.handled=none
 dp:A.depth+3*k+5<recursionLimit
 un:A.units+16*k+200<cLine
theorem Room.mono{j k:Nat}{A:Around}(r:Room k A)(h:j≤k):Room j A:=⟨r.hd,by have:=r.dp;omega,by have:=r.un;omega⟩
theorem Room.deeper{k:Nat}{A:Around}(r:Room (k+1) A)(env:Env):Room k (A.deeper env):=
 ⟨r.hd,by have:=r.dp;show A.depth+1+3*k+5<_;omega,by have:=r.un;show A.units+3+16*k+200<_;omega⟩
theorem Room.in1{k:Nat}{A:Around}(r:Room (k+1) A):Room k A.in1:=
 ⟨r.hd,by have:=r.dp;show A.depth+3*k+5<_;omega,by have:=r.un;show A.units+1+16*k+200<_;omega⟩
theorem zaf3{A:Around}{C:Addr}{us:List Value}{kw:List (Str×Value)}:(A.under (.builtin "type.__call__" ⟨.ref C::us,kw⟩)).depth=A.depth+1:=by
 first|rfl|simp[Around.under,Code.weight,Code.isCreation,Code.isGuard,Code.isCaller,Code.frames,Code.isFrame,guardIds]
theorem zahw{A:Around}{C:Addr}{us:List Value}{kw:List (Str×Value)}:(A.under (.builtin "type.__call__" ⟨.ref C::us,kw⟩)).units=A.units+1:=by
 first|rfl|simp[Around.under,Code.cUnits,Code.frames,Code.isFrame]
theorem Room.make{k:Nat}{A:Around}(r:Room (k+1) A)(C:Addr)(us:List Value)(kw:List (Str×Value)):Room k (A.under (.builtin "type.__call__" ⟨.ref C::us,kw⟩)):=
 ⟨r.hd,by have:=r.dp;rw[zaf3];omega,by have:=r.un;rw[zahw];omega⟩
theorem Room.depth{k:Nat}{A:Around}(r:Room k A):A.depth<recursionLimit:=by have:=r.dp;omega
theorem Room.units{k:Nat}{A:Around}(r:Room k A):A.units+64<cLine:=by have:=r.un;omega
def tNil:TA:=fun _ H Q=>Q [] H
def tCons(ta:TE)(tr:TA):TA:=fun σ H Q=>ta σ H fun x H1=>tr σ H1 fun xs H2=>Q (x::xs) H2
section
variable{X:Cx}{e:Expr}{es:List Expr}{te:TE}{t:TA}{pos:Pos}
theorem pa_nil:PA X [] tNil:=fun _ _ _ _ H Q I h=>Calls.spliced_nil ⟨[],H,I,.nil,h⟩
theorem zaa3(ha:PE X e te)(hr:PA X es t)(hs:starEach (e::es) X.env=(false,eval e X.env)::starEach es X.env:=by rfl):PA X (e::es) (tCons te t):=by
 intro pos pins s σ H Q I h
 rw[hs]
 show wpAny _ _ (spliced ((false,eval e X.env)::backTo pos (starEach es X.env))) _ _ s
 refine Calls.spliced_cons (thn (ha pins s σ H _ I h) fun u s1 ⟨x,H1,I1,r1,q1⟩=>?_)
 exact thn (hr pos pins s1 σ H1 _ I1 q1) fun us s2 ⟨xs,H2,I2,r2,q2⟩=>⟨x::xs,H2,I2,.cons r1 r2,q2⟩
def tTup(t:TA):TE:=fun σ H Q=>t σ H fun xs H1=>xs.length≤sizeLine∧∀p,H1 p=none→Q (.ref p) (upd H1 p (.tup xs))
def tLst(t:TA):TE:=fun σ H Q=>t σ H fun xs H1=>xs.length≤sizeLine∧∀p,H1 p=none→Q (.ref p) (upd H1 p (.lst xs))
theorem pe_tup{x1}(h:PA X es t):PE X (.Tuple es x1 pos) (tTup t):=by
 intro pins s σ H Q I hq
 refine wpAny_Tuple_spliced (thn (h pos pins s σ H _ I hq) fun us s1 ⟨xs,H1,I1,r,z,q⟩=>⟨by rw[←r.length];exact z,?_⟩)
 have hf:H1 s1.heap.objs.size=none:=I1.hok.fresh (Nat.le_refl _)
 refine⟨.ref s1.heap.objs.size,upd H1 s1.heap.objs.size (.tup xs),I1.laid (t':=s1.toks) (fun b u e=>Heap.get?_push_of_some _ e) (Nat.le_refl _) ?_,rfl,q _ hf⟩
 exact⟨z,us,r,⟨_,Heap.get?_push_size _ rfl,rfl,_,rfl⟩⟩
theorem pe_lst(h:PA X es t):PE X (.List es pos) (tLst t):=by
 intro pins s σ H Q I hq
 refine wpAny_List_spliced (thn (h pos pins s σ H _ I hq) fun us s1 ⟨xs,H1,I1,r,z,q⟩=>⟨by rw[←r.length];exact z,?_⟩)
 have hf:H1 s1.heap.objs.size=none:=I1.hok.fresh (Nat.le_refl _)
 refine⟨.ref s1.heap.objs.size,upd H1 s1.heap.objs.size (.lst xs),I1.laid (t':=s1.toks) (fun b u e=>Heap.get?_push_of_some _ e) (Nat.le_refl _) ?_,rfl,q _ hf⟩
 exact⟨z,us,0,r,Heap.get?_push_size _ rfl⟩
end
abbrev Sp:=List V→Hp→VK→XK→Prop
abbrev CXT:=List Env→Hp→Shared→XK→Value→Shared→Prop
structure Env0(P:Program)(w:World)(K:PySem.W.Frag)(mg:Str→Option Value)(base:Heap)(A:Around)(outer:List Env)(s:Shared)(H:Hp):Prop where
 frames:A.frames=some outer
 mod:Mod K mg base
 bs:∀b o,base.get? b=some o→s.heap.get? b=some o∧H b=none
 bsz:base.objs.size≤s.heap.objs.size
 funs:s.heap.FunFrames base outer
 frf:∀b∈frs outer,H b=none
 hok:HOk P w H s.heap
 bare:AllBare s.gens
def CE(outer:List Env)(P:Program)(w:World)(H:Hp)(s:Shared)(Q:VK)(u:Value)(s':Shared):Prop:=
 ∃v H',s'.os=s.os∧AllBare s'.gens∧Un (frs outer) [] H H' s.heap s'.heap∧HOk P w H' s'.heap∧RelV v u∧Q v H'
def CR(CX:CXT)(outer:List Env)(P:Program)(w:World)(H:Hp)(s:Shared)(Q:VK)(E:XK)(r:Result)(s':Shared):Prop:=
 match r with
 | .ok (.ret u)=>CE outer P w H s Q u s'
 | .ok _=>False
 | .error e=>CX outer H s E e s'
structure FnOk(P:Program)(w:World)(K:PySem.W.Frag)(mg:Str→Option Value)(base:Heap)(CX:CXT)(k:Nat)(f:Addr)(fd:FuncData)(ps:List Str)(sp:Sp):Prop where
 len:∀vs H Q E,sp vs H Q E→vs.length=ps.length
 run:∀(A:Around) (outer:List Env) (s:Shared) (H:Hp) (args:Args) (us:List Value) (vs:List V) (Q:VK) (E:XK),Room k A→Env0 P w K mg base A outer s H→BindsTo s fd args (ps.zip us)→Vals vs us→sp vs H Q E→
  codeAny (model P w) A (.call (.ref f) args) (CR CX outer P w H s Q E) s
theorem FnOk.mono{P:Program}{w:World}{K:PySem.W.Frag}{mg:Str→Option Value}{base:Heap}{CX:CXT}{j k:Nat}{f:Addr}{fd:FuncData}{ps:List Str}{sp:Sp}(F:FnOk P w K mg base CX j f fd ps sp)(h:j≤k):
  FnOk P w K mg base CX k f fd ps sp:=⟨F.len,fun A outer s H args us vs Q E hr=>F.run A outer s H args us vs Q E (hr.mono h)⟩
theorem FnOk.imp{P:Program}{w:World}{K:PySem.W.Frag}{mg:Str→Option Value}{base:Heap}{CX:CXT}{k:Nat}{f:Addr}{fd:FuncData}{ps:List Str}{sp sp':Sp}(F:FnOk P w K mg base CX k f fd ps sp)
  (h:∀vs H Q E,sp' vs H Q E→sp vs H Q E):FnOk P w K mg base CX k f fd ps sp':=
 ⟨fun vs H Q E q=>F.len vs H Q E (h _ _ _ _ q),fun A outer s H args us vs Q E hr he hb hv hs=>F.run A outer s H args us vs Q E hr he hb hv (h _ _ _ _ hs)⟩
theorem Env0.make{P:Program}{w:World}{K:PySem.W.Frag}{mg:Str→Option Value}{base:Heap}{A:Around}{outer:List Env}{s:Shared}{H:Hp}(e:Env0 P w K mg base A outer s H)(C:Addr)(us:List Value)(kw:List (Str×Value)):
  Env0 P w K mg base (A.under (.builtin "type.__call__" ⟨.ref C::us,kw⟩)) outer s H:=⟨by first|exact e.frames|(simpa [Around.under,Code.envs,Code.isFrame,pushEnvs]using e.frames),e.mod,e.bs,e.bsz,e.funs,e.frf,e.hok,e.bare⟩
theorem Env0.in1{P:Program}{w:World}{K:PySem.W.Frag}{mg:Str→Option Value}{base:Heap}{A:Around}{outer:List Env}{s:Shared}{H:Hp}(e:Env0 P w K mg base A outer s H):
  Env0 P w K mg base A.in1 outer s H:=⟨e.frames,e.mod,e.bs,e.bsz,e.funs,e.frf,e.hok,e.bare⟩
section
variable{X:Cx}{pins:List (Addr×Obj)}{σ:St}{H:Hp}{s s':Shared}
theorem Inv.env0(I:Inv X pins σ H s):Env0 X.prog X.w X.K X.mg X.base X.A X.stack s H:=
 ⟨I.ok.frames,I.ok.mod,I.bs,Nat.le_trans I.ok.bsz I.sz,I.stack,I.stkFree,I.hok,I.bare⟩
theorem Inv.after{Q:VK}{u:Value}(I:Inv X pins σ H s)(h:CE X.stack X.prog X.w H s Q u s'):EP X pins σ Q u s':=by
 obtain⟨v,H',os,bare,un,hok,r,q⟩:=h
 obtain⟨hh,g,d,t,os'⟩:=s'
 obtain rfl:os'=s.os:=os
 exact⟨v,H',I.call (h':=hh) (g':=g) (d':=d) (t':=t) (ch:=[]) un hok bare (fun b z=>absurd z (by simp)),r,q⟩
end
def Binds(K:PySem.W.Frag)(fd:FuncData)(ps:List Str)(ds:List Value):Prop:=
 ∀(s:Shared) (us:List Value),K.In s.heap→(us++ds).length=ps.length→BindsTo s fd ⟨us,[]⟩ (ps.zip (us++ds))
theorem Binds.all{K:PySem.W.Frag}{fd:FuncData}{ps:List Str}(h:∀us:List Value,us.length=ps.length→bindArgs fd ⟨us,[]⟩=pure (ps.zip us)):Binds K fd ps []:=fun s us _ hl=>by
 rw[List.append_nil]at hl ⊢
 exact .of_eq (h us hl)
section
variable{X:Cx}{CX:CXT}{k:Nat}{f C:Addr}{fd:FuncData}{ps:List Str}{sp:Sp}{dvs:List V}{ds:List Value}{E:XK}{x m:Str}{p pos apos:Pos}{e o:Expr}{es:List Expr}{ta:TE}{t:TA}
structure Mk(K:PySem.W.Frag)(C f:Addr):Prop where
 makes:PySem.W.makesIn K C=true
 init:PySem.W.findIn K (.ref C) "__init__"=some (some (.ref f))
 fn:PySem.W.isFn K (.ref f)=true
 kp:PySem.W.keepIn K (.ref C)=true
end
section
variable{X:Cx}{CX:CXT}{k:Nat}{f C:Addr}{fd:FuncData}{ps ks:List Str}{sp:Sp}{E:XK}{x m:Str}{p pos apos kpos:Pos}{e o:Expr}{es:List Expr}{kws:List Keyword}{te ta:TE}{t tk:TA}{nm:Option Str}
structure KBinds(K:PySem.W.Frag)(fd:FuncData)(ps ks:List Str)(g:List Value→List Value→List Value)(gV:List V→List V→List V):Prop where
 to:∀(s:Shared) (us ws:List Value),K.In s.heap→(g us ws).length=ps.length→BindsTo s fd ⟨us,ks.zip ws⟩ (ps.zip (g us ws))
 rel:∀{vs:List V}{us:List Value}{zs:List V}{ws:List Value},Vals vs us→Vals zs ws→Vals (gV vs zs) (g us ws)
variable{g:List Value→List Value→List Value}{gV:List V→List V→List V}
end
structure FnScope(N P:List Str)(sc:Scope):Prop where
 kind:sc.kind=.function
 co:sc.isCoroutine=false
 gen:sc.isGenerator=false
 nd:N.Nodup
 pre:N.take P.length=P
 par:∀x∈P,sc.names.lookup x=some .local∨sc.names.lookup x=some .cell
 nofree:∀y∈sc.names,y.2≠.free
theorem zaen{kindOf:Str→Option NameKind}{x:Str}:∀{binds:List (Str×Value)}{m:Str→Option Value},(∀v,(x,v)∉binds)→bindL kindOf binds m x=m x
 | [],_,_=>rfl
 | (n,v)::r,m,h=>by
  unfold bindL
  rw[zaen fun w hw=>h w (List.mem_cons_of_mem _ hw)]
  split
  ·have:x≠n:=by rintro rfl;exact h v List.mem_cons_self
   simp[this]
  ·rfl
theorem zafm{kindOf:Str→Option NameKind}{x:Str}:∀{binds:List (Str×Value)}{m:Str→Option Value},(∀v,(x,v)∉binds)→bindC kindOf binds m x=m x
 | [],_,_=>rfl
 | (n,v)::r,m,h=>by
  unfold bindC
  rw[zafm fun w hw=>h w (List.mem_cons_of_mem _ hw)]
  split
  ·rfl
  ·have:x≠n:=by rintro rfl;exact h v List.mem_cons_self
   simp[this]
theorem zafk{kindOf:Str→Option NameKind}{x:Str}{v:Value}:∀{P:List Str}{vs:List Value}{i:Nat}{m:Str→Option Value},P.Nodup→P[i]?=some x→vs[i]?=some v→kindOf x=some .local→
  bindL kindOf (P.zip vs) m x=some v
 | [],_,_,_,_,h,_,_=>by simp at h
 | _::_,[],_,_,_,_,h,_=>by simp at h
 | p::P,w::vs,0,m,nd,h1,h2,hk=>by
  simp at h1 h2;subst h1;subst h2
  show bindL kindOf ((p,w)::P.zip vs) m p=_
  unfold bindL
  rw[zaen fun v hv=>(List.nodup_cons.mp nd).1 (List.of_mem_zip hv).1,if_pos hk]
  simp
 | p::P,w::vs,i+1,m,nd,h1,h2,hk=>by
  show bindL kindOf ((p,w)::P.zip vs) m x=_
  unfold bindL
  exact zafk (i:=i) (List.nodup_cons.mp nd).2 (by simpa using h1) (by simpa using h2) hk
theorem zae4{kindOf:Str→Option NameKind}{x:Str}{v:Value}:∀{P:List Str}{vs:List Value}{i:Nat}{m:Str→Option Value},P.Nodup→P[i]?=some x→vs[i]?=some v→kindOf x≠some .local→
  bindC kindOf (P.zip vs) m x=some v
 | [],_,_,_,_,h,_,_=>by simp at h
 | _::_,[],_,_,_,_,h,_=>by simp at h
 | p::P,w::vs,0,m,nd,h1,h2,hk=>by
  simp at h1 h2;subst h1;subst h2
  show bindC kindOf ((p,w)::P.zip vs) m p=_
  unfold bindC
  rw[zafm fun v hv=>(List.nodup_cons.mp nd).1 (List.of_mem_zip hv).1,if_neg hk]
  simp
 | p::P,w::vs,i+1,m,nd,h1,h2,hk=>by
  show bindC kindOf ((p,w)::P.zip vs) m x=_
  unfold bindC
  exact zae4 (i:=i) (List.nodup_cons.mp nd).2 (by simpa using h1) (by simpa using h2) hk
def start(N:List Str)(vs:List V):St:=vs.map some++List.replicate (N.length-vs.length) none
def cxOf(CX:CXT)(P:Program)(w:World)(K:PySem.W.Frag)(mg:Str→Option Value)(base:Heap)(N:List Str)(qual:Str)(scope:Scope)(f:Addr)(cd:Value)(A:Around)(outer:List Env)(s:Shared)(H:Hp)(E:XK):Cx where
 prog:=P
 w:=w
 K:=K
 mg:=mg
 base:=base
 A:=A.deeper (envOfC qual scope s.heap.objs.size f cd)
 N:=N
 s₀:=s
 H₀:=H
 env:=envOfC qual scope s.heap.objs.size f cd
 outer:=outer
 stack:=envOfC qual scope s.heap.objs.size f cd::outer
 ex:=[]
 calm:=true
 fn:=fun _=>true
 pn:=[]
 xe:=fun e s'=>wpAny (model P w) (A.deeper (envOfC qual scope s.heap.objs.size f cd)) (leaving (envOfC qual scope s.heap.objs.size f cd) e) (fun _ s''=>CX outer H s E e s'') (fun e' s''=>CX outer H s E e' s'') s'
theorem zagp{sc:Scope}{n:Nat}{x:Str}(h:sc.names.lookup x=some .cell):∃c,(cellsFrom n sc.names []).lookup x=some c:=by
 have q:=PySem.W.cellsFrom_some sc.names n [] (.inl h)
 exact Option.isSome_iff_exists.mp q
theorem inv_start{CX:CXT}{P:Program}{w:World}{K:PySem.W.Frag}{mg:Str→Option Value}{base:Heap}{N ps:List Str}{qual:Str}{scope:Scope}{f:Addr}{cd:Value}{A:Around}{outer:List Env}{s s1:Shared}{H:Hp}{E:XK}{us:List Value}{vs:List V}
  (S:FnScope N ps scope) (hd:A.handled=none) (e0:Env0 P w K mg base A outer s H) (hl:vs.length=ps.length) (r:Vals vs us)
  (x:InCallC s s.heap.objs.size (bindL (envOfC qual scope s.heap.objs.size f cd).kindOf (ps.zip us) fun _=>none) (cellsFrom (s.heap.objs.size+1) scope.names []) (bindC (envOfC qual scope s.heap.objs.size f cd).kindOf (ps.zip us) fun _=>none) s1):
  Inv (cxOf CX P w K mg base N qual scope f cd A outer s H E) [] (start N vs) H s1:=by
 have hpl:ps.length≤N.length:=by have:=congrArg List.length S.pre;rw[List.length_take]at this;omega
 obtain⟨h1,tk,rfl,hk⟩:=x.done
 have noA:∀b:Addr,b∉(cxOf CX P w K mg base N qual scope f cd A outer s H E).ex:=fun b z=>absurd (show b∈([]:List Addr)from z) (by simp)
 refine⟨⟨e0.mod,S.kind,rfl,rfl,Nat.le_refl _,fun y z c h1 h2=>?_,fun y hy=>?_,fun y c _ h=>?_,fun _=>hd,Around.frames_deeper e0.frames,.inr ⟨rfl,rfl⟩,fun b z=>absurd z (noA b),e0.bs,e0.bsz,fun b _ _=>noA b,fun b z=>absurd z (noA b),e0.funs,e0.frf⟩,
  rfl,e0.bare,Un.kept hk,⟨_,x.toInCall.ns,fun i y v h1 h2 h3=>?_⟩,fun y c h=>⟨_,x.cell y c h⟩,e0.hok.fresh (Nat.le_refl _),fun y c h=>?_,fun p hp=>absurd (show p∈([]:List (Addr×Obj))from hp) (by simp),e0.hok.kept hk,?_⟩
 ·exact name_of_addr x.apart (PySem.mem_of_lookup h1) (PySem.mem_of_lookup h2)
 ·have hy:scope.names.lookup y=some .cell∨scope.names.lookup y=some .free:=hy
  rcases hy with hy|hy
  ·exact zagp hy
  ·exact absurd rfl (S.nofree _ (PySem.mem_of_lookup hy))
 ·exact Nat.le_of_lt (x.above y c (PySem.mem_of_lookup h))
 ·have hi:i<vs.length:=by
   unfold start at h2
   by_cases hi:i<vs.length
   ·exact hi
   ·rw[List.getElem?_append_right (by simpa using hi)]at h2
    rw[List.getElem?_replicate]at h2
    split at h2<;>cases h2
  have ha:vs[i]?=some v:=by
   unfold start at h2
   rw[List.getElem?_append_left (by simpa using hi),List.getElem?_map]at h2
   cases e:vs[i]? with
   | none=>rw[e]at h2;cases h2
   | some a=>rw[e]at h2;cases h2;rfl
  obtain⟨u,hu,rv⟩:=r.get ha
  have hp:ps[i]?=some y:=by
   rw[←S.pre,List.getElem?_take_of_lt (by omega)];exact h1
  have ndP:ps.Nodup:=by rw[←S.pre];exact S.nd.sublist (List.take_sublist _ _)
  refine⟨u,rv,?_⟩
  rcases S.par y (List.mem_of_getElem? hp)with k|k
  ·exact .inl ⟨k,zafk ndP hp hu k⟩
  ·obtain⟨c,e⟩:=zagp (n:=s.heap.objs.size+1) k
   refine .inr ⟨.inl k,c,e,?_⟩
   have q:=x.cell y c e
   rw[zae4 ndP hp hu (by show scope.names.lookup y≠_;rw[k];decide)]at q
   exact q
 ·exact e0.hok.fresh (Nat.le_of_lt (x.above y c (PySem.mem_of_lookup h)))
 ·unfold start
  show _=N.length
  rw[List.length_append,List.length_map,List.length_replicate]
  omega
theorem fn_of{CX:CXT}{P:Program}{w:World}{K:PySem.W.Frag}{mg:Str→Option Value}{base:Heap}{k:Nat}{f:Addr}{name qual:Str}{params:Arguments}{body:List Stmt}{scope:Scope}{dV kV doc pm cdv ct oc:Value}{an od:Option Addr}
  {osl:Array (Option Value)}{N ps:List Str}{sp:Sp} (lk:K.lookup f=some ⟨oc,od,.func (PySem.W.fnOf name qual params body scope dV kV doc pm an cdv ct),osl⟩) (hcd:PySem.W.codeIn K cdv qual=true) (S:FnScope N ps scope)
  (len:∀vs H Q E,sp vs H Q E→vs.length=ps.length)
  (hbody:∀(A:Around) (outer:List Env) (s:Shared) (H:Hp) (vs:List V) (Q:VK) (E:XK),Room k (A.deeper (envOfC qual scope s.heap.objs.size f cdv))→sp vs H Q E→
   ∃t,PSs (cxOf CX P w K mg base N qual scope f cdv A outer s H E) body t∧t { nx:=fun _ H'=>Q .non H',rt:=Q } (start N vs) H):
  FnOk P w K mg base CX (k+1) f (PySem.W.fnOf name qual params body scope dV kV doc pm an cdv ct) ps sp:=by
 refine⟨len,fun A outer s H args us vs Q E hr e0 hb r hsp=>?_⟩
 have hl:=len _ _ _ _ hsp
 have KX:K.In s.heap:=e0.mod.kin.keeps fun b o e=>(e0.bs b o e).1
 have lim:s.heap.NoLimit:=e0.mod.nolimit.keeps fun b o e=>(e0.bs b o e).1
 have hkind:∀y∈ps.zip us,scope.names.lookup y.1=some .local∨(scope.names.lookup y.1=some .cell∧((cellsFrom (s.heap.objs.size+1) scope.names []).lookup y.1).isSome=true):=fun⟨n,v⟩ hy=>by
  rcases S.par n (List.of_mem_zip hy).1 with q|q
  ·exact .inl q
  ·exact .inr ⟨q,PySem.W.cellsFrom_some _ _ _ (.inl q)⟩
 refine codeAny_call_function hr.depth (KX _ _ lk) rfl S.co S.gen rfl (PySem.W.codeRec_of KX hcd) (hb _ _ _ _ ?_)
 refine wpAny_newFunctionEnv_cells S.kind hkind fun env he s1 x=>?_
 subst he
 refine⟨lim.keeps x.toInCall.keep,codeAny_func ?_⟩
 obtain⟨t,ht,hq⟩:=hbody A outer s H vs Q E (hr.deeper _) hsp
 have I:Inv (cxOf CX P w K mg base N qual scope f cdv A outer s H E) [] (start N vs) H s1:=inv_start S hr.hd e0 hl r x
 refine wpAny_mono (ht [] s1 (start N vs) H _ I hq) (fun fl s' hs=>?_) fun e s' hs=>hs
 have fin:∀{σ':St}{H':Hp}{v:V}{u:Value},Inv (cxOf CX P w K mg base N qual scope f cdv A outer s H E) [] σ' H' s'→RelV v u→Q v H'→CE outer P w H s Q u s':=
  fun {σ' H' v u} J rv q=>⟨v,H',J.os,J.bare,J.base,J.hok,rv,q⟩
 cases fl with
 | ret u=>
  obtain⟨v,σ',H',J,rv,q⟩:=hs
  exact fin J rv q
 | next=>
  obtain⟨σ',H',J,q⟩:=hs
  exact fin (v:=V.non) (u:=Value.none) J rfl q
 | brk=>
  obtain⟨_,_,_,q⟩:=hs
  exact False.elim q
 | cont=>
  obtain⟨_,_,_,q⟩:=hs
  exact False.elim q
end L2
namespace L2
open PySem PySem.Spec PyProof.Rows
section
variable{X:Cx}{x:Str}{p pos:Pos}{e:Expr}{es:List Expr}{t:TA}{id T:String}{r:List V→Hp→VK→Prop}
def tCB(r:List V→Hp→VK→Prop)(t:TA):TE:=fun σ H Q=>t σ H fun vs H1=>r vs H1 Q
theorem zaeb(hc:CallR X (.builtin id) r)(hg:Gl X x)(hm:X.mg x=none)(hv:bootBuiltins x=some (.builtin id))(ha:PA X (e::es) t)(hn:x≠"__name__":=by decide)(hdb:(x==("__debug__":Str))=false:=by decide)
  (he:starEach (e::es) X.env=(false,eval e X.env)::starEach es X.env:=by rfl) (hpl:(backTo pos (starEach es X.env)).any (·.1)=false:=by rfl):PE X (.Call (.Name x p) (e::es) [] pos) (tCB r t):=by
 intro pins s σ H Q I h
 refine wpAny_Call_Name_kw (ld_blt I hg hm hv ?_ hn hdb)
 exact PyProof.Rows.callWith_builtin1 (thn (ha pos pins s σ H _ I h) fun us s1 ⟨vs,H1,I1,r1,q1⟩=>hc pins s1 σ H1 vs us Q I1 r1 q1) he hpl
theorem zaex(hc:CallR X (.type T) r)(hg:Gl X x)(hm:X.mg x=none)(hv:bootBuiltins x=some (.type T))(ha:PA X (e::es) t)(hn:x≠"__name__":=by decide)(hdb:(x==("__debug__":Str))=false:=by decide)
  (he:starEach (e::es) X.env=(false,eval e X.env)::starEach es X.env:=by rfl) (hpl:(backTo pos (starEach es X.env)).any (·.1)=false:=by rfl):PE X (.Call (.Name x p) (e::es) [] pos) (tCB r t):=by
 intro pins s σ H Q I h
 refine wpAny_Call_Name_kw (ld_blt I hg hm hv ?_ hn hdb)
 exact PyProof.Rows.callWith_type1 (thn (ha pos pins s σ H _ I h) fun us s1 ⟨vs,H1,I1,r1,q1⟩=>hc pins s1 σ H1 vs us Q I1 r1 q1) he hpl
end
end L2
namespace HT
open PySem PyProof.Rows
section
open PySem.SeqAt
open PySem.AutoSeq1 (wpAny_loadPart')
open PySem.MeetsSeq PySem.MeetsSeq2 PySem.MeetsSeq3
end
section
variable{prog:Program}{w:World}{A:Around}{E:Value→Shared→Prop}{s:Shared}
theorem cat_tup{t b:Addr}{vs ws:List Value}{Q:Value→Shared→Prop}(ht:IsTup s.heap t vs.toArray)(hb:IsTup s.heap b ws.toArray)(hv:vs≠[])
  (h1:ws=[]→Q (.ref t) s) (h2:ws≠[]→Q (.ref s.heap.objs.size) { s with heap:=s.heap.push { cls:=.type "tuple",data:=.seq (vs++ws).toArray } })
  (hsz:vs.length+ws.length≤sizeLine):wpAny (model prog w) A (binaryOp .Add (.ref t) (.ref b)) Q E s:=by
 obtain⟨⟨cls,dd,data,sl⟩,ho,hc,n,hd⟩:=id ht
 obtain⟨⟨cls2,dd2,data2,sl2⟩,ho2,hc2,n2,hd2⟩:=id hb
 simp only at hc hd hc2 hd2
 subst hc hd hc2 hd2
 have e:vs.toArray++ws.toArray=(vs++ws).toArray:=by simp
 by_cases hw:ws=[]
 ·exact concat_meets ⟨_,ho,rfl⟩ ⟨_,ho2,rfl⟩ noFill_tuple_add seq_tuple_add PySem.F.slot_tuple_add PySem.F.entry_tuple_add (PySem.F.args_tuple_add_2 _ _)
   (tuple_addW1 t b vs.toArray ws.toArray n n2 dd dd2 sl sl2 (by simpa using hv) (by simp[hw])) ⟨ho,ho2,h1 hw⟩
 ·refine concat_meets ⟨_,ho,rfl⟩ ⟨_,ho2,rfl⟩ noFill_tuple_add seq_tuple_add PySem.F.slot_tuple_add PySem.F.entry_tuple_add (PySem.F.args_tuple_add_2 _ _)
   (tuple_addW2 t b vs.toArray ws.toArray n n2 dd dd2 sl sl2 (by simpa using hv) (by simpa using hw) (by rw[List.size_toArray,List.size_toArray];exact hsz)) ⟨ho,ho2,?_⟩
  rw[e]
  exact h2 hw
def sIx(n d:Nat):Option Int→Nat
 | none=>d
 | some v=>if v<0 then(v+(n:Int)).toNat else min v.toNat n
theorem sIx_nat(n d k:Nat):sIx n d (some (k:Int))=min k n:=by
 show(if(k:Int)<0 then((k:Int)+(n:Int)).toNat else min (k:Int).toNat n)=min k n
 rw[if_neg (by omega),Int.toNat_natCast]
theorem sIx_le(n d:Nat)(hd:d≤n)(o:Option Int):sIx n d o≤n:=by
 cases o with
 | none=>exact hd
 | some v=>
  show(if v<0 then(v+(n:Int)).toNat else min v.toNat n)≤n
  by_cases hv:v<0
  ·rw[if_pos hv];omega
  ·rw[if_neg hv];exact Nat.min_le_right _ _
theorem clip_eq(v:Int)(n d:Nat):(if v<0 then max (v+(n:Int)) 0 else min v (n:Int))=((sIx n d (some v):Nat):Int):=by
 show(if v<0 then max (v+(n:Int)) 0 else min v (n:Int))=(((if v<0 then(v+(n:Int)).toNat else min v.toNat n):Nat):Int)
 by_cases hv:v<0
 ·simp only[if_pos hv];omega
 ·simp only[if_neg hv];omega
theorem zag6(lo hi:Option Int)(n:Nat):Builtin.Slice.sliceAdjust lo hi 1 (n:Int)=(((sIx n 0 lo:Nat):Int),((sIx n n hi:Nat):Int)):=by
 have h1:¬((1:Int)<0):=by omega
 unfold Builtin.Slice.sliceAdjust
 simp only[h1,if_false]
 refine Prod.ext ?_ ?_
 ·cases lo with
  | none=>rfl
  | some v=>exact clip_eq v n 0
 ·cases hi with
  | none=>rfl
  | some v=>exact clip_eq v n n
theorem zahf(i j:Nat):Builtin.Slice.slicePlaces (i:Int) (j:Int) 1=j-i:=by
 unfold Builtin.Slice.slicePlaces
 have h1:(1:Int)>0:=by omega
 simp only[h1,if_true,Int.ediv_one]
 split<;>omega
theorem zadk{v:Value}{o:Option Int}{Q:Option Int→Shared→Prop}(p:IsPart v o)(h:Q o s):wpAny (model prog w) A (Builtin.Slice.slicePartIndex v) Q E s:=by
 cases p with
 | none=>exact slicePart_none h
 | int i t=>exact slicePart_int h
theorem zact{sl:Addr}{vl vu:Value}{lo hi:Option Int}{n:Nat}{Q:Int×Int×Nat→Shared→Prop}(hs:s.heap.IsSliceOf sl vl vu .none)(pl:IsPart vl lo)(pu:IsPart vu hi)
  (h:Q (((sIx n 0 lo:Nat):Int),1,sIx n n hi-sIx n 0 lo) s):wpAny (model prog w) A (Builtin.Slice.sliceApplied (.ref sl) (pure (n:Int))) Q E s:=by
 obtain⟨os,hos,hcs,hds⟩:=id hs
 unfold Builtin.Slice.sliceApplied Builtin.Slice.sliceFields
 refine wpAny_bind (wpAny_bind (wpAny_field hos hds (x:=vl) rfl (wpAny_bind (wpAny_field hos hds (x:=vu) rfl (wpAny_bind (wpAny_field hos hds (x:=.none) rfl (wpAny_pure ?_)))))))
 refine wpAny_bind (slicePart_none ?_)
 show wpAny _ _ (if((1:Int)==0)=true then _ else _) _ _ s
 rw[if_neg (by decide)]
 refine wpAny_bind (zadk pl (wpAny_bind (zadk pu (wpAny_bind (wpAny_pure ?_)))))
 show wpAny _ _ (match Builtin.Slice.sliceAdjust lo hi 1 (n:Int)with|(lo,hi)=>pure (lo,(1:Int),Builtin.Slice.slicePlaces lo hi 1)) _ _ s
 rw[zag6 lo hi n]
 show wpAny _ _ (pure (((sIx n 0 lo:Nat):Int),(1:Int),Builtin.Slice.slicePlaces ((sIx n 0 lo:Nat):Int) ((sIx n n hi:Nat):Int) 1)) _ _ s
 rw[zahf]
 exact wpAny_pure h
theorem pick_gen(xs:Array Value)(i k:Nat):((List.range k).filterMap fun(m:Nat)=>xs[((i:Int)+(m:Int)*1).toNat]?).toArray=((xs.toList.drop i).take k).toArray:=by
 have e:(fun(m:Nat)=>xs[((i:Int)+(m:Int)*1).toNat]?)=fun m=>xs[i+m]?:=by
  funext m
  have:((i:Int)+(m:Int)*1).toNat=i+m:=by omega
  rw[this]
 rw[e]
 have:=pick_run xs i k
 rw[List.filterMap_map]at this
 have e2:((fun x=>xs[x]?)∘fun x=>i+x)=fun m=>xs[i+m]?:=rfl
 rw[e2]at this
 rw[this]
theorem getItem_tuple_cut{t sl:Addr}{items:Array Value}{vl vu:Value}{lo hi:Option Int}{Q:Value→Shared→Prop}(ht:IsTup s.heap t items)(hs:s.heap.IsSliceOf sl vl vu .none)(pl:IsPart vl lo)(pu:IsPart vu hi)
  (hw:¬(sIx items.size 0 lo=0∧sIx items.size items.size hi=items.size))
  (h:Q (.ref s.heap.objs.size) { s with heap:=s.heap.push { cls:=.type "tuple",data:=.seq ((items.toList.drop (sIx items.size 0 lo)).take (sIx items.size items.size hi-sIx items.size 0 lo)).toArray } })
  (hsz:items.size≤sizeLine):wpAny (model prog w) A (getItem (.ref t) (.ref sl)) Q E s:=by
 have htake:sizeOk (.seq ((items.toList.drop (sIx items.size 0 lo)).take (sIx items.size items.size hi-sIx items.size 0 lo)).toArray):=by
  show((items.toList.drop (sIx items.size 0 lo)).take (sIx items.size items.size hi-sIx items.size 0 lo)).toArray.size≤sizeLine
  rw[List.size_toArray,List.length_take,List.length_drop,Array.length_toList]
  omega
 have hj:sIx items.size items.size hi≤items.size:=sIx_le _ _ (Nat.le_refl _) hi
 obtain⟨os,hos,hcs,hds⟩:=id hs
 have hTs:s.TypeIs (.ref sl) "slice":=⟨os,hos,hcs⟩
 unfold getItem
 try with_reducible refine wpAny_holding ?_
 first|refine wpAny_bind (wpAny_pure ?_)|skip
 refine wpAny_bind (wpAny_sequenceKey ht.typeIs (by decide) ?_)
 refine wpAny_bind (wpAny_callSpecial?_slot (name:=Str.ofString "__getitem__") ht.typeIs PyProof.Rows.slot_tuple_getitem
  (wpAny_call_entry PyProof.Rows.slot_tuple_getitem ht.typeIs entry_tuple_getitem ?_ (args_tuple_getitem _ _)))
 show wpAny _ _ (Builtin.Tuple.tupleItemsOf (.ref t) >>= _) _ _ s
 refine wpAny_bind (tupleItemsOf_ ht ?_)
 refine wpAny_bind (wpAny_typeOf hTs ?_)
 rw[if_pos (by decide)]
 refine wpAny_bind (zact hs pl pu ?_)
 have hno:¬((((sIx items.size 0 lo:Nat):Int)==0&&(1:Int)==1&&(sIx items.size items.size hi-sIx items.size 0 lo)==items.size)=true):=by
  intro q
  rw[Bool.and_eq_true,Bool.and_eq_true]at q
  have q1:((sIx items.size 0 lo:Nat):Int)=0:=eq_of_beq q.1.1
  have q2:sIx items.size items.size hi-sIx items.size 0 lo=items.size:=eq_of_beq q.2
  exact hw ⟨by omega,by omega⟩
 show wpAny _ _ (if(((sIx items.size 0 lo:Nat):Int)==0&&(1:Int)==1&&(sIx items.size items.size hi-sIx items.size 0 lo)==items.size)=true then _ else _) _ _ s
 rw[if_neg hno,pick_gen]
 first
  | exact wpAny_bind (m:=Builtin.Tuple.tupleExact _) (wpAny_newObj_type (wpAny_pure ⟨_,rfl,wpAny_pure h⟩) htake)
  | exact wpAny_bind (m:=Builtin.Tuple.tupleExact _) (wpAny_newObj_type (wpAny_bind (wpAny_pure (wpAny_pure ⟨_,rfl,wpAny_pure h⟩))) htake)
  | exact wpAny_bind (wpAny_bind (m:=Builtin.Tuple.tupleExact _) (wpAny_newObj_type (wpAny_pure (wpAny_pure ⟨_,rfl,wpAny_pure h⟩)) htake))
  | exact wpAny_bind (wpAny_bind (m:=Builtin.Tuple.tupleExact _) (wpAny_newObj_type (wpAny_pure ⟨_,rfl,wpAny_pure h⟩) htake))
end
end HT
namespace L2
open PySem PySem.Spec PyProof.Rows
abbrev TO:=St→Hp→(Option Int→Hp→Prop)→Prop
def PO(X:Cx)(e:Option Expr)(t:TO):Prop:=
 ∀(pins:List (Addr×Obj)) (s:Shared) (σ:St) (H:Hp) (Q:Option Int→Hp→Prop),Inv X pins σ H s→t σ H Q→
  wpAny (model X.prog X.w) X.A (evalPart e X.env) (fun u s'=>∃o H',Inv X pins σ H' s'∧IsPart u o∧Q o H') X.xe s
def tNoPart:TO:=fun _ H Q=>Q none H
def tPart(t:TE):TO:=fun σ H Q=>t σ H fun x H1=>∃i,x=.int i∧Q (some i) H1
section
variable{X:Cx}{e:Expr}{te:TE}{lo hi:Option Expr}{tl th:TO}{pos p2:Pos}
theorem zae0:PO X none tNoPart:=by
 intro pins s σ H Q I h
 rw[evalPart_none]
 exact wpAny_pure ⟨none,H,I,.none,h⟩
theorem zadq(h:PE X e te):PO X (some e) (tPart te):=by
 intro pins s σ H Q I hw
 rw[evalPart_some]
 refine thn (h pins s σ H _ I hw) fun u s1 ⟨x,H1,I1,r1,q1⟩=>?_
 obtain⟨i,rfl,q⟩:=q1
 obtain⟨t,rfl⟩:=r1
 exact⟨some i,H1,I1,.int i t,q⟩
def SlR(X:Cx)(r:V→Option Int→Option Int→Hp→VK→Prop):Prop:=
 ∀(pins:List (Addr×Obj)) (s:Shared) (σ:St) (H:Hp) (x:V) (v vl vu:Value) (lo hi:Option Int) (sl:Addr) (Q:VK),Inv X pins σ H s→RelV x v→s.heap.IsSliceOf sl vl vu .none→IsPart vl lo→IsPart vu hi→r x lo hi H Q→
  ∃T id,typeLookup (.type T) "__getitem__"=pure (some (.builtin id))∧s.TypeIs v T∧wpAny (model X.prog X.w) X.A (getItem v (.ref sl)) (EP X pins σ Q) X.xe s
theorem SlR.or{r r':V→Option Int→Option Int→Hp→VK→Prop}(h:SlR X r)(h':SlR X r'):SlR X (fun x lo hi H Q=>r x lo hi H Q∨r' x lo hi H Q):=by
 intro pins s σ H x v vl vu lo hi sl Q I rx hs pl pu q
 rcases q with q|q
 ·exact h pins s σ H x v vl vu lo hi sl Q I rx hs pl pu q
 ·exact h' pins s σ H x v vl vu lo hi sl Q I rx hs pl pu q
def tSl(r:V→Option Int→Option Int→Hp→VK→Prop)(te:TE)(tl th:TO):TE:=fun σ H Q=>te σ H fun x H1=>tl σ H1 fun l H2=>th σ H2 fun u H3=>r x l u H3 Q
theorem zaej{r:V→Option Int→Option Int→Hp→VK→Prop}(hr:SlR X r)(he:PE X e te)(hl:PO X lo tl)(hu:PO X hi th):PE X (.Subscript e (.Slice lo hi none p2) pos) (tSl r te tl th):=by
 intro pins s σ H Q I h
 refine Subscript_ (thn (he pins s σ H _ I h) fun v s1 ⟨x,H1,I1,r1,q1⟩=>?_)
 refine wpAny_Slice (thn (hl pins s1 σ H1 _ I1 q1) fun vl s2 ⟨l,H2,I2,pl,q2⟩=>thn (hu pins s2 σ H2 _ I2 q2) fun vu s3 ⟨u,H3,I3,pu,q3⟩=>?_)
 rw[evalPart_none]
 refine wpAny_pure ?_
 have I4:Inv X pins σ H3 { s3 with heap:=s3.heap.push { cls:=.type "slice",data:=.fields #[vl,vu,.none] } }:=I3.kept (t':=s3.toks) fun b ob q=>Heap.get?_push_of_some _ q
 obtain⟨T,id,hT,ht,hg⟩:=hr pins { s3 with heap:=s3.heap.push { cls:=.type "slice",data:=.fields #[vl,vu,.none] } } σ H3 x v vl vu l u s3.heap.objs.size Q I4 r1 (Heap.IsSliceOf.new ..) pl pu q3
 show wpAny (model X.prog X.w) X.A (subscriptTail e (.Slice lo hi none p2) v (.ref s3.heap.objs.size)) (EP X pins σ Q) X.xe { s3 with heap:=s3.heap.push { cls:=.type "slice",data:=.fields #[vl,vu,.none] } }
 exact tail_any (ops:=[.ref s3.heap.objs.size,v]) ht hT hg (by with_unfolding_all rfl)
def cutV(xs:List V)(lo hi:Option Int):List V:=(xs.drop (HT.sIx xs.length 0 lo)).take (HT.sIx xs.length xs.length hi-HT.sIx xs.length 0 lo)
theorem zacy(xs:List V)(lo hi:Option Int):(cutV xs lo hi).length≤xs.length:=by
 unfold cutV
 rw[List.length_take,List.length_drop]
 omega
def rSlT(K:PySem.W.Frag):V→Option Int→Option Int→Hp→VK→Prop:=fun x lo hi H Q=>∃a xs,x=.ref a∧SqT K H a xs∧
 ¬(HT.sIx xs.length 0 lo=0∧HT.sIx xs.length xs.length hi=xs.length)∧∀p,H p=none→Q (.ref p) (upd H p (.tup (cutV xs lo hi)))
theorem sl_tup:SlR X (rSlT X.K):=by
 intro pins s σ H x v vl vu lo hi sl Q I rx hs pl pu h
 obtain⟨a,xs,rfl,hx,hw,q⟩:=h
 cases rx
 obtain⟨its,r,ht,hz⟩:=I.tuple hx
 have hlen:its.toArray.size=xs.length:=by rw[List.size_toArray];exact r.length.symm
 refine⟨"tuple",_,PyProof.Rows.slot_tuple_getitem.lookup,ht.typeIs,?_⟩
 refine HT.getItem_tuple_cut ht hs pl pu (by rw[hlen];exact hw) ?_ (by rw[hlen];exact hz)
 rw[hlen]
 refine⟨.ref s.heap.objs.size,_,I.laid (t':=s.toks) (o:=.tup (cutV xs lo hi)) (fun b ob q=>Heap.get?_push_of_some _ q) (Nat.le_refl _) ?_,rfl,q _ (I.hok.fresh (Nat.le_refl _))⟩
 exact⟨Nat.le_trans (zacy xs lo hi) hz,_,(r.drop (HT.sIx xs.length 0 lo)).take (HT.sIx xs.length xs.length hi-HT.sIx xs.length 0 lo),IsTup.new _ _⟩
def rCatT(K:PySem.W.Frag):R2:=fun x y H Q=>∃a b xs ys,x=.ref a∧y=.ref b∧SqT K H a xs∧SqT K H b ys∧xs≠[]∧xs.length+ys.length≤sizeLine∧
 (ys=[]→Q (.ref a) H)∧(ys≠[]→∀p,H p=none→Q (.ref p) (upd H p (.tup (xs++ys))))
theorem Vals.nil_iff{xs:List V}{us:List Value}(r:Vals xs us):us=[]↔xs=[]:=by
 cases r with
 | nil=>simp
 | cons _ _=>simp
theorem op_catT:OpR X (binaryOp .Add) (rCatT X.K):=by
 intro pins s σ H x y v u Q I rx ry h
 obtain⟨a,b,xs,ys,rfl,rfl,ha,hb,hx,hz,q1,q2⟩:=h
 cases rx
 cases ry
 obtain⟨its,r1,p1,_⟩:=I.tuple ha
 obtain⟨its2,r2,p2,_⟩:=I.tuple hb
 refine HT.cat_tup p1 p2 (fun z=>hx (r1.nil_iff.mp z)) (fun z=>⟨.ref a,H,I,rfl,q1 (r2.nil_iff.mp z)⟩) (fun z=>?_) (by rw[←r1.length,←r2.length];exact hz)
 refine⟨.ref s.heap.objs.size,_,I.laid (t':=s.toks) (o:=.tup (xs++ys)) (fun b ob q=>Heap.get?_push_of_some _ q) (Nat.le_refl _) ?_,rfl,q2 (fun w=>z (r2.nil_iff.mpr w)) _ (I.hok.fresh (Nat.le_refl _))⟩
 exact⟨by rw[List.length_append];exact hz,_,r1.append r2,IsTup.new _ _⟩
end
end L2
namespace L2
open PySem PySem.Spec PyProof.Rows
def ixN(n:Nat)(i:Int):Option Nat:=if 0≤i then(if i<n then some i.toNat else none)else if -(n:Int)≤i then some (i+n).toNat else none
def atI{α:Type}(xs:List α)(i:Int):Option α:=(ixN xs.length i).bind fun j=>xs[j]?
theorem ixN_seq{n:Nat}{i:Int}{j:Nat}(h:ixN n i=some j):seqIndex? i n=some j∧j<n∧-(n:Int)≤i∧i<n:=by
 unfold ixN at h
 by_cases h0:0≤i
 ·rw[if_pos h0]at h
  by_cases h1:i<n
  ·rw[if_pos h1]at h
   have e:i.toNat=j:=Option.some.inj h
   exact⟨by rw[seqIndex_of h0 h1,e],by omega,by omega,h1⟩
  ·rw[if_neg h1]at h;cases h
 ·rw[if_neg h0]at h
  by_cases h1:-(n:Int)≤i
  ·rw[if_pos h1]at h
   have e:(i+n).toNat=j:=Option.some.inj h
   exact⟨by rw[seqIndex_neg (by omega) h1,e],by omega,h1,by omega⟩
  ·rw[if_neg h1]at h;cases h
theorem zaf1{α:Type}{xs:List α}{i:Int}{v:α}(h:atI xs i=some v):∃j,seqIndex? i xs.length=some j∧xs[j]?=some v∧j<xs.length∧-(xs.length:Int)≤i∧i<xs.length:=by
 unfold atI at h
 cases e:ixN xs.length i with
 | none=>rw[e]at h;cases h
 | some j=>
  rw[e]at h
  obtain⟨h1,h2,h3,h4⟩:=ixN_seq e
  exact⟨j,h1,h,h2,h3,h4⟩
def zag5(b:Expr):Prop:=∀o i,subscripted b false o i=operate [o,i] (getItem o i)
def IxR(X:Cx)(r:R2):Prop:=
 ∀(value slice:Expr) (pins:List (Addr×Obj)) (s:Shared) (σ:St) (H:Hp) (x y:V) (v u:Value) (Q:VK),Inv X pins σ H s→RelV x v→RelV y u→r x y H Q→
  subscripted slice false v u=operate [v,u] (getItem v u)→wpAny (model X.prog X.w) X.A (subscriptTail value slice v u) (EP X pins σ Q) X.xe s
def MtR(X:Cx)(id:String)(r:V→List V→Hp→VK→Prop):Prop:=
 ∀(pins:List (Addr×Obj)) (s:Shared) (σ:St) (H:Hp) (x:V) (xs:List V) (v:Value) (us:List Value) (Q:VK),Inv X pins σ H s→RelV x v→Vals xs us→r x xs H Q→
  wpAny (model X.prog X.w) X.A (call (.builtin id) (v::us)) (EP X pins σ Q) X.xe s
section
variable{X:Cx}{a b:Expr}{ta tb:TE}{pos:Pos}
theorem IxR.or{r r':R2}(h:IxR X r)(h':IxR X r'):IxR X (fun x y H Q=>r x y H Q∨r' x y H Q):=by
 intro value slice pins s σ H x y v u Q I rx ry q hs
 rcases q with q|q
 ·exact h value slice pins s σ H x y v u Q I rx ry q hs
 ·exact h' value slice pins s σ H x y v u Q I rx ry q hs
theorem MtR.or{id:String}{r r':V→List V→Hp→VK→Prop}(h:MtR X id r)(h':MtR X id r'):MtR X id (fun x xs H Q=>r x xs H Q∨r' x xs H Q):=by
 intro pins s σ H x xs v us Q I rx rs q
 rcases q with q|q
 ·exact h pins s σ H x xs v us Q I rx rs q
 ·exact h' pins s σ H x xs v us Q I rx rs q
theorem pe_ix{r:R2}(hr:IxR X r)(ha:PE X a ta)(hb:PE X b tb)(hs:zag5 b):PE X (.Subscript a b pos) (tOp r ta tb):=by
 intro pins s σ H Q I h
 exact Subscript_ (binT ha hb I h fun v u s2 x y H2 I2 rx ry q=>hr a b pins s2 σ H2 x y v u Q I2 rx ry q (hs _ _))
def rIxL(K:PySem.W.Frag):R2:=fun x y H Q=>∃p xs i v,x=.ref p∧y=.int i∧SqL K H p xs∧atI xs i=some v∧Q v H
def rIxT(K:PySem.W.Frag):R2:=fun x y H Q=>∃p xs i v,x=.ref p∧y=.int i∧SqT K H p xs∧atI xs i=some v∧Q v H
def rIxS:R2:=fun x y H Q=>∃z i c,x=.str z∧y=.int i∧z.length≤sizeLine∧atI z.cps.toList i=some c∧Q (.str ⟨#[c]⟩) H
theorem ix_list:IxR X (rIxL X.K):=by
 intro value slice pins s σ H x y v u Q I rx ry h hs
 obtain⟨p,xs,i,z,rfl,rfl,hq,he,q⟩:=h
 cases rx
 obtain⟨t,rfl⟩:=ry
 obtain⟨its,r,pl,hz⟩:=I.list hq
 obtain⟨j,h1,h2,h3,h4,h5⟩:=zaf1 he
 obtain⟨w,ew,rw'⟩:=r.get h2
 have hl:=r.length
 have hn:=line63
 have fin:EP X pins σ Q w s:=⟨z,H,I,rw',q⟩
 by_cases h0:0≤i
 ·have hj:i.toNat=j:=by
   rw[seqIndex_of h0 h5]at h1
   exact Option.some.inj h1
  exact item_listR pl.isList h0 (by omega) (by rw[hj];simpa using ew) fin hs
 ·have hj:(i+(its.toArray.size:Int)).toNat=j:=by
   rw[seqIndex_neg (by omega) h4]at h1
   rw[List.size_toArray,←hl]
   exact Option.some.inj h1
  exact subscriptTail_builtinR (x:=w) pl.isList.typeIs slot_list_getitem.lookup
   (wpAny_getItem_list_neg (Q:=fun r s'=>r=w∧EP X pins σ Q r s') pl.isList (by omega) (by rw[List.size_toArray]<;>omega) (by omega) (by rw[hj];simpa using ew) ⟨rfl,fin⟩) hs
theorem ix_tup:IxR X (rIxT X.K):=by
 intro value slice pins s σ H x y v u Q I rx ry h hs
 obtain⟨p,xs,i,z,rfl,rfl,hq,he,q⟩:=h
 cases rx
 obtain⟨t,rfl⟩:=ry
 obtain⟨its,r,pl,hz⟩:=I.tuple hq
 obtain⟨j,h1,h2,h3,h4,h5⟩:=zaf1 he
 obtain⟨w,ew,rw'⟩:=r.get h2
 have hl:=r.length
 have hn:=line63
 have fin:EP X pins σ Q w s:=⟨z,H,I,rw',q⟩
 exact subscriptTail_builtinR (x:=w) pl.typeIs slot_tuple_getitem.lookup
  (getItem_tuple (j:=j) (Q:=fun r s'=>r=w∧EP X pins σ Q r s') pl (by omega) (by omega) (by rw[List.size_toArray,←hl];exact h1) (by simpa using ew) ⟨rfl,fin⟩) hs
theorem ix_str:IxR X rIxS:=by
 intro value slice pins s σ H x y v u Q I rx ry h hs
 obtain⟨z,i,c,rfl,rfl,hz,he,q⟩:=h
 obtain⟨t,rfl⟩:=rx
 obtain⟨t',rfl⟩:=ry
 obtain⟨j,h1,h2,h3,h4,h5⟩:=zaf1 he
 have hl:z.cps.toList.length=z.length:=by simp[Str.length]
 rw[hl]at h1 h4 h5
 have hn:=line63
 exact tail_any (typeIs_str s z t) slot_str_getitem.lookup (getItem_str (c:=c) (by
  have e1:decide (i < -(2^63:Int))=false:=decide_eq_false (by omega)
  have e2:decide (i≥2^63)=false:=decide_eq_false (by omega)
  rw[e1,e2,Bool.or_false]) (by rw[h1];simpa using h2) ⟨.str ⟨#[c]⟩,H,I.tok _,⟨_,rfl⟩,q⟩) hs
def rIx(K:PySem.W.Frag):R2:=fun x y H Q=>rIxL K x y H Q∨rIxT K x y H Q∨rIxS x y H Q
theorem ix_seq:IxR X (rIx X.K):=ix_list.or (ix_tup.or ix_str)
theorem zah9(its:List Value)(n j:Nat)(u:Value):Obj.mapSeq (·.setIfInBounds j u) { cls:=.type "list",data:=.seq its.toArray n }={ cls:=.type "list",data:=.seq (its.set j u).toArray n }:=by
 simp[Obj.mapSeq]
theorem Inv.lst{pins:List (Addr×Obj)}{σ:St}{H:Hp}{s:Shared}{p:Addr}{xs:List V}(I:Inv X pins σ H s)(h:H p=some (.lst xs)):
  ∃(its:List Value) (n:Nat),Vals xs its∧s.heap.get? p=some { cls:=.type "list",data:=.seq its.toArray n }∧xs.length≤sizeLine:=by
 obtain⟨z,its,n,r,e⟩:=I.hok p _ h
 exact⟨its,n,r,e,z⟩
theorem Inv.lstUpd{pins:List (Addr×Obj)}{σ:St}{H:Hp}{s:Shared}{p:Addr}{xs ys:List V}{its its':List Value}{n n':Nat}{f:Obj→Obj}(I:Inv X pins σ H s)(h:H p=some (.lst xs))
  (ho:s.heap.get? p=some { cls:=.type "list",data:=.seq its.toArray n }) (hf:f { cls:=.type "list",data:=.seq its.toArray n }={ cls:=.type "list",data:=.seq its'.toArray n' }) (r:Vals ys its') (hz:ys.length≤sizeLine) (t:Nat):
  Inv X pins σ (upd H p (.lst ys)) { s with heap:=s.heap.update p f,toks:=t }:=by
 have e:(s.heap.update p f).get? p=some { cls:=.type "list",data:=.seq its'.toArray n' }:=by
  rw[Heap.get?_update_self f ho (by rw[hf]<;>rfl),hf]
 refine I.write (x:=p) (e:=p) (by rw[h];trivial) (.inl rfl) (fun b u hb q=>(Heap.get?_update_other _ _ (Ne.symm hb)).trans q) ⟨_,e⟩ ?_
 exact⟨hz,its',n',r,e⟩
def rSetL:V→V→V→Hp→(Hp→Prop)→Prop:=fun o i v H Q=>∃p xs k j,o=.ref p∧i=.int k∧H p=some (.lst xs)∧ixN xs.length k=some j∧Q (upd H p (.lst (xs.set j v)))
theorem zah6:PSet X rSetL:=by
 intro pins s σ H o i v ov iv u Q I ro ri rv h
 obtain⟨p,xs,k,j,rfl,rfl,hp,hj,q⟩:=h
 cases ro
 obtain⟨t,rfl⟩:=ri
 obtain⟨its,n,r,ho,hz⟩:=I.lst hp
 obtain⟨h1,h2,h3,h4⟩:=ixN_seq hj
 have hl:=r.length
 have hn:=line63
 have I':Inv X pins σ (upd H p (.lst (xs.set j v))) { s with heap:=s.heap.update p (Obj.mapSeq (·.setIfInBounds j u)) }:=
  I.lstUpd hp ho (zah9 its n j u) (r.set rv j) (by rw[List.length_set];exact hz) s.toks
 by_cases h0:0≤k
 ·have hk:k.toNat=j:=by
   rw[seqIndex_of h0 h4]at h1
   exact Option.some.inj h1
  exact PySem.W.ki_setAt ho h0 (by omega) (by rw[List.size_toArray,←hl];exact h4) (by rw[hk];exact⟨_,I',q⟩)
 ·have hk:(k+(its.toArray.size:Int)).toNat=j:=by
   rw[seqIndex_neg (by omega) h3]at h1
   rw[List.size_toArray,←hl]
   exact Option.some.inj h1
  exact PySem.W.ki_setBack ho (by omega) (by rw[List.size_toArray,←hl];exact h3) (by omega) (by rw[hk];exact⟨_,I',q⟩)
theorem zad9(lo hi:Option Int)(n:Nat):(sliceBounds lo hi none n).1=((HT.sIx n 0 lo:Nat):Int)∧(sliceBounds lo hi none n).2.1=((HT.sIx n n hi:Nat):Int)∧(sliceBounds lo hi none n).2.2=1:=by
 refine⟨?_,?_,rfl⟩
 ·cases lo with
  | none=>simp[sliceBounds,HT.sIx]
  | some i=>
   simp only[sliceBounds,HT.sIx,Option.getD_none,show(1:Int)>0 by decide,if_true]
   by_cases h:i<0
   ·simp only[h,if_true]<;>omega
   ·simp only[h,if_false]<;>omega
 ·cases hi with
  | none=>simp[sliceBounds,HT.sIx]
  | some i=>
   simp only[sliceBounds,HT.sIx,Option.getD_none,show(1:Int)>0 by decide,if_true]
   by_cases h:i<0
   ·simp only[h,if_true]<;>omega
   ·simp only[h,if_false]<;>omega
theorem zadw(its:List Value)(lo hi:Option Int):slicePick its.toArray lo hi none=((its.drop (HT.sIx its.length 0 lo)).take (HT.sIx its.length its.length hi-HT.sIx its.length 0 lo)).toArray:=by
 obtain⟨h1,h2,h3⟩:=zad9 lo hi its.toArray.size
 unfold slicePick
 rw[h1,h2,h3]
 simp only[sliceRange_one,pick_run,List.size_toArray]<;>rfl
def rSlL(K:PySem.W.Frag):V→Option Int→Option Int→Hp→VK→Prop:=fun x lo hi H Q=>∃a xs,x=.ref a∧SqL K H a xs∧∀p,H p=none→Q (.ref p) (upd H p (.lst (cutV xs lo hi)))
theorem sl_list:SlR X (rSlL X.K):=by
 intro pins s σ H x v vl vu lo hi sl Q I rx hs pl pu h
 obtain⟨a,xs,rfl,hx,q⟩:=h
 cases rx
 obtain⟨its,r,ht,hz⟩:=I.list hx
 have hlen:=r.length
 refine⟨"list",_,slot_list_getitem.lookup,ht.isList.typeIs,?_⟩
 refine wpAny_getItem_list_slice ht.isList hs pl pu .none (by simp) ?_ (by rw[List.size_toArray]<;>omega)
 rw[zadw,←hlen]
 refine⟨.ref s.heap.objs.size,_,I.laid (t':=s.toks) (o:=.lst (cutV xs lo hi)) (fun b ob q=>Heap.get?_push_of_some _ q) (Nat.le_refl _) ?_,rfl,q _ (I.hok.fresh (Nat.le_refl _))⟩
 exact⟨Nat.le_trans (zacy xs lo hi) hz,_,0,(r.drop (HT.sIx xs.length 0 lo)).take (HT.sIx xs.length xs.length hi-HT.sIx xs.length 0 lo),Heap.get?_push_size _ rfl⟩
theorem zad7:CallR X (.builtin "len") (fun xs H Q=>∃p ys,xs=[.ref p]∧(SqL X.K H p ys∨SqT X.K H p ys)∧Q (.int ys.length) H):=by
 intro pins s σ H xs us Q I r h
 obtain⟨p,ys,rfl,hq,q⟩:=h
 obtain⟨u,rfl,rx⟩:=vals1 r
 cases rx
 have hn:=line63
 rcases hq with hq|hq
 ·obtain⟨its,r',pl,hz⟩:=I.list hq
  have hlen:=r'.length
  exact Calls.call_len_list pl.isList (by simp only[List.size_toArray]<;>omega) ⟨.int ys.length,H,I.tok _,⟨s.toks+1,by rw[List.size_toArray,hlen]⟩,q⟩
 ·obtain⟨its,r',pl,hz⟩:=I.tuple hq
  have hlen:=r'.length
  exact len_tuple pl (by simp only[List.size_toArray]<;>omega) ⟨.int ys.length,H,I.tok _,⟨s.toks+1,by rw[List.size_toArray,hlen]⟩,q⟩
theorem CallR.or{f:Value}{r r':List V→Hp→VK→Prop}(h:CallR X f r)(h':CallR X f r'):CallR X f (fun xs H Q=>r xs H Q∨r' xs H Q):=by
 intro pins s σ H xs us Q I rs q
 rcases q with q|q
 ·exact h pins s σ H xs us Q I rs q
 ·exact h' pins s σ H xs us Q I rs q
theorem zacc:CallR X (.type "list") (fun xs H Q=>∃p ys,xs=[.ref p]∧(SqL X.K H p ys∨SqT X.K H p ys)∧∀l,H l=none→Q (.ref l) (upd H l (.lst ys))):=by
 intro pins s σ H xs us Q I r h
 obtain⟨p,ys,rfl,hq,q⟩:=h
 obtain⟨u,rfl,rx⟩:=vals1 r
 cases rx
 have fin:∀(its:List Value),Vals ys its→ys.length≤sizeLine→∀(h':Heap) (c':Nat),(∀b o',s.heap.get? b=some o'→h'.get? b=some o')→
   h'.get? s.heap.objs.size=some { cls:=.type "list",dict:=none,data:=.seq its.toArray c',slots:=#[] }→EP X pins σ Q (.ref s.heap.objs.size) { s with heap:=h' }:=fun its r' hz h' c' kp e=>
  ⟨.ref s.heap.objs.size,_,I.laid (t':=s.toks) kp (Nat.le_refl _) (show ObjOk X.prog X.w _ h' _ (.lst ys)from⟨hz,its,c',r',e⟩),rfl,q _ (I.hok.fresh (Nat.le_refl _))⟩
 rcases hq with hq|hq
 ·obtain⟨its,r',pl,hz⟩:=I.list hq
  have hlen:=r'.length
  obtain⟨o,ho,hc,n,hd⟩:=pl.isList
  exact call_list_seq p (.inl rfl) ho hc hd (fun h' c' kp e=>fin its r' hz h' c' kp e) (by simp only[List.size_toArray]<;>omega)
 ·obtain⟨its,r',pl,hz⟩:=I.tuple hq
  have hlen:=r'.length
  obtain⟨o,ho,hc,n,hd⟩:=pl
  exact call_list_seq p (.inr rfl) ho hc hd (fun h' c' kp e=>fin its r' hz h' c' kp e) (by simp only[List.size_toArray]<;>omega)
theorem zad0:CallR X (.type "tuple") (fun xs H Q=>∃p ys,xs=[.ref p]∧((SqL X.K H p ys∧∀l,H l=none→Q (.ref l) (upd H l (.tup ys)))∨(SqT X.K H p ys∧Q (.ref p) H))):=by
 intro pins s σ H xs us Q I r h
 obtain⟨p,ys,rfl,h⟩:=h
 obtain⟨u,rfl,rx⟩:=vals1 r
 cases rx
 rcases h with⟨hq,q⟩|⟨hq,q⟩
 ·obtain⟨its,r',pl,hz⟩:=I.list hq
  have hlen:=r'.length
  refine call_tuple_list pl.isList (fun h' kp=>?_) (by simp only[List.size_toArray]<;>omega)
  have I1:Inv X pins σ H { s with heap:=h' }:=I.kept (t':=s.toks) kp
  have I2:Inv X pins σ (upd H h'.objs.size (.tup ys)) { s with heap:=h'.push { cls:=.type "tuple",data:=.seq its.toArray } }:=
   I1.laid (t':=s.toks) (fun b o e=>Heap.get?_push_of_some _ e) (Nat.le_refl _) (show ObjOk X.prog X.w _ _ _ (.tup ys)from⟨hz,its,r',IsTup.new _ _⟩)
  exact⟨.ref h'.objs.size,_,I2,rfl,q _ (I1.hok.fresh (Nat.le_refl _))⟩
 ·obtain⟨its,r',pl,hz⟩:=I.tuple hq
  exact call_tuple_same pl ⟨.ref p,H,I,rfl,q⟩
def tyV(K:PySem.W.Frag)(T:String)(x:V)(H:Hp):Prop:=match x with
 | .str _=>T="str"
 | .int _=>T="int"
 | .ref p=>(T="list"∧∃xs,SqL K H p xs)∨(T="tuple"∧∃o,K.lookup p=some o∧o.cls=.type "tuple"∧o.dict=none)∨
   (T="dict"∧((∃kvs,H p=some (.dK kvs))∨∃kvs,H p=some (.dT kvs)))∨(T="set"∧∃S n,H p=some (.set S n))
 | _=>False
theorem tyV_is{pins:List (Addr×Obj)}{σ:St}{H:Hp}{s:Shared}{T:String}{x:V}{v:Value}(I:Inv X pins σ H s)(r:RelV x v)(ty:tyV X.K T x H):
  s.TypeIs v T∧∀a,v=.ref a→∃ob,s.heap.get? a=some ob∧ob.dict=none:=by
 cases x with
 | str z=>
  obtain⟨t,rfl⟩:=r
  cases(show T="str" from ty)
  exact⟨typeIs_str s z t,fun _ e=>nomatch e⟩
 | int i=>
  obtain⟨t,rfl⟩:=r
  cases(show T="int" from ty)
  exact⟨typeIs_int s i t,fun _ e=>nomatch e⟩
 | ref p=>
  cases r
  rcases ty with⟨rfl,xs,hq⟩|⟨rfl,o,hk,hc,hd⟩|⟨rfl,hk⟩|⟨rfl,S,n,hk⟩
  ·obtain⟨its,_,pl,_⟩:=I.list hq
   refine⟨pl.isList.typeIs,fun a e=>?_⟩
   cases e
   obtain⟨o,n,e,c,hd,_⟩:=pl
   exact⟨o,e,hd⟩
  ·refine⟨⟨o,I.kIn p o hk,hc⟩,fun a e=>?_⟩
   cases e
   exact⟨o,I.kIn _ o hk,hd⟩
  ·have z:∃o,s.heap.get? p=some o∧o.ExactDict:=by
    rcases hk with⟨kvs,hk⟩|⟨kvs,hk⟩
    ·obtain⟨_,_,_,_,o,_,_,e,ex,_⟩:=I.hok p _ hk
     exact⟨o,e,ex⟩
    ·obtain⟨_,_,_,_,o,_,_,e,ex,_⟩:=I.hok p _ hk
     exact⟨o,e,ex⟩
   obtain⟨o,e,ex⟩:=z
   refine⟨⟨o,e,ex.1⟩,fun a e2=>?_⟩
   cases e2
   exact⟨o,e,ex.2.1⟩
  ·obtain⟨o,_,_,_,e,ex,_⟩:=I.hok p _ hk
   refine⟨⟨o,e,ex.1⟩,fun a e2=>?_⟩
   cases e2
   exact⟨o,e,ex.2.1⟩
 | _=>exact False.elim ty
def tBM(K:PySem.W.Frag)(T:String)(r:V→List V→Hp→VK→Prop)(to:TE)(t:TA):TE:=fun σ H Q=>to σ H fun x H1=>tyV K T x H1∧t σ H1 fun xs H2=>r x xs H2 Q
variable{o e:Expr}{es:List Expr}{to:TE}{t:TA}{name:Str}{apos cpos:Pos}{T id:String}{r:V→List V→Hp→VK→Prop}
theorem pe_bm(pa:PlainAttrs T)(slot:Slot T name id)(hty:typeOf (.builtin id)=pure (.type "method_descriptor"))(hm:MtR X id r)(ho:PE X o to)(ha:PA X (e::es) t)
  (hbase:attributeBase o name X.env (eval o X.env)=eval o X.env:=by rfl)
  (hfew:((backTo cpos (starEach (e::es) X.env)).all (fun x=>!x.1)&&(backToKw cpos (keywordEach [] X.env)).all (fun x=>x.1.isSome)
   && decide ((e::es).length+([]:List Keyword).length+(if([]:List Keyword).isEmpty then 0 else 1)<30))=true:=by rfl)
  (hline:(apos.endLine==cpos.line)=true:=by rfl) (hs:starEach (e::es) X.env=(false,eval e X.env)::starEach es X.env:=by rfl) (hplain:(backTo cpos (starEach es X.env)).any (·.1)=false:=by rfl):
  PE X (.Call (.Attribute o name apos) (e::es) [] cpos) (tBM X.K T r to t):=by
 intro pins s σ H Q I h
 refine wpAny_Call_method_late hbase hfew hline rfl (thn (ho pins s σ H _ I h) fun v s1 ⟨x,H1,I1,r1,ty,q1⟩=>?_)
 obtain⟨h1,h2⟩:=tyV_is I1 r1 ty
 refine⟨T,id,pa,slot,hty,h1,h2,?_⟩
 have hA:=ha cpos pins s1 σ H1 _ I1 q1
 rw[hs]at hA ⊢
 refine Calls.callWith_builtin (by show(false||(backTo cpos (starEach es X.env)).any (·.1))=false;rw[hplain]<;>rfl) (Calls.evalArgs_plain ?_)
 exact thn hA fun us s2 ⟨vs,H2,I2,r2,q2⟩=>hm pins s2 σ H2 x vs v us Q I2 r1 r2 q2
end
end L2
namespace L2
open PySem PySem.Spec PyProof.Rows
def MtM(X:Cx)(id:String)(r:V→List V→Hp→VK→Prop):Prop:=
 ∀(pins:List (Addr×Obj)) (s:Shared) (σ:St) (H:Hp) (x:V) (xs:List V) (v:Value) (us:List Value) (Q:VK),Inv X pins σ H s→RelV x v→Vals xs us→r x xs H Q→
  wpAny (model X.prog X.w) X.A (call (.builtin id) (v::us)) (EP X pins σ Q) X.xe s
theorem Vals.one:∀{x:V}{us:List Value},Vals [x] us→∃u,us=[u]∧RelV x u
 | _,_,.cons r .nil=>⟨_,rfl,r⟩
theorem Vals.two:∀{x y:V}{us:List Value},Vals [x,y] us→∃u v,us=[u,v]∧RelV x u∧RelV y v
 | _,_,_,.cons r (.cons q .nil)=>⟨_,_,rfl,r,q⟩
theorem Vals.zero:∀{us:List Value},Vals [] us→us=[]
 | _,.nil=>rfl
theorem Vals.dropLast{xs:List V}{us:List Value}(h:Vals xs us):Vals xs.dropLast us.dropLast:=by
 induction h with
 | nil=>exact .nil
 | cons r t ih=>
  cases t with
  | nil=>exact .nil
  | cons q t'=>exact .cons r ih
theorem Vals.reverse{xs:List V}{us:List Value}(h:Vals xs us):Vals xs.reverse us.reverse:=by
 induction h with
 | nil=>exact .nil
 | cons r t ih=>rw[List.reverse_cons,List.reverse_cons];exact Vals.append ih (.cons r .nil)
section
variable{X:Cx}{pins:List (Addr×Obj)}{σ:St}{H:Hp}{s:Shared}{l b:Addr}{xs ys zs:List V}
theorem Inv.lset{its its':List Value}{n:Nat}{f:Array Value→Array Value}{t':Nat}(I:Inv X pins σ H s)(hH:H l=some (.lst xs))
  (e:s.heap.get? l=some { cls:=.type "list",data:=.seq its.toArray n }) (hf:f its.toArray=its'.toArray) (hv:Vals ys its') (hz:ys.length≤sizeLine):
  Inv X pins σ (upd H l (.lst ys)) { s with heap:=s.heap.update l (Obj.mapSeq f),toks:=t' }:=by
 have q:=PySem.IsL.update e f
 rw[hf]at q
 refine I.write (x:=l) (e:=l) (by rw[hH];exact trivial) (.inl rfl) (fun b' u hb hu=>(Heap.get?_update_other s.heap (Obj.mapSeq f) (Ne.symm hb)).trans hu) ⟨_,q⟩ ?_
 exact⟨hz,its',_,hv,q⟩
theorem Inv.lnew{its:List Value}{t':Nat}(I:Inv X pins σ H s)(hv:Vals ys its)(hz:ys.length≤sizeLine):
  Inv X pins σ (upd H s.heap.objs.size (.lst ys)) { s with heap:=s.heap.push { cls:=.type "list",data:=.seq its.toArray },toks:=t' }:=
 I.laid (fun _ _ q=>Heap.get?_push_of_some _ q) (Nat.le_refl _) ⟨hz,its,0,hv,Heap.get?_push_size _ rfl⟩
theorem Inv.fresh(I:Inv X pins σ H s):H s.heap.objs.size=none:=I.hok.fresh (Nat.le_refl _)
theorem Inv.lstM(I:Inv X pins σ H s)(hH:H l=some (.lst xs)):xs.length≤sizeLine∧∃(its:List Value) (n:Nat),Vals xs its∧xs.length=its.length∧s.heap.get? l=some { cls:=.type "list",data:=.seq its.toArray n }:=by
 obtain⟨z,its,n,r,e⟩:=I.hok l _ hH
 exact⟨z,its,n,r,r.length,e⟩
end
section
variable{X:Cx}
def rAppend:V→List V→Hp→VK→Prop:=fun x vs H Q=>∃l xs y,x=.ref l∧vs=[y]∧H l=some (.lst xs)∧xs.length<sizeLine∧Q .non (upd H l (.lst (xs++[y])))
theorem zadc:MtM X "list.append" rAppend:=by
 intro pins s σ H x vs v us Q I rx rv h
 obtain⟨l,xs,y,rfl,rfl,hH,hz,q⟩:=h
 cases rx
 obtain⟨u,rfl,ru⟩:=rv.one
 obtain⟨z,its,n,r,hl,e⟩:=I.lstM hH
 refine call_meets F.slot_list_append ⟨_,e,rfl⟩ F.entry_list_append (F.args_list_append_2 _ _) (PySem.list_append l its.toArray n u (by rw[List.size_toArray];omega)) ⟨e,?_⟩
 refine⟨.non,_,I.lset (its':=its++[u]) hH e (by simp) (r.append (.cons ru .nil)) ?_,rfl,q⟩
 rw[List.length_append,List.length_singleton]
 omega
end
section
variable{prog:Program}{w:World}{A:Around}{E:Value→Shared→Prop}{s:Shared}
end
section
variable{X:Cx}
end
end L2
namespace Att
open PySem PySem.W PySem.Calls PyProof.Rows
theorem zacv{P:Params}{h:Heap}:∀(ns:List Int) (vs:List Value),WellAll P h vs (ns.map WData.int)→IntsAre vs ns:=by
 intro ns
 induction ns with
 | nil=>
  intro vs w
  rw[List.map_nil]at w
  cases w
  exact .nil
 | cons n ns ih=>
  intro vs w
  rw[List.map_cons]at w
  cases w with
  | cons a b=>
   cases a
   exact .cons _ _ (ih _ b)
theorem script_of{l:OpenLaw}{n:Nat}(hn:l.most=some n){P:Params}{h:Heap}{args:List WData}{vals:List Value}
  (hpre:l.row.toRowW.claim.pre args=true) (hwl:WellAll P h vals args):
  ∃a vs ns,vals=[Value.ref a]∧args=[WData.list (ns.map WData.int)]∧h.get? a=some { cls:=.type "list",data:=.seq vs.toArray }∧IntsAre vs ns∧ns.length≤n:=by
 have hsh:WShape.hasAll [] args [.list .int]=true:=(pre_splitW hpre).1
 have hc:l.pre.holds [] { args:=args }=true:=(pre_splitW hpre).2
 obtain⟨d,r,rfl,h1,h2⟩:=hasAllW_cons hsh
 obtain rfl:=hasAllW_nil h2
 obtain⟨xs,rfl,h3⟩:=hasW_list h1
 obtain⟨ns,rfl⟩:=items_int h3
 have hlen:ns.length≤n:=by
  unfold OpenLaw.pre at hc
  have h4:(WTm.not (.lt (.lit (.int (n:Int))) (.len (.arg 0)))).holds [] { args:=[.list (ns.map .int)] }=true:=by
   have h4:=(holds_andW hc).1
   rw[hn]at h4
   exact h4
  have h5:=condW_of h4 (w_not (w_lt w_lit (w_len_list (w_arg rfl))))
  rw[List.length_map]at h5
  refine Nat.le_of_not_lt fun q=>?_
  have q':(n:Int)<((ns.length:Nat):Int):=by omega
  first
   | (rw[decide_eq_true q']at h5;exact absurd h5 (by decide))
   | (simp at h5;omega)
 cases hwl with
 | cons w1 w2=>
  cases w2
  cases w1 with
  | list ho hall=>exact⟨_,_,ns,rfl,rfl,ho,zacv ns _ hall,hlen⟩
theorem post_true(l:OpenLaw)(args:List WData):l.row.toRowW.claim.post args (.bool true) args=true:=
 postW_of (r:=l.row.toRowW) (X:=(true==true))
  (show WShape.has [] (.bool true) .bool=true by first|rfl|decide|simp[WShape.has,WShape.arms,WShape.armsAll])
  (show(WTm.eq .res (.lit (.bool true))).value [] { args:=args,res:=some (.bool true),after:=args }=some (.bool (true==true))from w_eq_bool (w_res rfl) w_lit) rfl
theorem attach_call{l:OpenLaw}{n:Nat}{q:Program}{loose:List Str}{XP:(Str→Option Value)→Heap→Prop}{YP:World→Heap→Prop}{d:DefRec}
  (hn:l.most=some n) (hdf:d.params.defaults=[])
  (call:∀(w:World) (s₀ s₁:Shared) (mg mb:Str→Option Value) (fa:Addr) (o:Obj) (pm cd doc:Value) (a:Addr) (vs:List Value) (ns:List Int),
   Ground q loose [] XP w s₀ mg mb s₁.heap→YP w s₁.heap→
   s₁.heap.get? fa=some o→o.data=.func (docDef d.name d.params d.body d.scope pm cd doc)→s₁.heap.CodeRec cd d.name→mg d.name=some (.ref fa)→
   s₁.heap.get? a=some { cls:=.type "list",data:=.seq vs.toArray }→IntsAre vs ns→ns.length≤n→s₁.gens=#[]→
   codeAny (model l.prog w) callerA (.call (.ref fa) ⟨[.ref a],[]⟩) (fun r s'=>r=.ok (.ret (.bool true))∧OldK s₁.heap s'.heap∧s'.os=s₁.os∧AllBare s'.gens) s₁):
  WalkO q loose XP YP l.row.toRowW d [] (fun f vs=>PySem.call f vs):=by
 intro w s₀ s₁ mg mb G Y fa o pm cd doc dV kV ho hd hcd hD hmg hg args vals as hpre hlay hrd hwl hlo
 obtain rfl:dV=.none:=Dflts.none hD hdf
 obtain rfl:kV=.none:=Dflts.noKw hD
 obtain⟨a,vs,ns,rfl,rfl,hobj,hints,hlen⟩:=script_of hn hpre hwl
 refine enter_call (codeAny_mono (call w s₀ s₁ mg mb fa o pm cd doc a vs ns G Y ho (fd_plain hd) hcd hmg hobj hints hlen hg) fun r s' hq=>?_)
 obtain⟨rfl,h2,h3,h4⟩:=hq
 exact⟨.inl ⟨.bool true,.bool true,[],rfl,fun _=>rfl,.bool true,post_true l _,fun _=>⟨List.Pairwise.nil,fun _ hm=>(nomatch hm)⟩⟩,h2,h3,h4⟩
section
variable{prog:Program}{w:World}{A:Around}{E:Value→Shared→Prop}{s:Shared}{K:Frag}
def ledger(h:Heap)(L d:Addr):List (Addr×Obj):=(List.range h.objs.size).filterMap fun a=>if a=L∨a=d then none else(h.get? a).map fun o=>(a,o)
end
end Att
namespace L2
open PySem PySem.Spec PyProof.Rows
theorem zaff:∀{vs:List Value}{ns:List Int},IntsAre vs ns→Vals (ns.map V.int) vs
 | _,_,.nil=>.nil
 | _,_,.cons n t h=>.cons ⟨t,rfl⟩ (zaff h)
def Only(H:Hp):Prop:=∀b,H b=none∨∃o xs,H b=some (.frz o (.lst xs))
theorem law_call{P:Program}{w:World}{K:PySem.W.Frag}{mg mb:Str→Option Value}{CX:CXT}{k:Nat}{fa a:Addr}{fd:FuncData}{x:Str}{sp:Sp}{s₁:Shared}{vs:List Value}{ns:List Int}
  (KX:K.In s₁.heap) (hns:s₁.heap.Ns mainGlobals mg) (hb:s₁.heap.Ns builtinsNs mb) (hbb:∀x:Str,x≠"__name__"→mb x=bootBuiltins x) (hlim:s₁.heap.NoLimit) (hg:s₁.gens=#[])
  (ha:s₁.heap.get? a=some { cls:=.type "list",data:=.seq vs.toArray }) (hi:IntsAre vs ns) (hl:ns.length≤sizeLine) (hr:Room k callerA)
  (F:∀base:Heap,K.In base→base.Ns mainGlobals mg→FnOk P w K mg base CX k fa fd [x] sp) (hbind:∀(s:Shared) (u:Value),BindsTo s fd ⟨[u],[]⟩ [(x,u)])
  (hsp:∀H:Hp,Only H→SqL K H a (ns.map V.int)→sp [.ref a] H (fun v _=>v=.bl true) fun _ _ _=>False)
  (hCX:∀H e s',CX [] H s₁ (fun _ _ _=>False) e s'→False):
  codeAny (model P w) callerA (.call (.ref fa) ⟨[.ref a],[]⟩) (fun r s'=>r=.ok (.ret (.bool true))∧OldK s₁.heap s'.heap∧s'.os=s₁.os∧AllBare s'.gens) s₁:=by
 have rv:=zaff hi
 have lenV:=hi.length
 have core:∀H:Hp,Only H→SqL K H a (ns.map V.int)→HOk P w H s₁.heap→(∀b,H b≠none→b=a)→(H a≠none→K.lookup a=none)→
   codeAny (model P w) callerA (.call (.ref fa) ⟨[.ref a],[]⟩) (fun r s'=>r=.ok (.ret (.bool true))∧OldK s₁.heap s'.heap∧s'.os=s₁.os∧AllBare s'.gens) s₁:=by
  intro H hO hS hok hA hK
  have base_of:∀{b:Addr}{o:Obj},s₁.heap.get? b=some o→H b=none→(hidT s₁.heap H).get? b=some o:=fun e n=>hidT_get e n
  have noA:∀{b:Addr}{o:Obj}{es:Array DictEntry}{ep:Nat},s₁.heap.get? b=some o→o.data=.dict es ep→H b=none:=fun {b o es ep} e d=>by
   cases q:H b with
   | none=>rfl
   | some u=>
    have e':b=a:=hA b (by rw[q];simp)
    subst e'
    rw[ha]at e;cases e
    have d':Data.seq vs.toArray _=Data.dict es ep:=d
    cases d'
  have nsK:∀{b:Addr}{m:Str→Option Value},s₁.heap.Ns b m→(hidT s₁.heap H).Ns b m:=fun {b m} ⟨o,es,ep,e,d,r⟩=>⟨o,es,ep,base_of e (noA e d),d,r⟩
  have hKb:K.In (hidT s₁.heap H):=fun b o e=>base_of (KX b o e) (by
   cases q:H b with
   | none=>rfl
   | some u=>
    have e':b=a:=hA b (by rw[q];simp)
    subst e'
    rw[hK (by rw[q];simp)]at e;cases e)
  have hM:Mod K mg (hidT s₁.heap H):=⟨hKb,nsK hns,⟨mb,nsK hb,hbb⟩,let ⟨mc,h1,h2⟩:=hlim;⟨mc,nsK h1,h2⟩⟩
  have e0:Env0 P w K mg (hidT s₁.heap H) callerA [] s₁ H:=⟨rfl,hM,fun b o e=>of_hidT e,Nat.le_of_eq (hidT_size _ _),trivial,fun b hb=>absurd (show b∈([]:List Addr)from hb) (by simp),hok,.of_eq hg⟩
  refine codeAny_mono ((F _ hKb (nsK hns)).run callerA [] s₁ H ⟨[.ref a],[]⟩ [.ref a] [.ref a] _ _ hr e0 (hbind s₁ (.ref a)) (.cons rfl .nil) (hsp H hO hS)) fun r s' h=>?_
  cases r with
  | error e=>exact(hCX H e s' h).elim
  | ok fl=>
   cases fl with
   | next=>exact False.elim h
   | brk=>exact False.elim h
   | cont=>exact False.elim h
   | ret u=>
    obtain⟨v,H',os,bare,un,hok',r',q⟩:=h
    have q':v=.bl true:=q
    subst q'
    obtain rfl:u=Value.bool true:=r'
    refine⟨rfl,OldK.of_keep fun b o e=>?_,os,bare⟩
    cases q:H b with
    | none=>exact un.keep b o e q (by intro z;exact absurd (show b∈([]:List Addr)from z) (by simp)) (by simp)
    | some u=>
     rcases hO b with z|⟨ob,xs,z⟩
     ·rw[q]at z;cases z
     ·have z2:=un.frzs b ob _ z
      obtain⟨e1,_⟩:=hok b _ z
      obtain⟨e2,_⟩:=hok' b _ z2
      rw[e]at e1;cases e1
      exact e2
 cases hk:K.lookup a with
 | some o=>
  have e:=KX a o hk
  rw[ha]at e
  cases e
  refine core (fun _=>none) (fun _=>.inl rfl) (.inr ⟨_,vs.toArray,_,hk,rfl,rfl,rfl,by rw[List.size_toArray,lenV];exact hl,by simpa using rv⟩) (fun b u z=>by have z':(none:Option HO)=some u:=z;cases z') (fun b z=>absurd rfl z) fun z=>absurd rfl z
 | none=>
  refine core (fun b=>if b=a then some (.frz { cls:=.type "list",data:=.seq vs.toArray } (.lst (ns.map V.int)))else none) (fun b=>?_) (.inl (.inr ⟨{ cls:=.type "list",data:=.seq vs.toArray },if_pos rfl⟩)) (fun b u z=>?_) (fun b z=>?_) fun _=>hk
  ·by_cases hb:b=a
   ·exact .inr ⟨_,_,if_pos hb⟩
   ·exact .inl (if_neg hb)
  ·by_cases hb:b=a
   ·have z':=(if_pos hb).symm.trans z
    cases z'
    subst hb
    exact⟨ha,by rw[List.length_map];exact hl,vs,_,rv,ha⟩
   ·have z':=(if_neg hb).symm.trans z
    cases z'
  ·by_cases hb:b=a
   ·exact hb
   ·exact absurd (if_neg hb) z
end L2
namespace L2
open PySem PySem.Spec PyProof.Rows
abbrev KOf{K:PySem.W.Frag}{h:Heap}(_:K.In h):PySem.W.Frag:=K
theorem walk_of{l:PySem.W.OpenLaw}{n k:Nat}{q:Program}{loose:List Str}{XP:(Str→Option Value)→Heap→Prop}{YP:World→Heap→Prop}{d:DefRec}{K:Params→PySem.W.Frag}{CX:World→CXT}{sp:World→Sp}{x:Str}
  (hn:l.most=some n) (hn2:n≤sizeLine) (hdf:d.params.defaults=[]) (hr:Room k callerA)
  (hY:∀(w:World) (h:Heap),YP w h→(K w.params).In h)
  (F:∀(w:World) (mg:Str→Option Value) (fa:Addr) (h:Heap),(K w.params).In h→h.Ns mainGlobals mg→mg d.name=some (.ref fa)→
   ∃fd:FuncData,(∀(s:Shared) (u:Value),BindsTo s fd ⟨[u],[]⟩ [(x,u)])∧
    ∀base:Heap,(K w.params).In base→base.Ns mainGlobals mg→FnOk l.prog w (K w.params) mg base (CX w) k fa fd [x] (sp w))
  (hsp:∀(w:World) (H:Hp) (a:Addr) (ns:List Int),ns.length≤n→Only H→SqL (K w.params) H a (ns.map V.int)→sp w [.ref a] H (fun v _=>v=.bl true) fun _ _ _=>False)
  (hCX:∀(w:World) (H:Hp) (s:Shared) (e:Value) (s':Shared),CX w [] H s (fun _ _ _=>False) e s'→False):
  PySem.W.WalkO q loose XP YP l.row.toRowW d [] (fun f vs=>PySem.call f vs):=by
 refine Att.attach_call hn hdf fun w s₀ s₁ mg mb fa o pm cd doc a vs ns G Y ho hd hcd hmg hobj hints hlen hg=>?_
 have KX:=hY w _ Y
 obtain⟨fd,hb,hF⟩:=F w mg fa _ KX G.T.g hmg
 exact law_call KX G.T.g G.T.b G.T.builtins G.T.nolimit hg hobj hints (Nat.le_trans hlen hn2) hr hF hb (fun H hO hS=>hsp w H a ns hlen hO hS) fun H e s'=>hCX w H s₁ e s'
end L2
namespace L2
open PySem PySem.Spec PyProof.Rows
def inClass(s:Stmt)(j:Nat):Stmt:=match s with
 | .ClassDef _ _ _ body _ _ _ _ _ _ _=>body.getD j (.Pass ⟨0,0,0,0⟩)
 | _=>.Pass ⟨0,0,0,0⟩
def zaag(s:Stmt):Arguments:=match s with
 | .FunctionDef _ a _ _ _ _ _ _ _ _=>a
 | _=>{ posonlyargs:=[],args:=[],vararg:=none,kwonlyargs:=[],kw_defaults:=[],kwarg:=none,defaults:=[] }
def zaaf(s:Stmt):List Stmt:=match s with
 | .FunctionDef _ _ b _ _ _ _ _ _ _=>b
 | _=>[]
def zaab(s:Stmt):Scope:=match s with
 | .FunctionDef _ _ _ _ _ _ sc _ _ _=>sc
 | _=>{ kind:=.function,names:=[],isGenerator:=false,isCoroutine:=false }
abbrev CX0:CXT:=fun _ _ _ _ _ _=>False
structure Fun(K:PySem.W.Frag)(x qual:Str)(st:Stmt)(f:Addr)(fd:FuncData):Prop where
 ex:∃(oc:Value) (od:Option Addr) (kV doc pm:Value) (an:Option Addr) (cdv ct:Value) (osl:Array (Option Value)),
  fd=PySem.W.fnOf x qual (zaag st) (zaaf st) (zaab st) .none kV doc pm an cdv ct∧K.lookup f=some ⟨oc,od,.func fd,osl⟩∧PySem.W.codeIn K cdv qual=true
 kp:PySem.W.keepIn K (.ref f)=true
section
variable{P:Program}{w:World}{K:PySem.W.Frag}{mg:Str→Option Value}{base:Heap}
theorem Fun.ok{x qual:Str}{st:Stmt}{f:Addr}{fd:FuncData}{N ps:List Str}{k:Nat}{sp:Sp}(F:Fun K x qual st f fd)(S:FnScope N ps (zaab st))(len:∀vs H Q E,sp vs H Q E→vs.length=ps.length)
  (hbody:∀(cdv:Value) (A:Around) (outer:List Env) (s:Shared) (H:Hp) (vs:List V) (Q:VK) (E:XK),Room k (A.deeper (envOfC qual (zaab st) s.heap.objs.size f cdv))→sp vs H Q E→
   ∃t,PSs (cxOf CX0 P w K mg base N qual (zaab st) f cdv A outer s H E).nox (zaaf st) t∧t { nx:=fun _ H'=>Q .non H',rt:=Q } (start N vs) H):FnOk P w K mg base CX0 (k+1) f fd ps sp:=by
 obtain⟨oc,od,kV,doc,pm,an,cdv,ct,osl,rfl,lk,hcd⟩:=F.ex
 refine fn_of lk hcd S len fun A outer s H vs Q E hr hsp=>?_
 obtain⟨t,h,q⟩:=hbody cdv A outer s H vs Q E hr hsp
 exact⟨t,h.nox,q⟩
theorem Fun.binds{x qual:Str}{st:Stmt}{f:Addr}{fd:FuncData}{ps:List Str}(F:Fun K x qual st f fd)
  (h:∀(kV doc pm:Value) (an:Option Addr) (cdv ct:Value) (us:List Value),us.length=ps.length→bindArgs (PySem.W.fnOf x qual (zaag st) (zaaf st) (zaab st) .none kV doc pm an cdv ct) ⟨us,[]⟩=pure (ps.zip us)):Binds K fd ps []:=by
 obtain⟨oc,od,kV,doc,pm,an,cdv,ct,osl,rfl,lk,hcd⟩:=F.ex
 exact .all (h kV doc pm an cdv ct)
end
section
variable{X:Cx}
end
theorem iteF{A B:Prop}(h:B):if false=true then A else B:=by
 rw[if_neg Bool.false_ne_true]
 exact h
theorem iteT{A B:Prop}(h:A):if true=true then A else B:=by
 rw[if_pos rfl]
 exact h
def Same(H H':Hp):Prop:=∀b o,H b=some o→H' b=some o
theorem Same.refl(H:Hp):Same H H:=fun _ _ h=>h
theorem Same.trans{H H1 H2:Hp}(a:Same H H1)(b:Same H1 H2):Same H H2:=fun c o h=>b c o (a c o h)
theorem Same.free{H H':Hp}(e:Same H H'){l:Addr}(h:H' l=Option.none):H l=Option.none:=by
 cases q:H l with
 | none=>rfl
 | some o=>
  rw[e l o q]at h
  cases h
theorem Same.seq{K:PySem.W.Frag}{H H':Hp}{a:Addr}{xs:List V}(e:Same H H')(h:SqL K H a xs):SqL K H' a xs:=by
 rcases h with(h|⟨o,h⟩)|h
 ·exact .inl (.inl (e _ _ h))
 ·exact .inl (.inr ⟨o,e _ _ h⟩)
 ·exact .inr h
end L2
end
section
set_option Elab.async false
set_option linter.all false
set_option maxRecDepth 100000
namespace IP
open PySem (Str)
inductive T where
 | non|bl (b:Bool)|int (i:Int)|str (x:Str)|tup (xs:List T)|lst (xs:List T)|loc (l:Nat)|exc (c:Nat)
 deriving Inhabited
inductive R where
 | val (t:T)|bor (ts:List T)
inductive B where
 | val (t:T)|own (ts:List T)|bor (ts:List T)|lck (ts:List T)
 deriving Inhabited
abbrev Fr:=List (Option B)
inductive Cell where
 | lst (ts:List T)|ins (c:Nat) (fs:List (Option T))|tbl (k:Nat) (p:PySem.Pos) (q:PySem.Str)
abbrev Sto:=List Cell
inductive Res(α:Type)where
 | stuck|ok (a:α) (s:Sto)|exc (c:Nat) (s:Sto)
def Res.bind{α β:Type}(m:Res α)(k:α→Sto→Res β):Res β:=match m with
 | .stuck=>.stuck
 | .ok a s=>k a s
 | .exc c s=>.exc c s
@[simp] theorem Res.bind_ok {α β:Type} (a:α) (s:Sto) (k:α→Sto→Res β):(Res.ok a s).bind k=k a s:=rfl
@[simp] theorem Res.bind_exc {α β:Type} (c:Nat) (s:Sto) (k:α→Sto→Res β):(Res.exc c s:Res α).bind k=.exc c s:=rfl
@[simp] theorem Res.bind_stuck {α β:Type} (k:α→Sto→Res β):(Res.stuck:Res α).bind k=.stuck:=rfl
def Res.of{α:Type}(o:Option α)(s:Sto):Res α:=match o with
 | none=>.stuck
 | some a=>.ok a s
@[simp] theorem Res.of_some {α:Type} (a:α) (s:Sto):Res.of (some a) s=.ok a s:=rfl
@[simp] theorem Res.of_none {α:Type} (s:Sto):Res.of (none:Option α) s=.stuck:=rfl
inductive Op where|add|sub|mul|fdiv|mod|pow
inductive Cm where|lt|le|gt|ge|eq|ne|isN|notN|mem|nmem
inductive Bi where|len|abs|int|list|tuple|any|all|min|max|sorted|str
inductive Ty where|int|bool|tuple|list|str|cls(c:Nat)
inductive Tg where|one(i:Nat)|many(is:List Nat)
inductive E where
 | var (i:Nat)
 | cst (t:T)
 | glb (x:Str) (i:Int)
 | bin (o:Op) (a b:E)
 | neg (a:E)
 | not (a:E)
 | cmp (c:Cm) (a b:E)
 | and (a b:E)|or (a b:E)
 | ife (c a b:E)
 | tup (es:List E)|lst (es:List E)
 | sub (a b:E)
 | cutL (a lo:E)|cutU (a hi:E)|cutLU (a lo hi:E)|rev (a:E)
 | b1 (f:Bi) (a:E)
 | mn2 (a b:E)|mx2 (a b:E)
 | mxd (a d:E)|mnd (a d:E)
 | mnk (a:E) (i j l k:Nat) (p:PySem.Pos) (q:Str)|sok (a:E) (i:Nat) (k:E)
 | isi (a:E) (c:Ty)
 | call (f:Nat) (es:List E) (ds:List T)
 | comp (elt:E) (tg:Tg) (it:E)
 | compIf (elt:E) (tg:Tg) (it c:E)
 | rng1 (a:E)|rng2 (a b:E)|enm (a:E)|zip (a b:E)
 | fld (a:E) (c f:Nat)|cell (a:E)|new (c f n:Nat) (es:List E) (ds:List T)|meth (a:E) (c f:Nat) (es:List E) (ds:List T)
 | compC (elt:E) (tg:Tg) (it:E)
 | cmpD (c:Cm) (a b:E)
 deriving Inhabited
inductive S where
 | asg (i:Nat) (e:E)
 | asgT (is:List Nat) (e:E)
 | mk (i:Nat) (e:E)
 | app (i:Nat) (e:E)
 | ext (i:Nat) (e:E)
 | put (i:Nat) (j e:E)
 | pop (k i:Nat)
 | frz (i:Nat)
 | ifs (c:E) (a b:List S)
 | whl (c:E) (b:List S)
 | for_ (tg:Tg) (it:E) (b:List S)
 | ret (e:E)
 | retO (e:E)
 | retV (i:Nat)
 | exp (e:E)
 | raise (c:Nat)
 | putL (a j e:E)|appL (a e:E)|setF (a:E) (c f:Nat) (e:E)|popL (a:E)|clrL (a:E)|forC (tg:Tg) (it:E) (b:List S)
 | try_ (b:List S) (c:Nat) (nm:Option Nat) (h:List S)
 | pass
 deriving Inhabited
def eqL(f:T→T→Option Bool):List T→List T→Option Bool
 | [],[]=>some true
 | [],_::_=>some false
 | _::_,[]=>some false
 | a::r,b::q=>match f a b,eqL f r q with
  | some k,some k'=>some (k&&k')
  | _,_=>none
def eqD:Nat→T→T→Option Bool
 | _,.non,.non=>some true
 | _,.bl a,.bl b=>some (a==b)
 | _,.int a,.int b=>some (a==b)
 | _,.str a,.str b=>some (a==b)
 | n+1,.tup a,.tup b=>eqL (eqD n) a b
 | n+1,.lst a,.lst b=>eqL (eqD n) a b
 | _,.non,.int _=>some false
 | _,.int _,.non=>some false
 | _+1,.non,.tup _=>some false
 | _+1,.tup _,.non=>some false
 | _,_,_=>none
abbrev eqT:T→T→Option Bool:=eqD 8
abbrev eqTs:List T→List T→Option Bool:=eqL (eqD 7)
def big:Nat:=10^300
def mulB(i j:Int):Bool:=decide (i.natAbs<2^64)||decide (j.natAbs<2^64)||(decide (i.natAbs<big)&&decide (j.natAbs<big))
def lim:Nat:=1000000
def R.seq:R→Option (List T)
 | .val (.lst ts)=>some ts
 | .bor ts=>some ts
 | _=>none
def R.sq2:R→Option (List T)
 | .val (.lst ts)=>some ts
 | .val (.tup ts)=>some ts
 | .bor ts=>some ts
 | _=>none
def R.dr(s:Sto):R→R
 | .val (.loc l)=>match s[l]? with
  | some (.lst ts)=>.bor ts
  | _=>.val (.loc l)
 | r=>r
def opI:Op→Int→Int→Option Int
 | .add,i,j=>some (i+j)
 | .sub,i,j=>some (i-j)
 | .mul,i,j=>if mulB i j then some (i*j)else none
 | .fdiv,i,j=>if j≠0∧j.natAbs<big then some (Int.fdiv i j)else none
 | .mod,i,j=>if j≠0 then some (Int.fmod i j)else none
 | .pow,i,j=>if 0≤j∧j≤100∧i.natAbs<big then some (i^j.toNat)else none
def opR(o:Op)(x y:R):Option R:=match o,x,y with
 | o,.val (.int i),.val (.int j)=>(opI o i j).map fun k=>.val (.int k)
 | .add,.val (.tup xs),.val (.tup ys)=>if xs≠[]∧ys≠[]∧xs.length+ys.length≤lim then some (.val (.tup (xs++ys)))else none
 | .add,x,y=>match x.seq,y.seq with
  | some xs,some ys=>if xs.length+ys.length≤lim then some (.val (.lst (xs++ys)))else none
  | _,_=>none
 | _,_,_=>none
def asInts:List T→Option (List Int)
 | []=>some []
 | .int i::r=>(asInts r).map (i::·)
 | _=>none
def zaa6:List T→Option (List Bool)
 | []=>some []
 | .bl b::r=>(zaa6 r).map (b::·)
 | _=>none
def R.int?:R→Option Int
 | .val (.int i)=>some i
 | _=>none
def R.isNon:R→Bool
 | .val .non=>true
 | _=>false
def R.tup?:R→Option (List T)
 | .val (.tup ts)=>some ts
 | .val (.lst ts)=>some ts
 | _=>none
def R.val?:R→Option T
 | .val t=>some t
 | _=>none
def tru:R→Option Bool
 | .val .non=>some false
 | .val (.bl b)=>some b
 | .val (.int i)=>some (i != 0)
 | .val (.lst ts)=>some (!ts.isEmpty)
 | .val (.tup ts)=>some (!ts.isEmpty)
 | .bor ts=>some (!ts.isEmpty)
 | _=>none
def eqR:R→R→Option Bool
 | .val a,.val b=>eqT a b
 | .val (.lst a),.bor b=>eqTs a b
 | .bor a,.val (.lst b)=>eqTs a b
 | .bor a,.bor b=>eqTs a b
 | _,_=>none
def memT(x:T):List T→Option Bool
 | []=>some false
 | y::r=>match eqT y x,memT x r with
  | some k,some k'=>some (k||k')
  | _,_=>none
def cmpR(c:Cm)(x y:R):Option Bool:=match c with
 | .lt=>do let i ←x.int?;let j ←y.int?;some (decide (i<j))
 | .le=>do let i ←x.int?;let j ←y.int?;some (decide (i≤j))
 | .gt=>do let i ←x.int?;let j ←y.int?;some (decide (j<i))
 | .ge=>do let i ←x.int?;let j ←y.int?;some (decide (j≤i))
 | .eq=>eqR x y
 | .ne=>(eqR x y).map (!·)
 | .isN=>match y with
  | .val .non=>some x.isNon
  | _=>none
 | .notN=>match y with
  | .val .non=>some (!x.isNon)
  | _=>none
 | .mem=>do let t ←x.val?;let ts ←y.sq2;memT t ts
 | .nmem=>do let t ←x.val?;let ts ←y.sq2;(memT t ts).map (!·)
def subR(x:R)(i:Int):Option T:=match x.sq2 with
 | some ts=>L2.atI ts i
 | none=>none
def cutT(ts:List T)(lo hi:Option Int):List T:=(ts.drop (HT.sIx ts.length 0 lo)).take (HT.sIx ts.length ts.length hi-HT.sIx ts.length 0 lo)
def cutR(x:R)(lo hi:Option Int):Option R:=match x with
 | .val (.tup ts)=>if HT.sIx ts.length 0 lo=0∧HT.sIx ts.length ts.length hi=ts.length then none else some (.val (.tup (cutT ts lo hi)))
 | .val (.lst ts)=>some (.val (.lst (cutT ts lo hi)))
 | .bor ts=>some (.val (.lst (cutT ts lo hi)))
 | _=>none
def keyT(i j:Nat):T→Option (Int×Int)
 | .tup ts=>match ts[i]?,ts[j]? with
  | some (.int x),some (.int y)=>some (x,y)
  | _,_=>none
 | _=>none
def keysT(i j:Nat):List T→Option (List (Int×Int))
 | []=>some []
 | t::r=>match keyT i j t,keysT i j r with
  | some x,some y=>some (x::y)
  | _,_=>none
def lt2(a b:Int×Int):Bool:=decide (a.1<b.1)||(decide (a.1=b.1)&&decide (a.2<b.2))
def bestK:Int×Int→T→List ((Int×Int)×T)→T
 | _,t,[]=>t
 | k,t,(k',t')::r=>if lt2 k' k then bestK k' t' r else bestK k t r
def isTbl(s:Sto)(l k:Nat)(p:PySem.Pos)(q:Str):Bool:=match s[l]? with
 | some (.tbl k' p' q')=>decide (k'=k)&&decide (p'=p)&&decide (q'=q)
 | _=>false
def minK(i j:Nat)(ts:List T):Option T:=match keysT i j ts,ts with
 | some (k::ks),t::r=>some (bestK k t (ks.zip r))
 | _,_=>none
def minI:List Int→Option Int
 | []=>none
 | a::r=>some (r.foldl (fun m x=>if x<m then x else m) a)
def maxI:List Int→Option Int
 | []=>none
 | a::r=>some (r.foldl (fun m x=>if x>m then x else m) a)
def insI(x:Int):List Int→List Int
 | []=>[x]
 | y::r=>if x<y then x::y::r else y::insI x r
def sortI(xs:List Int):List Int:=xs.foldl (fun acc x=>insI x acc) []
def b1R(f:Bi)(x:R):Option R:=match f with
 | .len=>x.sq2.map fun ts=>.val (.int ts.length)
 | .abs=>x.int?.map fun i=>.val (.int (if i<0 then -i else i))
 | .int=>match x with | .val (.int i)=>some (.val (.int i)) | .val (.bl b)=>some (.val (.int (if b then 1 else 0))) | _=>none
 | .list=>x.sq2.map fun ts=>.val (.lst ts)
 | .tuple=>x.sq2.map fun ts=>.val (.tup ts)
 | .any=>do let ts ←x.seq;let bs ←zaa6 ts;some (.val (.bl (bs.any id)))
 | .all=>do let ts ←x.seq;let bs ←zaa6 ts;some (.val (.bl (bs.all id)))
 | .min=>do let ts ←x.seq;let is ←asInts ts;(minI is).map fun i=>.val (.int i)
 | .max=>do let ts ←x.seq;let is ←asInts ts;(maxI is).map fun i=>.val (.int i)
 | .sorted=>do let ts ←x.seq;let is ←asInts ts;if is.length<64 then some (.val (.lst ((sortI is).map .int)))else none
 | .str=>none
def isiR(x:R)(c:Ty):Option Bool:=match x,c with
 | .val (.int _),.int=>some true | .val (.bl _),.int=>some true | .val (.tup _),.int=>some false | .val (.lst _),.int=>some false | .val .non,.int=>some false | .bor _,.int=>some false
 | .val (.int _),.bool=>some false | .val (.bl _),.bool=>some true | .val (.tup _),.bool=>some false | .val (.lst _),.bool=>some false | .val .non,.bool=>some false
 | .val (.tup _),.tuple=>some true | .val (.int _),.tuple=>some false | .val (.bl _),.tuple=>some false | .val (.lst _),.tuple=>some false | .val .non,.tuple=>some false
 | .val (.lst _),.list=>some true | .bor _,.list=>some true | .val (.tup _),.list=>some false | .val (.int _),.list=>some false | .val .non,.list=>some false
 | _,_=>none
def isiX(sub:Nat→Nat→Bool)(x:R)(c:Ty):Option Bool:=match x,c with
 | .val (.exc d),.cls k=>some (sub d k)
 | x,c=>isiR x c
def enT:Nat→List T→List T
 | _,[]=>[]
 | n,t::ts=>.tup [.int n,t]::enT (n+1) ts
def ziT:List T→List T→List T
 | a::as,b::bs=>.tup [a,b]::ziT as bs
 | _,_=>[]
def fldR(s:Sto)(x:R)(c f:Nat):Option T:=match x with
 | .val (.loc l)=>match s[l]? with
  | some (.ins d fs)=>if d=c then(fs[f]?).join else none
  | _=>none
 | _=>none
def R.locL(s:Sto):R→Option (Nat×List T)
 | .val (.loc l)=>match s[l]? with
  | some (.lst ts)=>some (l,ts)
  | _=>none
 | _=>none
def R.locI(s:Sto)(c:Nat):R→Option (Nat×List (Option T))
 | .val (.loc l)=>match s[l]? with
  | some (.ins d fs)=>if d=c then some (l,fs)else none
  | _=>none
 | _=>none
def look(σ:Fr)(i:Nat):Option R:=match σ[i]? with
 | some (some (.val t))=>some (.val t)
 | some (some (.own ts))=>some (.bor ts)
 | some (some (.bor ts))=>some (.bor ts)
 | some (some (.lck ts))=>some (.bor ts)
 | _=>none
def put(σ:Fr)(i:Nat)(t:T):Fr:=σ.set i (some (.val t))
def puts(σ:Fr):List Nat→List T→Option Fr
 | [],[]=>some σ
 | i::is,t::ts=>puts (put σ i t) is ts
 | _,_=>none
def bindTg(σ:Fr)(g:Tg)(t:T):Option Fr:=match g with
 | .one i=>some (put σ i t)
 | .many is=>match t with
  | .tup ts=>puts σ is ts
  | .lst ts=>puts σ is ts
  | _=>none
inductive SR where
 | stuck|next (σ:Fr) (s:Sto)|ret (r:R) (s:Sto)|retO (ts:List T) (s:Sto)|exc (c:Nat) (σ:Fr) (s:Sto)
structure Cf where
 cf:Nat→List R→Sto→Res R
 sub:Nat→Nat→Bool
 fr:Nat→Bool
 wl:(Fr→Sto→Res Bool)→(Fr→Sto→SR)→Fr→Sto→SR
def consO:Option T→List T→List T
 | some x,q=>x::q
 | none,q=>q
@[simp] theorem consO_some (x:T) (q:List T):consO (some x) q=x::q:=rfl
@[simp] theorem zahk (q:List T):consO none q=q:=rfl
def mapRes(f:T→Sto→Res (Option T)):List T→Sto→Res (List T)
 | [],s=>.ok [] s
 | t::ts,s=>(f t s).bind fun r s1=>(mapRes f ts s1).bind fun q s2=>.ok (consO r q) s2
def rangeT(i j:Int):List T:=(List.range (j-i).toNat).map fun(k:Nat)=>T.int (i+k)
def bnd(i:Int):Bool:=decide (-(2^62)≤i)&&decide (i<2^62)
inductive Md where|v|t|i|j
def R.sq3:R→Option (List T)
 | .val (.lst ts)=>some ts
 | .val (.tup ts)=>some ts
 | _=>none
def fin(m:Md)(r:Res R):Res R:=match m with
 | .v=>r
 | .t=>r.bind fun x s=>.of ((tru x).map fun k=>.val (.bl k)) s
 | .i=>r.bind fun x s=>.of (x.sq2.map fun ts=>.val (.lst ts)) s
 | .j=>r.bind fun x s=>.of (x.sq3.map fun ts=>.val (.lst ts)) s
@[simp] theorem fin_v (r:Res R):fin .v r=r:=rfl
@[simp] theorem fin_t (r:Res R):fin .t r=r.bind fun x s=>.of ((tru x).map fun k=>.val (.bl k)) s:=rfl
@[simp] theorem fin_j (r:Res R):fin .j r=r.bind fun x s=>.of (x.sq3.map fun ts=>.val (.lst ts)) s:=rfl
@[simp] theorem fin_i (r:Res R):fin .i r=r.bind fun x s=>.of (x.sq2.map fun ts=>.val (.lst ts)) s:=rfl
def onB(x:R)(a b:Res R):Res R:=match x with
 | .val (.bl true)=>a
 | .val (.bl false)=>b
 | _=>.stuck
def onI(x:R)(f:Int→Res R):Res R:=match x with
 | .val (.int i)=>f i
 | _=>.stuck
def onL(x:R)(f:List T→Res R):Res R:=match x with
 | .val (.lst ts)=>f ts
 | _=>.stuck
def onV(x:R)(f:T→Res (List T)):Res (List T):=match x with
 | .val t=>f t
 | _=>.stuck
def one(m:Res R):Res (Option T):=match m with
 | .ok r s=>.of (r.val?.map some) s
 | .exc c s=>.exc c s
 | .stuck=>.stuck
def onO{α β:Type}(o:Option α)(f:α→Res β):Res β:=match o with
 | some a=>f a
 | none=>.stuck
def onN(x:R)(m:Res R):Res R:=match x with
 | .val .non=>m
 | _=>.stuck
open Classical in
noncomputable def keepC{α:Type}(l:Nat)(ts:List T)(m:Res α):Res α:=match m with
 | .ok a s=>if s[l]?=some (.lst ts)then .ok a s else .stuck
 | r=>r
def rngM(m:Md)(r:Res R):Res R:=match m with | .i=>r | .j=>r | _=>.stuck
mutual
noncomputable def ev(C:Cf):E→Md→Fr→Sto→Res R
 | .var i,m,σ,s=>fin m (.of (look σ i) s)
 | .cst t,m,_,s=>fin m (.ok (.val t) s)
 | .glb _ i,m,_,s=>fin m (.ok (.val (.int i)) s)
 | .bin o a b,m,σ,s=>fin m ((ev C a .v σ s).bind fun x s1=>(ev C b .v σ s1).bind fun y s2=>.of (opR o x y) s2)
 | .neg a,m,σ,s=>fin m ((ev C a .v σ s).bind fun x s1=>.of (x.int?.map fun i=>.val (.int (-i))) s1)
 | .not a,.t,σ,s=>(ev C a .t σ s).bind fun x s1=>onB x (.ok (.val (.bl false)) s1) (.ok (.val (.bl true)) s1)
 | .not a,m,σ,s=>fin m ((ev C a .v σ s).bind fun x s1=>.of ((tru x).map fun k=>.val (.bl (!k))) s1)
 | .cmp c a b,m,σ,s=>fin m ((ev C a .v σ s).bind fun x s1=>(ev C b .v σ s1).bind fun y s2=>.of ((cmpR c x y).map fun k=>.val (.bl k)) s2)
 | .and a b,.t,σ,s=>(ev C a .t σ s).bind fun x s1=>onB x (ev C b .t σ s1) (.ok (.val (.bl false)) s1)
 | .or a b,.t,σ,s=>(ev C a .t σ s).bind fun x s1=>onB x (.ok (.val (.bl true)) s1) (ev C b .t σ s1)
 | .and a b,m,σ,s=>fin m ((ev C a .v σ s).bind fun x s1=>onB x (ev C b .v σ s1) (.ok (.val (.bl false)) s1))
 | .or a b,m,σ,s=>fin m ((ev C a .v σ s).bind fun x s1=>onB x (.ok (.val (.bl true)) s1) (ev C b .v σ s1))
 | .ife c a b,m,σ,s=>fin m ((ev C c .t σ s).bind fun x s1=>onB x (ev C a .v σ s1) (ev C b .v σ s1))
 | .tup es,m,σ,s=>fin m ((evs C es σ s).bind fun ts s1=>.ok (.val (.tup ts)) s1)
 | .lst es,m,σ,s=>fin m ((evs C es σ s).bind fun ts s1=>.ok (.val (.lst ts)) s1)
 | .sub a b,m,σ,s=>fin m ((ev C a .v σ s).bind fun x s1=>(ev C b .v σ s1).bind fun y s2=>onI y fun i=>.of ((subR (x.dr s2) i).map .val) s2)
 | .cutL a l,m,σ,s=>fin m ((ev C a .v σ s).bind fun x s1=>(ev C l .v σ s1).bind fun y s2=>onI y fun i=>.of (cutR (x.dr s2) (some i) none) s2)
 | .cutU a h,m,σ,s=>fin m ((ev C a .v σ s).bind fun x s1=>(ev C h .v σ s1).bind fun y s2=>onI y fun i=>.of (cutR (x.dr s2) none (some i)) s2)
 | .cutLU a l h,m,σ,s=>fin m ((ev C a .v σ s).bind fun x s1=>(ev C l .v σ s1).bind fun y s2=>onI y fun i=>(ev C h .v σ s2).bind fun z s3=>onI z fun j=>.of (cutR (x.dr s3) (some i) (some j)) s3)
 | .rev a,m,σ,s=>fin m ((ev C a .v σ s).bind fun x s1=>.of (x.seq.map fun ts=>.val (.lst ts.reverse)) s1)
 | .b1 f a,m,σ,s=>fin m ((ev C a .v σ s).bind fun x s1=>.of (b1R f (x.dr s1)) s1)
 | .mn2 a b,m,σ,s=>fin m ((ev C a .v σ s).bind fun x s1=>(ev C b .v σ s1).bind fun y s2=>.of (do let i ←x.int?;let j ←y.int?;some (.val (.int (if j<i then j else i)))) s2)
 | .mx2 a b,m,σ,s=>fin m ((ev C a .v σ s).bind fun x s1=>(ev C b .v σ s1).bind fun y s2=>.of (do let i ←x.int?;let j ←y.int?;some (.val (.int (if j>i then j else i)))) s2)
 | .mxd a d,m,σ,s=>fin m ((ev C a .v σ s).bind fun x s1=>(ev C d .v σ s1).bind fun y s2=>.of (do let ts ←x.seq;let is ←asInts ts;let d ←y.int?;some (.val (.int ((maxI is).getD d)))) s2)
 | .mnd a d,m,σ,s=>fin m ((ev C a .v σ s).bind fun x s1=>(ev C d .v σ s1).bind fun y s2=>.of (do let ts ←x.seq;let is ←asInts ts;let d ←y.int?;some (.val (.int ((minI is).getD d)))) s2)
 | .mnk a i j l k p q,m,σ,s=>fin m ((ev C a .v σ s).bind fun x s1=>.of (if isTbl s1 l k p q then x.seq.bind fun ts=>(minK i j ts).map .val else none) s1)
 | .sok _ _ _,_,_,_=>.stuck
 | .isi a c,m,σ,s=>fin m ((ev C a .v σ s).bind fun x s1=>.of ((isiX C.sub (x.dr s1) c).map fun k=>.val (.bl k)) s1)
 | .call f es ds,m,σ,s=>fin m ((evr C es σ s).bind fun rs s1=>C.cf f (rs++ds.map .val) s1)
 | .comp e g it,m,σ,s=>fin m ((ev C it .i σ s).bind fun x s1=>onL x fun ts=>(mapRes (fun t s=>onO (bindTg σ g t) fun σ'=>one (ev C e .v σ' s)) ts s1).bind fun q s2=>.ok (.val (.lst q)) s2)
 | .compIf e g it c,m,σ,s=>fin m ((ev C it .i σ s).bind fun x s1=>onL x fun ts=>(mapRes (fun t s=>onO (bindTg σ g t) fun σ'=>
   match ev C c .t σ' s with
   | .ok (.val (.bl true)) s2=>one (ev C e .v σ' s2)
   | .ok (.val (.bl false)) s2=>.ok none s2
   | .exc c s2=>.exc c s2
   | _=>.stuck) ts s1).bind fun q s2=>.ok (.val (.lst q)) s2)
 | .rng1 a,m,σ,s=>rngM m ((ev C a .v σ s).bind fun x s1=>onI x fun j=>if bnd j&&decide (j≤lim)then .ok (.val (.lst (rangeT 0 j))) s1 else .stuck)
 | .rng2 a b,m,σ,s=>rngM m ((ev C a .v σ s).bind fun x s1=>onI x fun i=>(ev C b .v σ s1).bind fun y s2=>onI y fun j=>if bnd i&&bnd j&&decide (j-i≤lim)then .ok (.val (.lst (rangeT i j))) s2 else .stuck)
 | .enm a,m,σ,s=>rngM m ((ev C a .v σ s).bind fun x s1=>onL x fun ts=>.ok (.val (.lst (enT 0 ts))) s1)
 | .zip a b,m,σ,s=>rngM m ((ev C a .v σ s).bind fun x s1=>(ev C b .v σ s1).bind fun y s2=>.of (do let ts ←x.sq3;let us ←y.sq3;some (.val (.lst (ziT ts us)))) s2)
 | .fld a c f,m,σ,s=>fin m ((ev C a .v σ s).bind fun x s1=>.of ((fldR s1 x c f).map .val) s1)
 | .cell a,m,σ,s=>fin m ((ev C a .v σ s).bind fun x s1=>onL x fun ts=>.ok (.val (.loc s1.length)) (s1++[.lst ts]))
 | .new c f n es ds,m,σ,s=>fin m ((evr C es σ s).bind fun rs s1=>(C.cf f (.val (.loc s1.length)::rs++ds.map .val) (s1++[.ins c (List.replicate n none)])).bind fun r s2=>onN r (.ok (.val (.loc s1.length)) s2))
 | .meth a c f es ds,m,σ,s=>fin m ((ev C a .v σ s).bind fun x s1=>onO (x.locI s1 c) fun _=>(evr C es σ s1).bind fun rs s2=>C.cf f (x::rs++ds.map .val) s2)
 | .compC e g it,m,σ,s=>fin m ((ev C it .v σ s).bind fun x s1=>onO (x.locL s1) fun p=>(mapRes (fun t s=>onO (bindTg σ g t) fun σ'=>keepC p.1 p.2 (one (ev C e .v σ' s))) p.2 s1).bind fun q s2=>.ok (.val (.lst q)) s2)
 | .cmpD c a b,m,σ,s=>fin m ((ev C a .v σ s).bind fun x s1=>(ev C b .v σ s1).bind fun y s2=>.of ((cmpR c (x.dr s2) (y.dr s2)).map fun k=>.val (.bl k)) s2)
noncomputable def evs(C:Cf):List E→Fr→Sto→Res (List T)
 | [],_,s=>.ok [] s
 | e::es,σ,s=>(ev C e .v σ s).bind fun x s1=>onV x fun t=>(evs C es σ s1).bind fun ts s2=>.ok (t::ts) s2
noncomputable def evr(C:Cf):List E→Fr→Sto→Res (List R)
 | [],_,s=>.ok [] s
 | e::es,σ,s=>(ev C e .v σ s).bind fun x s1=>(evr C es σ s1).bind fun xs s2=>.ok (x::xs) s2
end
def frz(σ:Fr)(i:Nat):Fr:=match σ[i]? with
 | some (some (.own ts))=>σ.set i (some (.val (.lst ts)))
 | _=>σ
def setOwn(σ:Fr)(i:Nat)(ts:List T):Fr:=σ.set i (some (.own ts))
def ownAt(σ:Fr)(i:Nat):Option (List T):=match σ[i]? with
 | some (some (.own ts))=>some ts
 | _=>none
def R.sto(r:R):Option T:=r.val?
def Res.st(m:Res R)(σ:Fr)(k:R→Sto→SR):SR:=match m with
 | .stuck=>.stuck
 | .ok a s=>k a s
 | .exc c s=>.exc c σ s
@[simp] theorem Res.st_ok (a:R) (s:Sto) (σ:Fr) (k:R→Sto→SR):(Res.ok a s).st σ k=k a s:=rfl
@[simp] theorem Res.st_exc (c:Nat) (s:Sto) (σ:Fr) (k:R→Sto→SR):(Res.exc c s).st σ k=.exc c σ s:=rfl
def SR.bind(m:SR)(k:Fr→Sto→SR):SR:=match m with
 | .next σ s=>k σ s
 | r=>r
@[simp] theorem SR.bind_next (σ:Fr) (s:Sto) (k:Fr→Sto→SR):(SR.next σ s).bind k=k σ s:=rfl
@[simp] theorem SR.bind_ret (r:R) (s:Sto) (k:Fr→Sto→SR):(SR.ret r s).bind k=.ret r s:=rfl
@[simp] theorem SR.bind_retO (ts:List T) (s:Sto) (k:Fr→Sto→SR):(SR.retO ts s).bind k=.retO ts s:=rfl
@[simp] theorem SR.bind_exc (c:Nat) (σ:Fr) (s:Sto) (k:Fr→Sto→SR):(SR.exc c σ s).bind k=.exc c σ s:=rfl
@[simp] theorem SR.bind_stuck (k:Fr→Sto→SR):SR.stuck.bind k=.stuck:=rfl
def onS{α:Type}(o:Option α)(f:α→SR):SR:=match o with
 | some a=>f a
 | none=>.stuck
@[simp] theorem onS_some {α:Type} (a:α) (f:α→SR):onS (some a) f=f a:=rfl
@[simp] theorem onS_none {α:Type} (f:α→SR):onS none f=.stuck:=rfl
def onBS(x:R)(a b:SR):SR:=match x with
 | .val (.bl true)=>a
 | .val (.bl false)=>b
 | _=>.stuck
def R.lst?:R→Option (List T)
 | .val (.lst ts)=>some ts
 | _=>none
def forL(g:Tg)(body:Fr→Sto→SR):List T→Fr→Sto→SR
 | [],σ,s=>.next σ s
 | t::ts,σ,s=>onS (bindTg σ g t) fun σ'=>(body σ' s).bind fun σ2 s2=>forL g body ts σ2 s2
open Classical in
noncomputable def forC(g:Tg)(body:Fr→Sto→SR)(l:Nat)(all:List T):List T→Fr→Sto→SR
 | [],σ,s=>if s[l]?=some (.lst all)then .next σ s else .stuck
 | t::ts,σ,s=>if s[l]?=some (.lst all)then onS (bindTg σ g t) fun σ'=>(body σ' s).bind fun σ2 s2=>forC g body l all ts σ2 s2 else .stuck
def SR.nox(r:SR):SR:=match r with
 | .exc _ _ _=>.stuck
 | r=>r
def lock(σ:Fr)(i:Nat):Fr:=match σ[i]? with
 | some (some (.own ts))=>σ.set i (some (.lck ts))
 | _=>σ
def unlock(σ:Fr)(i:Nat):Fr:=match σ[i]? with
 | some (some (.lck ts))=>σ.set i (some (.own ts))
 | _=>σ
def SR.unlock(r:SR)(i:Nat):SR:=match r with
 | .next σ s=>.next (IP.unlock σ i) s
 | .exc c σ s=>.exc c (IP.unlock σ i) s
 | r=>r
def isOwn(σ:Fr)(i:Nat):Bool:=match σ[i]? with
 | some (some (.own _))=>true
 | _=>false
def freshE(C:Cf):E→Bool
 | .lst _=>true | .comp _ _ _=>true | .compIf _ _ _ _=>true | .b1 .list _=>true | .rev _=>true | .bin .add _ _=>true | .call f _ _=>C.fr f | _=>false
mutual
noncomputable def ex(C:Cf):S→Fr→Sto→SR
 | .asg i e,σ,s=>(ev C e .v σ s).st σ fun x s1=>onS x.val? fun t=>.next (put σ i t) s1
 | .asgT is e,σ,s=>(ev C e .v σ s).st σ fun x s1=>onS x.tup? fun ts=>onS (puts σ is ts) fun σ'=>.next σ' s1
 | .mk i e,σ,s=>if freshE C e then(ev C e .v σ s).st σ fun x s1=>onS x.lst? fun ts=>.next (setOwn σ i ts) s1 else .stuck
 | .app i e,σ,s=>onS (ownAt σ i) fun ts=>(ev C e .v σ s).st σ fun x s1=>onS x.val? fun t=>if ts.length<lim then .next (setOwn σ i (ts++[t])) s1 else .stuck
 | .ext i e,σ,s=>onS (ownAt σ i) fun ts=>(ev C e .v σ s).st σ fun x s1=>onS x.lst? fun us=>if ts.length+us.length≤lim then .next (setOwn σ i (ts++us)) s1 else .stuck
 | .put i j e,σ,s=>onS (ownAt σ i) fun ts=>(ev C e .v σ s).st σ fun x s1=>onS x.val? fun t=>(ev C j .v σ s1).st σ fun y s2=>onS y.int? fun k=>onS (L2.ixN ts.length k) fun n=>.next (setOwn σ i (ts.set n t)) s2
 | .pop k i,σ,s=>onS (ownAt σ i) fun ts=>onS ts.getLast? fun t=>.next (put (setOwn σ i ts.dropLast) k t) s
 | .frz i,σ,s=>.next (frz σ i) s
 | .ifs c a b,σ,s=>(ev C c .t σ s).st σ fun x s1=>onBS x (exs C a σ s1) (exs C b σ s1)
 | .whl c b,σ,s=>C.wl (fun σ s=>(ev C c .t σ s).bind fun x s1=>.of (match x with | .val (.bl k)=>some k | _=>none) s1) (fun σ s=>exs C b σ s) σ s
 | .for_ g it b,σ,s=>match it with
  | .var i=>(ev C (.var i) .i σ s).st σ fun x s1=>onS x.lst? fun ts=>if isOwn σ i then(forL g (fun σ s=>exs C b σ s) ts (lock σ i) s1).unlock i else forL g (fun σ s=>exs C b σ s) ts σ s1
  | it=>(ev C it .j σ s).st σ fun x s1=>onS x.lst? fun ts=>forL g (fun σ s=>exs C b σ s) ts σ s1
 | .ret e,σ,s=>(ev C e .v σ s).st σ fun x s1=>.ret x s1
 | .retO e,σ,s=>if freshE C e then(ev C e .v σ s).st σ fun x s1=>onS x.lst? fun ts=>.retO ts s1 else .stuck
 | .retV i,σ,s=>onS (ownAt σ i) fun ts=>.retO ts s
 | .exp e,σ,s=>(ev C e .v σ s).st σ fun _ s1=>.next σ s1
 | .raise c,σ,s=>.exc c σ s
 | .try_ b c nm h,σ,s=>match exs C b σ s with
  | .exc d σ1 s1=>if C.sub d c then(match nm with
    | none=>(exs C h σ1 s1).nox
    | some i=>(exs C h (put σ1 i (.exc d)) s1).nox.bind fun σ2 s2=>.next (σ2.set i none) s2)else .exc d σ1 s1
  | r=>r
 | .putL a j e,σ,s=>(ev C e .v σ s).st σ fun x s1=>onS x.val? fun t=>(ev C a .v σ s1).st σ fun y s2=>(ev C j .v σ s2).st σ fun z s3=>onS (y.locL s3) fun p=>onS z.int? fun k=>onS (L2.ixN p.2.length k) fun n=>.next σ (s3.set p.1 (.lst (p.2.set n t)))
 | .appL a e,σ,s=>(ev C a .v σ s).st σ fun y s1=>onS (y.locL s1) fun _=>(ev C e .v σ s1).st σ fun x s2=>onS x.val? fun t=>onS (y.locL s2) fun p=>if p.2.length<lim then .next σ (s2.set p.1 (.lst (p.2++[t])))else .stuck
 | .setF a c f e,σ,s=>(ev C e .v σ s).st σ fun x s1=>onS x.val? fun t=>(ev C a .v σ s1).st σ fun y s2=>onS (y.locI s2 c) fun p=>if f<p.2.length then .next σ (s2.set p.1 (.ins c (p.2.set f (some t))))else .stuck
 | .popL a,σ,s=>(ev C a .v σ s).st σ fun y s1=>onS (y.locL s1) fun p=>if p.2.isEmpty then .stuck else .next σ (s1.set p.1 (.lst p.2.dropLast))
 | .clrL a,σ,s=>(ev C a .v σ s).st σ fun y s1=>onS (y.locL s1) fun p=>.next σ (s1.set p.1 (.lst []))
 | .forC g it b,σ,s=>(ev C it .v σ s).st σ fun x s1=>onS (x.locL s1) fun p=>forC g (fun σ s=>exs C b σ s) p.1 p.2 p.2 σ s1
 | .pass,σ,s=>.next σ s
noncomputable def exs(C:Cf):List S→Fr→Sto→SR
 | [],σ,s=>.next σ s
 | a::r,σ,s=>(ex C a σ s).bind fun σ1 s1=>exs C r σ1 s1
end
structure Fn where
 pars:Nat
 size:Nat
 fr:Bool
 body:List S
def ofR:R→B
 | .val t=>.val t
 | .bor ts=>.bor ts
def enter(F:Fn)(rs:List R):Fr:=rs.map (fun r=>some (ofR r))++List.replicate (F.size-rs.length) none
def leave(x fr:Bool):SR→Res R
 | .ret r s=>if fr then .stuck else .ok r s
 | .retO ts s=>if fr then .ok (.val (.lst ts)) s else .stuck
 | .next _ s=>if fr then .stuck else .ok (.val .non) s
 | .exc c _ s=>if x then .exc c s else .stuck
 | .stuck=>.stuck
def whileN(c:Fr→Sto→Res Bool)(b:Fr→Sto→SR):Nat→Fr→Sto→SR
 | 0,_,_=>.stuck
 | n+1,σ,s=>match c σ s with
  | .stuck=>.stuck
  | .exc d s1=>.exc d σ s1
  | .ok false s1=>.next σ s1
  | .ok true s1=>(b σ s1).bind fun σ2 s2=>whileN c b n σ2 s2
open Classical in
noncomputable def whileL(c:Fr→Sto→Res Bool)(b:Fr→Sto→SR)(σ:Fr)(s:Sto):SR:=
 if h:∃n,whileN c b n σ s≠.stuck then whileN c b (choose h) σ s else .stuck
def frOf(fs:List Fn)(f:Nat):Bool:=match fs[f]? with
 | some F=>F.fr
 | none=>false
noncomputable def run(x:Bool)(fs:List Fn)(sub:Nat→Nat→Bool)(wl:(Fr→Sto→Res Bool)→(Fr→Sto→SR)→Fr→Sto→SR):Nat→Nat→List R→Sto→Res R
 | 0,_,_,_=>.stuck
 | k+1,f,rs,s=>match fs[f]? with
  | none=>.stuck
  | some F=>if rs.length=F.pars then leave x F.fr (exs ⟨run x fs sub wl k,sub,frOf fs,wl⟩ F.body (enter F rs) s)else .stuck
end IP
end
section
set_option Elab.async false
set_option linter.all false
set_option maxRecDepth 100000
namespace IP
open PySem L2
structure Gx where
 K:PySem.W.Frag
 cA:Nat→Addr
 iA:Nat→Addr
 nm:Nat→List Str
structure Wo where
 n:Nat
 io:Nat→Addr
 Z:Addr→Prop
def errAt(a:Addr)(C:Addr):Heap→Prop:=fun h=>∃o,h.get? a=some o∧o.cls=.ref C
def codeO(c:Addr)(q:Str):Heap→Prop:=fun h=>h.CodeRec (.ref c) q
section
variable(G:Gx)
mutual
def Rep(w:Wo)(H:Hp):T→V→Prop
 | .non,v=>v=.non
 | .bl b,v=>v=.bl b
 | .int i,v=>v=.int i
 | .str x,v=>v=.str x
 | .tup ts,v=>∃a vs,v=.ref a∧H a=some (.tup vs)∧Reps w H ts vs
 | .lst ts,v=>∃a vs,v=.ref a∧w.Z a∧Rd H a (.lst vs)∧Reps w H ts vs
 | .loc l,v=>l<w.n∧v=.ref (w.io l)
 | .exc c,v=>∃a,v=.ref a∧H a=some (.ext (errAt a (G.cA c)))
def Reps(w:Wo)(H:Hp):List T→List V→Prop
 | [],vs=>vs=[]
 | t::ts,vs=>∃v r,vs=v::r∧Rep w H t v∧Reps w H ts r
end
end
def notLoc(w:Wo)(a:Addr):Prop:=∀l,l<w.n→a≠w.io l
structure Le(w w':Wo)(H H':Hp):Prop where
 n:w.n≤w'.n
 io:∀l,l<w.n→w'.io l=w.io l
 Z:∀a,w.Z a→w'.Z a
 keep:∀a o,H a=some o→notLoc w a→H' a=some o
 newL:∀l,w.n≤l→l<w'.n→H (w'.io l)=none
 newZ:∀a,w'.Z a→w.Z a∨H a=none
 some_:∀a,H a≠none→H' a≠none
theorem Le.refl(w:Wo)(H:Hp):Le w w H H:=⟨Nat.le_refl _,fun _ _=>rfl,fun _ z=>z,fun _ _ e _=>e,fun l a b=>absurd (Nat.lt_of_lt_of_le b a) (Nat.lt_irrefl _),fun _ z=>.inl z,fun _ z=>z⟩
theorem Le.trans{w w1 w2:Wo}{H H1 H2:Hp}(a:Le w w1 H H1)(b:Le w1 w2 H1 H2):Le w w2 H H2 where
 n:=Nat.le_trans a.n b.n
 io:=fun l h=>(b.io l (Nat.lt_of_lt_of_le h a.n)).trans (a.io l h)
 Z:=fun x z=>b.Z x (a.Z x z)
 keep:=fun x o e nl=>b.keep x o (a.keep x o e nl) fun l hl q=>by
  by_cases h:l<w.n
  ·exact nl l h (q.trans (a.io l h))
  ·have:=a.newL l (Nat.le_of_not_lt h) hl
   rw[←q,e]at this
   cases this
 newL:=fun l h1 h2=>by
  by_cases h:l<w1.n
  ·rw[b.io l h]
   exact a.newL l h1 h
  ·have q:=b.newL l (Nat.le_of_not_lt h) h2
   cases e:H (w2.io l)with
   | none=>rfl
   | some o=>exact absurd q (a.some_ _ (by rw[e];intro z;cases z))
 newZ:=fun x z=>by
  rcases b.newZ x z with z|z
  ·exact a.newZ x z
  ·refine .inr ?_
   cases e:H x with
   | none=>rfl
   | some o=>exact absurd z (a.some_ x (by rw[e];intro q;cases q))
 some_:=fun x z=>b.some_ x (a.some_ x z)
section
variable{G:Gx}
def KvOk(nm:List Str)(kvs:List (Str×V)):Prop:=(kvs.map (·.1)).Nodup∧∀x∈kvs.map (·.1),x∈nm
def CellOk(G:Gx)(w:Wo)(H:Hp)(a:Addr):Cell→Prop
 | .lst ts=>∃vs,H a=some (.lst vs)∧Reps G w H ts vs
 | .ins c fs=>∃dx kvs,H a=some (.ins (G.iA c) dx kvs)∧KvOk (G.nm c) kvs∧∀(i:Nat) (x:Str) (t:T),(G.nm c)[i]?=some x→fs[i]?=some (some t)→∃v,kvs.lookup x=some v∧Rep G w H t v
 | .tbl k p q=>a=G.iA k∧∃ps:Array Value,H a=some (.tbl ps)∧TriplesOk ps.toList∧∀cv,codeAmong p ps.toList=some cv→∃c,cv=.ref c∧H c=some (.ext (codeO c q))
structure StoOk(G:Gx)(w:Wo)(H:Hp)(s:Sto):Prop where
 len:s.length=w.n
 inj:∀l m,l<w.n→m<w.n→w.io l=w.io m→l=m
 nz:∀l,l<w.n→¬w.Z (w.io l)
 cell:∀l c,s[l]?=some c→CellOk G w H (w.io l) c
 zt:∀a,w.Z a→∃vs,Rd H a (.lst vs)
theorem StoOk.loc{w:Wo}{H:Hp}{s:Sto}(S:StoOk G w H s){l:Nat}(h:l<w.n):(∃vs,H (w.io l)=some (.lst vs))∨(∃c dx kvs,H (w.io l)=some (.ins c dx kvs))∨∃ps,H (w.io l)=some (.tbl ps):=by
 have hl:l<s.length:=by rw[S.len];exact h
 have q:=S.cell l s[l] (List.getElem?_eq_getElem hl)
 cases e:s[l]with
 | lst ts=>rw[e]at q;obtain⟨vs,q,_⟩:=q;exact .inl ⟨vs,q⟩
 | ins c fs=>rw[e]at q;obtain⟨dx,kvs,q,_⟩:=q;exact .inr (.inl ⟨_,dx,kvs,q⟩)
 | tbl k p q'=>rw[e]at q;obtain⟨_,ps,q,_⟩:=q;exact .inr (.inr ⟨ps,q⟩)
theorem StoOk.notLoc{w:Wo}{H:Hp}{s:Sto}(S:StoOk G w H s){a:Addr}{o:HO}(e:H a=some o)(h1:∀vs,o≠.lst vs)(h2:∀c dx kvs,o≠.ins c dx kvs)(h3:∀ps,o≠.tbl ps:=by intro _ z;cases z):IP.notLoc w a:=fun l hl q=>by
 subst q
 rcases S.loc hl with⟨vs,z⟩|⟨c,dx,kvs,z⟩|⟨ps,z⟩
 ·rw[e]at z;exact h1 vs (Option.some.inj z)
 ·rw[e]at z;exact h2 c dx kvs (Option.some.inj z)
 ·rw[e]at z;exact h3 ps (Option.some.inj z)
theorem StoOk.zLoc{w:Wo}{H:Hp}{s:Sto}(S:StoOk G w H s){a:Addr}(z:w.Z a):IP.notLoc w a:=fun l hl q=>S.nz l hl (q▸z)
theorem StoOk.fresh{w:Wo}{H:Hp}{s:Sto}(S:StoOk G w H s){a:Addr}(h:H a=none):¬w.Z a∧IP.notLoc w a:=by
 refine⟨fun z=>?_,fun l hl q=>?_⟩
 ·obtain⟨vs,r|⟨o,r⟩⟩:=S.zt a z
  ·rw[h]at r;cases r
  ·rw[h]at r;cases r
 ·subst q
  rcases S.loc hl with⟨vs,z⟩|⟨c,dx,kvs,z⟩|⟨ps,z⟩<;>(rw[h]at z;cases z)
theorem Rd.keep{w w':Wo}{H H':Hp}{a:Addr}{u:HO}(L:Le w w' H H')(nl:IP.notLoc w a)(r:Rd H a u):Rd H' a u:=by
 rcases r with r|⟨o,r⟩
 ·exact .inl (L.keep _ _ r nl)
 ·exact .inr ⟨o,L.keep _ _ r nl⟩
mutual
theorem Rep.mono{w w':Wo}{H H':Hp}{s:Sto}(L:Le w w' H H')(S:StoOk G w H s):∀(t:T) (v:V),Rep G w H t v→Rep G w' H' t v
 | .non,v,h=>h
 | .bl b,v,h=>h
 | .int i,v,h=>h
 | .str x,v,h=>h
 | .tup ts,v,⟨a,vs,e,h,r⟩=>⟨a,vs,e,L.keep _ _ h (S.notLoc h (fun _ z=>by cases z) fun _ _ _ z=>by cases z),Reps.mono L S ts vs r⟩
 | .lst ts,v,⟨a,vs,e,z,h,r⟩=>⟨a,vs,e,L.Z _ z,Rd.keep L (S.zLoc z) h,Reps.mono L S ts vs r⟩
 | .loc l,v,⟨h,e⟩=>⟨Nat.lt_of_lt_of_le h L.n,by rw[L.io l h];exact e⟩
 | .exc c,v,⟨a,e,h⟩=>⟨a,e,L.keep _ _ h (S.notLoc h (fun _ z=>by cases z) fun _ _ _ z=>by cases z)⟩
theorem Reps.mono{w w':Wo}{H H':Hp}{s:Sto}(L:Le w w' H H')(S:StoOk G w H s):∀(ts:List T) (vs:List V),Reps G w H ts vs→Reps G w' H' ts vs
 | [],vs,h=>h
 | t::ts,vs,⟨v,r,e,h,q⟩=>⟨v,r,e,Rep.mono L S t v h,Reps.mono L S ts r q⟩
end
theorem Reps.length{w:Wo}{H:Hp}:∀{ts:List T}{vs:List V},Reps G w H ts vs→ts.length=vs.length
 | [],_,h=>by rw[h];rfl
 | t::ts,_,⟨v,r,e,_,q⟩=>by subst e;simp[Reps.length q]
theorem Reps.get{w:Wo}{H:Hp}:∀{ts:List T}{vs:List V}{i:Nat}{t:T},Reps G w H ts vs→ts[i]?=some t→∃v,vs[i]?=some v∧Rep G w H t v
 | [],_,i,t,h,e=>by simp at e
 | t::ts,_,0,u,⟨v,r,e,h,q⟩,z=>by subst e;simp at z;subst z;exact⟨v,rfl,h⟩
 | t::ts,_,i+1,u,⟨v,r,e,h,q⟩,z=>by
  subst e
  obtain⟨x,h1,h2⟩:=Reps.get q (i:=i) (t:=u) (by simpa using z)
  exact⟨x,by simpa using h1,h2⟩
theorem Reps.get'{w:Wo}{H:Hp}{ts:List T}{vs:List V}{i:Nat}{v:V}(h:Reps G w H ts vs)(e:vs[i]?=some v):∃t,ts[i]?=some t∧Rep G w H t v:=by
 have hi:i<ts.length:=by
  rw[h.length]
  exact(List.getElem?_eq_some_iff.mp e).1
 obtain⟨u,h1,h2⟩:=h.get (List.getElem?_eq_getElem hi)
 rw[e]at h1
 cases h1
 exact⟨_,List.getElem?_eq_getElem hi,h2⟩
theorem Reps.append{w:Wo}{H:Hp}:∀{ts us:List T}{vs ws:List V},Reps G w H ts vs→Reps G w H us ws→Reps G w H (ts++us) (vs++ws)
 | [],us,_,ws,h,q=>by rw[h];exact q
 | t::ts,us,_,ws,⟨v,r,e,h,k⟩,q=>by subst e;exact⟨v,r++ws,rfl,h,Reps.append k q⟩
theorem Reps.set{w:Wo}{H:Hp}{t:T}{v:V}(rv:Rep G w H t v):∀{ts:List T}{vs:List V} (i:Nat),Reps G w H ts vs→Reps G w H (ts.set i t) (vs.set i v)
 | [],_,i,h=>by rw[h];exact rfl
 | x::ts,_,0,⟨y,r,e,h,k⟩=>by subst e;exact⟨v,r,rfl,rv,k⟩
 | x::ts,_,i+1,⟨y,r,e,h,k⟩=>by subst e;exact⟨y,r.set i v,rfl,h,Reps.set rv i k⟩
theorem Reps.drop{w:Wo}{H:Hp}:∀{ts:List T}{vs:List V} (i:Nat),Reps G w H ts vs→Reps G w H (ts.drop i) (vs.drop i)
 | ts,vs,0,h=>h
 | [],_,i+1,h=>by rw[h];exact rfl
 | x::ts,_,i+1,⟨y,r,e,h,k⟩=>by subst e;exact Reps.drop i k
theorem Reps.take{w:Wo}{H:Hp}:∀{ts:List T}{vs:List V} (i:Nat),Reps G w H ts vs→Reps G w H (ts.take i) (vs.take i)
 | ts,vs,0,h=>by simp;exact rfl
 | [],_,i+1,h=>by rw[h];exact rfl
 | x::ts,_,i+1,⟨y,r,e,h,k⟩=>by subst e;exact⟨y,r.take i,rfl,h,Reps.take i k⟩
theorem Reps.reverse{w:Wo}{H:Hp}:∀{ts:List T}{vs:List V},Reps G w H ts vs→Reps G w H ts.reverse vs.reverse
 | [],_,h=>by rw[h];exact rfl
 | x::ts,_,⟨y,r,e,h,k⟩=>by
  subst e
  rw[List.reverse_cons,List.reverse_cons]
  exact Reps.append (Reps.reverse k) ⟨y,[],rfl,h,rfl⟩
theorem Reps.cut{w:Wo}{H:Hp}{ts:List T}{vs:List V}(h:Reps G w H ts vs)(lo hi:Option Int):Reps G w H (cutT ts lo hi) (cutV vs lo hi):=by
 unfold cutT cutV
 rw[←h.length]
 exact(h.drop _).take _
def RepR(G:Gx)(w:Wo)(H:Hp):R→V→Prop
 | .val t,v=>Rep G w H t v
 | .bor ts,v=>∃a vs,v=.ref a∧H a=some (.lst vs)∧Reps G w H ts vs∧notLoc w a
def RepD(G:Gx)(w:Wo)(H:Hp):R→V→Prop
 | .val t,v=>Rep G w H t v
 | .bor ts,v=>∃a vs,v=.ref a∧H a=some (.lst vs)∧Reps G w H ts vs
theorem RepR.d{w:Wo}{H:Hp}:∀{r:R}{v:V},RepR G w H r v→RepD G w H r v
 | .val t,v,h=>h
 | .bor ts,v,⟨a,vs,e,h,r,_⟩=>⟨a,vs,e,h,r⟩
theorem RepR.dr{w:Wo}{H:Hp}{s:Sto}(S:StoOk G w H s){r:R}{v:V}(h:RepR G w H r v):RepD G w H (r.dr s) v:=by
 unfold R.dr
 split
 ·rename_i l
  obtain⟨hl,e⟩:=h
  split
  ·rename_i ts q
   obtain⟨vs,h1,h2⟩:=S.cell l _ q
   exact⟨w.io l,vs,e,h1,h2⟩
  ·exact⟨hl,e⟩
 ·exact h.d
theorem RepR.mono{w w':Wo}{H H':Hp}{s:Sto}(L:Le w w' H H')(S:StoOk G w H s):∀{r:R}{v:V},RepR G w H r v→RepR G w' H' r v
 | .val t,v,h=>Rep.mono L S t v h
 | .bor ts,v,⟨a,vs,e,h,r,nl⟩=>⟨a,vs,e,L.keep _ _ h nl,Reps.mono L S ts vs r,fun l hl q=>by
   by_cases k:l<w.n
   ·exact nl l k (q.trans (L.io l k))
   ·have:=L.newL l (Nat.le_of_not_lt k) hl
    rw[←q,h]at this
    cases this⟩
def RepRs(G:Gx)(w:Wo)(H:Hp):List R→List V→Prop
 | [],vs=>vs=[]
 | t::ts,vs=>∃v r,vs=v::r∧RepR G w H t v∧RepRs G w H ts r
theorem RepRs.mono{w w':Wo}{H H':Hp}{s:Sto}(L:Le w w' H H')(S:StoOk G w H s):∀{ts:List R}{vs:List V},RepRs G w H ts vs→RepRs G w' H' ts vs
 | [],vs,h=>h
 | t::ts,vs,⟨v,r,e,h,q⟩=>⟨v,r,e,RepR.mono L S h,RepRs.mono L S q⟩
theorem RepRs.length{w:Wo}{H:Hp}:∀{ts:List R}{vs:List V},RepRs G w H ts vs→ts.length=vs.length
 | [],_,h=>by rw[h];rfl
 | t::ts,_,⟨v,r,e,_,q⟩=>by subst e;simp[RepRs.length q]
def ownL:B→Option (List T)
 | .own ts=>some ts
 | .lck ts=>some ts
 | _=>none
structure FrOk(G:Gx)(w:Wo)(H H₀:Hp)(σ:Fr)(σV:St):Prop where
 len:σ.length=σV.length
 val:∀(i:Nat) (t:T),σ[i]?=some (some (.val t))→∃v,σV[i]?=some (some v)∧Rep G w H t v
 own:∀(i:Nat) (b:B) (ts:List T),σ[i]?=some (some b)→ownL b=some ts→∃a vs,σV[i]?=some (some (.ref a))∧H a=some (.lst vs)∧Reps G w H ts vs∧H₀ a=none∧¬w.Z a∧notLoc w a
 apart:∀(i j:Nat) (b c:B) (ts us:List T) (a:Addr),i≠j→σ[i]?=some (some b)→ownL b=some ts→σ[j]?=some (some c)→ownL c=some us→σV[i]?=some (some (.ref a))→σV[j]?=some (some (.ref a))→False
 bor:∀(i:Nat) (ts:List T),σ[i]?=some (some (.bor ts))→∃a vs,σV[i]?=some (some (.ref a))∧H a=some (.lst vs)∧Reps G w H ts vs∧H₀ a≠none∧notLoc w a
theorem notLoc.mono{w w':Wo}{H H':Hp}(L:Le w w' H H'){a:Addr}(h:H a≠none)(nl:notLoc w a):notLoc w' a:=fun l hl q=>by
 by_cases k:l<w.n
 ·exact nl l k (q.trans (L.io l k))
 ·have:=L.newL l (Nat.le_of_not_lt k) hl
  rw[←q]at this
  exact h this
theorem FrOk.mono{w w':Wo}{H H' H₀:Hp}{s:Sto}{σ:Fr}{σV:St}(L:Le w w' H H')(S:StoOk G w H s)(F:FrOk G w H H₀ σ σV):FrOk G w' H' H₀ σ σV where
 len:=F.len
 val:=fun i t e=>let ⟨v,h1,h2⟩:=F.val i t e;⟨v,h1,Rep.mono L S t v h2⟩
 own:=fun i b ts e eb=>by
  obtain⟨a,vs,h1,h2,h3,h4,h5,h6⟩:=F.own i b ts e eb
  have hn:H a≠none:=by rw[h2];intro z;cases z
  refine⟨a,vs,h1,L.keep _ _ h2 h6,Reps.mono L S ts vs h3,h4,fun z=>?_,notLoc.mono L hn h6⟩
  rcases L.newZ a z with z|z
  ·exact h5 z
  ·exact hn z
 apart:=F.apart
 bor:=fun i ts e=>by
  obtain⟨a,vs,h1,h2,h3,h4,h6⟩:=F.bor i ts e
  have hn:H a≠none:=by rw[h2];intro z;cases z
  exact⟨a,vs,h1,L.keep _ _ h2 h6,Reps.mono L S ts vs h3,h4,notLoc.mono L hn h6⟩
structure Good(G:Gx)(w₀:Wo)(H₀:Hp)(w:Wo)(H:Hp)(σ:Fr)(s:Sto)(σV:St):Prop where
 sto:StoOk G w H s
 fr:FrOk G w H H₀ σ σV
 ent:Le w₀ w H₀ H
theorem Good.step{w₀ w w':Wo}{H₀ H H':Hp}{σ:Fr}{s s':Sto}{σV:St}(g:Good G w₀ H₀ w H σ s σV)(L:Le w w' H H')(S:StoOk G w' H' s'):Good G w₀ H₀ w' H' σ s' σV:=⟨S,g.fr.mono L g.sto,g.ent.trans L⟩
end
end IP
end
section
set_option Elab.async false
set_option linter.all false
set_option maxRecDepth 100000
namespace IP
open PySem PySem.Spec L2
structure Flt(stack:List Env)(h B:Heap)(e:Addr)(sh:Heap):Prop where
 cov:∀b o,B.get? b=some o↔h.get? b=some o∧b∉frs stack
 keep:∀b o,h.get? b=some o→b∉frs stack→sh.get? b=some o
 slot:∀b o,h.get? b=some o→b∈frs stack→∃sl,sh.get? b=some { o with slots:=sl }
 new:h.get? e=none
def HeldV(base:Heap)(l:List Env)(e:Addr)(cls a0 fl:Value)(h:Heap):Prop:=base.StaysIn h∧base.get? e=none∧h.FunFrames base l∧h.TracedAtW base e cls a0 fl
def Thrown(G:Gx)(X:Cx)(pins:List (Addr×Obj))(σV:St)(H:Hp)(c:Nat)(u:Value)(sh:Shared):Prop:=
 ∃(e:Addr) (h B:Heap),u=.ref e∧Inv X pins σV H { sh with heap:=h }∧Flt X.stack h B e sh.heap∧X.base.StaysIn B∧
  ((∃args,Heap.MadeExcOf h sh.heap e (.ref (G.cA c)) args)∨(∃t,Heap.FlyingW B X.stack e (.ref (G.cA c)) t sh.heap)∨
   ∃t fl,HeldV B X.stack e (.ref (G.cA c)) t fl sh.heap)
def Want(G:Gx)(X:Cx)(σV:St)(w:Wo)(H:Hp)(res:Res R)(Q:VK):Prop:=match res with
 | .stuck=>False
 | .ok r s'=>∀w' H' v,Le w w' H H'→StoOk G w' H' s'→RepR G w' H' r v→Q v H'
 | .exc c s'=>∀w' H' pins u sh,Le w w' H H'→StoOk G w' H' s'→Thrown G X pins σV H' c u sh→X.xe u sh
section
variable{G:Gx}{X:Cx}{σV:St}{w w₀:Wo}{H H₀:Hp}{Q Q':VK}
theorem Want.imp{res:Res R}(h:Want G X σV w H res Q)(q:∀v H',Q v H'→Q' v H'):Want G X σV w H res Q':=by
 cases res with
 | stuck=>exact h
 | ok r s=>exact fun w' H' v a b c=>q _ _ (h w' H' v a b c)
 | exc c s=>exact h
theorem Want.mono{res:Res R}{w1:Wo}{H1:Hp}(L:Le w w1 H H1)(h:Want G X σV w H res Q):Want G X σV w1 H1 res Q:=by
 cases res with
 | stuck=>exact h
 | ok r s=>exact fun w' H' v a b c=>h w' H' v (L.trans a) b c
 | exc c s=>exact fun w' H' pins u sh a b=>h w' H' pins u sh (L.trans a) b
theorem Want.bind{m:Res R}{k:R→Sto→Res R}(h:Want G X σV w H (m.bind k) Q):
  Want G X σV w H m fun v H1=>∃w1 r s1,Le w w1 H H1∧StoOk G w1 H1 s1∧RepR G w1 H1 r v∧Want G X σV w1 H1 (k r s1) Q:=by
 cases m with
 | stuck=>exact h
 | ok r s=>exact fun w' H' v a b c=>⟨w',r,s,a,b,c,Want.mono a h⟩
 | exc c s=>exact h
theorem Want.of{o:Option R}{s:Sto}(h:Want G X σV w H (Res.of o s) Q):∃r,o=some r∧∀w' H' v,Le w w' H H'→StoOk G w' H' s→RepR G w' H' r v→Q v H':=by
 cases o with
 | none=>exact h.elim
 | some r=>exact⟨r,rfl,h⟩
theorem PE.imp{e:Expr}{t t':TE}(h:PE X e t)(q:∀σ H Q,t' σ H Q→t σ H Q):PE X e t':=fun pins s σ H Q I z=>h pins s σ H Q I (q _ _ _ z)
theorem PT.imp{e:Expr}{t t':TT}(h:PT X e t)(q:∀σ H Q,t' σ H Q→t σ H Q):PT X e t':=fun pins s σ H Q I z=>h pins s σ H Q I (q _ _ _ z)
theorem PA.imp{e:List Expr}{t t':TA}(h:PA X e t)(q:∀σ H Q,t' σ H Q→t σ H Q):PA X e t':=fun pos pins s σ H Q I z=>h pos pins s σ H Q I (q _ _ _ z)
def tV(G:Gx)(X:Cx)(C:Cf)(e:E):TE:=fun σV H Q=>∃w₀ H₀ w σ s,Good G w₀ H₀ w H σ s σV∧Want G X σV w H (ev C e .v σ s) Q
def tT(G:Gx)(X:Cx)(C:Cf)(e:E):TT:=fun σV H Q=>∃w₀ H₀ w σ s,Good G w₀ H₀ w H σ s σV∧Want G X σV w H (ev C e .t σ s) fun v H'=>∃k,v=.bl k∧Q k H'
theorem zach{a p:Addr}{o:HO}(e:H a=some o)(hp:H p=none):a≠p:=fun q=>by rw[q,hp]at e;cases e
theorem Le.new{p:Addr}(hp:H p=none)(o:HO):Le w w H (upd H p o)where
 n:=Nat.le_refl _
 io:=fun _ _=>rfl
 Z:=fun _ z=>z
 keep:=fun a u e _=>by rw[upd_ne (zach e hp)];exact e
 newL:=fun l a b=>absurd (Nat.lt_of_lt_of_le b a) (Nat.lt_irrefl _)
 newZ:=fun _ z=>.inl z
 some_:=fun a z=>by
  cases e:H a with
  | none=>exact absurd e z
  | some u=>rw[upd_ne (zach e hp),e];intro q;cases q
def Wo.addZ(w:Wo)(p:Addr):Wo:={ w with Z:=fun a=>w.Z a∨a=p }
theorem Le.newZ_{p:Addr}(hp:H p=none)(o:HO):Le w (w.addZ p) H (upd H p o)where
 n:=Nat.le_refl _
 io:=fun _ _=>rfl
 Z:=fun _ z=>.inl z
 keep:=(Le.new (w:=w) hp o).keep
 newL:=(Le.new (w:=w) hp o).newL
 newZ:=fun a z=>z.elim .inl fun q=>.inr (q▸hp)
 some_:=(Le.new (w:=w) hp o).some_
theorem CellOk.mono{w':Wo}{H':Hp}{s:Sto}(L:Le w w' H H')(S:StoOk G w H s){a:Addr}(e:H' a=H a):∀{c:Cell},CellOk G w H a c→CellOk G w' H' a c
 | .lst ts,⟨vs,h,r⟩=>⟨vs,e.trans h,Reps.mono L S ts vs r⟩
 | .ins c fs,⟨dx,kvs,h,z,k⟩=>⟨dx,kvs,e.trans h,z,fun i x t h1 h2=>let ⟨v,q1,q2⟩:=k i x t h1 h2;⟨v,q1,Rep.mono L S t v q2⟩⟩
 | .tbl k p q,⟨ha,ps,h,z,f⟩=>⟨ha,ps,e.trans h,z,fun cv hcv=>let ⟨c,e1,e2⟩:=f cv hcv;⟨c,e1,L.keep _ _ e2 (S.notLoc e2 (fun _ z=>by cases z) fun _ _ _ z=>by cases z)⟩⟩
theorem StoOk.grow{w':Wo}{H':Hp}{s:Sto}(S:StoOk G w H s)(L:Le w w' H H')(hn:w'.n=w.n)(hl:∀l,l<w.n→H' (w.io l)=H (w.io l))(hz:∀a,w'.Z a→∃vs,Rd H' a (.lst vs)):StoOk G w' H' s where
 len:=S.len.trans hn.symm
 inj:=fun l m h1 h2 e=>by
  rw[hn]at h1 h2
  rw[L.io l h1,L.io m h2]at e
  exact S.inj l m h1 h2 e
 nz:=fun l h z=>by
  rw[hn]at h
  rw[L.io l h]at z
  rcases L.newZ _ z with q|q
  ·exact S.nz l h q
  ·rcases S.loc h with⟨vs,y⟩|⟨c,dx,kvs,y⟩|⟨ps,y⟩<;>(rw[q]at y;cases y)
 cell:=fun l c e=>by
  have h:l<w.n:=by rw[←S.len];exact(List.getElem?_eq_some_iff.mp e).1
  rw[L.io l h]
  exact CellOk.mono L S (hl l h) (S.cell l c e)
 zt:=hz
theorem Rd.upd{a p:Addr}{u o:HO}(hp:H p=none)(r:Rd H a u):Rd (upd H p o) a u:=by
 rcases r with r|⟨q,r⟩
 ·exact .inl (by rw[upd_ne (zach r hp)];exact r)
 ·exact .inr ⟨q,by rw[upd_ne (zach r hp)];exact r⟩
theorem StoOk.new{s:Sto}{p:Addr}(S:StoOk G w H s)(hp:H p=none)(o:HO):StoOk G w (L2.upd H p o) s:=
 S.grow (Le.new hp o) rfl (fun l h=>upd_ne ((S.fresh hp).2 l h).symm) fun a z=>let ⟨vs,r⟩:=S.zt a z;⟨vs,Rd.upd hp r⟩
theorem StoOk.newZ{s:Sto}{p:Addr}(S:StoOk G w H s)(hp:H p=none)(vs:List V):StoOk G (w.addZ p) (L2.upd H p (.lst vs)) s:=
 S.grow (Le.newZ_ hp _) rfl (fun l h=>upd_ne ((S.fresh hp).2 l h).symm) fun a z=>z.elim (fun z=>let ⟨vs,r⟩:=S.zt a z;⟨vs,Rd.upd hp r⟩) fun q=>⟨vs,.inl (by rw[q];exact zaau)⟩
theorem zaep{s:Sto}{ts:List T}{vs:List V}(S:StoOk G w H s)(r:Reps G w H ts vs)(h:∀w' H' v,Le w w' H H'→StoOk G w' H' s→RepR G w' H' (.val (.tup ts)) v→Q v H')(p:Addr)(hp:H p=none):Q (.ref p) (L2.upd H p (.tup vs)):=
 h w _ _ (Le.new hp _) (S.new hp _) ⟨p,vs,rfl,zaau,Reps.mono (Le.new hp _) S ts vs r⟩
theorem zac1{s:Sto}{ts:List T}{vs:List V}(S:StoOk G w H s)(r:Reps G w H ts vs)(h:∀w' H' v,Le w w' H H'→StoOk G w' H' s→RepR G w' H' (.val (.lst ts)) v→Q v H')(p:Addr)(hp:H p=none):Q (.ref p) (L2.upd H p (.lst vs)):=
 h _ _ _ (Le.newZ_ hp _) (S.newZ hp vs) ⟨p,vs,rfl,.inr rfl,.inl zaau,Reps.mono (Le.newZ_ hp _) S ts vs r⟩
def WantO(G:Gx)(X:Cx)(σV:St)(w:Wo)(H:Hp)(res:Res R)(Q:VK):Prop:=match res with
 | .ok (.val (.lst ts)) s'=>∀w' H' a vs,Le w w' H H'→StoOk G w' H' s'→H' a=some (.lst vs)→Reps G w' H' ts vs→H a=none→¬w'.Z a→notLoc w' a→Q (.ref a) H'
 | .exc c s'=>∀w' H' pins u sh,Le w w' H H'→StoOk G w' H' s'→Thrown G X pins σV H' c u sh→X.xe u sh
 | _=>False
def tO(G:Gx)(X:Cx)(C:Cf)(e:E):TE:=fun σV H Q=>∃w₀ H₀ w σ s,Good G w₀ H₀ w H σ s σV∧WantO G X σV w H (ev C e .v σ s) Q
theorem zaev{s:Sto}{ts:List T}{vs:List V}(S:StoOk G w H s)(r:Reps G w H ts vs)(h:∀w' H' a vs,Le w w' H H'→StoOk G w' H' s→H' a=some (.lst vs)→Reps G w' H' ts vs→H a=none→¬w'.Z a→notLoc w' a→Q (.ref a) H')(p:Addr)(hp:H p=none):Q (.ref p) (L2.upd H p (.lst vs)):=
 h w _ p vs (Le.new hp _) (S.new hp _) zaau (Reps.mono (Le.new hp _) S ts vs r) hp (S.fresh hp).1 (S.fresh hp).2
theorem RepD.seq{s:Sto}{x:R}{v:V}{ts:List T}(r:RepD G w H x v)(e:x.seq=some ts):∃a vs,v=.ref a∧Rd H a (.lst vs)∧Reps G w H ts vs:=by
 match x,e with
 | .val (.lst us),e=>obtain⟨a,vs,e1,_,h,q⟩:=r;cases e;exact⟨a,vs,e1,h,q⟩
 | .bor us,e=>obtain⟨a,vs,e1,h,q⟩:=r;cases e;exact⟨a,vs,e1,.inl h,q⟩
theorem RepR.seq{s:Sto}{x:R}{v:V}{ts:List T}(r:RepR G w H x v)(e:x.seq=some ts):∃a vs,v=.ref a∧Rd H a (.lst vs)∧Reps G w H ts vs:=RepD.seq (s:=s) r.d e
theorem RepD.sq2{x:R}{v:V}{ts:List T}(r:RepD G w H x v)(e:x.sq2=some ts):∃a vs,v=.ref a∧(Rd H a (.lst vs)∨H a=some (.tup vs))∧Reps G w H ts vs:=by
 match x,e with
 | .val (.lst us),e=>obtain⟨a,vs,e1,_,h,q⟩:=r;cases e;exact⟨a,vs,e1,.inl h,q⟩
 | .val (.tup us),e=>obtain⟨a,vs,e1,h,q⟩:=r;cases e;exact⟨a,vs,e1,.inr h,q⟩
 | .bor us,e=>obtain⟨a,vs,e1,h,q⟩:=r;cases e;exact⟨a,vs,e1,.inl (.inl h),q⟩
theorem RepR.sq2{x:R}{v:V}{ts:List T}(r:RepR G w H x v)(e:x.sq2=some ts):∃a vs,v=.ref a∧(Rd H a (.lst vs)∨H a=some (.tup vs))∧Reps G w H ts vs:=RepD.sq2 r.d e
theorem RepR.int{x:R}{v:V}{i:Int}(r:RepR G w H x v)(e:x.int?=some i):v=.int i:=by
 match x,e with
 | .val (.int j),e=>cases e;exact r
theorem RepD.int{x:R}{v:V}{i:Int}(r:RepD G w H x v)(e:x.int?=some i):v=.int i:=by
 match x,e with
 | .val (.int j),e=>cases e;exact r
end
end IP
end
section
set_option Elab.async false
set_option linter.all false
set_option maxRecDepth 100000
namespace IP
open PySem PySem.Spec L2
section
variable{G:Gx}{X:Cx}{C:Cf}{a b c:Expr}{a' b' c':E}{pos:Pos}
theorem Rd.lst{pins:List (Addr×Obj)}{σ:St}{H:Hp}{s:Shared}{p:Addr}{xs:List V}(I:Inv X pins σ H s)(h:Rd H p (.lst xs)):
  xs.length≤sizeLine∧∃(its:List Value) (n:Nat),Vals xs its∧xs.length=its.length∧s.heap.get? p=some { cls:=.type "list",data:=.seq its.toArray n }:=by
 obtain⟨z,its,n,r,e⟩:=Rd.ok h I.hok
 exact⟨z,its,n,r,r.length,e⟩
theorem sV_var{i:Nat}{x:Str}(hN:X.N[i]?=some x)(hv:Vis X.env.scope x)(hd:(x==("__debug__":Str))=false)(hcd:(x==("__classdict__":Str))=false):PE X (.Name x pos) (tV G X C (.var i)):=by
 refine PE.imp (pe_var hN hv hd hcd) ?_
 rintro σV H Q ⟨w₀,H₀,w,σ,s,g,h⟩
 obtain⟨r,e,q⟩:=Want.of h
 unfold look at e
 split at e
 ·rename_i t ht
  cases e
  obtain⟨v,h1,h2⟩:=g.fr.val i t ht
  exact⟨v,h1,q w H v (Le.refl _ _) g.sto h2⟩
 ·rename_i ts ht
  cases e
  obtain⟨p,vs,h1,h2,h3,_,_,h6⟩:=g.fr.own i _ ts ht rfl
  exact⟨_,h1,q w H _ (Le.refl _ _) g.sto ⟨p,vs,rfl,h2,h3,h6⟩⟩
 ·rename_i ts ht
  cases e
  obtain⟨p,vs,h1,h2,h3,_,h6⟩:=g.fr.bor i ts ht
  exact⟨_,h1,q w H _ (Le.refl _ _) g.sto ⟨p,vs,rfl,h2,h3,h6⟩⟩
 ·rename_i ts ht
  cases e
  obtain⟨p,vs,h1,h2,h3,_,_,h6⟩:=g.fr.own i _ ts ht rfl
  exact⟨_,h1,q w H _ (Le.refl _ _) g.sto ⟨p,vs,rfl,h2,h3,h6⟩⟩
 ·cases e
theorem tC_of{t:T}{v:V}(r:∀w H,Rep G w H t v){σV:St}{H:Hp}{Q:VK}(h:tV G X C (.cst t) σV H Q):tC v σV H Q:=by
 obtain⟨w₀,H₀,w,σ,s,g,h⟩:=h
 exact h w H v (Le.refl _ _) g.sto (r w H)
theorem sV_int{i j}:PE X (.Constant (.int i) j pos) (tV G X C (.cst (.int i))):=PE.imp pe_int fun _ _ _ h=>tC_of (t:=.int i) (v:=.int i) (fun _ _=>rfl) h
theorem sV_bl{b j}:PE X (.Constant (.bool b) j pos) (tV G X C (.cst (.bl b))):=PE.imp pe_bl fun _ _ _ h=>tC_of (t:=.bl b) (v:=.bl b) (fun _ _=>rfl) h
theorem sV_non{j}:PE X (.Constant .none j pos) (tV G X C (.cst .non)):=PE.imp pe_non fun _ _ _ h=>tC_of (t:=.non) (v:=.non) (fun _ _=>rfl) h
theorem sV_glb{x:Str}{i:Int}{t:Tok}(hg:Gl X x)(hm:X.mg x=some (.int i t))(hd:(x==("__debug__":Str))=false):PE X (.Name x pos) (tV G X C (.glb x i)):=by
 refine PE.imp (pe_glob (v:=.int i) hg hm ⟨t,rfl⟩ hd) ?_
 rintro σV H Q ⟨w₀,H₀,w,σ,s,g,h⟩
 exact h w H _ (Le.refl _ _) g.sto rfl
def r2(G:Gx)(f:R→R→Option R):R2:=fun x y H Q=>∃w s rx ry r,StoOk G w H s∧RepR G w H rx x∧RepR G w H ry y∧f rx ry=some r∧∀w' H' v,Le w w' H H'→StoOk G w' H' s→RepR G w' H' r v→Q v H'
theorem t2_of{f:R→R→Option R}{σV:St}{H:Hp}{Q:VK}(h:∃w₀ H₀ w σ s,Good G w₀ H₀ w H σ s σV∧Want G X σV w H ((ev C a' .v σ s).bind fun x s1=>(ev C b' .v σ s1).bind fun y s2=>.of (f x y) s2) Q):
  tOp (r2 G f) (tV G X C a') (tV G X C b') σV H Q:=by
 obtain⟨w₀,H₀,w,σ,s,g,h⟩:=h
 refine⟨w₀,H₀,w,σ,s,g,(Want.bind h).imp ?_⟩
 rintro x H1 ⟨w1,r1,s1,L1,S1,R1,h1⟩
 refine⟨w₀,H₀,w1,σ,s1,g.step L1 S1,(Want.bind h1).imp ?_⟩
 rintro y H2 ⟨w2,r2,s2,L2,S2,R2,h2⟩
 obtain⟨r,e,q⟩:=Want.of h2
 exact⟨w2,s2,r1,r2,r,S2,R1.mono L2 S1,R2,e,q⟩
theorem s2{f:R→R→Option R}{op:Operator}(ho:OpR X (binaryOp op) (r2 G f))(ha:PE X a (tV G X C a'))(hb:PE X b (tV G X C b')){e:E}(he:∀σ s,ev C e .v σ s=(ev C a' .v σ s).bind fun x s1=>(ev C b' .v σ s1).bind fun y s2=>.of (f x y) s2):
  PE X (.BinOp a op b pos) (tV G X C e):=by
 refine PE.imp (pe_op ho ha hb) fun σV H Q h=>?_
 obtain⟨w₀,H₀,w,σ,s,g,h⟩:=h
 rw[he]at h
 exact t2_of ⟨w₀,H₀,w,σ,s,g,h⟩
theorem s2c{f:R→R→Option R}{op:CmpOp}(ho:OpR X (compareOp op) (r2 G f))(ha:PE X a (tV G X C a'))(hb:PE X b (tV G X C b'))(hm:behindInMarks op b=false){e:E}(he:∀σ s,ev C e .v σ s=(ev C a' .v σ s).bind fun x s1=>(ev C b' .v σ s1).bind fun y s2=>.of (f x y) s2):
  PE X (.Compare a [op] [b] pos) (tV G X C e):=by
 refine PE.imp (pe_cmpR ho ha hb hm) fun σV H Q h=>?_
 obtain⟨w₀,H₀,w,σ,s,g,h⟩:=h
 rw[he]at h
 exact t2_of ⟨w₀,H₀,w,σ,s,g,h⟩
theorem zadv{j:Int}(h:j.natAbs<big):j.natAbs.log2<1000:=by
 rcases Nat.eq_zero_or_pos j.natAbs with h0|hp
 ·rw[h0];decide
 ·refine(Nat.log2_lt (Nat.ne_of_gt hp)).mpr (Nat.lt_trans h ?_)
  unfold big
  decide +kernel
theorem zagr{k:Int}(h:k.natAbs<big):Builtin.Int.intBits k≤1000:=by
 unfold Builtin.Int.intBits
 split
 ·exact Nat.zero_le _
 ·have:=zadv h
  omega
theorem mulB_ok{i j:Int}(h:mulB i j=true):IntMulOk i j:=by
 unfold mulB at h
 rw[Bool.or_eq_true,Bool.or_eq_true,Bool.and_eq_true,decide_eq_true_iff,decide_eq_true_iff,decide_eq_true_iff,decide_eq_true_iff]at h
 rcases h with(h|h)|⟨h1,h2⟩
 ·exact IntMulOk.of_left (intBits_le_64 (by omega) (by omega))
 ·exact IntMulOk.of_right (intBits_le_64 (by omega) (by omega))
 ·exact PyProof.Rows.mulOk_of_bits (zagr h1) (zagr h2) (by decide)
def opOf:Op→Operator
 | .add=>.Add | .sub=>.Sub | .mul=>.Mult | .fdiv=>.FloorDiv | .mod=>.Mod | .pow=>.Pow
theorem int_op(o:Op)(i j k:Int)(h:opI o i j=some k):∀(t u:Tok) (s:Shared) (Q:Value→Shared→Prop) (E:Value→Shared→Prop),Q (.int k s.toks) { s with toks:=s.toks+1 }→wpAny (model X.prog X.w) X.A (binaryOp (opOf o) (.int i t) (.int j u)) Q E s:=by
 intro t u s Q E q
 cases o with
 | add=>cases h;exact PyProof.Rows.add_int q
 | sub=>cases h;exact PyProof.Rows.sub_int q
 | mul=>
  simp only[opI]at h
  split at h
  ·rename_i hm;cases h;exact PyProof.Rows.mul_int q (mulB_ok hm)
  ·cases h
 | fdiv=>
  simp only[opI]at h
  split at h
  ·rename_i hm;cases h;exact PyProof.Rows.floordiv_int hm.1 q (Or.inl (PyProof.noPylong_of_log2 (Nat.lt_trans (zadv hm.2) (by decide))))
  ·cases h
 | mod=>
  simp only[opI]at h
  split at h
  ·rename_i hm;cases h;exact PyProof.Rows.mod_int hm q
  ·cases h
 | pow=>
  simp only[opI]at h
  split at h
  ·rename_i hm
   cases h
   refine PyProof.Rows.pow_int hm.1 ?_ q
   have h1:=zagr hm.2.2
   have h2:((Builtin.Int.intBits i:Nat):Int)*j≤1000*100:=by
    refine Int.mul_le_mul (by omega) hm.2.1 hm.1 (by omega)
   omega
  ·cases h
theorem op_ok(o:Op):OpR X (binaryOp (opOf o)) (r2 G (opR o)):=by
 intro pins s σ H x y v u Q I rx ry h
 obtain⟨w,st,x',y',r,S,Rx,Ry,e,q⟩:=h
 have intc:∀i j k,x'=.val (.int i)→y'=.val (.int j)→opI o i j=some k→r=.val (.int k)→wpAny (model X.prog X.w) X.A (binaryOp (opOf o) v u) (EP X pins σ Q) X.xe s:=by
  rintro i j k rfl rfl ho rfl
  have hx:x=.int i:=Rx
  have hy:y=.int j:=Ry
  subst hx hy
  obtain⟨t,rfl⟩:=rx
  obtain⟨t2,rfl⟩:=ry
  exact int_op o i j k ho t t2 s _ _ ⟨.int k,H,I.tok _,⟨_,rfl⟩,q w H _ (Le.refl _ _) S rfl⟩
 have lstc:∀xs ys,x'.seq=some xs→y'.seq=some ys→o=.add→xs.length+ys.length≤lim→r=.val (.lst (xs++ys))→wpAny (model X.prog X.w) X.A (binaryOp (opOf o) v u) (EP X pins σ Q) X.xe s:=by
  rintro xs ys e1 e2 rfl hl rfl
  obtain⟨p,vs,rfl,hp,r1⟩:=RepR.seq (s:=st) Rx e1
  obtain⟨p2,vs2,rfl,hp2,r2⟩:=RepR.seq (s:=st) Ry e2
  cases rx
  cases ry
  obtain⟨z,its,n,q1,l1,g1⟩:=Rd.lst I hp
  obtain⟨z2,its2,n2,q2,l2,g2⟩:=Rd.lst I hp2
  have hz:its.length+its2.length≤sizeLine:=by
   rw[←l1,←l2,←r1.length,←r2.length]
   have:lim≤sizeLine:=by decide
   omega
  refine PySem.P.add_list g1 g2 ?_ (by rw[List.size_toArray,List.size_toArray];exact hz)
  have ea:its.toArray++its2.toArray=(its++its2).toArray:=by simp
  rw[ea]
  exact⟨.ref _,_,I.lnew (t':=s.toks) (q1.append q2) (by rw[List.length_append,l1,l2];exact hz),rfl,zac1 S (r1.append r2) q _ I.fresh⟩
 unfold opR at e
 split at e
 ·rename_i i j
  cases ho:opI o i j with
  | none=>rw[ho]at e;cases e
  | some k=>rw[ho]at e;cases e;exact intc i j k rfl rfl ho rfl
 ·rename_i xs ys
  split at e
  ·rename_i hc
   cases e
   obtain⟨p,vs,rfl,hp,r1⟩:=Rx
   obtain⟨p2,vs2,rfl,hp2,r2⟩:=Ry
   have n1:vs≠[]:=by
    intro z;subst z
    exact hc.1 (List.length_eq_zero_iff.mp r1.length)
   have n2:vs2≠[]:=by
    intro z;subst z
    exact hc.2.1 (List.length_eq_zero_iff.mp r2.length)
   refine op_catT pins s σ H _ _ v u Q I rx ry ⟨p,p2,vs,vs2,rfl,rfl,SqT.of hp,SqT.of hp2,n1,?_,fun z=>absurd z n2,fun _=>zaep S (r1.append r2) q⟩
   rw[←r1.length,←r2.length]
   have:lim≤sizeLine:=by decide
   omega
  ·cases e
 ·split at e
  ·rename_i xs ys e1 e2
   split at e
   ·rename_i hl
    cases e
    exact lstc xs ys e1 e2 rfl hl rfl
   ·cases e
  ·cases e
 ·cases e
theorem sV_bin(o:Op)(ha:PE X a (tV G X C a'))(hb:PE X b (tV G X C b')):PE X (.BinOp a (opOf o) b pos) (tV G X C (.bin o a' b')):=s2 (op_ok o) ha hb fun _ _=>rfl
end
end IP
end
section
set_option Elab.async false
set_option linter.all false
set_option maxRecDepth 100000
namespace IP
open PySem PySem.Spec L2 PySem.SeqAt
section
variable{G:Gx}{X:Cx}{pins:List (Addr×Obj)}{σ:St}{H:Hp}{s:Shared}{w:Wo}{st:Sto}
theorem zabg{a:Addr}{vs:List V}(I:Inv X pins σ H s)(h:H a=some (.tup vs)):∃its:List Value,Vals vs its∧s.heap.IsTuple a its.toArray:=by
 obtain⟨its,r,q,_⟩:=I.tuple (SqT.of (K:=X.K) h)
 exact⟨its,r,q⟩
theorem zaa8{a:Addr}{vs:List V}(I:Inv X pins σ H s)(h:Rd H a (.lst vs)):∃its:List Value,Vals vs its∧s.heap.IsList a its.toArray:=by
 obtain⟨_,its,n,r,_,e⟩:=Rd.lst I h
 exact⟨its,r,_,e,rfl,n,rfl⟩
theorem zael{f:T→T→Option Bool}:∀(ts us:List T) (vs:List V),(∀t u v k,Rep G w H t v→Rep G w H u v→f t u=some k→k=true)→Reps G w H ts vs→Reps G w H us vs→∀k,eqL f ts us=some k→k=true
 | [],[],_,_,_,_,k,h=>by cases h;rfl
 | [],_::_,_,_,h1,h2,k,h=>by
  obtain⟨v,r,e,_⟩:=h2
  rw[h1]at e
  cases e
 | _::_,[],_,_,h1,h2,k,h=>by
  obtain⟨v,r,e,_⟩:=h1
  rw[h2]at e
  cases e
 | t::ts,u::us,_,hf,⟨v,r,e,h1,h2⟩,⟨v',r',e',h1',h2'⟩,k,h=>by
  subst e
  cases e'
  unfold eqL at h
  split at h
  ·rename_i k1 k2 q1 q2
   cases h
   rw[hf t u v k1 h1 h1' q1,zael ts us r hf h2 h2' k2 q2]
   rfl
  ·cases h
theorem zac5:∀(n:Nat) (t u:T) (v:V) (k:Bool),Rep G w H t v→Rep G w H u v→eqD n t u=some k→k=true
 | n,.non,u,v,k,h1,h2,h=>by
  cases h1
  cases u<;>simp only[Rep]at h2<;>first|(cases h2;done)|(simp[eqD]at h;exact h)|(obtain⟨a,vs,e,_⟩:=h2;cases e)|(obtain⟨e,e2⟩:=h2;cases e2;done)|(obtain⟨e,e2,_⟩:=h2;cases e2)
 | n,.bl b,u,v,k,h1,h2,h=>by
  cases h1
  cases u<;>simp only[Rep]at h2<;>first|(cases h2;done)|(cases h2;simp[eqD]at h;exact h)|(obtain⟨a,vs,e,_⟩:=h2;cases e)|(obtain⟨e,e2⟩:=h2;cases e2;done)|(obtain⟨e,e2,_⟩:=h2;cases e2)
 | n,.int i,u,v,k,h1,h2,h=>by
  cases h1
  cases u<;>simp only[Rep]at h2<;>first|(cases h2;done)|(cases h2;simp[eqD]at h;exact h)|(obtain⟨a,vs,e,_⟩:=h2;cases e)|(obtain⟨e,e2⟩:=h2;cases e2;done)|(obtain⟨e,e2,_⟩:=h2;cases e2)
 | n,.str x,u,v,k,h1,h2,h=>by
  cases h1
  cases u<;>simp only[Rep]at h2<;>first|(cases h2;done)|(cases h2;simp[eqD]at h;exact h)|(obtain⟨a,vs,e,_⟩:=h2;cases e)|(obtain⟨e,e2⟩:=h2;cases e2;done)|(obtain⟨e,e2,_⟩:=h2;cases e2)
 | 0,.tup ts,u,v,k,h1,h2,h=>by cases u<;>simp[eqD]at h
 | n+1,.tup ts,u,v,k,h1,h2,h=>by
  obtain⟨a,vs,e,q,r⟩:=h1
  subst e
  cases u with
  | tup us=>
   obtain⟨a',vs',e',q',r'⟩:=h2
   cases e'
   rw[q]at q'
   cases q'
   simp only[eqD]at h
   exact zael ts us vs (fun t u v k=>zac5 n t u v k) r r' k h
  | non=>cases h2
  | _=>simp[eqD]at h
 | 0,.lst ts,u,v,k,h1,h2,h=>by cases u<;>simp[eqD]at h
 | n+1,.lst ts,u,v,k,h1,h2,h=>by
  obtain⟨a,vs,e,z,q,r⟩:=h1
  subst e
  cases u with
  | lst us=>
   obtain⟨a',vs',e',z',q',r'⟩:=h2
   cases e'
   have ev:vs=vs':=by
    rcases q with q|⟨o,q⟩<;>rcases q' with q'|⟨o',q'⟩<;>(rw[q]at q';cases q';try rfl)
   subst ev
   simp only[eqD]at h
   exact zael ts us vs (fun t u v k=>zac5 n t u v k) r r' k h
  | _=>simp[eqD]at h
 | n,.loc l,u,v,k,h1,h2,h=>by cases u<;>simp[eqD]at h
 | n,.exc c,u,v,k,h1,h2,h=>by cases u<;>simp[eqD]at h
theorem zadn{f:T→T→Option Bool}:∀(ts us:List T) (k:Bool),eqL f ts us=some k→∃e:Nat→Bool,(∀(j:Nat) t u,ts[j]?=some t→us[j]?=some u→f t u=some (e j))∧k=((List.range (min ts.length us.length)).all e&&ts.length==us.length)
 | [],[],k,h=>by cases h;exact⟨fun _=>true,fun j t u z=>by simp at z,rfl⟩
 | [],u::us,k,h=>by cases h;exact⟨fun _=>true,fun j t u z=>by simp at z,by simp⟩
 | t::ts,[],k,h=>by cases h;exact⟨fun _=>true,fun j t u _ z=>by simp at z,by simp⟩
 | t::ts,u::us,k,h=>by
  unfold eqL at h
  split at h
  ·rename_i k1 k2 q1 q2
   cases h
   obtain⟨e,h1,h2⟩:=zadn ts us k2 q2
   refine⟨fun j=>match j with | 0=>k1|j+1=>e j,fun j t' u' z1 z2=>?_,?_⟩
   ·cases j with
    | zero=>simp at z1 z2;subst z1 z2;exact q1
    | succ j=>simp at z1 z2;exact h1 j t' u' z1 z2
   ·rw[h2]
    have em:min (t::ts).length (u::us).length=min ts.length us.length+1:=by simp[Nat.succ_min_succ]
    rw[em,List.range_succ_eq_map,List.all_cons,List.all_map]
    have el:((t::ts).length==(u::us).length)=(ts.length==us.length):=by simp
    rw[el,Bool.and_assoc]
    rfl
  ·cases h
theorem zaee{vs:List V}{its:List Value}(r:Vals vs its){j:Nat}{u:Value}(e:its[j]?=some u):∃v,vs[j]?=some v∧RelV v u:=by
 have hj:j<vs.length:=by rw[r.length];exact(List.getElem?_eq_some_iff.mp e).1
 obtain⟨u',h1,h2⟩:=r.get (List.getElem?_eq_getElem hj)
 rw[e]at h1
 cases h1
 exact⟨_,List.getElem?_eq_getElem hj,h2⟩
variable{A:Around}
theorem zabw{n:Nat}{ts us:List T}{vs vs':List V}{its its':List Value}{e:Nat→Bool}(r:Reps G w H ts vs)(r':Reps G w H us vs')(q:Vals vs its)(q':Vals vs' its')
  (he:∀(j:Nat) t u,ts[j]?=some t→us[j]?=some u→eqD n t u=some (e j))
  (ih:∀(t u:T) (v v':V) (x y:Value) (k:Bool),Rep G w H t v→Rep G w H u v'→RelV v x→RelV v' y→eqD n t u=some k→EqAt A s x y k):
  ∀j (h1:j<its.toArray.size) (h2:j<its'.toArray.size),EqAt A s its.toArray[j] its'.toArray[j] (e j):=by
 intro j h1 h2
 have h1':j<its.length:=by simpa using h1
 have h2':j<its'.length:=by simpa using h2
 obtain⟨v,e1,rv⟩:=zaee q (List.getElem?_eq_getElem h1')
 obtain⟨v',e2,rv'⟩:=zaee q' (List.getElem?_eq_getElem h2')
 obtain⟨t,e3,rt⟩:=r.get' e1
 obtain⟨u,e4,ru⟩:=r'.get' e2
 have:=ih t u v v' its[j] its'[j] (e j) rt ru rv rv' (he j t u e3 e4)
 simpa using this
theorem eqAt_T(I:Inv X pins σ H s):∀(n:Nat) (A:Around),A.units+n<cLine→∀(t u:T) (v v':V) (x y:Value) (k:Bool),Rep G w H t v→Rep G w H u v'→RelV v x→RelV v' y→eqD n t u=some k→EqAt A s x y k:=by
 intro n
 induction n with
 | zero=>
  intro A hu t u v v' x y k h1 h2 r1 r2 h
  cases t<;>cases u<;>simp only[eqD]at h<;>first|(cases h;done)|skip
  ·cases h;cases h1;cases h2;cases r1;cases r2;exact EqAt.same _
  ·cases h;cases h1;cases h2;cases r1;obtain⟨_,rfl⟩:=r2;exact EqAt.none_int _ _
  ·cases h;cases h1;cases h2;cases r1;cases r2;exact EqAt.bool_bool _ _
  ·cases h;cases h1;cases h2;obtain⟨_,rfl⟩:=r1;cases r2;exact EqAt.int_none _ _
  ·cases h;cases h1;cases h2;obtain⟨_,rfl⟩:=r1;obtain⟨_,rfl⟩:=r2;exact EqAt.int_int _ _ _ _
  ·cases h;cases h1;cases h2;obtain⟨_,rfl⟩:=r1;obtain⟨_,rfl⟩:=r2;exact EqAt.str_str _ _ _ _
 | succ n ih=>
  intro A hu t u v v' x y k h1 h2 r1 r2 h
  have hu0:A.units<cLine:=by omega
  have hin:A.in1.units+n<cLine:=by show A.units+1+n<cLine;omega
  cases t<;>cases u<;>simp only[eqD]at h<;>first|(cases h;done)|skip
  ·cases h;cases h1;cases h2;cases r1;cases r2;exact EqAt.same _
  ·cases h;cases h1;cases h2;cases r1;obtain⟨_,rfl⟩:=r2;exact EqAt.none_int _ _
  ·cases h
   obtain⟨a,vs,e,q,_⟩:=h2
   subst e
   cases h1;cases r1;cases r2
   obtain⟨its,_,hi⟩:=zabg I q
   exact EqAt.none_tuple hi hu0
  ·cases h;cases h1;cases h2;cases r1;cases r2;exact EqAt.bool_bool _ _
  ·cases h;cases h1;cases h2;obtain⟨_,rfl⟩:=r1;cases r2;exact EqAt.int_none _ _
  ·cases h;cases h1;cases h2;obtain⟨_,rfl⟩:=r1;obtain⟨_,rfl⟩:=r2;exact EqAt.int_int _ _ _ _
  ·cases h;cases h1;cases h2;obtain⟨_,rfl⟩:=r1;obtain⟨_,rfl⟩:=r2;exact EqAt.str_str _ _ _ _
  ·cases h
   obtain⟨a,vs,e,q,_⟩:=h1
   subst e
   cases h2;cases r1;cases r2
   obtain⟨its,_,hi⟩:=zabg I q
   exact EqAt.tuple_none hi hu0
  ·rename_i ts us
   have hs:=zac5 (G:=G) (w:=w) (H:=H) (n+1) (.tup ts) (.tup us)
   have h1':=h1
   have h2':=h2
   obtain⟨a,vs,e,q,r⟩:=h1
   obtain⟨a',vs',e',q',r'⟩:=h2
   subst e e'
   cases r1;cases r2
   by_cases ea:a=a'
   ·subst ea
    have hk:k=true:=hs (.ref a) k h1' h2' (by simp only[eqD];exact h)
    subst hk
    exact EqAt.same _
   ·obtain⟨its,q1,hi⟩:=zabg I q
    obtain⟨its',q1',hi'⟩:=zabg I q'
    obtain⟨e,he,hk⟩:=zadn ts us k h
    have hz:=RcAt.tuples hi hi' hu0 (zabw r r' q1 q1' he (ih A.in1 hin))
    rw[List.size_toArray,List.size_toArray,←q1.length,←q1'.length,←r.length,←r'.length,←hk]at hz
    exact EqAt.of_refs ea hz
  ·rename_i ts us
   have hs:=zac5 (G:=G) (w:=w) (H:=H) (n+1) (.lst ts) (.lst us)
   have h1':=h1
   have h2':=h2
   obtain⟨a,vs,e,_,q,r⟩:=h1
   obtain⟨a',vs',e',_,q',r'⟩:=h2
   subst e e'
   cases r1;cases r2
   by_cases ea:a=a'
   ·subst ea
    have hk:k=true:=hs (.ref a) k h1' h2' (by simp only[eqD];exact h)
    subst hk
    exact EqAt.same _
   ·obtain⟨its,q1,hi⟩:=zaa8 I q
    obtain⟨its',q1',hi'⟩:=zaa8 I q'
    obtain⟨e,he,hk⟩:=zadn ts us k h
    have l1:its.toArray.size=ts.length:=by rw[List.size_toArray,←q1.length,←r.length]
    have l2:its'.toArray.size=us.length:=by rw[List.size_toArray,←q1'.length,←r'.length]
    by_cases el:ts.length=us.length
    ·have hz:=RcAt.lists hi hi' (by rw[l1,l2,el]) hu0 (zabw r r' q1 q1' he (ih A.in1 hin))
     rw[l1]at hz
     rw[el,Nat.min_self]at hk
     have:k=(List.range us.length).all e:=by rw[hk];simp
     rw[el,←this]at hz
     exact EqAt.of_refs ea hz
    ·have hz:=RcAt.lists_lengths hi hi' (by rw[l1,l2];simpa using el) hu0
     have:k=false:=by rw[hk];simp[el]
     rw[this]
     exact EqAt.of_refs ea hz
end
end IP
end
section
set_option Elab.async false
set_option linter.all false
set_option maxRecDepth 100000
namespace IP
open PySem PySem.Spec L2 PySem.SeqAt
section
variable{G:Gx}{X:Cx}{pins:List (Addr×Obj)}{σ:St}{H:Hp}{s:Shared}{w:Wo}{st:Sto}{A:Around}
theorem zac7(I:Inv X pins σ H s)(hu:A.units+8<cLine){a b:Addr}{vs vs':List V}{ts us:List T}{k:Bool}(q:Rd H a (.lst vs))(q':Rd H b (.lst vs'))(r:Reps G w H ts vs)(r':Reps G w H us vs')(h:eqL (eqD 7) ts us=some k):
  RcAt A s (.ref a) (.ref b) k∧RcNeAt A s (.ref a) (.ref b) (!k):=by
 have hu0:A.units<cLine:=by omega
 have hin:A.in1.units+7<cLine:=by show A.units+1+7<cLine;omega
 obtain⟨its,q1,hi⟩:=zaa8 I q
 obtain⟨its',q1',hi'⟩:=zaa8 I q'
 obtain⟨e,he,hk⟩:=zadn ts us k h
 have l1:its.toArray.size=ts.length:=by rw[List.size_toArray,←q1.length,←r.length]
 have l2:its'.toArray.size=us.length:=by rw[List.size_toArray,←q1'.length,←r'.length]
 have hp:=zabw (s:=s) (A:=A.in1) r r' q1 q1' he (eqAt_T I 7 A.in1 hin)
 by_cases el:ts.length=us.length
 ·have hz:=RcAt.lists hi hi' (by rw[l1,l2,el]) hu0 hp
  have hy:=RcNeAt.lists hi hi' (by rw[l1,l2,el]) hu0 hp
  rw[el,Nat.min_self]at hk
  have:k=(List.range us.length).all e:=by rw[hk];simp
  rw[l1,el,←this]at hz hy
  exact⟨hz,hy⟩
 ·have hz:=RcAt.lists_lengths hi hi' (by rw[l1,l2];simpa using el) hu0
  have hy:=RcNeAt.lists_lengths hi hi' (by rw[l1,l2];simpa using el) hu0
  have:k=false:=by rw[hk];simp[el]
  rw[this]
  exact⟨hz,hy⟩
theorem rc_tups(I:Inv X pins σ H s)(hu:A.units+8<cLine){a b:Addr}{vs vs':List V}{ts us:List T}{k:Bool}(q:H a=some (.tup vs))(q':H b=some (.tup vs'))(r:Reps G w H ts vs)(r':Reps G w H us vs')(h:eqL (eqD 7) ts us=some k):
  RcAt A s (.ref a) (.ref b) k∧RcNeAt A s (.ref a) (.ref b) (!k):=by
 have hu0:A.units<cLine:=by omega
 have hin:A.in1.units+7<cLine:=by show A.units+1+7<cLine;omega
 obtain⟨its,q1,hi⟩:=zabg I q
 obtain⟨its',q1',hi'⟩:=zabg I q'
 obtain⟨e,he,hk⟩:=zadn ts us k h
 have hp:=zabw (s:=s) (A:=A.in1) r r' q1 q1' he (eqAt_T I 7 A.in1 hin)
 have hz:=RcAt.tuples hi hi' hu0 hp
 have hy:=RcNeAt.tuples hi hi' hu0 hp
 rw[List.size_toArray,List.size_toArray,←q1.length,←q1'.length,←r.length,←r'.length,←hk]at hz hy
 exact⟨hz,hy⟩
theorem rc_T(I:Inv X pins σ H s)(hu:A.units+8<cLine){t u:T}{v v':V}{x y:Value}{k:Bool}(h1:Rep G w H t v)(h2:Rep G w H u v')(r1:RelV v x)(r2:RelV v' y)(h:eqD 8 t u=some k):
  RcAt A s x y k∧RcNeAt A s x y (!k):=by
 have hu0:A.units<cLine:=by omega
 cases t<;>cases u<;>simp only[eqD]at h<;>first|(cases h;done)|skip
 ·cases h;cases h1;cases h2;cases r1;cases r2;exact⟨RcAt.none_none,RcNeAt.none_none⟩
 ·cases h;cases h1;cases h2;cases r1;obtain⟨_,rfl⟩:=r2;exact⟨RcAt.none_int _ _,RcNeAt.none_int _ _⟩
 ·cases h
  obtain⟨a,vs,e,q,_⟩:=h2
  subst e
  cases h1;cases r1;cases r2
  obtain⟨its,_,hi⟩:=zabg I q
  exact⟨RcAt.none_tuple hi hu0,RcNeAt.none_tuple hi hu0⟩
 ·cases h;cases h1;cases h2;cases r1;cases r2;exact⟨RcAt.bool_bool _ _,RcNeAt.bool_bool _ _⟩
 ·cases h;cases h1;cases h2;obtain⟨_,rfl⟩:=r1;cases r2;exact⟨RcAt.int_none _ _,RcNeAt.int_none _ _⟩
 ·cases h;cases h1;cases h2;obtain⟨_,rfl⟩:=r1;obtain⟨_,rfl⟩:=r2;exact⟨RcAt.int_int _ _ _ _,RcNeAt.int_int _ _ _ _⟩
 ·cases h;cases h1;cases h2;obtain⟨_,rfl⟩:=r1;obtain⟨_,rfl⟩:=r2;exact⟨RcAt.str_str _ _ _ _,RcNeAt.str_str _ _ _ _⟩
 ·cases h
  obtain⟨a,vs,e,q,_⟩:=h1
  subst e
  cases h2;cases r1;cases r2
  obtain⟨its,_,hi⟩:=zabg I q
  exact⟨RcAt.tuple_none hi hu0,RcNeAt.tuple_none hi hu0⟩
 ·obtain⟨a,vs,e,q,r⟩:=h1
  obtain⟨a',vs',e',q',r'⟩:=h2
  subst e e'
  cases r1;cases r2
  exact rc_tups I hu q q' r r' h
 ·obtain⟨a,vs,e,_,q,r⟩:=h1
  obtain⟨a',vs',e',_,q',r'⟩:=h2
  subst e e'
  cases r1;cases r2
  exact zac7 I hu q q' r r' h
theorem rc_R(I:Inv X pins σ H s)(hu:A.units+8<cLine){t u:R}{v v':V}{x y:Value}{k:Bool}(h1:RepR G w H t v)(h2:RepR G w H u v')(r1:RelV v x)(r2:RelV v' y)(h:eqR t u=some k):
  RcAt A s x y k∧RcNeAt A s x y (!k):=by
 unfold eqR at h
 split at h
 ·exact rc_T I hu h1 h2 r1 r2 h
 ·obtain⟨a,vs,e,_,q,r⟩:=h1
  obtain⟨a',vs',e',q',r',_⟩:=h2
  subst e e'
  cases r1;cases r2
  exact zac7 I hu q (.inl q') r r' h
 ·obtain⟨a,vs,e,q,r,_⟩:=h1
  obtain⟨a',vs',e',_,q',r'⟩:=h2
  subst e e'
  cases r1;cases r2
  exact zac7 I hu (.inl q) q' r r' h
 ·obtain⟨a,vs,e,q,r,_⟩:=h1
  obtain⟨a',vs',e',q',r',_⟩:=h2
  subst e e'
  cases r1;cases r2
  exact zac7 I hu (.inl q) (.inl q') r r' h
 ·cases h
end
section
variable{G:Gx}{X:Cx}{C:Cf}{a b c:Expr}{a' b' c':E}{pos:Pos}
def cmOf:Cm→CmpOp
 | .lt=>.Lt | .le=>.LtE | .gt=>.Gt | .ge=>.GtE | .eq=>.Eq | .ne=>.NotEq | .isN=>.Is | .notN=>.IsNot | .mem=>.In | .nmem=>.NotIn
def cmpV(c:Cm)(x y:R):Option R:=(cmpR c x y).map fun k=>.val (.bl k)
theorem zab1{pins:List (Addr×Obj)}{σ:St}{H:Hp}{s:Shared}{w:Wo}{st:Sto}{Q:VK}{k:Bool}(I:Inv X pins σ H s)(S:StoOk G w H st)(q:∀w' H' v,Le w w' H H'→StoOk G w' H' st→RepR G w' H' (.val (.bl k)) v→Q v H'):EP X pins σ Q (.bool k) s:=
 ⟨.bl k,H,I,rfl,q w H _ (Le.refl _ _) S rfl⟩
theorem zae2{op:CmpOp}{f:Int→Int→Bool}{c:Cm}(hc:∀x y r,cmpV c x y=some r→∃i j,x=.val (.int i)∧y=.val (.int j)∧r=.val (.bl (f i j)))
  (ho:OpR X (compareOp op) (rI0 fun i j=>.bl (f i j))):OpR X (compareOp op) (r2 G (cmpV c)):=by
 intro pins s σ H x y v u Q I rx ry h
 obtain⟨w,st,x',y',r,S,Rx,Ry,e,q⟩:=h
 obtain⟨i,j,rfl,rfl,rfl⟩:=hc x' y' r e
 have hx:x=.int i:=Rx
 have hy:y=.int j:=Ry
 exact ho pins s σ H x y v u Q I rx ry ⟨i,j,hx,hy,q w H _ (Le.refl _ _) S rfl⟩
theorem int2{x y:R}{g:Int→Int→Bool}{r:R}(h:(do let i ←x.int?;let j ←y.int?;some (g i j)).map (fun k=>R.val (.bl k))=some r):∃i j,x=.val (.int i)∧y=.val (.int j)∧r=.val (.bl (g i j)):=by
 match x,y with
 | .val (.int i),.val (.int j)=>cases h;exact⟨i,j,rfl,rfl,rfl⟩
 | .val (.int i),.val .non=>cases h
 | .val (.int i),.val (.bl _)=>cases h
 | .val (.int i),.val (.str _)=>cases h
 | .val (.int i),.val (.tup _)=>cases h
 | .val (.int i),.val (.lst _)=>cases h
 | .val (.int i),.val (.loc _)=>cases h
 | .val (.int i),.val (.exc _)=>cases h
 | .val (.int i),.bor _=>cases h
 | .val .non,_=>cases h
 | .val (.bl _),_=>cases h
 | .val (.str _),_=>cases h
 | .val (.tup _),_=>cases h
 | .val (.lst _),_=>cases h
 | .val (.loc _),_=>cases h
 | .val (.exc _),_=>cases h
 | .bor _,_=>cases h
theorem zadt{w:Wo}{H:Hp}{x:R}{v:V}(r:RepR G w H x v):decide (v=.non)=x.isNon:=by
 match x,r with
 | .val .non,r=>cases r;rfl
 | .val (.bl _),r=>cases r;rfl
 | .val (.int _),r=>cases r;rfl
 | .val (.str _),r=>cases r;rfl
 | .val (.tup _),r=>obtain⟨_,_,e,_⟩:=r;subst e;rfl
 | .val (.lst _),r=>obtain⟨_,_,e,_⟩:=r;subst e;rfl
 | .val (.loc _),r=>obtain⟨_,e⟩:=r;subst e;rfl
 | .val (.exc _),r=>obtain⟨_,e,_⟩:=r;subst e;rfl
 | .bor _,r=>obtain⟨_,_,e,_⟩:=r;subst e;rfl
theorem zadf{w:Wo}{H:Hp}{f:T→T→Option Bool}(hf:∀t t' u v k k',Rep G w H t v→Rep G w H t' v→f t u=some k→f t' u=some k'→k=k'):
  ∀(ts ts' us:List T) (vs:List V) (k k':Bool),Reps G w H ts vs→Reps G w H ts' vs→eqL f ts us=some k→eqL f ts' us=some k'→k=k'
 | [],[],us,vs,k,k',_,_,h,h'=>by rw[h]at h';cases h';rfl
 | [],_::_,us,vs,k,k',r,r',h,h'=>by obtain⟨v,q,e,_⟩:=r';rw[r]at e;cases e
 | _::_,[],us,vs,k,k',r,r',h,h'=>by obtain⟨v,q,e,_⟩:=r;rw[r']at e;cases e
 | t::ts,t'::ts',[],vs,k,k',r,r',h,h'=>by cases h;cases h';rfl
 | t::ts,t'::ts',u::us,vs,k,k',⟨v,q,e,h1,h2⟩,⟨v',q',e',h1',h2'⟩,h,h'=>by
  subst e
  cases e'
  unfold eqL at h h'
  split at h
  ·rename_i k1 k2 z1 z2
   split at h'
   ·rename_i k3 k4 z3 z4
    cases h
    cases h'
    rw[hf t t' u v k1 k3 h1 h1' z1 z3,zadf hf ts ts' us q k2 k4 h2 h2' z2 z4]
   ·cases h'
  ·cases h
theorem zaeo{w:Wo}{H:Hp}:∀(n:Nat) (t t' u:T) (v:V) (k k':Bool),Rep G w H t v→Rep G w H t' v→eqD n t u=some k→eqD n t' u=some k'→k=k':=by
 intro n
 induction n with
 | zero=>
  intro t t' u v k k' h1 h2 e1 e2
  cases t<;>cases t'<;>first
   | (cases h1;cases h2;rw[e1]at e2;cases e2;rfl)
   | (cases u<;>simp[eqD]at e1;done)
   | (cases u<;>simp[eqD]at e2;done)
   | (cases h1;cases h2;done)
 | succ n ih=>
  intro t t' u v k k' h1 h2 e1 e2
  cases t<;>cases t'<;>first
   | (cases h1;cases h2;rw[e1]at e2;cases e2;rfl)
   | (cases h1;cases h2;done)
   | (cases u<;>simp[eqD]at e1;done)
   | (cases u<;>simp[eqD]at e2;done)
   | (cases h1;obtain⟨_,_,z,_⟩:=h2;cases z;done)
   | (cases h2;obtain⟨_,_,z,_⟩:=h1;cases z;done)
   | skip
  ·rename_i ts ts'
   obtain⟨a,vs,e,q,r⟩:=h1
   obtain⟨a',vs',e',q',r'⟩:=h2
   subst e
   cases e'
   rw[q]at q'
   cases q'
   cases u<;>simp only[eqD]at e1 e2<;>first|(cases e1;done)|(cases e1;cases e2;rfl)|exact zadf (ih ·  ·  ·  ·  ·  ·) ts ts' _ vs k k' r r' e1 e2
  ·obtain⟨a,vs,e,q,r⟩:=h1
   obtain⟨a',vs',e',_,q',r'⟩:=h2
   subst e
   cases e'
   rcases q' with q'|⟨_,q'⟩<;>(rw[q]at q';cases q')
  ·obtain⟨a,vs,e,_,q,r⟩:=h1
   obtain⟨a',vs',e',q',r'⟩:=h2
   subst e
   cases e'
   rcases q with q|⟨_,q⟩<;>(rw[q]at q';cases q')
  ·rename_i ts ts'
   obtain⟨a,vs,e,_,q,r⟩:=h1
   obtain⟨a',vs',e',_,q',r'⟩:=h2
   subst e
   cases e'
   have ev:vs=vs':=by
    rcases q with q|⟨o,q⟩<;>rcases q' with q'|⟨o',q'⟩<;>(rw[q]at q';cases q';try rfl)
   subst ev
   cases u<;>simp only[eqD]at e1 e2<;>first|(cases e1;done)|(cases e1;cases e2;rfl)|exact zadf (ih ·  ·  ·  ·  ·  ·) ts ts' _ vs k k' r r' e1 e2
theorem zagc{x:T}:∀(ts:List T) (k:Bool),memT x ts=some k→(∀t∈ts,∃j,eqD 8 t x=some j)∧(k=true↔∃t∈ts,eqD 8 t x=some true)
 | [],k,h=>by cases h;exact⟨fun t z=>by simp at z,by simp⟩
 | t::ts,k,h=>by
  unfold memT at h
  split at h
  ·rename_i k1 k2 z1 z2
   cases h
   obtain⟨h1,h2⟩:=zagc ts k2 z2
   refine⟨fun u hu=>?_,?_⟩
   ·rcases List.mem_cons.mp hu with rfl|hu
    ·exact⟨k1,z1⟩
    ·exact h1 u hu
   ·constructor
    ·intro q
     rcases(Bool.or_eq_true _ _).mp q with q|q
     ·subst q;exact⟨t,List.mem_cons_self ..,z1⟩
     ·obtain⟨u,hu,e⟩:=h2.mp q
      exact⟨u,List.mem_cons_of_mem _ hu,e⟩
    ·rintro⟨u,hu,e⟩
     rcases List.mem_cons.mp hu with rfl|hu
     ·have:some k1=some true:=z1.symm.trans e
      cases this
      rfl
     ·rw[h2.mpr ⟨u,hu,e⟩,Bool.or_true]
  ·cases h
theorem zahb{vs:List V}{its:List Value}(r:Vals vs its){u:Value}(h:u∈its):∃v∈vs,RelV v u:=by
 obtain⟨j,hj,e⟩:=List.mem_iff_getElem.mp h
 obtain⟨v,h1,h2⟩:=zaee r (List.getElem?_eq_some_iff.mpr ⟨hj,e⟩)
 exact⟨v,List.mem_of_getElem? h1,h2⟩
theorem zag3{w:Wo}{H:Hp}{ts:List T}{vs:List V}(r:Reps G w H ts vs){v:V}(h:v∈vs):∃t∈ts,Rep G w H t v:=by
 obtain⟨j,hj,e⟩:=List.mem_iff_getElem.mp h
 obtain⟨t,h1,h2⟩:=r.get' (List.getElem?_eq_some_iff.mpr ⟨hj,e⟩)
 exact⟨t,List.mem_of_getElem? h1,h2⟩
theorem mem_reps{w:Wo}{H:Hp}{ts:List T}{vs:List V}(r:Reps G w H ts vs){t:T}(h:t∈ts):∃v∈vs,Rep G w H t v:=by
 obtain⟨j,hj,e⟩:=List.mem_iff_getElem.mp h
 obtain⟨t,h1,h2⟩:=r.get (List.getElem?_eq_some_iff.mpr ⟨hj,e⟩)
 exact⟨t,List.mem_of_getElem? h1,h2⟩
theorem mem_vals{vs:List V}{its:List Value}(r:Vals vs its){v:V}(h:v∈vs):∃u∈its,RelV v u:=by
 obtain⟨j,hj,e⟩:=List.mem_iff_getElem.mp h
 obtain⟨u,h1,h2⟩:=r.get (List.getElem?_eq_some_iff.mpr ⟨hj,e⟩)
 exact⟨u,List.mem_of_getElem? h1,h2⟩
open Classical in
theorem zaeq{pins:List (Addr×Obj)}{σ:St}{H:Hp}{s:Shared}{w:Wo}{A:Around}(I:Inv X pins σ H s)(hu:A.units+8<cLine){tx:T}{vx:V}{x:Value}{ts:List T}{vs:List V}{its:List Value}{k:Bool}
  (Rx:Rep G w H tx vx) (rx:RelV vx x) (r:Reps G w H ts vs) (q:Vals vs its) (h:memT tx ts=some k):∃e:Value→Bool,(∀y,y∈its.toArray→EqAt A s y x (e y))∧its.toArray.any e=k:=by
 obtain⟨h1,h2⟩:=zagc ts k h
 refine⟨fun u=>decide (∃v t,RelV v u∧Rep G w H t v∧eqD 8 t tx=some true),fun y hy=>?_,?_⟩
 ·have hy':y∈its:=by simpa using hy
  obtain⟨v,hv,rv⟩:=zahb q hy'
  obtain⟨t,ht,rt⟩:=zag3 r hv
  obtain⟨j,hj⟩:=h1 t ht
  have z:=eqAt_T I 8 A hu t tx v vx y x j rt Rx rv rx hj
  have ej:decide (∃v t,RelV v y∧Rep G w H t v∧eqD 8 t tx=some true)=j:=by
   cases j with
   | true=>exact decide_eq_true ⟨v,t,rv,rt,hj⟩
   | false=>
    refine decide_eq_false ?_
    rintro⟨v',t',rv',rt',e'⟩
    cases rv.inj rv'
    exact Bool.noConfusion (zaeo 8 t t' tx v false true rt rt' hj e')
  dsimp only
  rw[ej]
  exact z
 ·rw[Bool.eq_iff_iff,h2,List.any_toArray,List.any_eq_true]
  constructor
  ·rintro⟨u,hu',e⟩
   obtain⟨v,t,rv,rt,e⟩:=of_decide_eq_true e
   obtain⟨v',hv',rv'⟩:=zahb q hu'
   cases rv.inj rv'
   obtain⟨t',ht',rt'⟩:=zag3 r hv'
   obtain⟨j,hj⟩:=h1 t' ht'
   have:=zaeo 8 t t' tx v true j rt rt' e hj
   subst this
   exact⟨t',ht',hj⟩
  ·rintro⟨t,ht,e⟩
   obtain⟨v,hv,rt⟩:=mem_reps r ht
   obtain⟨u,hu',rv⟩:=mem_vals q hv
   exact⟨u,hu',decide_eq_true ⟨v,t,rv,rt,e⟩⟩
theorem cmp_ok(hu:X.A.units+9<cLine)(c:Cm):OpR X (compareOp (cmOf c)) (r2 G (cmpV c)):=by
 cases c with
 | lt=>exact zae2 (fun x y r h=>int2 h) op_lt
 | le=>exact zae2 (fun x y r h=>int2 h) op_le
 | gt=>exact zae2 (fun x y r h=>int2 h) op_gt
 | ge=>exact zae2 (fun x y r h=>int2 h) op_ge
 | eq=>
  intro pins s σ H x y v u Q I rx ry h
  obtain⟨w,st,x',y',r,S,Rx,Ry,e,q⟩:=h
  unfold cmpV cmpR at e
  cases he:eqR x' y' with
  | none=>simp[he]at e
  | some k=>
   simp only[he,Option.map_some,Option.some.injEq]at e
   subst e
   exact(rc_R I (by omega) Rx Ry rx ry he).1 _ _ _ _ (zab1 I S q)
 | ne=>
  intro pins s σ H x y v u Q I rx ry h
  obtain⟨w,st,x',y',r,S,Rx,Ry,e,q⟩:=h
  unfold cmpV cmpR at e
  cases he:eqR x' y' with
  | none=>simp[he]at e
  | some k=>
   simp only[he,Option.map_some,Option.some.injEq]at e
   subst e
   exact(rc_R I (by omega) Rx Ry rx ry he).2 _ _ _ _ (zab1 I S q)
 | isN=>
  intro pins s σ H x y v u Q I rx ry h
  obtain⟨w,st,x',y',r,S,Rx,Ry,e,q⟩:=h
  unfold cmpV cmpR at e
  dsimp only at e
  split at e
  ·have hy:y=.non:=Ry
   refine op_isN pins s σ H x y v u Q I rx ry ⟨hy,?_⟩
   rw[zadt Rx]
   cases e
   exact q w H _ (Le.refl _ _) S rfl
  ·cases e
 | notN=>
  intro pins s σ H x y v u Q I rx ry h
  obtain⟨w,st,x',y',r,S,Rx,Ry,e,q⟩:=h
  unfold cmpV cmpR at e
  dsimp only at e
  split at e
  ·have hy:y=.non:=Ry
   refine op_notN pins s σ H x y v u Q I rx ry ⟨hy,?_⟩
   rw[zadt Rx]
   cases e
   exact q w H _ (Le.refl _ _) S rfl
  ·cases e
 | mem=>
  intro pins s σ H x y v u Q I rx ry h
  obtain⟨w,st,x',y',r,S,Rx,Ry,e,q⟩:=h
  unfold cmpV cmpR at e
  dsimp only at e
  cases hx:x'.val? with
  | none=>simp[hx]at e
  | some tx=>
   cases hy:y'.sq2 with
   | none=>simp[hx,hy]at e
   | some ts=>
    cases hm:memT tx ts with
    | none=>simp[hx,hy,hm]at e
    | some k=>
     simp[hx,hy,hm]at e
     subst e
     have Rx':Rep G w H tx x:=by
      cases x' with
      | val t=>cases hx;exact Rx
      | bor t=>cases hx
     obtain⟨p,vs,rfl,hp,rp⟩:=RepR.sq2 Ry hy
     cases ry
     rcases hp with hp|hp
     ·obtain⟨its,r1,hi⟩:=zaa8 I hp
      obtain⟨e,h1,h2⟩:=zaeq (A:=X.A.in1) I (by show X.A.units+1+8<cLine;omega) Rx' rx rp r1 hm
      exact in_listAt e hi h1 (by rw[h2];exact zab1 I S q)
     ·obtain⟨its,r1,hi⟩:=zabg I hp
      obtain⟨e,h1,h2⟩:=zaeq (A:=X.A.in1) I (by show X.A.units+1+8<cLine;omega) Rx' rx rp r1 hm
      exact in_tupleAt e hi h1 (by rw[h2];exact zab1 I S q)
 | nmem=>
  intro pins s σ H x y v u Q I rx ry h
  obtain⟨w,st,x',y',r,S,Rx,Ry,e,q⟩:=h
  unfold cmpV cmpR at e
  dsimp only at e
  cases hx:x'.val? with
  | none=>simp[hx]at e
  | some tx=>
   cases hy:y'.sq2 with
   | none=>simp[hx,hy]at e
   | some ts=>
    cases hm:memT tx ts with
    | none=>simp[hx,hy,hm]at e
    | some k=>
     simp[hx,hy,hm]at e
     subst e
     have Rx':Rep G w H tx x:=by
      cases x' with
      | val t=>cases hx;exact Rx
      | bor t=>cases hx
     obtain⟨p,vs,rfl,hp,rp⟩:=RepR.sq2 Ry hy
     cases ry
     rcases hp with hp|hp
     ·obtain⟨its,r1,hi⟩:=zaa8 I hp
      obtain⟨e,h1,h2⟩:=zaeq (A:=X.A.in1) I (by show X.A.units+1+8<cLine;omega) Rx' rx rp r1 hm
      exact notIn_listAt e hi h1 (by rw[h2];exact zab1 I S q)
     ·obtain⟨its,r1,hi⟩:=zabg I hp
      obtain⟨e,h1,h2⟩:=zaeq (A:=X.A.in1) I (by show X.A.units+1+8<cLine;omega) Rx' rx rp r1 hm
      exact notIn_tupleAt e hi h1 (by rw[h2];exact zab1 I S q)
theorem sV_cmp(hu:X.A.units+9<cLine)(c:Cm)(ha:PE X a (tV G X C a'))(hb:PE X b (tV G X C b'))(hm:behindInMarks (cmOf c) b=false):PE X (.Compare a [cmOf c] [b] pos) (tV G X C (.cmp c a' b')):=
 s2c (cmp_ok hu c) ha hb hm fun _ _=>rfl
end
end IP
end
section
set_option Elab.async false
set_option linter.all false
set_option maxRecDepth 100000
namespace IP
open PySem PySem.Spec L2 PySem.SeqAt
section
variable{G:Gx}{X:Cx}{C:Cf}{a b c:Expr}{a' b' c' e':E}{pos:Pos}{rest:List Expr}
theorem tru_V{w:Wo}{H:Hp}{x:R}{v:V}{k:Bool}(r:RepD G w H x v)(h:tru x=some k):TruV X.K v H k:=by
 match x,h with
 | .val .non,h=>cases r;cases h;exact rfl
 | .val (.bl b),h=>cases r;cases h;exact rfl
 | .val (.int i),h=>cases r;cases h;exact rfl
 | .val (.lst ts),h=>
  cases h
  obtain⟨a,vs,e,_,q,r⟩:=r
  subst e
  refine .inl ⟨vs,.inl q,?_⟩
  cases ts with
  | nil=>cases r;rfl
  | cons t ts=>obtain⟨_,_,e,_⟩:=r;subst e;rfl
 | .val (.tup ts),h=>
  cases h
  obtain⟨a,vs,e,q,r⟩:=r
  subst e
  refine .inr (.inl ⟨vs,.inl (.inl q),?_⟩)
  cases ts with
  | nil=>cases r;rfl
  | cons t ts=>obtain⟨_,_,e,_⟩:=r;subst e;rfl
 | .bor ts,h=>
  cases h
  obtain⟨a,vs,e,q,r⟩:=r
  subst e
  refine .inl ⟨vs,.inl (.inl q),?_⟩
  cases ts with
  | nil=>cases r;rfl
  | cons t ts=>obtain⟨_,_,e,_⟩:=r;subst e;rfl
def truK(x:R):Option R:=(tru x).map fun k=>.val (.bl k)
theorem sT_plain{e:Expr}(hE:PE X e (tV G X C e'))(he:∀whole,isTrue e X.env whole=(do let v ←whole;standAt e.pos;holding [v] (truthy v)))
  (hev:∀σ s,ev C e' .t σ s=(ev C e' .v σ s).bind fun x s=>.of (truK x) s):PT X e (tT G X C e'):=by
 refine PT.imp (pt_truth hE he) ?_
 rintro σV H Q ⟨w₀,H₀,w,σ,s,g,h⟩
 rw[hev]at h
 refine⟨w₀,H₀,w,σ,s,g,(Want.bind h).imp ?_⟩
 rintro v H1 ⟨w1,r,s1,L1,S1,R1,h1⟩
 obtain⟨r',e,q⟩:=Want.of h1
 unfold truK at e
 cases ht:tru r with
 | none=>rw[ht]at e;cases e
 | some k=>
  rw[ht]at e
  cases e
  obtain⟨k',e,q'⟩:=q w1 H1 (.bl k) (Le.refl _ _) S1 rfl
  cases e
  exact⟨k,tru_V R1.d ht,q'⟩
theorem cmp_t(c:Cm)(σ:Fr)(s:Sto):ev C (.cmp c a' b') .t σ s=ev C (.cmp c a' b') .v σ s:=by
 show Res.bind (Res.bind (ev C a' .v σ s) _) _=Res.bind (ev C a' .v σ s) _
 cases ev C a' .v σ s with
 | stuck=>rfl
 | exc c s=>rfl
 | ok x s1=>
  show Res.bind (Res.bind (ev C b' .v σ s1) _) _=Res.bind (ev C b' .v σ s1) _
  cases ev C b' .v σ s1 with
  | stuck=>rfl
  | exc c s=>rfl
  | ok y s2=>
   show Res.bind (Res.of ((cmpR c x y).map _) s2) _=Res.of ((cmpR c x y).map _) s2
   cases cmpR c x y<;>rfl
theorem sT_cmp(hu:X.A.units+9<cLine)(c:Cm)(ha:PE X a (tV G X C a'))(hb:PE X b (tV G X C b'))(hm:behindInMarks (cmOf c) b=false):PT X (.Compare a [cmOf c] [b] pos) (tT G X C (.cmp c a' b')):=by
 refine PT.imp (pt_cmpR (cmp_ok (G:=G) hu c) ha hb hm) ?_
 rintro σV H Q ⟨w₀,H₀,w,σ,s,g,h⟩
 rw[cmp_t]at h
 exact t2_of (f:=cmpV c) ⟨w₀,H₀,w,σ,s,g,h⟩
def r1(G:Gx)(f:R→Option R):V→Hp→VK→Prop:=fun x H Q=>∃w s rx r,StoOk G w H s∧RepD G w H rx x∧f rx=some r∧∀w' H' v,Le w w' H H'→StoOk G w' H' s→RepR G w' H' r v→Q v H'
theorem t1_of{f:R→Option R}{σV:St}{H:Hp}{Q:VK}(h:∃w₀ H₀ w σ s,Good G w₀ H₀ w H σ s σV∧Want G X σV w H ((ev C a' .v σ s).bind fun x s1=>.of (f x) s1) Q):
  tV G X C a' σV H fun x H1=>r1 G f x H1 Q:=by
 obtain⟨w₀,H₀,w,σ,s,g,h⟩:=h
 refine⟨w₀,H₀,w,σ,s,g,(Want.bind h).imp ?_⟩
 rintro x H1 ⟨w1,r1,s1,L1,S1,R1,h1⟩
 obtain⟨r,e,q⟩:=Want.of h1
 exact⟨w1,s1,r1,r,S1,R1.d,e,q⟩
theorem t1_dr{f:R→Option R}{σV:St}{H:Hp}{Q:VK}(h:∃w₀ H₀ w σ s,Good G w₀ H₀ w H σ s σV∧Want G X σV w H ((ev C a' .v σ s).bind fun x s1=>.of (f (x.dr s1)) s1) Q):
  tV G X C a' σV H fun x H1=>r1 G f x H1 Q:=by
 obtain⟨w₀,H₀,w,σ,s,g,h⟩:=h
 refine⟨w₀,H₀,w,σ,s,g,(Want.bind h).imp ?_⟩
 rintro x H1 ⟨w1,r1,s1,L1,S1,R1,h1⟩
 obtain⟨r,e,q⟩:=Want.of h1
 exact⟨w1,s1,_,r,S1,R1.dr S1,e,q⟩
theorem sV_neg(ha:PE X a (tV G X C a')):PE X (.UnaryOp .USub a pos) (tV G X C (.neg a')):=by
 refine PE.imp (pe_un un_neg ha) ?_
 rintro σV H Q h
 have h:=t1_of (f:=fun x=>x.int?.map fun i=>R.val (.int (-i))) h
 refine(show tV G X C a' σV H _ from ?_)
 obtain⟨w₀,H₀,w,σ,s,g,h⟩:=h
 refine⟨w₀,H₀,w,σ,s,g,h.imp ?_⟩
 rintro x H1 ⟨w1,s1,rx,r,S1,R1,e,q⟩
 match rx,e with
 | .val (.int i),e=>cases e;cases R1;exact⟨i,rfl,q w1 H1 _ (Le.refl _ _) S1 rfl⟩
theorem sV_not(ha:PE X a (tV G X C a')):PE X (.UnaryOp .Not a pos) (tV G X C (.not a')):=by
 intro pins s σ H Q I h
 have h:=t1_of (f:=fun x=>(tru x).map fun k=>R.val (.bl (!k))) h
 refine PyProof.Rows.UnaryOp_ (thn (ha pins s σ H _ I h) fun v s1 ⟨x,H1,I1,r1,q1⟩=>?_)
 obtain⟨w1,st,rx,r,S1,R1,e,q⟩:=q1
 dsimp only at e
 cases ht:tru rx with
 | none=>rw[ht]at e;cases e
 | some k=>
  rw[ht]at e
  cases e
  exact PyProof.Rows.not_of (thn (tru_ok pins s1 σ H1 x v (fun c H2=>Q (.bl (!c)) H2) I1 r1 ⟨k,tru_V R1 ht,q w1 H1 _ (Le.refl _ _) S1 rfl⟩) fun c s2 ⟨H2,I2,z⟩=>⟨.bl (!c),H2,I2,rfl,z⟩)
theorem onB_t{w:Wo}{H:Hp}{σV:St}{x:R}{v:V}{m n:Res R}{Q:VK}(r:RepR G w H x v)(h:Want G X σV w H (onB x m n) Q):∃k,v=.bl k∧x=.val (.bl k)∧Want G X σV w H (if k=true then m else n) Q:=by
 match x,h with
 | .val (.bl true),h=>exact⟨true,r,rfl,h⟩
 | .val (.bl false),h=>exact⟨false,r,rfl,h⟩
 | .val .non,h=>exact h.elim
 | .val (.int _),h=>exact h.elim
 | .val (.str _),h=>exact h.elim
 | .val (.tup _),h=>exact h.elim
 | .val (.lst _),h=>exact h.elim
 | .val (.loc _),h=>exact h.elim
 | .val (.exc _),h=>exact h.elim
 | .bor _,h=>exact h.elim
theorem sT_not(ha:PT X a (tT G X C a')):PT X (.UnaryOp .Not a pos) (tT G X C (.not a')):=by
 refine PT.imp (pt_not ha) ?_
 rintro σV H Q ⟨w₀,H₀,w,σ,s,g,h⟩
 refine⟨w₀,H₀,w,σ,s,g,(Want.bind h).imp ?_⟩
 rintro v H1 ⟨w1,r,s1,L1,S1,R1,h1⟩
 obtain⟨k,rfl,rfl,h1⟩:=onB_t R1 h1
 refine⟨k,rfl,?_⟩
 cases k with
 | true=>obtain⟨_,e,q⟩:=h1 w1 H1 (.bl false) (Le.refl _ _) S1 rfl;cases e;exact q
 | false=>obtain⟨_,e,q⟩:=h1 w1 H1 (.bl true) (Le.refl _ _) S1 rfl;cases e;exact q
theorem tT_and{σV:St}{H:Hp}{Q:Bool→Hp→Prop}(h:tT G X C (.and a' b') σV H Q):tAnd (tT G X C a') (tT G X C b') σV H Q:=by
 obtain⟨w₀,H₀,w,σ,s,g,h⟩:=h
 refine⟨w₀,H₀,w,σ,s,g,(Want.bind h).imp ?_⟩
 rintro v H1 ⟨w1,r,s1,L1,S1,R1,h1⟩
 obtain⟨k,rfl,rfl,h1⟩:=onB_t R1 h1
 refine⟨k,rfl,?_⟩
 cases k with
 | true=>exact iteT ⟨w₀,H₀,w1,σ,s1,g.step L1 S1,h1⟩
 | false=>obtain⟨_,e,q⟩:=h1 w1 H1 (.bl false) (Le.refl _ _) S1 rfl;cases e;exact iteF q
theorem tT_or{σV:St}{H:Hp}{Q:Bool→Hp→Prop}(h:tT G X C (.or a' b') σV H Q):tOr (tT G X C a') (tT G X C b') σV H Q:=by
 obtain⟨w₀,H₀,w,σ,s,g,h⟩:=h
 refine⟨w₀,H₀,w,σ,s,g,(Want.bind h).imp ?_⟩
 rintro v H1 ⟨w1,r,s1,L1,S1,R1,h1⟩
 obtain⟨k,rfl,rfl,h1⟩:=onB_t R1 h1
 refine⟨k,rfl,?_⟩
 cases k with
 | true=>obtain⟨_,e,q⟩:=h1 w1 H1 (.bl true) (Le.refl _ _) S1 rfl;cases e;exact iteT q
 | false=>exact iteF ⟨w₀,H₀,w1,σ,s1,g.step L1 S1,h1⟩
theorem PW.imp{e:Expr}{t t':TT}(h:PW X e t)(q:∀σ H Q,t' σ H Q→t σ H Q):PW X e t':=fun wh pins s σ H Q I z=>h wh pins s σ H Q I (q _ _ _ z)
def PTb(X:Cx)(op:BoolOp)(es:List Expr)(pos:Pos)(t:TT):Prop:=PW X (.BoolOp op es pos) t
theorem zab7(h:PT X a (tT G X C a')):PTb X .And [a] pos (tT G X C a'):=pw_and1 h
theorem zaa5(h:PT X a (tT G X C a')):PTb X .Or [a] pos (tT G X C a'):=pw_or1 h
theorem zaf4(ha:PT X a (tT G X C a'))(hb:PTb X .And (b::rest) pos (tT G X C b')):PTb X .And (a::b::rest) pos (tT G X C (.and a' b')):=PW.imp (pw_and ha hb) fun _ _ _ h=>tT_and h
theorem ptb_or(ha:PT X a (tT G X C a'))(hb:PTb X .Or (b::rest) pos (tT G X C b')):PTb X .Or (a::b::rest) pos (tT G X C (.or a' b')):=PW.imp (pw_or ha hb) fun _ _ _ h=>tT_or h
theorem sV_and(ha:PE X a (tV G X C a'))(hb:PE X (.BoolOp .And (b::rest) pos) (tV G X C b')):PE X (.BoolOp .And (a::b::rest) pos) (tV G X C (.and a' b')):=by
 refine PE.imp (pe_and ha hb) ?_
 rintro σV H Q ⟨w₀,H₀,w,σ,s,g,h⟩
 refine⟨w₀,H₀,w,σ,s,g,(Want.bind h).imp ?_⟩
 rintro v H1 ⟨w1,r,s1,L1,S1,R1,h1⟩
 obtain⟨k,rfl,rfl,h1⟩:=onB_t R1 h1
 refine⟨k,rfl,?_⟩
 cases k with
 | true=>exact iteT ⟨w₀,H₀,w1,σ,s1,g.step L1 S1,h1⟩
 | false=>exact iteF (h1 w1 H1 (.bl false) (Le.refl _ _) S1 rfl)
theorem sV_ife(hc:PT X c (tT G X C c'))(ha:PE X a (tV G X C a'))(hb:PE X b (tV G X C b')):PE X (.IfExp c a b pos) (tV G X C (.ife c' a' b')):=by
 refine PE.imp (pe_ifExp hc ha hb) ?_
 rintro σV H Q ⟨w₀,H₀,w,σ,s,g,h⟩
 refine⟨w₀,H₀,w,σ,s,g,(Want.bind h).imp ?_⟩
 rintro v H1 ⟨w1,r,s1,L1,S1,R1,h1⟩
 obtain⟨k,rfl,rfl,h1⟩:=onB_t R1 h1
 refine⟨k,rfl,?_⟩
 cases k with
 | true=>exact iteT ⟨w₀,H₀,w1,σ,s1,g.step L1 S1,h1⟩
 | false=>exact iteF ⟨w₀,H₀,w1,σ,s1,g.step L1 S1,h1⟩
def WantA(G:Gx)(X:Cx)(σV:St)(w:Wo)(H:Hp)(res:Res (List T))(Q:List V→Hp→Prop):Prop:=match res with
 | .stuck=>False
 | .ok ts s'=>∀w' H' vs,Le w w' H H'→StoOk G w' H' s'→Reps G w' H' ts vs→Q vs H'
 | .exc c s'=>∀w' H' pins u sh,Le w w' H H'→StoOk G w' H' s'→Thrown G X pins σV H' c u sh→X.xe u sh
def WantR(G:Gx)(X:Cx)(σV:St)(w:Wo)(H:Hp)(res:Res (List R))(Q:List V→Hp→Prop):Prop:=match res with
 | .stuck=>False
 | .ok ts s'=>∀w' H' vs,Le w w' H H'→StoOk G w' H' s'→RepRs G w' H' ts vs→Q vs H'
 | .exc c s'=>∀w' H' pins u sh,Le w w' H H'→StoOk G w' H' s'→Thrown G X pins σV H' c u sh→X.xe u sh
def tA(G:Gx)(X:Cx)(C:Cf)(es:List E):TA:=fun σV H Q=>∃w₀ H₀ w σ s,Good G w₀ H₀ w H σ s σV∧WantA G X σV w H (evs C es σ s) Q
def tR(G:Gx)(X:Cx)(C:Cf)(es:List E):TA:=fun σV H Q=>∃w₀ H₀ w σ s,Good G w₀ H₀ w H σ s σV∧WantR G X σV w H (evr C es σ s) Q
theorem sA_nil:PA X [] (tA G X C []):=PA.imp pa_nil fun σV H Q ⟨w₀,H₀,w,σ,s,g,h⟩=>h w H [] (Le.refl _ _) g.sto rfl
theorem sR_nil:PA X [] (tR G X C []):=PA.imp pa_nil fun σV H Q ⟨w₀,H₀,w,σ,s,g,h⟩=>h w H [] (Le.refl _ _) g.sto rfl
variable{es:List Expr}{es':List E}
theorem sA_cons(ha:PE X a (tV G X C a'))(hr:PA X es (tA G X C es'))(hs:starEach (a::es) X.env=(false,eval a X.env)::starEach es X.env):PA X (a::es) (tA G X C (a'::es')):=by
 refine PA.imp (zaa3 ha hr hs) ?_
 rintro σV H Q ⟨w₀,H₀,w,σ,s,g,h⟩
 have h:WantA G X σV w H ((ev C a' .v σ s).bind fun x s1=>onV x fun t=>(evs C es' σ s1).bind fun ts s2=>.ok (t::ts) s2) Q:=h
 refine⟨w₀,H₀,w,σ,s,g,?_⟩
 cases he:ev C a' .v σ s with
 | stuck=>rw[he]at h;exact h
 | exc c s1=>rw[he]at h;exact h
 | ok x s1=>
  rw[he]at h
  intro w1 H1 v L1 S1 R1
  match x,h with
  | .bor _,h=>exact h.elim
  | .val t,h=>
   have h:WantA G X σV w H ((evs C es' σ s1).bind fun ts s2=>.ok (t::ts) s2) Q:=h
   refine⟨w₀,H₀,w1,σ,s1,g.step L1 S1,?_⟩
   cases hf:evs C es' σ s1 with
   | stuck=>rw[hf]at h;exact h
   | exc c s2=>rw[hf]at h;exact fun w2 H2 pins u sh L2=>h w2 H2 pins u sh (L1.trans L2)
   | ok ts s2=>
    rw[hf]at h
    intro w2 H2 vs L2 S2 R2
    exact h w2 H2 (v::vs) (L1.trans L2) S2 ⟨v,vs,rfl,Rep.mono L2 S1 t v R1,R2⟩
theorem sR_cons(ha:PE X a (tV G X C a'))(hr:PA X es (tR G X C es'))(hs:starEach (a::es) X.env=(false,eval a X.env)::starEach es X.env):PA X (a::es) (tR G X C (a'::es')):=by
 refine PA.imp (zaa3 ha hr hs) ?_
 rintro σV H Q ⟨w₀,H₀,w,σ,s,g,h⟩
 have h:WantR G X σV w H ((ev C a' .v σ s).bind fun x s1=>(evr C es' σ s1).bind fun ts s2=>.ok (x::ts) s2) Q:=h
 refine⟨w₀,H₀,w,σ,s,g,?_⟩
 cases he:ev C a' .v σ s with
 | stuck=>rw[he]at h;exact h
 | exc c s1=>rw[he]at h;exact h
 | ok x s1=>
  rw[he]at h
  intro w1 H1 v L1 S1 R1
  have h:WantR G X σV w H ((evr C es' σ s1).bind fun ts s2=>.ok (x::ts) s2) Q:=h
  refine⟨w₀,H₀,w1,σ,s1,g.step L1 S1,?_⟩
  cases hf:evr C es' σ s1 with
  | stuck=>rw[hf]at h;exact h
  | exc c s2=>rw[hf]at h;exact fun w2 H2 pins u sh L2=>h w2 H2 pins u sh (L1.trans L2)
  | ok ts s2=>
   rw[hf]at h
   intro w2 H2 vs L2 S2 R2
   exact h w2 H2 (v::vs) (L1.trans L2) S2 ⟨v,vs,rfl,RepR.mono L2 S1 R1,R2⟩
theorem zaem(C:Cf):∀(es:List E) (σ:Fr) (s:Sto) (ts:List T) (s':Sto),evs C es σ s=.ok ts s'→ts.length=es.length
 | [],σ,s,ts,s',h=>by cases h;rfl
 | e::es,σ,s,ts,s',h=>by
  unfold evs at h
  cases he:ev C e .v σ s with
  | stuck=>rw[he]at h;cases h
  | exc c s1=>rw[he]at h;cases h
  | ok x s1=>
   rw[he]at h
   match x,h with
   | .bor _,h=>cases h
   | .val t,h=>
    have h:((evs C es σ s1).bind fun ts s2=>Res.ok (t::ts) s2)=.ok ts s':=h
    cases hf:evs C es σ s1 with
    | stuck=>rw[hf]at h;cases h
    | exc c s2=>rw[hf]at h;cases h
    | ok us s2=>
     rw[hf]at h
     cases h
     simp[zaem C es σ s1 us _ hf]
theorem sV_tup{k:Nat}(h:PA X es (tA G X C es'))(hz:es'.length≤sizeLine):PE X (.Tuple es k pos) (tV G X C (.tup es')):=by
 refine PE.imp (pe_tup h) ?_
 rintro σV H Q ⟨w₀,H₀,w,σ,s,g,h⟩
 have h:Want G X σV w H ((evs C es' σ s).bind fun ts s1=>.ok (.val (.tup ts)) s1) Q:=h
 refine⟨w₀,H₀,w,σ,s,g,?_⟩
 cases hf:evs C es' σ s with
 | stuck=>rw[hf]at h;exact h
 | exc c s2=>rw[hf]at h;exact h
 | ok ts s2=>
  rw[hf]at h
  intro w2 H2 vs L2 S2 R2
  refine⟨by rw[←R2.length,zaem C _ _ _ _ _ hf];exact hz,?_⟩
  exact zaep S2 R2 fun w' H' v L S R=>h w' H' v (L2.trans L) S R
theorem sV_lst(h:PA X es (tA G X C es'))(hz:es'.length≤sizeLine):PE X (.List es pos) (tV G X C (.lst es')):=by
 refine PE.imp (pe_lst h) ?_
 rintro σV H Q ⟨w₀,H₀,w,σ,s,g,h⟩
 have h:Want G X σV w H ((evs C es' σ s).bind fun ts s1=>.ok (.val (.lst ts)) s1) Q:=h
 refine⟨w₀,H₀,w,σ,s,g,?_⟩
 cases hf:evs C es' σ s with
 | stuck=>rw[hf]at h;exact h
 | exc c s2=>rw[hf]at h;exact h
 | ok ts s2=>
  rw[hf]at h
  intro w2 H2 vs L2 S2 R2
  refine⟨by rw[←R2.length,zaem C _ _ _ _ _ hf];exact hz,?_⟩
  exact zac1 S2 R2 fun w' H' v L S R=>h w' H' v (L2.trans L) S R
end
end IP
end
section
set_option Elab.async false
set_option linter.all false
set_option maxRecDepth 100000
namespace IP
open PySem PySem.Spec L2 PySem.SeqAt
section
variable{G:Gx}{X:Cx}{w:Wo}{H:Hp}{σ:St}{pins:List (Addr×Obj)}{s:Shared}{A:Around}
end
section
variable{G:Gx}{X:Cx}{C:Cf}{a b:Expr}{a' b':E}{pos:Pos}
end
end IP
end
section
set_option Elab.async false
set_option linter.all false
set_option maxRecDepth 100000
namespace IP
open PySem PySem.Spec L2 PySem.SeqAt
section
variable{G:Gx}{X:Cx}{C:Cf}{a b c:Expr}{a' b' c' e':E}{pos p:Pos}{rest:List Expr}
theorem Reps.atI{w:Wo}{H:Hp}{ts:List T}{vs:List V}{i:Int}{t:T}(r:Reps G w H ts vs)(h:L2.atI ts i=some t):∃v,L2.atI vs i=some v∧Rep G w H t v:=by
 unfold L2.atI at h ⊢
 rw[←r.length]
 cases e:ixN ts.length i with
 | none=>rw[e]at h;cases h
 | some j=>
  rw[e]at h
  exact r.get h
theorem sV_sub(ha:PE X a (tV G X C a'))(hb:PE X b (tV G X C b'))(hs:zag5 b):PE X (.Subscript a b pos) (tV G X C (.sub a' b')):=by
 refine PE.imp (pe_ix ix_seq ha hb hs) ?_
 rintro σV H Q ⟨w₀,H₀,w,σ,s,g,h⟩
 refine⟨w₀,H₀,w,σ,s,g,(Want.bind h).imp ?_⟩
 rintro x H1 ⟨w1,r1,s1,L1,S1,R1,h1⟩
 refine⟨w₀,H₀,w1,σ,s1,g.step L1 S1,(Want.bind h1).imp ?_⟩
 rintro y H2 ⟨w2,r2,s2,M2,S2,R2,h2⟩
 have R1':=R1.mono M2 S1
 match r2,h2 with
 | .val (.int i),h2=>
  obtain⟨r,e,q⟩:=Want.of h2
  cases R2
  unfold subR at e
  cases hx:(r1.dr s2).sq2 with
  | none=>rw[hx]at e;cases e
  | some ts=>
   rw[hx]at e
   dsimp only at e
   cases ht:L2.atI ts i with
   | none=>rw[ht]at e;cases e
   | some t=>
    rw[ht]at e
    cases e
    obtain⟨pa,vs,rfl,hp,rp⟩:=RepD.sq2 (R1'.dr S2) hx
    obtain⟨v,hv,rv⟩:=rp.atI ht
    rcases hp with hp|hp
    ·exact .inl ⟨pa,vs,i,v,rfl,rfl,.inl hp,hv,q w2 H2 v (Le.refl _ _) S2 rv⟩
    ·exact .inr (.inl ⟨pa,vs,i,v,rfl,rfl,SqT.of hp,hv,q w2 H2 v (Le.refl _ _) S2 rv⟩)
 | .val .non,h2=>exact h2.elim
 | .val (.bl _),h2=>exact h2.elim
 | .val (.str _),h2=>exact h2.elim
 | .val (.tup _),h2=>exact h2.elim
 | .val (.lst _),h2=>exact h2.elim
 | .val (.loc _),h2=>exact h2.elim
 | .val (.exc _),h2=>exact h2.elim
 | .bor _,h2=>exact h2.elim
def rSl(G:Gx):V→Option Int→Option Int→Hp→VK→Prop:=fun x lo hi H Q=>∃w s rx r,StoOk G w H s∧RepD G w H rx x∧cutR rx lo hi=some r∧∀w' H' v,Le w w' H H'→StoOk G w' H' s→RepR G w' H' r v→Q v H'
theorem SlR.imp{r r':V→Option Int→Option Int→Hp→VK→Prop}(h:SlR X r)(q:∀x lo hi H Q,r' x lo hi H Q→r x lo hi H Q):SlR X r':=fun pins s σ H x v vl vu lo hi sl Q I rx hs pl pu z=>h pins s σ H x v vl vu lo hi sl Q I rx hs pl pu (q _ _ _ _ _ z)
theorem sl_ok:SlR X (rSl G):=by
 refine SlR.imp (SlR.or sl_tup sl_list) ?_
 rintro x lo hi H Q ⟨w,s,rx,r,S,R1,e,q⟩
 unfold cutR at e
 split at e
 ·rename_i ts
  split at e
  ·cases e
  ·rename_i hc
   cases e
   obtain⟨pa,vs,rfl,hp,rp⟩:=R1
   refine .inl ⟨pa,vs,rfl,SqT.of hp,by rw[←rp.length];exact hc,zaep S (rp.cut lo hi) q⟩
 ·rename_i ts
  cases e
  obtain⟨pa,vs,rfl,_,hp,rp⟩:=R1
  exact .inr ⟨pa,vs,rfl,.inl hp,zac1 S (rp.cut lo hi) q⟩
 ·rename_i ts
  cases e
  obtain⟨pa,vs,rfl,hp,rp⟩:=R1
  exact .inr ⟨pa,vs,rfl,SqL.of hp,zac1 S (rp.cut lo hi) q⟩
 ·cases e
theorem onI_t{w:Wo}{H:Hp}{σV:St}{x:R}{v:V}{f:Int→Res R}{Q:VK}(r:RepR G w H x v)(h:Want G X σV w H (onI x f) Q):∃i,v=.int i∧x=.val (.int i)∧Want G X σV w H (f i) Q:=by
 match x,h with
 | .val (.int i),h=>exact⟨i,r,rfl,h⟩
 | .val .non,h=>exact h.elim
 | .val (.bl _),h=>exact h.elim
 | .val (.str _),h=>exact h.elim
 | .val (.tup _),h=>exact h.elim
 | .val (.lst _),h=>exact h.elim
 | .val (.loc _),h=>exact h.elim
 | .val (.exc _),h=>exact h.elim
 | .bor _,h=>exact h.elim
theorem zabv{p2:Pos}(ha:PE X a (tV G X C a'))(hb:PE X b (tV G X C b')):PE X (.Subscript a (.Slice (some b) none none p2) pos) (tV G X C (.cutL a' b')):=by
 refine PE.imp (zaej (sl_ok (G:=G)) ha (zadq hb) zae0) ?_
 rintro σV H Q ⟨w₀,H₀,w,σ,s,g,h⟩
 refine⟨w₀,H₀,w,σ,s,g,(Want.bind h).imp ?_⟩
 rintro x H1 ⟨w1,r1,s1,L1,S1,R1,h1⟩
 refine⟨w₀,H₀,w1,σ,s1,g.step L1 S1,(Want.bind h1).imp ?_⟩
 rintro y H2 ⟨w2,r2,s2,L2,S2,R2,h2⟩
 obtain⟨i,rfl,rfl,h2⟩:=onI_t R2 h2
 obtain⟨r,e,q⟩:=Want.of h2
 exact⟨i,rfl,w2,s2,_,r,S2,(R1.mono L2 S1).dr S2,e,q⟩
theorem zacr{p2:Pos}(ha:PE X a (tV G X C a'))(hb:PE X b (tV G X C b')):PE X (.Subscript a (.Slice none (some b) none p2) pos) (tV G X C (.cutU a' b')):=by
 refine PE.imp (zaej (sl_ok (G:=G)) ha zae0 (zadq hb)) ?_
 rintro σV H Q ⟨w₀,H₀,w,σ,s,g,h⟩
 refine⟨w₀,H₀,w,σ,s,g,(Want.bind h).imp ?_⟩
 rintro x H1 ⟨w1,r1,s1,L1,S1,R1,h1⟩
 refine⟨w₀,H₀,w1,σ,s1,g.step L1 S1,(Want.bind h1).imp ?_⟩
 rintro y H2 ⟨w2,r2,s2,L2,S2,R2,h2⟩
 obtain⟨i,rfl,rfl,h2⟩:=onI_t R2 h2
 obtain⟨r,e,q⟩:=Want.of h2
 exact⟨i,rfl,w2,s2,_,r,S2,(R1.mono L2 S1).dr S2,e,q⟩
theorem sV_cutLU{p2:Pos}(ha:PE X a (tV G X C a'))(hb:PE X b (tV G X C b'))(hc:PE X c (tV G X C c')):PE X (.Subscript a (.Slice (some b) (some c) none p2) pos) (tV G X C (.cutLU a' b' c')):=by
 refine PE.imp (zaej (sl_ok (G:=G)) ha (zadq hb) (zadq hc)) ?_
 rintro σV H Q ⟨w₀,H₀,w,σ,s,g,h⟩
 refine⟨w₀,H₀,w,σ,s,g,(Want.bind h).imp ?_⟩
 rintro x H1 ⟨w1,r1,s1,L1,S1,R1,h1⟩
 refine⟨w₀,H₀,w1,σ,s1,g.step L1 S1,(Want.bind h1).imp ?_⟩
 rintro y H2 ⟨w2,r2,s2,L2,S2,R2,h2⟩
 obtain⟨i,rfl,rfl,h2⟩:=onI_t R2 h2
 refine⟨i,rfl,w₀,H₀,w2,σ,s2,(g.step L1 S1).step L2 S2,(Want.bind h2).imp ?_⟩
 rintro z H3 ⟨w3,r3,s3,L3,S3,R3,h3⟩
 obtain⟨j,rfl,rfl,h3⟩:=onI_t R3 h3
 obtain⟨r,e,q⟩:=Want.of h3
 exact⟨j,rfl,w3,s3,_,r,S3,((R1.mono L2 S1).mono L3 S2).dr S3,e,q⟩
def rB1(G:Gx)(f:R→Option R):List V→Hp→VK→Prop:=fun xs H Q=>∃v,xs=[v]∧r1 G f v H Q
theorem CallR.imp{f:Value}{r r':List V→Hp→VK→Prop}(h:CallR X f r)(q:∀xs H Q,r' xs H Q→r xs H Q):CallR X f r':=fun pins s σ H xs us Q I rx z=>h pins s σ H xs us Q I rx (q _ _ _ z)
theorem sB1{f:R→Option R}{id:String}{x:Str}(hc:CallR X (.builtin id) (rB1 G f))(hg:Gl X x)(hm:X.mg x=none)(hv:bootBuiltins x=some (.builtin id))(hn:x≠"__name__")(hdb:(x==("__debug__":Str))=false)
  (ha:PE X a (tV G X C a')) (hs:starEach [a] X.env=[(false,eval a X.env)]) (hev:∀σ s,ev C e' .v σ s=(ev C a' .v σ s).bind fun x s1=>.of (f (x.dr s1)) s1):PE X (.Call (.Name x p) [a] [] pos) (tV G X C e'):=by
 refine PE.imp (zaeb hc hg hm hv (zaa3 ha pa_nil hs) hn hdb hs rfl) ?_
 rintro σV H Q ⟨w₀,H₀,w,σ,s,g,h⟩
 rw[hev]at h
 obtain⟨w₀,H₀,w,σ,s,g,h⟩:=t1_dr ⟨w₀,H₀,w,σ,s,g,h⟩
 exact⟨w₀,H₀,w,σ,s,g,h.imp fun v H1 q=>⟨v,rfl,q⟩⟩
theorem sTy1{f:R→Option R}{T:String}{x:Str}(hc:CallR X (.type T) (rB1 G f))(hg:Gl X x)(hm:X.mg x=none)(hv:bootBuiltins x=some (.type T))(hn:x≠"__name__")(hdb:(x==("__debug__":Str))=false)
  (ha:PE X a (tV G X C a')) (hs:starEach [a] X.env=[(false,eval a X.env)]) (hev:∀σ s,ev C e' .v σ s=(ev C a' .v σ s).bind fun x s1=>.of (f (x.dr s1)) s1):PE X (.Call (.Name x p) [a] [] pos) (tV G X C e'):=by
 refine PE.imp (zaex hc hg hm hv (zaa3 ha pa_nil hs) hn hdb hs rfl) ?_
 rintro σV H Q ⟨w₀,H₀,w,σ,s,g,h⟩
 rw[hev]at h
 obtain⟨w₀,H₀,w,σ,s,g,h⟩:=t1_dr ⟨w₀,H₀,w,σ,s,g,h⟩
 exact⟨w₀,H₀,w,σ,s,g,h.imp fun v H1 q=>⟨v,rfl,q⟩⟩
theorem map_some{α β:Type}{o:Option α}{f:α→β}{r:β}(h:o.map f=some r):∃a,o=some a∧r=f a:=by
 cases o with
 | none=>cases h
 | some a=>cases h;exact⟨a,rfl,rfl⟩
theorem c_len:CallR X (.builtin "len") (rB1 G (b1R .len)):=by
 refine CallR.imp zad7 ?_
 rintro xs H Q ⟨v,rfl,w,s,rx,r,S,R1,e,q⟩
 obtain⟨ts,ht,rfl⟩:=map_some e
 obtain⟨pa,vs,rfl,hp,rp⟩:=RepD.sq2 R1 ht
 refine⟨pa,vs,rfl,hp.imp (fun h=>.inl h) (fun h=>SqT.of h),?_⟩
 rw[←rp.length]
 exact q w H _ (Le.refl _ _) S rfl
theorem c_abs:CallR X (.builtin "abs") (rB1 G (b1R .abs)):=by
 refine CallR.imp call_abs ?_
 rintro xs H Q ⟨v,rfl,w,s,rx,r,S,R1,e,q⟩
 obtain⟨i,hi,rfl⟩:=map_some e
 cases R1.int hi
 exact⟨i,rfl,q w H _ (Le.refl _ _) S rfl⟩
theorem c_int:CallR X (.type "int") (rB1 G (b1R .int)):=by
 refine CallR.imp call_int1 ?_
 rintro xs H Q ⟨v,rfl,w,s,rx,r,S,R1,e,q⟩
 unfold b1R at e
 dsimp only at e
 split at e
 ·cases e;cases R1;exact .inl ⟨_,rfl,q w H _ (Le.refl _ _) S rfl⟩
 ·cases e;cases R1;exact .inr ⟨_,rfl,q w H _ (Le.refl _ _) S rfl⟩
 ·cases e
theorem c_list:CallR X (.type "list") (rB1 G (b1R .list)):=by
 refine CallR.imp zacc ?_
 rintro xs H Q ⟨v,rfl,w,s,rx,r,S,R1,e,q⟩
 obtain⟨ts,ht,rfl⟩:=map_some e
 obtain⟨pa,vs,rfl,hp,rp⟩:=RepD.sq2 R1 ht
 exact⟨pa,vs,rfl,hp.imp (fun h=>.inl h) (fun h=>SqT.of h),zac1 S rp q⟩
theorem c_tuple:CallR X (.type "tuple") (rB1 G (b1R .tuple)):=by
 refine CallR.imp zad0 ?_
 rintro xs H Q ⟨v,rfl,w,s,rx,r,S,R1,e,q⟩
 obtain⟨ts,ht,rfl⟩:=map_some e
 obtain⟨pa,vs,rfl,hp,rp⟩:=RepD.sq2 R1 ht
 refine⟨pa,vs,rfl,?_⟩
 rcases hp with hp|hp
 ·exact .inl ⟨.inl hp,zaep S rp q⟩
 ·exact .inr ⟨SqT.of hp,q w H _ (Le.refl _ _) S ⟨pa,vs,rfl,hp,rp⟩⟩
def rB2(G:Gx)(f:R→R→Option R):List V→Hp→VK→Prop:=fun xs H Q=>∃v u,xs=[v,u]∧r2 G f v u H Q
theorem sB2{f:R→R→Option R}{id:String}{x:Str}(hc:CallR X (.builtin id) (rB2 G f))(hg:Gl X x)(hm:X.mg x=none)(hv:bootBuiltins x=some (.builtin id))(hn:x≠"__name__")(hdb:(x==("__debug__":Str))=false)
  (ha:PE X a (tV G X C a')) (hb:PE X b (tV G X C b')) (hs:starEach [a,b] X.env=[(false,eval a X.env),(false,eval b X.env)]) (hs2:starEach [b] X.env=[(false,eval b X.env)])
  (hev:∀σ s,ev C e' .v σ s=(ev C a' .v σ s).bind fun x s1=>(ev C b' .v σ s1).bind fun y s2=>.of (f x y) s2):PE X (.Call (.Name x p) [a,b] [] pos) (tV G X C e'):=by
 refine PE.imp (zaeb hc hg hm hv (zaa3 ha (zaa3 hb pa_nil hs2) (by rw[hs,hs2])) hn hdb (by rw[hs,hs2]) (by rw[hs2];rfl)) ?_
 rintro σV H Q ⟨w₀,H₀,w,σ,s,g,h⟩
 rw[hev]at h
 obtain⟨w₀,H₀,w,σ,s,g,h⟩:=t2_of (f:=f) ⟨w₀,H₀,w,σ,s,g,h⟩
 refine⟨w₀,H₀,w,σ,s,g,h.imp ?_⟩
 rintro v H1 ⟨w₀,H₀,w,σ,s,g,h⟩
 exact⟨w₀,H₀,w,σ,s,g,h.imp fun u H2 q=>⟨v,u,rfl,q⟩⟩
def mx2R(x y:R):Option R:=do let i ←x.int?;let j ←y.int?;some (.val (.int (if j>i then j else i)))
theorem ii2{x y r:R}{g:Int→Int→R}(h:(do let i ←x.int?;let j ←y.int?;some (g i j))=some r):∃i j,x.int?=some i∧y.int?=some j∧r=g i j:=by
 cases hx:x.int? with
 | none=>rw[hx]at h;cases h
 | some i=>
  cases hy:y.int? with
  | none=>rw[hx,hy]at h;cases h
  | some j=>rw[hx,hy]at h;cases h;exact⟨i,j,rfl,rfl,rfl⟩
theorem c_max2(hc:X.calm=true):CallR X (.builtin "max") (rB2 G mx2R):=by
 refine CallR.imp (call_max2 hc) ?_
 rintro xs H Q ⟨v,u,rfl,w,s,rx,ry,r,S,R1,R2,e,q⟩
 obtain⟨i,j,hi,hj,rfl⟩:=ii2 e
 cases R1.int hi
 cases R2.int hj
 exact⟨i,j,rfl,q w H _ (Le.refl _ _) S rfl⟩
def tyOf:Ty→Option String
 | .int=>some "int" | .bool=>some "bool" | .tuple=>some "tuple" | .list=>some "list" | .str=>some "str" | .cls _=>none
theorem isi_ty{w:Wo}{H:Hp}{st:Sto}{x:R}{v:V}{c:Ty}{k:Bool}{n:String}(S:StoOk G w H st)(r:RepD G w H x v)(hn:tyOf c=some n)(h:isiR x c=some k):∃t,TyOf X.K H v t∧PySem.W.kitOne X.K t (.type n)=some k:=by
 have lst:∀{a:Addr}{vs:List V},Rd H a (.lst vs)→TyOf X.K H (.ref a) (.type "list"):=fun {a vs} q=>by
  rcases q with q|⟨o,q⟩
  ·exact .lst q
  ·exact .frz q
 unfold isiR at h
 split at h<;>first
  | (cases h;done)
  | (cases h;cases hn;cases r;exact⟨_,.int _,by with_unfolding_all rfl⟩)
  | (cases h;cases hn;cases r;exact⟨_,.bl _,by with_unfolding_all rfl⟩)
  | (cases h;cases hn;cases r;exact⟨_,.non,by with_unfolding_all rfl⟩)
  | (cases h;cases hn;obtain⟨a,vs,rfl,q,_⟩:=r;exact⟨_,.tup q,by with_unfolding_all rfl⟩)
  | (cases h;cases hn;obtain⟨a,vs,rfl,_,q,_⟩:=r;exact⟨_,lst q,by with_unfolding_all rfl⟩)
  | (cases h;cases hn;obtain⟨a,vs,rfl,q,_⟩:=r;exact⟨_,.lst q,by with_unfolding_all rfl⟩)
theorem isiX_ty{sub:Nat→Nat→Bool}{x:R}{c:Ty}{n:String}(hn:tyOf c=some n):isiX sub x c=isiR x c:=by
 cases c<;>first|(cases hn;done)|(unfold isiX;split<;>first|rfl|(rename_i z;cases z))
theorem sV_isi{c:Ty}{n:String}{y:Str}{py:Pos}(hn:tyOf c=some n)(hg:Gl X "isinstance")(hm:X.mg "isinstance"=none)(hgy:Gl X y)(hmy:X.mg y=none)(hv:bootBuiltins y=some (.type n))(hy:y≠"__name__")(hdy:(y==("__debug__":Str))=false)
  (ha:PE X a (tV G X C a')) (hs:starEach [a,.Name y py] X.env=[(false,eval a X.env),(false,eval (.Name y py) X.env)]):PE X (.Call (.Name "isinstance" p) [a,.Name y py] [] pos) (tV G X C (.isi a' c)):=by
 have hc:CallR X (.builtin "isinstance") (fun xs H Q=>∃v,xs=[v,.ty n]∧r1 G (fun x=>(isiX C.sub x c).map fun k=>.val (.bl k)) v H Q):=by
  rintro pins s σ H xs us Q I rv ⟨v,rfl,w,st,rx,r,S,R1,e,q⟩
  obtain⟨u,u',rfl,r1,r2⟩:=rv.two
  cases r2
  obtain⟨k,hk,rfl⟩:=map_some e
  rw[isiX_ty hn]at hk
  obtain⟨t,ht,hk'⟩:=isi_ty (X:=X) S R1 hn hk
  exact isinst_ok I r1 ht hk' fun tk=>⟨.bl k,H,I.tok tk,rfl,q w H _ (Le.refl _ _) S rfl⟩
 refine PE.imp (zaeb hc hg hm (show bootBuiltins "isinstance"=some (.builtin "isinstance")by decide +kernel) (zaa3 ha (zaa3 (pe_bltn (v:=.ty n) hgy hmy hv rfl hy hdy) pa_nil rfl) (by rw[hs];rfl)) (by decide) (by decide) (by rw[hs];rfl) rfl) ?_
 rintro σV H Q ⟨w₀,H₀,w,σ,s,g,h⟩
 obtain⟨w₀,H₀,w,σ,s,g,h⟩:=t1_dr (f:=fun x=>(isiX C.sub x c).map fun k=>.val (.bl k)) ⟨w₀,H₀,w,σ,s,g,h⟩
 exact⟨w₀,H₀,w,σ,s,g,h.imp fun v H1 q=>⟨v,rfl,q⟩⟩
end
end IP
end
section
set_option Elab.async false
set_option linter.all false
set_option maxRecDepth 100000
namespace IP
open PySem PySem.Spec L2 PySem.SeqAt PyProof.Rows.LSm
section
variable{G:Gx}{X:Cx}
theorem zaby{w:Wo}{H:Hp}:∀{ts:List T}{is:List Int}{vs:List V}{its:List Value},asInts ts=some is→Reps G w H ts vs→Vals vs its→PyProof.Rows.IntsAre its is
 | [],is,vs,its,h,r,q=>by
  cases h
  cases r
  rw[Vals.zero q]
  exact .nil
 | .int i::ts,is,vs,its,h,⟨v,r,e,h1,h2⟩,q=>by
  unfold asInts at h
  obtain⟨js,hj,rfl⟩:=map_some h
  subst e
  cases h1
  cases q with
  | cons q1 q2=>
   obtain⟨t,rfl⟩:=q1
   exact .cons i t (zaby hj h2 q2)
 | .non::ts,is,vs,its,h,r,q=>by simp[asInts]at h
 | .bl _::ts,is,vs,its,h,r,q=>by simp[asInts]at h
 | .str _::ts,is,vs,its,h,r,q=>by simp[asInts]at h
 | .tup _::ts,is,vs,its,h,r,q=>by simp[asInts]at h
 | .lst _::ts,is,vs,its,h,r,q=>by simp[asInts]at h
 | .loc _::ts,is,vs,its,h,r,q=>by simp[asInts]at h
 | .exc _::ts,is,vs,its,h,r,q=>by simp[asInts]at h
theorem zab4{w:Wo}{H:Hp}:∀{ts:List T}{is:List Bool}{vs:List V}{its:List Value},zaa6 ts=some is→Reps G w H ts vs→Vals vs its→BoolsAre its is
 | [],is,vs,its,h,r,q=>by
  cases h
  cases r
  rw[Vals.zero q]
  exact .nil
 | .bl i::ts,is,vs,its,h,⟨v,r,e,h1,h2⟩,q=>by
  unfold zaa6 at h
  obtain⟨js,hj,rfl⟩:=map_some h
  subst e
  cases h1
  cases q with
  | cons q1 q2=>
   cases q1
   exact .cons i (zab4 hj h2 q2)
 | .non::ts,is,vs,its,h,r,q=>by simp[zaa6]at h
 | .int _::ts,is,vs,its,h,r,q=>by simp[zaa6]at h
 | .str _::ts,is,vs,its,h,r,q=>by simp[zaa6]at h
 | .tup _::ts,is,vs,its,h,r,q=>by simp[zaa6]at h
 | .lst _::ts,is,vs,its,h,r,q=>by simp[zaa6]at h
 | .loc _::ts,is,vs,its,h,r,q=>by simp[zaa6]at h
 | .exc _::ts,is,vs,its,h,r,q=>by simp[zaa6]at h
theorem bind2{α β γ:Type}{o:Option α}{p:α→Option β}{f:α→β→Option γ}{r:γ}(h:(do let a ←o;let b ←p a;f a b)=some r):∃a b,o=some a∧p a=some b∧f a b=some r:=by
 cases ho:o with
 | none=>rw[ho]at h;cases h
 | some a=>
  rw[ho]at h
  cases hp:p a with
  | none=>simp[hp]at h
  | some b=>simp[hp]at h;exact⟨a,b,rfl,hp,h⟩
theorem c_any(hc:X.calm=true):CallR X (.builtin "any") (rB1 G (b1R .any)):=by
 rintro pins s σ H xs us Q I rv ⟨v,rfl,w,st,rx,r,S,R1,e,q⟩
 obtain⟨ts,bs,ht,hb,he⟩:=bind2 (f:=fun(_:List T) (bs:List Bool)=>some (R.val (.bl (bs.any id)))) e
 cases he
 obtain⟨pa,vs,rfl,hp,rp⟩:=RepD.seq (s:=st) R1 ht
 obtain⟨u,rfl,ru⟩:=rv.one
 cases ru
 obtain⟨its,q1,hl⟩:=zaa8 I hp
 have hB:=zab4 hb rp q1
 have hlt:pa<s.heap.objs.size:=by obtain⟨_,e,_⟩:=hl;exact Heap.lt_size e
 refine call_any_walk (wpAny_pyIter_list hl ?_)
 refine⟨s.heap.objs.size,[s.heap.objs.size,pa],[s.heap.objs.size],its.toArray.size,_,_,fun i=>(bs[i]?).getD false,rfl,Walks.list (A:=X.A.in1) (I.ok.hd hc) _ pa (Nat.ne_of_lt hlt) its.toArray,
  ⟨⟨_,Heap.get?_push_size _ rfl,rfl,rfl⟩,hl.push _⟩,fun i v s' Q' E' hP hQ=>?_,fun h' tk hk=>?_⟩
 ·obtain⟨b,e,rfl⟩:=hB.get i v (by simpa using hP)
  simp only[e,Option.getD_some]at hQ
  exact wpAny_truthy_bool hQ
 ·have e:((List.range its.toArray.size).any fun i=>(bs[i]?).getD false)=bs.any id:=by
   rw[List.size_toArray,hB.length];exact range_any bs
  rw[e]
  exact⟨.bl _,H,I.kept (kept_iter hk),rfl,q w H _ (Le.refl _ _) S rfl⟩
theorem c_all(hc:X.calm=true):CallR X (.builtin "all") (rB1 G (b1R .all)):=by
 rintro pins s σ H xs us Q I rv ⟨v,rfl,w,st,rx,r,S,R1,e,q⟩
 obtain⟨ts,bs,ht,hb,he⟩:=bind2 (f:=fun(_:List T) (bs:List Bool)=>some (R.val (.bl (bs.all id)))) e
 cases he
 obtain⟨pa,vs,rfl,hp,rp⟩:=RepD.seq (s:=st) R1 ht
 obtain⟨u,rfl,ru⟩:=rv.one
 cases ru
 obtain⟨its,q1,hl⟩:=zaa8 I hp
 have hB:=zab4 hb rp q1
 have hlt:pa<s.heap.objs.size:=by obtain⟨_,e,_⟩:=hl;exact Heap.lt_size e
 refine call_all_walk (wpAny_pyIter_list hl ?_)
 refine⟨s.heap.objs.size,[s.heap.objs.size,pa],[s.heap.objs.size],its.toArray.size,_,_,fun i=>(bs[i]?).getD true,rfl,Walks.list (A:=X.A.in1) (I.ok.hd hc) _ pa (Nat.ne_of_lt hlt) its.toArray,
  ⟨⟨_,Heap.get?_push_size _ rfl,rfl,rfl⟩,hl.push _⟩,fun i v s' Q' E' hP hQ=>?_,fun h' tk hk=>?_⟩
 ·obtain⟨b,e,rfl⟩:=hB.get i v (by simpa using hP)
  simp only[e,Option.getD_some]at hQ
  exact wpAny_truthy_bool hQ
 ·have e:((List.range its.toArray.size).all fun i=>(bs[i]?).getD true)=bs.all id:=by
   rw[List.size_toArray,hB.length];exact range_all bs
  rw[e]
  exact⟨.bl _,H,I.kept (kept_iter hk),rfl,q w H _ (Le.refl _ _) S rfl⟩
theorem minI_spec:∀(is:List Int) (m:Int),minI is=some m→m∈is∧∀x∈is,m≤x:=by
 have go:∀(r:List Int) (a:Int),(r.foldl (fun m x=>if x<m then x else m) a∈a::r)∧(∀x∈a::r,r.foldl (fun m x=>if x<m then x else m) a≤x):=by
  intro r
  induction r with
  | nil=>intro a;exact⟨List.mem_cons_self ..,fun x hx=>by simp at hx;subst hx;exact Int.le_refl _⟩
  | cons b r ih=>
   intro a
   rw[List.foldl_cons]
   obtain⟨h1,h2⟩:=ih (if b<a then b else a)
   refine⟨?_,fun x hx=>?_⟩
   ·rcases List.mem_cons.mp h1 with e|e
    ·rw[e];split<;>simp
    ·exact List.mem_cons_of_mem _ (List.mem_cons_of_mem _ e)
   ·have h3:=h2 _ (List.mem_cons_self ..)
    rcases List.mem_cons.mp hx with e|e
    ·subst e;exact Int.le_trans h3 (by split<;>omega)
    ·rcases List.mem_cons.mp e with e|e
     ·subst e;exact Int.le_trans h3 (by split<;>omega)
     ·exact h2 x (List.mem_cons_of_mem _ e)
 intro is m h
 cases is with
 | nil=>cases h
 | cons a r=>cases h;exact go r a
theorem maxI_spec:∀(is:List Int) (m:Int),maxI is=some m→m∈is∧∀x∈is,x≤m:=by
 have go:∀(r:List Int) (a:Int),(r.foldl (fun m x=>if x>m then x else m) a∈a::r)∧(∀x∈a::r,x≤r.foldl (fun m x=>if x>m then x else m) a):=by
  intro r
  induction r with
  | nil=>intro a;exact⟨List.mem_cons_self ..,fun x hx=>by simp at hx;subst hx;exact Int.le_refl _⟩
  | cons b r ih=>
   intro a
   rw[List.foldl_cons]
   obtain⟨h1,h2⟩:=ih (if b>a then b else a)
   refine⟨?_,fun x hx=>?_⟩
   ·rcases List.mem_cons.mp h1 with e|e
    ·rw[e];split<;>simp
    ·exact List.mem_cons_of_mem _ (List.mem_cons_of_mem _ e)
   ·have h3:=h2 _ (List.mem_cons_self ..)
    rcases List.mem_cons.mp hx with e|e
    ·subst e;exact Int.le_trans (by split<;>omega) h3
    ·rcases List.mem_cons.mp e with e|e
     ·subst e;exact Int.le_trans (by split<;>omega) h3
     ·exact h2 x (List.mem_cons_of_mem _ e)
 intro is m h
 cases is with
 | nil=>cases h
 | cons a r=>cases h;exact go r a
theorem minI_ne{is:List Int}{m:Int}(h:minI is=some m):0<is.length:=by cases is with|nil=>cases h|cons a r=>simp
theorem maxI_ne{is:List Int}{m:Int}(h:maxI is=some m):0<is.length:=by cases is with|nil=>cases h|cons a r=>simp
theorem w_min{pins:List (Addr×Obj)}{σ:St}{H:Hp}{s:Shared}{pa:Addr}{its:List Value}{is:List Int}{m:Int}{Q:VK}(hc:X.calm=true)(I:Inv X pins σ H s)(hl:s.heap.IsList pa its.toArray)(hi:PyProof.Rows.IntsAre its is)(hm:minI is=some m)(q:Q (.int m) H):
  wpAny (model X.prog X.w) X.A (call (.builtin "min") [.ref pa]) (EP X pins σ Q) X.xe s:=by
 obtain⟨xs,e⟩:=hi.allInts.items
 have hns:is=xs.toList.map (·.1):=by rw[←hi.numsOf,←nums_intItems,←e]
 have hne:=minI_ne hm
 have hsz:0<xs.size:=by rw[hns,List.length_map,Array.length_toList]at hne;exact hne
 rw[e]at hl
 refine min_intList (I.ok.hd hc) hl hsz fun v h' tk hv hk=>?_
 obtain⟨t,rfl⟩:=intItems_at hv
 obtain⟨h1,h2⟩:=argBest_lt (numAt xs) (xs.size-1)
 obtain⟨g1,g2⟩:=minI_spec is m hm
 have em:numAt xs (argBest (fun i j=>decide (numAt xs i<numAt xs j)) (xs.size-1))=m:=by
  apply Int.le_antisymm
  ·rw[hns]at g1
   obtain⟨j,hj,ej⟩:=List.getElem_of_mem g1
   rw[List.length_map,Array.length_toList]at hj
   have:=h2 j (by omega)
   rw[numAt_eq xs j]at this
   have e2:(xs.toList.map (·.1)).getD j 0=m:=by rw[←ej];simp[hj]
   omega
  ·refine g2 _ ?_
   rw[hns,numAt_eq]
   have hlt:argBest (fun i j=>decide (numAt xs i<numAt xs j)) (xs.size-1)<(xs.toList.map (·.1)).length:=by rw[List.length_map,Array.length_toList];omega
   rw[List.getD_eq_getElem?_getD,List.getElem?_eq_getElem hlt]
   exact List.getElem_mem _
 rw[em]
 exact⟨.int m,H,I.kept hk,⟨_,rfl⟩,q⟩
theorem w_max{pins:List (Addr×Obj)}{σ:St}{H:Hp}{s:Shared}{pa:Addr}{its:List Value}{is:List Int}{m:Int}{Q:VK}(hc:X.calm=true)(I:Inv X pins σ H s)(hl:s.heap.IsList pa its.toArray)(hi:PyProof.Rows.IntsAre its is)(hm:maxI is=some m)(q:Q (.int m) H):
  wpAny (model X.prog X.w) X.A (call (.builtin "max") [.ref pa]) (EP X pins σ Q) X.xe s:=by
 obtain⟨xs,e⟩:=hi.allInts.items
 have hns:is=xs.toList.map (·.1):=by rw[←hi.numsOf,←nums_intItems,←e]
 have hne:=maxI_ne hm
 have hsz:0<xs.size:=by rw[hns,List.length_map,Array.length_toList]at hne;exact hne
 rw[e]at hl
 refine max_intList (I.ok.hd hc) hl hsz fun v h' tk hv hk=>?_
 obtain⟨t,rfl⟩:=intItems_at hv
 obtain⟨h1,h2⟩:=argBest_gt (numAt xs) (xs.size-1)
 obtain⟨g1,g2⟩:=maxI_spec is m hm
 have em:numAt xs (argBest (fun i j=>decide (numAt xs i>numAt xs j)) (xs.size-1))=m:=by
  apply Int.le_antisymm
  ·refine g2 _ ?_
   rw[hns,numAt_eq]
   have hlt:argBest (fun i j=>decide (numAt xs i>numAt xs j)) (xs.size-1)<(xs.toList.map (·.1)).length:=by rw[List.length_map,Array.length_toList];omega
   rw[List.getD_eq_getElem?_getD,List.getElem?_eq_getElem hlt]
   exact List.getElem_mem _
  ·rw[hns]at g1
   obtain⟨j,hj,ej⟩:=List.getElem_of_mem g1
   rw[List.length_map,Array.length_toList]at hj
   have:=h2 j (by omega)
   rw[numAt_eq xs j]at this
   have e2:(xs.toList.map (·.1)).getD j 0=m:=by rw[←ej];simp[hj]
   omega
 rw[em]
 exact⟨.int m,H,I.kept hk,⟨_,rfl⟩,q⟩
theorem bind3{α β γ:Type}{o:Option α}{p:α→Option β}{f:β→Option γ}{g:γ→R}{r:R}(h:(do let a ←o;let b ←p a;(f b).map g)=some r):∃a b c,o=some a∧p a=some b∧f b=some c∧r=g c:=by
 obtain⟨a,b,h1,h2,h3⟩:=bind2 h
 obtain⟨c,h4,h5⟩:=map_some h3
 exact⟨a,b,c,h1,h2,h4,h5⟩
theorem c_min(hc:X.calm=true):CallR X (.builtin "min") (rB1 G (b1R .min)):=by
 rintro pins s σ H xs us Q I rv ⟨v,rfl,w,st,rx,r,S,R1,e,q⟩
 obtain⟨ts,is,m,ht,hb,hm,rfl⟩:=bind3 (f:=minI) (g:=fun i=>R.val (.int i)) e
 obtain⟨pa,vs,rfl,hp,rp⟩:=RepD.seq (s:=st) R1 ht
 obtain⟨u,rfl,ru⟩:=rv.one
 cases ru
 obtain⟨its,q1,hl⟩:=zaa8 I hp
 exact w_min hc I hl (zaby hb rp q1) hm (q w H _ (Le.refl _ _) S rfl)
theorem c_max(hc:X.calm=true):CallR X (.builtin "max") (rB1 G (b1R .max)):=by
 rintro pins s σ H xs us Q I rv ⟨v,rfl,w,st,rx,r,S,R1,e,q⟩
 obtain⟨ts,is,m,ht,hb,hm,rfl⟩:=bind3 (f:=maxI) (g:=fun i=>R.val (.int i)) e
 obtain⟨pa,vs,rfl,hp,rp⟩:=RepD.seq (s:=st) R1 ht
 obtain⟨u,rfl,ru⟩:=rv.one
 cases ru
 obtain⟨its,q1,hl⟩:=zaa8 I hp
 exact w_max hc I hl (zaby hb rp q1) hm (q w H _ (Le.refl _ _) S rfl)
theorem zadd(x:Int):∀l:List Int,(insI x l).Perm (x::l)
 | []=>.refl _
 | y::r=>by
  unfold insI
  split
  ·exact .refl _
  ·exact((zadd x r).cons y).trans (.swap x y r)
theorem insI_pw(x:Int):∀l:List Int,l.Pairwise (·≤·)→(insI x l).Pairwise (·≤·)
 | [],_=>by simp[insI]
 | y::r,h=>by
  unfold insI
  obtain⟨h1,h2⟩:=List.pairwise_cons.mp h
  split
  ·rename_i hlt
   refine List.pairwise_cons.mpr ⟨fun z hz=>?_,h⟩
   rcases List.mem_cons.mp hz with e|e
   ·omega
   ·have:=h1 z e;omega
  ·rename_i hlt
   refine List.pairwise_cons.mpr ⟨fun z hz=>?_,insI_pw x r h2⟩
   rcases List.mem_cons.mp ((zadd x r).mem_iff.mp hz)with e|e
   ·omega
   ·exact h1 z e
theorem zagl(is:List Int):(sortI is).Perm is∧(sortI is).Pairwise (·≤·):=by
 have go:∀(l acc:List Int),acc.Pairwise (·≤·)→(l.foldl (fun acc x=>insI x acc) acc).Perm (l++acc)∧(l.foldl (fun acc x=>insI x acc) acc).Pairwise (·≤·):=by
  intro l
  induction l with
  | nil=>intro acc h;exact⟨.refl _,h⟩
  | cons x l ih=>
   intro acc h
   obtain⟨h1,h2⟩:=ih (insI x acc) (insI_pw x acc h)
   refine⟨h1.trans ?_,h2⟩
   exact((zadd x acc).append_left l).trans List.perm_middle
 have:=go is [] List.Pairwise.nil
 rw[List.append_nil]at this
 exact this
theorem zacj:∀{its:List Value}{ns:List Int},PyProof.Rows.IntsAre its ns→Vals (ns.map V.int) its
 | _,_,.nil=>.nil
 | _,_,.cons n t r=>.cons ⟨t,rfl⟩ (zacj r)
theorem zabt(w:Wo)(H:Hp):∀ns:List Int,Reps G w H (ns.map T.int) (ns.map V.int)
 | []=>rfl
 | n::r=>⟨_,_,rfl,rfl,zabt w H r⟩
theorem c_sorted:CallR X (.builtin "sorted") (rB1 G (b1R .sorted)):=by
 rintro pins s σ H xs us Q I rv ⟨v,rfl,w,st,rx,r,S,R1,e,q⟩
 obtain⟨ts,is,ht,hb,he⟩:=bind2 (f:=fun(_:List T) (is:List Int)=>if is.length<64 then some (R.val (.lst ((sortI is).map .int)))else none) e
 split at he
 ·rename_i h64
  cases he
  obtain⟨pa,vs,rfl,hp,rp⟩:=RepD.seq (s:=st) R1 ht
  obtain⟨u,rfl,ru⟩:=rv.one
  cases ru
  obtain⟨its,q1,hl⟩:=zaa8 I hp
  have hI:=zaby hb rp q1
  have hlen:=hI.length
  refine PyProof.Rows.sorted_ints hl hI (by omega) fun out ns' a1 a2 a3=>?_
  obtain⟨s1,s2⟩:=zagl is
  have en:ns'=sortI is:=PySem.W.ksm_same (a2.trans s1.symm) a3 s2
  subst en
  obtain⟨ee,he⟩:=PyProof.Rows.sortedAll_at s.heap its out
  have hf:H (s.heap.objs.size+1)=none:=I.hok.fresh (Nat.le_succ _)
  have hlen2:(sortI is).length≤sizeLine:=by
   rw[s1.length_eq]
   have:(64:Nat)≤sizeLine:=by decide
   omega
  refine⟨.ref (s.heap.objs.size+1),upd H (s.heap.objs.size+1) (.lst ((sortI is).map V.int)),I.laid (t':=s.toks) (fun b u e=>PyProof.Rows.sortedAll_old e) (Nat.le_succ _) ?_,rfl,zac1 S (zabt w H _) q _ hf⟩
  refine⟨by rw[List.length_map];exact hlen2,out.toList,ee,zacj a1,?_⟩
  rw[he]
 ·cases he
end
end IP
end
section
set_option Elab.async false
set_option linter.all false
set_option maxRecDepth 100000
namespace IP
open PySem PySem.Spec L2
def CXE(G:Gx)(P:Program)(w:World)(base:Heap):CXT:=fun outer H s E e s'=>
 ∃(a:Addr) (cls t:Value) (H':Hp) (h B:Heap),e=.ref a∧s'.os=s.os∧PyProof.Rows.AllBare s'.gens∧Un (frs outer) [] H H' s.heap h∧HOk P w H' h∧Flt outer h B a s'.heap∧base.StaysIn B∧Heap.FlyingW B outer a cls t s'.heap∧E cls none H'
section
variable{G:Gx}{X:Cx}{C:Cf}{k:Nat}{f fa:Addr}{fd:FuncData}{ps:List Str}{sp:Sp}{dvs:List V}{ds:List Value}{E:XK}
theorem Inv.after'{pins:List (Addr×Obj)}{σ:St}{H H':Hp}{s s':Shared}(I:Inv X pins σ H s)(os:s'.os=s.os)(bare:PyProof.Rows.AllBare s'.gens)(un:Un (frs X.stack) [] H H' s.heap s'.heap)(hok:HOk X.prog X.w H' s'.heap):Inv X pins σ H' s':=by
 obtain⟨hh,g,d,t,os'⟩:=s'
 obtain rfl:os'=s.os:=os
 exact I.call (h':=hh) (g':=g) (d':=d) (t':=t) (ch:=[]) un hok bare (fun b z=>absurd z (by simp))
theorem zadg{CX:CXT}{pins:List (Addr×Obj)}{σ:St}{H:Hp}{s:Shared}{Q:VK}{us:List Value}{vs:List V}(F:FnOk X.prog X.w X.K X.mg X.base CX k f fd ps sp)(hr:Room k X.A)(hb:Binds X.K fd ps ds)(hd:Vals dvs ds)
  (I:Inv X pins σ H s) (r:Vals vs us) (h:sp (vs++dvs) H Q E) (hx:∀e s',CX X.stack H s E e s'→X.xe e s'):wpAny (model X.prog X.w) X.A (call (.ref f) us) (EP X pins σ Q) X.xe s:=by
 have r2:Vals (vs++dvs) (us++ds):=r.append hd
 have hl:(us++ds).length=ps.length:=by rw[←r2.length];exact F.len _ _ _ _ h
 refine wpAny_call (codeAny_mono (F.run X.A X.stack s H ⟨us,[]⟩ (us++ds) (vs++dvs) Q E hr I.env0 (hb s us I.kIn hl) r2 h) fun r s' hq=>?_)
 cases r with
 | error e=>exact hx e s' hq
 | ok fl=>
  cases fl with
  | ret u=>exact I.after hq
  | next=>exact False.elim hq
  | brk=>exact False.elim hq
  | cont=>exact False.elim hq
def EX(G:Gx)(X:Cx)(σV:St):XK:=fun cls _ H'=>∀pins u sh h B a t,u=.ref a→Inv X pins σV H' { sh with heap:=h }→Flt X.stack h B a sh.heap→X.base.StaysIn B→Heap.FlyingW B X.stack a cls t sh.heap→X.xe u sh
theorem zabx{pins:List (Addr×Obj)}{σ:St}{H:Hp}{s:Shared}(I:Inv X pins σ H s)(e:Value)(s':Shared)(h:CXE G X.prog X.w X.base X.stack H s (EX G X σ) e s'):X.xe e s':=by
 obtain⟨a,cls,t,H',hh,B,rfl,os,bare,un,hok,fl,sb,fly,q⟩:=h
 exact q pins (.ref a) s' hh B a t rfl (Inv.after' (s':={ s' with heap:=hh }) I os bare un hok) fl sb fly
theorem zaa0{w:Wo}{H:Hp}:∀{rs qs:List R}{vs us:List V},RepRs G w H rs vs→RepRs G w H qs us→RepRs G w H (rs++qs) (vs++us)
 | [],qs,_,us,h,q=>by rw[h];exact q
 | t::ts,qs,_,us,⟨v,r,e,h,k⟩,q=>by subst e;exact⟨v,r++us,rfl,h,zaa0 k q⟩
def cstV:T→Option V
 | .non=>some .non | .bl b=>some (.bl b) | .int i=>some (.int i) | .str x=>some (.str x) | _=>none
theorem zabn{w:Wo}{H:Hp}:∀{ts:List T}{vs:List V},ts.mapM cstV=some vs→RepRs G w H (ts.map R.val) vs
 | [],vs,h=>by cases h;exact rfl
 | t::ts,vs,h=>by
  rw[List.mapM_cons]at h
  cases e:cstV t with
  | none=>simp[e]at h
  | some v=>
   cases e2:ts.mapM cstV with
   | none=>simp[e,e2]at h
   | some us=>
    simp[e,e2]at h
    subst h
    refine⟨v,us,rfl,?_,zabn e2⟩
    cases t<;>cases e<;>exact rfl
variable{es:List Expr}{es':List IP.E}{e₀:Expr}{fi:Nat}{x:Str}{p pos:Pos}{dts:List T}
theorem zado{w:Wo}{H:Hp}{σV:St}{m:Res (List R)}{k:List R→Sto→Res R}{Q:VK}(h:Want G X σV w H (m.bind k) Q):WantR G X σV w H m fun vs H1=>∃w1 rs s1,Le w w1 H H1∧StoOk G w1 H1 s1∧RepRs G w1 H1 rs vs∧Want G X σV w H (k rs s1) Q:=by
 cases m with
 | stuck=>exact h
 | ok rs s=>exact fun w' H' vs a b c=>⟨w',rs,s,a,b,c,h⟩
 | exc c s=>exact h
end
end IP
end
section
set_option Elab.async false
set_option linter.all false
set_option maxRecDepth 100000
namespace IP
open PySem PySem.Spec L2
def clo(cells:List (Str×Addr)):List (Str×NameKind)→List (Str×Addr)→List (Str×Addr)
 | [],acc=>acc
 | (n,k)::r,acc=>clo cells r (if k==.free then(match cells.lookup n with|some c=>(n,c)::acc|none=>acc)else acc)
theorem zaf5(scope:Scope)(env:Env)(h:∀x∈scope.names,x.2=.free→∃c,env.cells.lookup x.1=some c):closureFor scope env=pure (clo env.cells scope.names []):=by
 unfold closureFor
 generalize ([]:List (Str×Addr))=acc
 obtain⟨k,names,a,b,c⟩:=scope
 simp only at h ⊢
 induction names generalizing acc with
 | nil=>rfl
 | cons x r ih=>
  obtain⟨n,k⟩:=x
  have ih:=fun acc=>ih acc (fun y hy=>h y (List.mem_cons_of_mem _ hy))
  simp only[List.forIn_cons,clo]
  by_cases hk:(k==NameKind.free)=true
  ·have hk':k=.free:=by simpa using hk
   obtain⟨c,hc⟩:=h (n,k) (List.mem_cons_self ..) hk'
   have hc:List.lookup n env.cells=some c:=hc
   simp only[hk,if_true,cellOf,hc,pure_bind]
   exact ih _
  ·simp only[Bool.not_eq_true]at hk
   simp only[hk,Bool.false_eq_true,if_false,pure_bind]
   exact ih _
theorem zahv(cells:List (Str×Addr)):∀(names:List (Str×NameKind)) (acc:List (Str×Addr)),(∀x c,acc.lookup x=some c→cells.lookup x=some c)→∀x c,(clo cells names acc).lookup x=some c→cells.lookup x=some c
 | [],acc,h,x,c,e=>h x c e
 | (n,k)::r,acc,h,x,c,e=>by
  refine zahv cells r _ (fun y d q=>?_) x c e
  split at q
  ·split at q
   ·rename_i d' hd
    rw[List.lookup_cons]at q
    split at q
    ·rename_i hyn
     have:y=n:=by simpa using hyn
     subst this
     cases q
     exact hd
    ·exact h y d q
   ·exact h y d q
  ·exact h y d q
theorem zagd(cells:List (Str×Addr)):∀(names:List (Str×NameKind)) (acc:List (Str×Addr)) (x:Str),(∃c,acc.lookup x=some c)→∃c,(clo cells names acc).lookup x=some c
 | [],acc,x,h=>h
 | (n,k)::r,acc,x,h=>by
  refine zagd cells r _ x ?_
  split
  ·split
   ·rename_i d' hd
    rw[List.lookup_cons]
    split
    ·exact⟨_,rfl⟩
    ·exact h
   ·exact h
  ·exact h
theorem zagw(cells:List (Str×Addr)):∀(names:List (Str×NameKind)) (acc:List (Str×Addr)) (x:Str),(x,NameKind.free)∈names→(∃c,cells.lookup x=some c)→∃c,(clo cells names acc).lookup x=some c
 | [],acc,x,h,_=>by simp at h
 | (n,k)::r,acc,x,h,hc=>by
  rcases List.mem_cons.mp h with e|e
  ·cases e
   obtain⟨c,hc⟩:=hc
   refine zagd cells r _ _ ?_
   simp[hc]
  ·exact zagw cells r _ x e hc
theorem zack{α:Type}:∀{l:List (Str×α)}{x:Str}{a:α},l.lookup x=some a→(x,a)∈l
 | [],x,a,h=>by simp at h
 | (y,b)::r,x,a,h=>by
  rw[List.lookup_cons]at h
  split at h
  ·rename_i e
   have:x=y:=by simpa using e
   subst this
   cases h
   exact List.mem_cons_self ..
  ·exact List.mem_cons_of_mem _ (zack h)
theorem zacl(scope:Scope)(env:Env)(x:Str)(k:NameKind)(h:(relabel scope env).names.lookup x=some k):∃k',(x,k')∈scope.names∧((k=.cell∨k=.free)→k'=.cell∨k'=.free)∧(k=.local→k'=.local):=by
 have h:=zack h
 unfold relabel at h
 obtain⟨⟨n,k'⟩,hm,e⟩:=List.mem_map.mp h
 dsimp only at e
 split at e
 ·rename_i hc
  cases e
  have:k'=.free:=by
   have:=(Bool.and_eq_true _ _).mp hc
   have:=(Bool.and_eq_true _ _).mp this.1
   simpa using this.1
  exact⟨k',hm,fun _=>.inr this,fun z=>by cases z⟩
 ·cases e
  exact⟨_,hm,fun z=>z,fun z=>z⟩
section
variable{X:Cx}
def cxC(X:Cx)(N':List Str)(scope:Scope)(C:Addr)(fp:List Addr)(s2:Shared)(H2:Hp)(xe:Value→Shared→Prop):Cx:=
 { X with N:=N',s₀:=s2,H₀:=H2,env:=compEnvC scope (clo X.env.cells scope.names []) C X.env,outer:=X.stack,ex:=fp,fn:=fun _=>false,pn:=[],xe:=xe }
structure CompN(X:Cx)(scope:Scope)(N':List Str)(js:List Nat):Prop where
 kind:scope.kind=.function
 nocell:∀x∈scope.names,x.2≠.cell
 free:∀x∈scope.names,x.2=.free→X.env.kindOf x.1=some .cell∨X.env.kindOf x.1=some .free
 len:N'.length=X.N.length
 nd:N'.Nodup
 same:∀(i:Nat) (x:Str),N'[i]?=some x→i∉js→Vis (relabel scope X.env) x→X.N[i]?=some x∧(x,NameKind.free)∈scope.names∧((relabel scope X.env).names.lookup x=some .cell∨(relabel scope X.env).names.lookup x=some .free)
 locs:∀x∈scope.names,x.2=.local→scope.names.lookup x.1=some .local
def clr(σ:St)(js:List Nat):St:=js.foldl (fun σ j=>σ.set j none) σ
theorem clr_len(js:List Nat):∀σ:St,(clr σ js).length=σ.length:=by
 induction js with
 | nil=>intro σ;rfl
 | cons j js ih=>intro σ;show(clr (σ.set j none) js).length=_;rw[ih];simp
theorem clr_get(js:List Nat):∀(σ:St) (i:Nat) (v:V),(clr σ js)[i]?=some (some v)→σ[i]?=some (some v)∧i∉js:=by
 induction js with
 | nil=>intro σ i v h;exact⟨h,by simp⟩
 | cons j js ih=>
  intro σ i v h
  obtain⟨h1,h2⟩:=ih (σ.set j none) i v h
  by_cases e:j=i
  ·subst e
   rw[List.getElem?_set_self']at h1
   cases hq:σ[j]? with
   | none=>rw[hq]at h1;cases h1
   | some q=>rw[hq]at h1;cases h1
  ·rw[List.getElem?_set_ne e]at h1
   exact⟨h1,by simp[h2];exact fun z=>e z.symm⟩
theorem cxC_inv{pins:List (Addr×Obj)}{σ:St}{H:Hp}{s:Shared}{scope:Scope}{N':List Str}{js:List Nat}{fp:List Addr}{h4:Heap}{tk:Nat}{xe:Value→Shared→Prop}(hN:CompN X scope N' js)(I:Inv X pins σ H s)(hfp:∀b∈fp,FpOk X pins H b)(hfo:∀b∈fp,∃o,s.heap.get? b=some o)
  (hns:h4.Ns s.heap.objs.size (fun _=>none)) (hk:∀b o,s.heap.get? b=some o→h4.get? b=some o):
  Inv (cxC X N' scope s.heap.objs.size fp s H xe) [] (clr σ js) H { s with heap:=h4,toks:=tk }:=by
 have hlt:∀{b:Addr}{o:Obj},s.heap.get? b=some o→b≠s.heap.objs.size:=fun e=>Nat.ne_of_lt (Heap.lt_size e)
 have hsubc:=zahv X.env.cells scope.names [] (fun x c z=>by simp at z)
 have clt:∀x c,(clo X.env.cells scope.names []).lookup x=some c→c≠s.heap.objs.size:=fun x c e=>by
  obtain⟨v,hv⟩:=I.cell x c (hsubc x c e)
  obtain⟨o,ho,_⟩:=hv
  exact hlt ho
 have hkin:∀x:Str,(relabel scope X.env).names.lookup x=some .cell∨(relabel scope X.env).names.lookup x=some .free→(x,NameKind.free)∈scope.names:=fun x hx=>by
  have:∃k',(x,k')∈scope.names∧(k'=.cell∨k'=.free):=by
   rcases hx with hx|hx
   ·obtain⟨k',h1,h2,_⟩:=zacl _ _ _ _ hx;exact⟨k',h1,h2 (.inl rfl)⟩
   ·obtain⟨k',h1,h2,_⟩:=zacl _ _ _ _ hx;exact⟨k',h1,h2 (.inr rfl)⟩
  obtain⟨k',h1,h2⟩:=this
  rcases h2 with rfl|rfl
  ·exact absurd rfl (hN.nocell _ h1)
  ·exact h1
 have hcell:∀x:Str,(x,NameKind.free)∈scope.names→∃c,X.env.cells.lookup x=some c:=fun x hx=>I.ok.has x (hN.free (x,.free) hx rfl)
 have hstk:∀b∈frs X.stack,b∈X.env.locals::X.fs:=I.stkSub
 refine⟨⟨I.ok.mod,hN.kind,I.ok.glob,I.ok.blt,Nat.le_refl _,fun x y c h1 h2=>I.ok.inj x y c (hsubc _ _ h1) (hsubc _ _ h2),fun x hx=>?_,fun x c h _=>(Bool.noConfusion (show false=true from h)),I.ok.hd,I.ok.frames,.inl rfl,fun b hb=>?_,I.bs,Nat.le_trans I.ok.bsz I.sz,fun b o e hb=>?_,fun b hb hf=>?_,I.stack,I.stkFree⟩,
  rfl,I.bare,Un.kept hk,⟨_,hns,fun i x v h1 h2 h3=>?_⟩,fun x c h=>?_,I.hok.fresh (Nat.le_refl _),fun x c h=>I.freeC x c (hsubc _ _ h),fun p hp=>absurd (show p∈([]:List (Addr×Obj))from hp) (by simp),I.hok.kept hk,?_⟩
 ·exact zagw X.env.cells scope.names [] x (hkin x hx) (hcell x (hkin x hx))
 ·obtain⟨f0,f1,f2,f3,f4,f5⟩:=hfp b hb
  refine⟨fun z=>?_,fun x c e z=>f4 x c (hsubc _ _ e) z⟩
  obtain⟨o,ho⟩:=hfo b hb
  exact hlt ho z
 ·have:=I.bs b o e
  obtain⟨f0,f1,f2,f3,f4,f5⟩:=hfp b hb
  rcases f3 with f3|f3
  ·exact I.ok.noex b o e f3
  ·exact absurd (Nat.lt_of_lt_of_le (Heap.lt_size (I.ok.bs b o e).1) f3) (Nat.lt_irrefl _)
 ·obtain⟨f0,f1,f2,f3,f4,f5⟩:=hfp b hb
  rcases List.mem_cons.mp (hstk b hf)with z|z
  ·exact f1 z
  ·exact f2 z
 ·obtain⟨h2',hj⟩:=clr_get js σ i v h2
  obtain⟨q1,q2,q3⟩:=hN.same i x h1 hj h3
  obtain⟨m,hm,hl⟩:=I.loc
  have hkx:=hN.free (x,.free) q2 rfl
  obtain⟨u,ru,lk⟩:=hl i x v q1 h2' (.inr hkx)
  refine⟨u,ru,.inr ⟨q3,?_⟩⟩
  ·rcases lk with⟨k1,_⟩|⟨_,c,hc,ic⟩
   ·rcases hkx with z|z<;>(rw[z]at k1;cases k1)
   ·obtain⟨c',hc'⟩:=zagw X.env.cells scope.names [] x q2 ⟨c,hc⟩
    have:=hsubc _ _ hc'
    rw[hc]at this
    cases this
    exact⟨c,hc',ic.keeps hk⟩
 ·obtain⟨v,hv⟩:=I.cell x c (hsubc x c h)
  exact⟨v,hv.keeps hk⟩
 ·rw[clr_len,I.len]
  exact hN.len.symm
end
end IP
end
section
set_option Elab.async false
set_option linter.all false
set_option maxRecDepth 100000
namespace IP
open PySem PySem.Spec L2
section
variable{G:Gx}{w:Wo}{H H₀:Hp}
mutual
theorem Rep.upd{a:Addr}{xs ys:List V}(ha:H a=some (.lst xs))(hz:¬w.Z a):∀(t:T) (v:V),Rep G w H t v→Rep G w (L2.upd H a (.lst ys)) t v
 | .non,v,h=>h
 | .bl b,v,h=>h
 | .int i,v,h=>h
 | .str x,v,h=>h
 | .tup ts,v,⟨p,vs,e,h,r⟩=>⟨p,vs,e,by rw[upd_ne (ne_of h ha (by intro z;cases z))];exact h,Reps.upd ha hz ts vs r⟩
 | .lst ts,v,⟨p,vs,e,z,h,r⟩=>by
  have ne:p≠a:=fun q=>hz (q▸z)
  refine⟨p,vs,e,z,?_,Reps.upd ha hz ts vs r⟩
  rcases h with h|⟨o,h⟩
  ·exact .inl (by rw[upd_ne ne];exact h)
  ·exact .inr ⟨o,by rw[upd_ne ne];exact h⟩
 | .loc l,v,h=>h
 | .exc c,v,⟨p,e,h⟩=>⟨p,e,by rw[upd_ne (ne_of h ha (by intro z;cases z))];exact h⟩
theorem Reps.upd{a:Addr}{xs ys:List V}(ha:H a=some (.lst xs))(hz:¬w.Z a):∀(ts:List T) (vs:List V),Reps G w H ts vs→Reps G w (L2.upd H a (.lst ys)) ts vs
 | [],vs,h=>h
 | t::ts,vs,⟨v,r,e,h,q⟩=>⟨v,r,e,Rep.upd ha hz t v h,Reps.upd ha hz ts r q⟩
end
mutual
theorem Rep.zmono{w':Wo}(hn:w'.n=w.n)(hio:w'.io=w.io)(hz:∀a,w.Z a→w'.Z a):∀(t:T) (v:V),Rep G w H t v→Rep G w' H t v
 | .non,v,h=>h
 | .bl b,v,h=>h
 | .int i,v,h=>h
 | .str x,v,h=>h
 | .tup ts,v,⟨p,vs,e,h,r⟩=>⟨p,vs,e,h,Reps.zmono hn hio hz ts vs r⟩
 | .lst ts,v,⟨p,vs,e,z,h,r⟩=>⟨p,vs,e,hz _ z,h,Reps.zmono hn hio hz ts vs r⟩
 | .loc l,v,⟨h,e⟩=>⟨by rw[hn];exact h,by rw[hio];exact e⟩
 | .exc c,v,h=>h
theorem Reps.zmono{w':Wo}(hn:w'.n=w.n)(hio:w'.io=w.io)(hz:∀a,w.Z a→w'.Z a):∀(ts:List T) (vs:List V),Reps G w H ts vs→Reps G w' H ts vs
 | [],vs,h=>h
 | t::ts,vs,⟨v,r,e,h,q⟩=>⟨v,r,e,Rep.zmono hn hio hz t v h,Reps.zmono hn hio hz ts r q⟩
end
theorem StoOk.upd{s:Sto}{a:Addr}{xs ys:List V}(S:StoOk G w H s)(ha:H a=some (.lst xs))(hz:¬w.Z a)(hl:IP.notLoc w a):StoOk G w (L2.upd H a (.lst ys)) s where
 len:=S.len
 inj:=S.inj
 nz:=S.nz
 cell:=fun l c e=>by
  have h:l<w.n:=by rw[←S.len];exact(List.getElem?_eq_some_iff.mp e).1
  have q:=S.cell l c e
  have ne:w.io l≠a:=fun z=>hl l h z.symm
  cases c with
  | lst ts=>obtain⟨vs,q1,q2⟩:=q;exact⟨vs,by rw[upd_ne ne];exact q1,Reps.upd ha hz ts vs q2⟩
  | ins c fs=>obtain⟨dx,kvs,q1,q2,q3⟩:=q;exact⟨dx,kvs,by rw[upd_ne ne];exact q1,q2,fun i x t h1 h2=>let ⟨v,z1,z2⟩:=q3 i x t h1 h2;⟨v,z1,Rep.upd ha hz t v z2⟩⟩
  | tbl k p q'=>obtain⟨q0,ps,q1,q2,q3⟩:=q;exact⟨q0,ps,by rw[upd_ne ne];exact q1,q2,fun cv hcv=>let ⟨c,e1,e2⟩:=q3 cv hcv;⟨c,e1,by rw[upd_ne (ne_of e2 ha (by intro z;cases z))];exact e2⟩⟩
 zt:=fun p z=>by
  obtain⟨vs,r⟩:=S.zt p z
  have ne:p≠a:=fun q=>hz (q▸z)
  rcases r with r|⟨o,r⟩
  ·exact⟨vs,.inl (by rw[upd_ne ne];exact r)⟩
  ·exact⟨vs,.inr ⟨o,by rw[upd_ne ne];exact r⟩⟩
theorem StoOk.addZ{s:Sto}{a:Addr}{xs:List V}(S:StoOk G w H s)(ha:H a=some (.lst xs))(hl:IP.notLoc w a):StoOk G (w.addZ a) H s where
 len:=S.len
 inj:=S.inj
 nz:=fun l h z=>z.elim (S.nz l h) fun q=>hl l h q.symm
 cell:=fun l c e=>by
  have q:=S.cell l c e
  cases c with
  | lst ts=>obtain⟨vs,q1,q2⟩:=q;exact⟨vs,q1,Reps.zmono (w:=w) (w':=w.addZ a) rfl rfl (fun _ z=>.inl z) ts vs q2⟩
  | ins c fs=>obtain⟨dx,kvs,q1,q2,q3⟩:=q;exact⟨dx,kvs,q1,q2,fun i x t h1 h2=>let ⟨v,z1,z2⟩:=q3 i x t h1 h2;⟨v,z1,Rep.zmono (w:=w) (w':=w.addZ a) rfl rfl (fun _ z=>.inl z) t v z2⟩⟩
  | tbl k p q'=>exact q
 zt:=fun p z=>z.elim (S.zt p) fun q=>⟨xs,.inl (by rw[q];exact ha)⟩
theorem Le.updNew{w':Wo}{H':Hp}{a:Addr}{o:HO}(L:Le w w' H H')(ha:H a=none)(hs:H' a≠none):Le w w' H (L2.upd H' a o)where
 n:=L.n
 io:=L.io
 Z:=L.Z
 keep:=fun p q e nl=>by rw[upd_ne (zach e ha)];exact L.keep p q e nl
 newL:=L.newL
 newZ:=L.newZ
 some_:=fun p z=>by
  by_cases e:p=a
  ·subst e;exact absurd ha z
  ·rw[upd_ne e];exact L.some_ p z
theorem Le.addZ{w':Wo}{H':Hp}{a:Addr}(L:Le w w' H H')(ha:H a=none):Le w (w'.addZ a) H H' where
 n:=L.n
 io:=L.io
 Z:=fun p z=>.inl (L.Z p z)
 keep:=L.keep
 newL:=L.newL
 newZ:=fun p z=>z.elim (L.newZ p) fun q=>.inr (q▸ha)
 some_:=L.some_
theorem want_o{X:Cx}{σV:St}{res:Res R}{Q:VK}(hv:∀r s,res=.ok r s→∃ts,r=.val (.lst ts))(h:Want G X σV w H res Q):WantO G X σV w H res Q:=by
 cases res with
 | stuck=>exact h
 | exc c s=>exact h
 | ok r s=>
  obtain⟨ts,rfl⟩:=hv r s rfl
  intro w' H' a vs L S ha r hn nz nl
  exact h (w'.addZ a) H' (.ref a) (L.addZ hn) (S.addZ ha nl) ⟨a,vs,rfl,.inr rfl,.inl ha,Reps.zmono (w:=w') (w':=w'.addZ a) rfl rfl (fun _ z=>.inl z) ts vs r⟩
theorem FrOk.put{σ:Fr}{σV:St}{i:Nat}{t:T}{v:V}(F:FrOk G w H H₀ σ σV)(r:Rep G w H t v):FrOk G w H H₀ (put σ i t) (σV.set i (some v))where
 len:=by unfold IP.put;simp[F.len]
 val:=fun j u e=>by
  unfold IP.put at e
  by_cases hj:i=j
  ·subst hj
   have hlt:i<σ.length:=by
    have:=(List.getElem?_eq_some_iff.mp e).1
    simpa using this
   rw[List.getElem?_set_self hlt]at e
   cases e
   exact⟨v,by rw[List.getElem?_set_self (by rw[←F.len];exact hlt)],r⟩
  ·rw[List.getElem?_set_ne hj]at e
   obtain⟨x,h1,h2⟩:=F.val j u e
   exact⟨x,by rw[List.getElem?_set_ne hj];exact h1,h2⟩
 own:=fun j b ts e eb=>by
  unfold IP.put at e
  by_cases hj:i=j
  ·subst hj
   have hlt:i<σ.length:=by
    have:=(List.getElem?_eq_some_iff.mp e).1
    simpa using this
   rw[List.getElem?_set_self hlt]at e
   cases e
   cases eb
  ·rw[List.getElem?_set_ne hj]at e
   obtain⟨a,vs,h1,h2⟩:=F.own j b ts e eb
   exact⟨a,vs,by rw[List.getElem?_set_ne hj];exact h1,h2⟩
 apart:=fun j k b c ts us a hjk e1 eb e2 ec e3 e4=>by
  unfold IP.put at e1 e2
  have nj:i≠j:=fun q=>by
   subst q
   have hlt:i<σ.length:=by
    have:=(List.getElem?_eq_some_iff.mp e1).1
    simpa using this
   rw[List.getElem?_set_self hlt]at e1
   cases e1
   cases eb
  have nk:i≠k:=fun q=>by
   subst q
   have hlt:i<σ.length:=by
    have:=(List.getElem?_eq_some_iff.mp e2).1
    simpa using this
   rw[List.getElem?_set_self hlt]at e2
   cases e2
   cases ec
  rw[List.getElem?_set_ne nj]at e1 e3
  rw[List.getElem?_set_ne nk]at e2 e4
  exact F.apart j k b c ts us a hjk e1 eb e2 ec e3 e4
 bor:=fun j ts e=>by
  unfold IP.put at e
  by_cases hj:i=j
  ·subst hj
   have hlt:i<σ.length:=by
    have:=(List.getElem?_eq_some_iff.mp e).1
    simpa using this
   rw[List.getElem?_set_self hlt]at e
   cases e
  ·rw[List.getElem?_set_ne hj]at e
   obtain⟨a,vs,h1,h2⟩:=F.bor j ts e
   exact⟨a,vs,by rw[List.getElem?_set_ne hj];exact h1,h2⟩
def setsV(σV:St):List Nat→List V→St
 | [],_=>σV
 | _,[]=>σV
 | i::is,v::vs=>setsV (σV.set i (some v)) is vs
theorem zafb:∀(is:List Nat) (vs:List V) (σV:St),(setsV σV is vs).length=σV.length
 | [],_,σV=>rfl
 | i::is,[],σV=>rfl
 | i::is,v::vs,σV=>by show(setsV (σV.set i (some v)) is vs).length=_;rw[zafb is vs];simp
theorem FrOk.puts:∀{is:List Nat}{ts:List T}{vs:List V}{σ σ':Fr}{σV:St},FrOk G w H H₀ σ σV→Reps G w H ts vs→IP.puts σ is ts=some σ'→FrOk G w H H₀ σ' (setsV σV is vs)
 | [],[],vs,σ,σ',σV,F,r,h=>by cases h;exact F
 | [],_::_,vs,σ,σ',σV,F,r,h=>by cases h
 | _::_,[],vs,σ,σ',σV,F,r,h=>by cases h
 | i::is,t::ts,_,σ,σ',σV,F,⟨v,r,e,h1,h2⟩,h=>by
  subst e
  have z:=FrOk.puts (is:=is) (ts:=ts) (vs:=r) (σ':=σ') (F.put (i:=i) h1) h2 h
  exact z
theorem set_comm'{σV:St}{i j:Nat}{x y:Option V}(h:i≠j):(σV.set i x).set j y=(σV.set j y).set i x:=List.set_comm x y h
theorem zah7{σV:St}{j:Nat}{x:Option V}:∀{js:List Nat},j∉js→clr (σV.set j x) js=(clr σV js).set j x
 | [],_=>rfl
 | k::js,h=>by
  show clr ((σV.set j x).set k none) js=(clr (σV.set k none) js).set j x
  rw[set_comm' (fun q=>h (by simp[q]))]
  exact zah7 (σV:=σV.set k none) fun q=>h (List.mem_cons_of_mem _ q)
theorem zae3:∀{js:List Nat}{vs:List V}{σV:St},js.Nodup→js.length=vs.length→setsV (clr σV js) js vs=setsV σV js vs
 | [],[],σV,_,_=>rfl
 | j::js,v::vs,σV,hn,hl=>by
  obtain⟨h1,h2⟩:=List.nodup_cons.mp hn
  show setsV ((clr (σV.set j none) js).set j (some v)) js vs=setsV (σV.set j (some v)) js vs
  rw[zah7 h1,List.set_set,←zah7 h1]
  exact zae3 h2 (by simpa using hl)
 | j::js,[],σV,hn,hl=>by simp at hl
 | [],_::_,σV,hn,hl=>by simp at hl
end
end IP
end
section
set_option Elab.async false
set_option linter.all false
set_option maxRecDepth 100000
namespace IP
open PySem PySem.Spec L2
section
variable{prog:Program}{w:World}{A:Around}{E:Value→Shared→Prop}{s:Shared}
theorem zagi{it l:Addr}{items:Array Value}(hne:l≠it):∀(n i:Nat) (s:Shared) (Q:List Value→Shared→Prop),s.heap.IsListIter it l i→s.heap.IsList l items→i+n≤items.size→
  (∀h',h'.IsListIter it l (i+n)→Heap.SameBut it s.heap h'→Q ((items.toList.drop i).take n) { s with heap:=h' })→wpAny (model prog w) A (draw (.ref it) n) Q E s
 | 0,i,s,Q,hit,_,_,hQ=>by
  show wpAny _ _ (pure []) Q E s
  exact wpAny_pure (by simpa using hQ s.heap hit (Heap.SameBut.refl ..))
 | n+1,i,s,Q,hit,ht,hle,hQ=>by
  have hlt:i<items.size:=by omega
  show wpAny _ _ (pyNext (.ref it) >>= _) Q E s
  refine wpAny_bind (wpAny_pyNext_list_item hit ht (x:=items[i]) (by simp[hlt]) fun h₁ hit₁ hs₁=>?_)
  refine wpAny_bind (wpAny_holding (zagi hne n (i+1) _ _ hit₁ (ht.extBut hs₁.extBut hne) (by omega) fun h₂ hit₂ hs₂=>wpAny_pure ?_))
  have hd:items.toList.drop i=items[i]::items.toList.drop (i+1):=by simp[List.drop_eq_getElem_cons,hlt]
  have:=hQ h₂ (by rw[show i+(n+1)=i+1+n by omega];exact hit₂) (hs₁.trans hs₂)
  rw[hd,List.take_succ_cons]at this
  exact this
theorem zacw{l:Addr}{items:Array Value}{Q:List Value→Shared→Prop}(hh:A.handled=none)(ht:s.heap.IsList l items)
  (hQ:∀h',Heap.ExtBut s.heap.objs.size s.heap h'→Q items.toList { s with heap:=h' }):wpAny (model prog w) A (unpackItems (.ref l) items.size none) Q E s:=by
 have hlt:l≠s.heap.objs.size:=by obtain⟨o,ho,_⟩:=ht;exact Nat.ne_of_lt (Heap.lt_size ho)
 unfold unpackItems
 refine wpAny_bind ?_
 ·unfold notIterableAtAll
  refine wpAny_bind (wpAny_specialOf ht.typeIs slot_list_iter.lookup ?_)
  refine wpAny_pure ?_
  simp only[Bool.false_eq_true,if_false]
  refine wpAny_bind (wpAny_holding (wpAny_pyIter_list ht ?_))
  have ht0:(s.heap.push { cls:=.type "list_iterator",data:=.fields #[.ref l,.int 0 0] }).IsList l items:=ht.extBut (b:=s.heap.objs.size) (fun b o _ e=>Heap.get?_push_of_some _ e) hlt
  refine wpAny_bind (wpAny_holding (zagi hlt items.size 0 _ _ ⟨_,Heap.get?_push_size _ rfl,rfl,rfl⟩ ht0 (by omega) fun h₁ hit₁ hs₁=>?_))
  have hall:List.take items.size (List.drop 0 items.toList)=items.toList:=by
   rw[List.drop_zero];exact List.take_of_length_le (by simp)
  rw[hall]
  rw[if_neg (by simp)]
  have ht₁:h₁.IsList l items:=ht0.extBut hs₁.extBut hlt
  refine wpAny_bind (wpAny_holding (wpAny_pyNext_list_end hh hit₁ ht₁ (by simp) fun h₂ he₂=>?_))
  simp only[Option.isSome_none,Bool.false_eq_true,if_false]
  refine wpAny_pure (hQ h₂ fun b o hb e=>he₂ b o hb (hs₁.extBut b o hb (Heap.get?_push_of_some _ e)))
theorem zacq{env:Env}{elts:List Expr}{x1}{pos:Pos}{l:Addr}{items:Array Value}{Q:Unit→Shared→Prop}(hh:A.handled=none)(ht:s.heap.IsList l items)
  (hn:(assignEach elts env).length=items.size) (hstar:(assignEach elts env).findIdx? (·.1)=none)
  (h:∀h',Heap.ExtBut s.heap.objs.size s.heap h'→wpAny (model prog w) A (assignInOrder ((assignEach elts env).map (·.2)) items.toList) Q E { s with heap:=h' }):
  wpAny (model prog w) A (assign (.Tuple elts x1 pos) env (.ref l)) Q E s:=by
 rw[PyProof.Rows.assign_Tuple]
 refine wpAny_bind (wpAny_standAt ?_)
 unfold unpack
 rw[hn,hstar]
 exact wpAny_bind (wpAny_holding (zacw hh ht h))
end
section
variable{X:Cx}
theorem pg_lst{es:List Expr}{k:Nat}{t:TGs}{n:Nat}{pos:Pos}(hc:X.calm=true)(h:PGs X es t)(hn:(assignEach es X.env).length=n)(hst:(assignEach es X.env).findIdx? (·.1)=none):
  PG X (.Tuple es k pos) (fun v σ H Q=>∃a xs,v=.ref a∧Rd H a (.lst xs)∧xs.length=n∧t xs σ H Q):=by
 intro pins s σ H v u Q I r hw
 obtain⟨a,xs,e1,hq,hl,hw⟩:=hw
 subst e1
 cases r
 obtain⟨its,rv,p⟩:=zaa8 I hq
 refine zacq (I.ok.hd hc) p (by simp[hn,←hl,rv.length]) hst fun h' hx=>?_
 have I1:Inv X pins σ H { s with heap:=h' }:=I.kept (t':=s.toks) fun b o e=>hx b o (Nat.ne_of_lt (Heap.lt_size e)) e
 exact h pins _ σ H xs _ Q I1 (by simpa using rv) hw
end
end IP
end
section
set_option Elab.async false
set_option linter.all false
set_option maxRecDepth 100000
namespace IP
open PySem PySem.Spec L2
inductive Src where
 | l (a:Addr) (vs:List V)|t (a:Addr) (vs:List V)|r (lo:Int) (n:Nat)
def itOf(K:PySem.W.Frag):Src→It
 | .l a _=>Itl K a
 | .t a _=>Itt K a
 | .r lo n=>Itr lo n
def SrcOk(G:Gx)(w:Wo)(H:Hp)(z:Bool):Src→List T→Prop
 | .l a vs,ts=>Rd H a (.lst vs)∧Reps G w H ts vs∧notLoc w a∧(z=true→w.Z a)
 | .t a vs,ts=>H a=some (.tup vs)∧Reps G w H ts vs
 | .r lo n,ts=>ts=(List.range n).map (fun(k:Nat)=>T.int (lo+k))∧n≤sizeLine
section
variable{G:Gx}{X:Cx}{C:Cf}{w w':Wo}{H H':Hp}
theorem Rd.some{a:Addr}{u:HO}(r:Rd H a u):H a≠none:=by
 rcases r with r|⟨o,r⟩<;>(rw[r];intro z;cases z)
theorem SrcOk.mono{z:Bool}{s:Sto}(L:Le w w' H H')(S:StoOk G w H s):∀{src:Src}{ts:List T},SrcOk G w H z src ts→SrcOk G w' H' z src ts
 | .l a vs,ts,⟨h1,h2,h3,h4⟩=>⟨Rd.keep L h3 h1,Reps.mono L S ts vs h2,notLoc.mono L (Rd.some h1) h3,fun q=>L.Z a (h4 q)⟩
 | .t a vs,ts,⟨h1,h2⟩=>⟨L.keep _ _ h1 (S.notLoc h1 (fun _ z=>by cases z) fun _ _ _ z=>by cases z),Reps.mono L S ts vs h2⟩
 | .r lo n,ts,h=>h
def SrcNow(G:Gx)(w:Wo)(H:Hp):Src→List T→Prop
 | .l a _,ts=>∃vs,Rd H a (.lst vs)∧Reps G w H ts vs
 | .t a vs,ts=>H a=some (.tup vs)∧Reps G w H ts vs
 | .r lo n,ts=>ts=(List.range n).map (fun(k:Nat)=>T.int (lo+k))∧n≤sizeLine
theorem SrcOk.now{z:Bool}:∀{src:Src}{ts:List T},SrcOk G w H z src ts→SrcNow G w H src ts
 | .l _ vs,_,h=>⟨vs,h.1,h.2.1⟩
 | .t _ _,_,h=>h
 | .r _ _,_,h=>h
theorem SrcNow.go:∀{src:Src}{ts:List T}{K:PySem.W.Frag}{i:Nat}{t:T},SrcNow G w H src ts→ts[i]?=some t→(itOf K src).go i H∧∀x H',(itOf K src).yld i H x H'→H'=H∧Rep G w H t x
 | .l a _,ts,K,i,t,⟨vs,h1,h2⟩,e=>by
  obtain⟨v,e1,r⟩:=h2.get e
  refine⟨⟨vs,v,.inl h1,e1⟩,fun x H' ⟨q1,q2⟩=>⟨q1,?_⟩⟩
  have:=q2 vs (.inl h1)
  rw[e1]at this
  cases this
  exact r
 | .t a vs,ts,K,i,t,⟨h1,h2⟩,e=>by
  obtain⟨v,e1,r⟩:=h2.get e
  refine⟨⟨vs,v,SqT.of h1,e1⟩,fun x H' ⟨q1,q2⟩=>⟨q1,?_⟩⟩
  have:=q2 vs (SqT.of h1)
  rw[e1]at this
  cases this
  exact r
 | .r lo n,ts,K,i,t,⟨h1,_⟩,e=>by
  subst h1
  rw[List.getElem?_map]at e
  obtain⟨k,hk,rfl⟩:=map_some e
  obtain⟨hi,hk⟩:=List.getElem?_eq_some_iff.mp hk
  simp at hi hk
  subst hk
  refine⟨hi,fun x H' ⟨q1,q2⟩=>⟨q1,?_⟩⟩
  rw[q2]
  exact rfl
theorem SrcNow.stop:∀{src:Src}{ts:List T}{K:PySem.W.Frag},SrcNow G w H src ts→(itOf K src).stop ts.length H
 | .l a _,ts,K,⟨vs,h1,h2⟩=>⟨vs,.inl h1,by rw[h2.length];exact Nat.le_refl _⟩
 | .t a vs,ts,K,⟨h1,h2⟩=>⟨vs,SqT.of h1,by rw[h2.length];exact Nat.le_refl _⟩
 | .r lo n,ts,K,⟨h1,_⟩=>by subst h1;show n≤_;simp
theorem SrcNow.small{pins:List (Addr×Obj)}{σ:St}{s:Shared}(I:Inv X pins σ H s):∀{src:Src}{ts:List T},SrcNow G w H src ts→ts.length≤sizeLine
 | .l a _,ts,⟨vs,h1,h2⟩=>by rw[h2.length];exact(Rd.lst I h1).1
 | .t a vs,ts,⟨h1,h2⟩=>by
  rw[h2.length]
  exact(I.hok a _ h1).1
 | .r lo n,ts,⟨h1,h2⟩=>by subst h1;simpa using h2
theorem SrcOk.go{z:Bool}{src:Src}{ts:List T}{K:PySem.W.Frag}{i:Nat}{t:T}(h:SrcOk G w H z src ts)(e:ts[i]?=some t):(itOf K src).go i H∧∀x H',(itOf K src).yld i H x H'→H'=H∧Rep G w H t x:=h.now.go e
theorem SrcOk.stop{z:Bool}{src:Src}{ts:List T}{K:PySem.W.Frag}(h:SrcOk G w H z src ts):(itOf K src).stop ts.length H:=h.now.stop
theorem SrcOk.small{z:Bool}{pins:List (Addr×Obj)}{σ:St}{s:Shared}(I:Inv X pins σ H s){src:Src}{ts:List T}(h:SrcOk G w H z src ts):ts.length≤sizeLine:=h.now.small I
def WantI(G:Gx)(X:Cx)(σV:St)(w:Wo)(H:Hp)(z:Bool)(res:Res R)(Q:It→Hp→Prop):Prop:=match res with
 | .ok (.val (.lst ts)) s'=>∀w' H' src,Le w w' H H'→StoOk G w' H' s'→SrcOk G w' H' z src ts→Q (itOf X.K src) H'
 | .exc c s'=>∀w' H' pins u sh,Le w w' H H'→StoOk G w' H' s'→Thrown G X pins σV H' c u sh→X.xe u sh
 | _=>False
def tI(G:Gx)(X:Cx)(C:Cf)(e:E)(m:Md)(z:Bool):TI:=fun σV H R=>∃w₀ H₀ w σ s,Good G w₀ H₀ w H σ s σV∧WantI G X σV w H z (ev C e m σ s) R
theorem PI.imp{tg e:Expr}{t t':TI}(h:PI X tg e t)(q:∀σ H R,t' σ H R→t σ H R):PI X tg e t':=fun pins s σ H R I z=>h pins s σ H R I (q _ _ _ z)
theorem pi_seq{tg l:Expr}{tl:TE}(hl:PE X l tl):PI X tg l (fun σ H R=>tl σ H fun x H1=>∃a,x=.ref a∧((∃xs,Rd H1 a (.lst xs)∧R (Itl X.K a) H1)∨∃xs,H1 a=some (.tup xs)∧R (Itt X.K a) H1)):=by
 intro pins s σ H R I h
 refine thn (hl pins s σ H _ I h) fun v s1 ⟨x,H1,I1,r1,q1⟩=>?_
 obtain⟨a,e,q⟩:=q1
 subst e
 cases r1
 have hf:∀b∈[s1.heap.objs.size],FpOk X pins H1 b:=fun b hb=>by
  have e:b=s1.heap.objs.size:=by simpa using hb
  subst e
  exact I1.fpOk (Nat.le_refl _) (I1.hok.fresh (Nat.le_refl _))
 rcases q with⟨xs,hq,q⟩|⟨xs,hq,q⟩
 ·obtain⟨its,rv,p⟩:=zaa8 I1 hq
  refine wpAny_pyIter_list p ?_
  exact⟨s1.heap.objs.size,[s1.heap.objs.size],_,_,H1,rfl,I1.kept (t':=s1.toks) fun b o e=>Heap.get?_push_of_some _ e,turn_list a _,⟨_,Heap.get?_push_size _ rfl,rfl,rfl⟩,hf,q⟩
 ·obtain⟨its,rv,p⟩:=zabg I1 hq
  refine wpAny_pyIter_tuple p ?_
  exact⟨s1.heap.objs.size,[s1.heap.objs.size],_,_,H1,rfl,I1.kept (t':=s1.toks) fun b o e=>Heap.get?_push_of_some _ e,zaf0 a _,⟨_,Heap.get?_push_size _ rfl,rfl,rfl⟩,hf,q⟩
theorem zagf{tg e:Expr}{e':E}{m:Md}{z:Bool}(hE:PE X e (tV G X C e'))(hm:m=.i∧z=false∨m=.j∧z=true)
  (hev:∀σ s,ev C e' m σ s=fin m (ev C e' .v σ s)):PI X tg e (tI G X C e' m z):=by
 refine PI.imp (pi_seq hE) ?_
 rintro σV H R ⟨w₀,H₀,w,σ,s,g,h⟩
 rw[hev]at h
 refine⟨w₀,H₀,w,σ,s,g,?_⟩
 cases he:ev C e' .v σ s with
 | stuck=>rw[he]at h;rcases hm with⟨rfl,rfl⟩|⟨rfl,rfl⟩<;>exact h
 | exc c s1=>rw[he]at h;rcases hm with⟨rfl,rfl⟩|⟨rfl,rfl⟩<;>exact h
 | ok x s1=>
  rw[he]at h
  intro w1 H1 v L1 S1 R1
  match x,R1 with
  | .val (.lst ts),⟨a,vs,e,hz,hr,rp⟩=>
   subst e
   refine⟨a,rfl,.inl ⟨vs,hr,?_⟩⟩
   rcases hm with⟨rfl,rfl⟩|⟨rfl,rfl⟩<;>exact h w1 H1 (.l a vs) L1 S1 ⟨hr,rp,S1.zLoc hz,fun _=>hz⟩
  | .val (.tup ts),⟨a,vs,e,hr,rp⟩=>
   subst e
   refine⟨a,rfl,.inr ⟨vs,hr,?_⟩⟩
   rcases hm with⟨rfl,rfl⟩|⟨rfl,rfl⟩<;>exact h w1 H1 (.t a vs) L1 S1 ⟨hr,rp⟩
  | .bor ts,⟨a,vs,e,hr,rp,nl⟩=>
   subst e
   rcases hm with⟨rfl,rfl⟩|⟨rfl,rfl⟩
   ·exact⟨a,rfl,.inl ⟨vs,.inl hr,h w1 H1 (.l a vs) L1 S1 ⟨.inl hr,rp,nl,fun z=>by cases z⟩⟩⟩
   ·exact h.elim
  | .val .non,_=>rcases hm with⟨rfl,rfl⟩|⟨rfl,rfl⟩<;>exact h.elim
  | .val (.bl _),_=>rcases hm with⟨rfl,rfl⟩|⟨rfl,rfl⟩<;>exact h.elim
  | .val (.int _),_=>rcases hm with⟨rfl,rfl⟩|⟨rfl,rfl⟩<;>exact h.elim
  | .val (.str _),_=>rcases hm with⟨rfl,rfl⟩|⟨rfl,rfl⟩<;>exact h.elim
  | .val (.loc _),_=>rcases hm with⟨rfl,rfl⟩|⟨rfl,rfl⟩<;>exact h.elim
  | .val (.exc _),_=>rcases hm with⟨rfl,rfl⟩|⟨rfl,rfl⟩<;>exact h.elim
theorem bnd_of{i:Int}(h:bnd i=true):-(2^62)≤i∧i<2^62:=by
 unfold bnd at h
 rw[Bool.and_eq_true,decide_eq_true_iff,decide_eq_true_iff]at h
 exact h
theorem lim_le:lim≤sizeLine:=by decide
theorem sI_rng1{tg a:Expr}{a':E}{p pos:Pos}{m:Md}{z:Bool}(hm:m=.i∨m=.j)(hg:Gl X "range")(hmg:X.mg "range"=none)(ha:PE X a (tV G X C a'))(hs:starEach [a] X.env=[(false,eval a X.env)]):PI X tg (.Call (.Name "range" p) [a] [] pos) (tI G X C (.rng1 a') m z):=by
 refine PI.imp (pi_range1 hg hmg (zaa3 ha pa_nil hs) hs) ?_
 rintro σV H R ⟨w₀,H₀,w,σ,s,g,h⟩
 have h:WantI G X σV w H z ((ev C a' .v σ s).bind fun x s1=>onI x fun j=>if bnd j&&decide (j≤lim)then .ok (.val (.lst (rangeT 0 j))) s1 else .stuck) R:=by rcases hm with rfl|rfl<;>exact h
 refine⟨w₀,H₀,w,σ,s,g,?_⟩
 cases he:ev C a' .v σ s with
 | stuck=>rw[he]at h;exact h
 | exc c s1=>rw[he]at h;exact h
 | ok x s1=>
  rw[he]at h
  intro w1 H1 v L1 S1 R1
  match x,R1,h with
  | .val (.int j),R1,h=>
   cases R1
   have h:WantI G X σV w H z (if bnd j&&decide (j≤lim)then .ok (.val (.lst (rangeT 0 j))) s1 else .stuck) R:=h
   split at h
   ·rename_i hb
    rw[Bool.and_eq_true,decide_eq_true_iff]at hb
    refine⟨j,rfl,(bnd_of hb.1).1,(bnd_of hb.1).2,?_⟩
    refine h w1 H1 (.r 0 j.toNat) L1 S1 ⟨?_,?_⟩
    ·unfold rangeT;simp
    ·have:=lim_le;omega
   ·exact h.elim
  | .val .non,_,h=>exact h.elim
  | .val (.bl _),_,h=>exact h.elim
  | .val (.str _),_,h=>exact h.elim
  | .val (.tup _),_,h=>exact h.elim
  | .val (.lst _),_,h=>exact h.elim
  | .val (.loc _),_,h=>exact h.elim
  | .val (.exc _),_,h=>exact h.elim
  | .bor _,_,h=>exact h.elim
theorem sI_rng2{tg a b:Expr}{a' b':E}{p pos:Pos}{m:Md}{z:Bool}(hm:m=.i∨m=.j)(hg:Gl X "range")(hmg:X.mg "range"=none)(ha:PE X a (tV G X C a'))(hb:PE X b (tV G X C b'))(hs:starEach [a,b] X.env=[(false,eval a X.env),(false,eval b X.env)])(hs2:starEach [b] X.env=[(false,eval b X.env)]):PI X tg (.Call (.Name "range" p) [a,b] [] pos) (tI G X C (.rng2 a' b') m z):=by
 refine PI.imp (pi_range2 hg hmg (zaa3 ha (zaa3 hb pa_nil hs2) (by rw[hs,hs2])) hs hs2) ?_
 rintro σV H R ⟨w₀,H₀,w,σ,s,g,h⟩
 have h:WantI G X σV w H z ((ev C a' .v σ s).bind fun x s1=>onI x fun i=>(ev C b' .v σ s1).bind fun y s2=>onI y fun j=>if bnd i&&bnd j&&decide (j-i≤lim)then .ok (.val (.lst (rangeT i j))) s2 else .stuck) R:=by rcases hm with rfl|rfl<;>exact h
 refine⟨w₀,H₀,w,σ,s,g,?_⟩
 cases he:ev C a' .v σ s with
 | stuck=>rw[he]at h;exact h
 | exc c s1=>rw[he]at h;exact h
 | ok x s1=>
  rw[he]at h
  intro w1 H1 v L1 S1 R1
  match x,R1,h with
  | .val (.int i),R1,h=>
   cases R1
   refine⟨w₀,H₀,w1,σ,s1,g.step L1 S1,?_⟩
   have h:WantI G X σV w H z ((ev C b' .v σ s1).bind fun y s2=>onI y fun j=>if bnd i&&bnd j&&decide (j-i≤lim)then .ok (.val (.lst (rangeT i j))) s2 else .stuck) R:=h
   cases hf:ev C b' .v σ s1 with
   | stuck=>rw[hf]at h;exact h
   | exc c s2=>rw[hf]at h;exact fun w2 H2 pins u sh L2=>h w2 H2 pins u sh (L1.trans L2)
   | ok y s2=>
    rw[hf]at h
    intro w2 H2 v2 M2 S2 R2
    match y,R2,h with
    | .val (.int j),R2,h=>
     cases R2
     have h:WantI G X σV w H z (if bnd i&&bnd j&&decide (j-i≤lim)then .ok (.val (.lst (rangeT i j))) s2 else .stuck) R:=h
     split at h
     ·rename_i hb
      rw[Bool.and_eq_true,Bool.and_eq_true,decide_eq_true_iff]at hb
      refine⟨i,j,rfl,⟨(bnd_of hb.1.1).1,(bnd_of hb.1.1).2,(bnd_of hb.1.2).1,(bnd_of hb.1.2).2⟩,?_⟩
      refine h w2 H2 (.r i (j-i).toNat) (L1.trans M2) S2 ⟨rfl,?_⟩
      have:=lim_le
      omega
     ·exact h.elim
    | .val .non,_,h=>exact h.elim
    | .val (.bl _),_,h=>exact h.elim
    | .val (.str _),_,h=>exact h.elim
    | .val (.tup _),_,h=>exact h.elim
    | .val (.lst _),_,h=>exact h.elim
    | .val (.loc _),_,h=>exact h.elim
    | .val (.exc _),_,h=>exact h.elim
    | .bor _,_,h=>exact h.elim
  | .val .non,_,h=>exact h.elim
  | .val (.bl _),_,h=>exact h.elim
  | .val (.str _),_,h=>exact h.elim
  | .val (.tup _),_,h=>exact h.elim
  | .val (.lst _),_,h=>exact h.elim
  | .val (.loc _),_,h=>exact h.elim
  | .val (.exc _),_,h=>exact h.elim
  | .bor _,_,h=>exact h.elim
def slots:Tg→List Nat
 | .one i=>[i]
 | .many is=>is
def gTg(G:Gx)(g:Tg):TG:=fun v σV H Q=>∃w s t σ σ',StoOk G w H s∧Rep G w H t v∧bindTg σ g t=some σ'∧∀vs,(∀H₀ σV',FrOk G w H H₀ σ σV'→FrOk G w H H₀ σ' (setsV σV' (slots g) vs))→vs.length=(slots g).length→Q (setsV σV (slots g) vs) H
theorem PG.imp{tg:Expr}{t t':TG}(h:PG X tg t)(q:∀v σ H Q,t' v σ H Q→t v σ H Q):PG X tg t':=fun pins s σ H v u Q I r z=>h pins s σ H v u Q I r (q _ _ _ _ z)
theorem sG_one{i:Nat}{x:Str}{pos:Pos}(hN:X.N.Nodup)(hi:X.N[i]?=some x)(hx:Loc X.env.scope x)(hf:X.fn x=true∨X.env.scope.names.lookup x=some .local):PG X (.Name x pos) (gTg G (.one i)):=by
 refine PG.imp (pg_name hN hi hx hf) ?_
 rintro v σV H Q ⟨w,s,t,σ,σ',S,r,e,q⟩
 cases e
 exact q [v] (fun H₀ σV' F=>F.put r) rfl
def gMany(js:List Nat):TGs:=fun vs σ H Q=>vs.length=js.length∧Q (setsV σ js vs) H
theorem PGs.imp{ts:List Expr}{t t':TGs}(h:PGs X ts t)(q:∀v σ H Q,t' v σ H Q→t v σ H Q):PGs X ts t':=fun pins s σ H v u Q I r z=>h pins s σ H v u Q I r (q _ _ _ _ z)
theorem sG_nil:PGs X [] (gMany []):=PGs.imp pgs_nil fun vs σ H Q ⟨h,q⟩=>by
 have:vs=[]:=List.length_eq_zero_iff.mp h
 subst this
 exact⟨rfl,q⟩
theorem sG_cons{i:Nat}{js:List Nat}{x:Str}{pos:Pos}{es:List Expr}(hN:X.N.Nodup)(hi:X.N[i]?=some x)(hx:Loc X.env.scope x)(hf:X.fn x=true∨X.env.scope.names.lookup x=some .local)(h2:PGs X es (gMany js)):PGs X (.Name x pos::es) (gMany (i::js)):=by
 refine PGs.imp (pgs_cons (pg_name hN hi hx hf) h2 rfl) ?_
 rintro vs σ H Q ⟨h,q⟩
 match vs,h,q with
 | v::r,h,q=>exact⟨v,r,rfl,by simpa using h,q⟩
theorem zaea:∀{is:List Nat}{ts:List T}{σ σ':Fr},puts σ is ts=some σ'→is.length=ts.length
 | [],[],_,_,_=>rfl
 | [],_::_,_,_,h=>by cases h
 | _::_,[],_,_,h=>by cases h
 | i::is,t::ts,σ,σ',h=>by simp[zaea (is:=is) (ts:=ts) (σ:=put σ i t) h]
theorem sG_many{js:List Nat}{es:List Expr}{k:Nat}{pos:Pos}(hc:X.calm=true)(h:PGs X es (gMany js))(hn:(assignEach es X.env).length=js.length)(hst:(assignEach es X.env).findIdx? (·.1)=none):PG X (.Tuple es k pos) (gTg G (.many js)):=by
 rintro pins s0 σV H v u Q I ru ⟨w,s,t,σ,σ',S,r,e,q⟩
 match t,r,e with
 | .tup ts,⟨a,vs,e1,hp,rp⟩,e=>
  have e:puts σ js ts=some σ':=e
  have hl:=zaea e
  refine pg_tup hc h hn hst pins s0 σV H v u Q I ru ⟨a,vs,e1,SqT.of hp,by rw[←rp.length,hl],by rw[←rp.length,hl],?_⟩
  exact q vs (fun H₀ σV' F=>FrOk.puts F rp e) (by rw[←rp.length];exact hl.symm)
 | .lst ts,⟨a,vs,e1,_,hp,rp⟩,e=>
  have e:puts σ js ts=some σ':=e
  have hl:=zaea e
  refine pg_lst hc h hn hst pins s0 σV H v u Q I ru ⟨a,vs,e1,hp,by rw[←rp.length,hl],by rw[←rp.length,hl],?_⟩
  exact q vs (fun H₀ σV' F=>FrOk.puts F rp e) (by rw[←rp.length];exact hl.symm)
 | .non,_,e=>cases e
 | .bl _,_,e=>cases e
 | .int _,_,e=>cases e
 | .str _,_,e=>cases e
 | .loc _,_,e=>cases e
 | .exc _,_,e=>cases e
end
end IP
end
section
set_option Elab.async false
set_option linter.all false
set_option maxRecDepth 100000
namespace IP
open PySem PySem.Spec L2
theorem zaap{h:Heap}{as:List Addr}{b:Addr}{o:Obj}:(PySem.W.hideAll h as).get? b=some o↔h.get? b=some o∧b∉as:=by
 refine⟨fun e=>⟨PySem.W.of_hideAll as e,fun z=>?_⟩,fun⟨e,n⟩=>PySem.W.hideAll_get as e n⟩
 rw[PySem.W.hideAll_none as z]at e
 cases e
section
variable{G:Gx}{X:Cx}{pins:List (Addr×Obj)}{σV:St}{H:Hp}{c:Nat}{u:Value}{sh:Shared}
theorem fun_cov{base h B:Heap}{as:List Addr}(hc:∀b o,B.get? b=some o→b∉as):∀{l:List Env},h.FunFrames base l→(∀b∈frs l,b∈as)→h.FunFrames B l
 | [],_,_=>trivial
 | env::l,⟨hk,⟨L,o,hf,_,ho,hd⟩,hr⟩,hin=>by
  have hL:L∈as:=hin L (by unfold frs;rw[List.filterMap_cons,hf];exact List.mem_cons_self)
  refine⟨hk,⟨L,o,hf,?_,ho,hd⟩,fun_cov hc hr fun b hb=>hin b ?_⟩
  ·cases q:B.get? L with
   | none=>rfl
   | some z=>exact absurd hL (hc L z q)
  ·unfold frs
   rw[List.filterMap_cons,hf]
   exact List.mem_cons_of_mem _ hb
theorem Flt.next{stack:List Env}{base h B h1 h2:Heap}{e:Addr}(F:Flt stack h B e h1)(hf:h.FunFrames base stack)(st:B.StaysIn h2)(sm:h1.UpToSlots h2):Flt stack h B e h2 where
 cov:=F.cov
 keep:=fun b o q n=>st b o ((F.cov b o).mpr ⟨q,n⟩)
 slot:=fun b o q n=>by
  obtain⟨sl,e1⟩:=F.slot b o q n
  obtain⟨_,o',ho',hd⟩:=hf.mem n
  rw[q]at ho'
  cases ho'
  obtain⟨sl',e2⟩:=sm b _ e1 hd
  exact⟨sl',e2⟩
 new:=F.new
theorem note_made{M:Model}{A:Around}{E:Value→Shared→Prop}{s:Shared}{B h:Heap}{env:Env}{outer:List Env}{L e:Addr}{cls:Value}{args:List Value}{Q:Unit→Shared→Prop}
  (hfr:A.frames=some (env::outer)) (hf:env.frame=some L) (hkb:B.StaysIn h) (hl:h.FunFrames B (env::outer)) (hx:Heap.MadeExcOf h s.heap e cls args)
  (hQ:∀h' t,Heap.HeldW B (env::outer) e cls t L h'→s.heap.UpToSlots h'→Q () { s with heap:=h' }):wpAny M A (noteFrame (.ref e) env) Q E s:=by
 obtain⟨t,he,htn,ht⟩:=hx.there
 have hen:B.get? e=none:=by
  cases hq:B.get? e with
  | none=>rfl
  | some o'=>have:=hkb e o' hq;rw[hx.new]at this;cases this
 unfold noteFrame
 simp only[hf]
 refine wpAny_bind (wpAny_field (x:=.none) he rfl rfl ?_)
 rw[if_neg (by decide)]
 refine wpAny_entryW (a0:=.ref t) hfr (hl.of_keeps fun b o hb _=>⟨o,hx.keeps b o hb,rfl⟩) hf he (fun b o hb=>hx.keeps b o (hkb b o hb)) hen rfl (by simp) rfl fun h' hN=>?_
 obtain⟨k1,k2,k3,k4⟩:=hN
 exact hQ h' (.ref t) ⟨k1,hen,k2,k3⟩ k4
def HasFr(X:Cx):Prop:=∃env0 outer0 L,X.stack=env0::outer0∧env0.frame=some L∧X.env.frame=some L
theorem zad8{e:Value}{env env':Env}(h:env.frame=env'.frame):noteFrame e env=noteFrame e env':=by
 unfold noteFrame frameOf
 rw[h]
theorem note_any{M:Model}{A:Around}{E:Value→Shared→Prop}{s:Shared}{base:Heap}{env:Env}{outer:List Env}{L e:Addr}{cls a0 fl:Value}{Q:Unit→Shared→Prop}
  (hfr:A.frames=some (env::outer)) (hf:env.frame=some L) (hh:HeldV base (env::outer) e cls a0 fl s.heap)
  (hQ:∀h',Heap.HeldW base (env::outer) e cls a0 L h'→s.heap.UpToSlots h'→Q () { s with heap:=h' }):wpAny M A (noteFrame (.ref e) env) Q E s:=by
 obtain⟨hkb,hen,hl,oe,vs,T,oT,ts,he,⟨hcls,h0⟩,hd,h1,hnT,hTe,hT,hdT,h3⟩:=hh
 by_cases hq:fl=rawInt L
 ·subst hq
  exact wpAny_noteFrame_againW hf ⟨oe,vs,T,oT,ts,he,⟨hcls,h0⟩,hd,h1,hnT,hTe,hT,hdT,h3⟩ (hQ s.heap ⟨hkb,hen,hl,oe,vs,T,oT,ts,he,⟨hcls,h0⟩,hd,h1,hnT,hTe,hT,hdT,h3⟩ (.refl _))
 ·have other:∀b,b≠T→(s.heap.update T (Obj.mapFields (·.setIfInBounds 3 Value.none))).get? b=s.heap.get? b:=fun b hb=>Heap.get?_update_other _ _ (Ne.symm hb)
  have nor:∀b o,s.heap.get? b=some o→(∀vs,o.data≠.fields vs)→b≠T:=fun b o hb hnf q=>by
   rw[q,hT]at hb;cases hb;exact hnf ts hdT
  subst hcls
  unfold noteFrame
  simp only[hf]
  refine wpAny_bind (wpAny_field he hd h1 ?_)
  rw[if_pos (show(Value.ref T != Value.none)=true from by simp)]
  refine wpAny_bind (wpAny_field hT hdT h3 ?_)
  rw[if_neg (show ¬((fl==rawInt L)=true)from fun z=>hq (by simpa using z))]
  refine wpAny_bind (wpAny_setField hT hdT (Array.getElem?_eq_some_iff.mp h3).1 ?_)
  refine wpAny_entryW hfr (hl.of_keeps fun b o hb hnf=>⟨o,(other b (nor b o hb hnf)).trans hb,rfl⟩) hf ((other e (Ne.symm hTe)).trans he)
   (fun b o hbo=>(other b fun q=>by rw[q,hnT]at hbo;cases hbo).trans (hkb b o hbo)) hen hd (Array.getElem?_eq_some_iff.mp h1).1 h0
   fun h' ⟨x1,x2,x3,x4⟩=>hQ h' ⟨x1,hen,x2,x3⟩ fun b o hb hnf=>x4 b o ((other b (nor b o hb hnf)).trans hb) hnf
theorem zace{E:Value→Shared→Prop}{Q:Unit→Shared→Prop}(hst:HasFr X)(T:Thrown G X pins σV H c u sh)
  (hQ:∀e h B h' t L,u=.ref e→Inv X pins σV H { sh with heap:=h }→Flt X.stack h B e h'→X.base.StaysIn B→Heap.HeldW B X.stack e (.ref (G.cA c)) t L h'→Q () { sh with heap:=h' }):
  wpAny (model X.prog X.w) X.A (noteFrame u X.env) Q E sh:=by
 obtain⟨env0,outer0,L,e1,e2,e3⟩:=hst
 rw[zad8 (e3.trans e2.symm)]
 obtain⟨e,h,B,rfl,I,F,sb,T⟩:=T
 have hff:h.FunFrames X.base X.stack:=I.stack
 have hfr:X.A.frames=some (env0::outer0):=by rw[I.ok.frames,e1]
 have fB:h.FunFrames B X.stack:=fun_cov (fun b o q=>((F.cov b o).mp q).2) hff fun _ z=>z
 have land:∀(h1:Heap) (t:Value),Heap.HeldW B (env0::outer0) e (.ref (G.cA c)) t L h1→sh.heap.UpToSlots h1→Q () { sh with heap:=h1 }:=fun h1 t hh sm=>by
  rw[←e1]at hh
  exact hQ e h B h1 t L rfl I (F.next hff hh.1 sm) sb hh
 rw[e1]at T fB
 rcases T with⟨args,hm⟩|⟨t,hf⟩|⟨t,fl,hh⟩
 ·exact note_made hfr e2 (fun b o q=>((F.cov b o).mp q).1) fB hm fun h1 t hh sm=>land h1 t hh sm
 ·exact wpAny_looks_onW hfr e2 hf fun h1 hh sm=>land h1 t hh sm
 ·exact note_any hfr e2 hh fun h1 hh sm=>land h1 t hh sm
theorem zagh{base h B h2:Heap}{as:List Addr}(hc:∀b o,B.get? b=some o→b∉as)(hm:∀b∈as,∀o,h.get? b=some o→(∀vs,o.data≠.fields vs)→h2.get? b=some o):
  ∀{l:List Env},h.FunFrames base l→(∀b∈frs l,b∈as)→h2.FunFrames B l
 | [],_,_=>trivial
 | env::l,⟨hk,⟨L,o,hf,_,ho,hd⟩,hr⟩,hin=>by
  have hL:L∈as:=hin L (by unfold frs;rw[List.filterMap_cons,hf];exact List.mem_cons_self)
  refine⟨hk,⟨L,o,hf,?_,hm L hL o ho hd,hd⟩,zagh hc hm hr fun b hb=>hin b ?_⟩
  ·cases q:B.get? L with
   | none=>rfl
   | some z=>exact absurd hL (hc L z q)
  ·unfold frs
   rw[List.filterMap_cons,hf]
   exact List.mem_cons_of_mem _ hb
theorem zafu{E:Value→Shared→Prop}{X:Cx}{pins:List (Addr×Obj)}{σV:St}{e A L:Addr}{h B h1 h':Heap}{t:Value}{what:String}{cenv:Env}(I:Inv X pins σV H { sh with heap:=h })(fA:FpOk X pins H A)(hA:∀o,X.base.get? A≠some o)(F:Flt X.stack h B e h1)(sb:X.base.StaysIn B)
  (hh:Heap.HeldW B X.stack e (.ref (G.cA c)) t L h1) (nsA:∃o,h1.get? A=some o∧∀vs,o.data≠.fields vs) (hs:Heap.SameBut A h1 h') (hx:∀sh',Thrown G X pins σV H c (.ref e) sh'→E (.ref e) sh'):
  wpAny (model X.prog X.w) X.A (passOn what (.ref e) cenv:Sem Value) (fun _ _=>False) E { sh with heap:=h' }:=by
 obtain⟨hkb,hen,hl,oe,vs,T,oT,ts,he,⟨hcls,h0⟩,hd,h1',hnT,hTe,hT,hdT,h3⟩:=hh
 obtain⟨oA,hoA,hAd⟩:=nsA
 have eA:e≠A:=fun z=>by rw[z,hoA]at he;cases he;exact hAd _ hd
 have TA:T≠A:=fun z=>by rw[z,hoA]at hT;cases hT;exact hAd _ hdT
 have Afr:A∉frs X.stack:=fun z=>by
  rcases List.mem_cons.mp (I.stkSub A z)with z|z
  ·exact fA.2.1 z
  ·exact fA.2.2.1 z
 have he':h'.get? e=some oe:=(hs.2 e eA).trans he
 have hT':h'.get? T=some oT:=(hs.2 T TA).trans hT
 have hsz3:3<ts.size:=(Array.getElem?_eq_some_iff.mp h3).1
 unfold passOn
 refine wpAny_bind (wpAny_field he' hd h1' ?_)
 rw[if_neg (show ¬((Value.ref T==Value.none)=true)from by simp)]
 refine wpAny_bind ?_
 unfold setFlight
 refine wpAny_bind (wpAny_field he' hd h1' ?_)
 rw[if_pos (show(Value.ref T != Value.none)=true from by simp)]
 generalize (cenv.frame.elim Value.none fun f=>rawInt f)=fl
 refine wpAny_setField hT' hdT hsz3 (wpAny_throw (hx _ ?_))
 have other:∀b,b≠T→(h'.update T (Obj.mapFields (·.setIfInBounds 3 fl))).get? b=h'.get? b:=fun b hb=>Heap.get?_update_other _ _ (Ne.symm hb)
 have bT:∀b o,B.get? b=some o→b≠T:=fun b o q z=>by rw[z,hnT]at q;cases q
 have fT:∀b∈frs X.stack,b≠T:=fun b hb z=>by
  obtain⟨_,o,ho,hnf⟩:=hl.mem hb
  rw[z,hT]at ho;cases ho;exact hnf _ hdT
 refine⟨e,PySem.W.hideAll h [A],PySem.W.hideAll B [A],rfl,?_,⟨fun b o=>?_,fun b o q n=>?_,fun b o q n=>?_,?_⟩,fun b o q=>zaap.mpr ⟨sb b o q,fun z=>?_⟩,.inr (.inr ⟨t,fl,fun b o q=>?_,?_,?_,?_⟩)⟩
 ·exact I.turned (t':=sh.toks) (fun b o ne q=>zaap.mpr ⟨q,by simpa using ne⟩) fA.1 fA.2.1 fA.2.2.2.1 fA.2.2.2.2.1 fA.2.2.2.2.2
 ·rw[zaap,zaap,F.cov b o]
  exact⟨fun⟨⟨a,y⟩,z⟩=>⟨⟨a,z⟩,y⟩,fun⟨⟨a,z⟩,y⟩=>⟨⟨a,y⟩,z⟩⟩
 ·obtain⟨a,y⟩:=zaap.mp q
  have y:b≠A:=by simpa using y
  exact(other b (bT b o ((F.cov b o).mpr ⟨a,n⟩))).trans ((hs.2 b y).trans (F.keep b o a n))
 ·obtain⟨a,y⟩:=zaap.mp q
  have y:b≠A:=by simpa using y
  obtain⟨sl,z⟩:=F.slot b o a n
  exact⟨sl,(other b (fT b n)).trans ((hs.2 b y).trans z)⟩
 ·cases q:(PySem.W.hideAll h [A]).get? e with
  | none=>rfl
  | some o=>have:=(zaap.mp q).1;rw[F.new]at this;cases this
 ·have z:b=A:=by simpa using z
  subst z
  exact hA o q
 ·obtain⟨a,y⟩:=zaap.mp q
  have y:b≠A:=by simpa using y
  exact(other b (bT b o a)).trans ((hs.2 b y).trans (hkb b o a))
 ·cases q:(PySem.W.hideAll B [A]).get? e with
  | none=>rfl
  | some o=>have:=(zaap.mp q).1;rw[hen]at this;cases this
 ·refine zagh (as:=frs X.stack) (fun b o q=>((F.cov b o).mp (zaap.mp q).1).2) (fun b hb o q _=>(other b (fT b hb)).trans ((hs.2 b fun z=>Afr (z▸hb)).trans q)) hl fun _ z=>z
 ·refine⟨oe,vs,T,_,_,(other e (Ne.symm hTe)).trans he',⟨hcls,h0⟩,hd,h1',?_,hTe,Heap.get?_update_self _ hT' (Obj.isFreed_of_fields (Obj.data_mapFields hdT _)),Obj.data_mapFields hdT _,by simp[hsz3]⟩
  cases q:(PySem.W.hideAll B [A]).get? T with
  | none=>rfl
  | some o=>have:=(zaap.mp q).1;rw[hnT]at this;cases this
end
end IP
end
section
set_option Elab.async false
set_option linter.all false
set_option maxRecDepth 100000
namespace IP
open PySem PySem.Spec L2
section
variable{G:Gx}{X:Cx}{C:Cf}
def RepO(G:Gx)(w:Wo)(H:Hp):Option T→Option V→Prop
 | some t,some v=>Rep G w H t v
 | none,none=>True
 | _,_=>False
def WantT(G:Gx)(X:Cx)(σV:St)(w:Wo)(H:Hp)(r:Res (Option T))(Q:Option V→Hp→Prop):Prop:=match r with
 | .stuck=>False
 | .ok o s'=>∀w1 H1 vo,Le w w1 H H1→StoOk G w1 H1 s'→RepO G w1 H1 o vo→Q vo H1
 | .exc c s'=>∀w' H' pins u sh,Le w w' H H'→StoOk G w' H' s'→Thrown G X pins σV H' c u sh→X.xe u sh
def Turned(G:Gx)(X:Cx)(ifs:List Expr)(elt:Expr)(f:Fr→Sto→Res (Option T)):Prop:=
 ∀(pins:List (Addr×Obj)) (s:Shared) (σV:St) (H:Hp) (w₀:Wo) (H₀:Hp) (w:Wo) (σ:Fr) (st:Sto) (Q:Option V→Hp→Prop),Inv X pins σV H s→Good G w₀ H₀ w H σ st σV→WantT G X σV w H (f σ st) Q→
  wpAny (model X.prog X.w) X.A (forIn ifs true fun c r=>if r=true then do let ok ←isTrue c X.env (eval c X.env);pure (ForInStep.yield ok)else pure (ForInStep.yield r))
   (fun ok s3=>if ok=true then wpAny (model X.prog X.w) X.A (eval elt X.env) (fun u s4=>∃v H4,Inv X pins σV H4 s4∧RelV v u∧Q (some v) H4) X.xe s3 else ∃H3,Inv X pins σV H3 s3∧Q none H3) X.xe s
def Gives(G:Gx)(X:Cx)(σV:St)(w:Wo)(H:Hp)(Q:VK)(acc:List T)(r:Res (List T)):Prop:=match r with
 | .ok rest st'=>∀w' H' a vs,Le w w' H H'→StoOk G w' H' st'→H' a=some (.lst vs)→Reps G w' H' (acc++rest) vs→H a=none→¬w'.Z a→notLoc w' a→Q (.ref a) H'
 | .exc c st'=>∀w' H' pins u sh,Le w w' H H'→StoOk G w' H' st'→Thrown G X pins σV H' c u sh→X.xe u sh
 | .stuck=>False
theorem zab0{σV:St}{w:Wo}{H:Hp}{Q:VK}{acc:List T}{f:T→Sto→Res (Option T)}{t:T}{ts:List T}{s:Sto}(h:Gives G X σV w H Q acc (mapRes f (t::ts) s)):
  (∃o s1,f t s=.ok o s1∧Gives G X σV w H Q (acc++consO o []) (mapRes f ts s1))∨∃c s1,f t s=.exc c s1∧∀w' H' pins u sh,Le w w' H H'→StoOk G w' H' s1→Thrown G X pins σV H' c u sh→X.xe u sh:=by
 unfold mapRes at h
 cases hf:f t s with
 | stuck=>rw[hf]at h;exact h.elim
 | exc c s1=>rw[hf]at h;exact .inr ⟨c,s1,rfl,h⟩
 | ok o s1=>
  rw[hf]at h
  refine .inl ⟨o,s1,rfl,?_⟩
  have h:Gives G X σV w H Q acc ((mapRes f ts s1).bind fun q s2=>Res.ok (consO o q) s2):=h
  cases hm:mapRes f ts s1 with
  | stuck=>rw[hm]at h;exact h
  | exc c s2=>rw[hm]at h;exact h
  | ok r s2=>
   rw[hm]at h
   intro w' H' a vs h1 h2 h3 h4
   refine h w' H' a vs h1 h2 h3 ?_
   cases o<;>simpa [consO]using h4
theorem zab8{α β:Type}{o:Option α}{f:α→Res β}{c:Nat}{s:Sto}(h:onO o f=.exc c s):∃a,o=some a∧f a=.exc c s:=by
 cases o with
 | none=>cases h
 | some a=>exact⟨a,rfl,h⟩
theorem onO_ok{α β:Type}{o:Option α}{f:α→Res β}{b:β}{s:Sto}(h:onO o f=.ok b s):∃a,o=some a∧f a=.ok b s:=by
 cases o with
 | none=>cases h
 | some a=>exact⟨a,rfl,h⟩
variable{elt iter tg:Expr}{ifs:List Expr}{scope:Scope}{pos:Pos}{it' ce:E}{g:Tg}{N':List Str}{f:Fr→Sto→Res (Option T)}
theorem appended{pins:List (Addr×Obj)}{σ:St}{H:Hp}{s:Shared}{D:Addr}{xs:List V}{v:V}{u:Value}{Y:Cx}{E:Value→Shared→Prop}{Q:Shared→Prop}(I:Inv Y pins σ H s)(r:RelV v u)(hD:H D=some (.lst xs))(hl:xs.length<sizeLine)
  (q:∀s',Inv Y pins σ (upd H D (.lst (xs++[v]))) s'→Q s'):wpAny (model Y.prog Y.w) Y.A (call (.builtin "list.append") [.ref D,u]) (fun _ s'=>Q s') E s:=by
 have z:=zadc (X:=Y.wish E) pins s σ H (.ref D) [v] (.ref D) [u] (fun _ H'=>H'=upd H D (.lst (xs++[v]))) (I.wish E) rfl (.cons r .nil) ⟨D,xs,v,rfl,rfl,hD,hl,rfl⟩
 refine thn z fun u' s' ⟨_,H',I',_,e⟩=>?_
 subst e
 exact q s' I'.unwish
theorem zafd:∀{js:List Nat}{vs:List V}{σV:St}{i:Nat},i∉js→(setsV σV js vs)[i]?=σV[i]?
 | [],vs,σV,i,_=>by cases vs<;>rfl
 | j::js,[],σV,i,_=>rfl
 | j::js,v::vs,σV,i,h=>by
  show(setsV (σV.set j (some v)) js vs)[i]?=_
  rw[zafd fun q=>h (List.mem_cons_of_mem _ q),List.getElem?_set_ne fun q=>h (by simp[q])]
def SrcGives(G:Gx)(X:Cx)(g:Tg)(f:Fr→Sto→Res (Option T))(σ:Fr)(σV:St)(w:Wo)(H:Hp)(Q:VK)(J:It)(H2:Hp):Prop:=
 ∃(w2:Wo) (src:Src) (ts:List T) (st2:Sto) (K:Sto→Prop) (kp:Res (Option T)→Res (Option T)),Le w w2 H H2∧StoOk G w2 H2 st2∧J=itOf X.K src∧(∀w' H' s',Le w2 w' H2 H'→StoOk G w' H' s'→K s'→SrcNow G w' H' src ts)∧K st2∧(∀r,(∀o s',kp r=.ok o s'→r=.ok o s'∧K s')∧∀c s',kp r=.exc c s'→r=.exc c s')∧
  Gives G X σV w H Q [] (mapRes (fun t s=>onO (bindTg σ g t) fun σ'=>kp (f σ' s)) ts st2)
theorem zad2(hfr:HasFr X)(hc:X.calm=true)(hN:CompN X scope N' (slots g))(hnd:(slots g).Nodup){tx:TI}(hI:PI X tg iter tx)
  (hG:∀A fp s2 H2 xe,PG (cxC X N' scope A fp s2 H2 xe) tg (gTg G g)) (hE:∀A fp s2 H2 xe,Turned G (cxC X N' scope A fp s2 H2 xe) ifs elt f) (hs:∀x,foldedSetIterable iter X.env x=pure x)
  {pins:List (Addr×Obj)}{s:Shared}{σV:St}{H:Hp}{w₀ w:Wo}{H₀:Hp}{σ:Fr}{st:Sto}{Q:VK} (I:Inv X pins σV H s) (gd:Good G w₀ H₀ w H σ st σV)
  (hsrc:tx σV H (SrcGives G X g f σ σV w H Q))
  {use:Option (Value→Sem Unit)}{Q':Value→Shared→Prop}
  (hfin:∀(s':Shared) (Hc:Hp) (A D:Addr),Inv X pins σV Hc s'→FpOk X pins Hc A→(∃m,s'.heap.Ns A m)→Q (.ref D) Hc→compPost (model X.prog X.w) X.A X.xe use Q' (.ref D) A (.ok .next) s'):
  wpAny (model X.prog X.w) X.A (comprehension (.ListComp elt [⟨tg,iter,ifs,0⟩] scope pos) scope X.env (firstIterPos [⟨tg,iter,ifs,0⟩] pos) (newList []) false (eval iter X.env) use) Q' X.xe s:=by
 have hfree:∀x∈scope.names,x.2=.free→∃c,X.env.cells.lookup x.1=some c:=fun x hx hf=>I.ok.has x.1 (hN.free x hx hf)
 refine wpAny_comprehension_free (use:=use) rfl hs (zaf5 scope X.env hfree) hN.kind hN.locs (thn (hI pins s σV H _ I hsrc) fun xv s1 h1=>thn h1 fun itv s2 h2=>?_)
 obtain⟨it,fp,tn,J,H2,rfl,I2,T,st2,f2,w2,src,ts,stc,KK,kp,L2,S2,rfl,now,hK,hkp,hm⟩:=h2
 have ho2:∀b∈fp,∃o,s2.heap.get? b=some o:=fun b hb=>let ⟨o,e,_⟩:=T.obj _ _ st2 b hb;⟨o,e⟩
 refine wpAny_newObj_type (wpAny_newFunctionEnv hN.nocell (by intro y hy;simp at hy) (fun h₁ hns₁ hsb₁=>?_) hN.kind)
 have hns₁:h₁.Ns (s2.heap.push { cls:=.type "list",data:=.seq ([]:List Value).toArray }).objs.size (fun _=>none):=hns₁
 have hfD:H2 s2.heap.objs.size=none:=I2.hok.fresh (Nat.le_refl _)
 generalize hD:s2.heap.objs.size=D at hfD
 have I3:Inv X pins σV (upd H2 D (.lst [])) { s2 with heap:=s2.heap.push { cls:=.type "list",data:=.seq ([]:List Value).toArray } }:=by
  rw[←hD]
  exact I2.lnew (its:=[]) (t':=s2.toks) .nil (Nat.zero_le _)
 generalize hs3:({ s2 with heap:=s2.heap.push { cls:=.type "list",data:=.seq ([]:List Value).toArray } }:Shared)=s3 at I3
 have k3:∀b o,s2.heap.get? b=some o→s3.heap.get? b=some o:=fun b o e=>by rw[←hs3];exact Heap.get?_push_of_some _ e
 have fpD:∀b∈fp,b≠D:=fun b hb=>by
  obtain⟨o,e⟩:=ho2 b hb
  rw[←hD]
  exact Nat.ne_of_lt (Heap.lt_size e)
 have f3:∀b∈fp,FpOk X pins (upd H2 D (.lst [])) b:=fun b hb=>⟨by rw[upd_ne (fpD b hb)];exact(f2 b hb).1,(f2 b hb).2⟩
 have ho3:∀b∈fp,∃o,s3.heap.get? b=some o:=fun b hb=>let ⟨o,e⟩:=ho2 b hb;⟨o,k3 b o e⟩
 have e3:(s2.heap.push { cls:=.type "list",data:=.seq ([]:List Value).toArray })=s3.heap:=by rw[←hs3]
 rw[e3]at hns₁ hsb₁
 have k4:∀b o,s3.heap.get? b=some o→h₁.get? b=some o:=fun b o e=>hsb₁.extBut b o (Nat.ne_of_lt (Heap.lt_size e)) (Heap.get?_push_of_some _ e)
 obtain⟨XE,hXE⟩:∃XE:Addr→Value→Shared→Prop,XE=fun A=>notedBy (model X.prog X.w) X.A (compEnvC scope (clo X.env.cells scope.names []) A X.env) fun e s'=>compPost (model X.prog X.w) X.A X.xe use Q' (.ref D) A (.error e) s':=⟨_,rfl⟩
 have I4:Inv (cxC X N' scope s3.heap.objs.size fp s3 (upd H2 D (.lst [])) (XE s3.heap.objs.size)) [] (clr σV (slots g)) (upd H2 D (.lst [])) { s3 with heap:=h₁,toks:=s3.toks+([]:List (Str×Value)).length }:=cxC_inv hN I3 f3 ho3 hns₁ k4
 have tn4:tn 0 h₁:=T.keep _ _ _ st2 fun b hb o e=>k4 b o (k3 b o e)
 generalize hA:s3.heap.objs.size=A at I4 hns₁ hsb₁
 have hAD:D≠A:=by
  rw[←hA,←hs3]
  show D≠(s2.heap.push _).objs.size
  rw[Heap.size_push,hD]
  exact Nat.ne_of_lt (Nat.lt_succ_self _)
 generalize hY:cxC X N' scope A fp s3 (upd H2 D (.lst [])) (XE A)=Y at I4
 have eP:Y.prog=X.prog:=by rw[←hY];rfl
 have eW:Y.w=X.w:=by rw[←hY];rfl
 have eK:Y.K=X.K:=by rw[←hY];rfl
 have eA:Y.A=X.A:=by rw[←hY];rfl
 have eC:Y.calm=true:=by rw[←hY];exact hc
 have eL:Y.env.locals=A:=by rw[←hY];rfl
 have eS:Y.stack=X.stack:=by rw[←hY];rfl
 have eB:Y.base=X.base:=by rw[←hY];rfl
 have eF:Y.env.frame=X.env.frame:=by rw[←hY];rfl
 have eN:Y.env=compEnvC scope (clo X.env.cells scope.names []) A X.env:=by rw[←hY];rfl
 have stat:∀{H':Hp},(∀b∈fp,H' b=none)→∀b∈fp,FpOk Y [] H' b:=fun {H'} hn b hb=>by
  obtain⟨f0,f1,fx,fy,fz,fw⟩:=f2 b hb
  subst hY
  refine⟨hn b hb,?_,?_,.inl hb,fun x c e=>fz x c (zahv X.env.cells scope.names [] (fun x c z=>by simp at z) x c e),fun p hp=>absurd (show p∈([]:List (Addr×Obj))from hp) (by simp)⟩
  ·show b≠A
   obtain⟨o,e⟩:=ho3 b hb
   rw[←hA]
   exact Nat.ne_of_lt (Heap.lt_size e)
  ·intro hm
   rcases List.mem_cons.mp (I2.stkSub b hm)with z|z
   ·exact f1 z
   ·exact fx z
 have eX:Y.xe=notedBy (model X.prog X.w) X.A Y.env fun e s'=>compPost (model X.prog X.w) X.A X.xe use Q' (.ref D) A (.error e) s':=by rw[eN,←hY];show XE A=_;rw[hXE]
 have hGY:PG Y tg (gTg G g):=by rw[←hY];exact hG A fp s3 _ _
 have hEY:Turned G Y ifs elt f:=by rw[←hY];exact hE A fp s3 _ _
 have back:∀{pins':List (Addr×Obj)}{σ':St}{Hc:Hp}{s':Shared},Inv Y pins' σ' Hc s'→Inv X pins σV Hc s'∧FpOk X pins Hc A:=fun {pins' σ' Hc s'} Ic=>by
  have un:Un (frs X.stack) fp (upd H2 D (.lst [])) Hc s3.heap s'.heap:=by
   have:=Ic.base
   subst hY
   exact this
  have hcA:Hc A=none:=by have:=Ic.free;rw[eL]at this;exact this
  have hok:HOk X.prog X.w Hc s'.heap:=by rw[←eP,←eW];exact Ic.hok
  have os:s'.os=s3.os:=by have:=Ic.os;subst hY;exact this
  exact⟨I3.call' (s':=s') (ch:=fp) os un hok Ic.bare fun b hb=>⟨(f2 b hb).2.2.2.1,(f2 b hb).2.1,(f2 b hb).2.2.2.2.1,(f2 b hb).2.2.2.2.2⟩,
   by rw[←hA];exact I3.fpOk (Nat.le_refl _) (by rw[hA];exact hcA)⟩
 have hHD:H D=none:=by
  cases e:H D with
  | none=>rfl
  | some o=>exact absurd hfD (L2.some_ D (by rw[e];intro z;cases z))
 have leave:∀{pins':List (Addr×Obj)}{σ':St}{Hc:Hp}{c:Nat}{u:Value}{sh:Shared},Thrown G Y pins' σ' Hc c u sh→(∀sh',Thrown G X pins σV Hc c u sh'→X.xe u sh')→Y.xe u sh:=fun {pins' σ' Hc c u sh} Th hx=>by
  rw[eX]
  obtain⟨env0,outer0,L0,q1,q2,q3⟩:=hfr
  have z:=zace (X:=Y) (E:=fun e s'=>compPost (model X.prog X.w) X.A X.xe use Q' (.ref D) A (.error e) s') (Q:=fun _ s''=>compPost (model X.prog X.w) X.A X.xe use Q' (.ref D) A (.error u) s'') ⟨env0,outer0,L0,eS.trans q1,q2,eF.trans q3⟩ Th fun e h B h1 t L eu I F sb hh=>?_
  ·rw[eP,eW,eA]at z
   exact z
  ·subst eu
   rw[eS]at F hh
   rw[eB]at sb
   obtain⟨IX,fA⟩:=back I
   obtain⟨m,⟨o,es,ep,ho,hd,r⟩,_⟩:=I.loc
   rw[eL]at ho
   have Afr:A∉frs X.stack:=fun z=>by
    rcases List.mem_cons.mp (IX.stkSub A z)with z|z
    ·exact fA.2.1 z
    ·exact fA.2.2.1 z
   have hA1:=F.keep A o ho Afr
   have hAb:∀o,X.base.get? A≠some o:=fun o q=>by
    have:=Heap.lt_size (I3.bk A o q)
    rw[hA]at this
    exact absurd this (Nat.lt_irrefl _)
   have hns:h1.Ns A m:=⟨o,es,ep,hA1,hd,r⟩
   have fin:∀h',Heap.SameBut A h1 h'→∀cenv:Env,cenv.locals=A→wpAny (model X.prog X.w) X.A (passOn "comprehension.variables-let-go" (.ref e) cenv:Sem Value) (fun _ _=>False) X.xe { sh with heap:=h' }:=fun h' hs cenv _=>
    zafu IX fA hAb F sb hh ⟨o,hA1,fun vs q=>by rw[hd]at q;cases q⟩ hs hx
   cases use<;>exact⟨m,hns,fin⟩
 have loop:∀s4:Shared,s4={ s3 with heap:=h₁,toks:=s3.toks+([]:List (Str×Value)).length }→
   codeAny (model X.prog X.w) X.A (.compLoop (.ListComp elt [⟨tg,iter,ifs,0⟩] scope pos) 0 (.ref it) (.ref D) Y.env) (compPost (model X.prog X.w) X.A X.xe use Q' (.ref D) A) s4:=by
  rintro s4 rfl
  refine codeAny_loop rfl (fun n s'=>∃(i:Nat) (Hc:Hp) (wc:Wo) (stc':Sto) (accT:List IP.T) (accV:List V),n=ts.length-i∧i≤ts.length∧Inv Y [] (clr σV (slots g)) Hc s'∧tn i s'.heap∧(∀b∈fp,Hc b=none)∧
    Le w2 wc H2 Hc∧StoOk G wc Hc stc'∧Hc D=some (.lst accV)∧Reps G wc Hc accT accV∧¬wc.Z D∧notLoc wc D∧accT.length≤i∧
    KK stc'∧Gives G X σV w H Q accT (mapRes (fun t s=>onO (bindTg σ g t) fun σ'=>kp (f σ' s)) (ts.drop i) stc')) ?_ ts.length
   ⟨0,upd H2 D (.lst []),w2,stc,[],[],rfl,Nat.zero_le _,I4,tn4,fun b hb=>by rw[upd_ne (fpD b hb)];exact(f2 b hb).1,Le.new hfD _,S2.new hfD _,zaau,rfl,(S2.fresh hfD).1,(S2.fresh hfD).2,Nat.le_refl _,hK,hm⟩
  rintro n s' ⟨i,Hc,wc,stc',accT,accV,hn,hi,Ic,tc,fc,Lc,Sc,hDc,rc,nz,nl,hal,hKc,hmr⟩
  have SOc:SrcNow G wc Hc src ts:=now wc Hc stc' Lc Sc hKc
  show wpAny _ X.A ((compTurn (.ListComp elt [⟨tg,iter,ifs,0⟩] scope pos) 0 (.ref it) (.ref D) Y.env).onRaise (fun x=>do noteFrame x Y.env;theTreesLotGoes x)) _ _ s'
  refine wpAny_noted ?_
  rw[compTurn_list]
  refine wpAny_bind (wpAny_standAt (wpAny_bind ?_))
  by_cases hlt:i<ts.length
  ·have et:ts[i]?=some ts[i]:=List.getElem?_eq_getElem hlt
   have ed:ts.drop i=ts[i]::ts.drop (i+1):=List.drop_eq_getElem_cons hlt
   rw[ed]at hmr
   obtain⟨σ',hb⟩:∃σ',bindTg σ g ts[i]=some σ':=by
    rcases zab0 hmr with⟨o,s1,q,_⟩|⟨c,s1,q,_⟩
    ·obtain⟨a,q,_⟩:=onO_ok q;exact⟨a,q⟩
    ·obtain⟨a,q,_⟩:=zab8 q;exact⟨a,q⟩
   obtain⟨go,yld⟩:=SOc.go (K:=X.K) et
   have z:=T.item Y eP eW eK eC i [] s' (clr σV (slots g)) Hc (notedBy (model X.prog X.w) X.A Y.env fun e s'=>compPost (model X.prog X.w) X.A X.xe use Q' (.ref D) A (.error e) s') Ic (stat fc) tc go
   rw[eA]at z
   refine thn z fun r s5 ⟨u,hr,h5⟩=>?_
   subst hr
   refine wpAny_bind (thn h5 fun _ s6 ⟨x,H6,I6,r6,y6,t6,f6⟩=>?_)
   have rx:=(yld x H6 y6).2
   obtain rfl:Hc=H6:=(yld x H6 y6).1.symm
   have I6':=I6.pinned (stat f6) (T.obj _ _ t6)
   have hgd:Good G w₀ H₀ wc Hc σ stc' σV:=(gd.step L2 S2).step Lc Sc
   have zg:=hGY _ s6 (clr σV (slots g)) Hc x u (fun σ7 H7=>H7=Hc∧∃vs,σ7=setsV σV (slots g) vs∧FrOk G wc Hc H₀ σ' (setsV σV (slots g) vs)) I6' r6
    ⟨wc,stc',ts[i],σ,σ',Sc,rx,hb,fun vs hfr hl=>⟨rfl,vs,zae3 hnd hl.symm,hfr H₀ σV hgd.fr⟩⟩
   rw[eP,eW,eA]at zg
   rw[eX]at zg
   refine wpAny_bind (thn zg fun _ s7 ⟨σ7,H7,I7,eH7,vs,e7,F7⟩=>?_)
   obtain rfl:Hc=H7:=eH7.symm
   subst e7
   have okc:∀o st1,f σ' stc'=.ok o st1→KK st1∧Gives G X σV w H Q (accT++consO o []) (mapRes (fun t s=>onO (bindTg σ g t) fun σ'=>kp (f σ' s)) (ts.drop (i+1)) st1):=fun o st1 e=>by
    rcases zab0 hmr with⟨o2,s2,q,h⟩|⟨c,s2,q,_⟩
    ·obtain⟨a,q1,q2⟩:=onO_ok q
     rw[hb]at q1;cases q1
     obtain⟨q3,q4⟩:=(hkp _).1 _ _ q2
     rw[e]at q3;cases q3
     exact⟨q4,h⟩
    ·obtain⟨a,q1,q2⟩:=zab8 q
     rw[hb]at q1;cases q1
     have q3:=(hkp _).2 _ _ q2
     rw[e]at q3;cases q3
   have zt:=hEY _ s7 _ Hc w₀ H₀ wc σ' stc' (fun vo H8=>∃w8 o st1,f σ' stc'=.ok o st1∧Le wc w8 Hc H8∧StoOk G w8 H8 st1∧RepO G w8 H8 o vo) I7 ⟨Sc,F7,hgd.ent⟩ (by
    cases hf:f σ' stc' with
    | ok o st1=>exact fun w8 H8 vo L8 S8 R8=>⟨w8,o,st1,rfl,L8,S8,R8⟩
    | stuck=>
     rcases zab0 hmr with⟨o2,s2,q,h⟩|⟨c,s2,q,_⟩
     ·obtain⟨a,q1,q2⟩:=onO_ok q
      rw[hb]at q1;cases q1
      have:=((hkp _).1 _ _ q2).1
      rw[hf]at this;cases this
     ·obtain⟨a,q1,q2⟩:=zab8 q
      rw[hb]at q1;cases q1
      have:=(hkp _).2 _ _ q2
      rw[hf]at this;cases this
    | exc c s1=>
     rcases zab0 hmr with⟨o2,s2,q,h⟩|⟨c,s2,q,h⟩
     ·obtain⟨a,q1,q2⟩:=onO_ok q
      rw[hb]at q1;cases q1
      have:=((hkp _).1 _ _ q2).1
      rw[hf]at this;cases this
     ·obtain⟨a,q1,q2⟩:=zab8 q
      rw[hb]at q1;cases q1
      have:=(hkp _).2 _ _ q2
      rw[hf]at this;cases this
      exact fun w8 H8 pins8 u8 sh8 L8 S8 T8=>leave T8 fun sh'=>h w8 H8 pins u8 sh' (L2.trans (Lc.trans L8)) S8)
   rw[eP,eW,eA,eX]at zt
   have next:∀(st1:Sto) (s8:Shared) (H8:Hp) (w8:Wo) (accT':List IP.T) (accV':List V),KK st1→Inv Y ([]++pinsAt fp s6.heap) (setsV σV (slots g) vs) H8 s8→Le w2 w8 H2 H8→StoOk G w8 H8 st1→H8 D=some (.lst accV')→Reps G w8 H8 accT' accV'→¬w8.Z D→notLoc w8 D→accT'.length≤i+1→Gives G X σV w H Q accT' (mapRes (fun t s=>onO (bindTg σ g t) fun σ'=>kp (f σ' s)) (ts.drop (i+1)) st1)→
     ∃m,m<n∧∃(i:Nat) (Hc:Hp) (wc:Wo) (stc':Sto) (accT:List IP.T) (accV:List V),m=ts.length-i∧i≤ts.length∧Inv Y [] (clr σV (slots g)) Hc s8∧tn i s8.heap∧(∀b∈fp,Hc b=none)∧
      Le w2 wc H2 Hc∧StoOk G wc Hc stc'∧Hc D=some (.lst accV)∧Reps G wc Hc accT accV∧¬wc.Z D∧notLoc wc D∧accT.length≤i∧
      KK stc'∧Gives G X σV w H Q accT (mapRes (fun t s=>onO (bindTg σ g t) fun σ'=>kp (f σ' s)) (ts.drop i) stc'):=by
    intro st1 s8 H8 w8 accT' accV' hK1 I8 L8 S8 hD8 r8 nz8 nl8 hl8 hq8
    have hpin:∀b∈fp,∀o,s6.heap.get? b=some o→s8.heap.get? b=some o∧H8 b=none:=fun b hb o e=>by
     have:=I8.pin (b,o) (List.mem_append_right _ (List.mem_append_right _ (zaco hb e)))
     exact⟨this.1,this.2.1⟩
    refine⟨ts.length-(i+1),by omega,i+1,H8,w8,st1,accT',accV',rfl,hlt,?_,T.keep _ _ _ t6 fun b hb o e=>(hpin b hb o e).1,fun b hb=>?_,L8,S8,hD8,r8,nz8,nl8,hl8,hK1,hq8⟩
    ·refine Inv.unpinned (pins:=[]) (pl:=pinsAt fp s6.heap) (I8.weak ?_ fun j v e=>?_)
     ·rw[clr_len,zafb]
     ·obtain⟨e1,e2⟩:=clr_get _ _ _ _ e
      rw[zafd e2]
      exact e1
    ·obtain⟨o,e,_⟩:=T.obj _ _ t6 b hb
     exact(hpin b hb o e).2
   refine wpAny_bind (thn zt fun ok s8 h8=>?_)
   have nzD:∀{w8:Wo}{H8:Hp},Le wc w8 Hc H8→¬w8.Z D:=fun L8 z=>by
    rcases L8.newZ D z with z|z
    ·exact nz z
    ·rw[hDc]at z;cases z
   have nlD:∀{w8:Wo}{H8:Hp},Le wc w8 Hc H8→notLoc w8 D:=fun L8=>notLoc.mono L8 (by rw[hDc];intro z;cases z) nl
   cases ok with
   | false=>
    simp only[Bool.false_eq_true,if_false]at h8 ⊢
    obtain⟨H8,I8,w8,o,st1,hfo,L8,S8,R8⟩:=h8
    obtain⟨hK1,hm1⟩:=okc o st1 hfo
    have eo:o=none:=by cases o with|none=>rfl|some t=>exact R8.elim
    subst eo
    rw[zahk,List.append_nil]at hm1
    exact wpAny_pure ⟨rfl,next st1 s8 H8 w8 accT accV hK1 I8 (Lc.trans L8) S8 (L8.keep D _ hDc nl) (Reps.mono L8 Sc _ _ rc) (nzD L8) (nlD L8) (by omega) hm1⟩
   | true=>
    simp only[if_true]at h8 ⊢
    refine wpAny_bind (wpAny_bind (thn h8 fun u9 s9 ⟨v9,H9,I9,r9,w9,o,st1,hfo,L9,S9,R9⟩=>?_))
    obtain⟨hK1,hm1⟩:=okc o st1 hfo
    have eo:∃t9,o=some t9:=by cases o with|none=>exact R9.elim|some t=>exact⟨t,rfl⟩
    obtain⟨t9,rfl⟩:=eo
    have R9:Rep G w9 H9 t9 v9:=R9
    have hD9:=L9.keep D _ hDc nl
    have hlen:accV.length<sizeLine:=by
     rw[←rc.length]
     have:=SOc.small Ic
     omega
    have za:=appended (E:=notedBy (model X.prog X.w) X.A Y.env fun e s'=>compPost (model X.prog X.w) X.A X.xe use Q' (.ref D) A (.error e) s') I9 r9 hD9 hlen fun s10 I10=>
     next st1 s10 _ w9 (accT++[t9]) (accV++[v9]) hK1 I10 ((Lc.trans L9).updNew hfD (by rw[hD9];intro z;cases z)) (S9.upd hD9 (nzD L9) (nlD L9)) zaau
      (Reps.upd hD9 (nzD L9) _ _ ((Reps.mono L9 Sc _ _ rc).append ⟨v9,[],rfl,R9,rfl⟩)) (nzD L9) (nlD L9) (by rw[List.length_append,List.length_singleton];omega) hm1
    rw[eP,eW,eA]at za
    exact wpAny_bind (thn za fun _ s10 h10=>wpAny_pure (wpAny_pure ⟨rfl,h10⟩))
  ·have ei:i=ts.length:=by omega
   subst ei
   rw[List.drop_length]at hmr
   have hmr:∀w' H' a vs,Le w w' H H'→StoOk G w' H' stc'→H' a=some (.lst vs)→Reps G w' H' (accT++[]) vs→H a=none→¬w'.Z a→notLoc w' a→Q (.ref a) H':=hmr
   rw[List.append_nil]at hmr
   have z:=T.done Y eP eW eK eC ts.length [] s' (clr σV (slots g)) Hc (notedBy (model X.prog X.w) X.A Y.env fun e s'=>compPost (model X.prog X.w) X.A X.xe use Q' (.ref D) A (.error e) s') Ic (stat fc) tc SOc.stop
   rw[eA]at z
   refine thn z fun r s5 ⟨hr,I5⟩=>?_
   subst hr
   obtain⟨m5,hm5,_⟩:=I5.loc
   rw[eL]at hm5
   exact wpAny_pure (hfin s5 Hc A D (back I5).1 (back I5).2 ⟨m5,hm5⟩ (hmr wc Hc D accV (L2.trans Lc) Sc hDc rc hHD nz nl))
 show codeAny (model X.prog X.w) X.A (.compStart (.ListComp elt [⟨tg,iter,ifs,0⟩] scope pos) 0 (.ref it) (.ref D) (compEnvC scope (clo X.env.cells scope.names []) A X.env)) (compPost (model X.prog X.w) X.A X.xe use Q' (.ref D) A) _
 rw[←eN]
 exact codeAny_compStart_list (loop _ rfl) (T.self _ 0 _ _ _ tn4 (loop _ rfl))
theorem zafc(hfr:HasFr X)(hc:X.calm=true)(hN:CompN X scope N' (slots g))(hnd:(slots g).Nodup)(hI:PI X tg iter (tI G X C it' .i false))
  (hG:∀A fp s2 H2 xe,PG (cxC X N' scope A fp s2 H2 xe) tg (gTg G g)) (hE:∀A fp s2 H2 xe,Turned G (cxC X N' scope A fp s2 H2 xe) ifs elt f) (hs:∀x,foldedSetIterable iter X.env x=pure x)
  {pins:List (Addr×Obj)}{s:Shared}{σV:St}{H:Hp}{w₀ w:Wo}{H₀:Hp}{σ:Fr}{st:Sto}{Q:VK} (I:Inv X pins σV H s) (gd:Good G w₀ H₀ w H σ st σV)
  (h:WantO G X σV w H ((ev C it' .i σ st).bind fun x s1=>onL x fun ts=>(mapRes (fun t s=>onO (bindTg σ g t) fun σ'=>f σ' s) ts s1).bind fun q s2=>.ok (.val (.lst q)) s2) Q)
  {use:Option (Value→Sem Unit)}{Q':Value→Shared→Prop}
  (hfin:∀(s':Shared) (Hc:Hp) (A D:Addr),Inv X pins σV Hc s'→FpOk X pins Hc A→(∃m,s'.heap.Ns A m)→Q (.ref D) Hc→compPost (model X.prog X.w) X.A X.xe use Q' (.ref D) A (.ok .next) s'):
  wpAny (model X.prog X.w) X.A (comprehension (.ListComp elt [⟨tg,iter,ifs,0⟩] scope pos) scope X.env (firstIterPos [⟨tg,iter,ifs,0⟩] pos) (newList []) false (eval iter X.env) use) Q' X.xe s:=by
 refine zad2 hfr hc hN hnd hI hG hE hs I gd ?_ hfin
 refine⟨w₀,H₀,w,σ,st,gd,?_⟩
 cases he:ev C it' .i σ st with
 | stuck=>rw[he]at h;exact h
 | exc c s1=>rw[he]at h;exact h
 | ok x s1=>
  rw[he]at h
  match x,h with
  | .val (.lst ts),h=>
   intro w2 H2 src L S SO
   have h:WantO G X σV w H ((mapRes (fun t s=>onO (bindTg σ g t) fun σ'=>f σ' s) ts s1).bind fun q s2=>.ok (.val (.lst q)) s2) Q:=h
   refine⟨w2,src,ts,s1,fun _=>True,id,L,S,rfl,fun w' H' s' L' _ _=>(SO.mono L' S).now,trivial,fun r=>⟨fun o s' e=>⟨e,trivial⟩,fun c s' e=>e⟩,?_⟩
   cases hm:mapRes (fun t s=>onO (bindTg σ g t) fun σ'=>f σ' s) ts s1 with
   | stuck=>rw[hm]at h;exact h.elim
   | exc c s2=>rw[hm]at h;show Gives G X σV w H Q [] (mapRes (fun t s=>onO (bindTg σ g t) fun σ'=>f σ' s) ts s1);rw[hm];exact h
   | ok q st'=>rw[hm]at h;show Gives G X σV w H Q [] (mapRes (fun t s=>onO (bindTg σ g t) fun σ'=>f σ' s) ts s1);rw[hm];exact h
  | .val .non,h=>exact h.elim
  | .val (.bl _),h=>exact h.elim
  | .val (.int _),h=>exact h.elim
  | .val (.str _),h=>exact h.elim
  | .val (.tup _),h=>exact h.elim
  | .val (.loc _),h=>exact h.elim
  | .val (.exc _),h=>exact h.elim
  | .bor _,h=>exact h.elim
theorem gone{pins:List (Addr×Obj)}{s:Shared}{σV:St}{H:Hp}{A:Addr}{h':Heap}(I:Inv X pins σV H s)(fA:FpOk X pins H A)(sb:Heap.SameBut A s.heap h'):Inv X pins σV H { s with heap:=h' }:=
 I.turned (t':=s.toks) (fun b o ne e=>(sb.2 b ne).trans e) fA.1 fA.2.1 fA.2.2.2.1 fA.2.2.2.2.1 fA.2.2.2.2.2
theorem zaa2(hc:X.calm=true)(hN:CompN X scope N' (slots g))(hnd:(slots g).Nodup)(hI:PI X tg iter (tI G X C it' .i false))
  (hG:∀A fp s2 H2 xe,PG (cxC X N' scope A fp s2 H2 xe) tg (gTg G g)) (hE:∀A fp s2 H2 xe,Turned G (cxC X N' scope A fp s2 H2 xe) ifs elt f) (hs:∀x,foldedSetIterable iter X.env x=pure x)
  (hev:∀σ s,ev C ce .v σ s=(ev C it' .i σ s).bind fun x s1=>onL x fun ts=>(mapRes (fun t s=>onO (bindTg σ g t) fun σ'=>f σ' s) ts s1).bind fun q s2=>.ok (.val (.lst q)) s2) (hfr:HasFr X:=by exact⟨_,_,_,rfl,rfl,rfl⟩):
  PE X (.ListComp elt [⟨tg,iter,ifs,0⟩] scope pos) (tO G X C ce):=by
 rintro pins s σV H Q I ⟨w₀,H₀,w,σ,st,gd,h⟩
 rw[hev]at h
 rw[eval_ListComp]
 refine zafc hfr hc hN hnd hI hG hE hs I gd h (use:=none) fun s' Hc A D I' fA ⟨m,hm⟩ q=>?_
 exact⟨m,hm,fun h' sb=>⟨.ref D,Hc,gone I' fA sb,rfl,q⟩⟩
theorem zag1{y:Str}{py spos:Pos}{i:Nat}(hc:X.calm=true)(hN:CompN X scope N' (slots g))(hnd:(slots g).Nodup)(hI:PI X tg iter (tI G X C it' .i false))
  (hG:∀A fp s2 H2 xe,PG (cxC X N' scope A fp s2 H2 xe) tg (gTg G g)) (hE:∀A fp s2 H2 xe,Turned G (cxC X N' scope A fp s2 H2 xe) ifs elt f) (hs:∀x,foldedSetIterable iter X.env x=pure x)
  (hev:∀σ s,ev C ce .v σ s=(ev C it' .i σ s).bind fun x s1=>onL x fun ts=>(mapRes (fun t s=>onO (bindTg σ g t) fun σ'=>f σ' s) ts s1).bind fun q s2=>.ok (.val (.lst q)) s2)
  (hsw:swapsWith (.ListComp elt [⟨tg,iter,ifs,0⟩] scope pos) (some (.Name y py)) spos.line X.env=pure true) (hXN:X.N.Nodup) (hi:X.N[i]?=some y) (hy:X.env.scope.names.lookup y=some .local) (hfr:HasFr X:=by exact⟨_,_,_,rfl,rfl,rfl⟩):
  PS X (.Assign [.Name y py] (.ListComp elt [⟨tg,iter,ifs,0⟩] scope pos) spos) (fun D σV H=>tO G X C ce σV H fun v H1=>D.nx (σV.set i (some v)) H1):=by
 rintro pins s σV H DD I ⟨w₀,H₀,w,σ,st,gd,h⟩
 rw[hev]at h
 rw[exec_Assign_Name_used _ _ _ _ hsw]
 refine wpAny_bind (wpAny_standAt (wpAny_bind ?_))
 show wpAny _ X.A (do let _ ←comprehension (.ListComp elt [⟨tg,iter,ifs,0⟩] scope pos) scope X.env _ (newList []) false (eval iter X.env) (some (assign (.Name y py) X.env))) _ _ s
 refine wpAny_bind (thn (zafc (pos:=pos) hfr hc hN hnd hI hG hE hs I gd h (use:=some (assign (.Name y py) X.env)) (Q':=fun _ s'=>SP X pins DD .next s') fun s' Hc A D I' fA ⟨m,hm⟩ q=>?_) fun _ s' hq=>wpAny_pure (wpAny_pure hq))
 refine wpAny_assign_Name (zafe (v:=.ref D) I' hXN hi (.inl hy) rfl (fun s'' I'' ⟨a,sb,ha⟩=>?_) (.inr hy))
 have neA:A≠a:=fun z=>by
  subst z
  rcases ha with ha|ha
  ·exact fA.2.1 ha
  ·exact fA.2.2.2.2.1 y _ ha rfl
 refine⟨m,?_,fun h' sb'=>?_⟩
 ·obtain⟨o,es,ep,e,r⟩:=hm
  exact⟨o,es,ep,(sb.2 A neA).trans e,r⟩
 ·exact⟨_,Hc,gone I'' fA sb',q⟩
theorem zaa4{Y:Cx}{elt:Expr}{e':E}(hE:PE Y elt (tV G Y C e')):Turned G Y [] elt (fun σ st=>one (ev C e' .v σ st)):=by
 intro pins s σV H w₀ H₀ w σ st Q I gd hf
 refine wpAny_tests_nil ?_
 rw[if_pos rfl]
 dsimp only at hf
 refine hE pins s σV H (fun v H'=>Q (some v) H') I ⟨w₀,H₀,w,σ,st,gd,?_⟩
 cases he:ev C e' .v σ st with
 | stuck=>rw[he]at hf;exact hf
 | exc c s1=>rw[he]at hf;exact hf
 | ok r s1=>
  rw[he]at hf
  match r,hf with
  | .val t,hf=>exact fun w' H' v L S R=>hf w' H' (some v) L S R
  | .bor ts,hf=>exact hf.elim
end
end IP
end
section
set_option Elab.async false
set_option linter.all false
set_option maxRecDepth 100000
namespace IP
open PySem PySem.Spec L2
def Own(σ:Fr)(σV:St)(a:Addr):Prop:=∃(i:Nat) (ts:List T),σ[i]?=some (some (.own ts))∧σV[i]?=some (some (.ref a))
structure LeS(w w':Wo)(H H':Hp)(σ σ':Fr)(σV σV':St):Prop where
 n:w.n≤w'.n
 io:∀l,l<w.n→w'.io l=w.io l
 Z:∀a,w.Z a→w'.Z a
 keep:∀a o,H a=some o→notLoc w a→¬Own σ σV a→H' a=some o
 newL:∀l,w.n≤l→l<w'.n→H (w'.io l)=none
 some_:∀a,H a≠none→H' a≠none
 own:∀a,Own σ' σV' a→Own σ σV a∨H a=none
 lk:∀(i:Nat) (ts:List T),σ'[i]?=some (some (.lck ts))→(∃us,σ[i]?=some (some (.lck us)))∧σV'[i]?=σV[i]?
section
variable{G:Gx}{X:Cx}{C:Cf}{w w' w₀:Wo}{H H' H₀:Hp}{σ σ':Fr}{σV σV':St}
theorem LeS.refl:LeS w w H H σ σ σV σV:=⟨Nat.le_refl _,fun _ _=>rfl,fun _ z=>z,fun _ _ e _ _=>e,fun l a b=>absurd (Nat.lt_of_lt_of_le b a) (Nat.lt_irrefl _),fun _ z=>z,fun _ z=>.inl z,fun i ts e=>⟨⟨ts,e⟩,rfl⟩⟩
theorem LeS.notLoc(L:LeS w w' H H' σ σ' σV σV'){a:Addr}(h:H a≠none)(nl:IP.notLoc w a):IP.notLoc w' a:=fun l hl q=>by
 by_cases k:l<w.n
 ·exact nl l k (q.trans (L.io l k))
 ·have:=L.newL l (Nat.le_of_not_lt k) hl
  rw[←q]at this
  exact h this
theorem LeS.trans{w2:Wo}{H2:Hp}{σ2:Fr}{σV2:St}(a:LeS w w' H H' σ σ' σV σV')(b:LeS w' w2 H' H2 σ' σ2 σV' σV2):LeS w w2 H H2 σ σ2 σV σV2 where
 n:=Nat.le_trans a.n b.n
 io:=fun l h=>(b.io l (Nat.lt_of_lt_of_le h a.n)).trans (a.io l h)
 Z:=fun x z=>b.Z x (a.Z x z)
 keep:=fun x o e nl no=>by
  have hn:H x≠none:=by rw[e];intro z;cases z
  refine b.keep x o (a.keep x o e nl no) (a.notLoc hn nl) fun z=>?_
  rcases a.own x z with z|z
  ·exact no z
  ·exact hn z
 newL:=fun l h1 h2=>by
  by_cases h:l<w'.n
  ·rw[b.io l h]
   exact a.newL l h1 h
  ·have q:=b.newL l (Nat.le_of_not_lt h) h2
   cases e:H (w2.io l)with
   | none=>rfl
   | some o=>exact absurd q (a.some_ _ (by rw[e];intro z;cases z))
 some_:=fun x z=>b.some_ x (a.some_ x z)
 own:=fun x z=>by
  rcases b.own x z with z|z
  ·exact a.own x z
  ·refine .inr ?_
   cases e:H x with
   | none=>rfl
   | some o=>exact absurd z (a.some_ x (by rw[e];intro q;cases q))
 lk:=fun i ts e=>by
  obtain⟨⟨us,h1⟩,h2⟩:=b.lk i ts e
  obtain⟨h3,h4⟩:=a.lk i us h1
  exact⟨h3,h2.trans h4⟩
theorem LeS.of(L:Le w w' H H'):LeS w w' H H' σ σ σV σV:=⟨L.n,L.io,L.Z,fun a o e nl _=>L.keep a o e nl,L.newL,L.some_,fun _ z=>.inl z,fun i ts e=>⟨⟨ts,e⟩,rfl⟩⟩
structure Kp(w w':Wo)(H H':Hp):Prop where
 n:w.n≤w'.n
 io:∀l,l<w.n→w'.io l=w.io l
 Z:∀a,w.Z a→w'.Z a
 z:∀a u,w.Z a→Rd H a u→Rd H' a u
 t:∀a vs,H a=some (.tup vs)→H' a=some (.tup vs)
 x:∀a φ,H a=some (.ext φ)→H' a=some (.ext φ)
mutual
theorem Rep.kp(L:Kp w w' H H'):∀(t:T) (v:V),Rep G w H t v→Rep G w' H' t v
 | .non,v,h=>h
 | .bl b,v,h=>h
 | .int i,v,h=>h
 | .str x,v,h=>h
 | .tup ts,v,⟨a,vs,e,h,r⟩=>⟨a,vs,e,L.t _ _ h,Reps.kp L ts vs r⟩
 | .lst ts,v,⟨a,vs,e,z,h,r⟩=>⟨a,vs,e,L.Z _ z,L.z _ _ z h,Reps.kp L ts vs r⟩
 | .loc l,v,⟨h,e⟩=>⟨Nat.lt_of_lt_of_le h L.n,by rw[L.io l h];exact e⟩
 | .exc c,v,⟨a,e,h⟩=>⟨a,e,L.x _ _ h⟩
theorem Reps.kp(L:Kp w w' H H'):∀(ts:List T) (vs:List V),Reps G w H ts vs→Reps G w' H' ts vs
 | [],vs,h=>h
 | t::ts,vs,⟨v,r,e,h,q⟩=>⟨v,r,e,Rep.kp L t v h,Reps.kp L ts r q⟩
end
theorem FrOk.notOwnZ(F:FrOk G w H H₀ σ σV){a:Addr}(z:w.Z a):¬Own σ σV a:=fun⟨i,ts,e1,e2⟩=>by
 obtain⟨b,vs,h1,_,_,_,h5,_⟩:=F.own i _ ts e1 rfl
 rw[e2]at h1
 cases h1
 exact h5 z
theorem FrOk.notOwnT(F:FrOk G w H H₀ σ σV){a:Addr}{o:HO}(e:H a=some o)(h:∀vs,o≠.lst vs):¬Own σ σV a:=fun⟨i,ts,e1,e2⟩=>by
 obtain⟨b,vs,h1,h2,_⟩:=F.own i _ ts e1 rfl
 rw[e2]at h1
 cases h1
 rw[e]at h2
 exact h vs (Option.some.inj h2)
theorem LeS.kp{s:Sto}(L:LeS w w' H H' σ σ' σV σV')(S:StoOk G w H s)(F:FrOk G w H H₀ σ σV):Kp w w' H H' where
 n:=L.n
 io:=L.io
 Z:=L.Z
 z:=fun a u z r=>by
  have no:=F.notOwnZ z
  rcases r with r|⟨o,r⟩
  ·exact .inl (L.keep _ _ r (S.zLoc z) no)
  ·exact .inr ⟨o,L.keep _ _ r (S.zLoc z) no⟩
 t:=fun a vs e=>L.keep _ _ e (S.notLoc e (fun _ z=>by cases z) fun _ _ _ z=>by cases z) (F.notOwnT e fun _ z=>by cases z)
 x:=fun a φ e=>L.keep _ _ e (S.notLoc e (fun _ z=>by cases z) fun _ _ _ z=>by cases z) (F.notOwnT e fun _ z=>by cases z)
def WantS(G:Gx)(X:Cx)(w₀:Wo)(H₀:Hp)(w:Wo)(H:Hp)(σ:Fr)(σV:St)(res:SR)(D:Ends):Prop:=match res with
 | .stuck=>False
 | .next σ' s'=>∀w' H' σV',Good G w₀ H₀ w' H' σ' s' σV'→LeS w w' H H' σ σ' σV σV'→D.nx σV' H'
 | .ret r s'=>∀w' H' v,StoOk G w' H' s'→RepR G w' H' r v→Le w₀ w' H₀ H'→D.rt v H'
 | .retO ts s'=>∀w' H' a vs,StoOk G w' H' s'→H' a=some (.lst vs)→Reps G w' H' ts vs→H₀ a=none→¬w'.Z a→notLoc w' a→Le w₀ w' H₀ H'→D.rt (.ref a) H'
 | .exc c σ' s'=>∀w' H' σV' pins u sh,Good G w₀ H₀ w' H' σ' s' σV'→LeS w w' H H' σ σ' σV σV'→Thrown G X pins σV' H' c u sh→X.xe u sh
def tS(G:Gx)(X:Cx)(C:Cf)(a:S):TS:=fun D σV H=>∃w₀ H₀ w σ s,Good G w₀ H₀ w H σ s σV∧WantS G X w₀ H₀ w H σ σV (ex C a σ s) D
def tSs(G:Gx)(X:Cx)(C:Cf)(a:List S):TS:=fun D σV H=>∃w₀ H₀ w σ s,Good G w₀ H₀ w H σ s σV∧WantS G X w₀ H₀ w H σ σV (exs C a σ s) D
theorem PS.imp{st:Stmt}{t t':TS}(h:PS X st t)(q:∀D σ H,t' D σ H→t D σ H):PS X st t':=fun pins s σ H D I z=>h pins s σ H D I (q _ _ _ z)
theorem PSs.imp{st:List Stmt}{t t':TS}(h:PSs X st t)(q:∀D σ H,t' D σ H→t D σ H):PSs X st t':=fun pins s σ H D I z=>h pins s σ H D I (q _ _ _ z)
theorem WantS.mono{res:SR}{D:Ends}(L:LeS w w' H H' σ σ' σV σV')(h:WantS G X w₀ H₀ w H σ σV res D):WantS G X w₀ H₀ w' H' σ' σV' res D:=by
 cases res with
 | stuck=>exact h
 | next σ2 s2=>exact fun w2 H2 σV2 g M=>h w2 H2 σV2 g (L.trans M)
 | ret r s2=>exact h
 | retO ts s2=>exact h
 | exc c σ2 s2=>exact fun w2 H2 σV2 pins u sh g M=>h w2 H2 σV2 pins u sh g (L.trans M)
theorem WantS.bind{m:SR}{k:Fr→Sto→SR}{D:Ends}{u:TS}(h:WantS G X w₀ H₀ w H σ σV (m.bind k) D)
  (hu:∀w1 H1 σ1 s1 σV1,Good G w₀ H₀ w1 H1 σ1 s1 σV1→WantS G X w₀ H₀ w1 H1 σ1 σV1 (k σ1 s1) D→u D σV1 H1):WantS G X w₀ H₀ w H σ σV m { D with nx:=u D }:=by
 cases m with
 | stuck=>exact h
 | next σ2 s2=>exact fun w2 H2 σV2 g L=>hu w2 H2 σ2 s2 σV2 g (WantS.mono L h)
 | ret r s2=>exact h
 | retO ts s2=>exact h
 | exc c σ2 s2=>exact h
theorem zaac:PSs X [] (tSs G X C []):=PSs.imp pss_nil fun D σV H ⟨w₀,H₀,w,σ,s,g,h⟩=>h w H σV g LeS.refl
theorem zaaa{st:Stmt}{rest:List Stmt}{a:S}{as:List S}(h1:PS X st (tS G X C a))(h2:PSs X rest (tSs G X C as)):PSs X (st::rest) (tSs G X C (a::as)):=by
 refine PSs.imp (pss_cons h1 h2) ?_
 rintro D σV H ⟨w₀,H₀,w,σ,s,g,h⟩
 refine⟨w₀,H₀,w,σ,s,g,WantS.bind h fun w1 H1 σ1 s1 σV1 g1 h1=>?_⟩
 exact⟨w₀,H₀,w1,σ1,s1,g1,h1⟩
theorem st_of{m:Res R}{k:R→Sto→SR}{D:Ends}{s:Sto}(g:Good G w₀ H₀ w H σ s σV)(h:WantS G X w₀ H₀ w H σ σV (m.st σ k) D):
  Want G X σV w H m fun v H1=>∃w1 r s1,Le w w1 H H1∧StoOk G w1 H1 s1∧RepR G w1 H1 r v∧Good G w₀ H₀ w1 H1 σ s1 σV∧WantS G X w₀ H₀ w1 H1 σ σV (k r s1) D:=by
 cases m with
 | stuck=>exact h
 | ok r s1=>exact fun w1 H1 v L S R=>⟨w1,r,s1,L,S,R,g.step L S,WantS.mono (LeS.of L) h⟩
 | exc c s1=>exact fun w1 H1 pins u sh L S T=>h w1 H1 σV pins u sh (g.step L S) (LeS.of L) T
theorem onS_w{α:Type}{o:Option α}{f:α→SR}{D:Ends}(h:WantS G X w₀ H₀ w H σ σV (onS o f) D):∃a,o=some a∧WantS G X w₀ H₀ w H σ σV (f a) D:=by
 cases o with
 | none=>exact h.elim
 | some a=>exact⟨a,rfl,h⟩
theorem val_of{r:R}{t:T}(h:r.val?=some t):r=.val t:=by
 cases r with
 | val u=>cases h;rfl
 | bor u=>cases h
theorem own_set{i:Nat}{b:Option B}{x:Option V}(hb:∀ts,b≠some (.own ts)){a:Addr}(h:Own (σ.set i b) (σV.set i x) a):Own σ σV a:=by
 obtain⟨j,ts,e1,e2⟩:=h
 by_cases hj:i=j
 ·subst hj
  have hlt:i<σ.length:=by
   have:=(List.getElem?_eq_some_iff.mp e1).1
   simpa using this
  rw[List.getElem?_set_self hlt]at e1
  exact absurd (Option.some.inj e1) (hb ts)
 ·rw[List.getElem?_set_ne hj]at e1 e2
  exact⟨j,ts,e1,e2⟩
theorem lk_set{i:Nat}{b:Option B}{x:Option V}(hb:∀ts,b≠some (.lck ts))(j:Nat)(ts:List T)(e:(σ.set i b)[j]?=some (some (.lck ts))):(∃us,σ[j]?=some (some (.lck us)))∧(σV.set i x)[j]?=σV[j]?:=by
 by_cases hj:i=j
 ·subst hj
  have hlt:i<σ.length:=by
   have:=(List.getElem?_eq_some_iff.mp e).1
   simpa using this
  rw[List.getElem?_set_self hlt]at e
  exact absurd (Option.some.inj e) (hb ts)
 ·rw[List.getElem?_set_ne hj]at e ⊢
  exact⟨⟨ts,e⟩,rfl⟩
theorem LeS.set{i:Nat}{b:Option B}{x:Option V}(hb:∀ts,b≠some (.own ts))(hb':∀ts,b≠some (.lck ts)):LeS w w H H σ (σ.set i b) σV (σV.set i x):=
 ⟨Nat.le_refl _,fun _ _=>rfl,fun _ z=>z,fun _ _ e _ _=>e,fun l a b=>absurd (Nat.lt_of_lt_of_le b a) (Nat.lt_irrefl _),fun _ z=>z,fun a z=>.inl (own_set hb z),lk_set hb'⟩
theorem LeS.put{i:Nat}{t:T}{v:V}:LeS w w H H σ (IP.put σ i t) σV (σV.set i (some v)):=LeS.set (by intro ts z;cases z) (by intro ts z;cases z)
theorem Good.put{s:Sto}{i:Nat}{t:T}{v:V}(g:Good G w₀ H₀ w H σ s σV)(r:Rep G w H t v):Good G w₀ H₀ w H (IP.put σ i t) s (σV.set i (some v)):=⟨g.sto,g.fr.put r,g.ent⟩
variable{e:Expr}{e':E}{x:Str}{pos pos':Pos}{i:Nat}
theorem sS_asg(hN:X.N.Nodup)(hi:X.N[i]?=some x)(hx:Loc X.env.scope x)(he:PE X e (tV G X C e'))(hs:swapsWith e (some (.Name x pos')) pos.line X.env=pure false)(hf:X.fn x=true∨X.env.scope.names.lookup x=some .local):
  PS X (.Assign [.Name x pos'] e pos) (tS G X C (.asg i e')):=by
 refine PS.imp (ps_set hN hi hx he hs hf) ?_
 rintro D σV H ⟨w₀,H₀,w,σ,s,g,h⟩
 refine⟨w₀,H₀,w,σ,s,g,(st_of g h).imp ?_⟩
 rintro v H1 ⟨w1,r,s1,L1,S1,R1,g1,h1⟩
 obtain⟨t,ht,h1⟩:=onS_w h1
 cases val_of ht
 exact h1 w1 H1 _ (g1.put R1) LeS.put
theorem sS_ret(he:PE X e (tV G X C e')):PS X (.Return (some e) pos) (tS G X C (.ret e')):=by
 refine PS.imp (ps_ret he) ?_
 rintro D σV H ⟨w₀,H₀,w,σ,s,g,h⟩
 refine⟨w₀,H₀,w,σ,s,g,(st_of g h).imp ?_⟩
 rintro v H1 ⟨w1,r,s1,L1,S1,R1,g1,h1⟩
 exact h1 w1 H1 v S1 R1 g1.ent
theorem sS_exp(he:PE X e (tV G X C e'))(hs:swapsWith e none pos.line X.env=pure false):PS X (.Expr e pos) (tS G X C (.exp e')):=by
 refine PS.imp (zahn he hs) ?_
 rintro D σV H ⟨w₀,H₀,w,σ,s,g,h⟩
 refine⟨w₀,H₀,w,σ,s,g,(st_of g h).imp ?_⟩
 rintro v H1 ⟨w1,r,s1,L1,S1,R1,g1,h1⟩
 exact h1 w1 H1 σV g1 LeS.refl
theorem onBS_t{x:R}{v:V}{m n:SR}{D:Ends}(r:RepR G w H x v)(h:WantS G X w₀ H₀ w H σ σV (onBS x m n) D):∃k,v=.bl k∧WantS G X w₀ H₀ w H σ σV (if k=true then m else n) D:=by
 match x,h with
 | .val (.bl true),h=>exact⟨true,r,h⟩
 | .val (.bl false),h=>exact⟨false,r,h⟩
 | .val .non,h=>exact h.elim
 | .val (.int _),h=>exact h.elim
 | .val (.str _),h=>exact h.elim
 | .val (.tup _),h=>exact h.elim
 | .val (.lst _),h=>exact h.elim
 | .val (.loc _),h=>exact h.elim
 | .val (.exc _),h=>exact h.elim
 | .bor _,h=>exact h.elim
theorem sS_ifs{c:Expr}{c':E}{a b:List Stmt}{a' b':List S}(hc:PT X c (tT G X C c'))(ha:PSs X a (tSs G X C a'))(hb:PSs X b (tSs G X C b')):PS X (.If c a b pos) (tS G X C (.ifs c' a' b')):=by
 refine PS.imp (ps_if hc ha hb) ?_
 rintro D σV H ⟨w₀,H₀,w,σ,s,g,h⟩
 refine⟨w₀,H₀,w,σ,s,g,(st_of g h).imp ?_⟩
 rintro v H1 ⟨w1,r,s1,L1,S1,R1,g1,h1⟩
 obtain⟨k,rfl,h1⟩:=onBS_t R1 h1
 refine⟨k,rfl,?_⟩
 cases k with
 | true=>exact iteT ⟨w₀,H₀,w1,σ,s1,g1,h1⟩
 | false=>exact iteF ⟨w₀,H₀,w1,σ,s1,g1,h1⟩
end
end IP
end
section
set_option Elab.async false
set_option linter.all false
set_option maxRecDepth 100000
namespace IP
open PySem PySem.Spec L2
section
variable{G:Gx}{X:Cx}{C:Cf}{w w' w₀:Wo}{H H' H₀:Hp}{σ σ':Fr}{σV σV':St}
theorem zaar{α:Type}{l:List (Option α)}{i j:Nat}{b:Option α}{c:α}(h:(l.set i b)[j]?=some (some c)):(i=j∧b=some c∧i<l.length)∨(i≠j∧l[j]?=some (some c)):=by
 by_cases hj:i=j
 ·subst hj
  have hlt:i<l.length:=by
   have:=(List.getElem?_eq_some_iff.mp h).1
   simpa using this
  rw[List.getElem?_set_self hlt]at h
  exact .inl ⟨rfl,Option.some.inj h,hlt⟩
 ·rw[List.getElem?_set_ne hj]at h
  exact .inr ⟨hj,h⟩
theorem FrOk.mkO{i:Nat}{ts:List T}{a:Addr}{vs:List V}(F:FrOk G w H H₀ σ σV)(ha:H a=some (.lst vs))(r:Reps G w H ts vs)(h0:H₀ a=none)(hz:¬w.Z a)(hl:notLoc w a)
  (hap:∀(j:Nat) (b:B) (us:List T),σ[j]?=some (some b)→ownL b=some us→σV[j]?≠some (some (.ref a))):FrOk G w H H₀ (setOwn σ i ts) (σV.set i (some (.ref a)))where
 len:=by unfold setOwn;simp[F.len]
 val:=fun j t e=>by
  rcases zaar e with⟨_,z,_⟩|⟨ne,z⟩
  ·cases z
  ·obtain⟨v,h1,h2⟩:=F.val j t z
   exact⟨v,by rw[List.getElem?_set_ne ne];exact h1,h2⟩
 own:=fun j b us e eb=>by
  rcases zaar e with⟨rfl,z,hlt⟩|⟨ne,z⟩
  ·cases z
   cases eb
   exact⟨a,vs,by rw[List.getElem?_set_self (by rw[←F.len];exact hlt)],ha,r,h0,hz,hl⟩
  ·obtain⟨p,us',h1,h2⟩:=F.own j b us z eb
   exact⟨p,us',by rw[List.getElem?_set_ne ne];exact h1,h2⟩
 apart:=fun j k b c us us' p hjk e1 eb e2 ec e3 e4=>by
  rcases zaar e1 with⟨rfl,z,hlt⟩|⟨ne,z⟩
  ·rcases zaar e2 with⟨rfl,_,_⟩|⟨ne',z'⟩
   ·exact hjk rfl
   ·rw[List.getElem?_set_self (by rw[←F.len];exact hlt)]at e3
    cases e3
    rw[List.getElem?_set_ne ne']at e4
    exact hap k c us' z' ec e4
  ·rcases zaar e2 with⟨rfl,z',hlt⟩|⟨ne',z'⟩
   ·rw[List.getElem?_set_self (by rw[←F.len];exact hlt)]at e4
    cases e4
    rw[List.getElem?_set_ne ne]at e3
    exact hap j b us z eb e3
   ·rw[List.getElem?_set_ne ne]at e3
    rw[List.getElem?_set_ne ne']at e4
    exact F.apart j k b c us us' p hjk z eb z' ec e3 e4
 bor:=fun j us e=>by
  rcases zaar e with⟨_,z,_⟩|⟨ne,z⟩
  ·cases z
  ·obtain⟨p,us',h1,h2⟩:=F.bor j us z
   exact⟨p,us',by rw[List.getElem?_set_ne ne];exact h1,h2⟩
theorem FrOk.chg{i:Nat}{ts us:List T}{a:Addr}{xs ys:List V}(F:FrOk G w H H₀ σ σV)(hi:σ[i]?=some (some (.own ts)))(hv:σV[i]?=some (some (.ref a)))(ha:H a=some (.lst xs))(r:Reps G w H us ys):
  FrOk G w (upd H a (.lst ys)) H₀ (setOwn σ i us) σV:=by
 obtain⟨a',xs',h1,h2,h3,h4,h5,h6⟩:=F.own i _ ts hi rfl
 rw[hv]at h1
 cases h1
 have hlt:i<σ.length:=(List.getElem?_eq_some_iff.mp hi).1
 exact {
  len:=by unfold setOwn;simp[F.len]
  val:=fun j t e=>by
   rcases zaar e with⟨_,z,_⟩|⟨ne,z⟩
   ·cases z
   ·obtain⟨v,q1,q2⟩:=F.val j t z
    exact⟨v,q1,Rep.upd ha h5 t v q2⟩
  own:=fun j b vs e eb=>by
   rcases zaar e with⟨rfl,z,hlt⟩|⟨ne,z⟩
   ·cases z
    cases eb
    exact⟨a,ys,hv,zaau,Reps.upd ha h5 us ys r,h4,h5,h6⟩
   ·obtain⟨p,us',q1,q2,q3,q4⟩:=F.own j b vs z eb
    have np:p≠a:=fun y=>by
     subst y
     exact F.apart i j _ b ts vs p ne hi rfl z eb hv q1
    exact⟨p,us',q1,by rw[upd_ne np];exact q2,Reps.upd ha h5 _ _ q3,q4⟩
  apart:=fun j k b c us1 us2 p hjk e1 eb e2 ec e3 e4=>by
   have old:∀{j:Nat}{b:B}{us1:List T},(setOwn σ i us)[j]?=some (some b)→ownL b=some us1→∃b' us',σ[j]?=some (some b')∧ownL b'=some us':=fun {j b us1} e eb=>by
    rcases zaar e with⟨rfl,z,_⟩|⟨ne,z⟩
    ·exact⟨_,ts,hi,rfl⟩
    ·exact⟨b,us1,z,eb⟩
   obtain⟨b',u1,z1,y1⟩:=old e1 eb
   obtain⟨c',u2,z2,y2⟩:=old e2 ec
   exact F.apart j k b' c' u1 u2 p hjk z1 y1 z2 y2 e3 e4
  bor:=fun j vs e=>by
   rcases zaar e with⟨_,z,_⟩|⟨ne,z⟩
   ·cases z
   ·obtain⟨p,us',q1,q2,q3,q4,q5⟩:=F.bor j vs z
    have np:p≠a:=fun y=>by subst y;exact q4 h4
    exact⟨p,us',q1,by rw[upd_ne np];exact q2,Reps.upd ha h5 _ _ q3,q4,q5⟩ }
theorem zaer{i:Nat}{ts:List T}(h:ownAt σ i=some ts):σ[i]?=some (some (.own ts)):=by
 unfold ownAt at h
 split at h
 ·rename_i us e
  cases h
  exact e
 ·cases h
theorem Good.chg{s:Sto}{i:Nat}{ts us:List T}{a:Addr}{xs ys:List V}(g:Good G w₀ H₀ w H σ s σV)(hi:σ[i]?=some (some (.own ts)))(hv:σV[i]?=some (some (.ref a)))(ha:H a=some (.lst xs))(r:Reps G w H us ys):
  Good G w₀ H₀ w (upd H a (.lst ys)) (setOwn σ i us) s σV∧LeS w w H (upd H a (.lst ys)) σ (setOwn σ i us) σV σV:=by
 obtain⟨a',xs',h1,h2,h3,h4,h5,h6⟩:=g.fr.own i _ ts hi rfl
 rw[hv]at h1
 cases h1
 have hlt:i<σ.length:=(List.getElem?_eq_some_iff.mp hi).1
 refine⟨⟨g.sto.upd ha h5 h6,g.fr.chg hi hv ha r,g.ent.updNew h4 (by rw[ha];intro z;cases z)⟩,Nat.le_refl _,fun _ _=>rfl,fun _ z=>z,fun p o e nl no=>?_,fun l a b=>absurd (Nat.lt_of_lt_of_le b a) (Nat.lt_irrefl _),fun p z=>?_,fun p z=>.inl ?_,fun j vs e=>?_⟩
 ·have np:p≠a:=fun y=>by subst y;exact no ⟨i,ts,hi,hv⟩
  rw[upd_ne np]
  exact e
 ·by_cases e:p=a
  ·subst e;rw[zaau];intro z;cases z
  ·rw[upd_ne e];exact z
 ·obtain⟨j,vs,e1,e2⟩:=z
  rcases zaar e1 with⟨rfl,_,_⟩|⟨ne,z⟩
  ·exact⟨i,ts,hi,e2⟩
  ·exact⟨j,vs,z,e2⟩
 ·rcases zaar e with⟨rfl,z,_⟩|⟨ne,z⟩
  ·cases z
  ·exact⟨⟨vs,z⟩,rfl⟩
variable{e j:Expr}{e' j':E}{x:Str}{pos pos' p1 p2:Pos}{i:Nat}
theorem tO_mk{D:Ends}{s:Sto}(g:Good G w₀ H₀ w H σ s σV)(h:WantS G X w₀ H₀ w H σ σV (ex C (.mk i e') σ s) D):WantO G X σV w H (ev C e' .v σ s) fun v H1=>D.nx (σV.set i (some v)) H1:=by
 unfold ex at h
 split at h
 ·cases hv:ev C e' .v σ s with
  | stuck=>rw[hv]at h;exact h
  | exc c s1=>rw[hv]at h;exact fun w1 H1 pins u sh L S T=>h w1 H1 σV pins u sh (g.step L S) (LeS.of L) T
  | ok r s1=>
   rw[hv]at h
   obtain⟨ts,ht,h⟩:=onS_w (show WantS G X w₀ H₀ w H σ σV (onS r.lst? fun ts=>.next (setOwn σ i ts) s1) D from h)
   have er:r=.val (.lst ts):=by
    match r,ht with
    | .val (.lst us),ht=>cases ht;rfl
   subst er
   intro w1 H1 a vs L S ha r hn nz nl
   have h0:H₀ a=none:=by
    cases q:H₀ a with
    | none=>rfl
    | some o=>exact absurd hn (g.ent.some_ a (by rw[q];intro z;cases z))
   have g1:=g.step L S
   have hap:∀(j:Nat) (b:B) (us:List T),σ[j]?=some (some b)→ownL b=some us→σV[j]?≠some (some (.ref a)):=fun j b us e eb q=>by
    obtain⟨a',xs',h1,h2,_⟩:=g.fr.own j b us e eb
    rw[q]at h1
    cases h1
    rw[hn]at h2
    cases h2
   refine h w1 H1 _ ⟨g1.sto,g1.fr.mkO ha r h0 nz nl hap,g1.ent⟩ ⟨L.n,L.io,L.Z,fun p o e nl _=>L.keep p o e nl,L.newL,L.some_,fun p z=>?_,fun k us e=>?_⟩
   ·obtain⟨k,us,e1,e2⟩:=z
    rcases zaar e1 with⟨rfl,_,hlt⟩|⟨ne,z⟩
    ·rw[List.getElem?_set_self (by rw[←g.fr.len];exact hlt)]at e2
     cases e2
     exact .inr hn
    ·rw[List.getElem?_set_ne ne]at e2
     exact .inl ⟨k,us,z,e2⟩
   ·rcases zaar e with⟨_,z,_⟩|⟨ne,z⟩
    ·cases z
    ·exact⟨⟨us,z⟩,by rw[List.getElem?_set_ne ne]⟩
 ·exact h.elim
theorem sS_mk(hN:X.N.Nodup)(hi:X.N[i]?=some x)(hx:Loc X.env.scope x)(he:PE X e (tO G X C e'))(hs:swapsWith e (some (.Name x pos')) pos.line X.env=pure false)(hf:X.fn x=true∨X.env.scope.names.lookup x=some .local):
  PS X (.Assign [.Name x pos'] e pos) (tS G X C (.mk i e')):=by
 refine PS.imp (ps_set hN hi hx he hs hf) ?_
 rintro D σV H ⟨w₀,H₀,w,σ,s,g,h⟩
 exact⟨w₀,H₀,w,σ,s,g,tO_mk g h⟩
theorem zac2(hfr:∀σ s r s1,ev C e' .v σ s=.ok r s1→∃ts,r=.val (.lst ts))(he:PS X (.Assign [.Name x pos'] e pos) (fun D σV H=>tO G X C e' σV H fun v H1=>D.nx (σV.set i (some v)) H1)):PS X (.Assign [.Name x pos'] e pos) (tS G X C (.asg i e')):=by
 refine PS.imp he ?_
 rintro D σV H ⟨w₀,H₀,w,σ,s,g,h⟩
 refine⟨w₀,H₀,w,σ,s,g,want_o (hfr σ s) ((st_of g h).imp ?_)⟩
 rintro v H1 ⟨w1,r,s1,L1,S1,R1,g1,h1⟩
 obtain⟨t,ht,h1⟩:=onS_w h1
 cases val_of ht
 exact h1 w1 H1 _ (g1.put R1) LeS.put
theorem sS_app{cpos:Pos}(hN:X.N[i]?=some x)(hv:Vis X.env.scope x)(hd:(x==("__debug__":Str))=false)(hcd:(x==("__classdict__":Str))=false)(he:PE X e (tV G X C e'))(hst:starEach [e] X.env=[(false,eval e X.env)])
  (hline:(p2.endLine==cpos.line)=true) (hbase:attributeBase (.Name x p1) "append" X.env (eval (.Name x p1) X.env)=eval (.Name x p1) X.env)
  (hfew:((backTo cpos (starEach [e] X.env)).all (fun x=>!x.1)&&(backToKw cpos (keywordEach [] X.env)).all (fun x=>x.1.isSome)&&decide ([e].length+([]:List Keyword).length+(if([]:List Keyword).isEmpty then 0 else 1)<30))=true)
  (hs:swapsWith (.Call (.Attribute (.Name x p1) "append" p2) [e] [] cpos) none pos.line X.env=pure false):
  PS X (.Expr (.Call (.Attribute (.Name x p1) "append" p2) [e] [] cpos) pos) (tS G X C (.app i e')):=by
 refine PS.imp (zahn (pe_bm PySem.F.plainAttrs_list PySem.F.slot_list_append PySem.F.type_list_append zadc (pe_var hN hv hd hcd) (zaa3 he pa_nil hst) hbase hfew hline hst rfl) hs) ?_
 rintro D σV H ⟨w₀,H₀,w,σ,s,g,h⟩
 obtain⟨ts,ho,h⟩:=onS_w (show WantS G X w₀ H₀ w H σ σV (onS (ownAt σ i) fun ts=>(ev C e' .v σ s).st σ fun x s1=>onS x.val? fun t=>if ts.length<lim then .next (setOwn σ i (ts++[t])) s1 else .stuck) D from h)
 have hi:=zaer ho
 obtain⟨a,vs,h1,h2,h3,h4,h5,h6⟩:=g.fr.own i _ ts hi rfl
 refine⟨.ref a,h1,.inl ⟨rfl,vs,SqL.of h2⟩,w₀,H₀,w,σ,s,g,(st_of g h).imp ?_⟩
 rintro v H1 ⟨w1,r,s1,L1,S1,R1,g1,q1⟩
 obtain⟨t,ht,q1⟩:=onS_w q1
 cases val_of ht
 split at q1
 ·rename_i hlim
  have ha1:=L1.keep a _ h2 h6
  have r1:=Reps.mono L1 g.sto ts vs h3
  refine⟨a,vs,v,rfl,rfl,ha1,by rw[←h3.length];have:=lim_le;omega,?_⟩
  obtain⟨g2,l2⟩:=g1.chg hi h1 ha1 (r1.append (show Reps G w1 H1 [t] [v]from⟨v,[],rfl,R1,rfl⟩))
  exact q1 w1 _ σV g2 l2
 ·exact q1.elim
theorem sS_put(hN:X.N[i]?=some x)(hv:Vis X.env.scope x)(hd:(x==("__debug__":Str))=false)(hcd:(x==("__classdict__":Str))=false)(he:PE X e (tV G X C e'))(hj:PE X j (tV G X C j'))
  (hs:swapsWithSole [.Subscript (.Name x p1) j p2] e pos.line X.env=pure false) (hw:swappedStores [.Subscript (.Name x p1) j p2] e X.env=pure none) (h1:(assignEach [.Subscript (.Name x p1) j p2] X.env).map (·.2)=[assign (.Subscript (.Name x p1) j p2) X.env])
  (ha:∀v,assign (.Subscript (.Name x p1) j p2) X.env v=(do
   let ov ←holding [v] (eval (.Name x p1) X.env)
   let iv ←holding [v,ov] (eval j X.env)
   standAt p2
   holding [v,ov,iv] (setItem ov iv v)
   release [v,ov,iv] [])):
  PS X (.Assign [.Subscript (.Name x p1) j p2] e pos) (tS G X C (.put i j' e')):=by
 refine PS.imp (ps_asg he (pg_sub (pe_var hN hv hd hcd) hj zah6 ha) hs hw h1) ?_
 rintro D σV H ⟨w₀,H₀,w,σ,s,g,h⟩
 obtain⟨ts,ho,h⟩:=onS_w (show WantS G X w₀ H₀ w H σ σV (onS (ownAt σ i) fun ts=>(ev C e' .v σ s).st σ fun x s1=>onS x.val? fun t=>(ev C j' .v σ s1).st σ fun y s2=>onS y.int? fun k=>onS (L2.ixN ts.length k) fun n=>.next (setOwn σ i (ts.set n t)) s2) D from h)
 have hi:=zaer ho
 obtain⟨a,vs,h1,h2,h3,h4,h5,h6⟩:=g.fr.own i _ ts hi rfl
 refine⟨w₀,H₀,w,σ,s,g,(st_of g h).imp ?_⟩
 rintro v H1 ⟨w1,r,s1,L1,S1,R1,g1,q1⟩
 obtain⟨t,ht,q1⟩:=onS_w q1
 cases val_of ht
 have ha1:=L1.keep a _ h2 h6
 have r1:=Reps.mono L1 g.sto ts vs h3
 have hl1:=notLoc.mono L1 (by rw[h2];intro z;cases z) h6
 refine⟨.ref a,h1,w₀,H₀,w1,σ,s1,g1,(st_of g1 q1).imp ?_⟩
 rintro y H2 ⟨w2,r2,s2,L2,S2,R2,g2,q2⟩
 obtain⟨k,hk,q2⟩:=onS_w q2
 obtain⟨n,hn,q2⟩:=onS_w q2
 cases R2.int hk
 have ha2:=L2.keep a _ ha1 hl1
 have r2:=Reps.mono L2 S1 ts vs r1
 refine⟨a,vs,k,n,rfl,rfl,ha2,by rw[←h3.length];exact hn,?_⟩
 obtain⟨g3,l3⟩:=g2.chg hi h1 ha2 (r2.set (Rep.mono L2 S1 t v R1) n)
 exact q2 w2 _ σV g3 l3
theorem Good.frz{s:Sto}(g:Good G w₀ H₀ w H σ s σV)(i:Nat):∃w',Good G w₀ H₀ w' H (frz σ i) s σV∧LeS w w' H H σ (frz σ i) σV σV:=by
 unfold IP.frz
 split
 ·rename_i ts hi
  obtain⟨a,vs,h1,h2,h3,h4,h5,h6⟩:=g.fr.own i _ ts hi rfl
  have zm:=fun(t:T) (v:V) (h:Rep G w H t v)=>Rep.zmono (w:=w) (w':=w.addZ a) rfl rfl (fun _ z=>.inl z) t v h
  have zms:=fun(t:List T) (v:List V) (h:Reps G w H t v)=>Reps.zmono (w:=w) (w':=w.addZ a) rfl rfl (fun _ z=>.inl z) t v h
  refine⟨w.addZ a,⟨g.sto.addZ h2 h6,⟨by simp[g.fr.len],fun j t e=>?_,fun j b us e eb=>?_,fun j k b c us us' p hjk e1 eb e2 ec=>?_,fun j us e=>?_⟩,g.ent.addZ h4⟩,Nat.le_refl _,fun _ _=>rfl,fun _ z=>.inl z,fun _ _ e _ _=>e,fun l a b=>absurd (Nat.lt_of_lt_of_le b a) (Nat.lt_irrefl _),fun _ z=>z,fun p z=>.inl ?_,fun j us e=>?_⟩
  ·rcases zaar e with⟨rfl,z,_⟩|⟨ne,z⟩
   ·cases z
    exact⟨.ref a,h1,a,vs,rfl,.inr rfl,.inl h2,zms _ _ h3⟩
   ·obtain⟨v,q1,q2⟩:=g.fr.val j t z
    exact⟨v,q1,zm t v q2⟩
  ·rcases zaar e with⟨_,z,_⟩|⟨ne,z⟩
   ·cases z;cases eb
   ·obtain⟨p,us',q1,q2,q3,q4,q5,q6⟩:=g.fr.own j b us z eb
    refine⟨p,us',q1,q2,zms _ _ q3,q4,fun y=>y.elim q5 fun y=>?_,q6⟩
    subst y
    exact g.fr.apart i j _ b ts us p ne hi rfl z eb h1 q1
  ·rcases zaar e1 with⟨_,z,_⟩|⟨ne,z⟩
   ·cases z;cases eb
   ·rcases zaar e2 with⟨_,z',_⟩|⟨ne',z'⟩
    ·cases z';cases ec
    ·exact g.fr.apart j k b c us us' p hjk z eb z' ec
  ·rcases zaar e with⟨_,z,_⟩|⟨ne,z⟩
   ·cases z
   ·obtain⟨p,us',q1,q2,q3,q4⟩:=g.fr.bor j us z
    exact⟨p,us',q1,q2,zms _ _ q3,q4⟩
  ·obtain⟨j,us,e1,e2⟩:=z
   rcases zaar e1 with⟨_,z,_⟩|⟨ne,z⟩
   ·cases z
   ·exact⟨j,us,z,e2⟩
  ·rcases zaar e with⟨_,z,_⟩|⟨ne,z⟩
   ·cases z
   ·exact⟨⟨us,z⟩,rfl⟩
 ·exact⟨w,g,LeS.refl⟩
theorem zafn{rest:List Stmt}{as:List S}(h:PSs X rest (tSs G X C as)):PSs X rest (tSs G X C (.frz i::as)):=by
 refine PSs.imp h ?_
 rintro D σV H ⟨w₀,H₀,w,σ,s,g,h⟩
 obtain⟨w',g',l'⟩:=g.frz i
 exact⟨w₀,H₀,w',IP.frz σ i,s,g',WantS.mono l' h⟩
end
end IP
end
section
set_option Elab.async false
set_option linter.all false
set_option maxRecDepth 100000
namespace IP
open PySem PySem.Spec L2
theorem whileN_up{c:Fr→Sto→Res Bool}{b:Fr→Sto→SR}:∀(n:Nat) (σ:Fr) (s:Sto),whileN c b n σ s≠.stuck→whileN c b (n+1) σ s=whileN c b n σ s:=by
 intro n
 induction n with
 | zero=>intro σ s h;exact absurd rfl h
 | succ n ih=>
  intro σ s h
  have h':=h
  unfold whileN at h
  show whileN c b (n+1+1) σ s=_
  conv=>lhs;unfold whileN
  conv=>rhs;unfold whileN
  cases hc:c σ s with
  | stuck=>rfl
  | exc d s1=>rfl
  | ok k s1=>
   cases k with
   | false=>rfl
   | true=>
    rw[hc]at h
    have h:((b σ s1).bind fun σ2 s2=>whileN c b n σ2 s2)≠.stuck:=h
    show((b σ s1).bind fun σ2 s2=>whileN c b (n+1) σ2 s2)=((b σ s1).bind fun σ2 s2=>whileN c b n σ2 s2)
    cases hb:b σ s1 with
    | stuck=>rfl
    | ret r s2=>rfl
    | retO ts s2=>rfl
    | exc d σ2 s2=>rfl
    | next σ2 s2=>
     rw[hb]at h
     exact ih σ2 s2 h
theorem zac8{c:Fr→Sto→Res Bool}{b:Fr→Sto→SR}{n:Nat}{σ:Fr}{s:Sto}(h:whileN c b n σ s≠.stuck):∀k,whileN c b (n+k) σ s=whileN c b n σ s
 | 0=>rfl
 | k+1=>by
  have ih:=zac8 h k
  rw[←Nat.add_assoc,whileN_up (n+k) σ s (by rw[ih];exact h),ih]
theorem zae5{c:Fr→Sto→Res Bool}{b:Fr→Sto→SR}{n:Nat}{σ:Fr}{s:Sto}(h:whileN c b n σ s≠.stuck):whileL c b σ s=whileN c b n σ s:=by
 have hx:∃n,whileN c b n σ s≠.stuck:=⟨n,h⟩
 unfold whileL
 rw[dif_pos hx]
 have hm:=Classical.choose_spec hx
 generalize Classical.choose hx=m at hm
 rcases Nat.le_total n m with q|q
 ·obtain⟨k,rfl⟩:=Nat.exists_eq_add_of_le q
  exact zac8 h k
 ·obtain⟨k,rfl⟩:=Nat.exists_eq_add_of_le q
  exact(zac8 hm k).symm
theorem zago{c:Fr→Sto→Res Bool}{b:Fr→Sto→SR}{σ:Fr}{s:Sto}(h:whileL c b σ s≠.stuck):∃n,whileL c b σ s=whileN c b n σ s:=by
 unfold whileL at h ⊢
 split at h
 ·rename_i hx
  rw[dif_pos hx]
  exact⟨_,rfl⟩
 ·exact absurd rfl h
theorem whileL_eq(c:Fr→Sto→Res Bool)(b:Fr→Sto→SR)(σ:Fr)(s:Sto):whileL c b σ s=match c σ s with
  | .stuck=>.stuck
  | .exc d s1=>.exc d σ s1
  | .ok false s1=>.next σ s1
  | .ok true s1=>(b σ s1).bind fun σ2 s2=>whileL c b σ2 s2:=by
 by_cases h:∃n,whileN c b n σ s≠.stuck
 ·obtain⟨n,hn⟩:=h
  cases n with
  | zero=>exact absurd rfl hn
  | succ n=>
   rw[zae5 hn]
   unfold whileN at hn ⊢
   cases hc:c σ s with
   | stuck=>rfl
   | exc d s1=>rfl
   | ok k s1=>
    cases k with
    | false=>rfl
    | true=>
     rw[hc]at hn
     have hn:((b σ s1).bind fun σ2 s2=>whileN c b n σ2 s2)≠.stuck:=hn
     show((b σ s1).bind fun σ2 s2=>whileN c b n σ2 s2)=((b σ s1).bind fun σ2 s2=>whileL c b σ2 s2)
     cases hb:b σ s1 with
     | stuck=>rfl
     | ret r s2=>rfl
     | retO ts s2=>rfl
     | exc d σ2 s2=>rfl
     | next σ2 s2=>
      rw[hb]at hn
      exact(zae5 hn).symm
 ·have e:whileL c b σ s=.stuck:=by unfold whileL;rw[dif_neg h]
  rw[e]
  have h:∀n,whileN c b n σ s=.stuck:=fun n=>Classical.byContradiction fun q=>h ⟨n,q⟩
  have h1:=h 1
  unfold whileN at h1
  cases hc:c σ s with
  | stuck=>rfl
  | exc d s1=>rw[hc]at h1;cases h1
  | ok k s1=>
   cases k with
   | false=>rw[hc]at h1;cases h1
   | true=>
    show SR.stuck=((b σ s1).bind fun σ2 s2=>whileL c b σ2 s2)
    cases hb:b σ s1 with
    | stuck=>rfl
    | ret r s2=>rw[hc]at h1;simp[hb,whileN]at h1
    | retO ts s2=>rw[hc]at h1;simp[hb,whileN]at h1
    | exc d σ2 s2=>rw[hc]at h1;simp[hb,whileN]at h1
    | next σ2 s2=>
     show SR.stuck=whileL c b σ2 s2
     unfold whileL
     rw[dif_neg]
     rintro⟨n,hn⟩
     have:=h (n+1)
     unfold whileN at this
     rw[hc]at this
     simp only[hb,SR.bind_next]at this
     exact hn this
section
variable{G:Gx}{X:Cx}{C:Cf}{w w' w₀:Wo}{H H' H₀:Hp}{σ σ':Fr}{σV σV':St}{pos:Pos}
def asB(x:R):Option Bool:=match x with | .val (.bl k)=>some k | _=>none
theorem sS_whl{c:Expr}{c':E}{b:List Stmt}{b':List S}(hwl:C.wl=whileL)(hp:PassesOwn (model X.prog X.w) X.A X.env X.xe)(hc:PT X c (tT G X C c'))(hb:PSs X b (tSs G X C b')):PS X (.While c b [] pos) (tS G X C (.whl c' b')):=by
 refine PS.imp (ps_while hp hc hb) ?_
 rintro D σV H ⟨w₀,H₀,w,σ,s,g,h⟩
 have h:WantS G X w₀ H₀ w H σ σV (C.wl (fun σ s=>(ev C c' .t σ s).bind fun x s1=>.of (match x with | .val (.bl k)=>some k | _=>none) s1) (fun σ s=>exs C b' σ s) σ s) D:=h
 rw[hwl]at h
 generalize hcf:(fun σ s=>(ev C c' .t σ s).bind fun x s1=>Res.of (match x with | .val (.bl k)=>some k | _=>none) s1)=cf at h
 generalize hbf:(fun σ s=>exs C b' σ s)=bf at h
 refine⟨fun m σV1 H1=>∃w1 σ1 s1,Good G w₀ H₀ w1 H1 σ1 s1 σV1∧whileN cf bf m σ1 s1≠.stuck∧WantS G X w₀ H₀ w1 H1 σ1 σV1 (whileN cf bf m σ1 s1) D,?_,?_⟩
 ·have hn:whileL cf bf σ s≠.stuck:=fun z=>by rw[z]at h;exact h
  obtain⟨n,hn'⟩:=zago hn
  rw[hn']at hn h
  exact⟨n,w,σ,s,g,hn,h⟩
 ·rintro m σV1 H1 ⟨w1,σ1,s1,g1,hn1,h1⟩
  cases m with
  | zero=>exact absurd rfl hn1
  | succ n=>
   unfold whileN at hn1 h1
   refine⟨w₀,H₀,w1,σ1,s1,g1,?_⟩
   have ec:cf σ1 s1=(ev C c' .t σ1 s1).bind fun x s1=>Res.of (match x with | .val (.bl k)=>some k | _=>none) s1:=by rw[←hcf]
   rw[ec]at hn1 h1
   cases he:ev C c' .t σ1 s1 with
   | stuck=>rw[he]at hn1;exact absurd rfl hn1
   | exc d s2=>rw[he]at h1;exact fun w2 H2 pins u sh L S T=>h1 w2 H2 σV1 pins u sh (g1.step L S) (LeS.of L) T
   | ok x s2=>
    rw[he]at hn1 h1
    intro w2 H2 v L2 S2 R2
    match x,R2,hn1,h1 with
    | .val (.bl true),R2,hn1,h1=>
     cases R2
     refine⟨true,rfl,iteT ?_⟩
     have hn1:((bf σ1 s2).bind fun σ2 s2=>whileN cf bf n σ2 s2)≠.stuck:=hn1
     have h1:WantS G X w₀ H₀ w1 H1 σ1 σV1 ((bf σ1 s2).bind fun σ2 s2=>whileN cf bf n σ2 s2) D:=h1
     refine⟨fun σV3 H3=>∃w3 σ3 s3,Good G w₀ H₀ w3 H3 σ3 s3 σV3∧whileN cf bf n σ3 s3≠.stuck∧WantS G X w₀ H₀ w3 H3 σ3 σV3 (whileN cf bf n σ3 s3) D,fun σV3 H3 q=>⟨n,Nat.lt_succ_self _,q⟩,?_⟩
     refine⟨w₀,H₀,w2,σ1,s2,g1.step L2 S2,?_⟩
     have eb:bf σ1 s2=exs C b' σ1 s2:=by rw[←hbf]
     rw[eb]at hn1 h1
     cases hx:exs C b' σ1 s2 with
     | stuck=>rw[hx]at h1;exact h1
     | ret r s3=>rw[hx]at h1;exact h1
     | retO ts s3=>rw[hx]at h1;exact h1
     | exc d σ3 s3=>rw[hx]at h1;exact fun w3 H3 σV3 pins u sh g3 L3 T=>h1 w3 H3 σV3 pins u sh g3 ((LeS.of L2).trans L3) T
     | next σ3 s3=>
      rw[hx]at h1 hn1
      intro w3 H3 σV3 g3 L3
      exact⟨w3,σ3,s3,g3,hn1,WantS.mono ((LeS.of L2).trans L3) h1⟩
    | .val (.bl false),R2,hn1,h1=>
     cases R2
     exact⟨false,rfl,iteF (h1 w2 H2 σV1 (g1.step L2 S2) (LeS.of L2))⟩
    | .val .non,_,hn1,h1=>exact h1.elim
    | .val (.int _),_,hn1,h1=>exact h1.elim
    | .val (.str _),_,hn1,h1=>exact h1.elim
    | .val (.tup _),_,hn1,h1=>exact h1.elim
    | .val (.lst _),_,hn1,h1=>exact h1.elim
    | .val (.loc _),_,hn1,h1=>exact h1.elim
    | .val (.exc _),_,hn1,h1=>exact h1.elim
    | .bor _,_,hn1,h1=>exact h1.elim
def zad4(σ:Fr)(σV:St):Src→Prop
 | .l a _=>¬Own σ σV a
 | _=>True
theorem SrcOk.monoS{z:Bool}{s:Sto}(L:LeS w w' H H' σ σ' σV σV')(S:StoOk G w H s)(F:FrOk G w H H₀ σ σV):∀{src:Src}{ts:List T},zad4 σ σV src→SrcOk G w H z src ts→SrcOk G w' H' z src ts∧zad4 σ' σV' src
 | .l a vs,ts,nf,⟨h1,h2,h3,h4⟩=>by
  have hs:=Rd.some h1
  refine⟨⟨?_,Reps.kp (L.kp S F) ts vs h2,L.notLoc hs h3,fun q=>L.Z a (h4 q)⟩,fun z=>?_⟩
  ·rcases h1 with h1|⟨o,h1⟩
   ·exact .inl (L.keep _ _ h1 h3 nf)
   ·exact .inr ⟨o,L.keep _ _ h1 h3 nf⟩
  ·rcases L.own a z with z|z
   ·exact nf z
   ·exact hs z
 | .t a vs,ts,_,⟨h1,h2⟩=>⟨⟨(L.kp S F).t _ _ h1,Reps.kp (L.kp S F) ts vs h2⟩,True.intro⟩
 | .r lo n,ts,_,h=>⟨h,True.intro⟩
theorem zab2{tg:Expr}{g:Tg}{b:List Stmt}{b':List S}{D:Ends}{src:Src}{ts:List T}{s:Sto}{K:PySem.W.Frag}{z:Bool}(gd:Good G w₀ H₀ w H σ s σV)(SO:SrcOk G w H z src ts)(SF:zad4 σ σV src)
  (h:WantS G X w₀ H₀ w H σ σV (forL g (fun σ s=>exs C b' σ s) ts σ s) D):
  ∃W:Nat→Nat→St→Hp→Prop,(∃m,W 0 m σV H)∧∀i m σV H,W i m σV H→
   ((itOf K src).stop i H∧D.nx σV H)∨((itOf K src).go i H∧∃N:St→Hp→Prop,(∀σ' H',N σ' H'→∃m',m'<m∧W (i+1) m' σ' H')∧∀x H',(itOf K src).yld i H x H'→gTg G g x σV H' fun σ2 H2=>tSs G X C b' { D with nx:=N,ct:=N,bk:=D.nx } σ2 H2):=by
 refine⟨fun i m σV1 H1=>∃w1 σ1 s1,m=ts.length-i∧i≤ts.length∧Good G w₀ H₀ w1 H1 σ1 s1 σV1∧SrcOk G w1 H1 z src ts∧zad4 σ1 σV1 src∧WantS G X w₀ H₀ w1 H1 σ1 σV1 (forL g (fun σ s=>exs C b' σ s) (ts.drop i) σ1 s1) D,
  ⟨ts.length,w,σ,s,rfl,Nat.zero_le _,gd,SO,SF,h⟩,?_⟩
 rintro i m σV1 H1 ⟨w1,σ1,s1,hm,hi,g1,SO1,SF1,h1⟩
 by_cases hlt:i<ts.length
 ·refine .inr ?_
  have et:ts[i]?=some ts[i]:=List.getElem?_eq_getElem hlt
  have ed:ts.drop i=ts[i]::ts.drop (i+1):=List.drop_eq_getElem_cons hlt
  rw[ed]at h1
  obtain⟨σ2,hb,h1⟩:=onS_w (show WantS G X w₀ H₀ w1 H1 σ1 σV1 (onS (bindTg σ1 g ts[i]) fun σ'=>(exs C b' σ' s1).bind fun σ2 s2=>forL g (fun σ s=>exs C b' σ s) (ts.drop (i+1)) σ2 s2) D from h1)
  obtain⟨go,yld⟩:=SO1.go (K:=K) et
  refine⟨go,fun σV3 H3=>∃w3 σ3 s3,Good G w₀ H₀ w3 H3 σ3 s3 σV3∧SrcOk G w3 H3 z src ts∧zad4 σ3 σV3 src∧WantS G X w₀ H₀ w3 H3 σ3 σV3 (forL g (fun σ s=>exs C b' σ s) (ts.drop (i+1)) σ3 s3) D,fun σV3 H3 ⟨w3,σ3,s3,q1,q2,q3,q4⟩=>⟨ts.length-(i+1),by omega,w3,σ3,s3,rfl,hlt,q1,q2,q3,q4⟩,fun x H' hy=>?_⟩
  have rx:=(yld x H' hy).2
  obtain rfl:H1=H':=(yld x H' hy).1.symm
  refine⟨w1,s1,ts[i],σ1,σ2,g1.sto,rx,hb,fun vs hfr hl=>?_⟩
  have g2:Good G w₀ H₀ w1 H1 σ2 s1 (setsV σV1 (slots g) vs):=⟨g1.sto,hfr H₀ σV1 g1.fr,g1.ent⟩
  have l2:LeS w1 w1 H1 H1 σ1 σ2 σV1 (setsV σV1 (slots g) vs):=by
   cases g with
   | one k=>
    cases hb
    match vs,hl with
    | [v],_=>exact LeS.put
   | many ks=>
    have hb':∃us,puts σ1 ks us=some σ2:=by
     match hts:ts[i],hb with
     | .tup us,hb=>exact⟨us,hb⟩
     | .lst us,hb=>exact⟨us,hb⟩
     | .non,hb=>cases hb
     | .bl _,hb=>cases hb
     | .int _,hb=>cases hb
     | .str _,hb=>cases hb
     | .loc _,hb=>cases hb
     | .exc _,hb=>cases hb
    obtain⟨us,hb⟩:=hb'
    have go:∀(ks:List Nat) (us:List T) (vs:List V) (σ1:Fr) (σV1:St),puts σ1 ks us=some σ2→vs.length=ks.length→LeS w1 w1 H1 H1 σ1 σ2 σV1 (setsV σV1 ks vs):=by
     intro ks
     induction ks with
     | nil=>
      intro us vs σ1 σV1 hp hl
      cases us with
      | nil=>cases hp;cases vs<;>exact LeS.refl
      | cons u us=>cases hp
     | cons k ks ih=>
      intro us vs σ1 σV1 hp hl
      cases us with
      | nil=>cases hp
      | cons u us=>
       cases vs with
       | nil=>simp at hl
       | cons v vs=>exact LeS.trans (LeS.put (v:=v)) (ih us vs (put σ1 k u) (σV1.set k (some v)) hp (by simpa using hl))
    exact go ks us vs σ1 σV1 hb hl
  obtain⟨SO2,SF2⟩:=SO1.monoS l2 g1.sto g1.fr SF1
  refine⟨w₀,H₀,w1,σ2,s1,g2,?_⟩
  cases hx:exs C b' σ2 s1 with
  | stuck=>rw[hx]at h1;exact h1
  | ret r s3=>rw[hx]at h1;exact h1
  | retO ts s3=>rw[hx]at h1;exact h1
  | exc d σ3 s3=>rw[hx]at h1;exact fun w3 H3 σV3 pins u sh g3 L3 T=>h1 w3 H3 σV3 pins u sh g3 (l2.trans L3) T
  | next σ3 s3=>
   rw[hx]at h1
   intro w3 H3 σV3 g3 L3
   obtain⟨SO3,SF3⟩:=SO2.monoS L3 g2.sto g2.fr SF2
   exact⟨w3,σ3,s3,g3,SO3,SF3,WantS.mono (l2.trans L3) h1⟩
 ·have ei:i=ts.length:=by omega
  subst ei
  rw[List.drop_length]at h1
  exact .inl ⟨SO1.stop,h1 w1 H1 σV1 g1 LeS.refl⟩
theorem zacf{i j:Nat}{b:B}(h:(lock σ i)[j]?=some (some b)):(σ[j]?=some (some b)∧(i=j→∀ts,b≠.own ts))∨(i=j∧∃ts,b=.lck ts∧σ[i]?=some (some (.own ts))):=by
 unfold lock at h
 split at h
 ·rename_i ts e
  rcases zaar h with⟨rfl,z,_⟩|⟨ne,z⟩
  ·exact .inr ⟨rfl,ts,by cases z;rfl,e⟩
  ·exact .inl ⟨z,fun q=>absurd q ne⟩
 ·rename_i hn
  refine .inl ⟨h,fun q ts z=>?_⟩
  subst q z
  exact hn ts h
theorem zacp{i j:Nat}{b:B}(h:(unlock σ i)[j]?=some (some b)):σ[j]?=some (some b)∨(i=j∧∃ts,b=.own ts∧σ[i]?=some (some (.lck ts))):=by
 unfold unlock at h
 split at h
 ·rename_i ts e
  rcases zaar h with⟨rfl,z,_⟩|⟨ne,z⟩
  ·exact .inr ⟨rfl,ts,by cases z;rfl,e⟩
  ·exact .inl z
 ·exact .inl h
theorem lock_len(σ:Fr)(i:Nat):(lock σ i).length=σ.length:=by unfold lock;split<;>simp
theorem zagy(σ:Fr)(i:Nat):(unlock σ i).length=σ.length:=by unfold unlock;split<;>simp
theorem FrOk.relock(F:FrOk G w H H₀ σ σV)(hl:σ'.length=σ.length)(hr:∀(j:Nat) (b:B),σ'[j]?=some (some b)→σ[j]?=some (some b)∨∃b' ts,σ[j]?=some (some b')∧ownL b=some ts∧ownL b'=some ts):FrOk G w H H₀ σ' σV where
 len:=hl.trans F.len
 val:=fun j t e=>by
  rcases hr j _ e with z|⟨b',ts,_,z,_⟩
  ·exact F.val j t z
  ·cases z
 own:=fun j b ts e eb=>by
  rcases hr j _ e with z|⟨b',us,z1,z2,z3⟩
  ·exact F.own j b ts z eb
  ·rw[eb]at z2
   cases z2
   exact F.own j b' ts z1 z3
 apart:=fun j k b c ts us a hjk e1 eb e2 ec e3 e4=>by
  have old:∀{j:Nat}{b:B}{ts:List T},σ'[j]?=some (some b)→ownL b=some ts→∃b',σ[j]?=some (some b')∧ownL b'=some ts:=fun {j b ts} e eb=>by
   rcases hr j _ e with z|⟨b',us,z1,z2,z3⟩
   ·exact⟨b,z,eb⟩
   ·rw[eb]at z2
    cases z2
    exact⟨b',z1,z3⟩
  obtain⟨b',y1,y2⟩:=old e1 eb
  obtain⟨c',y3,y4⟩:=old e2 ec
  exact F.apart j k b' c' ts us a hjk y1 y2 y3 y4 e3 e4
 bor:=fun j ts e=>by
  rcases hr j _ e with z|⟨b',us,_,z,_⟩
  ·exact F.bor j ts z
  ·cases z
theorem Good.lock{s:Sto}(g:Good G w₀ H₀ w H σ s σV)(i:Nat):Good G w₀ H₀ w H (lock σ i) s σV:=⟨g.sto,g.fr.relock (lock_len σ i) fun j b e=>by
 rcases zacf e with⟨z,_⟩|⟨rfl,ts,rfl,z⟩
 ·exact .inl z
 ·exact .inr ⟨_,ts,z,rfl,rfl⟩,g.ent⟩
theorem Good.unlock{s:Sto}(g:Good G w₀ H₀ w H σ s σV)(i:Nat):Good G w₀ H₀ w H (unlock σ i) s σV:=⟨g.sto,g.fr.relock (zagy σ i) fun j b e=>by
 rcases zacp e with z|⟨rfl,ts,rfl,z⟩
 ·exact .inl z
 ·exact .inr ⟨_,ts,z,rfl,rfl⟩,g.ent⟩
theorem LeS.unlock{i:Nat}(hi:isOwn σ i=true)(L:LeS w w' H H' (lock σ i) σ' σV σV'):LeS w w' H H' σ (unlock σ' i) σV σV' where
 n:=L.n
 io:=L.io
 Z:=L.Z
 keep:=fun a o e nl no=>L.keep a o e nl fun⟨j,ts,e1,e2⟩=>by
  rcases zacf e1 with⟨z,_⟩|⟨_,us,z,_⟩
  ·exact no ⟨j,ts,z,e2⟩
  ·cases z
 newL:=L.newL
 some_:=L.some_
 own:=fun a ⟨j,ts,e1,e2⟩=>by
  rcases zacp e1 with z|⟨rfl,us,z1,z2⟩
  ·rcases L.own a ⟨j,ts,z,e2⟩with⟨k,us,y1,y2⟩|y
   ·rcases zacf y1 with⟨z,_⟩|⟨_,vs,z,_⟩
    ·exact .inl ⟨k,us,z,y2⟩
    ·cases z
   ·exact .inr y
  ·obtain⟨⟨vs,y1⟩,y2⟩:=L.lk i us z2
   unfold isOwn at hi
   split at hi
   ·rename_i xs ex
    rw[e2]at y2
    exact .inl ⟨i,xs,ex,y2.symm⟩
   ·cases hi
 lk:=fun j ts e=>by
  rcases zacp e with z|⟨_,us,z,_⟩
  ·obtain⟨⟨us,y1⟩,y2⟩:=L.lk j ts z
   rcases zacf y1 with⟨y,_⟩|⟨rfl,vs,_,y⟩
   ·exact⟨⟨us,y⟩,y2⟩
   ·exfalso
    unfold IP.unlock at e
    split at e
    ·rename_i q
     rcases zaar e with⟨_,q2,_⟩|⟨ne,_⟩
     ·cases q2
     ·exact ne rfl
    ·rename_i q
     exact q ts e
  ·cases z
theorem WantS.unlock{i:Nat}{r:SR}{D:Ends}(hi:isOwn σ i=true)(h:WantS G X w₀ H₀ w H σ σV (r.unlock i) D):WantS G X w₀ H₀ w H (lock σ i) σV r D:=by
 cases r with
 | stuck=>exact h
 | ret r s=>exact h
 | retO ts s=>exact h
 | next σ1 s1=>exact fun w' H' σV' g L=>h w' H' σV' (g.unlock i) (L.unlock hi)
 | exc c σ1 s1=>exact fun w' H' σV' pins u sh g L T=>h w' H' σV' pins u sh (g.unlock i) (L.unlock hi) T
theorem lst_of{x:R}{ts:List T}(h:x.lst?=some ts):x=.val (.lst ts):=by
 match x,h with
 | .val (.lst us),h=>cases h;rfl
theorem sS_for{tg iter:Expr}{it':E}{g:Tg}{b:List Stmt}{b':List S}(hp:PassesOwn (model X.prog X.w) X.A X.env X.xe)(hc:X.calm=true)(hI:PI X tg iter (tI G X C it' .j true))(hg:PG X tg (gTg G g))(hb:PSs X b (tSs G X C b'))
  (hs:∀x,foldedSetIterable iter X.env x=pure x) (hit:∀i,it'≠.var i):PS X (.For tg iter b [] pos) (tS G X C (.for_ g it' b')):=by
 refine PS.imp (ps_for hp hc hI hg hb hs) ?_
 rintro D σV H ⟨w₀,H₀,w,σ,s,gd,h⟩
 have h:WantS G X w₀ H₀ w H σ σV ((ev C it' .j σ s).st σ fun x s1=>onS x.lst? fun ts=>forL g (fun σ s=>exs C b' σ s) ts σ s1) D:=by
  cases it'<;>first|exact h|exact absurd rfl (hit _)
 refine⟨w₀,H₀,w,σ,s,gd,?_⟩
 cases he:ev C it' .j σ s with
 | stuck=>rw[he]at h;exact h.elim
 | exc c s1=>rw[he]at h;exact fun w1 H1 pins u sh L S T=>h w1 H1 σV pins u sh (gd.step L S) (LeS.of L) T
 | ok x s1=>
  rw[he]at h
  obtain⟨ts,ht,h⟩:=onS_w (show WantS G X w₀ H₀ w H σ σV (onS x.lst? fun ts=>forL g (fun σ s=>exs C b' σ s) ts σ s1) D from h)
  cases lst_of ht
  intro w1 H1 src L S SO
  have g1:=gd.step L S
  refine zab2 (X:=X) (tg:=tg) (b:=b) (z:=true) (K:=X.K) g1 SO ?_ (WantS.mono (LeS.of L) h)
  cases src with
  | l a vs=>exact g1.fr.notOwnZ (SO.2.2.2 rfl)
  | t a vs=>exact True.intro
  | r lo n=>exact True.intro
theorem sS_forV{tg:Expr}{x:Str}{xp:Pos}{i:Nat}{g:Tg}{b:List Stmt}{b':List S}(hp:PassesOwn (model X.prog X.w) X.A X.env X.xe)(hc:X.calm=true)(hN:X.N[i]?=some x)(hv:Vis X.env.scope x)(hd:(x==("__debug__":Str))=false)(hcd:(x==("__classdict__":Str))=false)
  (hg:PG X tg (gTg G g)) (hb:PSs X b (tSs G X C b')) (hs:∀y,foldedSetIterable (.Name x xp) X.env y=pure y):PS X (.For tg (.Name x xp) b [] pos) (tS G X C (.for_ g (.var i) b')):=by
 refine PS.imp (ps_for hp hc (pi_seq (pe_var hN hv hd hcd)) hg hb hs) ?_
 rintro D σV H ⟨w₀,H₀,w,σ,s,gd,h⟩
 have h:WantS G X w₀ H₀ w H σ σV ((ev C (.var i) .i σ s).st σ fun x s1=>onS x.lst? fun ts=>if isOwn σ i then(forL g (fun σ s=>exs C b' σ s) ts (lock σ i) s1).unlock i else forL g (fun σ s=>exs C b' σ s) ts σ s1) D:=h
 have hev:ev C (.var i) .i σ s=(Res.of (look σ i) s).bind fun x s=>.of (x.sq2.map fun ts=>.val (.lst ts)) s:=rfl
 rw[hev]at h
 cases hl:look σ i with
 | none=>rw[hl]at h;exact h.elim
 | some r=>
  rw[hl]at h
  have h:WantS G X w₀ H₀ w H σ σV ((Res.of (r.sq2.map fun ts=>.val (.lst ts)) s).st σ fun x s1=>onS x.lst? fun ts=>if isOwn σ i then(forL g (fun σ s=>exs C b' σ s) ts (lock σ i) s1).unlock i else forL g (fun σ s=>exs C b' σ s) ts σ s1) D:=h
  cases hq:r.sq2 with
  | none=>rw[hq]at h;exact h.elim
  | some ts=>
   rw[hq]at h
   have h:WantS G X w₀ H₀ w H σ σV (if isOwn σ i then(forL g (fun σ s=>exs C b' σ s) ts (lock σ i) s).unlock i else forL g (fun σ s=>exs C b' σ s) ts σ s) D:=h
   unfold look at hl
   split at hl
   ·rename_i t et
    cases hl
    obtain⟨v,e1,e2⟩:=gd.fr.val i t et
    have no:isOwn σ i=false:=by unfold isOwn;rw[et]
    rw[no]at h
    match t,hq,e2 with
    | .lst us,hq,⟨a,vs,ev,hz,hr,rp⟩=>
     cases hq
     subst ev
     exact⟨_,e1,a,rfl,.inl ⟨vs,hr,zab2 (X:=X) (tg:=tg) (b:=b) (z:=false) (src:=.l a vs) (K:=X.K) gd ⟨hr,rp,gd.sto.zLoc hz,fun z=>by cases z⟩ (gd.fr.notOwnZ hz) h⟩⟩
    | .tup us,hq,⟨a,vs,ev,hr,rp⟩=>
     cases hq
     subst ev
     exact⟨_,e1,a,rfl,.inr ⟨vs,hr,zab2 (X:=X) (tg:=tg) (b:=b) (z:=false) (src:=.t a vs) (K:=X.K) gd ⟨hr,rp⟩ True.intro h⟩⟩
   ·rename_i us et
    cases hl
    cases hq
    obtain⟨a,vs,e1,e2,e3,e4,e5,e6⟩:=gd.fr.own i _ ts et rfl
    have ho:isOwn σ i=true:=by unfold isOwn;rw[et]
    rw[ho]at h
    have h:WantS G X w₀ H₀ w H σ σV ((forL g (fun σ s=>exs C b' σ s) ts (lock σ i) s).unlock i) D:=h
    refine⟨_,e1,a,rfl,.inl ⟨vs,.inl e2,zab2 (X:=X) (tg:=tg) (b:=b) (z:=false) (src:=.l a vs) (K:=X.K) (gd.lock i) ⟨.inl e2,e3,e6,fun z=>by cases z⟩ (fun⟨j,qs,y1,y2⟩=>?_) (WantS.unlock ho h)⟩⟩
    rcases zacf y1 with⟨z,z'⟩|⟨_,xs,z,_⟩
    ·by_cases hij:i=j
     ·exact z' hij qs rfl
     ·exact gd.fr.apart i j _ _ ts qs a hij et rfl z rfl e1 y2
    ·cases z
   ·rename_i us et
    cases hl
    cases hq
    obtain⟨a,vs,e1,e2,e3,e4,e6⟩:=gd.fr.bor i ts et
    have no:isOwn σ i=false:=by unfold isOwn;rw[et]
    rw[no]at h
    refine⟨_,e1,a,rfl,.inl ⟨vs,.inl e2,zab2 (X:=X) (tg:=tg) (b:=b) (z:=false) (src:=.l a vs) (K:=X.K) gd ⟨.inl e2,e3,e6,fun z=>by cases z⟩ (fun⟨j,qs,y1,y2⟩=>?_) h⟩⟩
    obtain⟨a',xs,q1,_,_,q4,_⟩:=gd.fr.own j _ qs y1 rfl
    rw[y2]at q1
    cases q1
    exact e4 q4
   ·rename_i us et
    cases hl
    cases hq
    obtain⟨a,vs,e1,e2,e3,e4,e5,e6⟩:=gd.fr.own i _ ts et rfl
    have no:isOwn σ i=false:=by unfold isOwn;rw[et]
    rw[no]at h
    refine⟨_,e1,a,rfl,.inl ⟨vs,.inl e2,zab2 (X:=X) (tg:=tg) (b:=b) (z:=false) (src:=.l a vs) (K:=X.K) gd ⟨.inl e2,e3,e6,fun z=>by cases z⟩ (fun⟨j,qs,y1,y2⟩=>?_) h⟩⟩
    by_cases hij:i=j
    ·subst hij;rw[et]at y1;cases y1
    ·exact gd.fr.apart i j _ _ ts qs a hij et rfl y1 rfl e1 y2
   ·cases hl
end
end IP
end
section
set_option Elab.async false
set_option linter.all false
set_option maxRecDepth 100000
namespace IP
open PySem PySem.Spec L2
open PyProof.Rows (subscriptTail)
section
variable{G:Gx}{X:Cx}{C:Cf}{w w' w₀:Wo}{H H' H₀:Hp}{σ σ':Fr}{σV σV':St}{a b e:Expr}{a' b' e':E}{pos p p2:Pos}{Q:VK}{i:Nat}{x:Str}
theorem WantO.mono{res:Res R}{w1:Wo}{H1:Hp}(L:Le w w1 H H1)(h:WantO G X σV w H res Q):WantO G X σV w1 H1 res Q:=by
 match res,h with
 | .stuck,h=>exact h
 | .exc c s,h=>exact fun w' H' pins u sh a b=>h w' H' pins u sh (L.trans a) b
 | .ok (.val (.lst ts)) s,h=>
  intro w' H' a vs L' S ha r hn nz nl
  refine h w' H' a vs (L.trans L') S ha r ?_ nz nl
  cases q:H a with
  | none=>rfl
  | some o=>exact absurd hn (L.some_ a (by rw[q];intro z;cases z))
 | .ok (.val .non) s,h=>exact h
 | .ok (.val (.bl _)) s,h=>exact h
 | .ok (.val (.int _)) s,h=>exact h
 | .ok (.val (.str _)) s,h=>exact h
 | .ok (.val (.tup _)) s,h=>exact h
 | .ok (.val (.loc _)) s,h=>exact h
 | .ok (.val (.exc _)) s,h=>exact h
 | .ok (.bor _) s,h=>exact h
theorem WantO.bind{m:Res R}{k:R→Sto→Res R}(h:WantO G X σV w H (m.bind k) Q):
  Want G X σV w H m fun v H1=>∃w1 r s1,Le w w1 H H1∧StoOk G w1 H1 s1∧RepR G w1 H1 r v∧WantO G X σV w1 H1 (k r s1) Q:=by
 cases m with
 | stuck=>exact h
 | ok r s=>exact fun w' H' v a b c=>⟨w',r,s,a,b,c,WantO.mono a h⟩
 | exc c s=>exact h
theorem WantO.of{o:Option R}{s:Sto}(h:WantO G X σV w H (Res.of o s) Q):∃ts,o=some (.val (.lst ts))∧∀w' H' a vs,Le w w' H H'→StoOk G w' H' s→H' a=some (.lst vs)→Reps G w' H' ts vs→H a=none→¬w'.Z a→notLoc w' a→Q (.ref a) H':=by
 match o,h with
 | none,h=>exact h.elim
 | some (.val (.lst ts)),h=>exact⟨ts,rfl,h⟩
 | some (.val .non),h=>exact h.elim
 | some (.val (.bl _)),h=>exact h.elim
 | some (.val (.int _)),h=>exact h.elim
 | some (.val (.str _)),h=>exact h.elim
 | some (.val (.tup _)),h=>exact h.elim
 | some (.val (.loc _)),h=>exact h.elim
 | some (.val (.exc _)),h=>exact h.elim
 | some (.bor _),h=>exact h.elim
theorem sV_of(hE:PE X e (tO G X C e'))(hfr:∀σ s r s1,ev C e' .v σ s=.ok r s1→∃ts,r=.val (.lst ts)):PE X e (tV G X C e'):=
 PE.imp hE fun σV H Q ⟨w₀,H₀,w,σ,s,g,h⟩=>⟨w₀,H₀,w,σ,s,g,want_o (hfr σ s) h⟩
theorem sO_lst{es:List Expr}{es':List E}(h:PA X es (tA G X C es'))(hz:es'.length≤sizeLine):PE X (.List es pos) (tO G X C (.lst es')):=by
 refine PE.imp (pe_lst h) ?_
 rintro σV H Q ⟨w₀,H₀,w,σ,s,g,h⟩
 have h:WantO G X σV w H ((evs C es' σ s).bind fun ts s1=>.ok (.val (.lst ts)) s1) Q:=h
 refine⟨w₀,H₀,w,σ,s,g,?_⟩
 cases hf:evs C es' σ s with
 | stuck=>rw[hf]at h;exact h
 | exc c s2=>rw[hf]at h;exact h
 | ok ts s2=>
  rw[hf]at h
  intro w2 H2 vs L2 S2 R2
  refine⟨by rw[←R2.length,zaem C _ _ _ _ _ hf];exact hz,?_⟩
  exact zaev S2 R2 (WantO.mono L2 h)
def r1O(G:Gx)(f:R→Option R):V→Hp→VK→Prop:=fun x H Q=>∃w s rx ts,StoOk G w H s∧RepD G w H rx x∧f rx=some (.val (.lst ts))∧∀w' H' a vs,Le w w' H H'→StoOk G w' H' s→H' a=some (.lst vs)→Reps G w' H' ts vs→H a=none→¬w'.Z a→notLoc w' a→Q (.ref a) H'
theorem t1O_of{f:R→Option R}(h:∃w₀ H₀ w σ s,Good G w₀ H₀ w H σ s σV∧WantO G X σV w H ((ev C a' .v σ s).bind fun x s1=>.of (f (x.dr s1)) s1) Q):tV G X C a' σV H fun v H1=>r1O G f v H1 Q:=by
 obtain⟨w₀,H₀,w,σ,s,g,h⟩:=h
 refine⟨w₀,H₀,w,σ,s,g,(WantO.bind h).imp ?_⟩
 rintro v H1 ⟨w1,r1,s1,L1,S1,R1,h1⟩
 obtain⟨ts,e,q⟩:=WantO.of h1
 exact⟨w1,s1,_,ts,S1,R1.dr S1,e,q⟩
theorem c_listO:CallR X (.type "list") (fun xs H Q=>∃v,xs=[v]∧r1O G (b1R .list) v H Q):=by
 refine CallR.imp zacc ?_
 rintro xs H Q ⟨v,rfl,w,s,rx,ts,S,R1,e,q⟩
 obtain⟨us,ht,er⟩:=map_some e
 cases er
 obtain⟨pa,vs,rfl,hp,rp⟩:=RepD.sq2 R1 ht
 exact⟨pa,vs,rfl,hp.imp (fun h=>.inl h) (fun h=>SqT.of h),zaev S rp q⟩
theorem sO_list(hg:Gl X "list")(hm:X.mg "list"=none)(ha:PE X a (tV G X C a'))(hs:starEach [a] X.env=[(false,eval a X.env)]):PE X (.Call (.Name "list" p) [a] [] pos) (tO G X C (.b1 .list a')):=by
 refine PE.imp (zaex (c_listO (G:=G)) hg hm (by rfl) (zaa3 ha pa_nil hs) (by decide) (by decide) hs rfl) ?_
 rintro σV H Q ⟨w₀,H₀,w,σ,s,g,h⟩
 have h:WantO G X σV w H ((ev C a' .v σ s).bind fun x s1=>.of (b1R .list (x.dr s1)) s1) Q:=h
 obtain⟨w₀,H₀,w,σ,s,g,h⟩:=t1O_of ⟨w₀,H₀,w,σ,s,g,h⟩
 exact⟨w₀,H₀,w,σ,s,g,h.imp fun v H1 q=>⟨v,rfl,q⟩⟩
def r2O(G:Gx)(f:R→R→Option R):V→V→Hp→VK→Prop:=fun x y H Q=>∃w s rx ry ts,StoOk G w H s∧RepR G w H rx x∧RepR G w H ry y∧f rx ry=some (.val (.lst ts))∧∀w' H' a vs,Le w w' H H'→StoOk G w' H' s→H' a=some (.lst vs)→Reps G w' H' ts vs→H a=none→¬w'.Z a→notLoc w' a→Q (.ref a) H'
theorem add_seqs{x' y':R}{ts:List T}(e:opR .add x' y'=some (.val (.lst ts))):∃xs ys,x'.seq=some xs∧y'.seq=some ys∧xs.length+ys.length≤lim∧ts=xs++ys:=by
 unfold opR at e
 split at e
 ·rename_i i j
  cases ho:opI .add i j with
  | none=>rw[ho]at e;cases e
  | some k=>rw[ho]at e;cases e
 ·split at e<;>cases e
 ·split at e
  ·rename_i xs ys e1 e2
   split at e
   ·rename_i hl
    cases e
    exact⟨xs,ys,e1,e2,hl,rfl⟩
   ·cases e
  ·cases e
 ·cases e
theorem op_addO:OpR X (binaryOp .Add) (r2O G (opR .add)):=by
 intro pins s σ H x y v u Q I rx ry h
 obtain⟨w,st,x',y',ts,S,Rx,Ry,e,q⟩:=h
 obtain⟨xs,ys,e1,e2,hl,rfl⟩:=add_seqs e
 obtain⟨p,vs,rfl,hp,r1⟩:=RepR.seq (s:=st) Rx e1
 obtain⟨p2,vs2,rfl,hp2,r2⟩:=RepR.seq (s:=st) Ry e2
 cases rx
 cases ry
 obtain⟨z,its,n,q1,l1,g1⟩:=Rd.lst I hp
 obtain⟨z2,its2,n2,q2,l2,g2⟩:=Rd.lst I hp2
 have hz:its.length+its2.length≤sizeLine:=by
  rw[←l1,←l2,←r1.length,←r2.length]
  have:lim≤sizeLine:=by decide
  omega
 refine PySem.P.add_list g1 g2 ?_ (by rw[List.size_toArray,List.size_toArray];exact hz)
 have ea:its.toArray++its2.toArray=(its++its2).toArray:=by simp
 rw[ea]
 exact⟨.ref _,_,I.lnew (t':=s.toks) (q1.append q2) (by rw[List.length_append,l1,l2];exact hz),rfl,zaev S (r1.append r2) q _ I.fresh⟩
theorem sO_add(ha:PE X a (tV G X C a'))(hb:PE X b (tV G X C b')):PE X (.BinOp a .Add b pos) (tO G X C (.bin .add a' b')):=by
 refine PE.imp (pe_op (op_addO (G:=G)) ha hb) ?_
 rintro σV H Q ⟨w₀,H₀,w,σ,s,g,h⟩
 have h:WantO G X σV w H ((ev C a' .v σ s).bind fun x s1=>(ev C b' .v σ s1).bind fun y s2=>.of (opR .add x y) s2) Q:=h
 refine⟨w₀,H₀,w,σ,s,g,(WantO.bind h).imp ?_⟩
 rintro x H1 ⟨w1,r1,s1,L1,S1,R1,h1⟩
 refine⟨w₀,H₀,w1,σ,s1,g.step L1 S1,(WantO.bind h1).imp ?_⟩
 rintro y H2 ⟨w2,r2,s2,L2,S2,R2,h2⟩
 obtain⟨ts,e,q⟩:=WantO.of h2
 exact⟨w2,s2,r1,r2,ts,S2,R1.mono L2 S1,R2,e,q⟩
theorem sO_rev{k1:Nat}{pu pn ps:Pos}(ha:PE X a (tV G X C a')):PE X (.Subscript a (.Slice none none (some (.UnaryOp .USub (.Constant (.int 1) k1 pn) pu)) ps) pos) (tO G X C (.rev a')):=by
 intro pins s σV H Q I h
 obtain⟨w₀,H₀,w,σ,st,g,h⟩:=h
 have h:WantO G X σV w H ((ev C a' .v σ st).bind fun x s1=>.of (x.seq.map fun ts=>.val (.lst ts.reverse)) s1) Q:=h
 refine PyProof.Rows.Subscript_ (thn (ha pins s σV H _ I ⟨w₀,H₀,w,σ,st,g,WantO.bind h⟩) fun v s1 ⟨x,H1,I1,r1,q1⟩=>?_)
 obtain⟨w1,rr,st1,L1,S1,R1,h1⟩:=q1
 obtain⟨ts,e,q⟩:=WantO.of h1
 obtain⟨us,hs,er⟩:=map_some e
 cases er
 obtain⟨pa,vs,rfl,hp,rp⟩:=RepR.seq (s:=st1) R1 hs
 cases r1
 have hneg:PE X (.UnaryOp .USub (.Constant (.int 1) k1 pn) pu) (tV G X C (.neg (.cst (.int 1)))):=sV_neg sV_int
 refine wpAny_Slice (thn (zae0 pins s1 σV H1 (fun o H2=>o=none∧H2=H1) I1 ⟨rfl,rfl⟩) fun vl s2 ⟨l,H2,I2,pl,e2,e2'⟩=>thn (zae0 pins s2 σV H2 (fun o H3=>o=none∧H3=H1) I2 ⟨rfl,e2'⟩) fun vu s3 ⟨u,H3,I3,pu,e3,e3'⟩=>?_)
 subst e2' e3' e2 e3
 refine thn (zadq hneg pins s3 σV H3 (fun o H4=>o=some (-1)∧∃w4,Le w1 w4 H3 H4∧StoOk G w4 H4 st1) I3 ⟨w₀,H₀,w1,σ,st1,g.step L1 S1,fun w4 H4 v L4 S4 R4=>⟨-1,R4,rfl,w4,L4,S4⟩⟩) fun vk s4 ⟨o,H4,I4,pk,e4,w4,L4,S4⟩=>?_
 subst e4
 cases pl
 cases pu
 have nl:Rd H3 pa (.lst vs):=hp
 have R4:RepR G w4 H4 rr (.ref pa):=R1.mono L4 S1
 obtain⟨pa',vs',ee,hp',rp'⟩:=RepR.seq (s:=st1) R4 hs
 cases ee
 have I5:Inv X pins σV H4 { s4 with heap:=s4.heap.push { cls:=.type "slice",data:=.fields #[.none,.none,vk] } }:=I4.kept (t':=s4.toks) fun b ob q=>Heap.get?_push_of_some _ q
 obtain⟨z,its,n,q1,l1,g1⟩:=Rd.lst I5 hp'
 show wpAny (model X.prog X.w) X.A (subscriptTail a (.Slice none none (some (.UnaryOp .USub (.Constant (.int 1) k1 pn) pu)) ps) (.ref pa) (.ref s4.heap.objs.size)) (EP X pins σV Q) X.xe { s4 with heap:=s4.heap.push { cls:=.type "slice",data:=.fields #[.none,.none,vk] } }
 have il:({ s4 with heap:=s4.heap.push { cls:=.type "slice",data:=.fields #[.none,.none,vk] } }:Shared).heap.IsList pa its.toArray:=⟨_,g1,rfl,_,rfl⟩
 refine PyProof.Rows.tail_any (ops:=[.ref pa,.ref s4.heap.objs.size]) il.typeIs slot_list_getitem.lookup ?_ (by with_unfolding_all rfl)
 refine wpAny_getItem_list_slice il (Heap.IsSliceOf.new ..) .none .none pk (by simp) ?_ (by rw[List.size_toArray,←l1];exact z)
 rw[PySem.W.krv_pick]
 refine⟨.ref _,_,I5.lnew (t':=s4.toks) (ys:=vs'.reverse) (its:=its.reverse) ?_ (by rw[List.length_reverse];exact z),rfl,?_⟩
 ·exact q1.reverse
 ·exact zaev S4 rp'.reverse (fun w' H' a vs L S ha r hn=>q w' H' a vs (L4.trans L) S ha r (by
   cases qq:H3 a with
   | none=>rfl
   | some o=>exact absurd hn (L4.some_ a (by rw[qq];intro z;cases z)))) _ I5.fresh
end
end IP
end
section
set_option Elab.async false
set_option linter.all false
set_option maxRecDepth 100000
namespace IP
open PySem PySem.Spec L2
section
variable{G:Gx}{X:Cx}{C:Cf}{w w' w₀:Wo}{H H' H₀:Hp}{σ σ':Fr}{σV σV':St}{a b e:Expr}{a' b' e':IP.E}{pos p p2:Pos}{Q:VK}{i:Nat}{x:Str}
theorem old_none{s:Sto}(g:Good G w₀ H₀ w H σ s σV){a:Addr}(hn:H a=none):H₀ a=none:=by
 cases q:H₀ a with
 | none=>rfl
 | some o=>exact absurd hn (g.ent.some_ a (by rw[q];intro z;cases z))
theorem sS_retO(he:PE X e (tO G X C e')):PS X (.Return (some e) pos) (tS G X C (.retO e')):=by
 refine PS.imp (ps_ret he) ?_
 rintro D σV H ⟨w₀,H₀,w,σ,s,g,h⟩
 refine⟨w₀,H₀,w,σ,s,g,?_⟩
 unfold ex at h
 split at h
 ·cases hv:ev C e' .v σ s with
  | stuck=>rw[hv]at h;exact h
  | exc c s1=>rw[hv]at h;exact fun w1 H1 pins u sh L S T=>h w1 H1 σV pins u sh (g.step L S) (LeS.of L) T
  | ok r s1=>
   rw[hv]at h
   obtain⟨ts,ht,h⟩:=onS_w (show WantS G X w₀ H₀ w H σ σV (onS r.lst? fun ts=>.retO ts s1) D from h)
   cases lst_of ht
   exact fun w1 H1 a vs L S ha r hn nz nl=>h w1 H1 a vs S ha r (old_none g hn) nz nl (g.ent.trans L)
 ·exact h.elim
def spG(G:Gx)(cf:Nat→List R→Sto→Res R)(fr:Nat→Bool)(f:Nat):Sp:=fun vs H Q E=>∃w s rs,StoOk G w H s∧RepRs G w H rs vs∧match cf f rs s with
 | .stuck=>False
 | .ok r s'=>(fr f=false→∀w' H' v,Le w w' H H'→StoOk G w' H' s'→RepR G w' H' r v→Q v H')∧
   (fr f=true→∃ts,r=.val (.lst ts)∧∀w' H' a vs,Le w w' H H'→StoOk G w' H' s'→H' a=some (.lst vs)→Reps G w' H' ts vs→H a=none→¬w'.Z a→notLoc w' a→Q (.ref a) H')
 | .exc c s'=>∀w' H',Le w w' H H'→StoOk G w' H' s'→E (.ref (G.cA c)) none H'
variable{k fi:Nat}{fa:Addr}{fd:FuncData}{ps:List Str}{e₀:Expr}{es:List Expr}{es':List IP.E}{rs:List R}{vs:List V}
theorem zafw{w:Wo}{H:Hp}{σV:St}{m:Res (List R)}{k:List R→Sto→Res R}{Q:VK}(h:WantO G X σV w H (m.bind k) Q):WantR G X σV w H m fun vs H1=>∃w1 rs s1,Le w w1 H H1∧StoOk G w1 H1 s1∧RepRs G w1 H1 rs vs∧WantO G X σV w H (k rs s1) Q:=by
 cases m with
 | stuck=>exact h
 | ok rs s=>exact fun w' H' vs a b c=>⟨w',rs,s,a,b,c,h⟩
 | exc c s=>exact h
end
section
variable{fs:List Fn}{sub:Nat→Nat→Bool}{k fi:Nat}
variable{G:Gx}{P:Program}{w:World}{K:PySem.W.Frag}{mg:Str→Option Value}{base:Heap}
theorem zab9{F:Fn}{rs:List R}{i:Nat}{b:B}(h:(enter F rs)[i]?=some (some b)):∃r,rs[i]?=some r∧ofR r=b:=by
 unfold enter at h
 by_cases hi:i<rs.length
 ·rw[List.getElem?_append_left (by simpa using hi),List.getElem?_map]at h
  cases q:rs[i]? with
  | none=>rw[q]at h;cases h
  | some r=>rw[q]at h;cases h;exact⟨r,rfl,rfl⟩
 ·rw[List.getElem?_append_right (by simpa using hi),List.getElem?_replicate]at h
  split at h<;>cases h
theorem RepRs.get{wo:Wo}{H:Hp}:∀{rs:List R}{vs:List V}{i:Nat}{r:R},RepRs G wo H rs vs→rs[i]?=some r→∃v,vs[i]?=some v∧RepR G wo H r v
 | [],_,i,t,h,e=>by simp at e
 | t::ts,_,0,u,⟨v,r,e,h,q⟩,z=>by subst e;simp at z;subst z;exact⟨v,rfl,h⟩
 | t::ts,_,i+1,u,⟨v,r,e,h,q⟩,z=>by
  subst e
  obtain⟨x,h1,h2⟩:=RepRs.get q (i:=i) (r:=u) (by simpa using z)
  exact⟨x,by simpa using h1,h2⟩
theorem zaet{N:List Str}{vs:List V}{i:Nat}{v:V}(h:vs[i]?=some v):(L2.start N vs)[i]?=some (some v):=by
 unfold L2.start
 have hi:=(List.getElem?_eq_some_iff.mp h).1
 rw[List.getElem?_append_left (by simpa using hi),List.getElem?_map,h]
 rfl
theorem zahi{wo:Wo}{H:Hp}{s:Sto}{F:Fn}{rs:List R}{vs:List V}{N:List Str}(S:StoOk G wo H s)(R1:RepRs G wo H rs vs)(hs:F.size=N.length):Good G wo H wo H (enter F rs) s (L2.start N vs):=by
 refine⟨S,⟨?_,fun i t e=>?_,fun i b ts e eb=>?_,fun i j b c ts us a ne e eb=>?_,fun i ts e=>?_⟩,Le.refl _ _⟩
 ·unfold enter L2.start
  rw[List.length_append,List.length_append,List.length_map,List.length_map,List.length_replicate,List.length_replicate,hs,R1.length]
 ·obtain⟨r,hr,q⟩:=zab9 e
  obtain⟨v,hv,rv⟩:=R1.get hr
  cases r with
  | val u=>cases q;exact⟨v,zaet hv,rv⟩
  | bor u=>cases q
 ·obtain⟨r,hr,q⟩:=zab9 e
  cases r<;>subst q<;>cases eb
 ·obtain⟨r,hr,q⟩:=zab9 e
  cases r<;>subst q<;>cases eb
 ·obtain⟨r,hr,q⟩:=zab9 e
  obtain⟨v,hv,rv⟩:=R1.get hr
  cases r with
  | val u=>cases q
  | bor u=>
   cases q
   obtain⟨a,xs,e1,e2,e3,e4⟩:=rv
   subst e1
   exact⟨a,xs,zaet hv,e2,e3,(by rw[e2];intro z;cases z),e4⟩
end
end IP
end
section
set_option Elab.async false
set_option linter.all false
set_option maxRecDepth 100000
namespace IP
open PySem PySem.Spec L2
section
variable{G:Gx}{X:Cx}{pins:List (Addr×Obj)}{σV:St}{H:Hp}{c:Nat}{u:Value}{sh:Shared}
theorem zahj{s:Shared}(I:Inv X pins σV H s):X.base.StaysIn (PySem.W.hideAll s.heap (frs X.stack)):=fun b o e=>
 zaap.mpr ⟨I.bk b o e,fun z=>by have:=(I.stack.mem z).1;rw[e]at this;cases this⟩
theorem zafr{s:Shared}(I:Inv X pins σV H s){h':Heap}{e:Addr}{args:List Value}(hm:Heap.MadeExcOf s.heap h' e (.ref (G.cA c)) args):Thrown G X pins σV H c (.ref e) { s with heap:=h' }:=
 ⟨e,s.heap,PySem.W.hideAll s.heap (frs X.stack),rfl,I,⟨fun _ _=>zaap,fun b o q _=>hm.keeps b o q,fun b o q _=>⟨o.slots,hm.keeps b o q⟩,hm.new⟩,zahj I,.inl ⟨args,hm⟩⟩
theorem zad6{E E':Value→Shared→Prop}{Q:Unit→Shared→Prop}(hst:HasFr X)(T:Thrown G X pins σV H c u sh)
  (hQ:∀e h B h' t,u=.ref e→Inv X pins σV H { sh with heap:=h }→Flt X.stack h B e h'→X.base.StaysIn B→Heap.FlyingW B X.stack e (.ref (G.cA c)) t h'→Q () { sh with heap:=h' }):
  wpAny (model X.prog X.w) X.A (noteFrame u X.env) (fun _ s2=>wpAny (model X.prog X.w) X.A (setFlight u none) Q E s2) E' sh:=by
 refine zace hst T fun e h B h1 t L eu I F sb hh=>?_
 subst eu
 refine wpAny_landsW (s:={ sh with heap:=h1 }) hh fun h2 hfl sm2=>?_
 exact hQ e h B h2 t rfl I (F.next I.stack hfl.1 sm2) sb hfl
theorem zage{M:Model}{A:Around}{E:Value→Shared→Prop}{s:Shared}{env:Env}{u:Value}{Q:Unit→Shared→Prop}(h:wpAny M A (noteFrame u env) (fun _ s2=>wpAny M A (setFlight u none) Q E s2) E s):wpAny M A (leaving env u) Q E s:=by
 unfold leaving
 exact wpAny_bind h
end
end IP
end
section
set_option Elab.async false
set_option linter.all false
set_option maxRecDepth 100000
namespace IP
open PySem PySem.Spec L2
section
variable{G:Gx}{X:Cx}{C:Cf}{pins:List (Addr×Obj)}{σV:St}{H:Hp}{c:Nat}{u:Value}{sh:Shared}
theorem hok_hide{P:Program}{w:World}{h:Heap}{L:Addr}(k:HOk P w H h)(n:H L=none):HOk P w H (PySem.W.hideAll h [L]):=fun a o q=>by
 refine(k a o q).stay (fun b v hb r=>zaap.mpr ⟨r,fun z=>?_⟩) (fun _ r=>r) fun _ _ r=>r
 have z:b=L:=by simpa using z
 subst z
 rcases hb with rfl|hb
 ·rw[n]at q;cases q
 ·rw[n]at hb;cases hb
theorem zahh{P:Program}{w:World}{K:PySem.W.Frag}{mg:Str→Option Value}{base:Heap}{N:List Str}{qual:Str}{scope:Scope}{f:Addr}{cd:Value}{A:Around}{outer:List Env}{s:Shared}{H₁:Hp}{E:XK}
  (T:Thrown G (cxOf (CXE G P w base) P w K mg base N qual scope f cd A outer s H₁ E) pins σV H c u sh) (hE:E (.ref (G.cA c)) none H):(cxOf (CXE G P w base) P w K mg base N qual scope f cd A outer s H₁ E).xe u sh:=by
 refine zage (zad6 (X:=cxOf (CXE G P w base) P w K mg base N qual scope f cd A outer s H₁ E) ⟨_,_,_,rfl,rfl,rfl⟩ T fun e h B h' t eu I F sb fly=>?_)
 have hL:H s.heap.objs.size=none:=I.free
 have un:=I.base
 obtain⟨f1,f2,⟨_,_,f3⟩,f4⟩:=fly
 have hne:∀b,b<s.heap.objs.size→b∉[s.heap.objs.size]:=fun b hb z=>by
  have:b=s.heap.objs.size:=by simpa using z
  omega
 refine⟨e,_,t,H,PySem.W.hideAll h [s.heap.objs.size],B,eu,I.os,I.bare,⟨fun b o q n hb hx=>?_,fun b o q n hb hx=>?_,un.free,fun b o q hx=>?_,un.tups,un.frzs,un.tbls⟩,hok_hide I.hok hL,⟨fun b o=>?_,fun b o q n=>?_,fun b o q n=>?_,?_⟩,sb,⟨f1,f2,f3,f4⟩,hE⟩
 ·exact zaap.mpr ⟨un.keep b o q n hb hx,hne b (Heap.lt_size q)⟩
 ·obtain⟨sl,z⟩:=un.slot b o q n hb hx
  exact⟨sl,zaap.mpr ⟨z,hne b (Heap.lt_size q)⟩⟩
 ·obtain⟨o',z⟩:=un.there b o q hx
  exact⟨o',zaap.mpr ⟨z,hne b (Heap.lt_size q)⟩⟩
 ·rw[F.cov b o,zaap]
  have efs:b∈frs (cxOf (CXE G P w base) P w K mg base N qual scope f cd A outer s H₁ E).stack↔b∈[s.heap.objs.size]∨b∈frs outer:=by
   show b∈s.heap.objs.size::frs outer↔_
   simp
  rw[efs]
  exact⟨fun⟨a,z⟩=>⟨⟨a,fun y=>z (.inl y)⟩,fun y=>z (.inr y)⟩,fun⟨⟨a,y⟩,z⟩=>⟨a,fun y'=>y'.elim y z⟩⟩
 ·obtain⟨a,y⟩:=zaap.mp q
  refine F.keep b o a fun z=>?_
  rcases List.mem_cons.mp (show b∈s.heap.objs.size::frs outer from z)with r|r
  ·exact y (by simp[r])
  ·exact n r
 ·obtain⟨a,y⟩:=zaap.mp q
  exact F.slot b o a (List.mem_cons_of_mem _ n)
 ·cases q:(PySem.W.hideAll h [s.heap.objs.size]).get? e with
  | none=>rfl
  | some o=>have:=(zaap.mp q).1;rw[F.new]at this;cases this
theorem passes_leave{Q:Value→Unit→Shared→Prop}{E₁:Value→Value→Shared→Prop}(hx:X.xe=fun e s=>wpAny (model X.prog X.w) X.A (leaving X.env e) (Q e) (E₁ e) s):PassesOwn (model X.prog X.w) X.A X.env X.xe:=by
 intro e s' h
 rw[hx]at h
 have h2:=wpAny_leaving_again (A':=X.A) (A'':=X.A) (SameStack.refl X.A) (what:="frame.own-activation:exception-without-traceback") (E₂:=X.xe) (E₃:=cameBackBy (model X.prog X.w) X.A X.env X.xe) h
 refine wpAny_mono h2 (fun _ s1 q=>?_) fun _ _ z=>z
 refine wpAny_mono q (fun _ s2 z=>?_) fun _ _ z=>z
 show X.xe e s2
 rw[hx]
 exact z
end
end IP
end
section
set_option Elab.async false
set_option linter.all false
set_option maxRecDepth 100000
namespace IP
open PySem PySem.Spec L2
section
variable{G:Gx}{X:Cx}{C:Cf}{w w' w₀:Wo}{H H' H₀:Hp}{σ σ':Fr}{σV σV':St}{a b e:Expr}{a' b' e':IP.E}{pos p p2:Pos}{Q:VK}{i:Nat}{x:Str}
variable{k fi:Nat}{fa:Addr}{fd:FuncData}{ps:List Str}{e₀:Expr}{es:List Expr}{es':List IP.E}{rs:List R}{vs dvs:List V}{ds:List Value}{dts:List T}
theorem spG_vE{H1:Hp}{w1:Wo}{s1:Sto}(hf:C.fr fi=false)(L1:Le w w1 H H1)(S1:StoOk G w1 H1 s1)(R1:RepRs G w1 H1 rs vs)(h:Want G X σV w H (C.cf fi rs s1) Q):spG G C.cf C.fr fi vs H1 Q (EX G X σV):=by
 refine⟨w1,s1,rs,S1,R1,?_⟩
 have h:=Want.mono L1 h
 cases hc:C.cf fi rs s1 with
 | stuck=>rw[hc]at h;exact h
 | ok r s'=>rw[hc]at h;exact⟨fun _=>h,fun z=>by rw[hf]at z;cases z⟩
 | exc c s'=>
  rw[hc]at h
  intro w' H' L S pins u sh hh B a t e I fl sb fly
  exact h w' H' pins u sh L S ⟨a,hh,B,e,I,fl,sb,.inr (.inl ⟨t,fly⟩)⟩
theorem spG_oE{H1:Hp}{w1:Wo}{s1:Sto}(hf:C.fr fi=true)(L1:Le w w1 H H1)(S1:StoOk G w1 H1 s1)(R1:RepRs G w1 H1 rs vs)(h:WantO G X σV w H (C.cf fi rs s1) Q):spG G C.cf C.fr fi vs H1 Q (EX G X σV):=by
 refine⟨w1,s1,rs,S1,R1,?_⟩
 have h:=WantO.mono L1 h
 cases hc:C.cf fi rs s1 with
 | stuck=>rw[hc]at h;exact h
 | ok r s'=>
  rw[hc]at h
  obtain⟨ts,er,q⟩:=WantO.of (o:=some r) (s:=s') h
  cases er
  exact⟨fun z=>(by rw[hf]at z;cases z),fun _=>⟨ts,rfl,q⟩⟩
 | exc c s'=>
  rw[hc]at h
  intro w' H' L S pins u sh hh B a t e I fl sb fly
  exact h w' H' pins u sh L S ⟨a,hh,B,e,I,fl,sb,.inr (.inl ⟨t,fly⟩)⟩
theorem sV_callX(hf:C.fr fi=false)(F:FnOk X.prog X.w X.K X.mg X.base (CXE G X.prog X.w X.base) k fa fd ps (spG G C.cf C.fr fi))(hr:Room k X.A)(hg:Gl X x)(hm:X.mg x=some (.ref fa))(hk:PySem.W.keepIn X.K (.ref fa)=true)(hb:Binds X.K fd ps ds)(hd:Vals dvs ds)
  (hdt:dts.mapM cstV=some dvs) (ha:PA X (e₀::es) (tR G X C es')) (hdb:(x==("__debug__":Str))=false) (he:starEach (e₀::es) X.env=(false,eval e₀ X.env)::starEach es X.env) (hpl:(backTo pos (starEach es X.env)).any (·.1)=false):
  PE X (.Call (.Name x p) (e₀::es) [] pos) (tV G X C (.call fi es' dts)):=by
 rintro pins s σV H Q I ⟨w₀,H₀,w,σ,st,g,h⟩
 have h:Want G X σV w H ((evr C es' σ st).bind fun rs s1=>C.cf fi (rs++dts.map .val) s1) Q:=h
 refine wpAny_Call_Name_kw (zadi I hg hm ?_ hdb)
 refine PySem.W.callWith_K (h₀:=X.base) I.ok.mod.kin hk (thn (ha pos pins s σV H _ I ⟨w₀,H₀,w,σ,st,g,zado h⟩) fun us s1 ⟨vs,H1,I1,r,q⟩=>⟨I1.kIn,?_⟩) he hpl
 obtain⟨w1,rs,st1,L1,S1,R1,h1⟩:=q
 exact zadg F hr hb hd I1 r (spG_vE hf L1 S1 (zaa0 R1 (zabn hdt)) h1) (zabx I1)
theorem zagj(hf:C.fr fi=true)(F:FnOk X.prog X.w X.K X.mg X.base (CXE G X.prog X.w X.base) k fa fd ps (spG G C.cf C.fr fi))(hr:Room k X.A)(hg:Gl X x)(hm:X.mg x=some (.ref fa))(hk:PySem.W.keepIn X.K (.ref fa)=true)(hb:Binds X.K fd ps ds)(hd:Vals dvs ds)
  (hdt:dts.mapM cstV=some dvs) (ha:PA X (e₀::es) (tR G X C es')) (hdb:(x==("__debug__":Str))=false) (he:starEach (e₀::es) X.env=(false,eval e₀ X.env)::starEach es X.env) (hpl:(backTo pos (starEach es X.env)).any (·.1)=false):
  PE X (.Call (.Name x p) (e₀::es) [] pos) (tO G X C (.call fi es' dts)):=by
 rintro pins s σV H Q I ⟨w₀,H₀,w,σ,st,g,h⟩
 have h:WantO G X σV w H ((evr C es' σ st).bind fun rs s1=>C.cf fi (rs++dts.map .val) s1) Q:=h
 refine wpAny_Call_Name_kw (zadi I hg hm ?_ hdb)
 refine PySem.W.callWith_K (h₀:=X.base) I.ok.mod.kin hk (thn (ha pos pins s σV H _ I ⟨w₀,H₀,w,σ,st,g,zafw h⟩) fun us s1 ⟨vs,H1,I1,r,q⟩=>⟨I1.kIn,?_⟩) he hpl
 obtain⟨w1,rs,st1,L1,S1,R1,h1⟩:=q
 exact zadg F hr hb hd I1 r (spG_oE hf L1 S1 (zaa0 R1 (zabn hdt)) h1) (zabx I1)
theorem sV_callXO(hf:C.fr fi=true)(hvl:∀rs s r s',C.cf fi rs s=.ok r s'→∃ts,r=.val (.lst ts))(F:FnOk X.prog X.w X.K X.mg X.base (CXE G X.prog X.w X.base) k fa fd ps (spG G C.cf C.fr fi))(hr:Room k X.A)(hg:Gl X x)(hm:X.mg x=some (.ref fa))(hk:PySem.W.keepIn X.K (.ref fa)=true)(hb:Binds X.K fd ps ds)(hd:Vals dvs ds)
  (hdt:dts.mapM cstV=some dvs) (ha:PA X (e₀::es) (tR G X C es')) (hdb:(x==("__debug__":Str))=false) (he:starEach (e₀::es) X.env=(false,eval e₀ X.env)::starEach es X.env) (hpl:(backTo pos (starEach es X.env)).any (·.1)=false):
  PE X (.Call (.Name x p) (e₀::es) [] pos) (tV G X C (.call fi es' dts)):=by
 refine sV_of (zagj hf F hr hg hm hk hb hd hdt ha hdb he hpl) fun σ s r s1 h=>?_
 have h:(evr C es' σ s).bind (fun rs s1=>C.cf fi (rs++dts.map .val) s1)=.ok r s1:=h
 cases hq:evr C es' σ s with
 | stuck=>rw[hq]at h;cases h
 | exc c s2=>rw[hq]at h;cases h
 | ok rs s2=>rw[hq]at h;exact hvl _ _ _ _ h
end
structure FunD(K:PySem.W.Frag)(x qual:Str)(st:Stmt)(f:Addr)(fd:FuncData):Prop where
 ex:∃(oc:Value) (od:Option Addr) (dV kV doc pm:Value) (an:Option Addr) (cdv ct:Value) (osl:Array (Option Value)),
  fd=PySem.W.fnOf x qual (zaag st) (zaaf st) (zaab st) dV kV doc pm an cdv ct∧K.lookup f=some ⟨oc,od,.func fd,osl⟩∧PySem.W.codeIn K cdv qual=true
 kp:PySem.W.keepIn K (.ref f)=true
theorem zaai{K:PySem.W.Frag}{x qual:Str}{st:Stmt}{f:Addr}{oc:Value}{od an:Option Addr}{osl:Array (Option Value)}{dV kV doc pm cdv ct:Value}(l:K.lookup f=some ⟨oc,od,.func (PySem.W.fnOf x qual (zaag st) (zaaf st) (zaab st) dV kV doc pm an cdv ct),osl⟩)
  (c:PySem.W.codeIn K cdv qual=true) (k:PySem.W.keepIn K (.ref f)=true):FunD K x qual st f (PySem.W.fnOf x qual (zaag st) (zaaf st) (zaab st) dV kV doc pm an cdv ct):=⟨⟨oc,od,dV,kV,doc,pm,an,cdv,ct,osl,rfl,l,c⟩,k⟩
section
variable{fs:List Fn}{sub:Nat→Nat→Bool}{k fi:Nat}
theorem run_lstX(hf:frOf fs fi=true):∀(k:Nat) (rs:List R) (s:Sto) (r:R) (s':Sto),run true fs sub whileL k fi rs s=.ok r s'→∃ts,r=.val (.lst ts)
 | 0,rs,s,c,s',h=>by cases h
 | k+1,rs,s,c,s',h=>by
  unfold run at h
  unfold frOf at hf
  split at h
  ·cases h
  ·rename_i F e
   rw[e]at hf
   have hf:F.fr=true:=hf
   split at h
   ·generalize exs _ _ _ s=r at h
    cases r<;>simp only[leave,hf]at h
    ·cases h
    ·simp at h
    ·simp at h
    ·rename_i ts _;exact⟨ts,by simp at h;exact h.1.symm⟩
    ·simp at h
   ·cases h
variable{G:Gx}{P:Program}{w:World}{K:PySem.W.Frag}{mg:Str→Option Value}{base:Heap}
theorem zaae{CX:CXT}{f:Addr}{fd:FuncData}{ps:List Str}{k:Nat}:FnOk P w K mg base CX k f fd ps (spG G (run true fs sub whileL 0) (frOf fs) fi):=
 ⟨fun vs H Q E ⟨_,_,_,_,_,z⟩=>z.elim,fun A outer s H args us vs Q E hr e0 hb hv ⟨_,_,_,_,_,z⟩=>z.elim⟩
@[reducible] noncomputable def cfX (fs:List Fn) (sub:Nat→Nat→Bool) (k:Nat):Cf:=⟨run true fs sub whileL k,sub,frOf fs,whileL⟩
theorem fn_okL{x qual:Str}{st:Stmt}{f:Addr}{fd:FuncData}{N ps:List Str}{F:Fn}(Fu:FunD K x qual st f fd)(S:FnScope N ps (zaab st))(hF:fs[fi]?=some F)(hp:F.pars=ps.length)(hs:F.size=N.length)
  (hbody:∀(cdv:Value) (A:Around) (outer:List Env) (s:Shared) (H:Hp) (E:XK),fd.code=cdv→Room (2*k+1) (A.deeper (PyProof.Rows.envOfC qual (zaab st) s.heap.objs.size f cdv))→
   PSs (cxOf (CXE G P w base) P w K mg base N qual (zaab st) f cdv A outer s H E) (zaaf st) (tSs G (cxOf (CXE G P w base) P w K mg base N qual (zaab st) f cdv A outer s H E) (cfX fs sub k) F.body)):
  FnOk P w K mg base (CXE G P w base) (2*(k+1)) f fd ps (spG G (run true fs sub whileL (k+1)) (frOf fs) fi):=by
 have hrun:∀rs s,run true fs sub whileL (k+1) fi rs s=if rs.length=F.pars then leave true F.fr (exs (cfX fs sub k) F.body (enter F rs) s)else .stuck:=fun rs s=>by
  conv=>lhs;unfold run
  rw[hF]
 have hfr:frOf fs fi=F.fr:=by unfold frOf;rw[hF]
 obtain⟨oc,od,dV,kV,doc,pm,an,cdv,ct,osl,rfl,lk,hcd⟩:=Fu.ex
 refine fn_of (k:=2*k+1) lk hcd S (fun vs H Q E h=>?_) fun A outer s H vs Q E hr h=>⟨_,hbody cdv A outer s H E rfl hr,?_⟩
 ·obtain⟨wo,st,rs,S1,R1,h⟩:=h
  rw[hrun]at h
  by_cases hl:rs.length=F.pars
  ·exact R1.length.symm.trans (hl.trans hp)
  ·rw[if_neg hl]at h;exact h.elim
 ·obtain⟨wo,st,rs,S1,R1,h⟩:=h
  rw[hrun]at h
  by_cases hl:rs.length=F.pars
  ·rw[if_pos hl]at h
   refine⟨wo,H,wo,enter F rs,st,zahi S1 R1 hs,?_⟩
   rw[hfr]at h
   cases hx:exs (cfX fs sub k) F.body (enter F rs) st with
   | stuck=>rw[hx]at h;exact h.elim
   | next σ' s'=>
    rw[hx]at h
    cases hb:F.fr with
    | true=>rw[hb]at h;exact h.elim
    | false=>rw[hb]at h;exact fun w' H' σV' g L=>h.1 rfl w' H' .non g.ent g.sto rfl
   | ret r s'=>
    rw[hx]at h
    cases hb:F.fr with
    | true=>rw[hb]at h;exact h.elim
    | false=>rw[hb]at h;exact fun w' H' v S R L=>h.1 rfl w' H' v L S R
   | retO ts s'=>
    rw[hx]at h
    cases hb:F.fr with
    | false=>rw[hb]at h;exact h.elim
    | true=>
     rw[hb]at h
     obtain⟨us,e,q⟩:=h.2 rfl
     cases e
     exact fun w' H' a vs S ha r hn nz nl L=>q w' H' a vs L S ha r hn nz nl
   | exc c σ' s'=>
    rw[hx]at h
    exact fun w' H' σV' pins u sh g L T=>zahh T (h w' H' g.ent g.sto)
  ·rw[if_neg hl]at h;exact h.elim
theorem fn_okX{x qual:Str}{st:Stmt}{f:Addr}{fd:FuncData}{N ps:List Str}{F:Fn}(Fu:FunD K x qual st f fd)(S:FnScope N ps (zaab st))(hF:fs[fi]?=some F)(hp:F.pars=ps.length)(hs:F.size=N.length)
  (hbody:∀(cdv:Value) (A:Around) (outer:List Env) (s:Shared) (H:Hp) (E:XK),Room (2*k+1) (A.deeper (PyProof.Rows.envOfC qual (zaab st) s.heap.objs.size f cdv))→
   PSs (cxOf (CXE G P w base) P w K mg base N qual (zaab st) f cdv A outer s H E) (zaaf st) (tSs G (cxOf (CXE G P w base) P w K mg base N qual (zaab st) f cdv A outer s H E) (cfX fs sub k) F.body)):
  FnOk P w K mg base (CXE G P w base) (2*(k+1)) f fd ps (spG G (run true fs sub whileL (k+1)) (frOf fs) fi):=
 fn_okL Fu S hF hp hs fun cdv A outer s H E _ hr=>hbody cdv A outer s H E hr
end
end IP
end
section
set_option Elab.async false
set_option linter.all false
set_option maxRecDepth 100000
namespace IP
open PySem PySem.Spec L2
theorem exc_obj{K:PySem.W.Frag}{h:Heap}{Ca:Addr}{bB:List Value}{nid:String}(hK:K.In h)(q:PySem.W.excIn K Ca bB nid=true):
  ∃bm N nm qn bs hdct sn sub ab col dd k0 k1 k2 k3 k5 mN,h.get? Ca=some (excClassObj nm qn Ca N bs bm hdct sn sub ab col dd k0 k1 k2 k3 k5 nid)∧h.Ns N mN∧mN "__init__"=none∧OwnTail h bB bm:=by
 unfold PySem.W.excIn at q
 split at q
 ·rename_i d1 cl sl ho
  split at q
  ·rename_i Cb tl u0 u1 u2 u3 nn u5 em es
   simp only[Bool.and_eq_true,beq_iff_eq,Bool.not_eq_true']at q
   obtain⟨⟨⟨⟨⟨q1,q2⟩,q3⟩,q4⟩,q5⟩,q6⟩:=q
   subst q1 q2
   obtain⟨nm0,bs0,mro0,ns0,qn0,hd0,sn0,sub0,ab0,col0,del0⟩:=cl
   dsimp only at em q3 q5 q6
   subst em q3
   have hg:=hK _ _ ho
   have esl:sl=#[u0,u1,u2,u3,some (.builtin nn),u5]:=by
    apply Array.toList_inj.mp
    rw[es]
   subst esl
   exact⟨tl,ns0,nm0,qn0,bs0,hd0,sn0,sub0,ab0,col0,d1,u0,u1,u2,u3,u5,_,hg,.of_isNs (PySem.W.isNs_of_in hK q5),PySem.W.nsMap_none_of_in hK q5 q6,PySem.W.tail_of_in hK q4⟩
  ·cases q
 ·cases q
section
variable{G:Gx}{X:Cx}{C:Cf}{w w' w₀:Wo}{H H' H₀:Hp}{σ σ':Fr}{σV σV':St}{c:Nat}{x:Str}{np cpos pos mp:Pos}{m:Str}{j:Nat}
theorem sS_raise{bB:List Value}{B nid iid:String}(hc:X.calm=true)(hg:Gl X x)(hm:X.mg x=some (.ref (G.cA c)))(hq:PySem.W.excIn X.K (G.cA c) bB nid=true)(FB:ExcBaseFacts B nid iid bB)(hdb:(x==("__debug__":Str))=false)
  (he:starEach [.Constant (.str m) j mp] X.env=[(false,eval (.Constant (.str m) j mp) X.env)]):PS X (.Raise (some (.Call (.Name x np) [.Constant (.str m) j mp] [] cpos)) none pos) (tS G X C (.raise c)):=by
 rintro pins s σV H D I ⟨w₀,H₀,w,σ,st,g,h⟩
 have hx:∀u sh,Thrown G X pins σV H c u sh→X.xe u sh:=fun u sh T=>h w H σV pins u sh g LeS.refl T
 obtain⟨tl,N,nm,qn,bs,hdct,sn,sub,ab,col,dd,k0,k1,k2,k3,k5,mN,hC,hN,hni,T⟩:=exc_obj (I.ok.mod.kin) hq
 refine wpAny_Raise_call_subT (C:=G.cA c) (nm:=nm) (q:=qn) (N:=N) (bs:=bs) (bm:=tl) (hdct:=hdct) (sn:=sn) (sub:=sub) (ab:=ab) (col:=col) (dd:=dd) (k0:=k0) (k1:=k1) (k2:=k2) (k3:=k3) (k5:=k5)
  FB (mN:=mN) (T.hasType FB.hasBase) (I.ok.hd hc) (by rw[he];rfl) hni (zadi I hg hm ⟨rfl,?_⟩ hdb)
 have ha:PA X [.Constant (.str m) j mp] (tCons (tC (.str m)) tNil):=zaa3 pe_str pa_nil (by rw[he];rfl)
 have z:=ha cpos pins s σV H (fun vs H1=>vs=[.str m]∧H1=H) I ⟨rfl,rfl⟩
 rw[he]at z ⊢
 refine PySem.Calls.evalArgs_plain (wpAny_mono z (fun vs s₂ h₂=>?_) fun _ _ y=>y)
 obtain⟨ws,H1,I1,rv,rfl,rfl⟩:=h₂
 have hl:=rv.length
 refine⟨rfl,?_,I1.bk _ _ hC,hN.keeps I1.bk,T.keeps I1.bk,fun h' e hmd=>hx _ _ (zafr I1 hmd)⟩
 show vs.length≤sizeLine
 rw[←hl]
 show 1≤sizeLine
 decide
end
section
variable{M:Model}{A:Around}{E:Value→Shared→Prop}{s:Shared}{env:Env}
end
end IP
end
section
set_option Elab.async false
set_option linter.all false
set_option maxRecDepth 100000
namespace IP
open PySem PySem.Spec L2
def Wo.addL(w:Wo)(a:Addr):Wo:={ n:=w.n+1,io:=fun k=>if k=w.n then a else w.io k,Z:=w.Z }
theorem zabb{w:Wo}{a:Addr}{l:Nat}(h:l<w.n):(w.addL a).io l=w.io l:=by
 show(if l=w.n then a else w.io l)=w.io l
 rw[if_neg (Nat.ne_of_lt h)]
theorem zabr{w:Wo}{a:Addr}:(w.addL a).io w.n=a:=by
 show(if w.n=w.n then a else w.io w.n)=a
 rw[if_pos rfl]
section
variable{G:Gx}{X:Cx}{C:Cf}{w w' w₀:Wo}{H H' H₀:Hp}{σ σ':Fr}{σV σV':St}{s:Sto}{a:Addr}{l:Nat}
theorem zag7:Kp w (w.addL a) H H:=⟨Nat.le_succ _,fun l h=>zabb h,fun _ z=>z,fun _ _ _ r=>r,fun _ _ e=>e,fun _ _ e=>e⟩
theorem CellOk.addL{b:Addr}:∀{c:Cell},CellOk G w H b c→CellOk G (w.addL a) H b c
 | .lst ts,⟨vs,h,r⟩=>⟨vs,h,Reps.kp zag7 ts vs r⟩
 | .ins c fs,⟨dx,kvs,h,z,k⟩=>⟨dx,kvs,h,z,fun i x t h1 h2=>let ⟨v,q1,q2⟩:=k i x t h1 h2;⟨v,q1,Rep.kp zag7 t v q2⟩⟩
 | .tbl k p q,h=>h
theorem StoOk.addL{c:Cell}(S:StoOk G w H s)(hc:CellOk G (w.addL a) H a c)(nz:¬w.Z a)(nl:IP.notLoc w a):StoOk G (w.addL a) H (s++[c])where
 len:=by rw[List.length_append,S.len];rfl
 inj:=fun i j hi hj e=>by
  have hi:i<w.n+1:=hi
  have hj:j<w.n+1:=hj
  by_cases h1:i<w.n
  ·by_cases h2:j<w.n
   ·rw[zabb h1,zabb h2]at e
    exact S.inj i j h1 h2 e
   ·have:j=w.n:=by omega
    subst this
    rw[zabb h1,zabr]at e
    exact absurd e.symm (nl i h1)
  ·have:i=w.n:=by omega
   subst this
   by_cases h2:j<w.n
   ·rw[zabb h2,zabr]at e
    exact absurd e (nl j h2)
   ·omega
 nz:=fun i hi z=>by
  have hi:i<w.n+1:=hi
  by_cases h1:i<w.n
  ·rw[zabb h1]at z
   exact S.nz i h1 z
  ·have:i=w.n:=by omega
   subst this
   rw[zabr]at z
   exact nz z
 cell:=fun i d e=>by
  by_cases h1:i<w.n
  ·rw[List.getElem?_append_left (by rw[S.len];exact h1)]at e
   rw[zabb h1]
   exact CellOk.addL (S.cell i d e)
  ·have hl:=(List.getElem?_eq_some_iff.mp e).1
   rw[List.length_append,S.len]at hl
   have:i=w.n:=by simp at hl;omega
   subst this
   rw[List.getElem?_append_right (by rw[S.len];exact Nat.le_refl _),S.len,Nat.sub_self]at e
   cases e
   rw[zabr]
   exact hc
 zt:=S.zt
theorem Le.addL(L:Le w w' H H')(ha:H a=none):Le w (w'.addL a) H H' where
 n:=Nat.le_trans L.n (Nat.le_succ _)
 io:=fun i h=>(zabb (Nat.lt_of_lt_of_le h L.n)).trans (L.io i h)
 Z:=L.Z
 keep:=L.keep
 newL:=fun i h1 h2=>by
  have h2:i<w'.n+1:=h2
  by_cases h:i<w'.n
  ·rw[zabb h]
   exact L.newL i h1 h
  ·have:i=w'.n:=by omega
   subst this
   rw[zabr]
   exact ha
 newZ:=L.newZ
 some_:=L.some_
mutual
theorem Rep.updC{o o':HO}(ha:H a=some o)(hz:¬w.Z a)(ht:∀vs,o≠.tup vs)(hx:∀φ,o≠.ext φ):∀(t:T) (v:V),Rep G w H t v→Rep G w (L2.upd H a o') t v
 | .non,v,h=>h
 | .bl b,v,h=>h
 | .int i,v,h=>h
 | .str x,v,h=>h
 | .tup ts,v,⟨p,vs,e,h,r⟩=>⟨p,vs,e,by rw[upd_ne (fun q=>by rw[q,ha]at h;exact ht vs (Option.some.inj h))];exact h,Reps.updC ha hz ht hx ts vs r⟩
 | .lst ts,v,⟨p,vs,e,z,h,r⟩=>by
  have ne:p≠a:=fun q=>hz (q▸z)
  refine⟨p,vs,e,z,?_,Reps.updC ha hz ht hx ts vs r⟩
  rcases h with h|⟨o,h⟩
  ·exact .inl (by rw[upd_ne ne];exact h)
  ·exact .inr ⟨o,by rw[upd_ne ne];exact h⟩
 | .loc l,v,h=>h
 | .exc c,v,⟨p,e,h⟩=>⟨p,e,by rw[upd_ne (fun q=>by rw[q,ha]at h;exact hx _ (Option.some.inj h))];exact h⟩
theorem Reps.updC{o o':HO}(ha:H a=some o)(hz:¬w.Z a)(ht:∀vs,o≠.tup vs)(hx:∀φ,o≠.ext φ):∀(ts:List T) (vs:List V),Reps G w H ts vs→Reps G w (L2.upd H a o') ts vs
 | [],vs,h=>h
 | t::ts,vs,⟨v,r,e,h,q⟩=>⟨v,r,e,Rep.updC ha hz ht hx t v h,Reps.updC ha hz ht hx ts r q⟩
end
theorem StoOk.setC{o o':HO}{c:Cell}(S:StoOk G w H s)(hl:l<w.n)(ha:H (w.io l)=some o)(ht:∀vs,o≠.tup vs)(hx:∀φ,o≠.ext φ)(hc:CellOk G w (L2.upd H (w.io l) o') (w.io l) c):StoOk G w (L2.upd H (w.io l) o') (s.set l c)where
 len:=by rw[List.length_set];exact S.len
 inj:=S.inj
 nz:=S.nz
 cell:=fun i d e=>by
  by_cases hi:l=i
  ·subst hi
   rw[List.getElem?_set_self (by rw[S.len];exact hl)]at e
   cases e
   exact hc
  ·rw[List.getElem?_set_ne hi]at e
   have hin:i<w.n:=by rw[←S.len];exact(List.getElem?_eq_some_iff.mp e).1
   have ne:w.io i≠w.io l:=fun q=>hi (S.inj i l hin hl q).symm
   have nz:=S.nz l hl
   have q:=S.cell i d e
   cases d with
   | lst ts=>obtain⟨vs,q1,q2⟩:=q;exact⟨vs,by rw[upd_ne ne];exact q1,Reps.updC ha nz ht hx ts vs q2⟩
   | ins c fs=>obtain⟨dx,kvs,q1,q2,q3⟩:=q;exact⟨dx,kvs,by rw[upd_ne ne];exact q1,q2,fun i x t h1 h2=>let ⟨v,z1,z2⟩:=q3 i x t h1 h2;⟨v,z1,Rep.updC ha nz ht hx t v z2⟩⟩
   | tbl k p q'=>obtain⟨q0,ps,q1,q2,q3⟩:=q;exact⟨q0,ps,by rw[upd_ne ne];exact q1,q2,fun cv hcv=>let ⟨c,e1,e2⟩:=q3 cv hcv;⟨c,e1,by rw[upd_ne (ne_of e2 ha (fun z=>hx _ z.symm))];exact e2⟩⟩
 zt:=fun p z=>by
  obtain⟨vs,r⟩:=S.zt p z
  have ne:p≠w.io l:=fun q=>S.nz l hl (q▸z)
  rcases r with r|⟨o,r⟩
  ·exact⟨vs,.inl (by rw[upd_ne ne];exact r)⟩
  ·exact⟨vs,.inr ⟨o,by rw[upd_ne ne];exact r⟩⟩
theorem Le.setC{o':HO}(L:Le w w' H H')(hl:l<w'.n)(hs:H' (w'.io l)≠none):Le w w' H (L2.upd H' (w'.io l) o')where
 n:=L.n
 io:=L.io
 Z:=L.Z
 keep:=fun p q e nl=>by
  have ne:p≠w'.io l:=fun z=>by
   by_cases h:l<w.n
   ·exact nl l h (z.trans (L.io l h))
   ·have:=L.newL l (Nat.le_of_not_lt h) hl
    rw[←z,e]at this
    cases this
  rw[upd_ne ne]
  exact L.keep p q e nl
 newL:=L.newL
 newZ:=L.newZ
 some_:=fun p z=>by
  by_cases e:p=w'.io l
  ·rw[e,zaau];intro q;cases q
  ·rw[upd_ne e];exact L.some_ p z
theorem Good.setC{o o':HO}{c:Cell}(g:Good G w₀ H₀ w H σ s σV)(hl:l<w.n)(ha:H (w.io l)=some o)(ht:∀vs,o≠.tup vs)(hx:∀φ,o≠.ext φ)(hc:CellOk G w (L2.upd H (w.io l) o') (w.io l) c):
  Good G w₀ H₀ w (L2.upd H (w.io l) o') σ (s.set l c) σV∧LeS w w H (L2.upd H (w.io l) o') σ σ σV σV:=by
 have nz:=g.sto.nz l hl
 have hn:H (w.io l)≠none:=by rw[ha];intro z;cases z
 refine⟨⟨g.sto.setC hl ha ht hx hc,⟨g.fr.len,fun i t e=>?_,fun i b ts e eb=>?_,g.fr.apart,fun i ts e=>?_⟩,g.ent.setC hl hn⟩,LeS.of ((Le.refl w H).setC hl hn)⟩
 ·obtain⟨v,h1,h2⟩:=g.fr.val i t e
  exact⟨v,h1,Rep.updC ha nz ht hx t v h2⟩
 ·obtain⟨p,vs,h1,h2,h3,h4,h5,h6⟩:=g.fr.own i b ts e eb
  exact⟨p,vs,h1,by rw[upd_ne (h6 l hl)];exact h2,Reps.updC ha nz ht hx ts vs h3,h4,h5,h6⟩
 ·obtain⟨p,vs,h1,h2,h3,h4,h6⟩:=g.fr.bor i ts e
  exact⟨p,vs,h1,by rw[upd_ne (h6 l hl)];exact h2,Reps.updC ha nz ht hx ts vs h3,h4,h6⟩
theorem zae7{r:R}{v:V}{p:Nat×List T}(S:StoOk G w H s)(R1:RepR G w H r v)(h:r.locL s=some p):r=.val (.loc p.1)∧v=.ref (w.io p.1)∧p.1<w.n∧∃vs,H (w.io p.1)=some (.lst vs)∧Reps G w H p.2 vs:=by
 unfold R.locL at h
 split at h
 ·rename_i l
  split at h
  ·rename_i ts q
   cases h
   obtain⟨hl,e⟩:=R1
   obtain⟨vs,h1,h2⟩:=S.cell l _ q
   exact⟨rfl,e,hl,vs,h1,h2⟩
  ·cases h
 ·cases h
theorem zagg{r:R}{v:V}{c:Nat}{p:Nat×List (Option T)}(S:StoOk G w H s)(R1:RepR G w H r v)(h:r.locI s c=some p):r=.val (.loc p.1)∧v=.ref (w.io p.1)∧p.1<w.n∧s[p.1]?=some (.ins c p.2)∧CellOk G w H (w.io p.1) (.ins c p.2):=by
 unfold R.locI at h
 split at h
 ·rename_i l
  split at h
  ·rename_i d fs q
   split at h
   ·rename_i hd
    subst hd
    cases h
    obtain⟨hl,e⟩:=R1
    exact⟨rfl,e,hl,q,S.cell l _ q⟩
   ·cases h
  ·cases h
 ·cases h
end
end IP
end
section
set_option Elab.async false
set_option linter.all false
set_option maxRecDepth 100000
namespace IP
open PySem PySem.Spec L2
section
variable{G:Gx}{X:Cx}{C:Cf}{w w' w₀:Wo}{H H' H₀:Hp}{σ σ':Fr}{σV σV':St}{a b e j o:Expr}{a' b' e' j':IP.E}{pos pos' p p1 p2 apos:Pos}{Q:VK}{i c f:Nat}{x m:Str}
variable{k fi:Nat}{fa:Addr}{fd:FuncData}{ps:List Str}{e₀:Expr}{es:List Expr}{es':List IP.E}{rs:List R}{vs dvs:List V}{ds:List Value}{dts:List T}
theorem sV_fld(hc:Cls X.K (G.iA c))(hn:(G.nm c)[f]?=some x)(ha':NoAttr X.K (G.iA c) x)(ha:PE X a (tV G X C a'))(hb:attributeBase a x X.env (eval a X.env)=eval a X.env):PE X (.Attribute a x pos) (tV G X C (.fld a' c f)):=by
 refine PE.imp (pe_fld ha hb) ?_
 rintro σV H Q ⟨w₀,H₀,w,σ,s,g,h⟩
 have h:Want G X σV w H ((ev C a' .v σ s).bind fun x s1=>.of ((fldR s1 x c f).map .val) s1) Q:=h
 refine⟨w₀,H₀,w,σ,s,g,(Want.bind h).imp ?_⟩
 rintro v H1 ⟨w1,r,s1,L1,S1,R1,h1⟩
 obtain⟨r',e,q⟩:=Want.of h1
 obtain⟨t,ht,rfl⟩:=map_some e
 unfold fldR at ht
 split at ht
 ·rename_i l
  split at ht
  ·rename_i d fs hq
   split at ht
   ·rename_i hd
    subst hd
    obtain⟨hl,rfl⟩:=R1
    obtain⟨dx,kvs,z1,z2,z3⟩:=S1.cell l _ hq
    have hf:fs[f]?=some (some t):=by
     cases q2:fs[f]? with
     | none=>rw[q2]at ht;cases ht
     | some u=>rw[q2]at ht;exact congrArg some ht
    obtain⟨u,y1,y2⟩:=z3 f x t hn hf
    exact⟨w1.io l,_,dx,kvs,u,rfl,z1,hc,ha',y1,q w1 H1 u (Le.refl _ _) S1 y2⟩
   ·cases ht
  ·cases ht
 ·cases ht
theorem sV_cell(ha:PE X a (tO G X C a')):PE X a (tV G X C (.cell a')):=by
 refine PE.imp ha ?_
 rintro σV H Q ⟨w₀,H₀,w,σ,s,g,h⟩
 have h:Want G X σV w H ((ev C a' .v σ s).bind fun x s1=>onL x fun ts=>.ok (.val (.loc s1.length)) (s1++[.lst ts])) Q:=h
 refine⟨w₀,H₀,w,σ,s,g,?_⟩
 cases he:ev C a' .v σ s with
 | stuck=>rw[he]at h;exact h
 | exc c s1=>rw[he]at h;exact h
 | ok r s1=>
  rw[he]at h
  match r,h with
  | .val (.lst ts),h=>
   intro w1 H1 p vs L S ha r hn nz nl
   refine h (w1.addL p) H1 (.ref p) (L.addL hn) (S.addL ⟨vs,ha,Reps.kp zag7 ts vs r⟩ nz nl) ⟨?_,?_⟩
   ·rw[S.len];exact Nat.lt_succ_self _
   ·rw[S.len,zabr]
  | .val .non,h=>exact h.elim
  | .val (.bl _),h=>exact h.elim
  | .val (.int _),h=>exact h.elim
  | .val (.str _),h=>exact h.elim
  | .val (.tup _),h=>exact h.elim
  | .val (.loc _),h=>exact h.elim
  | .val (.exc _),h=>exact h.elim
  | .bor _,h=>exact h.elim
theorem zafh{kvs:List (Str×V)}{nm:List Str}(k:KvOk nm kvs)(hm:m∉nm):kvs.lookup m=none:=by
 cases q:kvs.lookup m with
 | none=>rfl
 | some v=>exact absurd (k.2 m (List.mem_map.mpr ⟨(m,v),zack q,rfl⟩)) hm
theorem onO_w{α:Type}{o:Option α}{f:α→Res R}(h:Want G X σV w H (onO o f) Q):∃a,o=some a∧Want G X σV w H (f a) Q:=by
 cases o with
 | none=>exact h.elim
 | some a=>exact⟨a,rfl,h⟩
theorem zac4{r:R}{v:V}(h:RepR G w H r v)(h2:RepRs G w H rs vs):RepRs G w H (r::rs) (v::vs):=⟨v,vs,rfl,h,h2⟩
theorem sV_methX{pl:Sem Bool}(hf:C.fr fi=false)(hcl:Cls X.K (G.iA c))(hmt:Meth X.K (G.iA c) m fa)(hnm:m∉G.nm c)(F:FnOk X.prog X.w X.K X.mg X.base (CXE G X.prog X.w X.base) k fa fd ps (spG G C.cf C.fr fi))(hr:Room k X.A)(hb:Binds X.K fd ps ds)(hd:Vals dvs ds)(hdt:dts.mapM cstV=some dvs)
  (ho:PE X o (tV G X C a')) (ha:PA X (e₀::es) (tR G X C es')) (hst:starEach (e₀::es) X.env=(false,eval e₀ X.env)::starEach es X.env) (hpl:(backTo pos (starEach es X.env)).any (·.1)=false)
  (ht:eval (.Call (.Attribute o m apos) (e₀::es) [] pos) X.env=(do
   let ov ←eval o X.env
   standAt apos.atName
   let (f,first) ←holding [ov] (getMethod ov m pl)
   callWith pos f first (backTo pos (starEach (e₀::es) X.env)) (backToKw pos (keywordEach [] X.env)))):PE X (.Call (.Attribute o m apos) (e₀::es) [] pos) (tV G X C (.meth a' c fi es' dts)):=by
 rintro pins s σV H Q I ⟨w₀,H₀,w,σ,st,g,h⟩
 have h:Want G X σV w H ((ev C a' .v σ st).bind fun x s1=>onO (x.locI s1 c) fun _=>(evr C es' σ s1).bind fun rs s2=>C.cf fi (x::rs++dts.map .val) s2) Q:=h
 refine PySem.W.methodCall_KW (pl:=pl) (thn (ho pins s σV H _ I ⟨w₀,H₀,w,σ,st,g,Want.bind h⟩) fun u s1 ⟨xv,H1,I1,rx,q⟩=>?_) ht
 obtain⟨w1,r,st1,L1,S1,R1,h1⟩:=q
 obtain⟨pp,hp,h1⟩:=onO_w h1
 obtain⟨er,ev',hl,hs,dx,kvs,z1,z2,z3⟩:=zagg S1 R1 hp
 subst ev'
 cases rx
 refine zadu I1 z1 hcl hmt (zafh z2 hnm) ?_
 refine PySem.W.callWith_K (first:=[.ref (w1.io pp.1)]) (h₀:=X.base) I.ok.mod.kin hmt.kp (thn (ha pos pins s1 σV H1 _ I1 ⟨w₀,H₀,w1,σ,st1,g.step L1 S1,zado h1⟩) fun us s2 ⟨vs,H2,I2,rv,q2⟩=>⟨I2.kIn,?_⟩) hst hpl
 obtain⟨w2,rs,st2,L2,S2,R2,h2⟩:=q2
 exact zadg (us:=.ref (w1.io pp.1)::us) (vs:=.ref (w1.io pp.1)::vs) F hr hb hd I2 (.cons rfl rv) (spG_vE hf L2 S2 (zac4 (R1.mono L2 S1) (zaa0 R2 (zabn hdt))) h2) (zabx I2)
theorem sV_methX0{pl:Sem Bool}(hf:C.fr fi=false)(hcl:Cls X.K (G.iA c))(hmt:Meth X.K (G.iA c) m fa)(hnm:m∉G.nm c)(F:FnOk X.prog X.w X.K X.mg X.base (CXE G X.prog X.w X.base) k fa fd ps (spG G C.cf C.fr fi))(hr:Room k X.A)(hb:Binds X.K fd ps ds)(hd:Vals dvs ds)(hdt:dts.mapM cstV=some dvs)
  (ho:PE X o (tV G X C a'))
  (ht:eval (.Call (.Attribute o m apos) [] [] pos) X.env=(do
   let ov ←eval o X.env
   standAt apos.atName
   let (f,first) ←holding [ov] (getMethod ov m pl)
   callWith pos f first (backTo pos (starEach [] X.env)) (backToKw pos (keywordEach [] X.env)))):PE X (.Call (.Attribute o m apos) [] [] pos) (tV G X C (.meth a' c fi [] dts)):=by
 rintro pins s σV H Q I ⟨w₀,H₀,w,σ,st,g,h⟩
 have h:Want G X σV w H ((ev C a' .v σ st).bind fun x s1=>onO (x.locI s1 c) fun _=>C.cf fi (x::([]++dts.map .val)) s1) Q:=h
 refine PySem.W.methodCall_KW (pl:=pl) (thn (ho pins s σV H _ I ⟨w₀,H₀,w,σ,st,g,Want.bind h⟩) fun u s1 ⟨xv,H1,I1,rx,q⟩=>?_) ht
 obtain⟨w1,r,st1,L1,S1,R1,h1⟩:=q
 obtain⟨pp,hp,h1⟩:=onO_w h1
 obtain⟨er,ev',hl,hs,dx,kvs,z1,z2,z3⟩:=zagg S1 R1 hp
 subst ev'
 cases rx
 refine zadu I1 z1 hcl hmt (zafh z2 hnm) ?_
 exact PySem.W.callWith_K0 (first:=[.ref (w1.io pp.1)]) I1.kIn hmt.kp (zadg (us:=[.ref (w1.io pp.1)]) (vs:=[.ref (w1.io pp.1)]) F hr hb hd I1 (.cons rfl .nil) (spG_vE hf (Le.refl _ _) S1 (zac4 R1 (zaa0 (rs:=[]) (vs:=[]) rfl (zabn hdt))) h1) (zabx I1))
theorem made_ok{Ca:Addr}{n:Nat}{s1:Sto}{xx dx:Addr}(S:StoOk G w H s1)(hx:H xx=none)(hdx:H dx=none)(hne:dx≠xx):
  Le w (w.addL xx) H (upd (upd H dx (.own xx)) xx (.ins (G.iA c) dx []))∧StoOk G (w.addL xx) (upd (upd H dx (.own xx)) xx (.ins (G.iA c) dx [])) (s1++[.ins c (List.replicate n none)]):=by
 have L1:Le w w H (upd H dx (.own xx)):=Le.new hdx _
 have hx1:upd H dx (.own xx) xx=none:=by rw[upd_ne hne.symm];exact hx
 have L2:Le w w H (upd (upd H dx (.own xx)) xx (.ins (G.iA c) dx [])):=L1.trans (Le.new hx1 _)
 have S1:=(S.new hdx (.own xx)).new hx1 (.ins (G.iA c) dx [])
 refine⟨L2.addL hx,S1.addL ⟨dx,[],zaau,⟨List.nodup_nil,fun y hy=>by simp at hy⟩,fun i y t h1 h2=>?_⟩ (S.fresh hx).1 (S.fresh hx).2⟩
 rw[List.getElem?_replicate]at h2
 split at h2<;>cases h2
theorem run_makeX{CX:CXT}{sp:Sp}{E:XK}{Ca:Addr}{pins:List (Addr×Obj)}{σV:St}{H:Hp}{s:Shared}{us:List Value}(M:Mk X.K Ca fa)(F:FnOk X.prog X.w X.K X.mg X.base CX k fa fd ps sp)(hr:Room (k+1) X.A)(hb:Binds X.K fd ps ds)(hd:Vals dvs ds)
  (I:Inv X pins σV H s) (r:Vals vs us) (h:∀x dx,H x=none→H dx=none→dx≠x→sp (.ref x::(vs++dvs)) (upd (upd H dx (.own x)) x (.ins Ca dx [])) (fun v H2=>v=.non∧Q (.ref x) H2) E)
  (hx:∀H2 s2 e s',Inv X pins σV H2 s2→CX X.stack H2 s2 E e s'→X.xe e s'):wpAny (model X.prog X.w) X.A (call (.ref Ca) us) (EP X pins σV Q) X.xe s:=by
 have hq:=h (s.heap.objs.size+1) s.heap.objs.size (I.hok.fresh (Nat.le_succ _)) (I.hok.fresh (Nat.le_refl _)) (Nat.ne_of_lt (Nat.lt_succ_self _))
 have I2:=Inv.made (C:=Ca) I
 have r2:Vals (V.ref (s.heap.objs.size+1)::(vs++dvs)) (Value.ref (s.heap.objs.size+1)::(us++ds)):=.cons rfl (r.append hd)
 have hl:(Value.ref (s.heap.objs.size+1)::us++ds).length=ps.length:=by
  have e:=r2.length
  rw[F.len _ _ _ _ hq]at e
  exact e.symm
 refine wpAny_call (make_map (f:=fa) I.kIn M.makes M.init (beq_iff_eq.mp M.fn) (codeAny_mono (F.run _ X.stack _ _ ⟨Value.ref (s.heap.objs.size+1)::us,[]⟩ (Value.ref (s.heap.objs.size+1)::(us++ds)) _ _ E (hr.make Ca us [])
  (I2.env0.make Ca us []) (hb _ (Value.ref (s.heap.objs.size+1)::us) I2.kIn hl) r2 hq) fun r s' hq'=>?_))
 cases r with
 | error e=>exact hx _ _ e s' I2 hq'
 | ok fl=>
  cases fl with
  | ret u=>
   obtain⟨v,H',I3,rv,ev,q3⟩:=I2.after hq'
   subst ev
   exact⟨rv,⟨V.ref (s.heap.objs.size+1),H',I3,rfl,q3⟩⟩
  | next=>exact False.elim hq'
  | brk=>exact False.elim hq'
  | cont=>exact False.elim hq'
theorem new_sp{n:Nat}{st:Sto}{σV:St}(hf:C.fr fi=false)(hdt:dts.mapM cstV=some dvs)(S:StoOk G w H st)(R1:RepRs G w H rs vs)(h:Want G X σV w H ((C.cf fi (.val (.loc st.length)::(rs++dts.map .val)) (st++[.ins c (List.replicate n none)])).bind fun r s2=>onN r (.ok (.val (.loc st.length)) s2)) Q)(x dx:Addr)(hx:H x=none)(hdx:H dx=none)(hne:dx≠x):
  spG G C.cf C.fr fi (.ref x::(vs++dvs)) (upd (upd H dx (.own x)) x (.ins (G.iA c) dx [])) (fun v H2=>v=.non∧Q (.ref x) H2) (EX G X σV):=by
 obtain⟨LL,SS⟩:=made_ok (c:=c) (Ca:=G.iA c) (n:=n) S hx hdx hne
 have hloc:RepR G (w.addL x) (upd (upd H dx (.own x)) x (.ins (G.iA c) dx [])) (.val (.loc st.length)) (.ref x):=by
  refine⟨?_,?_⟩
  ·rw[S.len];exact Nat.lt_succ_self _
  ·rw[S.len,zabr]
 refine spG_vE hf (Le.refl _ _) SS (zac4 hloc (zaa0 (R1.mono LL S) (zabn hdt))) ((Want.bind (Want.mono LL h)).imp ?_)
 rintro v H1 ⟨w1,r,s1,L1,S1,R1,h1⟩
 match r,h1 with
 | .val .non,h1=>exact⟨R1,h1 w1 H1 (.ref x) (Le.refl _ _) S1 (hloc.mono L1 SS)⟩
 | .val (.bl _),h1=>exact h1.elim
 | .val (.int _),h1=>exact h1.elim
 | .val (.str _),h1=>exact h1.elim
 | .val (.tup _),h1=>exact h1.elim
 | .val (.lst _),h1=>exact h1.elim
 | .val (.loc _),h1=>exact h1.elim
 | .val (.exc _),h1=>exact h1.elim
 | .bor _,h1=>exact h1.elim
theorem sV_newX0{n:Nat}(hf:C.fr fi=false)(M:Mk X.K (G.iA c) fa)(F:FnOk X.prog X.w X.K X.mg X.base (CXE G X.prog X.w X.base) k fa fd ps (spG G C.cf C.fr fi))(hr:Room (k+1) X.A)(hg:Gl X x)(hm:X.mg x=some (.ref (G.iA c)))(hb:Binds X.K fd ps ds)(hd:Vals dvs ds)(hdt:dts.mapM cstV=some dvs)
  (hdb:(x==("__debug__":Str))=false):PE X (.Call (.Name x p) [] [] pos) (tV G X C (.new c fi n [] dts)):=by
 rintro pins s σV H Q I ⟨w₀,H₀,w,σ,st,g,h⟩
 refine wpAny_Call_Name_kw (zadi I hg hm ?_ hdb)
 exact PySem.W.callWith_K0 I.kIn M.kp (run_makeX (us:=[]) (vs:=[]) M F hr hb hd I .nil (new_sp (rs:=[]) (vs:=[]) hf hdt g.sto rfl h) fun H2 s2 e s' I2 q=>zabx I2 e s' q)
theorem sS_putL(he:PE X e (tV G X C e'))(ha:PE X a (tV G X C a'))(hj:PE X j (tV G X C j'))
  (hs:swapsWithSole [.Subscript a j p2] e pos.line X.env=pure false) (hw:swappedStores [.Subscript a j p2] e X.env=pure none) (h1:(assignEach [.Subscript a j p2] X.env).map (·.2)=[assign (.Subscript a j p2) X.env])
  (hag:∀v,assign (.Subscript a j p2) X.env v=(do
   let ov ←holding [v] (eval a X.env)
   let iv ←holding [v,ov] (eval j X.env)
   standAt p2
   holding [v,ov,iv] (setItem ov iv v)
   release [v,ov,iv] [])):PS X (.Assign [.Subscript a j p2] e pos) (tS G X C (.putL a' j' e')):=by
 refine PS.imp (ps_asg he (pg_sub ha hj zah6 hag) hs hw h1) ?_
 rintro D σV H ⟨w₀,H₀,w,σ,s,g,h⟩
 refine⟨w₀,H₀,w,σ,s,g,(st_of g h).imp ?_⟩
 rintro v H1 ⟨w1,r,s1,L1,S1,R1,g1,q1⟩
 obtain⟨t,ht,q1⟩:=onS_w q1
 cases val_of ht
 refine⟨w₀,H₀,w1,σ,s1,g1,(st_of g1 q1).imp ?_⟩
 rintro o H2 ⟨w2,r2,s2,L2,S2,R2,g2,q2⟩
 refine⟨w₀,H₀,w2,σ,s2,g2,(st_of g2 q2).imp ?_⟩
 rintro y H3 ⟨w3,r3,s3,L3,S3,R3,g3,q3⟩
 obtain⟨pp,hp,q3⟩:=onS_w q3
 obtain⟨kk,hk,q3⟩:=onS_w q3
 obtain⟨n,hn,q3⟩:=onS_w q3
 obtain⟨er,ev',hl,xs,z1,z2⟩:=zae7 S3 (R2.mono L3 S2) hp
 subst ev'
 cases R3.int hk
 have rt:Rep G w3 H3 t v:=Rep.mono L3 S2 t v (Rep.mono L2 S1 t v R1)
 refine⟨w3.io pp.1,xs,kk,n,rfl,rfl,z1,by rw[←z2.length];exact hn,?_⟩
 obtain⟨g4,l4⟩:=g3.setC (o':=.lst (xs.set n v)) (c:=.lst (pp.2.set n t)) hl z1 (by intro _ z;cases z) (by intro _ z;cases z) ⟨_,zaau,Reps.updC z1 (S3.nz _ hl) (by intro _ z;cases z) (by intro _ z;cases z) _ _ (z2.set rt n)⟩
 exact q3 w3 _ σV g4 l4
theorem sS_appL{cpos:Pos}(ha:PE X a (tV G X C a'))(he:PE X e (tV G X C e'))(hst:starEach [e] X.env=[(false,eval e X.env)])
  (hline:(p2.endLine==cpos.line)=true) (hbase:attributeBase a "append" X.env (eval a X.env)=eval a X.env)
  (hfew:((backTo cpos (starEach [e] X.env)).all (fun x=>!x.1)&&(backToKw cpos (keywordEach [] X.env)).all (fun x=>x.1.isSome)&&decide ([e].length+([]:List Keyword).length+(if([]:List Keyword).isEmpty then 0 else 1)<30))=true)
  (hs:swapsWith (.Call (.Attribute a "append" p2) [e] [] cpos) none pos.line X.env=pure false):
  PS X (.Expr (.Call (.Attribute a "append" p2) [e] [] cpos) pos) (tS G X C (.appL a' e')):=by
 refine PS.imp (zahn (pe_bm PySem.F.plainAttrs_list PySem.F.slot_list_append PySem.F.type_list_append zadc ha (zaa3 he pa_nil hst) hbase hfew hline hst rfl) hs) ?_
 rintro D σV H ⟨w₀,H₀,w,σ,s,g,h⟩
 refine⟨w₀,H₀,w,σ,s,g,(st_of g h).imp ?_⟩
 rintro o H1 ⟨w1,r,s1,L1,S1,R1,g1,q1⟩
 obtain⟨p0,hp0,q1⟩:=onS_w q1
 obtain⟨er,ev',hl,xs,z1,z2⟩:=zae7 S1 R1 hp0
 subst er ev'
 refine⟨.inl ⟨rfl,xs,SqL.of z1⟩,w₀,H₀,w1,σ,s1,g1,(st_of g1 q1).imp ?_⟩
 rintro v H2 ⟨w2,r2,s2,L2,S2,R2,g2,q2⟩
 obtain⟨t,ht,qa⟩:=onS_w q2
 obtain⟨pp,hp,qb⟩:=onS_w qa
 cases val_of ht
 obtain⟨er2,ev2,hl2,ys,y1,y2⟩:=zae7 S2 (R1.mono L2 S1) hp
 split at qb
 ·rename_i hlim
  have ea:w1.io p0.1=w2.io pp.1:=by injection ev2
  have e0:p0.1=pp.1:=by injection er2 with e;injection e
  rw[ea]
  refine⟨w2.io pp.1,ys,v,rfl,rfl,y1,by rw[←y2.length];have:=lim_le;omega,?_⟩
  obtain⟨g4,l4⟩:=g2.setC (o':=.lst (ys++[v])) (c:=.lst (pp.2++[t])) hl2 y1 (by intro _ z;cases z) (by intro _ z;cases z) ⟨_,zaau,Reps.updC y1 (S2.nz _ hl2) (by intro _ z;cases z) (by intro _ z;cases z) _ _ (y2.append (show Reps G w2 H2 [t] [v]from⟨v,[],rfl,R2,rfl⟩))⟩
  exact qb w2 _ σV g4 l4
 ·exact qb.elim
theorem zaez{α:Type}[DecidableEq α]:∀(l m:List α),l.Nodup→(∀x∈l,x∈m)→l.length≤m.length
 | [],m,_,_=>Nat.zero_le _
 | x::l,m,hn,hs=>by
  obtain⟨h1,h2⟩:=List.nodup_cons.mp hn
  have hx:=hs x List.mem_cons_self
  have:=zaez l (m.erase x) h2 fun y hy=>(List.mem_erase_of_ne (a:=y) (b:=x) (fun e=>h1 (by rw[←e];exact hy))).mpr (hs y (List.mem_cons_of_mem _ hy))
  rw[List.length_erase_of_mem hx]at this
  have hp:0<m.length:=List.length_pos_of_mem hx
  rw[List.length_cons]
  omega
theorem kv_putF{nm:List Str}{y:V}:∀{kvs:List (Str×V)},KvOk nm kvs→x∈nm→KvOk nm (putF x y kvs)
 | [],_,hx=>⟨by simp[putF],fun z hz=>by simp[putF]at hz;rw[hz];exact hx⟩
 | (g,v)::r,⟨h1,h2⟩,hx=>by
  rw[List.map_cons,List.nodup_cons]at h1
  obtain⟨i1,i2⟩:=kv_putF (y:=y) (kvs:=r) ⟨h1.2,fun z hz=>h2 z (List.mem_cons_of_mem _ hz)⟩ hx
  rw[show putF x y ((g,v)::r)=(if g=x then(g,y)::r else(g,v)::putF x y r)from rfl]
  split
  ·exact⟨List.nodup_cons.mpr h1,h2⟩
  ·rename_i hg
   refine⟨List.nodup_cons.mpr ⟨fun hz=>?_,i1⟩,fun z hz=>?_⟩
   ·have:g∈r.map (·.1):=by
     have key:∀(q:List (Str×V)),g∈(putF x y q).map (·.1)→g∈q.map (·.1):=by
      intro q
      induction q with
      | nil=>intro hq;simp[putF]at hq;exact absurd hq hg
      | cons u q ih=>
       obtain⟨u1,u2⟩:=u
       intro hq
       rw[show putF x y ((u1,u2)::q)=(if u1=x then(u1,y)::q else(u1,u2)::putF x y q)from rfl]at hq
       split at hq
       ·exact hq
       ·rw[List.map_cons,List.mem_cons]at hq ⊢
        exact hq.imp (fun z=>z) ih
     exact key r hz
    exact h1.1 this
   ·rw[List.map_cons,List.mem_cons]at hz
    rcases hz with rfl|hz
    ·exact h2 _ List.mem_cons_self
    ·exact i2 z hz
theorem sS_setF(hcl:Cls X.K (G.iA c))(hn:(G.nm c)[f]?=some x)(hnd:(G.nm c).Nodup)(hlen:(G.nm c).length≤100)(hna:NoAttr X.K (G.iA c) x)(ha:PE X o (tV G X C a'))(he:PE X e (tV G X C e'))
  (hs:swapsWith e (some (.Attribute o x pos')) pos.line X.env=pure false):PS X (.Assign [.Attribute o x pos'] e pos) (tS G X C (.setF a' c f e')):=by
 refine PS.imp (ps_fld ha he hs) ?_
 rintro D σV H ⟨w₀,H₀,w,σ,s,g,h⟩
 refine⟨w₀,H₀,w,σ,s,g,(st_of g h).imp ?_⟩
 rintro v H1 ⟨w1,r,s1,L1,S1,R1,g1,q1⟩
 obtain⟨t,ht,q1⟩:=onS_w q1
 cases val_of ht
 refine⟨w₀,H₀,w1,σ,s1,g1,(st_of g1 q1).imp ?_⟩
 rintro y H2 ⟨w2,r2,s2,L2,S2,R2,g2,q2⟩
 obtain⟨pp,hp,q2⟩:=onS_w q2
 obtain⟨er,ev',hl,hs2,dx,kvs,z1,z2,z3⟩:=zagg S2 R2 hp
 subst ev'
 split at q2
 ·rename_i hfl
  have hx:x∈G.nm c:=List.mem_of_getElem? hn
  have rt:Rep G w2 H2 t v:=Rep.mono L2 S1 t v R1
  have nz:=S2.nz _ hl
  refine⟨w2.io pp.1,_,dx,kvs,rfl,z1,hcl,hna,?_,?_⟩
  ·have:=zaez _ _ z2.1 z2.2
   rw[List.length_map]at this
   omega
  ·have hcell:CellOk G w2 (upd H2 (w2.io pp.1) (.ins (G.iA c) dx (putF x v kvs))) (w2.io pp.1) (.ins c (pp.2.set f (some t))):=by
    refine⟨dx,putF x v kvs,zaau,kv_putF z2 hx,fun i y u h1 h2=>?_⟩
    rw[zab3]
    by_cases hi:f=i
    ·subst hi
     rw[hn]at h1
     cases h1
     rw[List.getElem?_set_self hfl]at h2
     cases h2
     exact⟨v,if_pos rfl,Rep.updC z1 nz (by intro _ z;cases z) (by intro _ z;cases z) t v rt⟩
    ·rw[List.getElem?_set_ne hi]at h2
     obtain⟨u',y1,y2⟩:=z3 i y u h1 h2
     have ne:y≠x:=fun e=>hi (zaef hnd hn (e▸h1))
     exact⟨u',by rw[if_neg ne];exact y1,Rep.updC z1 nz (by intro _ z;cases z) (by intro _ z;cases z) u u' y2⟩
   obtain⟨g4,l4⟩:=g2.setC (o':=.ins (G.iA c) dx (putF x v kvs)) (c:=.ins c (pp.2.set f (some t))) hl z1 (by intro _ z;cases z) (by intro _ z;cases z) hcell
   exact q2 w2 _ σV g4 l4
 ·exact q2.elim
end
end IP
end
section
set_option Elab.async false
set_option linter.all false
set_option maxRecDepth 100000
namespace IP
open PySem PySem.Spec L2
abbrev hnd(X:Cx)(e:Addr):Cx:={ X with A:=X.A.mark (some (.ref e)),calm:=false,xe:=fun _ _=>False }
section
variable{G:Gx}{X:Cx}{C:Cf}{pins:List (Addr×Obj)}{σV:St}{H:Hp}{c:Nat}{u:Value}{sh s:Shared}{e:Addr}
end
end IP
end
section
set_option Elab.async false
set_option linter.all false
set_option maxRecDepth 100000
namespace IP
open PySem PySem.Spec L2
section
variable{G:Gx}{X:Cx}{C:Cf}{pins pins':List (Addr×Obj)}{w w' w₀:Wo}{H H' H₀:Hp}{σ σ':Fr}{σV σV':St}{c:Nat}{u:Value}{sh s:Shared}{e:Addr}{E:Value→Shared→Prop}
end
end IP
end
section
set_option Elab.async false
set_option linter.all false
set_option maxRecDepth 100000
namespace IP
open PySem PySem.Spec L2
section
variable{G:Gx}{X:Cx}{C:Cf}{pins pins':List (Addr×Obj)}{w w' w₀:Wo}{H H' H₀:Hp}{σ σ':Fr}{σV σV':St}{c i:Nat}{u:Value}{sh s:Shared}{e:Addr}{E:Value→Shared→Prop}
variable{body suite:List Stmt}{b' h':List S}{y n:Str}{yp hpos pos:Pos}{b₀:Stmt}
end
end IP
end
section
set_option Elab.async false
set_option linter.all false
set_option maxRecDepth 100000
namespace IP
open PySem PySem.W PySem.Spec PySem.Calls PyProof.Rows Builtin Builtin.ObjectAttr Builtin.Getset_descriptor
section
variable{KK:Frag}{x D:Addr}
end
end IP
namespace IP
open PySem PySem.W PySem.Spec PySem.Calls PyProof.Rows Builtin Builtin.ObjectAttr Builtin.Getset_descriptor
section
variable{KK:Frag}{x D:Addr}{prog:Program}{w:World}{A:Around}{E:Value→Shared→Prop}
end
end IP
namespace IP
open PySem PySem.Spec L2
structure ExcK(K:PySem.W.Frag)(D:Addr):Prop where
 ga:PySem.W.findIn K (.ref D) "__getattribute__"=some (some (.builtin "BaseException.__getattribute__"))
 gn:PySem.W.findIn K (.ref D) "__getattr__"=some none
 dct:PySem.W.hasDictIn K D=true
 ca:PySem.W.findIn K (.ref D) "__class__"=some (some (.builtin "object.__class__"))
 sp:PySem.W.specialIn K (.builtin "object.__class__") "__get__"=some (some (.builtin "getset_descriptor.__get__"))
 tk:PySem.W.takesIn K (.builtin "object.__class__")=some true
 mo:PySem.W.mroIn K D (.type "object")=some true
 mb:PySem.W.mroIn K D (.type "BaseException")=some true
section
variable{G:Gx}{X:Cx}{C:Cf}{a:Expr}{a':IP.E}{pos p py:Pos}{y:Str}{k:Nat}
end
end IP
end
section
set_option Elab.async false
set_option linter.all false
set_option maxRecDepth 100000
namespace IP
open PySem PySem.Spec L2
section
variable{G:Gx}{X:Cx}{C:Cf}{w w' w₀:Wo}{H H' H₀:Hp}{σ σ':Fr}{σV σV':St}{a b e:Expr}{a' b' e':IP.E}{pos p p2:Pos}{Q:VK}
theorem LeS.puts:∀{ks:List Nat}{us:List T}{vs:List V}{σ:Fr}{σV:St},IP.puts σ ks us=some σ'→vs.length=ks.length→LeS w w H H σ σ' σV (setsV σV ks vs)
 | [],[],vs,σ,σV,hp,hl=>by cases hp;cases vs<;>exact LeS.refl
 | [],_::_,vs,σ,σV,hp,hl=>by cases hp
 | _::_,[],vs,σ,σV,hp,hl=>by cases hp
 | k::ks,u::us,[],σ,σV,hp,hl=>by simp at hl
 | k::ks,u::us,v::vs,σ,σV,hp,hl=>LeS.trans (LeS.put (v:=v)) (LeS.puts (ks:=ks) (us:=us) (vs:=vs) (σ:=IP.put σ k u) (σV:=σV.set k (some v)) hp (by simpa using hl))
end
end IP
end
section
set_option Elab.async false
set_option linter.all false
set_option maxRecDepth 100000
namespace IP
open PySem PySem.Spec L2
section
variable{G:Gx}{X:Cx}{C:Cf}
variable{elt iter tg:Expr}{ifs:List Expr}{scope:Scope}{pos:Pos}{it' ce:E}{g:Tg}{N':List Str}{f:Fr→Sto→Res (Option T)}
theorem locL_get{r:R}{s:Sto}{p:Nat×List T}(h:r.locL s=some p):s[p.1]?=some (.lst p.2):=by
 unfold R.locL at h
 split at h
 ·split at h
  ·rename_i ts q
   cases h
   exact q
  ·cases h
 ·cases h
theorem keepC_ok{α:Type}{l:Nat}{ts:List T}{r:Res α}{o:α}{s':Sto}(h:keepC l ts r=.ok o s'):r=.ok o s'∧s'[l]?=some (.lst ts):=by
 unfold keepC at h
 split at h
 ·rename_i a s
  split at h
  ·rename_i q
   cases h
   exact⟨rfl,q⟩
  ·cases h
 ·rename_i hn
  subst h
  exact(hn o s' rfl).elim
theorem keepC_exc{α:Type}{l:Nat}{ts:List T}{r:Res α}{c:Nat}{s':Sto}(h:keepC l ts r=.exc c s'):r=.exc c s':=by
 unfold keepC at h
 split at h
 ·split at h<;>cases h
 ·exact h
theorem zafx(hfr:HasFr X)(hc:X.calm=true)(hN:CompN X scope N' (slots g))(hnd:(slots g).Nodup)(hI:PE X iter (tV G X C it'))
  (hG:∀A fp s2 H2 xe,PG (cxC X N' scope A fp s2 H2 xe) tg (gTg G g)) (hE:∀A fp s2 H2 xe,Turned G (cxC X N' scope A fp s2 H2 xe) ifs elt f) (hs:∀x,foldedSetIterable iter X.env x=pure x)
  {pins:List (Addr×Obj)}{s:Shared}{σV:St}{H:Hp}{w₀ w:Wo}{H₀:Hp}{σ:Fr}{st:Sto}{Q:VK} (I:Inv X pins σV H s) (gd:Good G w₀ H₀ w H σ st σV)
  (h:WantO G X σV w H ((ev C it' .v σ st).bind fun x s1=>onO (x.locL s1) fun p=>(mapRes (fun t s=>onO (bindTg σ g t) fun σ'=>keepC p.1 p.2 (f σ' s)) p.2 s1).bind fun q s2=>.ok (.val (.lst q)) s2) Q)
  {use:Option (Value→Sem Unit)}{Q':Value→Shared→Prop}
  (hfin:∀(s':Shared) (Hc:Hp) (A D:Addr),Inv X pins σV Hc s'→FpOk X pins Hc A→(∃m,s'.heap.Ns A m)→Q (.ref D) Hc→compPost (model X.prog X.w) X.A X.xe use Q' (.ref D) A (.ok .next) s'):
  wpAny (model X.prog X.w) X.A (comprehension (.ListComp elt [⟨tg,iter,ifs,0⟩] scope pos) scope X.env (firstIterPos [⟨tg,iter,ifs,0⟩] pos) (newList []) false (eval iter X.env) use) Q' X.xe s:=by
 refine zad2 hfr hc hN hnd (pi_seq hI) hG hE hs I gd ?_ hfin
 refine⟨w₀,H₀,w,σ,st,gd,?_⟩
 cases he:ev C it' .v σ st with
 | stuck=>rw[he]at h;exact h
 | exc c s1=>rw[he]at h;exact h
 | ok x s1=>
  rw[he]at h
  intro w2 H2 v L S R1
  have h:WantO G X σV w H (onO (x.locL s1) fun p=>(mapRes (fun t s=>onO (bindTg σ g t) fun σ'=>keepC p.1 p.2 (f σ' s)) p.2 s1).bind fun q s2=>.ok (.val (.lst q)) s2) Q:=h
  cases hp:x.locL s1 with
  | none=>rw[hp]at h;exact h.elim
  | some p=>
   rw[hp]at h
   have h:WantO G X σV w H ((mapRes (fun t s=>onO (bindTg σ g t) fun σ'=>keepC p.1 p.2 (f σ' s)) p.2 s1).bind fun q s2=>.ok (.val (.lst q)) s2) Q:=h
   obtain⟨ex,ev',hl,vs,e1,e2⟩:=zae7 S R1 hp
   subst ev'
   refine⟨w2.io p.1,rfl,.inl ⟨vs,.inl e1,?_⟩⟩
   refine⟨w2,.l (w2.io p.1) vs,p.2,s1,fun s=>s[p.1]?=some (.lst p.2),keepC p.1 p.2,L,S,rfl,fun w' H' s' L' S' k'=>?_,locL_get hp,fun r=>⟨fun o s' e=>keepC_ok e,fun c s' e=>keepC_exc e⟩,?_⟩
   ·obtain⟨vs',a1,a2⟩:=S'.cell p.1 _ k'
    rw[L'.io p.1 hl]at a1
    exact⟨vs',.inl a1,a2⟩
   cases hm:mapRes (fun t s=>onO (bindTg σ g t) fun σ'=>keepC p.1 p.2 (f σ' s)) p.2 s1 with
   | stuck=>rw[hm]at h;exact h.elim
   | exc c s2=>rw[hm]at h;exact h
   | ok q st'=>rw[hm]at h;exact h
theorem comp_ownC(hc:X.calm=true)(hN:CompN X scope N' (slots g))(hnd:(slots g).Nodup)(hI:PE X iter (tV G X C it'))
  (hG:∀A fp s2 H2 xe,PG (cxC X N' scope A fp s2 H2 xe) tg (gTg G g)) (hE:∀A fp s2 H2 xe,Turned G (cxC X N' scope A fp s2 H2 xe) ifs elt f) (hs:∀x,foldedSetIterable iter X.env x=pure x)
  (hev:∀σ s,ev C ce .v σ s=(ev C it' .v σ s).bind fun x s1=>onO (x.locL s1) fun p=>(mapRes (fun t s=>onO (bindTg σ g t) fun σ'=>keepC p.1 p.2 (f σ' s)) p.2 s1).bind fun q s2=>.ok (.val (.lst q)) s2) (hfr:HasFr X:=by exact⟨_,_,_,rfl,rfl,rfl⟩):
  PE X (.ListComp elt [⟨tg,iter,ifs,0⟩] scope pos) (tO G X C ce):=by
 rintro pins s σV H Q I ⟨w₀,H₀,w,σ,st,gd,h⟩
 rw[hev]at h
 rw[eval_ListComp]
 refine zafx hfr hc hN hnd hI hG hE hs I gd h (use:=none) fun s' Hc A D I' fA ⟨m,hm⟩ q=>?_
 exact⟨m,hm,fun h' sb=>⟨.ref D,Hc,gone I' fA sb,rfl,q⟩⟩
theorem compC_is{elt it:IP.E}{g:Tg}{σ:Fr}{s:Sto}{r:R}{s1:Sto}(h:ev C (.compC elt g it) .v σ s=.ok r s1):∃ts,r=.val (.lst ts):=by
 have h:((ev C it .v σ s).bind fun x s1=>onO (x.locL s1) fun p=>(mapRes (fun t s=>onO (bindTg σ g t) fun σ'=>keepC p.1 p.2 (one (ev C elt .v σ' s))) p.2 s1).bind fun q s2=>.ok (.val (.lst q)) s2)=.ok r s1:=h
 cases hi:ev C it .v σ s with
 | stuck=>rw[hi]at h;cases h
 | exc c s2=>rw[hi]at h;cases h
 | ok x s2=>
  rw[hi]at h
  obtain⟨p,_,h⟩:=onO_ok h
  cases hm:mapRes (fun t s=>onO (bindTg σ g t) fun σ'=>keepC p.1 p.2 (one (ev C elt .v σ' s))) p.2 s2 with
  | stuck=>rw[hm]at h;cases h
  | exc c s3=>rw[hm]at h;cases h
  | ok q s3=>rw[hm]at h;cases h;exact⟨q,rfl⟩
end
end IP
end
section
set_option Elab.async false
set_option linter.all false
set_option maxRecDepth 100000
namespace IP
open PySem PySem.Spec L2
section
variable{G:Gx}{X:Cx}{C:Cf}
end
end IP
end
section
set_option Elab.async false
set_option linter.all false
set_option maxRecDepth 100000
namespace IP
open PySem PySem.Spec L2
section
variable{G:Gx}{X:Cx}{C:Cf}{w w' w₀:Wo}{H H' H₀:Hp}{σ σ':Fr}{σV σV':St}{pos:Pos}
end
end IP
end
section
set_option Elab.async false
set_option linter.all false
set_option maxRecDepth 100000
namespace IP
open PySem PySem.Spec L2
section
variable{G:Gx}{X:Cx}{C:Cf}{w w' w₀:Wo}{H H' H₀:Hp}{σ σ':Fr}{σV σV':St}{pos:Pos}
end
end IP
end
section
set_option Elab.async false
set_option linter.all false
set_option maxRecDepth 100000
namespace IP
open PySem PySem.Spec L2
section
variable{G:Gx}{X:Cx}{C:Cf}{a b e:Expr}{a' b' e':IP.E}{pos p p2:Pos}
def relN(sc names:List (Str×NameKind)):List (Str×NameKind):=names.map fun(n,k)=>if(k==.free&&sc.lookup n==some .cell)then(n,.cell)else(n,k)
def visB(names:List (Str×NameKind))(x:Str):Bool:=names.lookup x==some .local||names.lookup x==some .cell||names.lookup x==some .free
def ckComp(sc names:List (Str×NameKind))(N N':List Str)(js:List Nat):Bool:=
 names.all (fun x=>x.2 != .cell)&&names.all (fun x=>x.2 != .free||sc.lookup x.1==some .cell||sc.lookup x.1==some .free)&&decide (N'.length=N.length)&&decide N'.Nodup &&
 names.all (fun x=>x.2 != .local||names.lookup x.1==some .local) &&
 (List.range N'.length).all fun i=>js.contains i||match N'[i]? with
  | none=>true
  | some x=>!visB (relN sc names) x||(N[i]?==some x&&names.contains (x,NameKind.free)&&((relN sc names).lookup x==some .cell||(relN sc names).lookup x==some .free))
theorem rel_eq{scope:Scope}{sc:List (Str×NameKind)}(hsc:X.env.scope.names=sc)(hk:X.env.scope.kind=.function):(relabel scope X.env).names=relN sc scope.names:=by
 subst hsc
 unfold relabel relN Env.kindOf
 rw[hk]
 simp
theorem zaav{scope:Scope}{sc:List (Str×NameKind)}{N N':List Str}{js:List Nat}(hsc:X.env.scope.names=sc)(hk:X.env.scope.kind=.function)(hN:X.N=N)(hks:scope.kind=.function)(h:ckComp sc scope.names N N' js=true):CompN X scope N' js:=by
 unfold ckComp at h
 simp only[Bool.and_eq_true,List.all_eq_true,Bool.or_eq_true,bne_iff_ne,ne_eq,beq_iff_eq,decide_eq_true_eq]at h
 obtain⟨⟨⟨⟨⟨h1,h2⟩,h3⟩,h4⟩,h5⟩,h6⟩:=h
 refine⟨hks,h1,fun x hx e=>?_,by rw[hN];exact h3,h4,fun i x hi hj hv=>?_,fun x hx e=>?_⟩
 ·rcases h2 x hx with(q|q)|q
  ·exact absurd e q
  ·exact .inl (by unfold Env.kindOf;rw[hsc];exact q)
  ·exact .inr (by unfold Env.kindOf;rw[hsc];exact q)
 ·have hil:i<N'.length:=(List.getElem?_eq_some_iff.mp hi).1
  have q:=h6 i (List.mem_range.mpr hil)
  rw[hi]at q
  unfold Vis at hv
  rw[rel_eq hsc hk]at hv ⊢
  rcases q with q|q
  ·exact absurd (List.contains_iff_mem.mp q) hj
  ·have hv':visB (relN sc scope.names) x=true:=by
    unfold visB
    rcases hv with z|z|z<;>rw[z]<;>rfl
   simp only[hv',Bool.not_true,Bool.false_eq_true,false_or,Bool.and_eq_true,Bool.or_eq_true,beq_iff_eq]at q
   obtain⟨⟨q1,q2⟩,q3⟩:=q
   exact⟨by rw[hN];exact q1,List.contains_iff_mem.mp q2,q3⟩
 ·rcases h5 x hx with q|q
  ·exact absurd e q
  ·exact q
theorem map_lst{f:T→Sto→Res (Option T)}{m:Res R}{r:R}{s1:Sto}(h:(m.bind fun x s1=>onL x fun ts=>(mapRes f ts s1).bind fun q s2=>.ok (.val (.lst q)) s2)=.ok r s1):∃ts,r=.val (.lst ts):=by
 cases m with
 | stuck=>cases h
 | exc c s=>cases h
 | ok x s=>
  replace h:(onL x fun ts=>(mapRes f ts s).bind fun q s2=>.ok (.val (.lst q)) s2)=.ok r s1:=h
  unfold onL at h
  split at h
  ·rename_i ts
   replace h:((mapRes f ts s).bind fun q s2=>.ok (.val (.lst q)) s2)=.ok r s1:=h
   cases hm:mapRes f ts s with
   | stuck=>rw[hm]at h;cases h
   | exc c s=>rw[hm]at h;cases h
   | ok q s2=>rw[hm]at h;cases h;exact⟨q,rfl⟩
  ·cases h
theorem zabd{elt it:IP.E}{g:Tg}{σ:Fr}{s:Sto}{r:R}{s1:Sto}(h:ev C (.comp elt g it) .v σ s=.ok r s1):∃ts,r=.val (.lst ts):=map_lst h
theorem rev_is{σ:Fr}{s:Sto}{r:R}{s1:Sto}(h:ev C (.rev a') .v σ s=.ok r s1):∃ts,r=.val (.lst ts):=by
 have h:(ev C a' .v σ s).bind (fun x s1=>.of (x.seq.map fun ts=>.val (.lst ts.reverse)) s1)=.ok r s1:=h
 cases hq:ev C a' .v σ s with
 | stuck=>rw[hq]at h;cases h
 | exc c s2=>rw[hq]at h;cases h
 | ok rs s2=>
  rw[hq]at h
  have h:Res.of (rs.seq.map fun ts=>.val (.lst ts.reverse)) s2=.ok r s1:=h
  cases hs:rs.seq with
  | none=>rw[hs]at h;cases h
  | some ts=>rw[hs]at h;cases h;exact⟨_,rfl⟩
theorem wv(i:Nat){x:Str}(hN:X.N[i]?=some x:=by rfl)(hv:Vis X.env.scope x:=by first|exact Or.inl rfl|exact Or.inr (Or.inl rfl)|exact Or.inr (Or.inr rfl))(hd:(x==("__debug__":Str))=false:=by decide)(hcd:(x==("__classdict__":Str))=false:=by decide):PE X (.Name x pos) (tV G X C (.var i)):=sV_var hN hv hd hcd
theorem wtr{e:Expr}(hE:PE X e (tV G X C e'))(he:∀whole,isTrue e X.env whole=(do let v ←whole;standAt e.pos;holding [v] (truthy v)):=by intro _;rfl)
  (hev:∀σ s,ev C e' .t σ s=(ev C e' .v σ s).bind fun x s=>.of (truK x) s:=by intro _ _;rfl):PT X e (tT G X C e'):=sT_plain hE he hev
theorem wcv(hu:X.A.units+9<cLine)(c:Cm)(ha:PE X a (tV G X C a'))(hb:PE X b (tV G X C b'))(hm:behindInMarks (cmOf c) b=false:=by rfl):PE X (.Compare a [cmOf c] [b] pos) (tV G X C (.cmp c a' b')):=sV_cmp hu c ha hb hm
theorem wct(hu:X.A.units+9<cLine)(c:Cm)(ha:PE X a (tV G X C a'))(hb:PE X b (tV G X C b'))(hm:behindInMarks (cmOf c) b=false:=by rfl):PT X (.Compare a [cmOf c] [b] pos) (tT G X C (.cmp c a' b')):=sT_cmp hu c ha hb hm
theorem wone{op}(h:PE X a (tV G X C a')):PE X (.BoolOp op [a] pos) (tV G X C a'):=pe_one h
theorem wsub(ha:PE X a (tV G X C a'))(hb:PE X b (tV G X C b'))(hs:zag5 b:=by intro _ _;rfl):PE X (.Subscript a b pos) (tV G X C (.sub a' b')):=sV_sub ha hb hs
theorem wac{es:List Expr}{es':List IP.E}(ha:PE X a (tV G X C a'))(hr:PA X es (tA G X C es'))(hs:starEach (a::es) X.env=(false,eval a X.env)::starEach es X.env:=by rfl):PA X (a::es) (tA G X C (a'::es')):=sA_cons ha hr hs
theorem wrc{es:List Expr}{es':List IP.E}(ha:PE X a (tV G X C a'))(hr:PA X es (tR G X C es'))(hs:starEach (a::es) X.env=(false,eval a X.env)::starEach es X.env:=by rfl):PA X (a::es) (tR G X C (a'::es')):=sR_cons ha hr hs
theorem wtup{es:List Expr}{es':List IP.E}{k:Nat}(h:PA X es (tA G X C es'))(hz:es'.length≤1000:=by decide):PE X (.Tuple es k pos) (tV G X C (.tup es')):=sV_tup h (Nat.le_trans hz (by decide))
theorem wlst{es:List Expr}{es':List IP.E}(h:PA X es (tA G X C es'))(hz:es'.length≤1000:=by decide):PE X (.List es pos) (tV G X C (.lst es')):=sV_lst h (Nat.le_trans hz (by decide))
theorem wlstO{es:List Expr}{es':List IP.E}(h:PA X es (tA G X C es'))(hz:es'.length≤1000:=by decide):PE X (.List es pos) (tO G X C (.lst es')):=sO_lst h (Nat.le_trans hz (by decide))
theorem wlen(hm:X.mg "len"=none)(ha:PE X a (tV G X C a'))(hg:Gl X "len":=by rfl)(hs:starEach [a] X.env=[(false,eval a X.env)]:=by rfl):PE X (.Call (.Name "len" p) [a] [] pos) (tV G X C (.b1 .len a')):=sB1 c_len hg hm (by rfl) (by decide) (by decide) ha hs fun _ _=>rfl
theorem wabs(hm:X.mg "abs"=none)(ha:PE X a (tV G X C a'))(hg:Gl X "abs":=by rfl)(hs:starEach [a] X.env=[(false,eval a X.env)]:=by rfl):PE X (.Call (.Name "abs" p) [a] [] pos) (tV G X C (.b1 .abs a')):=sB1 c_abs hg hm (by rfl) (by decide) (by decide) ha hs fun _ _=>rfl
theorem wint(hm:X.mg "int"=none)(ha:PE X a (tV G X C a'))(hg:Gl X "int":=by rfl)(hs:starEach [a] X.env=[(false,eval a X.env)]:=by rfl):PE X (.Call (.Name "int" p) [a] [] pos) (tV G X C (.b1 .int a')):=sTy1 c_int hg hm (by rfl) (by decide) (by decide) ha hs fun _ _=>rfl
theorem wlist(hm:X.mg "list"=none)(ha:PE X a (tV G X C a'))(hg:Gl X "list":=by rfl)(hs:starEach [a] X.env=[(false,eval a X.env)]:=by rfl):PE X (.Call (.Name "list" p) [a] [] pos) (tV G X C (.b1 .list a')):=sTy1 c_list hg hm (by rfl) (by decide) (by decide) ha hs fun _ _=>rfl
theorem wlistO(hm:X.mg "list"=none)(ha:PE X a (tV G X C a'))(hg:Gl X "list":=by rfl)(hs:starEach [a] X.env=[(false,eval a X.env)]:=by rfl):PE X (.Call (.Name "list" p) [a] [] pos) (tO G X C (.b1 .list a')):=sO_list hg hm ha hs
theorem wtuple(hm:X.mg "tuple"=none)(ha:PE X a (tV G X C a'))(hg:Gl X "tuple":=by rfl)(hs:starEach [a] X.env=[(false,eval a X.env)]:=by rfl):PE X (.Call (.Name "tuple" p) [a] [] pos) (tV G X C (.b1 .tuple a')):=sTy1 c_tuple hg hm (by rfl) (by decide) (by decide) ha hs fun _ _=>rfl
theorem wany(hm:X.mg "any"=none)(ha:PE X a (tV G X C a'))(hg:Gl X "any":=by rfl)(hs:starEach [a] X.env=[(false,eval a X.env)]:=by rfl)(hc:X.calm=true:=by rfl):PE X (.Call (.Name "any" p) [a] [] pos) (tV G X C (.b1 .any a')):=sB1 (c_any hc) hg hm (by rfl) (by decide) (by decide) ha hs fun _ _=>rfl
theorem wall(hm:X.mg "all"=none)(ha:PE X a (tV G X C a'))(hg:Gl X "all":=by rfl)(hs:starEach [a] X.env=[(false,eval a X.env)]:=by rfl)(hc:X.calm=true:=by rfl):PE X (.Call (.Name "all" p) [a] [] pos) (tV G X C (.b1 .all a')):=sB1 (c_all hc) hg hm (by rfl) (by decide) (by decide) ha hs fun _ _=>rfl
theorem wmin(hm:X.mg "min"=none)(ha:PE X a (tV G X C a'))(hg:Gl X "min":=by rfl)(hs:starEach [a] X.env=[(false,eval a X.env)]:=by rfl)(hc:X.calm=true:=by rfl):PE X (.Call (.Name "min" p) [a] [] pos) (tV G X C (.b1 .min a')):=sB1 (c_min hc) hg hm (by rfl) (by decide) (by decide) ha hs fun _ _=>rfl
theorem wmax(hm:X.mg "max"=none)(ha:PE X a (tV G X C a'))(hg:Gl X "max":=by rfl)(hs:starEach [a] X.env=[(false,eval a X.env)]:=by rfl)(hc:X.calm=true:=by rfl):PE X (.Call (.Name "max" p) [a] [] pos) (tV G X C (.b1 .max a')):=sB1 (c_max hc) hg hm (by rfl) (by decide) (by decide) ha hs fun _ _=>rfl
theorem wsorted(hm:X.mg "sorted"=none)(ha:PE X a (tV G X C a'))(hg:Gl X "sorted":=by rfl)(hs:starEach [a] X.env=[(false,eval a X.env)]:=by rfl):PE X (.Call (.Name "sorted" p) [a] [] pos) (tV G X C (.b1 .sorted a')):=sB1 c_sorted hg hm (by rfl) (by decide) (by decide) ha hs fun _ _=>rfl
theorem wmax2(hm:X.mg "max"=none)(ha:PE X a (tV G X C a'))(hb:PE X b (tV G X C b'))(hg:Gl X "max":=by rfl)(hs:starEach [a,b] X.env=[(false,eval a X.env),(false,eval b X.env)]:=by rfl)(hs2:starEach [b] X.env=[(false,eval b X.env)]:=by rfl)(hc:X.calm=true:=by rfl):PE X (.Call (.Name "max" p) [a,b] [] pos) (tV G X C (.mx2 a' b')):=sB2 (c_max2 hc) hg hm (by rfl) (by decide) (by decide) ha hb hs hs2 fun _ _=>rfl
theorem wisi(c:Ty){n:String}{y:Str}{py:Pos}(hm:X.mg "isinstance"=none)(hmy:X.mg y=none)(ha:PE X a (tV G X C a'))(hn:tyOf c=some n:=by rfl)(hg:Gl X "isinstance":=by rfl)(hgy:Gl X y:=by rfl)(hv:bootBuiltins y=some (.type n):=by rfl)(hy:y≠"__name__":=by decide)(hdy:(y==("__debug__":Str))=false:=by decide)
  (hs:starEach [a,.Name y py] X.env=[(false,eval a X.env),(false,eval (.Name y py) X.env)]:=by rfl):PE X (.Call (.Name "isinstance" p) [a,.Name y py] [] pos) (tV G X C (.isi a' c)):=sV_isi hn hg hm hgy hmy hv hy hdy ha hs
theorem wpl{tg e:Expr}(hE:PE X e (tV G X C e'))(hev:∀σ s,ev C e' .i σ s=fin .i (ev C e' .v σ s):=by intro _ _;rfl):PI X tg e (tI G X C e' .i false):=zagf hE (.inl ⟨rfl,rfl⟩) hev
theorem wpj{tg e:Expr}(hE:PE X e (tV G X C e'))(hev:∀σ s,ev C e' .j σ s=fin .j (ev C e' .v σ s):=by intro _ _;rfl):PI X tg e (tI G X C e' .j true):=zagf hE (.inr ⟨rfl,rfl⟩) hev
theorem wr1{tg:Expr}{m:Md}{z:Bool}(hmg:X.mg "range"=none)(ha:PE X a (tV G X C a'))(hm:m=.i∨m=.j:=by first|exact .inl rfl|exact .inr rfl)(hg:Gl X "range":=by rfl)(hs:starEach [a] X.env=[(false,eval a X.env)]:=by rfl):PI X tg (.Call (.Name "range" p) [a] [] pos) (tI G X C (.rng1 a') m z):=sI_rng1 hm hg hmg ha hs
theorem wr2{tg:Expr}{m:Md}{z:Bool}(hmg:X.mg "range"=none)(ha:PE X a (tV G X C a'))(hb:PE X b (tV G X C b'))(hm:m=.i∨m=.j:=by first|exact .inl rfl|exact .inr rfl)(hg:Gl X "range":=by rfl)(hs:starEach [a,b] X.env=[(false,eval a X.env),(false,eval b X.env)]:=by rfl)(hs2:starEach [b] X.env=[(false,eval b X.env)]:=by rfl):PI X tg (.Call (.Name "range" p) [a,b] [] pos) (tI G X C (.rng2 a' b') m z):=sI_rng2 hm hg hmg ha hb hs hs2
theorem wg1{i:Nat}{x:Str}(hN:X.N.Nodup)(hi:X.N[i]?=some x:=by rfl)(hx:Loc X.env.scope x:=by first|exact Or.inl rfl|exact Or.inr rfl)(hf:X.fn x=true∨X.env.scope.names.lookup x=some .local:=by first|exact Or.inl rfl|exact Or.inr rfl):PG X (.Name x pos) (gTg G (.one i)):=sG_one hN hi hx hf
theorem wgc{i:Nat}{js:List Nat}{x:Str}{es:List Expr}(hN:X.N.Nodup)(h2:PGs X es (gMany js))(hi:X.N[i]?=some x:=by rfl)(hx:Loc X.env.scope x:=by first|exact Or.inl rfl|exact Or.inr rfl)(hf:X.fn x=true∨X.env.scope.names.lookup x=some .local:=by first|exact Or.inl rfl|exact Or.inr rfl):PGs X (.Name x pos::es) (gMany (i::js)):=sG_cons hN hi hx hf h2
theorem wgm{js:List Nat}{es:List Expr}{k:Nat}(h:PGs X es (gMany js))(hc:X.calm=true:=by rfl)(hn:(assignEach es X.env).length=js.length:=by rfl)(hst:(assignEach es X.env).findIdx? (·.1)=none:=by rfl):PG X (.Tuple es k pos) (gTg G (.many js)):=sG_many hc h hn hst
variable{i:Nat}{x:Str}{pos':Pos}
theorem qasg(hN:X.N.Nodup)(he:PE X e (tV G X C e'))(hi:X.N[i]?=some x:=by rfl)(hx:Loc X.env.scope x:=by first|exact Or.inl rfl|exact Or.inr rfl)(hs:swapsWith e (some (.Name x pos')) pos.line X.env=pure false:=by rfl)(hf:X.fn x=true∨X.env.scope.names.lookup x=some .local:=by exact Or.inl rfl):PS X (.Assign [.Name x pos'] e pos) (tS G X C (.asg i e')):=sS_asg hN hi hx he hs hf
theorem qmk(hN:X.N.Nodup)(he:PE X e (tO G X C e'))(hi:X.N[i]?=some x:=by rfl)(hx:Loc X.env.scope x:=by first|exact Or.inl rfl|exact Or.inr rfl)(hs:swapsWith e (some (.Name x pos')) pos.line X.env=pure false:=by rfl)(hf:X.fn x=true∨X.env.scope.names.lookup x=some .local:=by exact Or.inl rfl):PS X (.Assign [.Name x pos'] e pos) (tS G X C (.mk i e')):=sS_mk hN hi hx he hs hf
theorem qapp{p1 cpos:Pos}(he:PE X e (tV G X C e'))(hN:X.N[i]?=some x:=by rfl)(hv:Vis X.env.scope x:=by first|exact Or.inl rfl|exact Or.inr (Or.inl rfl))(hd:(x==("__debug__":Str))=false:=by decide)(hcd:(x==("__classdict__":Str))=false:=by decide)(hst:starEach [e] X.env=[(false,eval e X.env)]:=by rfl)
  (hline:(p2.endLine==cpos.line)=true:=by rfl) (hbase:attributeBase (.Name x p1) "append" X.env (eval (.Name x p1) X.env)=eval (.Name x p1) X.env:=by rfl)
  (hfew:((backTo cpos (starEach [e] X.env)).all (fun x=>!x.1)&&(backToKw cpos (keywordEach [] X.env)).all (fun x=>x.1.isSome)&&decide ([e].length+([]:List Keyword).length+(if([]:List Keyword).isEmpty then 0 else 1)<30))=true:=by rfl)
  (hs:swapsWith (.Call (.Attribute (.Name x p1) "append" p2) [e] [] cpos) none pos.line X.env=pure false:=by rfl):
  PS X (.Expr (.Call (.Attribute (.Name x p1) "append" p2) [e] [] cpos) pos) (tS G X C (.app i e')):=sS_app hN hv hd hcd he hst hline hbase hfew hs
theorem qput{j:Expr}{j':IP.E}{p1:Pos}(hj:PE X j (tV G X C j'))(he:PE X e (tV G X C e'))(hN:X.N[i]?=some x:=by rfl)(hv:Vis X.env.scope x:=by first|exact Or.inl rfl|exact Or.inr (Or.inl rfl))(hd:(x==("__debug__":Str))=false:=by decide)(hcd:(x==("__classdict__":Str))=false:=by decide)
  (hs:swapsWithSole [.Subscript (.Name x p1) j p2] e pos.line X.env=pure false:=by rfl) (hw:swappedStores [.Subscript (.Name x p1) j p2] e X.env=pure none:=by rfl) (h1:(assignEach [.Subscript (.Name x p1) j p2] X.env).map (·.2)=[assign (.Subscript (.Name x p1) j p2) X.env]:=by rfl)
  (ha:∀v,assign (.Subscript (.Name x p1) j p2) X.env v=(do
   let ov ←holding [v] (eval (.Name x p1) X.env)
   let iv ←holding [v,ov] (eval j X.env)
   standAt p2
   holding [v,ov,iv] (setItem ov iv v)
   release [v,ov,iv] []):=by intro _;rfl):
  PS X (.Assign [.Subscript (.Name x p1) j p2] e pos) (tS G X C (.put i j' e')):=sS_put hN hv hd hcd he hj hs hw h1 ha
theorem qexp(he:PE X e (tV G X C e'))(hs:swapsWith e none pos.line X.env=pure false:=by rfl):PS X (.Expr e pos) (tS G X C (.exp e')):=sS_exp he hs
end
section
variable{G:Gx}{X:Cx}{fs:List Fn}{sub:Nat→Nat→Bool}{k fi:Nat}{fa:Addr}{fd:FuncData}{ps:List Str}{e₀:Expr}{es:List Expr}{es':List IP.E}{x:Str}{p pos:Pos}
end
end IP
end
section
set_option Elab.async false
set_option linter.all false
set_option maxRecDepth 100000
namespace IP
open PySem PySem.Spec L2
def nth{α:Type}:List α→α→Nat→α
 | [],z,_=>z
 | a::_,_,0=>a
 | _::r,z,n+1=>nth r z n
theorem fn_top{G:Gx}{P:Program}{w:World}{K:PySem.W.Frag}{mg:Str→Option Value}{base:Heap}{k:Nat}{f:Addr}{fd:FuncData}{ps:List Str}{sp:Sp}(F:FnOk P w K mg base (CXE G P w base) k f fd ps sp):FnOk P w K mg base CX0 k f fd ps (fun vs H Q _=>sp vs H Q fun _ _ _=>False):=by
 refine⟨fun vs H Q E h=>F.len vs H Q _ h,fun A outer s H args us vs Q E hr e0 hb hv h=>codeAny_mono (F.run A outer s H args us vs Q (fun _ _ _=>False) hr e0 hb hv h) fun r s' q=>?_⟩
 cases r with
 | ok fl=>
  cases fl with
  | ret u=>exact q
  | next=>exact q
  | brk=>exact q
  | cont=>exact q
 | error e=>
  obtain⟨a,cls,t,H',h,B,_,_,_,_,_,_,_,_,z⟩:=q
  exact z
section
variable{G:Gx}{X:Cx}{fs:List Fn}{sub:Nat→Nat→Bool}{k fi:Nat}{fa:Addr}{fd:FuncData}{ps:List Str}{a b e j o e₀:Expr}{es:List Expr}{a' b' e' j':IP.E}{es':List IP.E}{x m y n:Str}{p p1 p2 pos pos' apos cpos:Pos}{ds:List Value}{dvs:List V}{dts:List T}{c f i:Nat}
theorem xcall(F:FnOk X.prog X.w X.K X.mg X.base (CXE G X.prog X.w X.base) (2*k) fa fd ps (spG G (cfX fs sub k).cf (cfX fs sub k).fr fi))(hr:Room (2*k+1) X.A)(hm:X.mg x=some (.ref fa))(hk:PySem.W.keepIn X.K (.ref fa)=true)(hb:Binds X.K fd ps ds)(hd:Vals dvs ds)(hdt:dts.mapM cstV=some dvs)(ha:PA X (e₀::es) (tR G X (cfX fs sub k) es'))
  (hf:frOf fs fi=false:=by rfl) (hg:Gl X x:=by rfl) (hdb:(x==("__debug__":Str))=false:=by decide) (he:starEach (e₀::es) X.env=(false,eval e₀ X.env)::starEach es X.env:=by rfl) (hpl:(backTo pos (starEach es X.env)).any (·.1)=false:=by rfl):
  PE X (.Call (.Name x p) (e₀::es) [] pos) (tV G X (cfX fs sub k) (.call fi es' dts)):=sV_callX hf F (hr.mono (Nat.le_succ _)) hg hm hk hb hd hdt ha hdb he hpl
theorem xcallO(F:FnOk X.prog X.w X.K X.mg X.base (CXE G X.prog X.w X.base) (2*k) fa fd ps (spG G (cfX fs sub k).cf (cfX fs sub k).fr fi))(hr:Room (2*k+1) X.A)(hm:X.mg x=some (.ref fa))(hk:PySem.W.keepIn X.K (.ref fa)=true)(hb:Binds X.K fd ps ds)(hd:Vals dvs ds)(hdt:dts.mapM cstV=some dvs)(ha:PA X (e₀::es) (tR G X (cfX fs sub k) es'))
  (hf:frOf fs fi=true:=by rfl) (hg:Gl X x:=by rfl) (hdb:(x==("__debug__":Str))=false:=by decide) (he:starEach (e₀::es) X.env=(false,eval e₀ X.env)::starEach es X.env:=by rfl) (hpl:(backTo pos (starEach es X.env)).any (·.1)=false:=by rfl):
  PE X (.Call (.Name x p) (e₀::es) [] pos) (tO G X (cfX fs sub k) (.call fi es' dts)):=zagj hf F (hr.mono (Nat.le_succ _)) hg hm hk hb hd hdt ha hdb he hpl
theorem xcallV(F:FnOk X.prog X.w X.K X.mg X.base (CXE G X.prog X.w X.base) (2*k) fa fd ps (spG G (cfX fs sub k).cf (cfX fs sub k).fr fi))(hr:Room (2*k+1) X.A)(hm:X.mg x=some (.ref fa))(hk:PySem.W.keepIn X.K (.ref fa)=true)(hb:Binds X.K fd ps ds)(hd:Vals dvs ds)(hdt:dts.mapM cstV=some dvs)(ha:PA X (e₀::es) (tR G X (cfX fs sub k) es'))
  (hf:frOf fs fi=true:=by rfl) (hg:Gl X x:=by rfl) (hdb:(x==("__debug__":Str))=false:=by decide) (he:starEach (e₀::es) X.env=(false,eval e₀ X.env)::starEach es X.env:=by rfl) (hpl:(backTo pos (starEach es X.env)).any (·.1)=false:=by rfl):
  PE X (.Call (.Name x p) (e₀::es) [] pos) (tV G X (cfX fs sub k) (.call fi es' dts)):=sV_callXO hf (run_lstX hf k) F (hr.mono (Nat.le_succ _)) hg hm hk hb hd hdt ha hdb he hpl
theorem xmeth{pl:Sem Bool}(hcl:Cls X.K (G.iA c))(hmt:Meth X.K (G.iA c) m fa)(F:FnOk X.prog X.w X.K X.mg X.base (CXE G X.prog X.w X.base) (2*k) fa fd ps (spG G (cfX fs sub k).cf (cfX fs sub k).fr fi))(hr:Room (2*k+1) X.A)(hb:Binds X.K fd ps ds)(hd:Vals dvs ds)(hdt:dts.mapM cstV=some dvs)
  (ho:PE X o (tV G X (cfX fs sub k) a')) (ha:PA X (e₀::es) (tR G X (cfX fs sub k) es')) (hf:frOf fs fi=false:=by rfl) (hnm:m∉G.nm c:=by decide) (hst:starEach (e₀::es) X.env=(false,eval e₀ X.env)::starEach es X.env:=by rfl) (hpl:(backTo pos (starEach es X.env)).any (·.1)=false:=by rfl)
  (ht:eval (.Call (.Attribute o m apos) (e₀::es) [] pos) X.env=(do
   let ov ←eval o X.env
   standAt apos.atName
   let (f,first) ←holding [ov] (getMethod ov m pl)
   callWith pos f first (backTo pos (starEach (e₀::es) X.env)) (backToKw pos (keywordEach [] X.env))):=by rfl):PE X (.Call (.Attribute o m apos) (e₀::es) [] pos) (tV G X (cfX fs sub k) (.meth a' c fi es' dts)):=
 sV_methX hf hcl hmt hnm F (hr.mono (Nat.le_succ _)) hb hd hdt ho ha hst hpl ht
theorem xmeth0{pl:Sem Bool}(hcl:Cls X.K (G.iA c))(hmt:Meth X.K (G.iA c) m fa)(F:FnOk X.prog X.w X.K X.mg X.base (CXE G X.prog X.w X.base) (2*k) fa fd ps (spG G (cfX fs sub k).cf (cfX fs sub k).fr fi))(hr:Room (2*k+1) X.A)(hb:Binds X.K fd ps ds)(hd:Vals dvs ds)(hdt:dts.mapM cstV=some dvs)
  (ho:PE X o (tV G X (cfX fs sub k) a')) (hf:frOf fs fi=false:=by rfl) (hnm:m∉G.nm c:=by decide)
  (ht:eval (.Call (.Attribute o m apos) [] [] pos) X.env=(do
   let ov ←eval o X.env
   standAt apos.atName
   let (f,first) ←holding [ov] (getMethod ov m pl)
   callWith pos f first (backTo pos (starEach [] X.env)) (backToKw pos (keywordEach [] X.env))):=by rfl):PE X (.Call (.Attribute o m apos) [] [] pos) (tV G X (cfX fs sub k) (.meth a' c fi [] dts)):=
 sV_methX0 hf hcl hmt hnm F (hr.mono (Nat.le_succ _)) hb hd hdt ho ht
theorem xnew0{nf:Nat}(M:Mk X.K (G.iA c) fa)(F:FnOk X.prog X.w X.K X.mg X.base (CXE G X.prog X.w X.base) (2*k) fa fd ps (spG G (cfX fs sub k).cf (cfX fs sub k).fr fi))(hr:Room (2*k+1) X.A)(hm:X.mg x=some (.ref (G.iA c)))(hb:Binds X.K fd ps ds)(hd:Vals dvs ds)(hdt:dts.mapM cstV=some dvs)
  (hf:frOf fs fi=false:=by rfl) (hg:Gl X x:=by rfl) (hdb:(x==("__debug__":Str))=false:=by decide):PE X (.Call (.Name x p) [] [] pos) (tV G X (cfX fs sub k) (.new c fi nf [] dts)):=sV_newX0 hf M F hr hg hm hb hd hdt hdb
end
section
variable{G:Gx}{X:Cx}{C:Cf}{a b e j o e₀:Expr}{es:List Expr}{a' b' e' j':IP.E}{es':List IP.E}{x m y n:Str}{p p1 p2 pos pos' apos cpos np mp yp hpos:Pos}{c f i:Nat}
theorem xfld(hc:Cls X.K (G.iA c))(hna:NoAttr X.K (G.iA c) x)(ha:PE X a (tV G X C a'))(hn:(G.nm c)[f]?=some x:=by rfl)(hb:attributeBase a x X.env (eval a X.env)=eval a X.env:=by rfl):PE X (.Attribute a x pos) (tV G X C (.fld a' c f)):=sV_fld hc hn hna ha hb
theorem xcell(ha:PE X a (tO G X C a')):PE X a (tV G X C (.cell a')):=sV_cell ha
theorem yputL(he:PE X e (tV G X C e'))(ha:PE X a (tV G X C a'))(hj:PE X j (tV G X C j'))(hs:swapsWithSole [.Subscript a j p2] e pos.line X.env=pure false:=by rfl)(hw:swappedStores [.Subscript a j p2] e X.env=pure none:=by rfl)(h1:(assignEach [.Subscript a j p2] X.env).map (·.2)=[assign (.Subscript a j p2) X.env]:=by rfl)
  (hag:∀v,assign (.Subscript a j p2) X.env v=(do
   let ov ←holding [v] (eval a X.env)
   let iv ←holding [v,ov] (eval j X.env)
   standAt p2
   holding [v,ov,iv] (setItem ov iv v)
   release [v,ov,iv] []):=by intro _;rfl):PS X (.Assign [.Subscript a j p2] e pos) (tS G X C (.putL a' j' e')):=sS_putL he ha hj hs hw h1 hag
theorem yappL(ha:PE X a (tV G X C a'))(he:PE X e (tV G X C e'))(hst:starEach [e] X.env=[(false,eval e X.env)]:=by rfl)(hline:(p2.endLine==cpos.line)=true:=by rfl)(hbase:attributeBase a "append" X.env (eval a X.env)=eval a X.env:=by rfl)
  (hfew:((backTo cpos (starEach [e] X.env)).all (fun x=>!x.1)&&(backToKw cpos (keywordEach [] X.env)).all (fun x=>x.1.isSome)&&decide ([e].length+([]:List Keyword).length+(if([]:List Keyword).isEmpty then 0 else 1)<30))=true:=by rfl)
  (hs:swapsWith (.Call (.Attribute a "append" p2) [e] [] cpos) none pos.line X.env=pure false:=by rfl):PS X (.Expr (.Call (.Attribute a "append" p2) [e] [] cpos) pos) (tS G X C (.appL a' e')):=sS_appL ha he hst hline hbase hfew hs
theorem ysetF(hcl:Cls X.K (G.iA c))(hna:NoAttr X.K (G.iA c) x)(ha:PE X o (tV G X C a'))(he:PE X e (tV G X C e'))(hn:(G.nm c)[f]?=some x:=by rfl)(hnd:(G.nm c).Nodup:=by decide)(hlen:(G.nm c).length≤100:=by decide)(hs:swapsWith e (some (.Attribute o x pos')) pos.line X.env=pure false:=by rfl):
  PS X (.Assign [.Attribute o x pos'] e pos) (tS G X C (.setF a' c f e')):=sS_setF hcl hn hnd hlen hna ha he hs
theorem yraise{ms:Str}{jj:Nat}(hm:X.mg x=some (.ref (G.cA c)))(hq:PySem.W.excIn X.K (G.cA c) [.type "ValueError",.type "Exception",.type "BaseException",.type "object"] "ValueError.__new__"=true)(hc:X.calm=true:=by rfl)(hg:Gl X x:=by rfl)(hdb:(x==("__debug__":Str))=false:=by decide)
  (he:starEach [.Constant (.str ms) jj mp] X.env=[(false,eval (.Constant (.str ms) jj mp) X.env)]:=by rfl):PS X (.Raise (some (.Call (.Name x np) [.Constant (.str ms) jj mp] [] cpos)) none pos) (tS G X C (.raise c)):=sS_raise hc hg hm hq PySem.F.excBase_ValueError hdb he
theorem ywhl{cc:Expr}{c':IP.E}{bb:List Stmt}{b':List S}(hp:PassesOwn (model X.prog X.w) X.A X.env X.xe)(hc:PT X cc (tT G X C c'))(hb:PSs X bb (tSs G X C b'))(hwl:C.wl=whileL:=by rfl):PS X (.While cc bb [] pos) (tS G X C (.whl c' b')):=sS_whl hwl hp hc hb
theorem yfor{tg iter:Expr}{it':IP.E}{g:Tg}{bb:List Stmt}{b':List S}(hp:PassesOwn (model X.prog X.w) X.A X.env X.xe)(hI:PI X tg iter (tI G X C it' .j true))(hg:PG X tg (gTg G g))(hb:PSs X bb (tSs G X C b'))(hc:X.calm=true:=by rfl)
  (hs:∀x,foldedSetIterable iter X.env x=pure x:=by intro _;rfl) (hit:∀i,it'≠.var i:=by intro _ h;cases h):PS X (.For tg iter bb [] pos) (tS G X C (.for_ g it' b')):=sS_for hp hc hI hg hb hs hit
theorem yforV{tg:Expr}{xp:Pos}{g:Tg}{bb:List Stmt}{b':List S}(hp:PassesOwn (model X.prog X.w) X.A X.env X.xe)(hg:PG X tg (gTg G g))(hb:PSs X bb (tSs G X C b'))(hc:X.calm=true:=by rfl)(hN:X.N[i]?=some x:=by rfl)(hv:Vis X.env.scope x:=by first|exact Or.inl rfl|exact Or.inr (Or.inl rfl))(hd:(x==("__debug__":Str))=false:=by decide)(hcd:(x==("__classdict__":Str))=false:=by decide)
  (hs:∀y,foldedSetIterable (.Name x xp) X.env y=pure y:=by intro _;rfl):PS X (.For tg (.Name x xp) bb [] pos) (tS G X C (.for_ g (.var i) b')):=sS_forV hp hc hN hv hd hcd hg hb hs
theorem xglb{i:Int}{t:Tok}(hm:X.mg x=some (.int i t))(hg:Gl X x:=by rfl)(hd:(x==("__debug__":Str))=false:=by decide):PE X (.Name x pos) (tV G X C (.glb x i)):=sV_glb hg hm hd
end
section
variable{G:Gx}{X:Cx}{C:Cf}
@[irreducible] def HE (X:Cx) (e:Expr) (t:TE):Prop:=PE X e t
theorem hcell{a:Expr}{a':IP.E}(ha:HE X a (tO G X C a')):HE X a (tV G X C (.cell a')):=by
 unfold HE at *
 exact sV_cell ha
end
end IP
end
section
set_option Elab.async false
set_option linter.all false
set_option maxRecDepth 100000
set_option maxHeartbeats 0
namespace IP
open PySem PySem.Spec L2
namespace Pg
def top(i:Nat):Stmt:=PySem.Challenge.pw_gradecut_k42_whole_crossings.main.body.getD i (.Pass ⟨0,0,0,0⟩)
abbrev sz45:Stmt:=top 11
abbrev iz45:Nat:=0
def nmz45:List Str:=["spot","size"]
theorem ndz45:(nmz45).Nodup:=by decide +kernel
def bz45:List S:=[(.exp (.call 1 [(.var 1)] [])),
 (.ifs (.cmp .lt (.var 1) (.cst (.int 0))) [(.ret (.call 2 [(.var 0),(.sub (.var 0) (.cst (.int 4))),(.sub (.var 0) (.cst (.int 5))),(.neg (.var 1))] []))] []),
 (.ret (.call 2 [(.var 0),(.sub (.var 0) (.cst (.int 2))),(.sub (.var 0) (.cst (.int 3))),(.var 1)] []))]
abbrev Fz45:Fn:=⟨2,2,false,bz45⟩
theorem scz45:FnScope nmz45 ["spot","size"] (zaab sz45):=⟨rfl,rfl,rfl,ndz45,rfl,by decide +kernel,by decide +kernel⟩
abbrev sz39:Stmt:=top 12
abbrev iz39:Nat:=1
def nmz39:List Str:=["size"]
theorem ndz39:(nmz39).Nodup:=by decide +kernel
def bz39:List S:=[(.ifs (.or (.cmp .lt (.var 0) (.glb "LEAST" (-6))) (.cmp .gt (.var 0) (.glb "MOST" (6)))) [(.raise 1)] [])]
abbrev Fz39:Fn:=⟨1,1,false,bz39⟩
theorem scz39:FnScope nmz39 ["size"] (zaab sz39):=⟨rfl,rfl,rfl,ndz39,rfl,by decide +kernel,by decide +kernel⟩
abbrev sz44:Stmt:=top 13
abbrev iz44:Nat:=2
def nmz44:List Str:=["spot","across","up","steps"]
theorem ndz44:(nmz44).Nodup:=by decide +kernel
def bz44:List S:=[(.ret (.tup [(.bin .add (.sub (.var 0) (.cst (.int 0))) (.bin .mul (.var 3) (.var 1))),(.bin .add (.sub (.var 0) (.cst (.int 1))) (.bin .mul (.var 3) (.var 2)))]))]
abbrev Fz44:Fn:=⟨4,4,false,bz44⟩
theorem scz44:FnScope nmz44 ["spot","across","up","steps"] (zaab sz44):=⟨rfl,rfl,rfl,ndz44,rfl,by decide +kernel,by decide +kernel⟩
abbrev sz3:Stmt:=L2.inClass (top 21) 0
abbrev iz3:Nat:=3
def nmz3:List Str:=["self"]
theorem ndz3:(nmz3).Nodup:=by decide +kernel
def bz3:List S:=[(.setF (.var 0) 0 0 (.cst (.int 0))),
 (.setF (.var 0) 0 1 (.cell (.lst []))),
 (.setF (.var 0) 0 2 (.cell (.lst []))),
 (.setF (.var 0) 0 3 (.cell (.lst [])))]
abbrev Fz3:Fn:=⟨1,1,false,bz3⟩
theorem scz3:FnScope nmz3 ["self"] (zaab sz3):=⟨rfl,rfl,rfl,ndz3,rfl,by decide +kernel,by decide +kernel⟩
abbrev sz4:Stmt:=L2.inClass (top 21) 1
abbrev iz4:Nat:=4
def nmz4:List Str:=["self","corners","marks","by_side","?4","?5"]
theorem ndz4:(nmz4).Nodup:=by decide +kernel
def nmz4_c0:List Str:=["self","corners","marks","by_side","corner","!5"]
theorem ndz4_c0:(nmz4_c0).Nodup:=by decide +kernel
def nmz4_c1:List Str:=["self","corners","marks","by_side","!4","spots"]
theorem ndz4_c1:(nmz4_c1).Nodup:=by decide +kernel
abbrev ez4_C0:E:=(.lst [])
abbrev ez4_C1:E:=(.b1 .list (.var 5))
def bz4:List S:=[(.ifs (.cmp .ge (.b1 .len (.fld (.var 0) 0 1)) (.glb "MOST_PIECES" (10))) [(.raise 5)] []),
 (.asg 3 (.ife (.cmp .isN (.var 2) (.cst .non)) (.comp ez4_C0 (.one 4) (.var 1)) (.comp ez4_C1 (.one 5) (.var 2)))),
 (.exp (.call 15 [(.var 1),(.var 3)] [])),
 (.appL (.fld (.var 0) 0 1) (.cell (.b1 .list (.var 1)))),
 (.appL (.fld (.var 0) 0 2) (.var 3)),
 (.ret (.bin .sub (.b1 .len (.fld (.var 0) 0 1)) (.cst (.int 1))))]
abbrev Fz4:Fn:=⟨3,6,false,bz4⟩
theorem scz4:FnScope nmz4 ["self","corners","marks"] (zaab sz4):=⟨rfl,rfl,rfl,ndz4,rfl,by decide +kernel,by decide +kernel⟩
abbrev sz12:Stmt:=L2.inClass (top 21) 4
abbrev iz12:Nat:=5
def nmz12:List Str:=["self","piece","corner","greater","lesser","spots","moves"]
theorem ndz12:(nmz12).Nodup:=by decide +kernel
def bz12:List S:=[(.exp (.call 14 [(.var 1),(.fld (.var 0) 0 1)] [])),
 (.asg 5 (.sub (.fld (.var 0) 0 1) (.var 1))),
 (.exp (.call 14 [(.var 2),(.var 5)] [])),
 (.asg 6 (.tup [(.sub (.var 3) (.cst (.int 0))),(.sub (.var 3) (.cst (.int 1))),(.sub (.var 4) (.cst (.int 0))),(.sub (.var 4) (.cst (.int 1)))])),
 (.ifs (.not (.call 17 [(.var 6),(.glb "LONGEST_MOVE" (200))] [])) [(.raise 3)] []),
 (.putL (.var 5) (.var 2) (.bin .add (.cutU (.sub (.var 5) (.var 2)) (.cst (.int 2))) (.var 6)))]
abbrev Fz12:Fn:=⟨5,7,false,bz12⟩
theorem scz12:FnScope nmz12 ["self","piece","corner","greater","lesser"] (zaab sz12):=⟨rfl,rfl,rfl,ndz12,rfl,by decide +kernel,by decide +kernel⟩
abbrev sz7:Stmt:=L2.inClass (top 21) 5
abbrev iz7:Nat:=6
def nmz7:List Str:=["self","steps"]
theorem ndz7:(nmz7).Nodup:=by decide +kernel
def bz7:List S:=[(.ret (.meth (.var 0) 0 7 [(.var 1),(.var 1)] []))]
abbrev Fz7:Fn:=⟨2,2,false,bz7⟩
theorem scz7:FnScope nmz7 ["self","steps"] (zaab sz7):=⟨rfl,rfl,rfl,ndz7,rfl,by decide +kernel,by decide +kernel⟩
abbrev sz5:Stmt:=L2.inClass (top 21) 7
abbrev iz5:Nat:=7
def nmz5:List Str:=["self","steps","change"]
theorem ndz5:(nmz5).Nodup:=by decide +kernel
def bz5:List S:=[(.ifs (.cmp .lt (.var 1) (.cst (.int 0))) [(.raise 1)] []),
 (.exp (.call 1 [(.bin .add (.fld (.var 0) 0 0) (.var 2))] [])),
 (.setF (.var 0) 0 0 (.bin .add (.fld (.var 0) 0 0) (.var 2))),
 (.ret (.fld (.var 0) 0 0))]
abbrev Fz5:Fn:=⟨3,3,false,bz5⟩
theorem scz5:FnScope nmz5 ["self","steps","change"] (zaab sz5):=⟨rfl,rfl,rfl,ndz5,rfl,by decide +kernel,by decide +kernel⟩
abbrev sz10:Stmt:=L2.inClass (top 21) 8
abbrev iz10:Nat:=8
def nmz10:List Str:=["self"]
theorem ndz10:(nmz10).Nodup:=by decide +kernel
def bz10:List S:=[(.ret (.b1 .len (.fld (.var 0) 0 1)))]
abbrev Fz10:Fn:=⟨1,1,false,bz10⟩
theorem scz10:FnScope nmz10 ["self"] (zaab sz10):=⟨rfl,rfl,rfl,ndz10,rfl,by decide +kernel,by decide +kernel⟩
abbrev sz13:Stmt:=L2.inClass (top 21) 10
abbrev iz13:Nat:=9
def nmz13:List Str:=["self","piece"]
theorem ndz13:(nmz13).Nodup:=by decide +kernel
def bz13:List S:=[(.exp (.call 14 [(.var 1),(.fld (.var 0) 0 1)] [])),
 (.ret (.b1 .list (.sub (.fld (.var 0) 0 1) (.var 1))))]
abbrev Fz13:Fn:=⟨2,2,false,bz13⟩
theorem scz13:FnScope nmz13 ["self","piece"] (zaab sz13):=⟨rfl,rfl,rfl,ndz13,rfl,by decide +kernel,by decide +kernel⟩
abbrev sz8:Stmt:=L2.inClass (top 21) 11
abbrev iz8:Nat:=10
def nmz8:List Str:=["self","piece","side"]
theorem ndz8:(nmz8).Nodup:=by decide +kernel
def bz8:List S:=[(.exp (.call 14 [(.var 1),(.fld (.var 0) 0 2)] [])),
 (.exp (.call 14 [(.var 2),(.sub (.fld (.var 0) 0 2) (.var 1))] [])),
 (.ret (.b1 .list (.sub (.sub (.fld (.var 0) 0 2) (.var 1)) (.var 2))))]
abbrev Fz8:Fn:=⟨3,3,false,bz8⟩
theorem scz8:FnScope nmz8 ["self","piece","side"] (zaab sz8):=⟨rfl,rfl,rfl,ndz8,rfl,by decide +kernel,by decide +kernel⟩
abbrev sz6:Stmt:=L2.inClass (top 21) 13
abbrev iz6:Nat:=11
def nmz6:List Str:=["self","piece","size"]
theorem ndz6:(nmz6).Nodup:=by decide +kernel
def bz6:List S:=[(.ret (.meth (.var 0) 0 13 [(.meth (.var 0) 0 9 [(.var 1)] []),(.var 2)] []))]
abbrev Fz6:Fn:=⟨3,3,false,bz6⟩
theorem scz6:FnScope nmz6 ["self","piece","size"] (zaab sz6):=⟨rfl,rfl,rfl,ndz6,rfl,by decide +kernel,by decide +kernel⟩
abbrev sz9:Stmt:=L2.inClass (top 21) 14
abbrev iz9:Nat:=12
def nmz9:List Str:=["self","piece","side","size"]
theorem ndz9:(nmz9).Nodup:=by decide +kernel
def bz9:List S:=[(.ret (.meth (.var 0) 0 13 [(.meth (.var 0) 0 10 [(.var 1),(.var 2)] []),(.var 3)] []))]
abbrev Fz9:Fn:=⟨4,4,false,bz9⟩
theorem scz9:FnScope nmz9 ["self","piece","side","size"] (zaab sz9):=⟨rfl,rfl,rfl,ndz9,rfl,by decide +kernel,by decide +kernel⟩
abbrev sz11:Stmt:=L2.inClass (top 21) 15
abbrev iz11:Nat:=13
def nmz11:List Str:=["self","spots","size","meant","?4"]
theorem ndz11:(nmz11).Nodup:=by decide +kernel
def zahg:List Str:=["self","spots","size","meant","spot"]
theorem ndz11_c0:(zahg).Nodup:=by decide +kernel
abbrev zagm:E:=(.call 0 [(.var 4),(.var 3)] [])
def bz11:List S:=[(.asg 3 (.ife (.cmp .isN (.var 2) (.cst .non)) (.fld (.var 0) 0 0) (.var 2))),
 (.exp (.call 1 [(.var 3)] [])),
 (.ret (.comp zagm (.one 4) (.var 1)))]
abbrev Fz11:Fn:=⟨3,5,false,bz11⟩
theorem scz11:FnScope nmz11 ["self","spots","size"] (zaab sz11):=⟨rfl,rfl,rfl,ndz11,rfl,by decide +kernel,by decide +kernel⟩
abbrev sz40:Stmt:=top 22
abbrev iz40:Nat:=14
def nmz40:List Str:=["number","those"]
theorem ndz40:(nmz40).Nodup:=by decide +kernel
def bz40:List S:=[(.ifs (.or (.cmp .lt (.var 0) (.cst (.int 0))) (.cmp .ge (.var 0) (.b1 .len (.var 1)))) [(.raise 4)] [])]
abbrev Fz40:Fn:=⟨2,2,false,bz40⟩
theorem scz40:FnScope nmz40 ["number","those"] (zaab sz40):=⟨rfl,rfl,rfl,ndz40,rfl,by decide +kernel,by decide +kernel⟩
abbrev sz38:Stmt:=top 23
abbrev iz38:Nat:=15
def nmz38:List Str:=["corners","by_side","?2","?3"]
theorem ndz38:(nmz38).Nodup:=by decide +kernel
def zahp:List Str:=["corners","by_side","spots","!3"]
theorem ndz38_c0:(zahp).Nodup:=by decide +kernel
def zags:List Str:=["corners","by_side","!2","spots"]
theorem ndz38_c1:(zags).Nodup:=by decide +kernel
abbrev zag0:E:=(.cmp .gt (.b1 .len (.var 2)) (.glb "MOST_MARKS" (4)))
abbrev zahy:E:=(.call 16 [(.var 3)] [])
def bz38:List S:=[(.ifs (.or (.cmp .lt (.b1 .len (.var 0)) (.glb "LEAST_CORNERS" (3))) (.cmp .gt (.b1 .len (.var 0)) (.glb "MOST_CORNERS" (24)))) [(.raise 2)] []),
 (.ifs (.cmp .ne (.b1 .len (.var 1)) (.b1 .len (.var 0))) [(.raise 2)] []),
 (.ifs (.b1 .any (.comp zag0 (.one 2) (.var 1))) [(.raise 2)] []),
 (.ifs (.not (.b1 .all (.comp zahy (.one 3) (.bin .add (.lst [(.var 0)]) (.var 1))))) [(.raise 2)] [])]
abbrev Fz38:Fn:=⟨2,4,false,bz38⟩
theorem scz38:FnScope nmz38 ["corners","by_side"] (zaab sz38):=⟨rfl,rfl,rfl,ndz38,rfl,by decide +kernel,by decide +kernel⟩
abbrev sz51:Stmt:=top 24
abbrev iz51:Nat:=16
def nmz51:List Str:=["spots","?1"]
theorem ndz51:(nmz51).Nodup:=by decide +kernel
def zagk:List Str:=["spots","spot"]
theorem ndz51_c0:(zagk).Nodup:=by decide +kernel
abbrev zagn:E:=(.and (.call 17 [(.cutU (.var 1) (.cst (.int 2))),(.glb "FARTHEST" (20000))] []) (.call 17 [(.cutL (.var 1) (.cst (.int 2))),(.glb "LONGEST_MOVE" (200))] []))
def bz51:List S:=[(.ret (.b1 .all (.comp zagn (.one 1) (.var 0))))]
abbrev Fz51:Fn:=⟨1,2,false,bz51⟩
theorem scz51:FnScope nmz51 ["spots"] (zaab sz51):=⟨rfl,rfl,rfl,ndz51,rfl,by decide +kernel,by decide +kernel⟩
abbrev sz36:Stmt:=top 25
abbrev iz36:Nat:=17
def nmz36:List Str:=["numbers","bound","?2"]
theorem ndz36:(nmz36).Nodup:=by decide +kernel
def zagv:List Str:=["numbers","bound","number"]
theorem ndz36_c0:(zagv).Nodup:=by decide +kernel
abbrev zaf6:E:=(.cmp .le (.b1 .abs (.var 2)) (.var 1))
def bz36:List S:=[(.ret (.b1 .all (.comp zaf6 (.one 2) (.var 0))))]
abbrev Fz36:Fn:=⟨2,3,false,bz36⟩
theorem scz36:FnScope nmz36 ["numbers","bound"] (zaab sz36):=⟨rfl,rfl,rfl,ndz36,rfl,by decide +kernel,by decide +kernel⟩
abbrev sz41:Stmt:=top 27
abbrev iz41:Nat:=18
def nmz41:List Str:=["corners","i","j"]
theorem ndz41:(nmz41).Nodup:=by decide +kernel
abbrev bz41_L0:List S:=[(.ifs (.call 19 [(.var 0),(.var 1),(.var 2)] []) [(.ret (.tup [(.var 1),(.var 2)]))] [])]
abbrev bz41_L1:List S:=[(.for_ (.one 2) (.rng2 (.var 1) (.b1 .len (.var 0))) bz41_L0)]
def bz41:List S:=[(.for_ (.one 1) (.rng1 (.b1 .len (.var 0))) bz41_L1),
 (.ret (.cst .non))]
abbrev Fz41:Fn:=⟨1,3,false,bz41⟩
theorem scz41:FnScope nmz41 ["corners"] (zaab sz41):=⟨rfl,rfl,rfl,ndz41,rfl,by decide +kernel,by decide +kernel⟩
abbrev sz49:Stmt:=top 28
abbrev iz49:Nat:=19
def nmz49:List Str:=["corners","i","j","one","two"]
theorem ndz49:(nmz49).Nodup:=by decide +kernel
def bz49:List S:=[(.asg 3 (.call 20 [(.var 0),(.var 1)] [])),
 (.asg 4 (.call 20 [(.var 0),(.var 2)] [])),
 (.ifs (.cmp .eq (.var 1) (.var 2)) [(.ret (.cmp .eq (.sub (.var 3) (.cst (.int 0))) (.sub (.var 3) (.cst (.int 1)))))] []),
 (.ifs (.cmp .eq (.var 2) (.bin .add (.var 1) (.cst (.int 1)))) [(.ret (.call 21 [(.sub (.var 3) (.cst (.int 1))),(.sub (.var 3) (.cst (.int 0))),(.sub (.var 4) (.cst (.int 1)))] []))] []),
 (.ifs (.and (.cmp .eq (.bin .add (.var 2) (.cst (.int 1))) (.b1 .len (.var 0))) (.cmp .eq (.var 1) (.cst (.int 0)))) [(.ret (.call 21 [(.sub (.var 3) (.cst (.int 0))),(.sub (.var 3) (.cst (.int 1))),(.sub (.var 4) (.cst (.int 0)))] []))] []),
 (.ret (.call 22 [(.var 3),(.var 4)] []))]
abbrev Fz49:Fn:=⟨3,5,false,bz49⟩
theorem scz49:FnScope nmz49 ["corners","i","j"] (zaab sz49):=⟨rfl,rfl,rfl,ndz49,rfl,by decide +kernel,by decide +kernel⟩
abbrev sz48:Stmt:=top 29
abbrev iz48:Nat:=20
def nmz48:List Str:=["corners","k"]
theorem ndz48:(nmz48).Nodup:=by decide +kernel
def bz48:List S:=[(.ret (.tup [(.sub (.var 0) (.var 1)),(.sub (.var 0) (.bin .mod (.bin .add (.var 1) (.cst (.int 1))) (.b1 .len (.var 0))))]))]
abbrev Fz48:Fn:=⟨2,2,false,bz48⟩
theorem scz48:FnScope nmz48 ["corners","k"] (zaab sz48):=⟨rfl,rfl,rfl,ndz48,rfl,by decide +kernel,by decide +kernel⟩
abbrev sz47:Stmt:=top 30
abbrev iz47:Nat:=21
def nmz47:List Str:=["corner","one","two"]
theorem ndz47:(nmz47).Nodup:=by decide +kernel
def bz47:List S:=[(.ret (.and (.cmp .eq (.call 25 [(.var 0),(.var 1),(.var 2)] []) (.cst (.int 0))) (.cmp .gt (.call 26 [(.var 0),(.var 1),(.var 2)] []) (.cst (.int 0)))))]
abbrev Fz47:Fn:=⟨3,3,false,bz47⟩
theorem scz47:FnScope nmz47 ["corner","one","two"] (zaab sz47):=⟨rfl,rfl,rfl,ndz47,rfl,by decide +kernel,by decide +kernel⟩
abbrev sz43:Stmt:=top 31
abbrev iz43:Nat:=22
def nmz43:List Str:=["one","two"]
theorem ndz43:(nmz43).Nodup:=by decide +kernel
def bz43:List S:=[(.ifs (.or (.not (.call 23 [(.var 0),(.var 1),(.cst (.int 0))] [])) (.not (.call 23 [(.var 0),(.var 1),(.cst (.int 1))] []))) [(.ret (.cst (.bl false)))] []),
 (.ret (.and (.call 24 [(.var 0),(.var 1)] []) (.call 24 [(.var 1),(.var 0)] [])))]
abbrev Fz43:Fn:=⟨2,2,false,bz43⟩
theorem scz43:FnScope nmz43 ["one","two"] (zaab sz43):=⟨rfl,rfl,rfl,ndz43,rfl,by decide +kernel,by decide +kernel⟩
abbrev sz50:Stmt:=top 32
abbrev iz50:Nat:=23
def nmz50:List Str:=["one","two","axis","one_span","two_span"]
theorem ndz50:(nmz50).Nodup:=by decide +kernel
def bz50:List S:=[(.asg 3 (.b1 .sorted (.lst [(.sub (.sub (.var 0) (.cst (.int 0))) (.var 2)),(.sub (.sub (.var 0) (.cst (.int 1))) (.var 2))]))),
 (.asg 4 (.b1 .sorted (.lst [(.sub (.sub (.var 1) (.cst (.int 0))) (.var 2)),(.sub (.sub (.var 1) (.cst (.int 1))) (.var 2))]))),
 (.ret (.and (.cmp .le (.sub (.var 3) (.cst (.int 0))) (.sub (.var 4) (.cst (.int 1)))) (.cmp .le (.sub (.var 4) (.cst (.int 0))) (.sub (.var 3) (.cst (.int 1))))))]
abbrev Fz50:Fn:=⟨3,5,false,bz50⟩
theorem scz50:FnScope nmz50 ["one","two","axis"] (zaab sz50):=⟨rfl,rfl,rfl,ndz50,rfl,by decide +kernel,by decide +kernel⟩
abbrev sz46:Stmt:=top 33
abbrev iz46:Nat:=24
def nmz46:List Str:=["side","line"]
theorem ndz46:(nmz46).Nodup:=by decide +kernel
def bz46:List S:=[(.ret (.cmp .le (.bin .mul (.call 25 [(.sub (.var 1) (.cst (.int 0))),(.sub (.var 1) (.cst (.int 1))),(.sub (.var 0) (.cst (.int 0)))] []) (.call 25 [(.sub (.var 1) (.cst (.int 0))),(.sub (.var 1) (.cst (.int 1))),(.sub (.var 0) (.cst (.int 1)))] [])) (.cst (.int 0))))]
abbrev Fz46:Fn:=⟨2,2,false,bz46⟩
theorem scz46:FnScope nmz46 ["side","line"] (zaab sz46):=⟨rfl,rfl,rfl,ndz46,rfl,by decide +kernel,by decide +kernel⟩
abbrev sz52:Stmt:=top 34
abbrev iz52:Nat:=25
def nmz52:List Str:=["start","one","two"]
theorem ndz52:(nmz52).Nodup:=by decide +kernel
def bz52:List S:=[(.ret (.bin .sub (.bin .mul (.bin .sub (.sub (.var 1) (.cst (.int 0))) (.sub (.var 0) (.cst (.int 0)))) (.bin .sub (.sub (.var 2) (.cst (.int 1))) (.sub (.var 0) (.cst (.int 1))))) (.bin .mul (.bin .sub (.sub (.var 1) (.cst (.int 1))) (.sub (.var 0) (.cst (.int 1)))) (.bin .sub (.sub (.var 2) (.cst (.int 0))) (.sub (.var 0) (.cst (.int 0)))))))]
abbrev Fz52:Fn:=⟨3,3,false,bz52⟩
theorem scz52:FnScope nmz52 ["start","one","two"] (zaab sz52):=⟨rfl,rfl,rfl,ndz52,rfl,by decide +kernel,by decide +kernel⟩
abbrev sz37:Stmt:=top 35
abbrev iz37:Nat:=26
def nmz37:List Str:=["start","one","two"]
theorem ndz37:(nmz37).Nodup:=by decide +kernel
def bz37:List S:=[(.ret (.bin .add (.bin .mul (.bin .sub (.sub (.var 1) (.cst (.int 0))) (.sub (.var 0) (.cst (.int 0)))) (.bin .sub (.sub (.var 2) (.cst (.int 0))) (.sub (.var 0) (.cst (.int 0))))) (.bin .mul (.bin .sub (.sub (.var 1) (.cst (.int 1))) (.sub (.var 0) (.cst (.int 1)))) (.bin .sub (.sub (.var 2) (.cst (.int 1))) (.sub (.var 0) (.cst (.int 1)))))))]
abbrev Fz37:Fn:=⟨3,3,false,bz37⟩
theorem scz37:FnScope nmz37 ["start","one","two"] (zaab sz37):=⟨rfl,rfl,rfl,ndz37,rfl,by decide +kernel,by decide +kernel⟩
abbrev sz42:Stmt:=top 37
abbrev iz42:Nat:=27
def nmz42:List Str:=["book","size","piece","sides"]
theorem ndz42:(nmz42).Nodup:=by decide +kernel
abbrev bz42_L0:List S:=[(.asg 3 (.call 18 [(.meth (.var 0) 0 11 [(.var 2),(.var 1)] [])] [])),
 (.ifs (.cmp .notN (.var 3) (.cst .non)) [(.ret (.tup [(.var 1),(.var 2),(.sub (.var 3) (.cst (.int 0))),(.sub (.var 3) (.cst (.int 1)))]))] [])]
abbrev bz42_L1:List S:=[(.for_ (.one 2) (.rng1 (.meth (.var 0) 0 8 [] [])) bz42_L0)]
def bz42:List S:=[(.for_ (.one 1) (.rng2 (.glb "LEAST" (-6)) (.bin .add (.glb "MOST" (6)) (.cst (.int 1)))) bz42_L1),
 (.ret (.cst .non))]
abbrev Fz42:Fn:=⟨1,4,false,bz42⟩
theorem scz42:FnScope nmz42 ["book"] (zaab sz42):=⟨rfl,rfl,rfl,ndz42,rfl,by decide +kernel,by decide +kernel⟩
abbrev sz35:Stmt:=top 39
abbrev iz35:Nat:=28
def nmz35:List Str:=["_law_found"]
theorem ndz35:(nmz35).Nodup:=by decide +kernel
def bz35:List S:=[(.ret (.and (.isi (.var 0) .int) (.not (.isi (.var 0) .bool))))]
abbrev Fz35:Fn:=⟨1,1,false,bz35⟩
theorem scz35:FnScope nmz35 ["_law_found"] (zaab sz35):=⟨rfl,rfl,rfl,ndz35,rfl,by decide +kernel,by decide +kernel⟩
abbrev sz17:Stmt:=top 40
abbrev iz17:Nat:=29
def nmz17:List Str:=["_law_script","_law_k"]
theorem ndz17:(nmz17).Nodup:=by decide +kernel
def bz17:List S:=[(.ifs (.cmp .lt (.var 1) (.b1 .len (.var 0))) [(.ret (.sub (.var 0) (.var 1)))] []),
 (.ret (.cst (.int 0)))]
abbrev Fz17:Fn:=⟨2,2,false,bz17⟩
theorem scz17:FnScope nmz17 ["_law_script","_law_k"] (zaab sz17):=⟨rfl,rfl,rfl,ndz17,rfl,by decide +kernel,by decide +kernel⟩
abbrev sz30:Stmt:=top 41
abbrev iz30:Nat:=30
def nmz30:List Str:=["_law_script","_law_many","_law_state","_law_row","_law_k"]
theorem ndz30:(nmz30).Nodup:=by decide +kernel
abbrev bz30_L0:List S:=[(.asg 2 (.bin .mod (.bin .add (.bin .add (.bin .mul (.var 2) (.cst (.int 48271))) (.call 29 [(.var 0),(.var 4)] [])) (.cst (.int 11))) (.cst (.int 2147483647)))),
 (.app 3 (.var 2))]
def bz30:List S:=[(.asg 2 (.cst (.int 7))),
 (.mk 3 (.lst [])),
 (.for_ (.one 4) (.rng1 (.var 1)) bz30_L0),
 (.frz 3),
 (.ret (.var 3))]
abbrev Fz30:Fn:=⟨2,5,false,bz30⟩
theorem scz30:FnScope nmz30 ["_law_script","_law_many"] (zaab sz30):=⟨rfl,rfl,rfl,ndz30,rfl,by decide +kernel,by decide +kernel⟩
abbrev sz21:Stmt:=top 42
abbrev iz21:Nat:=31
def nmz21:List Str:=["_law_one","_law_two","_law_big","_law_less","_law_rest"]
theorem ndz21:(nmz21).Nodup:=by decide +kernel
abbrev bz21_L0:List S:=[(.asg 4 (.bin .mod (.var 2) (.var 3))),
 (.asg 2 (.var 3)),
 (.asg 3 (.var 4))]
def bz21:List S:=[(.asg 2 (.b1 .abs (.var 0))),
 (.asg 3 (.b1 .abs (.var 1))),
 (.whl (.cmp .gt (.var 3) (.cst (.int 0))) bz21_L0),
 (.ret (.var 2))]
abbrev Fz21:Fn:=⟨2,5,false,bz21⟩
theorem scz21:FnScope nmz21 ["_law_one","_law_two"] (zaab sz21):=⟨rfl,rfl,rfl,ndz21,rfl,by decide +kernel,by decide +kernel⟩
abbrev sz23:Stmt:=top 43
abbrev iz23:Nat:=32
def nmz23:List Str:=["_law_found","_law_due_here","_law_k"]
theorem ndz23:(nmz23).Nodup:=by decide +kernel
abbrev bz23_L0:List S:=[(.ifs (.or (.not (.call 28 [(.sub (.var 0) (.var 2))] [])) (.cmp .ne (.sub (.var 0) (.var 2)) (.sub (.var 1) (.var 2)))) [(.ret (.cst (.bl false)))] [])]
def bz23:List S:=[(.ifs (.or (.not (.isi (.var 0) .tuple)) (.cmp .ne (.b1 .len (.var 0)) (.b1 .len (.var 1)))) [(.ret (.cst (.bl false)))] []),
 (.for_ (.one 2) (.rng1 (.b1 .len (.var 1))) bz23_L0),
 (.ret (.cst (.bl true)))]
abbrev Fz23:Fn:=⟨2,3,false,bz23⟩
theorem scz23:FnScope nmz23 ["_law_found","_law_due_here"] (zaab sz23):=⟨rfl,rfl,rfl,ndz23,rfl,by decide +kernel,by decide +kernel⟩
abbrev sz29:Stmt:=top 44
abbrev iz29:Nat:=33
def nmz29:List Str:=["_law_seed","_law_many","_law_far","_law_step","_law_told_here","_law_state","_law_k","_law_spot","_law_most"]
theorem ndz29:(nmz29).Nodup:=by decide +kernel
abbrev zag2:List S:=[(.asg 5 (.bin .mod (.bin .add (.bin .mul (.var 5) (.cst (.int 48271))) (.cst (.int 11))) (.cst (.int 2147483647)))),
 (.app 7 (.bin .sub (.bin .mod (.var 5) (.bin .add (.bin .mul (.cst (.int 2)) (.var 8)) (.cst (.int 1)))) (.var 8)))]
abbrev bz29_L1:List S:=[(.mk 7 (.lst [])),
 (.for_ (.one 8) (.lst [(.var 2),(.var 2),(.var 3),(.var 3),(.var 3),(.var 3)]) zag2),
 (.app 4 (.b1 .tuple (.var 7)))]
def bz29:List S:=[(.mk 4 (.lst [])),
 (.asg 5 (.bin .mod (.var 0) (.cst (.int 2147483647)))),
 (.for_ (.one 6) (.rng1 (.var 1)) bz29_L1),
 (.frz 4),
 (.ret (.var 4))]
abbrev Fz29:Fn:=⟨4,9,false,bz29⟩
theorem scz29:FnScope nmz29 ["_law_seed","_law_many","_law_far","_law_step"] (zaab sz29):=⟨rfl,rfl,rfl,ndz29,rfl,by decide +kernel,by decide +kernel⟩
abbrev sz31:Stmt:=top 45
abbrev iz31:Nat:=34
def nmz31:List Str:=["_law_row","_law_at_here","_law_many","_law_far","_law_k"]
theorem ndz31:(nmz31).Nodup:=by decide +kernel
abbrev bz31_L0:List S:=[(.app 3 (.bin .add (.bin .add (.sub (.var 3) (.neg (.cst (.int 1)))) (.cst (.int 1))) (.bin .mod (.sub (.var 0) (.bin .add (.var 1) (.var 4))) (.cst (.int 4)))))]
def bz31:List S:=[(.mk 3 (.lst [(.cst (.int 0))])),
 (.for_ (.one 4) (.rng1 (.bin .sub (.var 2) (.cst (.int 1)))) bz31_L0),
 (.frz 3),
 (.ret (.var 3))]
abbrev Fz31:Fn:=⟨3,5,false,bz31⟩
theorem scz31:FnScope nmz31 ["_law_row","_law_at_here","_law_many"] (zaab sz31):=⟨rfl,rfl,rfl,ndz31,rfl,by decide +kernel,by decide +kernel⟩
abbrev sz27:Stmt:=top 46
abbrev iz27:Nat:=35
def nmz27:List Str:=["_law_row","_law_many","_law_low","_law_high","_law_tall","_law_bottom","_law_top","_law_line","_law_k"]
theorem ndz27:(nmz27).Nodup:=by decide +kernel
abbrev bz27_L0:List S:=[(.app 7 (.tup [(.bin .mul (.sub (.var 5) (.var 8)) (.mx2 (.cst (.int 1)) (.sub (.var 6) (.neg (.cst (.int 1)))))),(.bin .sub (.neg (.cst (.int 1))) (.bin .mod (.sub (.var 0) (.bin .add (.cst (.int 26)) (.var 8))) (.var 4)))]))]
abbrev bz27_L1:List S:=[(.app 7 (.tup [(.bin .mul (.sub (.var 6) (.bin .sub (.bin .sub (.var 3) (.cst (.int 1))) (.var 8))) (.sub (.var 5) (.neg (.cst (.int 1))))),(.bin .add (.cst (.int 1)) (.bin .mod (.sub (.var 0) (.bin .add (.bin .add (.cst (.int 26)) (.var 2)) (.var 8))) (.var 4)))]))]
def bz27:List S:=[(.asg 2 (.cst (.int 2))),
 (.ifs (.cmp .gt (.var 1) (.cst (.int 3))) [(.asg 2 (.bin .add (.cst (.int 2)) (.bin .mod (.sub (.var 0) (.cst (.int 0))) (.bin .sub (.var 1) (.cst (.int 3))))))] []),
 (.asg 3 (.bin .sub (.var 1) (.var 2))),
 (.asg 4 (.sub (.lst [(.cst (.int 1)),(.cst (.int 3)),(.cst (.int 50)),(.cst (.int 900))]) (.bin .mod (.sub (.var 0) (.cst (.int 1))) (.cst (.int 4))))),
 (.asg 5 (.call 34 [(.var 0),(.cst (.int 2)),(.var 2)] [])),
 (.asg 6 (.call 34 [(.var 0),(.bin .add (.cst (.int 2)) (.var 2)),(.var 3)] [])),
 (.mk 7 (.lst [])),
 (.for_ (.one 8) (.rng1 (.var 2)) bz27_L0),
 (.for_ (.one 8) (.rng1 (.var 3)) bz27_L1),
 (.frz 7),
 (.ret (.var 7))]
abbrev Fz27:Fn:=⟨2,9,false,bz27⟩
theorem scz27:FnScope nmz27 ["_law_row","_law_many"] (zaab sz27):=⟨rfl,rfl,rfl,ndz27,rfl,by decide +kernel,by decide +kernel⟩
abbrev sz32:Stmt:=top 47
abbrev iz32:Nat:=36
def nmz32:List Str:=["_law_line","_law_cell","_law_lean","_law_told_here","_law_by","?5","?6","?7","?8"]
theorem ndz32:(nmz32).Nodup:=by decide +kernel
def zaeh:List Str:=["_law_line","_law_cell","_law_lean","_law_told_here","_law_by","_law_x","_law_y","!7","!8"]
theorem zada:(zaeh).Nodup:=by decide +kernel
def zaei:List Str:=["_law_line","_law_cell","_law_lean","_law_told_here","_law_by","!5","!6","_law_x","_law_y"]
theorem zac9:(zaei).Nodup:=by decide +kernel
abbrev zah5:E:=(.tup [(.bin .add (.var 5) (.bin .mul (.var 2) (.var 6))),(.var 6)])
abbrev zahq:E:=(.tup [(.bin .sub (.cst (.int 0)) (.var 8)),(.var 7)])
def bz32:List S:=[(.asg 2 (.bin .sub (.bin .mod (.var 1) (.cst (.int 5))) (.cst (.int 2)))),
 (.asg 3 (.comp zah5 (.many [5,6]) (.var 0))),
 (.ifs (.cmp .eq (.bin .mod (.bin .fdiv (.var 1) (.cst (.int 5))) (.cst (.int 2))) (.cst (.int 1))) [(.asg 3 (.comp zahq (.many [7,8]) (.var 3)))] []),
 (.ifs (.cmp .eq (.bin .mod (.bin .fdiv (.var 1) (.cst (.int 10))) (.cst (.int 2))) (.cst (.int 1))) [(.asg 3 (.rev (.var 3)))] []),
 (.asg 4 (.bin .mod (.bin .fdiv (.var 1) (.cst (.int 20))) (.b1 .len (.var 3)))),
 (.retO (.bin .add (.cutL (.var 3) (.var 4)) (.cutU (.var 3) (.var 4))))]
abbrev Fz32:Fn:=⟨2,9,true,bz32⟩
theorem scz32:FnScope nmz32 ["_law_line","_law_cell"] (zaab sz32):=⟨rfl,rfl,rfl,ndz32,rfl,by decide +kernel,by decide +kernel⟩
abbrev sz24:Stmt:=top 48
abbrev iz24:Nat:=37
def nmz24:List Str:=["_law_a","_law_b","_law_c","_law_d","_law_ways","_law_one","_law_two","_law_x","_law_y","_law_near","_law_far"]
theorem ndz24:(nmz24).Nodup:=by decide +kernel
abbrev bz24_L0:List S:=[(.app 4 (.tup [(.bin .sub (.sub (.var 6) (.cst (.int 0))) (.sub (.var 5) (.cst (.int 0)))),(.bin .sub (.sub (.var 6) (.cst (.int 1))) (.sub (.var 5) (.cst (.int 1))))])),
 (.app 4 (.tup [(.bin .sub (.sub (.var 5) (.cst (.int 1))) (.sub (.var 6) (.cst (.int 1)))),(.bin .sub (.sub (.var 6) (.cst (.int 0))) (.sub (.var 5) (.cst (.int 0))))]))]
abbrev bz24_L1:List S:=[(.asg 9 (.lst [(.bin .add (.bin .mul (.sub (.var 0) (.cst (.int 0))) (.var 7)) (.bin .mul (.sub (.var 0) (.cst (.int 1))) (.var 8))),(.bin .add (.bin .mul (.sub (.var 1) (.cst (.int 0))) (.var 7)) (.bin .mul (.sub (.var 1) (.cst (.int 1))) (.var 8)))])),
 (.asg 10 (.lst [(.bin .add (.bin .mul (.sub (.var 2) (.cst (.int 0))) (.var 7)) (.bin .mul (.sub (.var 2) (.cst (.int 1))) (.var 8))),(.bin .add (.bin .mul (.sub (.var 3) (.cst (.int 0))) (.var 7)) (.bin .mul (.sub (.var 3) (.cst (.int 1))) (.var 8)))])),
 (.ifs (.or (.cmp .lt (.b1 .max (.var 9)) (.b1 .min (.var 10))) (.cmp .lt (.b1 .max (.var 10)) (.b1 .min (.var 9)))) [(.ret (.cst (.bl true)))] [])]
def bz24:List S:=[(.mk 4 (.lst [(.tup [(.cst (.int 1)),(.cst (.int 0))]),(.tup [(.cst (.int 0)),(.cst (.int 1))])])),
 (.for_ (.many [5,6]) (.lst [(.tup [(.var 0),(.var 1)]),(.tup [(.var 2),(.var 3)])]) bz24_L0),
 (.for_ (.many [7,8]) (.var 4) bz24_L1),
 (.ret (.cst (.bl false)))]
abbrev Fz24:Fn:=⟨4,11,false,bz24⟩
theorem scz24:FnScope nmz24 ["_law_a","_law_b","_law_c","_law_d"] (zaab sz24):=⟨rfl,rfl,rfl,ndz24,rfl,by decide +kernel,by decide +kernel⟩
abbrev sz34:Stmt:=top 49
abbrev iz34:Nat:=38
def nmz34:List Str:=["_law_one","_law_two","_law_x","_law_y","_law_by"]
theorem ndz34:(nmz34).Nodup:=by decide +kernel
def bz34:List S:=[(.asg 2 (.bin .sub (.sub (.var 1) (.cst (.int 0))) (.sub (.var 0) (.cst (.int 0))))),
 (.asg 3 (.bin .sub (.sub (.var 1) (.cst (.int 1))) (.sub (.var 0) (.cst (.int 1))))),
 (.asg 4 (.mx2 (.cst (.int 1)) (.call 31 [(.var 2),(.var 3)] []))),
 (.ret (.tup [(.bin .fdiv (.var 2) (.var 4)),(.bin .fdiv (.var 3) (.var 4))]))]
abbrev Fz34:Fn:=⟨2,5,false,bz34⟩
theorem scz34:FnScope nmz34 ["_law_one","_law_two"] (zaab sz34):=⟨rfl,rfl,rfl,ndz34,rfl,by decide +kernel,by decide +kernel⟩
abbrev sz18:Stmt:=top 50
abbrev iz18:Nat:=39
def nmz18:List Str:=["_law_line","_law_i","_law_j","_law_many","_law_a","_law_b","_law_c","_law_d"]
theorem ndz18:(nmz18).Nodup:=by decide +kernel
def bz18:List S:=[(.asg 3 (.b1 .len (.var 0))),
 (.asg 4 (.sub (.var 0) (.var 1))),
 (.asg 5 (.sub (.var 0) (.bin .mod (.bin .add (.var 1) (.cst (.int 1))) (.var 3)))),
 (.asg 6 (.sub (.var 0) (.var 2))),
 (.asg 7 (.sub (.var 0) (.bin .mod (.bin .add (.var 2) (.cst (.int 1))) (.var 3)))),
 (.ifs (.cmp .eq (.var 1) (.var 2)) [(.ret (.cmp .eq (.var 4) (.var 5)))] []),
 (.ifs (.cmp .eq (.var 2) (.bin .add (.var 1) (.cst (.int 1)))) [(.ret (.and (.cmp .ne (.var 4) (.var 5)) (.cmp .eq (.call 38 [(.var 5),(.var 4)] []) (.call 38 [(.var 5),(.var 7)] []))))] []),
 (.ifs (.and (.cmp .eq (.var 1) (.cst (.int 0))) (.cmp .eq (.var 2) (.bin .sub (.var 3) (.cst (.int 1))))) [(.ret (.and (.cmp .ne (.var 4) (.var 5)) (.cmp .eq (.call 38 [(.var 4),(.var 5)] []) (.call 38 [(.var 4),(.var 6)] []))))] []),
 (.ret (.not (.call 37 [(.var 4),(.var 5),(.var 6),(.var 7)] [])))]
abbrev Fz18:Fn:=⟨3,8,false,bz18⟩
theorem scz18:FnScope nmz18 ["_law_line","_law_i","_law_j"] (zaab sz18):=⟨rfl,rfl,rfl,ndz18,rfl,by decide +kernel,by decide +kernel⟩
abbrev sz20:Stmt:=top 51
abbrev iz20:Nat:=40
def nmz20:List Str:=["_law_line","_law_i","_law_j"]
theorem ndz20:(nmz20).Nodup:=by decide +kernel
abbrev bz20_L0:List S:=[(.ifs (.call 39 [(.var 0),(.var 1),(.var 2)] []) [(.ret (.tup [(.var 1),(.var 2)]))] [])]
abbrev bz20_L1:List S:=[(.for_ (.one 2) (.rng2 (.var 1) (.b1 .len (.var 0))) bz20_L0)]
def bz20:List S:=[(.for_ (.one 1) (.rng1 (.b1 .len (.var 0))) bz20_L1),
 (.ret (.cst .non))]
abbrev Fz20:Fn:=⟨1,3,false,bz20⟩
theorem scz20:FnScope nmz20 ["_law_line"] (zaab sz20):=⟨rfl,rfl,rfl,ndz20,rfl,by decide +kernel,by decide +kernel⟩
abbrev sz22:Stmt:=top 52
abbrev iz22:Nat:=41
def nmz22:List Str:=["_law_row","_law_at_here","_law_many","_law_cell","_law_base","_law_ups","_law_downs","_law_k","_law_way_here","?9"]
theorem ndz22:(nmz22).Nodup:=by decide +kernel
def zag8:List Str:=["_law_row","_law_at_here","_law_many","_law_cell","_law_base","_law_ups","_law_downs","!7","_law_way_here","_law_k"]
theorem ndz22_c0:(zag8).Nodup:=by decide +kernel
abbrev zagu:List S:=[(.asg 8 (.sub (.lst [(.cst (.int 1)),(.neg (.cst (.int 1)))]) (.b1 .int (.cmp .lt (.sub (.sub (.var 4) (.var 7)) (.cst (.int 1))) (.cst (.int 0)))))),
 (.app 5 (.tup [(.bin .sub (.bin .mod (.var 3) (.cst (.int 7))) (.cst (.int 3))),(.bin .mul (.var 8) (.bin .mod (.bin .fdiv (.sub (.var 0) (.bin .add (.bin .add (.var 1) (.cst (.int 26))) (.var 7))) (.cst (.int 1000))) (.cst (.int 5))))])),
 (.app 6 (.tup [(.bin .sub (.bin .mod (.bin .fdiv (.var 3) (.cst (.int 7))) (.cst (.int 7))) (.cst (.int 3))),(.bin .mul (.var 8) (.bin .mod (.bin .fdiv (.sub (.var 0) (.bin .add (.bin .add (.var 1) (.cst (.int 26))) (.var 7))) (.cst (.int 5000))) (.cst (.int 5))))]))]
abbrev zae8:E:=(.bin .add (.bin .add (.sub (.var 4) (.var 9)) (.sub (.var 5) (.var 9))) (.sub (.var 6) (.var 9)))
def bz22:List S:=[(.asg 4 (.call 35 [(.cutL (.var 0) (.var 1)),(.var 2)] [])),
 (.mk 5 (.lst [])),
 (.mk 6 (.lst [])),
 (.for_ (.one 7) (.rng1 (.var 2)) zagu),
 (.asg 4 (.call 36 [(.var 4),(.bin .fdiv (.var 3) (.cst (.int 49)))] [])),
 (.mk 5 (.call 36 [(.var 5),(.bin .fdiv (.var 3) (.cst (.int 49)))] [])),
 (.mk 6 (.call 36 [(.var 6),(.bin .fdiv (.var 3) (.cst (.int 49)))] [])),
 (.retO (.comp zae8 (.one 9) (.rng1 (.var 2))))]
abbrev Fz22:Fn:=⟨4,10,true,bz22⟩
theorem scz22:FnScope nmz22 ["_law_row","_law_at_here","_law_many","_law_cell"] (zaab sz22):=⟨rfl,rfl,rfl,ndz22,rfl,by decide +kernel,by decide +kernel⟩
abbrev sz26:Stmt:=top 53
abbrev iz26:Nat:=42
def nmz26:List Str:=["_law_spot","_law_size","_law_x","_law_y","_law_step"]
theorem ndz26:(nmz26).Nodup:=by decide +kernel
abbrev bz26_L0:List S:=[(.asg 2 (.bin .add (.var 2) (.sub (.var 0) (.cst (.int 2))))),
 (.asg 3 (.bin .add (.var 3) (.sub (.var 0) (.cst (.int 3)))))]
abbrev bz26_L1:List S:=[(.asg 2 (.bin .add (.var 2) (.sub (.var 0) (.cst (.int 4))))),
 (.asg 3 (.bin .add (.var 3) (.sub (.var 0) (.cst (.int 5)))))]
def bz26:List S:=[(.asg 2 (.sub (.var 0) (.cst (.int 0)))),
 (.asg 3 (.sub (.var 0) (.cst (.int 1)))),
 (.for_ (.one 4) (.rng1 (.var 1)) bz26_L0),
 (.for_ (.one 4) (.rng1 (.bin .sub (.cst (.int 0)) (.var 1))) bz26_L1),
 (.ret (.tup [(.var 2),(.var 3)]))]
abbrev Fz26:Fn:=⟨2,5,false,bz26⟩
theorem scz26:FnScope nmz26 ["_law_spot","_law_size"] (zaab sz26):=⟨rfl,rfl,rfl,ndz26,rfl,by decide +kernel,by decide +kernel⟩
abbrev sz28:Stmt:=top 54
abbrev iz28:Nat:=43
def nmz28:List Str:=["_law_spots_here","_law_kind","_law_cell","_law_at_here","_law_new"]
theorem ndz28:(nmz28).Nodup:=by decide +kernel
def bz28:List S:=[(.asg 3 (.bin .mod (.bin .fdiv (.var 2) (.cst (.int 3))) (.b1 .len (.var 0)))),
 (.asg 4 (.sub (.call 33 [(.var 2),(.cst (.int 1)),(.cst (.int 60)),(.cst (.int 12))] []) (.cst (.int 0)))),
 (.ifs (.cmp .eq (.bin .mod (.var 1) (.cst (.int 4))) (.cst (.int 1))) [(.putL (.var 0) (.var 3) (.bin .add (.cutU (.sub (.var 0) (.var 3)) (.cst (.int 2))) (.cutL (.var 4) (.cst (.int 2)))))] []),
 (.ifs (.and (.cmp .eq (.bin .mod (.var 1) (.cst (.int 4))) (.cst (.int 2))) (.cmp .eq (.bin .mod (.bin .fdiv (.var 1) (.cst (.int 4))) (.cst (.int 2))) (.cst (.int 1)))) [(.putL (.var 0) (.var 3) (.bin .add (.cutU (.var 4) (.cst (.int 2))) (.cutL (.sub (.var 0) (.var 3)) (.cst (.int 2)))))] []),
 (.ret (.var 0))]
abbrev Fz28:Fn:=⟨3,5,false,bz28⟩
theorem scz28:FnScope nmz28 ["_law_spots_here","_law_kind","_law_cell"] (zaab sz28):=⟨rfl,rfl,rfl,ndz28,rfl,by decide +kernel,by decide +kernel⟩
abbrev sz25:Stmt:=top 55
abbrev iz25:Nat:=44
def nmz25:List Str:=["_law_row","_law_kind","_law_cell","_law_many","?4"]
theorem ndz25:(nmz25).Nodup:=by decide +kernel
def zafy:List Str:=["_law_row","_law_kind","_law_cell","_law_many","_law_k"]
theorem ndz25_c0:(zafy).Nodup:=by decide +kernel
abbrev zafo:E:=(.bin .add (.tup [(.bin .mod (.sub (.var 0) (.var 4)) (.cst (.int 5))),(.bin .mod (.bin .fdiv (.sub (.var 0) (.var 4)) (.cst (.int 5))) (.cst (.int 5)))]) (.cutL (.sub (.call 33 [(.sub (.var 0) (.var 4)),(.cst (.int 1)),(.cst (.int 1)),(.cst (.int 1))] []) (.cst (.int 0))) (.cst (.int 2))))
def bz25:List S:=[(.asg 3 (.bin .add (.cst (.int 3)) (.bin .mod (.sub (.var 0) (.cst (.int 0))) (.cst (.int 7))))),
 (.ifs (.cmp .eq (.bin .mod (.var 1) (.cst (.int 4))) (.cst (.int 0))) [(.asg 3 (.bin .add (.cst (.int 3)) (.bin .mod (.sub (.var 0) (.cst (.int 0))) (.cst (.int 4))))),
 (.ret (.cell (.comp zafo (.one 4) (.rng1 (.var 3)))))] []),
 (.ret (.call 43 [(.cell (.call 41 [(.var 0),(.cst (.int 0)),(.var 3),(.var 2)] [])),(.var 1),(.var 2)] []))]
abbrev Fz25:Fn:=⟨3,5,false,bz25⟩
theorem scz25:FnScope nmz25 ["_law_row","_law_kind","_law_cell"] (zaab sz25):=⟨rfl,rfl,rfl,ndz25,rfl,by decide +kernel,by decide +kernel⟩
abbrev sz19:Stmt:=top 56
abbrev iz19:Nat:=45
def nmz19:List Str:=["_law_made","_law_size","_law_piece_here","_law_found","?4"]
theorem ndz19:(nmz19).Nodup:=by decide +kernel
def zahl:List Str:=["_law_made","_law_size","_law_piece_here","_law_found","_law_spot"]
theorem ndz19_c0:(zahl).Nodup:=by decide +kernel
abbrev zae6:E:=(.call 42 [(.var 4),(.var 1)] [])
abbrev bz19_L0:List S:=[(.asg 3 (.call 40 [(.compC zae6 (.one 4) (.sub (.var 0) (.var 2)))] [])),
 (.ifs (.cmp .notN (.var 3) (.cst .non)) [(.ret (.tup [(.var 1),(.var 2),(.sub (.var 3) (.cst (.int 0))),(.sub (.var 3) (.cst (.int 1)))]))] [])]
abbrev bz19_L1:List S:=[(.for_ (.one 2) (.rng1 (.b1 .len (.var 0))) bz19_L0)]
def bz19:List S:=[(.for_ (.one 1) (.rng2 (.neg (.cst (.int 6))) (.cst (.int 7))) bz19_L1),
 (.ret (.cst .non))]
abbrev Fz19:Fn:=⟨1,5,false,bz19⟩
theorem scz19:FnScope nmz19 ["_law_made"] (zaab sz19):=⟨rfl,rfl,rfl,ndz19,rfl,by decide +kernel,by decide +kernel⟩
abbrev sz33:Stmt:=top 57
abbrev iz33:Nat:=46
def nmz33:List Str:=["_law_book","_law_due_here","_law_found"]
theorem ndz33:(nmz33).Nodup:=by decide +kernel
def bz33:List S:=[(.asg 2 (.call 27 [(.var 0)] [])),
 (.ifs (.cmp .isN (.var 1) (.cst .non)) [(.ret (.cmp .isN (.var 2) (.cst .non)))] []),
 (.ret (.call 32 [(.var 2),(.var 1)] []))]
abbrev Fz33:Fn:=⟨2,3,false,bz33⟩
theorem scz33:FnScope nmz33 ["_law_book","_law_due_here"] (zaab sz33):=⟨rfl,rfl,rfl,ndz33,rfl,by decide +kernel,by decide +kernel⟩
abbrev s_law:Stmt:=top 58
abbrev i_law:Nat:=47
def nm_law:List Str:=["_law_script","_law_row","_law_made","_law_k","_law_book","_law_spots_here","_law_piece_here","_law_at_here","_law_new","?9"]
theorem nd_law:(nm_law).Nodup:=by decide +kernel
def zae1:List Str:=["_law_script","_law_row","_law_made","!3","_law_book","_law_spots_here","_law_piece_here","_law_at_here","_law_new","_law_k"]
theorem nd_law_c0:(zae1).Nodup:=by decide +kernel
abbrev zaeg:List S:=[(.app 2 (.call 44 [(.cutL (.var 1) (.bin .mul (.cst (.int 4)) (.var 3))),(.bin .fdiv (.sub (.var 1) (.cst (.int 58))) (.sub (.lst [(.cst (.int 1)),(.cst (.int 8)),(.cst (.int 64))]) (.var 3))),(.bin .fdiv (.sub (.var 1) (.cst (.int 59))) (.bin .add (.var 3) (.cst (.int 1))))] []))]
abbrev zabk:E:=(.cell (.call 41 [(.var 1),(.var 9),(.bin .add (.cst (.int 3)) (.bin .mod (.sub (.var 1) (.var 9)) (.cst (.int 3)))),(.sub (.var 1) (.bin .add (.cst (.int 50)) (.var 9)))] []))
abbrev zac6:List S:=[(.exp (.meth (.var 4) 0 4 [(.b1 .list (.var 5))] [.non]))]
def b_law:List S:=[(.asg 1 (.call 30 [(.var 0),(.cst (.int 62))] [])),
 (.mk 2 (.lst [])),
 (.for_ (.one 3) (.rng1 (.bin .add (.cst (.int 1)) (.bin .mod (.sub (.var 1) (.cst (.int 61))) (.cst (.int 3))))) zaeg),
 (.ifs (.cmp .eq (.bin .mod (.bin .fdiv (.sub (.var 1) (.cst (.int 61))) (.cst (.int 3))) (.cst (.int 6))) (.cst (.int 2))) [(.put 2 (.cst (.int 0)) (.call 43 [(.cell (.call 41 [(.var 1),(.cst (.int 0)),(.bin .add (.cst (.int 10)) (.bin .mod (.sub (.var 1) (.cst (.int 0))) (.cst (.int 15)))),(.sub (.var 1) (.cst (.int 59)))] [])),(.sub (.var 1) (.cst (.int 58))),(.sub (.var 1) (.cst (.int 59)))] []))] []),
 (.ifs (.cmp .eq (.bin .mod (.bin .fdiv (.sub (.var 1) (.cst (.int 61))) (.cst (.int 3))) (.cst (.int 6))) (.cst (.int 1))) [(.mk 2 (.bin .add (.comp zabk (.one 9) (.rng1 (.cst (.int 9)))) (.cutU (.var 2) (.cst (.int 1)))))] []),
 (.asg 4 (.new 0 3 4 [] [])),
 (.ifs (.cmp .notN (.call 27 [(.var 4)] []) (.cst .non)) [(.ret (.cst (.bl false)))] []),
 (.for_ (.one 5) (.var 2) zac6),
 (.ifs (.not (.call 46 [(.var 4),(.call 45 [(.var 2)] [])] [])) [(.ret (.cst (.bl false)))] []),
 (.exp (.meth (.var 4) 0 6 [(.bin .mod (.sub (.var 1) (.cst (.int 60))) (.cst (.int 7)))] [])),
 (.asg 6 (.bin .mod (.bin .fdiv (.sub (.var 1) (.cst (.int 60))) (.cst (.int 7))) (.b1 .len (.var 2)))),
 (.asg 7 (.bin .mod (.bin .fdiv (.sub (.var 1) (.cst (.int 60))) (.cst (.int 21))) (.b1 .len (.sub (.var 2) (.var 6))))),
 (.asg 8 (.sub (.call 33 [(.sub (.var 1) (.cst (.int 60))),(.cst (.int 1)),(.cst (.int 9)),(.sub (.lst [(.cst (.int 2)),(.cst (.int 200))]) (.bin .mod (.bin .fdiv (.sub (.var 1) (.cst (.int 60))) (.cst (.int 500))) (.cst (.int 2))))] []) (.cst (.int 0)))),
 (.putL (.sub (.var 2) (.var 6)) (.var 7) (.bin .add (.cutU (.sub (.sub (.var 2) (.var 6)) (.var 7)) (.cst (.int 2))) (.cutL (.var 8) (.cst (.int 2))))),
 (.exp (.meth (.var 4) 0 5 [(.var 6),(.var 7),(.cutLU (.var 8) (.cst (.int 2)) (.cst (.int 4))),(.cutL (.var 8) (.cst (.int 4)))] [])),
 (.ret (.call 46 [(.var 4),(.call 45 [(.var 2)] [])] []))]
abbrev F_law:Fn:=⟨1,10,false,b_law⟩
theorem sc_law:FnScope nm_law ["_law_script"] (zaab s_law):=⟨rfl,rfl,rfl,nd_law,rfl,by decide +kernel,by decide +kernel⟩
def fns:List Fn:=[⟨2,2,false,bz45⟩,
 ⟨1,1,false,bz39⟩,
 ⟨4,4,false,bz44⟩,
 ⟨1,1,false,bz3⟩,
 ⟨3,6,false,bz4⟩,
 ⟨5,7,false,bz12⟩,
 ⟨2,2,false,bz7⟩,
 ⟨3,3,false,bz5⟩,
 ⟨1,1,false,bz10⟩,
 ⟨2,2,false,bz13⟩,
 ⟨3,3,false,bz8⟩,
 ⟨3,3,false,bz6⟩,
 ⟨4,4,false,bz9⟩,
 ⟨3,5,false,bz11⟩,
 ⟨2,2,false,bz40⟩,
 ⟨2,4,false,bz38⟩,
 ⟨1,2,false,bz51⟩,
 ⟨2,3,false,bz36⟩,
 ⟨1,3,false,bz41⟩,
 ⟨3,5,false,bz49⟩,
 ⟨2,2,false,bz48⟩,
 ⟨3,3,false,bz47⟩,
 ⟨2,2,false,bz43⟩,
 ⟨3,5,false,bz50⟩,
 ⟨2,2,false,bz46⟩,
 ⟨3,3,false,bz52⟩,
 ⟨3,3,false,bz37⟩,
 ⟨1,4,false,bz42⟩,
 ⟨1,1,false,bz35⟩,
 ⟨2,2,false,bz17⟩,
 ⟨2,5,false,bz30⟩,
 ⟨2,5,false,bz21⟩,
 ⟨2,3,false,bz23⟩,
 ⟨4,9,false,bz29⟩,
 ⟨3,5,false,bz31⟩,
 ⟨2,9,false,bz27⟩,
 ⟨2,9,true,bz32⟩,
 ⟨4,11,false,bz24⟩,
 ⟨2,5,false,bz34⟩,
 ⟨3,8,false,bz18⟩,
 ⟨1,3,false,bz20⟩,
 ⟨4,10,true,bz22⟩,
 ⟨2,5,false,bz26⟩,
 ⟨3,5,false,bz28⟩,
 ⟨3,5,false,bz25⟩,
 ⟨1,5,false,bz19⟩,
 ⟨2,3,false,bz33⟩,
 ⟨1,10,false,b_law⟩]
def sub0(d c:Nat):Bool:=nth (nth [[true,false,false,false,false,false],[true,true,false,false,false,false],[true,false,true,false,false,false],[true,false,false,true,false,false],[true,false,false,false,true,false],[true,false,false,false,false,true]] [true,false,false,false,false,false] d) false c
set_option genInjectivity false in
set_option genSizeOf false in
structure Txt(K:PySem.W.Frag)(mg:Str→Option Value)where
 ez15:Addr
 mez15:mg "GradeError"=some (.ref ez15)
 ez2:Addr
 mez2:mg "BadSize"=some (.ref ez2)
 qz2:PySem.W.excIn K ez2 [.type "ValueError",.type "Exception",.type "BaseException",.type "object"] "ValueError.__new__"=true
 ez1:Addr
 mez1:mg "BadPiece"=some (.ref ez1)
 qz1:PySem.W.excIn K ez1 [.type "ValueError",.type "Exception",.type "BaseException",.type "object"] "ValueError.__new__"=true
 ez0:Addr
 mez0:mg "BadMove"=some (.ref ez0)
 qz0:PySem.W.excIn K ez0 [.type "ValueError",.type "Exception",.type "BaseException",.type "object"] "ValueError.__new__"=true
 ez16:Addr
 mez16:mg "NoSuch"=some (.ref ez16)
 qz16:PySem.W.excIn K ez16 [.type "ValueError",.type "Exception",.type "BaseException",.type "object"] "ValueError.__new__"=true
 ez14:Addr
 mez14:mg "Full"=some (.ref ez14)
 qz14:PySem.W.excIn K ez14 [.type "ValueError",.type "Exception",.type "BaseException",.type "object"] "ValueError.__new__"=true
 C_Book:Addr
 mC_Book:mg "Book"=some (.ref C_Book)
 cls_Book:Cls K C_Book
 no_Book_size:NoAttr K C_Book "size"
 no_Book_pieces:NoAttr K C_Book "pieces"
 no_Book_side_marks:NoAttr K C_Book "side_marks"
 no_Book_seams:NoAttr K C_Book "seams"
 fz45:Addr
 dz45:FuncData
 tz45:FunD K "place" "place" sz45 fz45 dz45
 bdz45:Binds K dz45 ["spot","size"] []
 mz45:mg "place"=some (.ref fz45)
 kz45:PySem.W.keepIn K (.ref fz45)=true
 fz39:Addr
 dz39:FuncData
 tz39:FunD K "check_size" "check_size" sz39 fz39 dz39
 bdz39:Binds K dz39 ["size"] []
 mz39:mg "check_size"=some (.ref fz39)
 kz39:PySem.W.keepIn K (.ref fz39)=true
 fz44:Addr
 dz44:FuncData
 tz44:FunD K "moved" "moved" sz44 fz44 dz44
 bdz44:Binds K dz44 ["spot","across","up","steps"] []
 mz44:mg "moved"=some (.ref fz44)
 kz44:PySem.W.keepIn K (.ref fz44)=true
 fz3:Addr
 dz3:FuncData
 tz3:FunD K "__init__" "Book.__init__" sz3 fz3 dz3
 bdz3:Binds K dz3 ["self"] []
 mthz3:Meth K C_Book "__init__" fz3
 mkk_Book:Mk K C_Book fz3
 fz4:Addr
 dz4:FuncData
 tz4:FunD K "add_piece" "Book.add_piece" sz4 fz4 dz4
 bdz4:Binds K dz4 ["self","corners","marks"] []
 bdz4_2:Binds K dz4 ["self","corners","marks"] [.none]
 mthz4:Meth K C_Book "add_piece" fz4
 fz12:Addr
 dz12:FuncData
 tz12:FunD K "set_moves" "Book.set_moves" sz12 fz12 dz12
 bdz12:Binds K dz12 ["self","piece","corner","greater","lesser"] []
 mthz12:Meth K C_Book "set_moves" fz12
 fz7:Addr
 dz7:FuncData
 tz7:FunD K "let_out" "Book.let_out" sz7 fz7 dz7
 bdz7:Binds K dz7 ["self","steps"] []
 mthz7:Meth K C_Book "let_out" fz7
 fz5:Addr
 dz5:FuncData
 tz5:FunD K "change_size" "Book.change_size" sz5 fz5 dz5
 bdz5:Binds K dz5 ["self","steps","change"] []
 mthz5:Meth K C_Book "change_size" fz5
 fz10:Addr
 dz10:FuncData
 tz10:FunD K "piece_count" "Book.piece_count" sz10 fz10 dz10
 bdz10:Binds K dz10 ["self"] []
 mthz10:Meth K C_Book "piece_count" fz10
 fz13:Addr
 dz13:FuncData
 tz13:FunD K "spots" "Book.spots" sz13 fz13 dz13
 bdz13:Binds K dz13 ["self","piece"] []
 mthz13:Meth K C_Book "spots" fz13
 fz8:Addr
 dz8:FuncData
 tz8:FunD K "mark_spots" "Book.mark_spots" sz8 fz8 dz8
 bdz8:Binds K dz8 ["self","piece","side"] []
 mthz8:Meth K C_Book "mark_spots" fz8
 fz6:Addr
 dz6:FuncData
 tz6:FunD K "corners" "Book.corners" sz6 fz6 dz6
 bdz6:Binds K dz6 ["self","piece","size"] []
 mthz6:Meth K C_Book "corners" fz6
 fz9:Addr
 dz9:FuncData
 tz9:FunD K "marks" "Book.marks" sz9 fz9 dz9
 bdz9:Binds K dz9 ["self","piece","side","size"] []
 mthz9:Meth K C_Book "marks" fz9
 fz11:Addr
 dz11:FuncData
 tz11:FunD K "places" "Book.places" sz11 fz11 dz11
 bdz11:Binds K dz11 ["self","spots","size"] []
 mthz11:Meth K C_Book "places" fz11
 fz40:Addr
 dz40:FuncData
 tz40:FunD K "check_there" "check_there" sz40 fz40 dz40
 bdz40:Binds K dz40 ["number","those"] []
 mz40:mg "check_there"=some (.ref fz40)
 kz40:PySem.W.keepIn K (.ref fz40)=true
 fz38:Addr
 dz38:FuncData
 tz38:FunD K "check_piece" "check_piece" sz38 fz38 dz38
 bdz38:Binds K dz38 ["corners","by_side"] []
 mz38:mg "check_piece"=some (.ref fz38)
 kz38:PySem.W.keepIn K (.ref fz38)=true
 fz51:Addr
 dz51:FuncData
 tz51:FunD K "spots_fit" "spots_fit" sz51 fz51 dz51
 bdz51:Binds K dz51 ["spots"] []
 mz51:mg "spots_fit"=some (.ref fz51)
 kz51:PySem.W.keepIn K (.ref fz51)=true
 fz36:Addr
 dz36:FuncData
 tz36:FunD K "all_within" "all_within" sz36 fz36 dz36
 bdz36:Binds K dz36 ["numbers","bound"] []
 mz36:mg "all_within"=some (.ref fz36)
 kz36:PySem.W.keepIn K (.ref fz36)=true
 fz41:Addr
 dz41:FuncData
 tz41:FunD K "crossing" "crossing" sz41 fz41 dz41
 bdz41:Binds K dz41 ["corners"] []
 mz41:mg "crossing"=some (.ref fz41)
 kz41:PySem.W.keepIn K (.ref fz41)=true
 fz49:Addr
 dz49:FuncData
 tz49:FunD K "sides_cross" "sides_cross" sz49 fz49 dz49
 bdz49:Binds K dz49 ["corners","i","j"] []
 mz49:mg "sides_cross"=some (.ref fz49)
 kz49:PySem.W.keepIn K (.ref fz49)=true
 fz48:Addr
 dz48:FuncData
 tz48:FunD K "side_ends" "side_ends" sz48 fz48 dz48
 bdz48:Binds K dz48 ["corners","k"] []
 mz48:mg "side_ends"=some (.ref fz48)
 kz48:PySem.W.keepIn K (.ref fz48)=true
 fz47:Addr
 dz47:FuncData
 tz47:FunD K "run_together" "run_together" sz47 fz47 dz47
 bdz47:Binds K dz47 ["corner","one","two"] []
 mz47:mg "run_together"=some (.ref fz47)
 kz47:PySem.W.keepIn K (.ref fz47)=true
 fz43:Addr
 dz43:FuncData
 tz43:FunD K "have_common_point" "have_common_point" sz43 fz43 dz43
 bdz43:Binds K dz43 ["one","two"] []
 mz43:mg "have_common_point"=some (.ref fz43)
 kz43:PySem.W.keepIn K (.ref fz43)=true
 fz50:Addr
 dz50:FuncData
 tz50:FunD K "spans_meet" "spans_meet" sz50 fz50 dz50
 bdz50:Binds K dz50 ["one","two","axis"] []
 mz50:mg "spans_meet"=some (.ref fz50)
 kz50:PySem.W.keepIn K (.ref fz50)=true
 fz46:Addr
 dz46:FuncData
 tz46:FunD K "reaches_across" "reaches_across" sz46 fz46 dz46
 bdz46:Binds K dz46 ["side","line"] []
 mz46:mg "reaches_across"=some (.ref fz46)
 kz46:PySem.W.keepIn K (.ref fz46)=true
 fz52:Addr
 dz52:FuncData
 tz52:FunD K "turn" "turn" sz52 fz52 dz52
 bdz52:Binds K dz52 ["start","one","two"] []
 mz52:mg "turn"=some (.ref fz52)
 kz52:PySem.W.keepIn K (.ref fz52)=true
 fz37:Addr
 dz37:FuncData
 tz37:FunD K "along" "along" sz37 fz37 dz37
 bdz37:Binds K dz37 ["start","one","two"] []
 mz37:mg "along"=some (.ref fz37)
 kz37:PySem.W.keepIn K (.ref fz37)=true
 fz42:Addr
 dz42:FuncData
 tz42:FunD K "first_crossing" "first_crossing" sz42 fz42 dz42
 bdz42:Binds K dz42 ["book"] []
 mz42:mg "first_crossing"=some (.ref fz42)
 kz42:PySem.W.keepIn K (.ref fz42)=true
 fz35:Addr
 dz35:FuncData
 tz35:FunD K "_law_whole" "_law_whole" sz35 fz35 dz35
 bdz35:Binds K dz35 ["_law_found"] []
 mz35:mg "_law_whole"=some (.ref fz35)
 kz35:PySem.W.keepIn K (.ref fz35)=true
 fz17:Addr
 dz17:FuncData
 tz17:FunD K "_law_at" "_law_at" sz17 fz17 dz17
 bdz17:Binds K dz17 ["_law_script","_law_k"] []
 mz17:mg "_law_at"=some (.ref fz17)
 kz17:PySem.W.keepIn K (.ref fz17)=true
 fz30:Addr
 dz30:FuncData
 tz30:FunD K "_law_stir" "_law_stir" sz30 fz30 dz30
 bdz30:Binds K dz30 ["_law_script","_law_many"] []
 mz30:mg "_law_stir"=some (.ref fz30)
 kz30:PySem.W.keepIn K (.ref fz30)=true
 fz21:Addr
 dz21:FuncData
 tz21:FunD K "_law_gcd" "_law_gcd" sz21 fz21 dz21
 bdz21:Binds K dz21 ["_law_one","_law_two"] []
 mz21:mg "_law_gcd"=some (.ref fz21)
 kz21:PySem.W.keepIn K (.ref fz21)=true
 fz23:Addr
 dz23:FuncData
 tz23:FunD K "_law_numbers" "_law_numbers" sz23 fz23 dz23
 bdz23:Binds K dz23 ["_law_found","_law_due_here"] []
 mz23:mg "_law_numbers"=some (.ref fz23)
 kz23:PySem.W.keepIn K (.ref fz23)=true
 fz29:Addr
 dz29:FuncData
 tz29:FunD K "_law_spots" "_law_spots" sz29 fz29 dz29
 bdz29:Binds K dz29 ["_law_seed","_law_many","_law_far","_law_step"] []
 mz29:mg "_law_spots"=some (.ref fz29)
 kz29:PySem.W.keepIn K (.ref fz29)=true
 fz31:Addr
 dz31:FuncData
 tz31:FunD K "_law_strides" "_law_strides" sz31 fz31 dz31
 bdz31:Binds K dz31 ["_law_row","_law_at_here","_law_many"] []
 mz31:mg "_law_strides"=some (.ref fz31)
 kz31:PySem.W.keepIn K (.ref fz31)=true
 fz27:Addr
 dz27:FuncData
 tz27:FunD K "_law_simple" "_law_simple" sz27 fz27 dz27
 bdz27:Binds K dz27 ["_law_row","_law_many"] []
 mz27:mg "_law_simple"=some (.ref fz27)
 kz27:PySem.W.keepIn K (.ref fz27)=true
 fz32:Addr
 dz32:FuncData
 tz32:FunD K "_law_swung" "_law_swung" sz32 fz32 dz32
 bdz32:Binds K dz32 ["_law_line","_law_cell"] []
 mz32:mg "_law_swung"=some (.ref fz32)
 kz32:PySem.W.keepIn K (.ref fz32)=true
 fz24:Addr
 dz24:FuncData
 tz24:FunD K "_law_parted" "_law_parted" sz24 fz24 dz24
 bdz24:Binds K dz24 ["_law_a","_law_b","_law_c","_law_d"] []
 mz24:mg "_law_parted"=some (.ref fz24)
 kz24:PySem.W.keepIn K (.ref fz24)=true
 fz34:Addr
 dz34:FuncData
 tz34:FunD K "_law_way" "_law_way" sz34 fz34 dz34
 bdz34:Binds K dz34 ["_law_one","_law_two"] []
 mz34:mg "_law_way"=some (.ref fz34)
 kz34:PySem.W.keepIn K (.ref fz34)=true
 fz18:Addr
 dz18:FuncData
 tz18:FunD K "_law_crossed" "_law_crossed" sz18 fz18 dz18
 bdz18:Binds K dz18 ["_law_line","_law_i","_law_j"] []
 mz18:mg "_law_crossed"=some (.ref fz18)
 kz18:PySem.W.keepIn K (.ref fz18)=true
 fz20:Addr
 dz20:FuncData
 tz20:FunD K "_law_first" "_law_first" sz20 fz20 dz20
 bdz20:Binds K dz20 ["_law_line"] []
 mz20:mg "_law_first"=some (.ref fz20)
 kz20:PySem.W.keepIn K (.ref fz20)=true
 fz22:Addr
 dz22:FuncData
 tz22:FunD K "_law_growing" "_law_growing" sz22 fz22 dz22
 bdz22:Binds K dz22 ["_law_row","_law_at_here","_law_many","_law_cell"] []
 mz22:mg "_law_growing"=some (.ref fz22)
 kz22:PySem.W.keepIn K (.ref fz22)=true
 fz26:Addr
 dz26:FuncData
 tz26:FunD K "_law_place" "_law_place" sz26 fz26 dz26
 bdz26:Binds K dz26 ["_law_spot","_law_size"] []
 mz26:mg "_law_place"=some (.ref fz26)
 kz26:PySem.W.keepIn K (.ref fz26)=true
 fz28:Addr
 dz28:FuncData
 tz28:FunD K "_law_spoiled" "_law_spoiled" sz28 fz28 dz28
 bdz28:Binds K dz28 ["_law_spots_here","_law_kind","_law_cell"] []
 mz28:mg "_law_spoiled"=some (.ref fz28)
 kz28:PySem.W.keepIn K (.ref fz28)=true
 fz25:Addr
 dz25:FuncData
 tz25:FunD K "_law_piece" "_law_piece" sz25 fz25 dz25
 bdz25:Binds K dz25 ["_law_row","_law_kind","_law_cell"] []
 mz25:mg "_law_piece"=some (.ref fz25)
 kz25:PySem.W.keepIn K (.ref fz25)=true
 fz19:Addr
 dz19:FuncData
 tz19:FunD K "_law_due" "_law_due" sz19 fz19 dz19
 bdz19:Binds K dz19 ["_law_made"] []
 mz19:mg "_law_due"=some (.ref fz19)
 kz19:PySem.W.keepIn K (.ref fz19)=true
 fz33:Addr
 dz33:FuncData
 tz33:FunD K "_law_told" "_law_told" sz33 fz33 dz33
 bdz33:Binds K dz33 ["_law_book","_law_due_here"] []
 mz33:mg "_law_told"=some (.ref fz33)
 kz33:PySem.W.keepIn K (.ref fz33)=true
 f_law:Addr
 d_law:FuncData
 t_law:FunD K "law" "law" s_law f_law d_law
 bd_law:Binds K d_law ["_law_script"] []
 m_law:mg "law"=some (.ref f_law)
 k_law:PySem.W.keepIn K (.ref f_law)=true
 tk_LEAST:Tok
 g_LEAST:mg "LEAST"=some (.int (-6) tk_LEAST)
 tk_MOST:Tok
 g_MOST:mg "MOST"=some (.int (6) tk_MOST)
 tk_MOST_PIECES:Tok
 g_MOST_PIECES:mg "MOST_PIECES"=some (.int (10) tk_MOST_PIECES)
 tk_LEAST_CORNERS:Tok
 g_LEAST_CORNERS:mg "LEAST_CORNERS"=some (.int (3) tk_LEAST_CORNERS)
 tk_MOST_CORNERS:Tok
 g_MOST_CORNERS:mg "MOST_CORNERS"=some (.int (24) tk_MOST_CORNERS)
 tk_MOST_MARKS:Tok
 g_MOST_MARKS:mg "MOST_MARKS"=some (.int (4) tk_MOST_MARKS)
 tk_FARTHEST:Tok
 g_FARTHEST:mg "FARTHEST"=some (.int (20000) tk_FARTHEST)
 tk_LONGEST_MOVE:Tok
 g_LONGEST_MOVE:mg "LONGEST_MOVE"=some (.int (200) tk_LONGEST_MOVE)
 b_abs:mg "abs"=none
 b_all:mg "all"=none
 b_any:mg "any"=none
 b_bool:mg "bool"=none
 b_int:mg "int"=none
 b_isinstance:mg "isinstance"=none
 b_len:mg "len"=none
 b_list:mg "list"=none
 b_max:mg "max"=none
 b_min:mg "min"=none
 b_range:mg "range"=none
 b_sorted:mg "sorted"=none
 b_tuple:mg "tuple"=none
section
variable{K:PySem.W.Frag}{mg:Str→Option Value}
def Gof(T:Txt K mg):Gx:=⟨K,nth [T.ez15,T.ez2,T.ez1,T.ez0,T.ez16,T.ez14] (T.ez15),nth [T.C_Book] (T.C_Book),nth [["size","pieces","side_marks","seams"]] []⟩
theorem emz2(T:Txt K mg):mg "BadSize"=some (.ref ((Gof T).cA 1)):=T.mez2
theorem eqz2(T:Txt K mg):PySem.W.excIn K ((Gof T).cA 1) [.type "ValueError",.type "Exception",.type "BaseException",.type "object"] "ValueError.__new__"=true:=T.qz2
theorem emz1(T:Txt K mg):mg "BadPiece"=some (.ref ((Gof T).cA 2)):=T.mez1
theorem eqz1(T:Txt K mg):PySem.W.excIn K ((Gof T).cA 2) [.type "ValueError",.type "Exception",.type "BaseException",.type "object"] "ValueError.__new__"=true:=T.qz1
theorem emz0(T:Txt K mg):mg "BadMove"=some (.ref ((Gof T).cA 3)):=T.mez0
theorem eqz0(T:Txt K mg):PySem.W.excIn K ((Gof T).cA 3) [.type "ValueError",.type "Exception",.type "BaseException",.type "object"] "ValueError.__new__"=true:=T.qz0
theorem emz16(T:Txt K mg):mg "NoSuch"=some (.ref ((Gof T).cA 4)):=T.mez16
theorem eqz16(T:Txt K mg):PySem.W.excIn K ((Gof T).cA 4) [.type "ValueError",.type "Exception",.type "BaseException",.type "object"] "ValueError.__new__"=true:=T.qz16
theorem emz14(T:Txt K mg):mg "Full"=some (.ref ((Gof T).cA 5)):=T.mez14
theorem eqz14(T:Txt K mg):PySem.W.excIn K ((Gof T).cA 5) [.type "ValueError",.type "Exception",.type "BaseException",.type "object"] "ValueError.__new__"=true:=T.qz14
theorem zaan(T:Txt K mg):Cls K ((Gof T).iA 0):=T.cls_Book
theorem zadm(T:Txt K mg):Mk K ((Gof T).iA 0) T.fz3:=T.mkk_Book
theorem mc_Book(T:Txt K mg):mg "Book"=some (.ref ((Gof T).iA 0)):=T.mC_Book
theorem zaaz(T:Txt K mg):NoAttr K ((Gof T).iA 0) "size":=T.no_Book_size
theorem zaal(T:Txt K mg):NoAttr K ((Gof T).iA 0) "pieces":=T.no_Book_pieces
theorem zaaq(T:Txt K mg):NoAttr K ((Gof T).iA 0) "side_marks":=T.no_Book_side_marks
theorem zad3(T:Txt K mg):NoAttr K ((Gof T).iA 0) "seams":=T.no_Book_seams
theorem zad1(T:Txt K mg):((Gof T).nm 0).Nodup:=show(["size","pieces","side_marks","seams"]:List Str).Nodup by decide
theorem zadl(T:Txt K mg):((Gof T).nm 0).length≤100:=show(["size","pieces","side_marks","seams"]:List Str).length≤100 by decide
theorem nnz4(T:Txt K mg):("add_piece":Str)∉(Gof T).nm 0:=show("add_piece":Str)∉(["size","pieces","side_marks","seams"]:List Str)by decide
theorem mtz4(T:Txt K mg):Meth K ((Gof T).iA 0) "add_piece" T.fz4:=T.mthz4
theorem nnz12(T:Txt K mg):("set_moves":Str)∉(Gof T).nm 0:=show("set_moves":Str)∉(["size","pieces","side_marks","seams"]:List Str)by decide
theorem mtz12(T:Txt K mg):Meth K ((Gof T).iA 0) "set_moves" T.fz12:=T.mthz12
theorem nnz7(T:Txt K mg):("let_out":Str)∉(Gof T).nm 0:=show("let_out":Str)∉(["size","pieces","side_marks","seams"]:List Str)by decide
theorem mtz7(T:Txt K mg):Meth K ((Gof T).iA 0) "let_out" T.fz7:=T.mthz7
theorem nnz5(T:Txt K mg):("change_size":Str)∉(Gof T).nm 0:=show("change_size":Str)∉(["size","pieces","side_marks","seams"]:List Str)by decide
theorem mtz5(T:Txt K mg):Meth K ((Gof T).iA 0) "change_size" T.fz5:=T.mthz5
theorem nnz10(T:Txt K mg):("piece_count":Str)∉(Gof T).nm 0:=show("piece_count":Str)∉(["size","pieces","side_marks","seams"]:List Str)by decide
theorem mtz10(T:Txt K mg):Meth K ((Gof T).iA 0) "piece_count" T.fz10:=T.mthz10
theorem nnz13(T:Txt K mg):("spots":Str)∉(Gof T).nm 0:=show("spots":Str)∉(["size","pieces","side_marks","seams"]:List Str)by decide
theorem mtz13(T:Txt K mg):Meth K ((Gof T).iA 0) "spots" T.fz13:=T.mthz13
theorem nnz8(T:Txt K mg):("mark_spots":Str)∉(Gof T).nm 0:=show("mark_spots":Str)∉(["size","pieces","side_marks","seams"]:List Str)by decide
theorem mtz8(T:Txt K mg):Meth K ((Gof T).iA 0) "mark_spots" T.fz8:=T.mthz8
theorem nnz6(T:Txt K mg):("corners":Str)∉(Gof T).nm 0:=show("corners":Str)∉(["size","pieces","side_marks","seams"]:List Str)by decide
theorem mtz6(T:Txt K mg):Meth K ((Gof T).iA 0) "corners" T.fz6:=T.mthz6
theorem nnz11(T:Txt K mg):("places":Str)∉(Gof T).nm 0:=show("places":Str)∉(["size","pieces","side_marks","seams"]:List Str)by decide
theorem mtz11(T:Txt K mg):Meth K ((Gof T).iA 0) "places" T.fz11:=T.mthz11
end
section
variable{P:Program}{w:World}{K:PySem.W.Frag}{mg:Str→Option Value}{base:Heap}{k:Nat}
set_option genInjectivity false in
set_option genSizeOf false in
structure Ok(P:Program)(w:World){K:PySem.W.Frag}{mg:Str→Option Value}(base:Heap)(T:Txt K mg)(k:Nat):Prop where
 oz45:FnOk P w K mg base (CXE (Gof T) P w base) (2*k) T.fz45 T.dz45 ["spot","size"] (spG (Gof T) (cfX fns sub0 k).cf (cfX fns sub0 k).fr 0)
 oz39:FnOk P w K mg base (CXE (Gof T) P w base) (2*k) T.fz39 T.dz39 ["size"] (spG (Gof T) (cfX fns sub0 k).cf (cfX fns sub0 k).fr 1)
 oz44:FnOk P w K mg base (CXE (Gof T) P w base) (2*k) T.fz44 T.dz44 ["spot","across","up","steps"] (spG (Gof T) (cfX fns sub0 k).cf (cfX fns sub0 k).fr 2)
 oz3:FnOk P w K mg base (CXE (Gof T) P w base) (2*k) T.fz3 T.dz3 ["self"] (spG (Gof T) (cfX fns sub0 k).cf (cfX fns sub0 k).fr 3)
 oz4:FnOk P w K mg base (CXE (Gof T) P w base) (2*k) T.fz4 T.dz4 ["self","corners","marks"] (spG (Gof T) (cfX fns sub0 k).cf (cfX fns sub0 k).fr 4)
 oz12:FnOk P w K mg base (CXE (Gof T) P w base) (2*k) T.fz12 T.dz12 ["self","piece","corner","greater","lesser"] (spG (Gof T) (cfX fns sub0 k).cf (cfX fns sub0 k).fr 5)
 oz7:FnOk P w K mg base (CXE (Gof T) P w base) (2*k) T.fz7 T.dz7 ["self","steps"] (spG (Gof T) (cfX fns sub0 k).cf (cfX fns sub0 k).fr 6)
 oz5:FnOk P w K mg base (CXE (Gof T) P w base) (2*k) T.fz5 T.dz5 ["self","steps","change"] (spG (Gof T) (cfX fns sub0 k).cf (cfX fns sub0 k).fr 7)
 oz10:FnOk P w K mg base (CXE (Gof T) P w base) (2*k) T.fz10 T.dz10 ["self"] (spG (Gof T) (cfX fns sub0 k).cf (cfX fns sub0 k).fr 8)
 oz13:FnOk P w K mg base (CXE (Gof T) P w base) (2*k) T.fz13 T.dz13 ["self","piece"] (spG (Gof T) (cfX fns sub0 k).cf (cfX fns sub0 k).fr 9)
 oz8:FnOk P w K mg base (CXE (Gof T) P w base) (2*k) T.fz8 T.dz8 ["self","piece","side"] (spG (Gof T) (cfX fns sub0 k).cf (cfX fns sub0 k).fr 10)
 oz6:FnOk P w K mg base (CXE (Gof T) P w base) (2*k) T.fz6 T.dz6 ["self","piece","size"] (spG (Gof T) (cfX fns sub0 k).cf (cfX fns sub0 k).fr 11)
 oz9:FnOk P w K mg base (CXE (Gof T) P w base) (2*k) T.fz9 T.dz9 ["self","piece","side","size"] (spG (Gof T) (cfX fns sub0 k).cf (cfX fns sub0 k).fr 12)
 oz11:FnOk P w K mg base (CXE (Gof T) P w base) (2*k) T.fz11 T.dz11 ["self","spots","size"] (spG (Gof T) (cfX fns sub0 k).cf (cfX fns sub0 k).fr 13)
 oz40:FnOk P w K mg base (CXE (Gof T) P w base) (2*k) T.fz40 T.dz40 ["number","those"] (spG (Gof T) (cfX fns sub0 k).cf (cfX fns sub0 k).fr 14)
 oz38:FnOk P w K mg base (CXE (Gof T) P w base) (2*k) T.fz38 T.dz38 ["corners","by_side"] (spG (Gof T) (cfX fns sub0 k).cf (cfX fns sub0 k).fr 15)
 oz51:FnOk P w K mg base (CXE (Gof T) P w base) (2*k) T.fz51 T.dz51 ["spots"] (spG (Gof T) (cfX fns sub0 k).cf (cfX fns sub0 k).fr 16)
 oz36:FnOk P w K mg base (CXE (Gof T) P w base) (2*k) T.fz36 T.dz36 ["numbers","bound"] (spG (Gof T) (cfX fns sub0 k).cf (cfX fns sub0 k).fr 17)
 oz41:FnOk P w K mg base (CXE (Gof T) P w base) (2*k) T.fz41 T.dz41 ["corners"] (spG (Gof T) (cfX fns sub0 k).cf (cfX fns sub0 k).fr 18)
 oz49:FnOk P w K mg base (CXE (Gof T) P w base) (2*k) T.fz49 T.dz49 ["corners","i","j"] (spG (Gof T) (cfX fns sub0 k).cf (cfX fns sub0 k).fr 19)
 oz48:FnOk P w K mg base (CXE (Gof T) P w base) (2*k) T.fz48 T.dz48 ["corners","k"] (spG (Gof T) (cfX fns sub0 k).cf (cfX fns sub0 k).fr 20)
 oz47:FnOk P w K mg base (CXE (Gof T) P w base) (2*k) T.fz47 T.dz47 ["corner","one","two"] (spG (Gof T) (cfX fns sub0 k).cf (cfX fns sub0 k).fr 21)
 oz43:FnOk P w K mg base (CXE (Gof T) P w base) (2*k) T.fz43 T.dz43 ["one","two"] (spG (Gof T) (cfX fns sub0 k).cf (cfX fns sub0 k).fr 22)
 oz50:FnOk P w K mg base (CXE (Gof T) P w base) (2*k) T.fz50 T.dz50 ["one","two","axis"] (spG (Gof T) (cfX fns sub0 k).cf (cfX fns sub0 k).fr 23)
 oz46:FnOk P w K mg base (CXE (Gof T) P w base) (2*k) T.fz46 T.dz46 ["side","line"] (spG (Gof T) (cfX fns sub0 k).cf (cfX fns sub0 k).fr 24)
 oz52:FnOk P w K mg base (CXE (Gof T) P w base) (2*k) T.fz52 T.dz52 ["start","one","two"] (spG (Gof T) (cfX fns sub0 k).cf (cfX fns sub0 k).fr 25)
 oz37:FnOk P w K mg base (CXE (Gof T) P w base) (2*k) T.fz37 T.dz37 ["start","one","two"] (spG (Gof T) (cfX fns sub0 k).cf (cfX fns sub0 k).fr 26)
 oz42:FnOk P w K mg base (CXE (Gof T) P w base) (2*k) T.fz42 T.dz42 ["book"] (spG (Gof T) (cfX fns sub0 k).cf (cfX fns sub0 k).fr 27)
 oz35:FnOk P w K mg base (CXE (Gof T) P w base) (2*k) T.fz35 T.dz35 ["_law_found"] (spG (Gof T) (cfX fns sub0 k).cf (cfX fns sub0 k).fr 28)
 oz17:FnOk P w K mg base (CXE (Gof T) P w base) (2*k) T.fz17 T.dz17 ["_law_script","_law_k"] (spG (Gof T) (cfX fns sub0 k).cf (cfX fns sub0 k).fr 29)
 oz30:FnOk P w K mg base (CXE (Gof T) P w base) (2*k) T.fz30 T.dz30 ["_law_script","_law_many"] (spG (Gof T) (cfX fns sub0 k).cf (cfX fns sub0 k).fr 30)
 oz21:FnOk P w K mg base (CXE (Gof T) P w base) (2*k) T.fz21 T.dz21 ["_law_one","_law_two"] (spG (Gof T) (cfX fns sub0 k).cf (cfX fns sub0 k).fr 31)
 oz23:FnOk P w K mg base (CXE (Gof T) P w base) (2*k) T.fz23 T.dz23 ["_law_found","_law_due_here"] (spG (Gof T) (cfX fns sub0 k).cf (cfX fns sub0 k).fr 32)
 oz29:FnOk P w K mg base (CXE (Gof T) P w base) (2*k) T.fz29 T.dz29 ["_law_seed","_law_many","_law_far","_law_step"] (spG (Gof T) (cfX fns sub0 k).cf (cfX fns sub0 k).fr 33)
 oz31:FnOk P w K mg base (CXE (Gof T) P w base) (2*k) T.fz31 T.dz31 ["_law_row","_law_at_here","_law_many"] (spG (Gof T) (cfX fns sub0 k).cf (cfX fns sub0 k).fr 34)
 oz27:FnOk P w K mg base (CXE (Gof T) P w base) (2*k) T.fz27 T.dz27 ["_law_row","_law_many"] (spG (Gof T) (cfX fns sub0 k).cf (cfX fns sub0 k).fr 35)
 oz32:FnOk P w K mg base (CXE (Gof T) P w base) (2*k) T.fz32 T.dz32 ["_law_line","_law_cell"] (spG (Gof T) (cfX fns sub0 k).cf (cfX fns sub0 k).fr 36)
 oz24:FnOk P w K mg base (CXE (Gof T) P w base) (2*k) T.fz24 T.dz24 ["_law_a","_law_b","_law_c","_law_d"] (spG (Gof T) (cfX fns sub0 k).cf (cfX fns sub0 k).fr 37)
 oz34:FnOk P w K mg base (CXE (Gof T) P w base) (2*k) T.fz34 T.dz34 ["_law_one","_law_two"] (spG (Gof T) (cfX fns sub0 k).cf (cfX fns sub0 k).fr 38)
 oz18:FnOk P w K mg base (CXE (Gof T) P w base) (2*k) T.fz18 T.dz18 ["_law_line","_law_i","_law_j"] (spG (Gof T) (cfX fns sub0 k).cf (cfX fns sub0 k).fr 39)
 oz20:FnOk P w K mg base (CXE (Gof T) P w base) (2*k) T.fz20 T.dz20 ["_law_line"] (spG (Gof T) (cfX fns sub0 k).cf (cfX fns sub0 k).fr 40)
 oz22:FnOk P w K mg base (CXE (Gof T) P w base) (2*k) T.fz22 T.dz22 ["_law_row","_law_at_here","_law_many","_law_cell"] (spG (Gof T) (cfX fns sub0 k).cf (cfX fns sub0 k).fr 41)
 oz26:FnOk P w K mg base (CXE (Gof T) P w base) (2*k) T.fz26 T.dz26 ["_law_spot","_law_size"] (spG (Gof T) (cfX fns sub0 k).cf (cfX fns sub0 k).fr 42)
 oz28:FnOk P w K mg base (CXE (Gof T) P w base) (2*k) T.fz28 T.dz28 ["_law_spots_here","_law_kind","_law_cell"] (spG (Gof T) (cfX fns sub0 k).cf (cfX fns sub0 k).fr 43)
 oz25:FnOk P w K mg base (CXE (Gof T) P w base) (2*k) T.fz25 T.dz25 ["_law_row","_law_kind","_law_cell"] (spG (Gof T) (cfX fns sub0 k).cf (cfX fns sub0 k).fr 44)
 oz19:FnOk P w K mg base (CXE (Gof T) P w base) (2*k) T.fz19 T.dz19 ["_law_made"] (spG (Gof T) (cfX fns sub0 k).cf (cfX fns sub0 k).fr 45)
 oz33:FnOk P w K mg base (CXE (Gof T) P w base) (2*k) T.fz33 T.dz33 ["_law_book","_law_due_here"] (spG (Gof T) (cfX fns sub0 k).cf (cfX fns sub0 k).fr 46)
 o_law:FnOk P w K mg base (CXE (Gof T) P w base) (2*k) T.f_law T.d_law ["_law_script"] (spG (Gof T) (cfX fns sub0 k).cf (cfX fns sub0 k).fr 47)
theorem ihz45{T:Txt K mg}(ih:Ok P w base T k):FnOk P w K mg base (CXE (Gof T) P w base) (2*k) T.fz45 T.dz45 ["spot","size"] (spG (Gof T) (cfX fns sub0 k).cf (cfX fns sub0 k).fr 0):=ih.oz45
theorem ihz39{T:Txt K mg}(ih:Ok P w base T k):FnOk P w K mg base (CXE (Gof T) P w base) (2*k) T.fz39 T.dz39 ["size"] (spG (Gof T) (cfX fns sub0 k).cf (cfX fns sub0 k).fr 1):=ih.oz39
theorem ihz44{T:Txt K mg}(ih:Ok P w base T k):FnOk P w K mg base (CXE (Gof T) P w base) (2*k) T.fz44 T.dz44 ["spot","across","up","steps"] (spG (Gof T) (cfX fns sub0 k).cf (cfX fns sub0 k).fr 2):=ih.oz44
theorem ihz3{T:Txt K mg}(ih:Ok P w base T k):FnOk P w K mg base (CXE (Gof T) P w base) (2*k) T.fz3 T.dz3 ["self"] (spG (Gof T) (cfX fns sub0 k).cf (cfX fns sub0 k).fr 3):=ih.oz3
theorem ihz4{T:Txt K mg}(ih:Ok P w base T k):FnOk P w K mg base (CXE (Gof T) P w base) (2*k) T.fz4 T.dz4 ["self","corners","marks"] (spG (Gof T) (cfX fns sub0 k).cf (cfX fns sub0 k).fr 4):=ih.oz4
theorem ihz12{T:Txt K mg}(ih:Ok P w base T k):FnOk P w K mg base (CXE (Gof T) P w base) (2*k) T.fz12 T.dz12 ["self","piece","corner","greater","lesser"] (spG (Gof T) (cfX fns sub0 k).cf (cfX fns sub0 k).fr 5):=ih.oz12
theorem ihz7{T:Txt K mg}(ih:Ok P w base T k):FnOk P w K mg base (CXE (Gof T) P w base) (2*k) T.fz7 T.dz7 ["self","steps"] (spG (Gof T) (cfX fns sub0 k).cf (cfX fns sub0 k).fr 6):=ih.oz7
theorem ihz5{T:Txt K mg}(ih:Ok P w base T k):FnOk P w K mg base (CXE (Gof T) P w base) (2*k) T.fz5 T.dz5 ["self","steps","change"] (spG (Gof T) (cfX fns sub0 k).cf (cfX fns sub0 k).fr 7):=ih.oz5
theorem ihz10{T:Txt K mg}(ih:Ok P w base T k):FnOk P w K mg base (CXE (Gof T) P w base) (2*k) T.fz10 T.dz10 ["self"] (spG (Gof T) (cfX fns sub0 k).cf (cfX fns sub0 k).fr 8):=ih.oz10
theorem ihz13{T:Txt K mg}(ih:Ok P w base T k):FnOk P w K mg base (CXE (Gof T) P w base) (2*k) T.fz13 T.dz13 ["self","piece"] (spG (Gof T) (cfX fns sub0 k).cf (cfX fns sub0 k).fr 9):=ih.oz13
theorem ihz8{T:Txt K mg}(ih:Ok P w base T k):FnOk P w K mg base (CXE (Gof T) P w base) (2*k) T.fz8 T.dz8 ["self","piece","side"] (spG (Gof T) (cfX fns sub0 k).cf (cfX fns sub0 k).fr 10):=ih.oz8
theorem ihz6{T:Txt K mg}(ih:Ok P w base T k):FnOk P w K mg base (CXE (Gof T) P w base) (2*k) T.fz6 T.dz6 ["self","piece","size"] (spG (Gof T) (cfX fns sub0 k).cf (cfX fns sub0 k).fr 11):=ih.oz6
theorem ihz11{T:Txt K mg}(ih:Ok P w base T k):FnOk P w K mg base (CXE (Gof T) P w base) (2*k) T.fz11 T.dz11 ["self","spots","size"] (spG (Gof T) (cfX fns sub0 k).cf (cfX fns sub0 k).fr 13):=ih.oz11
theorem ihz40{T:Txt K mg}(ih:Ok P w base T k):FnOk P w K mg base (CXE (Gof T) P w base) (2*k) T.fz40 T.dz40 ["number","those"] (spG (Gof T) (cfX fns sub0 k).cf (cfX fns sub0 k).fr 14):=ih.oz40
theorem ihz38{T:Txt K mg}(ih:Ok P w base T k):FnOk P w K mg base (CXE (Gof T) P w base) (2*k) T.fz38 T.dz38 ["corners","by_side"] (spG (Gof T) (cfX fns sub0 k).cf (cfX fns sub0 k).fr 15):=ih.oz38
theorem ihz51{T:Txt K mg}(ih:Ok P w base T k):FnOk P w K mg base (CXE (Gof T) P w base) (2*k) T.fz51 T.dz51 ["spots"] (spG (Gof T) (cfX fns sub0 k).cf (cfX fns sub0 k).fr 16):=ih.oz51
theorem ihz36{T:Txt K mg}(ih:Ok P w base T k):FnOk P w K mg base (CXE (Gof T) P w base) (2*k) T.fz36 T.dz36 ["numbers","bound"] (spG (Gof T) (cfX fns sub0 k).cf (cfX fns sub0 k).fr 17):=ih.oz36
theorem ihz41{T:Txt K mg}(ih:Ok P w base T k):FnOk P w K mg base (CXE (Gof T) P w base) (2*k) T.fz41 T.dz41 ["corners"] (spG (Gof T) (cfX fns sub0 k).cf (cfX fns sub0 k).fr 18):=ih.oz41
theorem ihz49{T:Txt K mg}(ih:Ok P w base T k):FnOk P w K mg base (CXE (Gof T) P w base) (2*k) T.fz49 T.dz49 ["corners","i","j"] (spG (Gof T) (cfX fns sub0 k).cf (cfX fns sub0 k).fr 19):=ih.oz49
theorem ihz48{T:Txt K mg}(ih:Ok P w base T k):FnOk P w K mg base (CXE (Gof T) P w base) (2*k) T.fz48 T.dz48 ["corners","k"] (spG (Gof T) (cfX fns sub0 k).cf (cfX fns sub0 k).fr 20):=ih.oz48
theorem ihz47{T:Txt K mg}(ih:Ok P w base T k):FnOk P w K mg base (CXE (Gof T) P w base) (2*k) T.fz47 T.dz47 ["corner","one","two"] (spG (Gof T) (cfX fns sub0 k).cf (cfX fns sub0 k).fr 21):=ih.oz47
theorem ihz43{T:Txt K mg}(ih:Ok P w base T k):FnOk P w K mg base (CXE (Gof T) P w base) (2*k) T.fz43 T.dz43 ["one","two"] (spG (Gof T) (cfX fns sub0 k).cf (cfX fns sub0 k).fr 22):=ih.oz43
theorem ihz50{T:Txt K mg}(ih:Ok P w base T k):FnOk P w K mg base (CXE (Gof T) P w base) (2*k) T.fz50 T.dz50 ["one","two","axis"] (spG (Gof T) (cfX fns sub0 k).cf (cfX fns sub0 k).fr 23):=ih.oz50
theorem ihz46{T:Txt K mg}(ih:Ok P w base T k):FnOk P w K mg base (CXE (Gof T) P w base) (2*k) T.fz46 T.dz46 ["side","line"] (spG (Gof T) (cfX fns sub0 k).cf (cfX fns sub0 k).fr 24):=ih.oz46
theorem ihz52{T:Txt K mg}(ih:Ok P w base T k):FnOk P w K mg base (CXE (Gof T) P w base) (2*k) T.fz52 T.dz52 ["start","one","two"] (spG (Gof T) (cfX fns sub0 k).cf (cfX fns sub0 k).fr 25):=ih.oz52
theorem ihz37{T:Txt K mg}(ih:Ok P w base T k):FnOk P w K mg base (CXE (Gof T) P w base) (2*k) T.fz37 T.dz37 ["start","one","two"] (spG (Gof T) (cfX fns sub0 k).cf (cfX fns sub0 k).fr 26):=ih.oz37
theorem ihz42{T:Txt K mg}(ih:Ok P w base T k):FnOk P w K mg base (CXE (Gof T) P w base) (2*k) T.fz42 T.dz42 ["book"] (spG (Gof T) (cfX fns sub0 k).cf (cfX fns sub0 k).fr 27):=ih.oz42
theorem ihz35{T:Txt K mg}(ih:Ok P w base T k):FnOk P w K mg base (CXE (Gof T) P w base) (2*k) T.fz35 T.dz35 ["_law_found"] (spG (Gof T) (cfX fns sub0 k).cf (cfX fns sub0 k).fr 28):=ih.oz35
theorem ihz17{T:Txt K mg}(ih:Ok P w base T k):FnOk P w K mg base (CXE (Gof T) P w base) (2*k) T.fz17 T.dz17 ["_law_script","_law_k"] (spG (Gof T) (cfX fns sub0 k).cf (cfX fns sub0 k).fr 29):=ih.oz17
theorem ihz30{T:Txt K mg}(ih:Ok P w base T k):FnOk P w K mg base (CXE (Gof T) P w base) (2*k) T.fz30 T.dz30 ["_law_script","_law_many"] (spG (Gof T) (cfX fns sub0 k).cf (cfX fns sub0 k).fr 30):=ih.oz30
theorem ihz21{T:Txt K mg}(ih:Ok P w base T k):FnOk P w K mg base (CXE (Gof T) P w base) (2*k) T.fz21 T.dz21 ["_law_one","_law_two"] (spG (Gof T) (cfX fns sub0 k).cf (cfX fns sub0 k).fr 31):=ih.oz21
theorem ihz23{T:Txt K mg}(ih:Ok P w base T k):FnOk P w K mg base (CXE (Gof T) P w base) (2*k) T.fz23 T.dz23 ["_law_found","_law_due_here"] (spG (Gof T) (cfX fns sub0 k).cf (cfX fns sub0 k).fr 32):=ih.oz23
theorem ihz29{T:Txt K mg}(ih:Ok P w base T k):FnOk P w K mg base (CXE (Gof T) P w base) (2*k) T.fz29 T.dz29 ["_law_seed","_law_many","_law_far","_law_step"] (spG (Gof T) (cfX fns sub0 k).cf (cfX fns sub0 k).fr 33):=ih.oz29
theorem ihz31{T:Txt K mg}(ih:Ok P w base T k):FnOk P w K mg base (CXE (Gof T) P w base) (2*k) T.fz31 T.dz31 ["_law_row","_law_at_here","_law_many"] (spG (Gof T) (cfX fns sub0 k).cf (cfX fns sub0 k).fr 34):=ih.oz31
theorem ihz27{T:Txt K mg}(ih:Ok P w base T k):FnOk P w K mg base (CXE (Gof T) P w base) (2*k) T.fz27 T.dz27 ["_law_row","_law_many"] (spG (Gof T) (cfX fns sub0 k).cf (cfX fns sub0 k).fr 35):=ih.oz27
theorem ihz32{T:Txt K mg}(ih:Ok P w base T k):FnOk P w K mg base (CXE (Gof T) P w base) (2*k) T.fz32 T.dz32 ["_law_line","_law_cell"] (spG (Gof T) (cfX fns sub0 k).cf (cfX fns sub0 k).fr 36):=ih.oz32
theorem ihz24{T:Txt K mg}(ih:Ok P w base T k):FnOk P w K mg base (CXE (Gof T) P w base) (2*k) T.fz24 T.dz24 ["_law_a","_law_b","_law_c","_law_d"] (spG (Gof T) (cfX fns sub0 k).cf (cfX fns sub0 k).fr 37):=ih.oz24
theorem ihz34{T:Txt K mg}(ih:Ok P w base T k):FnOk P w K mg base (CXE (Gof T) P w base) (2*k) T.fz34 T.dz34 ["_law_one","_law_two"] (spG (Gof T) (cfX fns sub0 k).cf (cfX fns sub0 k).fr 38):=ih.oz34
theorem ihz18{T:Txt K mg}(ih:Ok P w base T k):FnOk P w K mg base (CXE (Gof T) P w base) (2*k) T.fz18 T.dz18 ["_law_line","_law_i","_law_j"] (spG (Gof T) (cfX fns sub0 k).cf (cfX fns sub0 k).fr 39):=ih.oz18
theorem ihz20{T:Txt K mg}(ih:Ok P w base T k):FnOk P w K mg base (CXE (Gof T) P w base) (2*k) T.fz20 T.dz20 ["_law_line"] (spG (Gof T) (cfX fns sub0 k).cf (cfX fns sub0 k).fr 40):=ih.oz20
theorem ihz22{T:Txt K mg}(ih:Ok P w base T k):FnOk P w K mg base (CXE (Gof T) P w base) (2*k) T.fz22 T.dz22 ["_law_row","_law_at_here","_law_many","_law_cell"] (spG (Gof T) (cfX fns sub0 k).cf (cfX fns sub0 k).fr 41):=ih.oz22
theorem ihz26{T:Txt K mg}(ih:Ok P w base T k):FnOk P w K mg base (CXE (Gof T) P w base) (2*k) T.fz26 T.dz26 ["_law_spot","_law_size"] (spG (Gof T) (cfX fns sub0 k).cf (cfX fns sub0 k).fr 42):=ih.oz26
theorem ihz28{T:Txt K mg}(ih:Ok P w base T k):FnOk P w K mg base (CXE (Gof T) P w base) (2*k) T.fz28 T.dz28 ["_law_spots_here","_law_kind","_law_cell"] (spG (Gof T) (cfX fns sub0 k).cf (cfX fns sub0 k).fr 43):=ih.oz28
theorem ihz25{T:Txt K mg}(ih:Ok P w base T k):FnOk P w K mg base (CXE (Gof T) P w base) (2*k) T.fz25 T.dz25 ["_law_row","_law_kind","_law_cell"] (spG (Gof T) (cfX fns sub0 k).cf (cfX fns sub0 k).fr 44):=ih.oz25
theorem ihz19{T:Txt K mg}(ih:Ok P w base T k):FnOk P w K mg base (CXE (Gof T) P w base) (2*k) T.fz19 T.dz19 ["_law_made"] (spG (Gof T) (cfX fns sub0 k).cf (cfX fns sub0 k).fr 45):=ih.oz19
theorem ihz33{T:Txt K mg}(ih:Ok P w base T k):FnOk P w K mg base (CXE (Gof T) P w base) (2*k) T.fz33 T.dz33 ["_law_book","_law_due_here"] (spG (Gof T) (cfX fns sub0 k).cf (cfX fns sub0 k).fr 46):=ih.oz33
theorem okz45(T:Txt K mg)(ih:Ok P w base T k):FnOk P w K mg base (CXE (Gof T) P w base) (2*(k+1)) T.fz45 T.dz45 ["spot","size"] (spG (Gof T) (run true fns sub0 whileL (k+1)) (frOf fns) 0):=by
 refine fn_okX T.tz45 scz45 rfl rfl rfl fun cdv A outer s H E hr=>?_
 have hu:=Nat.lt_of_le_of_lt (Nat.add_le_add_left (by decide:9≤64) _) hr.units
 have hp:=IP.passes_leave (X:=cxOf (CXE (Gof T) P w base) P w K mg base nmz45 "place" (zaab sz45) T.fz45 cdv A outer s H E) rfl
 exact(zaaa (qexp (xcall (ihz39 ih) hr T.mz39 T.kz39 T.bdz39 .nil rfl (wrc (wv 1) sR_nil)))
 (zaaa (sS_ifs (wct hu .lt (wv 1) sV_int) (zaaa (sS_ret (xcall (ihz44 ih) hr T.mz44 T.kz44 T.bdz44 .nil rfl (wrc (wv 0) (wrc (wsub (wv 0) sV_int) (wrc (wsub (wv 0) sV_int) (wrc (sV_neg (wv 1)) sR_nil))))))
 zaac) zaac)
 (zaaa (sS_ret (xcall (ihz44 ih) hr T.mz44 T.kz44 T.bdz44 .nil rfl (wrc (wv 0) (wrc (wsub (wv 0) sV_int) (wrc (wsub (wv 0) sV_int) (wrc (wv 1) sR_nil))))))
 zaac)))
theorem okz39(T:Txt K mg)(ih:Ok P w base T k):FnOk P w K mg base (CXE (Gof T) P w base) (2*(k+1)) T.fz39 T.dz39 ["size"] (spG (Gof T) (run true fns sub0 whileL (k+1)) (frOf fns) 1):=by
 refine fn_okX T.tz39 scz39 rfl rfl rfl fun cdv A outer s H E hr=>?_
 have hu:=Nat.lt_of_le_of_lt (Nat.add_le_add_left (by decide:9≤64) _) hr.units
 have hp:=IP.passes_leave (X:=cxOf (CXE (Gof T) P w base) P w K mg base nmz39 "check_size" (zaab sz39) T.fz39 cdv A outer s H E) rfl
 exact(zaaa (sS_ifs (PW.pt (ptb_or (wct hu .lt (wv 0) (xglb T.g_LEAST)) (zaa5 (wct hu .gt (wv 0) (xglb T.g_MOST))))) (zaaa (yraise (emz2 T) (eqz2 T))
 zaac) zaac)
 zaac)
theorem okz44(T:Txt K mg)(ih:Ok P w base T k):FnOk P w K mg base (CXE (Gof T) P w base) (2*(k+1)) T.fz44 T.dz44 ["spot","across","up","steps"] (spG (Gof T) (run true fns sub0 whileL (k+1)) (frOf fns) 2):=by
 refine fn_okX T.tz44 scz44 rfl rfl rfl fun cdv A outer s H E hr=>?_
 have hu:=Nat.lt_of_le_of_lt (Nat.add_le_add_left (by decide:9≤64) _) hr.units
 have hp:=IP.passes_leave (X:=cxOf (CXE (Gof T) P w base) P w K mg base nmz44 "moved" (zaab sz44) T.fz44 cdv A outer s H E) rfl
 exact(zaaa (sS_ret (wtup (wac (sV_bin .add (wsub (wv 0) sV_int) (sV_bin .mul (wv 3) (wv 1))) (wac (sV_bin .add (wsub (wv 0) sV_int) (sV_bin .mul (wv 3) (wv 2))) sA_nil))))
 zaac)
theorem okz3(T:Txt K mg)(ih:Ok P w base T k):FnOk P w K mg base (CXE (Gof T) P w base) (2*(k+1)) T.fz3 T.dz3 ["self"] (spG (Gof T) (run true fns sub0 whileL (k+1)) (frOf fns) 3):=by
 refine fn_okX T.tz3 scz3 rfl rfl rfl fun cdv A outer s H E hr=>?_
 have hu:=Nat.lt_of_le_of_lt (Nat.add_le_add_left (by decide:9≤64) _) hr.units
 have hp:=IP.passes_leave (X:=cxOf (CXE (Gof T) P w base) P w K mg base nmz3 "Book.__init__" (zaab sz3) T.fz3 cdv A outer s H E) rfl
 exact(zaaa (ysetF (hnd:=zad1 T) (hlen:=zadl T) (zaan T) (zaaz T) (wv 0) sV_int)
 (zaaa (ysetF (hnd:=zad1 T) (hlen:=zadl T) (zaan T) (zaal T) (wv 0) (xcell (wlstO sA_nil)))
 (zaaa (ysetF (hnd:=zad1 T) (hlen:=zadl T) (zaan T) (zaaq T) (wv 0) (xcell (wlstO sA_nil)))
 (zaaa (ysetF (hnd:=zad1 T) (hlen:=zadl T) (zaan T) (zad3 T) (wv 0) (xcell (wlstO sA_nil)))
 zaac))))
theorem okz4(T:Txt K mg)(ih:Ok P w base T k):FnOk P w K mg base (CXE (Gof T) P w base) (2*(k+1)) T.fz4 T.dz4 ["self","corners","marks"] (spG (Gof T) (run true fns sub0 whileL (k+1)) (frOf fns) 4):=by
 refine fn_okX T.tz4 scz4 rfl rfl rfl fun cdv A outer s H E hr=>?_
 have hu:=Nat.lt_of_le_of_lt (Nat.add_le_add_left (by decide:9≤64) _) hr.units
 have hp:=IP.passes_leave (X:=cxOf (CXE (Gof T) P w base) P w K mg base nmz4 "Book.add_piece" (zaab sz4) T.fz4 cdv A outer s H E) rfl
 exact(zaaa (sS_ifs (wct hu .ge (wlen (T.b_len) (xfld (zaan T) (zaal T) (wv 0))) (xglb T.g_MOST_PIECES)) (zaaa (yraise (emz14 T) (eqz14 T))
 zaac) zaac)
 (zaaa (qasg ndz4 (sV_ife (wct hu .isN (wv 2) sV_non) (sV_of (zaa2 (f:=fun σ st=>one (ev (cfX fns sub0 k) ez4_C0 .v σ st)) rfl (zaav (sc:=(zaab sz4).names) (N:=nmz4) (N':=nmz4_c0) rfl rfl rfl rfl (by decide +kernel)) (by decide) (wpl (wv 1)) (fun _ _ _ _ _=>(wg1 ndz4_c0)) (fun _ _ _ _ _=>zaa4 (wlst sA_nil)) (fun _=>rfl) (fun _ _=>rfl)) fun _ _ _ _ h=>zabd h) (sV_of (zaa2 (f:=fun σ st=>one (ev (cfX fns sub0 k) ez4_C1 .v σ st)) rfl (zaav (sc:=(zaab sz4).names) (N:=nmz4) (N':=nmz4_c1) rfl rfl rfl rfl (by decide +kernel)) (by decide) (wpl (wv 2)) (fun _ _ _ _ _=>(wg1 ndz4_c1)) (fun _ _ _ _ _=>zaa4 (wlist (T.b_list) (wv 5))) (fun _=>rfl) (fun _ _=>rfl)) fun _ _ _ _ h=>zabd h)))
 (zaaa (qexp (xcall (ihz38 ih) hr T.mz38 T.kz38 T.bdz38 .nil rfl (wrc (wv 1) (wrc (wv 3) sR_nil))))
 (zaaa (yappL (xfld (zaan T) (zaal T) (wv 0)) (xcell (wlistO (T.b_list) (wv 1))))
 (zaaa (yappL (xfld (zaan T) (zaaq T) (wv 0)) (wv 3))
 (zaaa (sS_ret (sV_bin .sub (wlen (T.b_len) (xfld (zaan T) (zaal T) (wv 0))) sV_int))
 zaac))))))
theorem okz12(T:Txt K mg)(ih:Ok P w base T k):FnOk P w K mg base (CXE (Gof T) P w base) (2*(k+1)) T.fz12 T.dz12 ["self","piece","corner","greater","lesser"] (spG (Gof T) (run true fns sub0 whileL (k+1)) (frOf fns) 5):=by
 refine fn_okX T.tz12 scz12 rfl rfl rfl fun cdv A outer s H E hr=>?_
 have hu:=Nat.lt_of_le_of_lt (Nat.add_le_add_left (by decide:9≤64) _) hr.units
 have hp:=IP.passes_leave (X:=cxOf (CXE (Gof T) P w base) P w K mg base nmz12 "Book.set_moves" (zaab sz12) T.fz12 cdv A outer s H E) rfl
 exact(zaaa (qexp (xcall (ihz40 ih) hr T.mz40 T.kz40 T.bdz40 .nil rfl (wrc (wv 1) (wrc (xfld (zaan T) (zaal T) (wv 0)) sR_nil))))
 (zaaa (qasg ndz12 (wsub (xfld (zaan T) (zaal T) (wv 0)) (wv 1)))
 (zaaa (qexp (xcall (ihz40 ih) hr T.mz40 T.kz40 T.bdz40 .nil rfl (wrc (wv 2) (wrc (wv 5) sR_nil))))
 (zaaa (qasg ndz12 (wtup (wac (wsub (wv 3) sV_int) (wac (wsub (wv 3) sV_int) (wac (wsub (wv 4) sV_int) (wac (wsub (wv 4) sV_int) sA_nil))))))
 (zaaa (sS_ifs (sT_not (wtr (xcall (ihz36 ih) hr T.mz36 T.kz36 T.bdz36 .nil rfl (wrc (wv 6) (wrc (xglb T.g_LONGEST_MOVE) sR_nil))))) (zaaa (yraise (emz0 T) (eqz0 T))
 zaac) zaac)
 (zaaa (yputL (sV_bin .add (zacr (wsub (wv 5) (wv 2)) sV_int) (wv 6)) (wv 5) (wv 2))
 zaac))))))
theorem okz7(T:Txt K mg)(ih:Ok P w base T k):FnOk P w K mg base (CXE (Gof T) P w base) (2*(k+1)) T.fz7 T.dz7 ["self","steps"] (spG (Gof T) (run true fns sub0 whileL (k+1)) (frOf fns) 6):=by
 refine fn_okX T.tz7 scz7 rfl rfl rfl fun cdv A outer s H E hr=>?_
 have hu:=Nat.lt_of_le_of_lt (Nat.add_le_add_left (by decide:9≤64) _) hr.units
 have hp:=IP.passes_leave (X:=cxOf (CXE (Gof T) P w base) P w K mg base nmz7 "Book.let_out" (zaab sz7) T.fz7 cdv A outer s H E) rfl
 exact(zaaa (sS_ret (xmeth (hnm:=nnz5 T) (zaan T) (mtz5 T) (ihz5 ih) hr T.bdz5 .nil rfl (wv 0) (wrc (wv 1) (wrc (wv 1) sR_nil))))
 zaac)
theorem okz5(T:Txt K mg)(ih:Ok P w base T k):FnOk P w K mg base (CXE (Gof T) P w base) (2*(k+1)) T.fz5 T.dz5 ["self","steps","change"] (spG (Gof T) (run true fns sub0 whileL (k+1)) (frOf fns) 7):=by
 refine fn_okX T.tz5 scz5 rfl rfl rfl fun cdv A outer s H E hr=>?_
 have hu:=Nat.lt_of_le_of_lt (Nat.add_le_add_left (by decide:9≤64) _) hr.units
 have hp:=IP.passes_leave (X:=cxOf (CXE (Gof T) P w base) P w K mg base nmz5 "Book.change_size" (zaab sz5) T.fz5 cdv A outer s H E) rfl
 exact(zaaa (sS_ifs (wct hu .lt (wv 1) sV_int) (zaaa (yraise (emz2 T) (eqz2 T))
 zaac) zaac)
 (zaaa (qexp (xcall (ihz39 ih) hr T.mz39 T.kz39 T.bdz39 .nil rfl (wrc (sV_bin .add (xfld (zaan T) (zaaz T) (wv 0)) (wv 2)) sR_nil)))
 (zaaa (ysetF (hnd:=zad1 T) (hlen:=zadl T) (zaan T) (zaaz T) (wv 0) (sV_bin .add (xfld (zaan T) (zaaz T) (wv 0)) (wv 2)))
 (zaaa (sS_ret (xfld (zaan T) (zaaz T) (wv 0)))
 zaac))))
theorem okz10(T:Txt K mg)(ih:Ok P w base T k):FnOk P w K mg base (CXE (Gof T) P w base) (2*(k+1)) T.fz10 T.dz10 ["self"] (spG (Gof T) (run true fns sub0 whileL (k+1)) (frOf fns) 8):=by
 refine fn_okX T.tz10 scz10 rfl rfl rfl fun cdv A outer s H E hr=>?_
 have hu:=Nat.lt_of_le_of_lt (Nat.add_le_add_left (by decide:9≤64) _) hr.units
 have hp:=IP.passes_leave (X:=cxOf (CXE (Gof T) P w base) P w K mg base nmz10 "Book.piece_count" (zaab sz10) T.fz10 cdv A outer s H E) rfl
 exact(zaaa (sS_ret (wlen (T.b_len) (xfld (zaan T) (zaal T) (wv 0))))
 zaac)
theorem okz13(T:Txt K mg)(ih:Ok P w base T k):FnOk P w K mg base (CXE (Gof T) P w base) (2*(k+1)) T.fz13 T.dz13 ["self","piece"] (spG (Gof T) (run true fns sub0 whileL (k+1)) (frOf fns) 9):=by
 refine fn_okX T.tz13 scz13 rfl rfl rfl fun cdv A outer s H E hr=>?_
 have hu:=Nat.lt_of_le_of_lt (Nat.add_le_add_left (by decide:9≤64) _) hr.units
 have hp:=IP.passes_leave (X:=cxOf (CXE (Gof T) P w base) P w K mg base nmz13 "Book.spots" (zaab sz13) T.fz13 cdv A outer s H E) rfl
 exact(zaaa (qexp (xcall (ihz40 ih) hr T.mz40 T.kz40 T.bdz40 .nil rfl (wrc (wv 1) (wrc (xfld (zaan T) (zaal T) (wv 0)) sR_nil))))
 (zaaa (sS_ret (wlist (T.b_list) (wsub (xfld (zaan T) (zaal T) (wv 0)) (wv 1))))
 zaac))
theorem okz8(T:Txt K mg)(ih:Ok P w base T k):FnOk P w K mg base (CXE (Gof T) P w base) (2*(k+1)) T.fz8 T.dz8 ["self","piece","side"] (spG (Gof T) (run true fns sub0 whileL (k+1)) (frOf fns) 10):=by
 refine fn_okX T.tz8 scz8 rfl rfl rfl fun cdv A outer s H E hr=>?_
 have hu:=Nat.lt_of_le_of_lt (Nat.add_le_add_left (by decide:9≤64) _) hr.units
 have hp:=IP.passes_leave (X:=cxOf (CXE (Gof T) P w base) P w K mg base nmz8 "Book.mark_spots" (zaab sz8) T.fz8 cdv A outer s H E) rfl
 exact(zaaa (qexp (xcall (ihz40 ih) hr T.mz40 T.kz40 T.bdz40 .nil rfl (wrc (wv 1) (wrc (xfld (zaan T) (zaaq T) (wv 0)) sR_nil))))
 (zaaa (qexp (xcall (ihz40 ih) hr T.mz40 T.kz40 T.bdz40 .nil rfl (wrc (wv 2) (wrc (wsub (xfld (zaan T) (zaaq T) (wv 0)) (wv 1)) sR_nil))))
 (zaaa (sS_ret (wlist (T.b_list) (wsub (wsub (xfld (zaan T) (zaaq T) (wv 0)) (wv 1)) (wv 2))))
 zaac)))
theorem okz6(T:Txt K mg)(ih:Ok P w base T k):FnOk P w K mg base (CXE (Gof T) P w base) (2*(k+1)) T.fz6 T.dz6 ["self","piece","size"] (spG (Gof T) (run true fns sub0 whileL (k+1)) (frOf fns) 11):=by
 refine fn_okX T.tz6 scz6 rfl rfl rfl fun cdv A outer s H E hr=>?_
 have hu:=Nat.lt_of_le_of_lt (Nat.add_le_add_left (by decide:9≤64) _) hr.units
 have hp:=IP.passes_leave (X:=cxOf (CXE (Gof T) P w base) P w K mg base nmz6 "Book.corners" (zaab sz6) T.fz6 cdv A outer s H E) rfl
 exact(zaaa (sS_ret (xmeth (hnm:=nnz11 T) (zaan T) (mtz11 T) (ihz11 ih) hr T.bdz11 .nil rfl (wv 0) (wrc (xmeth (hnm:=nnz13 T) (zaan T) (mtz13 T) (ihz13 ih) hr T.bdz13 .nil rfl (wv 0) (wrc (wv 1) sR_nil)) (wrc (wv 2) sR_nil))))
 zaac)
theorem okz9(T:Txt K mg)(ih:Ok P w base T k):FnOk P w K mg base (CXE (Gof T) P w base) (2*(k+1)) T.fz9 T.dz9 ["self","piece","side","size"] (spG (Gof T) (run true fns sub0 whileL (k+1)) (frOf fns) 12):=by
 refine fn_okX T.tz9 scz9 rfl rfl rfl fun cdv A outer s H E hr=>?_
 have hu:=Nat.lt_of_le_of_lt (Nat.add_le_add_left (by decide:9≤64) _) hr.units
 have hp:=IP.passes_leave (X:=cxOf (CXE (Gof T) P w base) P w K mg base nmz9 "Book.marks" (zaab sz9) T.fz9 cdv A outer s H E) rfl
 exact(zaaa (sS_ret (xmeth (hnm:=nnz11 T) (zaan T) (mtz11 T) (ihz11 ih) hr T.bdz11 .nil rfl (wv 0) (wrc (xmeth (hnm:=nnz8 T) (zaan T) (mtz8 T) (ihz8 ih) hr T.bdz8 .nil rfl (wv 0) (wrc (wv 1) (wrc (wv 2) sR_nil))) (wrc (wv 3) sR_nil))))
 zaac)
theorem okz11(T:Txt K mg)(ih:Ok P w base T k):FnOk P w K mg base (CXE (Gof T) P w base) (2*(k+1)) T.fz11 T.dz11 ["self","spots","size"] (spG (Gof T) (run true fns sub0 whileL (k+1)) (frOf fns) 13):=by
 refine fn_okX T.tz11 scz11 rfl rfl rfl fun cdv A outer s H E hr=>?_
 have hu:=Nat.lt_of_le_of_lt (Nat.add_le_add_left (by decide:9≤64) _) hr.units
 have hp:=IP.passes_leave (X:=cxOf (CXE (Gof T) P w base) P w K mg base nmz11 "Book.places" (zaab sz11) T.fz11 cdv A outer s H E) rfl
 exact(zaaa (qasg ndz11 (sV_ife (wct hu .isN (wv 2) sV_non) (xfld (zaan T) (zaaz T) (wv 0)) (wv 2)))
 (zaaa (qexp (xcall (ihz39 ih) hr T.mz39 T.kz39 T.bdz39 .nil rfl (wrc (wv 3) sR_nil)))
 (zaaa (sS_ret (sV_of (zaa2 (f:=fun σ st=>one (ev (cfX fns sub0 k) zagm .v σ st)) rfl (zaav (sc:=(zaab sz11).names) (N:=nmz11) (N':=zahg) rfl rfl rfl rfl (by decide +kernel)) (by decide) (wpl (wv 1)) (fun _ _ _ _ _=>(wg1 ndz11_c0)) (fun _ _ _ _ _=>zaa4 (xcall (ihz45 ih) hr T.mz45 T.kz45 T.bdz45 .nil rfl (wrc (wv 4) (wrc (wv 3) sR_nil)))) (fun _=>rfl) (fun _ _=>rfl)) fun _ _ _ _ h=>zabd h))
 zaac)))
theorem okz40(T:Txt K mg)(ih:Ok P w base T k):FnOk P w K mg base (CXE (Gof T) P w base) (2*(k+1)) T.fz40 T.dz40 ["number","those"] (spG (Gof T) (run true fns sub0 whileL (k+1)) (frOf fns) 14):=by
 refine fn_okX T.tz40 scz40 rfl rfl rfl fun cdv A outer s H E hr=>?_
 have hu:=Nat.lt_of_le_of_lt (Nat.add_le_add_left (by decide:9≤64) _) hr.units
 have hp:=IP.passes_leave (X:=cxOf (CXE (Gof T) P w base) P w K mg base nmz40 "check_there" (zaab sz40) T.fz40 cdv A outer s H E) rfl
 exact(zaaa (sS_ifs (PW.pt (ptb_or (wct hu .lt (wv 0) sV_int) (zaa5 (wct hu .ge (wv 0) (wlen (T.b_len) (wv 1)))))) (zaaa (yraise (emz16 T) (eqz16 T))
 zaac) zaac)
 zaac)
theorem okz38(T:Txt K mg)(ih:Ok P w base T k):FnOk P w K mg base (CXE (Gof T) P w base) (2*(k+1)) T.fz38 T.dz38 ["corners","by_side"] (spG (Gof T) (run true fns sub0 whileL (k+1)) (frOf fns) 15):=by
 refine fn_okX T.tz38 scz38 rfl rfl rfl fun cdv A outer s H E hr=>?_
 have hu:=Nat.lt_of_le_of_lt (Nat.add_le_add_left (by decide:9≤64) _) hr.units
 have hp:=IP.passes_leave (X:=cxOf (CXE (Gof T) P w base) P w K mg base nmz38 "check_piece" (zaab sz38) T.fz38 cdv A outer s H E) rfl
 exact(zaaa (sS_ifs (PW.pt (ptb_or (wct hu .lt (wlen (T.b_len) (wv 0)) (xglb T.g_LEAST_CORNERS)) (zaa5 (wct hu .gt (wlen (T.b_len) (wv 0)) (xglb T.g_MOST_CORNERS))))) (zaaa (yraise (emz1 T) (eqz1 T))
 zaac) zaac)
 (zaaa (sS_ifs (wct hu .ne (wlen (T.b_len) (wv 1)) (wlen (T.b_len) (wv 0))) (zaaa (yraise (emz1 T) (eqz1 T))
 zaac) zaac)
 (zaaa (sS_ifs (wtr (wany (T.b_any) (sV_of (zaa2 (f:=fun σ st=>one (ev (cfX fns sub0 k) zag0 .v σ st)) rfl (zaav (sc:=(zaab sz38).names) (N:=nmz38) (N':=zahp) rfl rfl rfl rfl (by decide +kernel)) (by decide) (wpl (wv 1)) (fun _ _ _ _ _=>(wg1 ndz38_c0)) (fun _ _ _ _ _=>zaa4 (wcv hu .gt (wlen (T.b_len) (wv 2)) (xglb T.g_MOST_MARKS))) (fun _=>rfl) (fun _ _=>rfl)) fun _ _ _ _ h=>zabd h))) (zaaa (yraise (emz1 T) (eqz1 T))
 zaac) zaac)
 (zaaa (sS_ifs (sT_not (wtr (wall (T.b_all) (sV_of (zaa2 (f:=fun σ st=>one (ev (cfX fns sub0 k) zahy .v σ st)) rfl (zaav (sc:=(zaab sz38).names) (N:=nmz38) (N':=zags) rfl rfl rfl rfl (by decide +kernel)) (by decide) (wpl (sV_bin .add (wlst (wac (wv 0) sA_nil)) (wv 1))) (fun _ _ _ _ _=>(wg1 ndz38_c1)) (fun _ _ _ _ _=>zaa4 (xcall (ihz51 ih) hr T.mz51 T.kz51 T.bdz51 .nil rfl (wrc (wv 3) sR_nil))) (fun _=>rfl) (fun _ _=>rfl)) fun _ _ _ _ h=>zabd h)))) (zaaa (yraise (emz1 T) (eqz1 T))
 zaac) zaac)
 zaac))))
theorem okz51(T:Txt K mg)(ih:Ok P w base T k):FnOk P w K mg base (CXE (Gof T) P w base) (2*(k+1)) T.fz51 T.dz51 ["spots"] (spG (Gof T) (run true fns sub0 whileL (k+1)) (frOf fns) 16):=by
 refine fn_okX T.tz51 scz51 rfl rfl rfl fun cdv A outer s H E hr=>?_
 have hu:=Nat.lt_of_le_of_lt (Nat.add_le_add_left (by decide:9≤64) _) hr.units
 have hp:=IP.passes_leave (X:=cxOf (CXE (Gof T) P w base) P w K mg base nmz51 "spots_fit" (zaab sz51) T.fz51 cdv A outer s H E) rfl
 exact(zaaa (sS_ret (wall (T.b_all) (sV_of (zaa2 (f:=fun σ st=>one (ev (cfX fns sub0 k) zagn .v σ st)) rfl (zaav (sc:=(zaab sz51).names) (N:=nmz51) (N':=zagk) rfl rfl rfl rfl (by decide +kernel)) (by decide) (wpl (wv 0)) (fun _ _ _ _ _=>(wg1 ndz51_c0)) (fun _ _ _ _ _=>zaa4 (sV_and (xcall (ihz36 ih) hr T.mz36 T.kz36 T.bdz36 .nil rfl (wrc (zacr (wv 1) sV_int) (wrc (xglb T.g_FARTHEST) sR_nil))) (wone (xcall (ihz36 ih) hr T.mz36 T.kz36 T.bdz36 .nil rfl (wrc (zabv (wv 1) sV_int) (wrc (xglb T.g_LONGEST_MOVE) sR_nil)))))) (fun _=>rfl) (fun _ _=>rfl)) fun _ _ _ _ h=>zabd h)))
 zaac)
theorem okz36(T:Txt K mg)(ih:Ok P w base T k):FnOk P w K mg base (CXE (Gof T) P w base) (2*(k+1)) T.fz36 T.dz36 ["numbers","bound"] (spG (Gof T) (run true fns sub0 whileL (k+1)) (frOf fns) 17):=by
 refine fn_okX T.tz36 scz36 rfl rfl rfl fun cdv A outer s H E hr=>?_
 have hu:=Nat.lt_of_le_of_lt (Nat.add_le_add_left (by decide:9≤64) _) hr.units
 have hp:=IP.passes_leave (X:=cxOf (CXE (Gof T) P w base) P w K mg base nmz36 "all_within" (zaab sz36) T.fz36 cdv A outer s H E) rfl
 exact(zaaa (sS_ret (wall (T.b_all) (sV_of (zaa2 (f:=fun σ st=>one (ev (cfX fns sub0 k) zaf6 .v σ st)) rfl (zaav (sc:=(zaab sz36).names) (N:=nmz36) (N':=zagv) rfl rfl rfl rfl (by decide +kernel)) (by decide) (wpl (wv 0)) (fun _ _ _ _ _=>(wg1 ndz36_c0)) (fun _ _ _ _ _=>zaa4 (wcv hu .le (wabs (T.b_abs) (wv 2)) (wv 1))) (fun _=>rfl) (fun _ _=>rfl)) fun _ _ _ _ h=>zabd h)))
 zaac)
theorem okz41(T:Txt K mg)(ih:Ok P w base T k):FnOk P w K mg base (CXE (Gof T) P w base) (2*(k+1)) T.fz41 T.dz41 ["corners"] (spG (Gof T) (run true fns sub0 whileL (k+1)) (frOf fns) 18):=by
 refine fn_okX T.tz41 scz41 rfl rfl rfl fun cdv A outer s H E hr=>?_
 have hu:=Nat.lt_of_le_of_lt (Nat.add_le_add_left (by decide:9≤64) _) hr.units
 have hp:=IP.passes_leave (X:=cxOf (CXE (Gof T) P w base) P w K mg base nmz41 "crossing" (zaab sz41) T.fz41 cdv A outer s H E) rfl
 exact(zaaa (yfor hp (wr1 (T.b_range) (wlen (T.b_len) (wv 0))) (wg1 ndz41) (zaaa (yfor hp (wr2 (T.b_range) (wv 1) (wlen (T.b_len) (wv 0))) (wg1 ndz41) (zaaa (sS_ifs (wtr (xcall (ihz49 ih) hr T.mz49 T.kz49 T.bdz49 .nil rfl (wrc (wv 0) (wrc (wv 1) (wrc (wv 2) sR_nil))))) (zaaa (sS_ret (wtup (wac (wv 1) (wac (wv 2) sA_nil))))
 zaac) zaac)
 zaac))
 zaac))
 (zaaa (sS_ret sV_non)
 zaac))
theorem okz49(T:Txt K mg)(ih:Ok P w base T k):FnOk P w K mg base (CXE (Gof T) P w base) (2*(k+1)) T.fz49 T.dz49 ["corners","i","j"] (spG (Gof T) (run true fns sub0 whileL (k+1)) (frOf fns) 19):=by
 refine fn_okX T.tz49 scz49 rfl rfl rfl fun cdv A outer s H E hr=>?_
 have hu:=Nat.lt_of_le_of_lt (Nat.add_le_add_left (by decide:9≤64) _) hr.units
 have hp:=IP.passes_leave (X:=cxOf (CXE (Gof T) P w base) P w K mg base nmz49 "sides_cross" (zaab sz49) T.fz49 cdv A outer s H E) rfl
 exact(zaaa (qasg ndz49 (xcall (ihz48 ih) hr T.mz48 T.kz48 T.bdz48 .nil rfl (wrc (wv 0) (wrc (wv 1) sR_nil))))
 (zaaa (qasg ndz49 (xcall (ihz48 ih) hr T.mz48 T.kz48 T.bdz48 .nil rfl (wrc (wv 0) (wrc (wv 2) sR_nil))))
 (zaaa (sS_ifs (wct hu .eq (wv 1) (wv 2)) (zaaa (sS_ret (wcv hu .eq (wsub (wv 3) sV_int) (wsub (wv 3) sV_int)))
 zaac) zaac)
 (zaaa (sS_ifs (wct hu .eq (wv 2) (sV_bin .add (wv 1) sV_int)) (zaaa (sS_ret (xcall (ihz47 ih) hr T.mz47 T.kz47 T.bdz47 .nil rfl (wrc (wsub (wv 3) sV_int) (wrc (wsub (wv 3) sV_int) (wrc (wsub (wv 4) sV_int) sR_nil)))))
 zaac) zaac)
 (zaaa (sS_ifs (PW.pt (zaf4 (wct hu .eq (sV_bin .add (wv 2) sV_int) (wlen (T.b_len) (wv 0))) (zab7 (wct hu .eq (wv 1) sV_int)))) (zaaa (sS_ret (xcall (ihz47 ih) hr T.mz47 T.kz47 T.bdz47 .nil rfl (wrc (wsub (wv 3) sV_int) (wrc (wsub (wv 3) sV_int) (wrc (wsub (wv 4) sV_int) sR_nil)))))
 zaac) zaac)
 (zaaa (sS_ret (xcall (ihz43 ih) hr T.mz43 T.kz43 T.bdz43 .nil rfl (wrc (wv 3) (wrc (wv 4) sR_nil))))
 zaac))))))
theorem okz48(T:Txt K mg)(ih:Ok P w base T k):FnOk P w K mg base (CXE (Gof T) P w base) (2*(k+1)) T.fz48 T.dz48 ["corners","k"] (spG (Gof T) (run true fns sub0 whileL (k+1)) (frOf fns) 20):=by
 refine fn_okX T.tz48 scz48 rfl rfl rfl fun cdv A outer s H E hr=>?_
 have hu:=Nat.lt_of_le_of_lt (Nat.add_le_add_left (by decide:9≤64) _) hr.units
 have hp:=IP.passes_leave (X:=cxOf (CXE (Gof T) P w base) P w K mg base nmz48 "side_ends" (zaab sz48) T.fz48 cdv A outer s H E) rfl
 exact(zaaa (sS_ret (wtup (wac (wsub (wv 0) (wv 1)) (wac (wsub (wv 0) (sV_bin .mod (sV_bin .add (wv 1) sV_int) (wlen (T.b_len) (wv 0)))) sA_nil))))
 zaac)
theorem okz47(T:Txt K mg)(ih:Ok P w base T k):FnOk P w K mg base (CXE (Gof T) P w base) (2*(k+1)) T.fz47 T.dz47 ["corner","one","two"] (spG (Gof T) (run true fns sub0 whileL (k+1)) (frOf fns) 21):=by
 refine fn_okX T.tz47 scz47 rfl rfl rfl fun cdv A outer s H E hr=>?_
 have hu:=Nat.lt_of_le_of_lt (Nat.add_le_add_left (by decide:9≤64) _) hr.units
 have hp:=IP.passes_leave (X:=cxOf (CXE (Gof T) P w base) P w K mg base nmz47 "run_together" (zaab sz47) T.fz47 cdv A outer s H E) rfl
 exact(zaaa (sS_ret (sV_and (wcv hu .eq (xcall (ihz52 ih) hr T.mz52 T.kz52 T.bdz52 .nil rfl (wrc (wv 0) (wrc (wv 1) (wrc (wv 2) sR_nil)))) sV_int) (wone (wcv hu .gt (xcall (ihz37 ih) hr T.mz37 T.kz37 T.bdz37 .nil rfl (wrc (wv 0) (wrc (wv 1) (wrc (wv 2) sR_nil)))) sV_int))))
 zaac)
theorem okz43(T:Txt K mg)(ih:Ok P w base T k):FnOk P w K mg base (CXE (Gof T) P w base) (2*(k+1)) T.fz43 T.dz43 ["one","two"] (spG (Gof T) (run true fns sub0 whileL (k+1)) (frOf fns) 22):=by
 refine fn_okX T.tz43 scz43 rfl rfl rfl fun cdv A outer s H E hr=>?_
 have hu:=Nat.lt_of_le_of_lt (Nat.add_le_add_left (by decide:9≤64) _) hr.units
 have hp:=IP.passes_leave (X:=cxOf (CXE (Gof T) P w base) P w K mg base nmz43 "have_common_point" (zaab sz43) T.fz43 cdv A outer s H E) rfl
 exact(zaaa (sS_ifs (PW.pt (ptb_or (sT_not (wtr (xcall (ihz50 ih) hr T.mz50 T.kz50 T.bdz50 .nil rfl (wrc (wv 0) (wrc (wv 1) (wrc sV_int sR_nil)))))) (zaa5 (sT_not (wtr (xcall (ihz50 ih) hr T.mz50 T.kz50 T.bdz50 .nil rfl (wrc (wv 0) (wrc (wv 1) (wrc sV_int sR_nil))))))))) (zaaa (sS_ret sV_bl)
 zaac) zaac)
 (zaaa (sS_ret (sV_and (xcall (ihz46 ih) hr T.mz46 T.kz46 T.bdz46 .nil rfl (wrc (wv 0) (wrc (wv 1) sR_nil))) (wone (xcall (ihz46 ih) hr T.mz46 T.kz46 T.bdz46 .nil rfl (wrc (wv 1) (wrc (wv 0) sR_nil))))))
 zaac))
theorem okz50(T:Txt K mg)(ih:Ok P w base T k):FnOk P w K mg base (CXE (Gof T) P w base) (2*(k+1)) T.fz50 T.dz50 ["one","two","axis"] (spG (Gof T) (run true fns sub0 whileL (k+1)) (frOf fns) 23):=by
 refine fn_okX T.tz50 scz50 rfl rfl rfl fun cdv A outer s H E hr=>?_
 have hu:=Nat.lt_of_le_of_lt (Nat.add_le_add_left (by decide:9≤64) _) hr.units
 have hp:=IP.passes_leave (X:=cxOf (CXE (Gof T) P w base) P w K mg base nmz50 "spans_meet" (zaab sz50) T.fz50 cdv A outer s H E) rfl
 exact(zaaa (qasg ndz50 (wsorted (T.b_sorted) (wlst (wac (wsub (wsub (wv 0) sV_int) (wv 2)) (wac (wsub (wsub (wv 0) sV_int) (wv 2)) sA_nil)))))
 (zaaa (qasg ndz50 (wsorted (T.b_sorted) (wlst (wac (wsub (wsub (wv 1) sV_int) (wv 2)) (wac (wsub (wsub (wv 1) sV_int) (wv 2)) sA_nil)))))
 (zaaa (sS_ret (sV_and (wcv hu .le (wsub (wv 3) sV_int) (wsub (wv 4) sV_int)) (wone (wcv hu .le (wsub (wv 4) sV_int) (wsub (wv 3) sV_int)))))
 zaac)))
theorem okz46(T:Txt K mg)(ih:Ok P w base T k):FnOk P w K mg base (CXE (Gof T) P w base) (2*(k+1)) T.fz46 T.dz46 ["side","line"] (spG (Gof T) (run true fns sub0 whileL (k+1)) (frOf fns) 24):=by
 refine fn_okX T.tz46 scz46 rfl rfl rfl fun cdv A outer s H E hr=>?_
 have hu:=Nat.lt_of_le_of_lt (Nat.add_le_add_left (by decide:9≤64) _) hr.units
 have hp:=IP.passes_leave (X:=cxOf (CXE (Gof T) P w base) P w K mg base nmz46 "reaches_across" (zaab sz46) T.fz46 cdv A outer s H E) rfl
 exact(zaaa (sS_ret (wcv hu .le (sV_bin .mul (xcall (ihz52 ih) hr T.mz52 T.kz52 T.bdz52 .nil rfl (wrc (wsub (wv 1) sV_int) (wrc (wsub (wv 1) sV_int) (wrc (wsub (wv 0) sV_int) sR_nil)))) (xcall (ihz52 ih) hr T.mz52 T.kz52 T.bdz52 .nil rfl (wrc (wsub (wv 1) sV_int) (wrc (wsub (wv 1) sV_int) (wrc (wsub (wv 0) sV_int) sR_nil))))) sV_int))
 zaac)
theorem okz52(T:Txt K mg)(ih:Ok P w base T k):FnOk P w K mg base (CXE (Gof T) P w base) (2*(k+1)) T.fz52 T.dz52 ["start","one","two"] (spG (Gof T) (run true fns sub0 whileL (k+1)) (frOf fns) 25):=by
 refine fn_okX T.tz52 scz52 rfl rfl rfl fun cdv A outer s H E hr=>?_
 have hu:=Nat.lt_of_le_of_lt (Nat.add_le_add_left (by decide:9≤64) _) hr.units
 have hp:=IP.passes_leave (X:=cxOf (CXE (Gof T) P w base) P w K mg base nmz52 "turn" (zaab sz52) T.fz52 cdv A outer s H E) rfl
 exact(zaaa (sS_ret (sV_bin .sub (sV_bin .mul (sV_bin .sub (wsub (wv 1) sV_int) (wsub (wv 0) sV_int)) (sV_bin .sub (wsub (wv 2) sV_int) (wsub (wv 0) sV_int))) (sV_bin .mul (sV_bin .sub (wsub (wv 1) sV_int) (wsub (wv 0) sV_int)) (sV_bin .sub (wsub (wv 2) sV_int) (wsub (wv 0) sV_int)))))
 zaac)
theorem okz37(T:Txt K mg)(ih:Ok P w base T k):FnOk P w K mg base (CXE (Gof T) P w base) (2*(k+1)) T.fz37 T.dz37 ["start","one","two"] (spG (Gof T) (run true fns sub0 whileL (k+1)) (frOf fns) 26):=by
 refine fn_okX T.tz37 scz37 rfl rfl rfl fun cdv A outer s H E hr=>?_
 have hu:=Nat.lt_of_le_of_lt (Nat.add_le_add_left (by decide:9≤64) _) hr.units
 have hp:=IP.passes_leave (X:=cxOf (CXE (Gof T) P w base) P w K mg base nmz37 "along" (zaab sz37) T.fz37 cdv A outer s H E) rfl
 exact(zaaa (sS_ret (sV_bin .add (sV_bin .mul (sV_bin .sub (wsub (wv 1) sV_int) (wsub (wv 0) sV_int)) (sV_bin .sub (wsub (wv 2) sV_int) (wsub (wv 0) sV_int))) (sV_bin .mul (sV_bin .sub (wsub (wv 1) sV_int) (wsub (wv 0) sV_int)) (sV_bin .sub (wsub (wv 2) sV_int) (wsub (wv 0) sV_int)))))
 zaac)
theorem okz42(T:Txt K mg)(ih:Ok P w base T k):FnOk P w K mg base (CXE (Gof T) P w base) (2*(k+1)) T.fz42 T.dz42 ["book"] (spG (Gof T) (run true fns sub0 whileL (k+1)) (frOf fns) 27):=by
 refine fn_okX T.tz42 scz42 rfl rfl rfl fun cdv A outer s H E hr=>?_
 have hu:=Nat.lt_of_le_of_lt (Nat.add_le_add_left (by decide:9≤64) _) hr.units
 have hp:=IP.passes_leave (X:=cxOf (CXE (Gof T) P w base) P w K mg base nmz42 "first_crossing" (zaab sz42) T.fz42 cdv A outer s H E) rfl
 exact(zaaa (yfor hp (wr2 (T.b_range) (xglb T.g_LEAST) (sV_bin .add (xglb T.g_MOST) sV_int)) (wg1 ndz42) (zaaa (yfor hp (wr1 (T.b_range) (xmeth0 (hnm:=nnz10 T) (zaan T) (mtz10 T) (ihz10 ih) hr T.bdz10 .nil rfl (wv 0))) (wg1 ndz42) (zaaa (qasg ndz42 (xcall (ihz41 ih) hr T.mz41 T.kz41 T.bdz41 .nil rfl (wrc (xmeth (hnm:=nnz6 T) (zaan T) (mtz6 T) (ihz6 ih) hr T.bdz6 .nil rfl (wv 0) (wrc (wv 2) (wrc (wv 1) sR_nil))) sR_nil)))
 (zaaa (sS_ifs (wct hu .notN (wv 3) sV_non) (zaaa (sS_ret (wtup (wac (wv 1) (wac (wv 2) (wac (wsub (wv 3) sV_int) (wac (wsub (wv 3) sV_int) sA_nil))))))
 zaac) zaac)
 zaac)))
 zaac))
 (zaaa (sS_ret sV_non)
 zaac))
theorem okz35(T:Txt K mg)(ih:Ok P w base T k):FnOk P w K mg base (CXE (Gof T) P w base) (2*(k+1)) T.fz35 T.dz35 ["_law_found"] (spG (Gof T) (run true fns sub0 whileL (k+1)) (frOf fns) 28):=by
 refine fn_okX T.tz35 scz35 rfl rfl rfl fun cdv A outer s H E hr=>?_
 have hu:=Nat.lt_of_le_of_lt (Nat.add_le_add_left (by decide:9≤64) _) hr.units
 have hp:=IP.passes_leave (X:=cxOf (CXE (Gof T) P w base) P w K mg base nmz35 "_law_whole" (zaab sz35) T.fz35 cdv A outer s H E) rfl
 exact(zaaa (sS_ret (sV_and (wisi .int (T.b_isinstance) (T.b_int) (wv 0)) (wone (sV_not (wisi .bool (T.b_isinstance) (T.b_bool) (wv 0))))))
 zaac)
theorem okz17(T:Txt K mg)(ih:Ok P w base T k):FnOk P w K mg base (CXE (Gof T) P w base) (2*(k+1)) T.fz17 T.dz17 ["_law_script","_law_k"] (spG (Gof T) (run true fns sub0 whileL (k+1)) (frOf fns) 29):=by
 refine fn_okX T.tz17 scz17 rfl rfl rfl fun cdv A outer s H E hr=>?_
 have hu:=Nat.lt_of_le_of_lt (Nat.add_le_add_left (by decide:9≤64) _) hr.units
 have hp:=IP.passes_leave (X:=cxOf (CXE (Gof T) P w base) P w K mg base nmz17 "_law_at" (zaab sz17) T.fz17 cdv A outer s H E) rfl
 exact(zaaa (sS_ifs (wct hu .lt (wv 1) (wlen (T.b_len) (wv 0))) (zaaa (sS_ret (wsub (wv 0) (wv 1)))
 zaac) zaac)
 (zaaa (sS_ret sV_int)
 zaac))
theorem okz30(T:Txt K mg)(ih:Ok P w base T k):FnOk P w K mg base (CXE (Gof T) P w base) (2*(k+1)) T.fz30 T.dz30 ["_law_script","_law_many"] (spG (Gof T) (run true fns sub0 whileL (k+1)) (frOf fns) 30):=by
 refine fn_okX T.tz30 scz30 rfl rfl rfl fun cdv A outer s H E hr=>?_
 have hu:=Nat.lt_of_le_of_lt (Nat.add_le_add_left (by decide:9≤64) _) hr.units
 have hp:=IP.passes_leave (X:=cxOf (CXE (Gof T) P w base) P w K mg base nmz30 "_law_stir" (zaab sz30) T.fz30 cdv A outer s H E) rfl
 exact(zaaa (qasg ndz30 sV_int)
 (zaaa (qmk ndz30 (wlstO sA_nil))
 (zaaa (yfor hp (wr1 (T.b_range) (wv 1)) (wg1 ndz30) (zaaa (qasg ndz30 (sV_bin .mod (sV_bin .add (sV_bin .add (sV_bin .mul (wv 2) sV_int) (xcall (ihz17 ih) hr T.mz17 T.kz17 T.bdz17 .nil rfl (wrc (wv 0) (wrc (wv 4) sR_nil)))) sV_int) sV_int))
 (zaaa (qapp (i:=3) (wv 2))
 zaac)))
 (zafn (zaaa (sS_ret (wv 3))
 zaac)))))
theorem okz21(T:Txt K mg)(ih:Ok P w base T k):FnOk P w K mg base (CXE (Gof T) P w base) (2*(k+1)) T.fz21 T.dz21 ["_law_one","_law_two"] (spG (Gof T) (run true fns sub0 whileL (k+1)) (frOf fns) 31):=by
 refine fn_okX T.tz21 scz21 rfl rfl rfl fun cdv A outer s H E hr=>?_
 have hu:=Nat.lt_of_le_of_lt (Nat.add_le_add_left (by decide:9≤64) _) hr.units
 have hp:=IP.passes_leave (X:=cxOf (CXE (Gof T) P w base) P w K mg base nmz21 "_law_gcd" (zaab sz21) T.fz21 cdv A outer s H E) rfl
 exact(zaaa (qasg ndz21 (wabs (T.b_abs) (wv 0)))
 (zaaa (qasg ndz21 (wabs (T.b_abs) (wv 1)))
 (zaaa (ywhl hp (wct hu .gt (wv 3) sV_int) (zaaa (qasg ndz21 (sV_bin .mod (wv 2) (wv 3)))
 (zaaa (qasg ndz21 (wv 3))
 (zaaa (qasg ndz21 (wv 4))
 zaac))))
 (zaaa (sS_ret (wv 2))
 zaac))))
theorem okz23(T:Txt K mg)(ih:Ok P w base T k):FnOk P w K mg base (CXE (Gof T) P w base) (2*(k+1)) T.fz23 T.dz23 ["_law_found","_law_due_here"] (spG (Gof T) (run true fns sub0 whileL (k+1)) (frOf fns) 32):=by
 refine fn_okX T.tz23 scz23 rfl rfl rfl fun cdv A outer s H E hr=>?_
 have hu:=Nat.lt_of_le_of_lt (Nat.add_le_add_left (by decide:9≤64) _) hr.units
 have hp:=IP.passes_leave (X:=cxOf (CXE (Gof T) P w base) P w K mg base nmz23 "_law_numbers" (zaab sz23) T.fz23 cdv A outer s H E) rfl
 exact(zaaa (sS_ifs (PW.pt (ptb_or (sT_not (wtr (wisi .tuple (T.b_isinstance) (T.b_tuple) (wv 0)))) (zaa5 (wct hu .ne (wlen (T.b_len) (wv 0)) (wlen (T.b_len) (wv 1)))))) (zaaa (sS_ret sV_bl)
 zaac) zaac)
 (zaaa (yfor hp (wr1 (T.b_range) (wlen (T.b_len) (wv 1))) (wg1 ndz23) (zaaa (sS_ifs (PW.pt (ptb_or (sT_not (wtr (xcall (ihz35 ih) hr T.mz35 T.kz35 T.bdz35 .nil rfl (wrc (wsub (wv 0) (wv 2)) sR_nil)))) (zaa5 (wct hu .ne (wsub (wv 0) (wv 2)) (wsub (wv 1) (wv 2)))))) (zaaa (sS_ret sV_bl)
 zaac) zaac)
 zaac))
 (zaaa (sS_ret sV_bl)
 zaac)))
theorem okz29(T:Txt K mg)(ih:Ok P w base T k):FnOk P w K mg base (CXE (Gof T) P w base) (2*(k+1)) T.fz29 T.dz29 ["_law_seed","_law_many","_law_far","_law_step"] (spG (Gof T) (run true fns sub0 whileL (k+1)) (frOf fns) 33):=by
 refine fn_okX T.tz29 scz29 rfl rfl rfl fun cdv A outer s H E hr=>?_
 have hu:=Nat.lt_of_le_of_lt (Nat.add_le_add_left (by decide:9≤64) _) hr.units
 have hp:=IP.passes_leave (X:=cxOf (CXE (Gof T) P w base) P w K mg base nmz29 "_law_spots" (zaab sz29) T.fz29 cdv A outer s H E) rfl
 exact(zaaa (qmk ndz29 (wlstO sA_nil))
 (zaaa (qasg ndz29 (sV_bin .mod (wv 0) sV_int))
 (zaaa (yfor hp (wr1 (T.b_range) (wv 1)) (wg1 ndz29) (zaaa (qmk ndz29 (wlstO sA_nil))
 (zaaa (yfor hp (wpj (wlst (wac (wv 2) (wac (wv 2) (wac (wv 3) (wac (wv 3) (wac (wv 3) (wac (wv 3) sA_nil)))))))) (wg1 ndz29) (zaaa (qasg ndz29 (sV_bin .mod (sV_bin .add (sV_bin .mul (wv 5) sV_int) sV_int) sV_int))
 (zaaa (qapp (i:=7) (sV_bin .sub (sV_bin .mod (wv 5) (sV_bin .add (sV_bin .mul sV_int (wv 8)) sV_int)) (wv 8)))
 zaac)))
 (zaaa (qapp (i:=4) (wtuple (T.b_tuple) (wv 7)))
 zaac))))
 (zafn (zaaa (sS_ret (wv 4))
 zaac)))))
theorem okz31(T:Txt K mg)(ih:Ok P w base T k):FnOk P w K mg base (CXE (Gof T) P w base) (2*(k+1)) T.fz31 T.dz31 ["_law_row","_law_at_here","_law_many"] (spG (Gof T) (run true fns sub0 whileL (k+1)) (frOf fns) 34):=by
 refine fn_okX T.tz31 scz31 rfl rfl rfl fun cdv A outer s H E hr=>?_
 have hu:=Nat.lt_of_le_of_lt (Nat.add_le_add_left (by decide:9≤64) _) hr.units
 have hp:=IP.passes_leave (X:=cxOf (CXE (Gof T) P w base) P w K mg base nmz31 "_law_strides" (zaab sz31) T.fz31 cdv A outer s H E) rfl
 exact(zaaa (qmk ndz31 (wlstO (wac sV_int sA_nil)))
 (zaaa (yfor hp (wr1 (T.b_range) (sV_bin .sub (wv 2) sV_int)) (wg1 ndz31) (zaaa (qapp (i:=3) (sV_bin .add (sV_bin .add (wsub (wv 3) (sV_neg sV_int)) sV_int) (sV_bin .mod (wsub (wv 0) (sV_bin .add (wv 1) (wv 4))) sV_int)))
 zaac))
 (zafn (zaaa (sS_ret (wv 3))
 zaac))))
theorem okz27(T:Txt K mg)(ih:Ok P w base T k):FnOk P w K mg base (CXE (Gof T) P w base) (2*(k+1)) T.fz27 T.dz27 ["_law_row","_law_many"] (spG (Gof T) (run true fns sub0 whileL (k+1)) (frOf fns) 35):=by
 refine fn_okX T.tz27 scz27 rfl rfl rfl fun cdv A outer s H E hr=>?_
 have hu:=Nat.lt_of_le_of_lt (Nat.add_le_add_left (by decide:9≤64) _) hr.units
 have hp:=IP.passes_leave (X:=cxOf (CXE (Gof T) P w base) P w K mg base nmz27 "_law_simple" (zaab sz27) T.fz27 cdv A outer s H E) rfl
 exact(zaaa (qasg ndz27 sV_int)
 (zaaa (sS_ifs (wct hu .gt (wv 1) sV_int) (zaaa (qasg ndz27 (sV_bin .add sV_int (sV_bin .mod (wsub (wv 0) sV_int) (sV_bin .sub (wv 1) sV_int))))
 zaac) zaac)
 (zaaa (qasg ndz27 (sV_bin .sub (wv 1) (wv 2)))
 (zaaa (qasg ndz27 (wsub (wlst (wac sV_int (wac sV_int (wac sV_int (wac sV_int sA_nil))))) (sV_bin .mod (wsub (wv 0) sV_int) sV_int)))
 (zaaa (qasg ndz27 (xcall (ihz31 ih) hr T.mz31 T.kz31 T.bdz31 .nil rfl (wrc (wv 0) (wrc sV_int (wrc (wv 2) sR_nil)))))
 (zaaa (qasg ndz27 (xcall (ihz31 ih) hr T.mz31 T.kz31 T.bdz31 .nil rfl (wrc (wv 0) (wrc (sV_bin .add sV_int (wv 2)) (wrc (wv 3) sR_nil)))))
 (zaaa (qmk ndz27 (wlstO sA_nil))
 (zaaa (yfor hp (wr1 (T.b_range) (wv 2)) (wg1 ndz27) (zaaa (qapp (i:=7) (wtup (wac (sV_bin .mul (wsub (wv 5) (wv 8)) (wmax2 (T.b_max) sV_int (wsub (wv 6) (sV_neg sV_int)))) (wac (sV_bin .sub (sV_neg sV_int) (sV_bin .mod (wsub (wv 0) (sV_bin .add sV_int (wv 8))) (wv 4))) sA_nil))))
 zaac))
 (zaaa (yfor hp (wr1 (T.b_range) (wv 3)) (wg1 ndz27) (zaaa (qapp (i:=7) (wtup (wac (sV_bin .mul (wsub (wv 6) (sV_bin .sub (sV_bin .sub (wv 3) sV_int) (wv 8))) (wsub (wv 5) (sV_neg sV_int))) (wac (sV_bin .add sV_int (sV_bin .mod (wsub (wv 0) (sV_bin .add (sV_bin .add sV_int (wv 2)) (wv 8))) (wv 4))) sA_nil))))
 zaac))
 (zafn (zaaa (sS_ret (wv 7))
 zaac)))))))))))
theorem okz32(T:Txt K mg)(ih:Ok P w base T k):FnOk P w K mg base (CXE (Gof T) P w base) (2*(k+1)) T.fz32 T.dz32 ["_law_line","_law_cell"] (spG (Gof T) (run true fns sub0 whileL (k+1)) (frOf fns) 36):=by
 refine fn_okX T.tz32 scz32 rfl rfl rfl fun cdv A outer s H E hr=>?_
 have hu:=Nat.lt_of_le_of_lt (Nat.add_le_add_left (by decide:9≤64) _) hr.units
 have hp:=IP.passes_leave (X:=cxOf (CXE (Gof T) P w base) P w K mg base nmz32 "_law_swung" (zaab sz32) T.fz32 cdv A outer s H E) rfl
 exact(zaaa (qasg ndz32 (sV_bin .sub (sV_bin .mod (wv 1) sV_int) sV_int))
 (zaaa (by first|exact zac2 (fun _ _ _ _ h=>zabd h) (zag1 (f:=fun σ st=>one (ev (cfX fns sub0 k) zah5 .v σ st)) rfl (zaav (sc:=(zaab sz32).names) (N:=nmz32) (N':=zaeh) rfl rfl rfl rfl (by decide +kernel)) (by decide) (wpl (wv 0)) (fun _ _ _ _ _=>(wgm (wgc zada (wgc zada sG_nil)))) (fun _ _ _ _ _=>zaa4 (wtup (wac (sV_bin .add (wv 5) (sV_bin .mul (wv 2) (wv 6))) (wac (wv 6) sA_nil)))) (fun _=>rfl) (fun _ _=>rfl) rfl ndz32 rfl rfl)|exact qasg ndz32 (sV_of (zaa2 (f:=fun σ st=>one (ev (cfX fns sub0 k) zah5 .v σ st)) rfl (zaav (sc:=(zaab sz32).names) (N:=nmz32) (N':=zaeh) rfl rfl rfl rfl (by decide +kernel)) (by decide) (wpl (wv 0)) (fun _ _ _ _ _=>(wgm (wgc zada (wgc zada sG_nil)))) (fun _ _ _ _ _=>zaa4 (wtup (wac (sV_bin .add (wv 5) (sV_bin .mul (wv 2) (wv 6))) (wac (wv 6) sA_nil)))) (fun _=>rfl) (fun _ _=>rfl)) fun _ _ _ _ h=>zabd h))
 (zaaa (sS_ifs (wct hu .eq (sV_bin .mod (sV_bin .fdiv (wv 1) sV_int) sV_int) sV_int) (zaaa (by first|exact zac2 (fun _ _ _ _ h=>zabd h) (zag1 (f:=fun σ st=>one (ev (cfX fns sub0 k) zahq .v σ st)) rfl (zaav (sc:=(zaab sz32).names) (N:=nmz32) (N':=zaei) rfl rfl rfl rfl (by decide +kernel)) (by decide) (wpl (wv 3)) (fun _ _ _ _ _=>(wgm (wgc zac9 (wgc zac9 sG_nil)))) (fun _ _ _ _ _=>zaa4 (wtup (wac (sV_bin .sub sV_int (wv 8)) (wac (wv 7) sA_nil)))) (fun _=>rfl) (fun _ _=>rfl) rfl ndz32 rfl rfl)|exact qasg ndz32 (sV_of (zaa2 (f:=fun σ st=>one (ev (cfX fns sub0 k) zahq .v σ st)) rfl (zaav (sc:=(zaab sz32).names) (N:=nmz32) (N':=zaei) rfl rfl rfl rfl (by decide +kernel)) (by decide) (wpl (wv 3)) (fun _ _ _ _ _=>(wgm (wgc zac9 (wgc zac9 sG_nil)))) (fun _ _ _ _ _=>zaa4 (wtup (wac (sV_bin .sub sV_int (wv 8)) (wac (wv 7) sA_nil)))) (fun _=>rfl) (fun _ _=>rfl)) fun _ _ _ _ h=>zabd h))
 zaac) zaac)
 (zaaa (sS_ifs (wct hu .eq (sV_bin .mod (sV_bin .fdiv (wv 1) sV_int) sV_int) sV_int) (zaaa (qasg ndz32 (sV_of (sO_rev (wv 3)) fun _ _ _ _ h=>rev_is h))
 zaac) zaac)
 (zaaa (qasg ndz32 (sV_bin .mod (sV_bin .fdiv (wv 1) sV_int) (wlen (T.b_len) (wv 3))))
 (zaaa (sS_retO (sO_add (zabv (wv 3) (wv 4)) (zacr (wv 3) (wv 4))))
 zaac))))))
theorem okz24(T:Txt K mg)(ih:Ok P w base T k):FnOk P w K mg base (CXE (Gof T) P w base) (2*(k+1)) T.fz24 T.dz24 ["_law_a","_law_b","_law_c","_law_d"] (spG (Gof T) (run true fns sub0 whileL (k+1)) (frOf fns) 37):=by
 refine fn_okX T.tz24 scz24 rfl rfl rfl fun cdv A outer s H E hr=>?_
 have hu:=Nat.lt_of_le_of_lt (Nat.add_le_add_left (by decide:9≤64) _) hr.units
 have hp:=IP.passes_leave (X:=cxOf (CXE (Gof T) P w base) P w K mg base nmz24 "_law_parted" (zaab sz24) T.fz24 cdv A outer s H E) rfl
 exact(zaaa (qmk ndz24 (wlstO (wac (wtup (wac sV_int (wac sV_int sA_nil))) (wac (wtup (wac sV_int (wac sV_int sA_nil))) sA_nil))))
 (zaaa (yfor hp (wpj (wlst (wac (wtup (wac (wv 0) (wac (wv 1) sA_nil))) (wac (wtup (wac (wv 2) (wac (wv 3) sA_nil))) sA_nil)))) (wgm (wgc ndz24 (wgc ndz24 sG_nil))) (zaaa (qapp (i:=4) (wtup (wac (sV_bin .sub (wsub (wv 6) sV_int) (wsub (wv 5) sV_int)) (wac (sV_bin .sub (wsub (wv 6) sV_int) (wsub (wv 5) sV_int)) sA_nil))))
 (zaaa (qapp (i:=4) (wtup (wac (sV_bin .sub (wsub (wv 5) sV_int) (wsub (wv 6) sV_int)) (wac (sV_bin .sub (wsub (wv 6) sV_int) (wsub (wv 5) sV_int)) sA_nil))))
 zaac)))
 (zaaa (yforV (i:=4) hp (wgm (wgc ndz24 (wgc ndz24 sG_nil))) (zaaa (qasg ndz24 (wlst (wac (sV_bin .add (sV_bin .mul (wsub (wv 0) sV_int) (wv 7)) (sV_bin .mul (wsub (wv 0) sV_int) (wv 8))) (wac (sV_bin .add (sV_bin .mul (wsub (wv 1) sV_int) (wv 7)) (sV_bin .mul (wsub (wv 1) sV_int) (wv 8))) sA_nil))))
 (zaaa (qasg ndz24 (wlst (wac (sV_bin .add (sV_bin .mul (wsub (wv 2) sV_int) (wv 7)) (sV_bin .mul (wsub (wv 2) sV_int) (wv 8))) (wac (sV_bin .add (sV_bin .mul (wsub (wv 3) sV_int) (wv 7)) (sV_bin .mul (wsub (wv 3) sV_int) (wv 8))) sA_nil))))
 (zaaa (sS_ifs (PW.pt (ptb_or (wct hu .lt (wmax (T.b_max) (wv 9)) (wmin (T.b_min) (wv 10))) (zaa5 (wct hu .lt (wmax (T.b_max) (wv 10)) (wmin (T.b_min) (wv 9)))))) (zaaa (sS_ret sV_bl)
 zaac) zaac)
 zaac))))
 (zaaa (sS_ret sV_bl)
 zaac))))
theorem okz34(T:Txt K mg)(ih:Ok P w base T k):FnOk P w K mg base (CXE (Gof T) P w base) (2*(k+1)) T.fz34 T.dz34 ["_law_one","_law_two"] (spG (Gof T) (run true fns sub0 whileL (k+1)) (frOf fns) 38):=by
 refine fn_okX T.tz34 scz34 rfl rfl rfl fun cdv A outer s H E hr=>?_
 have hu:=Nat.lt_of_le_of_lt (Nat.add_le_add_left (by decide:9≤64) _) hr.units
 have hp:=IP.passes_leave (X:=cxOf (CXE (Gof T) P w base) P w K mg base nmz34 "_law_way" (zaab sz34) T.fz34 cdv A outer s H E) rfl
 exact(zaaa (qasg ndz34 (sV_bin .sub (wsub (wv 1) sV_int) (wsub (wv 0) sV_int)))
 (zaaa (qasg ndz34 (sV_bin .sub (wsub (wv 1) sV_int) (wsub (wv 0) sV_int)))
 (zaaa (qasg ndz34 (wmax2 (T.b_max) sV_int (xcall (ihz21 ih) hr T.mz21 T.kz21 T.bdz21 .nil rfl (wrc (wv 2) (wrc (wv 3) sR_nil)))))
 (zaaa (sS_ret (wtup (wac (sV_bin .fdiv (wv 2) (wv 4)) (wac (sV_bin .fdiv (wv 3) (wv 4)) sA_nil))))
 zaac))))
theorem okz18(T:Txt K mg)(ih:Ok P w base T k):FnOk P w K mg base (CXE (Gof T) P w base) (2*(k+1)) T.fz18 T.dz18 ["_law_line","_law_i","_law_j"] (spG (Gof T) (run true fns sub0 whileL (k+1)) (frOf fns) 39):=by
 refine fn_okX T.tz18 scz18 rfl rfl rfl fun cdv A outer s H E hr=>?_
 have hu:=Nat.lt_of_le_of_lt (Nat.add_le_add_left (by decide:9≤64) _) hr.units
 have hp:=IP.passes_leave (X:=cxOf (CXE (Gof T) P w base) P w K mg base nmz18 "_law_crossed" (zaab sz18) T.fz18 cdv A outer s H E) rfl
 exact(zaaa (qasg ndz18 (wlen (T.b_len) (wv 0)))
 (zaaa (qasg ndz18 (wsub (wv 0) (wv 1)))
 (zaaa (qasg ndz18 (wsub (wv 0) (sV_bin .mod (sV_bin .add (wv 1) sV_int) (wv 3))))
 (zaaa (qasg ndz18 (wsub (wv 0) (wv 2)))
 (zaaa (qasg ndz18 (wsub (wv 0) (sV_bin .mod (sV_bin .add (wv 2) sV_int) (wv 3))))
 (zaaa (sS_ifs (wct hu .eq (wv 1) (wv 2)) (zaaa (sS_ret (wcv hu .eq (wv 4) (wv 5)))
 zaac) zaac)
 (zaaa (sS_ifs (wct hu .eq (wv 2) (sV_bin .add (wv 1) sV_int)) (zaaa (sS_ret (sV_and (wcv hu .ne (wv 4) (wv 5)) (wone (wcv hu .eq (xcall (ihz34 ih) hr T.mz34 T.kz34 T.bdz34 .nil rfl (wrc (wv 5) (wrc (wv 4) sR_nil))) (xcall (ihz34 ih) hr T.mz34 T.kz34 T.bdz34 .nil rfl (wrc (wv 5) (wrc (wv 7) sR_nil)))))))
 zaac) zaac)
 (zaaa (sS_ifs (PW.pt (zaf4 (wct hu .eq (wv 1) sV_int) (zab7 (wct hu .eq (wv 2) (sV_bin .sub (wv 3) sV_int))))) (zaaa (sS_ret (sV_and (wcv hu .ne (wv 4) (wv 5)) (wone (wcv hu .eq (xcall (ihz34 ih) hr T.mz34 T.kz34 T.bdz34 .nil rfl (wrc (wv 4) (wrc (wv 5) sR_nil))) (xcall (ihz34 ih) hr T.mz34 T.kz34 T.bdz34 .nil rfl (wrc (wv 4) (wrc (wv 6) sR_nil)))))))
 zaac) zaac)
 (zaaa (sS_ret (sV_not (xcall (ihz24 ih) hr T.mz24 T.kz24 T.bdz24 .nil rfl (wrc (wv 4) (wrc (wv 5) (wrc (wv 6) (wrc (wv 7) sR_nil)))))))
 zaac)))))))))
theorem okz20(T:Txt K mg)(ih:Ok P w base T k):FnOk P w K mg base (CXE (Gof T) P w base) (2*(k+1)) T.fz20 T.dz20 ["_law_line"] (spG (Gof T) (run true fns sub0 whileL (k+1)) (frOf fns) 40):=by
 refine fn_okX T.tz20 scz20 rfl rfl rfl fun cdv A outer s H E hr=>?_
 have hu:=Nat.lt_of_le_of_lt (Nat.add_le_add_left (by decide:9≤64) _) hr.units
 have hp:=IP.passes_leave (X:=cxOf (CXE (Gof T) P w base) P w K mg base nmz20 "_law_first" (zaab sz20) T.fz20 cdv A outer s H E) rfl
 exact(zaaa (yfor hp (wr1 (T.b_range) (wlen (T.b_len) (wv 0))) (wg1 ndz20) (zaaa (yfor hp (wr2 (T.b_range) (wv 1) (wlen (T.b_len) (wv 0))) (wg1 ndz20) (zaaa (sS_ifs (wtr (xcall (ihz18 ih) hr T.mz18 T.kz18 T.bdz18 .nil rfl (wrc (wv 0) (wrc (wv 1) (wrc (wv 2) sR_nil))))) (zaaa (sS_ret (wtup (wac (wv 1) (wac (wv 2) sA_nil))))
 zaac) zaac)
 zaac))
 zaac))
 (zaaa (sS_ret sV_non)
 zaac))
theorem okz22(T:Txt K mg)(ih:Ok P w base T k):FnOk P w K mg base (CXE (Gof T) P w base) (2*(k+1)) T.fz22 T.dz22 ["_law_row","_law_at_here","_law_many","_law_cell"] (spG (Gof T) (run true fns sub0 whileL (k+1)) (frOf fns) 41):=by
 refine fn_okX T.tz22 scz22 rfl rfl rfl fun cdv A outer s H E hr=>?_
 have hu:=Nat.lt_of_le_of_lt (Nat.add_le_add_left (by decide:9≤64) _) hr.units
 have hp:=IP.passes_leave (X:=cxOf (CXE (Gof T) P w base) P w K mg base nmz22 "_law_growing" (zaab sz22) T.fz22 cdv A outer s H E) rfl
 exact(zaaa (qasg ndz22 (xcall (ihz27 ih) hr T.mz27 T.kz27 T.bdz27 .nil rfl (wrc (zabv (wv 0) (wv 1)) (wrc (wv 2) sR_nil))))
 (zaaa (qmk ndz22 (wlstO sA_nil))
 (zaaa (qmk ndz22 (wlstO sA_nil))
 (zaaa (yfor hp (wr1 (T.b_range) (wv 2)) (wg1 ndz22) (zaaa (qasg ndz22 (wsub (wlst (wac sV_int (wac (sV_neg sV_int) sA_nil))) (wint (T.b_int) (wcv hu .lt (wsub (wsub (wv 4) (wv 7)) sV_int) sV_int))))
 (zaaa (qapp (i:=5) (wtup (wac (sV_bin .sub (sV_bin .mod (wv 3) sV_int) sV_int) (wac (sV_bin .mul (wv 8) (sV_bin .mod (sV_bin .fdiv (wsub (wv 0) (sV_bin .add (sV_bin .add (wv 1) sV_int) (wv 7))) sV_int) sV_int)) sA_nil))))
 (zaaa (qapp (i:=6) (wtup (wac (sV_bin .sub (sV_bin .mod (sV_bin .fdiv (wv 3) sV_int) sV_int) sV_int) (wac (sV_bin .mul (wv 8) (sV_bin .mod (sV_bin .fdiv (wsub (wv 0) (sV_bin .add (sV_bin .add (wv 1) sV_int) (wv 7))) sV_int) sV_int)) sA_nil))))
 zaac))))
 (zaaa (qasg ndz22 (xcallV (ihz32 ih) hr T.mz32 T.kz32 T.bdz32 .nil rfl (wrc (wv 4) (wrc (sV_bin .fdiv (wv 3) sV_int) sR_nil))))
 (zaaa (qmk ndz22 (xcallO (ihz32 ih) hr T.mz32 T.kz32 T.bdz32 .nil rfl (wrc (wv 5) (wrc (sV_bin .fdiv (wv 3) sV_int) sR_nil))))
 (zaaa (qmk ndz22 (xcallO (ihz32 ih) hr T.mz32 T.kz32 T.bdz32 .nil rfl (wrc (wv 6) (wrc (sV_bin .fdiv (wv 3) sV_int) sR_nil))))
 (zaaa (sS_retO (zaa2 (f:=fun σ st=>one (ev (cfX fns sub0 k) zae8 .v σ st)) rfl (zaav (sc:=(zaab sz22).names) (N:=nmz22) (N':=zag8) rfl rfl rfl rfl (by decide +kernel)) (by decide) (wr1 (T.b_range) (wv 2)) (fun _ _ _ _ _=>(wg1 ndz22_c0)) (fun _ _ _ _ _=>zaa4 (sV_bin .add (sV_bin .add (wsub (wv 4) (wv 9)) (wsub (wv 5) (wv 9))) (wsub (wv 6) (wv 9)))) (fun _=>rfl) (fun _ _=>rfl)))
 zaac))))))))
theorem okz26(T:Txt K mg)(ih:Ok P w base T k):FnOk P w K mg base (CXE (Gof T) P w base) (2*(k+1)) T.fz26 T.dz26 ["_law_spot","_law_size"] (spG (Gof T) (run true fns sub0 whileL (k+1)) (frOf fns) 42):=by
 refine fn_okX T.tz26 scz26 rfl rfl rfl fun cdv A outer s H E hr=>?_
 have hu:=Nat.lt_of_le_of_lt (Nat.add_le_add_left (by decide:9≤64) _) hr.units
 have hp:=IP.passes_leave (X:=cxOf (CXE (Gof T) P w base) P w K mg base nmz26 "_law_place" (zaab sz26) T.fz26 cdv A outer s H E) rfl
 exact(zaaa (qasg ndz26 (wsub (wv 0) sV_int))
 (zaaa (qasg ndz26 (wsub (wv 0) sV_int))
 (zaaa (yfor hp (wr1 (T.b_range) (wv 1)) (wg1 ndz26) (zaaa (qasg ndz26 (sV_bin .add (wv 2) (wsub (wv 0) sV_int)))
 (zaaa (qasg ndz26 (sV_bin .add (wv 3) (wsub (wv 0) sV_int)))
 zaac)))
 (zaaa (yfor hp (wr1 (T.b_range) (sV_bin .sub sV_int (wv 1))) (wg1 ndz26) (zaaa (qasg ndz26 (sV_bin .add (wv 2) (wsub (wv 0) sV_int)))
 (zaaa (qasg ndz26 (sV_bin .add (wv 3) (wsub (wv 0) sV_int)))
 zaac)))
 (zaaa (sS_ret (wtup (wac (wv 2) (wac (wv 3) sA_nil))))
 zaac)))))
theorem okz28(T:Txt K mg)(ih:Ok P w base T k):FnOk P w K mg base (CXE (Gof T) P w base) (2*(k+1)) T.fz28 T.dz28 ["_law_spots_here","_law_kind","_law_cell"] (spG (Gof T) (run true fns sub0 whileL (k+1)) (frOf fns) 43):=by
 refine fn_okX T.tz28 scz28 rfl rfl rfl fun cdv A outer s H E hr=>?_
 have hu:=Nat.lt_of_le_of_lt (Nat.add_le_add_left (by decide:9≤64) _) hr.units
 have hp:=IP.passes_leave (X:=cxOf (CXE (Gof T) P w base) P w K mg base nmz28 "_law_spoiled" (zaab sz28) T.fz28 cdv A outer s H E) rfl
 exact(zaaa (qasg ndz28 (sV_bin .mod (sV_bin .fdiv (wv 2) sV_int) (wlen (T.b_len) (wv 0))))
 (zaaa (qasg ndz28 (wsub (xcall (ihz29 ih) hr T.mz29 T.kz29 T.bdz29 .nil rfl (wrc (wv 2) (wrc sV_int (wrc sV_int (wrc sV_int sR_nil))))) sV_int))
 (zaaa (sS_ifs (wct hu .eq (sV_bin .mod (wv 1) sV_int) sV_int) (zaaa (yputL (sV_bin .add (zacr (wsub (wv 0) (wv 3)) sV_int) (zabv (wv 4) sV_int)) (wv 0) (wv 3))
 zaac) zaac)
 (zaaa (sS_ifs (PW.pt (zaf4 (wct hu .eq (sV_bin .mod (wv 1) sV_int) sV_int) (zab7 (wct hu .eq (sV_bin .mod (sV_bin .fdiv (wv 1) sV_int) sV_int) sV_int)))) (zaaa (yputL (sV_bin .add (zacr (wv 4) sV_int) (zabv (wsub (wv 0) (wv 3)) sV_int)) (wv 0) (wv 3))
 zaac) zaac)
 (zaaa (sS_ret (wv 0))
 zaac)))))
theorem okz25(T:Txt K mg)(ih:Ok P w base T k):FnOk P w K mg base (CXE (Gof T) P w base) (2*(k+1)) T.fz25 T.dz25 ["_law_row","_law_kind","_law_cell"] (spG (Gof T) (run true fns sub0 whileL (k+1)) (frOf fns) 44):=by
 refine fn_okX T.tz25 scz25 rfl rfl rfl fun cdv A outer s H E hr=>?_
 have hu:=Nat.lt_of_le_of_lt (Nat.add_le_add_left (by decide:9≤64) _) hr.units
 have hp:=IP.passes_leave (X:=cxOf (CXE (Gof T) P w base) P w K mg base nmz25 "_law_piece" (zaab sz25) T.fz25 cdv A outer s H E) rfl
 exact(zaaa (qasg ndz25 (sV_bin .add sV_int (sV_bin .mod (wsub (wv 0) sV_int) sV_int)))
 (zaaa (sS_ifs (wct hu .eq (sV_bin .mod (wv 1) sV_int) sV_int) (zaaa (qasg ndz25 (sV_bin .add sV_int (sV_bin .mod (wsub (wv 0) sV_int) sV_int)))
 (zaaa (sS_ret (xcell (zaa2 (f:=fun σ st=>one (ev (cfX fns sub0 k) zafo .v σ st)) rfl (zaav (sc:=(zaab sz25).names) (N:=nmz25) (N':=zafy) rfl rfl rfl rfl (by decide +kernel)) (by decide) (wr1 (T.b_range) (wv 3)) (fun _ _ _ _ _=>(wg1 ndz25_c0)) (fun _ _ _ _ _=>zaa4 (sV_bin .add (wtup (wac (sV_bin .mod (wsub (wv 0) (wv 4)) sV_int) (wac (sV_bin .mod (sV_bin .fdiv (wsub (wv 0) (wv 4)) sV_int) sV_int) sA_nil))) (zabv (wsub (xcall (ihz29 ih) hr T.mz29 T.kz29 T.bdz29 .nil rfl (wrc (wsub (wv 0) (wv 4)) (wrc sV_int (wrc sV_int (wrc sV_int sR_nil))))) sV_int) sV_int))) (fun _=>rfl) (fun _ _=>rfl))))
 zaac)) zaac)
 (zaaa (sS_ret (xcall (ihz28 ih) hr T.mz28 T.kz28 T.bdz28 .nil rfl (wrc (xcell (xcallO (ihz22 ih) hr T.mz22 T.kz22 T.bdz22 .nil rfl (wrc (wv 0) (wrc sV_int (wrc (wv 3) (wrc (wv 2) sR_nil)))))) (wrc (wv 1) (wrc (wv 2) sR_nil)))))
 zaac)))
theorem okz19(T:Txt K mg)(ih:Ok P w base T k):FnOk P w K mg base (CXE (Gof T) P w base) (2*(k+1)) T.fz19 T.dz19 ["_law_made"] (spG (Gof T) (run true fns sub0 whileL (k+1)) (frOf fns) 45):=by
 refine fn_okX T.tz19 scz19 rfl rfl rfl fun cdv A outer s H E hr=>?_
 have hu:=Nat.lt_of_le_of_lt (Nat.add_le_add_left (by decide:9≤64) _) hr.units
 have hp:=IP.passes_leave (X:=cxOf (CXE (Gof T) P w base) P w K mg base nmz19 "_law_due" (zaab sz19) T.fz19 cdv A outer s H E) rfl
 exact(zaaa (yfor hp (wr2 (T.b_range) (sV_neg sV_int) sV_int) (wg1 ndz19) (zaaa (yfor hp (wr1 (T.b_range) (wlen (T.b_len) (wv 0))) (wg1 ndz19) (zaaa (qasg ndz19 (xcall (ihz20 ih) hr T.mz20 T.kz20 T.bdz20 .nil rfl (wrc (sV_of (comp_ownC (f:=fun σ st=>one (ev (cfX fns sub0 k) zae6 .v σ st)) rfl (zaav (sc:=(zaab sz19).names) (N:=nmz19) (N':=zahl) rfl rfl rfl rfl (by decide +kernel)) (by decide) (wsub (wv 0) (wv 2)) (fun _ _ _ _ _=>(wg1 ndz19_c0)) (fun _ _ _ _ _=>zaa4 (xcall (ihz26 ih) hr T.mz26 T.kz26 T.bdz26 .nil rfl (wrc (wv 4) (wrc (wv 1) sR_nil)))) (fun _=>rfl) (fun _ _=>rfl)) fun _ _ _ _ h=>compC_is h) sR_nil)))
 (zaaa (sS_ifs (wct hu .notN (wv 3) sV_non) (zaaa (sS_ret (wtup (wac (wv 1) (wac (wv 2) (wac (wsub (wv 3) sV_int) (wac (wsub (wv 3) sV_int) sA_nil))))))
 zaac) zaac)
 zaac)))
 zaac))
 (zaaa (sS_ret sV_non)
 zaac))
theorem okz33(T:Txt K mg)(ih:Ok P w base T k):FnOk P w K mg base (CXE (Gof T) P w base) (2*(k+1)) T.fz33 T.dz33 ["_law_book","_law_due_here"] (spG (Gof T) (run true fns sub0 whileL (k+1)) (frOf fns) 46):=by
 refine fn_okX T.tz33 scz33 rfl rfl rfl fun cdv A outer s H E hr=>?_
 have hu:=Nat.lt_of_le_of_lt (Nat.add_le_add_left (by decide:9≤64) _) hr.units
 have hp:=IP.passes_leave (X:=cxOf (CXE (Gof T) P w base) P w K mg base nmz33 "_law_told" (zaab sz33) T.fz33 cdv A outer s H E) rfl
 exact(zaaa (qasg ndz33 (xcall (ihz42 ih) hr T.mz42 T.kz42 T.bdz42 .nil rfl (wrc (wv 0) sR_nil)))
 (zaaa (sS_ifs (wct hu .isN (wv 1) sV_non) (zaaa (sS_ret (wcv hu .isN (wv 2) sV_non))
 zaac) zaac)
 (zaaa (sS_ret (xcall (ihz23 ih) hr T.mz23 T.kz23 T.bdz23 .nil rfl (wrc (wv 2) (wrc (wv 1) sR_nil))))
 zaac)))
theorem ok_law(T:Txt K mg)(ih:Ok P w base T k):FnOk P w K mg base (CXE (Gof T) P w base) (2*(k+1)) T.f_law T.d_law ["_law_script"] (spG (Gof T) (run true fns sub0 whileL (k+1)) (frOf fns) 47):=by
 refine fn_okX T.t_law sc_law rfl rfl rfl fun cdv A outer s H E hr=>?_
 have hu:=Nat.lt_of_le_of_lt (Nat.add_le_add_left (by decide:9≤64) _) hr.units
 have hp:=IP.passes_leave (X:=cxOf (CXE (Gof T) P w base) P w K mg base nm_law "law" (zaab s_law) T.f_law cdv A outer s H E) rfl
 exact(zaaa (qasg nd_law (xcall (ihz30 ih) hr T.mz30 T.kz30 T.bdz30 .nil rfl (wrc (wv 0) (wrc sV_int sR_nil))))
 (zaaa (qmk nd_law (wlstO sA_nil))
 (zaaa (yfor hp (wr1 (T.b_range) (sV_bin .add sV_int (sV_bin .mod (wsub (wv 1) sV_int) sV_int))) (wg1 nd_law) (zaaa (qapp (i:=2) (xcall (ihz25 ih) hr T.mz25 T.kz25 T.bdz25 .nil rfl (wrc (zabv (wv 1) (sV_bin .mul sV_int (wv 3))) (wrc (sV_bin .fdiv (wsub (wv 1) sV_int) (wsub (wlst (wac sV_int (wac sV_int (wac sV_int sA_nil)))) (wv 3))) (wrc (sV_bin .fdiv (wsub (wv 1) sV_int) (sV_bin .add (wv 3) sV_int)) sR_nil)))))
 zaac))
 (zaaa (sS_ifs (wct hu .eq (sV_bin .mod (sV_bin .fdiv (wsub (wv 1) sV_int) sV_int) sV_int) sV_int) (zaaa (qput (i:=2) sV_int (xcall (ihz28 ih) hr T.mz28 T.kz28 T.bdz28 .nil rfl (wrc (xcell (xcallO (ihz22 ih) hr T.mz22 T.kz22 T.bdz22 .nil rfl (wrc (wv 1) (wrc sV_int (wrc (sV_bin .add sV_int (sV_bin .mod (wsub (wv 1) sV_int) sV_int)) (wrc (wsub (wv 1) sV_int) sR_nil)))))) (wrc (wsub (wv 1) sV_int) (wrc (wsub (wv 1) sV_int) sR_nil)))))
 zaac) zaac)
 (zaaa (sS_ifs (wct hu .eq (sV_bin .mod (sV_bin .fdiv (wsub (wv 1) sV_int) sV_int) sV_int) sV_int) (zaaa (qmk nd_law (sO_add (sV_of (zaa2 (f:=fun σ st=>one (ev (cfX fns sub0 k) zabk .v σ st)) rfl (zaav (sc:=(zaab s_law).names) (N:=nm_law) (N':=zae1) rfl rfl rfl rfl (by decide +kernel)) (by decide) (wr1 (T.b_range) sV_int) (fun _ _ _ _ _=>(wg1 nd_law_c0)) (fun _ _ _ _ _=>zaa4 (xcell (xcallO (ihz22 ih) hr T.mz22 T.kz22 T.bdz22 .nil rfl (wrc (wv 1) (wrc (wv 9) (wrc (sV_bin .add sV_int (sV_bin .mod (wsub (wv 1) (wv 9)) sV_int)) (wrc (wsub (wv 1) (sV_bin .add sV_int (wv 9))) sR_nil))))))) (fun _=>rfl) (fun _ _=>rfl)) fun _ _ _ _ h=>zabd h) (zacr (wv 2) sV_int)))
 zaac) zaac)
 (zaaa (qasg nd_law (xnew0 (zadm T) (ihz3 ih) hr (mc_Book T) T.bdz3 .nil rfl))
 (zaaa (sS_ifs (wct hu .notN (xcall (ihz42 ih) hr T.mz42 T.kz42 T.bdz42 .nil rfl (wrc (wv 4) sR_nil)) sV_non) (zaaa (sS_ret sV_bl)
 zaac) zaac)
 (zaaa (yforV (i:=2) hp (wg1 nd_law) (zaaa (qexp (xmeth (hnm:=nnz4 T) (zaan T) (mtz4 T) (ihz4 ih) hr T.bdz4_2 (show Vals [.non] [.none]from(.cons rfl .nil)) rfl (wv 4) (wrc (wlist (T.b_list) (wv 5)) sR_nil)))
 zaac))
 (zaaa (sS_ifs (sT_not (wtr (xcall (ihz33 ih) hr T.mz33 T.kz33 T.bdz33 .nil rfl (wrc (wv 4) (wrc (xcall (ihz19 ih) hr T.mz19 T.kz19 T.bdz19 .nil rfl (wrc (wv 2) sR_nil)) sR_nil))))) (zaaa (sS_ret sV_bl)
 zaac) zaac)
 (zaaa (qexp (xmeth (hnm:=nnz7 T) (zaan T) (mtz7 T) (ihz7 ih) hr T.bdz7 .nil rfl (wv 4) (wrc (sV_bin .mod (wsub (wv 1) sV_int) sV_int) sR_nil)))
 (zaaa (qasg nd_law (sV_bin .mod (sV_bin .fdiv (wsub (wv 1) sV_int) sV_int) (wlen (T.b_len) (wv 2))))
 (zaaa (qasg nd_law (sV_bin .mod (sV_bin .fdiv (wsub (wv 1) sV_int) sV_int) (wlen (T.b_len) (wsub (wv 2) (wv 6)))))
 (zaaa (qasg nd_law (wsub (xcall (ihz29 ih) hr T.mz29 T.kz29 T.bdz29 .nil rfl (wrc (wsub (wv 1) sV_int) (wrc sV_int (wrc sV_int (wrc (wsub (wlst (wac sV_int (wac sV_int sA_nil))) (sV_bin .mod (sV_bin .fdiv (wsub (wv 1) sV_int) sV_int) sV_int)) sR_nil))))) sV_int))
 (zaaa (yputL (sV_bin .add (zacr (wsub (wsub (wv 2) (wv 6)) (wv 7)) sV_int) (zabv (wv 8) sV_int)) (wsub (wv 2) (wv 6)) (wv 7))
 (zaaa (qexp (xmeth (hnm:=nnz12 T) (zaan T) (mtz12 T) (ihz12 ih) hr T.bdz12 .nil rfl (wv 4) (wrc (wv 6) (wrc (wv 7) (wrc (sV_cutLU (wv 8) sV_int sV_int) (wrc (zabv (wv 8) sV_int) sR_nil))))))
 (zaaa (sS_ret (xcall (ihz33 ih) hr T.mz33 T.kz33 T.bdz33 .nil rfl (wrc (wv 4) (wrc (xcall (ihz19 ih) hr T.mz19 T.kz19 T.bdz19 .nil rfl (wrc (wv 2) sR_nil)) sR_nil))))
 zaac))))))))))))))))
theorem all(T:Txt K mg):∀k,Ok P w base T k
 | 0=>⟨zaae (sub:=sub0),zaae (sub:=sub0),zaae (sub:=sub0),zaae (sub:=sub0),zaae (sub:=sub0),zaae (sub:=sub0),zaae (sub:=sub0),zaae (sub:=sub0),zaae (sub:=sub0),zaae (sub:=sub0),zaae (sub:=sub0),zaae (sub:=sub0),zaae (sub:=sub0),zaae (sub:=sub0),zaae (sub:=sub0),zaae (sub:=sub0),zaae (sub:=sub0),zaae (sub:=sub0),zaae (sub:=sub0),zaae (sub:=sub0),zaae (sub:=sub0),zaae (sub:=sub0),zaae (sub:=sub0),zaae (sub:=sub0),zaae (sub:=sub0),zaae (sub:=sub0),zaae (sub:=sub0),zaae (sub:=sub0),zaae (sub:=sub0),zaae (sub:=sub0),zaae (sub:=sub0),zaae (sub:=sub0),zaae (sub:=sub0),zaae (sub:=sub0),zaae (sub:=sub0),zaae (sub:=sub0),zaae (sub:=sub0),zaae (sub:=sub0),zaae (sub:=sub0),zaae (sub:=sub0),zaae (sub:=sub0),zaae (sub:=sub0),zaae (sub:=sub0),zaae (sub:=sub0),zaae (sub:=sub0),zaae (sub:=sub0),zaae (sub:=sub0),zaae (sub:=sub0)⟩
 | k+1=>⟨okz45 T (all T k),okz39 T (all T k),okz44 T (all T k),okz3 T (all T k),okz4 T (all T k),okz12 T (all T k),okz7 T (all T k),okz5 T (all T k),okz10 T (all T k),okz13 T (all T k),okz8 T (all T k),okz6 T (all T k),okz9 T (all T k),okz11 T (all T k),okz40 T (all T k),okz38 T (all T k),okz51 T (all T k),okz36 T (all T k),okz41 T (all T k),okz49 T (all T k),okz48 T (all T k),okz47 T (all T k),okz43 T (all T k),okz50 T (all T k),okz46 T (all T k),okz52 T (all T k),okz37 T (all T k),okz42 T (all T k),okz35 T (all T k),okz17 T (all T k),okz30 T (all T k),okz21 T (all T k),okz23 T (all T k),okz29 T (all T k),okz31 T (all T k),okz27 T (all T k),okz32 T (all T k),okz24 T (all T k),okz34 T (all T k),okz18 T (all T k),okz20 T (all T k),okz22 T (all T k),okz26 T (all T k),okz28 T (all T k),okz25 T (all T k),okz19 T (all T k),okz33 T (all T k),ok_law T (all T k)⟩
end
end Pg
end IP
end
section
set_option Elab.async false
set_option linter.all false
set_option maxRecDepth 100000
set_option maxHeartbeats 0
namespace IP
open PySem PySem.Spec L2
namespace Pg
def lenP:Nat→(List Value→Prop)→Prop
 | 0,p=>p []
 | n+1,p=>∀a,lenP n fun us=>p (a::us)
theorem lenA:∀(n:Nat) {p:List Value→Prop},lenP n p→∀us,us.length=n→p us
 | 0,p,h,us,hl=>by rw[List.length_eq_zero_iff.mp hl];exact h
 | n+1,p,h,us,hl=>by
  cases us with
  | nil=>cases hl
  | cons a us=>exact lenA n (h a) us (Nat.succ.inj hl)
theorem lenB{K:PySem.W.Frag}{fd:FuncData}{ps:List Str}{ds:List Value}(n:Nat)(h:lenP n fun us=>∀s:Shared,K.In s.heap→BindsTo s fd ⟨us,[]⟩ (ps.zip (us++ds)))(hn:n+ds.length=ps.length):Binds K fd ps ds:=fun s us X hl=>lenA n (p:=fun us=>∀s:Shared,K.In s.heap→BindsTo s fd ⟨us,[]⟩ (ps.zip (us++ds))) h us (by rw[List.length_append]at hl;omega) s X
def Math:Prop:=∀ns:List Int,ns.length≤63→∃s,run true fns sub0 whileL 16 47 [.val (.lst (ns.map .int))] []=.ok (.val (.bl true)) s
abbrev spTop(G:Gx):Sp:=fun vs H Q _=>spG G (run true fns sub0 whileL 16) (frOf fns) 47 vs H Q fun _ _ _=>False
theorem all_mk{l:PySem.W.OpenLaw}{w:World}{K:PySem.W.Frag}{h:Heap}{mg:Str→Option Value}{fa:Addr}{ez15:Addr}{ez2:Addr}{ez1:Addr}{ez0:Addr}{ez16:Addr}{ez14:Addr}{C_Book:Addr}{fz45:Addr}{odz45 anz45:Option Addr}{slz45:Array (Option Value)}{ocz45 kVz45 dcz45 pmz45 cdz45 ctz45:Value}{fz39:Addr}{odz39 anz39:Option Addr}{slz39:Array (Option Value)}{ocz39 kVz39 dcz39 pmz39 cdz39 ctz39:Value}{fz44:Addr}{odz44 anz44:Option Addr}{slz44:Array (Option Value)}{ocz44 kVz44 dcz44 pmz44 cdz44 ctz44:Value}{fz3:Addr}{odz3 anz3:Option Addr}{slz3:Array (Option Value)}{ocz3 kVz3 dcz3 pmz3 cdz3 ctz3:Value}{fz4:Addr}{odz4 anz4:Option Addr}{slz4:Array (Option Value)}{ocz4 kVz4 dcz4 pmz4 cdz4 ctz4:Value}{dtz4:Addr}{odtz4:Option Addr}{octz4:Value}{sltz4:Array (Option Value)}{ntz4:Nat}{fz12:Addr}{odz12 anz12:Option Addr}{slz12:Array (Option Value)}{ocz12 kVz12 dcz12 pmz12 cdz12 ctz12:Value}{fz7:Addr}{odz7 anz7:Option Addr}{slz7:Array (Option Value)}{ocz7 kVz7 dcz7 pmz7 cdz7 ctz7:Value}{fz5:Addr}{odz5 anz5:Option Addr}{slz5:Array (Option Value)}{ocz5 kVz5 dcz5 pmz5 cdz5 ctz5:Value}{fz10:Addr}{odz10 anz10:Option Addr}{slz10:Array (Option Value)}{ocz10 kVz10 dcz10 pmz10 cdz10 ctz10:Value}{fz13:Addr}{odz13 anz13:Option Addr}{slz13:Array (Option Value)}{ocz13 kVz13 dcz13 pmz13 cdz13 ctz13:Value}{fz8:Addr}{odz8 anz8:Option Addr}{slz8:Array (Option Value)}{ocz8 kVz8 dcz8 pmz8 cdz8 ctz8:Value}{fz6:Addr}{odz6 anz6:Option Addr}{slz6:Array (Option Value)}{ocz6 kVz6 dcz6 pmz6 cdz6 ctz6:Value}{dtz6:Addr}{odtz6:Option Addr}{octz6:Value}{sltz6:Array (Option Value)}{ntz6:Nat}{fz9:Addr}{odz9 anz9:Option Addr}{slz9:Array (Option Value)}{ocz9 kVz9 dcz9 pmz9 cdz9 ctz9:Value}{dtz9:Addr}{odtz9:Option Addr}{octz9:Value}{sltz9:Array (Option Value)}{ntz9:Nat}{fz11:Addr}{odz11 anz11:Option Addr}{slz11:Array (Option Value)}{ocz11 kVz11 dcz11 pmz11 cdz11 ctz11:Value}{fz40:Addr}{odz40 anz40:Option Addr}{slz40:Array (Option Value)}{ocz40 kVz40 dcz40 pmz40 cdz40 ctz40:Value}{fz38:Addr}{odz38 anz38:Option Addr}{slz38:Array (Option Value)}{ocz38 kVz38 dcz38 pmz38 cdz38 ctz38:Value}{fz51:Addr}{odz51 anz51:Option Addr}{slz51:Array (Option Value)}{ocz51 kVz51 dcz51 pmz51 cdz51 ctz51:Value}{fz36:Addr}{odz36 anz36:Option Addr}{slz36:Array (Option Value)}{ocz36 kVz36 dcz36 pmz36 cdz36 ctz36:Value}{fz41:Addr}{odz41 anz41:Option Addr}{slz41:Array (Option Value)}{ocz41 kVz41 dcz41 pmz41 cdz41 ctz41:Value}{fz49:Addr}{odz49 anz49:Option Addr}{slz49:Array (Option Value)}{ocz49 kVz49 dcz49 pmz49 cdz49 ctz49:Value}{fz48:Addr}{odz48 anz48:Option Addr}{slz48:Array (Option Value)}{ocz48 kVz48 dcz48 pmz48 cdz48 ctz48:Value}{fz47:Addr}{odz47 anz47:Option Addr}{slz47:Array (Option Value)}{ocz47 kVz47 dcz47 pmz47 cdz47 ctz47:Value}{fz43:Addr}{odz43 anz43:Option Addr}{slz43:Array (Option Value)}{ocz43 kVz43 dcz43 pmz43 cdz43 ctz43:Value}{fz50:Addr}{odz50 anz50:Option Addr}{slz50:Array (Option Value)}{ocz50 kVz50 dcz50 pmz50 cdz50 ctz50:Value}{fz46:Addr}{odz46 anz46:Option Addr}{slz46:Array (Option Value)}{ocz46 kVz46 dcz46 pmz46 cdz46 ctz46:Value}{fz52:Addr}{odz52 anz52:Option Addr}{slz52:Array (Option Value)}{ocz52 kVz52 dcz52 pmz52 cdz52 ctz52:Value}{fz37:Addr}{odz37 anz37:Option Addr}{slz37:Array (Option Value)}{ocz37 kVz37 dcz37 pmz37 cdz37 ctz37:Value}{fz42:Addr}{odz42 anz42:Option Addr}{slz42:Array (Option Value)}{ocz42 kVz42 dcz42 pmz42 cdz42 ctz42:Value}{fz35:Addr}{odz35 anz35:Option Addr}{slz35:Array (Option Value)}{ocz35 kVz35 dcz35 pmz35 cdz35 ctz35:Value}{fz17:Addr}{odz17 anz17:Option Addr}{slz17:Array (Option Value)}{ocz17 kVz17 dcz17 pmz17 cdz17 ctz17:Value}{fz30:Addr}{odz30 anz30:Option Addr}{slz30:Array (Option Value)}{ocz30 kVz30 dcz30 pmz30 cdz30 ctz30:Value}{fz21:Addr}{odz21 anz21:Option Addr}{slz21:Array (Option Value)}{ocz21 kVz21 dcz21 pmz21 cdz21 ctz21:Value}{fz23:Addr}{odz23 anz23:Option Addr}{slz23:Array (Option Value)}{ocz23 kVz23 dcz23 pmz23 cdz23 ctz23:Value}{fz29:Addr}{odz29 anz29:Option Addr}{slz29:Array (Option Value)}{ocz29 kVz29 dcz29 pmz29 cdz29 ctz29:Value}{fz31:Addr}{odz31 anz31:Option Addr}{slz31:Array (Option Value)}{ocz31 kVz31 dcz31 pmz31 cdz31 ctz31:Value}{fz27:Addr}{odz27 anz27:Option Addr}{slz27:Array (Option Value)}{ocz27 kVz27 dcz27 pmz27 cdz27 ctz27:Value}{fz32:Addr}{odz32 anz32:Option Addr}{slz32:Array (Option Value)}{ocz32 kVz32 dcz32 pmz32 cdz32 ctz32:Value}{fz24:Addr}{odz24 anz24:Option Addr}{slz24:Array (Option Value)}{ocz24 kVz24 dcz24 pmz24 cdz24 ctz24:Value}{fz34:Addr}{odz34 anz34:Option Addr}{slz34:Array (Option Value)}{ocz34 kVz34 dcz34 pmz34 cdz34 ctz34:Value}{fz18:Addr}{odz18 anz18:Option Addr}{slz18:Array (Option Value)}{ocz18 kVz18 dcz18 pmz18 cdz18 ctz18:Value}{fz20:Addr}{odz20 anz20:Option Addr}{slz20:Array (Option Value)}{ocz20 kVz20 dcz20 pmz20 cdz20 ctz20:Value}{fz22:Addr}{odz22 anz22:Option Addr}{slz22:Array (Option Value)}{ocz22 kVz22 dcz22 pmz22 cdz22 ctz22:Value}{fz26:Addr}{odz26 anz26:Option Addr}{slz26:Array (Option Value)}{ocz26 kVz26 dcz26 pmz26 cdz26 ctz26:Value}{fz28:Addr}{odz28 anz28:Option Addr}{slz28:Array (Option Value)}{ocz28 kVz28 dcz28 pmz28 cdz28 ctz28:Value}{fz25:Addr}{odz25 anz25:Option Addr}{slz25:Array (Option Value)}{ocz25 kVz25 dcz25 pmz25 cdz25 ctz25:Value}{fz19:Addr}{odz19 anz19:Option Addr}{slz19:Array (Option Value)}{ocz19 kVz19 dcz19 pmz19 cdz19 ctz19:Value}{fz33:Addr}{odz33 anz33:Option Addr}{slz33:Array (Option Value)}{ocz33 kVz33 dcz33 pmz33 cdz33 ctz33:Value}{f_law:Addr}{od_law an_law:Option Addr}{sl_law:Array (Option Value)}{oc_law kV_law dc_law pm_law cd_law ct_law:Value}{t_LEAST:Tok}{t_MOST:Tok}{t_MOST_PIECES:Tok}{t_LEAST_CORNERS:Tok}{t_MOST_CORNERS:Tok}{t_MOST_MARKS:Tok}{t_FARTHEST:Tok}{t_LONGEST_MOVE:Tok}(X:K.In h)(Gn:h.Ns mainGlobals mg)(hfa:mg "law"=some (.ref fa))
  (aez15:PySem.W.nsIn K mainGlobals "GradeError"=some (some (.ref ez15)))
  (aez2:PySem.W.nsIn K mainGlobals "BadSize"=some (some (.ref ez2)))
  (qez2:PySem.W.excIn K ez2 [.type "ValueError",.type "Exception",.type "BaseException",.type "object"] "ValueError.__new__"=true)
  (aez1:PySem.W.nsIn K mainGlobals "BadPiece"=some (some (.ref ez1)))
  (qez1:PySem.W.excIn K ez1 [.type "ValueError",.type "Exception",.type "BaseException",.type "object"] "ValueError.__new__"=true)
  (aez0:PySem.W.nsIn K mainGlobals "BadMove"=some (some (.ref ez0)))
  (qez0:PySem.W.excIn K ez0 [.type "ValueError",.type "Exception",.type "BaseException",.type "object"] "ValueError.__new__"=true)
  (aez16:PySem.W.nsIn K mainGlobals "NoSuch"=some (some (.ref ez16)))
  (qez16:PySem.W.excIn K ez16 [.type "ValueError",.type "Exception",.type "BaseException",.type "object"] "ValueError.__new__"=true)
  (aez14:PySem.W.nsIn K mainGlobals "Full"=some (some (.ref ez14)))
  (qez14:PySem.W.excIn K ez14 [.type "ValueError",.type "Exception",.type "BaseException",.type "object"] "ValueError.__new__"=true)
  (aC_Book:PySem.W.nsIn K mainGlobals "Book"=some (some (.ref C_Book)))
  (pg_Book:PySem.W.plainGet K C_Book Str.empty=true)
  (hd_Book:PySem.W.hasDictIn K C_Book=true)
  (po_Book:PySem.W.plainOver K C_Book=true)
  (sa_Book:PySem.W.findIn K (.ref C_Book) "__setattr__"=some (some (.builtin "object.__setattr__")))
  (zadm:PySem.W.makesIn K C_Book=true)
  (kc_Book:PySem.W.keepIn K (.ref C_Book)=true)
  (no_Book_size:PySem.W.findIn K (.ref C_Book) "size"=some none)
  (no_Book_pieces:PySem.W.findIn K (.ref C_Book) "pieces"=some none)
  (no_Book_side_marks:PySem.W.findIn K (.ref C_Book) "side_marks"=some none)
  (no_Book_seams:PySem.W.findIn K (.ref C_Book) "seams"=some none)
  (az45:PySem.W.nsIn K mainGlobals "place"=some (some (.ref fz45)))
  (lz45:K.lookup fz45=some ⟨ocz45,odz45,.func (PySem.W.fnOf "place" "place" (zaag sz45) (zaaf sz45) (zaab sz45) .none kVz45 dcz45 pmz45 anz45 cdz45 ctz45),slz45⟩)
  (cz45:PySem.W.codeIn K cdz45 "place"=true)
  (kz45:PySem.W.keepIn K (.ref fz45)=true)
  (az39:PySem.W.nsIn K mainGlobals "check_size"=some (some (.ref fz39)))
  (lz39:K.lookup fz39=some ⟨ocz39,odz39,.func (PySem.W.fnOf "check_size" "check_size" (zaag sz39) (zaaf sz39) (zaab sz39) .none kVz39 dcz39 pmz39 anz39 cdz39 ctz39),slz39⟩)
  (cz39:PySem.W.codeIn K cdz39 "check_size"=true)
  (kz39:PySem.W.keepIn K (.ref fz39)=true)
  (az44:PySem.W.nsIn K mainGlobals "moved"=some (some (.ref fz44)))
  (lz44:K.lookup fz44=some ⟨ocz44,odz44,.func (PySem.W.fnOf "moved" "moved" (zaag sz44) (zaaf sz44) (zaab sz44) .none kVz44 dcz44 pmz44 anz44 cdz44 ctz44),slz44⟩)
  (cz44:PySem.W.codeIn K cdz44 "moved"=true)
  (kz44:PySem.W.keepIn K (.ref fz44)=true)
  (az3:PySem.W.findIn K (.ref C_Book) "__init__"=some (some (.ref fz3)))
  (iz3:PySem.W.isFn K (.ref fz3)=true)
  (lz3:K.lookup fz3=some ⟨ocz3,odz3,.func (PySem.W.fnOf "__init__" "Book.__init__" (zaag sz3) (zaaf sz3) (zaab sz3) .none kVz3 dcz3 pmz3 anz3 cdz3 ctz3),slz3⟩)
  (cz3:PySem.W.codeIn K cdz3 "Book.__init__"=true)
  (kz3:PySem.W.keepIn K (.ref fz3)=true)
  (az4:PySem.W.findIn K (.ref C_Book) "add_piece"=some (some (.ref fz4)))
  (iz4:PySem.W.isFn K (.ref fz4)=true)
  (lz4:K.lookup fz4=some ⟨ocz4,odz4,.func (PySem.W.fnOf "add_piece" "Book.add_piece" (zaag sz4) (zaaf sz4) (zaab sz4) (.ref dtz4) kVz4 dcz4 pmz4 anz4 cdz4 ctz4),slz4⟩)
  (cz4:PySem.W.codeIn K cdz4 "Book.add_piece"=true)
  (kz4:PySem.W.keepIn K (.ref fz4)=true)
  (dlz4:K.lookup dtz4=some ⟨octz4,odtz4,.seq #[.none] ntz4,sltz4⟩)
  (az12:PySem.W.findIn K (.ref C_Book) "set_moves"=some (some (.ref fz12)))
  (iz12:PySem.W.isFn K (.ref fz12)=true)
  (lz12:K.lookup fz12=some ⟨ocz12,odz12,.func (PySem.W.fnOf "set_moves" "Book.set_moves" (zaag sz12) (zaaf sz12) (zaab sz12) .none kVz12 dcz12 pmz12 anz12 cdz12 ctz12),slz12⟩)
  (cz12:PySem.W.codeIn K cdz12 "Book.set_moves"=true)
  (kz12:PySem.W.keepIn K (.ref fz12)=true)
  (az7:PySem.W.findIn K (.ref C_Book) "let_out"=some (some (.ref fz7)))
  (iz7:PySem.W.isFn K (.ref fz7)=true)
  (lz7:K.lookup fz7=some ⟨ocz7,odz7,.func (PySem.W.fnOf "let_out" "Book.let_out" (zaag sz7) (zaaf sz7) (zaab sz7) .none kVz7 dcz7 pmz7 anz7 cdz7 ctz7),slz7⟩)
  (cz7:PySem.W.codeIn K cdz7 "Book.let_out"=true)
  (kz7:PySem.W.keepIn K (.ref fz7)=true)
  (az5:PySem.W.findIn K (.ref C_Book) "change_size"=some (some (.ref fz5)))
  (iz5:PySem.W.isFn K (.ref fz5)=true)
  (lz5:K.lookup fz5=some ⟨ocz5,odz5,.func (PySem.W.fnOf "change_size" "Book.change_size" (zaag sz5) (zaaf sz5) (zaab sz5) .none kVz5 dcz5 pmz5 anz5 cdz5 ctz5),slz5⟩)
  (cz5:PySem.W.codeIn K cdz5 "Book.change_size"=true)
  (kz5:PySem.W.keepIn K (.ref fz5)=true)
  (az10:PySem.W.findIn K (.ref C_Book) "piece_count"=some (some (.ref fz10)))
  (iz10:PySem.W.isFn K (.ref fz10)=true)
  (lz10:K.lookup fz10=some ⟨ocz10,odz10,.func (PySem.W.fnOf "piece_count" "Book.piece_count" (zaag sz10) (zaaf sz10) (zaab sz10) .none kVz10 dcz10 pmz10 anz10 cdz10 ctz10),slz10⟩)
  (cz10:PySem.W.codeIn K cdz10 "Book.piece_count"=true)
  (kz10:PySem.W.keepIn K (.ref fz10)=true)
  (az13:PySem.W.findIn K (.ref C_Book) "spots"=some (some (.ref fz13)))
  (iz13:PySem.W.isFn K (.ref fz13)=true)
  (lz13:K.lookup fz13=some ⟨ocz13,odz13,.func (PySem.W.fnOf "spots" "Book.spots" (zaag sz13) (zaaf sz13) (zaab sz13) .none kVz13 dcz13 pmz13 anz13 cdz13 ctz13),slz13⟩)
  (cz13:PySem.W.codeIn K cdz13 "Book.spots"=true)
  (kz13:PySem.W.keepIn K (.ref fz13)=true)
  (az8:PySem.W.findIn K (.ref C_Book) "mark_spots"=some (some (.ref fz8)))
  (iz8:PySem.W.isFn K (.ref fz8)=true)
  (lz8:K.lookup fz8=some ⟨ocz8,odz8,.func (PySem.W.fnOf "mark_spots" "Book.mark_spots" (zaag sz8) (zaaf sz8) (zaab sz8) .none kVz8 dcz8 pmz8 anz8 cdz8 ctz8),slz8⟩)
  (cz8:PySem.W.codeIn K cdz8 "Book.mark_spots"=true)
  (kz8:PySem.W.keepIn K (.ref fz8)=true)
  (az6:PySem.W.findIn K (.ref C_Book) "corners"=some (some (.ref fz6)))
  (iz6:PySem.W.isFn K (.ref fz6)=true)
  (lz6:K.lookup fz6=some ⟨ocz6,odz6,.func (PySem.W.fnOf "corners" "Book.corners" (zaag sz6) (zaaf sz6) (zaab sz6) (.ref dtz6) kVz6 dcz6 pmz6 anz6 cdz6 ctz6),slz6⟩)
  (cz6:PySem.W.codeIn K cdz6 "Book.corners"=true)
  (kz6:PySem.W.keepIn K (.ref fz6)=true)
  (dlz6:K.lookup dtz6=some ⟨octz6,odtz6,.seq #[.none] ntz6,sltz6⟩)
  (az9:PySem.W.findIn K (.ref C_Book) "marks"=some (some (.ref fz9)))
  (iz9:PySem.W.isFn K (.ref fz9)=true)
  (lz9:K.lookup fz9=some ⟨ocz9,odz9,.func (PySem.W.fnOf "marks" "Book.marks" (zaag sz9) (zaaf sz9) (zaab sz9) (.ref dtz9) kVz9 dcz9 pmz9 anz9 cdz9 ctz9),slz9⟩)
  (cz9:PySem.W.codeIn K cdz9 "Book.marks"=true)
  (kz9:PySem.W.keepIn K (.ref fz9)=true)
  (dlz9:K.lookup dtz9=some ⟨octz9,odtz9,.seq #[.none] ntz9,sltz9⟩)
  (az11:PySem.W.findIn K (.ref C_Book) "places"=some (some (.ref fz11)))
  (iz11:PySem.W.isFn K (.ref fz11)=true)
  (lz11:K.lookup fz11=some ⟨ocz11,odz11,.func (PySem.W.fnOf "places" "Book.places" (zaag sz11) (zaaf sz11) (zaab sz11) .none kVz11 dcz11 pmz11 anz11 cdz11 ctz11),slz11⟩)
  (cz11:PySem.W.codeIn K cdz11 "Book.places"=true)
  (kz11:PySem.W.keepIn K (.ref fz11)=true)
  (az40:PySem.W.nsIn K mainGlobals "check_there"=some (some (.ref fz40)))
  (lz40:K.lookup fz40=some ⟨ocz40,odz40,.func (PySem.W.fnOf "check_there" "check_there" (zaag sz40) (zaaf sz40) (zaab sz40) .none kVz40 dcz40 pmz40 anz40 cdz40 ctz40),slz40⟩)
  (cz40:PySem.W.codeIn K cdz40 "check_there"=true)
  (kz40:PySem.W.keepIn K (.ref fz40)=true)
  (az38:PySem.W.nsIn K mainGlobals "check_piece"=some (some (.ref fz38)))
  (lz38:K.lookup fz38=some ⟨ocz38,odz38,.func (PySem.W.fnOf "check_piece" "check_piece" (zaag sz38) (zaaf sz38) (zaab sz38) .none kVz38 dcz38 pmz38 anz38 cdz38 ctz38),slz38⟩)
  (cz38:PySem.W.codeIn K cdz38 "check_piece"=true)
  (kz38:PySem.W.keepIn K (.ref fz38)=true)
  (az51:PySem.W.nsIn K mainGlobals "spots_fit"=some (some (.ref fz51)))
  (lz51:K.lookup fz51=some ⟨ocz51,odz51,.func (PySem.W.fnOf "spots_fit" "spots_fit" (zaag sz51) (zaaf sz51) (zaab sz51) .none kVz51 dcz51 pmz51 anz51 cdz51 ctz51),slz51⟩)
  (cz51:PySem.W.codeIn K cdz51 "spots_fit"=true)
  (kz51:PySem.W.keepIn K (.ref fz51)=true)
  (az36:PySem.W.nsIn K mainGlobals "all_within"=some (some (.ref fz36)))
  (lz36:K.lookup fz36=some ⟨ocz36,odz36,.func (PySem.W.fnOf "all_within" "all_within" (zaag sz36) (zaaf sz36) (zaab sz36) .none kVz36 dcz36 pmz36 anz36 cdz36 ctz36),slz36⟩)
  (cz36:PySem.W.codeIn K cdz36 "all_within"=true)
  (kz36:PySem.W.keepIn K (.ref fz36)=true)
  (az41:PySem.W.nsIn K mainGlobals "crossing"=some (some (.ref fz41)))
  (lz41:K.lookup fz41=some ⟨ocz41,odz41,.func (PySem.W.fnOf "crossing" "crossing" (zaag sz41) (zaaf sz41) (zaab sz41) .none kVz41 dcz41 pmz41 anz41 cdz41 ctz41),slz41⟩)
  (cz41:PySem.W.codeIn K cdz41 "crossing"=true)
  (kz41:PySem.W.keepIn K (.ref fz41)=true)
  (az49:PySem.W.nsIn K mainGlobals "sides_cross"=some (some (.ref fz49)))
  (lz49:K.lookup fz49=some ⟨ocz49,odz49,.func (PySem.W.fnOf "sides_cross" "sides_cross" (zaag sz49) (zaaf sz49) (zaab sz49) .none kVz49 dcz49 pmz49 anz49 cdz49 ctz49),slz49⟩)
  (cz49:PySem.W.codeIn K cdz49 "sides_cross"=true)
  (kz49:PySem.W.keepIn K (.ref fz49)=true)
  (az48:PySem.W.nsIn K mainGlobals "side_ends"=some (some (.ref fz48)))
  (lz48:K.lookup fz48=some ⟨ocz48,odz48,.func (PySem.W.fnOf "side_ends" "side_ends" (zaag sz48) (zaaf sz48) (zaab sz48) .none kVz48 dcz48 pmz48 anz48 cdz48 ctz48),slz48⟩)
  (cz48:PySem.W.codeIn K cdz48 "side_ends"=true)
  (kz48:PySem.W.keepIn K (.ref fz48)=true)
  (az47:PySem.W.nsIn K mainGlobals "run_together"=some (some (.ref fz47)))
  (lz47:K.lookup fz47=some ⟨ocz47,odz47,.func (PySem.W.fnOf "run_together" "run_together" (zaag sz47) (zaaf sz47) (zaab sz47) .none kVz47 dcz47 pmz47 anz47 cdz47 ctz47),slz47⟩)
  (cz47:PySem.W.codeIn K cdz47 "run_together"=true)
  (kz47:PySem.W.keepIn K (.ref fz47)=true)
  (az43:PySem.W.nsIn K mainGlobals "have_common_point"=some (some (.ref fz43)))
  (lz43:K.lookup fz43=some ⟨ocz43,odz43,.func (PySem.W.fnOf "have_common_point" "have_common_point" (zaag sz43) (zaaf sz43) (zaab sz43) .none kVz43 dcz43 pmz43 anz43 cdz43 ctz43),slz43⟩)
  (cz43:PySem.W.codeIn K cdz43 "have_common_point"=true)
  (kz43:PySem.W.keepIn K (.ref fz43)=true)
  (az50:PySem.W.nsIn K mainGlobals "spans_meet"=some (some (.ref fz50)))
  (lz50:K.lookup fz50=some ⟨ocz50,odz50,.func (PySem.W.fnOf "spans_meet" "spans_meet" (zaag sz50) (zaaf sz50) (zaab sz50) .none kVz50 dcz50 pmz50 anz50 cdz50 ctz50),slz50⟩)
  (cz50:PySem.W.codeIn K cdz50 "spans_meet"=true)
  (kz50:PySem.W.keepIn K (.ref fz50)=true)
  (az46:PySem.W.nsIn K mainGlobals "reaches_across"=some (some (.ref fz46)))
  (lz46:K.lookup fz46=some ⟨ocz46,odz46,.func (PySem.W.fnOf "reaches_across" "reaches_across" (zaag sz46) (zaaf sz46) (zaab sz46) .none kVz46 dcz46 pmz46 anz46 cdz46 ctz46),slz46⟩)
  (cz46:PySem.W.codeIn K cdz46 "reaches_across"=true)
  (kz46:PySem.W.keepIn K (.ref fz46)=true)
  (az52:PySem.W.nsIn K mainGlobals "turn"=some (some (.ref fz52)))
  (lz52:K.lookup fz52=some ⟨ocz52,odz52,.func (PySem.W.fnOf "turn" "turn" (zaag sz52) (zaaf sz52) (zaab sz52) .none kVz52 dcz52 pmz52 anz52 cdz52 ctz52),slz52⟩)
  (cz52:PySem.W.codeIn K cdz52 "turn"=true)
  (kz52:PySem.W.keepIn K (.ref fz52)=true)
  (az37:PySem.W.nsIn K mainGlobals "along"=some (some (.ref fz37)))
  (lz37:K.lookup fz37=some ⟨ocz37,odz37,.func (PySem.W.fnOf "along" "along" (zaag sz37) (zaaf sz37) (zaab sz37) .none kVz37 dcz37 pmz37 anz37 cdz37 ctz37),slz37⟩)
  (cz37:PySem.W.codeIn K cdz37 "along"=true)
  (kz37:PySem.W.keepIn K (.ref fz37)=true)
  (az42:PySem.W.nsIn K mainGlobals "first_crossing"=some (some (.ref fz42)))
  (lz42:K.lookup fz42=some ⟨ocz42,odz42,.func (PySem.W.fnOf "first_crossing" "first_crossing" (zaag sz42) (zaaf sz42) (zaab sz42) .none kVz42 dcz42 pmz42 anz42 cdz42 ctz42),slz42⟩)
  (cz42:PySem.W.codeIn K cdz42 "first_crossing"=true)
  (kz42:PySem.W.keepIn K (.ref fz42)=true)
  (az35:PySem.W.nsIn K mainGlobals "_law_whole"=some (some (.ref fz35)))
  (lz35:K.lookup fz35=some ⟨ocz35,odz35,.func (PySem.W.fnOf "_law_whole" "_law_whole" (zaag sz35) (zaaf sz35) (zaab sz35) .none kVz35 dcz35 pmz35 anz35 cdz35 ctz35),slz35⟩)
  (cz35:PySem.W.codeIn K cdz35 "_law_whole"=true)
  (kz35:PySem.W.keepIn K (.ref fz35)=true)
  (az17:PySem.W.nsIn K mainGlobals "_law_at"=some (some (.ref fz17)))
  (lz17:K.lookup fz17=some ⟨ocz17,odz17,.func (PySem.W.fnOf "_law_at" "_law_at" (zaag sz17) (zaaf sz17) (zaab sz17) .none kVz17 dcz17 pmz17 anz17 cdz17 ctz17),slz17⟩)
  (cz17:PySem.W.codeIn K cdz17 "_law_at"=true)
  (kz17:PySem.W.keepIn K (.ref fz17)=true)
  (az30:PySem.W.nsIn K mainGlobals "_law_stir"=some (some (.ref fz30)))
  (lz30:K.lookup fz30=some ⟨ocz30,odz30,.func (PySem.W.fnOf "_law_stir" "_law_stir" (zaag sz30) (zaaf sz30) (zaab sz30) .none kVz30 dcz30 pmz30 anz30 cdz30 ctz30),slz30⟩)
  (cz30:PySem.W.codeIn K cdz30 "_law_stir"=true)
  (kz30:PySem.W.keepIn K (.ref fz30)=true)
  (az21:PySem.W.nsIn K mainGlobals "_law_gcd"=some (some (.ref fz21)))
  (lz21:K.lookup fz21=some ⟨ocz21,odz21,.func (PySem.W.fnOf "_law_gcd" "_law_gcd" (zaag sz21) (zaaf sz21) (zaab sz21) .none kVz21 dcz21 pmz21 anz21 cdz21 ctz21),slz21⟩)
  (cz21:PySem.W.codeIn K cdz21 "_law_gcd"=true)
  (kz21:PySem.W.keepIn K (.ref fz21)=true)
  (az23:PySem.W.nsIn K mainGlobals "_law_numbers"=some (some (.ref fz23)))
  (lz23:K.lookup fz23=some ⟨ocz23,odz23,.func (PySem.W.fnOf "_law_numbers" "_law_numbers" (zaag sz23) (zaaf sz23) (zaab sz23) .none kVz23 dcz23 pmz23 anz23 cdz23 ctz23),slz23⟩)
  (cz23:PySem.W.codeIn K cdz23 "_law_numbers"=true)
  (kz23:PySem.W.keepIn K (.ref fz23)=true)
  (az29:PySem.W.nsIn K mainGlobals "_law_spots"=some (some (.ref fz29)))
  (lz29:K.lookup fz29=some ⟨ocz29,odz29,.func (PySem.W.fnOf "_law_spots" "_law_spots" (zaag sz29) (zaaf sz29) (zaab sz29) .none kVz29 dcz29 pmz29 anz29 cdz29 ctz29),slz29⟩)
  (cz29:PySem.W.codeIn K cdz29 "_law_spots"=true)
  (kz29:PySem.W.keepIn K (.ref fz29)=true)
  (az31:PySem.W.nsIn K mainGlobals "_law_strides"=some (some (.ref fz31)))
  (lz31:K.lookup fz31=some ⟨ocz31,odz31,.func (PySem.W.fnOf "_law_strides" "_law_strides" (zaag sz31) (zaaf sz31) (zaab sz31) .none kVz31 dcz31 pmz31 anz31 cdz31 ctz31),slz31⟩)
  (cz31:PySem.W.codeIn K cdz31 "_law_strides"=true)
  (kz31:PySem.W.keepIn K (.ref fz31)=true)
  (az27:PySem.W.nsIn K mainGlobals "_law_simple"=some (some (.ref fz27)))
  (lz27:K.lookup fz27=some ⟨ocz27,odz27,.func (PySem.W.fnOf "_law_simple" "_law_simple" (zaag sz27) (zaaf sz27) (zaab sz27) .none kVz27 dcz27 pmz27 anz27 cdz27 ctz27),slz27⟩)
  (cz27:PySem.W.codeIn K cdz27 "_law_simple"=true)
  (kz27:PySem.W.keepIn K (.ref fz27)=true)
  (az32:PySem.W.nsIn K mainGlobals "_law_swung"=some (some (.ref fz32)))
  (lz32:K.lookup fz32=some ⟨ocz32,odz32,.func (PySem.W.fnOf "_law_swung" "_law_swung" (zaag sz32) (zaaf sz32) (zaab sz32) .none kVz32 dcz32 pmz32 anz32 cdz32 ctz32),slz32⟩)
  (cz32:PySem.W.codeIn K cdz32 "_law_swung"=true)
  (kz32:PySem.W.keepIn K (.ref fz32)=true)
  (az24:PySem.W.nsIn K mainGlobals "_law_parted"=some (some (.ref fz24)))
  (lz24:K.lookup fz24=some ⟨ocz24,odz24,.func (PySem.W.fnOf "_law_parted" "_law_parted" (zaag sz24) (zaaf sz24) (zaab sz24) .none kVz24 dcz24 pmz24 anz24 cdz24 ctz24),slz24⟩)
  (cz24:PySem.W.codeIn K cdz24 "_law_parted"=true)
  (kz24:PySem.W.keepIn K (.ref fz24)=true)
  (az34:PySem.W.nsIn K mainGlobals "_law_way"=some (some (.ref fz34)))
  (lz34:K.lookup fz34=some ⟨ocz34,odz34,.func (PySem.W.fnOf "_law_way" "_law_way" (zaag sz34) (zaaf sz34) (zaab sz34) .none kVz34 dcz34 pmz34 anz34 cdz34 ctz34),slz34⟩)
  (cz34:PySem.W.codeIn K cdz34 "_law_way"=true)
  (kz34:PySem.W.keepIn K (.ref fz34)=true)
  (az18:PySem.W.nsIn K mainGlobals "_law_crossed"=some (some (.ref fz18)))
  (lz18:K.lookup fz18=some ⟨ocz18,odz18,.func (PySem.W.fnOf "_law_crossed" "_law_crossed" (zaag sz18) (zaaf sz18) (zaab sz18) .none kVz18 dcz18 pmz18 anz18 cdz18 ctz18),slz18⟩)
  (cz18:PySem.W.codeIn K cdz18 "_law_crossed"=true)
  (kz18:PySem.W.keepIn K (.ref fz18)=true)
  (az20:PySem.W.nsIn K mainGlobals "_law_first"=some (some (.ref fz20)))
  (lz20:K.lookup fz20=some ⟨ocz20,odz20,.func (PySem.W.fnOf "_law_first" "_law_first" (zaag sz20) (zaaf sz20) (zaab sz20) .none kVz20 dcz20 pmz20 anz20 cdz20 ctz20),slz20⟩)
  (cz20:PySem.W.codeIn K cdz20 "_law_first"=true)
  (kz20:PySem.W.keepIn K (.ref fz20)=true)
  (az22:PySem.W.nsIn K mainGlobals "_law_growing"=some (some (.ref fz22)))
  (lz22:K.lookup fz22=some ⟨ocz22,odz22,.func (PySem.W.fnOf "_law_growing" "_law_growing" (zaag sz22) (zaaf sz22) (zaab sz22) .none kVz22 dcz22 pmz22 anz22 cdz22 ctz22),slz22⟩)
  (cz22:PySem.W.codeIn K cdz22 "_law_growing"=true)
  (kz22:PySem.W.keepIn K (.ref fz22)=true)
  (az26:PySem.W.nsIn K mainGlobals "_law_place"=some (some (.ref fz26)))
  (lz26:K.lookup fz26=some ⟨ocz26,odz26,.func (PySem.W.fnOf "_law_place" "_law_place" (zaag sz26) (zaaf sz26) (zaab sz26) .none kVz26 dcz26 pmz26 anz26 cdz26 ctz26),slz26⟩)
  (cz26:PySem.W.codeIn K cdz26 "_law_place"=true)
  (kz26:PySem.W.keepIn K (.ref fz26)=true)
  (az28:PySem.W.nsIn K mainGlobals "_law_spoiled"=some (some (.ref fz28)))
  (lz28:K.lookup fz28=some ⟨ocz28,odz28,.func (PySem.W.fnOf "_law_spoiled" "_law_spoiled" (zaag sz28) (zaaf sz28) (zaab sz28) .none kVz28 dcz28 pmz28 anz28 cdz28 ctz28),slz28⟩)
  (cz28:PySem.W.codeIn K cdz28 "_law_spoiled"=true)
  (kz28:PySem.W.keepIn K (.ref fz28)=true)
  (az25:PySem.W.nsIn K mainGlobals "_law_piece"=some (some (.ref fz25)))
  (lz25:K.lookup fz25=some ⟨ocz25,odz25,.func (PySem.W.fnOf "_law_piece" "_law_piece" (zaag sz25) (zaaf sz25) (zaab sz25) .none kVz25 dcz25 pmz25 anz25 cdz25 ctz25),slz25⟩)
  (cz25:PySem.W.codeIn K cdz25 "_law_piece"=true)
  (kz25:PySem.W.keepIn K (.ref fz25)=true)
  (az19:PySem.W.nsIn K mainGlobals "_law_due"=some (some (.ref fz19)))
  (lz19:K.lookup fz19=some ⟨ocz19,odz19,.func (PySem.W.fnOf "_law_due" "_law_due" (zaag sz19) (zaaf sz19) (zaab sz19) .none kVz19 dcz19 pmz19 anz19 cdz19 ctz19),slz19⟩)
  (cz19:PySem.W.codeIn K cdz19 "_law_due"=true)
  (kz19:PySem.W.keepIn K (.ref fz19)=true)
  (az33:PySem.W.nsIn K mainGlobals "_law_told"=some (some (.ref fz33)))
  (lz33:K.lookup fz33=some ⟨ocz33,odz33,.func (PySem.W.fnOf "_law_told" "_law_told" (zaag sz33) (zaaf sz33) (zaab sz33) .none kVz33 dcz33 pmz33 anz33 cdz33 ctz33),slz33⟩)
  (cz33:PySem.W.codeIn K cdz33 "_law_told"=true)
  (kz33:PySem.W.keepIn K (.ref fz33)=true)
  (a_law:PySem.W.nsIn K mainGlobals "law"=some (some (.ref f_law)))
  (l_law:K.lookup f_law=some ⟨oc_law,od_law,.func (PySem.W.fnOf "law" "law" (zaag s_law) (zaaf s_law) (zaab s_law) .none kV_law dc_law pm_law an_law cd_law ct_law),sl_law⟩)
  (c_law:PySem.W.codeIn K cd_law "law"=true)
  (k_law:PySem.W.keepIn K (.ref f_law)=true)
  (gl_LEAST:PySem.W.nsIn K mainGlobals "LEAST"=some (some (.int (-6) t_LEAST)))
  (gl_MOST:PySem.W.nsIn K mainGlobals "MOST"=some (some (.int (6) t_MOST)))
  (gl_MOST_PIECES:PySem.W.nsIn K mainGlobals "MOST_PIECES"=some (some (.int (10) t_MOST_PIECES)))
  (gl_LEAST_CORNERS:PySem.W.nsIn K mainGlobals "LEAST_CORNERS"=some (some (.int (3) t_LEAST_CORNERS)))
  (gl_MOST_CORNERS:PySem.W.nsIn K mainGlobals "MOST_CORNERS"=some (some (.int (24) t_MOST_CORNERS)))
  (gl_MOST_MARKS:PySem.W.nsIn K mainGlobals "MOST_MARKS"=some (some (.int (4) t_MOST_MARKS)))
  (gl_FARTHEST:PySem.W.nsIn K mainGlobals "FARTHEST"=some (some (.int (20000) t_FARTHEST)))
  (gl_LONGEST_MOVE:PySem.W.nsIn K mainGlobals "LONGEST_MOVE"=some (some (.int (200) t_LONGEST_MOVE)))
  (z_abs:PySem.W.nsIn K mainGlobals "abs"=some none)
  (z_all:PySem.W.nsIn K mainGlobals "all"=some none)
  (z_any:PySem.W.nsIn K mainGlobals "any"=some none)
  (z_bool:PySem.W.nsIn K mainGlobals "bool"=some none)
  (z_int:PySem.W.nsIn K mainGlobals "int"=some none)
  (z_isinstance:PySem.W.nsIn K mainGlobals "isinstance"=some none)
  (z_len:PySem.W.nsIn K mainGlobals "len"=some none)
  (z_list:PySem.W.nsIn K mainGlobals "list"=some none)
  (z_max:PySem.W.nsIn K mainGlobals "max"=some none)
  (z_min:PySem.W.nsIn K mainGlobals "min"=some none)
  (z_range:PySem.W.nsIn K mainGlobals "range"=some none)
  (z_sorted:PySem.W.nsIn K mainGlobals "sorted"=some none)
  (z_tuple:PySem.W.nsIn K mainGlobals "tuple"=some none):
  ∃(fd:FuncData) (G:Gx),(∀(s:Shared) (v:Value),BindsTo s fd ⟨[v],[]⟩ [("_law_script",v)])∧∀base:Heap,K.In base→base.Ns mainGlobals mg→FnOk l.prog w K mg base CX0 32 fa fd ["_law_script"] (spTop G):=by
 have e:=hfa.symm.trans (PySem.W.mg_of X Gn a_law)
 cases e
 have Fz45:=zaai (st:=sz45) lz45 cz45 kz45
 have Bz45:Binds K (PySem.W.fnOf "place" "place" (zaag sz45) (zaaf sz45) (zaab sz45) .none kVz45 dcz45 pmz45 anz45 cdz45 ctz45) ["spot","size"] []:=.all (lenA 2 (fun _ _=>rfl))
 have Fz39:=zaai (st:=sz39) lz39 cz39 kz39
 have Bz39:Binds K (PySem.W.fnOf "check_size" "check_size" (zaag sz39) (zaaf sz39) (zaab sz39) .none kVz39 dcz39 pmz39 anz39 cdz39 ctz39) ["size"] []:=.all (lenA 1 (fun _=>rfl))
 have Fz44:=zaai (st:=sz44) lz44 cz44 kz44
 have Bz44:Binds K (PySem.W.fnOf "moved" "moved" (zaag sz44) (zaaf sz44) (zaab sz44) .none kVz44 dcz44 pmz44 anz44 cdz44 ctz44) ["spot","across","up","steps"] []:=.all (lenA 4 (fun _ _ _ _=>rfl))
 have Fz3:=zaai (st:=sz3) lz3 cz3 kz3
 have Bz3:Binds K (PySem.W.fnOf "__init__" "Book.__init__" (zaag sz3) (zaaf sz3) (zaab sz3) .none kVz3 dcz3 pmz3 anz3 cdz3 ctz3) ["self"] []:=.all (lenA 1 (fun _=>rfl))
 have Fz4:=zaai (st:=sz4) lz4 cz4 kz4
 have Bz4:Binds K (PySem.W.fnOf "add_piece" "Book.add_piece" (zaag sz4) (zaaf sz4) (zaab sz4) (.ref dtz4) kVz4 dcz4 pmz4 anz4 cdz4 ctz4) ["self","corners","marks"] []:=lenB 3 (fun _ _ _ s X=>by first|exact .of_eq rfl|exact PySem.W.binds_K X rfl dlz4 rfl rfl rfl) rfl
 have Bz4_2:Binds K (PySem.W.fnOf "add_piece" "Book.add_piece" (zaag sz4) (zaaf sz4) (zaab sz4) (.ref dtz4) kVz4 dcz4 pmz4 anz4 cdz4 ctz4) ["self","corners","marks"] [.none]:=lenB 2 (fun _ _ s X=>PySem.W.binds_K X rfl dlz4 rfl rfl rfl) rfl
 have Fz12:=zaai (st:=sz12) lz12 cz12 kz12
 have Bz12:Binds K (PySem.W.fnOf "set_moves" "Book.set_moves" (zaag sz12) (zaaf sz12) (zaab sz12) .none kVz12 dcz12 pmz12 anz12 cdz12 ctz12) ["self","piece","corner","greater","lesser"] []:=.all (lenA 5 (fun _ _ _ _ _=>rfl))
 have Fz7:=zaai (st:=sz7) lz7 cz7 kz7
 have Bz7:Binds K (PySem.W.fnOf "let_out" "Book.let_out" (zaag sz7) (zaaf sz7) (zaab sz7) .none kVz7 dcz7 pmz7 anz7 cdz7 ctz7) ["self","steps"] []:=.all (lenA 2 (fun _ _=>rfl))
 have Fz5:=zaai (st:=sz5) lz5 cz5 kz5
 have Bz5:Binds K (PySem.W.fnOf "change_size" "Book.change_size" (zaag sz5) (zaaf sz5) (zaab sz5) .none kVz5 dcz5 pmz5 anz5 cdz5 ctz5) ["self","steps","change"] []:=.all (lenA 3 (fun _ _ _=>rfl))
 have Fz10:=zaai (st:=sz10) lz10 cz10 kz10
 have Bz10:Binds K (PySem.W.fnOf "piece_count" "Book.piece_count" (zaag sz10) (zaaf sz10) (zaab sz10) .none kVz10 dcz10 pmz10 anz10 cdz10 ctz10) ["self"] []:=.all (lenA 1 (fun _=>rfl))
 have Fz13:=zaai (st:=sz13) lz13 cz13 kz13
 have Bz13:Binds K (PySem.W.fnOf "spots" "Book.spots" (zaag sz13) (zaaf sz13) (zaab sz13) .none kVz13 dcz13 pmz13 anz13 cdz13 ctz13) ["self","piece"] []:=.all (lenA 2 (fun _ _=>rfl))
 have Fz8:=zaai (st:=sz8) lz8 cz8 kz8
 have Bz8:Binds K (PySem.W.fnOf "mark_spots" "Book.mark_spots" (zaag sz8) (zaaf sz8) (zaab sz8) .none kVz8 dcz8 pmz8 anz8 cdz8 ctz8) ["self","piece","side"] []:=.all (lenA 3 (fun _ _ _=>rfl))
 have Fz6:=zaai (st:=sz6) lz6 cz6 kz6
 have Bz6:Binds K (PySem.W.fnOf "corners" "Book.corners" (zaag sz6) (zaaf sz6) (zaab sz6) (.ref dtz6) kVz6 dcz6 pmz6 anz6 cdz6 ctz6) ["self","piece","size"] []:=lenB 3 (fun _ _ _ s X=>by first|exact .of_eq rfl|exact PySem.W.binds_K X rfl dlz6 rfl rfl rfl) rfl
 have Fz9:=zaai (st:=sz9) lz9 cz9 kz9
 have Bz9:Binds K (PySem.W.fnOf "marks" "Book.marks" (zaag sz9) (zaaf sz9) (zaab sz9) (.ref dtz9) kVz9 dcz9 pmz9 anz9 cdz9 ctz9) ["self","piece","side","size"] []:=lenB 4 (fun _ _ _ _ s X=>by first|exact .of_eq rfl|exact PySem.W.binds_K X rfl dlz9 rfl rfl rfl) rfl
 have Fz11:=zaai (st:=sz11) lz11 cz11 kz11
 have Bz11:Binds K (PySem.W.fnOf "places" "Book.places" (zaag sz11) (zaaf sz11) (zaab sz11) .none kVz11 dcz11 pmz11 anz11 cdz11 ctz11) ["self","spots","size"] []:=.all (lenA 3 (fun _ _ _=>rfl))
 have Fz40:=zaai (st:=sz40) lz40 cz40 kz40
 have Bz40:Binds K (PySem.W.fnOf "check_there" "check_there" (zaag sz40) (zaaf sz40) (zaab sz40) .none kVz40 dcz40 pmz40 anz40 cdz40 ctz40) ["number","those"] []:=.all (lenA 2 (fun _ _=>rfl))
 have Fz38:=zaai (st:=sz38) lz38 cz38 kz38
 have Bz38:Binds K (PySem.W.fnOf "check_piece" "check_piece" (zaag sz38) (zaaf sz38) (zaab sz38) .none kVz38 dcz38 pmz38 anz38 cdz38 ctz38) ["corners","by_side"] []:=.all (lenA 2 (fun _ _=>rfl))
 have Fz51:=zaai (st:=sz51) lz51 cz51 kz51
 have Bz51:Binds K (PySem.W.fnOf "spots_fit" "spots_fit" (zaag sz51) (zaaf sz51) (zaab sz51) .none kVz51 dcz51 pmz51 anz51 cdz51 ctz51) ["spots"] []:=.all (lenA 1 (fun _=>rfl))
 have Fz36:=zaai (st:=sz36) lz36 cz36 kz36
 have Bz36:Binds K (PySem.W.fnOf "all_within" "all_within" (zaag sz36) (zaaf sz36) (zaab sz36) .none kVz36 dcz36 pmz36 anz36 cdz36 ctz36) ["numbers","bound"] []:=.all (lenA 2 (fun _ _=>rfl))
 have Fz41:=zaai (st:=sz41) lz41 cz41 kz41
 have Bz41:Binds K (PySem.W.fnOf "crossing" "crossing" (zaag sz41) (zaaf sz41) (zaab sz41) .none kVz41 dcz41 pmz41 anz41 cdz41 ctz41) ["corners"] []:=.all (lenA 1 (fun _=>rfl))
 have Fz49:=zaai (st:=sz49) lz49 cz49 kz49
 have Bz49:Binds K (PySem.W.fnOf "sides_cross" "sides_cross" (zaag sz49) (zaaf sz49) (zaab sz49) .none kVz49 dcz49 pmz49 anz49 cdz49 ctz49) ["corners","i","j"] []:=.all (lenA 3 (fun _ _ _=>rfl))
 have Fz48:=zaai (st:=sz48) lz48 cz48 kz48
 have Bz48:Binds K (PySem.W.fnOf "side_ends" "side_ends" (zaag sz48) (zaaf sz48) (zaab sz48) .none kVz48 dcz48 pmz48 anz48 cdz48 ctz48) ["corners","k"] []:=.all (lenA 2 (fun _ _=>rfl))
 have Fz47:=zaai (st:=sz47) lz47 cz47 kz47
 have Bz47:Binds K (PySem.W.fnOf "run_together" "run_together" (zaag sz47) (zaaf sz47) (zaab sz47) .none kVz47 dcz47 pmz47 anz47 cdz47 ctz47) ["corner","one","two"] []:=.all (lenA 3 (fun _ _ _=>rfl))
 have Fz43:=zaai (st:=sz43) lz43 cz43 kz43
 have Bz43:Binds K (PySem.W.fnOf "have_common_point" "have_common_point" (zaag sz43) (zaaf sz43) (zaab sz43) .none kVz43 dcz43 pmz43 anz43 cdz43 ctz43) ["one","two"] []:=.all (lenA 2 (fun _ _=>rfl))
 have Fz50:=zaai (st:=sz50) lz50 cz50 kz50
 have Bz50:Binds K (PySem.W.fnOf "spans_meet" "spans_meet" (zaag sz50) (zaaf sz50) (zaab sz50) .none kVz50 dcz50 pmz50 anz50 cdz50 ctz50) ["one","two","axis"] []:=.all (lenA 3 (fun _ _ _=>rfl))
 have Fz46:=zaai (st:=sz46) lz46 cz46 kz46
 have Bz46:Binds K (PySem.W.fnOf "reaches_across" "reaches_across" (zaag sz46) (zaaf sz46) (zaab sz46) .none kVz46 dcz46 pmz46 anz46 cdz46 ctz46) ["side","line"] []:=.all (lenA 2 (fun _ _=>rfl))
 have Fz52:=zaai (st:=sz52) lz52 cz52 kz52
 have Bz52:Binds K (PySem.W.fnOf "turn" "turn" (zaag sz52) (zaaf sz52) (zaab sz52) .none kVz52 dcz52 pmz52 anz52 cdz52 ctz52) ["start","one","two"] []:=.all (lenA 3 (fun _ _ _=>rfl))
 have Fz37:=zaai (st:=sz37) lz37 cz37 kz37
 have Bz37:Binds K (PySem.W.fnOf "along" "along" (zaag sz37) (zaaf sz37) (zaab sz37) .none kVz37 dcz37 pmz37 anz37 cdz37 ctz37) ["start","one","two"] []:=.all (lenA 3 (fun _ _ _=>rfl))
 have Fz42:=zaai (st:=sz42) lz42 cz42 kz42
 have Bz42:Binds K (PySem.W.fnOf "first_crossing" "first_crossing" (zaag sz42) (zaaf sz42) (zaab sz42) .none kVz42 dcz42 pmz42 anz42 cdz42 ctz42) ["book"] []:=.all (lenA 1 (fun _=>rfl))
 have Fz35:=zaai (st:=sz35) lz35 cz35 kz35
 have Bz35:Binds K (PySem.W.fnOf "_law_whole" "_law_whole" (zaag sz35) (zaaf sz35) (zaab sz35) .none kVz35 dcz35 pmz35 anz35 cdz35 ctz35) ["_law_found"] []:=.all (lenA 1 (fun _=>rfl))
 have Fz17:=zaai (st:=sz17) lz17 cz17 kz17
 have Bz17:Binds K (PySem.W.fnOf "_law_at" "_law_at" (zaag sz17) (zaaf sz17) (zaab sz17) .none kVz17 dcz17 pmz17 anz17 cdz17 ctz17) ["_law_script","_law_k"] []:=.all (lenA 2 (fun _ _=>rfl))
 have Fz30:=zaai (st:=sz30) lz30 cz30 kz30
 have Bz30:Binds K (PySem.W.fnOf "_law_stir" "_law_stir" (zaag sz30) (zaaf sz30) (zaab sz30) .none kVz30 dcz30 pmz30 anz30 cdz30 ctz30) ["_law_script","_law_many"] []:=.all (lenA 2 (fun _ _=>rfl))
 have Fz21:=zaai (st:=sz21) lz21 cz21 kz21
 have Bz21:Binds K (PySem.W.fnOf "_law_gcd" "_law_gcd" (zaag sz21) (zaaf sz21) (zaab sz21) .none kVz21 dcz21 pmz21 anz21 cdz21 ctz21) ["_law_one","_law_two"] []:=.all (lenA 2 (fun _ _=>rfl))
 have Fz23:=zaai (st:=sz23) lz23 cz23 kz23
 have Bz23:Binds K (PySem.W.fnOf "_law_numbers" "_law_numbers" (zaag sz23) (zaaf sz23) (zaab sz23) .none kVz23 dcz23 pmz23 anz23 cdz23 ctz23) ["_law_found","_law_due_here"] []:=.all (lenA 2 (fun _ _=>rfl))
 have Fz29:=zaai (st:=sz29) lz29 cz29 kz29
 have Bz29:Binds K (PySem.W.fnOf "_law_spots" "_law_spots" (zaag sz29) (zaaf sz29) (zaab sz29) .none kVz29 dcz29 pmz29 anz29 cdz29 ctz29) ["_law_seed","_law_many","_law_far","_law_step"] []:=.all (lenA 4 (fun _ _ _ _=>rfl))
 have Fz31:=zaai (st:=sz31) lz31 cz31 kz31
 have Bz31:Binds K (PySem.W.fnOf "_law_strides" "_law_strides" (zaag sz31) (zaaf sz31) (zaab sz31) .none kVz31 dcz31 pmz31 anz31 cdz31 ctz31) ["_law_row","_law_at_here","_law_many"] []:=.all (lenA 3 (fun _ _ _=>rfl))
 have Fz27:=zaai (st:=sz27) lz27 cz27 kz27
 have Bz27:Binds K (PySem.W.fnOf "_law_simple" "_law_simple" (zaag sz27) (zaaf sz27) (zaab sz27) .none kVz27 dcz27 pmz27 anz27 cdz27 ctz27) ["_law_row","_law_many"] []:=.all (lenA 2 (fun _ _=>rfl))
 have Fz32:=zaai (st:=sz32) lz32 cz32 kz32
 have Bz32:Binds K (PySem.W.fnOf "_law_swung" "_law_swung" (zaag sz32) (zaaf sz32) (zaab sz32) .none kVz32 dcz32 pmz32 anz32 cdz32 ctz32) ["_law_line","_law_cell"] []:=.all (lenA 2 (fun _ _=>rfl))
 have Fz24:=zaai (st:=sz24) lz24 cz24 kz24
 have Bz24:Binds K (PySem.W.fnOf "_law_parted" "_law_parted" (zaag sz24) (zaaf sz24) (zaab sz24) .none kVz24 dcz24 pmz24 anz24 cdz24 ctz24) ["_law_a","_law_b","_law_c","_law_d"] []:=.all (lenA 4 (fun _ _ _ _=>rfl))
 have Fz34:=zaai (st:=sz34) lz34 cz34 kz34
 have Bz34:Binds K (PySem.W.fnOf "_law_way" "_law_way" (zaag sz34) (zaaf sz34) (zaab sz34) .none kVz34 dcz34 pmz34 anz34 cdz34 ctz34) ["_law_one","_law_two"] []:=.all (lenA 2 (fun _ _=>rfl))
 have Fz18:=zaai (st:=sz18) lz18 cz18 kz18
 have Bz18:Binds K (PySem.W.fnOf "_law_crossed" "_law_crossed" (zaag sz18) (zaaf sz18) (zaab sz18) .none kVz18 dcz18 pmz18 anz18 cdz18 ctz18) ["_law_line","_law_i","_law_j"] []:=.all (lenA 3 (fun _ _ _=>rfl))
 have Fz20:=zaai (st:=sz20) lz20 cz20 kz20
 have Bz20:Binds K (PySem.W.fnOf "_law_first" "_law_first" (zaag sz20) (zaaf sz20) (zaab sz20) .none kVz20 dcz20 pmz20 anz20 cdz20 ctz20) ["_law_line"] []:=.all (lenA 1 (fun _=>rfl))
 have Fz22:=zaai (st:=sz22) lz22 cz22 kz22
 have Bz22:Binds K (PySem.W.fnOf "_law_growing" "_law_growing" (zaag sz22) (zaaf sz22) (zaab sz22) .none kVz22 dcz22 pmz22 anz22 cdz22 ctz22) ["_law_row","_law_at_here","_law_many","_law_cell"] []:=.all (lenA 4 (fun _ _ _ _=>rfl))
 have Fz26:=zaai (st:=sz26) lz26 cz26 kz26
 have Bz26:Binds K (PySem.W.fnOf "_law_place" "_law_place" (zaag sz26) (zaaf sz26) (zaab sz26) .none kVz26 dcz26 pmz26 anz26 cdz26 ctz26) ["_law_spot","_law_size"] []:=.all (lenA 2 (fun _ _=>rfl))
 have Fz28:=zaai (st:=sz28) lz28 cz28 kz28
 have Bz28:Binds K (PySem.W.fnOf "_law_spoiled" "_law_spoiled" (zaag sz28) (zaaf sz28) (zaab sz28) .none kVz28 dcz28 pmz28 anz28 cdz28 ctz28) ["_law_spots_here","_law_kind","_law_cell"] []:=.all (lenA 3 (fun _ _ _=>rfl))
 have Fz25:=zaai (st:=sz25) lz25 cz25 kz25
 have Bz25:Binds K (PySem.W.fnOf "_law_piece" "_law_piece" (zaag sz25) (zaaf sz25) (zaab sz25) .none kVz25 dcz25 pmz25 anz25 cdz25 ctz25) ["_law_row","_law_kind","_law_cell"] []:=.all (lenA 3 (fun _ _ _=>rfl))
 have Fz19:=zaai (st:=sz19) lz19 cz19 kz19
 have Bz19:Binds K (PySem.W.fnOf "_law_due" "_law_due" (zaag sz19) (zaaf sz19) (zaab sz19) .none kVz19 dcz19 pmz19 anz19 cdz19 ctz19) ["_law_made"] []:=.all (lenA 1 (fun _=>rfl))
 have Fz33:=zaai (st:=sz33) lz33 cz33 kz33
 have Bz33:Binds K (PySem.W.fnOf "_law_told" "_law_told" (zaag sz33) (zaaf sz33) (zaab sz33) .none kVz33 dcz33 pmz33 anz33 cdz33 ctz33) ["_law_book","_law_due_here"] []:=.all (lenA 2 (fun _ _=>rfl))
 have F_law:=zaai (st:=s_law) l_law c_law k_law
 have B_law:Binds K (PySem.W.fnOf "law" "law" (zaag s_law) (zaaf s_law) (zaab s_law) .none kV_law dc_law pm_law an_law cd_law ct_law) ["_law_script"] []:=.all (lenA 1 (fun _=>rfl))
 let T:Txt K mg:=⟨ez15,PySem.W.mg_of X Gn aez15,ez2,PySem.W.mg_of X Gn aez2,qez2,ez1,PySem.W.mg_of X Gn aez1,qez1,ez0,PySem.W.mg_of X Gn aez0,qez0,ez16,PySem.W.mg_of X Gn aez16,qez16,ez14,PySem.W.mg_of X Gn aez14,qez14,C_Book,PySem.W.mg_of X Gn aC_Book,⟨pg_Book,hd_Book,po_Book,sa_Book⟩,no_Book_size,no_Book_pieces,no_Book_side_marks,no_Book_seams,fz45,_,Fz45,Bz45,PySem.W.mg_of X Gn az45,kz45,fz39,_,Fz39,Bz39,PySem.W.mg_of X Gn az39,kz39,fz44,_,Fz44,Bz44,PySem.W.mg_of X Gn az44,kz44,fz3,_,Fz3,Bz3,⟨az3,iz3,kz3⟩,⟨zadm,az3,iz3,kc_Book⟩,fz4,_,Fz4,Bz4,Bz4_2,⟨az4,iz4,kz4⟩,fz12,_,Fz12,Bz12,⟨az12,iz12,kz12⟩,fz7,_,Fz7,Bz7,⟨az7,iz7,kz7⟩,fz5,_,Fz5,Bz5,⟨az5,iz5,kz5⟩,fz10,_,Fz10,Bz10,⟨az10,iz10,kz10⟩,fz13,_,Fz13,Bz13,⟨az13,iz13,kz13⟩,fz8,_,Fz8,Bz8,⟨az8,iz8,kz8⟩,fz6,_,Fz6,Bz6,⟨az6,iz6,kz6⟩,fz9,_,Fz9,Bz9,⟨az9,iz9,kz9⟩,fz11,_,Fz11,Bz11,⟨az11,iz11,kz11⟩,fz40,_,Fz40,Bz40,PySem.W.mg_of X Gn az40,kz40,fz38,_,Fz38,Bz38,PySem.W.mg_of X Gn az38,kz38,fz51,_,Fz51,Bz51,PySem.W.mg_of X Gn az51,kz51,fz36,_,Fz36,Bz36,PySem.W.mg_of X Gn az36,kz36,fz41,_,Fz41,Bz41,PySem.W.mg_of X Gn az41,kz41,fz49,_,Fz49,Bz49,PySem.W.mg_of X Gn az49,kz49,fz48,_,Fz48,Bz48,PySem.W.mg_of X Gn az48,kz48,fz47,_,Fz47,Bz47,PySem.W.mg_of X Gn az47,kz47,fz43,_,Fz43,Bz43,PySem.W.mg_of X Gn az43,kz43,fz50,_,Fz50,Bz50,PySem.W.mg_of X Gn az50,kz50,fz46,_,Fz46,Bz46,PySem.W.mg_of X Gn az46,kz46,fz52,_,Fz52,Bz52,PySem.W.mg_of X Gn az52,kz52,fz37,_,Fz37,Bz37,PySem.W.mg_of X Gn az37,kz37,fz42,_,Fz42,Bz42,PySem.W.mg_of X Gn az42,kz42,fz35,_,Fz35,Bz35,PySem.W.mg_of X Gn az35,kz35,fz17,_,Fz17,Bz17,PySem.W.mg_of X Gn az17,kz17,fz30,_,Fz30,Bz30,PySem.W.mg_of X Gn az30,kz30,fz21,_,Fz21,Bz21,PySem.W.mg_of X Gn az21,kz21,fz23,_,Fz23,Bz23,PySem.W.mg_of X Gn az23,kz23,fz29,_,Fz29,Bz29,PySem.W.mg_of X Gn az29,kz29,fz31,_,Fz31,Bz31,PySem.W.mg_of X Gn az31,kz31,fz27,_,Fz27,Bz27,PySem.W.mg_of X Gn az27,kz27,fz32,_,Fz32,Bz32,PySem.W.mg_of X Gn az32,kz32,fz24,_,Fz24,Bz24,PySem.W.mg_of X Gn az24,kz24,fz34,_,Fz34,Bz34,PySem.W.mg_of X Gn az34,kz34,fz18,_,Fz18,Bz18,PySem.W.mg_of X Gn az18,kz18,fz20,_,Fz20,Bz20,PySem.W.mg_of X Gn az20,kz20,fz22,_,Fz22,Bz22,PySem.W.mg_of X Gn az22,kz22,fz26,_,Fz26,Bz26,PySem.W.mg_of X Gn az26,kz26,fz28,_,Fz28,Bz28,PySem.W.mg_of X Gn az28,kz28,fz25,_,Fz25,Bz25,PySem.W.mg_of X Gn az25,kz25,fz19,_,Fz19,Bz19,PySem.W.mg_of X Gn az19,kz19,fz33,_,Fz33,Bz33,PySem.W.mg_of X Gn az33,kz33,fa,_,F_law,B_law,PySem.W.mg_of X Gn a_law,k_law,t_LEAST,PySem.W.mg_of X Gn gl_LEAST,t_MOST,PySem.W.mg_of X Gn gl_MOST,t_MOST_PIECES,PySem.W.mg_of X Gn gl_MOST_PIECES,t_LEAST_CORNERS,PySem.W.mg_of X Gn gl_LEAST_CORNERS,t_MOST_CORNERS,PySem.W.mg_of X Gn gl_MOST_CORNERS,t_MOST_MARKS,PySem.W.mg_of X Gn gl_MOST_MARKS,t_FARTHEST,PySem.W.mg_of X Gn gl_FARTHEST,t_LONGEST_MOVE,PySem.W.mg_of X Gn gl_LONGEST_MOVE,PySem.W.mg_none_of X Gn z_abs,PySem.W.mg_none_of X Gn z_all,PySem.W.mg_none_of X Gn z_any,PySem.W.mg_none_of X Gn z_bool,PySem.W.mg_none_of X Gn z_int,PySem.W.mg_none_of X Gn z_isinstance,PySem.W.mg_none_of X Gn z_len,PySem.W.mg_none_of X Gn z_list,PySem.W.mg_none_of X Gn z_max,PySem.W.mg_none_of X Gn z_min,PySem.W.mg_none_of X Gn z_range,PySem.W.mg_none_of X Gn z_sorted,PySem.W.mg_none_of X Gn z_tuple⟩
 exact⟨PySem.W.fnOf "law" "law" (zaag s_law) (zaaf s_law) (zaab s_law) .none kV_law dc_law pm_law an_law cd_law ct_law,Gof T,fun s v=>.of_eq rfl,fun base _ _=>fn_top (all (base:=base) (P:=l.prog) (w:=w) T 16).o_law⟩
theorem zahr:∀{K:List (Addr×Obj)}{a:Addr}{o:Obj},K.lookup a=some o→(a,o)∈K
 | [],a,o,h=>by cases h
 | (b,u)::r,a,o,h=>by
  rw[List.lookup_cons]at h
  split at h
  ·rename_i hb
   cases h
   rw[beq_iff_eq.mp hb]
   exact List.mem_cons_self
  ·exact List.mem_cons_of_mem _ (zahr h)
def noLst(K:PySem.W.Frag):Bool:=K.all fun p=>match p.2.cls with | .type n=>n != "list" | _=>true
theorem noLst_no{K:PySem.W.Frag}(h:noLst K=true){a:Addr}{o:Obj}(e:K.lookup a=some o)(hc:o.cls=.type "list"):False:=by
 have hm:=zahr e
 have q:=List.all_eq_true.mp h _ hm
 rw[show(a,o).2.cls=.type "list" from hc]at q
 simp at q
theorem zabt{G:Gx}{w:Wo}{H:Hp}:∀ns:List Int,Reps G w H (ns.map T.int) (ns.map V.int)
 | []=>rfl
 | n::r=>⟨.int n,_,rfl,rfl,zabt r⟩
theorem walk(M:Math){l:PySem.W.OpenLaw}{q:Program}{loose:List Str}{XP:(Str→Option Value)→Heap→Prop}{YP:World→Heap→Prop}{d:DefRec}{K:Params→PySem.W.Frag}(hn:l.most=some 63)(hdf:d.params.defaults=[])
  (hY:∀(w:World) (h:Heap),YP w h→(K w.params).In h) (hK:∀w:World,noLst (K w.params)=true)
  (F:∀(w:World) (mg:Str→Option Value) (fa:Addr) (h:Heap),(K w.params).In h→h.Ns mainGlobals mg→mg d.name=some (.ref fa)→
   ∃(fd:FuncData) (G:Gx),(∀(s:Shared) (u:Value),BindsTo s fd ⟨[u],[]⟩ [("_law_script",u)])∧∀base:Heap,(K w.params).In base→base.Ns mainGlobals mg→FnOk l.prog w (K w.params) mg base CX0 32 fa fd ["_law_script"] (spTop G)):
  PySem.W.WalkO q loose XP YP l.row.toRowW d [] (fun f vs=>PySem.call f vs):=by
 refine L2.walk_of (n:=63) (k:=32) (x:="_law_script") (CX:=fun _=>CX0) (sp:=fun w=>fun vs H Q E=>∃(a:Addr) (ns:List Int),vs=[.ref a]∧ns.length≤63∧Rd H a (.lst (ns.map V.int))∧∀H',Q (.bl true) H') hn (by decide) hdf ⟨rfl,by decide,by decide⟩ hY (fun w mg fa h a b c=>?_) (fun w H a ns hl hO hS=>?_) fun _ _ _ _ _ z=>z
 ·obtain⟨fd,G,hb,hF⟩:=F w mg fa h a b c
  refine⟨fd,hb,fun base kb nb=>?_⟩
  have hf:=hF base kb nb
  refine⟨fun vs H Q E ⟨a,ns,e,_⟩=>by subst e;rfl,fun A outer s H args us vs Q E hr e0 hb hv ⟨a,ns,e,hl,hR,hq⟩=>hf.run A outer s H args us vs Q E hr e0 hb hv ?_⟩
  subst e
  obtain⟨st,e⟩:=M ns hl
  refine⟨⟨0,fun _=>0,fun b=>b=a⟩,[],[.val (.lst (ns.map .int))],⟨rfl,fun l m h=>absurd h (Nat.not_lt_zero _),fun l h=>absurd h (Nat.not_lt_zero _),fun l c h=>by simp at h,fun b hb=>⟨ns.map V.int,by have hb:b=a:=hb;subst hb;exact hR⟩⟩,⟨.ref a,[],rfl,⟨a,_,rfl,rfl,hR,zabt ns⟩,rfl⟩,?_⟩
  rw[e]
  exact⟨fun _ w' H' v _ _ r=>by cases r;exact hq _,fun z=>by cases z⟩
 ·have hR:Rd H a (.lst (ns.map V.int)):=hS.elim id fun⟨o,_,_,e,hc,_⟩=>(noLst_no (hK w) e hc).elim
  exact⟨a,ns,rfl,hl,hR,fun _=>rfl⟩
end Pg
end IP
end
section
set_option Elab.async false
set_option linter.all false
set_option maxRecDepth 100000
namespace IP
open L2
theorem zaao{i j:Int}(h:i.natAbs<2^64):mulB i j=true:=by
 unfold mulB
 simp[h]
section
variable{x f:Bool}{σ:Fr}{s:Sto}{i j:Int}{ts us:List T}{t a b c d:T}{r:R}
@[simp] theorem leave_ret:leave x false (.ret r s)=.ok r s:=rfl
@[simp] theorem leave_retO:leave x true (.retO ts s)=.ok (.val (.lst ts)) s:=rfl
@[simp] theorem leave_next:leave x false (.next σ s)=.ok (.val .non) s:=rfl
@[simp] theorem onB_bl (b:Bool) (m n:Res R):onB (.val (.bl b)) m n=if b=true then m else n:=by cases b<;>rfl
@[simp] theorem onBS_bl (b:Bool) (m n:SR):onBS (.val (.bl b)) m n=if b=true then m else n:=by cases b<;>rfl
@[simp] theorem onI_int (g:Int→Res R):onI (.val (.int i)) g=g i:=rfl
@[simp] theorem onV_val (g:T→Res (List T)):onV (.val t) g=g t:=rfl
@[simp] theorem onL_lst (g:List T→Res R):onL (.val (.lst ts)) g=g ts:=rfl
@[simp] theorem onO_some {α β:Type} (v:α) (g:α→Res β):onO (some v) g=g v:=rfl
@[simp] theorem int_int:(R.val (.int i)).int?=some i:=rfl
@[simp] theorem val_val:(R.val t).val?=some t:=rfl
@[simp] theorem val_bor:(R.bor ts).val?=none:=rfl
@[simp] theorem lst_lst:(R.val (.lst ts)).lst?=some ts:=rfl
@[simp] theorem seq_lst:(R.val (.lst ts)).seq=some ts:=rfl
@[simp] theorem seq_bor:(R.bor ts).seq=some ts:=rfl
@[simp] theorem sq2_lst:(R.val (.lst ts)).sq2=some ts:=rfl
@[simp] theorem sq2_tup:(R.val (.tup ts)).sq2=some ts:=rfl
@[simp] theorem sq2_bor:(R.bor ts).sq2=some ts:=rfl
@[simp] theorem sq3_lst:(R.val (.lst ts)).sq3=some ts:=rfl
@[simp] theorem sq3_tup:(R.val (.tup ts)).sq3=some ts:=rfl
@[simp] theorem tru_bl (b:Bool):tru (.val (.bl b))=some b:=rfl
@[simp] theorem tru_int:tru (.val (.int i))=some (i != 0):=rfl
@[simp] theorem one_ok:one (.ok (.val t) s)=.ok (some t) s:=rfl
@[simp] theorem st_ite {p:Prop} [Decidable p] (m n:Res R) (k:R→Sto→SR):(if p then m else n).st σ k=if p then m.st σ k else n.st σ k:=by split<;>rfl
@[simp] theorem bind_ite {α β:Type}{p:Prop} [Decidable p] (m n:Res α) (k:α→Sto→Res β):(if p then m else n).bind k=if p then m.bind k else n.bind k:=by split<;>rfl
@[simp] theorem leave_ite {p:Prop} [Decidable p] (m n:SR):leave x f (if p then m else n)=if p then leave x f m else leave x f n:=by split<;>rfl
@[simp] theorem sbind_ite {p:Prop} [Decidable p] (m n:SR) (k:Fr→Sto→SR):(if p then m else n).bind k=if p then m.bind k else n.bind k:=by split<;>rfl
@[simp] theorem unlock_ite {p:Prop} [Decidable p] (m n:SR) (i:Nat):(if p then m else n).unlock i=if p then m.unlock i else n.unlock i:=by split<;>rfl
@[simp] theorem unlock_ret (v:R) (i:Nat):(SR.ret v s).unlock i=.ret v s:=rfl
@[simp] theorem unlock_next (i:Nat):(SR.next σ s).unlock i=.next (IP.unlock σ i) s:=rfl
@[simp] theorem op_add:opR .add (.val (.int i)) (.val (.int j))=some (.val (.int (i+j))):=rfl
@[simp] theorem op_sub:opR .sub (.val (.int i)) (.val (.int j))=some (.val (.int (i-j))):=rfl
theorem op_mul(h:mulB i j=true):opR .mul (.val (.int i)) (.val (.int j))=some (.val (.int (i*j))):=by simp[opR,opI,h]
theorem op_mod(h:0<j):opR .mod (.val (.int i)) (.val (.int j))=some (.val (.int (Int.fmod i j))):=by simp[opR,opI,show j≠0 by omega]
theorem big_64:(2:Nat)^64<big:=by unfold big;decide +kernel
theorem zaaw(h:0<j)(hb:j<2^64):opR .fdiv (.val (.int i)) (.val (.int j))=some (.val (.int (Int.fdiv i j))):=by
 have:j.natAbs<big:=Nat.lt_trans (by omega) big_64
 simp[opR,opI,show j≠0 by omega,this]
@[simp] theorem cm_lt:cmpR .lt (.val (.int i)) (.val (.int j))=some (decide (i<j)):=rfl
@[simp] theorem cm_le:cmpR .le (.val (.int i)) (.val (.int j))=some (decide (i≤j)):=rfl
@[simp] theorem cm_gt:cmpR .gt (.val (.int i)) (.val (.int j))=some (decide (j<i)):=rfl
@[simp] theorem cm_ge:cmpR .ge (.val (.int i)) (.val (.int j))=some (decide (j≤i)):=rfl
@[simp] theorem cm_eq:cmpR .eq (.val a) (.val b)=eqD 8 a b:=rfl
@[simp] theorem cm_ne:cmpR .ne (.val a) (.val b)=(eqD 8 a b).map (!·):=rfl
@[simp] theorem cm_isN:cmpR .isN r (.val .non)=some r.isNon:=rfl
@[simp] theorem cm_notN:cmpR .notN r (.val .non)=some (!r.isNon):=rfl
@[simp] theorem eq_int:eqD 8 (.int i) (.int j)=some (i==j):=by simp[eqD]
@[simp] theorem sub_2a:subR (.val (.tup [a,b])) 0=some a:=rfl
@[simp] theorem sub_2b:subR (.val (.tup [a,b])) 1=some b:=rfl
theorem sub_at{n:Nat}(h:ts[n]?=some t):subR (.val (.lst ts)) (n:Int)=some t:=by
 have hl:=(List.getElem?_eq_some_iff.mp h).1
 have h2:=(List.getElem?_eq_some_iff.mp h).2
 simp[subR,L2.atI,L2.ixN,hl,h2]
theorem zabu{n:Nat}(h:ts[n]?=some t):subR (.bor ts) (n:Int)=some t:=by
 have hl:=(List.getElem?_eq_some_iff.mp h).1
 have h2:=(List.getElem?_eq_some_iff.mp h).2
 simp[subR,L2.atI,L2.ixN,hl,h2]
@[simp] theorem b1_len_lst:b1R .len (.val (.lst ts))=some (.val (.int ts.length)):=rfl
@[simp] theorem b1_len_tup:b1R .len (.val (.tup ts))=some (.val (.int ts.length)):=rfl
@[simp] theorem b1_len_bor:b1R .len (.bor ts)=some (.val (.int ts.length)):=rfl
@[simp] theorem b1_abs:b1R .abs (.val (.int i))=some (.val (.int (if i<0 then -i else i))):=rfl
@[simp] theorem b1_list:b1R .list (.val (.lst ts))=some (.val (.lst ts)):=rfl
@[simp] theorem b1_sorted2:b1R .sorted (.val (.lst [.int i,.int j]))=some (.val (.lst [.int (min i j),.int (max i j)])):=by
 by_cases h:j<i
 ·simp[b1R,asInts,sortI,insI,h,show min i j=j by omega,show max i j=i by omega]
 ·simp[b1R,asInts,sortI,insI,h,show min i j=i by omega,show max i j=j by omega]
@[simp] theorem b1_max2:b1R .max (.val (.lst [.int i,.int j]))=some (.val (.int (max i j))):=by
 have h:b1R .max (.val (.lst [.int i,.int j]))=some (.val (.int (if j>i then j else i))):=rfl
 rw[h,show(if j>i then j else i)=max i j by split<;>omega]
@[simp] theorem b1_min2:b1R .min (.val (.lst [.int i,.int j]))=some (.val (.int (min i j))):=by
 have h:b1R .min (.val (.lst [.int i,.int j]))=some (.val (.int (if j<i then j else i))):=rfl
 rw[h,show(if j<i then j else i)=min i j by split<;>omega]
@[simp] theorem sub_l2a:subR (.val (.lst [a,b])) 0=some a:=rfl
@[simp] theorem sub_l2b:subR (.val (.lst [a,b])) 1=some b:=rfl
end
theorem ex_for{C:Cf}{g:Tg}{it:E}{b:List S}{σ:Fr}{s s1:Sto}{ts:List T}(h:ev C it .j σ s=.ok (.val (.lst ts)) s1)(hit:∀i,it≠.var i):ex C (.for_ g it b) σ s=forL g (fun σ s=>exs C b σ s) ts σ s1:=by
 have e:ex C (.for_ g it b) σ s=(ev C it .j σ s).st σ fun x s1=>onS x.lst? fun ts=>forL g (fun σ s=>exs C b σ s) ts σ s1:=by
  cases it<;>first|rfl|exact absurd rfl (hit _)
 rw[e,h]
 rfl
theorem lim_ge:1000≤lim:=by decide
theorem lim_ge':(1000:Int)≤(lim:Int):=Int.ofNat_le.mpr lim_ge
theorem rng_a{j:Int}(h:j≤1000):decide (j≤(lim:Int))=true:=decide_eq_true (Int.le_trans h lim_ge')
theorem rng_b{n:Nat}(h:n≤1000):bnd (n:Int)=true:=by
 unfold bnd
 simp
 omega
theorem zacs{C:Cf}{a:E}{σ:Fr}{s s1:Sto}{j:Int}(h:ev C a .v σ s=.ok (.val (.int j)) s1):ev C (.rng1 a) .j σ s=if bnd j&&decide (j≤lim)then .ok (.val (.lst (rangeT 0 j))) s1 else .stuck:=by
 unfold ev
 rw[h]
 rfl
theorem zahd{C:Cf}{a b:E}{σ:Fr}{s s1 s2:Sto}{i j:Int}(h:ev C a .v σ s=.ok (.val (.int i)) s1)(h':ev C b .v σ s1=.ok (.val (.int j)) s2):ev C (.rng2 a b) .j σ s=if bnd i&&bnd j&&decide (j-i≤lim)then .ok (.val (.lst (rangeT i j))) s2 else .stuck:=by
 unfold ev
 rw[h]
 show(ev C b .v σ s1).bind _=_
 rw[h']
 rfl
theorem ite_t{α:Type}{b:Bool}{x y:α}(h:b=true):(if b then x else y)=x:=by rw[h];rfl
theorem and_t{a b:Bool}(h:a=true)(h':b=true):(a&&b)=true:=by rw[h,h'];rfl
theorem zabo{C:Cf}{a:E}{σ:Fr}{s s1:Sto}{n:Nat}(h:ev C a .v σ s=.ok (.val (.int (n:Int))) s1)(hn:n≤1000):ev C (.rng1 a) .j σ s=.ok (.val (.lst (rangeT 0 n))) s1:=
 (zacs h).trans (ite_t (and_t (rng_b hn) (rng_a (Int.ofNat_le.mpr hn))))
theorem ev_rng2{C:Cf}{a b:E}{σ:Fr}{s s1 s2:Sto}{m n:Nat}(h:ev C a .v σ s=.ok (.val (.int (m:Int))) s1)(h':ev C b .v σ s1=.ok (.val (.int (n:Int))) s2)(hm:m≤1000)(hn:n≤1000):ev C (.rng2 a b) .j σ s=.ok (.val (.lst (rangeT m n))) s2:=
 (zahd h h').trans (ite_t (and_t (and_t (rng_b hm) (rng_b hn)) (rng_a (by omega))))
theorem evi_rng1'{C:Cf}{a:E}{σ:Fr}{s s1:Sto}{j:Int}(h:ev C a .v σ s=.ok (.val (.int j)) s1):ev C (.rng1 a) .i σ s=if bnd j&&decide (j≤lim)then .ok (.val (.lst (rangeT 0 j))) s1 else .stuck:=by
 unfold ev
 rw[h]
 rfl
theorem zaec{C:Cf}{a:E}{σ:Fr}{s s1:Sto}{n:Nat}(h:ev C a .v σ s=.ok (.val (.int (n:Int))) s1)(hn:n≤1000):ev C (.rng1 a) .i σ s=.ok (.val (.lst (rangeT 0 n))) s1:=
 (evi_rng1' h).trans (ite_t (and_t (rng_b hn) (rng_a (Int.ofNat_le.mpr hn))))
theorem ex_ret{C:Cf}{e:E}{σ:Fr}{s s1:Sto}{r:R}(h:ev C e .v σ s=.ok r s1):ex C (.ret e) σ s=.ret r s1:=by unfold ex;rw[h];rfl
theorem ex_asg{C:Cf}{e:E}{i:Nat}{σ:Fr}{s s1:Sto}{t:T}(h:ev C e .v σ s=.ok (.val t) s1):ex C (.asg i e) σ s=.next (put σ i t) s1:=by unfold ex;rw[h];rfl
theorem zaca{F:T→Sto→Res (Option T)}{s:Sto}{α:Type}(f:α→T)(P:α→Prop):∀ts:List T,(∀(m:Nat) (t:T),ts[m]?=some t→∃x,P x∧F t s=.ok (some (f x)) s)→∃xs:List α,xs.length=ts.length∧(∀x∈xs,P x)∧mapRes F ts s=.ok (xs.map f) s
 | [],_=>⟨[],rfl,by simp,rfl⟩
 | t::ts,h=>by
  obtain⟨x,hx,e⟩:=h 0 t rfl
  obtain⟨xs,h1,h2,h3⟩:=zaca f P ts fun m u hm=>h (m+1) u (by simpa using hm)
  refine⟨x::xs,by simp[h1],fun y hy=>?_,?_⟩
  ·rcases List.mem_cons.mp hy with rfl|z
   ·exact hx
   ·exact h2 y z
  ·unfold mapRes
   rw[e]
   simp[h3]
theorem zadr{C:Cf}{e it:E}{g:Tg}{σ:Fr}{s s1 s2:Sto}{ts q:List T}(h:ev C it .i σ s=.ok (.val (.lst ts)) s1)(h2:mapRes (fun t s=>onO (bindTg σ g t) fun σ'=>one (ev C e .v σ' s)) ts s1=.ok q s2):ev C (.comp e g it) .v σ s=.ok (.val (.lst q)) s2:=by
 unfold ev
 rw[h]
 show(mapRes (fun t s=>onO (bindTg σ g t) fun σ'=>one (ev C e .v σ' s)) ts s1).bind _=_
 rw[h2]
 rfl
theorem zaf7{C:Cf}{a:S}{r:List S}{σ:Fr}{s:Sto}:exs C (a::r) σ s=(ex C a σ s).bind fun σ1 s1=>exs C r σ1 s1:=by simp only[exs]
theorem zaad{C:Cf}{a:S}{r:List S}{σ σ1:Fr}{s s1:Sto}(h:ex C a σ s=.next σ1 s1):exs C (a::r) σ s=exs C r σ1 s1:=by rw[zaf7,h];rfl
theorem zabh{C:Cf}{a:S}{r:List S}{σ:Fr}{s s1:Sto}{v:R}(h:ex C a σ s=.ret v s1):exs C (a::r) σ s=.ret v s1:=by rw[zaf7,h];rfl
@[simp] theorem rngM_j (m:Res R):rngM .j m=m:=rfl
@[simp] theorem rngM_i (m:Res R):rngM .i m=m:=rfl
section
variable{g:Tg}{body:Fr→Sto→SR}{s:Sto}
theorem zaba(I:Nat→Fr→Prop):∀(ts:List T) (n:Nat) (σ:Fr),I n σ→(∀(m:Nat) (t:T) (σ:Fr),ts[m]?=some t→I (n+m) σ→∃σ1 σ2,bindTg σ g t=some σ1∧body σ1 s=.next σ2 s∧I (n+m+1) σ2)→
  ∃σ',forL g body ts σ s=.next σ' s∧I (n+ts.length) σ'
 | [],n,σ,h,_=>⟨σ,rfl,h⟩
 | t::ts,n,σ,h,st=>by
  obtain⟨σ1,σ2,e1,e2,e3⟩:=st 0 t σ rfl h
  obtain⟨σ',e4,e5⟩:=zaba I ts (n+1) σ2 e3 fun m u σ em hm=>by
   obtain⟨a,b,c1,c2,c3⟩:=st (m+1) u σ (by simpa using em) (by rw[show n+(m+1)=n+1+m by omega];exact hm)
   exact⟨a,b,c1,c2,by rw[show n+1+m+1=n+(m+1)+1 by omega];exact c3⟩
  refine⟨σ',?_,by rw[List.length_cons,show n+(ts.length+1)=n+1+ts.length by omega];exact e5⟩
  show onS (bindTg σ g t) _=_
  rw[e1]
  show(body σ1 s).bind _=_
  rw[e2]
  exact e4
def firstN{α:Type}(q:Nat→Option α):Nat→Nat→Option α
 | _,0=>none
 | n,m+1=>match q n with
  | some v=>some v
  | none=>firstN q (n+1) m
theorem zabj(I:Nat→Fr→Prop)(q:Nat→Option R):∀(ts:List T) (n:Nat) (σ:Fr),I n σ→
  (∀(m:Nat) (t:T) (σ:Fr),ts[m]?=some t→I (n+m) σ→∃σ1,bindTg σ g t=some σ1∧match q (n+m)with
   | some r=>body σ1 s=.ret r s
   | none=>∃σ2,body σ1 s=.next σ2 s∧I (n+m+1) σ2)→
  match firstN q n ts.length with
  | some r=>forL g body ts σ s=.ret r s
  | none=>∃σ',forL g body ts σ s=.next σ' s∧I (n+ts.length) σ'
 | [],n,σ,h,_=>⟨σ,rfl,h⟩
 | t::ts,n,σ,h,st=>by
  obtain⟨σ1,e1,e2⟩:=st 0 t σ rfl h
  rw[List.length_cons]
  unfold firstN
  cases hq:q n with
  | some r=>
   rw[show n+0=n from rfl,hq]at e2
   show onS (bindTg σ g t) _=_
   rw[e1]
   show(body σ1 s).bind _=_
   rw[show body σ1 s=_ from e2]
   rfl
  | none=>
   rw[show n+0=n from rfl,hq]at e2
   obtain⟨σ2,e2,e3⟩:=e2
   have ih:=zabj I q ts (n+1) σ2 e3 fun m u σ em hm=>by
    obtain⟨a,c1,c2⟩:=st (m+1) u σ (by simpa using em) (by rw[show n+(m+1)=n+1+m by omega];exact hm)
    refine⟨a,c1,?_⟩
    rw[show n+(m+1)=n+1+m by omega]at c2
    exact c2
   have e0:forL g body (t::ts) σ s=forL g body ts σ2 s:=by
    show onS (bindTg σ g t) _=_
    rw[e1]
    show(body σ1 s).bind _=_
    rw[e2]
    rfl
   rw[e0]
   show(match firstN q (n+1) ts.length with|some r=>_|none=>_)
   cases hf:firstN q (n+1) ts.length with
   | some r=>rw[hf]at ih;exact ih
   | none=>
    rw[hf]at ih
    obtain⟨σ',e4,e5⟩:=ih
    exact⟨σ',e4,by rw[show n+(ts.length+1)=n+1+ts.length by omega];exact e5⟩
theorem zaak{i j:Int}{n:Nat}{t:T}(h:(rangeT i j)[n]?=some t):t=.int (i+n)∧n<(j-i).toNat:=by
 unfold rangeT at h
 rw[List.getElem?_map]at h
 cases e:(List.range (j-i).toNat)[n]? with
 | none=>rw[e]at h;cases h
 | some m=>
  rw[e]at h
  have hn:=(List.getElem?_eq_some_iff.mp e).1
  have:=(List.getElem?_eq_some_iff.mp e).2
  simp at this hn
  subst this
  simp at h
  exact⟨h.symm,by omega⟩
theorem zaaj(i j:Int):(rangeT i j).length=(j-i).toNat:=by unfold rangeT;simp
end
end IP
end
section
set_option Elab.async false
set_option linter.all false
set_option maxRecDepth 100000
namespace IP
@[simp] theorem z_exs_1:type_of% @exs.eq_1:=@exs.eq_1
@[simp] theorem z_exs_2:type_of% @exs.eq_2:=@exs.eq_2
@[simp] theorem z_ex_1:type_of% @ex.eq_1:=@ex.eq_1
@[simp] theorem z_ex_3:type_of% @ex.eq_3:=@ex.eq_3
@[simp] theorem z_ex_4:type_of% @ex.eq_4:=@ex.eq_4
@[simp] theorem z_ex_6:type_of% @ex.eq_6:=@ex.eq_6
@[simp] theorem z_ex_8:type_of% @ex.eq_8:=@ex.eq_8
@[simp] theorem z_ex_9:type_of% @ex.eq_9:=@ex.eq_9
@[simp] theorem z_ex_12:type_of% @ex.eq_12:=@ex.eq_12
@[simp] theorem z_ex_13:type_of% @ex.eq_13:=@ex.eq_13
@[simp] theorem z_ex_14:type_of% @ex.eq_14:=@ex.eq_14
@[simp] theorem z_ex_16:type_of% @ex.eq_16:=@ex.eq_16
@[simp] theorem z_ex_17:type_of% @ex.eq_17:=@ex.eq_17
@[simp] theorem z_ex_19:type_of% @ex.eq_19:=@ex.eq_19
@[simp] theorem z_ex_20:type_of% @ex.eq_20:=@ex.eq_20
@[simp] theorem z_ex_21:type_of% @ex.eq_21:=@ex.eq_21
@[simp] theorem z_ev_1:type_of% @ev.eq_1:=@ev.eq_1
@[simp] theorem z_ev_2:type_of% @ev.eq_2:=@ev.eq_2
@[simp] theorem z_ev_3:type_of% @ev.eq_3:=@ev.eq_3
@[simp] theorem z_ev_4:type_of% @ev.eq_4:=@ev.eq_4
@[simp] theorem z_ev_5:type_of% @ev.eq_5:=@ev.eq_5
@[simp] theorem z_ev_6:type_of% @ev.eq_6:=@ev.eq_6
@[simp] theorem z_ev_7:type_of% @ev.eq_7:=@ev.eq_7
@[simp] theorem z_ev_8:type_of% @ev.eq_8:=@ev.eq_8
@[simp] theorem z_ev_9:type_of% @ev.eq_9:=@ev.eq_9
@[simp] theorem z_ev_10:type_of% @ev.eq_10:=@ev.eq_10
@[simp] theorem z_ev_11:type_of% @ev.eq_11:=@ev.eq_11
@[simp] theorem z_ev_13:type_of% @ev.eq_13:=@ev.eq_13
@[simp] theorem z_ev_14:type_of% @ev.eq_14:=@ev.eq_14
@[simp] theorem z_ev_15:type_of% @ev.eq_15:=@ev.eq_15
@[simp] theorem z_ev_16:type_of% @ev.eq_16:=@ev.eq_16
@[simp] theorem z_ev_17:type_of% @ev.eq_17:=@ev.eq_17
@[simp] theorem z_ev_18:type_of% @ev.eq_18:=@ev.eq_18
@[simp] theorem z_ev_19:type_of% @ev.eq_19:=@ev.eq_19
@[simp] theorem z_ev_20:type_of% @ev.eq_20:=@ev.eq_20
@[simp] theorem z_ev_21:type_of% @ev.eq_21:=@ev.eq_21
@[simp] theorem z_ev_23:type_of% @ev.eq_23:=@ev.eq_23
@[simp] theorem z_ev_28:type_of% @ev.eq_28:=@ev.eq_28
@[simp] theorem z_ev_29:type_of% @ev.eq_29:=@ev.eq_29
@[simp] theorem z_ev_30:type_of% @ev.eq_30:=@ev.eq_30
@[simp] theorem z_ev_32:type_of% @ev.eq_32:=@ev.eq_32
@[simp] theorem z_ev_36:type_of% @ev.eq_36:=@ev.eq_36
@[simp] theorem z_ev_37:type_of% @ev.eq_37:=@ev.eq_37
@[simp] theorem z_ev_38:type_of% @ev.eq_38:=@ev.eq_38
@[simp] theorem z_ev_39:type_of% @ev.eq_39:=@ev.eq_39
@[simp] theorem z_evs_1:type_of% @evs.eq_1:=@evs.eq_1
@[simp] theorem z_evs_2:type_of% @evs.eq_2:=@evs.eq_2
@[simp] theorem z_evr_1:type_of% @evr.eq_1:=@evr.eq_1
@[simp] theorem z_evr_2:type_of% @evr.eq_2:=@evr.eq_2
@[simp] theorem z_enter_1:type_of% @enter.eq_1:=@enter.eq_1
@[simp] theorem z_ofR_1:type_of% @ofR.eq_1:=@ofR.eq_1
@[simp] theorem z_ofR_2:type_of% @ofR.eq_2:=@ofR.eq_2
@[simp] theorem z_look_1:type_of% @look.eq_1:=@look.eq_1
@[simp] theorem z_put_1:type_of% @put.eq_1:=@put.eq_1
section
variable{x f:Bool}{σ:Fr}{s:Sto}{i j:Int}{ts us:List T}{t a b c:T}{r:R}{l d k:Nat}{sub:Nat→Nat→Bool}{fs:List (Option T)}
@[simp] theorem dr_non:(R.val .non).dr s=.val .non:=rfl
@[simp] theorem dr_bl (b:Bool):(R.val (.bl b)).dr s=.val (.bl b):=rfl
@[simp] theorem dr_int:(R.val (.int i)).dr s=.val (.int i):=rfl
@[simp] theorem dr_tup:(R.val (.tup ts)).dr s=.val (.tup ts):=rfl
@[simp] theorem dr_lst:(R.val (.lst ts)).dr s=.val (.lst ts):=rfl
@[simp] theorem dr_exc:(R.val (.exc d)).dr s=.val (.exc d):=rfl
@[simp] theorem dr_bor:(R.bor ts).dr s=.bor ts:=rfl
theorem dr_loc(h:s[l]?=some (.lst ts)):(R.val (.loc l)).dr s=.bor ts:=by simp[R.dr,h]
theorem zaci(h:s[l]?=some (.ins d fs)):fldR s (.val (.loc l)) d k=(fs[k]?).join:=by simp[fldR,h]
theorem zagq(h:s[l]?=some (.ins d fs)):(R.val (.loc l)).locI s d=some (l,fs):=by simp[R.locI,h]
theorem zaa9(h:s[l]?=some (.lst ts)):(R.val (.loc l)).locL s=some (l,ts):=by simp[R.locL,h]
@[simp] theorem isx_exc:isiX sub (.val (.exc d)) (.cls k)=some (sub d k):=rfl
@[simp] theorem isx_int_int:isiX sub (.val (.int i)) .int=some true:=rfl
@[simp] theorem isx_int_bool:isiX sub (.val (.int i)) .bool=some false:=rfl
@[simp] theorem isx_tup_tup:isiX sub (.val (.tup ts)) .tuple=some true:=rfl
@[simp] theorem isx_lst_lst:isiX sub (.val (.lst ts)) .list=some true:=rfl
@[simp] theorem isx_bor_lst:isiX sub (.bor ts) .list=some true:=rfl
@[simp] theorem leave_excX:leave true f (.exc d σ s)=.exc d s:=rfl
@[simp] theorem nox_next:(SR.next σ s).nox=.next σ s:=rfl
@[simp] theorem nox_ret:(SR.ret r s).nox=.ret r s:=rfl
@[simp] theorem onN_non (m:Res R):onN (.val .non) m=m:=rfl
@[simp] theorem tup_tup:(R.val (.tup ts)).tup?=some ts:=rfl
@[simp] theorem b1_int_bl (b:Bool):b1R .int (.val (.bl b))=some (.val (.int (if b then 1 else 0))):=rfl
@[simp] theorem b1_int_int:b1R .int (.val (.int i))=some (.val (.int i)):=rfl
@[simp] theorem b1_list_bor:b1R .list (.bor ts)=some (.val (.lst ts)):=rfl
@[simp] theorem b1_tuple_bor:b1R .tuple (.bor ts)=some (.val (.tup ts)):=rfl
@[simp] theorem b1_tuple_lst:b1R .tuple (.val (.lst ts))=some (.val (.tup ts)):=rfl
theorem zab5:∀bs:List Bool,zaa6 (bs.map T.bl)=some bs
 | []=>rfl
 | b::bs=>by simp[zaa6,zab5 bs]
theorem b1_all(bs:List Bool):b1R .all (.val (.lst (bs.map .bl)))=some (.val (.bl (bs.all id))):=by simp[b1R,zab5]
theorem b1_any(bs:List Bool):b1R .any (.val (.lst (bs.map .bl)))=some (.val (.bl (bs.any id))):=by simp[b1R,zab5]
theorem zaga{C:Cf}{e:E}{b:Bool}{s1:Sto}(h:ev C e .t σ s=.ok (.val (.bl b)) s1):ev C (.not e) .t σ s=.ok (.val (.bl (!b))) s1:=by
 unfold ev
 rw[h]
 cases b<;>rfl
theorem zabc{C:Cf}{e it:E}{i:Nat}{α:Type}(xs:List α)(g:α→T)(f:α→T)(ha:ev C it .i σ s=.ok (.val (.lst (xs.map g))) s)
  (h:∀x∈xs,ev C e .v (put σ i (g x)) s=.ok (.val (f x)) s):ev C (.comp e (.one i) it) .v σ s=.ok (.val (.lst (xs.map f))) s:=by
 refine zadr ha ?_
 clear ha
 induction xs with
 | nil=>rfl
 | cons x xs ih=>
  have h0:=h x (by simp)
  have h1:=ih fun y hy=>h y (by simp[hy])
  rw[List.map_cons,List.map_cons]
  unfold mapRes
  rw[show onO (bindTg σ (.one i) (g x)) (fun σ'=>one (ev C e .v σ' s))=.ok (some (f x)) s by show one (ev C e .v (put σ i (g x)) s)=_;rw[h0];rfl]
  simp only[Res.bind_ok]
  rw[h1]
  rfl
end
theorem ev_b1{C:Cf}{e:E}{f:Bi}{σ:Fr}{s s1:Sto}{r r':R}(h:ev C e .v σ s=.ok r s1)(hb:b1R f (r.dr s1)=some r'):ev C (.b1 f e) .v σ s=.ok r' s1:=by
 rw[show ev C (.b1 f e) .v σ s=(ev C e .v σ s).bind fun x s1=>.of (b1R f (x.dr s1)) s1 from by simp only[ev,fin_v],h]
 simp[hb]
theorem ev_all{C:Cf}{e:E}{σ:Fr}{s s1:Sto}{α:Type}{xs:List α}{f:α→Bool}(h:ev C e .v σ s=.ok (.val (.lst (xs.map fun n=>.bl (f n)))) s1):ev C (.b1 .all e) .v σ s=.ok (.val (.bl (xs.all f))) s1:=by
 refine ev_b1 h ?_
 have hb:=b1_all (xs.map f)
 rw[List.map_map]at hb
 rw[dr_lst]
 refine hb.trans ?_
 simp[List.all_map]
theorem ev_any{C:Cf}{e:E}{σ:Fr}{s s1:Sto}{α:Type}{xs:List α}{f:α→Bool}(h:ev C e .v σ s=.ok (.val (.lst (xs.map fun n=>.bl (f n)))) s1):ev C (.b1 .any e) .v σ s=.ok (.val (.bl (xs.any f))) s1:=by
 refine ev_b1 h ?_
 have hb:=b1_any (xs.map f)
 rw[List.map_map]at hb
 rw[dr_lst]
 refine hb.trans ?_
 simp[List.any_map]
theorem ev_t_of{C:Cf}{e:E}{f:Bi}{σ:Fr}{s s1:Sto}{b:Bool}(h:ev C (.b1 f e) .v σ s=.ok (.val (.bl b)) s1):ev C (.b1 f e) .t σ s=.ok (.val (.bl b)) s1:=by
 have e1:ev C (.b1 f e) .t σ s=fin .t (ev C (.b1 f e) .v σ s):=by simp only[ev,fin_v]
 rw[e1,h]
 rfl
theorem ev_ife_f{C:Cf}{c a b:E}{σ:Fr}{s s1:Sto}(h:ev C c .t σ s=.ok (.val (.bl false)) s1):ev C (.ife c a b) .v σ s=ev C b .v σ s1:=by
 rw[show ev C (.ife c a b) .v σ s=(ev C c .t σ s).bind fun x s1=>onB x (ev C a .v σ s1) (ev C b .v σ s1)from by simp only[ev,fin_v],h]
 rfl
theorem ev_ife_t{C:Cf}{c a b:E}{σ:Fr}{s s1:Sto}(h:ev C c .t σ s=.ok (.val (.bl true)) s1):ev C (.ife c a b) .v σ s=ev C a .v σ s1:=by
 rw[show ev C (.ife c a b) .v σ s=(ev C c .t σ s).bind fun x s1=>onB x (ev C a .v σ s1) (ev C b .v σ s1)from by simp only[ev,fin_v],h]
 rfl
@[simp] theorem eq_bl (a b:Bool):eqD 8 (.bl a) (.bl b)=some (a==b):=by simp[eqD]
theorem menu4{a b c d:Int}{z:Int}(h0:0≤z)(h1:z<4):∃v,(v=a∨v=b∨v=c∨v=d)∧subR (.val (.lst [.int a,.int b,.int c,.int d])) z=some (.int v):=by
 have:z=0∨z=1∨z=2∨z=3:=by omega
 rcases this with rfl|rfl|rfl|rfl
 ·exact⟨a,by simp,rfl⟩
 ·exact⟨b,by simp,rfl⟩
 ·exact⟨c,by simp,rfl⟩
 ·exact⟨d,by simp,rfl⟩
theorem zade{g:Tg}{body:Fr→Sto→SR}(I:Nat→Fr→Sto→Prop):∀(ts:List T) (n:Nat) (σ:Fr) (s:Sto),I n σ s→(∀(m:Nat) (t:T) (σ:Fr) (s:Sto),ts[m]?=some t→I (n+m) σ s→∃σ1 σ2 s2,bindTg σ g t=some σ1∧body σ1 s=.next σ2 s2∧I (n+m+1) σ2 s2)→
  ∃σ' s',forL g body ts σ s=.next σ' s'∧I (n+ts.length) σ' s'
 | [],n,σ,s,h,_=>⟨σ,s,rfl,h⟩
 | t::ts,n,σ,s,h,st=>by
  obtain⟨σ1,σ2,s2,e1,e2,e3⟩:=st 0 t σ s rfl h
  obtain⟨σ',s',e4,e5⟩:=zade I ts (n+1) σ2 s2 e3 fun m u σ s em hm=>by
   obtain⟨a,b,c,c1,c2,c3⟩:=st (m+1) u σ s (by simpa using em) (by rw[show n+(m+1)=n+1+m by omega];exact hm)
   exact⟨a,b,c,c1,c2,by rw[show n+1+m+1=n+(m+1)+1 by omega];exact c3⟩
  refine⟨σ',s',?_,by rw[List.length_cons,show n+(ts.length+1)=n+1+ts.length by omega];exact e5⟩
  show onS (bindTg σ g t) _=_
  rw[e1]
  show(body σ1 s).bind _=_
  rw[e2]
  exact e4
theorem ex_exp{C:Cf}{e:E}{σ:Fr}{s s1:Sto}{r:R}(h:ev C e .v σ s=.ok r s1):ex C (.exp e) σ s=.next σ s1:=by
 rw[show ex C (.exp e) σ s=(ev C e .v σ s).st σ fun _ s1=>.next σ s1 from by simp only[ex],h]
 rfl
theorem zacd{C:Cf}{σ:Fr}{s:Sto}:evr C [] σ s=.ok [] s:=by simp
theorem zaay{C:Cf}{e:E}{es:List E}{σ:Fr}{s s1 s2:Sto}{x:R}{xs:List R}(h:ev C e .v σ s=.ok x s1)(h2:evr C es σ s1=.ok xs s2):evr C (e::es) σ s=.ok (x::xs) s2:=by
 rw[evr.eq_2,h]
 simp only[Res.bind_ok,h2]
theorem zabs{C:Cf}{es:List E}{f:Nat}{σ:Fr}{s s1 s2:Sto}{r:R}{rs:List R}(h:evr C es σ s=.ok rs s1)(hf:C.cf f rs s1=.ok r s2):ev C (.call f es []) .v σ s=.ok r s2:=by
 rw[show ev C (.call f es []) .v σ s=(evr C es σ s).bind fun rs s1=>C.cf f (rs++([]:List T).map .val) s1 from by simp only[ev,fin_v],h]
 simp only[Res.bind_ok,List.map_nil,List.append_nil,hf]
theorem ev_call_t{C:Cf}{es:List E}{f:Nat}{σ:Fr}{s s1:Sto}{b:Bool}{ds:List T}(h:ev C (.call f es ds) .v σ s=.ok (.val (.bl b)) s1):ev C (.call f es ds) .t σ s=.ok (.val (.bl b)) s1:=by
 have e1:ev C (.call f es ds) .t σ s=fin .t (ev C (.call f es ds) .v σ s):=by simp only[ev,fin_v]
 rw[e1,h]
 rfl
theorem ev_meth{C:Cf}{a:E}{es:List E}{c f:Nat}{σ:Fr}{s s1 s2 s3:Sto}{x r:R}{rs:List R}{p:Nat×List (Option T)}(ha:ev C a .v σ s=.ok x s1)(hi:x.locI s1 c=some p)(h:evr C es σ s1=.ok rs s2)(hf:C.cf f (x::rs) s2=.ok r s3):ev C (.meth a c f es []) .v σ s=.ok r s3:=by
 rw[show ev C (.meth a c f es []) .v σ s=(ev C a .v σ s).bind fun x s1=>onO (x.locI s1 c) fun _=>(evr C es σ s1).bind fun rs s2=>C.cf f (x::rs++([]:List T).map .val) s2 from by simp only[ev,fin_v],ha]
 simp only[Res.bind_ok,hi,onO_some,h,List.map_nil,List.append_nil,hf]
theorem zaed{C:Cf}{c:E}{a b:List S}{σ:Fr}{s s1:Sto}(h:ev C c .t σ s=.ok (.val (.bl false)) s1):ex C (.ifs c a b) σ s=exs C b σ s1:=by
 rw[ex.eq_9,h]
 rfl
theorem zacm{C:Cf}{c:E}{a b:List S}{σ:Fr}{s s1:Sto}(h:ev C c .t σ s=.ok (.val (.bl true)) s1):ex C (.ifs c a b) σ s=exs C a σ s1:=by
 rw[ex.eq_9,h]
 rfl
theorem zabz{C:Cf}{σ:Fr}{s:Sto}:exs C [] σ s=.next σ s:=by simp
theorem ex_app{C:Cf}{e:E}{i:Nat}{σ:Fr}{s s1:Sto}{t:T}{ts:List T}(ho:ownAt σ i=some ts)(h:ev C e .v σ s=.ok (.val t) s1)(hl:ts.length<1000):ex C (.app i e) σ s=.next (setOwn σ i (ts++[t])) s1:=by
 rw[show ex C (.app i e) σ s=onS (ownAt σ i) fun ts=>(ev C e .v σ s).st σ fun x s1=>onS x.val? fun t=>if ts.length<lim then .next (setOwn σ i (ts++[t])) s1 else .stuck from by simp only[ex],ho,h]
 simp[show ts.length<lim from Nat.lt_of_lt_of_le hl lim_ge]
theorem zaah{fs:List Fn}{sub:Nat→Nat→Bool}{k f:Nat}{F:Fn}{rs:List R}{s:Sto}(hF:fs[f]?=some F)(hl:rs.length=F.pars):run true fs sub whileL (k+1) f rs s=leave true F.fr (exs (cfX fs sub k) F.body (enter F rs) s):=by
 conv=>lhs;unfold run
 rw[hF]
 exact if_pos hl
end IP
end
section
set_option linter.all false
set_option maxRecDepth 100000
namespace IP
namespace Pg
open L2
variable{k:Nat}{s:Sto}
abbrev iL(xs:List Int):List T:=xs.map .int
abbrev tI(xs:List Int):T:=.tup (iL xs)
theorem r_whole(i:Int):run true fns sub0 whileL (k+1) iz35 [.val (.int i)] s=.ok (.val (.bl true)) s:=by
 rw[zaah (F:=Fz35) rfl rfl]
 simp[bz35]
theorem at_get{ts:List T}{m:Nat}{t:T}(h:ts[m]?=some t):L2.atI ts (m:Int)=some t:=by
 have hl:=(List.getElem?_eq_some_iff.mp h).1
 have h2:=(List.getElem?_eq_some_iff.mp h).2
 simp[L2.atI,L2.ixN,hl,h2]
theorem sub_atT{ts:List T}{n:Nat}{t:T}(h:ts[n]?=some t):subR (.val (.tup ts)) (n:Int)=some t:=at_get h
theorem r_numbers(xs:List Int)(hn:xs.length≤1000):run true fns sub0 whileL (k+2) iz23 [.val (tI xs),.val (tI xs)] s=.ok (.val (.bl true)) s:=by
 rw[zaah (F:=Fz23) rfl rfl]
 have hx:exs (cfX fns sub0 (k+1)) bz23 (enter Fz23 [.val (tI xs),.val (tI xs)]) s=.ret (.val (.bl true)) s:=by
  refine(zaad (σ1:=[some (.val (tI xs)),some (.val (tI xs)),none]) (s1:=s) (by simp)).trans ?_
  obtain⟨σ',e,c,rfl⟩:=zaba (g:=.one 2) (body:=fun σ s=>exs (cfX fns sub0 (k+1)) bz23_L0 σ s) (s:=s) (fun _ σ=>∃c,σ=[some (.val (tI xs)),some (.val (tI xs)),c]) (rangeT 0 xs.length) 0 [some (.val (tI xs)),some (.val (tI xs)),none] ⟨none,rfl⟩ (by
    rintro m t σ hm ⟨c,rfl⟩
    obtain⟨rfl,hlt⟩:=zaak hm
    have hlt:m<xs.length:=by omega
    have hg:(iL xs)[m]?=some (.int xs[m]):=by simp[hlt]
    have h1:=sub_atT hg
    have w1:=r_whole (k:=k) (s:=s) xs[m]
    refine⟨[some (.val (tI xs)),some (.val (tI xs)),some (.val (.int m))],[some (.val (tI xs)),some (.val (tI xs)),some (.val (.int m))],by simp[bindTg],by simp[h1,w1],_,rfl⟩)
  refine(zaad (σ1:=[some (.val (tI xs)),some (.val (tI xs)),c]) (s1:=s) ((ex_for (ts:=rangeT 0 xs.length) (s1:=s) (zabo (n:=xs.length) (by simp) hn) (by intro _ h;cases h)).trans e)).trans ?_
  simp
 rw[hx]
 rfl
abbrev tIs(l:List (List Int)):T:=.lst (l.map tI)
theorem r_at(ns:List Int)(m:Nat):∃v,run true fns sub0 whileL (k+1) iz17 [.val (.lst (iL ns)),.val (.int m)] s=.ok (.val (.int v)) s:=by
 rw[zaah (F:=Fz17) rfl rfl]
 by_cases h:m<ns.length
 ·have hg:(ns.map T.int)[m]?=some (.int ns[m]):=by simp[h]
  have h1:=sub_at hg
  exact⟨ns[m],by simp[bz17,h,h1]⟩
 ·exact⟨0,by simp[bz17,h]⟩
def zaas(v:Int):Prop:=0≤v∧v≤2147483646
theorem zaam(i:Int){j:Int}(h:0<j):0≤Int.fmod i j∧Int.fmod i j<j:=by
 rw[Int.fmod_eq_emod_of_nonneg _ (by omega)]
 exact⟨Int.emod_nonneg _ (by omega),Int.emod_lt_of_pos _ h⟩
theorem zab6(i:Int):zaas (Int.fmod i 2147483647):=by
 have:=zaam i (j:=2147483647) (by decide)
 unfold zaas
 omega
theorem r_stir(ns:List Int)(n:Nat)(hn:n≤1000):∃row:List Int,row.length=n∧(∀v∈row,zaas v)∧run true fns sub0 whileL (k+2) iz30 [.val (.lst (iL ns)),.val (.int n)] s=.ok (.val (.lst (iL row))) s:=by
 obtain⟨σ',e,st,row,c,rfl,h1,h2,h3⟩:=zaba (g:=.one 4) (body:=fun σ s=>exs (cfX fns sub0 (k+1)) bz30_L0 σ s) (s:=s)
  (fun m σ=>∃(st:Int) (row:List Int) (c:Option B),σ=[some (.val (.lst (iL ns))),some (.val (.int n)),some (.val (.int st)),some (.own (iL row)),c]∧zaas st∧row.length=m∧∀v∈row,zaas v) (rangeT 0 n) 0 [some (.val (.lst (iL ns))),some (.val (.int n)),some (.val (.int 7)),some (.own []),none] ⟨7,[],none,rfl,⟨by decide,by decide⟩,rfl,by simp⟩ (by
   rintro m t σ hm ⟨st,row,c,rfl,h1,h2,h3⟩
   obtain⟨rfl,hlt⟩:=zaak hm
   obtain⟨v,hv⟩:=r_at (k:=k) (s:=s) ns m
   have hmul:=op_mul (i:=st) (j:=48271) (zaao (by have:=h1.1;have:=h1.2;omega))
   have hmod:=op_mod (i:=st*48271+v+11) (j:=2147483647) (by decide)
   have hz:=zab6 (st*48271+v+11)
   have hlim:row.length<lim:=Nat.lt_of_lt_of_le (show row.length<1000 by omega) lim_ge
   refine⟨[some (.val (.lst (iL ns))),some (.val (.int n)),some (.val (.int st)),some (.own (iL row)),some (.val (.int m))],[some (.val (.lst (iL ns))),some (.val (.int n)),some (.val (.int (Int.fmod (st*48271+v+11) 2147483647))),some (.own (iL (row++[Int.fmod (st*48271+v+11) 2147483647]))),some (.val (.int m))],by simp[bindTg],by simp[hv,hmul,hmod,ownAt,setOwn,hlim],Int.fmod (st*48271+v+11) 2147483647,row++[Int.fmod (st*48271+v+11) 2147483647],some (.val (.int m)),rfl,hz,by simp[h2],?_⟩
   intro x hx
   rcases List.mem_append.mp hx with z|z
   ·exact h3 x z
   ·rw[List.mem_singleton.mp z];exact hz)
 refine⟨row,?_,h3,?_⟩
 ·rw[h2,zaaj];omega
 ·rw[zaah (F:=Fz30) rfl rfl]
  have hx:exs (cfX fns sub0 (k+1)) bz30 (enter Fz30 [.val (.lst (iL ns)),.val (.int n)]) s=.ret (.val (.lst (iL row))) s:=by
   refine(zaad (σ1:=[some (.val (.lst (iL ns))),some (.val (.int n)),some (.val (.int 7)),none,none]) (s1:=s) (by simp)).trans ?_
   refine(zaad (σ1:=[some (.val (.lst (iL ns))),some (.val (.int n)),some (.val (.int 7)),some (.own []),none]) (s1:=s) (by simp[freshE,setOwn])).trans ?_
   refine(zaad ((ex_for (ts:=rangeT 0 n) (s1:=s) (zabo (n:=n) (by simp) hn) (by intro _ h;cases h)).trans e)).trans ?_
   simp[frz]
  rw[hx]
  rfl
theorem row_at{row:List Int}(hr:∀v∈row,zaas v){m:Nat}(h:m<row.length):∃v,zaas v∧subR (.val (.lst (iL row))) (m:Int)=some (.int v)∧row[m]?=some v:=by
 refine⟨row[m],hr _ (List.getElem_mem h),sub_at (by simp[h]),by simp[h]⟩
end Pg
end IP
end
section
set_option linter.all false
set_option maxRecDepth 100000
namespace IP
namespace Pg
open L2
variable{k:Nat}{s:Sto}
structure Spt where
 (x y a b c d:Int)
abbrev Spt.l(p:Spt):List Int:=[p.x,p.y,p.a,p.b,p.c,p.d]
def Spt.fit(p:Spt):Prop:=(-20000≤p.x∧p.x≤20000)∧(-20000≤p.y∧p.y≤20000)∧(-200≤p.a∧p.a≤200)∧(-200≤p.b∧p.b≤200)∧(-200≤p.c∧p.c≤200)∧(-200≤p.d∧p.d≤200)
def tS(p:Spt):T:=.tup [.int p.x,.int p.y,.int p.a,.int p.b,.int p.c,.int p.d]
abbrev tSs'(l:List Spt):T:=.lst (l.map tS)
theorem zabl{C:Cf}{A0 A1 A2 A3 A4 A6:Option B}{st m:Int}(hst:zaas st)(hm:0<m∧m≤20000)(xs:List Int)(hx:xs.length<1000):∃st' v,zaas st'∧(-m≤v∧v≤m)∧
  exs C zag2 [A0,A1,A2,A3,A4,some (.val (.int st)),A6,some (.own (iL xs)),some (.val (.int m))] s=.next [A0,A1,A2,A3,A4,some (.val (.int st')),A6,some (.own (iL (xs++[v]))),some (.val (.int m))] s:=by
 have hmul:=op_mul (i:=st) (j:=48271) (zaao (by have:=hst.1;have:=hst.2;omega))
 have hmod:=op_mod (i:=st*48271+11) (j:=2147483647) (by decide)
 have hz:=zab6 (st*48271+11)
 generalize Int.fmod (st*48271+11) 2147483647=st' at hmod hz
 have hmul2:=op_mul (i:=2) (j:=m) (zaao (by decide))
 have hmod2:=op_mod (i:=st') (j:=2*m+1) (by omega)
 have hp:=zaam st' (j:=2*m+1) (by omega)
 have hlim:xs.length<lim:=Nat.lt_of_lt_of_le hx lim_ge
 exact⟨st',Int.fmod st' (2*m+1)-m,hz,⟨by omega,by omega⟩,by simp[hmul,hmod,hmul2,hmod2,ownAt,setOwn,hlim]⟩
theorem r_spots(seed:Int)(n:Nat)(hn:n≤900){far stp:Int}(hfar:0<far∧far≤20000)(hstp:0<stp∧stp≤200):∃l:List Spt,l.length=n∧(∀p∈l,p.fit)∧run true fns sub0 whileL (k+1) iz29 [.val (.int seed),.val (.int n),.val (.int far),.val (.int stp)] s=.ok (.val (tSs' l)) s:=by
 obtain⟨σ',e,st,l,c1,c2,c3,rfl,h1,h2,h3⟩:=zaba (g:=.one 6) (body:=fun σ s=>exs (cfX fns sub0 k) bz29_L1 σ s) (s:=s)
  (fun m σ=>∃(st:Int) (l:List Spt) (c1 c2 c3:Option B),σ=[some (.val (.int seed)),some (.val (.int n)),some (.val (.int far)),some (.val (.int stp)),some (.own (l.map tS)),some (.val (.int st)),c1,c2,c3]∧zaas st∧l.length=m∧∀p∈l,p.fit) (rangeT 0 n) 0
  [some (.val (.int seed)),some (.val (.int n)),some (.val (.int far)),some (.val (.int stp)),some (.own []),some (.val (.int (Int.fmod seed 2147483647))),none,none,none] ⟨_,[],none,none,none,rfl,zab6 seed,rfl,by simp⟩ (by
   rintro m t σ hm ⟨st,l,c1,c2,c3,rfl,h1,h2,h3⟩
   obtain⟨rfl,hlt⟩:=zaak hm
   obtain⟨s1,x,g1,b1,e1⟩:=zabl (C:=cfX fns sub0 k) (s:=s) (A0:=some (.val (.int seed))) (A1:=some (.val (.int n))) (A2:=some (.val (.int far))) (A3:=some (.val (.int stp))) (A4:=some (.own (l.map tS))) (A6:=some (.val (.int m))) h1 (m:=far) (by omega) [] (by simp)
   obtain⟨s2,y,g2,b2,e2⟩:=zabl (C:=cfX fns sub0 k) (s:=s) (A0:=some (.val (.int seed))) (A1:=some (.val (.int n))) (A2:=some (.val (.int far))) (A3:=some (.val (.int stp))) (A4:=some (.own (l.map tS))) (A6:=some (.val (.int m))) g1 (m:=far) (by omega) [x] (by simp)
   obtain⟨s3,a,g3,b3,e3⟩:=zabl (C:=cfX fns sub0 k) (s:=s) (A0:=some (.val (.int seed))) (A1:=some (.val (.int n))) (A2:=some (.val (.int far))) (A3:=some (.val (.int stp))) (A4:=some (.own (l.map tS))) (A6:=some (.val (.int m))) g2 (m:=stp) (by omega) [x,y] (by simp)
   obtain⟨s4,b,g4,b4,e4⟩:=zabl (C:=cfX fns sub0 k) (s:=s) (A0:=some (.val (.int seed))) (A1:=some (.val (.int n))) (A2:=some (.val (.int far))) (A3:=some (.val (.int stp))) (A4:=some (.own (l.map tS))) (A6:=some (.val (.int m))) g3 (m:=stp) (by omega) [x,y,a] (by simp)
   obtain⟨s5,c,g5,b5,e5⟩:=zabl (C:=cfX fns sub0 k) (s:=s) (A0:=some (.val (.int seed))) (A1:=some (.val (.int n))) (A2:=some (.val (.int far))) (A3:=some (.val (.int stp))) (A4:=some (.own (l.map tS))) (A6:=some (.val (.int m))) g4 (m:=stp) (by omega) [x,y,a,b] (by simp)
   obtain⟨s6,d,g6,b6,e6⟩:=zabl (C:=cfX fns sub0 k) (s:=s) (A0:=some (.val (.int seed))) (A1:=some (.val (.int n))) (A2:=some (.val (.int far))) (A3:=some (.val (.int stp))) (A4:=some (.own (l.map tS))) (A6:=some (.val (.int m))) g5 (m:=stp) (by omega) [x,y,a,b,c] (by simp)
   simp only[List.cons_append,List.nil_append,iL,List.map_cons,List.map_nil]at e1 e2 e3 e4 e5 e6
   have hlim:l.length<lim:=Nat.lt_of_lt_of_le (show l.length<1000 by omega) lim_ge
   have hloop:forL (.one 8) (fun σ s=>exs (cfX fns sub0 k) zag2 σ s) [.int far,.int far,.int stp,.int stp,.int stp,.int stp] [some (.val (.int seed)),some (.val (.int n)),some (.val (.int far)),some (.val (.int stp)),some (.own (l.map tS)),some (.val (.int st)),some (.val (.int m)),some (.own []),c3] s
     = .next [some (.val (.int seed)),some (.val (.int n)),some (.val (.int far)),some (.val (.int stp)),some (.own (l.map tS)),some (.val (.int s6)),some (.val (.int m)),some (.own (iL [x,y,a,b,c,d])),some (.val (.int stp))] s:=by
    simp only[forL,bindTg,onS_some,put,List.set_cons_succ,List.set_cons_zero,SR.bind_next,e1,e2,e3,e4,e5,e6]
    rfl
   refine⟨[some (.val (.int seed)),some (.val (.int n)),some (.val (.int far)),some (.val (.int stp)),some (.own (l.map tS)),some (.val (.int st)),some (.val (.int m)),c2,c3],[some (.val (.int seed)),some (.val (.int n)),some (.val (.int far)),some (.val (.int stp)),some (.own ((l++[Spt.mk x y a b c d]).map tS)),some (.val (.int s6)),some (.val (.int m)),some (.own (iL [x,y,a,b,c,d])),some (.val (.int stp))],by simp[bindTg],?_,s6,l++[Spt.mk x y a b c d],_,_,_,rfl,g6,by simp[h2],?_⟩
   ·refine(zaad (σ1:=[some (.val (.int seed)),some (.val (.int n)),some (.val (.int far)),some (.val (.int stp)),some (.own (l.map tS)),some (.val (.int st)),some (.val (.int m)),some (.own []),c3]) (s1:=s) (by simp[freshE,setOwn])).trans ?_
    refine(zaad ((ex_for (ts:=[.int far,.int far,.int stp,.int stp,.int stp,.int stp]) (s1:=s) (by simp) (by intro _ h;cases h)).trans hloop)).trans ?_
    simp[ownAt,setOwn,hlim,tS]
   ·intro p hp
    rcases List.mem_append.mp hp with z|z
    ·exact h3 p z
    ·rw[List.mem_singleton.mp z]
     simp only[Spt.fit]
     omega)
 refine⟨l,?_,h3,?_⟩
 ·rw[h2,zaaj];omega
 ·rw[zaah (F:=Fz29) rfl rfl]
  have hmod:=op_mod (i:=seed) (j:=2147483647) (by decide)
  have hx:exs (cfX fns sub0 k) bz29 (enter Fz29 [.val (.int seed),.val (.int n),.val (.int far),.val (.int stp)]) s=.ret (.val (tSs' l)) s:=by
   refine(zaad (σ1:=[some (.val (.int seed)),some (.val (.int n)),some (.val (.int far)),some (.val (.int stp)),some (.own []),none,none,none,none]) (s1:=s) (by simp[freshE,setOwn])).trans ?_
   refine(zaad (σ1:=[some (.val (.int seed)),some (.val (.int n)),some (.val (.int far)),some (.val (.int stp)),some (.own []),some (.val (.int (Int.fmod seed 2147483647))),none,none,none]) (s1:=s) (by simp[hmod])).trans ?_
   refine(zaad ((ex_for (ts:=rangeT 0 n) (s1:=s) (zabo (n:=n) (by simp) (by omega)) (by intro _ h;cases h)).trans e)).trans ?_
   simp[frz]
  rw[hx]
  rfl
end Pg
end IP
end
section
set_option linter.all false
set_option maxRecDepth 100000
namespace IP
namespace Pg
open L2
variable{k:Nat}{s:Sto}
def wthn(b n:Int):Bool:=decide ((if n<0 then -n else n)≤b)
theorem zabp(xs:List Int)(b:Int):run true fns sub0 whileL (k+1) iz36 [.val (tI xs),.val (.int b)] s=.ok (.val (.bl (xs.all (wthn b)))) s:=by
 rw[zaah (F:=Fz36) rfl rfl]
 have hc:ev (cfX fns sub0 k) (.comp zaf6 (.one 2) (.var 0)) .v (enter Fz36 [.val (tI xs),.val (.int b)]) s=.ok (.val (.lst (xs.map fun n=>.bl (wthn b n)))) s:=
  zabc (i:=2) xs .int (fun n=>.bl (wthn b n)) (by simp) (fun n _=>by simp[wthn])
 have hx:exs (cfX fns sub0 k) bz36 (enter Fz36 [.val (tI xs),.val (.int b)]) s=.ret (.val (.bl (xs.all (wthn b)))) s:=zabh (ex_ret (ev_all hc))
 rw[hx]
 rfl
theorem zafs(l:List Spt)(h:∀p∈l,p.fit):run true fns sub0 whileL (k+2) iz51 [.val (tSs' l)] s=.ok (.val (.bl true)) s:=by
 rw[zaah (F:=Fz51) rfl rfl]
 have hc:ev (cfX fns sub0 (k+1)) (.comp zagn (.one 1) (.var 0)) .v (enter Fz51 [.val (tSs' l)]) s=.ok (.val (.lst (l.map fun _=>.bl ((fun _=>true) ())))) s:=by
  refine zabc (i:=1) l tS (fun _=>.bl true) (by simp) (fun p hp=>?_)
  obtain⟨h1,h2,h3,h4,h5,h6⟩:=h p hp
  have c1:cutR (.val (tS p)) none (some 2)=some (.val (tI [p.x,p.y])):=rfl
  have c2:cutR (.val (tS p)) (some 2) none=some (.val (tI [p.a,p.b,p.c,p.d])):=rfl
  have a1:=zabp (k:=k) (s:=s) [p.x,p.y] 20000
  have a2:=zabp (k:=k) (s:=s) [p.a,p.b,p.c,p.d] 200
  have b1:[p.x,p.y].all (wthn 20000)=true:=by simp[wthn];omega
  have b2:[p.a,p.b,p.c,p.d].all (wthn 200)=true:=by simp[wthn];omega
  rw[b1]at a1
  rw[b2]at a2
  have hd:∀s,(R.val (tS p)).dr s=.val (tS p):=fun _=>rfl
  simp only[tI,iL,List.map_cons,List.map_nil]at *
  simp[c1,c2,a1,a2,hd]
 have hx:exs (cfX fns sub0 (k+1)) bz51 (enter Fz51 [.val (tSs' l)]) s=.ret (.val (.bl (l.all fun _=>true))) s:=zabh (ex_ret (ev_all (f:=fun _=>true) hc))
 rw[hx]
 simp
theorem zadp(c:List Spt)(m:List (List Spt))(h3:3≤c.length)(h24:c.length≤24)(hm:m.length=c.length)(h4:∀l∈m,l.length≤4)(hc:∀p∈c,p.fit)(hf:∀l∈m,∀p∈l,p.fit):
  run true fns sub0 whileL (k+3) iz38 [.val (tSs' c),.val (.lst (m.map tSs'))] s=.ok (.val .non) s:=by
 rw[zaah (F:=Fz38) rfl rfl]
 have e1:ev (cfX fns sub0 (k+2)) (.comp zag0 (.one 2) (.var 1)) .v [some (.val (tSs' c)),some (.val (.lst (m.map tSs'))),none,none] s=.ok (.val (.lst (m.map fun _=>.bl false))) s:=
  zabc (i:=2) m tSs' (fun _=>.bl false) (by simp) (fun l hl=>by have:=h4 l hl;simp;omega)
 have e2:ev (cfX fns sub0 (k+2)) (.comp zahy (.one 3) (.bin .add (.lst [(.var 0)]) (.var 1))) .v [some (.val (tSs' c)),some (.val (.lst (m.map tSs'))),none,none] s=.ok (.val (.lst ((c::m).map fun _=>.bl true))) s:=by
  refine zabc (i:=3) (c::m) tSs' (fun _=>.bl true) ?_ (fun l hl=>?_)
  ·have hl:1+m.length≤lim:=Nat.le_trans (show 1+m.length≤1000 by omega) lim_ge
   simp[opR,hl]
  ·have hfit:∀p∈l,p.fit:=by
    rcases List.mem_cons.mp hl with rfl|z
    ·exact hc
    ·exact hf l z
   have:=zafs (k:=k) (s:=s) l hfit
   simp[this]
 have f1:=ev_any (f:=fun _=>false) e1
 have f2:=ev_all (f:=fun _=>true) e2
 have hx:exs (cfX fns sub0 (k+2)) bz38 (enter Fz38 [.val (tSs' c),.val (.lst (m.map tSs'))]) s=.next [some (.val (tSs' c)),some (.val (.lst (m.map tSs'))),none,none] s:=by
  refine(zaad (σ1:=[some (.val (tSs' c)),some (.val (.lst (m.map tSs'))),none,none]) (s1:=s) (by simp[show ¬(c.length:Int)<3 by omega,show ¬(24:Int)<c.length by omega])).trans ?_
  refine(zaad (σ1:=[some (.val (tSs' c)),some (.val (.lst (m.map tSs'))),none,none]) (s1:=s) (by simp[hm])).trans ?_
  refine(zaad (σ1:=[some (.val (tSs' c)),some (.val (.lst (m.map tSs'))),none,none]) (s1:=s) ?_).trans ?_
  ·rw[ex.eq_9,ev_t_of f1]
   simp
  refine(zaad (σ1:=[some (.val (tSs' c)),some (.val (.lst (m.map tSs'))),none,none]) (s1:=s) ?_).trans ?_
  ·rw[ex.eq_9,zaga (ev_t_of f2)]
   simp
  simp
 rw[hx]
 rfl
theorem zabi{z:Int}{r:R}{ts:List T}(hr:(r.dr s).sq2=some ts)(h:0≤z∧z<ts.length):run true fns sub0 whileL (k+1) iz40 [.val (.int z),r] s=.ok (.val .non) s:=by
 rw[zaah (F:=Fz40) rfl rfl]
 have hb:b1R .len (r.dr s)=some (.val (.int ts.length)):=by simp[b1R,hr]
 cases r with
 | val t=>simp[bz40,hb,show ¬z<0 by omega,show ¬(ts.length:Int)≤z by omega]
 | bor us=>
  simp at hr
  subst hr
  simp[bz40,show ¬z<0 by omega,show ¬(us.length:Int)≤z by omega]
end Pg
end IP
end
section
set_option linter.all false
set_option maxRecDepth 100000
namespace IP
namespace Pg
open L2
variable{k:Nat}{s:Sto}
structure Sm where
 (f1 f2 g1 g2:Int)
 t:Bool
 e:Int
 ps:List (Int×Int)
def pT(p:Int×Int):T:=.tup [.int p.1,.int p.2]
def seT(x:Sm):T:=.tup [.tup [.int x.f1,.int x.f2],.tup [.int x.g1,.int x.g2],.bl x.t,.int x.e,.tup (x.ps.map pT)]
structure Bk where
 size:Int
 pc:List (List Spt)
 mrk:List (List (List Spt))
 sm:List Sm
def mkT(m:List (List Spt)):T:=.lst (m.map tSs')
structure Ad where
 (o a b c:Nat)
 ls:List Nat
abbrev Ad.fp(A:Ad):List Nat:=A.o::A.a::A.b::A.c::A.ls
structure BAt(s:Sto)(A:Ad)(B:Bk):Prop where
 ins:s[A.o]?=some (.ins 0 [some (.int B.size),some (.loc A.a),some (.loc A.b),some (.loc A.c)])
 pcs:s[A.a]?=some (.lst (A.ls.map .loc))
 mks:s[A.b]?=some (.lst (B.mrk.map mkT))
 sms:s[A.c]?=some (.lst (B.sm.map seT))
 len:A.ls.length=B.pc.length
 pc:∀(i l:Nat) (c:List Spt),A.ls[i]?=some l→B.pc[i]?=some c→s[l]?=some (.lst (c.map tS))
 nd:A.fp.Nodup
abbrev slf(A:Ad):R:=.val (.loc A.o)
def Keep(fp:List Nat)(s s':Sto):Prop:=s.length≤s'.length∧∀l,l<s.length→l∉fp→s'[l]?=s[l]?
theorem Keep.refl(fp:List Nat)(s:Sto):Keep fp s s:=⟨Nat.le_refl _,fun _ _ _=>rfl⟩
section
variable{A:Ad}{B:Bk}(h:BAt s A B)
include h
theorem BAt.f0:fldR s (.val (.loc A.o)) 0 0=some (.int B.size):=by rw[zaci h.ins];rfl
theorem BAt.f1:fldR s (.val (.loc A.o)) 0 1=some (.loc A.a):=by rw[zaci h.ins];rfl
theorem BAt.f2:fldR s (.val (.loc A.o)) 0 2=some (.loc A.b):=by rw[zaci h.ins];rfl
theorem BAt.f3:fldR s (.val (.loc A.o)) 0 3=some (.loc A.c):=by rw[zaci h.ins];rfl
theorem BAt.li:(R.val (.loc A.o)).locI s 0=some (A.o,[some (.int B.size),some (.loc A.a),some (.loc A.b),some (.loc A.c)]):=zagq h.ins
theorem BAt.l1:(R.val (.loc A.a)).locL s=some (A.a,A.ls.map .loc):=zaa9 h.pcs
theorem BAt.l2:(R.val (.loc A.b)).locL s=some (A.b,B.mrk.map mkT):=zaa9 h.mks
theorem BAt.l3:(R.val (.loc A.c)).locL s=some (A.c,B.sm.map seT):=zaa9 h.sms
theorem BAt.d1:(R.val (.loc A.a)).dr s=.bor (A.ls.map .loc):=dr_loc h.pcs
theorem BAt.d2:(R.val (.loc A.b)).dr s=.bor (B.mrk.map mkT):=dr_loc h.mks
theorem BAt.d3:(R.val (.loc A.c)).dr s=.bor (B.sm.map seT):=dr_loc h.sms
theorem BAt.lt:∀l∈A.fp,l<s.length:=by
 intro l hl
 rcases List.mem_cons.mp hl with rfl|hl
 ·exact(List.getElem?_eq_some_iff.mp h.ins).1
 rcases List.mem_cons.mp hl with rfl|hl
 ·exact(List.getElem?_eq_some_iff.mp h.pcs).1
 rcases List.mem_cons.mp hl with rfl|hl
 ·exact(List.getElem?_eq_some_iff.mp h.mks).1
 rcases List.mem_cons.mp hl with rfl|hl
 ·exact(List.getElem?_eq_some_iff.mp h.sms).1
 obtain⟨i,hi⟩:=List.getElem?_of_mem hl
 have hil:=(List.getElem?_eq_some_iff.mp hi).1
 have hc:B.pc[i]?=some (B.pc[i]'(by rw[←h.len];exact hil)):=by simp
 exact(List.getElem?_eq_some_iff.mp (h.pc i l _ hi hc)).1
theorem BAt.ne:(A.o≠A.a∧A.o≠A.b∧A.o≠A.c∧A.o∉A.ls)∧(A.a≠A.b∧A.a≠A.c∧A.a∉A.ls)∧(A.b≠A.c∧A.b∉A.ls)∧A.c∉A.ls:=by
 have:=h.nd
 simp only[Ad.fp,List.nodup_cons,List.mem_cons,not_or]at this
 obtain⟨⟨a1,a2,a3,a4⟩,⟨b1,b2,b3⟩,⟨c1,c2⟩,d1,_⟩:=this
 exact⟨⟨a1,a2,a3,a4⟩,⟨b1,b2,b3⟩,⟨c1,c2⟩,d1⟩
theorem BAt.other{s':Sto}(hs:∀l∈A.fp,s'[l]?=s[l]?):BAt s' A B where
 ins:=by rw[hs _ (by simp[Ad.fp])];exact h.ins
 pcs:=by rw[hs _ (by simp[Ad.fp])];exact h.pcs
 mks:=by rw[hs _ (by simp[Ad.fp])];exact h.mks
 sms:=by rw[hs _ (by simp[Ad.fp])];exact h.sms
 len:=h.len
 pc:=fun i l c hl hc=>by rw[hs _ (by have:=List.mem_of_getElem? hl;simp[Ad.fp,this])];exact h.pc i l c hl hc
 nd:=h.nd
end
theorem set_ne{s:Sto}{i j:Nat}{c:Cell}(h:i≠j):(s.set i c)[j]?=s[j]?:=List.getElem?_set_ne h
theorem set_eq{s:Sto}{i:Nat}{c:Cell}(h:i<s.length):(s.set i c)[i]?=some c:=List.getElem?_set_self h
theorem r_init(s:Sto):run true fns sub0 whileL (k+1) iz3 [.val (.loc s.length)] (s++[.ins 0 [none,none,none,none]])=.ok (.val .non) (s++[.ins 0 [some (.int 0),some (.loc (s.length+1)),some (.loc (s.length+2)),some (.loc (s.length+3))],.lst [],.lst [],.lst []]):=by
 rw[zaah (F:=Fz3) rfl rfl]
 have q:∀(fs:List (Option T)) (r:Sto),(R.val (.loc s.length)).locI (s++.ins 0 fs::r) 0=some (s.length,fs):=fun fs r=>zagq (by simp)
 have e:∀(c d:Cell) (r:Sto),(s++c::r).set s.length d=s++d::r:=fun c d r=>by simp
 simp[bz3,q,e]
theorem ev_new{σ:Fr}(s:Sto):∃(s':Sto) (A:Ad),ev (cfX fns sub0 (k+1)) (.new 0 iz3 4 [] []) .v σ s=.ok (slf A) s'∧BAt s' A ⟨0,[],[],[]⟩∧Keep [] s s'∧A.ls=[]∧∀l∈A.fp,s.length≤l:=by
 have e0:∀n,(s++[Cell.ins 0 [some (T.int 0),some (.loc (s.length+1)),some (.loc (s.length+2)),some (.loc (s.length+3))],.lst [],.lst [],.lst []])[s.length+n]?=([Cell.ins 0 [some (T.int 0),some (.loc (s.length+1)),some (.loc (s.length+2)),some (.loc (s.length+3))],.lst [],.lst [],.lst []]:List Cell)[n]?:=fun n=>by
  rw[List.getElem?_append_right (by omega),Nat.add_sub_cancel_left]
 refine⟨s++[.ins 0 [some (.int 0),some (.loc (s.length+1)),some (.loc (s.length+2)),some (.loc (s.length+3))],.lst [],.lst [],.lst []],⟨s.length,s.length+1,s.length+2,s.length+3,[]⟩,?_,⟨e0 0,e0 1,e0 2,e0 3,rfl,fun i l c h=>by simp at h,?_⟩,⟨by simp,?_⟩,rfl,?_⟩
 ·have h:=r_init (k:=k) s
  simp[h]
 ·simp[Ad.fp]
 ·intro l hl _
  rw[List.getElem?_append_left hl]
 ·intro l hl
  simp[Ad.fp]at hl
  omega
theorem zaft{A:Ad}{B:Bk}(h:BAt s A B)(c:List Spt)(m:List (List Spt)){t:T}(ht:t=mkT m∨(t=.non∧m=c.map fun _=>[]))(hB:B.pc.length<10)(h3:3≤c.length)(h24:c.length≤24)(hm:m.length=c.length)(h4:∀l∈m,l.length≤4)(hc:∀p∈c,p.fit)(hf:∀l∈m,∀p∈l,p.fit)(hk:B.mrk.length≤10):
  ∃s',run true fns sub0 whileL (k+4) iz4 [slf A,.val (tSs' c),.val t] s=.ok (.val (.int B.pc.length)) s'∧BAt s' ⟨A.o,A.a,A.b,A.c,A.ls++[s.length]⟩ ⟨B.size,B.pc++[c],B.mrk++[m],B.sm⟩∧Keep A.fp s s'∧s'.length=s.length+1:=by
 have hcp:=zadp (k:=k) (s:=s) c m h3 h24 hm h4 hc hf
 have hcomp:ev (cfX fns sub0 (k+3)) (.ife (.cmp .isN (.var 2) (.cst .non)) (.comp ez4_C0 (.one 4) (.var 1)) (.comp ez4_C1 (.one 5) (.var 2))) .v [some (.val (.loc A.o)),some (.val (tSs' c)),some (.val t),none,none,none] s=.ok (.val (mkT m)) s:=by
  rcases ht with rfl|⟨rfl,rfl⟩
  ·have:ev (cfX fns sub0 (k+3)) (.cmp .isN (.var 2) (.cst .non)) .t [some (.val (.loc A.o)),some (.val (tSs' c)),some (.val (mkT m)),none,none,none] s=.ok (.val (.bl false)) s:=by simp[mkT,R.isNon]
   rw[ev_ife_f this]
   exact zabc (i:=5) m tSs' tSs' (by simp[mkT]) (fun l hl=>by simp)
  ·have:ev (cfX fns sub0 (k+3)) (.cmp .isN (.var 2) (.cst .non)) .t [some (.val (.loc A.o)),some (.val (tSs' c)),some (.val .non),none,none,none] s=.ok (.val (.bl true)) s:=by simp[R.isNon]
   rw[ev_ife_t this,zabc (i:=4) c tS (fun _=>.lst []) (by simp) (fun l hl=>by simp)]
   simp[mkT]
 have hl1:A.ls.length<lim:=Nat.lt_of_lt_of_le (show A.ls.length<1000 by have:=h.len;omega) lim_ge
 have hl2:B.mrk.length<lim:=Nat.lt_of_lt_of_le (show B.mrk.length<1000 by omega) lim_ge
 have lt:=h.lt
 obtain⟨⟨n1,n2,n3,n4⟩,⟨n5,n6,n7⟩,⟨n8,n9⟩,n10⟩:=h.ne
 have ltA:=lt A.a (by simp[Ad.fp])
 have ltB:=lt A.b (by simp[Ad.fp])
 have ltC:=lt A.c (by simp[Ad.fp])
 have ltO:=lt A.o (by simp[Ad.fp])
 have app:∀l,l<s.length→(s++[Cell.lst (c.map tS)])[l]?=s[l]?:=fun l hl=>List.getElem?_append_left hl
 refine⟨((s++[Cell.lst (c.map tS)]).set A.a (Cell.lst (A.ls.map T.loc++[T.loc s.length]))).set A.b (Cell.lst (B.mrk.map mkT++[mkT m])),?_,⟨?_,?_,?_,?_,by simp[h.len],fun i l c' hl hc'=>?_,?_⟩,⟨by simp,fun l hl hn=>?_⟩,by simp⟩
 ·rw[zaah (F:=Fz4) rfl rfl]
  have hx:exs (cfX fns sub0 (k+3)) bz4 (enter Fz4 [slf A,.val (tSs' c),.val t]) s=.ret (.val (.int B.pc.length)) (((s++[Cell.lst (c.map tS)]).set A.a (Cell.lst (A.ls.map T.loc++[T.loc s.length]))).set A.b (Cell.lst (B.mrk.map mkT++[mkT m]))):=by
   refine(zaad (σ1:=[some (.val (.loc A.o)),some (.val (tSs' c)),some (.val t),none,none,none]) (s1:=s) (by simp[h.f1,h.d1,h.len,show ¬(10:Int)≤B.pc.length by omega])).trans ?_
   refine(zaad (σ1:=[some (.val (.loc A.o)),some (.val (tSs' c)),some (.val t),some (.val (mkT m)),none,none]) (s1:=s) (ex_asg hcomp)).trans ?_
   refine(zaad (σ1:=[some (.val (.loc A.o)),some (.val (tSs' c)),some (.val t),some (.val (mkT m)),none,none]) (s1:=s) (by simp[mkT]at *;simp[hcp])).trans ?_
   have a1:(R.val (.loc A.a)).locL (s++[Cell.lst (c.map tS)])=some (A.a,A.ls.map .loc):=zaa9 (by rw[app _ ltA];exact h.pcs)
   refine(zaad (σ1:=[some (.val (.loc A.o)),some (.val (tSs' c)),some (.val t),some (.val (mkT m)),none,none]) (s1:=(s++[Cell.lst (c.map tS)]).set A.a (Cell.lst (A.ls.map T.loc++[T.loc s.length]))) (by simp[h.f1,h.l1,a1,hl1])).trans ?_
   have b0:fldR ((s++[Cell.lst (c.map tS)]).set A.a (Cell.lst (A.ls.map T.loc++[T.loc s.length]))) (.val (.loc A.o)) 0 2=some (.loc A.b):=by
    rw[zaci (by rw[set_ne (Ne.symm n1),app _ ltO];exact h.ins)];rfl
   have b1:(R.val (.loc A.b)).locL ((s++[Cell.lst (c.map tS)]).set A.a (Cell.lst (A.ls.map T.loc++[T.loc s.length])))=some (A.b,B.mrk.map mkT):=zaa9 (by rw[set_ne n5,app _ ltB];exact h.mks)
   refine(zaad (σ1:=[some (.val (.loc A.o)),some (.val (tSs' c)),some (.val t),some (.val (mkT m)),none,none]) (s1:=((s++[Cell.lst (c.map tS)]).set A.a (Cell.lst (A.ls.map T.loc++[T.loc s.length]))).set A.b (Cell.lst (B.mrk.map mkT++[mkT m]))) (by simp[b0,b1,hl2])).trans ?_
   have c0:fldR (((s++[Cell.lst (c.map tS)]).set A.a (Cell.lst (A.ls.map T.loc++[T.loc s.length]))).set A.b (Cell.lst (B.mrk.map mkT++[mkT m]))) (.val (.loc A.o)) 0 1=some (.loc A.a):=by
    rw[zaci (by rw[set_ne (Ne.symm n2),set_ne (Ne.symm n1),app _ ltO];exact h.ins)];rfl
   have c1:(R.val (.loc A.a)).dr (((s++[Cell.lst (c.map tS)]).set A.a (Cell.lst (A.ls.map T.loc++[T.loc s.length]))).set A.b (Cell.lst (B.mrk.map mkT++[mkT m])))=.bor (A.ls.map .loc++[.loc s.length]):=dr_loc (by rw[set_ne (Ne.symm n5),set_eq (by simp;omega)])
   simp[c0,c1,h.len]
  rw[hx]
  rfl
 ·show _=_
  rw[set_ne (Ne.symm n2),set_ne (Ne.symm n1),app _ ltO];exact h.ins
 ·show _=_
  rw[set_ne (Ne.symm n5),set_eq (by simp;omega)];simp
 ·show _=_
  rw[set_eq (by simp;omega)];simp
 ·show _=_
  rw[set_ne n8,set_ne n6,app _ ltC];exact h.sms
 ·have hl:(A.ls++[s.length])[i]?=some l:=hl
  have hc':(B.pc++[c])[i]?=some c':=hc'
  by_cases hi:i<A.ls.length
  ·rw[List.getElem?_append_left hi]at hl
   rw[List.getElem?_append_left (by rw[←h.len];exact hi)]at hc'
   have hm':=List.mem_of_getElem? hl
   rw[set_ne (fun e=>n9 (by rw[e];exact hm')),set_ne (fun e=>n7 (by rw[e];exact hm')),app _ (lt l (by simp[Ad.fp,hm']))]
   exact h.pc i l c' hl hc'
  ·have hi2:=(List.getElem?_eq_some_iff.mp hl).1
   have:i=A.ls.length:=by simp at hi2;omega
   subst this
   simp at hl
   subst hl
   rw[h.len]at hc'
   simp at hc'
   subst hc'
   rw[set_ne (by omega),set_ne (by omega)]
   simp
 ·have nd:=h.nd
  have hn:s.length∉A.fp:=fun q=>Nat.lt_irrefl _ (lt _ q)
  show(A.o::A.a::A.b::A.c::(A.ls++[s.length])).Nodup
  rw[show A.o::A.a::A.b::A.c::(A.ls++[s.length])=A.fp++[s.length]from rfl]
  rw[List.nodup_append]
  exact⟨nd,by simp,fun a ha b hb=>by simp at hb;subst hb;exact fun e=>hn (e▸ha)⟩
 ·simp only[Ad.fp,List.mem_cons,not_or]at hn
  rw[set_ne (Ne.symm hn.2.2.1),set_ne (Ne.symm hn.2.1),app _ hl]
theorem BAt.pAt{A:Ad}{B:Bk}(h:BAt s A B){i:Nat}{c:List Spt}(hc:B.pc[i]?=some c):∃l,A.ls[i]?=some l∧s[l]?=some (.lst (c.map tS)):=by
 have hi:i<A.ls.length:=by rw[h.len];exact(List.getElem?_eq_some_iff.mp hc).1
 have e:A.ls[i]?=some A.ls[i]:=by simp[hi]
 exact⟨_,e,h.pc i _ c e hc⟩
theorem zaho{A:Ad}{B:Bk}(h:BAt s A B){i:Nat}{c:List Spt}(hc:B.pc[i]?=some c):run true fns sub0 whileL (k+2) iz13 [slf A,.val (.int i)] s=.ok (.val (tSs' c)) s:=by
 rw[zaah (F:=Fz13) rfl rfl]
 obtain⟨l,el,es⟩:=h.pAt hc
 have hi:i<A.ls.length:=(List.getElem?_eq_some_iff.mp el).1
 have hct:=zabi (k:=k) (s:=s) (r:=.val (.loc A.a)) (ts:=A.ls.map .loc) (z:=i) (by rw[h.d1];rfl) ⟨by omega,by simp[hi]⟩
 have hg:=zabu (ts:=A.ls.map T.loc) (n:=i) (t:=.loc l) (by simp[el])
 have hd:=dr_loc es
 simp[bz13,h.f1,h.d1,hct,hg,hd]
end Pg
end IP
end
section
set_option linter.all false
set_option maxRecDepth 100000
namespace IP
namespace Pg
open L2
variable{k:Nat}{s:Sto}
def plc(p:Spt)(z:Int):List Int:=if z<0 then [p.x+-z*p.c,p.y+-z*p.d]else [p.x+z*p.a,p.y+z*p.b]
theorem zabq{z:Int}(h:-6≤z∧z≤6):run true fns sub0 whileL (k+1) iz39 [.val (.int z)] s=.ok (.val .non) s:=by
 rw[zaah (F:=Fz39) rfl rfl]
 simp[bz39,show ¬z < -6 by omega,show ¬6<z by omega]
theorem r_moved{p:Spt}{a u t:Int}(ht:0≤t∧t≤6):run true fns sub0 whileL (k+1) iz44 [.val (tS p),.val (.int a),.val (.int u),.val (.int t)] s=.ok (.val (tI [p.x+t*a,p.y+t*u])) s:=by
 rw[zaah (F:=Fz44) rfl rfl]
 have m1:=op_mul (i:=t) (j:=a) (zaao (by omega))
 have m2:=op_mul (i:=t) (j:=u) (zaao (by omega))
 have h0:subR (.val (tS p)) 0=some (.int p.x):=rfl
 have h1:subR (.val (tS p)) 1=some (.int p.y):=rfl
 simp[bz44,tS,m1,m2]
 simp[tS]at h0 h1
 simp[h0,h1]
theorem r_place(p:Spt){z:Int}(h:-6≤z∧z≤6):run true fns sub0 whileL (k+2) iz45 [.val (tS p),.val (.int z)] s=.ok (.val (tI (plc p z))) s:=by
 rw[zaah (F:=Fz45) rfl rfl]
 have hc:=zabq (k:=k) (s:=s) h
 have h2:subR (.val (tS p)) 2=some (.int p.a):=rfl
 have h3:subR (.val (tS p)) 3=some (.int p.b):=rfl
 have h4:subR (.val (tS p)) 4=some (.int p.c):=rfl
 have h5:subR (.val (tS p)) 5=some (.int p.d):=rfl
 by_cases hz:z<0
 ·have hm:=r_moved (k:=k) (s:=s) (p:=p) (a:=p.c) (u:=p.d) (t:=-z) (by omega)
  simp only[tS]at *
  simp[bz45,hc,hz,h4,h5,hm,plc]
 ·have hm:=r_moved (k:=k) (s:=s) (p:=p) (a:=p.a) (u:=p.b) (t:=z) (by omega)
  simp only[tS]at *
  simp[bz45,hc,hz,h2,h3,hm,plc]
theorem zads{C:Cf}{body:List S}{a b:Int}{p:Spt}{z0 x y:Int}{c:Option B}(n:Nat)
  (hb:∀(x y:Int) (m:Nat),exs C body [some (.val (tS p)),some (.val (.int z0)),some (.val (.int x)),some (.val (.int y)),some (.val (.int m))] s=.next [some (.val (tS p)),some (.val (.int z0)),some (.val (.int (x+a))),some (.val (.int (y+b))),some (.val (.int m))] s):
  ∃c',forL (.one 4) (fun σ s=>exs C body σ s) (rangeT 0 n) [some (.val (tS p)),some (.val (.int z0)),some (.val (.int x)),some (.val (.int y)),c] s=.next [some (.val (tS p)),some (.val (.int z0)),some (.val (.int (x+n*a))),some (.val (.int (y+n*b))),c'] s:=by
 obtain⟨σ',e,c',rfl⟩:=zaba (g:=.one 4) (body:=fun σ s=>exs C body σ s) (s:=s) (fun m σ=>∃c',σ=[some (.val (tS p)),some (.val (.int z0)),some (.val (.int (x+m*a))),some (.val (.int (y+m*b))),c']) (rangeT 0 n) 0
  [some (.val (tS p)),some (.val (.int z0)),some (.val (.int x)),some (.val (.int y)),c] ⟨c,by simp⟩ (by
   rintro m t σ hm ⟨c,rfl⟩
   obtain⟨rfl,hlt⟩:=zaak hm
   refine⟨_,_,rfl,?_,some (.val (.int m)),rfl⟩
   show exs C body [some (.val (tS p)),some (.val (.int z0)),some (.val (.int (x+((0+m:Nat):Int)*a))),some (.val (.int (y+((0+m:Nat):Int)*b))),some (.val (.int (0+m)))] s=_
   rw[Int.zero_add,hb]
   have e1:x+((0+m:Nat):Int)*a+a=x+((0+m+1:Nat):Int)*a:=by
    rw[show((0+m+1:Nat):Int)=((0+m:Nat):Int)+1 by omega,Int.add_mul];omega
   have e2:y+((0+m:Nat):Int)*b+b=y+((0+m+1:Nat):Int)*b:=by
    rw[show((0+m+1:Nat):Int)=((0+m:Nat):Int)+1 by omega,Int.add_mul];omega
   rw[e1,e2])
 rw[zaaj]at e
 simp at e
 exact⟨c',e⟩
theorem zadx{z:Int}(h:z≤0):rangeT 0 z=[]:=by unfold rangeT;simp[show z.toNat=0 by omega]
theorem bnd6{z:Int}(h:-6≤z∧z≤6):bnd z=true:=by unfold bnd;simp;omega
theorem lim6{z:Int}(h:z≤6):decide (z≤(lim:Int))=true:=decide_eq_true (Int.le_trans h (by decide))
theorem zafp(p:Spt){z:Int}(h:-6≤z∧z≤6):run true fns sub0 whileL (k+1) iz26 [.val (tS p),.val (.int z)] s=.ok (.val (tI (plc p z))) s:=by
 rw[zaah (F:=Fz26) rfl rfl]
 have h0:subR (.val (tS p)) 0=some (.int p.x):=rfl
 have h1:subR (.val (tS p)) 1=some (.int p.y):=rfl
 have h2:subR (.val (tS p)) 2=some (.int p.a):=rfl
 have h3:subR (.val (tS p)) 3=some (.int p.b):=rfl
 have h4:subR (.val (tS p)) 4=some (.int p.c):=rfl
 have h5:subR (.val (tS p)) 5=some (.int p.d):=rfl
 have hd:∀s,(R.val (tS p)).dr s=.val (tS p):=fun _=>rfl
 have hx:exs (cfX fns sub0 k) bz26 (enter Fz26 [.val (tS p),.val (.int z)]) s=.ret (.val (tI (plc p z))) s:=by
  refine(zaad (σ1:=[some (.val (tS p)),some (.val (.int z)),some (.val (.int p.x)),none,none]) (s1:=s) (by simp[h0,hd])).trans ?_
  refine(zaad (σ1:=[some (.val (tS p)),some (.val (.int z)),some (.val (.int p.x)),some (.val (.int p.y)),none]) (s1:=s) (by simp[h1,hd])).trans ?_
  by_cases hz:z<0
  ·refine(zaad (σ1:=[some (.val (tS p)),some (.val (.int z)),some (.val (.int p.x)),some (.val (.int p.y)),none]) (s1:=s) ((ex_for (ts:=rangeT 0 z) (s1:=s) ((zacs (j:=z) (s1:=s) (by simp)).trans (ite_t (and_t (bnd6 h) (lim6 h.2)))) (by intro _ h;cases h)).trans (by rw[zadx (by omega)];rfl))).trans ?_
   obtain⟨c',e⟩:=zads (C:=cfX fns sub0 k) (s:=s) (body:=bz26_L1) (a:=p.c) (b:=p.d) (p:=p) (z0:=z) (x:=p.x) (y:=p.y) (c:=none) (-z).toNat (fun x y m=>by simp[h4,h5,hd])
   rw[show(((-z).toNat:Nat):Int)=-z by omega]at e
   refine(zaad ((ex_for (ts:=rangeT 0 (-z)) (s1:=s) ((zacs (j:=-z) (s1:=s) (by simp)).trans (ite_t (and_t (bnd6 (by omega)) (lim6 (by omega))))) (by intro _ h;cases h)).trans e)).trans ?_
   simp[plc,hz]
  ·obtain⟨c',e⟩:=zads (C:=cfX fns sub0 k) (s:=s) (body:=bz26_L0) (a:=p.a) (b:=p.b) (p:=p) (z0:=z) (x:=p.x) (y:=p.y) (c:=none) z.toNat (fun x y m=>by simp[h2,h3,hd])
   rw[show((z.toNat:Nat):Int)=z by omega]at e
   refine(zaad ((ex_for (ts:=rangeT 0 z) (s1:=s) ((zacs (j:=z) (s1:=s) (by simp)).trans (ite_t (and_t (bnd6 h) (lim6 h.2)))) (by intro _ h;cases h)).trans e)).trans ?_
   refine(zaad (σ1:=[some (.val (tS p)),some (.val (.int z)),some (.val (.int (p.x+z*p.a))),some (.val (.int (p.y+z*p.b))),c']) (s1:=s) ((ex_for (ts:=rangeT 0 (-z)) (s1:=s) ((zacs (j:=-z) (s1:=s) (by simp)).trans (ite_t (and_t (bnd6 (by omega)) (lim6 (by omega))))) (by intro _ h;cases h)).trans (by rw[zadx (by omega)];rfl))).trans ?_
   simp[plc,hz]
 rw[hx]
 rfl
abbrev atSz(l:List Spt)(z:Int):List (List Int):=l.map fun p=>plc p z
def pX(p:Spt)(z:Int):Int:=if z<0 then p.x+-z*p.c else p.x+z*p.a
def pY(p:Spt)(z:Int):Int:=if z<0 then p.y+-z*p.d else p.y+z*p.b
theorem plc_xy(p:Spt)(z:Int):plc p z=[pX p z,pY p z]:=by
 unfold plc pX pY
 split<;>rfl
theorem six{z a:Int}(hz:-6≤z∧z≤6)(ha:-200≤a∧a≤200):-1200≤z*a∧z*a≤1200:=by
 have:z=-6∨z=-5∨z=-4∨z=-3∨z=-2∨z=-1∨z=0∨z=1∨z=2∨z=3∨z=4∨z=5∨z=6:=by omega
 rcases this with rfl|rfl|rfl|rfl|rfl|rfl|rfl|rfl|rfl|rfl|rfl|rfl|rfl<;>omega
theorem pX_in{p:Spt}{z:Int}(hp:p.fit)(hz:-6≤z∧z≤6):-21200≤pX p z∧pX p z≤21200:=by
 obtain⟨h1,h2,h3,h4,h5,h6⟩:=hp
 unfold pX
 split
 ·have:=six (z:=-z) (by omega) h5;omega
 ·have:=six hz h3;omega
theorem pY_in{p:Spt}{z:Int}(hp:p.fit)(hz:-6≤z∧z≤6):-21200≤pY p z∧pY p z≤21200:=by
 obtain⟨h1,h2,h3,h4,h5,h6⟩:=hp
 unfold pY
 split
 ·have:=six (z:=-z) (by omega) h6;omega
 ·have:=six hz h4;omega
def sq2(p q:Spt)(z:Int):Int:=(pX q z-pX p z)*(pX q z-pX p z)+(pY q z-pY p z)*(pY q z-pY p z)
end Pg
end IP
end
section
set_option linter.all false
set_option maxRecDepth 100000
namespace IP
namespace Pg
open L2
variable{k:Nat}{s:Sto}
def meant(B:Bk):T→Option Int
 | .non=>some B.size
 | .int z=>some z
 | _=>none
theorem r_places{A:Ad}{B:Bk}(hb:BAt s A B)(l:List Spt){v t:T}{z:Int}(hv:v=.lst (l.map tS)∨v=.tup (l.map tS))(ht:meant B t=some z)(hz:-6≤z∧z≤6):run true fns sub0 whileL (k+3) iz11 [slf A,.val v,.val t] s=.ok (.val (tIs (atSz l z))) s:=by
 rw[zaah (F:=Fz11) rfl rfl]
 have hc:=zabq (k:=k+1) (s:=s) hz
 have hcomp:ev (cfX fns sub0 (k+2)) (.comp zagm (.one 4) (.var 1)) .v [some (.val (.loc A.o)),some (.val v),some (.val t),some (.val (.int z)),none] s=.ok (.val (.lst (l.map fun p=>tI (plc p z)))) s:=
  zabc (i:=4) l tS (fun p=>tI (plc p z)) (by rcases hv with rfl|rfl<;>simp) (fun p hp=>by have:=r_place (k:=k) (s:=s) p hz;simp[this])
 have hx:exs (cfX fns sub0 (k+2)) bz11 (enter Fz11 [slf A,.val v,.val t]) s=.ret (.val (tIs (atSz l z))) s:=by
  refine(zaad (σ1:=[some (.val (.loc A.o)),some (.val v),some (.val t),some (.val (.int z)),none]) (s1:=s) ?_).trans ?_
  ·unfold meant at ht
   split at ht
   ·cases ht;simp[R.isNon,hb.f0]
   ·cases ht;simp[R.isNon]
   ·cases ht
  refine(zaad (σ1:=[some (.val (.loc A.o)),some (.val v),some (.val t),some (.val (.int z)),none]) (s1:=s) (by simp[hc])).trans ?_
  refine zabh (ex_ret (hcomp.trans ?_))
  simp[Function.comp_def]
 rw[hx]
 rfl
theorem r_corners{A:Ad}{B:Bk}(hb:BAt s A B){i:Nat}{c:List Spt}(h:B.pc[i]?=some c){t:T}{z:Int}(ht:meant B t=some z)(hz:-6≤z∧z≤6):run true fns sub0 whileL (k+4) iz6 [slf A,.val (.int i),.val t] s=.ok (.val (tIs (atSz c z))) s:=by
 rw[zaah (F:=Fz6) rfl rfl]
 have h1:=zaho (k:=k+1) hb h
 have h2:=r_places (k:=k) hb c (.inl rfl) ht hz
 simp[bz6,hb.li,h1,h2]
end Pg
end IP
end
section
set_option linter.all false
set_option maxRecDepth 100000
namespace IP
namespace Pg
open L2
variable{k:Nat}{s:Sto}
theorem zah2{α:Type}{l:Nat}{ts:List T}{a:α}(h:s[l]?=some (.lst ts)):keepC l ts (.ok a s)=.ok a s:=by unfold keepC;simp[h]
theorem zah0{C:Cf}{e it:E}{i l:Nat}{σ:Fr}{α:Type}(xs:List α)(g:α→T)(f:α→T)(ha:ev C it .v σ s=.ok (.val (.loc l)) s)(hl:s[l]?=some (.lst (xs.map g)))
  (h:∀x∈xs,ev C e .v (put σ i (g x)) s=.ok (.val (f x)) s):ev C (.compC e (.one i) it) .v σ s=.ok (.val (.lst (xs.map f))) s:=by
 have e0:ev C (.compC e (.one i) it) .v σ s=((ev C it .v σ s).bind fun x s1=>onO (x.locL s1) fun p=>(mapRes (fun t s=>onO (bindTg σ (.one i) t) fun σ'=>keepC p.1 p.2 (one (ev C e .v σ' s))) p.2 s1).bind fun q s2=>.ok (.val (.lst q)) s2):=by simp only[ev,fin_v]
 rw[e0,ha]
 show onO ((R.val (.loc l)).locL s) _=_
 rw[zaa9 hl]
 show(mapRes (fun t s=>onO (bindTg σ (.one i) t) fun σ'=>keepC l (xs.map g) (one (ev C e .v σ' s))) (xs.map g) s).bind _=_
 have key:∀ys:List α,(∀x∈ys,x∈xs)→mapRes (fun t s=>onO (bindTg σ (.one i) t) fun σ'=>keepC l (xs.map g) (one (ev C e .v σ' s))) (ys.map g) s=.ok (ys.map f) s:=by
  intro ys
  induction ys with
  | nil=>intro _;rfl
  | cons y ys ih=>
   intro hy
   have h0:=h y (hy y (by simp))
   have h1:=ih fun z hz=>hy z (by simp[hz])
   rw[List.map_cons,List.map_cons]
   unfold mapRes
   rw[show onO (bindTg σ (.one i) (g y)) (fun σ'=>keepC l (xs.map g) (one (ev C e .v σ' s)))=.ok (some (f y)) s by
    show keepC l (xs.map g) (one (ev C e .v (put σ i (g y)) s))=_
    rw[h0]
    exact zah2 hl]
   simp only[Res.bind_ok]
   rw[h1]
   rfl
 rw[key xs fun _ h=>h]
 rfl
def wAll(a b c d:Int):Bool:=[a,b,c,d].all (wthn 200)
theorem BAt.setP{A:Ad}{B:Bk}(h:BAt s A B){i l:Nat}{c:List Spt}(hl:A.ls[i]?=some l):BAt (s.set l (.lst (c.map tS))) A ⟨B.size,B.pc.set i c,B.mrk,B.sm⟩:=by
 have hm:=List.mem_of_getElem? hl
 obtain⟨⟨_,_,_,n4⟩,⟨_,_,n7⟩,⟨_,n9⟩,n10⟩:=h.ne
 have hlt:=h.lt l (by simp[Ad.fp,hm])
 have hne:∀x,x∉A.ls→l≠x:=fun x hx e=>hx (e▸hm)
 refine⟨?_,?_,?_,?_,by simp[h.len],fun i' l' c' hl' hc'=>?_,h.nd⟩
 ·rw[set_ne (hne _ n4)];exact h.ins
 ·rw[set_ne (hne _ n7)];exact h.pcs
 ·rw[set_ne (hne _ n9)];exact h.mks
 ·rw[set_ne (hne _ n10)];exact h.sms
 ·have hc':(B.pc.set i c)[i']?=some c':=hc'
  by_cases hi:i=i'
  ·subst hi
   rw[hl]at hl'
   cases hl'
   have hil:i<B.pc.length:=by rw[←h.len];exact(List.getElem?_eq_some_iff.mp hl).1
   rw[List.getElem?_set_self hil]at hc'
   cases hc'
   rw[set_eq hlt]
  ·rw[List.getElem?_set_ne hi]at hc'
   have nd:=h.nd
   have ndl:A.ls.Nodup:=by
    simp only[Ad.fp,List.nodup_cons]at nd
    exact nd.2.2.2.2
   have hll:l≠l':=fun e=>by
    subst e
    obtain⟨a1,a2⟩:=List.getElem?_eq_some_iff.mp hl
    obtain⟨b1,b2⟩:=List.getElem?_eq_some_iff.mp hl'
    exact hi ((List.getElem_inj ndl).mp (a2.trans b2.symm))
   rw[set_ne hll]
   exact h.pc i' l' c' hl' hc'
section
variable{A:Ad}{B:Bk}(h:BAt s A B){a b c d:Int}
include h
theorem zaha{i j:Nat}{cs:List Spt}{p:Spt}(hc:B.pc[i]?=some cs)(hj:cs[j]?=some p)(hw:wAll a b c d=true):
  ∃s',run true fns sub0 whileL (k+2) iz12 [slf A,.val (.int i),.val (.int j),.val (.tup [.int a,.int b]),.val (.tup [.int c,.int d])] s=.ok (.val .non) s'∧BAt s' A ⟨B.size,B.pc.set i (cs.set j ⟨p.x,p.y,a,b,c,d⟩),B.mrk,B.sm⟩∧Keep A.fp s s'∧s'.length=s.length:=by
 obtain⟨l,el,es⟩:=h.pAt hc
 have hi:i<A.ls.length:=(List.getElem?_eq_some_iff.mp el).1
 have hjl:j<cs.length:=(List.getElem?_eq_some_iff.mp hj).1
 have hm:=List.mem_of_getElem? el
 refine⟨s.set l (.lst ((cs.set j ⟨p.x,p.y,a,b,c,d⟩).map tS)),?_,h.setP el,⟨by simp,fun x _ hn=>?_⟩,by simp⟩
 ·rw[zaah (F:=Fz12) rfl rfl]
  have hct:=zabi (k:=k) (s:=s) (r:=.val (.loc A.a)) (ts:=A.ls.map .loc) (z:=i) (by rw[h.d1];rfl) ⟨by omega,by simp[hi]⟩
  have hg:=zabu (ts:=A.ls.map T.loc) (n:=i) (t:=.loc l) (by simp[el])
  have hc2:=zabi (k:=k) (s:=s) (r:=.val (.loc l)) (ts:=cs.map tS) (z:=j) (by rw[dr_loc es];rfl) ⟨by omega,by simp[hjl]⟩
  have a1:=zabp (k:=k) (s:=s) [a,b,c,d] 200
  rw[show([a,b,c,d].all (wthn 200))=wAll a b c d from rfl,hw]at a1
  simp only[tI,iL,List.map_cons,List.map_nil]at a1
  have hd:=dr_loc es
  have hL:=zaa9 es
  have hg2:=zabu (ts:=cs.map tS) (n:=j) (t:=tS p) (by simp[hj])
  have hcut:cutR (.val (tS p)) none (some 2)=some (.val (.tup [.int p.x,.int p.y])):=rfl
  have hdr:(R.val (tS p)).dr s=.val (tS p):=rfl
  have hadd:opR .add (.val (.tup [.int p.x,.int p.y])) (.val (.tup [.int a,.int b,.int c,.int d]))=some (.val (tS ⟨p.x,p.y,a,b,c,d⟩)):=by
   simp[opR,tS]
   decide
  have hix:L2.ixN (cs.map tS).length (j:Int)=some j:=by simp[L2.ixN,hjl]
  simp[bz12,h.f1,h.d1,hct,hg,hc2,a1,hd,hL,hg2,hdr,hcut,hadd]
  simp at hix
  simp[hix,List.map_set]
 ·rw[set_ne (fun e=>hn (by simp[Ad.fp,←e,hm]))]
end
end Pg
end IP
end
section
set_option linter.all false
set_option maxRecDepth 100000
namespace IP
namespace Pg
open L2
variable{k:Nat}{s:Sto}
section
variable{A:Ad}{B:Bk}(hb:BAt s A B)
include hb
theorem r_change{st ch:Int}(h0:0≤st)(h:-6≤B.size+ch∧B.size+ch≤6):∃s',run true fns sub0 whileL (k+2) iz5 [slf A,.val (.int st),.val (.int ch)] s=.ok (.val (.int (B.size+ch))) s'∧BAt s' A ⟨B.size+ch,B.pc,B.mrk,B.sm⟩∧Keep A.fp s s'∧s'.length=s.length:=by
 have hc:=zabq (k:=k) (s:=s) h
 have ltO:=hb.lt A.o (by simp[Ad.fp])
 obtain⟨⟨n1,n2,n3,n4⟩,_⟩:=hb.ne
 have es:(s.set A.o (.ins 0 [some (.int (B.size+ch)),some (.loc A.a),some (.loc A.b),some (.loc A.c)]))[A.o]?=some (.ins 0 [some (.int (B.size+ch)),some (.loc A.a),some (.loc A.b),some (.loc A.c)]):=set_eq ltO
 refine⟨s.set A.o (.ins 0 [some (.int (B.size+ch)),some (.loc A.a),some (.loc A.b),some (.loc A.c)]),?_,⟨es,?_,?_,?_,hb.len,fun i l c hl hc=>?_,hb.nd⟩,⟨by simp,fun l _ hn=>?_⟩,by simp⟩
 ·rw[zaah (F:=Fz5) rfl rfl]
  have f0:fldR (s.set A.o (.ins 0 [some (.int (B.size+ch)),some (.loc A.a),some (.loc A.b),some (.loc A.c)])) (.val (.loc A.o)) 0 0=some (.int (B.size+ch)):=by rw[zaci es];rfl
  simp[bz5,show ¬st<0 by omega,hb.f0,hb.li,hc,f0]
 ·rw[set_ne n1];exact hb.pcs
 ·rw[set_ne n2];exact hb.mks
 ·rw[set_ne n3];exact hb.sms
 ·have hm:=List.mem_of_getElem? hl
  have hne:A.o≠l:=fun e=>n4 (by rw[e];exact hm)
  rw[set_ne hne];exact hb.pc i l c hl hc
 ·simp only[Ad.fp,List.mem_cons,not_or]at hn
  rw[set_ne (Ne.symm hn.1)]
theorem r_let_out{st:Int}:run true fns sub0 whileL (k+3) iz7 [slf A,.val (.int st)] s=run true fns sub0 whileL (k+2) iz5 [slf A,.val (.int st),.val (.int st)] s:=by
 rw[zaah (F:=Fz7) rfl rfl]
 simp[bz7,hb.li]
 cases run true fns sub0 whileL (k+2) iz5 [slf A,.val (.int st),.val (.int st)] s<;>rfl
end
theorem wthn_iff(b x:Int):wthn b x=decide (-b≤x∧x≤b):=by
 unfold wthn
 congr 1
 apply propext
 split<;>omega
end Pg
end IP
end
section
set_option linter.all false
set_option maxRecDepth 100000
namespace IP
namespace Pg
open L2
def pt(p:Int×Int):T:=.tup [.int p.1,.int p.2]
abbrev PT(p:Int×Int):R:=.val (pt p)
@[simp] theorem dr_pt (p:Int×Int) (s:Sto):(R.val (pt p)).dr s=.val (pt p):=rfl
@[simp] theorem eqT_pt (p q:Int×Int):eqD 8 (pt p) (pt q)=some (p==q):=by
 obtain⟨a,b⟩:=p;obtain⟨c,d⟩:=q
 simp[pt,eqD,eqL]
 rfl
@[simp] theorem subR_pt0 (p:Int×Int):subR (.val (pt p)) 0=some (.int p.1):=rfl
@[simp] theorem subR_pt1 (p:Int×Int):subR (.val (pt p)) 1=some (.int p.2):=rfl
def sml(p:Int×Int):Prop:=p.1.natAbs≤2^20∧p.2.natAbs≤2^20
def turnZ(p q r:Int×Int):Int:=(q.1-p.1)*(r.2-p.2)-(q.2-p.2)*(r.1-p.1)
def alongZ(p q r:Int×Int):Int:=(q.1-p.1)*(r.1-p.1)+(q.2-p.2)*(r.2-p.2)
theorem zabm{a b:Int}(ha:a.natAbs≤2^20)(hb:b.natAbs≤2^20):(a-b).natAbs≤2^21:=by omega
theorem zafl{a b j:Int}(ha:a.natAbs≤2^20)(hb:b.natAbs≤2^20):opR .mul (.val (.int (a-b))) (.val (.int j))=some (.val (.int ((a-b)*j))):=op_mul (zaao (by omega))
variable{k:Nat}{s:Sto}{p q r u:Int×Int}
theorem r_turn(hp:sml p)(hq:sml q):run true fns sub0 whileL (k+1) iz52 [PT p,PT q,PT r] s=.ok (.val (.int (turnZ p q r))) s:=by
 rw[zaah (F:=⟨3,3,false,bz52⟩) rfl rfl]
 simp[bz52,zafl hq.1 hp.1,zafl hq.2 hp.2,turnZ]
theorem r_along(hp:sml p)(hq:sml q):run true fns sub0 whileL (k+1) iz37 [PT p,PT q,PT r] s=.ok (.val (.int (alongZ p q r))) s:=by
 rw[zaah (F:=⟨3,3,false,bz37⟩) rfl rfl]
 simp[bz37,zafl hq.1 hp.1,zafl hq.2 hp.2,alongZ]
theorem zaa7{a b:Int}{m n:Nat}(ha:a.natAbs≤m)(hb:b.natAbs≤n):(a*b).natAbs≤m*n:=by
 rw[Int.natAbs_mul]
 exact Nat.mul_le_mul ha hb
theorem zah8(hp:sml p)(hq:sml q)(hr:sml r):(turnZ p q r).natAbs<2^64:=by
 have h1:=zaa7 (zabm hq.1 hp.1) (zabm hr.2 hp.2)
 have h2:=zaa7 (zabm hq.2 hp.2) (zabm hr.1 hp.1)
 unfold turnZ
 omega
def zaa1(p q r:Int×Int):Bool:=decide (turnZ p q r=0)&&decide (0<alongZ p q r)
theorem zad5(hp:sml p)(hq:sml q):run true fns sub0 whileL (k+2) iz47 [PT p,PT q,PT r] s=.ok (.val (.bl (zaa1 p q r))) s:=by
 rw[zaah (F:=⟨3,3,false,bz47⟩) rfl rfl]
 have h1:=r_turn (k:=k) (s:=s) (r:=r) hp hq
 have h2:=r_along (k:=k) (s:=s) (r:=r) hp hq
 simp[bz47,h1,h2,zaa1]
 split<;>simp[*]
theorem zafi(hr:sml r)(hu:sml u)(hp:sml p):run true fns sub0 whileL (k+2) iz46 [.val (.tup [pt p,pt q]),.val (.tup [pt r,pt u])] s=.ok (.val (.bl (decide (turnZ r u p*turnZ r u q≤0)))) s:=by
 rw[zaah (F:=⟨2,2,false,bz46⟩) rfl rfl]
 have h1:=r_turn (k:=k) (s:=s) (r:=p) hr hu
 have h2:=r_turn (k:=k) (s:=s) (r:=q) hr hu
 have h3:=op_mul (i:=turnZ r u p) (j:=turnZ r u q) (zaao (zah8 hr hu hp))
 simp[bz46,h1,h2,h3]
def ax(b:Bool)(p:Int×Int):Int:=if b then p.2 else p.1
def spansB(b:Bool)(p q r u:Int×Int):Bool:=decide (min (ax b p) (ax b q)≤max (ax b r) (ax b u))&&decide (min (ax b r) (ax b u)≤max (ax b p) (ax b q))
theorem r_spans0:run true fns sub0 whileL (k+1) iz50 [.val (.tup [pt p,pt q]),.val (.tup [pt r,pt u]),.val (.int 0)] s=.ok (.val (.bl (spansB false p q r u))) s:=by
 rw[zaah (F:=⟨3,5,false,bz50⟩) rfl rfl]
 simp[bz50,spansB,ax]
 split<;>simp[*]
theorem r_spans1:run true fns sub0 whileL (k+1) iz50 [.val (.tup [pt p,pt q]),.val (.tup [pt r,pt u]),.val (.int 1)] s=.ok (.val (.bl (spansB true p q r u))) s:=by
 rw[zaah (F:=⟨3,5,false,bz50⟩) rfl rfl]
 simp[bz50,spansB,ax]
 split<;>simp[*]
def zacn(p q r u:Int×Int):Bool:=spansB false p q r u&&spansB true p q r u&&decide (turnZ r u p*turnZ r u q≤0)&&decide (turnZ p q r*turnZ p q u≤0)
theorem r_common(hp:sml p)(hq:sml q)(hr:sml r)(hu:sml u):run true fns sub0 whileL (k+3) iz43 [.val (.tup [pt p,pt q]),.val (.tup [pt r,pt u])] s=.ok (.val (.bl (zacn p q r u))) s:=by
 rw[zaah (F:=⟨2,2,false,bz43⟩) rfl rfl]
 have h1:=r_spans0 (k:=k+1) (s:=s) (p:=p) (q:=q) (r:=r) (u:=u)
 have h2:=r_spans1 (k:=k+1) (s:=s) (p:=p) (q:=q) (r:=r) (u:=u)
 have h3:=zafi (k:=k) (s:=s) (p:=p) (q:=q) hr hu hp
 have h4:=zafi (k:=k) (s:=s) (p:=r) (q:=u) (r:=p) (u:=q) hp hq hr
 simp[bz43,h1,h2,h3,h4,zacn]
 cases spansB false p q r u<;>cases spansB true p q r u<;>simp
 split<;>simp[*]
variable{l:List (Int×Int)}
abbrev LN(l:List (Int×Int)):R:=.val (.lst (l.map pt))
def cor(l:List (Int×Int))(i:Nat):Int×Int:=l.getD (i % l.length) (0,0)
theorem zac0(h:0<l.length)(i:Nat):(l.map pt)[i % l.length]?=some (pt (cor l i)):=by
 have:=Nat.mod_lt i h
 simp[cor,List.getElem?_map,this]
theorem zah3(i n:Nat):Int.fmod (i:Int) (n:Int)=((i % n:Nat):Int):=by
 rw[Int.fmod_eq_emod_of_nonneg _ (Int.natCast_nonneg n)]
 simp
theorem zaek(i:Nat)(n:Nat)(h:0<n):opR .mod (.val (.int ((i:Int)+1))) (.val (.int (n:Int)))=some (.val (.int (((i+1) % n:Nat):Int))):=by
 have h3:=op_mod (i:=(i:Int)+1) (j:=(n:Int)) (by omega)
 rw[h3,show((i:Int)+1)=((i+1:Nat):Int)by omega,zah3]
theorem r_ends{i:Nat}(hi:i<l.length):run true fns sub0 whileL (k+1) iz48 [LN l,.val (.int i)] s=.ok (.val (.tup [pt (cor l i),pt (cor l (i+1))])) s:=by
 rw[zaah (F:=⟨2,2,false,bz48⟩) rfl rfl]
 have h0:0<l.length:=by omega
 have h1:=sub_at (zac0 h0 i)
 have h2:=sub_at (zac0 h0 (i+1))
 rw[Nat.mod_eq_of_lt hi]at h1
 have h3:=zaek i l.length h0
 generalize (i+1) % l.length=m at h2 h3
 simp[bz48,h1,h2,h3]
theorem zaax(hl:∀p∈l,sml p)(i:Nat):sml (cor l i):=by
 unfold cor
 rw[List.getD_eq_getElem?_getD]
 cases e:l[i % l.length]? with
 | none=>exact⟨by decide,by decide⟩
 | some p=>exact hl p (List.mem_of_getElem? e)
def sidesB(l:List (Int×Int))(i j:Nat):Bool:=
 if i=j then cor l i==cor l (i+1)
 else if j=i+1 then zaa1 (cor l (i+1)) (cor l i) (cor l (j+1))
 else if j+1=l.length∧i=0 then zaa1 (cor l i) (cor l (i+1)) (cor l j)
 else zacn (cor l i) (cor l (i+1)) (cor l j) (cor l (j+1))
theorem r_sides{i j:Nat}(hl:∀p∈l,sml p)(hij:i≤j)(hj:j<l.length):run true fns sub0 whileL (k+4) iz49 [LN l,.val (.int i),.val (.int j)] s=.ok (.val (.bl (sidesB l i j))) s:=by
 rw[zaah (F:=⟨3,5,false,bz49⟩) rfl rfl]
 have h1:=r_ends (k:=k+2) (s:=s) (l:=l) (i:=i) (by omega)
 have h2:=r_ends (k:=k+2) (s:=s) (l:=l) (i:=j) hj
 have h3:=zad5 (k:=k+1) (s:=s) (p:=cor l (i+1)) (q:=cor l i) (r:=cor l (j+1)) (zaax hl _) (zaax hl _)
 have h4:=zad5 (k:=k+1) (s:=s) (p:=cor l i) (q:=cor l (i+1)) (r:=cor l j) (zaax hl _) (zaax hl _)
 have h5:=r_common (k:=k) (s:=s) (p:=cor l i) (q:=cor l (i+1)) (r:=cor l j) (u:=cor l (j+1)) (zaax hl _) (zaax hl _) (zaax hl _) (zaax hl _)
 simp[bz49,h1,h2,h3,h4,h5]
 unfold sidesB
 by_cases c1:i=j
 ·simp[c1]
 ·by_cases c2:j=i+1
  ·rw[if_neg (by omega),if_pos (by omega),if_neg c1,if_pos c2]
  ·rw[if_neg (by omega),if_neg (by omega),if_neg c1,if_neg c2]
   by_cases c3:j+1=l.length
   ·rw[if_pos (by omega)]
    by_cases c4:i=0
    ·rw[if_pos c4,if_pos ⟨c3,c4⟩]
    ·rw[if_neg c4,if_neg (fun z=>c4 z.2)]
   ·rw[if_neg (by omega),if_neg (fun z=>c3 z.1)]
def pairBody(f:Nat):List S:=[.for_ (.one 1) (.rng1 (.b1 .len (.var 0))) [.for_ (.one 2) (.rng2 (.var 1) (.b1 .len (.var 0))) [.ifs (.call f [.var 0,.var 1,.var 2] []) [.ret (.tup [.var 1,.var 2])] []]],.ret (.cst .non)]
def qj(p:Nat→Nat→Bool)(i j:Nat):Option R:=if p i j then some (.val (.tup [.int i,.int j]))else none
def qi(p:Nat→Nat→Bool)(n i:Nat):Option R:=firstN (qj p i) i (n-i)
def fp(p:Nat→Nat→Bool)(n:Nat):R:=(firstN (qi p n) 0 n).getD (.val .non)
theorem zafq{C:Cf}{f:Nat}{p:Nat→Nat→Bool}{i:Nat}(hp:∀j,i≤j→j<l.length→C.cf f [LN l,.val (.int i),.val (.int j)] s=.ok (.val (.bl (p i j))) s)(hi:i<l.length)(c:Option B):
  match qi p l.length i with
  | some r=>forL (.one 2) (fun σ s=>exs C [.ifs (.call f [.var 0,.var 1,.var 2] []) [.ret (.tup [.var 1,.var 2])] []] σ s) (rangeT i l.length) [some (.val (.lst (l.map pt))),some (.val (.int i)),c] s=.ret r s
  | none=>∃c',forL (.one 2) (fun σ s=>exs C [.ifs (.call f [.var 0,.var 1,.var 2] []) [.ret (.tup [.var 1,.var 2])] []] σ s) (rangeT i l.length) [some (.val (.lst (l.map pt))),some (.val (.int i)),c] s=.next [some (.val (.lst (l.map pt))),some (.val (.int i)),c'] s:=by
 have h:=zabj (g:=.one 2) (body:=fun σ s=>exs C [.ifs (.call f [.var 0,.var 1,.var 2] []) [.ret (.tup [.var 1,.var 2])] []] σ s) (s:=s) (fun _ σ=>∃c,σ=[some (.val (.lst (l.map pt))),some (.val (.int i)),c]) (qj p i) (rangeT i l.length) i [some (.val (.lst (l.map pt))),some (.val (.int i)),c] ⟨c,rfl⟩ ?_
 ·rw[zaaj,show((l.length:Int)-(i:Int)).toNat=l.length-i by omega]at h
  unfold qi
  cases hq:firstN (qj p i) i (l.length-i)with
  | some r=>rw[hq]at h;exact h
  | none=>
   rw[hq]at h
   obtain⟨σ',e,c',rfl⟩:=h
   exact⟨c',e⟩
 ·rintro m t σ hm ⟨c,rfl⟩
  obtain⟨rfl,hlt⟩:=zaak hm
  have hq:=hp (i+m) (by omega) (by omega)
  rw[show((i+m:Nat):Int)=(i:Int)+(m:Int)by omega]at hq
  refine⟨[some (.val (.lst (l.map pt))),some (.val (.int i)),some (.val (.int (i+m)))],by simp[bindTg,put],?_⟩
  unfold qj
  cases hb:p i (i+m)with
  | true=>rw[hb]at hq;simp[hq]
  | false=>rw[hb]at hq;simp[hq]
theorem zafj{C:Cf}{f:Nat}{p:Nat→Nat→Bool}(hl:l.length≤1000)(hp:∀i j,i≤j→j<l.length→C.cf f [LN l,.val (.int i),.val (.int j)] s=.ok (.val (.bl (p i j))) s):
  exs C (pairBody f) [some (.val (.lst (l.map pt))),none,none] s=.ret (fp p l.length) s:=by
 have h:=zabj (g:=.one 1) (body:=fun σ s=>exs C [.for_ (.one 2) (.rng2 (.var 1) (.b1 .len (.var 0))) [.ifs (.call f [.var 0,.var 1,.var 2] []) [.ret (.tup [.var 1,.var 2])] []]] σ s) (s:=s) (fun _ σ=>∃b c,σ=[some (.val (.lst (l.map pt))),b,c]) (qi p l.length) (rangeT 0 l.length) 0 [some (.val (.lst (l.map pt))),none,none] ⟨none,none,rfl⟩ ?_
 ·rw[zaaj,show((l.length:Int)-0).toNat=l.length by omega]at h
  unfold fp
  have e1:ex C (.for_ (.one 1) (.rng1 (.b1 .len (.var 0))) [.for_ (.one 2) (.rng2 (.var 1) (.b1 .len (.var 0))) [.ifs (.call f [.var 0,.var 1,.var 2] []) [.ret (.tup [.var 1,.var 2])] []]]) [some (.val (.lst (l.map pt))),none,none] s=_:=ex_for (ts:=rangeT 0 l.length) (s1:=s) (zabo (by simp) hl) (by intro i h;cases h)
  cases hq:firstN (qi p l.length) 0 l.length with
  | some r=>
   rw[hq]at h
   exact zabh (e1.trans h)
  | none=>
   rw[hq]at h
   obtain⟨σ',e,b,c,rfl⟩:=h
   refine(zaad (e1.trans e)).trans ?_
   simp
 ·rintro m t σ hm ⟨b,c,rfl⟩
  obtain⟨rfl,hlt⟩:=zaak hm
  have hlt:m<l.length:=by omega
  have hin:=zafq (C:=C) (f:=f) (p:=p) (i:=m) (fun j h1 h2=>hp m j h1 h2) hlt c
  refine⟨[some (.val (.lst (l.map pt))),some (.val (.int m)),c],by simp[bindTg,put],?_⟩
  rw[show 0+m=m by omega]
  have e1:ex C (.for_ (.one 2) (.rng2 (.var 1) (.b1 .len (.var 0))) [.ifs (.call f [.var 0,.var 1,.var 2] []) [.ret (.tup [.var 1,.var 2])] []]) [some (.val (.lst (l.map pt))),some (.val (.int m)),c] s=_:=ex_for (ts:=rangeT m l.length) (s1:=s) (ev_rng2 (s1:=s) (by simp) (by simp) (by omega) hl) (by intro i h;cases h)
  cases hq:qi p l.length m with
  | some r=>
   rw[hq]at hin
   exact zabh (e1.trans hin)
  | none=>
   rw[hq]at hin
   obtain⟨c',e⟩:=hin
   exact⟨_,(zaad (e1.trans e)).trans (by simp only[exs]),some (.val (.int m)),c',rfl⟩
theorem zahs(hl:∀p∈l,sml p)(hn:l.length≤1000):run true fns sub0 whileL (k+5) iz41 [LN l] s=.ok (fp (sidesB l) l.length) s:=by
 rw[zaah (F:=⟨1,3,false,bz41⟩) rfl rfl]
 have h:=zafj (C:=cfX fns sub0 (k+4)) (f:=iz49) (s:=s) (l:=l) (p:=sidesB l) hn (fun i j h1 h2=>r_sides (k:=k) hl h1 h2)
 exact congrArg (leave true false) h
end Pg
end IP
end
section
namespace SegM
def turn(sx sy ox oy tx ty:Int):Int:=(ox-sx)*(ty-sy)-(oy-sy)*(tx-sx)
def Below(fa fb fc fd:Int):Prop:=fa<fc∧fa<fd∧fb<fc∧fb<fd
theorem weigh{p q r s fa fb fc fd:Int}(hp:0≤p)(hq:0≤q)(hr:0≤r)(hs:0≤s)(hk:0<p+q)(hrs:r+s=p+q)
  (e:p*fb+q*fa=r*fd+s*fc):¬Below fa fb fc fd:=by
 rintro⟨h1,h2,h3,h4⟩
 have M:∃M,fa≤M∧fb≤M∧M+1≤fc∧M+1≤fd:=⟨max fa fb,by omega,by omega,by omega,by omega⟩
 obtain⟨M,a1,a2,a3,a4⟩:=M
 have b1:=Int.mul_le_mul_of_nonneg_left a2 hp
 have b2:=Int.mul_le_mul_of_nonneg_left a1 hq
 have b3:=Int.mul_le_mul_of_nonneg_left a4 hr
 have b4:=Int.mul_le_mul_of_nonneg_left a3 hs
 have e1:p*M+q*M=(p+q)*M:=by grind
 have e2:r*(M+1)+s*(M+1)=(r+s)*M+(r+s):=by grind
 rw[hrs]at e2
 omega
section
variable(ax ay bx by' cx cy dx dy:Int)
theorem four(u v:Int):
  turn cx cy dx dy ax ay*(bx*u+by'*v)-turn cx cy dx dy bx by'*(ax*u+ay*v) +
   turn ax ay bx by' cx cy*(dx*u+dy*v)-turn ax ay bx by' dx dy*(cx*u+cy*v)=0:=by
 unfold turn
 grind
theorem sums:turn cx cy dx dy ax ay-turn cx cy dx dy bx by'+turn ax ay bx by' cx cy-turn ax ay bx by' dx dy=0:=by
 unfold turn
 grind
end
theorem signs{a b:Int}(h:a*b≤0):(0≤a∧b≤0)∨(a≤0∧0≤b):=by
 by_cases ha:0<a
 ·left
  refine⟨by omega,?_⟩
  apply Classical.byContradiction
  intro hb
  have:=Int.mul_pos ha (show 0<b by omega)
  omega
 ·by_cases ha0:a=0
  ·by_cases hb:0≤b
   ·right;omega
   ·left;omega
  ·right
   refine⟨by omega,?_⟩
   apply Classical.byContradiction
   intro hb
   have:=Int.mul_pos (show 0 < -a by omega) (show 0 < -b by omega)
   have e:-a*-b=a*b:=by grind
   omega
theorem across{ax ay bx by' cx cy dx dy u v:Int}
  (h1:turn cx cy dx dy ax ay*turn cx cy dx dy bx by'≤0) (h2:turn ax ay bx by' cx cy*turn ax ay bx by' dx dy≤0)
  (hk:turn cx cy dx dy ax ay≠turn cx cy dx dy bx by'):
  ¬Below (ax*u+ay*v) (bx*u+by'*v) (cx*u+cy*v) (dx*u+dy*v):=by
 have e:=four ax ay bx by' cx cy dx dy u v
 have k:=sums ax ay bx by' cx cy dx dy
 generalize turn cx cy dx dy ax ay=A at *
 generalize turn cx cy dx dy bx by'=B at *
 generalize turn ax ay bx by' cx cy=C at *
 generalize turn ax ay bx by' dx dy=D at *
 generalize ax*u+ay*v=fa at *
 generalize bx*u+by'*v=fb at *
 generalize cx*u+cy*v=fc at *
 generalize dx*u+dy*v=fd at *
 rcases signs h1 with⟨a1,a2⟩|⟨a1,a2⟩
 ·have hC:C≤0∧0≤D:=by
   rcases signs h2 with⟨c1,c2⟩|⟨c1,c2⟩<;>omega
  refine weigh (p:=A) (q:=-B) (r:=-C) (s:=D) a1 (by omega) (by omega) hC.2 (by omega) (by omega) ?_
  grind
 ·have hC:0≤C∧D≤0:=by
   rcases signs h2 with⟨c1,c2⟩|⟨c1,c2⟩<;>omega
  refine weigh (p:=-A) (q:=B) (r:=C) (s:=-D) (by omega) a2 hC.1 (by omega) (by omega) (by omega) ?_
  grind
theorem between{px py qx qy rx ry u v:Int}(hc:turn px py qx qy rx ry=0)(h1:px≤rx)(h2:rx≤qx)(hne:px<qx):
  ∃s t:Int,0≤s∧0≤t∧0<s+t∧(s+t)*(rx*u+ry*v)=s*(px*u+py*v)+t*(qx*u+qy*v):=by
 refine⟨qx-rx,rx-px,by omega,by omega,by omega,?_⟩
 unfold turn at hc
 grind
theorem mid_le{s t fr fp fq:Int}(hs:0≤s)(ht:0≤t)(hk:0<s+t)(e:(s+t)*fr=s*fp+t*fq):
  (fp≤fr∨fq≤fr)∧(fr≤fp∨fr≤fq):=by
 constructor
 ·apply Classical.byContradiction
  intro h
  have b1:=Int.mul_le_mul_of_nonneg_left (show fr+1≤fp by omega) hs
  have b2:=Int.mul_le_mul_of_nonneg_left (show fr+1≤fq by omega) ht
  have e1:s*(fr+1)+t*(fr+1)=(s+t)*fr+(s+t):=by grind
  omega
 ·apply Classical.byContradiction
  intro h
  have b1:=Int.mul_le_mul_of_nonneg_left (show fp≤fr-1 by omega) hs
  have b2:=Int.mul_le_mul_of_nonneg_left (show fq≤fr-1 by omega) ht
  have e1:s*(fr-1)+t*(fr-1)=(s+t)*fr-(s+t):=by grind
  omega
def W(p q r:Int):Prop:=(p≤r∨q≤r)∧(r≤p∨r≤q)
theorem W_l(p q:Int):W p q p:=by unfold W;omega
theorem W_r(p q:Int):W p q q:=by unfold W;omega
theorem W_not{fa fb fc fd r:Int}(h1:W fa fb r)(h2:W fc fd r):¬Below fa fb fc fd:=by
 unfold W at h1 h2
 unfold Below
 omega
theorem turn_swap(sx sy ox oy tx ty:Int):turn ox oy sx sy tx ty=-turn sx sy ox oy tx ty:=by
 unfold turn
 grind
theorem seg_x{cx cy dx dy px py:Int}(hc:turn cx cy dx dy px py=0)(h1:min cx dx≤px)(h2:px≤max cx dx)(hne:cx≠dx)(u v:Int):
  W (cx*u+cy*v) (dx*u+dy*v) (px*u+py*v):=by
 by_cases hlt:cx<dx
 ·obtain⟨s,t,hs,ht,hk,e⟩:=between (u:=u) (v:=v) hc (show cx≤px by omega) (by omega) hlt
  exact mid_le hs ht hk e
 ·have hc':turn dx dy cx cy px py=0:=by rw[turn_swap,hc];rfl
  obtain⟨s,t,hs,ht,hk,e⟩:=between (u:=u) (v:=v) hc' (show dx≤px by omega) (by omega) (by omega)
  have:=mid_le hs ht hk e
  unfold W
  omega
theorem mono_y{x cy dy py u v:Int}(h1:min cy dy≤py)(h2:py≤max cy dy):W (x*u+cy*v) (x*u+dy*v) (x*u+py*v):=by
 by_cases hlt:cy<dy
 ·exact mid_le (s:=dy-py) (t:=py-cy) (by omega) (by omega) (by omega) (by grind)
 ·by_cases he:cy=dy
  ·have:py=cy:=by omega
   subst this
   exact W_l _ _
  ·have:=mid_le (s:=cy-py) (t:=py-dy) (fr:=x*u+py*v) (fp:=x*u+dy*v) (fq:=x*u+cy*v) (by omega) (by omega) (by omega) (by grind)
   unfold W
   omega
theorem on_line{ax ay bx by' cx cy dx dy:Int}(hA:turn cx cy dx dy ax ay=0)(hB:turn cx cy dx dy bx by'=0)(hC:turn ax ay bx by' cx cy=0)(hD:turn ax ay bx by' dx dy=0)
  (x1:min ax bx≤max cx dx) (x2:min cx dx≤max ax bx) (y1:min ay by'≤max cy dy) (y2:min cy dy≤max ay by') (u v:Int):
  ¬Below (ax*u+ay*v) (bx*u+by'*v) (cx*u+cy*v) (dx*u+dy*v):=by
 by_cases e1:ax=bx
 ·by_cases e2:cx=dx
  ·have e3:ax=cx:=by omega
   subst e1;subst e2;subst e3
   have:(min cy dy≤ay∧ay≤max cy dy)∨(min cy dy≤by'∧by'≤max cy dy)∨(min ay by'≤cy∧cy≤max ay by')∨(min ay by'≤dy∧dy≤max ay by'):=by omega
   rcases this with h|h|h|h
   ·exact W_not (W_l _ _) (mono_y h.1 h.2)
   ·exact W_not (W_r _ _) (mono_y h.1 h.2)
   ·exact W_not (mono_y h.1 h.2) (W_l _ _)
   ·exact W_not (mono_y h.1 h.2) (W_r _ _)
  ·subst e1
   exact W_not (W_l _ _) (seg_x hA (by omega) (by omega) e2 u v)
 ·by_cases e2:cx=dx
  ·subst e2
   exact W_not (seg_x hC (by omega) (by omega) e1 u v) (W_l _ _)
  ·have:(min cx dx≤ax∧ax≤max cx dx)∨(min cx dx≤bx∧bx≤max cx dx)∨(min ax bx≤cx∧cx≤max ax bx)∨(min ax bx≤dx∧dx≤max ax bx):=by omega
   rcases this with h|h|h|h
   ·exact W_not (W_l _ _) (seg_x hA h.1 h.2 e2 u v)
   ·exact W_not (W_r _ _) (seg_x hB h.1 h.2 e2 u v)
   ·exact W_not (seg_x hC h.1 h.2 e1 u v) (W_l _ _)
   ·exact W_not (seg_x hD h.1 h.2 e1 u v) (W_r _ _)
def Common(ax ay bx by' cx cy dx dy:Int):Prop:=
 (min ax bx≤max cx dx∧min cx dx≤max ax bx)∧(min ay by'≤max cy dy∧min cy dy≤max ay by')∧
  turn cx cy dx dy ax ay*turn cx cy dx dy bx by'≤0∧turn ax ay bx by' cx cy*turn ax ay bx by' dx dy≤0
theorem sq_zero{a:Int}(h:a*a≤0):a=0:=by
 rcases signs h with⟨h1,h2⟩|⟨h1,h2⟩<;>omega
theorem zacu{ax ay bx by' cx cy dx dy:Int}(h:Common ax ay bx by' cx cy dx dy)(u v:Int):
  ¬Below (ax*u+ay*v) (bx*u+by'*v) (cx*u+cy*v) (dx*u+dy*v):=by
 obtain⟨⟨x1,x2⟩,⟨y1,y2⟩,h1,h2⟩:=h
 by_cases hk:turn cx cy dx dy ax ay=turn cx cy dx dy bx by'
 ·have k:=sums ax ay bx by' cx cy dx dy
  have k2:turn ax ay bx by' cx cy=turn ax ay bx by' dx dy:=by omega
  rw[←hk]at h1
  rw[←k2]at h2
  have a0:=sq_zero h1
  have c0:=sq_zero h2
  exact on_line a0 (by omega) c0 (by omega) x1 x2 y1 y2 u v
 ·exact across h1 h2 hk
theorem zafv{ax ay bx by' cx cy dx dy:Int}(h:Common ax ay bx by' cx cy dx dy):Common cx cy dx dy ax ay bx by':=by
 obtain⟨⟨x1,x2⟩,⟨y1,y2⟩,h1,h2⟩:=h
 exact⟨⟨x2,x1⟩,⟨y2,y1⟩,h2,h1⟩
def PartBy(ax ay bx by' cx cy dx dy u v:Int):Prop:=
 Below (ax*u+ay*v) (bx*u+by'*v) (cx*u+cy*v) (dx*u+dy*v)∨Below (cx*u+cy*v) (dx*u+dy*v) (ax*u+ay*v) (bx*u+by'*v)
theorem common_not{ax ay bx by' cx cy dx dy:Int}(h:Common ax ay bx by' cx cy dx dy)(u v:Int):¬PartBy ax ay bx by' cx cy dx dy u v:=by
 rintro(q|q)
 ·exact zacu h u v q
 ·exact zacu (zafv h) u v q
theorem zaew{a b:Int}(h:¬a*b≤0):(0<a∧0<b)∨(a<0∧b<0):=by
 by_cases ha:0<a
 ·left
  refine⟨ha,?_⟩
  apply Classical.byContradiction
  intro hb
  have:=Int.mul_le_mul_of_nonneg_left (show b≤0 by omega) (show 0≤a by omega)
  omega
 ·right
  have ha0:a≠0:=by
   intro h0
   subst h0
   omega
  refine⟨by omega,?_⟩
  apply Classical.byContradiction
  intro hb
  have:=Int.mul_le_mul_of_nonneg_left (show 0≤b by omega) (show 0≤-a by omega)
  have e:-a*b=-(a*b):=by grind
  omega
theorem not_common{ax ay bx by' cx cy dx dy:Int}(h:¬Common ax ay bx by' cx cy dx dy):
  PartBy ax ay bx by' cx cy dx dy 1 0∨PartBy ax ay bx by' cx cy dx dy 0 1∨PartBy ax ay bx by' cx cy dx dy (ay-by') (bx-ax)∨PartBy ax ay bx by' cx cy dx dy (cy-dy) (dx-cx):=by
 by_cases hx:min ax bx≤max cx dx∧min cx dx≤max ax bx
 ·by_cases hy:min ay by'≤max cy dy∧min cy dy≤max ay by'
  ·right;right
   by_cases h2:turn ax ay bx by' cx cy*turn ax ay bx by' dx dy≤0
   ·right
    have h1:¬turn cx cy dx dy ax ay*turn cx cy dx dy bx by'≤0:=fun q=>h ⟨hx,hy,q,h2⟩
    have e1:turn cx cy dx dy ax ay=(ax*(cy-dy)+ay*(dx-cx))-(cx*(cy-dy)+cy*(dx-cx)):=by unfold turn;grind
    have e2:turn cx cy dx dy bx by'=(bx*(cy-dy)+by'*(dx-cx))-(cx*(cy-dy)+cy*(dx-cx)):=by unfold turn;grind
    have e3:cx*(cy-dy)+cy*(dx-cx)=dx*(cy-dy)+dy*(dx-cx):=by grind
    unfold PartBy Below
    rcases zaew h1 with⟨p,q⟩|⟨p,q⟩
    ·right;omega
    ·left;omega
   ·left
    have e1:turn ax ay bx by' cx cy=(cx*(ay-by')+cy*(bx-ax))-(ax*(ay-by')+ay*(bx-ax)):=by unfold turn;grind
    have e2:turn ax ay bx by' dx dy=(dx*(ay-by')+dy*(bx-ax))-(ax*(ay-by')+ay*(bx-ax)):=by unfold turn;grind
    have e3:ax*(ay-by')+ay*(bx-ax)=bx*(ay-by')+by'*(bx-ax):=by grind
    unfold PartBy Below
    rcases zaew h2 with⟨p,q⟩|⟨p,q⟩
    ·left;omega
    ·right;omega
  ·right;left
   unfold PartBy Below
   omega
 ·left
  unfold PartBy Below
  omega
end SegM
end
section
namespace WayM
theorem abs_eq{a b:Int}(h:a.natAbs=b.natAbs):a=b∨a=-b:=by omega
theorem zacb{a b:Int}(h:¬(a=0∧b=0)):0<a*a+b*b:=by
 have h1:0≤a*a:=by
  rcases Int.le_total 0 a with q|q
  ·exact Int.mul_nonneg q q
  ·have:=Int.mul_nonneg (show 0≤-a by omega) (show 0≤-a by omega)
   have e:-a*-a=a*a:=by grind
   omega
 have h2:0≤b*b:=by
  rcases Int.le_total 0 b with q|q
  ·exact Int.mul_nonneg q q
  ·have:=Int.mul_nonneg (show 0≤-b by omega) (show 0≤-b by omega)
   have e:-b*-b=b*b:=by grind
   omega
 by_cases ha:a=0
 ·have hb:b≠0:=fun q=>h ⟨ha,q⟩
  have:b*b≠0:=fun q=>by rcases Int.mul_eq_zero.mp q with q|q<;>omega
  omega
 ·have:a*a≠0:=fun q=>by rcases Int.mul_eq_zero.mp q with q|q<;>omega
  omega
theorem prim{i j k l:Int}(h1:Nat.Coprime i.natAbs j.natAbs)(h2:Nat.Coprime k.natAbs l.natAbs)(ht:i*l=j*k)(ha:0<i*k+j*l):i=k∧j=l:=by
 have e:i.natAbs*l.natAbs=j.natAbs*k.natAbs:=by
  rw[←Int.natAbs_mul,←Int.natAbs_mul,ht]
 have d1:i.natAbs ∣ k.natAbs:=h1.dvd_of_dvd_mul_left (e▸Nat.dvd_mul_right _ _)
 have d2:k.natAbs ∣ i.natAbs:=h2.dvd_of_dvd_mul_right (e▸Nat.dvd_mul_left _ _)
 have d3:j.natAbs ∣ l.natAbs:=h1.symm.dvd_of_dvd_mul_left (e▸Nat.dvd_mul_right _ _)
 have d4:l.natAbs ∣ j.natAbs:=h2.symm.dvd_of_dvd_mul_right (e▸Nat.dvd_mul_left _ _)
 have e1:=abs_eq (Nat.dvd_antisymm d1 d2)
 have e2:=abs_eq (Nat.dvd_antisymm d3 d4)
 rcases e1 with rfl|rfl
 ·rcases e2 with rfl|rfl
  ·exact⟨rfl,rfl⟩
  ·have z:i*l=0:=by grind
   rcases Int.mul_eq_zero.mp z with z|z
   ·subst z
    by_cases hl:l=0
    ·subst hl;omega
    ·have:=zacb (a:=l) (b:=0) (by omega)
     grind
   ·subst z;exact⟨rfl,by omega⟩
 ·rcases e2 with rfl|rfl
  ·have z:k*j=0:=by grind
   rcases Int.mul_eq_zero.mp z with z|z
   ·subst z;exact⟨by omega,rfl⟩
   ·subst z
    by_cases hk:k=0
    ·subst hk;omega
    ·have:=zacb (a:=k) (b:=0) (by omega)
     grind
  ·by_cases hk:k=0∧l=0
   ·obtain⟨rfl,rfl⟩:=hk
    omega
   ·have:=zacb hk
    grind
theorem low{p q g:Int}(hg:g=(Nat.gcd p.natAbs q.natAbs:Nat))(h0:0<g):
  ∃i j,p=g*i∧q=g*j∧Nat.Coprime i.natAbs j.natAbs:=by
 have dp:g ∣ p:=by
  rw[hg];exact Int.natAbs_dvd_natAbs.mp (by simpa using Nat.gcd_dvd_left _ _)
 have dq:g ∣ q:=by
  rw[hg];exact Int.natAbs_dvd_natAbs.mp (by simpa using Nat.gcd_dvd_right _ _)
 obtain⟨i,hi⟩:=dp
 obtain⟨j,hj⟩:=dq
 refine⟨i,j,hi,hj,?_⟩
 have e1:p.natAbs=g.natAbs*i.natAbs:=by rw[hi,Int.natAbs_mul]
 have e2:q.natAbs=g.natAbs*j.natAbs:=by rw[hj,Int.natAbs_mul]
 have e3:g.natAbs=Nat.gcd p.natAbs q.natAbs:=by omega
 rw[e1,e2,Nat.gcd_mul_left]at e3
 unfold Nat.Coprime
 have:0<g.natAbs:=by omega
 exact Nat.eq_of_mul_eq_mul_left this (by omega)
theorem same_way{p q r s g h:Int}(hg:g=(Nat.gcd p.natAbs q.natAbs:Nat))(hh:h=(Nat.gcd r.natAbs s.natAbs:Nat))(hpq:¬(p=0∧q=0))(hrs:¬(r=0∧s=0)):
  (p*s-q*r=0∧0<p*r+q*s)↔(Int.fdiv p g=Int.fdiv r h∧Int.fdiv q g=Int.fdiv s h):=by
 have g0:0<g:=by
  have:Nat.gcd p.natAbs q.natAbs≠0:=fun z=>by
   have:=Nat.gcd_eq_zero_iff.mp z
   omega
  omega
 have h0:0<h:=by
  have:Nat.gcd r.natAbs s.natAbs≠0:=fun z=>by
   have:=Nat.gcd_eq_zero_iff.mp z
   omega
  omega
 obtain⟨i,j,e1,e2,c1⟩:=low hg g0
 obtain⟨k,l,e3,e4,c2⟩:=low hh h0
 clear hg hh
 subst e1;subst e2;subst e3;subst e4
 rw[Int.mul_fdiv_cancel_left i (by omega),Int.mul_fdiv_cancel_left j (by omega),Int.mul_fdiv_cancel_left k (by omega),Int.mul_fdiv_cancel_left l (by omega)]
 have gh:0<g*h:=Int.mul_pos g0 h0
 constructor
 ·rintro⟨t,a⟩
  have t':g*h*(i*l-j*k)=0:=by grind
  have a':0<g*h*(i*k+j*l):=by
   have e:g*h*(i*k+j*l)=g*i*(h*k)+g*j*(h*l):=by grind
   omega
  have t2:i*l=j*k:=by
   rcases Int.mul_eq_zero.mp t' with z|z<;>omega
  have a2:0<i*k+j*l:=Int.pos_of_mul_pos_left (show 0<(i*k+j*l)*(g*h)by rw[Int.mul_comm];exact a') gh
  exact prim c1 c2 t2 a2
 ·rintro⟨rfl,rfl⟩
  constructor
  ·grind
  ·have hz:¬(i=0∧j=0):=by
    rintro⟨rfl,rfl⟩
    exact hpq ⟨by omega,by omega⟩
   have:=Int.mul_pos gh (zacb hz)
   have e:g*i*(h*i)+g*j*(h*j)=g*h*(i*i+j*j):=by grind
   omega
end WayM
end
section
set_option linter.all false
set_option maxRecDepth 100000
namespace IP
namespace Pg
open L2
variable{k:Nat}{s:Sto}{p q r u:Int×Int}{l:List (Int×Int)}
@[simp] theorem asB_bl (b:Bool):asB (.val (.bl b))=some b:=rfl
theorem ex_whl{C:Cf}{c:E}{b:List S}{σ:Fr}{s:Sto}(hw:C.wl=whileL):ex C (.whl c b) σ s=whileL (fun σ s=>(ev C c .t σ s).bind fun x s1=>.of (asB x) s1) (fun σ s=>exs C b σ s) σ s:=by
 conv=>lhs;unfold ex
 rw[hw]
 rfl
theorem gcd_loop(C:Cf)(a b:T):∀(n m:Nat) (c:Option B),∃c',whileL (fun σ s=>(ev C (.cmp .gt (.var 3) (.cst (.int 0))) .t σ s).bind fun x s1=>.of (asB x) s1) (fun σ s=>exs C [(.asg 4 (.bin .mod (.var 2) (.var 3))),(.asg 2 (.var 3)),(.asg 3 (.var 4))] σ s)
   [some (.val a),some (.val b),some (.val (.int m)),some (.val (.int n)),c] s=.next [some (.val a),some (.val b),some (.val (.int (Nat.gcd m n))),some (.val (.int 0)),c'] s:=by
 intro n
 induction n using Nat.strongRecOn with
 | _ n ih=>
  intro m c
  rw[whileL_eq]
  by_cases h:n=0
  ·subst h
   exact⟨c,by simp⟩
  ·have hn:0<n:=by omega
   have hd:=op_mod (i:=(m:Int)) (j:=(n:Int)) (by omega)
   rw[zah3]at hd
   obtain⟨c',e⟩:=ih (m % n) (Nat.mod_lt _ hn) n (some (.val (.int ((m % n:Nat):Int))))
   refine⟨c',?_⟩
   rw[show Nat.gcd m n=Nat.gcd n (m % n)by rw[Nat.gcd_comm m n,Nat.gcd_rec n m,Nat.gcd_comm]]
   rw[←e]
   generalize hg:((m % n:Nat):Int)=z at hd ⊢
   simp[hd,hn]
theorem r_gcd(a b:Int):run true fns sub0 whileL (k+1) iz21 [.val (.int a),.val (.int b)] s=.ok (.val (.int (Nat.gcd a.natAbs b.natAbs))) s:=by
 rw[zaah (F:=⟨2,5,false,bz21⟩) rfl rfl]
 obtain⟨c',e⟩:=gcd_loop (s:=s) (cfX fns sub0 k) (.int a) (.int b) b.natAbs a.natAbs none
 have e1:(if a<0 then -a else a)=(a.natAbs:Int):=by split<;>omega
 have e2:(if b<0 then -b else b)=(b.natAbs:Int):=by split<;>omega
 have hx:exs (cfX fns sub0 k) bz21 (enter ⟨2,5,false,bz21⟩ [.val (.int a),.val (.int b)]) s=.ret (.val (.int (Nat.gcd a.natAbs b.natAbs))) s:=by
  refine(zaad (σ1:=[some (.val (.int a)),some (.val (.int b)),some (.val (.int a.natAbs)),none,none]) (s1:=s) (by simp[e1])).trans ?_
  refine(zaad (σ1:=[some (.val (.int a)),some (.val (.int b)),some (.val (.int a.natAbs)),some (.val (.int b.natAbs)),none]) (s1:=s) (by simp[e2])).trans ?_
  refine(zaad ((ex_whl rfl).trans e)).trans ?_
  simp
 rw[hx]
 rfl
def wayG(p q:Int×Int):Int:=max 1 (Nat.gcd (q.1-p.1).natAbs (q.2-p.2).natAbs:Nat)
def wayZ(p q:Int×Int):Int×Int:=(Int.fdiv (q.1-p.1) (wayG p q),Int.fdiv (q.2-p.2) (wayG p q))
theorem zahe{a b:Int}(h:a.natAbs≤2^21)(h':b.natAbs≤2^21):Nat.gcd a.natAbs b.natAbs≤2^21:=by
 by_cases h0:a.natAbs=0
 ·rw[h0,Nat.gcd_zero_left];exact h'
 ·exact Nat.le_trans (Nat.gcd_le_left _ (by omega)) h
theorem r_way(hp:sml p)(hq:sml q):run true fns sub0 whileL (k+2) iz34 [PT p,PT q] s=.ok (PT (wayZ p q)) s:=by
 rw[zaah (F:=⟨2,5,false,bz34⟩) rfl rfl]
 have h1:=r_gcd (k:=k) (s:=s) (q.1-p.1) (q.2-p.2)
 have hg:=zahe (zabm hq.1 hp.1) (zabm hq.2 hp.2)
 have hm:(if((Nat.gcd (q.1-p.1).natAbs (q.2-p.2).natAbs:Nat):Int)>1 then((Nat.gcd (q.1-p.1).natAbs (q.2-p.2).natAbs:Nat):Int)else 1)=wayG p q:=by
  unfold wayG
  split<;>omega
 have hw1:0<wayG p q:=by unfold wayG;omega
 have hw2:wayG p q<2^64:=by unfold wayG;omega
 have h2:=zaaw (i:=q.1-p.1) hw1 hw2
 have h3:=zaaw (i:=q.2-p.2) hw1 hw2
 generalize hG:((Nat.gcd (q.1-p.1).natAbs (q.2-p.2).natAbs:Nat):Int)=g at h1 hm
 simp only[gt_iff_lt]at hm
 simp[bz34,h1,hm,h2,h3,wayZ,pt]
def partB(p q r u d:Int×Int):Bool:=decide (max (p.1*d.1+p.2*d.2) (q.1*d.1+q.2*d.2)<min (r.1*d.1+r.2*d.2) (u.1*d.1+u.2*d.2))||decide (max (r.1*d.1+r.2*d.2) (u.1*d.1+u.2*d.2)<min (p.1*d.1+p.2*d.2) (q.1*d.1+q.2*d.2))
def wayL(p q r u:Int×Int):List (Int×Int):=[(1,0),(0,1),(q.1-p.1,q.2-p.2),(p.2-q.2,q.1-p.1),(u.1-r.1,u.2-r.2),(r.2-u.2,u.1-r.1)]
theorem mul_l{a j:Int}(ha:a.natAbs≤2^20):opR .mul (.val (.int a)) (.val (.int j))=some (.val (.int (a*j))):=op_mul (zaao (by omega))
theorem chain(c:Prop)[Decidable c](b:Bool)(m:Res R)(h:m=.ok (.val (.bl b)) s):(if c then .ok (.val (.bl true)) s else m)=.ok (.val (.bl (decide c||b))) s:=by
 by_cases hc:c
 ·rw[if_pos hc,decide_eq_true hc];rfl
 ·rw[if_neg hc,h,decide_eq_false hc];rfl
theorem ex_forV{C:Cf}{g:Tg}{i:Nat}{b:List S}{σ:Fr}:ex C (.for_ g (.var i) b) σ s=(ev C (.var i) .i σ s).st σ fun x s1=>onS x.lst? fun ts=>if isOwn σ i then(forL g (fun σ s=>exs C b σ s) ts (lock σ i) s1).unlock i else forL g (fun σ s=>exs C b σ s) ts σ s1:=by unfold ex;rfl
theorem r_parted(hp:sml p)(hq:sml q)(hr:sml r)(hu:sml u):run true fns sub0 whileL (k+1) iz24 [PT p,PT q,PT r,PT u] s=.ok (.val (.bl ((wayL p q r u).any (partB p q r u)))) s:=by
 rw[zaah (F:=⟨4,11,false,bz24⟩) rfl rfl]
 simp[bz24,ex_forV,freshE,setOwn,ownAt,forL,bindTg,IP.puts,lim,lock,isOwn,unlock,mul_l hp.1,mul_l hp.2,mul_l hq.1,mul_l hq.2,mul_l hr.1,mul_l hr.2,mul_l hu.1,mul_l hu.2,pt]
 simp only[wayL,partB,List.any_cons,List.any_nil,Int.mul_one,Int.mul_zero,Int.add_zero,Int.zero_add,Bool.or_assoc]
 repeat refine chain _ _ _ ?_
 rfl
theorem turn_same:turnZ p q r=SegM.turn p.1 p.2 q.1 q.2 r.1 r.2:=rfl
theorem zady:zacn p q r u=true↔SegM.Common p.1 p.2 q.1 q.2 r.1 r.2 u.1 u.2:=by
 simp only[zacn,spansB,ax,Bool.and_eq_true,decide_eq_true_eq,SegM.Common,turn_same,if_true,Bool.false_eq_true,if_false]
 constructor
 ·rintro⟨⟨⟨a,b⟩,c⟩,d⟩;exact⟨a,b,of_decide_eq_true c,of_decide_eq_true d⟩
 ·rintro⟨a,b,c,d⟩;exact⟨⟨⟨a,b⟩,decide_eq_true c⟩,decide_eq_true d⟩
theorem zacg(d:Int×Int):partB p q r u d=true↔SegM.PartBy p.1 p.2 q.1 q.2 r.1 r.2 u.1 u.2 d.1 d.2:=by
 simp only[partB,SegM.PartBy,SegM.Below,Bool.or_eq_true,decide_eq_true_eq]
 generalize p.1*d.1+p.2*d.2=a
 generalize q.1*d.1+q.2*d.2=b
 generalize r.1*d.1+r.2*d.2=c
 generalize u.1*d.1+u.2*d.2=e
 omega
theorem zaf8:(wayL p q r u).any (partB p q r u)=!(zacn p q r u):=by
 cases hc:zacn p q r u with
 | true=>
  have h:=zady.mp hc
  rw[Bool.not_true,List.any_eq_false]
  intro d _ z
  exact SegM.common_not h d.1 d.2 ((zacg d).mp z)
 | false=>
  have h:¬SegM.Common p.1 p.2 q.1 q.2 r.1 r.2 u.1 u.2:=fun z=>by rw[zady.mpr z]at hc;cases hc
  rw[Bool.not_false,List.any_eq_true]
  rcases SegM.not_common h with z|z|z|z
  ·exact⟨(1,0),by simp[wayL],(zacg _).mpr z⟩
  ·exact⟨(0,1),by simp[wayL],(zacg _).mpr z⟩
  ·exact⟨(p.2-q.2,q.1-p.1),by simp[wayL],(zacg _).mpr z⟩
  ·exact⟨(r.2-u.2,u.1-r.1),by simp[wayL],(zacg _).mpr z⟩
def crossB(l:List (Int×Int))(i j:Nat):Bool:=
 if i=j then cor l i==cor l (i+1)
 else if j=i+1 then cor l i != cor l (i+1)&&wayZ (cor l (i+1)) (cor l i)==wayZ (cor l (i+1)) (cor l (j+1))
 else if i=0∧j+1=l.length then cor l i != cor l (i+1)&&wayZ (cor l i) (cor l (i+1))==wayZ (cor l i) (cor l j)
 else !((wayL (cor l i) (cor l (i+1)) (cor l j) (cor l (j+1))).any (partB (cor l i) (cor l (i+1)) (cor l j) (cor l (j+1))))
theorem r_crossed{i j:Nat}(hl:∀p∈l,sml p)(hij:i≤j)(hj:j<l.length):run true fns sub0 whileL (k+3) iz18 [LN l,.val (.int i),.val (.int j)] s=.ok (.val (.bl (crossB l i j))) s:=by
 rw[zaah (F:=⟨3,8,false,bz18⟩) rfl rfl]
 have h0:0<l.length:=by omega
 have a1:=sub_at (zac0 h0 i)
 have a2:=sub_at (zac0 h0 (i+1))
 have a3:=sub_at (zac0 h0 j)
 have a4:=sub_at (zac0 h0 (j+1))
 rw[Nat.mod_eq_of_lt (by omega)]at a1 a3
 have m1:=zaek i l.length h0
 have m2:=zaek j l.length h0
 generalize (i+1) % l.length=i' at a2 m1
 generalize (j+1) % l.length=j' at a4 m2
 have w1:=r_way (k:=k) (s:=s) (p:=cor l (i+1)) (q:=cor l i) (zaax hl _) (zaax hl _)
 have w2:=r_way (k:=k) (s:=s) (p:=cor l (i+1)) (q:=cor l (j+1)) (zaax hl _) (zaax hl _)
 have w3:=r_way (k:=k) (s:=s) (p:=cor l i) (q:=cor l (i+1)) (zaax hl _) (zaax hl _)
 have w4:=r_way (k:=k) (s:=s) (p:=cor l i) (q:=cor l j) (zaax hl _) (zaax hl _)
 have pa:=r_parted (k:=k+1) (s:=s) (p:=cor l i) (q:=cor l (i+1)) (r:=cor l j) (u:=cor l (j+1)) (zaax hl _) (zaax hl _) (zaax hl _) (zaax hl _)
 simp[bz18,a1,a2,a3,a4,m1,m2,w1,w2,w3,w4,pa]
 unfold crossB
 by_cases c1:i=j
 ·simp[c1]
 ·by_cases c2:j=i+1
  ·rw[if_neg (by omega),if_pos (by omega),if_neg c1,if_pos c2]
   by_cases c5:cor l i=cor l (i+1)
   ·simp[c5]
   ·rw[if_neg c5];simp[c5]
  ·rw[if_neg (by omega),if_neg (by omega),if_neg c1,if_neg c2]
   by_cases c4:i=0
   ·rw[if_pos c4]
    by_cases c3:j+1=l.length
    ·have t3:(j:Int)=(l.length:Int)-1:=by omega
     rw[if_pos t3,if_pos (c:=i=0∧j+1=l.length) ⟨c4,c3⟩]
     by_cases c5:cor l i=cor l (i+1)
     ·simp[c5]
     ·rw[if_neg c5];simp[c5]
    ·have t3:¬(j:Int)=(l.length:Int)-1:=by omega
     rw[if_neg t3,if_neg (c:=i=0∧j+1=l.length) (fun z=>c3 z.2)]
   ·rw[if_neg c4,if_neg (fun z=>c4 z.1)]
theorem way_zero:wayZ p p=(0,0):=by
 simp[wayZ,wayG]
theorem zadh{a b:Int}(h:¬(a=0∧b=0)):0<Nat.gcd a.natAbs b.natAbs:=by
 refine Nat.pos_of_ne_zero fun z=>h ?_
 have:=Nat.gcd_eq_zero_iff.mp z
 omega
theorem zafz(hq:q≠p):zaa1 p q r=(wayZ p q==wayZ p r):=by
 have hq0:¬(q.1-p.1=0∧q.2-p.2=0):=fun z=>hq (by ext<;>omega)
 have gq:=zadh hq0
 by_cases hr:r=p
 ·subst hr
  have e1:zaa1 r q r=false:=by
   simp[zaa1,alongZ]
  rw[e1,way_zero]
  symm
  rw[beq_eq_false_iff_ne]
  intro z
  have hw:wayG r q=((Nat.gcd (q.1-r.1).natAbs (q.2-r.2).natAbs:Nat):Int):=by unfold wayG;omega
  have z1:=congrArg Prod.fst z
  have z2:=congrArg Prod.snd z
  simp only[wayZ]at z1 z2
  have g0:(0:Int)<((Nat.gcd (q.1-r.1).natAbs (q.2-r.2).natAbs:Nat):Int):=by omega
  generalize hg:((Nat.gcd (q.1-r.1).natAbs (q.2-r.2).natAbs:Nat):Int)=g at hw g0
  obtain⟨i,j,e1,e2,_⟩:=WayM.low hg.symm g0
  rw[hw,e1,Int.mul_fdiv_cancel_left _ (by omega)]at z1
  rw[hw,e2,Int.mul_fdiv_cancel_left _ (by omega)]at z2
  subst z1 z2
  exact hq0 ⟨by omega,by omega⟩
 ·have hr0:¬(r.1-p.1=0∧r.2-p.2=0):=fun z=>hr (by ext<;>omega)
  have gr:=zadh hr0
  have h:=WayM.same_way (p:=q.1-p.1) (q:=q.2-p.2) (r:=r.1-p.1) (s:=r.2-p.2) rfl rfl hq0 hr0
  have hw:wayG p q=((Nat.gcd (q.1-p.1).natAbs (q.2-p.2).natAbs:Nat):Int):=by unfold wayG;omega
  have hw2:wayG p r=((Nat.gcd (r.1-p.1).natAbs (r.2-p.2).natAbs:Nat):Int):=by unfold wayG;omega
  rw[Bool.eq_iff_iff,beq_iff_eq]
  simp only[zaa1,turnZ,alongZ,Bool.and_eq_true,decide_eq_true_eq,wayZ,hw,hw2,Prod.mk.injEq]
  rw[←h]
  exact⟨fun z=>⟨of_decide_eq_true z.1,of_decide_eq_true z.2⟩,fun z=>⟨decide_eq_true z.1,decide_eq_true z.2⟩⟩
theorem both(l:List (Int×Int))(i j:Nat):sidesB l i j=crossB l i j:=by
 unfold sidesB crossB
 by_cases c1:i=j
 ·rw[if_pos c1,if_pos c1]
 ·rw[if_neg c1,if_neg c1]
  by_cases c2:j=i+1
  ·rw[if_pos c2,if_pos c2]
   by_cases e:cor l i=cor l (i+1)
   ·simp[e,zaa1,alongZ]
   ·rw[zafz e];simp[e]
  ·rw[if_neg c2,if_neg c2]
   by_cases c3:j+1=l.length∧i=0
   ·rw[if_pos c3,if_pos ⟨c3.2,c3.1⟩]
    by_cases e:cor l i=cor l (i+1)
    ·simp[e,zaa1,alongZ]
    ·rw[zafz (Ne.symm e)];simp[e]
   ·rw[if_neg c3,if_neg (fun z=>c3 ⟨z.2,z.1⟩),zaf8,Bool.not_not]
theorem r_first(hl:∀p∈l,sml p)(hn:l.length≤1000):run true fns sub0 whileL (k+4) iz20 [LN l] s=.ok (fp (sidesB l) l.length) s:=by
 rw[zaah (F:=⟨1,3,false,bz20⟩) rfl rfl]
 have h:=zafj (C:=cfX fns sub0 (k+3)) (f:=iz18) (s:=s) (l:=l) (p:=sidesB l) hn (fun i j h1 h2=>by rw[both];exact r_crossed (k:=k) hl h1 h2)
 exact congrArg (leave true false) h
end Pg
end IP
end
section
set_option linter.all false
set_option maxRecDepth 100000
namespace IP
namespace Pg
open L2
variable{k:Nat}{s:Sto}{p q r u:Int×Int}{l:List (Int×Int)}{row:List Int}
theorem sub_lastB{ts:List T}{m:Nat}{t:T}(hl:ts.length=m+1)(h:ts[m]?=some t):subR (.bor ts) (-1)=some t:=by
 simp[subR,L2.atI,L2.ixN,hl]
 rw[if_pos (by omega)]
 have:((-1:Int)+((m:Int)+1)).toNat=m:=by omega
 simp[this,h]
theorem zaes{ts:List T}{m:Nat}{t:T}(hl:ts.length=m+1)(h:ts[m]?=some t):subR (.val (.lst ts)) (-1)=some t:=by
 simp[subR,L2.atI,L2.ixN,hl]
 rw[if_pos (by omega)]
 have:((-1:Int)+((m:Int)+1)).toNat=m:=by omega
 simp[this,h]
theorem zafg(hr:∀v∈row,zaas v)(hl:50≤row.length){a n:Nat}(h1:1≤n)(hn:n≤24)(ha:a+n≤40):∃far:List Int,far.length=n∧(∀v∈far,0≤v∧v≤100)∧run true fns sub0 whileL (k+1) iz31 [.val (.lst (row.map .int)),.val (.int a),.val (.int n)] s=.ok (.val (.lst (far.map .int))) s:=by
 obtain⟨σ',e,far,c,rfl,h2,h3⟩:=zaba (g:=.one 4) (body:=fun σ s=>exs (cfX fns sub0 k) [(.app 3 (.bin .add (.bin .add (.sub (.var 3) (.neg (.cst (.int 1)))) (.cst (.int 1))) (.bin .mod (.sub (.var 0) (.bin .add (.var 1) (.var 4))) (.cst (.int 4)))))] σ s) (s:=s)
  (fun m σ=>∃(far:List Int) (c:Option B),σ=[some (.val (.lst (row.map .int))),some (.val (.int a)),some (.val (.int n)),some (.own (far.map .int)),c]∧far.length=m+1∧∀v∈far,0≤v∧v≤4*m) (rangeT 0 ((n-1:Nat):Int)) 0 [some (.val (.lst (row.map .int))),some (.val (.int a)),some (.val (.int n)),some (.own [.int 0]),none] ⟨[0],none,rfl,rfl,by simp⟩ (by
   rintro m t σ hm ⟨far,c,rfl,h2,h3⟩
   obtain⟨rfl,hlt⟩:=zaak hm
   obtain⟨x,_,f1,_⟩:=row_at hr (m:=a+m) (by omega)
   rw[show((a+m:Nat):Int)=(a:Int)+(m:Int)by omega]at f1
   have hf:m<far.length:=by omega
   have g1:=sub_lastB (ts:=far.map T.int) (m:=m) (t:=.int far[m]) (by simp[h2]) (by simp[hf])
   have g2:=h3 _ (List.getElem_mem hf)
   have g3:=op_mod (i:=x) (j:=4) (by decide)
   have g4:=zaam x (j:=4) (by decide)
   have hlim:far.length<lim:=Nat.lt_of_lt_of_le (show far.length<1000 by omega) lim_ge
   refine⟨[some (.val (.lst (row.map .int))),some (.val (.int a)),some (.val (.int n)),some (.own (far.map .int)),some (.val (.int m))],[some (.val (.lst (row.map .int))),some (.val (.int a)),some (.val (.int n)),some (.own ((far++[far[m]+1+Int.fmod x 4]).map .int)),some (.val (.int m))],by simp[bindTg],by simp[f1,g1,g3,ownAt,setOwn,hlim],far++[far[m]+1+Int.fmod x 4],some (.val (.int m)),rfl,by simp[h2],?_⟩
   intro v hv
   rcases List.mem_append.mp hv with z|z
   ·have:=h3 v z;omega
   ·rw[List.mem_singleton.mp z];omega)
 refine⟨far,?_,fun v hv=>?_,?_⟩
 ·rw[h2,zaaj];omega
 ·have:=h3 v hv
  rw[zaaj]at this
  omega
 ·rw[zaah (F:=⟨3,5,false,bz31⟩) rfl rfl]
  have en:(n:Int)-1=((n-1:Nat):Int):=by omega
  have hx:exs (cfX fns sub0 k) bz31 (enter ⟨3,5,false,bz31⟩ [.val (.lst (row.map .int)),.val (.int a),.val (.int n)]) s=.ret (.val (.lst (far.map .int))) s:=by
   refine(zaad (σ1:=[some (.val (.lst (row.map .int))),some (.val (.int a)),some (.val (.int n)),some (.own [.int 0]),none]) (s1:=s) (by simp[freshE,setOwn])).trans ?_
   refine(zaad ((ex_for (ts:=rangeT 0 ((n-1:Nat):Int)) (s1:=s) (zabo (n:=n-1) (by simp[en]) (by omega)) (by intro _ h;cases h)).trans e)).trans ?_
   simp[frz]
  rw[hx]
  rfl
def smn2(A B:Nat)(p:Int×Int):Prop:=p.1.natAbs≤A∧p.2.natAbs≤B
def smn(B:Nat)(p:Int×Int):Prop:=p.1.natAbs≤B∧p.2.natAbs≤B
theorem zahm{C:Cf}{e:E}{i j:Nat}{x:Nat}{σ:Fr}{P Q:Int×Int→Prop}(hx:ev C (.var x) .i σ s=.ok (LN l) s)(hl:∀p∈l,P p)
  (h:∀p,P p→∃q,Q q∧ev C e .v (put (put σ i (.int p.1)) j (.int p.2)) s=.ok (PT q) s):∃l':List (Int×Int),l'.length=l.length∧(∀q∈l',Q q)∧ev C (.comp e (.many [i,j]) (.var x)) .v σ s=.ok (LN l') s:=by
 obtain⟨xs,h1,h2,h3⟩:=zaca (F:=fun t s=>onO (bindTg σ (.many [i,j]) t) fun σ'=>one (ev C e .v σ' s)) (s:=s) pt Q (l.map pt) (fun m t hm=>by
  rw[List.getElem?_map]at hm
  cases hp:l[m]? with
  | none=>rw[hp]at hm;cases hm
  | some p=>
   rw[hp]at hm
   cases hm
   obtain⟨q,hq,e⟩:=h p (hl p (List.mem_of_getElem? hp))
   refine⟨q,hq,?_⟩
   show one (ev C _ .v (put (put σ i (.int p.1)) j (.int p.2)) s)=_
   rw[e]
   rfl)
 refine⟨xs,by rw[h1];simp,h2,zadr (ts:=l.map pt) (s1:=s) hx h3⟩
end Pg
end IP
end
section
set_option linter.all false
set_option maxRecDepth 100000
namespace IP
namespace Pg
open L2
variable{k:Nat}{s:Sto}{p q r u:Int×Int}{l:List (Int×Int)}{row:List Int}
theorem zahu{ts:List T}{m:Nat}(h:m≤ts.length):cutR (.val (.lst ts)) (some (m:Int)) none=some (.val (.lst (ts.drop m))):=by
 have e:HT.sIx ts.length 0 (some (m:Int))=m:=by rw[HT.sIx_nat];omega
 have e2:HT.sIx ts.length ts.length none=ts.length:=rfl
 simp[cutR,cutT,e,e2,←List.length_drop,List.take_length]
theorem cut_up{ts:List T}{m:Nat}(h:m≤ts.length):cutR (.val (.lst ts)) none (some (m:Int))=some (.val (.lst (ts.take m))):=by
 have e:HT.sIx ts.length ts.length (some (m:Int))=m:=by rw[HT.sIx_nat];omega
 have e2:HT.sIx ts.length 0 none=0:=rfl
 simp[cutR,cutT,e,e2]
theorem ex_ifs{C:Cf}{c:E}{a b:List S}{σ:Fr}{d:Bool}(h:ev C c .t σ s=.ok (.val (.bl d)) s):ex C (.ifs c a b) σ s=if d=true then exs C a σ s else exs C b σ s:=by
 unfold ex
 rw[h]
 simp
theorem zaf2{A B:Nat}(hl:∀p∈l,smn2 A B p)(hn:0<l.length)(hn2:l.length≤500){c:Int}{ra:R}(hra:ra=LN l∨ra=.bor (l.map pt)):∃l':List (Int×Int),l'.length=l.length∧(∀q∈l',smn (A+2*B) q)∧run true fns sub0 whileL (k+1) iz32 [ra,.val (.int c)] s=.ok (LN l') s:=by
 have m5:=op_mod (i:=c) (j:=5) (by decide)
 have b5:=zaam c (j:=5) (by decide)
 generalize Int.fmod c 5=z5 at m5 b5
 have d5:=zaaw (i:=c) (j:=5) (by decide) (by decide)
 have d10:=zaaw (i:=c) (j:=10) (by decide) (by decide)
 have d20:=zaaw (i:=c) (j:=20) (by decide) (by decide)
 generalize Int.fdiv c 5=f5 at d5
 generalize Int.fdiv c 10=f10 at d10
 generalize Int.fdiv c 20=f20 at d20
 have n5:=op_mod (i:=f5) (j:=2) (by decide)
 have n10:=op_mod (i:=f10) (j:=2) (by decide)
 generalize Int.fmod f5 2=g5 at n5
 generalize Int.fmod f10 2=g10 at n10
 have n20:=op_mod (i:=f20) (j:=(l.length:Int)) (by omega)
 have b20:=zaam f20 (j:=(l.length:Int)) (by omega)
 generalize Int.fmod f20 (l.length:Int)=by' at n20 b20
 obtain⟨l1,a1,a2,a3⟩:=zahm (C:=cfX fns sub0 k) (s:=s) (l:=l) (e:=.tup [(.bin .add (.var 5) (.bin .mul (.var 2) (.var 6))),(.var 6)]) (i:=5) (j:=6) (x:=0) (P:=smn2 A B) (Q:=smn (A+2*B))
  (σ:=[some (ofR ra),some (.val (.int c)),some (.val (.int (z5-2))),none,none,none,none,none,none]) (by rcases hra with rfl|rfl<;>simp[ofR]) hl (fun p hp=>by
   have mm:=op_mul (i:=z5-2) (j:=p.2) (zaao (by omega))
   have hb:((z5-2)*p.2).natAbs≤2*B:=zaa7 (by omega) hp.2
   have:=hp.1
   have:=hp.2
   refine⟨(p.1+(z5-2)*p.2,p.2),⟨by show(p.1+(z5-2)*p.2).natAbs≤A+2*B;omega,by show p.2.natAbs≤A+2*B;omega⟩,by simp[mm,pt]⟩)
 obtain⟨l2,c1,c2,c3⟩:∃l2:List (Int×Int),l2.length=l.length∧(∀q∈l2,smn (A+2*B) q)∧ex (cfX fns sub0 k) (.ifs (.cmp .eq (.bin .mod (.bin .fdiv (.var 1) (.cst (.int 5))) (.cst (.int 2))) (.cst (.int 1))) [(.asg 3 (.comp (.tup [(.bin .sub (.cst (.int 0)) (.var 8)),(.var 7)]) (.many [7,8]) (.var 3)))] []) [some (ofR ra),some (.val (.int c)),some (.val (.int (z5-2))),some (.val (.lst (l1.map pt))),none,none,none,none,none] s=.next [some (ofR ra),some (.val (.int c)),some (.val (.int (z5-2))),some (.val (.lst (l2.map pt))),none,none,none,none,none] s:=by
  by_cases hg:g5=1
  ·obtain⟨l2,e1,e2,e3⟩:=zahm (C:=cfX fns sub0 k) (s:=s) (l:=l1) (e:=.tup [(.bin .sub (.cst (.int 0)) (.var 8)),(.var 7)]) (i:=7) (j:=8) (x:=3) (P:=smn (A+2*B)) (Q:=smn (A+2*B))
    (σ:=[some (ofR ra),some (.val (.int c)),some (.val (.int (z5-2))),some (.val (.lst (l1.map pt))),none,none,none,none,none]) (by simp) a2 (fun p hp=>by
     have:=hp.1
     have:=hp.2
     refine⟨(0-p.2,p.1),⟨by show(0-p.2).natAbs≤A+2*B;omega,hp.1⟩,by simp[pt]⟩)
   refine⟨l2,by omega,e2,?_⟩
   rw[ex_ifs (d:=true) (by simp[d5,n5,hg])]
   exact(zaad (ex_asg e3)).trans (by simp)
  ·refine⟨l1,a1,a2,?_⟩
   rw[ex_ifs (d:=false) (by simp[d5,n5,hg])]
   simp
 obtain⟨l3,f1,f2,f3⟩:∃l3:List (Int×Int),l3.length=l.length∧(∀q∈l3,smn (A+2*B) q)∧ex (cfX fns sub0 k) (.ifs (.cmp .eq (.bin .mod (.bin .fdiv (.var 1) (.cst (.int 10))) (.cst (.int 2))) (.cst (.int 1))) [(.asg 3 (.rev (.var 3)))] []) [some (ofR ra),some (.val (.int c)),some (.val (.int (z5-2))),some (.val (.lst (l2.map pt))),none,none,none,none,none] s=.next [some (ofR ra),some (.val (.int c)),some (.val (.int (z5-2))),some (.val (.lst (l3.map pt))),none,none,none,none,none] s:=by
  by_cases hg:g10=1
  ·refine⟨l2.reverse,by simp[c1],fun q hq=>c2 q (List.mem_reverse.mp hq),?_⟩
   rw[ex_ifs (d:=true) (by simp[d10,n10,hg])]
   simp
  ·refine⟨l2,c1,c2,?_⟩
   rw[ex_ifs (d:=false) (by simp[d10,n10,hg])]
   simp
 obtain⟨m,rfl⟩:∃m:Nat,by'=(m:Int):=⟨by'.toNat,by omega⟩
 have u1:=zahu (ts:=l3.map pt) (m:=m) (by simp;omega)
 have u2:=cut_up (ts:=l3.map pt) (m:=m) (by simp;omega)
 refine⟨l3.drop m++l3.take m,by simp;omega,fun q hq=>?_,?_⟩
 ·rcases List.mem_append.mp hq with z|z
  ·exact f2 q (List.mem_of_mem_drop z)
  ·exact f2 q (List.mem_of_mem_take z)
 ·rw[zaah (F:=⟨2,9,true,bz32⟩) rfl rfl]
  have hadd:opR .add (.val (.lst ((l3.map pt).drop m))) (.val (.lst ((l3.map pt).take m)))=some (.val (.lst ((l3.map pt).drop m++(l3.map pt).take m))):=by
   have hlim:((l3.map pt).drop m).length+((l3.map pt).take m).length≤lim:=Nat.le_trans (by simp;omega) lim_ge
   show(if((l3.map pt).drop m).length+((l3.map pt).take m).length≤lim then _ else _)=_
   rw[if_pos hlim]
  have hx:exs (cfX fns sub0 k) bz32 (enter ⟨2,9,true,bz32⟩ [ra,.val (.int c)]) s=.retO ((l3.drop m++l3.take m).map pt) s:=by
   refine(zaad (σ1:=[some (ofR ra),some (.val (.int c)),some (.val (.int (z5-2))),none,none,none,none,none,none]) (s1:=s) (by simp[enter,m5])).trans ?_
   refine(zaad (ex_asg a3)).trans ?_
   refine(zaad c3).trans ?_
   refine(zaad f3).trans ?_
   refine(zaad (σ1:=[some (ofR ra),some (.val (.int c)),some (.val (.int (z5-2))),some (.val (.lst (l3.map pt))),some (.val (.int m)),none,none,none,none]) (s1:=s) (by simp[d20,f1,n20])).trans ?_
   simp[freshE,u1,u2,hadd]
  rw[hx]
  rfl
end Pg
end IP
end
section
set_option linter.all false
set_option maxRecDepth 100000
namespace IP
namespace Pg
open L2
variable{k:Nat}{s:Sto}{p q r u:Int×Int}{l:List (Int×Int)}{row:List Int}
theorem ints_at{xs:List Int}{m:Nat}(h:m<xs.length):subR (.val (.lst (xs.map .int))) (m:Int)=some (.int xs[m]):=sub_at (by simp[h])
theorem prod_le{a b:Int}(ha:0≤a∧a≤100)(hb:0≤b∧b≤100):(a*b).natAbs≤10000:=zaa7 (m:=100) (n:=100) (by omega) (by omega)
theorem r_simple(hr:∀v∈row,zaas v)(hl:50≤row.length){n:Nat}(h3:3≤n)(hn:n≤24):∃l:List (Int×Int),l.length=n∧(∀p∈l,smn2 10000 901 p)∧run true fns sub0 whileL (k+2) iz27 [.val (.lst (row.map .int)),.val (.int n)] s=.ok (LN l) s:=by
 obtain⟨v0,_,r0,_⟩:=row_at hr (m:=0) (by omega)
 obtain⟨v1,_,r1,_⟩:=row_at hr (m:=1) (by omega)
 have r0':subR (.val (.lst (row.map .int))) 0=some (.int v0):=r0
 have r1':subR (.val (.lst (row.map .int))) 1=some (.int v1):=r1
 have hm:=op_mod (i:=v1) (j:=4) (by decide)
 have hz:=zaam v1 (j:=4) (by decide)
 generalize Int.fmod v1 4=z at hm hz
 obtain⟨tall,ht,e2⟩:=menu4 (a:=1) (b:=3) (c:=50) (d:=900) hz.1 hz.2
 have ht0:0<tall:=by omega
 have ht1:tall≤900:=by omega
 obtain⟨low,lo1,lo2,lo3⟩:∃low:Nat,2≤low∧low+1≤n∧ex (cfX fns sub0 (k+1)) (.ifs (.cmp .gt (.var 1) (.cst (.int 3))) [(.asg 2 (.bin .add (.cst (.int 2)) (.bin .mod (.sub (.var 0) (.cst (.int 0))) (.bin .sub (.var 1) (.cst (.int 3))))))] []) [some (.val (.lst (row.map .int))),some (.val (.int n)),some (.val (.int 2)),none,none,none,none,none,none] s=.next [some (.val (.lst (row.map .int))),some (.val (.int n)),some (.val (.int low)),none,none,none,none,none,none] s:=by
  by_cases h:3<n
  ·have g1:=op_mod (i:=v0) (j:=(n:Int)-3) (by omega)
   have g2:=zaam v0 (j:=(n:Int)-3) (by omega)
   generalize Int.fmod v0 ((n:Int)-3)=y at g1 g2
   refine⟨2+y.toNat,by omega,by omega,?_⟩
   rw[ex_ifs (d:=true) (by simp;omega)]
   rw[show((2+y.toNat:Nat):Int)=2+y by omega]
   simp[r0',g1]
  ·refine⟨2,by omega,by omega,?_⟩
   rw[ex_ifs (d:=false) (by simp;omega)]
   simp
 obtain⟨high,hi⟩:∃high:Nat,n=low+high:=⟨n-low,by omega⟩
 obtain⟨bot,b1,b2,b3⟩:=zafg (k:=k) (s:=s) hr hl (a:=2) (n:=low) (by omega) (by omega) (by omega)
 obtain⟨tp,t1,t2,t3⟩:=zafg (k:=k) (s:=s) hr hl (a:=2+low) (n:=high) (by omega) (by omega) (by omega)
 rw[show((2+low:Nat):Int)=2+(low:Int)by omega]at t3
 have tl:high-1<tp.length:=by omega
 have bl:low-1<bot.length:=by omega
 have tlast:=zaes (ts:=tp.map T.int) (m:=high-1) (t:=.int tp[high-1]) (by simp;omega) (by simp[tl])
 have blast:=zaes (ts:=bot.map T.int) (m:=low-1) (t:=.int bot[low-1]) (by simp;omega) (by simp[bl])
 have tv:=t2 _ (List.getElem_mem tl)
 have bv:=b2 _ (List.getElem_mem bl)
 generalize tp[high-1]=tz at tlast tv
 generalize bot[low-1]=bz at blast bv
 obtain⟨σ',e,l1,c,rfl,x1,x2⟩:=zaba (g:=.one 8) (body:=fun σ s=>exs (cfX fns sub0 (k+1)) [(.app 7 (.tup [(.bin .mul (.sub (.var 5) (.var 8)) (.mx2 (.cst (.int 1)) (.sub (.var 6) (.neg (.cst (.int 1)))))),(.bin .sub (.neg (.cst (.int 1))) (.bin .mod (.sub (.var 0) (.bin .add (.cst (.int 26)) (.var 8))) (.var 4)))]))] σ s) (s:=s)
  (fun m σ=>∃(l:List (Int×Int)) (c:Option B),σ=[some (.val (.lst (row.map .int))),some (.val (.int n)),some (.val (.int low)),some (.val (.int high)),some (.val (.int tall)),some (.val (.lst (bot.map .int))),some (.val (.lst (tp.map .int))),some (.own (l.map pt)),c]∧l.length=m∧∀p∈l,smn2 10000 901 p) (rangeT 0 low) 0 [some (.val (.lst (row.map .int))),some (.val (.int n)),some (.val (.int low)),some (.val (.int high)),some (.val (.int tall)),some (.val (.lst (bot.map .int))),some (.val (.lst (tp.map .int))),some (.own []),none] ⟨[],none,rfl,rfl,by simp⟩ (by
   rintro m t σ hm ⟨l,c,rfl,h2,h3⟩
   obtain⟨rfl,hlt⟩:=zaak hm
   obtain⟨x,_,f1,_⟩:=row_at hr (m:=26+m) (by omega)
   rw[show((26+m:Nat):Int)=26+(m:Int)by omega]at f1
   have hb:m<bot.length:=by omega
   have f2:=ints_at hb
   have hbv:=b2 _ (List.getElem_mem hb)
   have g1:=op_mod (i:=x) ht0
   have g2:=zaam x ht0
   have g3:=op_mul (i:=bot[m]) (j:=if 1<tz then tz else 1) (zaao (by omega))
   have g4:=prod_le (a:=bot[m]) (b:=if 1<tz then tz else 1) hbv (by split<;>omega)
   have hlim:l.length<lim:=Nat.lt_of_lt_of_le (show l.length<1000 by omega) lim_ge
   refine⟨[some (.val (.lst (row.map .int))),some (.val (.int n)),some (.val (.int low)),some (.val (.int high)),some (.val (.int tall)),some (.val (.lst (bot.map .int))),some (.val (.lst (tp.map .int))),some (.own (l.map pt)),some (.val (.int m))],[some (.val (.lst (row.map .int))),some (.val (.int n)),some (.val (.int low)),some (.val (.int high)),some (.val (.int tall)),some (.val (.lst (bot.map .int))),some (.val (.lst (tp.map .int))),some (.own ((l++[(bot[m]*(if 1<tz then tz else 1),-1-Int.fmod x tall)]).map pt)),some (.val (.int m))],by simp[bindTg],by simp[f1,f2,g1,g3,tlast,ownAt,setOwn,hlim,pt],l++[(bot[m]*(if 1<tz then tz else 1),-1-Int.fmod x tall)],some (.val (.int m)),rfl,by simp[h2],?_⟩
   intro v hv
   rcases List.mem_append.mp hv with z|z
   ·exact h3 v z
   ·rw[List.mem_singleton.mp z];exact⟨g4,by show(-1-Int.fmod x tall).natAbs≤901;omega⟩)
 rw[zaaj]at x1
 obtain⟨σ',e',l2,c',rfl,y1,y2⟩:=zaba (g:=.one 8) (body:=fun σ s=>exs (cfX fns sub0 (k+1)) [(.app 7 (.tup [(.bin .mul (.sub (.var 6) (.bin .sub (.bin .sub (.var 3) (.cst (.int 1))) (.var 8))) (.sub (.var 5) (.neg (.cst (.int 1))))),(.bin .add (.cst (.int 1)) (.bin .mod (.sub (.var 0) (.bin .add (.bin .add (.cst (.int 26)) (.var 2)) (.var 8))) (.var 4)))]))] σ s) (s:=s)
  (fun m σ=>∃(l:List (Int×Int)) (c:Option B),σ=[some (.val (.lst (row.map .int))),some (.val (.int n)),some (.val (.int low)),some (.val (.int high)),some (.val (.int tall)),some (.val (.lst (bot.map .int))),some (.val (.lst (tp.map .int))),some (.own (l.map pt)),c]∧l.length=low+m∧∀p∈l,smn2 10000 901 p) (rangeT 0 high) 0 [some (.val (.lst (row.map .int))),some (.val (.int n)),some (.val (.int low)),some (.val (.int high)),some (.val (.int tall)),some (.val (.lst (bot.map .int))),some (.val (.lst (tp.map .int))),some (.own (l1.map pt)),c] ⟨l1,c,rfl,by omega,x2⟩ (by
   rintro m t σ hm ⟨l,c,rfl,h2,h3⟩
   obtain⟨rfl,hlt⟩:=zaak hm
   obtain⟨x,_,f1,_⟩:=row_at hr (m:=26+low+m) (by omega)
   rw[show((26+low+m:Nat):Int)=26+(low:Int)+(m:Int)by omega]at f1
   have hb:high-1-m<tp.length:=by omega
   have f2:=ints_at hb
   rw[show((high-1-m:Nat):Int)=(high:Int)-1-(m:Int)by omega]at f2
   have hbv:=t2 _ (List.getElem_mem hb)
   generalize tp[high-1-m]=tw at f2 hbv
   have g1:=op_mod (i:=x) ht0
   have g2:=zaam x ht0
   have g3:=op_mul (i:=tw) (j:=bz) (zaao (by omega))
   have g4:=prod_le (a:=tw) (b:=bz) hbv bv
   have hlim:l.length<lim:=Nat.lt_of_lt_of_le (show l.length<1000 by omega) lim_ge
   refine⟨[some (.val (.lst (row.map .int))),some (.val (.int n)),some (.val (.int low)),some (.val (.int high)),some (.val (.int tall)),some (.val (.lst (bot.map .int))),some (.val (.lst (tp.map .int))),some (.own (l.map pt)),some (.val (.int m))],[some (.val (.lst (row.map .int))),some (.val (.int n)),some (.val (.int low)),some (.val (.int high)),some (.val (.int tall)),some (.val (.lst (bot.map .int))),some (.val (.lst (tp.map .int))),some (.own ((l++[(tw*bz,1+Int.fmod x tall)]).map pt)),some (.val (.int m))],by simp[bindTg],by simp[f1,f2,g1,g3,blast,ownAt,setOwn,hlim,pt],l++[(tw*bz,1+Int.fmod x tall)],some (.val (.int m)),rfl,by simp[h2];omega,?_⟩
   intro v hv
   rcases List.mem_append.mp hv with z|z
   ·exact h3 v z
   ·rw[List.mem_singleton.mp z];exact⟨g4,by show(1+Int.fmod x tall).natAbs≤901;omega⟩)
 rw[zaaj]at y1
 refine⟨l2,by omega,y2,?_⟩
 rw[zaah (F:=⟨2,9,false,bz27⟩) rfl rfl]
 have ehi:(n:Int)-(low:Int)=(high:Int):=by omega
 have b3':run true fns sub0 whileL (k+1) iz31 [.val (.lst (row.map .int)),.val (.int 2),.val (.int low)] s=.ok (.val (.lst (bot.map .int))) s:=b3
 have hx:exs (cfX fns sub0 (k+1)) bz27 (enter ⟨2,9,false,bz27⟩ [.val (.lst (row.map .int)),.val (.int n)]) s=.ret (LN l2) s:=by
  refine(zaad (σ1:=[some (.val (.lst (row.map .int))),some (.val (.int n)),some (.val (.int 2)),none,none,none,none,none,none]) (s1:=s) (by simp)).trans ?_
  refine(zaad lo3).trans ?_
  refine(zaad (σ1:=[some (.val (.lst (row.map .int))),some (.val (.int n)),some (.val (.int low)),some (.val (.int high)),none,none,none,none,none]) (s1:=s) (by simp[ehi])).trans ?_
  refine(zaad (σ1:=[some (.val (.lst (row.map .int))),some (.val (.int n)),some (.val (.int low)),some (.val (.int high)),some (.val (.int tall)),none,none,none,none]) (s1:=s) (by simp[r1',hm,e2])).trans ?_
  refine(zaad (σ1:=[some (.val (.lst (row.map .int))),some (.val (.int n)),some (.val (.int low)),some (.val (.int high)),some (.val (.int tall)),some (.val (.lst (bot.map .int))),none,none,none]) (s1:=s) (by simp[b3'])).trans ?_
  refine(zaad (σ1:=[some (.val (.lst (row.map .int))),some (.val (.int n)),some (.val (.int low)),some (.val (.int high)),some (.val (.int tall)),some (.val (.lst (bot.map .int))),some (.val (.lst (tp.map .int))),none,none]) (s1:=s) (by simp[t3])).trans ?_
  refine(zaad (σ1:=[some (.val (.lst (row.map .int))),some (.val (.int n)),some (.val (.int low)),some (.val (.int high)),some (.val (.int tall)),some (.val (.lst (bot.map .int))),some (.val (.lst (tp.map .int))),some (.own []),none]) (s1:=s) (by simp[freshE,setOwn])).trans ?_
  refine(zaad ((ex_for (ts:=rangeT 0 low) (s1:=s) (zabo (n:=low) (by simp) (by omega)) (by intro _ h;cases h)).trans e)).trans ?_
  refine(zaad ((ex_for (ts:=rangeT 0 high) (s1:=s) (zabo (n:=high) (by simp) (by omega)) (by intro _ h;cases h)).trans e')).trans ?_
  simp[frz]
 rw[hx]
 rfl
end Pg
end IP
end
section
set_option linter.all false
set_option maxRecDepth 100000
set_option maxHeartbeats 0
namespace IP
namespace Pg
open L2
variable{k:Nat}{s:Sto}{row:List Int}
abbrev iV(i:Int):Option B:=some (.val (.int i))
abbrev lV(l:List (Int×Int)):Option B:=some (.val (.lst (l.map pt)))
structure PcOk(c:List Spt):Prop where
 n3:3≤c.length
 n24:c.length≤24
 fit:∀p∈c,p.fit
def j6(a b c:Int×Int):Spt:=⟨a.1,a.2,b.1,b.2,c.1,c.2⟩
theorem zah4{xs ys:List T}(hx:xs≠[])(hy:ys≠[])(h:xs.length+ys.length≤1000):opR .add (.val (.tup xs)) (.val (.tup ys))=some (.val (.tup (xs++ys))):=by
 show(if xs≠[]∧ys≠[]∧xs.length+ys.length≤lim then some (R.val (.tup (xs++ys)))else none)=_
 rw[if_pos ⟨hx,hy,Nat.le_trans h lim_ge⟩]
theorem add4(a b:Int×Int):opR .add (PT a) (PT b)=some (.val (.tup [.int a.1,.int a.2,.int b.1,.int b.2])):=zah4 (by simp) (by simp) (by simp)
theorem add42(a b c:Int×Int):opR .add (.val (.tup [.int a.1,.int a.2,.int b.1,.int b.2])) (PT c)=some (.val (tS (j6 a b c))):=zah4 (by simp) (by simp) (by simp)
abbrev g41(row:List Int)(a n:Nat)(c:Int)(v4 v5 v6 v7 v8:Option B):Fr:=[some (.val (.lst (iL row))),iV a,iV n,iV c,v4,v5,v6,v7,v8,none]
abbrev oV(l:List (Int×Int)):Option B:=some (.own (l.map pt))
theorem grow_loop{C:Cf}(hr:∀v∈row,zaas v){a n:Nat}(hl:a+26+n≤row.length)(hn:n≤24)(c:Int){l0:List (Int×Int)}(h0:l0.length=n):
  ∃(u d:List (Int×Int)) (c7 c8:Option B),u.length=n∧d.length=n∧(∀p∈u,smn2 3 4 p)∧(∀p∈d,smn2 3 4 p)∧forL (.one 7) (fun σ s=>exs C zagu σ s) (rangeT 0 n) (g41 row a n c (lV l0) (oV []) (oV []) none none) s=.next (g41 row a n c (lV l0) (oV u) (oV d) c7 c8) s:=by
 have m7:=op_mod (i:=c) (j:=7) (by decide)
 have b7:=zaam c (j:=7) (by decide)
 have d7:=zaaw (i:=c) (j:=7) (by decide) (by decide)
 have m77:=op_mod (i:=Int.fdiv c 7) (j:=7) (by decide)
 have b77:=zaam (Int.fdiv c 7) (j:=7) (by decide)
 generalize Int.fmod (Int.fdiv c 7) 7=z77 at m77 b77
 generalize Int.fdiv c 7=f7 at m77 d7
 generalize Int.fmod c 7=z7 at m7 b7
 obtain⟨σ',e,u,d,c7,c8,rfl,x1,x2,x3,x4⟩:=zaba (g:=.one 7) (body:=fun σ s=>exs C zagu σ s) (s:=s)
  (fun m σ=>∃(u d:List (Int×Int)) (c7 c8:Option B),σ=g41 row a n c (lV l0) (oV u) (oV d) c7 c8∧u.length=m∧d.length=m∧(∀p∈u,smn2 3 4 p)∧(∀p∈d,smn2 3 4 p)) (rangeT 0 n) 0 (g41 row a n c (lV l0) (oV []) (oV []) none none) ⟨[],[],none,none,rfl,rfl,rfl,by simp,by simp⟩ (by
   rintro m t σ hm ⟨u,d,c7,c8,rfl,h1,h2,h3,h4⟩
   obtain⟨rfl,hlt⟩:=zaak hm
   obtain⟨x,_,f1,_⟩:=row_at hr (m:=a+26+m) (by omega)
   rw[show((a+26+m:Nat):Int)=(a:Int)+26+(m:Int)by omega]at f1
   have hm0:m<l0.length:=by omega
   have g1:=sub_at (ts:=l0.map pt) (n:=m) (t:=pt l0[m]) (by simp[hm0])
   have q1:=zaaw (i:=x) (j:=1000) (by decide) (by decide)
   have q5:=zaaw (i:=x) (j:=5000) (by decide) (by decide)
   have p1:=op_mod (i:=Int.fdiv x 1000) (j:=5) (by decide)
   have p5:=op_mod (i:=Int.fdiv x 5000) (j:=5) (by decide)
   have r1:=zaam (Int.fdiv x 1000) (j:=5) (by decide)
   have r5:=zaam (Int.fdiv x 5000) (j:=5) (by decide)
   generalize Int.fmod (Int.fdiv x 1000) 5=w1 at *
   generalize Int.fmod (Int.fdiv x 5000) 5=w5 at *
   generalize Int.fdiv x 1000=y1 at *
   generalize Int.fdiv x 5000=y5 at *
   have hlu:u.length<lim:=Nat.lt_of_lt_of_le (show u.length<1000 by omega) lim_ge
   have hld:d.length<lim:=Nat.lt_of_lt_of_le (show d.length<1000 by omega) lim_ge
   obtain⟨w,hw,ew⟩:∃w:Int,(w=1∨w=-1)∧ev C (.sub (.lst [(.cst (.int 1)),(.neg (.cst (.int 1)))]) (.b1 .int (.cmp .lt (.sub (.sub (.var 4) (.var 7)) (.cst (.int 1))) (.cst (.int 0))))) .v (g41 row a n c (lV l0) (oV u) (oV d) (iV m) c8) s=.ok (.val (.int w)) s:=by
    have bi:∀b:Bool,b1R .int (.val (.bl b))=some (.val (.int (if b then 1 else 0))):=fun b=>rfl
    by_cases hy:l0[m].2<0
    ·refine⟨-1,.inr rfl,?_⟩
     simp[g1,hy,bi]
    ·refine⟨1,.inl rfl,?_⟩
     simp[g1,hy,bi]
   have t1:=op_mul (i:=w) (j:=w1) (zaao (by omega))
   have t5:=op_mul (i:=w) (j:=w5) (zaao (by omega))
   refine⟨g41 row a n c (lV l0) (oV u) (oV d) (iV m) c8,g41 row a n c (lV l0) (oV (u++[(z7-3,w*w1)])) (oV (d++[(z77-3,w*w5)])) (iV m) (iV w),by simp[bindTg],?_,_,_,_,_,rfl,by simp[h1],by simp[h2],?_,?_⟩
   ·refine(zaad (σ1:=g41 row a n c (lV l0) (oV u) (oV d) (iV m) (iV w)) (s1:=s) (ex_asg ew)).trans ?_
    refine(zaad (σ1:=g41 row a n c (lV l0) (oV (u++[(z7-3,w*w1)])) (oV d) (iV m) (iV w)) (s1:=s) (by simp[m7,f1,q1,p1,t1,ownAt,setOwn,hlu,pt])).trans ?_
    refine(zaad (σ1:=g41 row a n c (lV l0) (oV (u++[(z7-3,w*w1)])) (oV (d++[(z77-3,w*w5)])) (iV m) (iV w)) (s1:=s) (by simp[d7,m77,f1,q5,p5,t5,ownAt,setOwn,hld,pt])).trans ?_
    simp
   ·intro p hp
    rcases List.mem_append.mp hp with z|z
    ·exact h3 p z
    ·rw[List.mem_singleton.mp z]
     refine⟨by show(z7-3).natAbs≤3;omega,?_⟩
     show(w*w1).natAbs≤4
     rcases hw with rfl|rfl<;>omega
   ·intro p hp
    rcases List.mem_append.mp hp with z|z
    ·exact h4 p z
    ·rw[List.mem_singleton.mp z]
     refine⟨by show(z77-3).natAbs≤3;omega,?_⟩
     show(w*w5).natAbs≤4
     rcases hw with rfl|rfl<;>omega)
 rw[zaaj,show 0+((n:Int)-0).toNat=n by omega]at x1 x2
 exact⟨u,d,c7,c8,x1,x2,x3,x4,e⟩
theorem zip6{C:Cf}{n:Nat}(hn:n≤24){a:Nat}{c:Int}{b u d:List (Int×Int)}(hb:b.length=n)(hu:u.length=n)(hd:d.length=n)(c7 c8:Option B):
  ∃l:List Spt,l.length=n∧(∀p∈l,∃x∈b,∃y∈u,∃z∈d,p=j6 x y z)∧ev C (.comp zae8 (.one 9) (.rng1 (.var 2))) .v (g41 row a n c (lV b) (oV u) (oV d) c7 c8) s=.ok (.val (tSs' l)) s:=by
 obtain⟨xs,h1,h2,h3⟩:=zaca (F:=fun t s=>onO (bindTg (g41 row a n c (lV b) (oV u) (oV d) c7 c8) (.one 9) t) fun σ'=>one (ev C zae8 .v σ' s)) (s:=s) tS (fun p=>∃x∈b,∃y∈u,∃z∈d,p=j6 x y z) (rangeT 0 n) (fun m t hm=>by
  obtain⟨rfl,hlt⟩:=zaak hm
  have hm':m<n:=by omega
  have g1:=sub_at (ts:=b.map pt) (n:=m) (t:=pt (b[m]'(by omega))) (by simp[hb,hm'])
  have g2:=zabu (ts:=u.map pt) (n:=m) (t:=pt (u[m]'(by omega))) (by simp[hu,hm'])
  have g3:=zabu (ts:=d.map pt) (n:=m) (t:=pt (d[m]'(by omega))) (by simp[hd,hm'])
  refine⟨j6 (b[m]'(by omega)) (u[m]'(by omega)) (d[m]'(by omega)),⟨_,List.getElem_mem _,_,List.getElem_mem _,_,List.getElem_mem _,rfl⟩,?_⟩
  generalize b[m]'(by omega)=x at *
  generalize u[m]'(by omega)=y at *
  generalize d[m]'(by omega)=z at *
  have a4:=add4 x y
  have a6:=add42 x y z
  simp[bindTg,g1,g2,g3,a4,a6])
 refine⟨xs,by rw[h1,zaaj];omega,h2,zadr (ts:=rangeT 0 n) (s1:=s) (zaec (n:=n) (by simp) (by omega)) h3⟩
theorem zafa(hr:∀v∈row,zaas v){a n:Nat}(hl:a+50≤row.length)(ha:a≤500)(h3:3≤n)(hn:n≤24)(c:Int):∃l:List Spt,PcOk l∧run true fns sub0 whileL (k+3) iz22 [.val (.lst (iL row)),.val (.int a),.val (.int n),.val (.int c)] s=.ok (.val (tSs' l)) s:=by
 obtain⟨l0,h0,hb0,e0⟩:=r_simple (k:=k) (s:=s) (row:=row.drop a) (fun v hv=>hr v (List.mem_of_mem_drop hv)) (by simp;omega) h3 hn
 have cut:=zahu (ts:=iL row) (m:=a) (by simp;omega)
 rw[List.map_drop]at e0
 obtain⟨u,d,c7,c8,hu,hd,hub,hdb,e1⟩:=grow_loop (C:=cfX fns sub0 (k+2)) (s:=s) hr (a:=a) (n:=n) (by omega) hn c h0
 have d49:=zaaw (i:=c) (j:=49) (by decide) (by decide)
 generalize Int.fdiv c 49=f at d49
 obtain⟨b',hb',bb',eb⟩:=zaf2 (k:=k+1) (s:=s) hb0 (by omega) (by omega) (c:=f) (ra:=LN l0) (.inl rfl)
 obtain⟨u',hu',bu',eu⟩:=zaf2 (k:=k+1) (s:=s) hub (by omega) (by omega) (c:=f) (ra:=.bor (u.map pt)) (.inr rfl)
 obtain⟨d',hd',bd',ed⟩:=zaf2 (k:=k+1) (s:=s) hdb (by omega) (by omega) (c:=f) (ra:=.bor (d.map pt)) (.inr rfl)
 obtain⟨l,hl',hlm,el⟩:=zip6 (C:=cfX fns sub0 (k+2)) (s:=s) (row:=row) (a:=a) (c:=c) hn (hb'.trans h0) (hu'.trans hu) (hd'.trans hd) c7 c8
 refine⟨l,⟨by omega,by omega,fun p hp=>?_⟩,?_⟩
 ·obtain⟨x,hx,y,hy,z,hz,rfl⟩:=hlm p hp
  have q1:=bb' x hx
  have q2:=bu' y hy
  have q3:=bd' z hz
  unfold smn at q1 q2 q3
  simp only[Spt.fit,j6]
  omega
 ·rw[zaah (F:=Fz22) rfl rfl]
  have hx:exs (cfX fns sub0 (k+2)) bz22 (enter Fz22 [.val (.lst (iL row)),.val (.int a),.val (.int n),.val (.int c)]) s=.retO (l.map tS) s:=by
   refine(zaad (σ1:=g41 row a n c (lV l0) none none none none) (s1:=s) (by simp[cut,e0])).trans ?_
   refine(zaad (σ1:=g41 row a n c (lV l0) (oV []) none none none) (s1:=s) (by simp[freshE,setOwn])).trans ?_
   refine(zaad (σ1:=g41 row a n c (lV l0) (oV []) (oV []) none none) (s1:=s) (by simp[freshE,setOwn])).trans ?_
   refine(zaad ((ex_for (ts:=rangeT 0 n) (s1:=s) (zabo (n:=n) (by simp) (by omega)) (by intro _ h;cases h)).trans e1)).trans ?_
   refine(zaad (σ1:=g41 row a n c (lV b') (oV u) (oV d) c7 c8) (s1:=s) (by simp[d49,eb])).trans ?_
   refine(zaad (σ1:=g41 row a n c (lV b') (oV u') (oV d) c7 c8) (s1:=s) (by simp[d49,eu,freshE,setOwn];rfl)).trans ?_
   refine(zaad (σ1:=g41 row a n c (lV b') (oV u') (oV d') c7 c8) (s1:=s) (by simp[d49,ed,freshE,setOwn];rfl)).trans ?_
   simp[freshE,el]
  rw[hx]
  rfl
end Pg
end IP
end
section
set_option linter.all false
set_option maxRecDepth 100000
set_option maxHeartbeats 0
namespace IP
namespace Pg
open L2
variable{k:Nat}{s:Sto}{row:List Int}
theorem zagb(seed:Int){far stp:Int}(hfar:0<far∧far≤20000)(hstp:0<stp∧stp≤200):∃p:Spt,p.fit∧run true fns sub0 whileL (k+1) iz29 [.val (.int seed),.val (.int 1),.val (.int far),.val (.int stp)] s=.ok (.val (.lst [tS p])) s:=by
 obtain⟨l,h1,h2,h3⟩:=r_spots (k:=k) (s:=s) seed 1 (by decide) hfar hstp
 obtain⟨p,rfl⟩:=List.length_eq_one_iff.mp h1
 exact⟨p,h2 p (by simp),h3⟩
@[simp] theorem sub_one (t:T):subR (.val (.lst [t])) 0=some t:=rfl
@[simp] theorem dr_tS (p:Spt) (s:Sto):(R.val (tS p)).dr s=.val (tS p):=rfl
theorem cut_a(p:Spt):cutR (.val (tS p)) none (some 2)=some (.val (.tup [.int p.x,.int p.y])):=rfl
theorem cut_b(p:Spt):cutR (.val (tS p)) (some 2) none=some (.val (.tup [.int p.a,.int p.b,.int p.c,.int p.d])):=rfl
def jn(p q:Spt):Spt:=⟨p.x,p.y,q.a,q.b,q.c,q.d⟩
theorem add_jn(p q:Spt):opR .add (.val (.tup [.int p.x,.int p.y])) (.val (.tup [.int q.a,.int q.b,.int q.c,.int q.d]))=some (.val (tS (jn p q))):=zah4 (by simp) (by simp) (by simp)
theorem fit_jn{p q:Spt}(hp:p.fit)(hq:q.fit):(jn p q).fit:=⟨hp.1,hp.2.1,hq.2.2⟩
theorem PcOk.set{c:List Spt}(h:PcOk c){q:Spt}(hq:q.fit)(i:Nat):PcOk (c.set i q):=by
 refine⟨by simp;exact h.n3,by simp;exact h.n24,fun p hp=>?_⟩
 rcases List.mem_or_eq_of_mem_set hp with z|z
 ·exact h.fit p z
 ·rw[z];exact hq
theorem fm_nat(x:Int){n:Nat}(h:0<n):∃i:Nat,i<n∧Int.fmod x (n:Int)=(i:Int)∧opR .mod (.val (.int x)) (.val (.int (n:Int)))=some (.val (.int (i:Int))):=by
 have e:=op_mod (i:=x) (j:=(n:Int)) (by omega)
 have p:=zaam x (j:=(n:Int)) (by omega)
 obtain⟨i,hi⟩:∃i:Nat,Int.fmod x (n:Int)=(i:Int):=⟨(Int.fmod x (n:Int)).toNat,by omega⟩
 rw[hi]at e p
 exact⟨i,by omega,hi,e⟩
structure Fresh(s s':Sto)(c:List Spt):Prop where
 ok:PcOk c
 len:s'.length=s.length+1
 at_:s'[s.length]?=some (.lst (c.map tS))
 old:∀m,m<s.length→s'[m]?=s[m]?
abbrev g43(l:Nat)(kd cl:Int)(v3 v4:Option B):Fr:=[some (.val (.loc l)),iV kd,iV cl,v3,v4]
theorem zaeu{C:Cf}{l:Nat}{c:List Spt}(hs:s[l]?=some (.lst (c.map tS))){j:Nat}{p q x:Spt}(hj:c[j]?=some p){kd cl:Int}(e:E)(he:ev C e .v (g43 l kd cl (iV j) (some (.val (tS q)))) s=.ok (.val (tS x)) s):
  ex C (.putL (.var 0) (.var 3) e) (g43 l kd cl (iV j) (some (.val (tS q)))) s=.next (g43 l kd cl (iV j) (some (.val (tS q)))) (s.set l (.lst ((c.set j x).map tS))):=by
 have hL:=zaa9 hs
 have hjl:=(List.getElem?_eq_some_iff.mp hj).1
 have hix:L2.ixN c.length (j:Int)=some j:=by simp[L2.ixN,hjl]
 simp[he,hL,hix,List.map_set]
theorem zae9{l:Nat}{c:List Spt}(hs:s[l]?=some (.lst (c.map tS)))(hc:PcOk c)(kd cl:Int):∃s' c',PcOk c'∧s'[l]?=some (.lst (c'.map tS))∧s'.length=s.length∧(∀m,m≠l→s'[m]?=s[m]?)∧run true fns sub0 whileL (k+2) iz28 [.val (.loc l),.val (.int kd),.val (.int cl)] s=.ok (.val (.loc l)) s':=by
 have n3:=hc.n3
 have hll:=(List.getElem?_eq_some_iff.mp hs).1
 have d3:=zaaw (i:=cl) (j:=3) (by decide) (by decide)
 obtain⟨j,hj,_,mj⟩:=fm_nat (Int.fdiv cl 3) (n:=c.length) (by omega)
 generalize Int.fdiv cl 3=f3 at *
 obtain⟨q,hq,eq1⟩:=zagb (k:=k) (s:=s) cl (far:=60) (stp:=12) (by decide) (by decide)
 have hd:=dr_loc hs
 have hcj:c[j]?=some c[j]:=by simp[hj]
 generalize c[j]=p at hcj
 have hp:p.fit:=hc.fit p (List.mem_of_getElem? hcj)
 have gj:=zabu (ts:=c.map tS) (n:=j) (t:=tS p) (by simp[hcj])
 have m4:=op_mod (i:=kd) (j:=4) (by decide)
 have d4:=zaaw (i:=kd) (j:=4) (by decide) (by decide)
 have m42:=op_mod (i:=Int.fdiv kd 4) (j:=2) (by decide)
 generalize Int.fmod (Int.fdiv kd 4) 2=y at *
 generalize Int.fdiv kd 4=f4 at *
 generalize Int.fmod kd 4=z at *
 have head:∀r,exs (cfX fns sub0 (k+1)) ((.asg 3 (.bin .mod (.bin .fdiv (.var 2) (.cst (.int 3))) (.b1 .len (.var 0))))::(.asg 4 (.sub (.call 33 [(.var 2),(.cst (.int 1)),(.cst (.int 60)),(.cst (.int 12))] []) (.cst (.int 0))))::r) (g43 l kd cl none none) s=exs (cfX fns sub0 (k+1)) r (g43 l kd cl (iV j) (some (.val (tS q)))) s:=fun r=>by
  refine(zaad (σ1:=g43 l kd cl (iV j) none) (s1:=s) (by simp[d3,hd,mj])).trans ?_
  exact zaad (σ1:=g43 l kd cl (iV j) (some (.val (tS q)))) (s1:=s) (by simp[eq1])
 have a1:=add_jn p q
 have a2:=add_jn q p
 have sel:∀x:Spt,(s.set l (.lst ((c.set j x).map tS)))[l]?=some (.lst ((c.set j x).map tS)):=fun x=>set_eq hll
 by_cases h1:z=1
 ·refine⟨s.set l (.lst ((c.set j (jn p q)).map tS)),c.set j (jn p q),hc.set (fit_jn hp hq) j,sel _,by simp,fun m hm=>set_ne (Ne.symm hm),?_⟩
  rw[zaah (F:=Fz28) rfl rfl]
  have hx:exs (cfX fns sub0 (k+1)) bz28 (enter Fz28 [.val (.loc l),.val (.int kd),.val (.int cl)]) s=.ret (.val (.loc l)) (s.set l (.lst ((c.set j (jn p q)).map tS))):=by
   refine(head _).trans ?_
   refine(zaad (σ1:=g43 l kd cl (iV j) (some (.val (tS q)))) (s1:=s.set l (.lst ((c.set j (jn p q)).map tS))) ?_).trans ?_
   ·refine(zacm (s1:=s) (by simp[m4,h1])).trans ?_
    refine(zaad (zaeu hs hcj (x:=jn p q) _ ?_)).trans zabz
    simp[hd,gj,cut_a,cut_b,a1]
   ·refine(zaad (σ1:=g43 l kd cl (iV j) (some (.val (tS q)))) (s1:=s.set l (.lst ((c.set j (jn p q)).map tS))) (by simp[m4,h1])).trans ?_
    simp
  rw[hx]
  rfl
 ·by_cases h2:z=2∧y=1
  ·refine⟨s.set l (.lst ((c.set j (jn q p)).map tS)),c.set j (jn q p),hc.set (fit_jn hq hp) j,sel _,by simp,fun m hm=>set_ne (Ne.symm hm),?_⟩
   rw[zaah (F:=Fz28) rfl rfl]
   have hx:exs (cfX fns sub0 (k+1)) bz28 (enter Fz28 [.val (.loc l),.val (.int kd),.val (.int cl)]) s=.ret (.val (.loc l)) (s.set l (.lst ((c.set j (jn q p)).map tS))):=by
    refine(head _).trans ?_
    refine(zaad (σ1:=g43 l kd cl (iV j) (some (.val (tS q)))) (s1:=s) (by simp[m4,h1])).trans ?_
    refine(zaad (σ1:=g43 l kd cl (iV j) (some (.val (tS q)))) (s1:=s.set l (.lst ((c.set j (jn q p)).map tS))) ?_).trans ?_
    ·refine(zacm (s1:=s) (by simp[m4,d4,m42,h2])).trans ?_
     refine(zaad (zaeu hs hcj (x:=jn q p) _ ?_)).trans zabz
     simp[hd,gj,cut_a,cut_b,a2]
    ·simp
   rw[hx]
   rfl
  ·refine⟨s,c,hc,hs,rfl,fun m _=>rfl,?_⟩
   rw[zaah (F:=Fz28) rfl rfl]
   have hx:exs (cfX fns sub0 (k+1)) bz28 (enter Fz28 [.val (.loc l),.val (.int kd),.val (.int cl)]) s=.ret (.val (.loc l)) s:=by
    refine(head _).trans ?_
    refine(zaad (σ1:=g43 l kd cl (iV j) (some (.val (tS q)))) (s1:=s) (by simp[m4,h1])).trans ?_
    refine(zaad (σ1:=g43 l kd cl (iV j) (some (.val (tS q)))) (s1:=s) ?_).trans ?_
    ·by_cases h3:z=2
     ·have h4:y≠1:=fun w=>h2 ⟨h3,w⟩
      simp[m4,d4,m42,h3,h4]
     ·simp[m4,h3]
    ·simp
   rw[hx]
   rfl
theorem zac3{c:List Spt}(h:PcOk c):Fresh s (s++[.lst (c.map tS)]) c:=⟨h,by simp,by simp,fun m hm=>List.getElem?_append_left hm⟩
theorem zacz{s1 s':Sto}{c c':List Spt}(h:Fresh s s1 c)(ok:PcOk c')(ha:s'[s.length]?=some (.lst (c'.map tS)))(hl:s'.length=s1.length)(ho:∀m,m≠s.length→s'[m]?=s1[m]?):Fresh s s' c':=
 ⟨ok,by rw[hl];exact h.len,ha,fun m hm=>by rw[ho m (by omega)];exact h.old m hm⟩
theorem zahx{C:Cf}{a:E}{σ:Fr}{s1:Sto}{ts:List T}(h:ev C a .v σ s=.ok (.val (.lst ts)) s1):ev C (.cell a) .v σ s=.ok (.val (.loc s1.length)) (s1++[.lst ts]):=by simp[h]
theorem ev_grown(hr:∀v∈row,zaas v){a n:Nat}(hl:a+50≤row.length)(ha:a≤500)(h3:3≤n)(hn:n≤24){σ:Fr}{e1 e2 e3 e4:E}{c:Int}
  (h1:ev (cfX fns sub0 (k+3)) e1 .v σ s=.ok (.val (.lst (iL row))) s) (h2:ev (cfX fns sub0 (k+3)) e2 .v σ s=.ok (.val (.int a)) s) (h3':ev (cfX fns sub0 (k+3)) e3 .v σ s=.ok (.val (.int n)) s) (h4:ev (cfX fns sub0 (k+3)) e4 .v σ s=.ok (.val (.int c)) s):
  ∃s' c',Fresh s s' c'∧ev (cfX fns sub0 (k+3)) (.cell (.call 41 [e1,e2,e3,e4] [])) .v σ s=.ok (.val (.loc s.length)) s':=by
 obtain⟨l,hok,e⟩:=zafa (k:=k) (s:=s) hr hl ha h3 hn c
 exact⟨_,l,zac3 hok,zahx (zabs (zaay h1 (zaay h2 (zaay h3' (zaay h4 zacd)))) e)⟩
theorem ev_spoil{σ:Fr}{a e1 e2:E}{s1:Sto}{c:List Spt}(hf:Fresh s s1 c){kd cl:Int}(ha:ev (cfX fns sub0 (k+2)) a .v σ s=.ok (.val (.loc s.length)) s1)(h1:ev (cfX fns sub0 (k+2)) e1 .v σ s1=.ok (.val (.int kd)) s1)(h2:ev (cfX fns sub0 (k+2)) e2 .v σ s1=.ok (.val (.int cl)) s1):
  ∃s' c',Fresh s s' c'∧ev (cfX fns sub0 (k+2)) (.call 43 [a,e1,e2] []) .v σ s=.ok (.val (.loc s.length)) s':=by
 obtain⟨s',c',q1,q2,q3,q4,q5⟩:=zae9 (k:=k) hf.at_ hf.ok kd cl
 exact⟨s',c',zacz hf q1 q2 q3 q4,zabs (zaay ha (zaay h1 (zaay h2 zacd))) q5⟩
abbrev g44(row:List Int)(kd cl:Int)(v3:Option B):Fr:=[some (.val (.lst (iL row))),iV kd,iV cl,v3,none]
theorem r_piece(hr:∀v∈row,zaas v)(hl:50≤row.length)(kd cl:Int):∃s' c',Fresh s s' c'∧run true fns sub0 whileL (k+4) iz25 [.val (.lst (iL row)),.val (.int kd),.val (.int cl)] s=.ok (.val (.loc s.length)) s':=by
 obtain⟨v0,_,r0,_⟩:=row_at hr (m:=0) (by omega)
 have r0':subR (.val (.lst (iL row))) 0=some (.int v0):=r0
 have m7:=op_mod (i:=v0) (j:=7) (by decide)
 have b7:=zaam v0 (j:=7) (by decide)
 have m4:=op_mod (i:=v0) (j:=4) (by decide)
 have b4:=zaam v0 (j:=4) (by decide)
 generalize Int.fmod v0 7=z7 at m7 b7
 generalize Int.fmod v0 4=z4 at m4 b4
 obtain⟨n,hn⟩:∃n:Nat,3+z7=(n:Int):=⟨(3+z7).toNat,by omega⟩
 obtain⟨n4,hn4⟩:∃n:Nat,3+z4=(n:Int):=⟨(3+z4).toNat,by omega⟩
 have k4:=op_mod (i:=kd) (j:=4) (by decide)
 generalize Int.fmod kd 4=y at k4
 have a1:ex (cfX fns sub0 (k+3)) (.asg 3 (.bin .add (.cst (.int 3)) (.bin .mod (.sub (.var 0) (.cst (.int 0))) (.cst (.int 7))))) (g44 row kd cl none) s=.next (g44 row kd cl (iV n)) s:=by simp[r0',m7,hn]
 by_cases hy:y=0
 ·have hcomp:∃l:List Spt,l.length=n4∧(∀p∈l,p.fit)∧ev (cfX fns sub0 (k+3)) (.comp zafo (.one 4) (.rng1 (.var 3))) .v (g44 row kd cl (iV n4)) s=.ok (.val (tSs' l)) s:=by
   obtain⟨xs,h1,h2,h3⟩:=zaca (F:=fun t s=>onO (bindTg (g44 row kd cl (iV n4)) (.one 4) t) fun σ'=>one (ev (cfX fns sub0 (k+3)) zafo .v σ' s)) (s:=s) tS (fun p=>p.fit) (rangeT 0 n4) (fun m t hm=>by
    obtain⟨rfl,hlt⟩:=zaak hm
    obtain⟨x,_,f1,_⟩:=row_at hr (m:=m) (by omega)
    obtain⟨q,hq,e1⟩:=zagb (k:=k+2) (s:=s) x (far:=1) (stp:=1) (by decide) (by decide)
    have d5:=zaaw (i:=x) (j:=5) (by decide) (by decide)
    have p5:=op_mod (i:=x) (j:=5) (by decide)
    have p55:=op_mod (i:=Int.fdiv x 5) (j:=5) (by decide)
    have b5:=zaam x (j:=5) (by decide)
    have b55:=zaam (Int.fdiv x 5) (j:=5) (by decide)
    generalize Int.fmod (Int.fdiv x 5) 5=w2 at *
    generalize Int.fdiv x 5=f5 at *
    generalize Int.fmod x 5=w1 at *
    have a:=add_jn ⟨w1,w2,0,0,0,0⟩ q
    have hf:(jn ⟨w1,w2,0,0,0,0⟩ q).fit:=⟨by show -20000≤w1∧w1≤20000;omega,by show -20000≤w2∧w2≤20000;omega,hq.2.2⟩
    refine⟨_,hf,?_⟩
    generalize jn ⟨w1,w2,0,0,0,0⟩ q=P at *
    simp[bindTg,f1,d5,p5,p55,e1,cut_b,a])
   exact⟨xs,by rw[h1,zaaj];omega,h2,zadr (ts:=rangeT 0 n4) (s1:=s) (zaec (n:=n4) (by simp) (by omega)) h3⟩
  obtain⟨l,hl,hfit,ec⟩:=hcomp
  refine⟨_,l,zac3 ⟨by omega,by omega,hfit⟩,?_⟩
  rw[zaah (F:=Fz25) rfl rfl]
  have hx:exs (cfX fns sub0 (k+3)) bz25 (enter Fz25 [.val (.lst (iL row)),.val (.int kd),.val (.int cl)]) s=.ret (.val (.loc s.length)) (s++[.lst (l.map tS)]):=by
   refine(zaad a1).trans ?_
   refine zabh ((zacm (s1:=s) (by simp[k4,hy])).trans ?_)
   refine(zaad (σ1:=g44 row kd cl (iV n4)) (s1:=s) (by simp[r0',m4,hn4])).trans ?_
   exact zabh (ex_ret (zahx ec))
  rw[hx]
  rfl
 ·obtain⟨s1,c1,f1,e1⟩:=ev_grown (k:=k) (s:=s) (row:=row) hr (a:=0) (n:=n) (by omega) (by omega) (by omega) (by omega) (σ:=g44 row kd cl (iV n)) (e1:=.var 0) (e2:=.cst (.int 0)) (e3:=.var 3) (e4:=.var 2) (c:=cl) (by simp) (by simp) (by simp) (by simp)
  obtain⟨s2,c2,f2,e2⟩:=ev_spoil (k:=k+1) (σ:=g44 row kd cl (iV n)) (e1:=.var 1) (e2:=.var 2) f1 e1 (kd:=kd) (cl:=cl) (by simp) (by simp)
  refine⟨s2,c2,f2,?_⟩
  rw[zaah (F:=Fz25) rfl rfl]
  have hx:exs (cfX fns sub0 (k+3)) bz25 (enter Fz25 [.val (.lst (iL row)),.val (.int kd),.val (.int cl)]) s=.ret (.val (.loc s.length)) s2:=by
   refine(zaad a1).trans ?_
   refine(zaad (σ1:=g44 row kd cl (iV n)) (s1:=s) (by simp[k4,hy])).trans ?_
   exact zabh (ex_ret e2)
  rw[hx]
  rfl
end Pg
end IP
end
section
set_option linter.all false
set_option maxRecDepth 100000
set_option maxHeartbeats 0
namespace IP
namespace Pg
open L2
variable{k:Nat}{s:Sto}
def resOf(r:R)(z:Int)(i:Nat):Option R:=match r with
 | .val (.tup [a,b])=>some (.val (.tup [.int z,.int i,a,b]))
 | _=>none
def scanP(g:Int→Nat→R)(n:Nat)(z:Int):Option R:=firstN (fun i=>resOf (g z i) z i) 0 n
def scan(g:Int→Nat→R)(n:Nat):R:=(firstN (fun m=>scanP g n ((m:Int)-6)) 0 13).getD (.val .non)
def fpR(r:R):Prop:=r=.val .non∨∃a b:Nat,r=.val (.tup [.int a,.int b])
theorem fp_fpR(p:Nat→Nat→Bool)(n:Nat):fpR (fp p n):=by
 have h1:∀i m j,firstN (qj p i) j m=none∨∃a b:Nat,firstN (qj p i) j m=some (.val (.tup [.int a,.int b])):=by
  intro i m
  induction m with
  | zero=>intro j;exact .inl rfl
  | succ m ih=>
   intro j
   unfold firstN
   unfold qj
   cases p i j with
   | true=>exact .inr ⟨i,j,rfl⟩
   | false=>exact ih (j+1)
 have h2:∀m j,firstN (qi p n) j m=none∨∃a b:Nat,firstN (qi p n) j m=some (.val (.tup [.int a,.int b])):=by
  intro m
  induction m with
  | zero=>intro j;exact .inl rfl
  | succ m ih=>
   intro j
   unfold firstN
   have:=h1 j (n-j) j
   rcases this with e|⟨a,b,e⟩
   ·rw[show qi p n j=none from e];exact ih (j+1)
   ·rw[show qi p n j=_ from e];exact .inr ⟨a,b,rfl⟩
 unfold fp
 rcases h2 n 0 with e|⟨a,b,e⟩
 ·rw[e];exact .inl rfl
 ·rw[e];exact .inr ⟨a,b,rfl⟩
theorem zahz{g:Int→Nat→R}(hg:∀z i,fpR (g z i))(n:Nat)(z:Int):scanP g n z=none∨∃(i a b:Nat),scanP g n z=some (.val (.tup [.int z,.int i,.int a,.int b])):=by
 have:∀m j,firstN (fun i=>resOf (g z i) z i) j m=none∨∃(i a b:Nat),firstN (fun i=>resOf (g z i) z i) j m=some (.val (.tup [.int z,.int i,.int a,.int b])):=by
  intro m
  induction m with
  | zero=>intro j;exact .inl rfl
  | succ m ih=>
   intro j
   unfold firstN
   rcases hg z j with e|⟨a,b,e⟩
   ·rw[e];exact ih (j+1)
   ·rw[e];exact .inr ⟨j,a,b,rfl⟩
 exact this n 0
theorem scan_form{g:Int→Nat→R}(hg:∀z i,fpR (g z i))(n:Nat):scan g n=.val .non∨∃(z:Int) (i a b:Nat),scan g n=.val (tI [z,i,a,b]):=by
 have:∀m j,firstN (fun m=>scanP g n ((m:Int)-6)) j m=none∨∃(z:Int) (i a b:Nat),firstN (fun m=>scanP g n ((m:Int)-6)) j m=some (.val (tI [z,i,a,b])):=by
  intro m
  induction m with
  | zero=>intro j;exact .inl rfl
  | succ m ih=>
   intro j
   unfold firstN
   rcases zahz hg n ((j:Int)-6)with e|⟨i,a,b,e⟩
   ·rw[e];exact ih (j+1)
   ·rw[e];exact .inr ⟨_,i,a,b,rfl⟩
 unfold scan
 rcases this 13 0 with e|⟨z,i,a,b,e⟩
 ·rw[e];exact .inl rfl
 ·rw[e];exact .inr ⟨z,i,a,b,rfl⟩
abbrev scB0(e:E):List S:=[(.asg 3 e),(.ifs (.cmp .notN (.var 3) (.cst .non)) [(.ret (.tup [(.var 1),(.var 2),(.sub (.var 3) (.cst (.int 0))),(.sub (.var 3) (.cst (.int 1)))]))] [])]
abbrev scB1(x e:E):List S:=[(.for_ (.one 2) (.rng1 x) (scB0 e))]
theorem zag4{C:Cf}{x e:E}{g:Int→Nat→R}{n:Nat}(hg:∀z i,fpR (g z i))(v0:Option B)(τ:Fr){z:Int}(he:∀(i:Nat) (v3:Option B),i<n→ev C e .v (v0::iV z::iV i::v3::τ) s=.ok (g z i) s)(v2 v3:Option B):
  match scanP g n z with
  | some r=>forL (.one 2) (fun σ s=>exs C (scB0 e) σ s) (rangeT 0 n) (v0::iV z::v2::v3::τ) s=.ret r s
  | none=>∃w2 w3,forL (.one 2) (fun σ s=>exs C (scB0 e) σ s) (rangeT 0 n) (v0::iV z::v2::v3::τ) s=.next (v0::iV z::w2::w3::τ) s:=by
 have h:=zabj (g:=.one 2) (body:=fun σ s=>exs C (scB0 e) σ s) (s:=s) (fun _ σ=>∃v2 v3,σ=v0::iV z::v2::v3::τ) (fun i=>resOf (g z i) z i) (rangeT 0 n) 0 (v0::iV z::v2::v3::τ) ⟨v2,v3,rfl⟩ ?_
 ·rw[zaaj,show((n:Int)-0).toNat=n by omega]at h
  unfold scanP
  cases hq:firstN (fun i=>resOf (g z i) z i) 0 n with
  | some r=>rw[hq]at h;exact h
  | none=>
   rw[hq]at h
   obtain⟨σ',e',w2,w3,rfl⟩:=h
   exact⟨w2,w3,e'⟩
 ·rintro m t σ hm ⟨v2,v3,rfl⟩
  obtain⟨rfl,hlt⟩:=zaak hm
  have hh:=he m v3 (by omega)
  refine⟨v0::iV z::iV m::v3::τ,by simp[bindTg],?_⟩
  rw[show 0+m=m by omega]
  rcases hg z m with q|⟨a,b,q⟩
  ·rw[q]at hh ⊢
   show ∃σ2,_
   refine⟨v0::iV z::iV m::some (.val .non)::τ,?_,_,_,rfl⟩
   refine(zaad (ex_asg hh)).trans ?_
   simp[R.isNon]
  ·rw[q]at hh ⊢
   show _=SR.ret _ s
   refine(zaad (ex_asg hh)).trans ?_
   simp[R.isNon]
theorem zagz{C:Cf}{x e ea eb:E}{g:Int→Nat→R}{n:Nat}(hn:n≤1000)(hg:∀z i,fpR (g z i))(v0:Option B)(τ:Fr)(hx:∀v1 v2 v3,ev C x .v (v0::v1::v2::v3::τ) s=.ok (.val (.int n)) s)
  (ha:ev C ea .v (v0::none::none::none::τ) s=.ok (.val (.int (-6))) s) (hb:ev C eb .v (v0::none::none::none::τ) s=.ok (.val (.int 7)) s)
  (he:∀(z:Int) (i:Nat) (v3:Option B),(-6≤z∧z≤6)→i<n→ev C e .v (v0::iV z::iV i::v3::τ) s=.ok (g z i) s):
  exs C [(.for_ (.one 1) (.rng2 ea eb) (scB1 x e)),(.ret (.cst .non))] (v0::none::none::none::τ) s=.ret (scan g n) s:=by
 have h:=zabj (g:=.one 1) (body:=fun σ s=>exs C (scB1 x e) σ s) (s:=s) (fun _ σ=>∃v1 v2 v3,σ=v0::v1::v2::v3::τ) (fun m=>scanP g n ((m:Int)-6)) (rangeT (-6) 7) 0 (v0::none::none::none::τ) ⟨none,none,none,rfl⟩ ?_
 ·rw[zaaj,show((7:Int) - -6).toNat=13 by omega]at h
  have e1:ex C (.for_ (.one 1) (.rng2 ea eb) (scB1 x e)) (v0::none::none::none::τ) s=_:=ex_for (ts:=rangeT (-6) 7) (s1:=s) ((zahd ha hb).trans (ite_t (by decide))) (by intro i h;cases h)
  unfold scan
  cases hq:firstN (fun m=>scanP g n ((m:Int)-6)) 0 13 with
  | some r=>
   rw[hq]at h
   exact zabh (e1.trans h)
  | none=>
   rw[hq]at h
   obtain⟨σ',e,v1,v2,v3,rfl⟩:=h
   refine(zaad (e1.trans e)).trans ?_
   simp
 ·rintro m t σ hm ⟨v1,v2,v3,rfl⟩
  obtain⟨rfl,hlt⟩:=zaak hm
  have hin:=zag4 (C:=C) (x:=x) (e:=e) (n:=n) hg v0 τ (z:=(m:Int)-6) (fun i v3 hi=>he _ i v3 (by omega) hi) v2 v3
  refine⟨v0::iV ((m:Int)-6)::v2::v3::τ,by simp[bindTg];omega,?_⟩
  rw[show 0+m=m by omega]
  have e1:ex C (.for_ (.one 2) (.rng1 x) (scB0 e)) (v0::iV ((m:Int)-6)::v2::v3::τ) s=_:=ex_for (ts:=rangeT 0 n) (s1:=s) (zabo (hx _ _ _) hn) (by intro i h;cases h)
  cases hq:scanP g n ((m:Int)-6)with
  | some r=>
   rw[hq]at hin
   exact zabh (e1.trans hin)
  | none=>
   rw[hq]at hin
   obtain⟨w2,w3,e'⟩:=hin
   exact⟨v0::iV ((m:Int)-6)::w2::w3::τ,(zaad (e1.trans e')).trans zabz,iV ((m:Int)-6),w2,w3,rfl⟩
theorem scan_zero(g:Int→Nat→R):scan g 0=.val .non:=by
 have:∀m j,firstN (fun m=>scanP g 0 ((m:Int)-6)) j m=none:=by
  intro m
  induction m with
  | zero=>intro j;rfl
  | succ m ih=>intro j;unfold firstN;exact ih (j+1)
 unfold scan
 rw[this]
 rfl
end Pg
end IP
end
section
set_option linter.all false
set_option maxRecDepth 100000
set_option maxHeartbeats 0
namespace IP
namespace Pg
open L2
variable{k:Nat}{s:Sto}
theorem cf_of{m n f:Nat}{rs:List R}{s:Sto}{r:Res R}(h:run true fns sub0 whileL n f rs s=r)(e:n=m):(cfX fns sub0 m).cf f rs s=r:=by
 subst e
 exact h
def plP(p:Spt)(z:Int):Int×Int:=(pX p z,pY p z)
theorem tI_plc(p:Spt)(z:Int):tI (plc p z)=pt (plP p z):=by rw[plc_xy];rfl
def lnZ(c:List Spt)(z:Int):List (Int×Int):=c.map fun p=>plP p z
theorem tIs_lnZ(c:List Spt)(z:Int):tIs (atSz c z)=.lst ((lnZ c z).map pt):=by
 unfold tIs lnZ atSz
 rw[List.map_map,List.map_map]
 congr 1
 exact List.map_congr_left fun p _=>tI_plc p z
theorem lnZ_sml{c:List Spt}(h:PcOk c){z:Int}(hz:-6≤z∧z≤6):∀p∈lnZ c z,sml p:=fun p hp=>by
 obtain⟨q,hq,rfl⟩:=List.mem_map.mp hp
 have h1:=pX_in (h.fit q hq) hz
 have h2:=pY_in (h.fit q hq) hz
 exact⟨by show(pX q z).natAbs≤2^20;omega,by show(pY q z).natAbs≤2^20;omega⟩
theorem lnZ_len(c:List Spt)(z:Int):(lnZ c z).length=c.length:=by simp[lnZ]
theorem zah1{c:List Spt}(h:PcOk c)(z:Int):(lnZ c z).length≤1000:=by
 have:=h.n24
 have:=lnZ_len c z
 omega
def gC(cs:List (List Spt))(z:Int)(i:Nat):R:=fp (sidesB (lnZ (cs.getD i []) z)) (lnZ (cs.getD i []) z).length
theorem gC_fp(cs:List (List Spt))(z:Int)(i:Nat):fpR (gC cs z i):=fp_fpR _ _
theorem gC_at{cs:List (List Spt)}{i:Nat}{c:List Spt}(h:cs[i]?=some c)(z:Int):gC cs z i=fp (sidesB (lnZ c z)) (lnZ c z).length:=by
 unfold gC
 rw[List.getD_eq_getElem?_getD,h]
 rfl
theorem r_pcount{A:Ad}{B:Bk}(h:BAt s A B):run true fns sub0 whileL (k+1) iz10 [slf A] s=.ok (.val (.int B.pc.length)) s:=by
 rw[zaah (F:=Fz10) rfl rfl]
 simp[bz10,h.f1,h.d1,h.len]
theorem zabf{A:Ad}{B:Bk}(h:BAt s A B)(ok:∀c∈B.pc,PcOk c)(hn:B.pc.length≤10):run true fns sub0 whileL (k+6) iz42 [slf A] s=.ok (scan (gC B.pc) B.pc.length) s:=by
 rw[zaah (F:=Fz42) rfl rfl]
 have e:=zagz (C:=cfX fns sub0 (k+5)) (s:=s) (x:=.meth (.var 0) 0 8 [] []) (e:=.call 18 [(.meth (.var 0) 0 11 [(.var 2),(.var 1)] [])] []) (ea:=.glb "LEAST" (-6)) (eb:=.bin .add (.glb "MOST" 6) (.cst (.int 1))) (g:=gC B.pc) (n:=B.pc.length) (by omega) (gC_fp _) (some (.val (.loc A.o))) []
  (fun v1 v2 v3=>ev_meth (x:=slf A) (s1:=s) (by simp) h.li zacd (cf_of (r_pcount (k:=k+4) h) rfl)) (by simp) (by simp) (fun z i v3 hz hi=>by
   have hc:B.pc[i]?=some B.pc[i]:=by simp[hi]
   generalize B.pc[i]=c at hc
   have hok:=ok c (List.mem_of_getElem? hc)
   have e1:=r_corners (k:=k+1) h hc (t:=.int z) (z:=z) rfl hz
   rw[tIs_lnZ]at e1
   have hlen:=zah1 hok z
   rw[gC_at hc]
   have e2:=zahs (k:=k) (s:=s) (l:=lnZ c z) (lnZ_sml hok hz) hlen
   exact zabs (zaay (ev_meth (x:=slf A) (s1:=s) (rs:=[.val (.int i),.val (.int z)]) (s2:=s) (by simp) h.li (by simp) (cf_of e1 rfl)) zacd) (cf_of e2 rfl))
 exact congrArg (leave true false) e
structure Mad(s:Sto)(ms:List (Nat×List Spt)):Prop where
 cell:∀p∈ms,s[p.1]?=some (.lst (p.2.map tS))
 ok:∀p∈ms,PcOk p.2
 nd:(ms.map (·.1)).Nodup
abbrev mL(ms:List (Nat×List Spt)):List T:=ms.map fun p=>.loc p.1
theorem r_due{ms:List (Nat×List Spt)}(h:Mad s ms)(hn:ms.length≤10):run true fns sub0 whileL (k+5) iz19 [.bor (mL ms)] s=.ok (scan (gC (ms.map (·.2))) ms.length) s:=by
 rw[zaah (F:=Fz19) rfl rfl]
 have e:=zagz (C:=cfX fns sub0 (k+4)) (s:=s) (x:=.b1 .len (.var 0)) (e:=.call 40 [(.compC zae6 (.one 4) (.sub (.var 0) (.var 2)))] []) (ea:=.neg (.cst (.int 6))) (eb:=.cst (.int 7)) (g:=gC (ms.map (·.2))) (n:=ms.length) (by omega) (gC_fp _) (some (.bor (mL ms))) [none]
  (fun v1 v2 v3=>by simp) (by simp) (by simp) (fun z i v3 hz hi=>by
   have hp:ms[i]?=some ms[i]:=by simp[hi]
   generalize ms[i]=p at hp
   have hm:=List.mem_of_getElem? hp
   have hok:=h.ok p hm
   have hg:=zabu (ts:=mL ms) (n:=i) (t:=.loc p.1) (by simp[hp])
   have e1:ev (cfX fns sub0 (k+4)) (.compC zae6 (.one 4) (.sub (.var 0) (.var 2))) .v (some (.bor (mL ms))::iV z::iV i::v3::[none]) s=.ok (.val (.lst (p.2.map fun q=>tI (plc q z)))) s:=
    zah0 (l:=p.1) p.2 tS (fun q=>tI (plc q z)) (by simp[hg]) (h.cell p hm) (fun q hq=>by have:=zafp (k:=k+3) (s:=s) q hz;simp[this])
   have e0:T.lst (p.2.map fun q=>tI (plc q z))=.lst ((lnZ p.2 z).map pt):=by rw[←tIs_lnZ];simp[tIs,atSz]
   rw[e0]at e1
   have hlen:=zah1 hok z
   rw[gC_at (c:=p.2) (by simp[hp])]
   exact zabs (zaay e1 zacd) (cf_of (r_first (k:=k) (s:=s) (l:=lnZ p.2 z) (lnZ_sml hok hz) hlen) rfl))
 exact congrArg (leave true false) e
theorem r_told{A:Ad}{g:Int→Nat→R}{n:Nat}(hg:∀z i,fpR (g z i))(e:run true fns sub0 whileL (k+6) iz42 [slf A] s=.ok (scan g n) s):run true fns sub0 whileL (k+7) iz33 [slf A,scan g n] s=.ok (.val (.bl true)) s:=by
 rw[zaah (F:=Fz33) rfl rfl]
 rcases scan_form hg n with q|⟨z,i,a,b,q⟩
 ·rw[q]at e ⊢
  simp[bz33,e,R.isNon]
 ·rw[q]at e ⊢
  have w:=r_numbers (k:=k+4) (s:=s) [z,i,a,b] (by simp)
  have hn:(R.val (tI [z,(i:Int),a,b])).isNon=false:=rfl
  generalize tI [z,(i:Int),a,b]=t at *
  have hx:exs (cfX fns sub0 (k+6)) bz33 (enter Fz33 [slf A,.val t]) s=.ret (.val (.bl true)) s:=by
   refine(zaad (σ1:=[some (.val (.loc A.o)),some (.val t),some (.val t)]) (s1:=s) (by simp[e])).trans ?_
   refine(zaad (σ1:=[some (.val (.loc A.o)),some (.val t),some (.val t)]) (s1:=s) ?_).trans ?_
   ·simp[hn]
   ·simp[w]
  rw[hx]
  rfl
end Pg
end IP
end
section
set_option linter.all false
set_option maxRecDepth 100000
set_option maxHeartbeats 0
namespace IP
namespace Pg
open L2
variable{s:Sto}{row ns:List Int}
theorem Mad.lt{ms:List (Nat×List Spt)}(h:Mad s ms){p:Nat×List Spt}(hp:p∈ms):p.1<s.length:=(List.getElem?_eq_some_iff.mp (h.cell p hp)).1
theorem Mad.nil:Mad s []:=⟨by simp,by simp,by simp⟩
theorem Mad.app{s':Sto}{ms:List (Nat×List Spt)}(h:Mad s ms){c:List Spt}(hf:Fresh s s' c):Mad s' (ms++[(s.length,c)]):=by
 refine⟨fun p hp=>?_,fun p hp=>?_,?_⟩
 ·rcases List.mem_append.mp hp with z|z
  ·rw[hf.old _ (h.lt z)];exact h.cell p z
  ·rw[List.mem_singleton.mp z];exact hf.at_
 ·rcases List.mem_append.mp hp with z|z
  ·exact h.ok p z
  ·rw[List.mem_singleton.mp z];exact hf.ok
 ·rw[List.map_append,List.nodup_append]
  refine⟨h.nd,by simp,fun a ha b hb=>?_⟩
  obtain⟨p,hp,rfl⟩:=List.mem_map.mp ha
  have:=h.lt hp
  simp at hb
  omega
theorem Mad.keep{s':Sto}{ms:List (Nat×List Spt)}{fp:List Nat}(h:Mad s ms)(hk:Keep fp s s')(hd:∀p∈ms,p.1∉fp):Mad s' ms:=⟨fun p hp=>by rw[hk.2 _ (h.lt hp) (hd p hp)];exact h.cell p hp,h.ok,h.nd⟩
theorem Mad.put{ms:List (Nat×List Spt)}(h:Mad s ms){i:Nat}{p:Nat×List Spt}(hi:ms[i]?=some p){c:List Spt}(hc:PcOk c):Mad (s.set p.1 (.lst (c.map tS))) (ms.set i (p.1,c)):=by
 have hil:=(List.getElem?_eq_some_iff.mp hi).1
 have hnd:=h.nd
 have e:(ms.set i (p.1,c)).map (·.1)=ms.map (·.1):=by
  rw[List.map_set]
  apply List.ext_getElem?
  intro j
  by_cases hj:i=j
  ·subst hj
   rw[List.getElem?_set_self (by simp;exact hil)]
   simp[hi]
  ·rw[List.getElem?_set_ne hj]
 refine⟨fun q hq=>?_,fun q hq=>?_,by rw[e];exact hnd⟩
 ·obtain⟨j,hj⟩:=List.getElem?_of_mem hq
  by_cases hij:i=j
  ·subst hij
   rw[List.getElem?_set_self hil]at hj
   cases hj
   exact set_eq (h.lt (List.mem_of_getElem? hi))
  ·rw[List.getElem?_set_ne hij]at hj
   have hne:p.1≠q.1:=fun z=>by
    have a1:(ms.map (·.1))[i]?=some p.1:=by simp[hi]
    have a2:(ms.map (·.1))[j]?=some q.1:=by simp[hj]
    obtain⟨b1,b2⟩:=List.getElem?_eq_some_iff.mp a1
    obtain⟨c1,c2⟩:=List.getElem?_eq_some_iff.mp a2
    exact hij ((List.getElem_inj hnd).mp (b2.trans (z.trans c2.symm)))
   rw[set_ne hne]
   exact h.cell q (List.mem_of_getElem? hj)
 ·rcases List.mem_or_eq_of_mem_set hq with z|z
  ·exact h.ok q z
  ·rw[z];exact hc
theorem Mad.sel{ms ns:List (Nat×List Spt)}(h:Mad s (ms++ns))(n:Nat):Mad s (ns++ms.take n):=by
 refine⟨fun p hp=>h.cell p ?_,fun p hp=>h.ok p ?_,?_⟩
 ·rcases List.mem_append.mp hp with z|z
  ·exact List.mem_append_right _ z
  ·exact List.mem_append_left _ (List.mem_of_mem_take z)
 ·rcases List.mem_append.mp hp with z|z
  ·exact List.mem_append_right _ z
  ·exact List.mem_append_left _ (List.mem_of_mem_take z)
 ·have nd:=h.nd
  rw[List.map_append,List.nodup_append]at nd ⊢
  refine⟨nd.2.1,?_,fun a ha b hb=>?_⟩
  ·rw[List.map_take]
   exact nd.1.sublist (List.take_sublist _ _)
  ·rw[List.map_take]at hb
   exact fun e=>nd.2.2 b (List.mem_of_mem_take hb) a ha e.symm
theorem Mad.set0{s':Sto}{ms:List (Nat×List Spt)}(h:Mad s ms){c:List Spt}(hf:Fresh s s' c):Mad s' (ms.set 0 (s.length,c)):=by
 cases ms with
 | nil=>exact Mad.nil
 | cons m ms=>
  have h':=h.app hf
  refine⟨fun p hp=>h'.cell p ?_,fun p hp=>h'.ok p ?_,?_⟩
  ·rcases List.mem_cons.mp hp with z|z
   ·rw[z];simp
   ·simp[z]
  ·rcases List.mem_cons.mp hp with z|z
   ·rw[z];simp
   ·simp[z]
  ·have nd:=h'.nd
   simp only[List.cons_append,List.map_cons,List.map_append,List.map_nil,List.nodup_cons,List.nodup_append]at nd
   simp only[List.set_cons_zero,List.map_cons,List.nodup_cons]
   exact⟨fun q=>nd.2.2.2 _ q _ (by simp) rfl,nd.2.1⟩
structure Has(C:Cf)(ns:List Int):Prop where
 stir:∃row:List Int,row.length=62∧(∀v∈row,zaas v)∧C.cf 30 [.val (.lst (iL ns)),.val (.int 62)] []=.ok (.val (.lst (iL row))) []
 piece:∀(s:Sto) (row:List Int) (kd cl:Int),(∀v∈row,zaas v)→50≤row.length→∃s' c',Fresh s s' c'∧C.cf 44 [.val (.lst (iL row)),.val (.int kd),.val (.int cl)] s=.ok (.val (.loc s.length)) s'
 grow:∀(s:Sto) (row:List Int) (a n:Nat) (c:Int),(∀v∈row,zaas v)→a+50≤row.length→a≤500→3≤n→n≤24→∃l:List Spt,PcOk l∧C.cf 41 [.val (.lst (iL row)),.val (.int a),.val (.int n),.val (.int c)] s=.ok (.val (tSs' l)) s
 spoil:∀(s:Sto) (l:Nat) (c:List Spt) (kd cl:Int),s[l]?=some (.lst (c.map tS))→PcOk c→∃s' c',PcOk c'∧s'[l]?=some (.lst (c'.map tS))∧s'.length=s.length∧(∀m,m≠l→s'[m]?=s[m]?)∧C.cf 43 [.val (.loc l),.val (.int kd),.val (.int cl)] s=.ok (.val (.loc l)) s'
 spot:∀(s:Sto) (seed stp:Int),0<stp∧stp≤200→∃p:Spt,p.fit∧C.cf 33 [.val (.int seed),.val (.int 1),.val (.int 9),.val (.int stp)] s=.ok (.val (.lst [tS p])) s
 new:∀(σ:Fr) (s:Sto),∃(s':Sto) (A:Ad),ev C (.new 0 iz3 4 [] []) .v σ s=.ok (slf A) s'∧BAt s' A ⟨0,[],[],[]⟩∧Keep [] s s'∧A.ls=[]∧∀l∈A.fp,s.length≤l
 add:∀(s:Sto) (A:Ad) (B:Bk) (c:List Spt),BAt s A B→B.pc.length<10→PcOk c→B.mrk.length≤10→
  ∃s',C.cf 4 [slf A,.val (tSs' c),.val .non] s=.ok (.val (.int B.pc.length)) s'∧BAt s' ⟨A.o,A.a,A.b,A.c,A.ls++[s.length]⟩ ⟨B.size,B.pc++[c],B.mrk++[c.map fun _=>[]],B.sm⟩∧Keep A.fp s s'∧s'.length=s.length+1
 cross:∀(s:Sto) (A:Ad) (B:Bk),BAt s A B→(∀c∈B.pc,PcOk c)→B.pc.length≤10→C.cf 27 [slf A] s=.ok (scan (gC B.pc) B.pc.length) s∧C.cf 46 [slf A,scan (gC B.pc) B.pc.length] s=.ok (.val (.bl true)) s
 due:∀(s:Sto) (ms:List (Nat×List Spt)),Mad s ms→ms.length≤10→C.cf 45 [.bor (mL ms)] s=.ok (scan (gC (ms.map (·.2))) ms.length) s
 letOut:∀(s:Sto) (A:Ad) (B:Bk) (st:Int),BAt s A B→0≤st→(-6≤B.size+st∧B.size+st≤6)→∃s',C.cf 6 [slf A,.val (.int st)] s=.ok (.val (.int (B.size+st))) s'∧BAt s' A ⟨B.size+st,B.pc,B.mrk,B.sm⟩∧Keep A.fp s s'∧s'.length=s.length
 moves:∀(s:Sto) (A:Ad) (B:Bk) (i j:Nat) (cs:List Spt) (p q:Spt),BAt s A B→B.pc[i]?=some cs→cs[j]?=some p→q.fit→∃s',C.cf 5 [slf A,.val (.int i),.val (.int j),.val (.tup [.int q.a,.int q.b]),.val (.tup [.int q.c,.int q.d])] s=.ok (.val .non) s'∧BAt s' A ⟨B.size,B.pc.set i (cs.set j (jn p q)),B.mrk,B.sm⟩∧Keep A.fp s s'∧s'.length=s.length
theorem has(k:Nat)(ns:List Int):Has (cfX fns sub0 (k+8)) ns where
 stir:=by
  obtain⟨row,h1,h2,h3⟩:=r_stir (k:=k+6) (s:=[]) ns 62 (by decide)
  exact⟨row,h1,h2,cf_of h3 rfl⟩
 piece:=fun s row kd cl hr hl=>by
  obtain⟨s',c',h1,h2⟩:=r_piece (k:=k+4) (s:=s) hr hl kd cl
  exact⟨s',c',h1,cf_of h2 rfl⟩
 grow:=fun s row a n c hr h1 h2 h3 h4=>by
  obtain⟨l,h,e⟩:=zafa (k:=k+5) (s:=s) hr h1 h2 h3 h4 c
  exact⟨l,h,cf_of e rfl⟩
 spoil:=fun s l c kd cl h1 h2=>by
  obtain⟨s',c',q1,q2,q3,q4,q5⟩:=zae9 (k:=k+6) h1 h2 kd cl
  exact⟨s',c',q1,q2,q3,q4,cf_of q5 rfl⟩
 spot:=fun s seed stp h=>by
  obtain⟨p,h1,h2⟩:=zagb (k:=k+7) (s:=s) seed (far:=9) (by decide) h
  exact⟨p,h1,cf_of h2 rfl⟩
 new:=fun σ s=>ev_new (k:=k+7) s
 add:=fun s A B c h h0 h1 h2=>by
  obtain⟨s',e,q⟩:=zaft (k:=k+4) h c (c.map fun _=>[]) (t:=.non) (.inr ⟨rfl,rfl⟩) h0 h1.n3 h1.n24 (by simp) (fun l hl=>by obtain⟨_,_,rfl⟩:=List.mem_map.mp hl;simp) h1.fit (fun l hl=>by obtain⟨_,_,rfl⟩:=List.mem_map.mp hl;simp) h2
  exact⟨s',cf_of e rfl,q⟩
 cross:=fun s A B h ok hn=>⟨cf_of (zabf (k:=k+2) h ok hn) rfl,cf_of (r_told (k:=k+1) (gC_fp _) (zabf (k:=k+1) h ok hn)) rfl⟩
 due:=fun s ms h hn=>cf_of (r_due (k:=k+3) h hn) rfl
 letOut:=fun s A B st h h0 hz=>by
  obtain⟨s',e,q⟩:=r_change (k:=k+5) h h0 hz
  exact⟨s',cf_of ((r_let_out (k:=k+5) h).trans e) rfl,q⟩
 moves:=fun s A B i j cs p q h h1 h2 hq=>by
  obtain⟨_,_,f1,f2,f3,f4⟩:=hq
  obtain⟨s',e,r⟩:=zaha (k:=k+6) h h1 h2 (a:=q.a) (b:=q.b) (c:=q.c) (d:=q.d) (by simp only[wAll,List.all_cons,List.all_nil,wthn_iff,Bool.and_true,Bool.and_eq_true,decide_eq_true_eq];omega)
  exact⟨s',cf_of e rfl,r⟩
abbrev g47(ns row:List Int)(v2 v3 v4 v5 v6 v7 v8:Option B):Fr:=[some (.val (.lst (iL ns))),some (.val (.lst (iL row))),v2,v3,v4,v5,v6,v7,v8,none]
abbrev mV(ms:List (Nat×List Spt)):Option B:=some (.own (mL ms))
theorem menu3{m:Nat}(h:m<3):∃v:Int,(0<v∧v<2^64)∧subR (.val (.lst [.int 1,.int 8,.int 64])) (m:Int)=some (.int v):=by
 match m,h with
 | 0,_=>exact⟨1,by decide,rfl⟩
 | 1,_=>exact⟨8,by decide,rfl⟩
 | 2,_=>exact⟨64,by decide,rfl⟩
theorem build{C:Cf}(hC:Has C ns)(hr:∀v∈row,zaas v)(hl:row.length=62){n:Nat}(hn:n≤3)(s:Sto):
  ∃s' ms c3,Mad s' ms∧ms.length=n∧forL (.one 3) (fun σ s=>exs C zaeg σ s) (rangeT 0 n) (g47 ns row (mV []) none none none none none none) s=.next (g47 ns row (mV ms) c3 none none none none none) s':=by
 obtain⟨σ',s',e,ms,c3,rfl,h1,h2⟩:=zade (g:=.one 3) (body:=fun σ s=>exs C zaeg σ s)
  (fun m σ s=>∃ms c3,σ=g47 ns row (mV ms) c3 none none none none none∧Mad s ms∧ms.length=m) (rangeT 0 n) 0 (g47 ns row (mV []) none none none none none none) s ⟨[],none,rfl,Mad.nil,rfl⟩ (by
   rintro m t σ s hm ⟨ms,c3,rfl,h1,h2⟩
   obtain⟨rfl,hlt⟩:=zaak hm
   have hm3:m<3:=by omega
   obtain⟨v58,_,r58,_⟩:=row_at hr (m:=58) (by omega)
   obtain⟨v59,_,r59,_⟩:=row_at hr (m:=59) (by omega)
   have r58:subR (.val (.lst (iL row))) 58=some (.int v58):=r58
   have r59:subR (.val (.lst (iL row))) 59=some (.int v59):=r59
   obtain⟨v,hv,gv⟩:=menu3 hm3
   have m4:=op_mul (i:=4) (j:=(m:Int)) (zaao (by decide))
   have cut:=zahu (ts:=iL row) (m:=4*m) (by simp;omega)
   rw[show((4*m:Nat):Int)=4*(m:Int)by omega,←List.map_drop]at cut
   have f1:=zaaw (i:=v58) (j:=v) hv.1 hv.2
   have f2:=zaaw (i:=v59) (j:=(m:Int)+1) (by omega) (by omega)
   obtain⟨s',c',hf,e⟩:=hC.piece s (row.drop (4*m)) (Int.fdiv v58 v) (Int.fdiv v59 ((m:Int)+1)) (fun x hx=>hr x (List.mem_of_mem_drop hx)) (by simp;omega)
   refine⟨g47 ns row (mV ms) (iV m) none none none none none,g47 ns row (mV (ms++[(s.length,c')])) (iV m) none none none none none,s',by simp[bindTg],?_,_,_,rfl,h1.app hf,by simp[h2]⟩
   generalize row.drop (4*m)=rd at *
   refine(zaad (σ1:=g47 ns row (mV (ms++[(s.length,c')])) (iV m) none none none none none) (s1:=s') ((ex_app (ts:=mL ms) (t:=.loc s.length) (s1:=s') rfl ?_ (by simp;omega)).trans (by simp[setOwn]))).trans zabz
   refine zabs (rs:=[.val (.lst (iL rd)),.val (.int (Int.fdiv v58 v)),.val (.int (Int.fdiv v59 ((m:Int)+1)))]) (s1:=s) ?_ e
   simp[m4,cut,r58,r59,gv,f1,f2])
 rw[zaaj]at h2
 exact⟨s',ms,c3,h1,by omega,e⟩
theorem ev_gr{C:Cf}(hC:Has C ns)(hr:∀v∈row,zaas v){a n:Nat}(hl:a+50≤row.length)(ha:a≤500)(h3:3≤n)(hn:n≤24){σ:Fr}{e1 e2 e3 e4:E}{c:Int}(h1:evr C [e1,e2,e3,e4] σ s=.ok [.val (.lst (iL row)),.val (.int a),.val (.int n),.val (.int c)] s):
  ∃s' c',Fresh s s' c'∧ev C (.cell (.call 41 [e1,e2,e3,e4] [])) .v σ s=.ok (.val (.loc s.length)) s':=by
 obtain⟨l,hok,e⟩:=hC.grow s row a n c hr hl ha h3 hn
 exact⟨_,l,zac3 hok,zahx (zabs h1 e)⟩
theorem ex_putO{C:Cf}{i:Nat}{j e:E}{σ:Fr}{s s1 s2:Sto}{ts:List T}{t:T}{n:Int}{m:Nat}(ho:ownAt σ i=some ts)(he:ev C e .v σ s=.ok (.val t) s1)(hj:ev C j .v σ s1=.ok (.val (.int n)) s2)(hm:L2.ixN ts.length n=some m):ex C (.put i j e) σ s=.next (setOwn σ i (ts.set m t)) s2:=by
 simp[ho,he,hj,hm]
theorem ixN_zero{n:Nat}(h:1≤n):L2.ixN n 0=some 0:=by
 simp[L2.ixN]
 omega
abbrev st4:S:=.ifs (.cmp .eq (.bin .mod (.bin .fdiv (.sub (.var 1) (.cst (.int 61))) (.cst (.int 3))) (.cst (.int 6))) (.cst (.int 2))) [(.put 2 (.cst (.int 0)) (.call 43 [(.cell (.call 41 [(.var 1),(.cst (.int 0)),(.bin .add (.cst (.int 10)) (.bin .mod (.sub (.var 1) (.cst (.int 0))) (.cst (.int 15)))),(.sub (.var 1) (.cst (.int 59)))] [])),(.sub (.var 1) (.cst (.int 58))),(.sub (.var 1) (.cst (.int 59)))] []))] []
theorem st4_run{C:Cf}(hC:Has C ns)(hr:∀v∈row,zaas v)(hl:row.length=62){ms:List (Nat×List Spt)}(h:Mad s ms)(hn:1≤ms.length∧ms.length≤3)(c3:Option B):
  ∃s' ms',Mad s' ms'∧ms'.length=ms.length∧ex C st4 (g47 ns row (mV ms) c3 none none none none none) s=.next (g47 ns row (mV ms') c3 none none none none none) s':=by
 obtain⟨v0,_,r0,_⟩:=row_at hr (m:=0) (by omega)
 obtain⟨v58,_,r58,_⟩:=row_at hr (m:=58) (by omega)
 obtain⟨v59,_,r59,_⟩:=row_at hr (m:=59) (by omega)
 obtain⟨v61,_,r61,_⟩:=row_at hr (m:=61) (by omega)
 have r0:subR (.val (.lst (iL row))) 0=some (.int v0):=r0
 have r58:subR (.val (.lst (iL row))) 58=some (.int v58):=r58
 have r59:subR (.val (.lst (iL row))) 59=some (.int v59):=r59
 have r61:subR (.val (.lst (iL row))) 61=some (.int v61):=r61
 have d3:=zaaw (i:=v61) (j:=3) (by decide) (by decide)
 have m6:=op_mod (i:=Int.fdiv v61 3) (j:=6) (by decide)
 have m15:=op_mod (i:=v0) (j:=15) (by decide)
 have b15:=zaam v0 (j:=15) (by decide)
 obtain⟨n,hn'⟩:∃n:Nat,10+Int.fmod v0 15=(n:Int):=⟨(10+Int.fmod v0 15).toNat,by omega⟩
 generalize Int.fmod (Int.fdiv v61 3) 6=y at *
 generalize Int.fmod v0 15=z at *
 by_cases hy:y=2
 ·obtain⟨s1,c1,f1,e1⟩:=ev_gr (s:=s) hC hr (a:=0) (n:=n) (by omega) (by omega) (by omega) (by omega) (σ:=g47 ns row (mV ms) c3 none none none none none) (e1:=.var 1) (e2:=.cst (.int 0)) (e3:=.bin .add (.cst (.int 10)) (.bin .mod (.sub (.var 1) (.cst (.int 0))) (.cst (.int 15)))) (e4:=.sub (.var 1) (.cst (.int 59))) (c:=v59) (by simp[r0,m15,hn',r59])
  obtain⟨s2,c2,q1,q2,q3,q4,q5⟩:=hC.spoil s1 s.length c1 v58 v59 f1.at_ f1.ok
  have f2:=zacz f1 q1 q2 q3 q4
  refine⟨s2,ms.set 0 (s.length,c2),h.set0 f2,by simp,?_⟩
  refine(zacm (s1:=s) (by simp[r61,d3,m6,hy])).trans ?_
  refine(zaad ((ex_putO (ts:=mL ms) (s1:=s2) (s2:=s2) (t:=.loc s.length) (n:=0) (m:=0) rfl (zabs (rs:=[.val (.loc s.length),.val (.int v58),.val (.int v59)]) (s1:=s1) (zaay e1 (zaay (s1:=s1) (s2:=s1) (by simp[r58]) (zaay (s1:=s1) (s2:=s1) (by simp[r59]) zacd))) q5) (by simp) (by rw[List.length_map];exact ixN_zero hn.1)).trans ?_)).trans zabz
  simp[setOwn,List.map_set]
 ·refine⟨s,ms,h,rfl,?_⟩
  exact(zaed (s1:=s) (by simp[r61,d3,m6,hy])).trans zabz
theorem zadz{F:T→Sto→Res (Option T)}(P:T→Prop)(hF:∀t s,P t→∃s' c',Fresh s s' c'∧F t s=.ok (some (.loc s.length)) s'):∀(ts:List T) (s:Sto) (ms:List (Nat×List Spt)),(∀t∈ts,P t)→Mad s ms→∃s' ns,ns.length=ts.length∧Mad s' (ms++ns)∧mapRes F ts s=.ok (mL ns) s'
 | [],s,ms,_,h=>⟨s,[],rfl,by simpa using h,rfl⟩
 | t::ts,s,ms,hp,h=>by
  obtain⟨s1,c,hf,e⟩:=hF t s (hp t (by simp))
  obtain⟨s2,ns,h1,h2,h3⟩:=zadz P hF ts s1 (ms++[(s.length,c)]) (fun t ht=>hp t (by simp[ht])) (h.app hf)
  refine⟨s2,(s.length,c)::ns,by simp[h1],by simpa using h2,?_⟩
  unfold mapRes
  rw[e]
  simp[h3]
abbrev st5:S:=.ifs (.cmp .eq (.bin .mod (.bin .fdiv (.sub (.var 1) (.cst (.int 61))) (.cst (.int 3))) (.cst (.int 6))) (.cst (.int 1))) [(.mk 2 (.bin .add (.comp zabk (.one 9) (.rng1 (.cst (.int 9)))) (.cutU (.var 2) (.cst (.int 1)))))] []
theorem cut_upB{ts:List T}{m:Nat}(h:m≤ts.length):cutR (.bor ts) none (some (m:Int))=some (.val (.lst (ts.take m))):=cut_up h
theorem st5_run{C:Cf}(hC:Has C ns)(hr:∀v∈row,zaas v)(hl:row.length=62){ms:List (Nat×List Spt)}(h:Mad s ms)(hn:1≤ms.length∧ms.length≤3)(c3:Option B):
  ∃s' ms',Mad s' ms'∧(1≤ms'.length∧ms'.length≤10)∧ex C st5 (g47 ns row (mV ms) c3 none none none none none) s=.next (g47 ns row (mV ms') c3 none none none none none) s':=by
 obtain⟨v61,_,r61,_⟩:=row_at hr (m:=61) (by omega)
 have r61:subR (.val (.lst (iL row))) 61=some (.int v61):=r61
 have d3:=zaaw (i:=v61) (j:=3) (by decide) (by decide)
 have m6:=op_mod (i:=Int.fdiv v61 3) (j:=6) (by decide)
 generalize Int.fmod (Int.fdiv v61 3) 6=y at *
 by_cases hy:y=1
 ·obtain⟨s',ns',h1,h2,h3⟩:=zadz (F:=fun t s=>onO (bindTg (g47 ns row (mV ms) c3 none none none none none) (.one 9) t) fun σ'=>one (ev C zabk .v σ' s)) (fun t=>∃m:Nat,m<9∧t=.int m) (by
   rintro t s ⟨m,hm,rfl⟩
   obtain⟨x,_,f1,_⟩:=row_at hr (m:=m) (by omega)
   obtain⟨w,_,f2,_⟩:=row_at hr (m:=50+m) (by omega)
   rw[show((50+m:Nat):Int)=50+(m:Int)by omega]at f2
   have m3:=op_mod (i:=x) (j:=3) (by decide)
   have b3:=zaam x (j:=3) (by decide)
   obtain⟨n,hn'⟩:∃n:Nat,3+Int.fmod x 3=(n:Int):=⟨(3+Int.fmod x 3).toNat,by omega⟩
   generalize Int.fmod x 3=z at *
   obtain⟨s',c',hf,e⟩:=ev_gr (s:=s) hC hr (a:=m) (n:=n) (by omega) (by omega) (by omega) (by omega) (σ:=put (g47 ns row (mV ms) c3 none none none none none) 9 (.int m)) (e1:=.var 1) (e2:=.var 9) (e3:=.bin .add (.cst (.int 3)) (.bin .mod (.sub (.var 1) (.var 9)) (.cst (.int 3)))) (e4:=.sub (.var 1) (.bin .add (.cst (.int 50)) (.var 9))) (c:=w) (by simp[f1,f2,m3,hn'])
   refine⟨s',c',hf,?_⟩
   show one (ev C zabk .v _ s)=_
   rw[show ev C zabk .v (put (g47 ns row (mV ms) c3 none none none none none) 9 (.int m)) s=_ from e]
   rfl) (rangeT 0 9) s ms (fun t ht=>by
    obtain⟨i,hi⟩:=List.getElem?_of_mem ht
    obtain⟨rfl,hlt⟩:=zaak hi
    exact⟨i,by omega,by simp⟩) h
  refine⟨s',ns'++ms.take 1,h2.sel 1,?_,?_⟩
  ·rw[zaaj]at h1
   have:=List.length_take_le 1 ms
   simp only[List.length_append]
   omega
  ·have e1:ev C (.comp zabk (.one 9) (.rng1 (.cst (.int 9)))) .v (g47 ns row (mV ms) c3 none none none none none) s=.ok (.val (.lst (mL ns'))) s':=zadr (ts:=rangeT 0 9) (s1:=s) (zaec (n:=9) (by simp) (by decide)) h3
   have e2:=cut_upB (ts:=mL ms) (m:=1) (by simp;omega)
   have e2:cutR (.bor (mL ms)) none (some 1)=some (.val (.lst ((mL ms).take 1))):=e2
   have hlim:(mL ns').length+((mL ms).take 1).length≤lim:=Nat.le_trans (by rw[zaaj]at h1;simp;omega) lim_ge
   have e3:opR .add (.val (.lst (mL ns'))) (.val (.lst ((mL ms).take 1)))=some (.val (.lst (mL ns'++(mL ms).take 1))):=by
    show(if _ then _ else _)=_
    rw[if_pos hlim]
   refine(zacm (s1:=s) (by simp[r61,d3,m6,hy])).trans ?_
   refine(zaad (σ1:=g47 ns row (mV (ns'++ms.take 1)) c3 none none none none none) (s1:=s') ?_).trans zabz
   have e4:ev C (.bin .add (.comp zabk (.one 9) (.rng1 (.cst (.int 9)))) (.cutU (.var 2) (.cst (.int 1)))) .v (g47 ns row (mV ms) c3 none none none none none) s=.ok (.val (.lst (mL (ns'++ms.take 1)))) s':=by
    have hX:mL (ns'++ms.take 1)=mL ns'++(mL ms).take 1:=by simp[mL,List.map_take]
    rw[hX,ev.eq_4,e1]
    show(fin .v _:Res R)=_
    have e7:∀Y Z:List T,cutR (.bor Y) none (some 1)=some (.val (.lst Z))→ev C (.cutU (.var 2) (.cst (.int 1))) .v (g47 ns row (some (.own Y)) c3 none none none none none) s'=.ok (.val (.lst Z)) s':=fun Y Z h=>by simp[h]
    simp only[Res.bind_ok,e7 _ _ e2,e3,Res.of_some,fin_v]
   have e5:∀e X,freshE C e=true→ev C e .v (g47 ns row (mV ms) c3 none none none none none) s=.ok (.val (.lst X)) s'→ex C (.mk 2 e) (g47 ns row (mV ms) c3 none none none none none) s=.next (g47 ns row (some (.own X)) c3 none none none none none) s':=fun e X hf he=>by
    simp[hf,he,setOwn]
   exact e5 _ _ rfl e4
 ·refine⟨s,ms,h,by omega,?_⟩
  exact(zaed (s1:=s) (by simp[r61,d3,m6,hy])).trans zabz
end Pg
end IP
end
section
set_option linter.all false
set_option maxRecDepth 100000
set_option maxHeartbeats 0
namespace IP
namespace Pg
open L2
variable{s:Sto}{row ns:List Int}
abbrev csB(cs:List (List Spt))(z:Int):Bk:=⟨z,cs,cs.map fun c=>c.map fun _=>[],[]⟩
abbrev snd(ms:List (Nat×List Spt)):List (List Spt):=ms.map (·.2)
abbrev st8:S:=.for_ (.one 5) (.var 2) zac6
theorem adds{C:Cf}(hC:Has C ns){ms:List (Nat×List Spt)}(hM:Mad s ms)(hn:ms.length≤10){A:Ad}(hB:BAt s A (csB [] 0))(hA:∀p∈ms,p.1∉A.fp)(c3:Option B):
  ∃s' A' c5,A'.o=A.o∧BAt s' A' (csB (snd ms) 0)∧Mad s' ms∧(∀p∈ms,p.1∉A'.fp)∧ex C st8 (g47 ns row (mV ms) c3 (some (.val (.loc A.o))) none none none none) s=.next (g47 ns row (mV ms) c3 (some (.val (.loc A.o))) c5 none none none) s':=by
 obtain⟨σ',s',e,A',c5,rfl,h0,h1,h2,h3⟩:=zade (g:=.one 5) (body:=fun σ s=>exs C zac6 σ s)
  (fun m σ s=>∃(A':Ad) (c5:Option B),σ=g47 ns row (some (.lck (mL ms))) c3 (some (.val (.loc A.o))) c5 none none none∧A'.o=A.o∧BAt s A' (csB ((snd ms).take m) 0)∧Mad s ms∧(∀p∈ms,p.1∉A'.fp)) (mL ms) 0 (g47 ns row (some (.lck (mL ms))) c3 (some (.val (.loc A.o))) none none none none) s ⟨A,none,rfl,rfl,by simpa using hB,hM,hA⟩ (by
   rintro m t σ s hm ⟨A',c5,rfl,h0,h1,h2,h3⟩
   have hml:m<ms.length:=by have:=(List.getElem?_eq_some_iff.mp hm).1;simpa using this
   have hp:ms[m]?=some ms[m]:=by simp[hml]
   generalize ms[m]=p at hp
   have ht:t=.loc p.1:=by
    rw[List.getElem?_map,hp]at hm
    cases hm;rfl
   subst ht
   have hpm:=List.mem_of_getElem? hp
   rw[show 0+m=m by omega]at h1
   have hd:=dr_loc (h2.cell p hpm)
   obtain⟨s',e,h4,h5,h6⟩:=hC.add s A' _ p.2 h1 (by simp;omega) (h2.ok p hpm) (by simp;omega)
   have hli:=h1.li
   rw[h0]at hli
   have h7:(snd ms).take m++[p.2]=(snd ms).take (0+m+1):=by
    rw[show 0+m+1=m+1 by omega,List.take_succ]
    simp[hp]
   refine⟨g47 ns row (some (.lck (mL ms))) c3 (some (.val (.loc A.o))) (some (.val (.loc p.1))) none none none,g47 ns row (some (.lck (mL ms))) c3 (some (.val (.loc A.o))) (some (.val (.loc p.1))) none none none,s',by simp[bindTg],?_,⟨A'.o,A'.a,A'.b,A'.c,A'.ls++[s.length]⟩,some (.val (.loc p.1)),rfl,h0,?_,h2.keep h5 h3,fun q hq=>?_⟩
   ·have e':C.cf 4 [.val (.loc A.o),.val (tSs' p.2),.val .non] s=.ok (.val (.int ((snd ms).take m).length)) s':=by rw[←h0];exact e
    refine(zaad (ex_exp (s1:=s') (r:=.val (.int ((snd ms).take m).length)) ?_)).trans zabz
    generalize mL ms=Y at *
    generalize ((snd ms).take m).length=N at *
    simp[hd,hli,e']
   ·have:(csB ((snd ms).take (0+m+1)) 0)=⟨0,(snd ms).take m++[p.2],((snd ms).take m).map (fun c=>c.map fun _=>[])++[p.2.map fun _=>[]],[]⟩:=by rw[←h7];simp[csB]
    rw[this]
    exact h4
   ·have hq':q.1∉A'.fp++[s.length]:=by
     rw[List.mem_append]
     rintro(z|z)
     ·exact h3 q hq z
     ·have:=h2.lt hq
      simp at z
      omega
    exact hq')
 rw[show 0+(mL ms).length=ms.length by simp]at h1
 rw[List.take_of_length_le (by simp)]at h1
 refine⟨s',A',c5,h0,h1,h2,h3,?_⟩
 have hv:ev C (.var 2) .i (g47 ns row (mV ms) c3 (some (.val (.loc A.o))) none none none none) s=.ok (.val (.lst (mL ms))) s:=by
  unfold mV
  generalize mL ms=Y at *
  simp
 rw[ex_forV,hv]
 show(forL (.one 5) (fun σ s=>exs C zac6 σ s) (mL ms) (g47 ns row (some (.lck (mL ms))) c3 (some (.val (.loc A.o))) none none none none) s).unlock 2=_
 rw[e]
 rfl
theorem told_ev{C:Cf}(hC:Has C ns){ms:List (Nat×List Spt)}(hM:Mad s ms)(hn:ms.length≤10){A:Ad}{z:Int}{mk:List (List (List Spt))}(hB:BAt s A ⟨z,snd ms,mk,[]⟩){c3 c5 v6 v7 v8:Option B}:
  ev C (.call 46 [(.var 4),(.call 45 [(.var 2)] [])] []) .v (g47 ns row (mV ms) c3 (some (.val (.loc A.o))) c5 v6 v7 v8) s=.ok (.val (.bl true)) s:=by
 have h1:=(hC.cross s A _ hB (fun c hc=>by obtain⟨p,hp,rfl⟩:=List.mem_map.mp hc;exact hM.ok p hp) (by simp;exact hn)).2
 have h2:=hC.due s ms hM hn
 have e:(snd ms).length=ms.length:=by simp
 rw[show(⟨z,snd ms,mk,[]⟩:Bk).pc=snd ms from rfl,e]at h1
 exact zabs (rs:=[slf A,scan (gC (snd ms)) ms.length]) (s1:=s) (zaay (s1:=s) (by simp) (zaay (s1:=s) (zabs (rs:=[.bor (mL ms)]) (s1:=s) (by simp) h2) zacd)) h1
theorem law_any{C:Cf}(hC:Has C ns):∃s',exs C b_law (enter F_law [.val (.lst (iL ns))]) []=.ret (.val (.bl true)) s':=by
 obtain⟨row,hl,hr,e1⟩:=hC.stir
 obtain⟨v60,_,r60,_⟩:=row_at hr (m:=60) (by omega)
 obtain⟨v61,_,r61,_⟩:=row_at hr (m:=61) (by omega)
 have r60:subR (.val (.lst (iL row))) 60=some (.int v60):=r60
 have r61:subR (.val (.lst (iL row))) 61=some (.int v61):=r61
 have m3:=op_mod (i:=v61) (j:=3) (by decide)
 have b3:=zaam v61 (j:=3) (by decide)
 obtain⟨n,hn⟩:∃n:Nat,1+Int.fmod v61 3=(n:Int):=⟨(1+Int.fmod v61 3).toNat,by omega⟩
 generalize Int.fmod v61 3=z3 at *
 obtain⟨s1,ms1,c3,M1,D1,E1⟩:=build hC hr hl (n:=n) (by omega) []
 obtain⟨s2,ms2,M2,D2,E2⟩:=st4_run hC hr hl M1 (by omega) c3
 obtain⟨s3,ms,M3,D3,E3⟩:=st5_run hC hr hl M2 (by omega) c3
 obtain⟨s4,A0,E4,B4,K4,_,F4⟩:=hC.new (g47 ns row (mV ms) c3 none none none none none) s3
 have hA4:∀p∈ms,p.1∉A0.fp:=fun p hp q=>by have:=M3.lt hp;have:=F4 _ q;omega
 have M4:=M3.keep K4 (fun p hp=>by simp)
 have X4:=(hC.cross s4 A0 _ B4 (by simp) (by simp)).1
 rw[show(⟨0,[],[],[]⟩:Bk).pc.length=0 from rfl,scan_zero]at X4
 obtain⟨s5,A,c5,hAo,B5,M5,hA5,E5⟩:=adds (row:=row) hC M4 D3.2 (A:=A0) B4 hA4 c3
 have T5:=told_ev (row:=row) hC M5 D3.2 B5 (c3:=c3) (c5:=c5) (v6:=none) (v7:=none) (v8:=none)
 rw[←hAo]at E5
 have E4:ev C (.new 0 iz3 4 [] []) .v (g47 ns row (mV ms) c3 none none none none none) s3=.ok (.val (.loc A.o)) s4:=by rw[hAo];exact E4
 have X4:C.cf 27 [.val (.loc A.o)] s4=.ok (.val .non) s4:=by rw[hAo];exact X4
 have m7:=op_mod (i:=v60) (j:=7) (by decide)
 have b7:=zaam v60 (j:=7) (by decide)
 generalize Int.fmod v60 7=z7 at *
 obtain⟨s6,E6,B6,K6,_⟩:=hC.letOut s5 A _ z7 B5 (by omega) (by show -6≤0+z7∧0+z7≤6;omega)
 have M6:=M5.keep K6 hA5
 have d7:=zaaw (i:=v60) (j:=7) (by decide) (by decide)
 have d21:=zaaw (i:=v60) (j:=21) (by decide) (by decide)
 have d500:=zaaw (i:=v60) (j:=500) (by decide) (by decide)
 obtain⟨i,hi,_,mi⟩:=fm_nat (Int.fdiv v60 7) (n:=ms.length) (by omega)
 have hp:ms[i]?=some ms[i]:=by simp[hi]
 generalize ms[i]=p at hp
 have hpm:=List.mem_of_getElem? hp
 have gi:=zabu (ts:=mL ms) (n:=i) (t:=.loc p.1) (by simp[hp])
 have hok:=M6.ok p hpm
 have cl:=M6.cell p hpm
 have hd:=dr_loc cl
 have hL:=zaa9 cl
 have n3:=hok.n3
 obtain⟨j,hj,_,mj⟩:=fm_nat (Int.fdiv v60 21) (n:=p.2.length) (by omega)
 have hx:p.2[j]?=some p.2[j]:=by simp[hj]
 generalize p.2[j]=x at hx
 have gj:=zabu (ts:=p.2.map tS) (n:=j) (t:=tS x) (by simp[hx])
 have m2:=op_mod (i:=Int.fdiv v60 500) (j:=2) (by decide)
 have b2:=zaam (Int.fdiv v60 500) (j:=2) (by decide)
 generalize Int.fmod (Int.fdiv v60 500) 2=y2 at *
 obtain⟨stp,hstp,g2⟩:∃stp:Int,(0<stp∧stp≤200)∧subR (.val (.lst [.int 2,.int 200])) y2=some (.int stp):=by
  have:y2=0∨y2=1:=by omega
  rcases this with rfl|rfl
  ·exact⟨2,by decide,rfl⟩
  ·exact⟨200,by decide,rfl⟩
 obtain⟨q,hq,E7⟩:=hC.spot s6 v60 stp hstp
 have aj:=add_jn x q
 have hix:L2.ixN p.2.length (j:Int)=some j:=by simp[L2.ixN,hj]
 have M7:=M6.put hp (hok.set (fit_jn (hok.fit x (List.mem_of_getElem? hx)) hq) j)
 have B7:BAt (s6.set p.1 (.lst ((p.2.set j (jn x q)).map tS))) A ⟨0+z7,snd ms,(csB (snd ms) 0).mrk,[]⟩:=B6.other fun l hl=>set_ne fun e=>hA5 p hpm (by rw[e];exact hl)
 generalize hs7:s6.set p.1 (.lst ((p.2.set j (jn x q)).map tS))=s7 at *
 have hpc:(snd ms)[i]?=some p.2:=by simp[hp]
 obtain⟨s8,E8,B8,K8,_⟩:=hC.moves s7 A _ i j p.2 x q B7 hpc hx hq
 have hA7:∀r∈ms.set i (p.1,p.2.set j (jn x q)),r.1∉A.fp:=fun r hr'=>by
  rcases List.mem_or_eq_of_mem_set hr' with z|z
  ·exact hA5 r z
  ·rw[z];exact hA5 p hpm
 have M8:=M7.keep K8 hA7
 have hsnd:snd (ms.set i (p.1,p.2.set j (jn x q)))=(snd ms).set i (p.2.set j (jn x q)):=by simp[snd,List.map_set]
 have hmL:mL (ms.set i (p.1,p.2.set j (jn x q)))=mL ms:=by
  unfold mL
  apply List.ext_getElem?
  intro t
  rw[List.getElem?_map,List.getElem?_map]
  by_cases ht:i=t
  ·subst ht
   rw[List.getElem?_set_self hi,hp]
   rfl
  ·rw[List.getElem?_set_ne ht]
 have B8':BAt s8 A ⟨0+z7,snd (ms.set i (p.1,p.2.set j (jn x q))),(csB (snd ms) 0).mrk,[]⟩:=by rw[hsnd];exact B8
 have T8:=told_ev (row:=row) hC M8 (by simp;exact D3.2) B8' (c3:=c3) (c5:=c5) (v6:=iV i) (v7:=iV j) (v8:=some (.val (tS q)))
 rw[show mV (ms.set i (p.1,p.2.set j (jn x q)))=mV ms by unfold mV;rw[hmL]]at T8
 have li5:=B5.li
 have li7:=B7.li
 have hlen:(mL ms).length=ms.length:=by simp
 have cut2:cutR (.val (tS q)) (some 2) (some 4)=some (.val (.tup [.int q.a,.int q.b])):=rfl
 have cut4:cutR (.val (tS q)) (some 4) none=some (.val (.tup [.int q.c,.int q.d])):=rfl
 refine⟨s8,?_⟩
 refine(zaad (σ1:=g47 ns row none none none none none none none) (s1:=[]) (by simp[e1])).trans ?_
 refine(zaad (σ1:=g47 ns row (mV []) none none none none none none) (s1:=[]) (by simp[freshE,setOwn])).trans ?_
 refine(zaad ((ex_for (ts:=rangeT 0 n) (s1:=[]) (zabo (n:=n) (by simp[r61,m3,hn]) (by omega)) (by intro _ h;cases h)).trans E1)).trans ?_
 refine(zaad E2).trans ?_
 refine(zaad E3).trans ?_
 refine(zaad (σ1:=g47 ns row (mV ms) c3 (some (.val (.loc A.o))) none none none none) (s1:=s4) ((ex_asg E4).trans (by simp))).trans ?_
 refine(zaad (σ1:=g47 ns row (mV ms) c3 (some (.val (.loc A.o))) none none none none) (s1:=s4) (by simp[X4,R.isNon])).trans ?_
 refine(zaad E5).trans ?_
 refine(zaad (σ1:=g47 ns row (mV ms) c3 (some (.val (.loc A.o))) c5 none none none) (s1:=s5) (zaed (zaga (ev_call_t T5)))).trans ?_
 refine(zaad (σ1:=g47 ns row (mV ms) c3 (some (.val (.loc A.o))) c5 none none none) (s1:=s6) (by simp[r60,m7,li5,E6])).trans ?_
 refine(zaad (σ1:=g47 ns row (mV ms) c3 (some (.val (.loc A.o))) c5 (iV i) none none) (s1:=s6) (by simp[r60,d7,hlen,mi])).trans ?_
 refine(zaad (σ1:=g47 ns row (mV ms) c3 (some (.val (.loc A.o))) c5 (iV i) (iV j) none) (s1:=s6) (by simp[r60,d21,gi,hd,mj])).trans ?_
 refine(zaad (σ1:=g47 ns row (mV ms) c3 (some (.val (.loc A.o))) c5 (iV i) (iV j) (some (.val (tS q)))) (s1:=s6) (by simp[r60,d500,m2,g2,E7])).trans ?_
 refine(zaad (σ1:=g47 ns row (mV ms) c3 (some (.val (.loc A.o))) c5 (iV i) (iV j) (some (.val (tS q)))) (s1:=s7) (by simp[gi,hd,hL,gj,cut_a,cut_b,aj,hix,←hs7,List.map_set])).trans ?_
 refine(zaad (σ1:=g47 ns row (mV ms) c3 (some (.val (.loc A.o))) c5 (iV i) (iV j) (some (.val (tS q)))) (s1:=s8) (by simp[li7,cut2,cut4,E8])).trans ?_
 exact zabh (ex_ret T8)
theorem law42(k:Nat)(ns:List Int):∃s,run true fns sub0 whileL (k+9) i_law [.val (.lst (ns.map .int))] []=.ok (.val (.bl true)) s:=by
 obtain⟨s',e⟩:=law_any (has k ns)
 refine⟨s',?_⟩
 rw[zaah (F:=F_law) rfl rfl,e]
 rfl
theorem math:Math:=fun ns _=>law42 7 ns
end Pg
end IP
end
section
namespace PySem.W.Fast
def tw11219484400193084866:=()
def tw14336076987820393966:=()
def tw7521250438647027448:=()
def tw11759811803402058071:=()
def tw5062514915973558361:=()
def tw7728137823547424835:=()
def tw754460794128332121:=()
def tw5182243873956188776:=()
def tw9618844273633441977:=()
def tw9391127919852304678:=()
def tw2533735604900381892:=()
def tw11805128020352186671:=()
def tw17960080863976987282:=()
def tw13599394419248205912:=()
def tw16413667821682642228:=()
def tw16908667742400330787:=()
def tw6098628161218422822:=()
def tw13443500132720859903:=()
def tw7536682996168793994:=()
def tw12025218893081504118:=()
def tw13787391007428715029:=()
def tw3937095147294389517:=()
def tw7880525677291581601:=()
def tw8929032565356131684:=()
def tw5888581541909488958:=()
def tw6769589192633548516:=()
def tw9861286616573572317:=()
def tw1651546295867381666:=()
def tw8098618644408808246:=()
def tw6041479981049705335:=()
def tw8291185105648751736:=()
def tw10012901553365308144:=()
def tw5412529480774637556:=()
def tw7318563841642017502:=()
def tw5112916462815953831:=()
def tw11957383193028638909:=()
def tw9781516346578717123:=()
def tw14809993361960686868:=()
def tw11779637334037651781:=()
def tw7428987566419481689:=()
def tw11106073528612411453:=()
def tw3665298388284176728:=()
def tw4485735665892868038:=()
def tw2157850883508244237:=()
def tw582356729734766415:=()
def tw4288427328789675408:=()
def tw16706292644341806780:=()
def tw305281877825554722:=()
def tw18098553326155378260:=()
def tw8298496839190268278:=()
def tw8802360927226926583:=()
def tw8183727650388868859:=()
def tw14760383059117281813:=()
def tw17434608381208140270:=()
def tw11066771798771032082:=()
def tw11775380044994217686:=()
def tw8471745689272484973:=()
def tw4126221944201015853:=()
def tw15703094493761155091:=()
def tw13394882111498248283:=()
def tw16613510983827449549:=()
def tw4075639605624323735:=()
def tw2880911522115904077:=()
def tw16562110434785292897:=()
def tw5788009503856672706:=()
def tw6816338678130628829:=()
def tw435693033674333502:=()
def tw2742395531630431733:=()
def tw5140725498990200966:=()
def tw15458444656171359848:=()
def tw7414595115490082516:=()
def tw6719889127573162867:=()
def tw7793075682965022720:=()
def tw11581227507848047728:=()
def tw4956648965166097230:=()
def tw14762568871305291478:=()
def tw11341328067636381726:=()
def tw16217044720699606489:=()
def tw952988792159567676:=()
def tw12073745348038862743:=()
def tw6365075156383172561:=()
def tw2721199893323008165:=()
def tw4258129653513649360:=()
def tw3895945639117220451:=()
def tw11284248296138927790:=()
def tw10099634052562309174:=()
def tw10087105209090001846:=()
def tw18271255964298753218:=()
def tw16456978136156769304:=()
def tw11496793729293576331:=()
def tw12950133186271250411:=()
def tw5572663829979104488:=()
def tw4093093889257055328:=()
def tw1143396987572386722:=()
def tw8145524773929566646:=()
def tw13227887981986845545:=()
def tw1552113751978360285:=()
def tw16080970195230570863:=()
def tw15842908479470053698:=()
def tw13879892119501912800:=()
def tw18418737975196598868:=()
def tw5755024038077945554:=()
def tw11826225277077154769:=()
def tw8703895615192559497:=()
def tw16658420563225125738:=()
def tw14466035504103128846:=()
def tw14685930744666249976:=()
def tw6793019621260821321:=()
def tw8436295699416084645:=()
def tw6887042192362330622:=()
def tw2153154969151812425:=()
def tw6511540235208265499:=()
def tw12577757493136257091:=()
def tw318098149945609253:=()
def tw3863170169681266635:=()
def tw12120987460176671161:=()
def tw3673051147538599748:=()
def tw16867551235437383210:=()
def tw898542447033698414:=()
def tw47754077836957167:=()
def tw6651127870086703436:=()
def tw6997717553200262441:=()
def tw4136646784809778332:=()
def tw6212233866578563411:=()
def tw7421154117070604589:=()
def tw15979555438821256682:=()
def tw6024892587560003697:=()
def tw7478505557940253635:=()
def tw16459142345132139189:=()
def tw11370483731613418386:=()
def tw17637050044634351294:=()
def tw13367343346204073520:=()
def tw12781889495865740214:=()
def tw2710746279226652392:=()
def tw18317114402484937317:=()
def tw292609276441134867:=()
def tw3620145617450004417:=()
def tw7203949900704811354:=()
def tw615888178352064337:=()
def tw11412310174369517262:=()
def tw5352858119633678705:=()
def tw15371936216731502330:=()
def tw7932467360004580811:=()
def tw18329454182619777561:=()
def tw13839082154586785055:=()
def tw2042615250330241510:=()
def tw15602669729810149918:=()
def tw6941854264539653971:=()
def tw12906348154126647211:=()
def tw3672617298992455049:=()
def tw5379279598883521786:=()
def tw16089105046648036456:=()
def tw4065469880387001308:=()
def tw10244848771882206400:=()
def tw5722963301382649872:=()
def tw4663626275806108514:=()
def tw7520439991306685439:=()
def tw12844152277518209237:=()
def tw15742351795665756301:=()
def tw14565866870469376103:=()
def tw139982276552972002:=()
def tw7238653025342024095:=()
def tw8075981625225023792:=()
def tw7254657877437740272:=()
def tw5341911811168755426:=()
def tw4468218996962932153:=()
def tw9787583577261558964:=()
def tw9260296556415241883:=()
def tw6071954797855269201:=()
def tw14765276815620264564:=()
def tw6779007950209334357:=()
def tw5250731846044042327:=()
def tw10419423708271502723:=()
def tw6822975546178798393:=()
def tw3614418428272588730:=()
def tw5284910921550672579:=()
def tw8333861606936955979:=()
def tw8252740577156137031:=()
def tw4464220171897313580:=()
def tw408632300228061436:=()
def tw5823694753513958826:=()
def tw6796850666781944310:=()
def tw11073411186684919494:=()
def tw17322406319830437415:=()
def tw16035794512174284716:=()
def tw14643146201685628316:=()
def tw11124978557835859298:=()
def tw8398446260995964763:=()
def tw6115760531537180764:=()
def tw16815098832179994573:=()
def tw9444781923475067479:=()
def tw11983913179042834859:=()
def tw16111173113674505626:=()
def tw11016873772494292324:=()
def tw1757593957687714667:=()
def tw3441177755701633389:=()
def tw17273828382506133063:=()
def tw3531207451835248885:=()
def tw18393706372470681452:=()
def tw16738548067583865808:=()
def tw9763425807209457611:=()
def tw3608880356217243734:=()
def tw17797791597957361018:=()
def tw14384402188843886998:=()
def tw12334903316642118105:=()
def tw17223992671838183112:=()
def tw12836831383937744195:=()
def tw1947524123625880819:=()
def tw5816915405498400022:=()
def tw7368678869411512168:=()
def tw10381225448794831447:=()
def tw1212721294054728564:=()
def tw186112598137368122:=()
def tw5501639704114069410:=()
def tw7805588019350287807:=()
def tw12849592885188906642:=()
def tw12795461772588606839:=()
def tw9691029001007131106:=()
def tw7835570102796057403:=()
def tw2956028971131771412:=()
def tw2351179781310021987:=()
def tw4717834580424069628:=()
def tw4641525326952997999:=()
def tw293183458619693067:=()
def tw17737679025114103403:=()
def tw15995908991177277027:=()
def tw4685084656867008898:=()
def tw6889915618986173846:=()
def tw13899462287153259414:=()
def tw9293794345885235358:=()
def tw1661191499755295881:=()
def tw5866249146446112876:=()
def tw954235573027126465:=()
def tw11891666043858441672:=()
def tw2380207290601163419:=()
def tw6238349036929284476:=()
def tw12473252895066978558:=()
def tw1685514753139643702:=()
def tw9763024589620169503:=()
def tw15658732921733916202:=()
def tw11601358415398629759:=()
def tw16549003831203805023:=()
def tw3573185940662472326:=()
def tw13181173722445935043:=()
def tw17059279032237267835:=()
def tw6640830299393609713:=()
def tw15515917918345713954:=()
def tw371000543257274083:=()
def tw5629570556142396175:=()
def tw15043843339134634891:=()
def tw13040694560932003893:=()
def tw1363749949196629433:=()
def tw16714401850614456273:=()
def tw4852038204978649387:=()
def tw3961569336168114360:=()
def tw14678672993316495323:=()
def tw7260587297446548051:=()
def tw15587878718037644169:=()
def tw4687037228740758946:=()
def tw3835635741284946327:=()
def tw14518584755638686624:=()
def tw1228074842657900239:=()
def tw18190841083585968704:=()
def tw17123524761418826375:=()
def tw10686059957437220619:=()
def tw11006975575386492563:=()
def tw5562182782805756621:=()
def tw11900338961405491659:=()
def tw13468497726755581454:=()
def tw9382343495027063854:=()
def tw10410832734409617071:=()
def tw9664287729016638148:=()
def tw88721506986925238:=()
def tw12131207290944608218:=()
def tw13982855432975499697:=()
def tw4291188159861609803:=()
def tw9395872373855940343:=()
def tw17888045047404888081:=()
def tw10328266995574368056:=()
def tw10692883511482766415:=()
def tw15323149891550109541:=()
def tw8778005913899083704:=()
def tw3389060004835532872:=()
def tw7490069030613558312:=()
def tw11299216799009364964:=()
def tw11061946466515865650:=()
def tw7996456032608916497:=()
def tw11102858019990191915:=()
def tw772050604000761198:=()
def tw10710095984735693958:=()
def tw10669174464653054055:=()
def tw12045634554054072433:=()
def tw13276001059040191340:=()
def tw16122297157267336269:=()
def tw7997830411846097003:=()
def tw14810867265226851735:=()
def tw5204474089560252539:=()
def tw16627831585607648807:=()
def tw5194677845757851962:=()
def tw14393635475641496535:=()
def tw12242703003808570352:=()
def tw3393359045027949437:=()
def tw8048783619235683100:=()
def tw12532996566861607436:=()
def tw15021106187137372063:=()
def tw9647189753729923944:=()
def tw7787685044080842313:=()
def tw14934054134863255745:=()
def tw15831159907420499111:=()
def tw16808810448156743675:=()
def tw11863945576616210265:=()
def tw16785396844422803630:=()
def tw17527760585996745454:=()
def tw10078774339634883316:=()
def tw8013102173532563087:=()
def tw15154762966212609029:=()
def tw7762367459274140983:=()
def tw4280871227751953013:=()
def tw936138033261908544:=()
def tw12326070678180456490:=()
def tw7097454517732783125:=()
def tw7718825380226052264:=()
def tw9009075887078278388:=()
def tw6447679860988801170:=()
def tw14273905122323137463:=()
def tw8918887145990236047:=()
def tw9653299121048938193:=()
def tw7163900279736042290:=()
def tw12617565855125139005:=()
def tw3106701039648372175:=()
def tw17782265657234033939:=()
def tw11032660654941013733:=()
def tw7802354141509597177:=()
def tw15345119420298566085:=()
def tw14301575392388347492:=()
def tw16000568593673523781:=()
def tw10535133928007441462:=()
def tw10530364317402913775:=()
def tw12508592613124531501:=()
def tw7052638645331044923:=()
def tw6574351073396535141:=()
def tw2328919342468340816:=()
def tw15418969238742448160:=()
def tw3054621555563752215:=()
def tw6965916020425184344:=()
def tw6424654781268215315:=()
def tw2583426933297814996:=()
def tw5870046103260005132:=()
def tw8908536858736668479:=()
def tw12466434600770894722:=()
def tw3002502213157927453:=()
def tw16563212080842510167:=()
def tw487370707587456950:=()
def tw4844380132483662599:=()
def tw17536861672262608399:=()
def tw17542604491931998082:=()
def tw1657413299791462994:=()
def tw17594587252287216006:=()
def tw12712465371566264872:=()
def tw7632269283071633597:=()
def tw4210867873749825515:=()
def tw7454296163424588703:=()
def tw8706808554115276233:=()
def tw4125336863574902659:=()
def tw8430795338934701890:=()
def tw4150745104802195117:=()
def tw3998666839800602116:=()
def tw6686711311120972317:=()
def tw12822512700574744209:=()
def tw1065404111910410511:=()
def tw4234020858748233232:=()
def tw17097044887670848155:=()
def tw8966553476726660123:=()
def tw14420118249880781658:=()
def tw10357205194730133048:=()
def tw18078512272572582572:=()
def tw9514961542425349017:=()
def tw7282524287122743157:=()
def tw2360370747371581855:=()
def tw8600925468862814793:=()
def tw3950577986661203350:=()
def tw8833587983483934033:=()
def tw11620319261082284078:=()
def tw18272152312793840432:=()
def tw3572228468363524927:=()
def tw14025363456812858367:=()
def tw11415156471166806310:=()
def tw2406818119420987782:=()
def tw8984459977651848334:=()
def tw8737801933292993910:=()
def tw6880567160791975062:=()
def tw2054983863225230398:=()
def tw5437438049645772494:=()
def tw7979315431013309750:=()
def tw6590125858967034237:=()
def tw15454903849252038484:=()
def tw6284268020778933928:=()
def tw8881453798327476350:=()
def tw3189671119792221900:=()
def tw11299189510499681502:=()
def tw10731993058093327508:=()
def tw4466723333506134352:=()
def tw15973864632477649159:=()
def tw14299296891316926123:=()
def tw1539464603984926788:=()
def tw5382497618935627198:=()
def tw13668779915639401960:=()
def tw13439841560081233126:=()
def tw12081985272110303540:=()
def tw11499683628310650965:=()
def tw17289595832731326177:=()
def tw17440688568534053406:=()
def tw10567178483397813335:=()
def tw1426101805527898336:=()
def tw591711914703909176:=()
def tw3841224957718142807:=()
def tw2867656000584010542:=()
def tw15050151081899582684:=()
def tw11790805159686023701:=()
def tw16579017333694963252:=()
def tw10368944993979151061:=()
def tw17250057882190457141:=()
def tw8148892142213643004:=()
def tw4775743457418574164:=()
def tw16750188671842354466:=()
def tw12798553057339314110:=()
def tw17439465239132507818:=()
def tw595364160674725063:=()
def tw5105312768517808654:=()
def tw5352479787839909595:=()
def tw18419190800346695907:=()
def tw8240647223475774798:=()
def tw15048105357729019123:=()
def tw7216800095876636568:=()
def tw4180534062246384000:=()
def tw7988569894131525662:=()
def tw12821466018530725706:=()
def tw3970673383075624871:=()
def tw13880736920670935186:=()
def tw6694759237760724753:=()
def tw14503671799116642613:=()
def tw3490514879275913185:=()
def tw2923805244159881696:=()
def tw12188810322102597551:=()
def tw719757600934187167:=()
def tw11084550076688703604:=()
def tw8297266640988234429:=()
def tw16252955328322291089:=()
def tw10254138054902814926:=()
def tw2113085710469215272:=()
def tw1894546245502911227:=()
def tw15100787322538704391:=()
def tw3373684125857444514:=()
def tw365696069827692678:=()
def tw3404930412055599517:=()
def tw16799693740937189192:=()
def tw954209972306073741:=()
def tw4137515717522214824:=()
def tw10848038749916216619:=()
def tw9901583252398327463:=()
def tw10309816196873683207:=()
def tw7679536478166543389:=()
def tw6548174179632795348:=()
def tw15131217907347473183:=()
def tw14452771145143856805:=()
def tw8563649801609060697:=()
def tw3923742487355458624:=()
def tw1652603716535640869:=()
def tw3558323070318893953:=()
def tw5798395467782549858:=()
def tw10283023662832170637:=()
def tw9102592912908823970:=()
def tw9067909819942408682:=()
def tw10081609252417237345:=()
def tw10515378376574195928:=()
def tw14385421261300514022:=()
def tw16232930601788243352:=()
def tw10503064166426638025:=()
def tw5474297974746533348:=()
def tw6318867767099248177:=()
def tw1137046031540880429:=()
def tw16801165753634275345:=()
def tw990819679068492398:=()
def tw507888312271906548:=()
def tw13229294361400169768:=()
def tw4688300757371838934:=()
def tw17621077275467369226:=()
def tw4336753244185891899:=()
def tw12223088974425951819:=()
def tw1608178404291524411:=()
def tw17031958219377165658:=()
def tw12418802786584001982:=()
def tw9456469960949113847:=()
def tw2228005475588471994:=()
def tw14181635902551432288:=()
def tw7256367272598467164:=()
def tw2844826409801601283:=()
def tw8186706687064109534:=()
def tw16788403887400277317:=()
def tw16035994268194364837:=()
def tw4448078235508698015:=()
def tw4890678646636176456:=()
def tw1228003138875943133:=()
def tw15770792241935100393:=()
def tw7485086265063732856:=()
def tw4999352545802036648:=()
def tw8781883890634159209:=()
end PySem.W.Fast
set_option Elab.async false
set_option maxRecDepth 100000
set_option maxHeartbeats 0
open PySem PySem.W PyProof.Rows
theorem PySem.Challenge.cw_gradecut_k42_whole_crossings_holds : PySem.Challenge.rw_gradecut_k42_whole_crossings.Holds := by
 w_on;o_law;k_head;(case hw=>w_witness2)
 k_fill
 refine IP.Pg.walk IP.Pg.math (l:=PySem.Challenge.rw_gradecut_k42_whole_crossings) rfl rfl (fun w h Y=>PySem.W.kIn_of Y) ?noL ?goF
 case noL=>intro w;first|rfl|with_unfolding_all rfl|decide +kernel
 case goF=>
  intro w mg fa h KX G hmg
  refine' IP.Pg.all_mk KX G hmg ?aez15 ?aez2 ?qez2 ?aez1 ?qez1 ?aez0 ?qez0 ?aez16 ?qez16 ?aez14 ?qez14 ?aC_Book ?pg_Book ?hd_Book ?po_Book ?sa_Book ?zadm ?kc_Book ?no_Book_size ?no_Book_pieces ?no_Book_side_marks ?no_Book_seams ?az45 ?lz45 ?cz45 ?kz45 ?az39 ?lz39 ?cz39 ?kz39 ?az44 ?lz44 ?cz44 ?kz44 ?az3 ?iz3 ?lz3 ?cz3 ?kz3 ?az4 ?iz4 ?lz4 ?cz4 ?kz4 ?dlz4 ?az12 ?iz12 ?lz12 ?cz12 ?kz12 ?az7 ?iz7 ?lz7 ?cz7 ?kz7 ?az5 ?iz5 ?lz5 ?cz5 ?kz5 ?az10 ?iz10 ?lz10 ?cz10 ?kz10 ?az13 ?iz13 ?lz13 ?cz13 ?kz13 ?az8 ?iz8 ?lz8 ?cz8 ?kz8 ?az6 ?iz6 ?lz6 ?cz6 ?kz6 ?dlz6 ?az9 ?iz9 ?lz9 ?cz9 ?kz9 ?dlz9 ?az11 ?iz11 ?lz11 ?cz11 ?kz11 ?az40 ?lz40 ?cz40 ?kz40 ?az38 ?lz38 ?cz38 ?kz38 ?az51 ?lz51 ?cz51 ?kz51 ?az36 ?lz36 ?cz36 ?kz36 ?az41 ?lz41 ?cz41 ?kz41 ?az49 ?lz49 ?cz49 ?kz49 ?az48 ?lz48 ?cz48 ?kz48 ?az47 ?lz47 ?cz47 ?kz47 ?az43 ?lz43 ?cz43 ?kz43 ?az50 ?lz50 ?cz50 ?kz50 ?az46 ?lz46 ?cz46 ?kz46 ?az52 ?lz52 ?cz52 ?kz52 ?az37 ?lz37 ?cz37 ?kz37 ?az42 ?lz42 ?cz42 ?kz42 ?az35 ?lz35 ?cz35 ?kz35 ?az17 ?lz17 ?cz17 ?kz17 ?az30 ?lz30 ?cz30 ?kz30 ?az21 ?lz21 ?cz21 ?kz21 ?az23 ?lz23 ?cz23 ?kz23 ?az29 ?lz29 ?cz29 ?kz29 ?az31 ?lz31 ?cz31 ?kz31 ?az27 ?lz27 ?cz27 ?kz27 ?az32 ?lz32 ?cz32 ?kz32 ?az24 ?lz24 ?cz24 ?kz24 ?az34 ?lz34 ?cz34 ?kz34 ?az18 ?lz18 ?cz18 ?kz18 ?az20 ?lz20 ?cz20 ?kz20 ?az22 ?lz22 ?cz22 ?kz22 ?az26 ?lz26 ?cz26 ?kz26 ?az28 ?lz28 ?cz28 ?kz28 ?az25 ?lz25 ?cz25 ?kz25 ?az19 ?lz19 ?cz19 ?kz19 ?az33 ?lz33 ?cz33 ?kz33 ?a_law ?l_law ?c_law ?k_law ?gl_LEAST ?gl_MOST ?gl_MOST_PIECES ?gl_LEAST_CORNERS ?gl_MOST_CORNERS ?gl_MOST_MARKS ?gl_FARTHEST ?gl_LONGEST_MOVE ?z_abs ?z_all ?z_any ?z_bool ?z_int ?z_isinstance ?z_len ?z_list ?z_max ?z_min ?z_range ?z_sorted ?z_tuple
  (case aez15=>k_is)
  (case aez2=>k_is)
  (case qez2=>k_exc)
  (case aez1=>k_is)
  (case qez1=>k_exc)
  (case aez0=>k_is)
  (case qez0=>k_exc)
  (case aez16=>k_is)
  (case qez16=>k_exc)
  (case aez14=>k_is)
  (case qez14=>k_exc)
  (case aC_Book=>k_is)
  (case pg_Book=>k_is)
  (case hd_Book=>k_is)
  (case po_Book=>k_is)
  (case sa_Book=>k_is)
  (case zadm=>k_is)
  (case kc_Book=>k_is)
  (case no_Book_size=>k_is)
  (case no_Book_pieces=>k_is)
  (case no_Book_side_marks=>k_is)
  (case no_Book_seams=>k_is)
  (case az45=>k_is)
  (case lz45=>k_is)
  (case cz45=>k_is)
  (case kz45=>k_is)
  (case az39=>k_is)
  (case lz39=>k_is)
  (case cz39=>k_is)
  (case kz39=>k_is)
  (case az44=>k_is)
  (case lz44=>k_is)
  (case cz44=>k_is)
  (case kz44=>k_is)
  (case az3=>k_is)
  (case iz3=>k_is)
  (case lz3=>k_is)
  (case cz3=>k_is)
  (case kz3=>k_is)
  (case az4=>k_is)
  (case iz4=>k_is)
  (case lz4=>k_is)
  (case cz4=>k_is)
  (case kz4=>k_is)
  (case dlz4=>k_is)
  (case az12=>k_is)
  (case iz12=>k_is)
  (case lz12=>k_is)
  (case cz12=>k_is)
  (case kz12=>k_is)
  (case az7=>k_is)
  (case iz7=>k_is)
  (case lz7=>k_is)
  (case cz7=>k_is)
  (case kz7=>k_is)
  (case az5=>k_is)
  (case iz5=>k_is)
  (case lz5=>k_is)
  (case cz5=>k_is)
  (case kz5=>k_is)
  (case az10=>k_is)
  (case iz10=>k_is)
  (case lz10=>k_is)
  (case cz10=>k_is)
  (case kz10=>k_is)
  (case az13=>k_is)
  (case iz13=>k_is)
  (case lz13=>k_is)
  (case cz13=>k_is)
  (case kz13=>k_is)
  (case az8=>k_is)
  (case iz8=>k_is)
  (case lz8=>k_is)
  (case cz8=>k_is)
  (case kz8=>k_is)
  (case az6=>k_is)
  (case iz6=>k_is)
  (case lz6=>k_is)
  (case cz6=>k_is)
  (case kz6=>k_is)
  (case dlz6=>k_is)
  (case az9=>k_is)
  (case iz9=>k_is)
  (case lz9=>k_is)
  (case cz9=>k_is)
  (case kz9=>k_is)
  (case dlz9=>k_is)
  (case az11=>k_is)
  (case iz11=>k_is)
  (case lz11=>k_is)
  (case cz11=>k_is)
  (case kz11=>k_is)
  (case az40=>k_is)
  (case lz40=>k_is)
  (case cz40=>k_is)
  (case kz40=>k_is)
  (case az38=>k_is)
  (case lz38=>k_is)
  (case cz38=>k_is)
  (case kz38=>k_is)
  (case az51=>k_is)
  (case lz51=>k_is)
  (case cz51=>k_is)
  (case kz51=>k_is)
  (case az36=>k_is)
  (case lz36=>k_is)
  (case cz36=>k_is)
  (case kz36=>k_is)
  (case az41=>k_is)
  (case lz41=>k_is)
  (case cz41=>k_is)
  (case kz41=>k_is)
  (case az49=>k_is)
  (case lz49=>k_is)
  (case cz49=>k_is)
  (case kz49=>k_is)
  (case az48=>k_is)
  (case lz48=>k_is)
  (case cz48=>k_is)
  (case kz48=>k_is)
  (case az47=>k_is)
  (case lz47=>k_is)
  (case cz47=>k_is)
  (case kz47=>k_is)
  (case az43=>k_is)
  (case lz43=>k_is)
  (case cz43=>k_is)
  (case kz43=>k_is)
  (case az50=>k_is)
  (case lz50=>k_is)
  (case cz50=>k_is)
  (case kz50=>k_is)
  (case az46=>k_is)
  (case lz46=>k_is)
  (case cz46=>k_is)
  (case kz46=>k_is)
  (case az52=>k_is)
  (case lz52=>k_is)
  (case cz52=>k_is)
  (case kz52=>k_is)
  (case az37=>k_is)
  (case lz37=>k_is)
  (case cz37=>k_is)
  (case kz37=>k_is)
  (case az42=>k_is)
  (case lz42=>k_is)
  (case cz42=>k_is)
  (case kz42=>k_is)
  (case az35=>k_is)
  (case lz35=>k_is)
  (case cz35=>k_is)
  (case kz35=>k_is)
  (case az17=>k_is)
  (case lz17=>k_is)
  (case cz17=>k_is)
  (case kz17=>k_is)
  (case az30=>k_is)
  (case lz30=>k_is)
  (case cz30=>k_is)
  (case kz30=>k_is)
  (case az21=>k_is)
  (case lz21=>k_is)
  (case cz21=>k_is)
  (case kz21=>k_is)
  (case az23=>k_is)
  (case lz23=>k_is)
  (case cz23=>k_is)
  (case kz23=>k_is)
  (case az29=>k_is)
  (case lz29=>k_is)
  (case cz29=>k_is)
  (case kz29=>k_is)
  (case az31=>k_is)
  (case lz31=>k_is)
  (case cz31=>k_is)
  (case kz31=>k_is)
  (case az27=>k_is)
  (case lz27=>k_is)
  (case cz27=>k_is)
  (case kz27=>k_is)
  (case az32=>k_is)
  (case lz32=>k_is)
  (case cz32=>k_is)
  (case kz32=>k_is)
  (case az24=>k_is)
  (case lz24=>k_is)
  (case cz24=>k_is)
  (case kz24=>k_is)
  (case az34=>k_is)
  (case lz34=>k_is)
  (case cz34=>k_is)
  (case kz34=>k_is)
  (case az18=>k_is)
  (case lz18=>k_is)
  (case cz18=>k_is)
  (case kz18=>k_is)
  (case az20=>k_is)
  (case lz20=>k_is)
  (case cz20=>k_is)
  (case kz20=>k_is)
  (case az22=>k_is)
  (case lz22=>k_is)
  (case cz22=>k_is)
  (case kz22=>k_is)
  (case az26=>k_is)
  (case lz26=>k_is)
  (case cz26=>k_is)
  (case kz26=>k_is)
  (case az28=>k_is)
  (case lz28=>k_is)
  (case cz28=>k_is)
  (case kz28=>k_is)
  (case az25=>k_is)
  (case lz25=>k_is)
  (case cz25=>k_is)
  (case kz25=>k_is)
  (case az19=>k_is)
  (case lz19=>k_is)
  (case cz19=>k_is)
  (case kz19=>k_is)
  (case az33=>k_is)
  (case lz33=>k_is)
  (case cz33=>k_is)
  (case kz33=>k_is)
  (case a_law=>k_is)
  (case l_law=>k_is)
  (case c_law=>k_is)
  (case k_law=>k_is)
  (case gl_LEAST=>k_is)
  (case gl_MOST=>k_is)
  (case gl_MOST_PIECES=>k_is)
  (case gl_LEAST_CORNERS=>k_is)
  (case gl_MOST_CORNERS=>k_is)
  (case gl_MOST_MARKS=>k_is)
  (case gl_FARTHEST=>k_is)
  (case gl_LONGEST_MOVE=>k_is)
  (case z_abs=>k_is)
  (case z_all=>k_is)
  (case z_any=>k_is)
  (case z_bool=>k_is)
  (case z_int=>k_is)
  (case z_isinstance=>k_is)
  (case z_len=>k_is)
  (case z_list=>k_is)
  (case z_max=>k_is)
  (case z_min=>k_is)
  (case z_range=>k_is)
  (case z_sorted=>k_is)
  (case z_tuple=>k_is)
end
